/-
  Plain mathematics of sums under a key; no program is spoken of here.
  The given sums under a key.
  The given NextKeys.
-/
import Derived.Test.YtpfkokjbpfaafavDoorJ08
import Derived.Test.YtpfkokjbpfaafavDoorJ11
namespace Go.Proofs.YtpfkokjbpfaafavDoor
open Go.RowKit

/-- The digest of a text. -/
def digP (s : ByteArray) : ByteArray := ⟨(endOf ⟨(bytesOf (moreState ⟨(bytesOf firstState).toArray⟩ ⟨#[]⟩ s)).toArray⟩ ⟨(moreRest ⟨#[]⟩ s).toArray⟩ s.size).toArray⟩
theorem digP_size (s : ByteArray) : (digP s).size = 32 := by
  have h0 : (wordsOf (bytesOf firstState)).length = 8 := by rw [wordsOf_bytesOf _ firstState_words]; rfl
  have h1 : (moreState ⟨(bytesOf firstState).toArray⟩ ⟨#[]⟩ s).length = 8 := eatUp_length _ _ h0 _
  have h2 : Words (moreState ⟨(bytesOf firstState).toArray⟩ ⟨#[]⟩ s) := eatUp_words _ _ (wordsOf_words _) _
  have h3 : (wordsOf (bytesOf (moreState ⟨(bytesOf firstState).toArray⟩ ⟨#[]⟩ s))).length = 8 := by rw [wordsOf_bytesOf _ h2]; exact h1
  show (bytesOf (endState _ _ _)).toArray.size = 32
  rw [List.size_toArray, bytesOf_length]
  unfold endState
  rw [eatUp_length _ _ h3]
/-- A key as it counts: a long one is its digest. -/
def keyP (k : ByteArray) : ByteArray := if 64 < k.size then digP k else k
theorem keyP_size (k : ByteArray) : (keyP k).size ≤ 64 := by
  unfold keyP
  split
  · rw [digP_size]; decide
  · omega
/-- A key, filled with zeros, each byte's exclusive or with a number: the first n bytes, then zeros. -/
def padUp (k : List UInt8) (x : UInt8) (n : Nat) : List UInt8 := (List.range n).map (fun i => k.getD i 0 ^^^ x) ++ List.replicate (64 - n) 0
def padP (k : ByteArray) (x : UInt8) : ByteArray := ⟨(padUp (keyP k).data.toList x 64).toArray⟩
theorem padUp_length (k : List UInt8) (x : UInt8) (n : Nat) (h : n ≤ 64) : (padUp k x n).length = 64 := by unfold padUp; simp; omega
theorem padP_size (k : ByteArray) (x : UInt8) : (padP k x).size = 64 := by
  show (padUp _ x 64).toArray.size = 64
  rw [List.size_toArray, padUp_length _ _ _ (Nat.le_refl _)]
theorem padUp_set (k : List UInt8) (x : UInt8) (n : Nat) (h : n < 64) : (padUp k x n).set n (k.getD n 0 ^^^ x) = padUp k x (n + 1) := by
  unfold padUp
  have e : 64 - n = (64 - (n + 1)) + 1 := by omega
  rw [e, List.replicate_succ, List.set_append_right _ _ (by simp), List.length_map, List.length_range, Nat.sub_self, List.set_cons_zero, List.range_succ, List.map_append, List.append_assoc]
  rfl
theorem padUp_at (k : List UInt8) (x : UInt8) (n : Nat) (h : n < 64) : (padUp k x n).getD n 0 = 0 := by
  unfold padUp
  rw [List.getD_eq_getElem?_getD, List.getElem?_append_right (by simp), List.length_map, List.length_range, Nat.sub_self]
  have e : 64 - n = (64 - (n + 1)) + 1 := by omega
  rw [e, List.replicate_succ]
  rfl
def macP (k s : ByteArray) : ByteArray := digP (padP k 92 ++ digP (padP k 54 ++ s))
theorem macP_size (k s : ByteArray) : (macP k s).size = 32 := digP_size _

/-- The parts of an expansion, and all of them up to one. -/
def tUp (key info : ByteArray) : Nat → ByteArray
  | 0 => ⟨#[]⟩
  | i + 1 => macP key (tUp key info i ++ info ++ ⟨#[UInt8.ofNat (i + 1)]⟩)
theorem tUp_size (key info : ByteArray) (i : Nat) : (tUp key info (i + 1)).size = 32 := macP_size _ _
theorem tUp_few (key info : ByteArray) (i : Nat) : (tUp key info i).size ≤ 32 := by
  cases i with
  | zero => show 0 ≤ 32; decide
  | succ i => rw [tUp_size]; decide
def outUp (key info : ByteArray) : Nat → List UInt8
  | 0 => []
  | i + 1 => outUp key info i ++ (tUp key info (i + 1)).data.toList
theorem outUp_length (key info : ByteArray) (i : Nat) : (outUp key info i).length = 32 * i := by
  induction i with
  | zero => rfl
  | succ i ih =>
    have h := tUp_size key info i
    have h2 : (tUp key info (i + 1)).data.toList.length = (tUp key info (i + 1)).size := by simp
    rw [outUp, List.length_append, ih, h2, h]
    omega
def expandP (key info : ByteArray) (n : Nat) : List UInt8 := (outUp key info ((n + 31) / 32)).take n
/-- A longer expansion begins with a shorter one. -/
theorem outUp_front (key info : ByteArray) (i j : Nat) : (outUp key info (i + j)).take (32 * i) = outUp key info i := by
  induction j with
  | zero => exact List.take_of_length_le (by rw [Nat.add_zero, outUp_length]; omega)
  | succ j ih =>
    show (outUp key info (i + j) ++ _).take (32 * i) = _
    rw [List.take_append_of_le_length (by rw [outUp_length]; omega)]
    exact ih
theorem expandP_front (key info : ByteArray) (n m : Nat) (h : n ≤ m) : (expandP key info m).take n = expandP key info n := by
  unfold expandP
  have e : (m + 31) / 32 = (n + 31) / 32 + ((m + 31) / 32 - (n + 31) / 32) := by omega
  rw [List.take_take, Nat.min_eq_left h, ← outUp_front key info ((n + 31) / 32) ((m + 31) / 32 - (n + 31) / 32), ← e, List.take_take, Nat.min_eq_left (by omega)]
theorem expandP_length (key info : ByteArray) (n : Nat) : (expandP key info n).length = n := by
  unfold expandP
  rw [List.length_take, outUp_length]
  omega

end Go.Proofs.YtpfkokjbpfaafavDoor
namespace Go.Proofs.YtpfkokjbpfaafavDoor
open Go.RowKit

theorem OwnB.set {w : World} {base g cap n : Nat} {e : TypeId} {xs : List UInt8} (h : OwnB w base e (.slice (some ⟨g, 0, none⟩) n cap) xs) (hn : xs.length = n) (j : Nat) (x : UInt8) :
    OwnB (w.setCell ⟨g, j, none⟩ (.int .u8 (x.toNat : Int))) base e (.slice (some ⟨g, 0, none⟩) n cap) (xs.set j x) := by
  subst hn
  have h' : w.ownsRow base e 1 (.slice (some ⟨g, 0, none⟩) xs.length cap) xs.length (Lib.byteCells xs) := h
  have := (h'.stored j (.int .u8 (x.toNat : Int))).1
  unfold OwnB
  rw [List.length_set]
  have e1 : Lib.byteCells (xs.set j x) = (Lib.byteCells xs).set j (.int .u8 (x.toNat : Int)) := by unfold Lib.byteCells; rw [List.map_set]
  rw [e1]
  exact this
theorem OwnB.free {w : World} {base g cap n : Nat} {e : TypeId} {xs : List UInt8} (h : OwnB w base e (.slice (some ⟨g, 0, none⟩) n cap) xs) (hn : xs.length = n) (j : Nat) : w.frozen? ⟨g, j, none⟩ = false := by
  subst hn
  exact World.ownsRow.frozenAt (base := base) (e := e) (size := 1) (xs := Lib.byteCells xs) (n := xs.length) (cap := cap) h j
theorem OwnB.at {w : World} {base g cap n : Nat} {e : TypeId} {xs : List UInt8} (h : OwnB w base e (.slice (some ⟨g, 0, none⟩) n cap) xs) (hn : xs.length = n) (j : Nat) (hj : j < n) : w.cell? ⟨g, j, none⟩ = some (.int .u8 ((xs.getD j 0).toNat : Nat)) := by
  subst hn
  obtain ⟨ao, c, hv, hh⟩ := h.form
  obtain ⟨g', hg', _, hc⟩ := hh (by omega)
  simp only [Value.slice.injEq] at hv
  obtain ⟨h1, _, _⟩ := hv
  rw [hg'] at h1
  simp only [Option.some.injEq, Addr.mk.injEq, and_true] at h1
  subst h1
  exact hc j hj
theorem specDigP_any (s : ByteArray) (hs : s.size ≤ 500000000) (w : World) :
    Calls Tryd.prog 6 #[.string s] w fun e w' => e = .returned (.string (digP s)) ∧ Below w.heap.size w w' := specDigestOf_any s hs w
theorem xorB (x y : UInt8) : bits .xor .u8 (x.toNat : Int) (y.toNat : Int) = ((x ^^^ y).toNat : Int) := by
  have e : ∀ x y : Fin 256, bits .xor .u8 (x.val : Int) (y.val : Int) = ((x.val ^^^ y.val : Nat) : Int) := by
    intro x y
    unfold bits
    simp only
    rw [BitVec.toNat_xor]
    have ex : ∀ z : Fin 256, (BitVec.ofInt IntKind.u8.bits (z.val : Int)).toNat = z.val := fun z => by
      rw [BitVec.toNat_ofInt]
      show ((z.val : Int) % ((2 ^ 8 : Nat) : Int)).toNat = z.val
      have := z.isLt
      omega
    rw [ex x, ex y, IntKind.wrap_u8]
    have : x.val ^^^ y.val < 256 := Nat.xor_lt_two_pow (n := 8) x.isLt y.isLt
    omega
  have := e ⟨x.toNat, x.toNat_lt⟩ ⟨y.toNat, y.toNat_lt⟩
  rw [this]
  simp

end Go.Proofs.YtpfkokjbpfaafavDoor
namespace Go.Proofs.YtpfkokjbpfaafavDoor
open Go.RowKit

/-- The keys that come next: digests of the keys with a sign behind them. -/
def nextK (s : ByteArray) : ByteArray := digP (s ++ ⟨#[107]⟩)
set_option maxRecDepth 100000 in
set_option maxHeartbeats 800000 in
theorem specNextKeys_any (a b : ByteArray) (ha : a.size ≤ 400000000) (hb : b.size ≤ 400000000) (w : World) :
    Calls Tryd.prog 4 #[.string a, .string b] w fun e w' => e = .returned (.tuple #[.string (nextK a), .string (nextK b)]) ∧ Below w.heap.size w w' := by
  have e1 : (⟨#[107]⟩ : ByteArray).size = 1 := rfl
  have H1 := Lib.hid (specDigP_any (a ++ ⟨#[107]⟩) (by rw [ByteArray.size_append, e1]; omega))
  have H2 := Lib.hid (specDigP_any (b ++ ⟨#[107]⟩) (by rw [ByteArray.size_append, e1]; omega))
  have k1 : ¬ (9223372036854775807 < a.size + 1) := by omega
  have k2 : ¬ (9223372036854775807 < b.size + 1) := by omega
  have D1 : Hid (nextK a = digP (a ++ ⟨#[107]⟩)) := Lib.hid rfl
  have D2 : Hid (nextK b = digP (b ++ ⟨#[107]⟩)) := Lib.hid rfl
  rw [← D1.out] at H1
  rw [← D2.out] at H2
  clear e1 D1 D2
  generalize nextK a = na at *
  generalize nextK b = nb at *
  go_enter Tryd.func4, Tryd.ntmps4
  go_wp2_with fail
  refine (H1.out _).mono ?_
  rintro e w1 ⟨rfl, hb1⟩
  have B1 := Lib.hid hb1
  clear hb1
  go_wp2_with fail
  refine (H2.out _).mono ?_
  rintro e w2 ⟨rfl, hb2⟩
  have B2 := Lib.hid (B1.out.trans (hb2.mono B1.out.size))
  clear hb2
  go_wp2_with fail
  go_ret2
  exact ⟨rfl, B2.out⟩

end Go.Proofs.YtpfkokjbpfaafavDoor

/-
  Plain mathematics of two texts' exclusive or; no program is spoken of here.
  Plain mathematics of masks and locked texts; no program is spoken of here.
  Bytes: their exclusive or and or as the model spells them; no program is spoken of here.
  '[]byte(t)' and '[]byte{}' written into and turned back into a text.
  The program's exclusive or of two texts.
  Whether two sums are the same: the program's, and the given one.
-/
import Derived.Test.YtoaifgblbfdncabGreatDoorJ08
import Derived.Test.YtoaifgblbfdncabGreatDoorJ09
import Derived.Test.YtoaifgblbfdncabGreatDoorJ01
import Derived.Test.YtoaifgblbfdncabGreatDoorRows
import Derived.Test.YtoaifgblbfdncabGreatDoorJ02
import Derived.Lib.ConvBytes
import Derived.Deep.RegionHeld3
import Derived.BigQuiet
import Derived.Deep.QuietTactic
import Derived.Deep.LoopGhost
import Derived.Deep.DeepCutAuto
namespace Go.Proofs.YtoaifgblbfdncabGreatDoor
open Go.RowKit

/-- Two texts' exclusive or: the first n bytes, then the first text's own. -/
def xorUp (a b : List UInt8) (n : Nat) : List UInt8 := (List.range n).map (fun i => a.getD i 0 ^^^ b.getD i 0) ++ a.drop n
theorem xorUp_length (a b : List UInt8) (n : Nat) (h : n ≤ a.length) : (xorUp a b n).length = a.length := by unfold xorUp; simp; omega
theorem xorUp_at (a b : List UInt8) (n : Nat) : (xorUp a b n).getD n 0 = a.getD n 0 := by
  unfold xorUp
  rw [List.getD_eq_getElem?_getD, List.getElem?_append_right (by simp), List.length_map, List.length_range, Nat.sub_self, List.getElem?_drop, Nat.add_zero, List.getD_eq_getElem?_getD]
theorem xorUp_set (a b : List UInt8) (n : Nat) (h : n < a.length) : (xorUp a b n).set n (a.getD n 0 ^^^ b.getD n 0) = xorUp a b (n + 1) := by
  unfold xorUp
  rw [List.set_append_right _ _ (by simp), List.length_map, List.length_range, Nat.sub_self, List.drop_eq_getElem_cons h, List.set_cons_zero, List.range_succ, List.map_append, List.append_assoc]
  rfl
theorem xorUp_pad (k : List UInt8) (x : UInt8) (h : k.length ≤ 64) : xorUp (k ++ List.replicate (64 - k.length) 0) (List.replicate 64 x) 64 = padUp k x 64 := by
  unfold xorUp padUp
  have e1 : (k ++ List.replicate (64 - k.length) 0).drop 64 = [] := by
    apply List.drop_of_length_le
    simp
    omega
  rw [e1, Nat.sub_self, List.replicate_zero, List.append_nil, List.append_nil]
  apply List.map_congr_left
  intro i hi
  have hi' : i < 64 := by simpa using hi
  have e2 : (List.replicate 64 x).getD i 0 = x := by rw [List.getD_eq_getElem?_getD, List.getElem?_replicate, if_pos hi']; rfl
  have e3 : (k ++ List.replicate (64 - k.length) 0).getD i 0 = k.getD i 0 := by
    rw [List.getD_eq_getElem?_getD, List.getD_eq_getElem?_getD]
    by_cases hk : i < k.length
    · rw [List.getElem?_append_left hk]
    · rw [List.getElem?_append_right (by omega), List.getElem?_replicate, List.getElem?_eq_none (by omega), if_pos (by omega)]
      rfl
  rw [e2, e3]

end Go.Proofs.YtoaifgblbfdncabGreatDoor
namespace Go.Proofs.YtoaifgblbfdncabGreatDoor
open Go.RowKit

/-- What goes ahead: a letter, and a number's text. -/
def aheadP (c : UInt8) (num : Nat) : ByteArray := ⟨#[c]⟩ ++ ⟨(var num).toArray⟩
/-- A number's text is short. -/
theorem var_few (n : Nat) (h : n ≤ 1000000000) : (var n).length ≤ 5 := by
  have e : ∀ k m : Nat, m < 128 ^ (k + 1) → (var m).length ≤ k + 1 := by
    intro k
    induction k with
    | zero =>
      intro m hm
      rw [var_small m (by omega)]
      exact Nat.le_refl _
    | succ k ih =>
      intro m hm
      by_cases h : m ≤ 127
      · rw [var_small m h]
        show 1 ≤ _
        omega
      · rw [var_great m (by omega), List.length_cons]
        have := ih (m / 128) (by rw [Nat.pow_succ] at hm; omega)
        omega
  exact e 4 n (by omega)
/-- The parts of a mask, and all of them up to one. -/
def maskPart (key : ByteArray) (num i : Nat) : ByteArray := macP key (aheadP 109 num ++ ⟨#[UInt8.ofNat i]⟩)
def maskUp (key : ByteArray) (num : Nat) : Nat → List UInt8
  | 0 => []
  | i + 1 => maskUp key num i ++ (maskPart key num i).data.toList
theorem maskPart_size (key : ByteArray) (num i : Nat) : (maskPart key num i).size = 32 := macP_size _ _
theorem maskUp_length (key : ByteArray) (num i : Nat) : (maskUp key num i).length = 32 * i := by
  induction i with
  | zero => rfl
  | succ i ih =>
    have h := maskPart_size key num i
    have h2 : (maskPart key num i).data.toList.length = (maskPart key num i).size := by simp
    rw [maskUp, List.length_append, ih, h2, h]
    omega
def maskP (key : ByteArray) (num n : Nat) : List UInt8 := (maskUp key num ((n + 31) / 32)).take n
theorem maskP_length (key : ByteArray) (num n : Nat) : (maskP key num n).length = n := by
  unfold maskP
  rw [List.length_take, maskUp_length]
  omega
def maskB (key : ByteArray) (num n : Nat) : ByteArray := ⟨(maskP key num n).toArray⟩
theorem maskB_size (key : ByteArray) (num n : Nat) : (maskB key num n).size = n := by
  show (maskP key num n).toArray.size = n
  rw [List.size_toArray, maskP_length]
/-- Two texts' exclusive or. -/
def xorP (a b : ByteArray) : ByteArray := ⟨(xorUp a.data.toList b.data.toList a.size).toArray⟩
/-- The mark of a locked text. -/
def tagP (key : ByteArray) (num : Nat) (x : ByteArray) : ByteArray := (macP key (aheadP 116 num ++ x)).extract 0 16
/-- What a text is opened to. -/
def openP (key : ByteArray) (num : Nat) (x : ByteArray) : ByteArray := xorP x (maskB key num x.size)
end Go.Proofs.YtoaifgblbfdncabGreatDoor
namespace Go.Proofs.YtoaifgblbfdncabGreatDoor
open Go.RowKit

theorem xor_bytes (x y : UInt8) : bits .xor .u8 (x.toNat : Int) (y.toNat : Int) = ((x ^^^ y).toNat : Int) := by
  have e : ∀ x y : Fin 256, bits .xor .u8 (x.val : Int) (y.val : Int) = ((x.val ^^^ y.val : Nat) : Int) := by
    intro x y
    unfold bits
    simp only
    rw [BitVec.toNat_xor]
    have ex : ∀ z : Fin 256, (BitVec.ofInt IntKind.u8.bits (z.val : Int)).toNat = z.val := fun z => by
      rw [BitVec.toNat_ofInt]
      show ((z.val : Int) % ((2 ^ 8 : Nat) : Int)).toNat = z.val
      have := z.isLt
      omega
    rw [ex x, ex y, IntKind.wrap_u8]
    have : x.val ^^^ y.val < 256 := Nat.xor_lt_two_pow (n := 8) x.isLt y.isLt
    omega
  have := e ⟨x.toNat, x.toNat_lt⟩ ⟨y.toNat, y.toNat_lt⟩
  rw [this]
  simp
theorem text_byte (t : ByteArray) (n : Nat) (h : n < t.size) : t[n]'h = t.data.toList.getD n 0 := by
  rw [List.getD_eq_getElem?_getD, List.getElem?_eq_getElem (by simpa using h)]
  rfl
theorem or_bytes (x y : UInt8) : bits .or .u8 (x.toNat : Int) (y.toNat : Int) = ((x ||| y).toNat : Int) := by
  have e : ∀ x y : Fin 256, bits .or .u8 (x.val : Int) (y.val : Int) = ((x.val ||| y.val : Nat) : Int) := by
    intro x y
    unfold bits
    simp only
    rw [BitVec.toNat_or]
    have ex : ∀ z : Fin 256, (BitVec.ofInt IntKind.u8.bits (z.val : Int)).toNat = z.val := fun z => by
      rw [BitVec.toNat_ofInt]
      show ((z.val : Int) % ((2 ^ 8 : Nat) : Int)).toNat = z.val
      have := z.isLt
      omega
    rw [ex x, ex y, IntKind.wrap_u8]
    have : x.val ||| y.val < 256 := Nat.or_lt_two_pow (n := 8) x.isLt y.isLt
    omega
  have := e ⟨x.toNat, x.toNat_lt⟩ ⟨y.toNat, y.toNat_lt⟩
  rw [this]
  simp

/-- What the first n bytes of two texts differ in. -/
def diffUp (a b : List UInt8) : Nat → UInt8
  | 0 => 0
  | n + 1 => diffUp a b n ||| (a.getD n 0 ^^^ b.getD n 0)
theorem diffUp_zero (a b : List UInt8) (n : Nat) : diffUp a b n = 0 ↔ ∀ i, i < n → a.getD i 0 = b.getD i 0 := by
  induction n with
  | zero => exact ⟨fun _ i hi => absurd hi (by omega), fun _ => rfl⟩
  | succ n ih =>
    show diffUp a b n ||| (a.getD n 0 ^^^ b.getD n 0) = 0 ↔ _
    rw [UInt8.or_eq_zero_iff, UInt8.xor_eq_zero_iff, ih]
    constructor
    · rintro ⟨h1, h2⟩ i hi
      rcases Nat.lt_or_ge i n with h | h
      · exact h1 i h
      · obtain rfl : i = n := by omega
        exact h2
    · intro h
      exact ⟨fun i hi => h i (by omega), h n (by omega)⟩
theorem diffUp_eq (a b : ByteArray) (h : a.size = b.size) : ((((diffUp a.data.toList b.data.toList a.size).toNat : Nat) : Int) == 0) = (a.toList == b.toList) := by
  have e : ∀ t : ByteArray, t.toList = t.data.toList := fun t => by rw [ByteArray.toList_eq]
  have hz : ((((diffUp a.data.toList b.data.toList a.size).toNat : Nat) : Int) = 0) ↔ diffUp a.data.toList b.data.toList a.size = 0 := by
    constructor
    · intro h
      apply UInt8.toNat_inj.1
      show _ = 0
      omega
    · intro h
      rw [h]
      rfl
  rw [e a, e b, Bool.eq_iff_iff, beq_iff_eq, beq_iff_eq, hz, diffUp_zero]
  constructor
  · intro hh
    apply List.ext_getElem (by simp; exact h)
    intro i h1 h2
    have := hh i (by simpa using h1)
    rw [List.getD_eq_getElem?_getD, List.getD_eq_getElem?_getD, List.getElem?_eq_getElem h1, List.getElem?_eq_getElem h2] at this
    exact this
  · intro hh i _
    rw [hh]

end Go.Proofs.YtoaifgblbfdncabGreatDoor
namespace Go.Proofs.YtoaifgblbfdncabGreatDoor
open Go.RowKit

/-- A row of bytes in block g: its cells, none of them barred. -/
structure RowB (g : Nat) (l : List UInt8) (X : World) : Prop where
  cell : ∀ j, j < l.length → X.cell? ⟨g, j, none⟩ = some (.int .u8 ((l.getD j 0).toNat : Nat))
  free : ∀ j, j < l.length → X.frozen? ⟨g, j, none⟩ = false
theorem RowB.set {g : Nat} {l : List UInt8} {X : World} (h : RowB g l X) (k : Nat) (hk : k < l.length) (b : UInt8) : RowB g (l.set k b) (X.setCell ⟨g, k, none⟩ (.int .u8 (b.toNat : Nat))) := by
  refine ⟨fun j hj => ?_, fun j hj => ?_⟩
  · rw [List.length_set] at hj
    by_cases hjk : k = j
    · subst hjk
      rw [set_on _ _ _ _ _ (h.cell k hk), List.getD_eq_getElem?_getD, List.getElem?_set_self hk]
      rfl
    · rw [set_off _ _ _ _ _ hjk, h.cell j hj, List.getD_eq_getElem?_getD, List.getD_eq_getElem?_getD, List.getElem?_set_ne hjk]
  · rw [List.length_set] at hj
    rw [World.frozen?_setCell]
    exact h.free j hj
theorem RowB.drew {g : Nat} {l : List UInt8} {X : World} (h : RowB g l X) : RowB g l X.drew := ⟨h.cell, h.free⟩
theorem RowB.back {g : Nat} {l : List UInt8} {X : World} (h : RowB g l X) (n cap : Nat) (hn : l.length = n) : (convert 94 9 (.slice (some ⟨g, 0, none⟩) n cap)).run Tryz.prog X = .ok (.string ⟨l.toArray⟩) X := by
  subst hn
  refine run_convert_bytes_back (P := Tryz.prog) X 94 9 5 ⟨g, 0, none⟩ cap l Tryz.underlying94 Tryz.underlying5 Tryz.underlying9 (fun j hj => ?_)
  have e : (⟨g, 0, none⟩ : Addr).add j = ⟨g, j, none⟩ := by unfold Addr.add; split <;> simp_all
  rw [e, h.cell j hj, List.getD_eq_getElem?_getD, List.getElem?_eq_getElem hj]
  rfl
/-- '[]byte(t)': a row of its own that holds t's bytes. -/
theorem bytes_text (w : World) (t : ByteArray) : ∃ (cp : Nat) (w' : World), (convert 9 94 (.string t)).run Tryz.prog w = .ok (.slice (some ⟨w.heap.size, 0, none⟩) t.size cp) w' ∧ Below w.heap.size w w' ∧ RowB w.heap.size t.data.toList w' := by
  have hl : t.data.toList.length = t.size := by simp
  refine ⟨_, _, Lib.run_convert_string_bytes w 9 94 5 t Tryz.underlying9 Tryz.underlying94 Tryz.underlying5, ⟨rfl, rfl, rfl, by rw [Lib.bytesWorld_size]; omega, fun k hk => Lib.bytesWorld_at_old w _ t k hk⟩, fun j hj => Lib.bytesWorld_cell w _ t j (by omega), fun j hj => ?_⟩
  have h := Lib.bytesWorld_at_new w 5 t
  have hz : t.size ≤ (Lib.bytesCells w 5 t).size := by simp [Lib.bytesCells]
  unfold World.frozen?
  rw [h]
  simp
  omega

end Go.Proofs.YtoaifgblbfdncabGreatDoor
namespace Go.Proofs.YtoaifgblbfdncabGreatDoor
open Go.RowKit

set_option maxRecDepth 100000 in
set_option maxHeartbeats 1600000 in
theorem exclusiveOr_any (t y : ByteArray) (hz : t.size ≤ 1000000000) (hy : t.size ≤ y.size) (w : World) :
    Calls Tryz.prog 70 #[.string t, .string y] w fun e w' => e = .returned (.string ⟨(xorUp t.data.toList y.data.toList t.size).toArray⟩) ∧ Below w.heap.size w w' := by
  obtain ⟨cp, w1, hcv, hb1, hr1⟩ := bytes_text w t
  have htl : t.data.toList.length = t.size := by simp
  have HB1 := Lib.hid hb1
  have HR1 := Lib.hid hr1
  clear hb1 hr1
  go_enter Tryz.func70, Tryz.ntmps70
  go_wp2_with fail
  clear hcv
  go_loopw [11] (fun i wr => ∃ n : Nat, n ≤ t.size ∧ i = .int .i64 (n : Int) ∧ RowB w.heap.size (xorUp t.data.toList y.data.toList n) wr ∧ Below w.heap.size w wr) (fun i _ => t.size - (intOf i).toNat)
  case atStart =>
    exact ⟨0, by omega, rfl, HR1.out, HB1.out⟩
  case round =>
    obtain ⟨n, hn, rfl, hrow, hnx⟩ := hrel
    have HN := Lib.hid hnx
    have hl := xorUp_length t.data.toList y.data.toList n (by omega)
    by_cases hlt : (n : Int) < (t.size : Int)
    · have c0 := hrow.cell n (by omega)
      have f0 := hrow.free n (by omega)
      rw [xorUp_at _ _ n] at c0
      obtain ⟨a, AA⟩ : ∃ b : UInt8, Hid (b = t.data.toList.getD n 0) := ⟨_, rfl⟩
      obtain ⟨b, BB⟩ : ∃ b : UInt8, Hid (b = y.data.toList.getD n 0) := ⟨_, rfl⟩
      rw [← AA.out] at c0
      have hyn : (n : Int) < (y.size : Int) := by omega
      have hnz : (n : Int) < 1000000000 := by omega
      have hb : (y[n]'(by omega)) = b := by rw [BB.out]; exact text_byte y n (by omega)
      obtain ⟨x, hx, X⟩ : ∃ x : Nat, bits .xor .u8 (a.toNat : Int) (b.toNat : Int) = (x : Int) ∧ Hid (x = (a ^^^ b).toNat) := ⟨_, xor_bytes a b, rfl⟩
      have HR : Hid (RowB w.heap.size (xorUp t.data.toList y.data.toList (n + 1)) (wr.setCell ⟨w.heap.size, n, none⟩ (.int .u8 (x : Int)))) := by
        rw [X.out, ← xorUp_set _ _ n (by omega), ← AA.out, ← BB.out]
        exact hrow.set n (by omega) (a ^^^ b)
      clear hrow hnx
      go_wp2_with fail
      go_region
      all_goals
        go_wp2_with fail
        go_roundw
        case rel => exact ⟨n + 1, by omega, by go_num, HR.out.drew, (HN.out.setCell (p := ⟨w.heap.size, n, none⟩) (Nat.le_refl _) _).drew⟩
        case measure => simp [intOf]; omega
    · have hnt : n = t.size := by omega
      subst hnt
      have hrd := hrow.back t.size cp (by omega)
      clear hrow hnx
      go_wp2_with fail
      go_ret
      exact ⟨rfl, HN.out⟩

end Go.Proofs.YtoaifgblbfdncabGreatDoor
namespace Go.Proofs.YtoaifgblbfdncabGreatDoor
open Go.RowKit

set_option maxRecDepth 100000 in
set_option maxHeartbeats 1600000 in
theorem implSameMac_any (a b : ByteArray) (hz : a.size ≤ 1000000000) (w : World) :
    Calls Tryz.prog 79 #[.string a, .string b] w fun e w' => e = .returned (.bool (a.toList == b.toList)) ∧ Below w.heap.size w w' := by
  by_cases hab : (a.size : Int) = (b.size : Int)
  · have HE := Lib.hid (diffUp_eq a b (by omega))
    generalize (a.toList == b.toList) = o at HE ⊢
    go_enter Tryz.func79, Tryz.ntmps79
    go_wp2_with fail
    go_loopw [5, 14] (fun d i wr => ∃ n : Nat, n ≤ a.size ∧ i = .int .i64 (n : Int) ∧ d = .int .u8 ((diffUp a.data.toList b.data.toList n).toNat : Nat) ∧ Below w.heap.size w wr) (fun _ i _ => a.size - (intOf i).toNat)
    case atStart =>
      exact ⟨0, by omega, rfl, rfl, Below.refl _ _⟩
    case round =>
      obtain ⟨n, hn, rfl, rfl, hnx⟩ := hrel
      have HN := Lib.hid hnx
      clear hnx
      by_cases hlt : (n : Int) < (a.size : Int)
      · obtain ⟨x, XX⟩ : ∃ x : UInt8, Hid (x = a.data.toList.getD n 0) := ⟨_, rfl⟩
        obtain ⟨y, YY⟩ : ∃ y : UInt8, Hid (y = b.data.toList.getD n 0) := ⟨_, rfl⟩
        obtain ⟨d, DD⟩ : ∃ d : UInt8, Hid (d = diffUp a.data.toList b.data.toList n) := ⟨_, rfl⟩
        have hbn : (n : Int) < (b.size : Int) := by omega
        have hnz : (n : Int) < 1000000000 := by omega
        have hx : (a[n]'(by omega)) = x := by rw [XX.out]; exact text_byte a n (by omega)
        have hy : (b[n]'(by omega)) = y := by rw [YY.out]; exact text_byte b n (by omega)
        have h1 := xor_bytes x y
        have h2 := or_bytes d (x ^^^ y)
        have HD : Hid (d ||| (x ^^^ y) = diffUp a.data.toList b.data.toList (n + 1)) := by rw [DD.out, XX.out, YY.out]; rfl
        obtain ⟨z, ZZ⟩ : ∃ z : UInt8, Hid (z = x ^^^ y) := ⟨_, rfl⟩
        obtain ⟨d2, D2⟩ : ∃ z : UInt8, Hid (z = d ||| (x ^^^ y)) := ⟨_, rfl⟩
        rw [← D2.out] at h2 HD
        rw [← ZZ.out] at h1 h2
        rw [← DD.out]
        go_wp2_with fail
        go_quiet (fail)
        go_wp2_with fail
        go_roundw
        case rel => exact ⟨n + 1, by omega, by go_num, by rw [HD.out], below_drewN HN.out _⟩
        case measure => simp [intOf]; omega
      · have hna : n = a.size := by omega
        subst hna
        have he := HE.out
        go_wp2_with fail
        go_ret
        exact ⟨rfl, HN.out⟩
  · have he : (a.toList == b.toList) = false := by
      rw [Bool.eq_false_iff]
      intro h
      have h2 := congrArg List.length (eq_of_beq h)
      rw [ByteArray.toList_eq, ByteArray.toList_eq] at h2
      simp at h2
      omega
    rw [he]
    go_enter Tryz.func79, Tryz.ntmps79
    go_wp2_with fail
    go_ret
    exact ⟨rfl, Below.refl _ _⟩

set_option maxRecDepth 100000 in
set_option maxHeartbeats 400000 in
theorem specSameMac_any (a b : ByteArray) (w : World) :
    Calls Tryz.prog 54 #[.string a, .string b] w fun e w' => e = .returned (.bool (a.toList == b.toList)) ∧ w' = w := by
  go_enter Tryz.func54, Tryz.ntmps54
  go_wp2_with fail
  go_ret
  exact ⟨rfl, rfl⟩

end Go.Proofs.YtoaifgblbfdncabGreatDoor

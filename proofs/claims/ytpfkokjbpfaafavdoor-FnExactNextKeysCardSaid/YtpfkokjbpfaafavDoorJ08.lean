/-
  Plain mathematics of digests by parts: a right hasher, whole blocks that are eaten, the last blocks; no program is spoken of here.
  The given test of a range, by what it answers.
  The given hashers: whether one is right.
  The given new hasher.
-/
import Derived.Test.YtpfkokjbpfaafavDoorJ03
import Derived.Test.YtpfkokjbpfaafavDoorRows
import Derived.Test.YtpfkokjbpfaafavDoorJ01
import Derived.Deep.RegionHeld3
import Derived.BigQuiet
import Derived.Deep.QuietTactic
import Derived.Deep.LoopGhost
import Derived.Deep.DeepCutAuto
import Derived.Test.YtpfkokjbpfaafavDoorJ07
namespace Go.Proofs.YtpfkokjbpfaafavDoor
open Go.RowKit

/-- A hasher that is right. -/
def HOk (st rest : ByteArray) (n : Int) : Prop := st.size = 32 ∧ rest.size < 64 ∧ 0 ≤ n ∧ n ≤ 1000000000 ∧ n % 64 = (rest.size : Int)

/-- Block number k of a row of bytes. -/
def blockAt (l : List UInt8) (k : Nat) : List UInt8 := (l.drop (64 * k)).take 64
theorem blockAt_length (l : List UInt8) (k : Nat) (h : 64 * k + 64 ≤ l.length) : (blockAt l k).length = 64 := by
  unfold blockAt
  rw [List.length_take, List.length_drop]
  omega
/-- The state behind so many blocks. -/
def eatUp (s0 : List Nat) (l : List UInt8) : Nat → List Nat
  | 0 => s0
  | k + 1 => roundOf (eatUp s0 l k) (blockAt l k)
theorem eatUp_length (s0 : List Nat) (l : List UInt8) (h : s0.length = 8) (k : Nat) : (eatUp s0 l k).length = 8 := by
  cases k with
  | zero => exact h
  | succ k => exact roundOf_length _ _
theorem eatUp_words (s0 : List Nat) (l : List UInt8) (h : Words s0) (k : Nat) : Words (eatUp s0 l k) := by
  cases k with
  | zero => exact h
  | succ k => exact roundOf_words _ _

/-- The last bytes: a byte 128, zeros, and eight bytes of the number of bits. -/
def zerosFor (r : Nat) : Nat := (119 - r) % 64
def beUp (n : Nat) : Nat → List UInt8
  | 0 => []
  | k + 1 => beUp n k ++ [UInt8.ofNat (n / 256 ^ (7 - k) % 256)]
theorem beUp_length (n k : Nat) : (beUp n k).length = k := by
  induction k with
  | zero => rfl
  | succ k ih => rw [beUp, List.length_append, ih]; rfl
def tailOf (rest : List UInt8) (n : Nat) : List UInt8 := rest ++ [128] ++ List.replicate (zerosFor rest.length) 0 ++ beUp (8 * n) 8
theorem tailOf_length (rest : List UInt8) (n : Nat) (h : rest.length < 64) : (tailOf rest n).length = 64 ∨ (tailOf rest n).length = 128 := by
  unfold tailOf zerosFor
  simp only [List.length_append, List.length_replicate, beUp_length, List.length_cons, List.length_nil]
  omega

/-- What more text makes of a hasher, and what a hasher tells. -/
def moreState (st rest s : ByteArray) : List Nat := eatUp (wordsOf st.data.toList) (rest.data.toList ++ s.data.toList) ((rest.size + s.size) / 64)
def moreRest (rest s : ByteArray) : List UInt8 := (rest.data.toList ++ s.data.toList).drop (64 * ((rest.size + s.size) / 64))
def endState (st rest : ByteArray) (n : Nat) : List Nat := eatUp (wordsOf st.data.toList) (tailOf rest.data.toList n) ((tailOf rest.data.toList n).length / 64)
def endOf (st rest : ByteArray) (n : Nat) : List UInt8 := bytesOf (endState st rest n)

/-- The words of bytes that are words' bytes are these. -/
theorem fourNum_four (x : Nat) (h : x < 4294967296) : fourNum (UInt8.ofNat (x / 16777216)) (UInt8.ofNat (x / 65536 % 256)) (UInt8.ofNat (x / 256 % 256)) (UInt8.ofNat (x % 256)) = x := by
  unfold fourNum
  simp only [UInt8.toNat_ofNat']
  omega
theorem wordAt_bytesOf (l : List Nat) (h : Words l) (i : Nat) (hi : i < l.length) : wordAt (bytesOf l) (4 * i) = l.getD i 0 := by
  induction l generalizing i with
  | nil => exact absurd hi (by simp)
  | cons x l ih =>
    cases i with
    | zero =>
      have hx : x < 4294967296 := h x (List.mem_cons_self ..)
      exact fourNum_four x hx
    | succ i =>
      have := ih (fun y hy => h y (List.mem_cons_of_mem _ hy)) i (by simpa using hi)
      have e : 4 * (i + 1) = 4 * i + 4 := by omega
      rw [e]
      unfold wordAt at this ⊢
      rw [bytesOf]
      have hd : ∀ j, (four x ++ bytesOf l).getD (j + 4) 0 = (bytesOf l).getD j 0 := fun j => by
        unfold four
        simp
      have e1 : 4 * i + 4 + 1 = (4 * i + 1) + 4 := by omega
      have e2 : 4 * i + 4 + 2 = (4 * i + 2) + 4 := by omega
      have e3 : 4 * i + 4 + 3 = (4 * i + 3) + 4 := by omega
      rw [e1, e2, e3, hd, hd, hd, hd, this]
      simp
theorem wordsOf_bytesOf (l : List Nat) (h : Words l) : wordsOf (bytesOf l) = l := by
  unfold wordsOf wordsUp
  rw [bytesOf_length, Nat.mul_div_cancel_left _ (by decide)]
  apply List.ext_getElem?
  intro i
  rw [List.getElem?_map]
  rcases Nat.lt_or_ge i l.length with hi | hi
  · rw [List.getElem?_range hi, Option.map_some, wordAt_bytesOf l h i hi, List.getD_eq_getElem?_getD, List.getElem?_eq_getElem hi]
    rfl
  · rw [List.getElem?_eq_none (by simpa using hi), List.getElem?_eq_none hi]
    rfl

end Go.Proofs.YtpfkokjbpfaafavDoor
namespace Go.Proofs.YtpfkokjbpfaafavDoor
open Go.RowKit

theorem inRange_yes (x a b : Int) (h0 : a ≤ x) (h1 : x ≤ b) (w : World) :
    Calls Tryd.prog 26 #[.int .i64 x, .int .i64 a, .int .i64 b] w fun e w' => e = .returned (.bool true) ∧ w' = w := by
  go_enter Tryd.func26, Tryd.ntmps26
  go_wp2
  go_ret
  exact ⟨rfl, rfl⟩

theorem inRange_no (x a b : Int) (h : x < a ∨ b < x) (w : World) :
    Calls Tryd.prog 26 #[.int .i64 x, .int .i64 a, .int .i64 b] w fun e w' => e = .returned (.bool false) ∧ w' = w := by
  by_cases hx : x < a
  · go_enter Tryd.func26, Tryd.ntmps26
    go_wp2
    go_ret
    exact ⟨rfl, rfl⟩
  · have h0 : a ≤ x := by omega
    have h1 : decide (x ≤ b) = false := decide_eq_false (by omega)
    clear h hx
    go_enter Tryd.func26, Tryd.ntmps26
    go_wp2
    go_ret
    exact ⟨rfl, rfl⟩

end Go.Proofs.YtpfkokjbpfaafavDoor
namespace Go.Proofs.YtpfkokjbpfaafavDoor
open Go.RowKit

set_option maxRecDepth 100000 in
set_option maxHeartbeats 400000 in
theorem specHasherOk_yes (st rest : ByteArray) (n : Int) (h : HOk st rest n) (w : World) :
    Calls Tryd.prog 15 #[.agg #[.string st, .string rest, .int .i64 n]] w fun e w' => e = .returned (.bool true) ∧ Below w.heap.size w w' := by
  obtain ⟨h1, h2, h3, h4, h5⟩ := h
  have a1 : ((st.size : Int) == 32) = true := by rw [h1]; rfl
  have a2 : (rest.size : Int) < 64 := by omega
  have a5 : n.tmod 64 = (rest.size : Int) := by rw [Int.tmod_eq_emod_of_nonneg h3]; exact h5
  have H1 := Lib.hid (inRange_yes n 0 1000000000 h3 h4)
  clear h1 h2 h5
  go_enter Tryd.func15, Tryd.ntmps15
  go_wp2_with fail
  refine (H1.out _).mono ?_
  rintro e w1 ⟨rfl, rfl⟩
  go_wp2_with fail
  go_ret
  exact ⟨rfl, (Below.refl _ _).alloc (Nat.le_refl _) _⟩

set_option maxRecDepth 100000 in
set_option maxHeartbeats 400000 in
theorem specHasherOk_no (st rest : ByteArray) (n : Int) (h : ¬ HOk st rest n) (w : World) :
    Calls Tryd.prog 15 #[.agg #[.string st, .string rest, .int .i64 n]] w fun e w' => e = .returned (.bool false) ∧ Below w.heap.size w w' := by
  by_cases h1 : st.size = 32
  · have a1 : ((st.size : Int) == 32) = true := by rw [h1]; rfl
    by_cases h2 : rest.size < 64
    · have a2 : (rest.size : Int) < 64 := by omega
      by_cases h3 : 0 ≤ n ∧ n ≤ 1000000000
      · have h5 : n % 64 ≠ (rest.size : Int) := fun e => h ⟨h1, h2, h3.1, h3.2, e⟩
        have a5 : (n.tmod 64 == (rest.size : Int)) = false := beq_eq_false_iff_ne.2 (by rw [Int.tmod_eq_emod_of_nonneg h3.1]; exact h5)
        have a6 : (n % 64 == (rest.size : Int)) = false := beq_eq_false_iff_ne.2 h5
        have H1 := Lib.hid (inRange_yes n 0 1000000000 h3.1 h3.2)
        have h30 := h3.1
        clear h h1 h2 h5 h3
        go_enter Tryd.func15, Tryd.ntmps15
        go_wp2_with fail
        refine (H1.out _).mono ?_
        rintro e w1 ⟨rfl, rfl⟩
        go_wp2_with fail
        go_ret
        exact ⟨rfl, (Below.refl _ _).alloc (Nat.le_refl _) _⟩
      · have H1 := Lib.hid (inRange_no n 0 1000000000 (by omega))
        clear h h1 h2 h3
        go_enter Tryd.func15, Tryd.ntmps15
        go_wp2_with fail
        refine (H1.out _).mono ?_
        rintro e w1 ⟨rfl, rfl⟩
        go_wp2_with fail
        go_ret
        exact ⟨rfl, (Below.refl _ _).alloc (Nat.le_refl _) _⟩
    · have a2 : decide ((rest.size : Int) < 64) = false := decide_eq_false (by omega)
      clear h h1 h2
      go_enter Tryd.func15, Tryd.ntmps15
      go_wp2_with fail
      go_ret
      exact ⟨rfl, (Below.refl _ _).alloc (Nat.le_refl _) _⟩
  · have a1 : ((st.size : Int) == 32) = false := beq_eq_false_iff_ne.2 (by omega)
    clear h h1
    go_enter Tryd.func15, Tryd.ntmps15
    go_wp2_with fail
    go_ret
    exact ⟨rfl, (Below.refl _ _).alloc (Nat.le_refl _) _⟩

end Go.Proofs.YtpfkokjbpfaafavDoor
namespace Go.Proofs.YtpfkokjbpfaafavDoor
open Go.RowKit

/-- A variable of three cells in a block of its own. -/
structure Var3 (r : Nat) (t : TypeId) (a b c : Value) (X : World) : Prop where
  row : X.heap[r]? = some (.cells #[a, b, c] t (0, 0))
theorem Var3.next {r : Nat} {t : TypeId} {a b c : Value} {X Y : World} (h : Var3 r t a b c X) (hb : Below X.heap.size X Y) : Var3 r t a b c Y := ⟨by rw [hb.block r (lt_of_block h.row)]; exact h.row⟩
theorem Var3.c0 {r : Nat} {t : TypeId} {a b c : Value} {X : World} (h : Var3 r t a b c X) : X.cell? ⟨r, 0, none⟩ = some a := by rw [cell_of_row X r 0 _ t (0, 0) h.row]; rfl
theorem Var3.c1 {r : Nat} {t : TypeId} {a b c : Value} {X : World} (h : Var3 r t a b c X) : X.cell? ⟨r, 1, none⟩ = some b := by rw [cell_of_row X r 1 _ t (0, 0) h.row]; rfl
theorem Var3.c2 {r : Nat} {t : TypeId} {a b c : Value} {X : World} (h : Var3 r t a b c X) : X.cell? ⟨r, 2, none⟩ = some c := by rw [cell_of_row X r 2 _ t (0, 0) h.row]; rfl
theorem Var3.free {r : Nat} {t : TypeId} {a b c : Value} {X : World} (h : Var3 r t a b c X) (j : Nat) : X.frozen? ⟨r, j, none⟩ = false := frozen_of_row X r j _ t h.row
theorem Var3.set3 {r : Nat} {t : TypeId} {a b c : Value} {X : World} (h : Var3 r t a b c X) (a' b' c' : Value) : Var3 r t a' b' c' (((X.setCell ⟨r, 0, none⟩ a').setCell ⟨r, 1, none⟩ b').setCell ⟨r, 2, none⟩ c') :=
  ⟨heap_setCell_same _ r 2 _ t c' (heap_setCell_same _ r 1 _ t b' (heap_setCell_same X r 0 _ t a' h.row))⟩
theorem Below.set3 {B r : Nat} {w X : World} (h : Below B w X) (hr : B ≤ r) (a b c : Value) : Below B w (((X.setCell ⟨r, 0, none⟩ a).setCell ⟨r, 1, none⟩ b).setCell ⟨r, 2, none⟩ c) :=
  ((h.setCell (p := ⟨r, 0, none⟩) hr a).setCell (p := ⟨r, 1, none⟩) hr b).setCell (p := ⟨r, 2, none⟩) hr c
theorem Var3.new (w : World) (t : TypeId) (a b c : Value) : Var3 w.heap.size t a b c (w.alloc (.cells #[a, b, c] t)) := ⟨heap_alloc_new w _⟩

set_option maxRecDepth 100000 in
set_option maxHeartbeats 400000 in
theorem specHasherNew_any (w : World) :
    Calls Tryd.prog 10 #[] w fun e w' => e = .returned (.agg #[.string ⟨(bytesOf firstState).toArray⟩, .string ⟨#[]⟩, .int .i64 0]) ∧ Below w.heap.size w w' := by
  have H1 := Lib.hid specFirst_any
  have V0 := Lib.hid (Var3.new w 28 (.string ⟨#[]⟩) (.string ⟨#[]⟩) (.int .i64 0))
  go_enter Tryd.func10, Tryd.ntmps10
  go_wp2_with fail
  refine (H1.out _).mono ?_
  rintro e w1 ⟨g, c, rfl, hg, hc, hb1⟩
  have H2 := Lib.hid (specBytes_any g c firstState firstState_words (by decide) w1 hc hg)
  have V1 := Lib.hid (V0.out.next hb1)
  have HB1 := Lib.hid (((Below.refl w.heap.size w).alloc (Nat.le_refl _) _).trans (hb1.mono (by simp)))
  clear hc hb1
  go_wp2_with fail
  refine (H2.out).mono ?_
  rintro e w2 ⟨rfl, hb2⟩
  have V2 := V1.out.next hb2
  have c0 := V2.c0
  have c1 := V2.c1
  have c2 := V2.c2
  have f0 := V2.free 0
  have f1 := V2.free 1
  have f2 := V2.free 2
  have HB2 := Lib.hid (HB1.out.trans (hb2.mono HB1.out.size))
  have V3 := Lib.hid (V2.set3 (.string ⟨(bytesOf firstState).toArray⟩) (.string ⟨#[]⟩) (.int .i64 0))
  clear V2 hb2
  go_wp2_with fail
  have d0 := V3.out.c0
  have d1 := V3.out.c1
  have d2 := V3.out.c2
  refine bodyPost_ret (v := .agg #[.string ⟨(bytesOf firstState).toArray⟩, .string ⟨#[]⟩, .int .i64 0]) (by simp [results, Tryd.results10, go_sem, d0, d1, d2]) rfl ⟨rfl, ?_⟩
  exact Below.set3 HB2.out (Nat.le_refl _) _ _ _

end Go.Proofs.YtpfkokjbpfaafavDoor

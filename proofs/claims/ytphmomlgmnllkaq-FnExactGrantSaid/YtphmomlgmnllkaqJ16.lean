/-
  Variables of two cells; no program is spoken of here.
  The given functions of prefixes.
  The given order of prefixes and RoutesOk.
-/
import Derived.Test.YtphmomlgmnllkaqJ01
import Derived.Test.YtphmomlgmnllkaqJ15
import Derived.Test.YtphmomlgmnllkaqJ14
import Derived.Deep.RegionHeld3
import Derived.BigQuiet
import Derived.Deep.QuietTactic
import Derived.Test.YtphmomlgmnllkaqJ11
namespace Go.Proofs.Ytphmomlgmnllkaq
open Go.RowKit

/-- A variable of two cells in a block of its own. -/
structure VarP (r : Nat) (t : TypeId) (a b : Value) (X : World) : Prop where
  row : X.heap[r]? = some (.cells #[a, b] t (0, 0))
theorem VarP.next {r : Nat} {t : TypeId} {a b : Value} {X Y : World} (h : VarP r t a b X) (hb : Below X.heap.size X Y) : VarP r t a b Y := ⟨by rw [hb.block r (lt_of_block h.row)]; exact h.row⟩
theorem VarP.drew {r : Nat} {t : TypeId} {a b : Value} {X : World} (h : VarP r t a b X) : VarP r t a b X.drew := ⟨h.row⟩
theorem VarP.c0 {r : Nat} {t : TypeId} {a b : Value} {X : World} (h : VarP r t a b X) : X.cell? ⟨r, 0, none⟩ = some a := by rw [cell_of_row X r 0 _ t (0, 0) h.row]; rfl
theorem VarP.c1 {r : Nat} {t : TypeId} {a b : Value} {X : World} (h : VarP r t a b X) : X.cell? ⟨r, 1, none⟩ = some b := by rw [cell_of_row X r 1 _ t (0, 0) h.row]; rfl
theorem VarP.free {r : Nat} {t : TypeId} {a b : Value} {X : World} (h : VarP r t a b X) (j : Nat) : X.frozen? ⟨r, j, none⟩ = false := frozen_of_row X r j _ t h.row
theorem VarP.set2 {r : Nat} {t : TypeId} {a b : Value} {X : World} (h : VarP r t a b X) (a' b' : Value) : VarP r t a' b' ((X.setCell ⟨r, 0, none⟩ a').setCell ⟨r, 1, none⟩ b') :=
  ⟨by have h1 := h.row; simp [World.setCell, Array.getElem?_modify, h1]⟩
theorem Only.set2 (w : World) (r : Nat) (v0 v1 : Value) : Only r w ((w.setCell ⟨r, 0, none⟩ v0).setCell ⟨r, 1, none⟩ v1) := (Only.setCell 0 v0).trans (Only.setCell 1 v1)
theorem VarP.set0 {r : Nat} {t : TypeId} {a b : Value} {X : World} (h : VarP r t a b X) (a' : Value) : VarP r t a' b (X.setCell ⟨r, 0, none⟩ a') := ⟨by have h1 := h.row; simp [World.setCell, Array.getElem?_modify, h1]⟩
theorem VarP.set1 {r : Nat} {t : TypeId} {a b : Value} {X : World} (h : VarP r t a b X) (b' : Value) : VarP r t a b' (X.setCell ⟨r, 1, none⟩ b') := ⟨by have h1 := h.row; simp [World.setCell, Array.getElem?_modify, h1]⟩
theorem VarP.only {r q : Nat} {t : TypeId} {a b : Value} {X Y : World} (h : VarP r t a b X) (ho : Only q X Y) (hr : r ≠ q) : VarP r t a b Y := ⟨by rw [ho.block r (lt_of_block h.row) hr]; exact h.row⟩
theorem VarP.new (w : World) (t : TypeId) (a b : Value) : VarP w.heap.size t a b (w.alloc (.cells #[a, b] t)) := ⟨heap_alloc_new w _⟩

/-- A variable of two cells that the call itself has made, and nothing below it is changed. -/
structure PV (w : World) (t : TypeId) (a b : Value) (X : World) : Prop where
  v : VarP w.heap.size t a b X
  below : Below w.heap.size w X
theorem PV.next {w : World} {t : TypeId} {a b : Value} {X Y : World} (h : PV w t a b X) (hb : Below X.heap.size X Y) : PV w t a b Y := ⟨h.v.next hb, h.below.trans (hb.mono h.below.size)⟩
theorem PV.drew {w : World} {t : TypeId} {a b : Value} {X : World} (h : PV w t a b X) : PV w t a b X.drew := ⟨h.v.drew, h.below.drew⟩
theorem PV.two {w : World} {t : TypeId} {a b : Value} {X : World} (h : PV w t a b X) : X.cell? ⟨w.heap.size, 0, none⟩ = some a ∧ X.cell? ⟨w.heap.size, 1, none⟩ = some b ∧ PV w t a b X := ⟨h.v.c0, h.v.c1, h⟩
theorem PV.new (w : World) (t : TypeId) (a b : Value) : PV w t a b (w.alloc (.cells #[a, b] t)) := ⟨VarP.new w t a b, (Below.refl _ _).alloc (Nat.le_refl _) _⟩
theorem PV.set2 {w : World} {t : TypeId} {a b : Value} {X : World} (h : PV w t a b X) (a' b' : Value) : PV w t a' b' ((X.setCell ⟨w.heap.size, 0, none⟩ a').setCell ⟨w.heap.size, 1, none⟩ b') :=
  ⟨h.v.set2 a' b', h.below.trans ((Only.set2 X w.heap.size a' b').below (Nat.le_refl _) h.below.size)⟩

end Go.Proofs.Ytphmomlgmnllkaq
namespace Go.Proofs.Ytphmomlgmnllkaq
open Go.RowKit

/-- Whether a prefix is right. -/
def PrefOk (a n : Int) : Prop := (0 ≤ a ∧ a ≤ 4294967295) ∧ (0 ≤ n ∧ n ≤ 32) ∧ a.toNat % sizeP n.toNat = 0
theorem prefOk_nat (a n : Nat) (ha : a ≤ 4294967295) (hn : n ≤ 32) (h : a % sizeP n = 0) : PrefOk a n := ⟨⟨by omega, by omega⟩, ⟨by omega, by omega⟩, h⟩
theorem PrefOk.nats {a n : Int} (h : PrefOk a n) : ∃ b m : Nat, a = b ∧ n = m ∧ b ≤ 4294967295 ∧ m ≤ 32 ∧ b % sizeP m = 0 := by
  obtain ⟨⟨h0, h1⟩, ⟨h2, h3⟩, h4⟩ := h
  exact ⟨a.toNat, n.toNat, by omega, by omega, by omega, by omega, h4⟩
abbrev PT : TypeId := 29
/-- The cells of a prefix in its variable, and what lies below as it was. -/
def InV (w : World) (a n : Int) (X : World) : Prop := X.cell? ⟨w.heap.size, 0, none⟩ = some (.int .i64 a) ∧ X.cell? ⟨w.heap.size, 1, none⟩ = some (.int .i64 n) ∧ PV w PT (.int .i64 a) (.int .i64 n) X

set_option maxRecDepth 100000 in
set_option maxHeartbeats 800000 in
theorem specPrefixOk_yes (a n : Nat) (ha : a ≤ 4294967295) (hn : n ≤ 32) (w : World) :
    Calls Try.prog 43 #[.agg #[.int .i64 a, .int .i64 n]] w fun e w' => e = .returned (.bool (((a % sizeP n : Nat) : Int) == 0)) ∧ Below w.heap.size w w' := by
  have P0 := Lib.hid (PV.new w PT (.int .i64 a) (.int .i64 n))
  have h1 := specAddrOk_yes a (by omega) (by omega)
  have h2 := inRange_yes n 0 32 (by omega) (by omega)
  have h3 := specSize_any n hn
  have hp := sizeP_pos n
  have hl := sizeP_le n
  obtain ⟨z, Z⟩ : ∃ z, Hid (z = sizeP n) := ⟨_, rfl⟩
  rw [← Z.out] at h3 hp hl ⊢
  have hz : ¬ (z = 0) := by omega
  have hm : ((a : Nat) : Int).tmod (z : Nat) = ((a % z : Nat) : Int) := by rw [Int.tmod_eq_emod_of_nonneg (by omega)]; rfl
  obtain ⟨r, R⟩ : ∃ r, Hid (r = a % z) := ⟨_, rfl⟩
  rw [← R.out] at hm ⊢
  have K1 : Hid (∀ X, InV w a n X → Calls Try.prog 59 #[.int .i64 a] X fun e Y => e = .returned (.bool true) ∧ InV w a n Y) := fun X hX => (h1 X).mono (by rintro e Y ⟨rfl, rfl⟩; exact ⟨rfl, hX⟩)
  have K2 : Hid (∀ X, InV w a n X → Calls Try.prog 21 #[.int .i64 n, .int .i64 0, .int .i64 32] X fun e Y => e = .returned (.bool true) ∧ InV w a n Y) := fun X hX => (h2 X).mono (by rintro e Y ⟨rfl, rfl⟩; exact ⟨rfl, hX⟩)
  have K3 : Hid (∀ X, InV w a n X → Calls Try.prog 46 #[.int .i64 n] X fun e Y => e = .returned (.int .i64 (z : Nat)) ∧ InV w a n Y) := fun X hX => (h3 X).mono (by rintro e Y ⟨rfl, rfl⟩; exact ⟨rfl, hX⟩)
  unfold InV at K1 K2 K3
  clear h1 h2 h3
  go_enter Try.func43, Try.ntmps43
  go_wp2_with fail
  go_region_held3 (fun X => X.cell? ⟨w.heap.size, 0, none⟩ = some (.int .i64 a) ∧ X.cell? ⟨w.heap.size, 1, none⟩ = some (.int .i64 n) ∧ PV w PT (.int .i64 a) (.int .i64 n) X) (first | (with_reducible assumption) | (with_reducible exact (PV.drew P0.out).two)) (first | (go_at_call 59; refine (K1.out _ (by assumption)).mono ?_; rintro e v1 ⟨rfl, hS⟩) | (go_at_call 21; refine (K2.out _ (by assumption)).mono ?_; rintro e v1 ⟨rfl, hS⟩) | (go_at_call 46; refine (K3.out _ (by assumption)).mono ?_; rintro e v1 ⟨rfl, hS⟩))
  all_goals
    go_wp2_with fail
    go_ret
    exact ⟨rfl, hS.2.2.below⟩

set_option maxRecDepth 100000 in
set_option maxHeartbeats 800000 in
theorem specPrefixOk_addr (a n : Int) (h : a < 0 ∨ 4294967295 < a) (w : World) :
    Calls Try.prog 43 #[.agg #[.int .i64 a, .int .i64 n]] w fun e w' => e = .returned (.bool false) ∧ Below w.heap.size w w' := by
  have P0 := Lib.hid (PV.new w PT (.int .i64 a) (.int .i64 n))
  have H1 := Lib.hid (specAddrOk_no a h)
  clear h
  go_enter Try.func43, Try.ntmps43
  go_wp2_with fail
  go_quiet ((go_at_call 59; exact Calls.quiet_of_same (H1.out _)))
  go_wp2_with fail
  go_ret
  exact ⟨rfl, below_drewN P0.out.below _⟩

set_option maxRecDepth 100000 in
set_option maxHeartbeats 800000 in
theorem specPrefixOk_len (a n : Int) (h0 : 0 ≤ a) (h1 : a ≤ 4294967295) (h : n < 0 ∨ 32 < n) (w : World) :
    Calls Try.prog 43 #[.agg #[.int .i64 a, .int .i64 n]] w fun e w' => e = .returned (.bool false) ∧ Below w.heap.size w w' := by
  have P0 := Lib.hid (PV.new w PT (.int .i64 a) (.int .i64 n))
  have H1 := Lib.hid (specAddrOk_yes a h0 h1)
  have H2 := Lib.hid (inRange_no n 0 32 h)
  clear h h0 h1
  go_enter Try.func43, Try.ntmps43
  go_wp2_with fail
  go_quiet (first | (go_at_call 59; exact Calls.quiet_of_same (H1.out _)) | (go_at_call 21; exact Calls.quiet_of_same (H2.out _)))
  go_wp2_with fail
  go_ret
  exact ⟨rfl, below_drewN P0.out.below _⟩

/-- Whether a prefix is right, told. -/
theorem specPrefixOk_right (a n : Int) (h : PrefOk a n) (w : World) :
    Calls Try.prog 43 #[.agg #[.int .i64 a, .int .i64 n]] w fun e w' => e = .returned (.bool true) ∧ Below w.heap.size w w' := by
  obtain ⟨b, m, rfl, rfl, hb, hm, hz⟩ := h.nats
  have := specPrefixOk_yes b m hb hm w
  rw [hz] at this
  exact this
theorem specPrefixOk_wrong (a n : Int) (h : ¬ PrefOk a n) (w : World) :
    Calls Try.prog 43 #[.agg #[.int .i64 a, .int .i64 n]] w fun e w' => e = .returned (.bool false) ∧ Below w.heap.size w w' := by
  by_cases h1 : a < 0 ∨ 4294967295 < a
  · exact specPrefixOk_addr a n h1 w
  · by_cases h2 : n < 0 ∨ 32 < n
    · exact specPrefixOk_len a n (by omega) (by omega) h2 w
    · obtain ⟨b, rfl⟩ := Int.eq_ofNat_of_zero_le (show 0 ≤ a by omega)
      obtain ⟨m, rfl⟩ := Int.eq_ofNat_of_zero_le (show 0 ≤ n by omega)
      have h3 : ¬ (b % sizeP m = 0) := fun e => h (prefOk_nat b m (by omega) (by omega) e)
      have e : (((b % sizeP m : Nat) : Int) == 0) = false := by rw [beq_eq_false_iff_ne]; omega
      have := specPrefixOk_yes b m (by omega) (by omega) w
      rw [e] at this
      exact this

/-- Whether an address is in a prefix. -/
def InPref (a n x : Int) : Prop := PrefOk a n ∧ (0 ≤ x ∧ x ≤ 4294967295) ∧ (firstP x.toNat n.toNat : Int) = a

set_option maxRecDepth 100000 in
set_option maxHeartbeats 800000 in
theorem specInPrefix_right (a n x : Nat) (h : PrefOk a n) (hx : x ≤ 4294967295) (w : World) :
    Calls Try.prog 60 #[.agg #[.int .i64 a, .int .i64 n], .int .i64 x] w fun e w' => e = .returned (.bool ((firstP x n : Int) == (a : Int))) ∧ Below w.heap.size w w' := by
  have P0 := Lib.hid (PV.new w PT (.int .i64 a) (.int .i64 n))
  have h1 := specPrefixOk_right a n h
  have h2 := specAddrOk_yes x (by omega) (by omega)
  have hn : n ≤ 32 := by have := h.2.1; omega
  have h3 := specSize_any n hn
  have hp := sizeP_pos n
  have hl := sizeP_le n
  have hf : firstP x n = x - x % sizeP n := rfl
  obtain ⟨z, Z⟩ : ∃ z, Hid (z = sizeP n) := ⟨_, rfl⟩
  rw [← Z.out] at h3 hp hl hf
  have hz : ¬ (z = 0) := by omega
  have hm : ((x : Nat) : Int).tmod (z : Nat) = ((x % z : Nat) : Int) := by rw [Int.tmod_eq_emod_of_nonneg (by omega)]; rfl
  have hr := Nat.mod_le x z
  obtain ⟨r, R⟩ : ∃ r, Hid (r = x % z) := ⟨_, rfl⟩
  rw [← R.out] at hm hr hf
  obtain ⟨f, F⟩ : ∃ f, Hid (f = firstP x n) := ⟨_, rfl⟩
  rw [← F.out] at hf ⊢
  have hsub : ((x : Nat) : Int) - ((r : Nat) : Int) = ((f : Nat) : Int) := by omega
  have hwr : IntKind.i64.wrap (((x : Nat) : Int) - ((r : Nat) : Int)) = ((f : Nat) : Int) := by rw [hsub, IntKind.wrap_i64]; omega
  have K1 : Hid (∀ X, InV w a n X → Calls Try.prog 43 #[.agg #[.int .i64 a, .int .i64 n]] X fun e Y => e = .returned (.bool true) ∧ InV w a n Y) := fun X hX => (h1 X).mono (by rintro e Y ⟨rfl, hb⟩; exact ⟨rfl, (hX.2.2.next hb).two⟩)
  have K2 : Hid (∀ X, InV w a n X → Calls Try.prog 59 #[.int .i64 x] X fun e Y => e = .returned (.bool true) ∧ InV w a n Y) := fun X hX => (h2 X).mono (by rintro e Y ⟨rfl, rfl⟩; exact ⟨rfl, hX⟩)
  have K3 : Hid (∀ X, InV w a n X → Calls Try.prog 46 #[.int .i64 n] X fun e Y => e = .returned (.int .i64 (z : Nat)) ∧ InV w a n Y) := fun X hX => (h3 X).mono (by rintro e Y ⟨rfl, rfl⟩; exact ⟨rfl, hX⟩)
  unfold InV at K1 K2 K3
  clear h1 h2 h3 h hf hr hl hp hsub
  go_enter Try.func60, Try.ntmps60
  go_wp2_with fail
  go_region_held3 (fun X => X.cell? ⟨w.heap.size, 0, none⟩ = some (.int .i64 a) ∧ X.cell? ⟨w.heap.size, 1, none⟩ = some (.int .i64 n) ∧ PV w PT (.int .i64 a) (.int .i64 n) X) (first | (with_reducible assumption) | (with_reducible exact (PV.drew P0.out).two)) (first | (go_at_call 43; refine (K1.out _ (by assumption)).mono ?_; rintro e v1 ⟨rfl, hS⟩) | (go_at_call 59; refine (K2.out _ (by assumption)).mono ?_; rintro e v1 ⟨rfl, hS⟩) | (go_at_call 46; refine (K3.out _ (by assumption)).mono ?_; rintro e v1 ⟨rfl, hS⟩))
  all_goals
    go_wp2_with fail
    go_ret
    exact ⟨rfl, hS.2.2.below⟩

end Go.Proofs.Ytphmomlgmnllkaq
namespace Go.Proofs.Ytphmomlgmnllkaq
open Go.RowKit

/-- Which prefix comes ahead. -/
def Ahead (a n b m : Int) : Prop := a < b ∨ (a = b ∧ n < m)
/-- Whether a route is right by itself. -/
def RtOk (r : Rt) : Prop := PrefOk r.1 r.2.1 ∧ 1 ≤ r.2.2 ∧ r.2.2 ≤ 99
def GoodAt (xs : List Rt) (j : Nat) : Prop := ∀ x, xs[j]? = some x → RtOk x ∧ ∀ y, 0 < j → xs[j - 1]? = some y → Ahead y.1 y.2.1 x.1 x.2.1
def GoodTo (xs : List Rt) (k : Nat) : Prop := ∀ j, j < k → GoodAt xs j
/-- Routes that are right. -/
def RoutesP (xs : List Rt) : Prop := GoodTo xs xs.length ∧ xs.length ≤ 12
theorem GoodTo.snoc {xs : List Rt} {k : Nat} (h : GoodTo xs k) (hk : GoodAt xs k) : GoodTo xs (k + 1) := fun j hj => by
  rcases Nat.lt_or_ge j k with h1 | h1
  · exact h j h1
  · have : j = k := by omega
    subst this
    exact hk
/-- How RoutesOk ends. -/
def RoutesEnd (xs : List Rt) (e : Ending) : Prop := (RoutesP xs ∧ e = .returned (.bool true)) ∨ (¬ RoutesP xs ∧ e = .returned (.bool false))

theorem held_next {w X Y : World} {g k : Nat} {xa xn xt : Int} (h : X.cell? ⟨g, k * 3, none⟩ = some (.int .i64 xa) ∧ X.cell? ⟨g, k * 3 + 1, none⟩ = some (.int .i64 xn) ∧ X.cell? ⟨g, k * 3 + 2, none⟩ = some (.int .i64 xt) ∧ Below w.heap.size w X) (hb : Below X.heap.size X Y) :
    Y.cell? ⟨g, k * 3, none⟩ = some (.int .i64 xa) ∧ Y.cell? ⟨g, k * 3 + 1, none⟩ = some (.int .i64 xn) ∧ Y.cell? ⟨g, k * 3 + 2, none⟩ = some (.int .i64 xt) ∧ Below w.heap.size w Y := by
  have hg : g < X.heap.size := cell_size (p := ⟨g, k * 3, none⟩) h.1
  exact ⟨by rw [hb.cell (p := ⟨g, k * 3, none⟩) hg]; exact h.1, by rw [hb.cell (p := ⟨g, k * 3 + 1, none⟩) hg]; exact h.2.1, by rw [hb.cell (p := ⟨g, k * 3 + 2, none⟩) hg]; exact h.2.2.1, h.2.2.2.trans (hb.mono h.2.2.2.size)⟩
theorem held_five {w X Y : World} {g k j : Nat} {xa xn xt ya yn : Int} (h : X.cell? ⟨g, k * 3, none⟩ = some (.int .i64 xa) ∧ X.cell? ⟨g, k * 3 + 1, none⟩ = some (.int .i64 xn) ∧ X.cell? ⟨g, k * 3 + 2, none⟩ = some (.int .i64 xt) ∧ X.cell? ⟨g, j * 3, none⟩ = some (.int .i64 ya) ∧ X.cell? ⟨g, j * 3 + 1, none⟩ = some (.int .i64 yn) ∧ Below w.heap.size w X) (hb : Below X.heap.size X Y) : Y.cell? ⟨g, k * 3, none⟩ = some (.int .i64 xa) ∧ Y.cell? ⟨g, k * 3 + 1, none⟩ = some (.int .i64 xn) ∧ Y.cell? ⟨g, k * 3 + 2, none⟩ = some (.int .i64 xt) ∧ Y.cell? ⟨g, j * 3, none⟩ = some (.int .i64 ya) ∧ Y.cell? ⟨g, j * 3 + 1, none⟩ = some (.int .i64 yn) ∧ Below w.heap.size w Y := by
  have hg : g < X.heap.size := cell_size (p := ⟨g, k * 3, none⟩) h.1
  exact ⟨by rw [hb.cell (p := ⟨g, k * 3, none⟩) hg]; exact h.1, by rw [hb.cell (p := ⟨g, k * 3 + 1, none⟩) hg]; exact h.2.1, by rw [hb.cell (p := ⟨g, k * 3 + 2, none⟩) hg]; exact h.2.2.1, by rw [hb.cell (p := ⟨g, j * 3, none⟩) hg]; exact h.2.2.2.1, by rw [hb.cell (p := ⟨g, j * 3 + 1, none⟩) hg]; exact h.2.2.2.2.1, h.2.2.2.2.2.trans (hb.mono h.2.2.2.2.2.size)⟩

end Go.Proofs.Ytphmomlgmnllkaq

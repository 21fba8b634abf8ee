/-
  cmp.Compare and cmp.Or of whole numbers.
  A heap of pointers as it lies: its variable, its row, its nodes; which function an interface's method is.
  The heap's Less and Swap.
-/
import Derived.Test.YtphmomlgmnllkaqJ03
import Derived.Test.YtphmomlgmnllkaqRows
import Derived.Test.YtphmomlgmnllkaqJ01
import Derived.Deep.RegionHeld3
import Derived.BigQuiet
import Derived.Deep.QuietTactic
import Derived.Test.YtphmomlgmnllkaqJ02
import Derived.Test.YtphmomlgmnllkaqJ07
import Derived.Handy
namespace Go.Proofs.Ytphmomlgmnllkaq
open Go.RowKit

/-- What cmp.Compare answers. -/
def cmpI (x y : Int) : Int := if x < y then -1 else if y < x then 1 else 0
/-- What cmp.Or answers of two. -/
def orI (x y : Int) : Int := if x = 0 then y else x

theorem isNaN_any (x : Int) (w : World) : Calls Try.prog 92 #[.int .i64 x] w fun e w' => e = .returned (.bool false) ∧ w' = w := by
  have h : (x != x) = false := by rw [bne_eq_false_iff_eq]
  go_enter Try.func92, Try.ntmps92
  go_wp2_with fail
  go_ret
  exact ⟨rfl, rfl⟩

theorem compare_any (x y : Int) (w : World) : Calls Try.prog 91 #[.int .i64 x, .int .i64 y] w fun e w' => e = .returned (.int .i64 (cmpI x y)) ∧ w' = w := by
  by_cases h1 : x < y
  · have h : cmpI x y = -1 := if_pos h1
    rw [h]
    clear h
    go_enter Try.func91, Try.ntmps91
    go_wp2_with (go_at_call 92; refine (isNaN_any _ _).mono ?_; rintro e w' ⟨rfl, hw⟩; rw [hw])
    go_ret
    exact ⟨rfl, rfl⟩
  · by_cases h2 : y < x
    · have h : cmpI x y = 1 := by rw [cmpI, if_neg h1, if_pos h2]
      rw [h]
      clear h
      go_enter Try.func91, Try.ntmps91
      go_wp2_with (go_at_call 92; refine (isNaN_any _ _).mono ?_; rintro e w' ⟨rfl, hw⟩; rw [hw])
      go_ret
      exact ⟨rfl, rfl⟩
    · have h : cmpI x y = 0 := by rw [cmpI, if_neg h1, if_neg h2]
      rw [h]
      clear h
      go_enter Try.func91, Try.ntmps91
      go_wp2_with (go_at_call 92; refine (isNaN_any _ _).mono ?_; rintro e w' ⟨rfl, hw⟩; rw [hw])
      go_ret
      exact ⟨rfl, rfl⟩

set_option maxRecDepth 100000 in
theorem or_any (x y : Int) (g : Nat) (w : World) (h0 : w.cell? ⟨g, 0, none⟩ = some (.int .i64 x)) (h1 : w.cell? ⟨g, 1, none⟩ = some (.int .i64 y)) :
    Calls Try.prog 90 #[.slice (some ⟨g, 0, none⟩) 2 2] w fun e w' => e = .returned (.int .i64 (orI x y)) ∧ w' = w := by
  by_cases hx : x = 0
  · have h : orI x y = y := if_pos hx
    rw [h]
    clear h
    subst hx
    by_cases hy : y = 0
    · subst hy
      go_enter Try.func90, Try.ntmps90
      go_wp2_with fail
      go_loopw [8] (fun c wr => (c = .int .i64 0 ∨ c = .int .i64 1 ∨ c = .int .i64 2) ∧ wr = w) (fun c _ => 2 - (intOf c).toNat)
      case atStart => exact ⟨.inl rfl, rfl⟩
      case round =>
        obtain ⟨hc, rfl⟩ := hrel
        rcases hc with rfl | rfl | rfl
        · go_wp2_with fail
          go_roundw
          case rel => exact ⟨.inr (.inl (by go_num)), trivial⟩
          case measure => simp [intOf]
        · go_wp2_with fail
          go_roundw
          case rel => exact ⟨.inr (.inr (by go_num)), trivial⟩
          case measure => simp [intOf]
        · go_wp2_with fail
          go_ret
          exact ⟨rfl, rfl⟩
    · have hb : (y != 0) = true := by rw [bne_iff_ne]; exact hy
      go_enter Try.func90, Try.ntmps90
      go_wp2_with fail
      go_loopw [8] (fun c wr => (c = .int .i64 0 ∨ c = .int .i64 1) ∧ wr = w) (fun c _ => 2 - (intOf c).toNat)
      case atStart => exact ⟨.inl rfl, rfl⟩
      case round =>
        obtain ⟨hc, rfl⟩ := hrel
        rcases hc with rfl | rfl
        · go_wp2_with fail
          go_roundw
          case rel => exact ⟨.inr (by go_num), trivial⟩
          case measure => simp [intOf]
        · go_wp2_with fail
          go_ret
          exact ⟨rfl, rfl⟩
  · have h : orI x y = x := if_neg hx
    rw [h]
    clear h
    have hb : (x != 0) = true := by rw [bne_iff_ne]; exact hx
    go_enter Try.func90, Try.ntmps90
    go_wp2_with fail
    go_loopw [8] (fun c wr => c = .int .i64 0 ∧ wr = w) (fun c _ => 2 - (intOf c).toNat)
    case atStart => exact ⟨rfl, rfl⟩
    case round =>
      obtain ⟨rfl, rfl⟩ := hrel
      go_wp2_with fail
      go_ret
      exact ⟨rfl, rfl⟩

theorem pair_new0 (X : World) (g : Nat) (hg : g = X.heap.size) (u0 u1 : Value) (t : TypeId) : (X.alloc (.cells #[u0, u1] t)).drew.cell? ⟨g, 0, none⟩ = some u0 := by
  subst hg
  exact cell_of_row _ _ 0 _ _ (0, 0) (heap_alloc_new X _)
theorem pair_new1 (X : World) (g : Nat) (hg : g = X.heap.size) (u0 u1 : Value) (t : TypeId) : (X.alloc (.cells #[u0, u1] t)).drew.cell? ⟨g, 1, none⟩ = some u1 := by
  subst hg
  exact cell_of_row _ _ 1 _ _ (0, 0) (heap_alloc_new X _)

end Go.Proofs.Ytphmomlgmnllkaq
namespace Go.Proofs.Ytphmomlgmnllkaq
open Go.RowKit

abbrev HpT : TypeId := 55
abbrev HqT : TypeId := 82
abbrev HnT : TypeId := 63
abbrev HoT : TypeId := 57

/-- A lease, and how many came ahead of it. -/
abbrev Hd := (Int × Int × Int) × Int
def holdA (x : Hd) : Array Value := #[.int .i64 x.1.1, .int .i64 x.1.2.1, .int .i64 x.1.2.2, .int .i64 x.2]

/-- A heap in memory: the variable b holds a slice v of pointers to the nodes ps. -/
structure HeapW (w : World) (base b : Nat) (nd : Nat → Hd) (v : Value) (ps : List Nat) : Prop where
  var : VarA b HpT #[v] w
  row : OwnR ptrRec w base HoT v ps
  node : ∀ p ∈ ps, VarA p HnT (holdA (nd p)) w
  dup : ps.Nodup
  own : ∀ p ∈ ps, base ≤ p
  vb : base ≤ b

section
variable {w w' : World} {base b : Nat} {nd : Nat → Hd} {v : Value} {ps : List Nat}

theorem HeapW.next (h : HeapW w base b nd v ps) (hb : Below w.heap.size w w') : HeapW w' base b nd v ps :=
  ⟨h.var.next hb, h.row.below hb, fun p hp => (h.node p hp).next hb, h.dup, h.own, h.vb⟩
theorem HeapW.alloc (h : HeapW w base b nd v ps) (o : Obj) : HeapW (w.alloc o) base b nd v ps := h.next ((Below.refl _ _).alloc (Nat.le_refl _) o)
theorem HeapW.drew (h : HeapW w base b nd v ps) : HeapW w.drew base b nd v ps := h.next ((Below.refl _ w).drew)
theorem HeapW.form (h : HeapW w base b nd v ps) : ∃ ao cap, v = .slice ao ps.length cap ∧ (0 < ps.length → ∃ g, ao = some ⟨g, 0, none⟩ ∧ base ≤ g ∧ g < w.heap.size ∧ ∀ i p, ps[i]? = some p → w.cell? ⟨g, i, none⟩ = some (.pointer (some ⟨p, 0, none⟩)) ∧ w.frozen? ⟨g, i, none⟩ = false) := by
  obtain ⟨ao, cap, rfl, hf⟩ := h.row.form
  refine ⟨ao, cap, rfl, fun hp => ?_⟩
  obtain ⟨g, rfl, h1, h2, h3⟩ := hf hp
  refine ⟨g, rfl, h1, h2, fun i p hi => ?_⟩
  have h4 := h3 i 0 p hi (by decide)
  have e : ptrRec.k * i + 0 = i := by show 1 * i + 0 = i; omega
  rw [e] at h4
  exact ⟨h4.1, h4.2⟩
theorem HeapW.cells (h : HeapW w base b nd v ps) {p : Nat} (hp : p ∈ ps) : w.cell? ⟨p, 0, none⟩ = some (.int .i64 (nd p).1.1) ∧ w.cell? ⟨p, 1, none⟩ = some (.int .i64 (nd p).1.2.1) ∧ w.cell? ⟨p, 2, none⟩ = some (.int .i64 (nd p).1.2.2) ∧ w.cell? ⟨p, 3, none⟩ = some (.int .i64 (nd p).2) :=
  ⟨(h.node p hp).cell 0, (h.node p hp).cell 1, (h.node p hp).cell 2, (h.node p hp).cell 3⟩
end

/-- A row and a variable of another type lie apart; so do two variables. -/
theorem OwnR.off_var {α : Type} {R : Rec α} {w : World} {base b : Nat} {e t : TypeId} {v : Value} {l : List α} {cs : Array Value} (h : OwnR R w base e v l) (hv : VarA b t cs w) (he : e ≠ t) : b ∉ blk v := by
  intro hb
  have h1 := hv.row
  unfold blk at hb
  rcases h.2 with ⟨rfl, _⟩ | ⟨g', cap, cur, rfl, _, hc, _⟩
  · simp [Value.ownBlock] at hb
  · simp [Value.ownBlock] at hb
    subst hb
    rw [hc] at h1
    injection h1 with h1
    injection h1 with _ h1
    exact he h1
theorem var_off {X : World} {b c : Nat} {T U : TypeId} {xs ys : Array Value} (h : VarA b T xs X) (k : VarA c U ys X) (hT : T ≠ U) : b ≠ c := by
  intro e
  subst e
  have := h.row.symm.trans k.row
  injection this with this
  injection this with _ this
  exact hT this
theorem VarA.chg {r : Nat} {t : TypeId} {cs : Array Value} {fp : List Nat} {X Y : World} (h : VarA r t cs X) (hc : Chg fp X Y) (hr : r ∉ fp) : VarA r t cs Y := ⟨(hc.block r h.lt hr).trans h.row⟩

/-- Changes one behind another, the second ones in what is new besides. -/
theorem Chg.then {fp fq : List Nat} {w w1 w2 : World} (h : Chg fp w w1) (k : Chg fq w1 w2) (hs : ∀ g ∈ fq, g ∈ fp ∨ w.heap.size ≤ g) : Chg fp w w2 :=
  ⟨k.os.trans h.os, k.tape.trans h.tape, k.output.trans h.output, Nat.le_trans h.size k.size, fun g hg hn => (k.block g (Nat.lt_of_lt_of_le hg h.size) (fun e => by
    rcases hs g e with h1 | h1
    · exact hn h1
    · omega)).trans (h.block g hg hn)⟩

theorem load_cell {P : Program} {t : TypeId} {a : Addr} {v : Value} {w : World} (ht : (isAgg t).run P w = .ok false w) (h : w.cell? a = some v) : (loadVar t a).run P w = .ok v w := by
  unfold loadVar
  rw [Sem.run_bind, ht]
  simp [h]
theorem meth_len (F : Nat) (a : Addr) (w : World) (v : Value) (h : w.cell? a = some v) : (method (F + 1) HqT (.pointer (some a)) "Len").run Try.prog w = .ok (87, v) w := by
  have e : (method (F + 1) HqT (.pointer (some a)) "Len").run Try.prog w = ((do let v ← loadVar HpT a; pure ((87 : FuncId), v)) : Sem (FuncId × Value)).run Try.prog w := by kernel_rfl
  rw [e, Sem.run_bind, load_cell (by kernel_rfl) h]
  rfl
theorem meth_less (F : Nat) (a : Addr) (w : World) (v : Value) (h : w.cell? a = some v) : (method (F + 1) HqT (.pointer (some a)) "Less").run Try.prog w = .ok (88, v) w := by
  have e : (method (F + 1) HqT (.pointer (some a)) "Less").run Try.prog w = ((do let v ← loadVar HpT a; pure ((88 : FuncId), v)) : Sem (FuncId × Value)).run Try.prog w := by kernel_rfl
  rw [e, Sem.run_bind, load_cell (by kernel_rfl) h]
  rfl
theorem meth_swap (F : Nat) (a : Addr) (w : World) (v : Value) (h : w.cell? a = some v) : (method (F + 1) HqT (.pointer (some a)) "Swap").run Try.prog w = .ok (89, v) w := by
  have e : (method (F + 1) HqT (.pointer (some a)) "Swap").run Try.prog w = ((do let v ← loadVar HpT a; pure ((89 : FuncId), v)) : Sem (FuncId × Value)).run Try.prog w := by kernel_rfl
  rw [e, Sem.run_bind, load_cell (by kernel_rfl) h]
  rfl

theorem len_any (ao : Option Addr) (n cap : Nat) (w : World) : Calls Try.prog 87 #[.slice ao n cap] w fun e w' => e = .returned (.int .i64 n) ∧ w' = w := by
  go_enter Try.func87, Try.ntmps87
  go_wp2_with fail
  go_ret
  exact ⟨rfl, rfl⟩

end Go.Proofs.Ytphmomlgmnllkaq
namespace Go.Proofs.Ytphmomlgmnllkaq
open Go.RowKit

theorem lt_less (a n b m : Int) (h : a = b → n = m) : decide (orI (cmpI a b) (cmpI n m) < 0) = decide (a < b) := by
  rw [Bool.eq_iff_iff, decide_eq_true_eq, decide_eq_true_eq]
  unfold orI cmpI
  by_cases h1 : a < b
  · rw [if_pos h1]
    simp [h1]
  · rw [if_neg h1]
    by_cases h2 : b < a
    · rw [if_pos h2]
      simp [h1]
    · have := h (by omega)
      rw [if_neg h2, if_pos rfl]
      subst this
      simp
      omega

/-- Two nodes behind two pointers of a row. -/
def LN (w : World) (g i j p q : Nat) (a n b m : Int) (X : World) : Prop := X.cell? ⟨g, i, none⟩ = some (.pointer (some ⟨p, 0, none⟩)) ∧ X.cell? ⟨g, j, none⟩ = some (.pointer (some ⟨q, 0, none⟩)) ∧ X.cell? ⟨p, 0, none⟩ = some (.int .i64 a) ∧ X.cell? ⟨p, 3, none⟩ = some (.int .i64 n) ∧ X.cell? ⟨q, 0, none⟩ = some (.int .i64 b) ∧ X.cell? ⟨q, 3, none⟩ = some (.int .i64 m) ∧ Below w.heap.size w X
theorem LN.next {w : World} {g i j p q : Nat} {a n b m : Int} {X Y : World} (h : LN w g i j p q a n b m X) (hb : Below X.heap.size X Y) : LN w g i j p q a n b m Y := by
  obtain ⟨h0, h1, h2, h3, h4, h5, h6⟩ := h
  have k0 : g < X.heap.size := cell_size (p := ⟨g, i, none⟩) h0
  have k2 : p < X.heap.size := cell_size (p := ⟨p, 0, none⟩) h2
  have k4 : q < X.heap.size := cell_size (p := ⟨q, 0, none⟩) h4
  exact ⟨by rw [hb.cell (p := ⟨g, i, none⟩) k0]; exact h0, by rw [hb.cell (p := ⟨g, j, none⟩) k0]; exact h1, by rw [hb.cell (p := ⟨p, 0, none⟩) k2]; exact h2, by rw [hb.cell (p := ⟨p, 3, none⟩) k2]; exact h3, by rw [hb.cell (p := ⟨q, 0, none⟩) k4]; exact h4, by rw [hb.cell (p := ⟨q, 3, none⟩) k4]; exact h5, h6.trans (hb.mono h6.size)⟩
theorem LN.below {w : World} {g i j p q : Nat} {a n b m : Int} {X : World} (h : LN w g i j p q a n b m X) : Below w.heap.size w X := by
  obtain ⟨_, _, _, _, _, _, h⟩ := h
  exact h
theorem LN.drew {w : World} {g i j p q : Nat} {a n b m : Int} {X : World} (h : LN w g i j p q a n b m X) : LN w g i j p q a n b m X.drew := h.next ((Below.refl _ X).drew)
theorem LN.alloc {w : World} {g i j p q : Nat} {a n b m : Int} {X : World} (h : LN w g i j p q a n b m X) (o : Obj) : LN w g i j p q a n b m (X.alloc o) := h.next ((Below.refl _ X).alloc (Nat.le_refl _) o)

set_option maxRecDepth 100000 in
set_option maxHeartbeats 1600000 in
theorem less_at (g i j p q len cap : Nat) (a n b m : Int) (w : World) (hi : i < len) (hj : j < len) (V : LN w g i j p q a n b m w) (hne : a = b → n = m) :
    Calls Try.prog 88 #[.slice (some ⟨g, 0, none⟩) len cap, .int .i64 i, .int .i64 j] w fun e w' => e = .returned (.bool (decide (a < b))) ∧ Below w.heap.size w w' := by
  have HE := Lib.hid (lt_less a n b m hne)
  have V0 := Lib.hid V
  have i0 : (0 : Int) ≤ (i : Int) := by omega
  have j0 : (0 : Int) ≤ (j : Int) := by omega
  have i1 : (i : Int) < (len : Int) := by omega
  have j1 : (j : Int) < (len : Int) := by omega
  clear V hne
  go_enter Try.func88, Try.ntmps88
  go_wp2_with fail
  go_region_held3 (fun X => X.cell? ⟨g, i, none⟩ = some (.pointer (some ⟨p, 0, none⟩)) ∧ X.cell? ⟨g, j, none⟩ = some (.pointer (some ⟨q, 0, none⟩)) ∧ X.cell? ⟨p, 0, none⟩ = some (.int .i64 a) ∧ X.cell? ⟨p, 3, none⟩ = some (.int .i64 n) ∧ X.cell? ⟨q, 0, none⟩ = some (.int .i64 b) ∧ X.cell? ⟨q, 3, none⟩ = some (.int .i64 m) ∧ Below w.heap.size w X) (first | (with_reducible assumption) | (with_reducible exact V0.out.drew) | (exact LN.drew (by assumption)) | (exact LN.alloc (by assumption) _) | (exact LN.drew (LN.alloc (by assumption) _))) (first | (go_at_call 91; refine (compare_any _ _ _).mono ?_; rintro e v1 ⟨rfl, hw⟩; rw [hw]) | (go_at_call 90; refine (or_any (cmpI a b) (cmpI n m) _ _ (pair_new0 _ _ (by simp) _ _ _) (pair_new1 _ _ (by simp) _ _ _)).mono ?_; rintro e v1 ⟨rfl, hw⟩; rw [hw]))
  all_goals
    go_wp2_with fail
    go_ret
    rw [← HE.out]
    exact ⟨rfl, (LN.drew (LN.alloc V0.out _)).below⟩

theorem less_any {base b : Nat} {nd : Nat → Hd} {v : Value} {ps : List Nat} {w : World} (H : HeapW w base b nd v ps) (i j p q : Nat) (hi : ps[i]? = some p) (hj : ps[j]? = some q) (hne : (nd p).1.1 = (nd q).1.1 → p = q) :
    Calls Try.prog 88 #[v, .int .i64 i, .int .i64 j] w fun e w' => e = .returned (.bool (decide ((nd p).1.1 < (nd q).1.1))) ∧ Below w.heap.size w w' := by
  obtain ⟨ao, cap, rfl, hf⟩ := H.form
  have li := (List.getElem?_eq_some_iff.1 hi).1
  have lj := (List.getElem?_eq_some_iff.1 hj).1
  obtain ⟨g, rfl, _, _, hc⟩ := hf (by omega)
  obtain ⟨c0, _, _, c3⟩ := H.cells (List.mem_of_getElem? hi)
  obtain ⟨d0, _, _, d3⟩ := H.cells (List.mem_of_getElem? hj)
  exact less_at g i j p q ps.length cap _ _ _ _ w li lj ⟨(hc i p hi).1, (hc j q hj).1, c0, c3, d0, d3, Below.refl _ _⟩ (fun e => by rw [hne e])

theorem HeapW.swapped {base b g cap : Nat} {nd : Nat → Hd} {ps : List Nat} {w : World} (H : HeapW w base b nd (.slice (some ⟨g, 0, none⟩) ps.length cap) ps) {i j p q : Nat} (hi : ps[i]? = some p) (hj : ps[j]? = some q) :
    HeapW ((w.setCell ⟨g, i, none⟩ (.pointer (some ⟨q, 0, none⟩))).setCell ⟨g, j, none⟩ (.pointer (some ⟨p, 0, none⟩))) base b nd (.slice (some ⟨g, 0, none⟩) ps.length cap) (swapL ps i j) ∧ Chg [g] w ((w.setCell ⟨g, i, none⟩ (.pointer (some ⟨q, 0, none⟩))).setCell ⟨g, j, none⟩ (.pointer (some ⟨p, 0, none⟩))) := by
  have li := (List.getElem?_eq_some_iff.1 hi).1
  have lj := (List.getElem?_eq_some_iff.1 hj).1
  have ei : ps.getD i 0 = p := by rw [List.getD_eq_getElem?_getD, hi]; rfl
  have ej : ps.getD j 0 = q := by rw [List.getD_eq_getElem?_getD, hj]; rfl
  have hc : Chg [g] w ((w.setCell ⟨g, i, none⟩ (.pointer (some ⟨q, 0, none⟩))).setCell ⟨g, j, none⟩ (.pointer (some ⟨p, 0, none⟩))) := (Chg.cell w g i _).trans (Chg.cell _ g j _)
  have h1 := (H.row.put i q li).1
  have e1 : ptrRec.k * i = i := by show 1 * i = i; omega
  have e2 : ptrRec.k * j = j := by show 1 * j = j; omega
  rw [e1] at h1
  have e3 : ps.length = (ps.set i q).length := by simp
  rw [e3] at h1
  have h2 := (h1.put j p (by simpa using lj)).1
  rw [e2] at h2
  have e4 : (ps.set i q).set j p = swapL ps i j := by unfold swapL; rw [ei, ej]
  rw [e4] at h2
  rw [← e3] at h2
  have hg : ∀ {r : Nat} {t : TypeId} {cs : Array Value}, VarA r t cs w → HoT ≠ t → r ∉ [g] := fun hv ht => H.row.off_var hv ht
  exact ⟨⟨H.var.chg hc (hg H.var (by decide)), h2, fun x hx => by
    have hx' := (swapL_mem ps li lj x).1 hx
    exact (H.node x hx').chg hc (hg (H.node x hx') (by decide)), swapL_nodup li lj H.dup, fun x hx => H.own x ((swapL_mem ps li lj x).1 hx), H.vb⟩, hc⟩

set_option maxRecDepth 100000 in
set_option maxHeartbeats 1600000 in
theorem swap_at (g i j p q len cap : Nat) (w : World) (hi : i < len) (hj : j < len) (c0 : w.cell? ⟨g, i, none⟩ = some (.pointer (some ⟨p, 0, none⟩))) (c1 : w.cell? ⟨g, j, none⟩ = some (.pointer (some ⟨q, 0, none⟩))) (f0 : w.frozen? ⟨g, i, none⟩ = false) (f1 : w.frozen? ⟨g, j, none⟩ = false) :
    Calls Try.prog 89 #[.slice (some ⟨g, 0, none⟩) len cap, .int .i64 i, .int .i64 j] w fun e w' => e = .returned (.tuple #[]) ∧ w' = ((w.setCell ⟨g, i, none⟩ (.pointer (some ⟨q, 0, none⟩))).setCell ⟨g, j, none⟩ (.pointer (some ⟨p, 0, none⟩))).drew := by
  have i0 : (0 : Int) ≤ (i : Int) := by omega
  have j0 : (0 : Int) ≤ (j : Int) := by omega
  have i1 : (i : Int) < (len : Int) := by omega
  have j1 : (j : Int) < (len : Int) := by omega
  have c2 : (w.setCell ⟨g, i, none⟩ (.pointer (some ⟨q, 0, none⟩))).cell? ⟨g, j, none⟩ = some (.pointer (some ⟨q, 0, none⟩)) := by
    by_cases h : i = j
    · subst h
      exact set_on w g i _ _ c0
    · rw [set_off w g i j _ h]
      exact c1
  go_enter Try.func89, Try.ntmps89
  go_wp2_with fail
  go_region
  all_goals
    go_wp2_with fail
    refine bodyPost_end (results_none rfl _ _ _) rfl ?_
    exact ⟨rfl, rfl⟩

theorem swap_any {base b : Nat} {nd : Nat → Hd} {v : Value} {ps : List Nat} {w : World} (H : HeapW w base b nd v ps) (i j : Nat) (hi : i < ps.length) (hj : j < ps.length) :
    Calls Try.prog 89 #[v, .int .i64 i, .int .i64 j] w fun e w' => e = .returned (.tuple #[]) ∧ HeapW w' base b nd v (swapL ps i j) ∧ Chg (blk v) w w' := by
  obtain ⟨ao, cap, rfl, hf⟩ := H.form
  obtain ⟨g, rfl, _, _, hc⟩ := hf (by omega)
  have gi := List.getElem?_eq_getElem hi
  have gj := List.getElem?_eq_getElem hj
  have h2 := H.swapped gi gj
  refine (swap_at g i j ps[i] ps[j] ps.length cap w hi hj (hc i _ gi).1 (hc j _ gj).1 (hc i _ gi).2 (hc j _ gj).2).mono ?_
  rintro e w' ⟨rfl, rfl⟩
  exact ⟨rfl, h2.1.drew, h2.2.trans (Below.chg ((Below.refl _ _).drew) _)⟩

end Go.Proofs.Ytphmomlgmnllkaq

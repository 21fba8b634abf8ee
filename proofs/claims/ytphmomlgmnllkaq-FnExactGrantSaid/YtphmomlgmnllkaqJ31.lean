/-
  Rows of ints of the call's own; no program is spoken of here.
  The given Expire.
  Right pools: what is taken out of one, and what is granted, keeps it right; no program is spoken of here.
-/
import Derived.Test.YtphmomlgmnllkaqJ06
import Derived.Test.YtphmomlgmnllkaqRows
import Derived.Test.YtphmomlgmnllkaqJ28
import Derived.Test.YtphmomlgmnllkaqJ30
namespace Go.Proofs.Ytphmomlgmnllkaq
open Go.RowKit

def layIntS : Lay (List Int) := .rows 3 .int
theorem int_own {w : World} {b : Nat} {f : List Nat} {cs : List Value} {x : Int} : Lay.int.own w b f cs x ↔ f = [] ∧ cs = [.int .i64 x] := Iff.rfl
theorem int_rd {w : World} {cs : List Value} {x : Int} : Lay.int.rd w cs x ↔ cs = [.int .i64 x] := Iff.rfl
theorem zeroInt_none (w : World) (b : Nat) (f : List Nat) (c : List Value) (h : Lay.int.own w b f c 0) : f = [] := h.1
theorem infoInt : (Try.prog.info? 3).map (fun i => (i.zero, i.size, i.bytes)) = some (some (.int .i64 0), 1, 8) := by kernel_rfl
/-- One number of a row that can be read. -/
theorem ints_get {w : World} {v : Value} {xs : List Int} (h : layIntS.rd w [v] xs) (m : Nat) (hm : m < xs.length) : ∃ g off cap, v = .slice (some ⟨g, off, none⟩) xs.length cap ∧ g < w.heap.size ∧ w.cell? ⟨g, off + m, none⟩ = some (.int .i64 xs[m]) := by
  obtain ⟨a, cap, rfl⟩ := rows_form h
  obtain ⟨g, off, c, rfl, hg, hr, hc⟩ := rows_elem h m _ (List.getElem?_eq_getElem hm)
  rw [int_rd] at hr
  subst hr
  refine ⟨g, off, cap, rfl, hg, ?_⟩
  have := hc 0 _ rfl
  rw [show Lay.int.k = 1 from rfl, Nat.mul_one] at this
  exact this
/-- One number of a row is read and written. -/
theorem ints_put {w : World} {b : Nat} {fp : List Nat} {v : Value} {xs : List Int} (h : layIntS.own w b fp [v] xs) (hd : fp.Nodup) (m : Nat) (hm : m < xs.length) (y : Int) :
    ∃ g cap, v = .slice (some ⟨g, 0, none⟩) xs.length cap ∧ b ≤ g ∧ g < w.heap.size ∧ g ∈ fp ∧ w.cell? ⟨g, m, none⟩ = some (.int .i64 xs[m]) ∧ w.frozen? ⟨g, m, none⟩ = false ∧
      layIntS.own (w.setCell ⟨g, m, none⟩ (.int .i64 y)) b fp [v] (xs.set m y) ∧ Chg fp w (w.setCell ⟨g, m, none⟩ (.int .i64 y)) := by
  have e : xs = xs.take m ++ xs[m] :: xs.drop (m + 1) := by rw [List.getElem_cons_drop, List.take_append_drop]
  have es : xs.set m y = xs.take m ++ y :: xs.drop (m + 1) := by rw [List.set_eq_take_append_cons_drop, if_pos hm]
  have hl : (xs.take m ++ xs[m] :: xs.drop (m + 1)).length = xs.length := by rw [← e]
  have h2 := h
  rw [e] at h2
  obtain ⟨g, cap, f1, f2, f3, u1, c, u3, hv, rfl, Z⟩ := rows_open h2 hd
  rw [hl] at hv
  obtain ⟨rfl, rfl⟩ := int_own.1 Z.mid
  have hml : (xs.take m).length = m := by rw [List.length_take]; omega
  have hc := Z.cell 0 _ rfl
  rw [show Lay.int.k = 1 from rfl, Nat.mul_one, hml] at hc
  have hs := Z.store [.int .i64 y] 0 (by simp) [] y (int_own.2 ⟨rfl, rfl⟩) Z.dup
  rw [show Lay.int.k = 1 from rfl, Nat.mul_one, hml] at hs
  refine ⟨g, cap, hv, Z.lt.1, Z.lt.2, by simp, hc.1, hc.2, ?_, hs.2.sub (by simp)⟩
  have h3 := hs.1.shut
  have e4 : (xs.take m ++ y :: xs.drop (m + 1)).length = xs.length := by rw [← es, List.length_set]
  rw [e4] at h3
  rw [es, hv]
  exact h3

end Go.Proofs.Ytphmomlgmnllkaq
namespace Go.Proofs.Ytphmomlgmnllkaq
open Go.RowKit

theorem flatInt : Flat Lay.int := ⟨fun _ _ _ _ h => int_own.2 ⟨rfl, int_rd.1 h⟩, fun _ _ _ _ _ h => (int_own.1 h).1, fun _ _ _ _ h => int_rd.2 (int_rd.1 h)⟩
abbrev IntT : TypeId := 3
/-- Who stays, who goes. -/
def keepL (now : Int) (l : Ls) : Bool := decide (now < l.2.2)
def keptP (now : Int) (ls : List Ls) : List Ls := ls.filter (keepL now)
def goneP (now : Int) (ls : List Ls) : List Int := (ls.filter fun l => !keepL now l).map fun l => l.2.1
theorem kept_take (now : Int) (ls : List Ls) (j : Nat) (h : j < ls.length) : keptP now (ls.take (j + 1)) = keptP now (ls.take j) ++ if keepL now ls[j] then [ls[j]] else [] := filter_take _ ls j h
theorem gone_take (now : Int) (ls : List Ls) (j : Nat) (h : j < ls.length) : goneP now (ls.take (j + 1)) = goneP now (ls.take j) ++ if keepL now ls[j] then [] else [ls[j].2.1] := by
  unfold goneP
  rw [filter_take _ ls j h, List.map_append]
  cases keepL now ls[j] <;> rfl
theorem kept_len (now : Int) (ls : List Ls) : (keptP now ls).length ≤ ls.length := List.length_filter_le _ _
theorem gone_len (now : Int) (ls : List Ls) : (goneP now ls).length ≤ ls.length := by unfold goneP; rw [List.length_map]; exact List.length_filter_le _ _

/-- How Expire ends. -/
def ExpGives (pa pn : Int) (ls : List Ls) (fs : List Fx) (now : Int) (w : World) (e : Ending) (w' : World) : Prop :=
  ∃ (g gc k kc u uc : Nat), e = .returned (.tuple #[.agg #[.int .i64 pa, .int .i64 pn, .slice (some ⟨g, 0, none⟩) (keptP now ls).length gc, .slice (some ⟨k, 0, none⟩) fs.length kc], .slice (some ⟨u, 0, none⟩) (goneP now ls).length uc]) ∧ layLeaseS.own w' w.heap.size [g] [.slice (some ⟨g, 0, none⟩) (keptP now ls).length gc] (keptP now ls) ∧ layFixedS.own w' w.heap.size [k] [.slice (some ⟨k, 0, none⟩) fs.length kc] fs ∧ layIntS.own w' w.heap.size [u] [.slice (some ⟨u, 0, none⟩) (goneP now ls).length uc] (goneP now ls) ∧ Below w.heap.size w w'
/-- The copy goes into the result. -/
theorem exp_out {w X : World} {pa pn now : Int} {ls : List Ls} {fs : List Fx} {m mc k kc u uc : Nat} (hb : Below w.heap.size w X) (hr : VarA (w.heap.size + 1) PoolT #[.int .i64 0, .int .i64 0, .slice none 0 0, .slice none 0 0] X) (ho : layLeaseS.own X w.heap.size [m] [.slice (some ⟨m, 0, none⟩) (keptP now ls).length mc] (keptP now ls)) (hf : layFixedS.own X w.heap.size [k] [.slice (some ⟨k, 0, none⟩) fs.length kc] fs) (hu : layIntS.own X w.heap.size [u] [.slice (some ⟨u, 0, none⟩) (goneP now ls).length uc] (goneP now ls)) :
    ExpGives pa pn ls fs now w (.returned (.tuple #[.agg #[.int .i64 pa, .int .i64 pn, .slice (some ⟨m, 0, none⟩) (keptP now ls).length mc, .slice (some ⟨k, 0, none⟩) fs.length kc], .slice (some ⟨u, 0, none⟩) (goneP now ls).length uc])) ((((X.setCell ⟨w.heap.size + 1, 0, none⟩ (.int .i64 pa)).setCell ⟨w.heap.size + 1, 1, none⟩ (.int .i64 pn)).setCell ⟨w.heap.size + 1, 2, none⟩ (.slice (some ⟨m, 0, none⟩) (keptP now ls).length mc)).setCell ⟨w.heap.size + 1, 3, none⟩ (.slice (some ⟨k, 0, none⟩) fs.length kc)) := by
  have CS := chg_four X (w.heap.size + 1) (.int .i64 pa) (.int .i64 pn) (.slice (some ⟨m, 0, none⟩) (keptP now ls).length mc) (.slice (some ⟨k, 0, none⟩) fs.length kc)
  have h1 := row_off flatLease ho hr (by decide)
  have h2 := row_off flatFixed hf hr (by decide)
  have h3 := row_off flatInt hu hr (by decide)
  exact ⟨m, mc, k, kc, u, uc, rfl, layLeaseS.chg ho CS (fun j hj hj2 => by rw [List.mem_singleton] at hj2; subst hj2; exact h1 hj), layFixedS.chg hf CS (fun j hj hj2 => by rw [List.mem_singleton] at hj2; subst hj2; exact h2 hj), layIntS.chg hu CS (fun j hj hj2 => by rw [List.mem_singleton] at hj2; subst hj2; exact h3 hj), hb.trans (CS.below (fun j hj => by rw [List.mem_singleton] at hj; omega) hb.size)⟩

end Go.Proofs.Ytphmomlgmnllkaq
namespace Go.Proofs.Ytphmomlgmnllkaq

/-- What is asked of one lease alone. -/
def LeaseIn (pa pn : Int) (fs : List Fx) (l : Ls) : Prop := insideP pa pn l.1 = true ∧ (1 ≤ l.2.1 ∧ l.2.1 ≤ 99) ∧ (0 ≤ l.2.2 ∧ l.2.2 ≤ 1000000000) ∧ (fixedP fs l.1 = 0 ∨ fixedP fs l.1 = l.2.1)
/-- Leases that are right, by pairs. -/
def LeasesR (pa pn : Int) (ls : List Ls) (fs : List Fx) : Prop := (∀ l ∈ ls, LeaseIn pa pn fs l) ∧ ls.Pairwise (fun x y => x.1 < y.1) ∧ ls.Pairwise (fun x y => x.2.1 ≠ y.2.1)

theorem up_of_next (ls : List Ls) (h : ∀ i l, ls[i]? = some l → ∀ g, 0 < i → ls[i - 1]? = some g → g.1 < l.1) : ∀ (j i : Nat) (x y : Ls), i < j → ls[i]? = some x → ls[j]? = some y → x.1 < y.1 := by
  intro j
  induction j with
  | zero => intro i x y hij; omega
  | succ j ih =>
    intro i x y hij hx hy
    have hj : j < ls.length := by have := (List.getElem?_eq_some_iff.1 hy).1; omega
    have hz : ls[j]? = some ls[j] := List.getElem?_eq_getElem hj
    have h1 := h (j + 1) y hy ls[j] (by omega) hz
    rcases Nat.lt_or_ge i j with h2 | h2
    · have := ih i x ls[j] h2 hx hz
      omega
    · have : i = j := by omega
      subst this
      rw [hz] at hx
      cases hx
      exact h1
theorem pair_of_at {α : Type} (R : α → α → Prop) (xs : List α) (h : ∀ (j i : Nat) (x y : α), i < j → xs[i]? = some x → xs[j]? = some y → R x y) : xs.Pairwise R := by
  rw [List.pairwise_iff_getElem]
  intro i j hi hj hij
  exact h j i _ _ hij (List.getElem?_eq_getElem hi) (List.getElem?_eq_getElem hj)
theorem at_of_pair {α : Type} (R : α → α → Prop) (xs : List α) (h : xs.Pairwise R) (j i : Nat) (x y : α) (hij : i < j) (hx : xs[i]? = some x) (hy : xs[j]? = some y) : R x y := by
  obtain ⟨hi, rfl⟩ := List.getElem?_eq_some_iff.1 hx
  obtain ⟨hj, rfl⟩ := List.getElem?_eq_some_iff.1 hy
  exact List.pairwise_iff_getElem.1 h i j hi hj hij
theorem leases_iff (pa pn : Int) (ls : List Ls) (fs : List Fx) : (∀ i l, ls[i]? = some l → LeaseOk pa pn ls fs i l) ↔ LeasesR pa pn ls fs := by
  constructor
  · intro h
    refine ⟨fun l hl => ?_, pair_of_at _ _ (up_of_next ls fun i l hl => (h i l hl).2.2.2.1), pair_of_at _ _ fun j i x y hij hx hy => (h j y hy).2.2.2.2.2 i hij x hx⟩
    obtain ⟨i, hi⟩ := List.mem_iff_getElem?.1 hl
    obtain ⟨h1, h2, h3, _, h5, _⟩ := h i l hi
    exact ⟨h1, h2, h3, h5⟩
  · rintro ⟨h1, h2, h3⟩ i l hl
    obtain ⟨k1, k2, k3, k4⟩ := h1 l (List.mem_of_getElem? hl)
    exact ⟨k1, k2, k3, fun g hi hg => at_of_pair _ _ h2 i (i - 1) g l (by omega) hg hl, k4, fun j hj x hx => at_of_pair _ _ h3 i j x l hj hx hl⟩
theorem LeasesR.sub {pa pn : Int} {ls rs : List Ls} {fs : List Fx} (h : LeasesR pa pn ls fs) (hs : rs.Sublist ls) : LeasesR pa pn rs fs := ⟨fun l hl => h.1 l (hs.subset hl), h.2.1.sublist hs, h.2.2.sublist hs⟩
theorem PoolOkP.leases {pa pn : Int} {ls : List Ls} {fs : List Fx} (h : PoolOkP pa pn ls fs) : LeasesR pa pn ls fs := (leases_iff pa pn ls fs).1 h.2.2
theorem PoolOkP.with {pa pn : Int} {ls rs : List Ls} {fs : List Fx} (h : PoolOkP pa pn ls fs) (hl : rs.length ≤ 6) (hr : LeasesR pa pn rs fs) : PoolOkP pa pn rs fs := ⟨⟨h.1.1, h.1.2.1, h.1.2.2.1, hl, h.1.2.2.2.2⟩, h.2.1, (leases_iff pa pn rs fs).2 hr⟩
theorem PoolOkP.sub {pa pn : Int} {ls rs : List Ls} {fs : List Fx} (h : PoolOkP pa pn ls fs) (hs : rs.Sublist ls) : PoolOkP pa pn rs fs := h.with (Nat.le_trans hs.length_le h.1.2.2.2.1) (h.leases.sub hs)
/-- What is released, what is over: the rest is right. -/
theorem PoolOkP.filter {pa pn : Int} {ls : List Ls} {fs : List Fx} (h : PoolOkP pa pn ls fs) (p : Ls → Bool) : PoolOkP pa pn (ls.filter p) fs := h.sub List.filter_sublist
theorem PoolOkP.kept {pa pn : Int} {ls : List Ls} {fs : List Fx} (h : PoolOkP pa pn ls fs) (now : Int) : PoolOkP pa pn (keptP now ls) fs := h.filter _
theorem RelTold.right {pa pn : Int} {ls rs : List Ls} {fs : List Fx} {who : Int} {b : Bool} (ht : RelTold pa pn ls fs who rs b) (h : PoolOkP pa pn ls fs) : PoolOkP pa pn rs fs := by
  rcases ht with ⟨_, _, rfl⟩ | ⟨_, rfl, _⟩
  · exact h.filter _
  · exact h

/-- Who holds an address of right leases. -/
theorem holder_mem {pa pn : Int} {ls : List Ls} {fs : List Fx} (h : LeasesR pa pn ls fs) (l : Ls) (hl : l ∈ ls) : holderP ls l.1 = l.2.1 := by
  obtain ⟨i, hi⟩ := List.mem_iff_getElem?.1 hl
  refine holder_at ls l.1 i l hi (fun j hj x hx e => ?_) rfl
  have := at_of_pair _ _ h.2.1 i j x l hj hx hi
  omega
theorem holder_not {ls : List Ls} {a : Int} (h : ∀ l ∈ ls, l.1 ≠ a) : holderP ls a = 0 := holder_none ls a fun _ x hx => h x (List.mem_of_getElem? hx)
theorem holder_zero {pa pn : Int} {ls : List Ls} {fs : List Fx} (h : LeasesR pa pn ls fs) {a : Int} (hz : holderP ls a = 0) : ∀ l ∈ ls, l.1 ≠ a := by
  intro l hl e
  have h1 := holder_mem h l hl
  rw [e, hz] at h1
  have := (h.1 l hl).2.1
  omega
theorem one_addr {pa pn : Int} {ls : List Ls} {fs : List Fx} (h : LeasesR pa pn ls fs) (x y : Ls) (hx : x ∈ ls) (hy : y ∈ ls) (e : x.1 = y.1) : x = y := by
  obtain ⟨i, hi⟩ := List.mem_iff_getElem?.1 hx
  obtain ⟨j, hj⟩ := List.mem_iff_getElem?.1 hy
  rcases Nat.lt_trichotomy i j with h1 | h1 | h1
  · have := at_of_pair _ _ h.2.1 j i x y h1 hi hj
    omega
  · subst h1
    rw [hi] at hj
    cases hj
    rfl
  · have := at_of_pair _ _ h.2.1 i j y x h1 hj hi
    omega
theorem one_who {pa pn : Int} {ls : List Ls} {fs : List Fx} (h : LeasesR pa pn ls fs) (x y : Ls) (hx : x ∈ ls) (hy : y ∈ ls) (e : x.2.1 = y.2.1) : x = y := by
  obtain ⟨i, hi⟩ := List.mem_iff_getElem?.1 hx
  obtain ⟨j, hj⟩ := List.mem_iff_getElem?.1 hy
  rcases Nat.lt_trichotomy i j with h1 | h1 | h1
  · exact absurd e (at_of_pair _ _ h.2.2 j i x y h1 hi hj)
  · subst h1
    rw [hi] at hj
    cases hj
    rfl
  · exact absurd e.symm (at_of_pair _ _ h.2.2 i j y x h1 hj hi)

/-- Expire: how many, who is gone, who stays; and again. -/
theorem kept_gone_len (now : Int) (ls : List Ls) : (keptP now ls).length + (goneP now ls).length = ls.length := by
  unfold keptP goneP
  rw [List.length_map]
  induction ls with
  | nil => rfl
  | cons l ls ih => cases h : keepL now l <;> simp [h] <;> omega
theorem gone_iff {pa pn : Int} {ls : List Ls} {fs : List Fx} (h : LeasesR pa pn ls fs) (now : Int) (l : Ls) (hl : l ∈ ls) : l.2.1 ∈ goneP now ls ↔ l.2.2 ≤ now := by
  unfold goneP
  rw [List.mem_map]
  constructor
  · rintro ⟨x, hx, e⟩
    obtain ⟨h1, h2⟩ := List.mem_filter.1 hx
    have := one_who h x l h1 hl e
    subst this
    simp [keepL] at h2
    exact h2
  · intro h1
    exact ⟨l, List.mem_filter.2 ⟨hl, by simp [keepL]; exact h1⟩, rfl⟩
theorem kept_iff {pa pn : Int} {ls : List Ls} {fs : List Fx} (h : LeasesR pa pn ls fs) (now : Int) (l : Ls) (hl : l ∈ ls) : holderP (keptP now ls) l.1 = l.2.1 ↔ now < l.2.2 := by
  have hk : LeasesR pa pn (keptP now ls) fs := h.sub List.filter_sublist
  by_cases hn : now < l.2.2
  · exact ⟨fun _ => hn, fun _ => holder_mem hk l (List.mem_filter.2 ⟨hl, by simp [keepL]; exact hn⟩)⟩
  · refine ⟨fun e => ?_, fun e => absurd e hn⟩
    have hz : holderP (keptP now ls) l.1 = 0 := holder_not fun x hx e => by
      obtain ⟨h1, h2⟩ := List.mem_filter.1 hx
      have := one_addr h x l h1 hl e
      subst this
      simp [keepL] at h2
      exact hn h2
    rw [hz] at e
    have := (h.1 l hl).2.1
    omega
theorem kept_again (now : Int) (ls : List Ls) : keptP now (keptP now ls) = keptP now ls := by unfold keptP; rw [List.filter_filter]; simp
theorem gone_again (now : Int) (ls : List Ls) : goneP now (keptP now ls) = [] := by
  have h := kept_gone_len now (keptP now ls)
  rw [kept_again] at h
  exact List.length_eq_zero_iff.1 (by omega)

end Go.Proofs.Ytphmomlgmnllkaq

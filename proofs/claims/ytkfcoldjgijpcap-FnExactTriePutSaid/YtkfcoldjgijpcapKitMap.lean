/-
  Maps as functions: what a map holds at a key, whatever its elements are; no program is spoken of here.
  Maps of maps; no program is spoken of here.
  Rows of ints: appended to while other blocks are kept; sorted by the library; no program is spoken of here.
-/
import Derived.Test.YtkfcoldjgijpcapKitArg
import Derived.Maps.RangeWalk
import Derived.Maps.Ext
import Derived.Sort.OwnSortedInts
namespace Go.Proofs.Ytkfcoldjgijpcap
open Go.RowKit

/-- An element as it is. -/
def asIs (v : Value) : Option (DataW Value × List MemPlace) := some (.held v, [])

/-- Keys of one type. -/
structure KeyK (P : Program) (k : TypeId) (α : Type) where
  enc : α → Value
  lit : α → Lit
  ok : α → Prop
  keyed : Maps.Keyed P k
  to : ∀ {x : α}, ok x → keyOf P k (enc x) = some (lit x)
  of : ∀ {v : Value} {l : Lit}, keyOf P k v = some l → ∃ x, ok x ∧ v = enc x ∧ l = lit x
  inj : ∀ {x y : α}, ok x → ok y → lit x = lit y → x = y

/-- Keys that are integers of one kind. -/
def intKey {P : Program} {k : TypeId} {q : IntKind} (hk : P.underlying k = some (.int q)) : KeyK P k Int where
  enc := Value.int q
  lit := Lit.int q
  ok x := (Lit.int q x).wf = true
  keyed := Maps.int_keyed hk
  to h := Maps.keyOf_int_mk hk h
  of h := by
    obtain ⟨x, hv, hl, hw⟩ := Maps.keyOf_int_inv hk h
    exact ⟨x, hw, hv, hl⟩
  inj _ _ h := by injection h

section
variable {P : Program} {k : TypeId} {α : Type} {C : KeyK P k α} {w w' : World} {b : Nat} {f : α → Option Value} {s : Nat}

theorem KeyK.same_iff (C : KeyK P k α) {x y : α} (hx : C.ok x) (hy : C.ok y) : (C.lit x).sameKey (C.lit y) = true ↔ x = y := by
  constructor
  · intro h
    exact C.inj hx hy (WideAt.sameKey_eq h)
  · intro h
    subst h
    exact WideAt.sameKey_self (C.keyed.key (C.to hx))

/-- Block b is a map that holds f, of s entries. -/
def MapF (C : KeyK P k α) (w : World) (b : Nat) (f : α → Option Value) (s : Nat) : Prop :=
  ∃ D : DataW Value, w.ownsMap P k asIs b s D ∧ Maps.size D = s ∧ (∀ x, ¬ C.ok x → f x = none) ∧ (∀ x, C.ok x → Maps.has D (C.lit x) = (f x).isSome) ∧
    ∀ x v, f x = some v → ∀ z, D.atKey (C.lit x) z = .held v

theorem MapF.made (C : KeyK P k α) (w : World) : MapF C (w.alloc (.map #[] 0)) w.heap.size (fun _ => none) 0 :=
  ⟨_, World.ownsMap_made w P k asIs, rfl, fun _ _ => rfl, fun _ _ => rfl, fun _ _ h => by cases h⟩

theorem MapF.lt (h : MapF C w b f s) : b < w.heap.size := by
  obtain ⟨D, h1, _⟩ := h
  exact h1.lt

theorem MapF.kept {row : Option Nat} (h : MapF C w b f s) (hg : w.grownBy w' row) (hne : some b ≠ row) : MapF C w' b f s := by
  obtain ⟨D, h1, h2⟩ := h
  exact ⟨D, h1.kept hg hne, h2⟩

theorem MapF.below {base : Nat} (h : MapF C w b f s) (hb : b < base) (hg : Below base w w') : MapF C w' b f s := by
  obtain ⟨D, ⟨es, clock, hes, r⟩, h2⟩ := h
  exact ⟨D, ⟨es, clock, (hg.block b hb).trans hes, r⟩, h2⟩

theorem MapF.alloc (h : MapF C w b f s) (o : Obj) : MapF C (w.alloc o) b f s := by
  obtain ⟨D, h1, h2⟩ := h
  exact ⟨D, h1.alloc o, h2⟩

theorem MapF.drew (h : MapF C w b f s) : MapF C w.drew b f s := h

theorem MapF.setCell (h : MapF C w b f s) {p : Addr} (hp : b ≠ p.block) (u : Value) : MapF C (w.setCell p u) b f s := by
  obtain ⟨D, h1, h2⟩ := h
  exact ⟨D, h1.setCell hp u, h2⟩

/-- Its keys. -/
theorem MapF.keys (h : MapF C w b f s) : ∃ ks : List α, ks.Nodup ∧ (∀ x, x ∈ ks ↔ (f x).isSome = true) ∧ ks.length = s := by
  obtain ⟨D, ⟨es, clock, hb, F, hs, rfl⟩, hsz, hno, hhas, hat⟩ := h
  have hk : ∀ p ∈ (es.toList.map (WideElems.rg P k asIs)), ∃ x, C.ok x ∧ p.1 = C.lit x := by
    intro p hp
    obtain ⟨v, hv⟩ := Maps.fit_keys F p hp
    obtain ⟨x, hx, _, hl⟩ := C.of hv
    exact ⟨x, hx, hl⟩
  have hap := Maps.fit_apart C.keyed F
  have hsz' : (es.toList.map (WideElems.rg P k asIs)).length = s := by
    rw [← hsz]
    simp [Maps.size, length_sorted]
  have hhas' : ∀ x, C.ok x → ((es.toList.map (WideElems.rg P k asIs)).any fun p => p.1.sameKey (C.lit x)) = (f x).isSome := by
    intro x hx
    rw [← hhas x hx]
    show _ = List.any _ _
    rw [Bool.eq_iff_iff, List.any_eq_true, List.any_eq_true]
    constructor
    · rintro ⟨p, hp, h⟩
      exact ⟨p, mem_sorted.2 hp, h⟩
    · rintro ⟨p, hp, h⟩
      exact ⟨p, mem_sorted.1 hp, h⟩
  revert hk hap hsz' hhas'
  generalize (es.toList.map (WideElems.rg P k asIs)) = L
  intro hk hap hsz' hhas'
  have main : ∀ L : List (Lit × DataW Value), (∀ p ∈ L, ∃ x, C.ok x ∧ p.1 = C.lit x) → L.Pairwise (fun p q => p.1 ≠ q.1) →
      ∃ ks : List α, ks.Nodup ∧ (∀ x, x ∈ ks ↔ C.ok x ∧ ∃ p ∈ L, p.1 = C.lit x) ∧ ks.length = L.length := by
    intro L
    induction L with
    | nil =>
      intro _ _
      exact ⟨[], List.nodup_nil, fun x => by simp, rfl⟩
    | cons p L ih =>
      intro hk hap
      obtain ⟨h1, h2⟩ := List.pairwise_cons.1 hap
      obtain ⟨ks, n1, n2, n3⟩ := ih (fun p hp => hk p (List.mem_cons_of_mem _ hp)) h2
      obtain ⟨x, hx, hl⟩ := hk p List.mem_cons_self
      refine ⟨x :: ks, List.nodup_cons.2 ⟨fun hm => ?_, n1⟩, fun y => ?_, by simp [n3]⟩
      · obtain ⟨_, p', hp', hl'⟩ := (n2 x).1 hm
        exact h1 p' hp' (hl.trans hl'.symm)
      · rw [List.mem_cons, n2]
        constructor
        · rintro (rfl | ⟨hy, p', hp', hl'⟩)
          · exact ⟨hx, p, List.mem_cons_self, hl⟩
          · exact ⟨hy, p', List.mem_cons_of_mem _ hp', hl'⟩
        · rintro ⟨hy, p', hp', hl'⟩
          rcases List.mem_cons.1 hp' with rfl | hp'
          · exact Or.inl (C.inj hy hx (hl'.symm.trans hl))
          · exact Or.inr ⟨hy, p', hp', hl'⟩
  obtain ⟨ks, n1, n2, n3⟩ := main L hk hap
  refine ⟨ks, n1, fun x => ?_, n3.trans hsz'⟩
  rw [n2]
  constructor
  · rintro ⟨hx, p, hp, hl⟩
    rw [← hhas' x hx]
    exact List.any_eq_true.2 ⟨p, hp, by rw [hl]; exact (C.same_iff hx hx).2 rfl⟩
  · intro h
    have hx : C.ok x := Classical.byContradiction fun hx => by rw [hno x hx] at h; cases h
    rw [← hhas' x hx] at h
    obtain ⟨p, hp, hl⟩ := List.any_eq_true.1 h
    exact ⟨hx, p, hp, WideAt.sameKey_eq hl⟩

theorem MapF.none_iff (h : MapF C w b f s) : s = 0 ↔ ∀ x, f x = none := by
  obtain ⟨ks, _, hm, hl⟩ := h.keys
  constructor
  · intro hs x
    subst hs
    cases hf : f x with
    | none => rfl
    | some v =>
      have := (hm x).2 (by rw [hf]; rfl)
      rw [List.length_eq_zero_iff.1 hl] at this
      cases this
  · intro hx
    cases ks with
    | nil => exact hl.symm
    | cons x ks =>
      have := (hm x).1 List.mem_cons_self
      rw [hx x] at this
      cases this

/-- 'm[k]'. -/
theorem MapF.look {t e : TypeId} (h : MapF C w b f s) (ht : P.underlying t = some (.map k e)) {z : Value} (hz : (zeroValue e).run P w = .ok z w) {x : α} (hx : C.ok x) :
    (Instr.lookup t (.map (some b)) (C.enc x) false).run P w = .ok ((f x).getD z) w := by
  obtain ⟨D, h1, hsz, hno, hhas, hat⟩ := h
  obtain ⟨v, ps, hrun, hv⟩ := h1.lookup C.keyed ht hz (zd := .held z) (zp := []) rfl (C.to hx)
  rw [hrun]
  have e1 : DataW.held v = D.atKey (C.lit x) (.held z) := congrArg Prod.fst (Option.some.inj hv)
  congr 1
  cases hf : f x with
  | some u =>
    rw [hat x u hf] at e1
    injection e1
  | none =>
    rw [Maps.atKey_of_not_has (by rw [hhas x hx, hf]; rfl)] at e1
    injection e1

/-- 'v, ok := m[k]'. -/
theorem MapF.look_ok {t e : TypeId} (h : MapF C w b f s) (ht : P.underlying t = some (.map k e)) {z : Value} (hz : (zeroValue e).run P w = .ok z w) {x : α} (hx : C.ok x) :
    (Instr.lookup t (.map (some b)) (C.enc x) true).run P w = .ok (.tuple #[(f x).getD z, .bool (f x).isSome]) w := by
  obtain ⟨D, h1, hsz, hno, hhas, hat⟩ := h
  obtain ⟨v, ps, hrun, hv⟩ := h1.look_ok C.keyed ht hz (zd := .held z) (zp := []) rfl (C.to hx)
  rw [hrun, hhas x hx]
  have e1 : DataW.held v = D.atKey (C.lit x) (.held z) := congrArg Prod.fst (Option.some.inj hv)
  have e2 : v = (f x).getD z := by
    cases hf : f x with
    | some u =>
      rw [hat x u hf] at e1
      injection e1
    | none =>
      rw [Maps.atKey_of_not_has (by rw [hhas x hx, hf]; rfl)] at e1
      injection e1
  rw [e2]

/-- 'len(m)'. -/
theorem MapF.len {t e : TypeId} (h : MapF C w b f s) (ht : P.underlying t = some (.map k e)) (ty : TypeId) : (Builtin.len_ #[t] ty #[.map (some b)]).run P w = .ok (.int .i64 s) w := by
  obtain ⟨D, h1, hsz, _⟩ := h
  rw [h1.len ht, hsz]

/-- What a map holds behind a store, behind a delete. -/
def putF [DecidableEq α] (f : α → Option Value) (x : α) (v : Value) : α → Option Value := fun y => if y = x then some v else f y
def delF [DecidableEq α] (f : α → Option Value) (x : α) : α → Option Value := fun y => if y = x then none else f y

theorem ownsMap_tight {n : Nat} {D : DataW Value} (h : w.ownsMap P k asIs b n D) : w.ownsMap P k asIs b (Maps.size D) D := by
  obtain ⟨es, clock, hb, F, hs, rfl⟩ := h
  exact ⟨es, clock, hb, F, by simp [Maps.size, length_sorted], rfl⟩

/-- 'm[k] = v'. -/
theorem MapF.store [DecidableEq α] {t e : TypeId} (h : MapF C w b f s) (ht : P.underlying t = some (.map k e)) (hs : s < maxLen) {x : α} (hx : C.ok x) (v : Value) :
    ∃ w', (Instr.mapUpdate t (.map (some b)) (C.enc x) v).run P w = .ok () w' ∧ MapF C w' b (putF f x v) (if (f x).isSome = true then s else s + 1) ∧ w.mapTurned w' b := by
  obtain ⟨D, h1, hsz, hno, hhas, hat⟩ := h
  obtain ⟨w', hrun, h2, h3⟩ := h1.store C.keyed ht hs (C.to hx) (d := .held v) (ps := []) rfl
  have hlx := C.keyed.key (C.to hx)
  have e1 : Maps.size (D.put (C.lit x) (.held v)) = if (f x).isSome = true then s else s + 1 := by rw [Maps.size_put (h1.tidy C.keyed), hhas x hx, hsz]
  refine ⟨w', hrun, ⟨_, e1 ▸ ownsMap_tight h2, e1, fun y hy => ?_, fun y hy => ?_, fun y u hu z => ?_⟩, h3⟩
  · unfold putF
    rw [if_neg (fun e : y = x => hy (e ▸ hx))]
    exact hno y hy
  · unfold putF
    by_cases hyx : y = x
    · subst hyx
      rw [if_pos rfl, Maps.has_put_same h1.isMap hlx]
      rfl
    · rw [if_neg hyx, Maps.has_put_other (fun e => hyx (C.inj hy hx e)), hhas y hy]
  · unfold putF at hu
    by_cases hyx : y = x
    · subst hyx
      rw [if_pos rfl] at hu
      cases hu
      exact Maps.atKey_put_same h1.isMap hlx _ _
    · rw [if_neg hyx] at hu
      have hy : C.ok y := Classical.byContradiction fun hy => by rw [hno y hy] at hu; cases hu
      rw [Maps.atKey_put_other (fun e => hyx (C.inj hy hx e))]
      exact hat y u hu z

theorem delF_facts [DecidableEq α] {D : DataW Value} (hno : ∀ x, ¬ C.ok x → f x = none) (hhas : ∀ x, C.ok x → Maps.has D (C.lit x) = (f x).isSome) (hat : ∀ x v, f x = some v → ∀ z, D.atKey (C.lit x) z = .held v) {x : α} (hx : C.ok x) :
    (∀ y, ¬ C.ok y → delF f x y = none) ∧ (∀ y, C.ok y → Maps.has (D.del (C.lit x)) (C.lit y) = (delF f x y).isSome) ∧ ∀ y v, delF f x y = some v → ∀ z, (D.del (C.lit x)).atKey (C.lit y) z = .held v := by
  refine ⟨fun y hy => ?_, fun y hy => ?_, fun y u hu z => ?_⟩
  · unfold delF
    split
    · rfl
    · exact hno y hy
  · unfold delF
    by_cases hyx : y = x
    · subst hyx
      rw [if_pos rfl, Maps.has_del_same]
      rfl
    · rw [if_neg hyx, Maps.has_del_other (fun e => hyx (C.inj hy hx e)), hhas y hy]
  · unfold delF at hu
    by_cases hyx : y = x
    · rw [if_pos hyx] at hu
      cases hu
    · rw [if_neg hyx] at hu
      have hy : C.ok y := Classical.byContradiction fun hy => by rw [hno y hy] at hu; cases hu
      rw [Maps.atKey_del_other (fun e => hyx (C.inj hy hx e))]
      exact hat y u hu z

/-- 'delete(m, k)'. -/
theorem MapF.drop [DecidableEq α] {t e : TypeId} (h : MapF C w b f s) (ht : P.underlying t = some (.map k e)) {x : α} (hx : C.ok x) (ty : TypeId) :
    ∃ w', (Builtin.delete_ #[t, k] ty #[.map (some b), C.enc x]).run P w = .ok (.tuple #[]) w' ∧ MapF C w' b (delF f x) (if (f x).isSome = true then s - 1 else s) ∧ w.mapTurned w' b := by
  obtain ⟨D, h1, hsz, hno, hhas, hat⟩ := h
  obtain ⟨w', hrun, h2, h3⟩ := h1.drop C.keyed ht (C.to hx) ty
  have e1 : Maps.size (D.del (C.lit x)) = if (f x).isSome = true then s - 1 else s := by
    have := Maps.size_del (k := C.lit x) (h1.tidy C.keyed)
    rw [hhas x hx, hsz] at this
    split <;> rename_i hc
    · rw [if_pos hc] at this
      omega
    · rw [if_neg hc] at this
      omega
  obtain ⟨a1, a2, a3⟩ := delF_facts hno hhas hat hx
  exact ⟨w', hrun, ⟨_, e1 ▸ ownsMap_tight h2, e1, a1, a2, a3⟩, h3⟩

/-- A range over the map under way: which keys are still to come, and how many. -/
def RangeF (C : KeyK P k α) (w : World) (b r : Nat) (f : α → Option Value) (s : Nat) (left : α → Bool) (cnt : Nat) : Prop :=
  ∃ (D : DataW Value) (lf : Lit → Bool), w.ranges P k asIs b r s D lf cnt ∧ Maps.size D = s ∧ (∀ x, ¬ C.ok x → f x = none) ∧ (∀ x, C.ok x → Maps.has D (C.lit x) = (f x).isSome) ∧
    (∀ x v, f x = some v → ∀ z, D.atKey (C.lit x) z = .held v) ∧ (∀ x, C.ok x → lf (C.lit x) = left x) ∧ ∀ x, left x = true → (f x).isSome = true

theorem RangeF.map {r : Nat} {left : α → Bool} {cnt : Nat} (h : RangeF C w b r f s left cnt) : MapF C w b f s := by
  obtain ⟨D, lf, h1, h2, h3, h4, h5, _⟩ := h
  exact ⟨D, h1.owns, h2, h3, h4, h5⟩

theorem RangeF.kept {r : Nat} {left : α → Bool} {cnt : Nat} {row : Option Nat} (h : RangeF C w b r f s left cnt) (hg : w.grownBy w' row) (hb : some b ≠ row) (hr : some r ≠ row) : RangeF C w' b r f s left cnt := by
  obtain ⟨D, lf, h1, h2⟩ := h
  exact ⟨D, lf, h1.kept hg hb hr, h2⟩

theorem RangeF.alloc {r : Nat} {left : α → Bool} {cnt : Nat} (h : RangeF C w b r f s left cnt) (o : Obj) : RangeF C (w.alloc o) b r f s left cnt := by
  obtain ⟨D, lf, h1, h2⟩ := h
  exact ⟨D, lf, h1.alloc o, h2⟩

theorem RangeF.left_eq {r : Nat} {left : α → Bool} {cnt : Nat} (h : RangeF C w b r f s left cnt) : w.rangeLeft b r = cnt := by
  obtain ⟨D, lf, h1, h2⟩ := h
  exact h1.left_eq

theorem RangeF.ne {r : Nat} {left : α → Bool} {cnt : Nat} (h : RangeF C w b r f s left cnt) : r ≠ b := by
  obtain ⟨D, lf, h1, h2⟩ := h
  exact h1.ne

theorem RangeF.lt {r : Nat} {left : α → Bool} {cnt : Nat} (h : RangeF C w b r f s left cnt) : r < w.heap.size := by
  obtain ⟨D, lf, h1, h2⟩ := h
  exact h1.lt

/-- 'range m'. -/
theorem MapF.range {t e : TypeId} (h : MapF C w b f s) (ht : P.underlying t = some (.map k e)) :
    ∃ w', (Instr.range t (.map (some b))).run P w = .ok (.pointer (some ⟨w.heap.size, 0, none⟩)) w' ∧ RangeF C w' b w.heap.size f s (fun x => (f x).isSome) s ∧ w.grownBy w' none ∧ w'.heap.size = w.heap.size + 1 := by
  obtain ⟨D, h1, h2, h3, h4, h5⟩ := h
  obtain ⟨w', hrun, hr, hg, hz⟩ := h1.range C.keyed ht
  rw [h2] at hr
  exact ⟨w', hrun, ⟨D, _, hr, h2, h3, h4, h5, h4, fun _ h => h⟩, hg, hz⟩

/-- Its step. -/
theorem RangeF.next [DecidableEq α] {r : Nat} {left : α → Bool} {cnt : Nat} (h : RangeF C w b r f s left cnt) (ty : TypeId) :
    (cnt = 0 ∧ (∀ x, left x = false) ∧ (Instr.next (.pointer (some ⟨r, 0, none⟩)) false ty).run P w = .ok (.tuple #[.bool false]) w) ∨
    ∃ x v w' cnt', C.ok x ∧ left x = true ∧ f x = some v ∧ (Instr.next (.pointer (some ⟨r, 0, none⟩)) false ty).run P w = .ok (.tuple #[.bool true, C.enc x, v]) w' ∧
      RangeF C w' b r f s (fun y => left y && !decide (y = x)) cnt' ∧ cnt' < cnt ∧ w.grownBy w' (some r) ∧ w'.heap.size = w.heap.size ∧ (Instr.entry (.pointer (some ⟨r, 0, none⟩))).run P w' = .ok (.tuple #[C.enc x, v]) w' := by
  obtain ⟨D, lf, h1, h2, h3, h4, h5, h6, h7⟩ := h
  rcases h1.next C.keyed ty with ⟨hc, hl, hrun⟩ | ⟨key, v, kl, y, w', cnt', hkey, hlk, hv, hat, hrun, hr, hlt, hg, hz, hen⟩
  · refine Or.inl ⟨hc, fun x => ?_, hrun⟩
    cases hx : left x with
    | false => rfl
    | true =>
      have hok : C.ok x := Classical.byContradiction fun hy => by
        have := h7 x hx
        rw [h3 x hy] at this
        cases this
      rw [← h6 x hok, hl] at hx
      cases hx
  · obtain ⟨x, hx, rfl, rfl⟩ := C.of hkey
    have hlx : left x = true := (h6 x hx).symm.trans hlk
    have hf : f x = some v := by
      cases hf : f x with
      | none =>
        have := h7 x hlx
        rw [hf] at this
        cases this
      | some u =>
        have e1 := (h5 x u hf .nil).symm.trans (hat .nil)
        have e2 : y.1 = .held v := (congrArg Prod.fst (Option.some.inj hv)).symm
        rw [e2] at e1
        injection e1 with e1
        rw [e1]
    refine Or.inr ⟨x, v, w', cnt', hx, hlx, hf, hrun, ⟨D, _, hr, h2, h3, h4, h5, fun z hz => ?_, fun z hz => ?_⟩, hlt, hg, hz, hen⟩
    · show (lf (C.lit z) && !(C.lit z).sameKey (C.lit x)) = _
      rw [h6 z hz]
      congr 2
      rw [Bool.eq_iff_iff, C.same_iff hz hx, decide_eq_true_iff]
    · rw [Bool.and_eq_true] at hz
      exact h7 z hz.1

/-- 'delete(m, k)' in its round. -/
theorem RangeF.drop [DecidableEq α] {t e : TypeId} {r : Nat} {left : α → Bool} {cnt : Nat} (h : RangeF C w b r f s left cnt) (ht : P.underlying t = some (.map k e)) {x : α} (hx : C.ok x) (ty : TypeId) :
    ∃ w' cnt', (Builtin.delete_ #[t, k] ty #[.map (some b), C.enc x]).run P w = .ok (.tuple #[]) w' ∧ RangeF C w' b r (delF f x) (if (f x).isSome = true then s - 1 else s) (fun y => left y && !decide (y = x)) cnt' ∧ cnt' ≤ cnt ∧ w.mapTurned w' b := by
  obtain ⟨D, lf, h1, h2, h3, h4, h5, h6, h7⟩ := h
  obtain ⟨w', cnt', hrun, hr, hle, htu⟩ := h1.drop C.keyed ht (C.to hx) ty
  have e1 : Maps.size (D.del (C.lit x)) = if (f x).isSome = true then s - 1 else s := by
    have := Maps.size_del (k := C.lit x) (h1.owns.tidy C.keyed)
    rw [h4 x hx, h2] at this
    split <;> rename_i hc
    · rw [if_pos hc] at this
      omega
    · rw [if_neg hc] at this
      omega
  obtain ⟨a1, a2, a3⟩ := delF_facts h3 h4 h5 hx
  have hr' : w'.ranges P k asIs b r (if (f x).isSome = true then s - 1 else s) (D.del (C.lit x)) (fun y => lf y && !y.sameKey (C.lit x)) cnt' := by
    rw [← e1]
    obtain ⟨es, clock, since, seen, c0, q1, q2, q3, q4, q5⟩ := hr
    refine ⟨es, clock, since, seen, c0, q1, q2, ?_, q4, q5⟩
    rw [q4]
    simp [Maps.size, length_sorted]
  refine ⟨w', cnt', hrun, ⟨_, _, hr', e1, a1, a2, a3, fun z hz => ?_, fun z hz => ?_⟩, hle, htu⟩
  · show (lf (C.lit z) && !(C.lit z).sameKey (C.lit x)) = _
    rw [h6 z hz]
    congr 2
    rw [Bool.eq_iff_iff, C.same_iff hz hx, decide_eq_true_iff]
  · rw [Bool.and_eq_true] at hz
    have hzx : z ≠ x := fun e => by simp [e] at hz
    unfold delF
    rw [if_neg hzx]
    exact h7 z hz.1

end

/-! At the operations. -/
section
variable {P : Program} (w : World) {ops : Array Oper} {rest : List Oper} {o : Oper} {a : Act} {Q : Exit → Act → World → Prop} {k : TypeId} {α : Type}

/-- 'm[k]' of a map of maps, of a map of integers. -/
theorem wpList_lookM (C : KeyK P k α) (hg : o.guard = none) (m x : Operand) (t : TypeId) (hop : o.op = Op.lookup t m x false) (e : TypeId) (ht : P.underlying t = some (.map k e)) (hz : (zeroValue e).run P w = .ok (.map none) w)
    (b : Nat) (g : α → Option Nat) (s : Nat) (hm : a.eval m = .map (some b)) (h : MapF C w b (fun x => (g x).map fun c => .map (some c)) s) (u : α) (hu : C.ok u) (hx : a.eval x = C.enc u)
    (hK : wpList P ops Q rest (a.put o.dst (.map (g u))) w) : wpList P ops Q (o :: rest) a w := by
  refine wpList_plain hg fun K' hK' => ?_
  have hrun := h.look ht hz hu
  have e1 : ((g u).map fun c => Value.map (some c)).getD (.map none) = .map (g u) := by cases g u <;> rfl
  rw [e1] at hrun
  unfold Oper.wp
  simp [execOp, hop, hm, hx, hrun, Result.andThen]
  exact hK' _ _ hK

theorem wpList_lookI (C : KeyK P k α) (hg : o.guard = none) (m x : Operand) (t : TypeId) (hop : o.op = Op.lookup t m x false) (e : TypeId) (q : IntKind) (ht : P.underlying t = some (.map k e)) (hz : (zeroValue e).run P w = .ok (.int q 0) w)
    (b : Nat) (g : α → Option Int) (s : Nat) (hm : a.eval m = .map (some b)) (h : MapF C w b (fun x => (g x).map (Value.int q)) s) (u : α) (hu : C.ok u) (hx : a.eval x = C.enc u)
    (hK : wpList P ops Q rest (a.put o.dst (.int q ((g u).getD 0))) w) : wpList P ops Q (o :: rest) a w := by
  refine wpList_plain hg fun K' hK' => ?_
  have hrun := h.look ht hz hu
  have e1 : ((g u).map (Value.int q)).getD (.int q 0) = .int q ((g u).getD 0) := by cases g u <;> rfl
  rw [e1] at hrun
  unfold Oper.wp
  simp [execOp, hop, hm, hx, hrun, Result.andThen]
  exact hK' _ _ hK

/-- 'v, ok := m[k]' of them. -/
theorem wpList_lookM_ok (C : KeyK P k α) (hg : o.guard = none) (m x : Operand) (t : TypeId) (hop : o.op = Op.lookup t m x true) (e : TypeId) (ht : P.underlying t = some (.map k e)) (hz : (zeroValue e).run P w = .ok (.map none) w)
    (b : Nat) (g : α → Option Nat) (s : Nat) (hm : a.eval m = .map (some b)) (h : MapF C w b (fun x => (g x).map fun c => .map (some c)) s) (u : α) (hu : C.ok u) (hx : a.eval x = C.enc u)
    (hK : wpList P ops Q rest (a.put o.dst (.tuple #[.map (g u), .bool (g u).isSome])) w) : wpList P ops Q (o :: rest) a w := by
  refine wpList_plain hg fun K' hK' => ?_
  have hrun := h.look_ok ht hz hu
  have e1 : ((g u).map fun c => Value.map (some c)).getD (.map none) = .map (g u) := by cases g u <;> rfl
  rw [e1, Option.isSome_map] at hrun
  unfold Oper.wp
  simp [execOp, hop, hm, hx, hrun, Result.andThen]
  exact hK' _ _ hK

theorem wpList_lookI_ok (C : KeyK P k α) (hg : o.guard = none) (m x : Operand) (t : TypeId) (hop : o.op = Op.lookup t m x true) (e : TypeId) (q : IntKind) (ht : P.underlying t = some (.map k e)) (hz : (zeroValue e).run P w = .ok (.int q 0) w)
    (b : Nat) (g : α → Option Int) (s : Nat) (hm : a.eval m = .map (some b)) (h : MapF C w b (fun x => (g x).map (Value.int q)) s) (u : α) (hu : C.ok u) (hx : a.eval x = C.enc u)
    (hK : wpList P ops Q rest (a.put o.dst (.tuple #[.int q ((g u).getD 0), .bool (g u).isSome])) w) : wpList P ops Q (o :: rest) a w := by
  refine wpList_plain hg fun K' hK' => ?_
  have hrun := h.look_ok ht hz hu
  have e1 : ((g u).map (Value.int q)).getD (.int q 0) = .int q ((g u).getD 0) := by cases g u <;> rfl
  rw [e1, Option.isSome_map] at hrun
  unfold Oper.wp
  simp [execOp, hop, hm, hx, hrun, Result.andThen]
  exact hK' _ _ hK

/-- The same at a nil map. -/
theorem wpList_lookI_nil (C : KeyK P k α) (hg : o.guard = none) (m x : Operand) (t : TypeId) (c : Bool) (hop : o.op = Op.lookup t m x c) (e : TypeId) (z : Value) (ht : P.underlying t = some (.map k e)) (hz : (zeroValue e).run P w = .ok z w)
    (hm : a.eval m = .map none) (u : α) (hu : C.ok u) (hx : a.eval x = C.enc u)
    (hK : wpList P ops Q rest (a.put o.dst (if c then .tuple #[z, .bool false] else z)) w) : wpList P ops Q (o :: rest) a w := by
  refine wpList_plain hg fun K' hK' => ?_
  have hrun := Maps.look_nil c C.keyed ht hz (C.to hu)
  unfold Oper.wp
  simp [execOp, hop, hm, hx, hrun, Result.andThen]
  exact hK' _ _ hK

/-- 'm[k] = v'. -/
theorem wpList_storeF [DecidableEq α] (C : KeyK P k α) (hg : o.guard = none) (m x v : Operand) (t : TypeId) (hop : o.op = Op.mapUpdate t m x v) (e : TypeId) (ht : P.underlying t = some (.map k e))
    (b : Nat) (f : α → Option Value) (s : Nat) (hm : a.eval m = .map (some b)) (h : MapF C w b f s) (hs : s < maxLen) (u : α) (hu : C.ok u) (hx : a.eval x = C.enc u) (val : Value) (hv : a.eval v = val)
    (hK : ∀ w', MapF C w' b (putF f u val) (if (f u).isSome = true then s else s + 1) → w.mapTurned w' b → wpList P ops Q rest (a.put o.dst undef) w') : wpList P ops Q (o :: rest) a w := by
  refine wpList_plain hg fun K' hK' => ?_
  obtain ⟨w', hrun, h1, h2⟩ := h.store ht hs hu val
  unfold Oper.wp
  simp [execOp, hop, hm, hx, hv, hrun, Result.andThen]
  exact hK' _ _ (hK w' h1 h2)

/-- 'delete(m, k)'. -/
theorem wpList_dropF [DecidableEq α] (C : KeyK P k α) (hg : o.guard = none) (m x : Operand) (t : TypeId) (hop : o.op = Op.call { callee := Callee.builtin Builtin.delete, args := #[m, x], argTypes := #[t, k] }) (e : TypeId) (ht : P.underlying t = some (.map k e))
    (b : Nat) (f : α → Option Value) (s : Nat) (hm : a.eval m = .map (some b)) (h : MapF C w b f s) (u : α) (hu : C.ok u) (hx : a.eval x = C.enc u)
    (hK : ∀ w', MapF C w' b (delF f u) (if (f u).isSome = true then s - 1 else s) → w.mapTurned w' b → wpList P ops Q rest (a.put o.dst (.tuple #[])) w') : wpList P ops Q (o :: rest) a w := by
  refine wpList_plain hg fun K' hK' => ?_
  obtain ⟨w', hrun, h1, h2⟩ := h.drop ht hu o.type
  unfold Oper.wp
  simp [execOp, hop, resolve, invoke, builtin, hm, hx, hrun, Result.andThen]
  exact hK' _ _ (hK w' h1 h2)

theorem wpList_drop_nil (C : KeyK P k α) (hg : o.guard = none) (m x : Operand) (t : TypeId) (hop : o.op = Op.call { callee := Callee.builtin Builtin.delete, args := #[m, x], argTypes := #[t, k] }) (e : TypeId) (ht : P.underlying t = some (.map k e))
    (hm : a.eval m = .map none) (u : α) (hu : C.ok u) (hx : a.eval x = C.enc u)
    (hK : wpList P ops Q rest (a.put o.dst (.tuple #[])) w) : wpList P ops Q (o :: rest) a w := by
  refine wpList_plain hg fun K' hK' => ?_
  have hrun := Maps.drop_nil (w := w) C.keyed ht (C.to hu) o.type
  unfold Oper.wp
  simp [execOp, hop, resolve, invoke, builtin, hm, hx, hrun, Result.andThen]
  exact hK' _ _ hK

/-- 'len(m)'. -/
theorem wpList_lenF (C : KeyK P k α) (hg : o.guard = none) (m : Operand) (t : TypeId) (hop : o.op = Op.call { callee := Callee.builtin Builtin.len, args := #[m], argTypes := #[t] }) (e : TypeId) (ht : P.underlying t = some (.map k e))
    (b : Nat) (f : α → Option Value) (s : Nat) (hm : a.eval m = .map (some b)) (h : MapF C w b f s)
    (hK : wpList P ops Q rest (a.put o.dst (.int .i64 s)) w) : wpList P ops Q (o :: rest) a w := by
  refine wpList_plain hg fun K' hK' => ?_
  unfold Oper.wp
  simp [execOp, hop, resolve, invoke, builtin, hm, h.len ht o.type, Result.andThen]
  exact hK' _ _ hK

/-- 'range m'. -/
theorem wpList_rangeF (C : KeyK P k α) (hg : o.guard = none) (m : Operand) (t : TypeId) (hop : o.op = Op.range t m) (e : TypeId) (ht : P.underlying t = some (.map k e))
    (b : Nat) (f : α → Option Value) (s : Nat) (hm : a.eval m = .map (some b)) (h : MapF C w b f s)
    (hK : ∀ w', RangeF C w' b w.heap.size f s (fun x => (f x).isSome) s → w.grownBy w' none → w'.heap.size = w.heap.size + 1 → wpList P ops Q rest (a.put o.dst (.pointer (some ⟨w.heap.size, 0, none⟩))) w') : wpList P ops Q (o :: rest) a w := by
  refine wpList_plain hg fun K' hK' => ?_
  obtain ⟨w', hrun, r1, r2, r3⟩ := h.range ht
  unfold Oper.wp
  simp [execOp, hop, hm, hrun, Result.andThen]
  exact hK' _ _ (hK w' r1 r2 r3)

/-- Its step; mkV says what its elements look like. -/
theorem wpList_nextF [DecidableEq α] {β : Type} (C : KeyK P k α) (mkV : β → Value) (hg : o.guard = none) (it : Operand) (hop : o.op = Op.next it false)
    (b r : Nat) (g : α → Option β) (s : Nat) (left : α → Bool) (cnt : Nat) (hit : a.eval it = .pointer (some ⟨r, 0, none⟩)) (h : RangeF C w b r (fun x => (g x).map mkV) s left cnt)
    (hDone : cnt = 0 → (∀ x, left x = false) → wpList P ops Q rest (a.put o.dst (.tuple #[.bool false])) w)
    (hMore : ∀ (x : α) (c : β) (w' : World) (cnt' : Nat), C.ok x → left x = true → g x = some c → RangeF C w' b r (fun x => (g x).map mkV) s (fun y => left y && !decide (y = x)) cnt' → cnt' < cnt → w.grownBy w' (some r) → w'.heap.size = w.heap.size →
      (Instr.entry (.pointer (some ⟨r, 0, none⟩))).run P w' = .ok (.tuple #[C.enc x, mkV c]) w' → wpList P ops Q rest (a.put o.dst (.tuple #[.bool true, C.enc x, mkV c])) w') :
    wpList P ops Q (o :: rest) a w := by
  refine wpList_plain hg fun K' hK' => ?_
  unfold Oper.wp
  rcases h.next o.type with ⟨h0, hl, hrun⟩ | ⟨x, v, w', cnt', hx, hlx, hf, hrun, hr, hlt, hgr, hz, hen⟩
  · simp [execOp, hop, hit, hrun, Result.andThen]
    exact hK' _ _ (hDone h0 hl)
  · cases hgx : g x with
    | none => simp [hgx] at hf
    | some c =>
      simp only [hgx, Option.map_some, Option.some.injEq] at hf
      subst hf
      simp [execOp, hop, hit, hrun, Result.andThen]
      exact hK' _ _ (hMore x c w' cnt' hx hlx hgx hr hlt hgr hz hen)

end
end Go.Proofs.Ytkfcoldjgijpcap
namespace Go.Proofs.Ytkfcoldjgijpcap
open Go.RowKit

/-- A function changed at one place. -/
def upd {α γ : Type} [DecidableEq α] (f : α → γ) (x : α) (v : γ) : α → γ := fun y => if y = x then v else f y
theorem upd_same {α γ : Type} [DecidableEq α] (f : α → γ) (x : α) (v : γ) : upd f x v x = v := if_pos rfl
theorem upd_other {α γ : Type} [DecidableEq α] (f : α → γ) {x y : α} (v : γ) (h : y ≠ x) : upd f x v y = f y := if_neg h
theorem upd_self {α γ : Type} [DecidableEq α] (f : α → γ) (x : α) : upd f x (f x) = f := by
  funext y
  unfold upd
  split
  · rename_i h
    rw [h]
  · rfl

theorem putF_map {α β : Type} [DecidableEq α] (mk : β → Value) (g : α → Option β) (x : α) (v : β) : putF (fun y => (g y).map mk) x (mk v) = fun y => (upd g x (some v) y).map mk := by
  funext y
  unfold putF upd
  split <;> rfl
theorem delF_map {α β : Type} [DecidableEq α] (mk : β → Value) (g : α → Option β) (x : α) : delF (fun y => (g y).map mk) x = fun y => (upd g x none y).map mk := by
  funext y
  unfold delF upd
  split <;> rfl

theorem grown_none {w w' : World} (h : Below w.heap.size w w') (r : Option Nat) : w.grownBy w' r := ⟨h.os, h.tape, h.output, h.size, fun i hi _ => h.block i hi⟩
theorem turned_below {w w' : World} {b base : Nat} (h : w.mapTurned w' b) (hb : base ≤ b) (hs : base ≤ w.heap.size) : Below base w w' :=
  below_grown h.grown (fun j hj => by cases hj; exact hb) hs
theorem turned_size {w w' : World} {b : Nat} (h : w.mapTurned w' b) : w'.heap.size = w.heap.size := by
  obtain ⟨es, clock, es', clock', hb, rfl⟩ := h
  simp [ChangeMaps.setBlock]

section
variable {P : Program} {k k' : TypeId} {α β : Type} {q : IntKind} {Cx : KeyK P k α} {Cy : KeyK P k' β} {w w' : World} {base b : Nat} {g : α → Option Nat} {s : Nat} {F : α → β → Option Int} {sz : α → Nat}

/-- Block b is a map of maps, which holds F; x's map lies in block g x. -/
structure Nest (Cx : KeyK P k α) (Cy : KeyK P k' β) (q : IntKind) (w : World) (base b : Nat) (g : α → Option Nat) (s : Nat) (F : α → β → Option Int) (sz : α → Nat) : Prop where
  outer : MapF Cx w b (fun x => (g x).map fun c => .map (some c)) s
  inner : ∀ x c, g x = some c → MapF Cy w c (fun y => (F x y).map (Value.int q)) (sz x)
  apart : ∀ x c, g x = some c → base ≤ c ∧ c ≠ b
  inj : ∀ x x' c, g x = some c → g x' = some c → x = x'
  no : ∀ x y, g x = none → F x y = none
  own : base ≤ b

theorem Nest.made (Cx : KeyK P k α) (Cy : KeyK P k' β) (q : IntKind) (w : World) (base : Nat) (h : base ≤ w.heap.size) : Nest Cx Cy q (w.alloc (.map #[] 0)) base w.heap.size (fun _ => none) 0 (fun _ _ => none) (fun _ => 0) where
  outer := MapF.made Cx w
  inner _ _ h := by cases h
  apart _ _ h := by cases h
  inj _ _ _ h := by cases h
  no _ _ _ := rfl
  own := h

theorem Nest.kept {row : Option Nat} (h : Nest Cx Cy q w base b g s F sz) (hg : w.grownBy w' row) (hne : some b ≠ row) (hin : ∀ x c, g x = some c → some c ≠ row) : Nest Cx Cy q w' base b g s F sz where
  outer := h.outer.kept hg hne
  inner x c hc := (h.inner x c hc).kept hg (hin x c hc)
  apart := h.apart
  inj := h.inj
  no := h.no
  own := h.own

theorem Nest.grown (h : Nest Cx Cy q w base b g s F sz) (hg : w.grownBy w' none) : Nest Cx Cy q w' base b g s F sz := h.kept hg (by simp) (fun _ _ _ => by simp)
theorem Nest.alloc (h : Nest Cx Cy q w base b g s F sz) (o : Obj) : Nest Cx Cy q (w.alloc o) base b g s F sz := h.grown (World.grownBy_alloc w o none)
theorem Nest.drew (h : Nest Cx Cy q w base b g s F sz) : Nest Cx Cy q w.drew base b g s F sz := ⟨h.outer, h.inner, h.apart, h.inj, h.no, h.own⟩
theorem Nest.below (h : Nest Cx Cy q w base b g s F sz) (hb : Below w.heap.size w w') : Nest Cx Cy q w' base b g s F sz := h.grown (grown_none hb none)
theorem Nest.setCell (h : Nest Cx Cy q w base b g s F sz) {p : Addr} (hp : b ≠ p.block) (hin : ∀ x c, g x = some c → c ≠ p.block) (u : Value) : Nest Cx Cy q (w.setCell p u) base b g s F sz :=
  ⟨h.outer.setCell hp u, fun x c hc => (h.inner x c hc).setCell (hin x c hc) u, h.apart, h.inj, h.no, h.own⟩
theorem Nest.lt (h : Nest Cx Cy q w base b g s F sz) : b < w.heap.size := h.outer.lt
theorem Nest.in_lt (h : Nest Cx Cy q w base b g s F sz) {x : α} {c : Nat} (hc : g x = some c) : c < w.heap.size := (h.inner x c hc).lt

/-- A block that holds no map is none of its own. -/
theorem Nest.cell_ne (h : Nest Cx Cy q w base b g s F sz) {p : Addr} {v : Value} (hp : w.cell? p = some v) : b ≠ p.block ∧ ∀ x c, g x = some c → c ≠ p.block := by
  have key : ∀ {κ : TypeId} {γ : Type} {C : KeyK P κ γ} {c : Nat} {f : γ → Option Value} {m : Nat}, MapF C w c f m → c ≠ p.block := by
    intro κ γ C c f m hm e
    obtain ⟨D, ⟨es, clock, hes, _⟩, _⟩ := hm
    rw [e] at hes
    simp [World.cell?, hes] at hp
  exact ⟨key h.outer, fun x c hc => key (h.inner x c hc)⟩

/-- A store into x's map. -/
theorem Nest.put [DecidableEq α] [DecidableEq β] (h : Nest Cx Cy q w base b g s F sz) {x : α} {c : Nat} (hc : g x = some c) {y : β} {v : Int} {m : Nat} (h1 : MapF Cy w' c (putF (fun y => (F x y).map (Value.int q)) y (.int q v)) m) (ht : w.mapTurned w' c) :
    Nest Cx Cy q w' base b g s (upd F x (upd (F x) y (some v))) (upd sz x m) where
  outer := h.outer.kept ht.grown (fun e => (h.apart x c hc).2 (Option.some.inj e).symm)
  inner x' c' hc' := by
    by_cases hx : x' = x
    · subst hx
      obtain rfl : c = c' := Option.some.inj (hc.symm.trans hc')
      rw [upd_same, upd_same, ← putF_map]
      exact h1
    · rw [upd_other _ _ hx, upd_other _ _ hx]
      exact (h.inner x' c' hc').kept ht.grown (fun e => hx (h.inj x' x c' hc' ((Option.some.inj e) ▸ hc)))
  apart := h.apart
  inj := h.inj
  no x' y' hx' := by
    have hx : x' ≠ x := fun e => by rw [e, hc] at hx'; cases hx'
    rw [upd_other _ _ hx]
    exact h.no x' y' hx'
  own := h.own

/-- A delete from x's map. -/
theorem Nest.del [DecidableEq α] [DecidableEq β] (h : Nest Cx Cy q w base b g s F sz) {x : α} {c : Nat} (hc : g x = some c) {y : β} {m : Nat} (h1 : MapF Cy w' c (delF (fun y => (F x y).map (Value.int q)) y) m) (ht : w.mapTurned w' c) :
    Nest Cx Cy q w' base b g s (upd F x (upd (F x) y none)) (upd sz x m) where
  outer := h.outer.kept ht.grown (fun e => (h.apart x c hc).2 (Option.some.inj e).symm)
  inner x' c' hc' := by
    by_cases hx : x' = x
    · subst hx
      obtain rfl : c = c' := Option.some.inj (hc.symm.trans hc')
      rw [upd_same, upd_same, ← delF_map]
      exact h1
    · rw [upd_other _ _ hx, upd_other _ _ hx]
      exact (h.inner x' c' hc').kept ht.grown (fun e => hx (h.inj x' x c' hc' ((Option.some.inj e) ▸ hc)))
  apart := h.apart
  inj := h.inj
  no x' y' hx' := by
    have hx : x' ≠ x := fun e => by rw [e, hc] at hx'; cases hx'
    rw [upd_other _ _ hx]
    exact h.no x' y' hx'
  own := h.own

/-- A map of its own, empty or not, becomes x's. -/
theorem Nest.lay [DecidableEq α] (h : Nest Cx Cy q w base b g s F sz) {x : α} {c : Nat} {f : β → Option Int} {m m' : Nat} (hcm : MapF Cy w c (fun y => (f y).map (Value.int q)) m) (hb : base ≤ c) (hcb : c ≠ b) (hnew : ∀ x', g x' ≠ some c)
    (h1 : MapF Cx w' b (putF (fun x => (g x).map fun c => .map (some c)) x (.map (some c))) m') (ht : w.mapTurned w' b) :
    Nest Cx Cy q w' base b (upd g x (some c)) m' (upd F x f) (upd sz x m) where
  outer := by
    rw [← putF_map (fun c => .map (some c)) g x c]
    exact h1
  inner x' c' hc' := by
    by_cases hx : x' = x
    · subst hx
      rw [upd_same] at hc'
      cases hc'
      rw [upd_same, upd_same]
      exact hcm.kept ht.grown (fun e => hcb (Option.some.inj e))
    · rw [upd_other _ _ hx] at hc'
      rw [upd_other _ _ hx, upd_other _ _ hx]
      exact (h.inner x' c' hc').kept ht.grown (fun e => (h.apart x' c' hc').2 (Option.some.inj e))
  apart x' c' hc' := by
    by_cases hx : x' = x
    · subst hx
      rw [upd_same] at hc'
      cases hc'
      exact ⟨hb, hcb⟩
    · rw [upd_other _ _ hx] at hc'
      exact h.apart x' c' hc'
  inj x' x'' c' hc' hc'' := by
    by_cases hx : x' = x
    · by_cases hx' : x'' = x
      · rw [hx, hx']
      · rw [hx, upd_same] at hc'
        rw [upd_other _ _ hx', ← hc'] at hc''
        exact absurd hc'' (hnew x'')
    · rw [upd_other _ _ hx] at hc'
      by_cases hx' : x'' = x
      · rw [hx', upd_same, ← hc'] at hc''
        exact absurd hc''.symm (hnew x')
      · rw [upd_other _ _ hx'] at hc''
        exact h.inj x' x'' c' hc' hc''
  no x' y hx' := by
    have hx : x' ≠ x := fun e => by rw [e, upd_same] at hx'; cases hx'
    rw [upd_other _ _ hx] at hx'
    rw [upd_other _ _ hx]
    exact h.no x' y hx'
  own := h.own

/-- x's map is struck. -/
theorem Nest.strike [DecidableEq α] (h : Nest Cx Cy q w base b g s F sz) {x : α} {m : Nat} (h1 : MapF Cx w' b (delF (fun x => (g x).map fun c => .map (some c)) x) m) (ht : w.mapTurned w' b) :
    Nest Cx Cy q w' base b (upd g x none) m (upd F x fun _ => none) sz where
  outer := by
    rw [← delF_map (fun c => .map (some c)) g x]
    exact h1
  inner x' c' hc' := by
    have hx : x' ≠ x := fun e => by rw [e, upd_same] at hc'; cases hc'
    rw [upd_other _ _ hx] at hc'
    rw [upd_other _ _ hx]
    exact (h.inner x' c' hc').kept ht.grown (fun e => (h.apart x' c' hc').2 (Option.some.inj e))
  apart x' c' hc' := by
    have hx : x' ≠ x := fun e => by rw [e, upd_same] at hc'; cases hc'
    rw [upd_other _ _ hx] at hc'
    exact h.apart x' c' hc'
  inj x' x'' c' hc' hc'' := by
    have hx : x' ≠ x := fun e => by rw [e, upd_same] at hc'; cases hc'
    have hx' : x'' ≠ x := fun e => by rw [e, upd_same] at hc''; cases hc''
    rw [upd_other _ _ hx] at hc'
    rw [upd_other _ _ hx'] at hc''
    exact h.inj x' x'' c' hc' hc''
  no x' y hx' := by
    by_cases hx : x' = x
    · rw [hx, upd_same]
    · rw [upd_other _ _ hx] at hx'
      rw [upd_other _ _ hx]
      exact h.no x' y hx'
  own := h.own

/-- Whether x's map is empty. -/
theorem Nest.empty_iff (h : Nest Cx Cy q w base b g s F sz) {x : α} {c : Nat} (hc : g x = some c) : sz x = 0 ↔ ∀ y, F x y = none := by
  rw [(h.inner x c hc).none_iff]
  constructor
  · intro h y
    have := h y
    simpa using this
  · intro h y
    simp [h y]

end

/-- Two lists that ascend and hold the same are one. -/
theorem asc_unique {α : Type} {R : α → α → Prop} (irr : ∀ x, ¬ R x x) (tr : ∀ {x y z}, R x y → R y z → R x z) : ∀ {l m : List α}, l.Pairwise R → m.Pairwise R → (∀ x, x ∈ l ↔ x ∈ m) → l = m
  | [], [], _, _, _ => rfl
  | [], y :: m, _, _, h => by cases (h y).2 List.mem_cons_self
  | x :: l, [], _, _, h => by cases (h x).1 List.mem_cons_self
  | x :: l, y :: m, hl, hm, h => by
    obtain ⟨l1, l2⟩ := List.pairwise_cons.1 hl
    obtain ⟨m1, m2⟩ := List.pairwise_cons.1 hm
    have hxy : x = y := by
      rcases List.mem_cons.1 ((h x).1 List.mem_cons_self) with e | hx
      · exact e
      · rcases List.mem_cons.1 ((h y).2 List.mem_cons_self) with e | hy
        · exact e.symm
        · exact absurd (tr (m1 x hx) (l1 y hy)) (irr y)
    subst hxy
    congr 1
    refine asc_unique irr tr l2 m2 fun z => ?_
    constructor
    · intro hz
      rcases List.mem_cons.1 ((h z).1 (List.mem_cons_of_mem _ hz)) with e | h'
      · subst e
        exact absurd (l1 z hz) (irr z)
      · exact h'
    · intro hz
      rcases List.mem_cons.1 ((h z).2 (List.mem_cons_of_mem _ hz)) with e | h'
      · subst e
        exact absurd (m1 z hz) (irr z)
      · exact h'

end Go.Proofs.Ytkfcoldjgijpcap
namespace Go.Proofs.Ytkfcoldjgijpcap
open Go.RowKit

section
variable {α : Type} {R : Rec α}

/-- One more, with what is kept. -/
theorem wpList_pushG {P : Program} (w : World) {ops : Array Oper} {rest : List Oper} {o : Oper} {a : Act} {Q : Exit → Act → World → Prop} (hgd : o.guard = none) (s x : Operand) (t : TypeId)
    (ho : o.op = .call { callee := .builtin .append, args := #[s, x], argTypes := #[t, t] })
    (base : Nat) (e : TypeId) (i : TypeInfo) (z : Value) (bytes : Nat) (ht : P.underlying t = some (.slice e)) (hi : P.info? e = some i) (hz : i.zero = some z)
    (hsize : i.size = R.k) (hby : i.bytes = bytes) (hzs : z.cells.size = R.k) (hb1 : bytes ≤ 1000) (v : Value) (xs : List α) (hs : a.eval s = v) (hown : OwnR R w base e v xs)
    (y : α) (cs : Array Value) (hcs : cs.toList = R.enc y) (hx : a.eval x = .slice (some ⟨w.heap.size, 0, none⟩) 1 1)
    (hlen : xs.length + 1 ≤ 1000000000) (hbase : base ≤ w.heap.size)
    (h : ∀ v' w', OwnR R w' base e v' (xs ++ [y]) → w.grownBy w' v.ownBlock → Below base w w' → wpList P ops Q rest (a.put o.dst v') w') :
    wpList P ops Q (o :: rest) a (w.alloc (.cells cs e)) := by
  refine wpList_append_own (w.alloc (.cells cs e)) hgd s x t ho base e i z R.k bytes ht hi hz hsize hby hzs R.pos v xs.length (xs.flatMap R.enc) hs (World.ownsRow.alloc hown _) ⟨w.heap.size, 0, none⟩ 1 1 (R.enc y) hx (by rw [R.len, Nat.one_mul]) ?_ (R.one y) (by unfold maxLen; omega) ?_ (by simp; omega) ?_
  · intro j u hj
    have e1 : (⟨w.heap.size, 0, none⟩ : Addr).add j = ⟨w.heap.size, j, none⟩ := by unfold Addr.add; split <;> simp_all
    rw [e1, cell_of_row (w.alloc (.cells cs e)) w.heap.size j cs e (0, 0) (heap_alloc_new w _)]
    rw [← hcs] at hj
    simpa using hj
  · have h1 : (xs.length + 1) * bytes ≤ 1000000000 * 1000 := Nat.mul_le_mul hlen hb1
    omega
  · intro v' w' h1 h2 _
    refine h v' w' ?_ (grown_trans (World.grownBy_alloc w _ _) h2) ?_
    · unfold OwnR
      rw [List.length_append, List.flatMap_append, List.flatMap_cons, List.flatMap_nil, List.append_nil]
      exact h1
    · exact ((Below.refl base w).alloc hbase _).grown h2 (by simp; omega) (fun k hk => (World.ownsRow.lt hown k hk).1)

/-- A row lies in cells. -/
theorem OwnR.cells {w : World} {base : Nat} {e : TypeId} {v : Value} {l : List α} (h : OwnR R w base e v l) {g : Nat} (hg : v.ownBlock = some g) : ∃ cur, w.heap[g]? = some (.cells cur e (0, 0)) := by
  rcases h.2 with ⟨rfl, _⟩ | ⟨g', cap, cur, rfl, _, hb, _⟩
  · cases hg
  · cases hg
    exact ⟨cur, hb⟩
theorem OwnR.not_nil {w : World} {base : Nat} {e : TypeId} {v : Value} {l : List α} (h : OwnR R w base e v l) (hl : l ≠ []) : v ≠ .slice none 0 0 := by
  rintro rfl
  rcases h.2 with ⟨_, h0⟩ | ⟨g, cap, cur, e, _⟩
  · exact hl (List.length_eq_zero_iff.1 h0)
  · cases e
/-- Rows of two types lie apart. -/
theorem OwnR.ne_row {β : Type} {R' : Rec β} {w : World} {base base' : Nat} {e e' : TypeId} {v v' : Value} {l : List α} {l' : List β} (h : OwnR R w base e v l) (h' : OwnR R' w base' e' v' l') (he : e ≠ e') : v.ownBlock = none ∨ v.ownBlock ≠ v'.ownBlock := by
  rcases hv : v.ownBlock with _ | g
  · exact Or.inl rfl
  · refine Or.inr fun hg => ?_
    obtain ⟨cur, hc⟩ := h.cells hv
    obtain ⟨cur', hc'⟩ := h'.cells hg.symm
    rw [hc] at hc'
    injection hc' with hc'
    injection hc' with _ hc'
    exact he hc'
/-- No row lies where a map does, nor where a range stands. -/
theorem OwnR.ne_map {P : Program} {k : TypeId} {β : Type} {C : KeyK P k β} {w : World} {base b s : Nat} {e : TypeId} {v : Value} {l : List α} {f : β → Option Value} (h : OwnR R w base e v l) (hm : MapF C w b f s) : some b ≠ v.ownBlock := by
  intro hg
  obtain ⟨cur, hc⟩ := h.cells hg.symm
  obtain ⟨D, ⟨es, clock, hes, _⟩, _⟩ := hm
  rw [hes] at hc
  cases hc
theorem OwnR.ne_range {P : Program} {k : TypeId} {β : Type} {C : KeyK P k β} {w : World} {base b r s : Nat} {e : TypeId} {v : Value} {l : List α} {f : β → Option Value} {left : β → Bool} {cnt : Nat} (h : OwnR R w base e v l) (hm : RangeF C w b r f s left cnt) : some r ≠ v.ownBlock := by
  intro hg
  obtain ⟨cur, hc⟩ := h.cells hg.symm
  obtain ⟨D, lf, ⟨es, clock, since, seen, c0, _, _, _, _, hr, _⟩, _⟩ := hm
  rw [hr] at hc
  cases hc
theorem OwnR.ne_or {w : World} {base : Nat} {e : TypeId} {v : Value} {l : List α} (_ : OwnR R w base e v l) {r : Nat} (hne : some r ≠ v.ownBlock) : v.ownBlock = none ∨ v.ownBlock ≠ some r := Or.inr fun e => hne e.symm

end

/-- Rows of ints. -/
def intRec : Rec Int where
  k := 1
  enc := fun x => [.int .i64 x]
  len := fun _ => rfl
  one := fun r u hu => by
    simp only [List.mem_cons, List.not_mem_nil, or_false] at hu
    subst hu
    rfl
  pos := by decide
theorem intRec_flat (zs : List Int) : zs.flatMap intRec.enc = zs.map (Value.int .i64) := by
  induction zs with
  | nil => rfl
  | cons z zs ih =>
    rw [List.flatMap_cons, ih]
    rfl

/-- Ascending order, by the library. -/
def sortZ (zs : List Int) : List Int := zs.mergeSort fun x y => decide (x ≤ y)
theorem sortZ_mem (zs : List Int) (x : Int) : x ∈ sortZ zs ↔ x ∈ zs := List.mem_mergeSort
theorem sortZ_length (zs : List Int) : (sortZ zs).length = zs.length := List.length_mergeSort _
theorem sortZ_asc (zs : List Int) (h : zs.Nodup) : (sortZ zs).Pairwise (· < ·) := by
  have h1 : (sortZ zs).Pairwise (fun x y => decide (x ≤ y) = true) := List.pairwise_mergeSort (fun a b c h1 h2 => by simp at *; omega) (fun a b => by simp; omega) zs
  have h2 : (sortZ zs).Nodup := (List.mergeSort_perm zs _).nodup_iff.2 h
  exact (h1.and h2).imp fun h => by
    obtain ⟨h3, h4⟩ := h
    simp at h3
    omega

/-- What the library leaves behind. -/
theorem OwnR.sorted {w : World} {base : Nat} {e : TypeId} {v : Value} {zs : List Int} (h : OwnR intRec w base e v zs) (hv : v ≠ .slice none 0 0) :
    ∃ g cap, v = .slice (some ⟨g, 0, none⟩) zs.length cap ∧ base ≤ g ∧ g < w.heap.size ∧ Sort.Holds (Value.int .i64) w g 0 zs.toArray ∧
      ∀ n os, OwnR intRec (Sort.grow (Sort.putRow (Value.int .i64) (Sort.ahead w n) g 0 (sortZ zs).toArray) os) base e v (sortZ zs) ∧ w.grownBy (Sort.grow (Sort.putRow (Value.int .i64) (Sort.ahead w n) g 0 (sortZ zs).toArray) os) (some g) := by
  rcases h.2 with ⟨rfl, _⟩ | ⟨g, cap, cur, rfl, hg, hb, h1, h2, h3, h4⟩
  · exact absurd rfl hv
  · have h3' : cur.size = cap * 1 := h3
    have h4' : cur.toList.take zs.length = zs.map (Value.int .i64) := by
      rw [← intRec_flat, ← h4]
      show _ = cur.toList.take (zs.length * 1)
      rw [Nat.mul_one]
    refine ⟨g, cap, rfl, hg, (Array.getElem?_eq_some_iff.1 hb).1, holds_of_blockI hb h4', fun n os => ⟨?_, grownBy_sortedI _⟩⟩
    unfold OwnR
    rw [intRec_flat, sortZ_length]
    exact ownsRow_sortedI (sortZ_length zs) hg hb h1 h2 h3'

end Go.Proofs.Ytkfcoldjgijpcap

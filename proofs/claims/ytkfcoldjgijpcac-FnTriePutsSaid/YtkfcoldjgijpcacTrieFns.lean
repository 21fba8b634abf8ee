/-
  The program's trees of bits as contracts; what the laws on them hold while they go on.
-/
import Derived.Test.YtkfcoldjgijpcacTrieOfSpec
import Derived.Test.YtkfcoldjgijpcacLookSpec
import Derived.Test.YtkfcoldjgijpcacDrawRoutes
import Derived.Test.YtkfcoldjgijpcacDrawTexts
import Derived.Test.YtkfcoldjgijpcacLawLongestWalk
import Derived.Test.YtkfcoldjgijpcacKitMap
namespace Go.Proofs.Ytkfcoldjgijpcac
open Go.RowKit

abbrev TrT0 : TypeId := 44
abbrev IT0 : TypeId := 3

/-- The program's functions of trees answer what the plain functions say. -/
structure TrieFns (L : World → Prop) : Prop where
  stays : ∀ X Y, L X → Below X.heap.size X Y → L Y
  new : ∀ X, L X → Calls Try.prog 22 #[] X fun e X' => OutT layTwigS X [tw0] e X'
  of : ∀ (v : Value) (xs : List Rt), xs.length ≤ 2000000 → ∀ X, L X → RowR rtRec X v xs → Calls Try.prog 19 #[v] X fun e X' => ∃ r, ((RoutesP xs ∧ r = trieOfP xs) ∨ (¬ RoutesP xs ∧ r = [])) ∧ OutT layTwigS X r e X'
  ok : ∀ (v : Value) (t : List Tw), t.length ≤ 2000000 → ∀ X, L X → layTwigS.rd X [v] t → Calls Try.prog 21 #[.agg #[v]] X fun e X' => TrieTold t e ∧ Below X.heap.size X X'
  yes : ∀ (v : Value) (t : List Tw) (a : Nat), TrieOkP t → a ≤ 4294967295 → ∀ X, L X → layTwigS.rd X [v] t → Calls Try.prog 20 #[.agg #[v], .int .i64 a] X fun e X' => e = .returned (.int .i64 (findP t a)) ∧ Below X.heap.size X X'
  put : ∀ (v : Value) (t : List Tw) (a n p : Int), t.length ≤ 2000000 → (Lit.int .i64 a).wf = true → (Lit.int .i64 n).wf = true → (Lit.int .i64 p).wf = true → ∀ X, L X → layTwigS.rd X [v] t → Calls Try.prog 23 #[.agg #[v], .agg #[.int .i64 a, .int .i64 n], .int .i64 p] X fun e X' => PutGives t a n p X e X'

theorem new_ok : TrieOkP [tw0] := ⟨new_right, by decide⟩
theorem new_find (x : Nat) : findP [tw0] x = 0 := by
  unfold findP
  have h : ∀ bs : List Nat, findT [tw0] 0 0 bs = 0 := fun bs => by
    cases bs with
    | nil => rfl
    | cons b bs =>
      rw [findT, if_pos]
      show kidOf tw0 b = 0
      exact kid_zero b
  exact h _
theorem tree_ok (xs : List Rt) (h : RoutesP xs) : TrieOkP (trieOfP xs) := by
  obtain ⟨h1, h2, h3⟩ := (routesP_iff xs).1 h
  obtain ⟨t1, t2⟩ := trieOf_right xs h1
  exact ⟨t1, by omega⟩

section
variable {α : Type} {R : Rec α}
/-- Several more, with what is kept. -/
theorem wpList_pushL {P : Program} (w : World) {ops : Array Oper} {rest : List Oper} {o : Oper} {a : Act} {Q : Exit → Act → World → Prop} (hgd : o.guard = none) (s x : Operand) (t : TypeId)
    (ho : o.op = .call { callee := .builtin .append, args := #[s, x], argTypes := #[t, t] })
    (base : Nat) (e : TypeId) (i : TypeInfo) (z : Value) (bytes : Nat) (ht : P.underlying t = some (.slice e)) (hi : P.info? e = some i) (hz : i.zero = some z)
    (hsize : i.size = R.k) (hby : i.bytes = bytes) (hzs : z.cells.size = R.k) (hb1 : bytes ≤ 1000) (v : Value) (xs : List α) (hs : a.eval s = v) (hown : OwnR R w base e v xs)
    (ys : List α) (m : Nat) (hm : ys.length = m) (cs : Array Value) (hcs : cs.toList = ys.flatMap R.enc) (hx : a.eval x = .slice (some ⟨w.heap.size, 0, none⟩) m m)
    (hlen : xs.length + ys.length ≤ 1000000000) (hbase : base ≤ w.heap.size)
    (h : ∀ v' w', OwnR R w' base e v' (xs ++ ys) → w.grownBy w' v.ownBlock → Below base w w' → wpList P ops Q rest (a.put o.dst v') w') :
    wpList P ops Q (o :: rest) a (w.alloc (.cells cs e)) := by
  subst hm
  refine wpList_append_own (w.alloc (.cells cs e)) hgd s x t ho base e i z R.k bytes ht hi hz hsize hby hzs R.pos v xs.length (xs.flatMap R.enc) hs (World.ownsRow.alloc hown _) ⟨w.heap.size, 0, none⟩ ys.length ys.length (ys.flatMap R.enc) hx (R.flat_length ys) ?_ ?_ (by unfold maxLen; omega) ?_ (by simp; omega) ?_
  · intro j u hj
    have e1 : (⟨w.heap.size, 0, none⟩ : Addr).add j = ⟨w.heap.size, j, none⟩ := by unfold Addr.add; split <;> simp_all
    rw [e1, cell_of_row (w.alloc (.cells cs e)) w.heap.size j cs e (0, 0) (heap_alloc_new w _)]
    rw [← hcs] at hj
    simpa using hj
  · intro u hu
    obtain ⟨y, _, hy⟩ := List.mem_flatMap.1 hu
    exact R.one y u hy
  · have h1 : (xs.length + ys.length) * bytes ≤ 1000000000 * 1000 := Nat.mul_le_mul hlen hb1
    omega
  · intro v' w' h1 h2 _
    refine h v' w' ?_ (grown_trans (World.grownBy_alloc w _ _) h2) ?_
    · unfold OwnR
      rw [List.length_append, List.flatMap_append]
      exact h1
    · exact ((Below.refl base w).alloc hbase _).grown h2 (by simp; omega) (fun k hk => (World.ownsRow.lt hown k hk).1)

/-- A row and a variable of another type lie apart. -/
theorem OwnR.ne_var {w : World} {base b : Nat} {e t : TypeId} {v : Value} {l : List α} {cs : Array Value} (h : OwnR R w base e v l) (hv : VarA b t cs w) (he : e ≠ t) : some b ≠ v.ownBlock := by
  intro hg
  obtain ⟨cur, hc⟩ := h.cells hg.symm
  rw [hv.row] at hc
  injection hc with hc
  injection hc with _ hc
  exact he hc.symm
theorem VarA.grown {w w' : World} {b : Nat} {t : TypeId} {cs : Array Value} {r : Option Nat} (hv : VarA b t cs w) (hg : w.grownBy w' r) (hr : some b ≠ r) : VarA b t cs w' := ⟨(hg.block b hv.lt hr).trans hv.row⟩
end

/-- A tree's row is kept where a row of another type grows. -/
theorem twig_keep {α : Type} {R : Rec α} {X Y : World} {b base : Nat} {fp : List Nat} {v sv : Value} {t : List Tw} {l : List α} {e : TypeId} (h : layTwigS.own X b fp [v] t) (hr : OwnR R X base e sv l) (he : TwigT ≠ e) (hg : X.grownBy Y sv.ownBlock) : layTwigS.own Y b fp [v] t := by
  obtain ⟨us, ho, hrd, rfl⟩ := flat_inv flatTwig h
  have hne : v.ownBlock = none ∨ v.ownBlock ≠ sv.ownBlock := by
    rcases hv : v.ownBlock with _ | g
    · exact Or.inl rfl
    · refine Or.inr fun hg' => ?_
      obtain ⟨cur', hc'⟩ := hr.cells hg'.symm
      rcases ho.2 with ⟨rfl, _⟩ | ⟨g', cap, cur, rfl, _, hb, _⟩
      · cases hv
      · cases hv
        rw [hb] at hc'
        injection hc' with hc'
        injection hc' with _ hc'
        exact he hc'
  exact flat_own flatTwig (World.ownsRow.kept ho hg hne) (flatTwig.all hrd)

/-- The variable of a tree, the tree, the routes, the addresses. -/
structure TV (w : World) (gt : Nat) (tv lv sv : Value) (fp : List Nat) (t : List Tw) (xs : List Rt) (ss : List Int) (X : World) : Prop where
  var : VarA gt TrT0 #[tv] X
  tree : layTwigS.own X w.heap.size fp [tv] t
  list : OwnR rtRec X w.heap.size RT3 lv xs
  adrs : OwnR intRec X w.heap.size IT0 sv ss
  below : Below w.heap.size w X
theorem TV.next {w : World} {gt : Nat} {tv lv sv : Value} {fp : List Nat} {t : List Tw} {xs : List Rt} {ss : List Int} {X Y : World} (h : TV w gt tv lv sv fp t xs ss X) (hb : Below X.heap.size X Y) : TV w gt tv lv sv fp t xs ss Y :=
  ⟨h.var.next hb, layTwigS.next h.tree hb, h.list.below hb, h.adrs.below hb, h.below.trans (hb.mono h.below.size)⟩
theorem TV.drew {w : World} {gt : Nat} {tv lv sv : Value} {fp : List Nat} {t : List Tw} {xs : List Rt} {ss : List Int} {X : World} (h : TV w gt tv lv sv fp t xs ss X) : TV w gt tv lv sv fp t xs ss X.drew := h.next ((Below.refl _ X).drew)
theorem TV.push {w : World} {gt : Nat} {tv lv sv sv' : Value} {fp : List Nat} {t : List Tw} {xs : List Rt} {ss ss' : List Int} {X Y : World} (h : TV w gt tv lv sv fp t xs ss X) (ho : OwnR intRec Y w.heap.size IT0 sv' ss') (hg : X.grownBy Y sv.ownBlock) (hb : Below w.heap.size X Y) : TV w gt tv lv sv' fp t xs ss' Y :=
  ⟨h.var.grown hg (h.adrs.ne_var h.var (by decide)), twig_keep h.tree h.adrs (by decide) hg, h.list.kept hg (h.list.ne_row h.adrs (by decide)), ho, h.below.trans hb⟩
theorem TV.two {w : World} {gt : Nat} {tv lv sv : Value} {fp : List Nat} {t : List Tw} {xs : List Rt} {ss : List Int} {X : World} (h : TV w gt tv lv sv fp t xs ss X) {p : Addr} {u : Value} (hp : X.cell? p = some u) : X.cell? ⟨gt, 0, none⟩ = some tv ∧ X.cell? p = some u ∧ TV w gt tv lv sv fp t xs ss X := ⟨h.var.cell 0, hp, h⟩
theorem TV.after {w : World} {gt : Nat} {tv lv sv : Value} {fp : List Nat} {t : List Tw} {xs : List Rt} {ss : List Int} {X Y : World} {p : Addr} {u : Value} (h : X.cell? ⟨gt, 0, none⟩ = some tv ∧ X.cell? p = some u ∧ TV w gt tv lv sv fp t xs ss X) (hb : Below X.heap.size X Y) : Y.cell? ⟨gt, 0, none⟩ = some tv ∧ Y.cell? p = some u ∧ TV w gt tv lv sv fp t xs ss Y :=
  (h.2.2.next hb).two (by rw [hb.cell (p := p) (cell_size h.2.1)]; exact h.2.1)

end Go.Proofs.Ytkfcoldjgijpcac

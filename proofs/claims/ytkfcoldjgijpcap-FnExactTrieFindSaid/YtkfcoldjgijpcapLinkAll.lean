/-
  The program's linked twigs: bits of an address, places, ways, one more twig.
  A tree's twigs are linked.
  Linked twigs are told as a tree.
-/
import Derived.Test.YtkfcoldjgijpcapKitLay
import Derived.Test.YtkfcoldjgijpcapTrieFindSpec
import Derived.Test.YtkfcoldjgijpcapKitMap
import Derived.Test.YtkfcoldjgijpcapTriePutSpec
import Derived.Test.YtkfcoldjgijpcapPlainTrieLook
namespace Go.Proofs.Ytkfcoldjgijpcap
open Go.RowKit

abbrev LkT : TypeId := 95
abbrev LpT : TypeId := 92

set_option maxRecDepth 100000 in
theorem addrBit_any (a k : Nat) (ha : a ≤ 4294967295) (hk : k < 32) (w : World) :
    Calls Try.prog 60 #[.int .i64 a, .int .i64 k] w fun e w' => e = .returned (.int .i64 (bitP a k : Nat)) ∧ w' = w := by
  have h1 : IntKind.i64.wrap ((31 : Int) - (k : Int)) = ((31 - k : Nat) : Int) := by rw [IntKind.wrap_i64]; omega
  have h2 : ((a : Nat) : Int) / 2 ^ min (31 - k) 64 = ((a / 2 ^ (31 - k) : Nat) : Int) := by
    rw [Nat.min_eq_left (by omega)]
    simp
  have h3 := and_one (a / 2 ^ (31 - k)) (by have := Nat.div_le_self a (2 ^ (31 - k)); omega)
  have h4 : a / 2 ^ (31 - k) % 2 = bitP a k := rfl
  rw [h4] at h3
  have h5 : (0 : Int) ≤ ((31 - k : Nat) : Int) := by omega
  generalize a / 2 ^ (31 - k) = q at h2 h3
  generalize 31 - k = r at h1 h2 h5
  clear h4
  go_enter Try.func60, Try.ntmps60
  go_wp2_with fail
  go_ret
  exact ⟨rfl, rfl⟩

theorem isTwigTo_yes (p : Int) (h0 : 0 ≤ p) (h1 : p ≤ 99) (w : World) : Calls Try.prog 33 #[.int .i64 p] w fun e w' => e = .returned (.bool true) ∧ w' = w := by
  go_enter Try.func33, Try.ntmps33
  go_wp2_with fail
  go_ret
  exact ⟨rfl, rfl⟩
theorem isTwigTo_no (p : Int) (h : ¬ (0 ≤ p ∧ p ≤ 99)) (w : World) : Calls Try.prog 33 #[.int .i64 p] w fun e w' => e = .returned (.bool false) ∧ w' = w := by
  by_cases h0 : 0 ≤ p
  · have h1 : ¬ p ≤ 99 := fun h1 => h ⟨h0, h1⟩
    clear h
    go_enter Try.func33, Try.ntmps33
    go_wp2_with fail
    go_ret
    exact ⟨rfl, rfl⟩
  · clear h
    go_enter Try.func33, Try.ntmps33
    go_wp2_with fail
    go_ret
    exact ⟨rfl, rfl⟩

theorem placeOf_nil (w : World) : Calls Try.prog 61 #[.pointer none] w fun e w' => e = .returned (.int .i64 0) ∧ w' = w := by
  go_enter Try.func61, Try.ntmps61
  go_wp2_with fail
  go_ret
  exact ⟨rfl, rfl⟩
theorem placeOf_at (b : Nat) (z : Int) (w : World) (h : w.cell? ⟨b, 0, none⟩ = some (.int .i64 z)) : Calls Try.prog 61 #[.pointer (some ⟨b, 0, none⟩)] w fun e w' => e = .returned (.int .i64 z) ∧ w' = w := by
  go_enter Try.func61, Try.ntmps61
  go_wp2_with fail
  go_ret
  exact ⟨rfl, rfl⟩
theorem way_zero (b : Nat) (w : World) : Calls Try.prog 59 #[.pointer (some ⟨b, 0, none⟩), .int .i64 0] w fun e w' => e = .returned (.pointer (some ⟨b, 1, none⟩)) ∧ w' = w := by
  go_enter Try.func59, Try.ntmps59
  go_wp2_with fail
  go_ret
  exact ⟨rfl, rfl⟩
theorem way_one (b : Nat) (w : World) : Calls Try.prog 59 #[.pointer (some ⟨b, 0, none⟩), .int .i64 1] w fun e w' => e = .returned (.pointer (some ⟨b, 2, none⟩)) ∧ w' = w := by
  go_enter Try.func59, Try.ntmps59
  go_wp2_with fail
  go_ret
  exact ⟨rfl, rfl⟩
theorem named_any (pg n pc : Nat) (z : Int) (q : Option Addr) (w : World) (h : (z = 0 ∧ q = none) ∨ ∃ m : Nat, z = (m : Int) ∧ m ≠ 0 ∧ m < n ∧ w.cell? ⟨pg, m, none⟩ = some (.pointer q)) :
    Calls Try.prog 58 #[.slice (some ⟨pg, 0, none⟩) n pc, .int .i64 z] w fun e w' => e = .returned (.pointer q) ∧ w' = w := by
  rcases h with ⟨rfl, rfl⟩ | ⟨m, rfl, h0, hm, hc⟩
  · go_enter Try.func58, Try.ntmps58
    go_wp2_with fail
    go_ret
    exact ⟨rfl, rfl⟩
  · have h0' : ((m : Int) == 0) = false := by rw [beq_eq_false_iff_ne]; omega
    have hm' : (m : Int) < (n : Int) := by omega
    go_enter Try.func58, Try.ntmps58
    go_wp2_with fail
    go_ret
    exact ⟨rfl, rfl⟩

/-- What a linked twig holds. -/
def linkA (t : List Tw) (bs : List Nat) (i : Nat) : Array Value := #[.int .i64 (i : Nat), ptrAt bs (atT t i).1, ptrAt bs (atT t i).2.1, .int .i64 (atT t i).2.2]
/-- What it holds ahead of the links, of the first only those of the first k. -/
def partA (t : List Tw) (bs : List Nat) (k : Nat) (i : Nat) : Array Value := if i < k then linkA t bs i else #[.int .i64 (i : Nat), .pointer none, .pointer none, .int .i64 (atT t i).2.2]
theorem OwnR.ne_varP {α : Type} {R : Rec α} {w : World} {base b : Nat} {e t : TypeId} {v : Value} {l : List α} {cs : Array Value} (h : OwnR R w base e v l) (hv : VarA b t cs w) (he : e ≠ t) : some b ≠ v.ownBlock := by
  intro hg
  obtain ⟨cur, hc⟩ := h.cells hg.symm
  rw [hv.row] at hc
  injection hc with hc
  injection hc with _ hc
  exact he hc.symm
theorem infoLp : (Try.prog.info? LpT).map (fun i => (i.zero.map (·.cells.size), i.size, i.bytes)) = some (some 1, 1, 8) := by kernel_rfl
theorem ptr_some (bs : List Nat) (z : Int) (j : Nat) (b : Nat) (hz : z = (j : Int)) (h0 : z ≠ 0) (hb : bs[j]? = some b) : ptrAt bs z = .pointer (some ⟨b, 0, none⟩) := by
  unfold ptrAt
  rw [if_neg h0, hz, Int.toNat_natCast, List.getD_eq_getElem?_getD, hb]
  rfl
theorem ptr_none (bs : List Nat) (z : Int) (h : z = 0) : ptrAt bs z = .pointer none := by
  unfold ptrAt
  rw [if_pos h]
theorem var_ne {X : World} {b c : Nat} {T U : TypeId} {xs ys : Array Value} (h : VarA b T xs X) (k : VarA c U ys X) (hT : T ≠ U) : b ≠ c := by
  intro e
  subst e
  have := h.row.symm.trans k.row
  injection this with this
  injection this with _ this
  exact hT this
theorem own_ptr {X : World} {base pg pc : Nat} {bs : List Nat} (h : OwnR ptrRec X base LpT (.slice (some ⟨pg, 0, none⟩) bs.length pc) bs) {i b : Nat} (hi : bs[i]? = some b) : X.cell? ⟨pg, i, none⟩ = some (.pointer (some ⟨b, 0, none⟩)) := by
  obtain ⟨po, pc', hv, hf⟩ := h.row.form
  injection hv with hv1 _ _
  subst hv1
  obtain ⟨g', e, _, hc⟩ := hf (by have := (List.getElem?_eq_some_iff.1 hi).1; omega)
  have e2 : pg = g' := by injection e with e; injection e
  subst e2
  have := hc i 0 b hi (by decide)
  have e1 : ptrRec.k * i + 0 = i := by show 1 * i + 0 = i; omega
  rw [e1] at this
  exact this

set_option maxRecDepth 100000 in
set_option maxHeartbeats 800000 in
/-- One twig more. -/
theorem grown_any (base : Nat) (v : Value) (bs : List Nat) (f : Nat → Array Value) (z : Int) (w : World) (hO : OwnR ptrRec w base LpT v bs) (hN : Nodes LkT w base bs f) (hl : bs.length ≤ 100000) (hb : base ≤ w.heap.size) :
    Calls Try.prog 57 #[v, .int .i64 z] w fun e w' => ∃ v', e = .returned v' ∧ OwnR ptrRec w' base LpT v' (bs ++ [w.heap.size]) ∧ Nodes LkT w' base (bs ++ [w.heap.size]) (fun i => if i = bs.length then #[.int .i64 (bs.length : Nat), .pointer none, .pointer none, .int .i64 z] else f i) ∧ w.grownBy w' v.ownBlock ∧ Below base w w' := by
  obtain ⟨po, pc, rfl, _⟩ := hO.row.form
  obtain ⟨i1, z1, hi1, hz1, hzs1, hsz1, hby1⟩ := info_rec infoLp
  have HNp := Lib.hid (hN.push hb #[.int .i64 (bs.length : Nat), .pointer none, .pointer none, .int .i64 z])
  have HO' := Lib.hid (hO.alloc (.cells #[.int .i64 (bs.length : Nat), .pointer none, .pointer none, .int .i64 z] LkT))
  have hs : base ≤ (w.alloc (.cells #[.int .i64 (bs.length : Nat), .pointer none, .pointer none, .int .i64 z] LkT)).heap.size := by simp; omega
  have HB := Lib.hid ((Below.refl base w).alloc hb (.cells #[.int .i64 (bs.length : Nat), .pointer none, .pointer none, .int .i64 z] LkT))
  clear hO hN
  go_enter Try.func57, Try.ntmps57
  go_wp2_with (at_builtin; refine wpList_pushG (w.alloc (.cells #[.int .i64 (bs.length : Nat), .pointer none, .pointer none, .int .i64 z] LkT)) rfl _ _ 70 rfl base LpT i1 z1 8 Try.underlying70 hi1 hz1 hsz1 hby1 hzs1 (by decide) _ bs rfl HO'.out w.heap.size _ rfl (by simp; rfl) (by omega) hs ?_; intro o2 w2 hO2 hg2 hb2)
  go_ret
  exact ⟨_, rfl, hO2, HNp.out.grown HO'.out (by decide) hg2, grown_trans (World.grownBy_alloc w _ _) hg2, HB.out.trans hb2⟩

end Go.Proofs.Ytkfcoldjgijpcap
namespace Go.Proofs.Ytkfcoldjgijpcap
open Go.RowKit

abbrev ItT : TypeId := 24

/-- While the links are set. -/
structure LP (w : World) (ao : Option Addr) (tl cp pg pc q : Nat) (bs : List Nat) (z0 z1 z2 : Int) (f : Nat → Array Value) (X : World) : Prop where
  nodes : Nodes LkT X w.heap.size bs f
  row : OwnR ptrRec X w.heap.size LpT (.slice (some ⟨pg, 0, none⟩) bs.length pc) bs
  avar : VarA w.heap.size ItT #[.slice ao tl cp] X
  box : VarA q TwigT #[.int .i64 z0, .int .i64 z1, .int .i64 z2] X
  below : Below w.heap.size w X
theorem LP.set {w : World} {ao : Option Addr} {tl cp pg pc q : Nat} {bs : List Nat} {z0 z1 z2 : Int} {f : Nat → Array Value} {X : World} (h : LP w ao tl cp pg pc q bs z0 z1 z2 f X) {i b : Nat} (hi : bs[i]? = some b) (j : Nat) (v : Value) :
    LP w ao tl cp pg pc q bs z0 z1 z2 (fun k => if k = i then (f i).setIfInBounds j v else f k) (X.setCell ⟨b, j, none⟩ v) := by
  have hv := h.nodes.node i b hi
  refine ⟨h.nodes.set hi j v, ?_, h.avar.off j v (fun e => var_ne h.avar hv (by decide) e), h.box.off j v (fun e => var_ne h.box hv (by decide) e), h.below.trans (h.nodes.set_below hi j v)⟩
  obtain ⟨cur, hc⟩ := h.row.cells (g := pg) rfl
  have hne : pg ≠ b := by
    intro e
    subst e
    rw [hv.row] at hc
    injection hc with hc
    injection hc with _ hc
    exact absurd hc (by decide)
  have hc2 := Chg.cell X b j v
  have hk := h.row
  unfold OwnR at hk ⊢
  exact ownsRow_keep hk (hc2.block pg (Array.getElem?_eq_some_iff.1 hc).1 (by simp; exact hne))
theorem LP.drew {w : World} {ao : Option Addr} {tl cp pg pc q : Nat} {bs : List Nat} {z0 z1 z2 : Int} {f : Nat → Array Value} {X : World} (h : LP w ao tl cp pg pc q bs z0 z1 z2 f X) : LP w ao tl cp pg pc q bs z0 z1 z2 f X.drew :=
  ⟨h.nodes.drew, h.row.below ((Below.refl _ X).drew), h.avar.drew, h.box.drew, h.below.drew⟩
theorem LP.congr {w : World} {ao : Option Addr} {tl cp pg pc q : Nat} {bs : List Nat} {z0 z1 z2 : Int} {f g : Nat → Array Value} {X : World} (h : LP w ao tl cp pg pc q bs z0 z1 z2 f X) (e : ∀ i, f i = g i) : LP w ao tl cp pg pc q bs z0 z1 z2 g X :=
  ⟨h.nodes.congr (fun i _ => e i), h.row, h.avar, h.box, h.below⟩
/-- The pointer to a twig that is named, as the program finds it. -/
theorem LP.named {w : World} {ao : Option Addr} {tl cp pg pc q : Nat} {bs : List Nat} {z0 z1 z2 : Int} {f : Nat → Array Value} {X : World} (h : LP w ao tl cp pg pc q bs z0 z1 z2 f X) (y : Int) (hy : y = 0 ∨ ∃ m : Nat, y = (m : Int) ∧ m ≠ 0 ∧ m < bs.length) (p : Option Addr) (hp : ptrAt bs y = .pointer p) :
    Calls Try.prog 58 #[.slice (some ⟨pg, 0, none⟩) bs.length pc, .int .i64 y] X fun e w' => e = .returned (.pointer p) ∧ w' = X := by
  refine named_any pg bs.length pc y p X ?_
  rcases hy with rfl | ⟨m, rfl, h0, hm⟩
  · rw [ptr_none bs 0 rfl] at hp
    injection hp with hp
    exact .inl ⟨rfl, hp.symm⟩
  · obtain ⟨b, hb⟩ : ∃ b, bs[m]? = some b := ⟨_, List.getElem?_eq_getElem hm⟩
    rw [ptr_some bs _ m b rfl (by omega) hb] at hp
    injection hp with hp
    exact .inr ⟨m, rfl, h0, hm, by rw [← hp]; exact own_ptr h.row hb⟩

set_option maxRecDepth 100000 in
set_option maxHeartbeats 1600000 in
theorem linksOf_any (v : Value) (t : List Tw) (w : World) (h : layTwigS.rd w [v] t) (ht : TrieOkP t) :
    Calls Try.prog 38 #[.agg #[v]] w fun e w' => ∃ v' bs, e = .returned v' ∧ bs.length = t.length ∧ Nodes LkT w' w.heap.size bs (linkA t bs) ∧ OwnR ptrRec w' w.heap.size LpT v' bs ∧ Below w.heap.size w w' := by
  obtain ⟨ao, cp, rfl⟩ := rows_form h
  have HR := Lib.hid h
  have HK := Lib.hid ht
  have ht4 := ht.2
  obtain ⟨i1, z1, hi1, hz1, hzs1, hsz1, hby1⟩ := info_rec infoLp
  have A0 := Lib.hid (VarA.new w ItT #[.slice ao t.length cp])
  have hB0 : Below w.heap.size w (w.alloc (.cells #[.slice ao t.length cp] ItT)) := (Below.refl _ _).alloc (Nat.le_refl _) _
  have hs0 : (w.alloc (.cells #[.slice ao t.length cp] ItT)).heap.size = w.heap.size + 1 := by simp
  clear h ht
  go_enter Try.func38, Try.ntmps38
  go_upto_region 1 with fail
  generalize w.alloc (.cells #[.slice ao t.length cp] ItT) = X0 at *
  have c0 : X0.cell? ⟨w.heap.size, 0, none⟩ = some (.slice ao t.length cp) := A0.out.cell 0
  have HCL : Hid (∀ X, Below w.heap.size w X → ∀ k, k < t.length → ∃ g off, ao = some ⟨g, off, none⟩ ∧ g < w.heap.size ∧ X.cell? ⟨g, off + k * 3, none⟩ = some (.int .i64 (atT t k).1) ∧ X.cell? ⟨g, off + k * 3 + 1, none⟩ = some (.int .i64 (atT t k).2.1) ∧ X.cell? ⟨g, off + k * 3 + 2, none⟩ = some (.int .i64 (atT t k).2.2)) := fun X hX k hk => by
    obtain ⟨g, off, cs, e1, hg, hr, hc⟩ := rows_elem HR.out k _ (at_get t k hk)
    rw [layTwig_rd] at hr
    subst hr
    exact ⟨g, off, e1, hg, by rw [hX.cell (p := ⟨g, off + k * 3, none⟩) hg]; exact hc 0 _ rfl, by rw [hX.cell (p := ⟨g, off + k * 3 + 1, none⟩) hg]; exact hc 1 _ rfl, by rw [hX.cell (p := ⟨g, off + k * 3 + 2, none⟩) hg]; exact hc 2 _ rfl⟩
  go_wp2_with (at_make; refine wpList_make_own _ rfl _ _ 70 rfl w.heap.size LpT i1 z1 1 Try.underlying70 hi1 hz1 hsz1 _ _ t.length t.length rfl rfl rfl (by rw [hby1]; omega) (by unfold maxLen; omega) (by omega) ?_; intro X1 hO1 hG1; have c1 : X1.cell? ⟨w.heap.size, 0, none⟩ = some (.slice ao t.length cp) := (World.cell?_of_block (hG1.block w.heap.size (by omega) (by simp))).trans c0)
  have A1 : Hid (VarA w.heap.size ItT #[.slice ao t.length cp] X1) := ⟨(hG1.block w.heap.size (by omega) (by simp)).trans A0.out.row⟩
  have hB1 : Below w.heap.size w X1 := hB0.grown hG1 (by omega) (by simp)
  have hO1' : OwnR ptrRec X1 w.heap.size LpT (.slice (some ⟨w.heap.size + 1, 0, none⟩) 0 t.length) [] := by rw [hs0] at hO1; exact hO1
  have hw1 : w.heap.size + 1 ≤ X1.heap.size := by have := hG1.size; omega
  clear hO1 hG1 c0 c1 A0 hB0 hs0
  go_loopw [3, 15] (fun o c wr => ∃ (k : Nat) (bs : List Nat), k ≤ t.length ∧ c = .int .i64 k ∧ Hid (bs.length = k) ∧ Nodes LkT wr w.heap.size bs (partA t [] 0) ∧ OwnR ptrRec wr w.heap.size LpT o bs ∧ VarA w.heap.size ItT #[.slice ao t.length cp] wr ∧ Below w.heap.size w wr) (fun _ c _ => t.length - (intOf c).toNat)
  case atStart => exact ⟨0, [], Nat.zero_le _, rfl, rfl, Nodes.nil _ _ _ _, hO1', A1.out, hB1⟩
  case round =>
    obtain ⟨k, bs, hk, rfl, HLb, hN, hO, hA, hB⟩ := hrel
    obtain ⟨po, pc, rfl, hpf⟩ := hO.row.form
    have hBs := hB.size
    by_cases hlt : k < t.length
    · have hlt' : (k : Int) < (t.length : Int) := by omega
      obtain ⟨g, off, rfl, hg, d0, d1, d2⟩ := HCL.out wr hB k hlt
      have HN := Lib.hid (hN.alloc (.cells #[.int .i64 (atT t k).1, .int .i64 (atT t k).2.1, .int .i64 (atT t k).2.2] TwigT))
      have HO := Lib.hid (hO.alloc (.cells #[.int .i64 (atT t k).1, .int .i64 (atT t k).2.1, .int .i64 (atT t k).2.2] TwigT))
      have HA := Lib.hid (hA.alloc (.cells #[.int .i64 (atT t k).1, .int .i64 (atT t k).2.1, .int .i64 (atT t k).2.2] TwigT))
      have HBl := Lib.hid (hB.alloc hBs (.cells #[.int .i64 (atT t k).1, .int .i64 (atT t k).2.1, .int .i64 (atT t k).2.2] TwigT))
      have HV := Lib.hid (VarA.new wr TwigT #[.int .i64 (atT t k).1, .int .i64 (atT t k).2.1, .int .i64 (atT t k).2.2])
      have HP : Hid (partA t [] 0 k = #[.int .i64 (k : Nat), .pointer none, .pointer none, .int .i64 (atT t k).2.2]) := by show _ = _; unfold partA; rw [if_neg (by omega)]
      clear hN hO hA hB hpf
      generalize (atT t k).1 = y0 at *
      generalize (atT t k).2.1 = y1 at *
      generalize (atT t k).2.2 = y2 at *
      go_upto_region 5 with fail
      generalize wr.alloc (.cells #[.int .i64 y0, .int .i64 y1, .int .i64 y2] TwigT) = W0 at *
      generalize wr.heap.size = q at *
      have r2 : W0.cell? ⟨q, 2, none⟩ = some (.int .i64 y2) := HV.out.cell 2
      have HG := Lib.hid (grown_any w.heap.size (.slice po bs.length pc) bs (partA t [] 0) y2 W0 HO.out HN.out (by have := HLb.out; omega) HBl.out.size)
      go_wp2_with fail
      refine (HG.out).mono ?_
      rintro e W1 ⟨v', rfl, hO2, hN2, hg2, hb2⟩
      have hA2 : VarA w.heap.size ItT #[.slice (some ⟨g, off, none⟩) t.length cp] W1 := ⟨(hg2.block w.heap.size HA.out.lt (HO.out.ne_varP HA.out (by decide))).trans HA.out.row⟩
      have hN3 : Nodes LkT W1 w.heap.size (bs ++ [W0.heap.size]) (partA t [] 0) := hN2.congr fun i hi => by
        by_cases hik : i = bs.length
        · rw [if_pos hik, hik, HLb.out, HP.out]
        · rw [if_neg hik]
      have hB3 := HBl.out.trans hb2
      clear hN2 hg2 hb2 HG HN HO HA HV
      go_wp2_with fail
      go_roundw
      case rel => exact ⟨k + 1, bs ++ [W0.heap.size], by omega, by go_num, by show _ = _; rw [List.length_append, HLb.out]; rfl, hN3, hO2, hA2, hB3⟩
      case measure => simp [intOf]; omega
    · have hlt' : ¬ ((k : Int) < (t.length : Int)) := by omega
      have hke : k = t.length := by omega
      subst hke
      have a0 : wr.cell? ⟨w.heap.size, 0, none⟩ = some (.slice ao t.length cp) := hA.cell 0
      obtain ⟨pg, rfl, hpg, _⟩ := hpf (by have := HK.out.1.pos; have := HLb.out; omega)
      clear hpf
      go_wp2_with fail
      go_loopw [27] (fun c wr => ∃ k : Nat, k ≤ t.length ∧ c = .int .i64 k ∧ Nodes LkT wr w.heap.size bs (partA t bs k) ∧ OwnR ptrRec wr w.heap.size LpT (.slice (some ⟨pg, 0, none⟩) bs.length pc) bs ∧ VarA w.heap.size ItT #[.slice ao t.length cp] wr ∧ Below w.heap.size w wr) (fun c _ => t.length - (intOf c).toNat)
      case atStart => exact ⟨0, Nat.zero_le _, rfl, hN.congr (fun i _ => by unfold partA; rw [if_neg (by omega), if_neg (by omega)]), hO, hA, hB⟩
      case round =>
        obtain ⟨k, hk2, rfl, hN2, hO2, hA2, hB2⟩ := hrel
        have hBs2 := hB2.size
        clear hN hO hA hB a0
        by_cases hlt : k < t.length
        · have hlt2 : (k : Int) < (t.length : Int) := by omega
          have hlt3 : (k : Int) < (bs.length : Int) := by have := HLb.out; omega
          obtain ⟨g, off, rfl, hg, d0, d1, d2⟩ := HCL.out wr hB2 k hlt
          obtain ⟨bk, hbk⟩ : ∃ b, bs[k]? = some b := ⟨_, List.getElem?_eq_getElem (by have := HLb.out; omega)⟩
          have L0 : Hid (LP w (some ⟨g, off, none⟩) t.length cp pg pc wr.heap.size bs (atT t k).1 (atT t k).2.1 (atT t k).2.2 (partA t bs k) (wr.alloc (.cells #[.int .i64 (atT t k).1, .int .i64 (atT t k).2.1, .int .i64 (atT t k).2.2] TwigT))) := ⟨hN2.alloc _, hO2.alloc _, hA2.alloc _, VarA.new wr TwigT _, hB2.alloc hBs2 _⟩
          have hki0 := HK.out.1.kids k hlt 0
          have hki1 := HK.out.1.kids k hlt 1
          have e0 : kidOf (atT t k) 0 = (atT t k).1 := rfl
          have e1 : kidOf (atT t k) 1 = (atT t k).2.1 := rfl
          rw [e0] at hki0
          rw [e1] at hki1
          have HPT : Hid (partA t bs (k + 1) = fun i => if i = k then #[.int .i64 (k : Int), ptrAt bs (atT t k).1, ptrAt bs (atT t k).2.1, .int .i64 (atT t k).2.2] else partA t bs k i) := by
            show _ = _
            funext i
            unfold partA
            by_cases hik : i = k
            · subst hik
              rw [if_pos (by omega), if_pos rfl]
              rfl
            · rw [if_neg hik]
              by_cases h2 : i < k
              · rw [if_pos (by omega), if_pos h2]
              · rw [if_neg (by omega), if_neg h2]
          have HPK : Hid (partA t bs k k = #[.int .i64 (k : Int), .pointer none, .pointer none, .int .i64 (atT t k).2.2]) := by
            show _ = _
            unfold partA
            rw [if_neg (by omega)]
          clear hN2 hO2 hA2 hB2 e0 e1
          generalize (atT t k).1 = y0 at *
          generalize (atT t k).2.1 = y1 at *
          generalize (atT t k).2.2 = y2 at *
          obtain ⟨p0, HP0⟩ : ∃ p, Hid (ptrAt bs y0 = .pointer p) := ⟨_, rfl⟩
          obtain ⟨p1, HP1⟩ : ∃ p, Hid (ptrAt bs y1 = .pointer p) := ⟨_, rfl⟩
          have HY0 : Hid (y0 = 0 ∨ ∃ m : Nat, y0 = (m : Int) ∧ m ≠ 0 ∧ m < bs.length) := by
            rcases hki0 with h | ⟨m, h1, h2, h3⟩
            · exact .inl h
            · exact .inr ⟨m, h1, by omega, by have := HLb.out; omega⟩
          have HY1 : Hid (y1 = 0 ∨ ∃ m : Nat, y1 = (m : Int) ∧ m ≠ 0 ∧ m < bs.length) := by
            rcases hki1 with h | ⟨m, h1, h2, h3⟩
            · exact .inl h
            · exact .inr ⟨m, h1, by omega, by have := HLb.out; omega⟩
          clear hki0 hki1
          go_upto_region 10 with fail
          clear d0 d1 d2
          generalize wr.alloc (.cells #[.int .i64 y0, .int .i64 y1, .int .i64 y2] TwigT) = W0 at *
          generalize wr.heap.size = q at *
          clear hBs2
          have K0 : Hid (Calls Try.prog 58 #[.slice (some ⟨pg, 0, none⟩) bs.length pc, .int .i64 y0] W0.drew fun e X' => e = .returned (.pointer p0) ∧ X' = W0.drew) := L0.out.drew.named y0 HY0.out p0 HP0.out
          have F0 : Hid (∀ X, LP w (some ⟨g, off, none⟩) t.length cp pg pc q bs y0 y1 y2 (partA t bs k) X → LP w (some ⟨g, off, none⟩) t.length cp pg pc q bs y0 y1 y2 (fun i => if i = k then #[.int .i64 (k : Int), .pointer p0, .pointer none, .int .i64 y2] else partA t bs k i) (X.setCell ⟨bk, 1, none⟩ (.pointer p0))) := fun X hX => (hX.set hbk 1 (.pointer p0)).congr fun i => by
            by_cases hik : i = k
            · rw [if_pos hik, if_pos hik, HPK.out]
              rfl
            · rw [if_neg hik, if_neg hik]
          have G0 : Hid (∀ X, LP w (some ⟨g, off, none⟩) t.length cp pg pc q bs y0 y1 y2 (partA t bs k) X → X.cell? ⟨bk, 1, none⟩ = some (.pointer none) ∧ X.frozen? ⟨bk, 1, none⟩ = false) := fun X hX => ⟨by rw [hX.nodes.cell hbk 1, HPK.out]; rfl, hX.nodes.free hbk 1⟩
          go_wp2_with fail
          go_cut [39] (fun v wx => Hid (LP w (some ⟨g, off, none⟩) t.length cp pg pc q bs y0 y1 y2 (fun i => if i = k then #[.int .i64 (k : Int), .pointer p0, .pointer none, .int .i64 y2] else partA t bs k i) wx))
          case first =>
            have FX := Lib.hid (F0.out _ L0.out.drew)
            have u1 := (G0.out _ L0.out.drew).1
            have u2 := (G0.out _ L0.out.drew).2
            go_region_held3 (fun X => X.cell? ⟨pg, k, none⟩ = some (.pointer (some ⟨bk, 0, none⟩)) ∧ X.cell? ⟨q, 0, none⟩ = some (.int .i64 y0)) (first | (with_reducible assumption) | (exact ⟨own_ptr L0.out.drew.row hbk, L0.out.drew.box.cell 0⟩) | (exact ⟨own_ptr FX.out.row hbk, FX.out.box.cell 0⟩)) (first | (go_at_call 58; refine (K0.out).mono ?_; rintro e v1 ⟨rfl, rfl⟩))
            all_goals
              go_wp2_with fail
              go_meet
              exact FX.out
          case rest =>
            clear L0 K0 F0 G0
            generalize wc = W1 at *
            have L1 := Lib.hid hcut.out
            clear hcut
            obtain ⟨f1, HF⟩ : ∃ f : Nat → Array Value, Hid (f = fun i => if i = k then #[.int .i64 (k : Int), .pointer p0, .pointer none, .int .i64 y2] else partA t bs k i) := ⟨_, rfl⟩
            rw [← HF.out] at L1
            have HFK : Hid (f1 k = #[.int .i64 (k : Int), .pointer p0, .pointer none, .int .i64 y2]) := by
              show _ = _
              rw [HF.out]
              exact if_pos rfl
            have K1 : Hid (Calls Try.prog 58 #[.slice (some ⟨pg, 0, none⟩) bs.length pc, .int .i64 y1] W1.drew fun e X' => e = .returned (.pointer p1) ∧ X' = W1.drew) := L1.out.drew.named y1 HY1.out p1 HP1.out
            have F1 : Hid (∀ X, LP w (some ⟨g, off, none⟩) t.length cp pg pc q bs y0 y1 y2 f1 X → LP w (some ⟨g, off, none⟩) t.length cp pg pc q bs y0 y1 y2 (partA t bs (k + 1)) (X.setCell ⟨bk, 2, none⟩ (.pointer p1))) := fun X hX => (hX.set hbk 2 (.pointer p1)).congr fun i => by
              rw [HPT.out, HP0.out, HP1.out]
              show (if i = k then (f1 k).setIfInBounds 2 (.pointer p1) else f1 i) = (if i = k then #[.int .i64 (k : Int), .pointer p0, .pointer p1, .int .i64 y2] else partA t bs k i)
              by_cases hik : i = k
              · rw [if_pos hik, if_pos hik, HFK.out]
                rfl
              · rw [if_neg hik, if_neg hik, HF.out]
                exact if_neg hik
            have G1 : Hid (∀ X, LP w (some ⟨g, off, none⟩) t.length cp pg pc q bs y0 y1 y2 f1 X → X.cell? ⟨bk, 2, none⟩ = some (.pointer none) ∧ X.frozen? ⟨bk, 2, none⟩ = false) := fun X hX => ⟨by rw [hX.nodes.cell hbk 2, HFK.out]; rfl, hX.nodes.free hbk 2⟩
            have FX := Lib.hid (F1.out _ L1.out.drew)
            have u1 := (G1.out _ L1.out.drew).1
            have u2 := (G1.out _ L1.out.drew).2
            go_wp2_with fail
            go_region_held3 (fun X => X.cell? ⟨pg, k, none⟩ = some (.pointer (some ⟨bk, 0, none⟩)) ∧ X.cell? ⟨q, 1, none⟩ = some (.int .i64 y1)) (first | (with_reducible assumption) | (exact ⟨own_ptr L1.out.drew.row hbk, L1.out.drew.box.cell 1⟩) | (exact ⟨own_ptr FX.out.row hbk, FX.out.box.cell 1⟩)) (first | (go_at_call 58; refine (K1.out).mono ?_; rintro e v1 ⟨rfl, rfl⟩))
            all_goals
              go_wp2_with fail
              go_roundw
              case rel => exact ⟨k + 1, hlt, by go_num, FX.out.nodes, FX.out.row, FX.out.avar, FX.out.below⟩
              case measure => simp [intOf]; omega
        · have hlt2 : ¬ ((k : Int) < (t.length : Int)) := by omega
          have hke : k = t.length := by omega
          subst hke
          go_wp2_with fail
          go_ret
          refine ⟨_, rfl, bs, HLb.out, hN2.congr (fun i hi => ?_), hO2, hB2⟩
          unfold partA
          rw [if_pos (by have := HLb.out; omega)]

end Go.Proofs.Ytkfcoldjgijpcap
namespace Go.Proofs.Ytkfcoldjgijpcap
open Go.RowKit

/-- 'out = append(out, x)' as a step of a region that draws its order, over flat rows. -/
theorem step_pushF {α : Type} {P : Program} {ops : Array Oper} {o : Oper} {a : Act} {W : World} {K : Act → World → Prop} {Q : Exit → Act → World → Prop} {E : Prop}
    (hg : o.guard = none) (s x : Operand) (t : TypeId) (hop : o.op = Op.call { callee := Callee.builtin Builtin.append, args := #[s, x], argTypes := #[t, t] })
    (base : Nat) (e : TypeId) (i : TypeInfo) (z : Value) (bytes : Nat) (A : Lay α) (hf : Flat A) (ht : P.underlying t = some (.slice e)) (hi : P.info? e = some i) (hz : i.zero = some z)
    (hsize : i.size = A.k) (hby : i.bytes = bytes) (hzs : z.cells.size = A.k) (hb1 : bytes ≤ 1000) (v : Value) (f : List Nat) (xs : List α) (hs : a.eval s = v) (hown : (Lay.rows e A).own W base f [v] xs)
    (y : α) (cs : List Value) (hcs : A.rd W cs y) (ad : Addr) (hx : a.eval x = .slice (some ad) 1 1) (hc : ∀ j u, cs[j]? = some u → W.cell? (ad.add j) = some u)
    (hlen : xs.length + 1 ≤ 1000000000) (hbase : base ≤ W.heap.size)
    (hK : ∀ v' w', (Lay.rows e A).own w' base (blk v') [v'] (xs ++ [y]) → v' ≠ .slice none 0 0 → Below base W w' → W.grownBy w' v.ownBlock → K (a.put o.dst v') w') :
    if Region.wanted o (yielded ops a.tmps) = true then Oper.wp P o a W K Q else E := by
  have hw : Region.wanted o (yielded ops a.tmps) = true := by simp [Region.wanted, hg]
  rw [if_pos hw]
  obtain ⟨us, h1, h2, rfl⟩ := flat_inv hf hown
  have hlt : ∀ k, v.ownBlock = some k → base ≤ k := fun k hk => (World.ownsRow.lt h1 k hk).1
  obtain ⟨v', w', hrun, r1, r2, r3⟩ := run_append_own (P := P) W base t o.type e i z A.k bytes ht hi hz hsize hby hzs A.pos v xs.length us h1 ad 1 1 cs (by rw [A.len hcs, Nat.one_mul]) hc (A.one hcs) (by unfold maxLen; omega)
    (by have h1 : (xs.length + 1) * bytes ≤ 1000000000 * 1000 := Nat.mul_le_mul hlen hb1
        omega) hbase
  unfold Oper.wp
  simp [execOp, hop, resolve, invoke, builtin, hs, hx, hrun, Result.andThen]
  refine hK v' w' ?_ (fun e => by have := (r3.1 e).2; omega) (below_grown r2 hlt hbase) r2
  have h6 : w'.ownsRow base e A.k v' (xs ++ [y]).length (us ++ cs) := by rw [List.length_append]; exact r1
  exact flat_own hf h6 (rdAll_join A (hf.all h2) ⟨cs, [], by simp, hf.any _ _ _ _ hcs, rfl⟩)
theorem lit_cells (X : World) (cs : Array Value) (e : TypeId) (j : Nat) (u : Value) (h : cs.toList[j]? = some u) : (X.alloc (.cells cs e)).drew.cell? ((⟨X.heap.size, 0, none⟩ : Addr).add j) = some u := by
  have e1 : (⟨X.heap.size, 0, none⟩ : Addr).add j = ⟨X.heap.size, j, none⟩ := by unfold Addr.add; split <;> simp_all
  show (X.alloc (.cells cs e)).cell? _ = _
  rw [e1, cell_of_row (X.alloc (.cells cs e)) X.heap.size j cs e (0, 0) (heap_alloc_new X _)]
  simpa using h

/-- While a tree is told. -/
structure TD (w : World) (base : Nat) (t : List Tw) (bs : List Nat) (vl : Value) (fp : List Nat) (rs : List Tw) (X : World) : Prop where
  nodes : Nodes LkT X base bs (linkA t bs)
  res : VarA w.heap.size ItT #[.slice none 0 0] X
  own : layTwigS.own X (w.heap.size + 1) fp [vl] rs
  below : Below w.heap.size w X
theorem TD.next {w : World} {base : Nat} {t : List Tw} {bs : List Nat} {vl : Value} {fp : List Nat} {rs : List Tw} {X Y : World} (h : TD w base t bs vl fp rs X) (hb : Below X.heap.size X Y) : TD w base t bs vl fp rs Y :=
  ⟨h.nodes.next hb, h.res.next hb, layTwigS.next h.own hb, h.below.trans (hb.mono h.below.size)⟩
theorem TD.drew {w : World} {base : Nat} {t : List Tw} {bs : List Nat} {vl : Value} {fp : List Nat} {rs : List Tw} {X : World} (h : TD w base t bs vl fp rs X) : TD w base t bs vl fp rs X.drew := h.next ((Below.refl _ X).drew)
theorem TD.alloc {w : World} {base : Nat} {t : List Tw} {bs : List Nat} {vl : Value} {fp : List Nat} {rs : List Tw} {X : World} (h : TD w base t bs vl fp rs X) (o : Obj) : TD w base t bs vl fp rs (X.alloc o) := h.next ((Below.refl _ X).alloc (Nat.le_refl _) o)
theorem TD.push {w : World} {base : Nat} {t : List Tw} {bs : List Nat} {vl v' : Value} {fp fq : List Nat} {rs rs' : List Tw} {W w' : World} (h : TD w base t bs vl fp rs W) (hbs : ∀ b ∈ bs, b < w.heap.size) (ho : layTwigS.own w' (w.heap.size + 1) fq [v'] rs') (hb : Below (w.heap.size + 1) W w') (hg : W.grownBy w' vl.ownBlock) : TD w base t bs v' fq rs' w' := by
  obtain ⟨us, h1, _, rfl⟩ := flat_inv flatTwig h.own
  have hne : ∀ b, some b = vl.ownBlock → w.heap.size + 1 ≤ b := fun b hb => (World.ownsRow.lt h1 b hb.symm).1
  refine ⟨⟨fun i b hi => ?_, h.nodes.dup, h.nodes.own⟩, ⟨?_⟩, ho, h.below.trans (hb.mono (by omega))⟩
  · have hlt := hbs b (List.mem_of_getElem? hi)
    exact ⟨(hg.block b (h.nodes.node i b hi).lt (fun e => by have := hne b e; omega)).trans (h.nodes.node i b hi).row⟩
  · exact (hg.block _ h.res.lt (fun e => by have := hne _ e; omega)).trans h.res.row
theorem TD.place {w : World} {base : Nat} {t : List Tw} {bs : List Nat} {vl : Value} {fp : List Nat} {rs : List Tw} {X : World} (h : TD w base t bs vl fp rs X) (y : Int) (hy : y = 0 ∨ ∃ m : Nat, y = (m : Int) ∧ m ≠ 0 ∧ m < bs.length) (p : Option Addr) (hp : ptrAt bs y = .pointer p) :
    Calls Try.prog 61 #[.pointer p] X fun e w' => e = .returned (.int .i64 y) ∧ w' = X := by
  rcases hy with rfl | ⟨m, rfl, h0, hm⟩
  · rw [ptr_none bs 0 rfl] at hp
    injection hp with hp
    subst hp
    exact placeOf_nil X
  · obtain ⟨b, hb⟩ : ∃ b, bs[m]? = some b := ⟨_, List.getElem?_eq_getElem hm⟩
    rw [ptr_some bs _ m b rfl (by omega) hb] at hp
    injection hp with hp
    subst hp
    exact placeOf_at b m X (h.nodes.cell hb 0)

set_option maxRecDepth 100000 in
set_option maxHeartbeats 1600000 in
theorem told_any (base : Nat) (v : Value) (t : List Tw) (bs : List Nat) (w : World) (hl : bs.length = t.length) (hN : Nodes LkT w base bs (linkA t bs)) (hO : OwnR ptrRec w base LpT v bs) (hR : TrieR t) (ht : t.length ≤ 1000) :
    Calls Try.prog 40 #[v] w fun e w' => ∃ v' fp, e = .returned (.agg #[v']) ∧ fp.Nodup ∧ layTwigS.own w' w.heap.size fp [v'] t ∧ Below w.heap.size w w' := by
  obtain ⟨po, pc, rfl, hpf⟩ := hO.row.form
  have hpos := hR.pos
  obtain ⟨pg, rfl, hpg, _⟩ := hpf (by omega)
  obtain ⟨i0, hi, hz0, hsz0, hby0⟩ := info_of infoTwig
  have HKD : Hid (∀ k, k < t.length → ((atT t k).1 = 0 ∨ ∃ m : Nat, (atT t k).1 = (m : Int) ∧ m ≠ 0 ∧ m < bs.length) ∧ ((atT t k).2.1 = 0 ∨ ∃ m : Nat, (atT t k).2.1 = (m : Int) ∧ m ≠ 0 ∧ m < bs.length)) := fun k hk => by
    have h0 := hR.kids k hk 0
    have h1 := hR.kids k hk 1
    have e0 : kidOf (atT t k) 0 = (atT t k).1 := rfl
    have e1 : kidOf (atT t k) 1 = (atT t k).2.1 := rfl
    rw [e0] at h0
    rw [e1] at h1
    constructor
    · rcases h0 with h | ⟨m, h1, h2, h3⟩
      · exact .inl h
      · exact .inr ⟨m, h1, by omega, by omega⟩
    · rcases h1 with h | ⟨m, h1, h2, h3⟩
      · exact .inl h
      · exact .inr ⟨m, h1, by omega, by omega⟩
  have HO := Lib.hid hO
  have HN := Lib.hid hN
  have HL : Hid (bs.length = t.length) := hl
  have A0 := Lib.hid (VarA.new w ItT #[.slice none 0 0])
  have B0 := Lib.hid ((Below.refl w.heap.size w).alloc (Nat.le_refl _) (.cells #[.slice none 0 0] ItT))
  have hbl : (bs.length : Int) ≤ 1000 := by omega
  have hbn : bs.length ≤ 1000 := by omega
  clear hN hO hl hR hpf
  go_enter Try.func40, Try.ntmps40
  go_upto_region 1 with fail
  generalize w.alloc (.cells #[.slice none 0 0] ItT) = X0 at *
  have hlt0 := A0.out.lt
  go_wp2_with (at_make; refine wpList_make_own _ rfl _ _ 22 rfl (w.heap.size + 1) TwigT i0 _ 3 Try.underlying22 hi hz0 hsz0 _ _ bs.length bs.length rfl rfl rfl (by rw [hby0]; omega) (by unfold maxLen; omega) hlt0 ?_; intro X1 hO1 hG1)
  have hbel : Below X0.heap.size X0 X1 := below_grown hG1 (fun k h => by cases h) (Nat.le_refl _)
  have T1 : Hid (TD w base t bs (.slice (some ⟨X0.heap.size, 0, none⟩) 0 bs.length) [X0.heap.size] [] X1) := ⟨(HN.out.next (B0.out)).next hbel, A0.out.next hbel, flat_own flatTwig hO1 rfl, B0.out.trans (hbel.mono B0.out.size)⟩
  clear hO1 hG1 hbel hlt0 A0 B0
  generalize X0.heap.size = g0 at *
  clear X0
  go_wp2_with fail
  go_loopw [3, 11] (fun o c wr => ∃ (k : Nat) (va : Option Addr) (vc : Nat) (fp : List Nat) (rs : List Tw), k ≤ t.length ∧ c = .int .i64 k ∧ o = .slice va rs.length vc ∧ Hid (rs = t.take k) ∧ fp.Nodup ∧ rs.length ≤ 1000 ∧ TD w base t bs (.slice va rs.length vc) fp rs wr) (fun _ c _ => t.length - (intOf c).toNat)
  case atStart => exact ⟨0, _, _, _, [], Nat.zero_le _, rfl, rfl, rfl, by simp, by simp, T1.out⟩
  case round =>
    clear T1
    obtain ⟨k, va, vc, fp, rs, hk, rfl, rfl, HRS, hfp, hrl, hT⟩ := hrel
    have HT := Lib.hid hT
    clear hT
    by_cases hlt : k < t.length
    · have hlt' : (k : Int) < (bs.length : Int) := by have := HL.out; omega
      have hkb : k < bs.length := by have := HL.out; omega
      obtain ⟨bk, hbk⟩ : ∃ b, bs[k]? = some b := ⟨_, List.getElem?_eq_getElem hkb⟩
      have a1 : wr.cell? ⟨pg, k, none⟩ = some (.pointer (some ⟨bk, 0, none⟩)) := own_ptr (HO.out.below (HT.out.below)) hbk
      have hkd := HKD.out k hlt
      have HTK : Hid (t.take (k + 1) = t.take k ++ [((atT t k).1, (atT t k).2.1, (atT t k).2.2)]) := take_at t k hlt
      have HNC : Hid (∀ X, Nodes LkT X base bs (linkA t bs) → X.cell? ⟨bk, 1, none⟩ = some (ptrAt bs (atT t k).1) ∧ X.cell? ⟨bk, 2, none⟩ = some (ptrAt bs (atT t k).2.1) ∧ X.cell? ⟨bk, 3, none⟩ = some (.int .i64 (atT t k).2.2)) := fun X hX => ⟨hX.cell hbk 1, hX.cell hbk 2, hX.cell hbk 3⟩
      generalize (atT t k).1 = y0 at *
      generalize (atT t k).2.1 = y1 at *
      generalize (atT t k).2.2 = y2 at *
      obtain ⟨p0, HP0⟩ : ∃ p, Hid (ptrAt bs y0 = .pointer p) := ⟨_, rfl⟩
      obtain ⟨p1, HP1⟩ : ∃ p, Hid (ptrAt bs y1 = .pointer p) := ⟨_, rfl⟩
      rw [HP0.out, HP1.out] at HNC
      have K0 : Hid (Calls Try.prog 61 #[.pointer p0] wr.drew fun e X' => e = .returned (.int .i64 y0) ∧ X' = wr.drew) := HT.out.drew.place y0 hkd.1 p0 HP0.out
      have K1 : Hid (Calls Try.prog 61 #[.pointer p1] wr.drew fun e X' => e = .returned (.int .i64 y1) ∧ X' = wr.drew) := HT.out.drew.place y1 hkd.2 p1 HP1.out
      obtain ⟨s1, s2, s3⟩ := HNC.out _ HT.out.drew.nodes
      have TA := Lib.hid ((HT.out.alloc (.cells #[.int .i64 y0, .int .i64 y1, .int .i64 y2] TwigT)).drew)
      have HBW : Hid (∀ b ∈ bs, b < w.heap.size) := fun b hb => HN.out.lt hb
      have hws : w.heap.size < (wr.alloc (.cells #[.int .i64 y0, .int .i64 y1, .int .i64 y2] 58)).drew.heap.size := TA.out.res.lt
      clear hkd
      go_wp2_with fail
      go_region_held3 (fun X => X.cell? ⟨bk, 1, none⟩ = some (.pointer p0) ∧ X.cell? ⟨bk, 2, none⟩ = some (.pointer p1) ∧ X.cell? ⟨bk, 3, none⟩ = some (.int .i64 y2)) (first | (with_reducible assumption) | (with_reducible exact ⟨s1, s2, s3⟩) | (exact HNC.out _ TA.out.nodes)) (first | (go_at_call_of 61 (Value.pointer p0); refine (K0.out).mono ?_; rintro e v1 ⟨rfl, rfl⟩) | (go_at_call_of 61 (Value.pointer p1); refine (K1.out).mono ?_; rintro e v2 ⟨rfl, rfl⟩) | (refine step_pushF rfl (.tmp 15) (.tmp 31) 22 rfl (w.heap.size + 1) TwigT i0 (.agg #[.int .i64 0, .int .i64 0, .int .i64 0]) 24 layTwig flatTwig Try.underlying22 hi hz0 hsz0 hby0 rfl (by omega) (.slice va rs.length vc) fp rs (by rfl) TA.out.own (y0, y1, y2) [.int .i64 y0, .int .i64 y1, .int .i64 y2] (layTwig_rd.2 rfl) ⟨wr.heap.size, 0, none⟩ (by rfl) (lit_cells wr #[.int .i64 y0, .int .i64 y1, .int .i64 y2] TwigT) (by omega) (by omega) ?_; intro v' w' hw1 hw2 hw3 hw4; have HW := Lib.hid (TA.out.push HBW.out hw1 hw3 hw4); have hSn := HNC.out _ HW.out.nodes))
      all_goals
        obtain ⟨va', vc', rfl⟩ := rows_form (layTwigS.read hw1)
        clear hw1 hw3 hw4 TA hSn hws
        go_wp2_with fail
        go_roundw
        case rel => exact ⟨k + 1, va', vc', _, rs ++ [(y0, y1, y2)], by omega, by go_num, rfl, by show _ = _; rw [HTK.out, HRS.out], blk_dup _, by have := HRS.out; rw [List.length_append, this, List.length_take]; simp; omega, HW.out⟩
        case measure => simp [intOf]; omega
    · have hlt' : ¬ ((k : Int) < (bs.length : Int)) := by have := HL.out; omega
      have hke : k = t.length := by omega
      subst hke
      rw [List.take_length] at HRS
      obtain rfl : rs = t := HRS.out
      have r0 : wr.cell? ⟨w.heap.size, 0, none⟩ = some (.slice none 0 0) := HT.out.res.cell 0
      have f0 : wr.frozen? ⟨w.heap.size, 0, none⟩ = false := HT.out.res.free 0
      have j0 := (HT.out.res.set 0 (.slice va rs.length vc)).cell 0
      have FIN : Hid (layTwigS.own (wr.setCell ⟨w.heap.size, 0, none⟩ (.slice va rs.length vc)) w.heap.size fp [.slice va rs.length vc] rs ∧ Below w.heap.size w (wr.setCell ⟨w.heap.size, 0, none⟩ (.slice va rs.length vc))) := by
        have hbl := (layTwigS.blocks HT.out.own)
        exact ⟨layTwigS.lower (layTwigS.chg HT.out.own (Chg.cell _ _ _ _) (fun g hg e => by have := (hbl g hg).1; simp at e; omega)) (by omega), HT.out.below.trans ((Chg.cell wr _ 0 _).below (by simp) HT.out.below.size)⟩
      go_wp2_with fail
      exact bodyPost_ret (v := .agg #[.slice va rs.length vc]) (by simp [results, Try.results40, go_sem, j0]) rfl ⟨_, rfl, fp, hfp, FIN.out.1, FIN.out.2⟩

end Go.Proofs.Ytkfcoldjgijpcap

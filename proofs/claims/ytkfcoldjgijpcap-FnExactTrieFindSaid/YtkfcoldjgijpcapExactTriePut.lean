/-
  The exact law on TriePut, out of one answer that both give.
-/
import Derived.Test.YtkfcoldjgijpcapExactTrieOf
import Derived.Test.YtkfcoldjgijpcapPrefixLay
namespace Go.Proofs.Ytkfcoldjgijpcap
open Go.RowKit

abbrev LTr : TypeId := 31
abbrev LPr : TypeId := 37
/-- The arguments' cells, and what lies below. -/
def SB (V : World) (bt bp : Nat) (va : Value) (pa pn : Int) (X : World) : Prop := X.cell? ⟨bt, 0, none⟩ = some va ∧ X.cell? ⟨bp, 0, none⟩ = some (.int .i64 pa) ∧ X.cell? ⟨bp, 1, none⟩ = some (.int .i64 pn) ∧ Below V.heap.size V X
section
variable {V X Y : World} {bt bp : Nat} {va : Value} {pa pn : Int}
theorem sb_next (h : X.cell? ⟨bt, 0, none⟩ = some va ∧ X.cell? ⟨bp, 0, none⟩ = some (.int .i64 pa) ∧ X.cell? ⟨bp, 1, none⟩ = some (.int .i64 pn) ∧ Below V.heap.size V X) (hb : Below X.heap.size X Y) : Y.cell? ⟨bt, 0, none⟩ = some va ∧ Y.cell? ⟨bp, 0, none⟩ = some (.int .i64 pa) ∧ Y.cell? ⟨bp, 1, none⟩ = some (.int .i64 pn) ∧ Below V.heap.size V Y := by
  obtain ⟨h0, h1, h2, h3⟩ := h
  have hg : bt < X.heap.size := cell_size (p := ⟨bt, 0, none⟩) h0
  have hq : bp < X.heap.size := cell_size (p := ⟨bp, 0, none⟩) h1
  exact ⟨by rw [hb.cell (p := ⟨bt, 0, none⟩) hg]; exact h0, by rw [hb.cell (p := ⟨bp, 0, none⟩) hq]; exact h1, by rw [hb.cell (p := ⟨bp, 1, none⟩) hq]; exact h2, h3.trans (hb.mono h3.size)⟩
theorem sb_drew (h : X.cell? ⟨bt, 0, none⟩ = some va ∧ X.cell? ⟨bp, 0, none⟩ = some (.int .i64 pa) ∧ X.cell? ⟨bp, 1, none⟩ = some (.int .i64 pn) ∧ Below V.heap.size V X) : X.drew.cell? ⟨bt, 0, none⟩ = some va ∧ X.drew.cell? ⟨bp, 0, none⟩ = some (.int .i64 pa) ∧ X.drew.cell? ⟨bp, 1, none⟩ = some (.int .i64 pn) ∧ Below V.heap.size V X.drew := sb_next h ((Below.refl _ X).drew)
theorem sb_alloc (h : X.cell? ⟨bt, 0, none⟩ = some va ∧ X.cell? ⟨bp, 0, none⟩ = some (.int .i64 pa) ∧ X.cell? ⟨bp, 1, none⟩ = some (.int .i64 pn) ∧ Below V.heap.size V X) (o : Obj) : (X.alloc o).cell? ⟨bt, 0, none⟩ = some va ∧ (X.alloc o).cell? ⟨bp, 0, none⟩ = some (.int .i64 pa) ∧ (X.alloc o).cell? ⟨bp, 1, none⟩ = some (.int .i64 pn) ∧ Below V.heap.size V (X.alloc o) := sb_next h ((Below.refl _ X).alloc (Nat.le_refl _) o)
theorem sb_store (h : X.cell? ⟨bt, 0, none⟩ = some va ∧ X.cell? ⟨bp, 0, none⟩ = some (.int .i64 pa) ∧ X.cell? ⟨bp, 1, none⟩ = some (.int .i64 pn) ∧ Below V.heap.size V X) {G : Nat} (hG : V.heap.size ≤ G) (h1 : bt < V.heap.size) (h2 : bp < V.heap.size) (u : Value) : (X.setCell ⟨G, 0, none⟩ u).cell? ⟨bt, 0, none⟩ = some va ∧ (X.setCell ⟨G, 0, none⟩ u).cell? ⟨bp, 0, none⟩ = some (.int .i64 pa) ∧ (X.setCell ⟨G, 0, none⟩ u).cell? ⟨bp, 1, none⟩ = some (.int .i64 pn) ∧ Below V.heap.size V (X.setCell ⟨G, 0, none⟩ u) := by
  obtain ⟨k0, k1, k2, k3⟩ := h
  exact ⟨by rw [World.cell?_setCell_far _ _ _ _ (by show G ≠ bt; omega)]; exact k0, by rw [World.cell?_setCell_far _ _ _ _ (by show G ≠ bp; omega)]; exact k1, by rw [World.cell?_setCell_far _ _ _ _ (by show G ≠ bp; omega)]; exact k2, k3.setCell (p := ⟨G, 0, none⟩) hG u⟩
end

/-- A new variable with a tree of its own. -/
structure NV (V : World) (fu : List Nat) (u : Value) (r : List TwigD) (G : Nat) (Z : World) : Prop where
  var : VarA G TrT #[u] Z
  own : layTwigS.own Z V.heap.size fu [u] r
  dup : fu.Nodup
  off : G ∉ fu
  low : V.heap.size ≤ G
  below : Below V.heap.size V Z
theorem own_off {X : World} {b G : Nat} {fu : List Nat} {u : Value} {r : List TwigD} {cs : Array Value} (h : layTwigS.own X b fu [u] r) (hv : VarA G TrT cs X) : G ∉ fu := by
  obtain ⟨us, ho, _, rfl⟩ := flat_inv flatTwig h
  intro hm
  rcases ho.2 with ⟨rfl, _⟩ | ⟨g', cap, cur, rfl, _, hb, _⟩
  · simp [blk, Value.ownBlock] at hm
  · have : G = g' := by simpa [blk, Value.ownBlock] using hm
    subst this
    rw [hv.row] at hb
    injection hb with hb
    injection hb with _ hb
    exact absurd hb (by decide)
theorem own_base {X : World} {b b' : Nat} {f : List Nat} {v : Value} {t : List TwigD} (h : layTwigS.own X b f [v] t) (hb : b' ≤ b) : layTwigS.own X b' f [v] t := by
  obtain ⟨us, hou, hrd, rfl⟩ := flat_inv flatTwig h
  refine flat_own flatTwig ⟨hou.1, ?_⟩ hrd
  rcases hou.2 with hn | ⟨g, cap, cur, hv, hg, rest⟩
  · exact .inl hn
  · exact .inr ⟨g, cap, cur, hv, Nat.le_trans hb hg, rest⟩
theorem NV.last {V v : World} {fu : List Nat} {u : Value} {r : List TwigD} (ho : layTwigS.own v V.heap.size fu [u] r) (hd : fu.Nodup) (hb : Below V.heap.size V v) : NV V fu u r v.heap.size (v.alloc (.cells #[u] TrT)) :=
  ⟨VarA.new v TrT _, layTwigS.next ho ((Below.refl _ _).alloc (Nat.le_refl _) _), hd, fun h => by have := (layTwigS.blocks ho _ h).2; omega, hb.size, hb.alloc hb.size _⟩
theorem NV.stored {V v : World} {fu : List Nat} {u : Value} {r : List TwigD} {G : Nat} {z : Value} (rr : VarA G TrT #[z] v) (hG : V.heap.size ≤ G) (ho : layTwigS.own v V.heap.size fu [u] r) (hd : fu.Nodup) (hb : Below V.heap.size V v) : NV V fu u r G (v.setCell ⟨G, 0, none⟩ u) :=
  ⟨rr.set 0 u, layTwigS.chg ho (Chg.cell v G 0 u) (fun g hg h => by rw [List.mem_singleton] at h; subst h; exact own_off ho rr hg), hd, own_off ho rr, hG, hb.setCell (p := ⟨G, 0, none⟩) hG u⟩

theorem own_offT {X : World} {T : TypeId} {b G : Nat} {fu : List Nat} {u : Value} {r : List TwigD} {cs : Array Value} (h : layTwigS.own X b fu [u] r) (hv : VarA G T cs X) (hT : T ≠ TwigT) : G ∉ fu := by
  obtain ⟨us, ho, _, rfl⟩ := flat_inv flatTwig h
  intro hm
  rcases ho.2 with ⟨rfl, _⟩ | ⟨g', cap, cur, rfl, _, hb, _⟩
  · simp [blk, Value.ownBlock] at hm
  · have : G = g' := by simpa [blk, Value.ownBlock] using hm
    subst this
    rw [hv.row] at hb
    injection hb with hb
    injection hb with _ hb
    exact hT hb
/-- The arguments' boxes, a reading of the tree, two answers. -/
structure XG (w : World) (bt bp gu gg gx : Nat) (va vu vg vx : Value) (pa pn : Int) (fu fg fx : List Nat) (r s y : List TwigD) (X : World) : Prop where
  abox : VarA bt LTr #[va] X
  pbox : VarA bp LPr #[.int .i64 pa, .int .i64 pn] X
  xvar : VarA gx TrT #[vx] X
  xown : layTwigS.own X w.heap.size fx [vx] y
  dupx : fx.Nodup
  eg : EG w gu gg vu vg fu fg r s X
  xu : ∀ g ∈ fx, g ∉ fu
  xg : ∀ g ∈ fx, g ∉ fg
section
variable {w : World} {bt bp gu gg gx : Nat} {va vu vg vx : Value} {pa pn : Int} {fu fg fx : List Nat} {r s y s' y' : List TwigD} {X Y : World}
theorem XG.next (h : XG w bt bp gu gg gx va vu vg vx pa pn fu fg fx r s y X) (hb : Below X.heap.size X Y) : XG w bt bp gu gg gx va vu vg vx pa pn fu fg fx r s y Y :=
  ⟨h.abox.next hb, h.pbox.next hb, h.xvar.next hb, layTwigS.next h.xown hb, h.dupx, h.eg.next hb, h.xu, h.xg⟩
theorem XG.drew (h : XG w bt bp gu gg gx va vu vg vx pa pn fu fg fx r s y X) : XG w bt bp gu gg gx va vu vg vx pa pn fu fg fx r s y X.drew := h.next ((Below.refl _ X).drew)
theorem XG.markx (h : XG w bt bp gu gg gx va vu vg vx pa pn fu fg fx r s y X) (ho : layTwigS.own Y w.heap.size fx [vx] y') (hc : Chg fx X Y) : XG w bt bp gu gg gx va vu vg vx pa pn fu fg fx r s y' Y :=
  ⟨h.abox.chg hc (own_offT h.xown h.abox (by decide)), h.pbox.chg hc (own_offT h.xown h.pbox (by decide)), h.xvar.chg hc (own_offT h.xown h.xvar (by decide)), ho, h.dupx, h.eg.chg hc (fun g h1 h2 => h.xu g h2 h1) (fun g h1 h2 => h.xg g h2 h1) (own_offT h.xown h.eg.uvar (by decide)) (own_offT h.xown h.eg.gvar (by decide)) (fun g hg => (layTwigS.blocks h.xown g hg).1), h.xu, h.xg⟩
theorem XG.markg (h : XG w bt bp gu gg gx va vu vg vx pa pn fu fg fx r s y X) (ho : layTwigS.own Y w.heap.size fg [vg] s') (hc : Chg fg X Y) : XG w bt bp gu gg gx va vu vg vx pa pn fu fg fx r s' y Y :=
  ⟨h.abox.chg hc (own_offT h.eg.gown h.abox (by decide)), h.pbox.chg hc (own_offT h.eg.gown h.pbox (by decide)), h.xvar.chg hc (own_offT h.eg.gown h.xvar (by decide)), layTwigS.chg h.xown hc h.xg, h.dupx, h.eg.mark ho hc, h.xu, h.xg⟩
end

set_option maxRecDepth 100000 in
set_option maxHeartbeats 6400000 in
/-- The exact law on TriePut, out of one answer that both give. -/
theorem lawTriePutF (L : World → Prop) (stays : ∀ X Y, L X → Below X.heap.size X Y → L Y) (va : Value) (t : List TwigD) (pa pn p : Int) (r : List TwigD) (b : Bool) (hl : t.length ≤ 1048576) (hr : r.length ≤ 10000000)
    (hI : ∀ (v : Value) (X : World), L X → layTwigS.rd X [v] t → Calls Try.prog 19 #[.agg #[v], .agg #[.int .i64 pa, .int .i64 pn], .int .i64 p] X fun e X' => ∃ u fu, e = .returned (.tuple #[.agg #[u], .bool b]) ∧ fu.Nodup ∧ layTwigS.own X' X.heap.size fu [u] r ∧ Below X.heap.size X X')
    (hS : ∀ (v : Value) (X : World), layTwigS.rd X [v] t → Calls Try.prog 17 #[.agg #[v], .agg #[.int .i64 pa, .int .i64 pn], .int .i64 p] X fun e X' => ∃ u fu, e = .returned (.tuple #[.agg #[u], .bool b]) ∧ fu.Nodup ∧ layTwigS.own X' X.heap.size fu [u] r ∧ Below X.heap.size X X')
    (w : World) (ha : layTwigS.rd w [va] t) (ht : L w) :
    Calls Try.prog 5 #[.agg #[va], .agg #[.int .i64 pa, .int .i64 pn], .int .i64 p] w fun e w' => e = .returned (.bool true) ∧ Below w.heap.size w w' := by
  obtain ⟨a, cp, rfl⟩ := rows_form ha
  have HI := Lib.hid hI
  have HS := Lib.hid hS
  have HT : Hid (∀ X, Below w.heap.size w X → L X) := fun X hX => stays w X ht hX
  have TT : Hid (∀ X : World, Below w.heap.size w X → Calls Try.prog 15 #[.agg #[.slice a t.length cp]] X fun e X' => OutT layTwigS X t e X') := fun X hX => toTrie_any _ t X (layTwigS.below ha hX) hl
  have H0 := Lib.hid (szTrie_any a t.length cp (by omega))
  rw [if_neg (by omega)] at H0
  have hneg : ¬ ((1048576 : Int) - (t.length : Int) < 0) := by omega
  have A0 := Lib.hid ((VarA.new w LTr #[.slice a t.length cp]).alloc (.cells #[.int .i64 pa, .int .i64 pn] LPr))
  have hA1 := VarA.new (w.alloc (.cells #[.slice a t.length cp] LTr)) LPr #[.int .i64 pa, .int .i64 pn]
  rw [show (w.alloc (.cells #[.slice a t.length cp] LTr)).heap.size = w.heap.size + 1 by simp] at hA1
  have P0 := Lib.hid hA1
  have B0 := Lib.hid (((Below.refl w.heap.size w).alloc (Nat.le_refl _) (.cells #[.slice a t.length cp] LTr)).alloc (by simp) (.cells #[.int .i64 pa, .int .i64 pn] LPr))
  obtain ⟨bt, hbt0⟩ : ∃ b, Hid (b = w.heap.size) := ⟨_, rfl⟩
  obtain ⟨bp, hbp0⟩ : ∃ b, Hid (b = w.heap.size + 1) := ⟨_, rfl⟩
  clear hI hS ha ht stays hA1
  go_enter Try.func5, Try.ntmps5
  go_upto_region 1 with fail
  generalize (w.alloc (.cells #[.slice a t.length cp] LTr)).alloc (.cells #[.int .i64 pa, .int .i64 pn] LPr) = Y0 at *
  rw [← hbp0.out] at P0 ⊢
  rw [← hbt0.out] at A0 ⊢
  have c0 : Y0.cell? ⟨bt, 0, none⟩ = some (.slice a t.length cp) := A0.out.cell 0
  go_wp2_with fail
  refine (H0.out _).mono ?_
  rintro e V1 ⟨rfl, hb1⟩
  replace A0 := Lib.hid (A0.out.next hb1)
  replace P0 := Lib.hid (P0.out.next hb1)
  have BV1 := Lib.hid (B0.out.trans (hb1.mono B0.out.size))
  clear hb1 c0 B0
  have E0 : Hid (V1.drew.cell? ⟨bt, 0, none⟩ = some (.slice a t.length cp) ∧ V1.drew.cell? ⟨bp, 0, none⟩ = some (.int .i64 pa) ∧ V1.drew.cell? ⟨bp, 1, none⟩ = some (.int .i64 pn) ∧ Below V1.heap.size V1 V1.drew) := ⟨A0.out.cell 0, P0.out.cell 0, P0.out.cell 1, (Below.refl _ _).drew⟩
  have F0 : Hid (V1.cell? ⟨bt, 0, none⟩ = some (.slice a t.length cp) ∧ V1.cell? ⟨bp, 0, none⟩ = some (.int .i64 pa) ∧ V1.cell? ⟨bp, 1, none⟩ = some (.int .i64 pn) ∧ Below V1.heap.size V1 V1) := ⟨A0.out.cell 0, P0.out.cell 0, P0.out.cell 1, Below.refl _ _⟩
  have hbt : bt < V1.heap.size := A0.out.lt
  have hbp : bp < V1.heap.size := P0.out.lt
  have KT : Hid (∀ X, (X.cell? ⟨bt, 0, none⟩ = some (.slice a t.length cp) ∧ X.cell? ⟨bp, 0, none⟩ = some (.int .i64 pa) ∧ X.cell? ⟨bp, 1, none⟩ = some (.int .i64 pn) ∧ Below V1.heap.size V1 X) → Calls Try.prog 15 #[.agg #[.slice a t.length cp]] X fun e Y => ∃ a7 c7, e = .returned (.agg #[.slice a7 t.length c7]) ∧ layTwigS.rd Y [.slice a7 t.length c7] t ∧ (Y.cell? ⟨bt, 0, none⟩ = some (.slice a t.length cp) ∧ Y.cell? ⟨bp, 0, none⟩ = some (.int .i64 pa) ∧ Y.cell? ⟨bp, 1, none⟩ = some (.int .i64 pn) ∧ Below V1.heap.size V1 Y) ∧ Below X.heap.size X Y) := fun X hX => by
    refine (TT.out X (BV1.out.trans (hX.2.2.2.mono BV1.out.size))).mono ?_
    rintro e Y ⟨cs, fp, rfl, hd, hown, hb⟩
    obtain ⟨v7, rfl⟩ : ∃ v7, cs = [v7] := List.length_eq_one_iff.1 (layTwigS.len (layTwigS.read hown))
    obtain ⟨a7, c7, rfl⟩ := rows_form (layTwigS.read hown)
    exact ⟨a7, c7, rfl, layTwigS.read hown, sb_next hX hb, hb⟩
  have KP : Hid (∀ X, (X.cell? ⟨bt, 0, none⟩ = some (.slice a t.length cp) ∧ X.cell? ⟨bp, 0, none⟩ = some (.int .i64 pa) ∧ X.cell? ⟨bp, 1, none⟩ = some (.int .i64 pn) ∧ Below V1.heap.size V1 X) → Calls Try.prog 18 #[.agg #[.int .i64 pa, .int .i64 pn]] X fun e Y => e = .returned (.agg #[.int .i64 pa, .int .i64 pn]) ∧ (Y.cell? ⟨bt, 0, none⟩ = some (.slice a t.length cp) ∧ Y.cell? ⟨bp, 0, none⟩ = some (.int .i64 pa) ∧ Y.cell? ⟨bp, 1, none⟩ = some (.int .i64 pn) ∧ Below V1.heap.size V1 Y) ∧ Below X.heap.size X Y) := fun X hX => by
    refine (toPrefix_any pa pn X).mono ?_
    rintro e Y ⟨rfl, hb⟩
    exact ⟨rfl, sb_next hX hb, hb⟩
  have KU : Hid (∀ (a7 : Option Addr) (c7 : Nat) (X : World), (X.cell? ⟨bt, 0, none⟩ = some (.slice a t.length cp) ∧ X.cell? ⟨bp, 0, none⟩ = some (.int .i64 pa) ∧ X.cell? ⟨bp, 1, none⟩ = some (.int .i64 pn) ∧ Below V1.heap.size V1 X) → layTwigS.rd X [.slice a7 t.length c7] t → Calls Try.prog 17 #[.agg #[.slice a7 t.length c7], .agg #[.int .i64 pa, .int .i64 pn], .int .i64 p] X fun e Y => ∃ au cu fu, e = .returned (.tuple #[.agg #[.slice au r.length cu], .bool b]) ∧ fu.Nodup ∧ layTwigS.own Y V1.heap.size fu [.slice au r.length cu] r ∧ (Y.cell? ⟨bt, 0, none⟩ = some (.slice a t.length cp) ∧ Y.cell? ⟨bp, 0, none⟩ = some (.int .i64 pa) ∧ Y.cell? ⟨bp, 1, none⟩ = some (.int .i64 pn) ∧ Below V1.heap.size V1 Y) ∧ Below X.heap.size X Y) := fun a7 c7 X hX hr7 => by
    refine (HS.out _ X hr7).mono ?_
    rintro e Y ⟨vu, fu, rfl, hd, hown, hb⟩
    obtain ⟨au, cu, rfl⟩ := rows_form (layTwigS.read hown)
    exact ⟨au, cu, fu, rfl, hd, own_base hown hX.2.2.2.size, sb_next hX hb, hb⟩
  go_wp2_with fail
  go_cut [8, 9] (fun x y wx => ∃ gu au cu fu, x = .pointer (some ⟨gu, 0, none⟩) ∧ y = .bool b ∧ NV V1 fu (.slice au r.length cu) r gu wx)
  case first =>
    go_region_held3 (fun X => X.cell? ⟨bt, 0, none⟩ = some (.slice a t.length cp) ∧ X.cell? ⟨bp, 0, none⟩ = some (.int .i64 pa) ∧ X.cell? ⟨bp, 1, none⟩ = some (.int .i64 pn) ∧ Below V1.heap.size V1 X) (first | (with_reducible assumption) | (with_reducible exact E0.out) | (with_reducible exact sb_drew (sb_alloc F0.out _)) | (with_reducible exact sb_alloc F0.out _) | (with_reducible exact sb_drew (by assumption)) | (with_reducible exact sb_alloc (by assumption) _) | (with_reducible exact sb_alloc E0.out _) | (with_reducible exact sb_drew (sb_alloc (by assumption) _)) | (exact sb_store (by assumption) (by omega) hbt hbp _)) (first | (go_at_call 15; refine (KT.out _ (by assumption)).mono ?_; rintro e v1 ⟨a7, c7, rfl, hq, hS, hb⟩; (first | (have rr := VarA.next rr hb) | (have rr := VarA.next (VarA.drew rr) hb) | (have rr := VarA.next (VarA.new _ TrT #[Value.slice none 0 0]) hb) | (have rr := VarA.next (VarA.drew (VarA.new _ TrT #[Value.slice none 0 0])) hb) | skip); (first | (have r0 := rr.cell 0; have g0 := rr.free 0) | skip); have hz := hS.2.2.2.size) | (go_at_call 18; refine (KP.out _ (by assumption)).mono ?_; rintro e v1 ⟨rfl, hS, hb⟩; (first | (have rr := VarA.next rr hb) | (have rr := VarA.next (VarA.drew rr) hb) | (have rr := VarA.next (VarA.new _ TrT #[Value.slice none 0 0]) hb) | (have rr := VarA.next (VarA.drew (VarA.new _ TrT #[Value.slice none 0 0])) hb) | skip); (first | (have r0 := rr.cell 0; have g0 := rr.free 0) | skip); have hz := hS.2.2.2.size; (first | (have hq := layTwigS.below hq hb) | (have hq := layTwigS.below (layTwigS.below hq ((Below.refl _ _).drew)) hb) | (have hq := layTwigS.below (layTwigS.below hq ((Below.refl _ _).alloc (Nat.le_refl _) _)) hb) | (have hq := layTwigS.below (layTwigS.below hq (((Below.refl _ _).alloc (Nat.le_refl _) _).drew)) hb) | skip)) | (go_at_call 17; refine (KU.out _ _ _ (by assumption) (by (first | exact hq | exact layTwigS.below hq ((Below.refl _ _).drew) | exact layTwigS.below hq ((Below.refl _ _).alloc (Nat.le_refl _) _) | exact layTwigS.below hq (((Below.refl _ _).alloc (Nat.le_refl _) _).drew)))).mono ?_; rintro e v1 ⟨au, cu, fu, rfl, hdu, hou, hS, hb⟩; (first | (have rr := VarA.next rr hb) | (have rr := VarA.next (VarA.drew rr) hb) | (have rr := VarA.next (VarA.new _ TrT #[Value.slice none 0 0]) hb) | (have rr := VarA.next (VarA.drew (VarA.new _ TrT #[Value.slice none 0 0])) hb) | skip); (first | (have r0 := rr.cell 0; have g0 := rr.free 0) | skip); have hz := hS.2.2.2.size))
    all_goals
      go_wp2_with fail
      go_meet
      first | exact ⟨_, _, _, _, rfl, rfl, NV.last hou hdu hS.2.2.2⟩ | exact ⟨_, _, _, _, rfl, rfl, NV.stored rr (by omega) hou hdu hS.2.2.2⟩
  case rest =>
    obtain ⟨gu, au, cu, fu, rfl, rfl, hnv⟩ := hcut
    generalize wc = Z1 at *
    have A1 := Lib.hid (A0.out.next hnv.below)
    have P1 := Lib.hid (P0.out.next hnv.below)
    have BZ1 := Lib.hid (BV1.out.trans (hnv.below.mono BV1.out.size))
    have UV := Lib.hid hnv.var
    have UO := Lib.hid (own_base hnv.own BV1.out.size)
    clear hnv A0 P0 BV1 E0 F0 KT KP KU hbt hbp V1
    have c0 : Z1.cell? ⟨bt, 0, none⟩ = some (.slice a t.length cp) := A1.out.cell 0
    go_wp2_with fail
    refine (TT.out _ BZ1.out).mono ?_
    rintro e Y3 ⟨cs, fx, rfl, hdx, hox, hb3⟩
    obtain ⟨vx, rfl⟩ : ∃ v, cs = [v] := List.length_eq_one_iff.1 (layTwigS.len (layTwigS.read hox))
    obtain ⟨ax, cx, rfl⟩ := rows_form (layTwigS.read hox)
    have hb4 : Below Y3.heap.size Y3 (Y3.alloc (.cells #[.slice ax t.length cx] TrT)) := (Below.refl _ _).alloc (Nat.le_refl _) _
    have A2 := Lib.hid ((A1.out.next hb3).next hb4)
    have P2 := Lib.hid ((P1.out.next hb3).next hb4)
    have UV2 := Lib.hid ((UV.out.next hb3).next hb4)
    have UO2 := Lib.hid (layTwigS.next (layTwigS.next UO.out hb3) hb4)
    have XV := Lib.hid (VarA.new Y3 TrT #[.slice ax t.length cx])
    have XO := Lib.hid (own_base (layTwigS.next hox hb4) BZ1.out.size)
    have BV2 := Lib.hid ((BZ1.out.trans (hb3.mono BZ1.out.size)).trans (hb4.mono (BZ1.out.trans (hb3.mono BZ1.out.size)).size))
    have HUX : Hid (∀ g ∈ fx, g ∉ fu) := fun g h1 h2 => by
      have := (layTwigS.blocks hox g h1).1
      have := (layTwigS.blocks UO.out g h2).2
      omega
    have HDX := Lib.hid hdx
    clear hb3 hb4 hox hdx c0 A1 P1 UV UO BZ1
    go_upto_region 7 with fail
    generalize Y3.alloc (.cells #[.slice ax t.length cx] TrT) = V2 at *
    generalize Y3.heap.size = gx at *
    clear Y3 Z1
    have E0 : Hid (V2.drew.cell? ⟨gx, 0, none⟩ = some (.slice ax t.length cx) ∧ V2.drew.cell? ⟨bp, 0, none⟩ = some (.int .i64 pa) ∧ V2.drew.cell? ⟨bp, 1, none⟩ = some (.int .i64 pn) ∧ Below V2.heap.size V2 V2.drew) := ⟨XV.out.cell 0, P2.out.cell 0, P2.out.cell 1, (Below.refl _ _).drew⟩
    have F0 : Hid (V2.cell? ⟨gx, 0, none⟩ = some (.slice ax t.length cx) ∧ V2.cell? ⟨bp, 0, none⟩ = some (.int .i64 pa) ∧ V2.cell? ⟨bp, 1, none⟩ = some (.int .i64 pn) ∧ Below V2.heap.size V2 V2) := ⟨XV.out.cell 0, P2.out.cell 0, P2.out.cell 1, Below.refl _ _⟩
    have hbt : gx < V2.heap.size := XV.out.lt
    have hbp : bp < V2.heap.size := P2.out.lt
    have KP : Hid (∀ X, (X.cell? ⟨gx, 0, none⟩ = some (.slice ax t.length cx) ∧ X.cell? ⟨bp, 0, none⟩ = some (.int .i64 pa) ∧ X.cell? ⟨bp, 1, none⟩ = some (.int .i64 pn) ∧ Below V2.heap.size V2 X) → Calls Try.prog 18 #[.agg #[.int .i64 pa, .int .i64 pn]] X fun e Y => e = .returned (.agg #[.int .i64 pa, .int .i64 pn]) ∧ (Y.cell? ⟨gx, 0, none⟩ = some (.slice ax t.length cx) ∧ Y.cell? ⟨bp, 0, none⟩ = some (.int .i64 pa) ∧ Y.cell? ⟨bp, 1, none⟩ = some (.int .i64 pn) ∧ Below V2.heap.size V2 Y) ∧ Below X.heap.size X Y) := fun X hX => by
      refine (toPrefix_any pa pn X).mono ?_
      rintro e Y ⟨rfl, hb⟩
      exact ⟨rfl, sb_next hX hb, hb⟩
    have KU : Hid (∀ (X : World), (X.cell? ⟨gx, 0, none⟩ = some (.slice ax t.length cx) ∧ X.cell? ⟨bp, 0, none⟩ = some (.int .i64 pa) ∧ X.cell? ⟨bp, 1, none⟩ = some (.int .i64 pn) ∧ Below V2.heap.size V2 X) → Calls Try.prog 19 #[.agg #[.slice ax t.length cx], .agg #[.int .i64 pa, .int .i64 pn], .int .i64 p] X fun e Y => ∃ au cu fu, e = .returned (.tuple #[.agg #[.slice au r.length cu], .bool b]) ∧ fu.Nodup ∧ layTwigS.own Y V2.heap.size fu [.slice au r.length cu] r ∧ (Y.cell? ⟨gx, 0, none⟩ = some (.slice ax t.length cx) ∧ Y.cell? ⟨bp, 0, none⟩ = some (.int .i64 pa) ∧ Y.cell? ⟨bp, 1, none⟩ = some (.int .i64 pn) ∧ Below V2.heap.size V2 Y) ∧ Below X.heap.size X Y) := fun X hX => by
      refine (HI.out _ X (HT.out X (BV2.out.trans (hX.2.2.2.mono BV2.out.size))) (layTwigS.below (layTwigS.read XO.out) hX.2.2.2)).mono ?_
      rintro e Y ⟨vu, fu, rfl, hd, hown, hb⟩
      obtain ⟨au, cu, rfl⟩ := rows_form (layTwigS.read hown)
      exact ⟨au, cu, fu, rfl, hd, own_base hown hX.2.2.2.size, sb_next hX hb, hb⟩
    go_wp2_with fail
    go_cut [11, 12] (fun x y wx => ∃ gg ag cg fg, x = .pointer (some ⟨gg, 0, none⟩) ∧ y = .bool b ∧ NV V2 fg (.slice ag r.length cg) r gg wx)
    case first =>
      go_region_held3 (fun X => X.cell? ⟨gx, 0, none⟩ = some (.slice ax t.length cx) ∧ X.cell? ⟨bp, 0, none⟩ = some (.int .i64 pa) ∧ X.cell? ⟨bp, 1, none⟩ = some (.int .i64 pn) ∧ Below V2.heap.size V2 X) (first | (with_reducible assumption) | (with_reducible exact E0.out) | (with_reducible exact sb_drew (sb_alloc F0.out _)) | (with_reducible exact sb_alloc F0.out _) | (with_reducible exact sb_drew (by assumption)) | (with_reducible exact sb_alloc (by assumption) _) | (with_reducible exact sb_alloc E0.out _) | (with_reducible exact sb_drew (sb_alloc (by assumption) _)) | (exact sb_store (by assumption) (by omega) hbt hbp _)) (first | (go_at_call 18; refine (KP.out _ (by assumption)).mono ?_; rintro e v1 ⟨rfl, hS, hb⟩; (first | (have rr := VarA.next rr hb) | (have rr := VarA.next (VarA.drew rr) hb) | (have rr := VarA.next (VarA.new _ TrT #[Value.slice none 0 0]) hb) | (have rr := VarA.next (VarA.drew (VarA.new _ TrT #[Value.slice none 0 0])) hb) | skip); (first | (have r0 := rr.cell 0; have g0 := rr.free 0) | skip); have hz := hS.2.2.2.size) | (go_at_call 19; refine (KU.out _ (by assumption)).mono ?_; rintro e v1 ⟨au, cu, fu, rfl, hdu, hou, hS, hb⟩; (first | (have rr := VarA.next rr hb) | (have rr := VarA.next (VarA.drew rr) hb) | (have rr := VarA.next (VarA.new _ TrT #[Value.slice none 0 0]) hb) | (have rr := VarA.next (VarA.drew (VarA.new _ TrT #[Value.slice none 0 0])) hb) | skip); (first | (have r0 := rr.cell 0; have g0 := rr.free 0) | skip); have hz := hS.2.2.2.size))
      all_goals
        go_wp2_with fail
        go_meet
        first | exact ⟨_, _, _, _, rfl, rfl, NV.last hou hdu hS.2.2.2⟩ | exact ⟨_, _, _, _, rfl, rfl, NV.stored rr (by omega) hou hdu hS.2.2.2⟩
    case rest =>
      obtain ⟨gg, ag, cg, fg, rfl, rfl, hnv⟩ := hcut
      generalize wc = Z2 at *
      have XG0 : Hid (XG w bt bp gu gg gx (.slice a t.length cp) (.slice au r.length cu) (.slice ag r.length cg) (.slice ax t.length cx) pa pn fu fg fx r r t Z2) := by
        have hbl := layTwigS.blocks hnv.own
        have hub := layTwigS.blocks UO2.out
        have hxb := layTwigS.blocks XO.out
        refine ⟨A2.out.next hnv.below, P2.out.next hnv.below, XV.out.next hnv.below, layTwigS.next XO.out hnv.below, HDX.out, ⟨UV2.out.next hnv.below, layTwigS.next UO2.out hnv.below, hnv.var, own_base hnv.own BV2.out.size, hnv.dup, fun g h1 h2 => ?_, own_off (layTwigS.next (own_base hnv.own (Nat.le_refl _)) (Below.refl _ _)) (UV2.out.next hnv.below), hnv.off, BV2.out.trans (hnv.below.mono BV2.out.size)⟩, HUX.out, fun g h1 h2 => ?_⟩
        · have := (hbl g h2).1
          have := (hub g h1).2
          omega
        · have := (hbl g h2).1
          have := (hxb g h1).2
          omega
      clear hnv A2 P2 UV2 UO2 XV XO BV2 HUX HDX E0 F0 KP KU hbt hbp V2
      have a0 : Z2.cell? ⟨gg, 0, none⟩ = some (.slice ag r.length cg) := XG0.out.eg.gvar.cell 0
      have b0 : Z2.cell? ⟨gu, 0, none⟩ = some (.slice au r.length cu) := XG0.out.eg.uvar.cell 0
      have hbb : (b != b) = false := by cases b <;> rfl
      go_wp2_with fail
      refine (eqTrie_same _ _ r _ (layTwigS.read XG0.out.eg.gown) (layTwigS.read XG0.out.eg.uown) (by omega)).mono ?_
      rintro e Y6 ⟨rfl, hb6⟩
      have XG6 := Lib.hid (XG0.out.next hb6)
      clear hb6 a0 b0 XG0
      have E6 : Hid (Y6.drew.cell? ⟨gx, 0, none⟩ = some (.slice ax t.length cx) ∧ Y6.drew.cell? ⟨bt, 0, none⟩ = some (.slice a t.length cp) ∧ XG w bt bp gu gg gx (.slice a t.length cp) (.slice au r.length cu) (.slice ag r.length cg) (.slice ax t.length cx) pa pn fu fg fx r r t Y6.drew) := ⟨XG6.out.xvar.cell 0, XG6.out.abox.cell 0, XG6.out.drew⟩
      have KT : Hid (∀ X, (X.cell? ⟨gx, 0, none⟩ = some (.slice ax t.length cx) ∧ X.cell? ⟨bt, 0, none⟩ = some (.slice a t.length cp) ∧ XG w bt bp gu gg gx (.slice a t.length cp) (.slice au r.length cu) (.slice ag r.length cg) (.slice ax t.length cx) pa pn fu fg fx r r t X) → Calls Try.prog 15 #[.agg #[.slice a t.length cp]] X fun e Y => ∃ a7 c7, e = .returned (.agg #[.slice a7 t.length c7]) ∧ layTwigS.rd Y [.slice a7 t.length c7] t ∧ (Y.cell? ⟨gx, 0, none⟩ = some (.slice ax t.length cx) ∧ Y.cell? ⟨bt, 0, none⟩ = some (.slice a t.length cp) ∧ XG w bt bp gu gg gx (.slice a t.length cp) (.slice au r.length cu) (.slice ag r.length cg) (.slice ax t.length cx) pa pn fu fg fx r r t Y)) := fun X hX => by
        refine (TT.out X hX.2.2.eg.below).mono ?_
        rintro e Y ⟨cs, fp, rfl, hd, hown, hb⟩
        obtain ⟨v7, rfl⟩ : ∃ v7, cs = [v7] := List.length_eq_one_iff.1 (layTwigS.len (layTwigS.read hown))
        obtain ⟨a7, c7, rfl⟩ := rows_form (layTwigS.read hown)
        have h2 := hX.2.2.next hb
        exact ⟨a7, c7, rfl, layTwigS.read hown, h2.xvar.cell 0, h2.abox.cell 0, h2⟩
      have KE : Hid (∀ (a7 : Option Addr) (c7 : Nat) (X : World), (X.cell? ⟨gx, 0, none⟩ = some (.slice ax t.length cx) ∧ X.cell? ⟨bt, 0, none⟩ = some (.slice a t.length cp) ∧ XG w bt bp gu gg gx (.slice a t.length cp) (.slice au r.length cu) (.slice ag r.length cg) (.slice ax t.length cx) pa pn fu fg fx r r t X) → layTwigS.rd X [.slice a7 t.length c7] t → Calls Try.prog 10 #[.agg #[.slice ax t.length cx], .agg #[.slice a7 t.length c7]] X fun e Y => e = .returned (.bool true) ∧ (Y.cell? ⟨gx, 0, none⟩ = some (.slice ax t.length cx) ∧ Y.cell? ⟨bt, 0, none⟩ = some (.slice a t.length cp) ∧ XG w bt bp gu gg gx (.slice a t.length cp) (.slice au r.length cu) (.slice ag r.length cg) (.slice ax t.length cx) pa pn fu fg fx r r t Y)) := fun a7 c7 X hX hr7 => by
        refine (eqTrie_same _ _ t X (layTwigS.read hX.2.2.xown) hr7 (by omega)).mono ?_
        rintro e Y ⟨rfl, hb⟩
        have h2 := hX.2.2.next hb
        exact ⟨rfl, h2.xvar.cell 0, h2.abox.cell 0, h2⟩
      go_wp2_with fail
      go_cut [55] (fun v wx => v = .bool false ∧ Hid (XG w bt bp gu gg gx (.slice a t.length cp) (.slice au r.length cu) (.slice ag r.length cg) (.slice ax t.length cx) pa pn fu fg fx r r t wx))
      case first =>
        go_region_held3 (fun X => X.cell? ⟨gx, 0, none⟩ = some (.slice ax t.length cx) ∧ X.cell? ⟨bt, 0, none⟩ = some (.slice a t.length cp) ∧ XG w bt bp gu gg gx (.slice a t.length cp) (.slice au r.length cu) (.slice ag r.length cg) (.slice ax t.length cx) pa pn fu fg fx r r t X) (first | (with_reducible assumption) | (with_reducible exact E6.out)) (first | (go_at_call 15; refine (KT.out _ (by assumption)).mono ?_; rintro e v1 ⟨a7, c7, rfl, hq, hS⟩) | (go_at_call 10; refine (KE.out _ _ _ (by assumption) (by first | exact hq | exact layTwigS.below hq ((Below.refl _ _).drew))).mono ?_; rintro e v1 ⟨rfl, hS⟩))
        all_goals
          go_wp2_with fail
          go_meet
          exact ⟨rfl, Lib.hid hS.2.2⟩
      case rest =>
        obtain ⟨rfl, XG7⟩ := hcut
        generalize wc = Y7 at *
        clear XG6 E6 KT KE
        have a0 : Y7.cell? ⟨gx, 0, none⟩ = some (.slice ax t.length cx) := XG7.out.xvar.cell 0
        go_wp2_with fail
        refine (markTrie_any _ t w.heap.size fx (by omega) 1 (by omega) (by omega) _ XG7.out.dupx XG7.out.xown).mono ?_
        rintro e Y9 ⟨rfl, hom, hc9⟩
        have XG9 := Lib.hid (XG7.out.markx hom hc9)
        clear hom hc9 a0 XG7
        have a0 : Y9.cell? ⟨gg, 0, none⟩ = some (.slice ag r.length cg) := XG9.out.eg.gvar.cell 0
        have b0 : Y9.cell? ⟨gu, 0, none⟩ = some (.slice au r.length cu) := XG9.out.eg.uvar.cell 0
        have hm0 : ¬ ((1 : Int) + 3 * (t.length : Int) < 0) := by omega
        go_wp2_with fail
        refine (eqTrie_same _ _ r _ (layTwigS.read XG9.out.eg.gown) (layTwigS.read XG9.out.eg.uown) (by omega)).mono ?_
        rintro e YA ⟨rfl, hbA⟩
        have XGA := Lib.hid (XG9.out.next hbA)
        clear hbA a0 b0 XG9
        have a0 : YA.cell? ⟨gg, 0, none⟩ = some (.slice ag r.length cg) := XGA.out.eg.gvar.cell 0
        go_wp2_with fail
        refine (markTrie_any _ r w.heap.size fg hr 1 (by omega) (by omega) _ XGA.out.eg.dup XGA.out.eg.gown).mono ?_
        rintro e YB ⟨rfl, hom, hcB⟩
        have XGB := Lib.hid (XGA.out.markg hom hcB)
        clear hom hcB a0 XGA
        have a0 : YB.cell? ⟨gg, 0, none⟩ = some (.slice ag r.length cg) := XGB.out.eg.gvar.cell 0
        have hm : ¬ ((1 : Int) + 3 * (r.length : Int) < 0) := by omega
        go_wp2_with fail
        refine (heldTrie_any _ r hr 1 (by omega) (by omega) _ (layTwigS.read XGB.out.eg.gown)).mono ?_
        rintro e V3 ⟨rfl, hbC⟩
        have XGC := Lib.hid (XGB.out.next hbC)
        have AB := Lib.hid XGC.out.abox
        have PB := Lib.hid XGC.out.pbox
        have BV3 := Lib.hid XGC.out.eg.below
        clear hbC a0 XGB
        have E0 : Hid (V3.drew.cell? ⟨bt, 0, none⟩ = some (.slice a t.length cp) ∧ V3.drew.cell? ⟨bp, 0, none⟩ = some (.int .i64 pa) ∧ V3.drew.cell? ⟨bp, 1, none⟩ = some (.int .i64 pn) ∧ Below V3.heap.size V3 V3.drew) := ⟨AB.out.cell 0, PB.out.cell 0, PB.out.cell 1, (Below.refl _ _).drew⟩
        have F0 : Hid (V3.cell? ⟨bt, 0, none⟩ = some (.slice a t.length cp) ∧ V3.cell? ⟨bp, 0, none⟩ = some (.int .i64 pa) ∧ V3.cell? ⟨bp, 1, none⟩ = some (.int .i64 pn) ∧ Below V3.heap.size V3 V3) := ⟨AB.out.cell 0, PB.out.cell 0, PB.out.cell 1, Below.refl _ _⟩
        have hbt : bt < V3.heap.size := AB.out.lt
        have hbp : bp < V3.heap.size := PB.out.lt
        have KT : Hid (∀ X, (X.cell? ⟨bt, 0, none⟩ = some (.slice a t.length cp) ∧ X.cell? ⟨bp, 0, none⟩ = some (.int .i64 pa) ∧ X.cell? ⟨bp, 1, none⟩ = some (.int .i64 pn) ∧ Below V3.heap.size V3 X) → Calls Try.prog 15 #[.agg #[.slice a t.length cp]] X fun e Y => ∃ a7 c7, e = .returned (.agg #[.slice a7 t.length c7]) ∧ layTwigS.rd Y [.slice a7 t.length c7] t ∧ (Y.cell? ⟨bt, 0, none⟩ = some (.slice a t.length cp) ∧ Y.cell? ⟨bp, 0, none⟩ = some (.int .i64 pa) ∧ Y.cell? ⟨bp, 1, none⟩ = some (.int .i64 pn) ∧ Below V3.heap.size V3 Y) ∧ Below X.heap.size X Y) := fun X hX => by
          refine (TT.out X (BV3.out.trans (hX.2.2.2.mono BV3.out.size))).mono ?_
          rintro e Y ⟨cs, fp, rfl, hd, hown, hb⟩
          obtain ⟨v7, rfl⟩ : ∃ v7, cs = [v7] := List.length_eq_one_iff.1 (layTwigS.len (layTwigS.read hown))
          obtain ⟨a7, c7, rfl⟩ := rows_form (layTwigS.read hown)
          exact ⟨a7, c7, rfl, layTwigS.read hown, sb_next hX hb, hb⟩
        have KP : Hid (∀ X, (X.cell? ⟨bt, 0, none⟩ = some (.slice a t.length cp) ∧ X.cell? ⟨bp, 0, none⟩ = some (.int .i64 pa) ∧ X.cell? ⟨bp, 1, none⟩ = some (.int .i64 pn) ∧ Below V3.heap.size V3 X) → Calls Try.prog 18 #[.agg #[.int .i64 pa, .int .i64 pn]] X fun e Y => e = .returned (.agg #[.int .i64 pa, .int .i64 pn]) ∧ (Y.cell? ⟨bt, 0, none⟩ = some (.slice a t.length cp) ∧ Y.cell? ⟨bp, 0, none⟩ = some (.int .i64 pa) ∧ Y.cell? ⟨bp, 1, none⟩ = some (.int .i64 pn) ∧ Below V3.heap.size V3 Y) ∧ Below X.heap.size X Y) := fun X hX => by
          refine (toPrefix_any pa pn X).mono ?_
          rintro e Y ⟨rfl, hb⟩
          exact ⟨rfl, sb_next hX hb, hb⟩
        have KU : Hid (∀ (a7 : Option Addr) (c7 : Nat) (X : World), (X.cell? ⟨bt, 0, none⟩ = some (.slice a t.length cp) ∧ X.cell? ⟨bp, 0, none⟩ = some (.int .i64 pa) ∧ X.cell? ⟨bp, 1, none⟩ = some (.int .i64 pn) ∧ Below V3.heap.size V3 X) → layTwigS.rd X [.slice a7 t.length c7] t → Calls Try.prog 19 #[.agg #[.slice a7 t.length c7], .agg #[.int .i64 pa, .int .i64 pn], .int .i64 p] X fun e Y => ∃ au cu fu, e = .returned (.tuple #[.agg #[.slice au r.length cu], .bool b]) ∧ fu.Nodup ∧ layTwigS.own Y V3.heap.size fu [.slice au r.length cu] r ∧ (Y.cell? ⟨bt, 0, none⟩ = some (.slice a t.length cp) ∧ Y.cell? ⟨bp, 0, none⟩ = some (.int .i64 pa) ∧ Y.cell? ⟨bp, 1, none⟩ = some (.int .i64 pn) ∧ Below V3.heap.size V3 Y) ∧ Below X.heap.size X Y) := fun a7 c7 X hX hr7 => by
          refine (HI.out _ X (HT.out X (BV3.out.trans (hX.2.2.2.mono BV3.out.size))) hr7).mono ?_
          rintro e Y ⟨vu, fu, rfl, hd, hown, hb⟩
          obtain ⟨au, cu, rfl⟩ := rows_form (layTwigS.read hown)
          exact ⟨au, cu, fu, rfl, hd, own_base hown hX.2.2.2.size, sb_next hX hb, hb⟩
        go_wp2_with fail
        go_cut [16, 17] (fun x y wx => ∃ gh ah ch fh, x = .pointer (some ⟨gh, 0, none⟩) ∧ y = .bool b ∧ NV V3 fh (.slice ah r.length ch) r gh wx)
        case first =>
          go_region_held3 (fun X => X.cell? ⟨bt, 0, none⟩ = some (.slice a t.length cp) ∧ X.cell? ⟨bp, 0, none⟩ = some (.int .i64 pa) ∧ X.cell? ⟨bp, 1, none⟩ = some (.int .i64 pn) ∧ Below V3.heap.size V3 X) (first | (with_reducible assumption) | (with_reducible exact E0.out) | (with_reducible exact sb_drew (sb_alloc F0.out _)) | (with_reducible exact sb_alloc F0.out _) | (with_reducible exact sb_drew (by assumption)) | (with_reducible exact sb_alloc (by assumption) _) | (with_reducible exact sb_alloc E0.out _) | (with_reducible exact sb_drew (sb_alloc (by assumption) _)) | (exact sb_store (by assumption) (by omega) hbt hbp _)) (first | (go_at_call 15; refine (KT.out _ (by assumption)).mono ?_; rintro e v1 ⟨a7, c7, rfl, hq, hS, hb⟩; (first | (have rr := VarA.next rr hb) | (have rr := VarA.next (VarA.drew rr) hb) | (have rr := VarA.next (VarA.new _ TrT #[Value.slice none 0 0]) hb) | (have rr := VarA.next (VarA.drew (VarA.new _ TrT #[Value.slice none 0 0])) hb) | skip); (first | (have r0 := rr.cell 0; have g0 := rr.free 0) | skip); have hz := hS.2.2.2.size) | (go_at_call 18; refine (KP.out _ (by assumption)).mono ?_; rintro e v1 ⟨rfl, hS, hb⟩; (first | (have rr := VarA.next rr hb) | (have rr := VarA.next (VarA.drew rr) hb) | (have rr := VarA.next (VarA.new _ TrT #[Value.slice none 0 0]) hb) | (have rr := VarA.next (VarA.drew (VarA.new _ TrT #[Value.slice none 0 0])) hb) | skip); (first | (have r0 := rr.cell 0; have g0 := rr.free 0) | skip); have hz := hS.2.2.2.size; (first | (have hq := layTwigS.below hq hb) | (have hq := layTwigS.below (layTwigS.below hq ((Below.refl _ _).drew)) hb) | (have hq := layTwigS.below (layTwigS.below hq ((Below.refl _ _).alloc (Nat.le_refl _) _)) hb) | (have hq := layTwigS.below (layTwigS.below hq (((Below.refl _ _).alloc (Nat.le_refl _) _).drew)) hb) | skip)) | (go_at_call 19; refine (KU.out _ _ _ (by assumption) (by (first | exact hq | exact layTwigS.below hq ((Below.refl _ _).drew) | exact layTwigS.below hq ((Below.refl _ _).alloc (Nat.le_refl _) _) | exact layTwigS.below hq (((Below.refl _ _).alloc (Nat.le_refl _) _).drew)))).mono ?_; rintro e v1 ⟨au, cu, fu, rfl, hdu, hou, hS, hb⟩; (first | (have rr := VarA.next rr hb) | (have rr := VarA.next (VarA.drew rr) hb) | (have rr := VarA.next (VarA.new _ TrT #[Value.slice none 0 0]) hb) | (have rr := VarA.next (VarA.drew (VarA.new _ TrT #[Value.slice none 0 0])) hb) | skip); (first | (have r0 := rr.cell 0; have g0 := rr.free 0) | skip); have hz := hS.2.2.2.size))
          all_goals
            go_wp2_with fail
            go_meet
            first | exact ⟨_, _, _, _, rfl, rfl, NV.last hou hdu hS.2.2.2⟩ | exact ⟨_, _, _, _, rfl, rfl, NV.stored rr (by omega) hou hdu hS.2.2.2⟩
        case rest =>
          obtain ⟨gh, ah, ch, fh, rfl, rfl, hnv⟩ := hcut
          generalize wc = YF at *
          have XGF := Lib.hid (XGC.out.next hnv.below)
          have HV := Lib.hid hnv.var
          have HH := Lib.hid (layTwigS.read hnv.own)
          clear hnv XGC AB PB BV3 E0 F0 KT KP KU hbt hbp V3
          have a0 : YF.cell? ⟨gh, 0, none⟩ = some (.slice ah r.length ch) := HV.out.cell 0
          have b0 : YF.cell? ⟨gu, 0, none⟩ = some (.slice au r.length cu) := XGF.out.eg.uvar.cell 0
          go_wp2_with fail
          refine (eqTrie_same _ _ r _ HH.out (layTwigS.read XGF.out.eg.uown) (by omega)).mono ?_
          rintro e YG ⟨rfl, hbG⟩
          have XGG := Lib.hid (XGF.out.next hbG)
          clear hbG a0 b0 XGF HH HV
          have a0 : YG.cell? ⟨gg, 0, none⟩ = some (.slice ag r.length cg) := XGG.out.eg.gvar.cell 0
          go_wp2_with fail
          refine (heldTrie_any _ r hr 1 (by omega) (by omega) _ (layTwigS.read XGG.out.eg.gown)).mono ?_
          rintro e YH ⟨rfl, hbH⟩
          have BZ := Lib.hid (XGG.out.next hbH).eg.below
          clear hbH a0 XGG
          go_wp2_with fail
          go_ret
          exact ⟨rfl, BZ.out⟩

set_option maxRecDepth 100000 in
set_option maxHeartbeats 800000 in
theorem lawTriePut_big (a : Option Addr) (n cap : Nat) (pa pn p : Int) (h : 1048576 < n) (hl : n ≤ 9223372036854775807) (w : World) :
    Calls Try.prog 5 #[.agg #[.slice a n cap], .agg #[.int .i64 pa, .int .i64 pn], .int .i64 p] w fun e w' => e = .returned (.bool true) ∧ Below w.heap.size w w' := by
  have H0 := Lib.hid (szTrie_any a n cap hl)
  rw [if_pos h] at H0
  have B0 := Lib.hid (((Below.refl w.heap.size w).alloc (Nat.le_refl _) (.cells #[.slice a n cap] LTr)).alloc (by simp) (.cells #[.int .i64 pa, .int .i64 pn] LPr))
  go_enter Try.func5, Try.ntmps5
  go_wp2_with fail
  refine (H0.out _).mono ?_
  rintro e w1 ⟨rfl, hb1⟩
  have B1 := Lib.hid (B0.out.trans (hb1.mono B0.out.size))
  clear hb1
  go_wp2_with fail
  go_ret
  exact ⟨rfl, B1.out⟩

end Go.Proofs.Ytkfcoldjgijpcap

/-
  A shelf in a variable, with rows of its own; marked and held.
-/
import Derived.Test.YtfhlpgngeiploabJ14
import Derived.Test.YtfhlpgngeiploabJ30
namespace Go.Proofs.Ytfhlpgngeiploab
open Go.RowKit

set_option maxRecDepth 100000 in
set_option maxHeartbeats 800000 in
theorem markShelf_any (v : Value) (xs : List HeldD) (b : Nat) (fp : List Nat) (hT : xs.length + partsN xs ≤ 10000000) (w : World) (hd : fp.Nodup) (ho : layHeldC.own w b fp [v] xs) :
    Calls Try.prog 13 #[.agg #[v], .int .i64 1] w fun e w' => e = .returned (.int .i64 (layHeldS.mark 1 xs).2) ∧ layHeldC.own w' b fp [v] (layHeldS.mark 1 xs).1 ∧ Chg fp w w' := by
  obtain ⟨a, p, rfl⟩ := rows_form (e := HeldT) (A := layHeld) (layHeldC.read ho)
  have hal : Below w.heap.size w (w.alloc (.cells #[.slice a xs.length p] ShelfT)) := (Below.refl _ _).alloc (Nat.le_refl _) _
  have A0 := Lib.hid (VarA.new w ShelfT #[.slice a xs.length p])
  have HO := Lib.hid (layHeldC.next ho hal)
  have HB := Lib.hid (Below.chg hal fp)
  have HD := Lib.hid hd
  clear ho hd hal
  obtain ⟨Q, HQ⟩ : ∃ Q : Ending → World → Prop, Hid (Q = fun e w' => e = .returned (.int .i64 (layHeldS.mark 1 xs).2) ∧ layHeldC.own w' b fp [.slice a xs.length p] (layHeldS.mark 1 xs).1 ∧ Chg fp w w') := ⟨_, Lib.hid rfl⟩
  rw [← HQ.out]
  have HM := Lib.hid (markHds_num xs 1)
  obtain ⟨m, hm⟩ : ∃ m, (layHeldS.mark 1 xs).2 = m := ⟨_, rfl⟩
  have KM := Lib.hid (fun W h => markHeldS_any (.slice a xs.length p) xs b fp 1 (by omega) (by omega) hT W HD.out h)
  rw [hm] at HQ KM
  go_enter Try.func13, Try.ntmps13
  go_upto_region 1 with fail
  generalize w.alloc (.cells #[.slice a xs.length p] ShelfT) = Y at *
  have c0 : Y.cell? ⟨w.heap.size, 0, none⟩ = some (.slice a xs.length p) := A0.out.cell 0
  go_wp2_with fail
  refine (KM.out Y HO.out).mono ?_
  rintro e Y1 ⟨rfl, h1, h2⟩
  have E : Hid (Q (.returned (.int .i64 m)) Y1) := Lib.hid (by rw [HQ.out]; exact ⟨rfl, h1, HB.out.trans h2⟩)
  clear h1 h2 c0
  go_wp2_with fail
  first | exact E.out | (go_ret; exact E.out)
set_option maxRecDepth 100000 in
set_option maxHeartbeats 800000 in
theorem heldShelf_any (v : Value) (xs : List HeldD) (hT : xs.length + partsN xs ≤ 10000000) (w : World) (hr : layHeldS.rd w [v] (layHeldS.mark 1 xs).1) :
    Calls Try.prog 14 #[.agg #[v], .int .i64 1] w fun e w' => e = .returned (.int .i64 (layHeldS.mark 1 xs).2) ∧ Below w.heap.size w w' := by
  obtain ⟨a, p, rfl⟩ := rows_form hr
  have hal : Below w.heap.size w (w.alloc (.cells #[.slice a (layHeldS.mark 1 xs).1.length p] ShelfT)) := (Below.refl _ _).alloc (Nat.le_refl _) _
  have A0 := Lib.hid (VarA.new w ShelfT #[.slice a (layHeldS.mark 1 xs).1.length p])
  have HR := Lib.hid (layHeldS.below hr hal)
  have HB := Lib.hid hal
  clear hr hal
  have hml := markHds_len 1 xs
  rw [hml] at A0 HR HB ⊢
  have hn := markHds_num xs 1
  obtain ⟨m, hm⟩ : ∃ m, (layHeldS.mark 1 xs).2 = m := ⟨_, rfl⟩
  have KM := Lib.hid (fun W h => heldHeldS_any (.slice a xs.length p) xs 1 (by omega) (by omega) hT W h)
  rw [hm] at hn KM ⊢
  have hm0 : ¬ (m < 0) := by omega
  clear hm hn hml
  go_enter Try.func14, Try.ntmps14
  go_upto_region 1 with fail
  generalize w.alloc (.cells #[.slice a xs.length p] ShelfT) = Y at *
  have c0 : Y.cell? ⟨w.heap.size, 0, none⟩ = some (.slice a xs.length p) := A0.out.cell 0
  go_wp2_with fail
  refine (KM.out Y HR.out).mono ?_
  rintro e Y1 ⟨rfl, h1⟩
  have HB1 := Lib.hid (HB.out.trans (h1.mono HB.out.size))
  clear h1 c0
  go_wp2_with fail
  go_ret
  exact ⟨rfl, HB1.out⟩
/-- A shelf in variable G, whose rows lie in blocks from lo on, below hi. -/
structure SHO (lo hi G : Nat) (v : Value) (xs : List HeldD) (X : World) : Prop where
  var : VarA G ShelfT #[v] X
  co : ∃ f : List Nat, f.Nodup ∧ layHeldC.own X lo f [v] xs ∧ ∀ a ∈ f, a < hi
  gh : hi ≤ G
/-- Blocks from a on, below b, alone are changed. -/
def HIn (a b : Nat) (X Y : World) : Prop := ∃ f : List Nat, (∀ g ∈ f, a ≤ g ∧ g < b) ∧ Chg f X Y
section
variable {lo hi G : Nat} {v : Value} {xs : List HeldD} {X Y : World}
theorem SHO.next (h : SHO lo hi G v xs X) (hb : Below X.heap.size X Y) : SHO lo hi G v xs Y := by
  obtain ⟨f, hd, h1, h3⟩ := h.co
  exact ⟨h.var.next hb, ⟨f, hd, layHeldC.next h1 hb, h3⟩, h.gh⟩
theorem SHO.rd (h : SHO lo hi G v xs X) : layHeldS.rd X [v] xs := by
  obtain ⟨f, hd, h1, h3⟩ := h.co
  exact layHeldC.read h1
theorem SHO.away (h : SHO lo hi G v xs X) {a b : Nat} (hc : HIn a b X Y) (ho : b ≤ lo ∨ hi ≤ a) (hG : G < a ∨ b ≤ G) : SHO lo hi G v xs Y := by
  obtain ⟨f, hd, h1, h3⟩ := h.co
  obtain ⟨e, he, hc⟩ := hc
  refine ⟨⟨(hc.block G h.var.lt (fun hm => by have := he G hm; omega)).trans h.var.row⟩, ⟨f, hd, layHeldC.chg h1 hc (fun x hx hm => ?_), h3⟩, h.gh⟩
  have h5 := (layHeldC.blocks h1 x hx).1
  have h6 := h3 x hx
  have h7 := he x hm
  omega
theorem HIn.var {a b : Nat} (hc : HIn a b X Y) {q : Nat} {t : TypeId} {es : Array Value} (h : VarA q t es X) (hq : q < a ∨ b ≤ q) : VarA q t es Y := by
  obtain ⟨f, h1, h2⟩ := hc
  exact ⟨(h2.block q h.lt (fun hm => by have := h1 q hm; omega)).trans h.row⟩
theorem HIn.below {W : World} {a b : Nat} (hb : Below W.heap.size W X) (hc : HIn a b X Y) (ha : W.heap.size ≤ a) : Below W.heap.size W Y := by
  obtain ⟨f, h1, h2⟩ := hc
  exact hb.trans (h2.below (fun g hg => by have := h1 g hg; omega) hb.size)
theorem HIn.size {a b : Nat} (hc : HIn a b X Y) : X.heap.size ≤ Y.heap.size := by
  obtain ⟨f, _, h⟩ := hc
  exact h.size
theorem SHO.mark (h : SHO lo hi G v xs X) (hT : xs.length + partsN xs ≤ 10000000) :
    Calls Try.prog 13 #[.agg #[v], .int .i64 1] X fun e Y => e = .returned (.int .i64 (layHeldS.mark 1 xs).2) ∧ SHO lo hi G v (layHeldS.mark 1 xs).1 Y ∧ HIn lo hi X Y := by
  obtain ⟨f, hd, h1, h3⟩ := h.co
  refine (markShelf_any v xs lo f hT X hd h1).mono ?_
  rintro e Y ⟨rfl, k1, hc⟩
  have hin : ∀ a ∈ f, lo ≤ a ∧ a < hi := fun a ha => ⟨(layHeldC.blocks h1 a ha).1, h3 a ha⟩
  have hG := h.gh
  exact ⟨rfl, ⟨⟨(hc.block G h.var.lt (fun hm => by have := hin G hm; omega)).trans h.var.row⟩, ⟨f, hd, k1, h3⟩, h.gh⟩, f, hin, hc⟩
theorem SHO.held (h : SHO lo hi G v (layHeldS.mark 1 xs).1 X) (hT : xs.length + partsN xs ≤ 10000000) :
    Calls Try.prog 14 #[.agg #[v], .int .i64 1] X fun e Y => e = .returned (.int .i64 (layHeldS.mark 1 xs).2) ∧ Below X.heap.size X Y :=
  heldShelf_any v xs hT X h.rd
end
theorem SHO.newC {W X : World} {v : Value} {xs : List HeldD} {f : List Nat} (hd : f.Nodup) (h1 : layHeldC.own X W.heap.size f [v] xs) : SHO W.heap.size X.heap.size X.heap.size v xs (X.alloc (.cells #[v] ShelfT)) :=
  ⟨VarA.new X ShelfT #[v], ⟨f, hd, layHeldC.next h1 ((Below.refl _ _).alloc (Nat.le_refl _) _), fun a ha => (layHeldC.blocks h1 a ha).2⟩, Nat.le_refl _⟩
theorem SHO.new {W X : World} {v : Value} {xs : List HeldD} {f : List Nat} (hd : f.Nodup) (h1 : layHeldS.own X W.heap.size f [v] xs) : SHO W.heap.size X.heap.size X.heap.size v xs (X.alloc (.cells #[v] ShelfT)) := SHO.newC hd (room_of h1)
theorem parts_few {xs : List HeldD} (h : xs.length + partsN xs ≤ 10000000) : ∀ x ∈ xs, x.2.2.2.1.length ≤ 100000000 ∧ x.2.2.2.2.1.length ≤ 100000000 := fun x hx => by
  have := partsN_at hx
  exact ⟨by omega, by omega⟩

end Go.Proofs.Ytfhlpgngeiploab

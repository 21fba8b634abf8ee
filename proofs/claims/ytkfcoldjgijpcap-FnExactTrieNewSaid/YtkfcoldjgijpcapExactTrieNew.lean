/-
  The exact law on TrieNew, out of one answer that both give; two trees side by side.
-/
import Derived.Test.YtkfcoldjgijpcapExactTrie
namespace Go.Proofs.Ytkfcoldjgijpcap
open Go.RowKit

/-- Two answers in variables of their own, in memory of their own. -/
structure EG (w : World) (gu gg : Nat) (vu vg : Value) (fu fg : List Nat) (r s : List TwigD) (X : World) : Prop where
  uvar : VarA gu 24 #[vu] X
  uown : layTwigS.own X w.heap.size fu [vu] r
  gvar : VarA gg 24 #[vg] X
  gown : layTwigS.own X w.heap.size fg [vg] s
  dup : fg.Nodup
  ug : ∀ g ∈ fu, g ∉ fg
  nu : gu ∉ fg
  ng : gg ∉ fg
  below : Below w.heap.size w X
theorem EG.next {w : World} {gu gg : Nat} {vu vg : Value} {fu fg : List Nat} {r s : List TwigD} {X Y : World} (h : EG w gu gg vu vg fu fg r s X) (hb : Below X.heap.size X Y) : EG w gu gg vu vg fu fg r s Y :=
  ⟨h.uvar.next hb, layTwigS.next h.uown hb, h.gvar.next hb, layTwigS.next h.gown hb, h.dup, h.ug, h.nu, h.ng, h.below.trans (hb.mono h.below.size)⟩
theorem VarA.chg {r : Nat} {t : TypeId} {cs : Array Value} {X Y : World} {f : List Nat} (h : VarA r t cs X) (hc : Chg f X Y) (hr : r ∉ f) : VarA r t cs Y := ⟨by rw [hc.block r h.lt hr]; exact h.row⟩
theorem EG.mark {w : World} {gu gg : Nat} {vu vg : Value} {fu fg : List Nat} {r s s' : List TwigD} {X Y : World} (h : EG w gu gg vu vg fu fg r s X) (ho : layTwigS.own Y w.heap.size fg [vg] s') (hc : Chg fg X Y) : EG w gu gg vu vg fu fg r s' Y :=
  ⟨h.uvar.chg hc h.nu, layTwigS.chg h.uown hc h.ug, h.gvar.chg hc h.ng, ho, h.dup, h.ug, h.nu, h.ng, h.below.trans (hc.below (fun g hg => (layTwigS.blocks h.gown g hg).1) h.below.size)⟩
/-- What else a call may change beside. -/
theorem EG.chg {w : World} {gu gg : Nat} {vu vg : Value} {fu fg f : List Nat} {r s : List TwigD} {X Y : World} (h : EG w gu gg vu vg fu fg r s X) (hc : Chg f X Y) (h1 : ∀ g ∈ fu, g ∉ f) (h2 : ∀ g ∈ fg, g ∉ f) (h3 : gu ∉ f) (h4 : gg ∉ f) (h5 : ∀ g ∈ f, w.heap.size ≤ g) : EG w gu gg vu vg fu fg r s Y :=
  ⟨h.uvar.chg hc h3, layTwigS.chg h.uown hc h1, h.gvar.chg hc h4, layTwigS.chg h.gown hc h2, h.dup, h.ug, h.nu, h.ng, h.below.trans (hc.below h5 h.below.size)⟩

set_option maxRecDepth 100000 in
set_option maxHeartbeats 1600000 in
/-- The exact law on TrieNew, out of one answer that both give. -/
theorem lawTrieNewF (L : World → Prop) (stays : ∀ X Y, L X → Below X.heap.size X Y → L Y) (r : List TwigD) (hr : r.length ≤ 10000000)
    (hI : ∀ X : World, L X → Calls Try.prog 9 #[] X fun e X' => OutT layTwigS X r e X')
    (hS : ∀ X : World, Calls Try.prog 8 #[] X fun e X' => OutT layTwigS X r e X')
    (w : World) (ht : L w) :
    Calls Try.prog 3 #[] w fun e w' => e = .returned (.bool true) ∧ Below w.heap.size w w' := by
  have HI := Lib.hid hI
  have HS := Lib.hid hS
  have HT : Hid (∀ X, Below w.heap.size w X → L X) := fun X hX => stays w X ht hX
  clear hI hS ht stays
  go_enter Try.func3, Try.ntmps3
  go_wp2_with fail
  refine (HS.out _).mono ?_
  rintro e Y1 ⟨cs, fu, rfl, hdu, hou, hb1⟩
  obtain ⟨vu, rfl⟩ : ∃ v, cs = [v] := List.length_eq_one_iff.1 (layTwigS.len (layTwigS.read hou))
  obtain ⟨au, cu, rfl⟩ := rows_form (layTwigS.read hou)
  have hb2 : Below Y1.heap.size Y1 (Y1.alloc (.cells #[.slice au r.length cu] 24)) := (Below.refl _ _).alloc (Nat.le_refl _) _
  have UV := Lib.hid (VarA.new Y1 24 #[.slice au r.length cu])
  have UO := Lib.hid (layTwigS.next hou hb2)
  have BY := Lib.hid (hb1.trans (hb2.mono hb1.size))
  clear hb1 hb2 hou hdu
  go_upto_region 2 with fail
  generalize Y1.alloc (.cells #[.slice au r.length cu] 24) = Y2 at *
  generalize Y1.heap.size = gu at *
  clear Y1
  go_wp2_with fail
  refine (HI.out _ (HT.out _ BY.out)).mono ?_
  rintro e Y3 ⟨cs, fg, rfl, hdg, hog, hb3⟩
  obtain ⟨vg, rfl⟩ : ∃ v, cs = [v] := List.length_eq_one_iff.1 (layTwigS.len (layTwigS.read hog))
  obtain ⟨ag, cg, rfl⟩ := rows_form (layTwigS.read hog)
  have hb4 : Below Y3.heap.size Y3 (Y3.alloc (.cells #[.slice ag r.length cg] 24)) := (Below.refl _ _).alloc (Nat.le_refl _) _
  have hfg := layTwigS.blocks hog
  have hfu := layTwigS.blocks UO.out
  have hul := UV.out.lt
  have EG0 : Hid (EG w gu Y3.heap.size (.slice au r.length cu) (.slice ag r.length cg) fu fg r r (Y3.alloc (.cells #[.slice ag r.length cg] 24))) :=
    ⟨(UV.out.next hb3).next hb4, layTwigS.next (layTwigS.next UO.out hb3) hb4, VarA.new Y3 _ _, layTwigS.lower (layTwigS.next hog hb4) BY.out.size, hdg, fun g h1 h2 => by have := (hfg g h2).1; have := (hfu g h1).2; omega, fun h => by have := (hfg _ h).1; omega, fun h => by have := (hfg _ h).2; omega, (BY.out.trans (hb3.mono BY.out.size)).trans (hb4.mono (BY.out.trans (hb3.mono BY.out.size)).size)⟩
  clear hb3 hb4 hog hdg hfg hfu hul UV UO BY
  go_upto_region 3 with fail
  generalize Y3.alloc (.cells #[.slice ag r.length cg] 24) = Y4 at *
  generalize Y3.heap.size = gg at *
  clear Y3
  have a0 : Y4.cell? ⟨gg, 0, none⟩ = some (.slice ag r.length cg) := EG0.out.gvar.cell 0
  have b0 : Y4.cell? ⟨gu, 0, none⟩ = some (.slice au r.length cu) := EG0.out.uvar.cell 0
  go_wp2_with fail
  refine (eqTrie_same _ _ r _ (layTwigS.read EG0.out.gown) (layTwigS.read EG0.out.uown) (by omega)).mono ?_
  rintro e Y5 ⟨rfl, hb5⟩
  have EG5 := Lib.hid (EG0.out.next hb5)
  clear hb5 a0 b0 EG0
  have a0 : Y5.cell? ⟨gg, 0, none⟩ = some (.slice ag r.length cg) := EG5.out.gvar.cell 0
  go_wp2_with fail
  refine (markTrie_any _ r w.heap.size fg hr 1 (by omega) (by omega) _ EG5.out.dup EG5.out.gown).mono ?_
  rintro e Y6 ⟨rfl, hom, hc6⟩
  have EG6 := Lib.hid (EG5.out.mark hom hc6)
  clear hom hc6 a0 EG5
  have a0 : Y6.cell? ⟨gg, 0, none⟩ = some (.slice ag r.length cg) := EG6.out.gvar.cell 0
  have hm : ¬ ((1 : Int) + 3 * (r.length : Int) < 0) := by omega
  go_wp2_with fail
  refine (heldTrie_any _ r hr 1 (by omega) (by omega) _ (layTwigS.read EG6.out.gown)).mono ?_
  rintro e Y7 ⟨rfl, hb7⟩
  have EG7 := Lib.hid (EG6.out.next hb7)
  clear hb7 a0 EG6
  go_wp2_with fail
  refine (HI.out _ (HT.out _ EG7.out.below)).mono ?_
  rintro e Y8 ⟨cs, fh, rfl, hdh, hoh, hb8⟩
  obtain ⟨vh, rfl⟩ : ∃ v, cs = [v] := List.length_eq_one_iff.1 (layTwigS.len (layTwigS.read hoh))
  obtain ⟨ah, ch, rfl⟩ := rows_form (layTwigS.read hoh)
  have hb9 : Below Y8.heap.size Y8 (Y8.alloc (.cells #[.slice ah r.length ch] 24)) := (Below.refl _ _).alloc (Nat.le_refl _) _
  have EG9 := Lib.hid ((EG7.out.next hb8).next hb9)
  have HV := Lib.hid (VarA.new Y8 24 #[.slice ah r.length ch])
  have HH := Lib.hid (layTwigS.below (layTwigS.read hoh) hb9)
  clear hb8 hb9 hoh hdh EG7
  go_upto_region 14 with fail
  generalize Y8.alloc (.cells #[.slice ah r.length ch] 24) = Y9 at *
  generalize Y8.heap.size = gh at *
  clear Y8
  have a0 : Y9.cell? ⟨gh, 0, none⟩ = some (.slice ah r.length ch) := HV.out.cell 0
  have b0 : Y9.cell? ⟨gu, 0, none⟩ = some (.slice au r.length cu) := EG9.out.uvar.cell 0
  go_wp2_with fail
  refine (eqTrie_same _ _ r _ HH.out (layTwigS.read EG9.out.uown) (by omega)).mono ?_
  rintro e YA ⟨rfl, hbA⟩
  have EGA := Lib.hid (EG9.out.next hbA)
  clear hbA a0 b0 EG9 HH HV
  have a0 : YA.cell? ⟨gg, 0, none⟩ = some (.slice ag r.length cg) := EGA.out.gvar.cell 0
  go_wp2_with fail
  refine (heldTrie_any _ r hr 1 (by omega) (by omega) _ (layTwigS.read EGA.out.gown)).mono ?_
  rintro e YB ⟨rfl, hbB⟩
  have BZ := Lib.hid (EGA.out.next hbB).below
  clear hbB a0 EGA
  go_wp2_with fail
  go_ret
  exact ⟨rfl, BZ.out⟩

end Go.Proofs.Ytkfcoldjgijpcap

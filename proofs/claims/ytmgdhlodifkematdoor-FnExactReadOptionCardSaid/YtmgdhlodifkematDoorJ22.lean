/-
  Options in variables of their own, with rows of their own, by ranges of blocks: for the exact laws.
  The exact law on ReadOption, out of one answer that both give.
-/
import Derived.Test.YtmgdhlodifkematDoorJ21
import Derived.Test.YtmgdhlodifkematDoorJ13
namespace Go.Proofs.YtmgdhlodifkematDoor
open Go.RowKit

/-- Options in their variable, whose row lies in blocks from lo on, below hi. -/
structure OV (lo hi G : Nat) (z : Int) (v : Value) (ws : List ByteArray) (p : Bool) (X : World) : Prop where
  var : VarA G OptionsT #[.int .i64 z, v, .bool p] X
  co : ∃ f : List Nat, f.Nodup ∧ layStringS.own X lo f [v] ws ∧ ∀ g ∈ f, g < hi
  gh : hi ≤ G
/-- Options as an answer, of the call's own. -/
def OptVal (z : Int) (ws : List ByteArray) (p : Bool) (X : World) (v : Value) (Y : World) : Prop := ∃ (a : Option Addr) (c : Nat) (f : List Nat), v = .agg #[.int .i64 z, .slice a ws.length c, .bool p] ∧ f.Nodup ∧ layStringS.own Y X.heap.size f [.slice a ws.length c] ws ∧ Below X.heap.size X Y
section
variable {lo hi G : Nat} {z : Int} {v : Value} {ws : List ByteArray} {p : Bool} {X Y : World}
theorem OV.next (h : OV lo hi G z v ws p X) (hb : Below X.heap.size X Y) : OV lo hi G z v ws p Y := by
  obtain ⟨f, h0, h1, h2⟩ := h.co
  exact ⟨h.var.next hb, ⟨f, h0, layStringS.next h1 hb, h2⟩, h.gh⟩
theorem OV.apart (h : OV lo hi G z v ws p X) {a b : Nat} (hr : Rng a b X Y) (ho : hi ≤ a ∨ b ≤ lo) (hG : G < a ∨ b ≤ G) : OV lo hi G z v ws p Y := by
  obtain ⟨f, h0, h1, h2⟩ := h.co
  refine ⟨h.var.rng hr hG, ⟨f, h0, layStringS.rng h1 hr (fun g hg => ?_), h2⟩, h.gh⟩
  have := (layStringS.blocks h1 g hg).1
  have := h2 g hg
  omega
theorem OV.new {w : World} {f : List Nat} (hd : f.Nodup) (h : layStringS.own X w.heap.size f [v] ws) : OV w.heap.size X.heap.size X.heap.size z v ws p (X.alloc (.cells #[.int .i64 z, v, .bool p] OptionsT)) :=
  ⟨VarA.new X OptionsT _, ⟨f, hd, layStringS.next h ((Below.refl _ _).alloc (Nat.le_refl _) _), fun g hg => (layStringS.blocks h g hg).2⟩, Nat.le_refl _⟩
theorem OV.rd (h : OV lo hi G z v ws p X) : layStringS.rd X [v] ws := by
  obtain ⟨f, h0, h1, h2⟩ := h.co
  exact layStringS.read h1
theorem OV.mark (h : OV lo hi G z v ws p X) (hl : ws.length ≤ 10000000) (k : Int) (hk0 : 1 ≤ k) (hk1 : k ≤ 100000000) :
    Calls Tryd.prog 7 #[.agg #[.int .i64 z, v, .bool p], .int .i64 k] X fun e Y => e = .returned (.int .i64 (k + 1 * (ws.length : Int))) ∧ OV lo hi G z v (layStringS.mark k ws).1 p Y ∧ Rng lo hi X Y := by
  obtain ⟨f, h0, h1, h2⟩ := h.co
  refine (markOptions_any z v ws p lo f hl k hk0 hk1 X h0 h1).mono ?_
  rintro e Y ⟨rfl, o1, hc⟩
  have hr : Rng lo hi X Y := hc.rng (fun g hg => ⟨(layStringS.blocks h1 g hg).1, h2 g hg⟩)
  exact ⟨rfl, ⟨h.var.rng hr (.inr h.gh), ⟨f, h0, o1, h2⟩, h.gh⟩, hr⟩
theorem OV.held (k : Int) (h : OV lo hi G z v (layStringS.mark k ws).1 p X) (hl : ws.length ≤ 10000000) (hk0 : 1 ≤ k) (hk1 : k ≤ 100000000) :
    Calls Tryd.prog 8 #[.agg #[.int .i64 z, v, .bool p], .int .i64 k] X fun e Y => e = .returned (.int .i64 (k + 1 * (ws.length : Int))) ∧ Below X.heap.size X Y :=
  heldOptions_any z v ws p hl k hk0 hk1 X h.rd
theorem opt_eq {u : Value} (h : layStringS.rd X [v] ws) (k : layStringS.rd X [u] ws) (hf : ws.length ≤ 10000000) :
    Calls Tryd.prog 6 #[.agg #[.int .i64 z, v, .bool p], .agg #[.int .i64 z, u, .bool p]] X fun e Y => e = .returned (.bool true) ∧ Below X.heap.size X Y :=
  eqOptions_same z v u ws p X h k (by omega)
end

end Go.Proofs.YtmgdhlodifkematDoor
namespace Go.Proofs.YtmgdhlodifkematDoor
open Go.RowKit

set_option maxRecDepth 100000 in
set_option maxHeartbeats 6400000 in
/-- The exact law on ReadOption, out of one answer that both give. -/
theorem lawReadOptionF (s : ByteArray) (rz : Int) (rw : List ByteArray) (rp ok : Bool) (hf : rw.length ≤ 10000000) (w : World)
    (hI : s.size ≤ 1048576 → ∀ X : World, Below w.heap.size w X → Calls Tryd.prog 5 #[.string s] X fun e Y => ∃ v, e = .returned (.tuple #[v, .bool ok]) ∧ OptVal rz rw rp X v Y)
    (hS : s.size ≤ 1048576 → ∀ X : World, Calls Tryd.prog 4 #[.string s] X fun e Y => ∃ v, e = .returned (.tuple #[v, .bool ok]) ∧ OptVal rz rw rp X v Y) :
    Calls Tryd.prog 3 #[.string s] w fun e w' => e = .returned (.bool true) ∧ Below w.heap.size w w' := by
  by_cases hbig : s.size ≤ 1048576
  case neg =>
    have hbi : (1048576 : Int) < (s.size : Int) := by omega
    clear hI hS
    go_enter Tryd.func3, Tryd.ntmps3
    go_wp2_with fail
    go_ret
    exact ⟨rfl, Below.refl _ _⟩
  have hbi : ¬ ((1048576 : Int) < (s.size : Int)) := by omega
  have HI := Lib.hid (hI hbig)
  have HS := Lib.hid (hS hbig)
  have hbb : (ok != ok) = false := by cases ok <;> rfl
  clear hI hS
  go_enter Tryd.func3, Tryd.ntmps3
  go_wp2_with fail
  refine (HS.out _).mono ?_
  rintro e Y3 ⟨v, rfl, hv⟩
  obtain ⟨u1, uc1, f1, rfl, hd3, hco3, hb3⟩ := hv
  have hal : Below Y3.heap.size Y3 (Y3.alloc (.cells #[.int .i64 rz, .slice u1 rw.length uc1, .bool rp] OptionsT)) := (Below.refl _ _).alloc (Nat.le_refl _) _
  have U4 := Lib.hid (OV.new (z := rz) (p := rp) hd3 hco3)
  have B4 := Lib.hid (hb3.trans (hal.mono hb3.size))
  have o2 := hb3.size
  have hs4 : (Y3.alloc (.cells #[.int .i64 rz, .slice u1 rw.length uc1, .bool rp] OptionsT)).heap.size = Y3.heap.size + 1 := by simp
  clear hco3 hb3 hal hd3 f1
  go_upto_region 4 with fail
  generalize Y3.alloc (.cells #[.int .i64 rz, .slice u1 rw.length uc1, .bool rp] OptionsT) = V4 at *
  generalize Y3.heap.size = gu at *
  clear Y3
  go_wp2_with fail
  refine (HI.out _ B4.out).mono ?_
  rintro e Y7 ⟨v, rfl, hv⟩
  obtain ⟨g1, gc1, f1, rfl, hd7, hco7, hb7⟩ := hv
  have hal : Below Y7.heap.size Y7 (Y7.alloc (.cells #[.int .i64 rz, .slice g1 rw.length gc1, .bool rp] OptionsT)) := (Below.refl _ _).alloc (Nat.le_refl _) _
  have o6 := hb7.size
  have G8 := Lib.hid (OV.new (z := rz) (p := rp) hd7 hco7)
  have U8 := Lib.hid ((U4.out.next hb7).next hal)
  have B8 := Lib.hid ((B4.out.trans (hb7.mono B4.out.size)).trans (hal.mono (B4.out.trans (hb7.mono B4.out.size)).size))
  clear hco7 hb7 hal hd7 U4 B4 f1
  go_upto_region 5 with fail
  generalize Y7.alloc (.cells #[.int .i64 rz, .slice g1 rw.length gc1, .bool rp] OptionsT) = V8 at *
  obtain ⟨lu, hlu⟩ : ∃ lu, lu = w.heap.size := ⟨_, rfl⟩
  rw [← hlu] at U8
  have ho : lu ≤ gu ∧ gu < V4.heap.size ∧ w.heap.size ≤ V4.heap.size := by omega
  generalize V4.heap.size = lg at *
  generalize Y7.heap.size = gg at *
  have Q8 : Hid (OV lu gu gu rz (.slice u1 rw.length uc1) rw rp V8 ∧ OV lg gg gg rz (.slice g1 rw.length gc1) rw rp V8 ∧ Below w.heap.size w V8) := Lib.hid ⟨U8.out, G8.out, B8.out⟩
  clear V4 Y7 U8 G8 B8
  have qn : ∀ X Y, (OV lu gu gu rz (.slice u1 rw.length uc1) rw rp X ∧ OV lg gg gg rz (.slice g1 rw.length gc1) rw rp X ∧ Below w.heap.size w X) → Below X.heap.size X Y → (OV lu gu gu rz (.slice u1 rw.length uc1) rw rp Y ∧ OV lg gg gg rz (.slice g1 rw.length gc1) rw rp Y ∧ Below w.heap.size w Y) := fun X Y h hb => ⟨h.1.next hb, h.2.1.next hb, h.2.2.trans (hb.mono h.2.2.size)⟩
  have qm : ∀ X Y, (OV lu gu gu rz (.slice u1 rw.length uc1) rw rp X ∧ OV lg gg gg rz (.slice g1 rw.length gc1) (layStringS.mark 1 rw).1 rp X ∧ Below w.heap.size w X) → Below X.heap.size X Y → (OV lu gu gu rz (.slice u1 rw.length uc1) rw rp Y ∧ OV lg gg gg rz (.slice g1 rw.length gc1) (layStringS.mark 1 rw).1 rp Y ∧ Below w.heap.size w Y) := fun X Y h hb => ⟨h.1.next hb, h.2.1.next hb, h.2.2.trans (hb.mono h.2.2.size)⟩
  have d0 : V8.cell? ⟨gg, 0, none⟩ = some (.int .i64 rz) := Q8.out.2.1.var.cell 0
  have d1 : V8.cell? ⟨gg, 1, none⟩ = some (.slice g1 rw.length gc1) := Q8.out.2.1.var.cell 1
  have d2 : V8.cell? ⟨gg, 2, none⟩ = some (.bool rp) := Q8.out.2.1.var.cell 2
  have e0 : V8.cell? ⟨gu, 0, none⟩ = some (.int .i64 rz) := Q8.out.1.var.cell 0
  have e1 : V8.cell? ⟨gu, 1, none⟩ = some (.slice u1 rw.length uc1) := Q8.out.1.var.cell 1
  have e2 : V8.cell? ⟨gu, 2, none⟩ = some (.bool rp) := Q8.out.1.var.cell 2
  have K8 := Lib.hid (opt_eq (z := rz) (p := rp) Q8.out.2.1.rd Q8.out.1.rd hf)
  go_wp2_with fail
  refine (K8.out).mono ?_
  rintro e V9 ⟨rfl, hb9⟩
  have Q9 := Lib.hid (qn _ _ Q8.out hb9)
  clear hb9 K8 Q8 d0 d1 d2 e0 e1 e2
  have d0 : V9.cell? ⟨gg, 0, none⟩ = some (.int .i64 rz) := Q9.out.2.1.var.cell 0
  have d1 : V9.cell? ⟨gg, 1, none⟩ = some (.slice g1 rw.length gc1) := Q9.out.2.1.var.cell 1
  have d2 : V9.cell? ⟨gg, 2, none⟩ = some (.bool rp) := Q9.out.2.1.var.cell 2
  have KC := Lib.hid (Q9.out.2.1.mark hf 1 (by omega) (by omega))
  go_wp2_with fail
  refine (KC.out).mono ?_
  rintro e VD ⟨rfl, hmD, hcD⟩
  have QD : Hid (OV lu gu gu rz (.slice u1 rw.length uc1) rw rp VD ∧ OV lg gg gg rz (.slice g1 rw.length gc1) (layStringS.mark 1 rw).1 rp VD ∧ Below w.heap.size w VD) := Lib.hid ⟨Q9.out.1.apart hcD (.inl (by omega)) (.inl (by omega)), hmD, Q9.out.2.2.trans (hcD.below (by omega) Q9.out.2.2.size)⟩
  clear hmD hcD KC Q9 d0 d1 d2 qn
  have KH : Hid (∀ X, (OV lu gu gu rz (.slice u1 rw.length uc1) rw rp X ∧ OV lg gg gg rz (.slice g1 rw.length gc1) (layStringS.mark 1 rw).1 rp X ∧ Below w.heap.size w X) → Calls Tryd.prog 8 #[.agg #[.int .i64 rz, .slice g1 rw.length gc1, .bool rp], .int .i64 1] X fun e Y => e = .returned (.int .i64 (1 + 1 * (rw.length : Int))) ∧ Below X.heap.size X Y) := Lib.hid (fun X h => OV.held 1 h.2.1 hf (by omega) (by omega))
  have hm1 : ¬ ((1 + 1 * (rw.length : Int)) < 0) := by omega
  generalize (1 + 1 * (rw.length : Int)) = zr at *
  have d0 : VD.cell? ⟨gg, 0, none⟩ = some (.int .i64 rz) := QD.out.2.1.var.cell 0
  have d1 : VD.cell? ⟨gg, 1, none⟩ = some (.slice g1 rw.length gc1) := QD.out.2.1.var.cell 1
  have d2 : VD.cell? ⟨gg, 2, none⟩ = some (.bool rp) := QD.out.2.1.var.cell 2
  go_wp2_with fail
  refine (KH.out VD QD.out).mono ?_
  rintro e VE ⟨rfl, hbE⟩
  have QE := Lib.hid (qm _ _ QD.out hbE)
  clear hbE QD d0 d1 d2
  go_wp2_with fail
  refine (HI.out _ QE.out.2.2).mono ?_
  rintro e VG ⟨v, rfl, hv⟩
  obtain ⟨h1, hc1, f1, rfl, hdG, hcoG, hbG⟩ := hv
  have hal : Below VG.heap.size VG (VG.alloc (.cells #[.int .i64 rz, .slice h1 rw.length hc1, .bool rp] OptionsT)) := (Below.refl _ _).alloc (Nat.le_refl _) _
  have QG := Lib.hid (qm _ _ (qm _ _ QE.out hbG) hal)
  have HG := Lib.hid (OV.new (z := rz) (p := rp) hdG hcoG)
  clear hcoG hbG hal QE hdG f1
  go_upto_region 16 with fail
  generalize VG.alloc (.cells #[.int .i64 rz, .slice h1 rw.length hc1, .bool rp] OptionsT) = VH at *
  generalize VG.heap.size = gh at *
  generalize VE.heap.size = lh at *
  clear VG VE
  have d0 : VH.cell? ⟨gh, 0, none⟩ = some (.int .i64 rz) := HG.out.var.cell 0
  have d1 : VH.cell? ⟨gh, 1, none⟩ = some (.slice h1 rw.length hc1) := HG.out.var.cell 1
  have d2 : VH.cell? ⟨gh, 2, none⟩ = some (.bool rp) := HG.out.var.cell 2
  have e0 : VH.cell? ⟨gu, 0, none⟩ = some (.int .i64 rz) := QG.out.1.var.cell 0
  have e1 : VH.cell? ⟨gu, 1, none⟩ = some (.slice u1 rw.length uc1) := QG.out.1.var.cell 1
  have e2 : VH.cell? ⟨gu, 2, none⟩ = some (.bool rp) := QG.out.1.var.cell 2
  have KJ := Lib.hid (opt_eq (z := rz) (p := rp) HG.out.rd QG.out.1.rd hf)
  go_wp2_with fail
  refine (KJ.out).mono ?_
  rintro e VI ⟨rfl, hbI⟩
  have QI := Lib.hid (qm _ _ QG.out hbI)
  clear hbI KJ QG HG d0 d1 d2 e0 e1 e2
  have d0 : VI.cell? ⟨gg, 0, none⟩ = some (.int .i64 rz) := QI.out.2.1.var.cell 0
  have d1 : VI.cell? ⟨gg, 1, none⟩ = some (.slice g1 rw.length gc1) := QI.out.2.1.var.cell 1
  have d2 : VI.cell? ⟨gg, 2, none⟩ = some (.bool rp) := QI.out.2.1.var.cell 2
  go_wp2_with fail
  refine (KH.out VI QI.out).mono ?_
  rintro e VK ⟨rfl, hbK⟩
  have BZ := Lib.hid (QI.out.2.2.trans (hbK.mono QI.out.2.2.size))
  clear hbK
  go_wp2_with fail
  go_ret
  exact ⟨rfl, BZ.out⟩

end Go.Proofs.YtmgdhlodifkematDoor

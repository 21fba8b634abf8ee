/-
  The program's HearGreet.
  The program's GreeterNew.
-/
import Derived.Test.YtkjjdoadjhjmbauGreatDoorJ25
import Derived.Test.YtkjjdoadjhjmbauGreatDoorJ26
import Derived.Test.YtkjjdoadjhjmbauGreatDoorJ08
import Derived.Test.YtkjjdoadjhjmbauGreatDoorJ23
import Derived.Test.YtkjjdoadjhjmbauGreatDoorJ24
namespace Go.Proofs.YtkjjdoadjhjmbauGreatDoor
open Go.RowKit

/-- A greeter in its variable has become this, and this is answered. -/
def HeardTo (G : Nat) (x0 x1 x2 x3 y4 : Int) (x5 y6 t : ByteArray) (X : World) (e : Ending) (Y : World) : Prop := e = .returned (.string t) ∧ VarA G GreeterT #[.int .i64 x0, .int .i64 x1, .int .i64 x2, .int .i64 x3, .int .i64 y4, .string x5, .string y6] Y ∧ Below G X Y

set_option maxRecDepth 100000 in
set_option maxHeartbeats 1600000 in
theorem hearHello_yes (HG : CloneG) (G : Nat) (x0 x1 x2 x3 x4 : Int) (x5 x6 s t : ByteArray) (hx0 : x0 = 1 ∨ x0 = 2) (h5 : x5.size ≤ 10000000) (hs : s.size ≤ 10000000) (n : Nat) (ho : OtherIs inGroup x0 s n true) (ht : ProofIs x0 x1 2 x5 s t) (w : World) (hv : VarA G GreeterT #[.int .i64 x0, .int .i64 x1, .int .i64 x2, .int .i64 x3, .int .i64 x4, .string x5, .string x6] w) (_ : LaidK w) (lenG : Nat) (hG : lenG ≤ G) (hKG : ∀ Y, Below lenG w Y → LaidK Y) :
    Calls Tryz.prog 50 #[.pointer (some ⟨G, 0, none⟩), .string s] w (HeardTo G x0 x1 x2 x3 2 x5 s t w) := by
  obtain ⟨Q, HQ⟩ : ∃ Q : Ending → World → Prop, Hid (Q = HeardTo G x0 x1 x2 x3 2 x5 s t w) := ⟨_, Lib.hid rfl⟩
  rw [← HQ.out]
  have HKG := Lib.hid hKG
  have HO := Lib.hid ho
  have HT := Lib.hid ht
  have e0 : w.cell? ⟨G, 0, none⟩ = some (.int .i64 x0) := hv.cell 0
  have KO := Lib.hid (otherRole_any x0 hx0 w)
  have KH := Lib.hid (isHelloOf_any x0 s (by omega) n true ho w)
  have HV := Lib.hid hv
  have hlt := hv.lt
  clear hv hKG ho ht
  go_enter Tryz.func50, Tryz.ntmps50
  go_wp2_with fail
  refine KO.out.mono ?_
  rintro e Y0 ⟨rfl, hY⟩
  rw [hY]
  clear hY KO
  go_wp2_with fail
  refine KH.out.mono ?_
  rintro e Y1 ⟨rfl, hb⟩
  have V1 := Lib.hid (HV.out.next hb)
  have B1 := Lib.hid (hb.mono (Nat.le_of_lt hlt))
  have KC := Lib.hid (HG s Y1 (by omega))
  clear hb KH HV e0
  go_wp2_with fail
  refine KC.out.mono ?_
  rintro e Y2 ⟨rfl, hb⟩
  have V2 := Lib.hid (V1.out.next hb)
  have B2 := Lib.hid (B1.out.trans (hb.mono (Nat.le_of_lt V1.out.lt)))
  clear hb KC V1 B1
  have c6 : Y2.cell? ⟨G, 6, none⟩ = some (.string x6) := V2.out.cell 6
  have f6 := V2.out.free 6
  have V3 := Lib.hid (V2.out.set 6 (.string s))
  have B3 := Lib.hid (B2.out.setCell (p := ⟨G, 6, none⟩) (Nat.le_refl _) (.string s))
  have KG := Lib.hid (goTo_heard G GreeterT _ (.int .i64 x4) _ V3.out rfl)
  clear V2 B2
  go_wp2_with fail
  refine KG.out.mono ?_
  rintro e Y3 ⟨rfl, Z3, hb, rfl⟩
  have V4 : Hid (VarA G GreeterT #[.int .i64 x0, .int .i64 x1, .int .i64 x2, .int .i64 x3, .int .i64 2, .string x5, .string s] (Z3.setCell ⟨G, 4, none⟩ (.int .i64 2))) := Lib.hid ((V3.out.next hb).set 4 (.int .i64 2))
  have B4 := Lib.hid ((B3.out.trans (hb.mono (Nat.le_of_lt V3.out.lt))).setCell (p := ⟨G, 4, none⟩) (Nat.le_refl _) (.int .i64 2))
  clear hb KG V3 B3 c6 f6
  generalize Z3.setCell ⟨G, 4, none⟩ (.int .i64 2) = Y4 at *
  have c0 : Y4.cell? ⟨G, 0, none⟩ = some (.int .i64 x0) := V4.out.cell 0
  have c1 : Y4.cell? ⟨G, 1, none⟩ = some (.int .i64 x1) := V4.out.cell 1
  have c2 : Y4.cell? ⟨G, 2, none⟩ = some (.int .i64 x2) := V4.out.cell 2
  have c3 : Y4.cell? ⟨G, 3, none⟩ = some (.int .i64 x3) := V4.out.cell 3
  have c4 : Y4.cell? ⟨G, 4, none⟩ = some (.int .i64 2) := V4.out.cell 4
  have c5 : Y4.cell? ⟨G, 5, none⟩ = some (.string x5) := V4.out.cell 5
  have c6 : Y4.cell? ⟨G, 6, none⟩ = some (.string s) := V4.out.cell 6
  have KP := Lib.hid (implProof_any HG x0 x1 x2 x3 2 x5 s h5 hs t HT.out Y4 (HKG.out Y4 (B4.out.mono hG)))
  go_wp2_with fail
  refine KP.out.mono ?_
  rintro e Y5 ⟨rfl, hb⟩
  have E : Hid (Q (.returned (.string t)) Y5) := Lib.hid (by rw [HQ.out]; exact ⟨rfl, V4.out.next hb, B4.out.trans (hb.mono (Nat.le_of_lt V4.out.lt))⟩)
  clear hb KP V4 B4 c0 c1 c2 c3 c4 c5 c6
  go_wp2_with fail
  exact E.out

set_option maxRecDepth 100000 in
set_option maxHeartbeats 1600000 in
theorem hearHello_no (G : Nat) (x0 x1 x2 x3 x4 : Int) (x5 x6 s : ByteArray) (hx0 : x0 = 1 ∨ x0 = 2) (hs : s.size ≤ 10000000) (n : Nat) (ho : OtherIs inGroup x0 s n false) (w : World) (hv : VarA G GreeterT #[.int .i64 x0, .int .i64 x1, .int .i64 x2, .int .i64 x3, .int .i64 x4, .string x5, .string x6] w) :
    Calls Tryz.prog 50 #[.pointer (some ⟨G, 0, none⟩), .string s] w (HeardTo G x0 x1 x2 x3 4 x5 x6 ⟨#[]⟩ w) := by
  obtain ⟨Q, HQ⟩ : ∃ Q : Ending → World → Prop, Hid (Q = HeardTo G x0 x1 x2 x3 4 x5 x6 ⟨#[]⟩ w) := ⟨_, Lib.hid rfl⟩
  rw [← HQ.out]
  have e0 : w.cell? ⟨G, 0, none⟩ = some (.int .i64 x0) := hv.cell 0
  have KO := Lib.hid (otherRole_any x0 hx0 w)
  have KH := Lib.hid (isHelloOf_any x0 s (by omega) n false ho w)
  have HV := Lib.hid hv
  have hlt := hv.lt
  clear hv ho
  go_enter Tryz.func50, Tryz.ntmps50
  go_wp2_with fail
  refine KO.out.mono ?_
  rintro e Y0 ⟨rfl, hY⟩
  rw [hY]
  clear hY KO
  go_wp2_with fail
  refine KH.out.mono ?_
  rintro e Y1 ⟨rfl, hb⟩
  have V1 := Lib.hid (HV.out.next hb)
  have B1 := Lib.hid (hb.mono (Nat.le_of_lt hlt))
  have KG := Lib.hid (goTo_bad G GreeterT _ (.int .i64 x4) _ V1.out rfl)
  clear hb KH HV e0
  go_wp2_with fail
  refine KG.out.mono ?_
  rintro e Y3 ⟨rfl, Z3, hb, rfl⟩
  have E : Hid (Q (.returned (.string ⟨#[]⟩)) (Z3.setCell ⟨G, 4, none⟩ (.int .i64 4))) := Lib.hid (by
    rw [HQ.out]
    exact ⟨rfl, (V1.out.next hb).set 4 _, (B1.out.trans (hb.mono (Nat.le_of_lt V1.out.lt))).setCell (p := ⟨G, 4, none⟩) (Nat.le_refl _) _⟩)
  clear hb KG V1 B1
  go_wp2_with fail
  exact E.out

/-- A greeter in its variable has become this. -/
def BecameTo (G : Nat) (x0 x1 x2 x3 y4 : Int) (x5 x6 : ByteArray) (X : World) (e : Ending) (Y : World) : Prop := e = .returned (.tuple #[]) ∧ VarA G GreeterT #[.int .i64 x0, .int .i64 x1, .int .i64 x2, .int .i64 x3, .int .i64 y4, .string x5, .string x6] Y ∧ Below G X Y
set_option maxRecDepth 100000 in
set_option maxHeartbeats 1600000 in
theorem hearProof_any (HG : CloneG) (HC : CutG) (G : Nat) (x0 x1 x2 x3 x4 : Int) (x5 x6 s : ByteArray) (hx0 : x0 = 1 ∨ x0 = 2) (h5 : x5.size ≤ 10000000) (h6 : x6.size ≤ 10000000) (b : Bool) (hb0 : CheckIs x0 x2 x5 x6 s b) (w : World) (hv : VarA G GreeterT #[.int .i64 x0, .int .i64 x1, .int .i64 x2, .int .i64 x3, .int .i64 x4, .string x5, .string x6] w) (hK0 : LaidK w) :
    Calls Tryz.prog 51 #[.pointer (some ⟨G, 0, none⟩), .string s] w (BecameTo G x0 x1 x2 x3 (if b then 3 else 4) x5 x6 w) := by
  obtain ⟨Q, HQ⟩ : ∃ Q : Ending → World → Prop, Hid (Q = BecameTo G x0 x1 x2 x3 (if b then 3 else 4) x5 x6 w) := ⟨_, Lib.hid rfl⟩
  rw [← HQ.out]
  have KO := Lib.hid (isOthersProof_any HG HC G x0 x1 x2 x3 x4 x5 x6 s hx0 h5 h6 b hb0 w hv hK0)
  have HV := Lib.hid hv
  have hlt := hv.lt
  clear hv hb0 hK0
  go_enter Tryz.func51, Tryz.ntmps51
  go_wp2_with fail
  refine KO.out.mono ?_
  rintro e Y1 ⟨rfl, hb⟩
  have V1 := Lib.hid (HV.out.next hb)
  have B1 := Lib.hid (hb.mono (Nat.le_of_lt hlt))
  clear hb KO HV
  cases b with
  | true =>
    have KG := Lib.hid (goTo_up G GreeterT _ (.int .i64 x4) _ V1.out rfl)
    go_wp2_with fail
    refine KG.out.mono ?_
    rintro e Y3 ⟨rfl, Z3, hb, rfl⟩
    have E : Hid (Q (.returned (.tuple #[])) (Z3.setCell ⟨G, 4, none⟩ (.int .i64 3))) := Lib.hid (by
      rw [HQ.out]
      exact ⟨rfl, (V1.out.next hb).set 4 _, (B1.out.trans (hb.mono (Nat.le_of_lt V1.out.lt))).setCell (p := ⟨G, 4, none⟩) (Nat.le_refl _) _⟩)
    clear hb KG V1 B1
    go_wp2_with fail
    exact bodyPost_end (results_none rfl _ _ _) rfl E.out
  | false =>
    have KG := Lib.hid (goTo_bad G GreeterT _ (.int .i64 x4) _ V1.out rfl)
    go_wp2_with fail
    refine KG.out.mono ?_
    rintro e Y3 ⟨rfl, Z3, hb, rfl⟩
    have E : Hid (Q (.returned (.tuple #[])) (Z3.setCell ⟨G, 4, none⟩ (.int .i64 4))) := Lib.hid (by
      rw [HQ.out]
      exact ⟨rfl, (V1.out.next hb).set 4 _, (B1.out.trans (hb.mono (Nat.le_of_lt V1.out.lt))).setCell (p := ⟨G, 4, none⟩) (Nat.le_refl _) _⟩)
    clear hb KG V1 B1
    go_wp2_with fail
    exact bodyPost_end (results_none rfl _ _ _) rfl E.out

set_option maxRecDepth 100000 in
set_option maxHeartbeats 1600000 in
theorem hearAt_any (HG : CloneG) (HC : CutG) (G : Nat) (x0 x1 x2 x3 x4 : Int) (x5 x6 s : ByteArray) (hx0 : x0 = 1 ∨ x0 = 2) (h5 : x5.size ≤ 10000000) (h6 : x6.size ≤ 10000000) (hs : s.size ≤ 10000000) (y4 : Int) (y6 t : ByteArray) (hh : HearIs x0 x1 x2 x4 x5 x6 s y4 y6 t) (w : World) (hv : VarA G GreeterT #[.int .i64 x0, .int .i64 x1, .int .i64 x2, .int .i64 x3, .int .i64 x4, .string x5, .string x6] w) (hK0 : LaidK w) (lenG : Nat) (hG : lenG ≤ G) (hKG : ∀ Y, Below lenG w Y → LaidK Y) :
    Calls Tryz.prog 29 #[.pointer (some ⟨G, 0, none⟩), .iface (stepT x4) (.agg #[]), .string s] w (HeardTo G x0 x1 x2 x3 y4 x5 y6 t w) := by
  obtain ⟨Q, HQ⟩ : ∃ Q : Ending → World → Prop, Hid (Q = HeardTo G x0 x1 x2 x3 y4 x5 y6 t w) := ⟨_, Lib.hid rfl⟩
  rw [← HQ.out]
  have TA1 := assertSaid_New
  have TA2 := assertSaid_Said
  have TA3 := assertSaid_Heard
  have TA4 := assertSaid_Up
  have TA5 := assertSaid_Bad
  have TB1 := assertHeard_New
  have TB3 := assertHeard_Heard
  have TB4 := assertHeard_Up
  have TB5 := assertHeard_Bad
  have KS : Hid (x4 = 1 → Calls Tryz.prog 50 #[.pointer (some ⟨G, 0, none⟩), .string s] w Q) := Lib.hid (fun h1 => by
    rw [HQ.out]
    rcases hh with ⟨-, n, ho, rfl, rfl, hp⟩ | ⟨-, ⟨n, ho⟩, rfl, rfl, rfl⟩ | ⟨e, -⟩ | ⟨e, -⟩
    · exact hearHello_yes HG G x0 x1 x2 x3 x4 x5 x6 _ t hx0 h5 hs n ho hp w hv hK0 lenG hG hKG
    · exact hearHello_no G x0 x1 x2 x3 x4 x5 _ s hx0 hs n ho w hv
    · omega
    · exact absurd h1 e)
  have KH : Hid (x4 = 2 → Calls Tryz.prog 51 #[.pointer (some ⟨G, 0, none⟩), .string s] w (BecameTo G x0 x1 x2 x3 y4 x5 y6 w) ∧ t = ⟨#[]⟩) := Lib.hid (fun h2 => by
    rcases hh with ⟨e, -⟩ | ⟨e, -⟩ | ⟨-, b, hb, rfl, rfl, rfl⟩ | ⟨-, e, -⟩
    · omega
    · omega
    · exact ⟨hearProof_any HG HC G x0 x1 x2 x3 x4 x5 _ s hx0 h5 h6 b hb w hv hK0, rfl⟩
    · exact absurd h2 e)
  have KN : Hid (x4 ≠ 1 → x4 ≠ 2 → Q (.returned (.string ⟨#[]⟩)) w) := Lib.hid (fun h1 h2 => by
    rw [HQ.out]
    rcases hh with ⟨e, -⟩ | ⟨e, -⟩ | ⟨e, -⟩ | ⟨-, -, rfl, rfl, rfl⟩
    · exact absurd e h1
    · exact absurd e h1
    · exact absurd e h2
    · exact ⟨rfl, hv, Below.refl _ _⟩)
  clear hh hv hK0 hKG
  by_cases h1 : x4 = 1
  · have K := Lib.hid (KS.out h1)
    rw [show stepT x4 = StSaidT by rw [h1]; rfl]
    clear h1 KS KH KN
    go_enter Tryz.func29, Tryz.ntmps29
    go_wp2_with fail
    refine K.out.mono ?_
    intro e Y hE
    have HE := Lib.hid hE
    rw [HQ.out] at hE
    obtain ⟨rfl, -, -⟩ := hE
    go_wp2_with fail
    exact HE.out
  · by_cases h2 : x4 = 2
    · obtain ⟨K, ht⟩ := KH.out h2
      have KK := Lib.hid K
      rw [show stepT x4 = StHeardT by rw [h2]; rfl]
      have HT := Lib.hid ht
      clear h1 h2 KS KH KN K ht
      go_enter Tryz.func29, Tryz.ntmps29
      go_wp2_with fail
      refine KK.out.mono ?_
      rintro e Y ⟨rfl, h3, h4⟩
      have HE : Hid (Q (.returned (.string ⟨#[]⟩)) Y) := Lib.hid (by rw [HQ.out, HT.out]; exact ⟨rfl, h3, h4⟩)
      clear h3 h4 KK
      go_wp2_with fail
      exact HE.out
    · have HE := Lib.hid (KN.out h1 h2)
      have hN : stepT x4 = StNewT ∨ stepT x4 = StUpT ∨ stepT x4 = StBadT := by
        by_cases h0 : x4 = 0
        · exact .inl (by rw [h0]; rfl)
        · by_cases h3 : x4 = 3
          · exact .inr (.inl (by rw [h3]; rfl))
          · exact .inr (.inr (stepT_bad h0 h1 h2 h3))
      clear h1 h2 KS KH KN
      rcases hN with h | h | h
      all_goals
        rw [h]
        clear h
        go_enter Tryz.func29, Tryz.ntmps29
        go_wp2_with fail
        exact HE.out

set_option maxRecDepth 100000 in
set_option maxHeartbeats 1600000 in
theorem implHearGreet_any (HG : CloneG) (HC : CutG) (x0 x1 x2 x3 x4 : Int) (x5 x6 s : ByteArray) (hx0 : x0 = 1 ∨ x0 = 2) (h5 : x5.size ≤ 10000000) (h6 : x6.size ≤ 10000000) (hs : s.size ≤ 10000000) (y4 : Int) (y6 t : ByteArray) (hh : HearIs x0 x1 x2 x4 x5 x6 s y4 y6 t) (w : World) (hK0 : LaidK w) :
    Calls Tryz.prog 8 #[.agg #[.int .i64 x0, .int .i64 x1, .int .i64 x2, .int .i64 x3, .int .i64 x4, .string x5, .string x6], .string s] w fun e w' => e = .returned (.tuple #[.agg #[.int .i64 x0, .int .i64 x1, .int .i64 x2, .int .i64 x3, .int .i64 y4, .string x5, .string y6], .string t]) ∧ Below w.heap.size w w' := by
  have H0 := Lib.hid (GR.new (w := w) (x0 := x0) (x1 := x1) (x2 := x2) (x3 := x3) (x4 := x4) (x5 := x5) (x6 := x6))
  have HK := Lib.hid hK0
  have HH := Lib.hid hh
  clear hK0 hh
  go_enter Tryz.func8, Tryz.ntmps8
  go_upto_region 1 with fail
  generalize (w.alloc (.cells #[.int .i64 x0, .int .i64 x1, .int .i64 x2, .int .i64 x3, .int .i64 x4, .string x5, .string x6] GreeterT)).alloc (.cells #[.int .i64 0, .int .i64 0, .int .i64 0, .int .i64 0, .int .i64 0, .string ⟨#[]⟩, .string ⟨#[]⟩] GreeterT) = Y0 at *
  have K0 := Lib.hid (copyOfGreeter_any HG x0 x1 x2 x3 x4 x5 x6 h5 h6 Y0)
  have e0 : Y0.cell? ⟨w.heap.size, 0, none⟩ = some (.int .i64 x0) := H0.out.g.cell 0
  have e1 : Y0.cell? ⟨w.heap.size, 1, none⟩ = some (.int .i64 x1) := H0.out.g.cell 1
  have e2 : Y0.cell? ⟨w.heap.size, 2, none⟩ = some (.int .i64 x2) := H0.out.g.cell 2
  have e3 : Y0.cell? ⟨w.heap.size, 3, none⟩ = some (.int .i64 x3) := H0.out.g.cell 3
  have e4 : Y0.cell? ⟨w.heap.size, 4, none⟩ = some (.int .i64 x4) := H0.out.g.cell 4
  have e5 : Y0.cell? ⟨w.heap.size, 5, none⟩ = some (.string x5) := H0.out.g.cell 5
  have e6 : Y0.cell? ⟨w.heap.size, 6, none⟩ = some (.string x6) := H0.out.g.cell 6
  go_wp2_with fail
  refine K0.out.mono ?_
  rintro e Y1 ⟨rfl, hb⟩
  have H1 := Lib.hid (GN.made (H0.out.next hb))
  clear hb K0 H0 e0 e1 e2 e3 e4 e5 e6
  go_upto_region 2 with fail
  generalize Y1.alloc (.cells #[.int .i64 x0, .int .i64 x1, .int .i64 x2, .int .i64 x3, .int .i64 x4, .string x5, .string x6] GreeterT) = Z1 at *
  generalize Y1.heap.size = nx at *
  have c4 : Z1.cell? ⟨w.heap.size, 4, none⟩ = some (.int .i64 x4) := H1.out.gr.g.cell 4
  have K1 := Lib.hid (stepOf_any x4 Z1)
  have hfar := H1.out.far
  have K2 := Lib.hid (hearAt_any HG HC nx x0 x1 x2 x3 x4 x5 x6 s hx0 h5 h6 hs y4 y6 t HH.out Z1 H1.out.n (HK.out.stays H1.out.gr.below (Nat.le_refl _)) w.heap.size (by omega) (fun Y hb => HK.out.stays (H1.out.gr.below.trans hb) (Nat.le_refl _)))
  go_wp2_with fail
  refine K1.out.mono ?_
  rintro e Y2 ⟨rfl, hY⟩
  rw [hY]
  clear hY K1 c4
  go_wp2_with fail
  refine K2.out.mono ?_
  rintro e V2 ⟨rfl, hn, hb⟩
  have HN := Lib.hid hn
  have HR : Hid (VarA (w.heap.size + 1) GreeterT #[.int .i64 0, .int .i64 0, .int .i64 0, .int .i64 0, .int .i64 0, .string ⟨#[]⟩, .string ⟨#[]⟩] V2) := Lib.hid (H1.out.gr.r.next' hb (by omega))
  have HB := Lib.hid (H1.out.gr.below.trans (hb.mono (show w.heap.size ≤ nx by omega)))
  clear hn hb K2 H1
  go_upto_region 3 with fail
  have e0 : V2.cell? ⟨nx, 0, none⟩ = some (.int .i64 x0) := HN.out.cell 0
  have e1 : V2.cell? ⟨nx, 1, none⟩ = some (.int .i64 x1) := HN.out.cell 1
  have e2 : V2.cell? ⟨nx, 2, none⟩ = some (.int .i64 x2) := HN.out.cell 2
  have e3 : V2.cell? ⟨nx, 3, none⟩ = some (.int .i64 x3) := HN.out.cell 3
  have e4 : V2.cell? ⟨nx, 4, none⟩ = some (.int .i64 y4) := HN.out.cell 4
  have e5 : V2.cell? ⟨nx, 5, none⟩ = some (.string x5) := HN.out.cell 5
  have e6 : V2.cell? ⟨nx, 6, none⟩ = some (.string y6) := HN.out.cell 6
  have d0 : V2.cell? ⟨w.heap.size + 1, 0, none⟩ = some (.int .i64 0) := HR.out.cell 0
  have f0 := HR.out.free 0
  have d1 : V2.cell? ⟨w.heap.size + 1, 1, none⟩ = some (.int .i64 0) := HR.out.cell 1
  have f1 := HR.out.free 1
  have d2 : V2.cell? ⟨w.heap.size + 1, 2, none⟩ = some (.int .i64 0) := HR.out.cell 2
  have f2 := HR.out.free 2
  have d3 : V2.cell? ⟨w.heap.size + 1, 3, none⟩ = some (.int .i64 0) := HR.out.cell 3
  have f3 := HR.out.free 3
  have d4 : V2.cell? ⟨w.heap.size + 1, 4, none⟩ = some (.int .i64 0) := HR.out.cell 4
  have f4 := HR.out.free 4
  have d5 : V2.cell? ⟨w.heap.size + 1, 5, none⟩ = some (.string ⟨#[]⟩) := HR.out.cell 5
  have f5 := HR.out.free 5
  have d6 : V2.cell? ⟨w.heap.size + 1, 6, none⟩ = some (.string ⟨#[]⟩) := HR.out.cell 6
  have f6 := HR.out.free 6
  have R9 := HR.out.set7 (.int .i64 x0) (.int .i64 x1) (.int .i64 x2) (.int .i64 x3) (.int .i64 y4) (.string x5) (.string y6)
  have BZ := Lib.hid (below_set7 HB.out (Nat.le_succ _) (.int .i64 x0) (.int .i64 x1) (.int .i64 x2) (.int .i64 x3) (.int .i64 y4) (.string x5) (.string y6))
  have j0 := R9.cell 0
  have j1 := R9.cell 1
  have j2 := R9.cell 2
  have j3 := R9.cell 3
  have j4 := R9.cell 4
  have j5 := R9.cell 5
  have j6 := R9.cell 6
  clear R9
  go_wp2_with fail
  exact bodyPost_ret (v := .tuple #[.agg #[.int .i64 x0, .int .i64 x1, .int .i64 x2, .int .i64 x3, .int .i64 y4, .string x5, .string y6], .string t]) (by simp [results, Tryz.results8, go_sem, j0, j1, j2, j3, j4, j5, j6]) rfl ⟨rfl, BZ.out⟩

end Go.Proofs.YtkjjdoadjhjmbauGreatDoor
namespace Go.Proofs.YtkjjdoadjhjmbauGreatDoor
open Go.RowKit

set_option maxRecDepth 100000 in
set_option maxHeartbeats 1600000 in
theorem implGreeterNew_yes (role pin : Int) (seed once : ByteArray) (h : NewP role pin) (hs : seed.size ≤ 1048576) (ho : once.size ≤ 1048576) (w : World) (hK0 : LaidK w) :
    Calls Tryz.prog 57 #[.int .i64 role, .string seed, .string once, .int .i64 pin] w fun e w' => e = .returned (.tuple #[.agg #[.int .i64 role, .int .i64 (secretP seed : Nat), .int .i64 pin, .int .i64 (secretP once : Nat), .int .i64 0, .string ⟨#[]⟩, .string ⟨#[]⟩], .bool true]) ∧ Below w.heap.size w w' := by
  have A0 := Lib.hid (VarA.new w GreeterT #[.int .i64 0, .int .i64 0, .int .i64 0, .int .i64 0, .int .i64 0, .string ⟨#[]⟩, .string ⟨#[]⟩])
  have B0 := Lib.hid ((Below.refl w.heap.size w).alloc (Nat.le_refl _) (.cells #[.int .i64 0, .int .i64 0, .int .i64 0, .int .i64 0, .int .i64 0, .string ⟨#[]⟩, .string ⟨#[]⟩] GreeterT))
  have hK := Lib.hid hK0
  clear hK0
  obtain ⟨sa, ha⟩ : ∃ x : Int, ((secretP seed : Nat) : Int) = x := ⟨_, rfl⟩
  obtain ⟨sb, hb⟩ : ∃ x : Int, ((secretP once : Nat) : Int) = x := ⟨_, rfl⟩
  have HA := Lib.hid ha
  have HB := Lib.hid hb
  rw [ha, hb]
  clear ha hb
  go_enter Tryz.func57, Tryz.ntmps57
  go_upto_region 1 with fail
  generalize w.alloc (.cells #[.int .i64 0, .int .i64 0, .int .i64 0, .int .i64 0, .int .i64 0, .string ⟨#[]⟩, .string ⟨#[]⟩] GreeterT) = Y0 at *
  obtain ⟨⟨h1, h2⟩, hg⟩ := h
  have KI := Lib.hid (implInGroup_any pin Y0)
  rw [hg] at KI
  clear hg
  obtain rfl | rfl : role = 1 ∨ role = 2 := by omega
  · clear h1 h2
    go_wp2_with fail
    refine KI.out.mono ?_
    rintro e Y1 ⟨rfl, hb⟩
    have A1 := Lib.hid (A0.out.next hb)
    have B1 := Lib.hid (B0.out.trans (hb.mono B0.out.size))
    have K1 := Lib.hid (implSecretOf_any seed (by omega) Y1 (hK.out.stays (B0.out.trans (hb.mono B0.out.size)) (Nat.le_refl _)))
    rw [HA.out] at K1
    clear hb KI A0 B0
    go_wp2_with fail
    refine K1.out.mono ?_
    rintro e Y2 ⟨rfl, hb⟩
    have A2 := Lib.hid (A1.out.next hb)
    have B2 := Lib.hid (B1.out.trans (hb.mono B1.out.size))
    have K2 := Lib.hid (implSecretOf_any once (by omega) Y2 (hK.out.stays (B1.out.trans (hb.mono B1.out.size)) (Nat.le_refl _)))
    rw [HB.out] at K2
    clear hb K1 A1 B1
    go_wp2_with fail
    refine K2.out.mono ?_
    rintro e Y3 ⟨rfl, hb⟩
    have A3 := Lib.hid (A2.out.next hb)
    have B3 := Lib.hid (B2.out.trans (hb.mono B2.out.size))
    clear hb K2 A2 B2
    have d0 : Y3.cell? ⟨w.heap.size, 0, none⟩ = some (.int .i64 0) := A3.out.cell 0
    have f0 := A3.out.free 0
    have d1 : Y3.cell? ⟨w.heap.size, 1, none⟩ = some (.int .i64 0) := A3.out.cell 1
    have f1 := A3.out.free 1
    have d2 : Y3.cell? ⟨w.heap.size, 2, none⟩ = some (.int .i64 0) := A3.out.cell 2
    have f2 := A3.out.free 2
    have d3 : Y3.cell? ⟨w.heap.size, 3, none⟩ = some (.int .i64 0) := A3.out.cell 3
    have f3 := A3.out.free 3
    have d4 : Y3.cell? ⟨w.heap.size, 4, none⟩ = some (.int .i64 0) := A3.out.cell 4
    have f4 := A3.out.free 4
    have d5 : Y3.cell? ⟨w.heap.size, 5, none⟩ = some (.string ⟨#[]⟩) := A3.out.cell 5
    have f5 := A3.out.free 5
    have d6 : Y3.cell? ⟨w.heap.size, 6, none⟩ = some (.string ⟨#[]⟩) := A3.out.cell 6
    have f6 := A3.out.free 6
    have R9 := A3.out.set7 (.int .i64 1) (.int .i64 sa) (.int .i64 pin) (.int .i64 sb) (.int .i64 0) (.string ⟨#[]⟩) (.string ⟨#[]⟩)
    have BZ := Lib.hid (below_set7 B3.out (Nat.le_refl _) (.int .i64 1) (.int .i64 sa) (.int .i64 pin) (.int .i64 sb) (.int .i64 0) (.string ⟨#[]⟩) (.string ⟨#[]⟩))
    have j0 := R9.cell 0
    have j1 := R9.cell 1
    have j2 := R9.cell 2
    have j3 := R9.cell 3
    have j4 := R9.cell 4
    have j5 := R9.cell 5
    have j6 := R9.cell 6
    clear R9
    go_wp2_with fail
    exact bodyPost_ret (v := .tuple #[.agg #[.int .i64 1, .int .i64 sa, .int .i64 pin, .int .i64 sb, .int .i64 0, .string ⟨#[]⟩, .string ⟨#[]⟩], .bool true]) (by simp [results, Tryz.results57, go_sem, j0, j1, j2, j3, j4, j5, j6]) rfl ⟨rfl, BZ.out⟩
  · clear h1 h2
    go_wp2_with fail
    refine KI.out.mono ?_
    rintro e Y1 ⟨rfl, hb⟩
    have A1 := Lib.hid (A0.out.next hb)
    have B1 := Lib.hid (B0.out.trans (hb.mono B0.out.size))
    have K1 := Lib.hid (implSecretOf_any seed (by omega) Y1 (hK.out.stays (B0.out.trans (hb.mono B0.out.size)) (Nat.le_refl _)))
    rw [HA.out] at K1
    clear hb KI A0 B0
    go_wp2_with fail
    refine K1.out.mono ?_
    rintro e Y2 ⟨rfl, hb⟩
    have A2 := Lib.hid (A1.out.next hb)
    have B2 := Lib.hid (B1.out.trans (hb.mono B1.out.size))
    have K2 := Lib.hid (implSecretOf_any once (by omega) Y2 (hK.out.stays (B1.out.trans (hb.mono B1.out.size)) (Nat.le_refl _)))
    rw [HB.out] at K2
    clear hb K1 A1 B1
    go_wp2_with fail
    refine K2.out.mono ?_
    rintro e Y3 ⟨rfl, hb⟩
    have A3 := Lib.hid (A2.out.next hb)
    have B3 := Lib.hid (B2.out.trans (hb.mono B2.out.size))
    clear hb K2 A2 B2
    have d0 : Y3.cell? ⟨w.heap.size, 0, none⟩ = some (.int .i64 0) := A3.out.cell 0
    have f0 := A3.out.free 0
    have d1 : Y3.cell? ⟨w.heap.size, 1, none⟩ = some (.int .i64 0) := A3.out.cell 1
    have f1 := A3.out.free 1
    have d2 : Y3.cell? ⟨w.heap.size, 2, none⟩ = some (.int .i64 0) := A3.out.cell 2
    have f2 := A3.out.free 2
    have d3 : Y3.cell? ⟨w.heap.size, 3, none⟩ = some (.int .i64 0) := A3.out.cell 3
    have f3 := A3.out.free 3
    have d4 : Y3.cell? ⟨w.heap.size, 4, none⟩ = some (.int .i64 0) := A3.out.cell 4
    have f4 := A3.out.free 4
    have d5 : Y3.cell? ⟨w.heap.size, 5, none⟩ = some (.string ⟨#[]⟩) := A3.out.cell 5
    have f5 := A3.out.free 5
    have d6 : Y3.cell? ⟨w.heap.size, 6, none⟩ = some (.string ⟨#[]⟩) := A3.out.cell 6
    have f6 := A3.out.free 6
    have R9 := A3.out.set7 (.int .i64 2) (.int .i64 sa) (.int .i64 pin) (.int .i64 sb) (.int .i64 0) (.string ⟨#[]⟩) (.string ⟨#[]⟩)
    have BZ := Lib.hid (below_set7 B3.out (Nat.le_refl _) (.int .i64 2) (.int .i64 sa) (.int .i64 pin) (.int .i64 sb) (.int .i64 0) (.string ⟨#[]⟩) (.string ⟨#[]⟩))
    have j0 := R9.cell 0
    have j1 := R9.cell 1
    have j2 := R9.cell 2
    have j3 := R9.cell 3
    have j4 := R9.cell 4
    have j5 := R9.cell 5
    have j6 := R9.cell 6
    clear R9
    go_wp2_with fail
    exact bodyPost_ret (v := .tuple #[.agg #[.int .i64 2, .int .i64 sa, .int .i64 pin, .int .i64 sb, .int .i64 0, .string ⟨#[]⟩, .string ⟨#[]⟩], .bool true]) (by simp [results, Tryz.results57, go_sem, j0, j1, j2, j3, j4, j5, j6]) rfl ⟨rfl, BZ.out⟩

set_option maxRecDepth 100000 in
set_option maxHeartbeats 1600000 in
theorem implGreeterNew_no (role pin : Int) (seed once : ByteArray) (h : ¬ NewP role pin) (w : World) :
    Calls Tryz.prog 57 #[.int .i64 role, .string seed, .string once, .int .i64 pin] w fun e w' => e = .returned (.tuple #[.agg #[.int .i64 0, .int .i64 0, .int .i64 0, .int .i64 0, .int .i64 0, .string ⟨#[]⟩, .string ⟨#[]⟩], .bool false]) ∧ Below w.heap.size w w' := by
  have A0 := Lib.hid (VarA.new w GreeterT #[.int .i64 0, .int .i64 0, .int .i64 0, .int .i64 0, .int .i64 0, .string ⟨#[]⟩, .string ⟨#[]⟩])
  have B0 := Lib.hid ((Below.refl w.heap.size w).alloc (Nat.le_refl _) (.cells #[.int .i64 0, .int .i64 0, .int .i64 0, .int .i64 0, .int .i64 0, .string ⟨#[]⟩, .string ⟨#[]⟩] GreeterT))
  go_enter Tryz.func57, Tryz.ntmps57
  go_upto_region 1 with fail
  generalize w.alloc (.cells #[.int .i64 0, .int .i64 0, .int .i64 0, .int .i64 0, .int .i64 0, .string ⟨#[]⟩, .string ⟨#[]⟩] GreeterT) = Y0 at *
  by_cases hr : role = 1 ∨ role = 2
  · have hg : inGroup pin = false := by
      cases hi : inGroup pin with
      | false => rfl
      | true => exact absurd ⟨by omega, hi⟩ h
    have KI := Lib.hid (implInGroup_any pin Y0)
    rw [hg] at KI
    clear hg h
    go_cut [20] (fun z wx => z = .bool true ∧ Hid (VarA w.heap.size GreeterT #[.int .i64 0, .int .i64 0, .int .i64 0, .int .i64 0, .int .i64 0, .string ⟨#[]⟩, .string ⟨#[]⟩] wx) ∧ Hid (Below w.heap.size w wx))
    case first =>
      rcases hr with rfl | rfl
      all_goals
        go_wp2_with fail
        refine KI.out.mono ?_
        rintro e Y1 ⟨rfl, hb⟩
        have A1 := Lib.hid (A0.out.next hb)
        have B1 := Lib.hid (B0.out.trans (hb.mono B0.out.size))
        clear hb KI A0 B0
        go_wp2_with fail
        go_meet
        exact ⟨rfl, A1, B1⟩
    case rest =>
      obtain ⟨rfl, A1, B1⟩ := hcut
      clear KI A0 B0
      have d0 : wc.cell? ⟨w.heap.size, 0, none⟩ = some (.int .i64 0) := A1.out.cell 0
      have f0 := A1.out.free 0
      have d1 : wc.cell? ⟨w.heap.size, 1, none⟩ = some (.int .i64 0) := A1.out.cell 1
      have f1 := A1.out.free 1
      have d2 : wc.cell? ⟨w.heap.size, 2, none⟩ = some (.int .i64 0) := A1.out.cell 2
      have f2 := A1.out.free 2
      have d3 : wc.cell? ⟨w.heap.size, 3, none⟩ = some (.int .i64 0) := A1.out.cell 3
      have f3 := A1.out.free 3
      have d4 : wc.cell? ⟨w.heap.size, 4, none⟩ = some (.int .i64 0) := A1.out.cell 4
      have f4 := A1.out.free 4
      have d5 : wc.cell? ⟨w.heap.size, 5, none⟩ = some (.string ⟨#[]⟩) := A1.out.cell 5
      have f5 := A1.out.free 5
      have d6 : wc.cell? ⟨w.heap.size, 6, none⟩ = some (.string ⟨#[]⟩) := A1.out.cell 6
      have f6 := A1.out.free 6
      have R9 := A1.out.set7 (.int .i64 0) (.int .i64 0) (.int .i64 0) (.int .i64 0) (.int .i64 0) (.string ⟨#[]⟩) (.string ⟨#[]⟩)
      have BZ := Lib.hid (below_set7 B1.out (Nat.le_refl _) (.int .i64 0) (.int .i64 0) (.int .i64 0) (.int .i64 0) (.int .i64 0) (.string ⟨#[]⟩) (.string ⟨#[]⟩))
      have j0 := R9.cell 0
      have j1 := R9.cell 1
      have j2 := R9.cell 2
      have j3 := R9.cell 3
      have j4 := R9.cell 4
      have j5 := R9.cell 5
      have j6 := R9.cell 6
      clear R9
      go_wp2_with fail
      exact bodyPost_ret (v := .tuple #[.agg #[.int .i64 0, .int .i64 0, .int .i64 0, .int .i64 0, .int .i64 0, .string ⟨#[]⟩, .string ⟨#[]⟩], .bool false]) (by simp [results, Tryz.results57, go_sem, j0, j1, j2, j3, j4, j5, j6]) rfl ⟨rfl, BZ.out⟩
  · have k1 : (role != 1) = true := by rw [bne_iff_ne]; exact fun e => hr (.inl e)
    have k2 : (role != 2) = true := by rw [bne_iff_ne]; exact fun e => hr (.inr e)
    clear hr h
    have d0 : Y0.cell? ⟨w.heap.size, 0, none⟩ = some (.int .i64 0) := A0.out.cell 0
    have f0 := A0.out.free 0
    have d1 : Y0.cell? ⟨w.heap.size, 1, none⟩ = some (.int .i64 0) := A0.out.cell 1
    have f1 := A0.out.free 1
    have d2 : Y0.cell? ⟨w.heap.size, 2, none⟩ = some (.int .i64 0) := A0.out.cell 2
    have f2 := A0.out.free 2
    have d3 : Y0.cell? ⟨w.heap.size, 3, none⟩ = some (.int .i64 0) := A0.out.cell 3
    have f3 := A0.out.free 3
    have d4 : Y0.cell? ⟨w.heap.size, 4, none⟩ = some (.int .i64 0) := A0.out.cell 4
    have f4 := A0.out.free 4
    have d5 : Y0.cell? ⟨w.heap.size, 5, none⟩ = some (.string ⟨#[]⟩) := A0.out.cell 5
    have f5 := A0.out.free 5
    have d6 : Y0.cell? ⟨w.heap.size, 6, none⟩ = some (.string ⟨#[]⟩) := A0.out.cell 6
    have f6 := A0.out.free 6
    have R9 := A0.out.set7 (.int .i64 0) (.int .i64 0) (.int .i64 0) (.int .i64 0) (.int .i64 0) (.string ⟨#[]⟩) (.string ⟨#[]⟩)
    have BZ := Lib.hid (below_set7 B0.out (Nat.le_refl _) (.int .i64 0) (.int .i64 0) (.int .i64 0) (.int .i64 0) (.int .i64 0) (.string ⟨#[]⟩) (.string ⟨#[]⟩))
    have j0 := R9.cell 0
    have j1 := R9.cell 1
    have j2 := R9.cell 2
    have j3 := R9.cell 3
    have j4 := R9.cell 4
    have j5 := R9.cell 5
    have j6 := R9.cell 6
    clear R9
    go_wp2_with fail
    exact bodyPost_ret (v := .tuple #[.agg #[.int .i64 0, .int .i64 0, .int .i64 0, .int .i64 0, .int .i64 0, .string ⟨#[]⟩, .string ⟨#[]⟩], .bool false]) (by simp [results, Tryz.results57, go_sem, j0, j1, j2, j3, j4, j5, j6]) rfl ⟨rfl, BZ.out⟩

end Go.Proofs.YtkjjdoadjhjmbauGreatDoor

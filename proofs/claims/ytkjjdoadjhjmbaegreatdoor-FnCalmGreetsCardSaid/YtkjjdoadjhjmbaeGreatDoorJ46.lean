/-
  The law on calm greetings, out of the program's contracts.
-/
import Derived.Test.YtkjjdoadjhjmbaeGreatDoorJ42
import Derived.Test.YtkjjdoadjhjmbaeGreatDoorJ43
import Derived.Test.YtkjjdoadjhjmbaeGreatDoorJ44
import Derived.Test.YtkjjdoadjhjmbaeGreatDoorJ45
namespace Go.Proofs.YtkjjdoadjhjmbaeGreatDoor
open Go.RowKit

set_option maxHeartbeats 400000 in
theorem bigC_any (a : Option Addr) (len cap : Nat) (w : World) :
    Calls Tryz.prog 5 #[.slice a len cap] w fun e w' => e = .returned (.bool (decide (1048576 < (len : Int)))) ∧ w' = w := by
  go_enter Tryz.func5, Tryz.ntmps5
  go_wp2
  go_ret
  exact ⟨rfl, rfl⟩
theorem two_next {X Y : World} {g o : Nat} {a b : GreeterD} (h : Two g o a b X) (hb : Below X.heap.size X Y) : Two g o a b Y := by
  have hg : g < X.heap.size := cell_size (p := ⟨g, o, none⟩) h.a0
  exact ⟨(hb.cell (p := ⟨g, o, none⟩) hg).trans h.a0, (hb.cell (p := ⟨g, o + 1, none⟩) hg).trans h.a1, (hb.cell (p := ⟨g, o + 2, none⟩) hg).trans h.a2, (hb.cell (p := ⟨g, o + 3, none⟩) hg).trans h.a3, (hb.cell (p := ⟨g, o + 4, none⟩) hg).trans h.a4, (hb.cell (p := ⟨g, o + 5, none⟩) hg).trans h.a5, (hb.cell (p := ⟨g, o + 6, none⟩) hg).trans h.a6, (hb.cell (p := ⟨g, o + 7, none⟩) hg).trans h.b0, (hb.cell (p := ⟨g, o + 8, none⟩) hg).trans h.b1, (hb.cell (p := ⟨g, o + 9, none⟩) hg).trans h.b2, (hb.cell (p := ⟨g, o + 10, none⟩) hg).trans h.b3, (hb.cell (p := ⟨g, o + 11, none⟩) hg).trans h.b4, (hb.cell (p := ⟨g, o + 12, none⟩) hg).trans h.b5, (hb.cell (p := ⟨g, o + 13, none⟩) hg).trans h.b6⟩
theorem calm_lit (X : World) : layIntS.rd (X.alloc (.cells #[.int .i64 0, .int .i64 1, .int .i64 0, .int .i64 1] 3)) [.slice (some ⟨X.heap.size, 0, none⟩) 4 4] [0, 1, 0, 1] :=
  layIntS.read (flat_own flatIntE (World.ownsRow_lit X #[.int .i64 0, .int .i64 1, .int .i64 0, .int .i64 1] 4 (Nat.le_refl _) (by decide) rfl) ⟨[_], _, rfl, int_rd.2 rfl, [_], _, rfl, int_rd.2 rfl, [_], _, rfl, int_rd.2 rfl, [_], [], rfl, int_rd.2 rfl, rfl⟩)
theorem what_no (r : ByteArray) (h : r.size = 4) : (⟨#[119, 104, 97, 116]⟩ : ByteArray) ≠ (⟨#[104]⟩ : ByteArray) ++ oneB (3 - 1) ++ r := by
  intro e
  have h2 := congrArg ByteArray.size e
  rw [ByteArray.size_append, h] at h2
  have h3 : ((⟨#[104]⟩ : ByteArray) ++ oneB (3 - 1)).size = 2 := rfl
  have h4 : (⟨#[119, 104, 97, 116]⟩ : ByteArray).size = 4 := rfl
  omega
set_option maxRecDepth 100000 in
set_option maxHeartbeats 6400000 in
theorem lawCalmF {L : World → Prop} (F0 : CalmFns L) (a : Option Addr) (len cap : Nat) (w : World) (H : Src a len w) (hL : L w) :
    Calls Tryz.prog 4 #[.slice a len cap] w fun e w' => e = .returned (.bool true) ∧ Below w.heap.size w w' := by
  have hd : decide (1048576 < (len : Int)) = false := decide_eq_false (by have := H.few; omega)
  have HBG := Lib.hid (fun w => bigC_any a len cap w)
  rw [hd] at HBG
  have HS := Lib.hid H
  have F := Lib.hid F0
  have LL : Hid (∀ X, Below w.heap.size w X → L X) := Lib.hid (fun X hb => F0.stays w X hL hb)
  clear H hL hd F0
  go_enter Tryz.func4, Tryz.ntmps4
  go_wp2_with fail
  refine (HBG.out _).mono ?_
  rintro e w0 ⟨rfl, hw⟩
  rw [hw]
  clear hw w0
  go_wp2_with fail
  refine (drawSeeds_any a len cap w HS.out).mono ?_
  rintro e w1 ⟨vs, ve, s0, s1, s2, s3, es, ⟨z0, z1, z2, z3⟩, -, rfl, hrs, -, hb1⟩
  obtain ⟨sg, so, sc, rfl, hsw, c0, c1, c2, c3⟩ := seeds_of hrs
  obtain ⟨y, hy⟩ := run_is [0, 1, 0, 1] (firstG s0 s1 s2 s3)
  obtain ⟨hya, hyb⟩ := calm_up hy
  obtain ⟨tp, htp⟩ := proof_is 1 (secretP s0 : Nat) 3 (helloB 1 (publicP (secretP s2))) (helloB 2 (publicP (secretP s3)))
  have hm1 := hello_size 1 (publicP (secretP s2))
  have hm2 := hello_size 2 (publicP (secretP s3))
  have hmh := hello_size 1 (publicP (secretP s1))
  have ze : (⟨#[]⟩ : ByteArray).size ≤ 1048576 := by decide
  have K1 : Hid (∀ X, Below w1.heap.size w1 X → L X → ∀ u, layIntS.rd X [u] [0, 1, 0, 1] → Calls Tryz.prog 7 #[.slice (some ⟨sg, so, none⟩) 4 sc, u] X fun e X' => GreetRet [y.a, y.b] true X e X') := Lib.hid (fun X hb hl u hu => F.out.greeting s0 s1 s2 s3 [0, 1, 0, 1] _ u (by decide) (by decide) (by omega) (by omega) (by omega) (by omega) y hy X hl (layStringS.below hrs hb) hu)
  rw [hya, hyb] at K1
  have KPUB := Lib.hid (specPublicOf_yes 5 (by omega) (by omega))
  have KF := Lib.hid (F.out.fresh 1 (publicP 5 : Nat) s0 s1 ⟨by omega, public_in 5 (by omega) (by omega)⟩ (by omega) (by omega))
  have KN := Lib.hid (F.out.never 1 0 s0 s1 (fun h => absurd h.2 (by rw [show inGroup 0 = false from inGroup_low 0 _ (by decide)]; decide)) (by omega) (by omega))
  have KH1 := Lib.hid (F.out.hello 1 (secretP s0 : Nat) (publicP 5 : Nat) (secretP s1 : Nat) 0 ⟨#[]⟩ ⟨#[]⟩ (by omega) (by omega) ze ze 1 (helloB 1 (publicP (secretP s1))) (helloB 1 (publicP (secretP s1))) (.inl ⟨rfl, rfl, _, .inl ⟨secret_in s1, rfl⟩, rfl, rfl⟩))
  have KH2 := Lib.hid (F.out.hello 1 (secretP s0 : Nat) (publicP 5 : Nat) (secretP s1 : Nat) 1 (helloB 1 (publicP (secretP s1))) ⟨#[]⟩ (by omega) (by omega) (by omega) ze 1 (helloB 1 (publicP (secretP s1))) ⟨#[]⟩ (.inr ⟨by decide, rfl, rfl, rfl⟩))
  have KB := Lib.hid (F.out.hear 1 (secretP s0 : Nat) (publicP 5 : Nat) (secretP s1 : Nat) 1 (helloB 1 (publicP (secretP s1))) ⟨#[]⟩ ⟨#[119, 104, 97, 116]⟩ (.inl rfl) (by omega) ze (by decide) 4 ⟨#[]⟩ ⟨#[]⟩ (.inr (.inl ⟨rfl, ⟨0, .inr ⟨what_no, rfl, rfl⟩⟩, rfl, rfl, rfl⟩)))
  have KP1 := Lib.hid (F.out.proof 1 (secretP s0 : Nat) (publicP (secretP s1) : Nat) (secretP s2 : Nat) 3 (helloB 1 (publicP (secretP s2))) (helloB 2 (publicP (secretP s3))) (by omega) (by omega) (by omega) (by omega) tp htp)
  have KP2 := Lib.hid (specProof_any 1 (secretP s0 : Nat) (publicP (secretP s1) : Nat) (secretP s2 : Nat) 3 (helloB 1 (publicP (secretP s2))) (helloB 2 (publicP (secretP s3))) (by omega) (by omega) (by omega) tp htp)
  have KP3 := Lib.hid (F.out.proof 1 (secretP s0 : Nat) (publicP 5 : Nat) (secretP s1 : Nat) 1 (helloB 1 (publicP (secretP s1))) ⟨#[]⟩ (by omega) (by omega) (by omega) ze ⟨#[]⟩ (.inr ⟨by decide, rfl⟩))
  have B1 := Lib.hid hb1
  have SEEDS : ∀ X, Below w1.heap.size w1 X → X.cell? ⟨sg, so, none⟩ = some (.string s0) ∧ X.cell? ⟨sg, so + 1, none⟩ = some (.string s1) ∧ X.cell? ⟨sg, so + 2, none⟩ = some (.string s2) ∧ X.cell? ⟨sg, so + 3, none⟩ = some (.string s3) ∧ Below X.heap.size X X := fun X hb => ⟨by rw [hb.cell (p := ⟨sg, so, none⟩) hsw]; exact c0, by rw [hb.cell (p := ⟨sg, so + 1, none⟩) hsw]; exact c1, by rw [hb.cell (p := ⟨sg, so + 2, none⟩) hsw]; exact c2, by rw [hb.cell (p := ⟨sg, so + 3, none⟩) hsw]; exact c3, Below.refl _ _⟩
  have HSEE := Lib.hid SEEDS
  clear SEEDS hya hyb hy htp hrs hb1 F HS HBG z0 z1 z2 z3 ze hm1 hm2
  generalize helloB 1 (publicP (secretP s2)) = m1 at *
  generalize helloB 2 (publicP (secretP s3)) = m2 at *
  generalize helloB 1 (publicP (secretP s1)) = mh at *
  generalize publicP (secretP s1) = p1 at *
  generalize publicP (secretP s0) = p0 at *
  generalize publicP 5 = q5 at *
  generalize secretP s0 = k0 at *
  generalize secretP s1 = k1 at *
  generalize secretP s2 = k2 at *
  generalize secretP s3 = k3 at *
  have hal : Below w1.heap.size w1 (w1.alloc (.cells #[.int .i64 0, .int .i64 1, .int .i64 0, .int .i64 1] 3)) := (Below.refl _ _).alloc (Nat.le_refl _) _
  have K2 := Lib.hid (K1.out _ hal (LL.out _ (B1.out.trans (hal.mono B1.out.size))) _ (calm_lit w1))
  have BB2 := Lib.hid (B1.out.trans (hal.mono B1.out.size))
  have BH := Lib.hid hal
  clear hal K1
  go_wp2_with fail
  refine K2.out.mono ?_
  rintro e w3 ⟨lv, lf, rfl, -, lown, hb3⟩
  have B3 := Lib.hid (BB2.out.trans (hb3.mono BB2.out.size))
  have BV := Lib.hid (BH.out.trans (hb3.mono BH.out.size))
  obtain ⟨gl, ol, cl, rfl, HT0⟩ := two_of (layGreeterS.read lown)
  have HT := Lib.hid HT0
  clear lown hb3 HT0 K2 BB2 BH
  have LL1 := LL
  have LL : Hid (∀ X, Below w1.heap.size w1 X → L X) := Lib.hid (fun X hb => LL1.out _ (B1.out.trans (hb.mono B1.out.size)))
  have F0 : Hid (w3.cell? ⟨sg, so, none⟩ = some (.string s0) ∧ w3.cell? ⟨sg, so + 1, none⟩ = some (.string s1) ∧ w3.cell? ⟨sg, so + 2, none⟩ = some (.string s2) ∧ w3.cell? ⟨sg, so + 3, none⟩ = some (.string s3) ∧ Below w3.heap.size w3 w3) := Lib.hid (HSEE.out w3 BV.out)
  have E0 := Lib.hid (seeds_drew F0.out)
  have hsg : sg < w3.heap.size := cell_size (p := ⟨sg, so, none⟩) F0.out.1
  have qv : ∀ X Y, (Hid (X.cell? ⟨sg, so, none⟩ = some (.string s0) ∧ X.cell? ⟨sg, so + 1, none⟩ = some (.string s1) ∧ X.cell? ⟨sg, so + 2, none⟩ = some (.string s2) ∧ X.cell? ⟨sg, so + 3, none⟩ = some (.string s3) ∧ Below w3.heap.size w3 X)) → Below X.heap.size X Y → (Hid (Y.cell? ⟨sg, so, none⟩ = some (.string s0) ∧ Y.cell? ⟨sg, so + 1, none⟩ = some (.string s1) ∧ Y.cell? ⟨sg, so + 2, none⟩ = some (.string s2) ∧ Y.cell? ⟨sg, so + 3, none⟩ = some (.string s3) ∧ Below w3.heap.size w3 Y)) := fun X Y h hb => Lib.hid (seeds_next h.out hb)
  have SN : ∀ (X : World) (G : Nat) (u0 u1 u2 u3 u4 u5 u6 : Value), w3.heap.size ≤ G → (Hid (X.cell? ⟨sg, so, none⟩ = some (.string s0) ∧ X.cell? ⟨sg, so + 1, none⟩ = some (.string s1) ∧ X.cell? ⟨sg, so + 2, none⟩ = some (.string s2) ∧ X.cell? ⟨sg, so + 3, none⟩ = some (.string s3) ∧ Below w3.heap.size w3 X)) → (Hid ((((((((X.setCell ⟨G, 0, none⟩ u0).setCell ⟨G, 1, none⟩ u1).setCell ⟨G, 2, none⟩ u2).setCell ⟨G, 3, none⟩ u3).setCell ⟨G, 4, none⟩ u4).setCell ⟨G, 5, none⟩ u5).setCell ⟨G, 6, none⟩ u6).cell? ⟨sg, so, none⟩ = some (.string s0) ∧ (((((((X.setCell ⟨G, 0, none⟩ u0).setCell ⟨G, 1, none⟩ u1).setCell ⟨G, 2, none⟩ u2).setCell ⟨G, 3, none⟩ u3).setCell ⟨G, 4, none⟩ u4).setCell ⟨G, 5, none⟩ u5).setCell ⟨G, 6, none⟩ u6).cell? ⟨sg, so + 1, none⟩ = some (.string s1) ∧ (((((((X.setCell ⟨G, 0, none⟩ u0).setCell ⟨G, 1, none⟩ u1).setCell ⟨G, 2, none⟩ u2).setCell ⟨G, 3, none⟩ u3).setCell ⟨G, 4, none⟩ u4).setCell ⟨G, 5, none⟩ u5).setCell ⟨G, 6, none⟩ u6).cell? ⟨sg, so + 2, none⟩ = some (.string s2) ∧ (((((((X.setCell ⟨G, 0, none⟩ u0).setCell ⟨G, 1, none⟩ u1).setCell ⟨G, 2, none⟩ u2).setCell ⟨G, 3, none⟩ u3).setCell ⟨G, 4, none⟩ u4).setCell ⟨G, 5, none⟩ u5).setCell ⟨G, 6, none⟩ u6).cell? ⟨sg, so + 3, none⟩ = some (.string s3) ∧ Below w3.heap.size w3 (((((((X.setCell ⟨G, 0, none⟩ u0).setCell ⟨G, 1, none⟩ u1).setCell ⟨G, 2, none⟩ u2).setCell ⟨G, 3, none⟩ u3).setCell ⟨G, 4, none⟩ u4).setCell ⟨G, 5, none⟩ u5).setCell ⟨G, 6, none⟩ u6))) := fun X G u0 u1 u2 u3 u4 u5 u6 hG h => Lib.hid (seeds_put7 h.out hG hsg u0 u1 u2 u3 u4 u5 u6)
  have LV : ∀ X, (Hid (X.cell? ⟨sg, so, none⟩ = some (.string s0) ∧ X.cell? ⟨sg, so + 1, none⟩ = some (.string s1) ∧ X.cell? ⟨sg, so + 2, none⟩ = some (.string s2) ∧ X.cell? ⟨sg, so + 3, none⟩ = some (.string s3) ∧ Below w3.heap.size w3 X)) → L X := fun X h => LL.out _ (BV.out.trans (h.out.2.2.2.2.mono BV.out.size))
  go_wp2_with fail
  go_cut [7, 8] (fun z y wx => ∃ gu, z = .pointer (some ⟨gu, 0, none⟩) ∧ y = .bool true ∧ VarA gu GreeterT #[.int .i64 1, .int .i64 (k0 : Nat), .int .i64 (q5 : Nat), .int .i64 (k1 : Nat), .int .i64 0, .string ⟨#[]⟩, .string ⟨#[]⟩] wx ∧ Below w3.heap.size w3 wx)
  case first =>
    refine wp_region_held_drew (S := fun X => Hid (X.cell? ⟨sg, so, none⟩ = some (.string s0) ∧ X.cell? ⟨sg, so + 1, none⟩ = some (.string s1) ∧ X.cell? ⟨sg, so + 2, none⟩ = some (.string s2) ∧ X.cell? ⟨sg, so + 3, none⟩ = some (.string s3) ∧ Below w3.heap.size w3 X)) (by kernel_rfl) E0 (fun hHeld => ?_)
    clear E0 F0
    generalize w3.drew = X0 at *
    refine wpAnyH_take (i := 0) (v := ?_) rfl (by kernel_rfl) (by kernel_rfl) (by kernel_rfl) (fun _ _ _ h => h) (Or.inl ⟨by kernel_rfl, ?_⟩) hHeld ?_
    rotate_left
    · intro X hX
      first | (go_simp; done) | (go_simp; with_reducible rfl)
    try simp only [Act.put, List.getElem_toArray, List.getElem_cons_zero, List.setIfInBounds_toArray, List.set_cons_zero, List.set_cons_succ]
    refine wpAnyH_take (i := 1) (v := ?_) rfl (by kernel_rfl) (by kernel_rfl) (by kernel_rfl) (fun _ _ _ h => h) (Or.inl ⟨by kernel_rfl, ?_⟩) hHeld ?_
    rotate_left
    · intro X hX
      first | (go_simp; done) | (go_simp; with_reducible rfl)
    try simp only [Act.put, List.getElem_toArray, List.getElem_cons_succ, List.getElem_cons_zero, List.setIfInBounds_toArray, List.set_cons_zero, List.set_cons_succ]
    refine wpAnyH_take (i := 2) (v := ?_) rfl (by kernel_rfl) (by kernel_rfl) (by kernel_rfl) (fun _ _ _ h => h) (Or.inl ⟨by kernel_rfl, ?_⟩) hHeld ?_
    rotate_left
    · intro X hX
      have y : X.cell? ⟨sg, so, none⟩ = some (.string s0) := hX.out.1
      first | (go_simp; done) | (go_simp; with_reducible rfl)
    try simp only [Act.put, List.getElem_toArray, List.getElem_cons_succ, List.getElem_cons_zero, List.setIfInBounds_toArray, List.set_cons_zero, List.set_cons_succ]
    refine wpAnyH_take (i := 3) (v := ?_) rfl (by kernel_rfl) (by kernel_rfl) (by kernel_rfl) (fun _ _ _ h => h) (Or.inl ⟨by kernel_rfl, ?_⟩) hHeld ?_
    rotate_left
    · intro X hX
      first | (go_simp; done) | (go_simp; with_reducible rfl)
    try simp only [Act.put, List.getElem_toArray, List.getElem_cons_succ, List.getElem_cons_zero, List.setIfInBounds_toArray, List.set_cons_zero, List.set_cons_succ]
    refine wpAnyH_take (i := 4) (v := ?_) rfl (by kernel_rfl) (by kernel_rfl) (by kernel_rfl) (fun _ _ _ h => h) (Or.inl ⟨by kernel_rfl, ?_⟩) hHeld ?_
    rotate_left
    · intro X hX
      first | (go_simp; done) | (go_simp; with_reducible rfl)
    try simp only [Act.put, List.getElem_toArray, List.getElem_cons_succ, List.getElem_cons_zero, List.setIfInBounds_toArray, List.set_cons_zero, List.set_cons_succ]
    refine wpAnyH_take (i := 5) (v := ?_) rfl (by kernel_rfl) (by kernel_rfl) (by kernel_rfl) (fun _ _ _ h => h) (Or.inl ⟨by kernel_rfl, ?_⟩) hHeld ?_
    rotate_left
    · intro X hX
      have y : X.cell? ⟨sg, so + 1, none⟩ = some (.string s1) := hX.out.2.1
      first | (go_simp; done) | (go_simp; with_reducible rfl)
    try simp only [Act.put, List.getElem_toArray, List.getElem_cons_succ, List.getElem_cons_zero, List.setIfInBounds_toArray, List.set_cons_zero, List.set_cons_succ]
    refine wpAnyH_ready (rs := [6, 11]) (by kernel_rfl) (by simp) ?_
    refine AllReadyH.cons rfl (fun K hK => ?_) (AllReadyH.cons rfl (fun K hK => ?_) AllReadyH.nil)
    · go_simp
      go_wp2_with (go_at_call 12; refine (KPUB.out _).mono ?_; rintro e X1 ⟨rfl, rfl⟩; have hS := hHeld; have hb := Lib.hid (Below.refl (X1).heap.size X1))
      refine hK.out _ _ hS (fun hHeld => ?_)
      clear hK K hS
      clear hb
      try simp only [Act.put, List.getElem_toArray, List.getElem_cons_succ, List.getElem_cons_zero, List.setIfInBounds_toArray, List.set_cons_zero, List.set_cons_succ]
      refine wpAnyH_ready (rs := [7, 11]) (by kernel_rfl) (by simp) ?_
      refine AllReadyH.cons rfl (fun K hK => ?_) (AllReadyH.cons rfl (fun K hK => ?_) AllReadyH.nil)
      · go_simp
        go_wp2_with (go_at_call 11; refine (KF.out _ (LV _ hHeld)).mono ?_; rintro e X2 ⟨rfl, hb0⟩; have hS := qv _ _ hHeld hb0; have hb := Lib.hid hb0; clear hb0)
        refine hK.out _ _ hS (fun hHeld => ?_)
        clear hK K hS
        clear hb
        try simp only [Act.put, List.getElem_toArray, List.getElem_cons_succ, List.getElem_cons_zero, List.setIfInBounds_toArray, List.set_cons_zero, List.set_cons_succ]
        refine wpAnyH_take (i := 8) (v := ?_) rfl (by kernel_rfl) (by kernel_rfl) (by kernel_rfl) (fun _ _ _ h => h) (Or.inl ⟨by kernel_rfl, ?_⟩) hHeld ?_
        rotate_left
        · intro X hX
          first | (go_simp; done) | (go_simp; with_reducible rfl)
        try simp only [Act.put, List.getElem_toArray, List.getElem_cons_succ, List.getElem_cons_zero, List.setIfInBounds_toArray, List.set_cons_zero, List.set_cons_succ]
        refine wpAnyH_take (i := 9) (v := ?_) rfl (by kernel_rfl) (by kernel_rfl) (by kernel_rfl) (fun _ _ _ h => h) (Or.inl ⟨by kernel_rfl, ?_⟩) hHeld ?_
        rotate_left
        · intro X hX
          first | (go_simp; done) | (go_simp; with_reducible rfl)
        try simp only [Act.put, List.getElem_toArray, List.getElem_cons_succ, List.getElem_cons_zero, List.setIfInBounds_toArray, List.set_cons_zero, List.set_cons_succ]
        refine wpAnyH_take (i := 10) (v := ?_) rfl (by kernel_rfl) (by kernel_rfl) (by kernel_rfl) (fun _ _ _ h => h) (Or.inl ⟨by kernel_rfl, ?_⟩) hHeld ?_
        rotate_left
        · intro X hX
          first | (go_simp; done) | (go_simp; with_reducible rfl)
        try simp only [Act.put, List.getElem_toArray, List.getElem_cons_succ, List.getElem_cons_zero, List.setIfInBounds_toArray, List.set_cons_zero, List.set_cons_succ]
        refine wpAnyH_ready (rs := [11]) (by kernel_rfl) (by simp) ?_
        refine AllReadyH.cons rfl (fun K hK => ?_) AllReadyH.nil
        go_simp
        have hal : Below X2.heap.size X2 (X2.alloc (.cells #[.int .i64 0, .int .i64 0, .int .i64 0, .int .i64 0, .int .i64 0, .string ⟨#[]⟩, .string ⟨#[]⟩] GreeterT)) := (Below.refl _ _).alloc (Nat.le_refl _) _
        have hlo : w3.heap.size ≤ X2.heap.size := hHeld.out.2.2.2.2.size
        refine hK.out _ _ (qv _ _ hHeld hal) (fun hHeld => ?_)
        clear hK K
        have rr := Lib.hid (VarA.new X2 GreeterT #[.int .i64 0, .int .i64 0, .int .i64 0, .int .i64 0, .int .i64 0, .string ⟨#[]⟩, .string ⟨#[]⟩])
        clear hal
        generalize X2.alloc (.cells #[.int .i64 0, .int .i64 0, .int .i64 0, .int .i64 0, .int .i64 0, .string ⟨#[]⟩, .string ⟨#[]⟩] GreeterT) = X3 at *
        generalize X2.heap.size = G at *
        try simp only [Act.put, List.getElem_toArray, List.getElem_cons_succ, List.getElem_cons_zero, List.setIfInBounds_toArray, List.set_cons_zero, List.set_cons_succ]
        refine wpAnyH_ready (rs := [12]) (by kernel_rfl) (by simp) ?_
        refine AllReadyH.cons rfl (fun K hK => ?_) AllReadyH.nil
        have r0_ := rr.out.cell 0
        have g0_ := rr.out.free 0
        have r1_ := rr.out.cell 1
        have g1_ := rr.out.free 1
        have r2_ := rr.out.cell 2
        have g2_ := rr.out.free 2
        have r3_ := rr.out.cell 3
        have g3_ := rr.out.free 3
        have r4_ := rr.out.cell 4
        have g4_ := rr.out.free 4
        have r5_ := rr.out.cell 5
        have g5_ := rr.out.free 5
        have r6_ := rr.out.cell 6
        have g6_ := rr.out.free 6
        go_simp
        refine hK.out _ _ (SN _ _ _ _ _ _ _ _ _ hlo hHeld) (fun hHeld => ?_)
        replace rr := Lib.hid (rr.out.put7 (.int .i64 1) (.int .i64 (k0 : Nat)) (.int .i64 (q5 : Nat)) (.int .i64 (k1 : Nat)) (.int .i64 0) (.string ⟨#[]⟩) (.string ⟨#[]⟩))
        clear hK K r0_ g0_ r1_ g1_ r2_ g2_ r3_ g3_ r4_ g4_ r5_ g5_ r6_ g6_
        try simp only [Act.put, List.getElem_toArray, List.getElem_cons_succ, List.getElem_cons_zero, List.setIfInBounds_toArray, List.set_cons_zero, List.set_cons_succ]
        refine wpAnyH_take (i := 13) (v := ?_) rfl (by kernel_rfl) (by kernel_rfl) (by kernel_rfl) (fun _ _ _ h => h) (Or.inl ⟨by kernel_rfl, ?_⟩) hHeld ?_
        rotate_left
        · intro X hX
          first | (go_simp; done) | (go_simp; with_reducible rfl)
        try simp only [Act.put, List.getElem_toArray, List.getElem_cons_succ, List.getElem_cons_zero, List.setIfInBounds_toArray, List.set_cons_zero, List.set_cons_succ]
        refine wpAnyH_done (by kernel_rfl) ?_ _
        have hz := hHeld.out.2.2.2.2
        clear hHeld
        go_wp2_with fail
        go_meet
        exact ⟨_, rfl, rfl, rr.out, hz⟩
      · go_simp
        have hal : Below X1.heap.size X1 (X1.alloc (.cells #[.int .i64 0, .int .i64 0, .int .i64 0, .int .i64 0, .int .i64 0, .string ⟨#[]⟩, .string ⟨#[]⟩] GreeterT)) := (Below.refl _ _).alloc (Nat.le_refl _) _
        have hlo : w3.heap.size ≤ X1.heap.size := hHeld.out.2.2.2.2.size
        refine hK.out _ _ (qv _ _ hHeld hal) (fun hHeld => ?_)
        clear hK K
        have rr := Lib.hid (VarA.new X1 GreeterT #[.int .i64 0, .int .i64 0, .int .i64 0, .int .i64 0, .int .i64 0, .string ⟨#[]⟩, .string ⟨#[]⟩])
        clear hal
        generalize X1.alloc (.cells #[.int .i64 0, .int .i64 0, .int .i64 0, .int .i64 0, .int .i64 0, .string ⟨#[]⟩, .string ⟨#[]⟩] GreeterT) = X2 at *
        generalize X1.heap.size = G at *
        try simp only [Act.put, List.getElem_toArray, List.getElem_cons_succ, List.getElem_cons_zero, List.setIfInBounds_toArray, List.set_cons_zero, List.set_cons_succ]
        refine wpAnyH_ready (rs := [7]) (by kernel_rfl) (by simp) ?_
        refine AllReadyH.cons rfl (fun K hK => ?_) AllReadyH.nil
        go_simp
        go_wp2_with (go_at_call 11; refine (KF.out _ (LV _ hHeld)).mono ?_; rintro e X3 ⟨rfl, hb0⟩; have hS := qv _ _ hHeld hb0; have hb := Lib.hid hb0; clear hb0)
        refine hK.out _ _ hS (fun hHeld => ?_)
        clear hK K hS
        replace rr := Lib.hid (rr.out.next hb.out)
        clear hb
        try simp only [Act.put, List.getElem_toArray, List.getElem_cons_succ, List.getElem_cons_zero, List.setIfInBounds_toArray, List.set_cons_zero, List.set_cons_succ]
        refine wpAnyH_take (i := 8) (v := ?_) rfl (by kernel_rfl) (by kernel_rfl) (by kernel_rfl) (fun _ _ _ h => h) (Or.inl ⟨by kernel_rfl, ?_⟩) hHeld ?_
        rotate_left
        · intro X hX
          first | (go_simp; done) | (go_simp; with_reducible rfl)
        try simp only [Act.put, List.getElem_toArray, List.getElem_cons_succ, List.getElem_cons_zero, List.setIfInBounds_toArray, List.set_cons_zero, List.set_cons_succ]
        refine wpAnyH_take (i := 9) (v := ?_) rfl (by kernel_rfl) (by kernel_rfl) (by kernel_rfl) (fun _ _ _ h => h) (Or.inl ⟨by kernel_rfl, ?_⟩) hHeld ?_
        rotate_left
        · intro X hX
          first | (go_simp; done) | (go_simp; with_reducible rfl)
        try simp only [Act.put, List.getElem_toArray, List.getElem_cons_succ, List.getElem_cons_zero, List.setIfInBounds_toArray, List.set_cons_zero, List.set_cons_succ]
        refine wpAnyH_take (i := 10) (v := ?_) rfl (by kernel_rfl) (by kernel_rfl) (by kernel_rfl) (fun _ _ _ h => h) (Or.inl ⟨by kernel_rfl, ?_⟩) hHeld ?_
        rotate_left
        · intro X hX
          first | (go_simp; done) | (go_simp; with_reducible rfl)
        try simp only [Act.put, List.getElem_toArray, List.getElem_cons_succ, List.getElem_cons_zero, List.setIfInBounds_toArray, List.set_cons_zero, List.set_cons_succ]
        refine wpAnyH_ready (rs := [12]) (by kernel_rfl) (by simp) ?_
        refine AllReadyH.cons rfl (fun K hK => ?_) AllReadyH.nil
        have r0_ := rr.out.cell 0
        have g0_ := rr.out.free 0
        have r1_ := rr.out.cell 1
        have g1_ := rr.out.free 1
        have r2_ := rr.out.cell 2
        have g2_ := rr.out.free 2
        have r3_ := rr.out.cell 3
        have g3_ := rr.out.free 3
        have r4_ := rr.out.cell 4
        have g4_ := rr.out.free 4
        have r5_ := rr.out.cell 5
        have g5_ := rr.out.free 5
        have r6_ := rr.out.cell 6
        have g6_ := rr.out.free 6
        go_simp
        refine hK.out _ _ (SN _ _ _ _ _ _ _ _ _ hlo hHeld) (fun hHeld => ?_)
        replace rr := Lib.hid (rr.out.put7 (.int .i64 1) (.int .i64 (k0 : Nat)) (.int .i64 (q5 : Nat)) (.int .i64 (k1 : Nat)) (.int .i64 0) (.string ⟨#[]⟩) (.string ⟨#[]⟩))
        clear hK K r0_ g0_ r1_ g1_ r2_ g2_ r3_ g3_ r4_ g4_ r5_ g5_ r6_ g6_
        try simp only [Act.put, List.getElem_toArray, List.getElem_cons_succ, List.getElem_cons_zero, List.setIfInBounds_toArray, List.set_cons_zero, List.set_cons_succ]
        refine wpAnyH_take (i := 13) (v := ?_) rfl (by kernel_rfl) (by kernel_rfl) (by kernel_rfl) (fun _ _ _ h => h) (Or.inl ⟨by kernel_rfl, ?_⟩) hHeld ?_
        rotate_left
        · intro X hX
          first | (go_simp; done) | (go_simp; with_reducible rfl)
        try simp only [Act.put, List.getElem_toArray, List.getElem_cons_succ, List.getElem_cons_zero, List.setIfInBounds_toArray, List.set_cons_zero, List.set_cons_succ]
        refine wpAnyH_done (by kernel_rfl) ?_ _
        have hz := hHeld.out.2.2.2.2
        clear hHeld
        go_wp2_with fail
        go_meet
        exact ⟨_, rfl, rfl, rr.out, hz⟩
    · go_simp
      have hal : Below X0.heap.size X0 (X0.alloc (.cells #[.int .i64 0, .int .i64 0, .int .i64 0, .int .i64 0, .int .i64 0, .string ⟨#[]⟩, .string ⟨#[]⟩] GreeterT)) := (Below.refl _ _).alloc (Nat.le_refl _) _
      have hlo : w3.heap.size ≤ X0.heap.size := hHeld.out.2.2.2.2.size
      refine hK.out _ _ (qv _ _ hHeld hal) (fun hHeld => ?_)
      clear hK K
      have rr := Lib.hid (VarA.new X0 GreeterT #[.int .i64 0, .int .i64 0, .int .i64 0, .int .i64 0, .int .i64 0, .string ⟨#[]⟩, .string ⟨#[]⟩])
      clear hal
      generalize X0.alloc (.cells #[.int .i64 0, .int .i64 0, .int .i64 0, .int .i64 0, .int .i64 0, .string ⟨#[]⟩, .string ⟨#[]⟩] GreeterT) = X1 at *
      generalize X0.heap.size = G at *
      try simp only [Act.put, List.getElem_toArray, List.getElem_cons_succ, List.getElem_cons_zero, List.setIfInBounds_toArray, List.set_cons_zero, List.set_cons_succ]
      refine wpAnyH_ready (rs := [6]) (by kernel_rfl) (by simp) ?_
      refine AllReadyH.cons rfl (fun K hK => ?_) AllReadyH.nil
      go_simp
      go_wp2_with (go_at_call 12; refine (KPUB.out _).mono ?_; rintro e X2 ⟨rfl, rfl⟩; have hS := hHeld; have hb := Lib.hid (Below.refl (X2).heap.size X2))
      refine hK.out _ _ hS (fun hHeld => ?_)
      clear hK K hS
      replace rr := Lib.hid (rr.out.next hb.out)
      clear hb
      try simp only [Act.put, List.getElem_toArray, List.getElem_cons_succ, List.getElem_cons_zero, List.setIfInBounds_toArray, List.set_cons_zero, List.set_cons_succ]
      refine wpAnyH_ready (rs := [7]) (by kernel_rfl) (by simp) ?_
      refine AllReadyH.cons rfl (fun K hK => ?_) AllReadyH.nil
      go_simp
      go_wp2_with (go_at_call 11; refine (KF.out _ (LV _ hHeld)).mono ?_; rintro e X3 ⟨rfl, hb0⟩; have hS := qv _ _ hHeld hb0; have hb := Lib.hid hb0; clear hb0)
      refine hK.out _ _ hS (fun hHeld => ?_)
      clear hK K hS
      replace rr := Lib.hid (rr.out.next hb.out)
      clear hb
      try simp only [Act.put, List.getElem_toArray, List.getElem_cons_succ, List.getElem_cons_zero, List.setIfInBounds_toArray, List.set_cons_zero, List.set_cons_succ]
      refine wpAnyH_take (i := 8) (v := ?_) rfl (by kernel_rfl) (by kernel_rfl) (by kernel_rfl) (fun _ _ _ h => h) (Or.inl ⟨by kernel_rfl, ?_⟩) hHeld ?_
      rotate_left
      · intro X hX
        first | (go_simp; done) | (go_simp; with_reducible rfl)
      try simp only [Act.put, List.getElem_toArray, List.getElem_cons_succ, List.getElem_cons_zero, List.setIfInBounds_toArray, List.set_cons_zero, List.set_cons_succ]
      refine wpAnyH_take (i := 9) (v := ?_) rfl (by kernel_rfl) (by kernel_rfl) (by kernel_rfl) (fun _ _ _ h => h) (Or.inl ⟨by kernel_rfl, ?_⟩) hHeld ?_
      rotate_left
      · intro X hX
        first | (go_simp; done) | (go_simp; with_reducible rfl)
      try simp only [Act.put, List.getElem_toArray, List.getElem_cons_succ, List.getElem_cons_zero, List.setIfInBounds_toArray, List.set_cons_zero, List.set_cons_succ]
      refine wpAnyH_take (i := 10) (v := ?_) rfl (by kernel_rfl) (by kernel_rfl) (by kernel_rfl) (fun _ _ _ h => h) (Or.inl ⟨by kernel_rfl, ?_⟩) hHeld ?_
      rotate_left
      · intro X hX
        first | (go_simp; done) | (go_simp; with_reducible rfl)
      try simp only [Act.put, List.getElem_toArray, List.getElem_cons_succ, List.getElem_cons_zero, List.setIfInBounds_toArray, List.set_cons_zero, List.set_cons_succ]
      refine wpAnyH_ready (rs := [12]) (by kernel_rfl) (by simp) ?_
      refine AllReadyH.cons rfl (fun K hK => ?_) AllReadyH.nil
      have r0_ := rr.out.cell 0
      have g0_ := rr.out.free 0
      have r1_ := rr.out.cell 1
      have g1_ := rr.out.free 1
      have r2_ := rr.out.cell 2
      have g2_ := rr.out.free 2
      have r3_ := rr.out.cell 3
      have g3_ := rr.out.free 3
      have r4_ := rr.out.cell 4
      have g4_ := rr.out.free 4
      have r5_ := rr.out.cell 5
      have g5_ := rr.out.free 5
      have r6_ := rr.out.cell 6
      have g6_ := rr.out.free 6
      go_simp
      refine hK.out _ _ (SN _ _ _ _ _ _ _ _ _ hlo hHeld) (fun hHeld => ?_)
      replace rr := Lib.hid (rr.out.put7 (.int .i64 1) (.int .i64 (k0 : Nat)) (.int .i64 (q5 : Nat)) (.int .i64 (k1 : Nat)) (.int .i64 0) (.string ⟨#[]⟩) (.string ⟨#[]⟩))
      clear hK K r0_ g0_ r1_ g1_ r2_ g2_ r3_ g3_ r4_ g4_ r5_ g5_ r6_ g6_
      try simp only [Act.put, List.getElem_toArray, List.getElem_cons_succ, List.getElem_cons_zero, List.setIfInBounds_toArray, List.set_cons_zero, List.set_cons_succ]
      refine wpAnyH_take (i := 13) (v := ?_) rfl (by kernel_rfl) (by kernel_rfl) (by kernel_rfl) (fun _ _ _ h => h) (Or.inl ⟨by kernel_rfl, ?_⟩) hHeld ?_
      rotate_left
      · intro X hX
        first | (go_simp; done) | (go_simp; with_reducible rfl)
      try simp only [Act.put, List.getElem_toArray, List.getElem_cons_succ, List.getElem_cons_zero, List.setIfInBounds_toArray, List.set_cons_zero, List.set_cons_succ]
      refine wpAnyH_done (by kernel_rfl) ?_ _
      have hz := hHeld.out.2.2.2.2
      clear hHeld
      go_wp2_with fail
      go_meet
      exact ⟨_, rfl, rfl, rr.out, hz⟩
  case rest =>
    obtain ⟨gu, rfl, rfl, hvg, hbx⟩ := hcut
    have VG := Lib.hid hvg
    replace HT := Lib.hid (two_next HT.out hbx)
    replace BV := Lib.hid (BV.out.trans (hbx.mono BV.out.size))
    clear F0 E0 hsg qv SN LV hvg hbx KF KPUB B3
    generalize wc = w4 at *
    have x0 : w4.cell? ⟨gu, 0, none⟩ = some (.int .i64 1) := VG.out.cell 0
    have x1 : w4.cell? ⟨gu, 1, none⟩ = some (.int .i64 (k0 : Nat)) := VG.out.cell 1
    have x2 : w4.cell? ⟨gu, 2, none⟩ = some (.int .i64 (q5 : Nat)) := VG.out.cell 2
    have x3 : w4.cell? ⟨gu, 3, none⟩ = some (.int .i64 (k1 : Nat)) := VG.out.cell 3
    have x4 : w4.cell? ⟨gu, 4, none⟩ = some (.int .i64 0) := VG.out.cell 4
    have x5 : w4.cell? ⟨gu, 5, none⟩ = some (.string ⟨#[]⟩) := VG.out.cell 5
    have x6 : w4.cell? ⟨gu, 6, none⟩ = some (.string ⟨#[]⟩) := VG.out.cell 6
    go_wp2_with fail
    refine (KH1.out _ (LL.out _ BV.out)).mono ?_
    rintro e w5 ⟨rfl, hb⟩
    have hal : Below w5.heap.size w5 (w5.alloc (.cells #[.int .i64 1, .int .i64 (k0 : Nat), .int .i64 (q5 : Nat), .int .i64 (k1 : Nat), .int .i64 1, .string mh, .string ⟨#[]⟩] GreeterT)) := (Below.refl _ _).alloc (Nat.le_refl _) _
    have VH := Lib.hid (VarA.new w5 GreeterT #[.int .i64 1, .int .i64 (k0 : Nat), .int .i64 (q5 : Nat), .int .i64 (k1 : Nat), .int .i64 1, .string mh, .string ⟨#[]⟩])
    replace HT := Lib.hid (two_next (two_next HT.out hb) hal)
    replace BV := Lib.hid ((BV.out.trans (hb.mono BV.out.size)).trans (hal.mono (Nat.le_trans BV.out.size hb.size)))
    clear hal hb VG KH1 x0 x1 x2 x3 x4 x5 x6
    go_upto_region 7 with fail
    generalize w5.alloc (.cells #[.int .i64 1, .int .i64 (k0 : Nat), .int .i64 (q5 : Nat), .int .i64 (k1 : Nat), .int .i64 1, .string mh, .string ⟨#[]⟩] GreeterT) = w5a at *
    generalize w5.heap.size = gh at *
    have x0 : w5a.cell? ⟨gh, 0, none⟩ = some (.int .i64 1) := VH.out.cell 0
    have x1 : w5a.cell? ⟨gh, 1, none⟩ = some (.int .i64 (k0 : Nat)) := VH.out.cell 1
    have x2 : w5a.cell? ⟨gh, 2, none⟩ = some (.int .i64 (q5 : Nat)) := VH.out.cell 2
    have x3 : w5a.cell? ⟨gh, 3, none⟩ = some (.int .i64 (k1 : Nat)) := VH.out.cell 3
    have x4 : w5a.cell? ⟨gh, 4, none⟩ = some (.int .i64 1) := VH.out.cell 4
    have x5 : w5a.cell? ⟨gh, 5, none⟩ = some (.string mh) := VH.out.cell 5
    have x6 : w5a.cell? ⟨gh, 6, none⟩ = some (.string ⟨#[]⟩) := VH.out.cell 6
    go_wp2_with fail
    refine (KH2.out _ (LL.out _ BV.out)).mono ?_
    rintro e w5b ⟨rfl, hb⟩
    have hal : Below w5b.heap.size w5b (w5b.alloc (.cells #[.int .i64 1, .int .i64 (k0 : Nat), .int .i64 (q5 : Nat), .int .i64 (k1 : Nat), .int .i64 1, .string mh, .string ⟨#[]⟩] GreeterT)) := (Below.refl _ _).alloc (Nat.le_refl _) _
    replace HT := Lib.hid (two_next (two_next HT.out hb) hal)
    replace VH := Lib.hid ((VH.out.next hb).next hal)
    replace BV := Lib.hid ((BV.out.trans (hb.mono BV.out.size)).trans (hal.mono (Nat.le_trans BV.out.size hb.size)))
    clear hal hb KH2 x0 x1 x2 x3 x4 x5 x6
    go_upto_region 8 with fail
    generalize w5b.alloc (.cells #[.int .i64 1, .int .i64 (k0 : Nat), .int .i64 (q5 : Nat), .int .i64 (k1 : Nat), .int .i64 1, .string mh, .string ⟨#[]⟩] GreeterT) = w6 at *
    have F0 : Hid (w6.cell? ⟨sg, so, none⟩ = some (.string s0) ∧ w6.cell? ⟨sg, so + 1, none⟩ = some (.string s1) ∧ w6.cell? ⟨sg, so + 2, none⟩ = some (.string s2) ∧ w6.cell? ⟨sg, so + 3, none⟩ = some (.string s3) ∧ Below w6.heap.size w6 w6) := Lib.hid (HSEE.out w6 BV.out)
    have E0 := Lib.hid (seeds_drew F0.out)
    have hsg : sg < w6.heap.size := cell_size (p := ⟨sg, so, none⟩) F0.out.1
    have qv : ∀ X Y, (Hid (X.cell? ⟨sg, so, none⟩ = some (.string s0) ∧ X.cell? ⟨sg, so + 1, none⟩ = some (.string s1) ∧ X.cell? ⟨sg, so + 2, none⟩ = some (.string s2) ∧ X.cell? ⟨sg, so + 3, none⟩ = some (.string s3) ∧ Below w6.heap.size w6 X)) → Below X.heap.size X Y → (Hid (Y.cell? ⟨sg, so, none⟩ = some (.string s0) ∧ Y.cell? ⟨sg, so + 1, none⟩ = some (.string s1) ∧ Y.cell? ⟨sg, so + 2, none⟩ = some (.string s2) ∧ Y.cell? ⟨sg, so + 3, none⟩ = some (.string s3) ∧ Below w6.heap.size w6 Y)) := fun X Y h hb => Lib.hid (seeds_next h.out hb)
    have SN : ∀ (X : World) (G : Nat) (u0 u1 u2 u3 u4 u5 u6 : Value), w6.heap.size ≤ G → (Hid (X.cell? ⟨sg, so, none⟩ = some (.string s0) ∧ X.cell? ⟨sg, so + 1, none⟩ = some (.string s1) ∧ X.cell? ⟨sg, so + 2, none⟩ = some (.string s2) ∧ X.cell? ⟨sg, so + 3, none⟩ = some (.string s3) ∧ Below w6.heap.size w6 X)) → (Hid ((((((((X.setCell ⟨G, 0, none⟩ u0).setCell ⟨G, 1, none⟩ u1).setCell ⟨G, 2, none⟩ u2).setCell ⟨G, 3, none⟩ u3).setCell ⟨G, 4, none⟩ u4).setCell ⟨G, 5, none⟩ u5).setCell ⟨G, 6, none⟩ u6).cell? ⟨sg, so, none⟩ = some (.string s0) ∧ (((((((X.setCell ⟨G, 0, none⟩ u0).setCell ⟨G, 1, none⟩ u1).setCell ⟨G, 2, none⟩ u2).setCell ⟨G, 3, none⟩ u3).setCell ⟨G, 4, none⟩ u4).setCell ⟨G, 5, none⟩ u5).setCell ⟨G, 6, none⟩ u6).cell? ⟨sg, so + 1, none⟩ = some (.string s1) ∧ (((((((X.setCell ⟨G, 0, none⟩ u0).setCell ⟨G, 1, none⟩ u1).setCell ⟨G, 2, none⟩ u2).setCell ⟨G, 3, none⟩ u3).setCell ⟨G, 4, none⟩ u4).setCell ⟨G, 5, none⟩ u5).setCell ⟨G, 6, none⟩ u6).cell? ⟨sg, so + 2, none⟩ = some (.string s2) ∧ (((((((X.setCell ⟨G, 0, none⟩ u0).setCell ⟨G, 1, none⟩ u1).setCell ⟨G, 2, none⟩ u2).setCell ⟨G, 3, none⟩ u3).setCell ⟨G, 4, none⟩ u4).setCell ⟨G, 5, none⟩ u5).setCell ⟨G, 6, none⟩ u6).cell? ⟨sg, so + 3, none⟩ = some (.string s3) ∧ Below w6.heap.size w6 (((((((X.setCell ⟨G, 0, none⟩ u0).setCell ⟨G, 1, none⟩ u1).setCell ⟨G, 2, none⟩ u2).setCell ⟨G, 3, none⟩ u3).setCell ⟨G, 4, none⟩ u4).setCell ⟨G, 5, none⟩ u5).setCell ⟨G, 6, none⟩ u6))) := fun X G u0 u1 u2 u3 u4 u5 u6 hG h => Lib.hid (seeds_put7 h.out hG hsg u0 u1 u2 u3 u4 u5 u6)
    have LV : ∀ X, (Hid (X.cell? ⟨sg, so, none⟩ = some (.string s0) ∧ X.cell? ⟨sg, so + 1, none⟩ = some (.string s1) ∧ X.cell? ⟨sg, so + 2, none⟩ = some (.string s2) ∧ X.cell? ⟨sg, so + 3, none⟩ = some (.string s3) ∧ Below w6.heap.size w6 X)) → L X := fun X h => LL.out _ (BV.out.trans (h.out.2.2.2.2.mono BV.out.size))
    go_cut [13, 14] (fun z y wx => ∃ gu, z = .pointer (some ⟨gu, 0, none⟩) ∧ y = .bool false ∧ VarA gu GreeterT #[.int .i64 0, .int .i64 0, .int .i64 0, .int .i64 0, .int .i64 0, .string ⟨#[]⟩, .string ⟨#[]⟩] wx ∧ Below w6.heap.size w6 wx)
    case first =>
      refine wp_region_held_drew (S := fun X => Hid (X.cell? ⟨sg, so, none⟩ = some (.string s0) ∧ X.cell? ⟨sg, so + 1, none⟩ = some (.string s1) ∧ X.cell? ⟨sg, so + 2, none⟩ = some (.string s2) ∧ X.cell? ⟨sg, so + 3, none⟩ = some (.string s3) ∧ Below w6.heap.size w6 X)) (by kernel_rfl) E0 (fun hHeld => ?_)
      clear E0 F0
      generalize w6.drew = X0 at *
      refine wpAnyH_take (i := 0) (v := ?_) rfl (by kernel_rfl) (by kernel_rfl) (by kernel_rfl) (fun _ _ _ h => h) (Or.inl ⟨by kernel_rfl, ?_⟩) hHeld ?_
      rotate_left
      · intro X hX
        first | (go_simp; done) | (go_simp; with_reducible rfl)
      try simp only [Act.put, List.getElem_toArray, List.getElem_cons_zero, List.setIfInBounds_toArray, List.set_cons_zero, List.set_cons_succ]
      refine wpAnyH_take (i := 1) (v := ?_) rfl (by kernel_rfl) (by kernel_rfl) (by kernel_rfl) (fun _ _ _ h => h) (Or.inl ⟨by kernel_rfl, ?_⟩) hHeld ?_
      rotate_left
      · intro X hX
        first | (go_simp; done) | (go_simp; with_reducible rfl)
      try simp only [Act.put, List.getElem_toArray, List.getElem_cons_succ, List.getElem_cons_zero, List.setIfInBounds_toArray, List.set_cons_zero, List.set_cons_succ]
      refine wpAnyH_take (i := 2) (v := ?_) rfl (by kernel_rfl) (by kernel_rfl) (by kernel_rfl) (fun _ _ _ h => h) (Or.inl ⟨by kernel_rfl, ?_⟩) hHeld ?_
      rotate_left
      · intro X hX
        have y : X.cell? ⟨sg, so, none⟩ = some (.string s0) := hX.out.1
        first | (go_simp; done) | (go_simp; with_reducible rfl)
      try simp only [Act.put, List.getElem_toArray, List.getElem_cons_succ, List.getElem_cons_zero, List.setIfInBounds_toArray, List.set_cons_zero, List.set_cons_succ]
      refine wpAnyH_take (i := 3) (v := ?_) rfl (by kernel_rfl) (by kernel_rfl) (by kernel_rfl) (fun _ _ _ h => h) (Or.inl ⟨by kernel_rfl, ?_⟩) hHeld ?_
      rotate_left
      · intro X hX
        first | (go_simp; done) | (go_simp; with_reducible rfl)
      try simp only [Act.put, List.getElem_toArray, List.getElem_cons_succ, List.getElem_cons_zero, List.setIfInBounds_toArray, List.set_cons_zero, List.set_cons_succ]
      refine wpAnyH_take (i := 4) (v := ?_) rfl (by kernel_rfl) (by kernel_rfl) (by kernel_rfl) (fun _ _ _ h => h) (Or.inl ⟨by kernel_rfl, ?_⟩) hHeld ?_
      rotate_left
      · intro X hX
        first | (go_simp; done) | (go_simp; with_reducible rfl)
      try simp only [Act.put, List.getElem_toArray, List.getElem_cons_succ, List.getElem_cons_zero, List.setIfInBounds_toArray, List.set_cons_zero, List.set_cons_succ]
      refine wpAnyH_take (i := 5) (v := ?_) rfl (by kernel_rfl) (by kernel_rfl) (by kernel_rfl) (fun _ _ _ h => h) (Or.inl ⟨by kernel_rfl, ?_⟩) hHeld ?_
      rotate_left
      · intro X hX
        have y : X.cell? ⟨sg, so + 1, none⟩ = some (.string s1) := hX.out.2.1
        first | (go_simp; done) | (go_simp; with_reducible rfl)
      try simp only [Act.put, List.getElem_toArray, List.getElem_cons_succ, List.getElem_cons_zero, List.setIfInBounds_toArray, List.set_cons_zero, List.set_cons_succ]
      refine wpAnyH_ready (rs := [6, 10]) (by kernel_rfl) (by simp) ?_
      refine AllReadyH.cons rfl (fun K hK => ?_) (AllReadyH.cons rfl (fun K hK => ?_) AllReadyH.nil)
      · go_simp
        go_wp2_with (go_at_call 11; refine (KN.out _ (LV _ hHeld)).mono ?_; rintro e X1 ⟨rfl, hb0⟩; have hS := qv _ _ hHeld hb0; have hb := Lib.hid hb0; clear hb0)
        refine hK.out _ _ hS (fun hHeld => ?_)
        clear hK K hS
        clear hb
        try simp only [Act.put, List.getElem_toArray, List.getElem_cons_succ, List.getElem_cons_zero, List.setIfInBounds_toArray, List.set_cons_zero, List.set_cons_succ]
        refine wpAnyH_take (i := 7) (v := ?_) rfl (by kernel_rfl) (by kernel_rfl) (by kernel_rfl) (fun _ _ _ h => h) (Or.inl ⟨by kernel_rfl, ?_⟩) hHeld ?_
        rotate_left
        · intro X hX
          first | (go_simp; done) | (go_simp; with_reducible rfl)
        try simp only [Act.put, List.getElem_toArray, List.getElem_cons_succ, List.getElem_cons_zero, List.setIfInBounds_toArray, List.set_cons_zero, List.set_cons_succ]
        refine wpAnyH_take (i := 8) (v := ?_) rfl (by kernel_rfl) (by kernel_rfl) (by kernel_rfl) (fun _ _ _ h => h) (Or.inl ⟨by kernel_rfl, ?_⟩) hHeld ?_
        rotate_left
        · intro X hX
          first | (go_simp; done) | (go_simp; with_reducible rfl)
        try simp only [Act.put, List.getElem_toArray, List.getElem_cons_succ, List.getElem_cons_zero, List.setIfInBounds_toArray, List.set_cons_zero, List.set_cons_succ]
        refine wpAnyH_take (i := 9) (v := ?_) rfl (by kernel_rfl) (by kernel_rfl) (by kernel_rfl) (fun _ _ _ h => h) (Or.inl ⟨by kernel_rfl, ?_⟩) hHeld ?_
        rotate_left
        · intro X hX
          first | (go_simp; done) | (go_simp; with_reducible rfl)
        try simp only [Act.put, List.getElem_toArray, List.getElem_cons_succ, List.getElem_cons_zero, List.setIfInBounds_toArray, List.set_cons_zero, List.set_cons_succ]
        refine wpAnyH_ready (rs := [10]) (by kernel_rfl) (by simp) ?_
        refine AllReadyH.cons rfl (fun K hK => ?_) AllReadyH.nil
        go_simp
        have hal : Below X1.heap.size X1 (X1.alloc (.cells #[.int .i64 0, .int .i64 0, .int .i64 0, .int .i64 0, .int .i64 0, .string ⟨#[]⟩, .string ⟨#[]⟩] GreeterT)) := (Below.refl _ _).alloc (Nat.le_refl _) _
        have hlo : w6.heap.size ≤ X1.heap.size := hHeld.out.2.2.2.2.size
        refine hK.out _ _ (qv _ _ hHeld hal) (fun hHeld => ?_)
        clear hK K
        have rr := Lib.hid (VarA.new X1 GreeterT #[.int .i64 0, .int .i64 0, .int .i64 0, .int .i64 0, .int .i64 0, .string ⟨#[]⟩, .string ⟨#[]⟩])
        clear hal
        generalize X1.alloc (.cells #[.int .i64 0, .int .i64 0, .int .i64 0, .int .i64 0, .int .i64 0, .string ⟨#[]⟩, .string ⟨#[]⟩] GreeterT) = X2 at *
        generalize X1.heap.size = G at *
        try simp only [Act.put, List.getElem_toArray, List.getElem_cons_succ, List.getElem_cons_zero, List.setIfInBounds_toArray, List.set_cons_zero, List.set_cons_succ]
        refine wpAnyH_ready (rs := [11]) (by kernel_rfl) (by simp) ?_
        refine AllReadyH.cons rfl (fun K hK => ?_) AllReadyH.nil
        have r0_ := rr.out.cell 0
        have g0_ := rr.out.free 0
        have r1_ := rr.out.cell 1
        have g1_ := rr.out.free 1
        have r2_ := rr.out.cell 2
        have g2_ := rr.out.free 2
        have r3_ := rr.out.cell 3
        have g3_ := rr.out.free 3
        have r4_ := rr.out.cell 4
        have g4_ := rr.out.free 4
        have r5_ := rr.out.cell 5
        have g5_ := rr.out.free 5
        have r6_ := rr.out.cell 6
        have g6_ := rr.out.free 6
        go_simp
        refine hK.out _ _ (SN _ _ _ _ _ _ _ _ _ hlo hHeld) (fun hHeld => ?_)
        replace rr := Lib.hid (rr.out.put7 (.int .i64 0) (.int .i64 0) (.int .i64 0) (.int .i64 0) (.int .i64 0) (.string ⟨#[]⟩) (.string ⟨#[]⟩))
        clear hK K r0_ g0_ r1_ g1_ r2_ g2_ r3_ g3_ r4_ g4_ r5_ g5_ r6_ g6_
        try simp only [Act.put, List.getElem_toArray, List.getElem_cons_succ, List.getElem_cons_zero, List.setIfInBounds_toArray, List.set_cons_zero, List.set_cons_succ]
        refine wpAnyH_take (i := 12) (v := ?_) rfl (by kernel_rfl) (by kernel_rfl) (by kernel_rfl) (fun _ _ _ h => h) (Or.inl ⟨by kernel_rfl, ?_⟩) hHeld ?_
        rotate_left
        · intro X hX
          first | (go_simp; done) | (go_simp; with_reducible rfl)
        try simp only [Act.put, List.getElem_toArray, List.getElem_cons_succ, List.getElem_cons_zero, List.setIfInBounds_toArray, List.set_cons_zero, List.set_cons_succ]
        refine wpAnyH_done (by kernel_rfl) ?_ _
        have hz := hHeld.out.2.2.2.2
        clear hHeld
        go_wp2_with fail
        go_meet
        exact ⟨_, rfl, rfl, rr.out, hz⟩
      · go_simp
        have hal : Below X0.heap.size X0 (X0.alloc (.cells #[.int .i64 0, .int .i64 0, .int .i64 0, .int .i64 0, .int .i64 0, .string ⟨#[]⟩, .string ⟨#[]⟩] GreeterT)) := (Below.refl _ _).alloc (Nat.le_refl _) _
        have hlo : w6.heap.size ≤ X0.heap.size := hHeld.out.2.2.2.2.size
        refine hK.out _ _ (qv _ _ hHeld hal) (fun hHeld => ?_)
        clear hK K
        have rr := Lib.hid (VarA.new X0 GreeterT #[.int .i64 0, .int .i64 0, .int .i64 0, .int .i64 0, .int .i64 0, .string ⟨#[]⟩, .string ⟨#[]⟩])
        clear hal
        generalize X0.alloc (.cells #[.int .i64 0, .int .i64 0, .int .i64 0, .int .i64 0, .int .i64 0, .string ⟨#[]⟩, .string ⟨#[]⟩] GreeterT) = X1 at *
        generalize X0.heap.size = G at *
        try simp only [Act.put, List.getElem_toArray, List.getElem_cons_succ, List.getElem_cons_zero, List.setIfInBounds_toArray, List.set_cons_zero, List.set_cons_succ]
        refine wpAnyH_ready (rs := [6]) (by kernel_rfl) (by simp) ?_
        refine AllReadyH.cons rfl (fun K hK => ?_) AllReadyH.nil
        go_simp
        go_wp2_with (go_at_call 11; refine (KN.out _ (LV _ hHeld)).mono ?_; rintro e X2 ⟨rfl, hb0⟩; have hS := qv _ _ hHeld hb0; have hb := Lib.hid hb0; clear hb0)
        refine hK.out _ _ hS (fun hHeld => ?_)
        clear hK K hS
        replace rr := Lib.hid (rr.out.next hb.out)
        clear hb
        try simp only [Act.put, List.getElem_toArray, List.getElem_cons_succ, List.getElem_cons_zero, List.setIfInBounds_toArray, List.set_cons_zero, List.set_cons_succ]
        refine wpAnyH_take (i := 7) (v := ?_) rfl (by kernel_rfl) (by kernel_rfl) (by kernel_rfl) (fun _ _ _ h => h) (Or.inl ⟨by kernel_rfl, ?_⟩) hHeld ?_
        rotate_left
        · intro X hX
          first | (go_simp; done) | (go_simp; with_reducible rfl)
        try simp only [Act.put, List.getElem_toArray, List.getElem_cons_succ, List.getElem_cons_zero, List.setIfInBounds_toArray, List.set_cons_zero, List.set_cons_succ]
        refine wpAnyH_take (i := 8) (v := ?_) rfl (by kernel_rfl) (by kernel_rfl) (by kernel_rfl) (fun _ _ _ h => h) (Or.inl ⟨by kernel_rfl, ?_⟩) hHeld ?_
        rotate_left
        · intro X hX
          first | (go_simp; done) | (go_simp; with_reducible rfl)
        try simp only [Act.put, List.getElem_toArray, List.getElem_cons_succ, List.getElem_cons_zero, List.setIfInBounds_toArray, List.set_cons_zero, List.set_cons_succ]
        refine wpAnyH_take (i := 9) (v := ?_) rfl (by kernel_rfl) (by kernel_rfl) (by kernel_rfl) (fun _ _ _ h => h) (Or.inl ⟨by kernel_rfl, ?_⟩) hHeld ?_
        rotate_left
        · intro X hX
          first | (go_simp; done) | (go_simp; with_reducible rfl)
        try simp only [Act.put, List.getElem_toArray, List.getElem_cons_succ, List.getElem_cons_zero, List.setIfInBounds_toArray, List.set_cons_zero, List.set_cons_succ]
        refine wpAnyH_ready (rs := [11]) (by kernel_rfl) (by simp) ?_
        refine AllReadyH.cons rfl (fun K hK => ?_) AllReadyH.nil
        have r0_ := rr.out.cell 0
        have g0_ := rr.out.free 0
        have r1_ := rr.out.cell 1
        have g1_ := rr.out.free 1
        have r2_ := rr.out.cell 2
        have g2_ := rr.out.free 2
        have r3_ := rr.out.cell 3
        have g3_ := rr.out.free 3
        have r4_ := rr.out.cell 4
        have g4_ := rr.out.free 4
        have r5_ := rr.out.cell 5
        have g5_ := rr.out.free 5
        have r6_ := rr.out.cell 6
        have g6_ := rr.out.free 6
        go_simp
        refine hK.out _ _ (SN _ _ _ _ _ _ _ _ _ hlo hHeld) (fun hHeld => ?_)
        replace rr := Lib.hid (rr.out.put7 (.int .i64 0) (.int .i64 0) (.int .i64 0) (.int .i64 0) (.int .i64 0) (.string ⟨#[]⟩) (.string ⟨#[]⟩))
        clear hK K r0_ g0_ r1_ g1_ r2_ g2_ r3_ g3_ r4_ g4_ r5_ g5_ r6_ g6_
        try simp only [Act.put, List.getElem_toArray, List.getElem_cons_succ, List.getElem_cons_zero, List.setIfInBounds_toArray, List.set_cons_zero, List.set_cons_succ]
        refine wpAnyH_take (i := 12) (v := ?_) rfl (by kernel_rfl) (by kernel_rfl) (by kernel_rfl) (fun _ _ _ h => h) (Or.inl ⟨by kernel_rfl, ?_⟩) hHeld ?_
        rotate_left
        · intro X hX
          first | (go_simp; done) | (go_simp; with_reducible rfl)
        try simp only [Act.put, List.getElem_toArray, List.getElem_cons_succ, List.getElem_cons_zero, List.setIfInBounds_toArray, List.set_cons_zero, List.set_cons_succ]
        refine wpAnyH_done (by kernel_rfl) ?_ _
        have hz := hHeld.out.2.2.2.2
        clear hHeld
        go_wp2_with fail
        go_meet
        exact ⟨_, rfl, rfl, rr.out, hz⟩
    case rest =>
      obtain ⟨gz, rfl, rfl, -, hbx⟩ := hcut
      replace HT := Lib.hid (two_next HT.out hbx)
      replace VH := Lib.hid (VH.out.next hbx)
      replace BV := Lib.hid (BV.out.trans (hbx.mono BV.out.size))
      clear F0 E0 hsg qv SN LV hbx KN HSEE
      generalize wc = w7 at *
      have x0 : w7.cell? ⟨gh, 0, none⟩ = some (.int .i64 1) := VH.out.cell 0
      have x1 : w7.cell? ⟨gh, 1, none⟩ = some (.int .i64 (k0 : Nat)) := VH.out.cell 1
      have x2 : w7.cell? ⟨gh, 2, none⟩ = some (.int .i64 (q5 : Nat)) := VH.out.cell 2
      have x3 : w7.cell? ⟨gh, 3, none⟩ = some (.int .i64 (k1 : Nat)) := VH.out.cell 3
      have x4 : w7.cell? ⟨gh, 4, none⟩ = some (.int .i64 1) := VH.out.cell 4
      have x5 : w7.cell? ⟨gh, 5, none⟩ = some (.string mh) := VH.out.cell 5
      have x6 : w7.cell? ⟨gh, 6, none⟩ = some (.string ⟨#[]⟩) := VH.out.cell 6
      go_wp2_with fail
      refine (KB.out _ (LL.out _ BV.out)).mono ?_
      rintro e w8 ⟨rfl, hb⟩
      have hal : Below w8.heap.size w8 (w8.alloc (.cells #[.int .i64 1, .int .i64 (k0 : Nat), .int .i64 (q5 : Nat), .int .i64 (k1 : Nat), .int .i64 4, .string mh, .string ⟨#[]⟩] GreeterT)) := (Below.refl _ _).alloc (Nat.le_refl _) _
      have VD := Lib.hid (VarA.new w8 GreeterT #[.int .i64 1, .int .i64 (k0 : Nat), .int .i64 (q5 : Nat), .int .i64 (k1 : Nat), .int .i64 4, .string mh, .string ⟨#[]⟩])
      replace HT := Lib.hid (two_next (two_next HT.out hb) hal)
      replace VH := Lib.hid ((VH.out.next hb).next hal)
      replace BV := Lib.hid ((BV.out.trans (hb.mono BV.out.size)).trans (hal.mono (Nat.le_trans BV.out.size hb.size)))
      have B9 := Lib.hid (B1.out.trans (BV.out.mono B1.out.size))
      clear hal hb KB BV LL x0 x1 x2 x3 x4 x5 x6
      go_upto_region 10 with fail
      generalize w8.alloc (.cells #[.int .i64 1, .int .i64 (k0 : Nat), .int .i64 (q5 : Nat), .int .i64 (k1 : Nat), .int .i64 4, .string mh, .string ⟨#[]⟩] GreeterT) = w9 at *
      generalize w8.heap.size = gd at *
      have LL := LL1
      have qv : ∀ X Y, (Hid (Two gl ol ((1, ((k0 : Nat) : Int), ((p1 : Nat) : Int), ((k2 : Nat) : Int), 3, m1, m2) : GrD) ((2, ((k1 : Nat) : Int), ((p0 : Nat) : Int), ((k3 : Nat) : Int), 3, m2, m1) : GrD) X ∧ VarA gh GreeterT #[.int .i64 1, .int .i64 (k0 : Nat), .int .i64 (q5 : Nat), .int .i64 (k1 : Nat), .int .i64 1, .string mh, .string ⟨#[]⟩] X ∧ VarA gd GreeterT #[.int .i64 1, .int .i64 (k0 : Nat), .int .i64 (q5 : Nat), .int .i64 (k1 : Nat), .int .i64 4, .string mh, .string ⟨#[]⟩] X ∧ Below w.heap.size w X)) → Below X.heap.size X Y → (Hid (Two gl ol ((1, ((k0 : Nat) : Int), ((p1 : Nat) : Int), ((k2 : Nat) : Int), 3, m1, m2) : GrD) ((2, ((k1 : Nat) : Int), ((p0 : Nat) : Int), ((k3 : Nat) : Int), 3, m2, m1) : GrD) Y ∧ VarA gh GreeterT #[.int .i64 1, .int .i64 (k0 : Nat), .int .i64 (q5 : Nat), .int .i64 (k1 : Nat), .int .i64 1, .string mh, .string ⟨#[]⟩] Y ∧ VarA gd GreeterT #[.int .i64 1, .int .i64 (k0 : Nat), .int .i64 (q5 : Nat), .int .i64 (k1 : Nat), .int .i64 4, .string mh, .string ⟨#[]⟩] Y ∧ Below w.heap.size w Y)) := fun X Y h hb => Lib.hid ⟨two_next h.out.1 hb, h.out.2.1.next hb, h.out.2.2.1.next hb, h.out.2.2.2.trans (hb.mono h.out.2.2.2.size)⟩
      have E0 : Hid (Two gl ol ((1, ((k0 : Nat) : Int), ((p1 : Nat) : Int), ((k2 : Nat) : Int), 3, m1, m2) : GrD) ((2, ((k1 : Nat) : Int), ((p0 : Nat) : Int), ((k3 : Nat) : Int), 3, m2, m1) : GrD) w9.drew ∧ VarA gh GreeterT #[.int .i64 1, .int .i64 (k0 : Nat), .int .i64 (q5 : Nat), .int .i64 (k1 : Nat), .int .i64 1, .string mh, .string ⟨#[]⟩] w9.drew ∧ VarA gd GreeterT #[.int .i64 1, .int .i64 (k0 : Nat), .int .i64 (q5 : Nat), .int .i64 (k1 : Nat), .int .i64 4, .string mh, .string ⟨#[]⟩] w9.drew ∧ Below w.heap.size w w9.drew) := qv _ _ (Lib.hid ⟨HT.out, VH.out, VD.out, B9.out⟩) ((Below.refl _ _).drew)
      have hm6 : ((mh.size : Int) == 6) = true := by rw [hmh]; rfl
      have htp : (tp.toList == tp.toList) = true := by simp
      clear HT VH VD B9 hmh LL1
      refine wp_region_held_drew (S := fun X => Hid (Two gl ol ((1, ((k0 : Nat) : Int), ((p1 : Nat) : Int), ((k2 : Nat) : Int), 3, m1, m2) : GrD) ((2, ((k1 : Nat) : Int), ((p0 : Nat) : Int), ((k3 : Nat) : Int), 3, m2, m1) : GrD) X ∧ VarA gh GreeterT #[.int .i64 1, .int .i64 (k0 : Nat), .int .i64 (q5 : Nat), .int .i64 (k1 : Nat), .int .i64 1, .string mh, .string ⟨#[]⟩] X ∧ VarA gd GreeterT #[.int .i64 1, .int .i64 (k0 : Nat), .int .i64 (q5 : Nat), .int .i64 (k1 : Nat), .int .i64 4, .string mh, .string ⟨#[]⟩] X ∧ Below w.heap.size w X)) (by kernel_rfl) E0 (fun hHeld => ?_)
      clear E0
      generalize w9.drew = X0 at *
      refine wpAnyH_take (i := 0) (v := ?_) rfl (by kernel_rfl) (by kernel_rfl) (by kernel_rfl) (fun _ _ _ h => h) (Or.inl ⟨by kernel_rfl, ?_⟩) hHeld ?_
      rotate_left
      · intro X hX
        first | (go_simp; done) | (go_simp; with_reducible rfl)
      try simp only [Act.put, List.getElem_toArray, List.getElem_cons_zero, List.setIfInBounds_toArray, List.set_cons_zero, List.set_cons_succ]
      refine wpAnyH_take (i := 1) (v := ?_) rfl (by kernel_rfl) (by kernel_rfl) (by kernel_rfl) (fun _ _ _ h => h) (Or.inl ⟨by kernel_rfl, ?_⟩) hHeld ?_
      rotate_left
      · intro X hX
        first | (go_simp; done) | (go_simp; with_reducible rfl)
      try simp only [Act.put, List.getElem_toArray, List.getElem_cons_succ, List.getElem_cons_zero, List.setIfInBounds_toArray, List.set_cons_zero, List.set_cons_succ]
      refine wpAnyH_take (i := 2) (v := ?_) rfl (by kernel_rfl) (by kernel_rfl) (by kernel_rfl) (fun _ _ _ h => h) (Or.inl ⟨by kernel_rfl, ?_⟩) hHeld ?_
      rotate_left
      · intro X hX
        first | (go_simp; done) | (go_simp; with_reducible rfl)
      try simp only [Act.put, List.getElem_toArray, List.getElem_cons_succ, List.getElem_cons_zero, List.setIfInBounds_toArray, List.set_cons_zero, List.set_cons_succ]
      refine wpAnyH_take (i := 3) (v := ?_) rfl (by kernel_rfl) (by kernel_rfl) (by kernel_rfl) (fun _ _ _ h => h) (Or.inl ⟨by kernel_rfl, ?_⟩) hHeld ?_
      rotate_left
      · intro X hX
        first | (go_simp; done) | (go_simp; with_reducible rfl)
      try simp only [Act.put, List.getElem_toArray, List.getElem_cons_succ, List.getElem_cons_zero, List.setIfInBounds_toArray, List.set_cons_zero, List.set_cons_succ]
      refine wpAnyH_take (i := 4) (v := ?_) rfl (by kernel_rfl) (by kernel_rfl) (by kernel_rfl) (fun _ _ _ h => h) (Or.inl ⟨by kernel_rfl, ?_⟩) hHeld ?_
      rotate_left
      · intro X hX
        first | (go_simp; done) | (go_simp; with_reducible rfl)
      try simp only [Act.put, List.getElem_toArray, List.getElem_cons_succ, List.getElem_cons_zero, List.setIfInBounds_toArray, List.set_cons_zero, List.set_cons_succ]
      refine wpAnyH_take (i := 5) (v := ?_) rfl (by kernel_rfl) (by kernel_rfl) (by kernel_rfl) (fun _ _ _ h => h) (Or.inl ⟨by kernel_rfl, ?_⟩) hHeld ?_
      rotate_left
      · intro X hX
        have y : X.cell? ⟨gl, ol + 4, none⟩ = some (.int .i64 3) := hX.out.1.a4
        first | (go_simp; done) | (go_simp; with_reducible rfl)
      try simp only [Act.put, List.getElem_toArray, List.getElem_cons_succ, List.getElem_cons_zero, List.setIfInBounds_toArray, List.set_cons_zero, List.set_cons_succ]
      refine wpAnyH_take (i := 6) (v := ?_) rfl (by kernel_rfl) (by kernel_rfl) (by kernel_rfl) (fun _ _ _ h => h) (Or.inl ⟨by kernel_rfl, ?_⟩) hHeld ?_
      rotate_left
      · intro X hX
        first | (go_simp; done) | (go_simp; with_reducible rfl)
      try simp only [Act.put, List.getElem_toArray, List.getElem_cons_succ, List.getElem_cons_zero, List.setIfInBounds_toArray, List.set_cons_zero, List.set_cons_succ]
      refine wpAnyH_take (i := 7) (v := ?_) rfl (by kernel_rfl) (by kernel_rfl) (by kernel_rfl) (fun _ _ _ h => h) (Or.inl ⟨by kernel_rfl, ?_⟩) hHeld ?_
      rotate_left
      · intro X hX
        first | (go_simp; done) | (go_simp; with_reducible rfl)
      try simp only [Act.put, List.getElem_toArray, List.getElem_cons_succ, List.getElem_cons_zero, List.setIfInBounds_toArray, List.set_cons_zero, List.set_cons_succ]
      refine wpAnyH_take (i := 8) (v := ?_) rfl (by kernel_rfl) (by kernel_rfl) (by kernel_rfl) (fun _ _ _ h => h) (Or.inl ⟨by kernel_rfl, ?_⟩) hHeld ?_
      rotate_left
      · intro X hX
        first | (go_simp; done) | (go_simp; with_reducible rfl)
      try simp only [Act.put, List.getElem_toArray, List.getElem_cons_succ, List.getElem_cons_zero, List.setIfInBounds_toArray, List.set_cons_zero, List.set_cons_succ]
      refine wpAnyH_take (i := 9) (v := ?_) rfl (by kernel_rfl) (by kernel_rfl) (by kernel_rfl) (fun _ _ _ h => h) (Or.inl ⟨by kernel_rfl, ?_⟩) hHeld ?_
      rotate_left
      · intro X hX
        first | (go_simp; done) | (go_simp; with_reducible rfl)
      try simp only [Act.put, List.getElem_toArray, List.getElem_cons_succ, List.getElem_cons_zero, List.setIfInBounds_toArray, List.set_cons_zero, List.set_cons_succ]
      refine wpAnyH_take (i := 10) (v := ?_) rfl (by kernel_rfl) (by kernel_rfl) (by kernel_rfl) (fun _ _ _ h => h) (Or.inl ⟨by kernel_rfl, ?_⟩) hHeld ?_
      rotate_left
      · intro X hX
        first | (go_simp; done) | (go_simp; with_reducible rfl)
      try simp only [Act.put, List.getElem_toArray, List.getElem_cons_succ, List.getElem_cons_zero, List.setIfInBounds_toArray, List.set_cons_zero, List.set_cons_succ]
      refine wpAnyH_take (i := 11) (v := ?_) rfl (by kernel_rfl) (by kernel_rfl) (by kernel_rfl) (fun _ _ _ h => h) (Or.inl ⟨by kernel_rfl, ?_⟩) hHeld ?_
      rotate_left
      · intro X hX
        first | (go_simp; done) | (go_simp; with_reducible rfl)
      try simp only [Act.put, List.getElem_toArray, List.getElem_cons_succ, List.getElem_cons_zero, List.setIfInBounds_toArray, List.set_cons_zero, List.set_cons_succ]
      refine wpAnyH_take (i := 12) (v := ?_) rfl (by kernel_rfl) (by kernel_rfl) (by kernel_rfl) (fun _ _ _ h => h) (Or.inl ⟨by kernel_rfl, ?_⟩) hHeld ?_
      rotate_left
      · intro X hX
        have y : X.cell? ⟨gl, ol + 11, none⟩ = some (.int .i64 3) := hX.out.1.b4
        first | (go_simp; done) | (go_simp; with_reducible rfl)
      try simp only [Act.put, List.getElem_toArray, List.getElem_cons_succ, List.getElem_cons_zero, List.setIfInBounds_toArray, List.set_cons_zero, List.set_cons_succ]
      refine wpAnyH_take (i := 13) (v := ?_) rfl (by kernel_rfl) (by kernel_rfl) (by kernel_rfl) (fun _ _ _ h => h) (Or.inl ⟨by kernel_rfl, ?_⟩) hHeld ?_
      rotate_left
      · intro X hX
        first | (go_simp; done) | (go_simp; with_reducible rfl)
      try simp only [Act.put, List.getElem_toArray, List.getElem_cons_succ, List.getElem_cons_zero, List.setIfInBounds_toArray, List.set_cons_zero, List.set_cons_succ]
      refine wpAnyH_take (i := 14) (v := ?_) rfl (by kernel_rfl) (by kernel_rfl) (by kernel_rfl) (fun _ _ _ h => h) (Or.inl ⟨by kernel_rfl, ?_⟩) hHeld ?_
      rotate_left
      · intro X hX
        first | (go_simp; done) | (go_simp; with_reducible rfl)
      try simp only [Act.put, List.getElem_toArray, List.getElem_cons_succ, List.getElem_cons_zero, List.setIfInBounds_toArray, List.set_cons_zero, List.set_cons_succ]
      refine wpAnyH_take (i := 15) (v := ?_) rfl (by kernel_rfl) (by kernel_rfl) (by kernel_rfl) (fun _ _ _ h => h) (Or.inl ⟨by kernel_rfl, ?_⟩) hHeld ?_
      rotate_left
      · intro X hX
        first | (go_simp; done) | (go_simp; with_reducible rfl)
      try simp only [Act.put, List.getElem_toArray, List.getElem_cons_succ, List.getElem_cons_zero, List.setIfInBounds_toArray, List.set_cons_zero, List.set_cons_succ]
      refine wpAnyH_take (i := 16) (v := ?_) rfl (by kernel_rfl) (by kernel_rfl) (by kernel_rfl) (fun _ _ _ h => h) (Or.inl ⟨by kernel_rfl, ?_⟩) hHeld ?_
      rotate_left
      · intro X hX
        first | (go_simp; done) | (go_simp; with_reducible rfl)
      try simp only [Act.put, List.getElem_toArray, List.getElem_cons_succ, List.getElem_cons_zero, List.setIfInBounds_toArray, List.set_cons_zero, List.set_cons_succ]
      refine wpAnyH_take (i := 17) (v := ?_) rfl (by kernel_rfl) (by kernel_rfl) (by kernel_rfl) (fun _ _ _ h => h) (Or.inl ⟨by kernel_rfl, ?_⟩) hHeld ?_
      rotate_left
      · intro X hX
        first | (go_simp; done) | (go_simp; with_reducible rfl)
      try simp only [Act.put, List.getElem_toArray, List.getElem_cons_succ, List.getElem_cons_zero, List.setIfInBounds_toArray, List.set_cons_zero, List.set_cons_succ]
      refine wpAnyH_take (i := 18) (v := ?_) rfl (by kernel_rfl) (by kernel_rfl) (by kernel_rfl) (fun _ _ _ h => h) (Or.inl ⟨by kernel_rfl, ?_⟩) hHeld ?_
      rotate_left
      · intro X hX
        first | (go_simp; done) | (go_simp; with_reducible rfl)
      try simp only [Act.put, List.getElem_toArray, List.getElem_cons_succ, List.getElem_cons_zero, List.setIfInBounds_toArray, List.set_cons_zero, List.set_cons_succ]
      refine wpAnyH_take (i := 19) (v := ?_) rfl (by kernel_rfl) (by kernel_rfl) (by kernel_rfl) (fun _ _ _ h => h) (Or.inl ⟨by kernel_rfl, ?_⟩) hHeld ?_
      rotate_left
      · intro X hX
        first | (go_simp; done) | (go_simp; with_reducible rfl)
      try simp only [Act.put, List.getElem_toArray, List.getElem_cons_succ, List.getElem_cons_zero, List.setIfInBounds_toArray, List.set_cons_zero, List.set_cons_succ]
      refine wpAnyH_take (i := 20) (v := ?_) rfl (by kernel_rfl) (by kernel_rfl) (by kernel_rfl) (fun _ _ _ h => h) (Or.inl ⟨by kernel_rfl, ?_⟩) hHeld ?_
      rotate_left
      · intro X hX
        first | (go_simp; done) | (go_simp; with_reducible rfl)
      try simp only [Act.put, List.getElem_toArray, List.getElem_cons_succ, List.getElem_cons_zero, List.setIfInBounds_toArray, List.set_cons_zero, List.set_cons_succ]
      refine wpAnyH_take (i := 21) (v := ?_) rfl (by kernel_rfl) (by kernel_rfl) (by kernel_rfl) (fun _ _ _ h => h) (Or.inl ⟨by kernel_rfl, ?_⟩) hHeld ?_
      rotate_left
      · intro X hX
        first | (go_simp; done) | (go_simp; with_reducible rfl)
      try simp only [Act.put, List.getElem_toArray, List.getElem_cons_succ, List.getElem_cons_zero, List.setIfInBounds_toArray, List.set_cons_zero, List.set_cons_succ]
      refine wpAnyH_take (i := 22) (v := ?_) rfl (by kernel_rfl) (by kernel_rfl) (by kernel_rfl) (fun _ _ _ h => h) (Or.inl ⟨by kernel_rfl, ?_⟩) hHeld ?_
      rotate_left
      · intro X hX
        first | (go_simp; done) | (go_simp; with_reducible rfl)
      try simp only [Act.put, List.getElem_toArray, List.getElem_cons_succ, List.getElem_cons_zero, List.setIfInBounds_toArray, List.set_cons_zero, List.set_cons_succ]
      refine wpAnyH_take (i := 23) (v := ?_) rfl (by kernel_rfl) (by kernel_rfl) (by kernel_rfl) (fun _ _ _ h => h) (Or.inl ⟨by kernel_rfl, ?_⟩) hHeld ?_
      rotate_left
      · intro X hX
        first | (go_simp; done) | (go_simp; with_reducible rfl)
      try simp only [Act.put, List.getElem_toArray, List.getElem_cons_succ, List.getElem_cons_zero, List.setIfInBounds_toArray, List.set_cons_zero, List.set_cons_succ]
      refine wpAnyH_take (i := 24) (v := ?_) rfl (by kernel_rfl) (by kernel_rfl) (by kernel_rfl) (fun _ _ _ h => h) (Or.inl ⟨by kernel_rfl, ?_⟩) hHeld ?_
      rotate_left
      · intro X hX
        first | (go_simp; done) | (go_simp; with_reducible rfl)
      try simp only [Act.put, List.getElem_toArray, List.getElem_cons_succ, List.getElem_cons_zero, List.setIfInBounds_toArray, List.set_cons_zero, List.set_cons_succ]
      refine wpAnyH_take (i := 25) (v := ?_) rfl (by kernel_rfl) (by kernel_rfl) (by kernel_rfl) (fun _ _ _ h => h) (Or.inl ⟨by kernel_rfl, ?_⟩) hHeld ?_
      rotate_left
      · intro X hX
        first | (go_simp; done) | (go_simp; with_reducible rfl)
      try simp only [Act.put, List.getElem_toArray, List.getElem_cons_succ, List.getElem_cons_zero, List.setIfInBounds_toArray, List.set_cons_zero, List.set_cons_succ]
      refine wpAnyH_take (i := 26) (v := ?_) rfl (by kernel_rfl) (by kernel_rfl) (by kernel_rfl) (fun _ _ _ h => h) (Or.inl ⟨by kernel_rfl, ?_⟩) hHeld ?_
      rotate_left
      · intro X hX
        first | (go_simp; done) | (go_simp; with_reducible rfl)
      try simp only [Act.put, List.getElem_toArray, List.getElem_cons_succ, List.getElem_cons_zero, List.setIfInBounds_toArray, List.set_cons_zero, List.set_cons_succ]
      refine wpAnyH_take (i := 27) (v := ?_) rfl (by kernel_rfl) (by kernel_rfl) (by kernel_rfl) (fun _ _ _ h => h) (Or.inl ⟨by kernel_rfl, ?_⟩) hHeld ?_
      rotate_left
      · intro X hX
        first | (go_simp; done) | (go_simp; with_reducible rfl)
      try simp only [Act.put, List.getElem_toArray, List.getElem_cons_succ, List.getElem_cons_zero, List.setIfInBounds_toArray, List.set_cons_zero, List.set_cons_succ]
      refine wpAnyH_take (i := 28) (v := ?_) rfl (by kernel_rfl) (by kernel_rfl) (by kernel_rfl) (fun _ _ _ h => h) (Or.inl ⟨by kernel_rfl, ?_⟩) hHeld ?_
      rotate_left
      · intro X hX
        first | (go_simp; done) | (go_simp; with_reducible rfl)
      try simp only [Act.put, List.getElem_toArray, List.getElem_cons_succ, List.getElem_cons_zero, List.setIfInBounds_toArray, List.set_cons_zero, List.set_cons_succ]
      refine wpAnyH_take (i := 29) (v := ?_) rfl (by kernel_rfl) (by kernel_rfl) (by kernel_rfl) (fun _ _ _ h => h) (Or.inl ⟨by kernel_rfl, ?_⟩) hHeld ?_
      rotate_left
      · intro X hX
        first | (go_simp; done) | (go_simp; with_reducible rfl)
      try simp only [Act.put, List.getElem_toArray, List.getElem_cons_succ, List.getElem_cons_zero, List.setIfInBounds_toArray, List.set_cons_zero, List.set_cons_succ]
      refine wpAnyH_take (i := 30) (v := ?_) rfl (by kernel_rfl) (by kernel_rfl) (by kernel_rfl) (fun _ _ _ h => h) (Or.inl ⟨by kernel_rfl, ?_⟩) hHeld ?_
      rotate_left
      · intro X hX
        first | (go_simp; done) | (go_simp; with_reducible rfl)
      try simp only [Act.put, List.getElem_toArray, List.getElem_cons_succ, List.getElem_cons_zero, List.setIfInBounds_toArray, List.set_cons_zero, List.set_cons_succ]
      refine wpAnyH_take (i := 31) (v := ?_) rfl (by kernel_rfl) (by kernel_rfl) (by kernel_rfl) (fun _ _ _ h => h) (Or.inl ⟨by kernel_rfl, ?_⟩) hHeld ?_
      rotate_left
      · intro X hX
        first | (go_simp; done) | (go_simp; with_reducible rfl)
      try simp only [Act.put, List.getElem_toArray, List.getElem_cons_succ, List.getElem_cons_zero, List.setIfInBounds_toArray, List.set_cons_zero, List.set_cons_succ]
      refine wpAnyH_take (i := 32) (v := ?_) rfl (by kernel_rfl) (by kernel_rfl) (by kernel_rfl) (fun _ _ _ h => h) (Or.inl ⟨by kernel_rfl, ?_⟩) hHeld ?_
      rotate_left
      · intro X hX
        first | (go_simp; done) | (go_simp; with_reducible rfl)
      try simp only [Act.put, List.getElem_toArray, List.getElem_cons_succ, List.getElem_cons_zero, List.setIfInBounds_toArray, List.set_cons_zero, List.set_cons_succ]
      refine wpAnyH_take (i := 33) (v := ?_) rfl (by kernel_rfl) (by kernel_rfl) (by kernel_rfl) (fun _ _ _ h => h) (Or.inl ⟨by kernel_rfl, ?_⟩) hHeld ?_
      rotate_left
      · intro X hX
        have y : X.cell? ⟨gd, 4, none⟩ = some (.int .i64 4) := hX.out.2.2.1.cell 4
        first | (go_simp; done) | (go_simp; with_reducible rfl)
      try simp only [Act.put, List.getElem_toArray, List.getElem_cons_succ, List.getElem_cons_zero, List.setIfInBounds_toArray, List.set_cons_zero, List.set_cons_succ]
      refine wpAnyH_take (i := 34) (v := ?_) rfl (by kernel_rfl) (by kernel_rfl) (by kernel_rfl) (fun _ _ _ h => h) (Or.inl ⟨by kernel_rfl, ?_⟩) hHeld ?_
      rotate_left
      · intro X hX
        first | (go_simp; done) | (go_simp; with_reducible rfl)
      try simp only [Act.put, List.getElem_toArray, List.getElem_cons_succ, List.getElem_cons_zero, List.setIfInBounds_toArray, List.set_cons_zero, List.set_cons_succ]
      refine wpAnyH_take (i := 35) (v := ?_) rfl (by kernel_rfl) (by kernel_rfl) (by kernel_rfl) (fun _ _ _ h => h) (Or.inl ⟨by kernel_rfl, ?_⟩) hHeld ?_
      rotate_left
      · intro X hX
        first | (go_simp; done) | (go_simp; with_reducible rfl)
      try simp only [Act.put, List.getElem_toArray, List.getElem_cons_succ, List.getElem_cons_zero, List.setIfInBounds_toArray, List.set_cons_zero, List.set_cons_succ]
      refine wpAnyH_take (i := 36) (v := ?_) rfl (by kernel_rfl) (by kernel_rfl) (by kernel_rfl) (fun _ _ _ h => h) (Or.inl ⟨by kernel_rfl, ?_⟩) hHeld ?_
      rotate_left
      · intro X hX
        first | (go_simp; done) | (go_simp; with_reducible rfl)
      try simp only [Act.put, List.getElem_toArray, List.getElem_cons_succ, List.getElem_cons_zero, List.setIfInBounds_toArray, List.set_cons_zero, List.set_cons_succ]
      refine wpAnyH_take (i := 37) (v := ?_) rfl (by kernel_rfl) (by kernel_rfl) (by kernel_rfl) (fun _ _ _ h => h) (Or.inl ⟨by kernel_rfl, ?_⟩) hHeld ?_
      rotate_left
      · intro X hX
        first | (go_simp; done) | (go_simp; with_reducible rfl)
      try simp only [Act.put, List.getElem_toArray, List.getElem_cons_succ, List.getElem_cons_zero, List.setIfInBounds_toArray, List.set_cons_zero, List.set_cons_succ]
      refine wpAnyH_take (i := 38) (v := ?_) rfl (by kernel_rfl) (by kernel_rfl) (by kernel_rfl) (fun _ _ _ h => h) (Or.inl ⟨by kernel_rfl, ?_⟩) hHeld ?_
      rotate_left
      · intro X hX
        first | (go_simp; done) | (go_simp; with_reducible rfl)
      try simp only [Act.put, List.getElem_toArray, List.getElem_cons_succ, List.getElem_cons_zero, List.setIfInBounds_toArray, List.set_cons_zero, List.set_cons_succ]
      refine wpAnyH_take (i := 39) (v := ?_) rfl (by kernel_rfl) (by kernel_rfl) (by kernel_rfl) (fun _ _ _ h => h) (Or.inl ⟨by kernel_rfl, ?_⟩) hHeld ?_
      rotate_left
      · intro X hX
        first | (go_simp; done) | (go_simp; with_reducible rfl)
      try simp only [Act.put, List.getElem_toArray, List.getElem_cons_succ, List.getElem_cons_zero, List.setIfInBounds_toArray, List.set_cons_zero, List.set_cons_succ]
      refine wpAnyH_take (i := 40) (v := ?_) rfl (by kernel_rfl) (by kernel_rfl) (by kernel_rfl) (fun _ _ _ h => h) (Or.inl ⟨by kernel_rfl, ?_⟩) hHeld ?_
      rotate_left
      · intro X hX
        first | (go_simp; done) | (go_simp; with_reducible rfl)
      try simp only [Act.put, List.getElem_toArray, List.getElem_cons_succ, List.getElem_cons_zero, List.setIfInBounds_toArray, List.set_cons_zero, List.set_cons_succ]
      refine wpAnyH_take (i := 41) (v := ?_) rfl (by kernel_rfl) (by kernel_rfl) (by kernel_rfl) (fun _ _ _ h => h) (Or.inl ⟨by kernel_rfl, ?_⟩) hHeld ?_
      rotate_left
      · intro X hX
        first | (go_simp; done) | (go_simp; with_reducible rfl)
      try simp only [Act.put, List.getElem_toArray, List.getElem_cons_succ, List.getElem_cons_zero, List.setIfInBounds_toArray, List.set_cons_zero, List.set_cons_succ]
      refine wpAnyH_take (i := 42) (v := ?_) rfl (by kernel_rfl) (by kernel_rfl) (by kernel_rfl) (fun _ _ _ h => h) (Or.inl ⟨by kernel_rfl, ?_⟩) hHeld ?_
      rotate_left
      · intro X hX
        first | (go_simp; done) | (go_simp; with_reducible rfl)
      try simp only [Act.put, List.getElem_toArray, List.getElem_cons_succ, List.getElem_cons_zero, List.setIfInBounds_toArray, List.set_cons_zero, List.set_cons_succ]
      refine wpAnyH_take (i := 43) (v := ?_) rfl (by kernel_rfl) (by kernel_rfl) (by kernel_rfl) (fun _ _ _ h => h) (Or.inl ⟨by kernel_rfl, ?_⟩) hHeld ?_
      rotate_left
      · intro X hX
        have y0 : X.cell? ⟨gl, ol, none⟩ = some (.int .i64 1) := hX.out.1.a0
        have y1 : X.cell? ⟨gl, ol + 1, none⟩ = some (.int .i64 (k0 : Nat)) := hX.out.1.a1
        have y2 : X.cell? ⟨gl, ol + 2, none⟩ = some (.int .i64 (p1 : Nat)) := hX.out.1.a2
        have y3 : X.cell? ⟨gl, ol + 3, none⟩ = some (.int .i64 (k2 : Nat)) := hX.out.1.a3
        have y4 : X.cell? ⟨gl, ol + 4, none⟩ = some (.int .i64 3) := hX.out.1.a4
        have y5 : X.cell? ⟨gl, ol + 5, none⟩ = some (.string m1) := hX.out.1.a5
        have y6 : X.cell? ⟨gl, ol + 6, none⟩ = some (.string m2) := hX.out.1.a6
        first | (go_simp; done) | (go_simp; with_reducible rfl)
      try simp only [Act.put, List.getElem_toArray, List.getElem_cons_succ, List.getElem_cons_zero, List.setIfInBounds_toArray, List.set_cons_zero, List.set_cons_succ]
      refine wpAnyH_take (i := 45) (v := ?_) rfl (by kernel_rfl) (by kernel_rfl) (by kernel_rfl) (fun _ _ _ h => h) (Or.inl ⟨by kernel_rfl, ?_⟩) hHeld ?_
      rotate_left
      · intro X hX
        first | (go_simp; done) | (go_simp; with_reducible rfl)
      try simp only [Act.put, List.getElem_toArray, List.getElem_cons_succ, List.getElem_cons_zero, List.setIfInBounds_toArray, List.set_cons_zero, List.set_cons_succ]
      refine wpAnyH_take (i := 46) (v := ?_) rfl (by kernel_rfl) (by kernel_rfl) (by kernel_rfl) (fun _ _ _ h => h) (Or.inl ⟨by kernel_rfl, ?_⟩) hHeld ?_
      rotate_left
      · intro X hX
        first | (go_simp; done) | (go_simp; with_reducible rfl)
      try simp only [Act.put, List.getElem_toArray, List.getElem_cons_succ, List.getElem_cons_zero, List.setIfInBounds_toArray, List.set_cons_zero, List.set_cons_succ]
      refine wpAnyH_take (i := 47) (v := ?_) rfl (by kernel_rfl) (by kernel_rfl) (by kernel_rfl) (fun _ _ _ h => h) (Or.inl ⟨by kernel_rfl, ?_⟩) hHeld ?_
      rotate_left
      · intro X hX
        have y0 : X.cell? ⟨gl, ol, none⟩ = some (.int .i64 1) := hX.out.1.a0
        have y1 : X.cell? ⟨gl, ol + 1, none⟩ = some (.int .i64 (k0 : Nat)) := hX.out.1.a1
        have y2 : X.cell? ⟨gl, ol + 2, none⟩ = some (.int .i64 (p1 : Nat)) := hX.out.1.a2
        have y3 : X.cell? ⟨gl, ol + 3, none⟩ = some (.int .i64 (k2 : Nat)) := hX.out.1.a3
        have y4 : X.cell? ⟨gl, ol + 4, none⟩ = some (.int .i64 3) := hX.out.1.a4
        have y5 : X.cell? ⟨gl, ol + 5, none⟩ = some (.string m1) := hX.out.1.a5
        have y6 : X.cell? ⟨gl, ol + 6, none⟩ = some (.string m2) := hX.out.1.a6
        first | (go_simp; done) | (go_simp; with_reducible rfl)
      try simp only [Act.put, List.getElem_toArray, List.getElem_cons_succ, List.getElem_cons_zero, List.setIfInBounds_toArray, List.set_cons_zero, List.set_cons_succ]
      refine wpAnyH_ready (rs := [44]) (by kernel_rfl) (by simp) ?_
      refine AllReadyH.cons rfl (fun K hK => ?_) AllReadyH.nil
      go_simp
      go_wp2_with (go_at_call 15; refine (KP1.out _ (LL.out _ hHeld.out.2.2.2)).mono ?_; rintro e X1 ⟨rfl, hb0⟩; have hS := qv _ _ hHeld hb0; have hb := Lib.hid hb0; clear hb0)
      refine hK.out _ _ hS (fun hHeld => ?_)
      clear hK K hS
      clear hb
      try simp only [Act.put, List.getElem_toArray, List.getElem_cons_succ, List.getElem_cons_zero, List.setIfInBounds_toArray, List.set_cons_zero, List.set_cons_succ]
      refine wpAnyH_ready (rs := [48]) (by kernel_rfl) (by simp) ?_
      refine AllReadyH.cons rfl (fun K hK => ?_) AllReadyH.nil
      go_simp
      go_wp2_with (go_at_call 16; refine (KP2.out _).mono ?_; rintro e X2 ⟨rfl, hb0⟩; have hS := qv _ _ hHeld hb0; have hb := Lib.hid hb0; clear hb0)
      refine hK.out _ _ hS (fun hHeld => ?_)
      clear hK K hS
      clear hb
      try simp only [Act.put, List.getElem_toArray, List.getElem_cons_succ, List.getElem_cons_zero, List.setIfInBounds_toArray, List.set_cons_zero, List.set_cons_succ]
      refine wpAnyH_take (i := 49) (v := ?_) rfl (by kernel_rfl) (by kernel_rfl) (by kernel_rfl) (fun _ _ _ h => h) (Or.inl ⟨by kernel_rfl, ?_⟩) hHeld ?_
      rotate_left
      · intro X hX
        first | (go_simp; done) | (go_simp; with_reducible rfl)
      try simp only [Act.put, List.getElem_toArray, List.getElem_cons_succ, List.getElem_cons_zero, List.setIfInBounds_toArray, List.set_cons_zero, List.set_cons_succ]
      refine wpAnyH_take (i := 50) (v := ?_) rfl (by kernel_rfl) (by kernel_rfl) (by kernel_rfl) (fun _ _ _ h => h) (Or.inl ⟨by kernel_rfl, ?_⟩) hHeld ?_
      rotate_left
      · intro X hX
        first | (go_simp; done) | (go_simp; with_reducible rfl)
      try simp only [Act.put, List.getElem_toArray, List.getElem_cons_succ, List.getElem_cons_zero, List.setIfInBounds_toArray, List.set_cons_zero, List.set_cons_succ]
      refine wpAnyH_take (i := 51) (v := ?_) rfl (by kernel_rfl) (by kernel_rfl) (by kernel_rfl) (fun _ _ _ h => h) (Or.inl ⟨by kernel_rfl, ?_⟩) hHeld ?_
      rotate_left
      · intro X hX
        first | (go_simp; done) | (go_simp; with_reducible rfl)
      try simp only [Act.put, List.getElem_toArray, List.getElem_cons_succ, List.getElem_cons_zero, List.setIfInBounds_toArray, List.set_cons_zero, List.set_cons_succ]
      refine wpAnyH_take (i := 52) (v := ?_) rfl (by kernel_rfl) (by kernel_rfl) (by kernel_rfl) (fun _ _ _ h => h) (Or.inl ⟨by kernel_rfl, ?_⟩) hHeld ?_
      rotate_left
      · intro X hX
        have y0 : X.cell? ⟨gh, 0, none⟩ = some (.int .i64 1) := hX.out.2.1.cell 0
        have y1 : X.cell? ⟨gh, 1, none⟩ = some (.int .i64 (k0 : Nat)) := hX.out.2.1.cell 1
        have y2 : X.cell? ⟨gh, 2, none⟩ = some (.int .i64 (q5 : Nat)) := hX.out.2.1.cell 2
        have y3 : X.cell? ⟨gh, 3, none⟩ = some (.int .i64 (k1 : Nat)) := hX.out.2.1.cell 3
        have y4 : X.cell? ⟨gh, 4, none⟩ = some (.int .i64 1) := hX.out.2.1.cell 4
        have y5 : X.cell? ⟨gh, 5, none⟩ = some (.string mh) := hX.out.2.1.cell 5
        have y6 : X.cell? ⟨gh, 6, none⟩ = some (.string ⟨#[]⟩) := hX.out.2.1.cell 6
        first | (go_simp; done) | (go_simp; with_reducible rfl)
      try simp only [Act.put, List.getElem_toArray, List.getElem_cons_succ, List.getElem_cons_zero, List.setIfInBounds_toArray, List.set_cons_zero, List.set_cons_succ]
      refine wpAnyH_ready (rs := [53]) (by kernel_rfl) (by simp) ?_
      refine AllReadyH.cons rfl (fun K hK => ?_) AllReadyH.nil
      go_simp
      go_wp2_with (go_at_call 15; refine (KP3.out _ (LL.out _ hHeld.out.2.2.2)).mono ?_; rintro e X3 ⟨rfl, hb0⟩; have hS := qv _ _ hHeld hb0; have hb := Lib.hid hb0; clear hb0)
      refine hK.out _ _ hS (fun hHeld => ?_)
      clear hK K hS
      clear hb
      try simp only [Act.put, List.getElem_toArray, List.getElem_cons_succ, List.getElem_cons_zero, List.setIfInBounds_toArray, List.set_cons_zero, List.set_cons_succ]
      refine wpAnyH_take (i := 54) (v := ?_) rfl (by kernel_rfl) (by kernel_rfl) (by kernel_rfl) (fun _ _ _ h => h) (Or.inl ⟨by kernel_rfl, ?_⟩) hHeld ?_
      rotate_left
      · intro X hX
        first | (go_simp; done) | (go_simp; with_reducible rfl)
      try simp only [Act.put, List.getElem_toArray, List.getElem_cons_succ, List.getElem_cons_zero, List.setIfInBounds_toArray, List.set_cons_zero, List.set_cons_succ]
      refine wpAnyH_take (i := 55) (v := ?_) rfl (by kernel_rfl) (by kernel_rfl) (by kernel_rfl) (fun _ _ _ h => h) (Or.inl ⟨by kernel_rfl, ?_⟩) hHeld ?_
      rotate_left
      · intro X hX
        first | (go_simp; done) | (go_simp; with_reducible rfl)
      try simp only [Act.put, List.getElem_toArray, List.getElem_cons_succ, List.getElem_cons_zero, List.setIfInBounds_toArray, List.set_cons_zero, List.set_cons_succ]
      refine wpAnyH_take (i := 56) (v := ?_) rfl (by kernel_rfl) (by kernel_rfl) (by kernel_rfl) (fun _ _ _ h => h) (Or.inl ⟨by kernel_rfl, ?_⟩) hHeld ?_
      rotate_left
      · intro X hX
        first | (go_simp; done) | (go_simp; with_reducible rfl)
      try simp only [Act.put, List.getElem_toArray, List.getElem_cons_succ, List.getElem_cons_zero, List.setIfInBounds_toArray, List.set_cons_zero, List.set_cons_succ]
      refine wpAnyH_done (by kernel_rfl) ?_ _
      have hz := hHeld.out.2.2.2
      clear hHeld
      go_wp2_with fail
      go_ret
      exact ⟨rfl, hz⟩

end Go.Proofs.YtkjjdoadjhjmbaeGreatDoor

/-
  The given Greeting of right seeds and events.
-/
import Derived.Test.YtkjjdoadjhjmbauGreatDoorJ40
namespace Go.Proofs.YtkjjdoadjhjmbauGreatDoor
open Go.RowKit

set_option maxRecDepth 100000 in
set_option maxHeartbeats 6400000 in
theorem specGreeting_yes (s0 s1 s2 s3 : ByteArray) (events : List Int) (v u : Value) (hl : events.length ≤ 60) (hev : ∀ e ∈ events, 0 ≤ e) (z0 : s0.size ≤ 400000000) (z1 : s1.size ≤ 400000000) (z2 : s2.size ≤ 400000000) (z3 : s3.size ≤ 400000000) (y : GT) (hy : RunIs events (firstG s0 s1 s2 s3) y) (w : World) (hv : layStringS.rd w [v] [s0, s1, s2, s3]) (hu : layIntS.rd w [u] events) :
    Calls Tryz.prog 11 #[v, u] w fun e w' => GreetRet [y.a, y.b] true w e w' := by
  obtain ⟨ao, cp, rfl⟩ := rows_form hv
  obtain ⟨bo, dp, rfl⟩ := rows_form hu
  obtain ⟨sg, so, cs, rfl, hsw, hr, hc⟩ := rows_elem hv 0 s0 rfl
  rw [layString_rd] at hr
  subst hr
  have c0 : w.cell? ⟨sg, so, none⟩ = some (.string s0) := (by have h9 := hc 0 _ rfl; rw [str_k] at h9; exact h9)
  clear hc
  obtain ⟨g', o', cs, he, -, hr, hc⟩ := rows_elem hv 1 s1 rfl
  simp only [Option.some.injEq, Addr.mk.injEq] at he
  obtain ⟨rfl, rfl, -⟩ := he
  rw [layString_rd] at hr
  subst hr
  have c1 : w.cell? ⟨sg, so + 1, none⟩ = some (.string s1) := (by have h9 := hc 0 _ rfl; rw [str_k] at h9; exact h9)
  clear hc
  obtain ⟨g', o', cs, he, -, hr, hc⟩ := rows_elem hv 2 s2 rfl
  simp only [Option.some.injEq, Addr.mk.injEq] at he
  obtain ⟨rfl, rfl, -⟩ := he
  rw [layString_rd] at hr
  subst hr
  have c2 : w.cell? ⟨sg, so + 2, none⟩ = some (.string s2) := (by have h9 := hc 0 _ rfl; rw [str_k] at h9; exact h9)
  clear hc
  obtain ⟨g', o', cs, he, -, hr, hc⟩ := rows_elem hv 3 s3 rfl
  simp only [Option.some.injEq, Addr.mk.injEq] at he
  obtain ⟨rfl, rfl, -⟩ := he
  rw [layString_rd] at hr
  subst hr
  have c3 : w.cell? ⟨sg, so + 3, none⟩ = some (.string s3) := (by have h9 := hc 0 _ rfl; rw [str_k] at h9; exact h9)
  clear hc
  have HU := Lib.hid hu
  have HEV := Lib.hid hev
  have HY := Lib.hid hy
  have hl4 : ([s0, s1, s2, s3] : List ByteArray).length = 4 := rfl
  simp only [hl4]
  have KSEC0 := Lib.hid (specSecretOf_any s0 z0)
  have KSEC1 := Lib.hid (specSecretOf_any s1 z1)
  have i0 := secretP_in s0
  have i1 := secretP_in s1
  have i2 := secretP_in s2
  have i3 := secretP_in s3
  have KPUB0 := Lib.hid (specPublicOf_yes (secretP s0) (by omega) (by omega))
  have KPUB1 := Lib.hid (specPublicOf_yes (secretP s1) (by omega) (by omega))
  have KNEW1 := Lib.hid (specGreeterNew_yes 1 (publicP (secretP s1) : Nat) s0 s2 ⟨by omega, pub_secret s1⟩ z0 z2)
  have KNEW2 := Lib.hid (specGreeterNew_yes 2 (publicP (secretP s0) : Nat) s1 s3 ⟨by omega, pub_secret s0⟩ z1 z3)
  have KHEL1 := Lib.hid (specHello_any 1 (secretP s0 : Nat) (publicP (secretP s1) : Nat) (secretP s2 : Nat) 0 ⟨#[]⟩ ⟨#[]⟩ (by omega) 1 (helloB 1 (publicP (secretP s2))) (helloB 1 (publicP (secretP s2))) (.inl ⟨rfl, rfl, _, .inl ⟨secret_in s2, rfl⟩, rfl, rfl⟩))
  have KHEL2 := Lib.hid (specHello_any 2 (secretP s1 : Nat) (publicP (secretP s0) : Nat) (secretP s3 : Nat) 0 ⟨#[]⟩ ⟨#[]⟩ (by omega) 1 (helloB 2 (publicP (secretP s3))) (helloB 2 (publicP (secretP s3))) (.inl ⟨rfl, rfl, _, .inl ⟨secret_in s3, rfl⟩, rfl, rfl⟩))
  have HP0 := Lib.hid (GP.first s0 s1 s2 s3)
  have HZ0 := Lib.hid (GZ.first s0 s1 s2 s3)
  have HF0 : Hid (firstG s0 s1 s2 s3 = firstG s0 s1 s2 s3) := Lib.hid rfl
  conv at HF0 => arg 1; rhs; unfold firstG
  clear hv hu hev hy hl4 i0 i1 i2 i3 z0 z1 z2 z3
  obtain ⟨z0, HZE⟩ : ∃ z, Hid (firstG s0 s1 s2 s3 = z) := ⟨_, Lib.hid rfl⟩
  rw [HZE.out] at HP0 HZ0 HY
  have HQ0 : Hid (z0 = ⟨(1, (secretP s0 : Nat), (publicP (secretP s1) : Nat), (secretP s2 : Nat), 1, helloB 1 (publicP (secretP s2)), ⟨#[]⟩), (2, (secretP s1 : Nat), (publicP (secretP s0) : Nat), (secretP s3 : Nat), 1, helloB 2 (publicP (secretP s3)), ⟨#[]⟩), [helloB 1 (publicP (secretP s2))], [helloB 2 (publicP (secretP s3))], 0, 0⟩) := Lib.hid (by rw [← HZE.out]; rfl)
  clear HF0 HZE
  generalize helloB 1 (publicP (secretP s2)) = m1 at *
  generalize helloB 2 (publicP (secretP s3)) = m2 at *
  generalize hp1 : publicP (secretP s1) = p1 at *
  generalize hp0 : publicP (secretP s0) = p0 at *
  clear hp1 hp0
  generalize secretP s0 = k0 at *
  generalize secretP s1 = k1 at *
  generalize secretP s2 = k2 at *
  generalize secretP s3 = k3 at *
  have HSEQ : Hid (∀ X, Below w.heap.size w X → X.cell? ⟨sg, so, none⟩ = some (.string s0) ∧ X.cell? ⟨sg, so + 1, none⟩ = some (.string s1) ∧ X.cell? ⟨sg, so + 2, none⟩ = some (.string s2) ∧ X.cell? ⟨sg, so + 3, none⟩ = some (.string s3) ∧ Below X.heap.size X X) := Lib.hid (fun X hb => ⟨by rw [hb.cell (p := ⟨sg, so, none⟩) hsw]; exact c0, by rw [hb.cell (p := ⟨sg, so + 1, none⟩) hsw]; exact c1, by rw [hb.cell (p := ⟨sg, so + 2, none⟩) hsw]; exact c2, by rw [hb.cell (p := ⟨sg, so + 3, none⟩) hsw]; exact c3, Below.refl _ _⟩)
  have q4 : ((4 : Int) == 4) = true := rfl
  have q60 : (events.length : Int) ≤ 60 := by omega
  go_enter Tryz.func11, Tryz.ntmps11
  go_wp2_with fail
  go_loop [6, 7] (fun z c => ∃ j : Nat, j ≤ events.length ∧ c = .int .i64 j ∧ z = .bool true) (fun _ c => events.length - (intOf c).toNat)
  case atStart => exact ⟨0, Nat.zero_le _, rfl, rfl⟩
  case round =>
    obtain ⟨j, hj, rfl, rfl⟩ := hrel
    by_cases hlt : j < events.length
    · have hlt' : (j : Int) < (events.length : Int) := by omega
      have hx := List.getElem?_eq_getElem hlt
      have h0 : 0 ≤ events[j] := HEV.out _ (List.getElem_mem hlt)
      obtain ⟨g, off, cs, rfl, hg, hr, hc⟩ := rows_elem HU.out j _ hx
      generalize events[j] = x at hr h0
      have hr' : cs = [.int .i64 x] := hr
      subst hr'
      have d0 : w.cell? ⟨g, off + j, none⟩ = some (.int .i64 x) := (by have h9 := hc 0 _ rfl; rw [show j * Lay.int.k = j from Nat.mul_one j] at h9; exact h9)
      clear hc hx
      go_wp2_with fail
      go_round
      case rel => exact ⟨j + 1, by omega, by go_num, rfl⟩
      case measure => simp [intOf]; omega
    · have hlt' : ¬ ((j : Int) < (events.length : Int)) := by omega
      clear hlt
      go_upto_region 8 with fail
      have F0 : Hid (w.cell? ⟨sg, so, none⟩ = some (.string s0) ∧ w.cell? ⟨sg, so + 1, none⟩ = some (.string s1) ∧ w.cell? ⟨sg, so + 2, none⟩ = some (.string s2) ∧ w.cell? ⟨sg, so + 3, none⟩ = some (.string s3) ∧ Below w.heap.size w w) := Lib.hid (HSEQ.out w (Below.refl _ _))
      have E0 := Lib.hid (seeds_drew F0.out)
      have hsg : sg < w.heap.size := cell_size (p := ⟨sg, so, none⟩) F0.out.1
      have KS : Hid (∀ X, (X.cell? ⟨sg, so, none⟩ = some (.string s0) ∧ X.cell? ⟨sg, so + 1, none⟩ = some (.string s1) ∧ X.cell? ⟨sg, so + 2, none⟩ = some (.string s2) ∧ X.cell? ⟨sg, so + 3, none⟩ = some (.string s3) ∧ Below w.heap.size w X) → Calls Tryz.prog 33 #[.string s1] X fun e Y => e = .returned (.int .i64 (k1 : Nat)) ∧ (Y.cell? ⟨sg, so, none⟩ = some (.string s0) ∧ Y.cell? ⟨sg, so + 1, none⟩ = some (.string s1) ∧ Y.cell? ⟨sg, so + 2, none⟩ = some (.string s2) ∧ Y.cell? ⟨sg, so + 3, none⟩ = some (.string s3) ∧ Below w.heap.size w Y) ∧ Below X.heap.size X Y) := Lib.hid (fun X hX => by
        refine (KSEC1.out X).mono ?_
        rintro e Y ⟨rfl, hb⟩
        exact ⟨rfl, seeds_next hX hb, hb⟩)
      have KP : Hid (∀ X, (X.cell? ⟨sg, so, none⟩ = some (.string s0) ∧ X.cell? ⟨sg, so + 1, none⟩ = some (.string s1) ∧ X.cell? ⟨sg, so + 2, none⟩ = some (.string s2) ∧ X.cell? ⟨sg, so + 3, none⟩ = some (.string s3) ∧ Below w.heap.size w X) → Calls Tryz.prog 32 #[.int .i64 (k1 : Nat)] X fun e Y => e = .returned (.int .i64 (p1 : Nat)) ∧ (Y.cell? ⟨sg, so, none⟩ = some (.string s0) ∧ Y.cell? ⟨sg, so + 1, none⟩ = some (.string s1) ∧ Y.cell? ⟨sg, so + 2, none⟩ = some (.string s2) ∧ Y.cell? ⟨sg, so + 3, none⟩ = some (.string s3) ∧ Below w.heap.size w Y) ∧ Below X.heap.size X Y) := Lib.hid (fun X hX => by
        refine (KPUB1.out X).mono ?_
        rintro e Y ⟨rfl, rfl⟩
        exact ⟨rfl, hX, Below.refl _ _⟩)
      have KN : Hid (∀ X, (X.cell? ⟨sg, so, none⟩ = some (.string s0) ∧ X.cell? ⟨sg, so + 1, none⟩ = some (.string s1) ∧ X.cell? ⟨sg, so + 2, none⟩ = some (.string s2) ∧ X.cell? ⟨sg, so + 3, none⟩ = some (.string s3) ∧ Below w.heap.size w X) → Calls Tryz.prog 31 #[.int .i64 1, .string s0, .string s2, .int .i64 (p1 : Nat)] X fun e Y => e = .returned (.tuple #[.agg #[.int .i64 1, .int .i64 (k0 : Nat), .int .i64 (p1 : Nat), .int .i64 (k2 : Nat), .int .i64 0, .string ⟨#[]⟩, .string ⟨#[]⟩], .bool true]) ∧ (Y.cell? ⟨sg, so, none⟩ = some (.string s0) ∧ Y.cell? ⟨sg, so + 1, none⟩ = some (.string s1) ∧ Y.cell? ⟨sg, so + 2, none⟩ = some (.string s2) ∧ Y.cell? ⟨sg, so + 3, none⟩ = some (.string s3) ∧ Below w.heap.size w Y) ∧ Below X.heap.size X Y) := Lib.hid (fun X hX => by
        refine (KNEW1.out X).mono ?_
        rintro e Y ⟨rfl, hb⟩
        exact ⟨rfl, seeds_next hX hb, hb⟩)
      have qv : ∀ X Y, (Hid (X.cell? ⟨sg, so, none⟩ = some (.string s0) ∧ X.cell? ⟨sg, so + 1, none⟩ = some (.string s1) ∧ X.cell? ⟨sg, so + 2, none⟩ = some (.string s2) ∧ X.cell? ⟨sg, so + 3, none⟩ = some (.string s3) ∧ Below w.heap.size w X)) → Below X.heap.size X Y → (Hid (Y.cell? ⟨sg, so, none⟩ = some (.string s0) ∧ Y.cell? ⟨sg, so + 1, none⟩ = some (.string s1) ∧ Y.cell? ⟨sg, so + 2, none⟩ = some (.string s2) ∧ Y.cell? ⟨sg, so + 3, none⟩ = some (.string s3) ∧ Below w.heap.size w Y)) := fun X Y h hb => Lib.hid (seeds_next h.out hb)
      have SN : ∀ (X : World) (G : Nat) (u0 u1 u2 u3 u4 u5 u6 : Value), w.heap.size ≤ G → (Hid (X.cell? ⟨sg, so, none⟩ = some (.string s0) ∧ X.cell? ⟨sg, so + 1, none⟩ = some (.string s1) ∧ X.cell? ⟨sg, so + 2, none⟩ = some (.string s2) ∧ X.cell? ⟨sg, so + 3, none⟩ = some (.string s3) ∧ Below w.heap.size w X)) → (Hid ((((((((X.setCell ⟨G, 0, none⟩ u0).setCell ⟨G, 1, none⟩ u1).setCell ⟨G, 2, none⟩ u2).setCell ⟨G, 3, none⟩ u3).setCell ⟨G, 4, none⟩ u4).setCell ⟨G, 5, none⟩ u5).setCell ⟨G, 6, none⟩ u6).cell? ⟨sg, so, none⟩ = some (.string s0) ∧ (((((((X.setCell ⟨G, 0, none⟩ u0).setCell ⟨G, 1, none⟩ u1).setCell ⟨G, 2, none⟩ u2).setCell ⟨G, 3, none⟩ u3).setCell ⟨G, 4, none⟩ u4).setCell ⟨G, 5, none⟩ u5).setCell ⟨G, 6, none⟩ u6).cell? ⟨sg, so + 1, none⟩ = some (.string s1) ∧ (((((((X.setCell ⟨G, 0, none⟩ u0).setCell ⟨G, 1, none⟩ u1).setCell ⟨G, 2, none⟩ u2).setCell ⟨G, 3, none⟩ u3).setCell ⟨G, 4, none⟩ u4).setCell ⟨G, 5, none⟩ u5).setCell ⟨G, 6, none⟩ u6).cell? ⟨sg, so + 2, none⟩ = some (.string s2) ∧ (((((((X.setCell ⟨G, 0, none⟩ u0).setCell ⟨G, 1, none⟩ u1).setCell ⟨G, 2, none⟩ u2).setCell ⟨G, 3, none⟩ u3).setCell ⟨G, 4, none⟩ u4).setCell ⟨G, 5, none⟩ u5).setCell ⟨G, 6, none⟩ u6).cell? ⟨sg, so + 3, none⟩ = some (.string s3) ∧ Below w.heap.size w (((((((X.setCell ⟨G, 0, none⟩ u0).setCell ⟨G, 1, none⟩ u1).setCell ⟨G, 2, none⟩ u2).setCell ⟨G, 3, none⟩ u3).setCell ⟨G, 4, none⟩ u4).setCell ⟨G, 5, none⟩ u5).setCell ⟨G, 6, none⟩ u6))) := fun X G u0 u1 u2 u3 u4 u5 u6 hG h => Lib.hid (seeds_put7 h.out hG hsg u0 u1 u2 u3 u4 u5 u6)
      go_cut [8] (fun z wx => ∃ gu, z = .pointer (some ⟨gu, 0, none⟩) ∧ VarA gu GreeterT #[.int .i64 1, .int .i64 (k0 : Nat), .int .i64 (p1 : Nat), .int .i64 (k2 : Nat), .int .i64 0, .string ⟨#[]⟩, .string ⟨#[]⟩] wx ∧ Below w.heap.size w wx)
      case first =>
        refine wp_region_held_drew (S := fun X => Hid (X.cell? ⟨sg, so, none⟩ = some (.string s0) ∧ X.cell? ⟨sg, so + 1, none⟩ = some (.string s1) ∧ X.cell? ⟨sg, so + 2, none⟩ = some (.string s2) ∧ X.cell? ⟨sg, so + 3, none⟩ = some (.string s3) ∧ Below w.heap.size w X)) (by kernel_rfl) E0 (fun hHeld => ?_)
        clear E0 F0
        generalize w.drew = X0 at *
        refine wpAnyH_take (i := 0) (v := ?_) rfl (by kernel_rfl) (by kernel_rfl) (by kernel_rfl) (fun _ _ _ h => h) (Or.inl ⟨by kernel_rfl, ?_⟩) hHeld ?_
        rotate_left
        · intro X hX
          first | (go_simp; done) | (go_simp; with_reducible rfl)
        try simp only [Act.put, List.getElem_toArray, List.getElem_cons_zero, List.setIfInBounds_toArray, List.set_cons_zero, List.set_cons_succ]
        refine wpAnyH_take (i := 1) (v := ?_) rfl (by kernel_rfl) (by kernel_rfl) (by kernel_rfl) (fun _ _ _ h => h) (Or.inl ⟨by kernel_rfl, ?_⟩) hHeld ?_
        rotate_left
        · intro X hX
          first | (go_simp; done) | (go_simp; with_reducible rfl)
        try simp only [Act.put, List.getElem_toArray, List.getElem_cons_succ, List.getElem_cons_zero, List.setIfInBounds_toArray, List.set_cons_zero, List.set_cons_succ]
        refine wpAnyH_take (i := 2) (v := ?_) rfl (by kernel_rfl) (by kernel_rfl) (by kernel_rfl) (fun _ _ _ h => h) (Or.inl ⟨by kernel_rfl, ?_⟩) hHeld ?_
        rotate_left
        · intro X hX
          have y : X.cell? ⟨sg, so, none⟩ = some (.string s0) := hX.out.1
          first | (go_simp; done) | (go_simp; with_reducible rfl)
        try simp only [Act.put, List.getElem_toArray, List.getElem_cons_succ, List.getElem_cons_zero, List.setIfInBounds_toArray, List.set_cons_zero, List.set_cons_succ]
        refine wpAnyH_take (i := 3) (v := ?_) rfl (by kernel_rfl) (by kernel_rfl) (by kernel_rfl) (fun _ _ _ h => h) (Or.inl ⟨by kernel_rfl, ?_⟩) hHeld ?_
        rotate_left
        · intro X hX
          first | (go_simp; done) | (go_simp; with_reducible rfl)
        try simp only [Act.put, List.getElem_toArray, List.getElem_cons_succ, List.getElem_cons_zero, List.setIfInBounds_toArray, List.set_cons_zero, List.set_cons_succ]
        refine wpAnyH_take (i := 4) (v := ?_) rfl (by kernel_rfl) (by kernel_rfl) (by kernel_rfl) (fun _ _ _ h => h) (Or.inl ⟨by kernel_rfl, ?_⟩) hHeld ?_
        rotate_left
        · intro X hX
          first | (go_simp; done) | (go_simp; with_reducible rfl)
        try simp only [Act.put, List.getElem_toArray, List.getElem_cons_succ, List.getElem_cons_zero, List.setIfInBounds_toArray, List.set_cons_zero, List.set_cons_succ]
        refine wpAnyH_take (i := 5) (v := ?_) rfl (by kernel_rfl) (by kernel_rfl) (by kernel_rfl) (fun _ _ _ h => h) (Or.inl ⟨by kernel_rfl, ?_⟩) hHeld ?_
        rotate_left
        · intro X hX
          have y : X.cell? ⟨sg, so + 2, none⟩ = some (.string s2) := hX.out.2.2.1
          first | (go_simp; done) | (go_simp; with_reducible rfl)
        try simp only [Act.put, List.getElem_toArray, List.getElem_cons_succ, List.getElem_cons_zero, List.setIfInBounds_toArray, List.set_cons_zero, List.set_cons_succ]
        refine wpAnyH_take (i := 6) (v := ?_) rfl (by kernel_rfl) (by kernel_rfl) (by kernel_rfl) (fun _ _ _ h => h) (Or.inl ⟨by kernel_rfl, ?_⟩) hHeld ?_
        rotate_left
        · intro X hX
          first | (go_simp; done) | (go_simp; with_reducible rfl)
        try simp only [Act.put, List.getElem_toArray, List.getElem_cons_succ, List.getElem_cons_zero, List.setIfInBounds_toArray, List.set_cons_zero, List.set_cons_succ]
        refine wpAnyH_take (i := 7) (v := ?_) rfl (by kernel_rfl) (by kernel_rfl) (by kernel_rfl) (fun _ _ _ h => h) (Or.inl ⟨by kernel_rfl, ?_⟩) hHeld ?_
        rotate_left
        · intro X hX
          first | (go_simp; done) | (go_simp; with_reducible rfl)
        try simp only [Act.put, List.getElem_toArray, List.getElem_cons_succ, List.getElem_cons_zero, List.setIfInBounds_toArray, List.set_cons_zero, List.set_cons_succ]
        refine wpAnyH_take (i := 8) (v := ?_) rfl (by kernel_rfl) (by kernel_rfl) (by kernel_rfl) (fun _ _ _ h => h) (Or.inl ⟨by kernel_rfl, ?_⟩) hHeld ?_
        rotate_left
        · intro X hX
          have y : X.cell? ⟨sg, so + 1, none⟩ = some (.string s1) := hX.out.2.1
          first | (go_simp; done) | (go_simp; with_reducible rfl)
        try simp only [Act.put, List.getElem_toArray, List.getElem_cons_succ, List.getElem_cons_zero, List.setIfInBounds_toArray, List.set_cons_zero, List.set_cons_succ]
        refine wpAnyH_ready (rs := [9, 15]) (by kernel_rfl) (by simp) ?_
        refine AllReadyH.cons rfl (fun K hK => ?_) (AllReadyH.cons rfl (fun K hK => ?_) AllReadyH.nil)
        · go_simp
          go_wp2_with (go_at_call 33; refine (KS.out _ hHeld.out).mono ?_; rintro e X1 ⟨rfl, hS0, hb0⟩; have hS := Lib.hid hS0; have hb := Lib.hid hb0; clear hS0 hb0)
          refine hK.out _ _ hS (fun hHeld => ?_)
          clear hK K hS
          clear hb
          try simp only [Act.put, List.getElem_toArray, List.getElem_cons_succ, List.getElem_cons_zero, List.setIfInBounds_toArray, List.set_cons_zero, List.set_cons_succ]
          refine wpAnyH_ready (rs := [10, 15]) (by kernel_rfl) (by simp) ?_
          refine AllReadyH.cons rfl (fun K hK => ?_) (AllReadyH.cons rfl (fun K hK => ?_) AllReadyH.nil)
          · go_simp
            go_wp2_with (go_at_call 32; refine (KP.out _ hHeld.out).mono ?_; rintro e X2 ⟨rfl, hS0, hb0⟩; have hS := Lib.hid hS0; have hb := Lib.hid hb0; clear hS0 hb0)
            refine hK.out _ _ hS (fun hHeld => ?_)
            clear hK K hS
            clear hb
            try simp only [Act.put, List.getElem_toArray, List.getElem_cons_succ, List.getElem_cons_zero, List.setIfInBounds_toArray, List.set_cons_zero, List.set_cons_succ]
            refine wpAnyH_ready (rs := [11, 15]) (by kernel_rfl) (by simp) ?_
            refine AllReadyH.cons rfl (fun K hK => ?_) (AllReadyH.cons rfl (fun K hK => ?_) AllReadyH.nil)
            · go_simp
              go_wp2_with (go_at_call 31; refine (KN.out _ hHeld.out).mono ?_; rintro e X3 ⟨rfl, hS0, hb0⟩; have hS := Lib.hid hS0; have hb := Lib.hid hb0; clear hS0 hb0)
              refine hK.out _ _ hS (fun hHeld => ?_)
              clear hK K hS
              clear hb
              try simp only [Act.put, List.getElem_toArray, List.getElem_cons_succ, List.getElem_cons_zero, List.setIfInBounds_toArray, List.set_cons_zero, List.set_cons_succ]
              refine wpAnyH_take (i := 12) (v := ?_) rfl (by kernel_rfl) (by kernel_rfl) (by kernel_rfl) (fun _ _ _ h => h) (Or.inl ⟨by kernel_rfl, ?_⟩) hHeld ?_
              rotate_left
              · intro X hX
                first | (go_simp; done) | (go_simp; with_reducible rfl)
              try simp only [Act.put, List.getElem_toArray, List.getElem_cons_succ, List.getElem_cons_zero, List.setIfInBounds_toArray, List.set_cons_zero, List.set_cons_succ]
              refine wpAnyH_take (i := 13) (v := ?_) rfl (by kernel_rfl) (by kernel_rfl) (by kernel_rfl) (fun _ _ _ h => h) (Or.inl ⟨by kernel_rfl, ?_⟩) hHeld ?_
              rotate_left
              · intro X hX
                first | (go_simp; done) | (go_simp; with_reducible rfl)
              try simp only [Act.put, List.getElem_toArray, List.getElem_cons_succ, List.getElem_cons_zero, List.setIfInBounds_toArray, List.set_cons_zero, List.set_cons_succ]
              refine wpAnyH_take (i := 14) (v := ?_) rfl (by kernel_rfl) (by kernel_rfl) (by kernel_rfl) (fun _ _ _ h => h) (Or.inl ⟨by kernel_rfl, ?_⟩) hHeld ?_
              rotate_left
              · intro X hX
                first | (go_simp; done) | (go_simp; with_reducible rfl)
              try simp only [Act.put, List.getElem_toArray, List.getElem_cons_succ, List.getElem_cons_zero, List.setIfInBounds_toArray, List.set_cons_zero, List.set_cons_succ]
              refine wpAnyH_ready (rs := [15]) (by kernel_rfl) (by simp) ?_
              refine AllReadyH.cons rfl (fun K hK => ?_) AllReadyH.nil
              go_simp
              have hal : Below X3.heap.size X3 (X3.alloc (.cells #[.int .i64 0, .int .i64 0, .int .i64 0, .int .i64 0, .int .i64 0, .string ⟨#[]⟩, .string ⟨#[]⟩] GreeterT)) := (Below.refl _ _).alloc (Nat.le_refl _) _
              have hlo : w.heap.size ≤ X3.heap.size := hHeld.out.2.2.2.2.size
              refine hK.out _ _ (qv _ _ hHeld hal) (fun hHeld => ?_)
              clear hK K
              have rr := Lib.hid (VarA.new X3 GreeterT #[.int .i64 0, .int .i64 0, .int .i64 0, .int .i64 0, .int .i64 0, .string ⟨#[]⟩, .string ⟨#[]⟩])
              clear hal
              generalize X3.alloc (.cells #[.int .i64 0, .int .i64 0, .int .i64 0, .int .i64 0, .int .i64 0, .string ⟨#[]⟩, .string ⟨#[]⟩] GreeterT) = X4 at *
              generalize X3.heap.size = G at *
              try simp only [Act.put, List.getElem_toArray, List.getElem_cons_succ, List.getElem_cons_zero, List.setIfInBounds_toArray, List.set_cons_zero, List.set_cons_succ]
              refine wpAnyH_ready (rs := [16]) (by kernel_rfl) (by simp) ?_
              refine AllReadyH.cons rfl (fun K hK => ?_) AllReadyH.nil
              have r0_ := rr.out.cell 0
              have g0_ := rr.out.free 0
              have r1_ := rr.out.cell 1
              have g1_ := rr.out.free 1
              have r2_ := rr.out.cell 2
              have g2_ := rr.out.free 2
              have r3_ := rr.out.cell 3
              have g3_ := rr.out.free 3
              have r4_ := rr.out.cell 4
              have g4_ := rr.out.free 4
              have r5_ := rr.out.cell 5
              have g5_ := rr.out.free 5
              have r6_ := rr.out.cell 6
              have g6_ := rr.out.free 6
              go_simp
              refine hK.out _ _ (SN _ _ _ _ _ _ _ _ _ hlo hHeld) (fun hHeld => ?_)
              replace rr := Lib.hid (rr.out.put7 (.int .i64 1) (.int .i64 (k0 : Nat)) (.int .i64 (p1 : Nat)) (.int .i64 (k2 : Nat)) (.int .i64 0) (.string ⟨#[]⟩) (.string ⟨#[]⟩))
              clear hK K r0_ g0_ r1_ g1_ r2_ g2_ r3_ g3_ r4_ g4_ r5_ g5_ r6_ g6_
              try simp only [Act.put, List.getElem_toArray, List.getElem_cons_succ, List.getElem_cons_zero, List.setIfInBounds_toArray, List.set_cons_zero, List.set_cons_succ]
              refine wpAnyH_take (i := 17) (v := ?_) rfl (by kernel_rfl) (by kernel_rfl) (by kernel_rfl) (fun _ _ _ h => h) (Or.inl ⟨by kernel_rfl, ?_⟩) hHeld ?_
              rotate_left
              · intro X hX
                first | (go_simp; done) | (go_simp; with_reducible rfl)
              try simp only [Act.put, List.getElem_toArray, List.getElem_cons_succ, List.getElem_cons_zero, List.setIfInBounds_toArray, List.set_cons_zero, List.set_cons_succ]
              refine wpAnyH_done (by kernel_rfl) ?_ _
              have hz := hHeld.out.2.2.2.2
              clear hHeld
              go_wp2_with fail
              go_meet
              exact ⟨_, rfl, rr.out, hz⟩
            · go_simp
              have hal : Below X2.heap.size X2 (X2.alloc (.cells #[.int .i64 0, .int .i64 0, .int .i64 0, .int .i64 0, .int .i64 0, .string ⟨#[]⟩, .string ⟨#[]⟩] GreeterT)) := (Below.refl _ _).alloc (Nat.le_refl _) _
              have hlo : w.heap.size ≤ X2.heap.size := hHeld.out.2.2.2.2.size
              refine hK.out _ _ (qv _ _ hHeld hal) (fun hHeld => ?_)
              clear hK K
              have rr := Lib.hid (VarA.new X2 GreeterT #[.int .i64 0, .int .i64 0, .int .i64 0, .int .i64 0, .int .i64 0, .string ⟨#[]⟩, .string ⟨#[]⟩])
              clear hal
              generalize X2.alloc (.cells #[.int .i64 0, .int .i64 0, .int .i64 0, .int .i64 0, .int .i64 0, .string ⟨#[]⟩, .string ⟨#[]⟩] GreeterT) = X3 at *
              generalize X2.heap.size = G at *
              try simp only [Act.put, List.getElem_toArray, List.getElem_cons_succ, List.getElem_cons_zero, List.setIfInBounds_toArray, List.set_cons_zero, List.set_cons_succ]
              refine wpAnyH_ready (rs := [11]) (by kernel_rfl) (by simp) ?_
              refine AllReadyH.cons rfl (fun K hK => ?_) AllReadyH.nil
              go_simp
              go_wp2_with (go_at_call 31; refine (KN.out _ hHeld.out).mono ?_; rintro e X4 ⟨rfl, hS0, hb0⟩; have hS := Lib.hid hS0; have hb := Lib.hid hb0; clear hS0 hb0)
              refine hK.out _ _ hS (fun hHeld => ?_)
              clear hK K hS
              replace rr := Lib.hid (rr.out.next hb.out)
              clear hb
              try simp only [Act.put, List.getElem_toArray, List.getElem_cons_succ, List.getElem_cons_zero, List.setIfInBounds_toArray, List.set_cons_zero, List.set_cons_succ]
              refine wpAnyH_take (i := 12) (v := ?_) rfl (by kernel_rfl) (by kernel_rfl) (by kernel_rfl) (fun _ _ _ h => h) (Or.inl ⟨by kernel_rfl, ?_⟩) hHeld ?_
              rotate_left
              · intro X hX
                first | (go_simp; done) | (go_simp; with_reducible rfl)
              try simp only [Act.put, List.getElem_toArray, List.getElem_cons_succ, List.getElem_cons_zero, List.setIfInBounds_toArray, List.set_cons_zero, List.set_cons_succ]
              refine wpAnyH_take (i := 13) (v := ?_) rfl (by kernel_rfl) (by kernel_rfl) (by kernel_rfl) (fun _ _ _ h => h) (Or.inl ⟨by kernel_rfl, ?_⟩) hHeld ?_
              rotate_left
              · intro X hX
                first | (go_simp; done) | (go_simp; with_reducible rfl)
              try simp only [Act.put, List.getElem_toArray, List.getElem_cons_succ, List.getElem_cons_zero, List.setIfInBounds_toArray, List.set_cons_zero, List.set_cons_succ]
              refine wpAnyH_take (i := 14) (v := ?_) rfl (by kernel_rfl) (by kernel_rfl) (by kernel_rfl) (fun _ _ _ h => h) (Or.inl ⟨by kernel_rfl, ?_⟩) hHeld ?_
              rotate_left
              · intro X hX
                first | (go_simp; done) | (go_simp; with_reducible rfl)
              try simp only [Act.put, List.getElem_toArray, List.getElem_cons_succ, List.getElem_cons_zero, List.setIfInBounds_toArray, List.set_cons_zero, List.set_cons_succ]
              refine wpAnyH_ready (rs := [16]) (by kernel_rfl) (by simp) ?_
              refine AllReadyH.cons rfl (fun K hK => ?_) AllReadyH.nil
              have r0_ := rr.out.cell 0
              have g0_ := rr.out.free 0
              have r1_ := rr.out.cell 1
              have g1_ := rr.out.free 1
              have r2_ := rr.out.cell 2
              have g2_ := rr.out.free 2
              have r3_ := rr.out.cell 3
              have g3_ := rr.out.free 3
              have r4_ := rr.out.cell 4
              have g4_ := rr.out.free 4
              have r5_ := rr.out.cell 5
              have g5_ := rr.out.free 5
              have r6_ := rr.out.cell 6
              have g6_ := rr.out.free 6
              go_simp
              refine hK.out _ _ (SN _ _ _ _ _ _ _ _ _ hlo hHeld) (fun hHeld => ?_)
              replace rr := Lib.hid (rr.out.put7 (.int .i64 1) (.int .i64 (k0 : Nat)) (.int .i64 (p1 : Nat)) (.int .i64 (k2 : Nat)) (.int .i64 0) (.string ⟨#[]⟩) (.string ⟨#[]⟩))
              clear hK K r0_ g0_ r1_ g1_ r2_ g2_ r3_ g3_ r4_ g4_ r5_ g5_ r6_ g6_
              try simp only [Act.put, List.getElem_toArray, List.getElem_cons_succ, List.getElem_cons_zero, List.setIfInBounds_toArray, List.set_cons_zero, List.set_cons_succ]
              refine wpAnyH_take (i := 17) (v := ?_) rfl (by kernel_rfl) (by kernel_rfl) (by kernel_rfl) (fun _ _ _ h => h) (Or.inl ⟨by kernel_rfl, ?_⟩) hHeld ?_
              rotate_left
              · intro X hX
                first | (go_simp; done) | (go_simp; with_reducible rfl)
              try simp only [Act.put, List.getElem_toArray, List.getElem_cons_succ, List.getElem_cons_zero, List.setIfInBounds_toArray, List.set_cons_zero, List.set_cons_succ]
              refine wpAnyH_done (by kernel_rfl) ?_ _
              have hz := hHeld.out.2.2.2.2
              clear hHeld
              go_wp2_with fail
              go_meet
              exact ⟨_, rfl, rr.out, hz⟩
          · go_simp
            have hal : Below X1.heap.size X1 (X1.alloc (.cells #[.int .i64 0, .int .i64 0, .int .i64 0, .int .i64 0, .int .i64 0, .string ⟨#[]⟩, .string ⟨#[]⟩] GreeterT)) := (Below.refl _ _).alloc (Nat.le_refl _) _
            have hlo : w.heap.size ≤ X1.heap.size := hHeld.out.2.2.2.2.size
            refine hK.out _ _ (qv _ _ hHeld hal) (fun hHeld => ?_)
            clear hK K
            have rr := Lib.hid (VarA.new X1 GreeterT #[.int .i64 0, .int .i64 0, .int .i64 0, .int .i64 0, .int .i64 0, .string ⟨#[]⟩, .string ⟨#[]⟩])
            clear hal
            generalize X1.alloc (.cells #[.int .i64 0, .int .i64 0, .int .i64 0, .int .i64 0, .int .i64 0, .string ⟨#[]⟩, .string ⟨#[]⟩] GreeterT) = X2 at *
            generalize X1.heap.size = G at *
            try simp only [Act.put, List.getElem_toArray, List.getElem_cons_succ, List.getElem_cons_zero, List.setIfInBounds_toArray, List.set_cons_zero, List.set_cons_succ]
            refine wpAnyH_ready (rs := [10]) (by kernel_rfl) (by simp) ?_
            refine AllReadyH.cons rfl (fun K hK => ?_) AllReadyH.nil
            go_simp
            go_wp2_with (go_at_call 32; refine (KP.out _ hHeld.out).mono ?_; rintro e X3 ⟨rfl, hS0, hb0⟩; have hS := Lib.hid hS0; have hb := Lib.hid hb0; clear hS0 hb0)
            refine hK.out _ _ hS (fun hHeld => ?_)
            clear hK K hS
            replace rr := Lib.hid (rr.out.next hb.out)
            clear hb
            try simp only [Act.put, List.getElem_toArray, List.getElem_cons_succ, List.getElem_cons_zero, List.setIfInBounds_toArray, List.set_cons_zero, List.set_cons_succ]
            refine wpAnyH_ready (rs := [11]) (by kernel_rfl) (by simp) ?_
            refine AllReadyH.cons rfl (fun K hK => ?_) AllReadyH.nil
            go_simp
            go_wp2_with (go_at_call 31; refine (KN.out _ hHeld.out).mono ?_; rintro e X4 ⟨rfl, hS0, hb0⟩; have hS := Lib.hid hS0; have hb := Lib.hid hb0; clear hS0 hb0)
            refine hK.out _ _ hS (fun hHeld => ?_)
            clear hK K hS
            replace rr := Lib.hid (rr.out.next hb.out)
            clear hb
            try simp only [Act.put, List.getElem_toArray, List.getElem_cons_succ, List.getElem_cons_zero, List.setIfInBounds_toArray, List.set_cons_zero, List.set_cons_succ]
            refine wpAnyH_take (i := 12) (v := ?_) rfl (by kernel_rfl) (by kernel_rfl) (by kernel_rfl) (fun _ _ _ h => h) (Or.inl ⟨by kernel_rfl, ?_⟩) hHeld ?_
            rotate_left
            · intro X hX
              first | (go_simp; done) | (go_simp; with_reducible rfl)
            try simp only [Act.put, List.getElem_toArray, List.getElem_cons_succ, List.getElem_cons_zero, List.setIfInBounds_toArray, List.set_cons_zero, List.set_cons_succ]
            refine wpAnyH_take (i := 13) (v := ?_) rfl (by kernel_rfl) (by kernel_rfl) (by kernel_rfl) (fun _ _ _ h => h) (Or.inl ⟨by kernel_rfl, ?_⟩) hHeld ?_
            rotate_left
            · intro X hX
              first | (go_simp; done) | (go_simp; with_reducible rfl)
            try simp only [Act.put, List.getElem_toArray, List.getElem_cons_succ, List.getElem_cons_zero, List.setIfInBounds_toArray, List.set_cons_zero, List.set_cons_succ]
            refine wpAnyH_take (i := 14) (v := ?_) rfl (by kernel_rfl) (by kernel_rfl) (by kernel_rfl) (fun _ _ _ h => h) (Or.inl ⟨by kernel_rfl, ?_⟩) hHeld ?_
            rotate_left
            · intro X hX
              first | (go_simp; done) | (go_simp; with_reducible rfl)
            try simp only [Act.put, List.getElem_toArray, List.getElem_cons_succ, List.getElem_cons_zero, List.setIfInBounds_toArray, List.set_cons_zero, List.set_cons_succ]
            refine wpAnyH_ready (rs := [16]) (by kernel_rfl) (by simp) ?_
            refine AllReadyH.cons rfl (fun K hK => ?_) AllReadyH.nil
            have r0_ := rr.out.cell 0
            have g0_ := rr.out.free 0
            have r1_ := rr.out.cell 1
            have g1_ := rr.out.free 1
            have r2_ := rr.out.cell 2
            have g2_ := rr.out.free 2
            have r3_ := rr.out.cell 3
            have g3_ := rr.out.free 3
            have r4_ := rr.out.cell 4
            have g4_ := rr.out.free 4
            have r5_ := rr.out.cell 5
            have g5_ := rr.out.free 5
            have r6_ := rr.out.cell 6
            have g6_ := rr.out.free 6
            go_simp
            refine hK.out _ _ (SN _ _ _ _ _ _ _ _ _ hlo hHeld) (fun hHeld => ?_)
            replace rr := Lib.hid (rr.out.put7 (.int .i64 1) (.int .i64 (k0 : Nat)) (.int .i64 (p1 : Nat)) (.int .i64 (k2 : Nat)) (.int .i64 0) (.string ⟨#[]⟩) (.string ⟨#[]⟩))
            clear hK K r0_ g0_ r1_ g1_ r2_ g2_ r3_ g3_ r4_ g4_ r5_ g5_ r6_ g6_
            try simp only [Act.put, List.getElem_toArray, List.getElem_cons_succ, List.getElem_cons_zero, List.setIfInBounds_toArray, List.set_cons_zero, List.set_cons_succ]
            refine wpAnyH_take (i := 17) (v := ?_) rfl (by kernel_rfl) (by kernel_rfl) (by kernel_rfl) (fun _ _ _ h => h) (Or.inl ⟨by kernel_rfl, ?_⟩) hHeld ?_
            rotate_left
            · intro X hX
              first | (go_simp; done) | (go_simp; with_reducible rfl)
            try simp only [Act.put, List.getElem_toArray, List.getElem_cons_succ, List.getElem_cons_zero, List.setIfInBounds_toArray, List.set_cons_zero, List.set_cons_succ]
            refine wpAnyH_done (by kernel_rfl) ?_ _
            have hz := hHeld.out.2.2.2.2
            clear hHeld
            go_wp2_with fail
            go_meet
            exact ⟨_, rfl, rr.out, hz⟩
        · go_simp
          have hal : Below X0.heap.size X0 (X0.alloc (.cells #[.int .i64 0, .int .i64 0, .int .i64 0, .int .i64 0, .int .i64 0, .string ⟨#[]⟩, .string ⟨#[]⟩] GreeterT)) := (Below.refl _ _).alloc (Nat.le_refl _) _
          have hlo : w.heap.size ≤ X0.heap.size := hHeld.out.2.2.2.2.size
          refine hK.out _ _ (qv _ _ hHeld hal) (fun hHeld => ?_)
          clear hK K
          have rr := Lib.hid (VarA.new X0 GreeterT #[.int .i64 0, .int .i64 0, .int .i64 0, .int .i64 0, .int .i64 0, .string ⟨#[]⟩, .string ⟨#[]⟩])
          clear hal
          generalize X0.alloc (.cells #[.int .i64 0, .int .i64 0, .int .i64 0, .int .i64 0, .int .i64 0, .string ⟨#[]⟩, .string ⟨#[]⟩] GreeterT) = X1 at *
          generalize X0.heap.size = G at *
          try simp only [Act.put, List.getElem_toArray, List.getElem_cons_succ, List.getElem_cons_zero, List.setIfInBounds_toArray, List.set_cons_zero, List.set_cons_succ]
          refine wpAnyH_ready (rs := [9]) (by kernel_rfl) (by simp) ?_
          refine AllReadyH.cons rfl (fun K hK => ?_) AllReadyH.nil
          go_simp
          go_wp2_with (go_at_call 33; refine (KS.out _ hHeld.out).mono ?_; rintro e X2 ⟨rfl, hS0, hb0⟩; have hS := Lib.hid hS0; have hb := Lib.hid hb0; clear hS0 hb0)
          refine hK.out _ _ hS (fun hHeld => ?_)
          clear hK K hS
          replace rr := Lib.hid (rr.out.next hb.out)
          clear hb
          try simp only [Act.put, List.getElem_toArray, List.getElem_cons_succ, List.getElem_cons_zero, List.setIfInBounds_toArray, List.set_cons_zero, List.set_cons_succ]
          refine wpAnyH_ready (rs := [10]) (by kernel_rfl) (by simp) ?_
          refine AllReadyH.cons rfl (fun K hK => ?_) AllReadyH.nil
          go_simp
          go_wp2_with (go_at_call 32; refine (KP.out _ hHeld.out).mono ?_; rintro e X3 ⟨rfl, hS0, hb0⟩; have hS := Lib.hid hS0; have hb := Lib.hid hb0; clear hS0 hb0)
          refine hK.out _ _ hS (fun hHeld => ?_)
          clear hK K hS
          replace rr := Lib.hid (rr.out.next hb.out)
          clear hb
          try simp only [Act.put, List.getElem_toArray, List.getElem_cons_succ, List.getElem_cons_zero, List.setIfInBounds_toArray, List.set_cons_zero, List.set_cons_succ]
          refine wpAnyH_ready (rs := [11]) (by kernel_rfl) (by simp) ?_
          refine AllReadyH.cons rfl (fun K hK => ?_) AllReadyH.nil
          go_simp
          go_wp2_with (go_at_call 31; refine (KN.out _ hHeld.out).mono ?_; rintro e X4 ⟨rfl, hS0, hb0⟩; have hS := Lib.hid hS0; have hb := Lib.hid hb0; clear hS0 hb0)
          refine hK.out _ _ hS (fun hHeld => ?_)
          clear hK K hS
          replace rr := Lib.hid (rr.out.next hb.out)
          clear hb
          try simp only [Act.put, List.getElem_toArray, List.getElem_cons_succ, List.getElem_cons_zero, List.setIfInBounds_toArray, List.set_cons_zero, List.set_cons_succ]
          refine wpAnyH_take (i := 12) (v := ?_) rfl (by kernel_rfl) (by kernel_rfl) (by kernel_rfl) (fun _ _ _ h => h) (Or.inl ⟨by kernel_rfl, ?_⟩) hHeld ?_
          rotate_left
          · intro X hX
            first | (go_simp; done) | (go_simp; with_reducible rfl)
          try simp only [Act.put, List.getElem_toArray, List.getElem_cons_succ, List.getElem_cons_zero, List.setIfInBounds_toArray, List.set_cons_zero, List.set_cons_succ]
          refine wpAnyH_take (i := 13) (v := ?_) rfl (by kernel_rfl) (by kernel_rfl) (by kernel_rfl) (fun _ _ _ h => h) (Or.inl ⟨by kernel_rfl, ?_⟩) hHeld ?_
          rotate_left
          · intro X hX
            first | (go_simp; done) | (go_simp; with_reducible rfl)
          try simp only [Act.put, List.getElem_toArray, List.getElem_cons_succ, List.getElem_cons_zero, List.setIfInBounds_toArray, List.set_cons_zero, List.set_cons_succ]
          refine wpAnyH_take (i := 14) (v := ?_) rfl (by kernel_rfl) (by kernel_rfl) (by kernel_rfl) (fun _ _ _ h => h) (Or.inl ⟨by kernel_rfl, ?_⟩) hHeld ?_
          rotate_left
          · intro X hX
            first | (go_simp; done) | (go_simp; with_reducible rfl)
          try simp only [Act.put, List.getElem_toArray, List.getElem_cons_succ, List.getElem_cons_zero, List.setIfInBounds_toArray, List.set_cons_zero, List.set_cons_succ]
          refine wpAnyH_ready (rs := [16]) (by kernel_rfl) (by simp) ?_
          refine AllReadyH.cons rfl (fun K hK => ?_) AllReadyH.nil
          have r0_ := rr.out.cell 0
          have g0_ := rr.out.free 0
          have r1_ := rr.out.cell 1
          have g1_ := rr.out.free 1
          have r2_ := rr.out.cell 2
          have g2_ := rr.out.free 2
          have r3_ := rr.out.cell 3
          have g3_ := rr.out.free 3
          have r4_ := rr.out.cell 4
          have g4_ := rr.out.free 4
          have r5_ := rr.out.cell 5
          have g5_ := rr.out.free 5
          have r6_ := rr.out.cell 6
          have g6_ := rr.out.free 6
          go_simp
          refine hK.out _ _ (SN _ _ _ _ _ _ _ _ _ hlo hHeld) (fun hHeld => ?_)
          replace rr := Lib.hid (rr.out.put7 (.int .i64 1) (.int .i64 (k0 : Nat)) (.int .i64 (p1 : Nat)) (.int .i64 (k2 : Nat)) (.int .i64 0) (.string ⟨#[]⟩) (.string ⟨#[]⟩))
          clear hK K r0_ g0_ r1_ g1_ r2_ g2_ r3_ g3_ r4_ g4_ r5_ g5_ r6_ g6_
          try simp only [Act.put, List.getElem_toArray, List.getElem_cons_succ, List.getElem_cons_zero, List.setIfInBounds_toArray, List.set_cons_zero, List.set_cons_succ]
          refine wpAnyH_take (i := 17) (v := ?_) rfl (by kernel_rfl) (by kernel_rfl) (by kernel_rfl) (fun _ _ _ h => h) (Or.inl ⟨by kernel_rfl, ?_⟩) hHeld ?_
          rotate_left
          · intro X hX
            first | (go_simp; done) | (go_simp; with_reducible rfl)
          try simp only [Act.put, List.getElem_toArray, List.getElem_cons_succ, List.getElem_cons_zero, List.setIfInBounds_toArray, List.set_cons_zero, List.set_cons_succ]
          refine wpAnyH_done (by kernel_rfl) ?_ _
          have hz := hHeld.out.2.2.2.2
          clear hHeld
          go_wp2_with fail
          go_meet
          exact ⟨_, rfl, rr.out, hz⟩
      case rest =>
        obtain ⟨gu, rfl, HV1, hb1⟩ := hcut
        clear KS KP KN E0 F0 hsg qv SN
        have B1 := Lib.hid hb1
        have V1 := Lib.hid HV1
        clear HV1 hb1
        generalize wc = W1 at *
        have F0 : Hid (W1.cell? ⟨sg, so, none⟩ = some (.string s0) ∧ W1.cell? ⟨sg, so + 1, none⟩ = some (.string s1) ∧ W1.cell? ⟨sg, so + 2, none⟩ = some (.string s2) ∧ W1.cell? ⟨sg, so + 3, none⟩ = some (.string s3) ∧ Below W1.heap.size W1 W1) := Lib.hid (HSEQ.out W1 B1.out)
        have E0 := Lib.hid (seeds_drew F0.out)
        have hsg : sg < W1.heap.size := cell_size (p := ⟨sg, so, none⟩) F0.out.1
        have KS : Hid (∀ X, (X.cell? ⟨sg, so, none⟩ = some (.string s0) ∧ X.cell? ⟨sg, so + 1, none⟩ = some (.string s1) ∧ X.cell? ⟨sg, so + 2, none⟩ = some (.string s2) ∧ X.cell? ⟨sg, so + 3, none⟩ = some (.string s3) ∧ Below W1.heap.size W1 X) → Calls Tryz.prog 33 #[.string s0] X fun e Y => e = .returned (.int .i64 (k0 : Nat)) ∧ (Y.cell? ⟨sg, so, none⟩ = some (.string s0) ∧ Y.cell? ⟨sg, so + 1, none⟩ = some (.string s1) ∧ Y.cell? ⟨sg, so + 2, none⟩ = some (.string s2) ∧ Y.cell? ⟨sg, so + 3, none⟩ = some (.string s3) ∧ Below W1.heap.size W1 Y) ∧ Below X.heap.size X Y) := Lib.hid (fun X hX => by
          refine (KSEC0.out X).mono ?_
          rintro e Y ⟨rfl, hb⟩
          exact ⟨rfl, seeds_next hX hb, hb⟩)
        have KP : Hid (∀ X, (X.cell? ⟨sg, so, none⟩ = some (.string s0) ∧ X.cell? ⟨sg, so + 1, none⟩ = some (.string s1) ∧ X.cell? ⟨sg, so + 2, none⟩ = some (.string s2) ∧ X.cell? ⟨sg, so + 3, none⟩ = some (.string s3) ∧ Below W1.heap.size W1 X) → Calls Tryz.prog 32 #[.int .i64 (k0 : Nat)] X fun e Y => e = .returned (.int .i64 (p0 : Nat)) ∧ (Y.cell? ⟨sg, so, none⟩ = some (.string s0) ∧ Y.cell? ⟨sg, so + 1, none⟩ = some (.string s1) ∧ Y.cell? ⟨sg, so + 2, none⟩ = some (.string s2) ∧ Y.cell? ⟨sg, so + 3, none⟩ = some (.string s3) ∧ Below W1.heap.size W1 Y) ∧ Below X.heap.size X Y) := Lib.hid (fun X hX => by
          refine (KPUB0.out X).mono ?_
          rintro e Y ⟨rfl, rfl⟩
          exact ⟨rfl, hX, Below.refl _ _⟩)
        have KN : Hid (∀ X, (X.cell? ⟨sg, so, none⟩ = some (.string s0) ∧ X.cell? ⟨sg, so + 1, none⟩ = some (.string s1) ∧ X.cell? ⟨sg, so + 2, none⟩ = some (.string s2) ∧ X.cell? ⟨sg, so + 3, none⟩ = some (.string s3) ∧ Below W1.heap.size W1 X) → Calls Tryz.prog 31 #[.int .i64 2, .string s1, .string s3, .int .i64 (p0 : Nat)] X fun e Y => e = .returned (.tuple #[.agg #[.int .i64 2, .int .i64 (k1 : Nat), .int .i64 (p0 : Nat), .int .i64 (k3 : Nat), .int .i64 0, .string ⟨#[]⟩, .string ⟨#[]⟩], .bool true]) ∧ (Y.cell? ⟨sg, so, none⟩ = some (.string s0) ∧ Y.cell? ⟨sg, so + 1, none⟩ = some (.string s1) ∧ Y.cell? ⟨sg, so + 2, none⟩ = some (.string s2) ∧ Y.cell? ⟨sg, so + 3, none⟩ = some (.string s3) ∧ Below W1.heap.size W1 Y) ∧ Below X.heap.size X Y) := Lib.hid (fun X hX => by
          refine (KNEW2.out X).mono ?_
          rintro e Y ⟨rfl, hb⟩
          exact ⟨rfl, seeds_next hX hb, hb⟩)
        have qv : ∀ X Y, (Hid (X.cell? ⟨sg, so, none⟩ = some (.string s0) ∧ X.cell? ⟨sg, so + 1, none⟩ = some (.string s1) ∧ X.cell? ⟨sg, so + 2, none⟩ = some (.string s2) ∧ X.cell? ⟨sg, so + 3, none⟩ = some (.string s3) ∧ Below W1.heap.size W1 X)) → Below X.heap.size X Y → (Hid (Y.cell? ⟨sg, so, none⟩ = some (.string s0) ∧ Y.cell? ⟨sg, so + 1, none⟩ = some (.string s1) ∧ Y.cell? ⟨sg, so + 2, none⟩ = some (.string s2) ∧ Y.cell? ⟨sg, so + 3, none⟩ = some (.string s3) ∧ Below W1.heap.size W1 Y)) := fun X Y h hb => Lib.hid (seeds_next h.out hb)
        have SN : ∀ (X : World) (G : Nat) (u0 u1 u2 u3 u4 u5 u6 : Value), W1.heap.size ≤ G → (Hid (X.cell? ⟨sg, so, none⟩ = some (.string s0) ∧ X.cell? ⟨sg, so + 1, none⟩ = some (.string s1) ∧ X.cell? ⟨sg, so + 2, none⟩ = some (.string s2) ∧ X.cell? ⟨sg, so + 3, none⟩ = some (.string s3) ∧ Below W1.heap.size W1 X)) → (Hid ((((((((X.setCell ⟨G, 0, none⟩ u0).setCell ⟨G, 1, none⟩ u1).setCell ⟨G, 2, none⟩ u2).setCell ⟨G, 3, none⟩ u3).setCell ⟨G, 4, none⟩ u4).setCell ⟨G, 5, none⟩ u5).setCell ⟨G, 6, none⟩ u6).cell? ⟨sg, so, none⟩ = some (.string s0) ∧ (((((((X.setCell ⟨G, 0, none⟩ u0).setCell ⟨G, 1, none⟩ u1).setCell ⟨G, 2, none⟩ u2).setCell ⟨G, 3, none⟩ u3).setCell ⟨G, 4, none⟩ u4).setCell ⟨G, 5, none⟩ u5).setCell ⟨G, 6, none⟩ u6).cell? ⟨sg, so + 1, none⟩ = some (.string s1) ∧ (((((((X.setCell ⟨G, 0, none⟩ u0).setCell ⟨G, 1, none⟩ u1).setCell ⟨G, 2, none⟩ u2).setCell ⟨G, 3, none⟩ u3).setCell ⟨G, 4, none⟩ u4).setCell ⟨G, 5, none⟩ u5).setCell ⟨G, 6, none⟩ u6).cell? ⟨sg, so + 2, none⟩ = some (.string s2) ∧ (((((((X.setCell ⟨G, 0, none⟩ u0).setCell ⟨G, 1, none⟩ u1).setCell ⟨G, 2, none⟩ u2).setCell ⟨G, 3, none⟩ u3).setCell ⟨G, 4, none⟩ u4).setCell ⟨G, 5, none⟩ u5).setCell ⟨G, 6, none⟩ u6).cell? ⟨sg, so + 3, none⟩ = some (.string s3) ∧ Below W1.heap.size W1 (((((((X.setCell ⟨G, 0, none⟩ u0).setCell ⟨G, 1, none⟩ u1).setCell ⟨G, 2, none⟩ u2).setCell ⟨G, 3, none⟩ u3).setCell ⟨G, 4, none⟩ u4).setCell ⟨G, 5, none⟩ u5).setCell ⟨G, 6, none⟩ u6))) := fun X G u0 u1 u2 u3 u4 u5 u6 hG h => Lib.hid (seeds_put7 h.out hG hsg u0 u1 u2 u3 u4 u5 u6)
        go_wp2_with fail
        go_cut [10] (fun z wx => ∃ gu, z = .pointer (some ⟨gu, 0, none⟩) ∧ VarA gu GreeterT #[.int .i64 2, .int .i64 (k1 : Nat), .int .i64 (p0 : Nat), .int .i64 (k3 : Nat), .int .i64 0, .string ⟨#[]⟩, .string ⟨#[]⟩] wx ∧ Below W1.heap.size W1 wx)
        case first =>
          refine wp_region_held_drew (S := fun X => Hid (X.cell? ⟨sg, so, none⟩ = some (.string s0) ∧ X.cell? ⟨sg, so + 1, none⟩ = some (.string s1) ∧ X.cell? ⟨sg, so + 2, none⟩ = some (.string s2) ∧ X.cell? ⟨sg, so + 3, none⟩ = some (.string s3) ∧ Below W1.heap.size W1 X)) (by kernel_rfl) E0 (fun hHeld => ?_)
          clear E0 F0
          generalize W1.drew = X0 at *
          refine wpAnyH_take (i := 0) (v := ?_) rfl (by kernel_rfl) (by kernel_rfl) (by kernel_rfl) (fun _ _ _ h => h) (Or.inl ⟨by kernel_rfl, ?_⟩) hHeld ?_
          rotate_left
          · intro X hX
            first | (go_simp; done) | (go_simp; with_reducible rfl)
          try simp only [Act.put, List.getElem_toArray, List.getElem_cons_zero, List.setIfInBounds_toArray, List.set_cons_zero, List.set_cons_succ]
          refine wpAnyH_take (i := 1) (v := ?_) rfl (by kernel_rfl) (by kernel_rfl) (by kernel_rfl) (fun _ _ _ h => h) (Or.inl ⟨by kernel_rfl, ?_⟩) hHeld ?_
          rotate_left
          · intro X hX
            first | (go_simp; done) | (go_simp; with_reducible rfl)
          try simp only [Act.put, List.getElem_toArray, List.getElem_cons_succ, List.getElem_cons_zero, List.setIfInBounds_toArray, List.set_cons_zero, List.set_cons_succ]
          refine wpAnyH_take (i := 2) (v := ?_) rfl (by kernel_rfl) (by kernel_rfl) (by kernel_rfl) (fun _ _ _ h => h) (Or.inl ⟨by kernel_rfl, ?_⟩) hHeld ?_
          rotate_left
          · intro X hX
            have y : X.cell? ⟨sg, so + 1, none⟩ = some (.string s1) := hX.out.2.1
            first | (go_simp; done) | (go_simp; with_reducible rfl)
          try simp only [Act.put, List.getElem_toArray, List.getElem_cons_succ, List.getElem_cons_zero, List.setIfInBounds_toArray, List.set_cons_zero, List.set_cons_succ]
          refine wpAnyH_take (i := 3) (v := ?_) rfl (by kernel_rfl) (by kernel_rfl) (by kernel_rfl) (fun _ _ _ h => h) (Or.inl ⟨by kernel_rfl, ?_⟩) hHeld ?_
          rotate_left
          · intro X hX
            first | (go_simp; done) | (go_simp; with_reducible rfl)
          try simp only [Act.put, List.getElem_toArray, List.getElem_cons_succ, List.getElem_cons_zero, List.setIfInBounds_toArray, List.set_cons_zero, List.set_cons_succ]
          refine wpAnyH_take (i := 4) (v := ?_) rfl (by kernel_rfl) (by kernel_rfl) (by kernel_rfl) (fun _ _ _ h => h) (Or.inl ⟨by kernel_rfl, ?_⟩) hHeld ?_
          rotate_left
          · intro X hX
            first | (go_simp; done) | (go_simp; with_reducible rfl)
          try simp only [Act.put, List.getElem_toArray, List.getElem_cons_succ, List.getElem_cons_zero, List.setIfInBounds_toArray, List.set_cons_zero, List.set_cons_succ]
          refine wpAnyH_take (i := 5) (v := ?_) rfl (by kernel_rfl) (by kernel_rfl) (by kernel_rfl) (fun _ _ _ h => h) (Or.inl ⟨by kernel_rfl, ?_⟩) hHeld ?_
          rotate_left
          · intro X hX
            have y : X.cell? ⟨sg, so + 3, none⟩ = some (.string s3) := hX.out.2.2.2.1
            first | (go_simp; done) | (go_simp; with_reducible rfl)
          try simp only [Act.put, List.getElem_toArray, List.getElem_cons_succ, List.getElem_cons_zero, List.setIfInBounds_toArray, List.set_cons_zero, List.set_cons_succ]
          refine wpAnyH_take (i := 6) (v := ?_) rfl (by kernel_rfl) (by kernel_rfl) (by kernel_rfl) (fun _ _ _ h => h) (Or.inl ⟨by kernel_rfl, ?_⟩) hHeld ?_
          rotate_left
          · intro X hX
            first | (go_simp; done) | (go_simp; with_reducible rfl)
          try simp only [Act.put, List.getElem_toArray, List.getElem_cons_succ, List.getElem_cons_zero, List.setIfInBounds_toArray, List.set_cons_zero, List.set_cons_succ]
          refine wpAnyH_take (i := 7) (v := ?_) rfl (by kernel_rfl) (by kernel_rfl) (by kernel_rfl) (fun _ _ _ h => h) (Or.inl ⟨by kernel_rfl, ?_⟩) hHeld ?_
          rotate_left
          · intro X hX
            first | (go_simp; done) | (go_simp; with_reducible rfl)
          try simp only [Act.put, List.getElem_toArray, List.getElem_cons_succ, List.getElem_cons_zero, List.setIfInBounds_toArray, List.set_cons_zero, List.set_cons_succ]
          refine wpAnyH_take (i := 8) (v := ?_) rfl (by kernel_rfl) (by kernel_rfl) (by kernel_rfl) (fun _ _ _ h => h) (Or.inl ⟨by kernel_rfl, ?_⟩) hHeld ?_
          rotate_left
          · intro X hX
            have y : X.cell? ⟨sg, so, none⟩ = some (.string s0) := hX.out.1
            first | (go_simp; done) | (go_simp; with_reducible rfl)
          try simp only [Act.put, List.getElem_toArray, List.getElem_cons_succ, List.getElem_cons_zero, List.setIfInBounds_toArray, List.set_cons_zero, List.set_cons_succ]
          refine wpAnyH_ready (rs := [9, 15]) (by kernel_rfl) (by simp) ?_
          refine AllReadyH.cons rfl (fun K hK => ?_) (AllReadyH.cons rfl (fun K hK => ?_) AllReadyH.nil)
          · go_simp
            go_wp2_with (go_at_call 33; refine (KS.out _ hHeld.out).mono ?_; rintro e X1 ⟨rfl, hS0, hb0⟩; have hS := Lib.hid hS0; have hb := Lib.hid hb0; clear hS0 hb0)
            refine hK.out _ _ hS (fun hHeld => ?_)
            clear hK K hS
            clear hb
            try simp only [Act.put, List.getElem_toArray, List.getElem_cons_succ, List.getElem_cons_zero, List.setIfInBounds_toArray, List.set_cons_zero, List.set_cons_succ]
            refine wpAnyH_ready (rs := [10, 15]) (by kernel_rfl) (by simp) ?_
            refine AllReadyH.cons rfl (fun K hK => ?_) (AllReadyH.cons rfl (fun K hK => ?_) AllReadyH.nil)
            · go_simp
              go_wp2_with (go_at_call 32; refine (KP.out _ hHeld.out).mono ?_; rintro e X2 ⟨rfl, hS0, hb0⟩; have hS := Lib.hid hS0; have hb := Lib.hid hb0; clear hS0 hb0)
              refine hK.out _ _ hS (fun hHeld => ?_)
              clear hK K hS
              clear hb
              try simp only [Act.put, List.getElem_toArray, List.getElem_cons_succ, List.getElem_cons_zero, List.setIfInBounds_toArray, List.set_cons_zero, List.set_cons_succ]
              refine wpAnyH_ready (rs := [11, 15]) (by kernel_rfl) (by simp) ?_
              refine AllReadyH.cons rfl (fun K hK => ?_) (AllReadyH.cons rfl (fun K hK => ?_) AllReadyH.nil)
              · go_simp
                go_wp2_with (go_at_call 31; refine (KN.out _ hHeld.out).mono ?_; rintro e X3 ⟨rfl, hS0, hb0⟩; have hS := Lib.hid hS0; have hb := Lib.hid hb0; clear hS0 hb0)
                refine hK.out _ _ hS (fun hHeld => ?_)
                clear hK K hS
                clear hb
                try simp only [Act.put, List.getElem_toArray, List.getElem_cons_succ, List.getElem_cons_zero, List.setIfInBounds_toArray, List.set_cons_zero, List.set_cons_succ]
                refine wpAnyH_take (i := 12) (v := ?_) rfl (by kernel_rfl) (by kernel_rfl) (by kernel_rfl) (fun _ _ _ h => h) (Or.inl ⟨by kernel_rfl, ?_⟩) hHeld ?_
                rotate_left
                · intro X hX
                  first | (go_simp; done) | (go_simp; with_reducible rfl)
                try simp only [Act.put, List.getElem_toArray, List.getElem_cons_succ, List.getElem_cons_zero, List.setIfInBounds_toArray, List.set_cons_zero, List.set_cons_succ]
                refine wpAnyH_take (i := 13) (v := ?_) rfl (by kernel_rfl) (by kernel_rfl) (by kernel_rfl) (fun _ _ _ h => h) (Or.inl ⟨by kernel_rfl, ?_⟩) hHeld ?_
                rotate_left
                · intro X hX
                  first | (go_simp; done) | (go_simp; with_reducible rfl)
                try simp only [Act.put, List.getElem_toArray, List.getElem_cons_succ, List.getElem_cons_zero, List.setIfInBounds_toArray, List.set_cons_zero, List.set_cons_succ]
                refine wpAnyH_take (i := 14) (v := ?_) rfl (by kernel_rfl) (by kernel_rfl) (by kernel_rfl) (fun _ _ _ h => h) (Or.inl ⟨by kernel_rfl, ?_⟩) hHeld ?_
                rotate_left
                · intro X hX
                  first | (go_simp; done) | (go_simp; with_reducible rfl)
                try simp only [Act.put, List.getElem_toArray, List.getElem_cons_succ, List.getElem_cons_zero, List.setIfInBounds_toArray, List.set_cons_zero, List.set_cons_succ]
                refine wpAnyH_ready (rs := [15]) (by kernel_rfl) (by simp) ?_
                refine AllReadyH.cons rfl (fun K hK => ?_) AllReadyH.nil
                go_simp
                have hal : Below X3.heap.size X3 (X3.alloc (.cells #[.int .i64 0, .int .i64 0, .int .i64 0, .int .i64 0, .int .i64 0, .string ⟨#[]⟩, .string ⟨#[]⟩] GreeterT)) := (Below.refl _ _).alloc (Nat.le_refl _) _
                have hlo : W1.heap.size ≤ X3.heap.size := hHeld.out.2.2.2.2.size
                refine hK.out _ _ (qv _ _ hHeld hal) (fun hHeld => ?_)
                clear hK K
                have rr := Lib.hid (VarA.new X3 GreeterT #[.int .i64 0, .int .i64 0, .int .i64 0, .int .i64 0, .int .i64 0, .string ⟨#[]⟩, .string ⟨#[]⟩])
                clear hal
                generalize X3.alloc (.cells #[.int .i64 0, .int .i64 0, .int .i64 0, .int .i64 0, .int .i64 0, .string ⟨#[]⟩, .string ⟨#[]⟩] GreeterT) = X4 at *
                generalize X3.heap.size = G at *
                try simp only [Act.put, List.getElem_toArray, List.getElem_cons_succ, List.getElem_cons_zero, List.setIfInBounds_toArray, List.set_cons_zero, List.set_cons_succ]
                refine wpAnyH_ready (rs := [16]) (by kernel_rfl) (by simp) ?_
                refine AllReadyH.cons rfl (fun K hK => ?_) AllReadyH.nil
                have r0_ := rr.out.cell 0
                have g0_ := rr.out.free 0
                have r1_ := rr.out.cell 1
                have g1_ := rr.out.free 1
                have r2_ := rr.out.cell 2
                have g2_ := rr.out.free 2
                have r3_ := rr.out.cell 3
                have g3_ := rr.out.free 3
                have r4_ := rr.out.cell 4
                have g4_ := rr.out.free 4
                have r5_ := rr.out.cell 5
                have g5_ := rr.out.free 5
                have r6_ := rr.out.cell 6
                have g6_ := rr.out.free 6
                go_simp
                refine hK.out _ _ (SN _ _ _ _ _ _ _ _ _ hlo hHeld) (fun hHeld => ?_)
                replace rr := Lib.hid (rr.out.put7 (.int .i64 2) (.int .i64 (k1 : Nat)) (.int .i64 (p0 : Nat)) (.int .i64 (k3 : Nat)) (.int .i64 0) (.string ⟨#[]⟩) (.string ⟨#[]⟩))
                clear hK K r0_ g0_ r1_ g1_ r2_ g2_ r3_ g3_ r4_ g4_ r5_ g5_ r6_ g6_
                try simp only [Act.put, List.getElem_toArray, List.getElem_cons_succ, List.getElem_cons_zero, List.setIfInBounds_toArray, List.set_cons_zero, List.set_cons_succ]
                refine wpAnyH_take (i := 17) (v := ?_) rfl (by kernel_rfl) (by kernel_rfl) (by kernel_rfl) (fun _ _ _ h => h) (Or.inl ⟨by kernel_rfl, ?_⟩) hHeld ?_
                rotate_left
                · intro X hX
                  first | (go_simp; done) | (go_simp; with_reducible rfl)
                try simp only [Act.put, List.getElem_toArray, List.getElem_cons_succ, List.getElem_cons_zero, List.setIfInBounds_toArray, List.set_cons_zero, List.set_cons_succ]
                refine wpAnyH_done (by kernel_rfl) ?_ _
                have hz := hHeld.out.2.2.2.2
                clear hHeld
                go_wp2_with fail
                go_meet
                exact ⟨_, rfl, rr.out, hz⟩
              · go_simp
                have hal : Below X2.heap.size X2 (X2.alloc (.cells #[.int .i64 0, .int .i64 0, .int .i64 0, .int .i64 0, .int .i64 0, .string ⟨#[]⟩, .string ⟨#[]⟩] GreeterT)) := (Below.refl _ _).alloc (Nat.le_refl _) _
                have hlo : W1.heap.size ≤ X2.heap.size := hHeld.out.2.2.2.2.size
                refine hK.out _ _ (qv _ _ hHeld hal) (fun hHeld => ?_)
                clear hK K
                have rr := Lib.hid (VarA.new X2 GreeterT #[.int .i64 0, .int .i64 0, .int .i64 0, .int .i64 0, .int .i64 0, .string ⟨#[]⟩, .string ⟨#[]⟩])
                clear hal
                generalize X2.alloc (.cells #[.int .i64 0, .int .i64 0, .int .i64 0, .int .i64 0, .int .i64 0, .string ⟨#[]⟩, .string ⟨#[]⟩] GreeterT) = X3 at *
                generalize X2.heap.size = G at *
                try simp only [Act.put, List.getElem_toArray, List.getElem_cons_succ, List.getElem_cons_zero, List.setIfInBounds_toArray, List.set_cons_zero, List.set_cons_succ]
                refine wpAnyH_ready (rs := [11]) (by kernel_rfl) (by simp) ?_
                refine AllReadyH.cons rfl (fun K hK => ?_) AllReadyH.nil
                go_simp
                go_wp2_with (go_at_call 31; refine (KN.out _ hHeld.out).mono ?_; rintro e X4 ⟨rfl, hS0, hb0⟩; have hS := Lib.hid hS0; have hb := Lib.hid hb0; clear hS0 hb0)
                refine hK.out _ _ hS (fun hHeld => ?_)
                clear hK K hS
                replace rr := Lib.hid (rr.out.next hb.out)
                clear hb
                try simp only [Act.put, List.getElem_toArray, List.getElem_cons_succ, List.getElem_cons_zero, List.setIfInBounds_toArray, List.set_cons_zero, List.set_cons_succ]
                refine wpAnyH_take (i := 12) (v := ?_) rfl (by kernel_rfl) (by kernel_rfl) (by kernel_rfl) (fun _ _ _ h => h) (Or.inl ⟨by kernel_rfl, ?_⟩) hHeld ?_
                rotate_left
                · intro X hX
                  first | (go_simp; done) | (go_simp; with_reducible rfl)
                try simp only [Act.put, List.getElem_toArray, List.getElem_cons_succ, List.getElem_cons_zero, List.setIfInBounds_toArray, List.set_cons_zero, List.set_cons_succ]
                refine wpAnyH_take (i := 13) (v := ?_) rfl (by kernel_rfl) (by kernel_rfl) (by kernel_rfl) (fun _ _ _ h => h) (Or.inl ⟨by kernel_rfl, ?_⟩) hHeld ?_
                rotate_left
                · intro X hX
                  first | (go_simp; done) | (go_simp; with_reducible rfl)
                try simp only [Act.put, List.getElem_toArray, List.getElem_cons_succ, List.getElem_cons_zero, List.setIfInBounds_toArray, List.set_cons_zero, List.set_cons_succ]
                refine wpAnyH_take (i := 14) (v := ?_) rfl (by kernel_rfl) (by kernel_rfl) (by kernel_rfl) (fun _ _ _ h => h) (Or.inl ⟨by kernel_rfl, ?_⟩) hHeld ?_
                rotate_left
                · intro X hX
                  first | (go_simp; done) | (go_simp; with_reducible rfl)
                try simp only [Act.put, List.getElem_toArray, List.getElem_cons_succ, List.getElem_cons_zero, List.setIfInBounds_toArray, List.set_cons_zero, List.set_cons_succ]
                refine wpAnyH_ready (rs := [16]) (by kernel_rfl) (by simp) ?_
                refine AllReadyH.cons rfl (fun K hK => ?_) AllReadyH.nil
                have r0_ := rr.out.cell 0
                have g0_ := rr.out.free 0
                have r1_ := rr.out.cell 1
                have g1_ := rr.out.free 1
                have r2_ := rr.out.cell 2
                have g2_ := rr.out.free 2
                have r3_ := rr.out.cell 3
                have g3_ := rr.out.free 3
                have r4_ := rr.out.cell 4
                have g4_ := rr.out.free 4
                have r5_ := rr.out.cell 5
                have g5_ := rr.out.free 5
                have r6_ := rr.out.cell 6
                have g6_ := rr.out.free 6
                go_simp
                refine hK.out _ _ (SN _ _ _ _ _ _ _ _ _ hlo hHeld) (fun hHeld => ?_)
                replace rr := Lib.hid (rr.out.put7 (.int .i64 2) (.int .i64 (k1 : Nat)) (.int .i64 (p0 : Nat)) (.int .i64 (k3 : Nat)) (.int .i64 0) (.string ⟨#[]⟩) (.string ⟨#[]⟩))
                clear hK K r0_ g0_ r1_ g1_ r2_ g2_ r3_ g3_ r4_ g4_ r5_ g5_ r6_ g6_
                try simp only [Act.put, List.getElem_toArray, List.getElem_cons_succ, List.getElem_cons_zero, List.setIfInBounds_toArray, List.set_cons_zero, List.set_cons_succ]
                refine wpAnyH_take (i := 17) (v := ?_) rfl (by kernel_rfl) (by kernel_rfl) (by kernel_rfl) (fun _ _ _ h => h) (Or.inl ⟨by kernel_rfl, ?_⟩) hHeld ?_
                rotate_left
                · intro X hX
                  first | (go_simp; done) | (go_simp; with_reducible rfl)
                try simp only [Act.put, List.getElem_toArray, List.getElem_cons_succ, List.getElem_cons_zero, List.setIfInBounds_toArray, List.set_cons_zero, List.set_cons_succ]
                refine wpAnyH_done (by kernel_rfl) ?_ _
                have hz := hHeld.out.2.2.2.2
                clear hHeld
                go_wp2_with fail
                go_meet
                exact ⟨_, rfl, rr.out, hz⟩
            · go_simp
              have hal : Below X1.heap.size X1 (X1.alloc (.cells #[.int .i64 0, .int .i64 0, .int .i64 0, .int .i64 0, .int .i64 0, .string ⟨#[]⟩, .string ⟨#[]⟩] GreeterT)) := (Below.refl _ _).alloc (Nat.le_refl _) _
              have hlo : W1.heap.size ≤ X1.heap.size := hHeld.out.2.2.2.2.size
              refine hK.out _ _ (qv _ _ hHeld hal) (fun hHeld => ?_)
              clear hK K
              have rr := Lib.hid (VarA.new X1 GreeterT #[.int .i64 0, .int .i64 0, .int .i64 0, .int .i64 0, .int .i64 0, .string ⟨#[]⟩, .string ⟨#[]⟩])
              clear hal
              generalize X1.alloc (.cells #[.int .i64 0, .int .i64 0, .int .i64 0, .int .i64 0, .int .i64 0, .string ⟨#[]⟩, .string ⟨#[]⟩] GreeterT) = X2 at *
              generalize X1.heap.size = G at *
              try simp only [Act.put, List.getElem_toArray, List.getElem_cons_succ, List.getElem_cons_zero, List.setIfInBounds_toArray, List.set_cons_zero, List.set_cons_succ]
              refine wpAnyH_ready (rs := [10]) (by kernel_rfl) (by simp) ?_
              refine AllReadyH.cons rfl (fun K hK => ?_) AllReadyH.nil
              go_simp
              go_wp2_with (go_at_call 32; refine (KP.out _ hHeld.out).mono ?_; rintro e X3 ⟨rfl, hS0, hb0⟩; have hS := Lib.hid hS0; have hb := Lib.hid hb0; clear hS0 hb0)
              refine hK.out _ _ hS (fun hHeld => ?_)
              clear hK K hS
              replace rr := Lib.hid (rr.out.next hb.out)
              clear hb
              try simp only [Act.put, List.getElem_toArray, List.getElem_cons_succ, List.getElem_cons_zero, List.setIfInBounds_toArray, List.set_cons_zero, List.set_cons_succ]
              refine wpAnyH_ready (rs := [11]) (by kernel_rfl) (by simp) ?_
              refine AllReadyH.cons rfl (fun K hK => ?_) AllReadyH.nil
              go_simp
              go_wp2_with (go_at_call 31; refine (KN.out _ hHeld.out).mono ?_; rintro e X4 ⟨rfl, hS0, hb0⟩; have hS := Lib.hid hS0; have hb := Lib.hid hb0; clear hS0 hb0)
              refine hK.out _ _ hS (fun hHeld => ?_)
              clear hK K hS
              replace rr := Lib.hid (rr.out.next hb.out)
              clear hb
              try simp only [Act.put, List.getElem_toArray, List.getElem_cons_succ, List.getElem_cons_zero, List.setIfInBounds_toArray, List.set_cons_zero, List.set_cons_succ]
              refine wpAnyH_take (i := 12) (v := ?_) rfl (by kernel_rfl) (by kernel_rfl) (by kernel_rfl) (fun _ _ _ h => h) (Or.inl ⟨by kernel_rfl, ?_⟩) hHeld ?_
              rotate_left
              · intro X hX
                first | (go_simp; done) | (go_simp; with_reducible rfl)
              try simp only [Act.put, List.getElem_toArray, List.getElem_cons_succ, List.getElem_cons_zero, List.setIfInBounds_toArray, List.set_cons_zero, List.set_cons_succ]
              refine wpAnyH_take (i := 13) (v := ?_) rfl (by kernel_rfl) (by kernel_rfl) (by kernel_rfl) (fun _ _ _ h => h) (Or.inl ⟨by kernel_rfl, ?_⟩) hHeld ?_
              rotate_left
              · intro X hX
                first | (go_simp; done) | (go_simp; with_reducible rfl)
              try simp only [Act.put, List.getElem_toArray, List.getElem_cons_succ, List.getElem_cons_zero, List.setIfInBounds_toArray, List.set_cons_zero, List.set_cons_succ]
              refine wpAnyH_take (i := 14) (v := ?_) rfl (by kernel_rfl) (by kernel_rfl) (by kernel_rfl) (fun _ _ _ h => h) (Or.inl ⟨by kernel_rfl, ?_⟩) hHeld ?_
              rotate_left
              · intro X hX
                first | (go_simp; done) | (go_simp; with_reducible rfl)
              try simp only [Act.put, List.getElem_toArray, List.getElem_cons_succ, List.getElem_cons_zero, List.setIfInBounds_toArray, List.set_cons_zero, List.set_cons_succ]
              refine wpAnyH_ready (rs := [16]) (by kernel_rfl) (by simp) ?_
              refine AllReadyH.cons rfl (fun K hK => ?_) AllReadyH.nil
              have r0_ := rr.out.cell 0
              have g0_ := rr.out.free 0
              have r1_ := rr.out.cell 1
              have g1_ := rr.out.free 1
              have r2_ := rr.out.cell 2
              have g2_ := rr.out.free 2
              have r3_ := rr.out.cell 3
              have g3_ := rr.out.free 3
              have r4_ := rr.out.cell 4
              have g4_ := rr.out.free 4
              have r5_ := rr.out.cell 5
              have g5_ := rr.out.free 5
              have r6_ := rr.out.cell 6
              have g6_ := rr.out.free 6
              go_simp
              refine hK.out _ _ (SN _ _ _ _ _ _ _ _ _ hlo hHeld) (fun hHeld => ?_)
              replace rr := Lib.hid (rr.out.put7 (.int .i64 2) (.int .i64 (k1 : Nat)) (.int .i64 (p0 : Nat)) (.int .i64 (k3 : Nat)) (.int .i64 0) (.string ⟨#[]⟩) (.string ⟨#[]⟩))
              clear hK K r0_ g0_ r1_ g1_ r2_ g2_ r3_ g3_ r4_ g4_ r5_ g5_ r6_ g6_
              try simp only [Act.put, List.getElem_toArray, List.getElem_cons_succ, List.getElem_cons_zero, List.setIfInBounds_toArray, List.set_cons_zero, List.set_cons_succ]
              refine wpAnyH_take (i := 17) (v := ?_) rfl (by kernel_rfl) (by kernel_rfl) (by kernel_rfl) (fun _ _ _ h => h) (Or.inl ⟨by kernel_rfl, ?_⟩) hHeld ?_
              rotate_left
              · intro X hX
                first | (go_simp; done) | (go_simp; with_reducible rfl)
              try simp only [Act.put, List.getElem_toArray, List.getElem_cons_succ, List.getElem_cons_zero, List.setIfInBounds_toArray, List.set_cons_zero, List.set_cons_succ]
              refine wpAnyH_done (by kernel_rfl) ?_ _
              have hz := hHeld.out.2.2.2.2
              clear hHeld
              go_wp2_with fail
              go_meet
              exact ⟨_, rfl, rr.out, hz⟩
          · go_simp
            have hal : Below X0.heap.size X0 (X0.alloc (.cells #[.int .i64 0, .int .i64 0, .int .i64 0, .int .i64 0, .int .i64 0, .string ⟨#[]⟩, .string ⟨#[]⟩] GreeterT)) := (Below.refl _ _).alloc (Nat.le_refl _) _
            have hlo : W1.heap.size ≤ X0.heap.size := hHeld.out.2.2.2.2.size
            refine hK.out _ _ (qv _ _ hHeld hal) (fun hHeld => ?_)
            clear hK K
            have rr := Lib.hid (VarA.new X0 GreeterT #[.int .i64 0, .int .i64 0, .int .i64 0, .int .i64 0, .int .i64 0, .string ⟨#[]⟩, .string ⟨#[]⟩])
            clear hal
            generalize X0.alloc (.cells #[.int .i64 0, .int .i64 0, .int .i64 0, .int .i64 0, .int .i64 0, .string ⟨#[]⟩, .string ⟨#[]⟩] GreeterT) = X1 at *
            generalize X0.heap.size = G at *
            try simp only [Act.put, List.getElem_toArray, List.getElem_cons_succ, List.getElem_cons_zero, List.setIfInBounds_toArray, List.set_cons_zero, List.set_cons_succ]
            refine wpAnyH_ready (rs := [9]) (by kernel_rfl) (by simp) ?_
            refine AllReadyH.cons rfl (fun K hK => ?_) AllReadyH.nil
            go_simp
            go_wp2_with (go_at_call 33; refine (KS.out _ hHeld.out).mono ?_; rintro e X2 ⟨rfl, hS0, hb0⟩; have hS := Lib.hid hS0; have hb := Lib.hid hb0; clear hS0 hb0)
            refine hK.out _ _ hS (fun hHeld => ?_)
            clear hK K hS
            replace rr := Lib.hid (rr.out.next hb.out)
            clear hb
            try simp only [Act.put, List.getElem_toArray, List.getElem_cons_succ, List.getElem_cons_zero, List.setIfInBounds_toArray, List.set_cons_zero, List.set_cons_succ]
            refine wpAnyH_ready (rs := [10]) (by kernel_rfl) (by simp) ?_
            refine AllReadyH.cons rfl (fun K hK => ?_) AllReadyH.nil
            go_simp
            go_wp2_with (go_at_call 32; refine (KP.out _ hHeld.out).mono ?_; rintro e X3 ⟨rfl, hS0, hb0⟩; have hS := Lib.hid hS0; have hb := Lib.hid hb0; clear hS0 hb0)
            refine hK.out _ _ hS (fun hHeld => ?_)
            clear hK K hS
            replace rr := Lib.hid (rr.out.next hb.out)
            clear hb
            try simp only [Act.put, List.getElem_toArray, List.getElem_cons_succ, List.getElem_cons_zero, List.setIfInBounds_toArray, List.set_cons_zero, List.set_cons_succ]
            refine wpAnyH_ready (rs := [11]) (by kernel_rfl) (by simp) ?_
            refine AllReadyH.cons rfl (fun K hK => ?_) AllReadyH.nil
            go_simp
            go_wp2_with (go_at_call 31; refine (KN.out _ hHeld.out).mono ?_; rintro e X4 ⟨rfl, hS0, hb0⟩; have hS := Lib.hid hS0; have hb := Lib.hid hb0; clear hS0 hb0)
            refine hK.out _ _ hS (fun hHeld => ?_)
            clear hK K hS
            replace rr := Lib.hid (rr.out.next hb.out)
            clear hb
            try simp only [Act.put, List.getElem_toArray, List.getElem_cons_succ, List.getElem_cons_zero, List.setIfInBounds_toArray, List.set_cons_zero, List.set_cons_succ]
            refine wpAnyH_take (i := 12) (v := ?_) rfl (by kernel_rfl) (by kernel_rfl) (by kernel_rfl) (fun _ _ _ h => h) (Or.inl ⟨by kernel_rfl, ?_⟩) hHeld ?_
            rotate_left
            · intro X hX
              first | (go_simp; done) | (go_simp; with_reducible rfl)
            try simp only [Act.put, List.getElem_toArray, List.getElem_cons_succ, List.getElem_cons_zero, List.setIfInBounds_toArray, List.set_cons_zero, List.set_cons_succ]
            refine wpAnyH_take (i := 13) (v := ?_) rfl (by kernel_rfl) (by kernel_rfl) (by kernel_rfl) (fun _ _ _ h => h) (Or.inl ⟨by kernel_rfl, ?_⟩) hHeld ?_
            rotate_left
            · intro X hX
              first | (go_simp; done) | (go_simp; with_reducible rfl)
            try simp only [Act.put, List.getElem_toArray, List.getElem_cons_succ, List.getElem_cons_zero, List.setIfInBounds_toArray, List.set_cons_zero, List.set_cons_succ]
            refine wpAnyH_take (i := 14) (v := ?_) rfl (by kernel_rfl) (by kernel_rfl) (by kernel_rfl) (fun _ _ _ h => h) (Or.inl ⟨by kernel_rfl, ?_⟩) hHeld ?_
            rotate_left
            · intro X hX
              first | (go_simp; done) | (go_simp; with_reducible rfl)
            try simp only [Act.put, List.getElem_toArray, List.getElem_cons_succ, List.getElem_cons_zero, List.setIfInBounds_toArray, List.set_cons_zero, List.set_cons_succ]
            refine wpAnyH_ready (rs := [16]) (by kernel_rfl) (by simp) ?_
            refine AllReadyH.cons rfl (fun K hK => ?_) AllReadyH.nil
            have r0_ := rr.out.cell 0
            have g0_ := rr.out.free 0
            have r1_ := rr.out.cell 1
            have g1_ := rr.out.free 1
            have r2_ := rr.out.cell 2
            have g2_ := rr.out.free 2
            have r3_ := rr.out.cell 3
            have g3_ := rr.out.free 3
            have r4_ := rr.out.cell 4
            have g4_ := rr.out.free 4
            have r5_ := rr.out.cell 5
            have g5_ := rr.out.free 5
            have r6_ := rr.out.cell 6
            have g6_ := rr.out.free 6
            go_simp
            refine hK.out _ _ (SN _ _ _ _ _ _ _ _ _ hlo hHeld) (fun hHeld => ?_)
            replace rr := Lib.hid (rr.out.put7 (.int .i64 2) (.int .i64 (k1 : Nat)) (.int .i64 (p0 : Nat)) (.int .i64 (k3 : Nat)) (.int .i64 0) (.string ⟨#[]⟩) (.string ⟨#[]⟩))
            clear hK K r0_ g0_ r1_ g1_ r2_ g2_ r3_ g3_ r4_ g4_ r5_ g5_ r6_ g6_
            try simp only [Act.put, List.getElem_toArray, List.getElem_cons_succ, List.getElem_cons_zero, List.setIfInBounds_toArray, List.set_cons_zero, List.set_cons_succ]
            refine wpAnyH_take (i := 17) (v := ?_) rfl (by kernel_rfl) (by kernel_rfl) (by kernel_rfl) (fun _ _ _ h => h) (Or.inl ⟨by kernel_rfl, ?_⟩) hHeld ?_
            rotate_left
            · intro X hX
              first | (go_simp; done) | (go_simp; with_reducible rfl)
            try simp only [Act.put, List.getElem_toArray, List.getElem_cons_succ, List.getElem_cons_zero, List.setIfInBounds_toArray, List.set_cons_zero, List.set_cons_succ]
            refine wpAnyH_done (by kernel_rfl) ?_ _
            have hz := hHeld.out.2.2.2.2
            clear hHeld
            go_wp2_with fail
            go_meet
            exact ⟨_, rfl, rr.out, hz⟩
        case rest =>
          obtain ⟨gv, rfl, HV2, hb2⟩ := hcut
          clear KS KP KN E0 F0 hsg qv SN HSEQ KSEC0 KSEC1 KPUB0 KPUB1 KNEW1 KNEW2
          have V2 := Lib.hid HV2
          replace V1 := Lib.hid (V1.out.next hb2)
          have B2 := Lib.hid (B1.out.trans (hb2.mono B1.out.size))
          clear HV2 hb2 B1
          generalize wc = W2 at *
          have x0 : W2.cell? ⟨gu, 0, none⟩ = some (.int .i64 1) := V1.out.cell 0
          have x1 : W2.cell? ⟨gu, 1, none⟩ = some (.int .i64 (k0 : Nat)) := V1.out.cell 1
          have x2 : W2.cell? ⟨gu, 2, none⟩ = some (.int .i64 (p1 : Nat)) := V1.out.cell 2
          have x3 : W2.cell? ⟨gu, 3, none⟩ = some (.int .i64 (k2 : Nat)) := V1.out.cell 3
          have x4 : W2.cell? ⟨gu, 4, none⟩ = some (.int .i64 0) := V1.out.cell 4
          have x5 : W2.cell? ⟨gu, 5, none⟩ = some (.string ⟨#[]⟩) := V1.out.cell 5
          have x6 : W2.cell? ⟨gu, 6, none⟩ = some (.string ⟨#[]⟩) := V1.out.cell 6
          go_wp2_with fail
          refine (KHEL1.out _).mono ?_
          rintro e W3 ⟨rfl, hb⟩
          have hal : Below W3.heap.size W3 (W3.alloc (.cells #[.int .i64 1, .int .i64 (k0 : Nat), .int .i64 (p1 : Nat), .int .i64 (k2 : Nat), .int .i64 1, .string m1, .string ⟨#[]⟩] GreeterT)) := alloc_below W3 _
          have V3 := Lib.hid (VarA.new W3 GreeterT #[.int .i64 1, .int .i64 (k0 : Nat), .int .i64 (p1 : Nat), .int .i64 (k2 : Nat), .int .i64 1, .string m1, .string ⟨#[]⟩])
          replace V2 := Lib.hid ((V2.out.next hb).next hal)
          have B3 := Lib.hid ((B2.out.trans (hb.mono B2.out.size)).trans (hal.mono (Nat.le_trans B2.out.size hb.size)))
          clear hal hb V1 B2 KHEL1 x0 x1 x2 x3 x4 x5 x6
          go_upto_region 11 with fail
          generalize W3.alloc (.cells #[.int .i64 1, .int .i64 (k0 : Nat), .int .i64 (p1 : Nat), .int .i64 (k2 : Nat), .int .i64 1, .string m1, .string ⟨#[]⟩] GreeterT) = W4 at *
          generalize W3.heap.size = gx at *
          have x0 : W4.cell? ⟨gv, 0, none⟩ = some (.int .i64 2) := V2.out.cell 0
          have x1 : W4.cell? ⟨gv, 1, none⟩ = some (.int .i64 (k1 : Nat)) := V2.out.cell 1
          have x2 : W4.cell? ⟨gv, 2, none⟩ = some (.int .i64 (p0 : Nat)) := V2.out.cell 2
          have x3 : W4.cell? ⟨gv, 3, none⟩ = some (.int .i64 (k3 : Nat)) := V2.out.cell 3
          have x4 : W4.cell? ⟨gv, 4, none⟩ = some (.int .i64 0) := V2.out.cell 4
          have x5 : W4.cell? ⟨gv, 5, none⟩ = some (.string ⟨#[]⟩) := V2.out.cell 5
          have x6 : W4.cell? ⟨gv, 6, none⟩ = some (.string ⟨#[]⟩) := V2.out.cell 6
          go_wp2_with fail
          refine (KHEL2.out _).mono ?_
          rintro e W5 ⟨rfl, hb⟩
          have hal : Below W5.heap.size W5 (W5.alloc (.cells #[.int .i64 2, .int .i64 (k1 : Nat), .int .i64 (p0 : Nat), .int .i64 (k3 : Nat), .int .i64 1, .string m2, .string ⟨#[]⟩] GreeterT)) := alloc_below W5 _
          have V4 := Lib.hid (VarA.new W5 GreeterT #[.int .i64 2, .int .i64 (k1 : Nat), .int .i64 (p0 : Nat), .int .i64 (k3 : Nat), .int .i64 1, .string m2, .string ⟨#[]⟩])
          replace V3 := Lib.hid ((V3.out.next hb).next hal)
          have B4 := Lib.hid ((B3.out.trans (hb.mono B3.out.size)).trans (hal.mono (Nat.le_trans B3.out.size hb.size)))
          clear hal hb V2 B3 KHEL2 x0 x1 x2 x3 x4 x5 x6
          go_upto_region 12 with fail
          generalize W5.alloc (.cells #[.int .i64 2, .int .i64 (k1 : Nat), .int .i64 (p0 : Nat), .int .i64 (k3 : Nat), .int .i64 1, .string m2, .string ⟨#[]⟩] GreeterT) = W6 at *
          generalize W5.heap.size = gy at *
          have x0 : W6.cell? ⟨gx, 0, none⟩ = some (.int .i64 1) := V3.out.cell 0
          have x1 : W6.cell? ⟨gx, 1, none⟩ = some (.int .i64 (k0 : Nat)) := V3.out.cell 1
          have x2 : W6.cell? ⟨gx, 2, none⟩ = some (.int .i64 (p1 : Nat)) := V3.out.cell 2
          have x3 : W6.cell? ⟨gx, 3, none⟩ = some (.int .i64 (k2 : Nat)) := V3.out.cell 3
          have x4 : W6.cell? ⟨gx, 4, none⟩ = some (.int .i64 1) := V3.out.cell 4
          have x5 : W6.cell? ⟨gx, 5, none⟩ = some (.string m1) := V3.out.cell 5
          have x6 : W6.cell? ⟨gx, 6, none⟩ = some (.string ⟨#[]⟩) := V3.out.cell 6
          have y0 : W6.cell? ⟨gy, 0, none⟩ = some (.int .i64 2) := V4.out.cell 0
          have y1 : W6.cell? ⟨gy, 1, none⟩ = some (.int .i64 (k1 : Nat)) := V4.out.cell 1
          have y2 : W6.cell? ⟨gy, 2, none⟩ = some (.int .i64 (p0 : Nat)) := V4.out.cell 2
          have y3 : W6.cell? ⟨gy, 3, none⟩ = some (.int .i64 (k3 : Nat)) := V4.out.cell 3
          have y4 : W6.cell? ⟨gy, 4, none⟩ = some (.int .i64 1) := V4.out.cell 4
          have y5 : W6.cell? ⟨gy, 5, none⟩ = some (.string m2) := V4.out.cell 5
          have y6 : W6.cell? ⟨gy, 6, none⟩ = some (.string ⟨#[]⟩) := V4.out.cell 6
          have HM : Hid (GM w.heap.size (W6.heap.size + 1 + 1 + 1 + 1 + 1) W6.heap.size (W6.heap.size + 1 + 1 + 1) (W6.heap.size + 1 + 1 + 1 + 1) (.slice (some ⟨W6.heap.size + 1, 0, none⟩) 1 1) (.slice (some ⟨W6.heap.size + 1 + 1, 0, none⟩) 1 1) (1, ((k0 : Nat) : Int), ((p1 : Nat) : Int), ((k2 : Nat) : Int), 1, m1, ⟨#[]⟩) (2, ((k1 : Nat) : Int), ((p0 : Nat) : Int), ((k3 : Nat) : Int), 1, m2, ⟨#[]⟩) [m1] [m2] 0 0 ((((((W6.alloc (.cells #[.int .i64 1, .int .i64 (k0 : Nat), .int .i64 (p1 : Nat), .int .i64 (k2 : Nat), .int .i64 1, .string m1, .string ⟨#[]⟩, .int .i64 2, .int .i64 (k1 : Nat), .int .i64 (p0 : Nat), .int .i64 (k3 : Nat), .int .i64 1, .string m2, .string ⟨#[]⟩] GreeterT)).alloc (.cells #[.string m1] StringT)).alloc (.cells #[.string m2] StringT)).alloc (.cells #[.slice (some ⟨W6.heap.size + 1, 0, none⟩) 1 1, .slice (some ⟨W6.heap.size + 1 + 1, 0, none⟩) 1 1] 31)).alloc (.cells #[.int .i64 0, .int .i64 0] 3)).alloc (.cells #[.slice (some ⟨W6.heap.size, 0, none⟩) 2 2, .slice (some ⟨W6.heap.size + 1 + 1 + 1, 0, none⟩) 2 2, .slice (some ⟨W6.heap.size + 1 + 1 + 1 + 1, 0, none⟩) 2 2] GTalkT))) := Lib.hid (GM.made W6 w.heap.size B4.out.size (1, ((k0 : Nat) : Int), ((p1 : Nat) : Int), ((k2 : Nat) : Int), 1, m1, ⟨#[]⟩) (2, ((k1 : Nat) : Int), ((p0 : Nat) : Int), ((k3 : Nat) : Int), 1, m2, ⟨#[]⟩) m1 m2)
          have B7 : Hid (Below w.heap.size w ((((((W6.alloc (.cells #[.int .i64 1, .int .i64 (k0 : Nat), .int .i64 (p1 : Nat), .int .i64 (k2 : Nat), .int .i64 1, .string m1, .string ⟨#[]⟩, .int .i64 2, .int .i64 (k1 : Nat), .int .i64 (p0 : Nat), .int .i64 (k3 : Nat), .int .i64 1, .string m2, .string ⟨#[]⟩] GreeterT)).alloc (.cells #[.string m1] StringT)).alloc (.cells #[.string m2] StringT)).alloc (.cells #[.slice (some ⟨W6.heap.size + 1, 0, none⟩) 1 1, .slice (some ⟨W6.heap.size + 1 + 1, 0, none⟩) 1 1] 31)).alloc (.cells #[.int .i64 0, .int .i64 0] 3)).alloc (.cells #[.slice (some ⟨W6.heap.size, 0, none⟩) 2 2, .slice (some ⟨W6.heap.size + 1 + 1 + 1, 0, none⟩) 2 2, .slice (some ⟨W6.heap.size + 1 + 1 + 1 + 1, 0, none⟩) 2 2] GTalkT))) := Lib.hid ((((((B4.out.alloc B4.out.size _).alloc (by have := B4.out.size; simp; omega) _).alloc (by have := B4.out.size; simp; omega) _).alloc (by have := B4.out.size; simp; omega) _).alloc (by have := B4.out.size; simp; omega) _).alloc (by have := B4.out.size; simp; omega) _)
          go_upto_region 13 with fail
          generalize ((((((W6.alloc (.cells #[.int .i64 1, .int .i64 (k0 : Nat), .int .i64 (p1 : Nat), .int .i64 (k2 : Nat), .int .i64 1, .string m1, .string ⟨#[]⟩, .int .i64 2, .int .i64 (k1 : Nat), .int .i64 (p0 : Nat), .int .i64 (k3 : Nat), .int .i64 1, .string m2, .string ⟨#[]⟩] GreeterT)).alloc (.cells #[.string m1] StringT)).alloc (.cells #[.string m2] StringT)).alloc (.cells #[.slice (some ⟨W6.heap.size + 1, 0, none⟩) 1 1, .slice (some ⟨W6.heap.size + 1 + 1, 0, none⟩) 1 1] 31)).alloc (.cells #[.int .i64 0, .int .i64 0] 3)).alloc (.cells #[.slice (some ⟨W6.heap.size, 0, none⟩) 2 2, .slice (some ⟨W6.heap.size + 1 + 1 + 1, 0, none⟩) 2 2, .slice (some ⟨W6.heap.size + 1 + 1 + 1 + 1, 0, none⟩) 2 2] GTalkT)) = W7 at *
          generalize W6.heap.size + 1 + 1 + 1 + 1 + 1 = T at *
          generalize W6.heap.size + 1 + 1 + 1 + 1 = ga at *
          generalize W6.heap.size + 1 + 1 + 1 = gs at *
          generalize (.slice (some ⟨W6.heap.size + 1, 0, none⟩) 1 1 : Value) = va at *
          generalize (.slice (some ⟨W6.heap.size + 1 + 1, 0, none⟩) 1 1 : Value) = vb at *
          generalize W6.heap.size = gl at *
          have HS0 : Hid (RunIs (events.drop 0) z0 y ∧ GP s0 s1 s2 s3 z0 ∧ GZ 0 z0 ∧ GM w.heap.size T gl gs ga va vb z0.a z0.b z0.sa z0.sb z0.ia z0.ib W7) := Lib.hid ⟨HY.out, HP0.out, HZ0.out, by rw [HQ0.out]; exact HM.out⟩
          clear HM HY HP0 HZ0 HQ0 V3 V4 B4 x0 y0 x1 y1 x2 y2 x3 y3 x4 y4 x5 y5 x6 y6
          go_wp2_with fail
          go_loopw [17] (fun c wr => ∃ j : Nat, j ≤ events.length ∧ c = .int .i64 j ∧ (∃ z va vb, Hid (RunIs (events.drop j) z y ∧ GP s0 s1 s2 s3 z ∧ GZ j z ∧ GM w.heap.size T gl gs ga va vb z.a z.b z.sa z.sb z.ia z.ib wr)) ∧ Below w.heap.size w wr) (fun c _ => events.length - (intOf c).toNat)
          case atStart => exact ⟨0, Nat.zero_le _, rfl, ⟨z0, va, vb, HS0⟩, B7.out⟩
          case round =>
            obtain ⟨i, hi, rfl, ⟨z, va, vb, HS⟩, hbr⟩ := hrel
            have HBR := Lib.hid hbr
            by_cases hli : i < events.length
            · have hli' : (i : Int) < (events.length : Int) := by omega
              have hx := List.getElem?_eq_getElem hli
              have h0 : 0 ≤ events[i] := HEV.out _ (List.getElem_mem hli)
              have hdr : events.drop i = events[i] :: events.drop (i + 1) := List.drop_eq_getElem_cons hli
              obtain ⟨hrun, hgp, hgz, hgm⟩ := HS.out
              rw [hdr] at hrun
              obtain ⟨z2, hdo, hrun2⟩ := hrun
              obtain ⟨g, off, cs, hbo, hgw, hr, hc⟩ := rows_elem HU.out i _ hx
              generalize events[i] = x at hr h0 hdo
              have hr' : cs = [.int .i64 x] := hr
              subst hr' hbo
              have d0 : wr.cell? ⟨g, off + i, none⟩ = some (.int .i64 x) := (by have h9 := hc 0 _ rfl; rw [show i * Lay.int.k = i from Nat.mul_one i] at h9; rw [hbr.cell (p := ⟨g, off + i, none⟩) hgw]; exact h9)
              have e2 : x.tmod 2 = x % 2 := Int.tmod_eq_emod_of_nonneg h0
              have e4 : x.tmod 4 = x % 4 := Int.tmod_eq_emod_of_nonneg h0
              have KD := Lib.hid (specDo_any (by omega) hgp hgz hdo (X := wr.drew) (Nat.le_trans HBR.out.size (Nat.le_refl _)) (hgm.next ((Below.refl _ _).drew)))
              rw [← e2, ← e4] at KD
              have HN := Lib.hid (And.intro hrun2 (And.intro (hgp.does hdo) (hgz.does hdo)))
              have E0 : Hid (wr.drew.cell? ⟨g, off + i, none⟩ = some (.int .i64 x) ∧ Below w.heap.size w wr.drew) := Lib.hid ⟨d0, hbr.drew⟩
              clear hdr hdo hrun2 hgp hgz hgm hc hx h0 e2 e4 hbr HS
              go_wp2_with fail
              go_region_held3 (fun X => X.cell? ⟨g, off + i, none⟩ = some (.int .i64 x) ∧ Below w.heap.size w X) (first | (with_reducible assumption) | (with_reducible exact E0.out)) (first | (go_at_call 35; refine (KD.out).mono ?_; rintro e v1 ⟨rfl, hG, hbd⟩; have hS : v1.cell? ⟨g, off + i, none⟩ = some (.int .i64 x) ∧ Below w.heap.size w v1 := ⟨(by rw [hbd.cell (p := ⟨g, off + i, none⟩) hgw]; exact d0), HBR.out.drew.trans hbd⟩))
              all_goals
                obtain ⟨va2, vb2, hG⟩ := hG
                have HN2 : Hid (RunIs (events.drop (i + 1)) z2 y ∧ GP s0 s1 s2 s3 z2 ∧ GZ (i + 1) z2 ∧ GM w.heap.size T gl gs ga va2 vb2 z2.a z2.b z2.sa z2.sb z2.ia z2.ib v1) := Lib.hid ⟨HN.out.1, HN.out.2.1, HN.out.2.2, hG⟩
                have HB2 := Lib.hid hS.2
                clear hG hS hbd
                go_wp2_with fail
                go_roundw
                case rel => exact ⟨i + 1, by omega, by go_num, ⟨z2, va2, vb2, HN2⟩, HB2.out⟩
                case measure => simp [intOf]; omega
            · have hli' : ¬ ((i : Int) < (events.length : Int)) := by omega
              have hie : i = events.length := by omega
              have hyz : y = z := by
                have h9 := HS.out.1
                rw [hie, List.drop_length] at h9
                exact h9
              obtain ⟨-, -, -, hgm⟩ := HS.out
              have t0 : wr.cell? ⟨T, 0, none⟩ = some (.slice (some ⟨gl, 0, none⟩) 2 2) := hgm.var.cell 0
              have HT := Lib.hid hgm.told
              rw [← hyz] at HT
              clear hgm hyz hie HS
              go_wp2_with fail
              exact bodyPost_ret (v := .tuple #[.slice (some ⟨gl, 0, none⟩) 2 2, .bool true]) (by simp [results, Tryz.results11, go_sem]) rfl ⟨_, [gl], rfl, by simp, HT.out, HBR.out⟩

end Go.Proofs.YtkjjdoadjhjmbauGreatDoor

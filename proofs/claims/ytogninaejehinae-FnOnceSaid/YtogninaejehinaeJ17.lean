/-
  The law on numbers that are taken once, out of the program's contracts.
-/
import Derived.Test.YtogninaejehinaeJ15
import Derived.Test.YtogninaejehinaeJ14
import Derived.Test.YtogninaejehinaeJ16
import Derived.Deep.RegionHeld3
namespace Go.Proofs.Ytogninaejehinae
open Go.RowKit

set_option maxRecDepth 100000 in
set_option maxHeartbeats 25600000 in
theorem lawOnceF (F0 : OnceFns) (a : Option Addr) (len cap : Nat) (w : World) (H : Src a len w) :
    Calls Try.prog 3 #[.slice a len cap] w fun e w' => e = .returned (.bool true) ∧ Below w.heap.size w w' := by
  obtain ⟨i0, hi0, hz0, hsz0, hby0⟩ := info_of infoInt
  have hd : decide (1048576 < (len : Int)) = false := decide_eq_false (by have := H.few; omega)
  have HBG := Lib.hid (fun w => bigN_any a len cap w)
  rw [hd] at HBG
  have HS := Lib.hid H
  have F := Lib.hid F0
  clear H hd F0
  go_enter Try.func3, Try.ntmps3
  go_wp2_with fail
  refine (HBG.out _).mono ?_
  rintro e w0 ⟨rfl, hw⟩
  rw [hw]
  clear hw w0 HBG
  go_wp2_with fail
  refine (drawNumbers_any a len cap w HS.out).mono ?_
  rintro e w1 ⟨v, es, ⟨hl, hes⟩, rfl, hr, hb⟩
  obtain ⟨ea, ek, rfl⟩ := rows_form hr
  have HE := Lib.hid hr
  have B := Lib.hid hb
  clear hr hb HS
  obtain ⟨r, htr⟩ := takes_is es []
  have hrl : r.length ≤ 20 := Nat.le_trans (takes_len htr) hl
  have HTR := Lib.hid htr
  have HCH := Lib.hid (takes_chain htr)
  have K := Lib.hid (F.out.take es _ r htr (by omega) (fun x hx => by have := hes x hx; exact ⟨by omega, by omega⟩) w1 HE.out)
  clear htr hes
  go_wp2_with fail
  refine (K.out).mono ?_
  rintro e w2 ⟨v2, f2, rfl, -, ho2, hb⟩
  obtain ⟨oa, k, rfl⟩ := rows_form (layIntS.read ho2)
  have HRR := Lib.hid (layIntS.read ho2)
  replace HE := Lib.hid (layIntS.below HE.out hb)
  replace B := Lib.hid (B.out.trans (hb.mono B.out.size))
  clear hb K ho2 f2
  have K := Lib.hid (specTakeAll_any es _ r HTR.out (by omega) w2 HE.out)
  go_wp2_with fail
  refine (K.out).mono ?_
  rintro e w3 ⟨v3, f3, rfl, -, ho3, hb⟩
  obtain ⟨oa3, k3, rfl⟩ := rows_form (layIntS.read ho3)
  replace HE := Lib.hid (layIntS.below HE.out hb)
  replace HRR := Lib.hid (layIntS.below HRR.out hb)
  replace B := Lib.hid (B.out.trans (hb.mono B.out.size))
  have K2 := Lib.hid (sameInts_same _ _ r (by omega) w3 HRR.out (layIntS.read ho3))
  clear hb K ho3 f3
  go_wp2_with fail
  refine (K2.out).mono ?_
  rintro e w4 ⟨rfl, hb⟩
  have hal : Below w4.heap.size w4 (w4.alloc (.cells #[] 3)) := (Below.refl _ _).alloc (Nat.le_refl _) _
  have HS0 : Hid (layIntS.rd (w4.alloc (.cells #[] 3)) [.slice (some ⟨w4.heap.size, 0, none⟩) ([] : List Int).length 0] []) := Lib.hid (layIntS.read (flat_lit w4 w4.heap.size (Nat.le_refl _)))
  replace HE := Lib.hid (layIntS.below (layIntS.below HE.out hb) hal)
  replace HRR := Lib.hid (layIntS.below (layIntS.below HRR.out hb) hal)
  replace B := Lib.hid ((B.out.trans (hb.mono B.out.size)).trans (hal.mono (Nat.le_trans B.out.size hb.size)))
  clear hb K2 hal
  go_upto_region 9 with fail
  generalize w4.alloc (.cells #[] 3) = V0 at *
  generalize (some ⟨w4.heap.size, 0, none⟩ : Option Addr) = sa0 at *
  go_wp2_with fail
  have nb : ∀ X Y, (Below w.heap.size w X ∧ layIntS.rd X [.slice ea es.length ek] es) → Below X.heap.size X Y → (Below w.heap.size w Y ∧ layIntS.rd Y [.slice ea es.length ek] es) := fun X Y h hb => ⟨h.1.trans (hb.mono h.1.size), layIntS.below h.2 hb⟩
  go_loopw [5, 6, 7] (fun m s c wr => ∃ (j : Nat) (sn : List Int) (sa : Option Addr) (sk : Nat), j ≤ r.length ∧ c = .int .i64 j ∧ m = .int .i64 (topZ sn) ∧ s = .slice sa sn.length sk ∧ Hid (SeenP sn) ∧ Hid (Chain sn (r.drop j)) ∧ Hid (PastP (r.take j) sn) ∧ Hid (layIntS.rd wr [.slice sa sn.length sk] sn) ∧ Hid (layIntS.rd wr [.slice oa r.length k] r) ∧ Hid (Below w.heap.size w wr ∧ layIntS.rd wr [.slice ea es.length ek] es)) (fun _ _ c _ => r.length - (intOf c).toNat)
  case atStart => exact ⟨0, [], sa0, 0, Nat.zero_le _, rfl, rfl, rfl, Lib.hid seen_none, Lib.hid (by rw [List.drop_zero]; exact HCH.out), Lib.hid (fun x hx => by rw [List.take_zero] at hx; cases hx), HS0, HRR, Lib.hid ⟨B.out, HE.out⟩⟩
  case round =>
    obtain ⟨j, sn, sa, sk, hj, rfl, rfl, rfl, HP, HC, HPA, HSN, HRR2, HB⟩ := hrel
    clear HS0 HRR B HE HCH HTR
    by_cases hlt : j < r.length
    · have hlt' : (j : Int) < (r.length : Int) := by omega
      obtain ⟨g, off, c2, hv, hg, c0⟩ := ints_get HRR2.out j hlt
      simp only [Value.slice.injEq] at hv
      obtain ⟨rfl, -, rfl⟩ := hv
      have HRR := HRR2
      clear HRR2 c0 hg
      have hjk : (j : Int) ≤ (k : Int) := by have := rows_room HRR.out; omega
      have hch := HC.out
      rw [List.drop_eq_getElem_cons hlt] at hch
      have hpn := HPA.out
      have htk : r.take (j + 1) = r.take j ++ [r[j]] := by rw [List.take_add_one, List.getElem?_eq_getElem hlt]; rfl
      obtain ⟨x, hxe⟩ : ∃ x, r[j] = x := ⟨_, rfl⟩
      have HXE := Lib.hid hxe
      rw [hxe] at hch htk
      obtain ⟨hf, s2, hn2, hc2⟩ := hch
      have hnr := note_right hf hn2
      have HN2 := Lib.hid hn2
      have HP2 := Lib.hid hnr.1
      have HNF := Lib.hid hnr.2.2
      have HC2 := Lib.hid hc2
      have HTM := Lib.hid (note_top hf hn2)
      have HPA2 : Hid (PastP (r.take (j + 1)) s2) := Lib.hid (by rw [htk]; exact past_note hpn hf hn2)
      have hnp : x ∉ r.take j := past_fresh hpn hf
      have hs6 : sn.length ≤ 6 := HP.out.1
      have hx1 := hf.2.1
      have hgt : decide (x ≤ topZ sn - 6) = false := decide_eq_false (by have := hf.2.2.2; omega)
      have htop : 0 ≤ topZ sn ∧ topZ sn ≤ 1000000000 := by
        by_cases h0 : sn = []
        · rw [h0]; exact ⟨by decide, by decide⟩
        · have := HP.out.2.1 _ (top_mem h0); omega
      have hwt : IntKind.i64.wrap (topZ sn - 6) = topZ sn - 6 := by rw [IntKind.wrap_i64]; omega
      have KIN : Hid (∀ X, layIntS.rd X [.slice (some ⟨g, off, none⟩) r.length k] r → Calls Try.prog 9 #[.slice (some ⟨g, off, none⟩) j k, .int .i64 x] X fun e Y => e = .returned (.bool false) ∧ Y = X) := Lib.hid (fun X h => by
        have h1 := rows_take h j hj
        have h2 : (r.take j).length = j := by rw [List.length_take]; omega
        exact lawIn_any (r.take j) x _ false ⟨fun e => (by cases e), fun e => absurd e hnp⟩ (by omega) X h1)
      have KFR : Hid (∀ X, layIntS.rd X [.slice sa sn.length sk] sn → Calls Try.prog 10 #[.slice sa sn.length sk, .int .i64 x] X fun e Y => e = .returned (.bool true) ∧ Below X.heap.size X Y) := Lib.hid (fun X h => F.out.fresh sn x _ true ⟨fun _ => hf, fun _ => rfl⟩ (by omega) HP.out.ints (by constructor <;> omega) X h)
      clear hxe htk hf hn2 hc2 hnr hpn hnp HC HPA
      have qv : ∀ X Y, (Hid (layIntS.rd X [.slice (some ⟨g, off, none⟩) r.length k] r ∧ layIntS.rd X [.slice sa sn.length sk] sn ∧ (Below w.heap.size w X ∧ layIntS.rd X [.slice ea es.length ek] es))) → Below X.heap.size X Y → (Hid (layIntS.rd Y [.slice (some ⟨g, off, none⟩) r.length k] r ∧ layIntS.rd Y [.slice sa sn.length sk] sn ∧ (Below w.heap.size w Y ∧ layIntS.rd Y [.slice ea es.length ek] es))) := fun X Y h hb => Lib.hid ⟨layIntS.below h.out.1 hb, layIntS.below h.out.2.1 hb, nb _ _ h.out.2.2 hb⟩
      have hdr : Below wr.heap.size wr wr.drew := (Below.refl _ _).drew
      have E0 : Hid (layIntS.rd wr.drew [.slice (some ⟨g, off, none⟩) r.length k] r ∧ layIntS.rd wr.drew [.slice sa sn.length sk] sn ∧ (Below w.heap.size w wr.drew ∧ layIntS.rd wr.drew [.slice ea es.length ek] es)) := Lib.hid ⟨layIntS.below HRR.out hdr, layIntS.below HSN.out hdr, nb _ _ HB.out hdr⟩
      go_wp2_with fail
      clear hdr
      refine wp_region_held_drew (S := fun X => Hid (layIntS.rd X [.slice (some ⟨g, off, none⟩) r.length k] r ∧ layIntS.rd X [.slice sa sn.length sk] sn ∧ (Below w.heap.size w X ∧ layIntS.rd X [.slice ea es.length ek] es))) (by kernel_rfl) E0 (fun hHeld => ?_)
      clear E0 HRR HSN HB
      generalize wr.drew = X0 at *
      refine wpAnyH_take (i := 0) (v := ?_) rfl (by kernel_rfl) (by kernel_rfl) (by kernel_rfl) (fun _ _ _ h => h) (Or.inl ⟨by kernel_rfl, ?_⟩) hHeld ?_
      rotate_left
      · intro X hX
        first | (go_simp; done) | (go_simp; with_reducible rfl)
      try simp only [Act.put, List.getElem_toArray, List.getElem_cons_zero, List.setIfInBounds_toArray, List.set_cons_zero, List.set_cons_succ]
      refine wpAnyH_take (i := 1) (v := ?_) rfl (by kernel_rfl) (by kernel_rfl) (by kernel_rfl) (fun _ _ _ h => h) (Or.inl ⟨by kernel_rfl, ?_⟩) hHeld ?_
      rotate_left
      · intro X hX
        first | (go_simp; done) | (go_simp; with_reducible rfl)
      try simp only [Act.put, List.getElem_toArray, List.getElem_cons_succ, List.getElem_cons_zero, List.setIfInBounds_toArray, List.set_cons_zero, List.set_cons_succ]
      refine wpAnyH_take (i := 2) (v := ?_) rfl (by kernel_rfl) (by kernel_rfl) (by kernel_rfl) (fun _ _ _ h => h) (Or.inl ⟨by kernel_rfl, ?_⟩) hHeld ?_
      rotate_left
      · intro X hX
        first | (go_simp; done) | (go_simp; with_reducible rfl)
      try simp only [Act.put, List.getElem_toArray, List.getElem_cons_succ, List.getElem_cons_zero, List.setIfInBounds_toArray, List.set_cons_zero, List.set_cons_succ]
      refine wpAnyH_take (i := 3) (v := ?_) rfl (by kernel_rfl) (by kernel_rfl) (by kernel_rfl) (fun _ _ _ h => h) (Or.inl ⟨by kernel_rfl, ?_⟩) hHeld ?_
      rotate_left
      · intro X hX
        first | (go_simp; done) | (go_simp; with_reducible rfl)
      try simp only [Act.put, List.getElem_toArray, List.getElem_cons_succ, List.getElem_cons_zero, List.setIfInBounds_toArray, List.set_cons_zero, List.set_cons_succ]
      refine wpAnyH_take (i := 4) (v := ?_) rfl (by kernel_rfl) (by kernel_rfl) (by kernel_rfl) (fun _ _ _ h => h) (Or.inl ⟨by kernel_rfl, ?_⟩) hHeld ?_
      rotate_left
      · intro X hX
        first | (go_simp; done) | (go_simp; with_reducible rfl)
      try simp only [Act.put, List.getElem_toArray, List.getElem_cons_succ, List.getElem_cons_zero, List.setIfInBounds_toArray, List.set_cons_zero, List.set_cons_succ]
      refine wpAnyH_take (i := 5) (v := ?_) rfl (by kernel_rfl) (by kernel_rfl) (by kernel_rfl) (fun _ _ _ h => h) (Or.inl ⟨by kernel_rfl, ?_⟩) hHeld ?_
      rotate_left
      · intro X hX
        first | (go_simp; done) | (go_simp; with_reducible rfl)
      try simp only [Act.put, List.getElem_toArray, List.getElem_cons_succ, List.getElem_cons_zero, List.setIfInBounds_toArray, List.set_cons_zero, List.set_cons_succ]
      refine wpAnyH_take (i := 6) (v := ?_) rfl (by kernel_rfl) (by kernel_rfl) (by kernel_rfl) (fun _ _ _ h => h) (Or.inl ⟨by kernel_rfl, ?_⟩) hHeld ?_
      rotate_left
      · intro X hX
        have y : X.cell? ⟨g, off + j, none⟩ = some (.int .i64 x) := (by have := ints_at hX.out.1 hlt rfl; rw [HXE.out] at this; exact this)
        first | (go_simp; done) | (go_simp; with_reducible rfl)
      try simp only [Act.put, List.getElem_toArray, List.getElem_cons_succ, List.getElem_cons_zero, List.setIfInBounds_toArray, List.set_cons_zero, List.set_cons_succ]
      refine wpAnyH_ready (rs := [7]) (by kernel_rfl) (by simp) ?_
      refine AllReadyH.cons rfl (fun K hK => ?_) AllReadyH.nil
      go_simp
      go_wp2_with (go_at_call 9; refine (KIN.out X0 hHeld.out.1).mono ?_; rintro e X1 ⟨rfl, hz9⟩; rw [hz9]; clear hz9)
      refine hK.out _ _ hHeld (fun hHeld => ?_)
      clear hK K
      try simp only [Act.put, List.getElem_toArray, List.getElem_cons_succ, List.getElem_cons_zero, List.setIfInBounds_toArray, List.set_cons_zero, List.set_cons_succ]
      refine wpAnyH_take (i := 8) (v := ?_) rfl (by kernel_rfl) (by kernel_rfl) (by kernel_rfl) (fun _ _ _ h => h) (Or.inl ⟨by kernel_rfl, ?_⟩) hHeld ?_
      rotate_left
      · intro X hX
        first | (go_simp; done) | (go_simp; with_reducible rfl)
      try simp only [Act.put, List.getElem_toArray, List.getElem_cons_succ, List.getElem_cons_zero, List.setIfInBounds_toArray, List.set_cons_zero, List.set_cons_succ]
      refine wpAnyH_take (i := 9) (v := ?_) rfl (by kernel_rfl) (by kernel_rfl) (by kernel_rfl) (fun _ _ _ h => h) (Or.inl ⟨by kernel_rfl, ?_⟩) hHeld ?_
      rotate_left
      · intro X hX
        first | (go_simp; done) | (go_simp; with_reducible rfl)
      try simp only [Act.put, List.getElem_toArray, List.getElem_cons_succ, List.getElem_cons_zero, List.setIfInBounds_toArray, List.set_cons_zero, List.set_cons_succ]
      refine wpAnyH_take (i := 10) (v := ?_) rfl (by kernel_rfl) (by kernel_rfl) (by kernel_rfl) (fun _ _ _ h => h) (Or.inl ⟨by kernel_rfl, ?_⟩) hHeld ?_
      rotate_left
      · intro X hX
        first | (go_simp; done) | (go_simp; with_reducible rfl)
      try simp only [Act.put, List.getElem_toArray, List.getElem_cons_succ, List.getElem_cons_zero, List.setIfInBounds_toArray, List.set_cons_zero, List.set_cons_succ]
      refine wpAnyH_take (i := 11) (v := ?_) rfl (by kernel_rfl) (by kernel_rfl) (by kernel_rfl) (fun _ _ _ h => h) (Or.inl ⟨by kernel_rfl, ?_⟩) hHeld ?_
      rotate_left
      · intro X hX
        first | (go_simp; done) | (go_simp; with_reducible rfl)
      try simp only [Act.put, List.getElem_toArray, List.getElem_cons_succ, List.getElem_cons_zero, List.setIfInBounds_toArray, List.set_cons_zero, List.set_cons_succ]
      refine wpAnyH_take (i := 12) (v := ?_) rfl (by kernel_rfl) (by kernel_rfl) (by kernel_rfl) (fun _ _ _ h => h) (Or.inl ⟨by kernel_rfl, ?_⟩) hHeld ?_
      rotate_left
      · intro X hX
        have y : X.cell? ⟨g, off + j, none⟩ = some (.int .i64 x) := (by have := ints_at hX.out.1 hlt rfl; rw [HXE.out] at this; exact this)
        first | (go_simp; done) | (go_simp; with_reducible rfl)
      try simp only [Act.put, List.getElem_toArray, List.getElem_cons_succ, List.getElem_cons_zero, List.setIfInBounds_toArray, List.set_cons_zero, List.set_cons_succ]
      refine wpAnyH_take (i := 13) (v := ?_) rfl (by kernel_rfl) (by kernel_rfl) (by kernel_rfl) (fun _ _ _ h => h) (Or.inl ⟨by kernel_rfl, ?_⟩) hHeld ?_
      rotate_left
      · intro X hX
        first | (go_simp; done) | (go_simp; with_reducible rfl)
      try simp only [Act.put, List.getElem_toArray, List.getElem_cons_succ, List.getElem_cons_zero, List.setIfInBounds_toArray, List.set_cons_zero, List.set_cons_succ]
      refine wpAnyH_take (i := 14) (v := ?_) rfl (by kernel_rfl) (by kernel_rfl) (by kernel_rfl) (fun _ _ _ h => h) (Or.inl ⟨by kernel_rfl, ?_⟩) hHeld ?_
      rotate_left
      · intro X hX
        first | (go_simp; done) | (go_simp; with_reducible rfl)
      try simp only [Act.put, List.getElem_toArray, List.getElem_cons_succ, List.getElem_cons_zero, List.setIfInBounds_toArray, List.set_cons_zero, List.set_cons_succ]
      refine wpAnyH_take (i := 15) (v := ?_) rfl (by kernel_rfl) (by kernel_rfl) (by kernel_rfl) (fun _ _ _ h => h) (Or.inl ⟨by kernel_rfl, ?_⟩) hHeld ?_
      rotate_left
      · intro X hX
        first | (go_simp; done) | (go_simp; with_reducible rfl)
      try simp only [Act.put, List.getElem_toArray, List.getElem_cons_succ, List.getElem_cons_zero, List.setIfInBounds_toArray, List.set_cons_zero, List.set_cons_succ]
      refine wpAnyH_take (i := 16) (v := ?_) rfl (by kernel_rfl) (by kernel_rfl) (by kernel_rfl) (fun _ _ _ h => h) (Or.inl ⟨by kernel_rfl, ?_⟩) hHeld ?_
      rotate_left
      · intro X hX
        first | (go_simp; done) | (go_simp; with_reducible rfl)
      try simp only [Act.put, List.getElem_toArray, List.getElem_cons_succ, List.getElem_cons_zero, List.setIfInBounds_toArray, List.set_cons_zero, List.set_cons_succ]
      refine wpAnyH_take (i := 17) (v := ?_) rfl (by kernel_rfl) (by kernel_rfl) (by kernel_rfl) (fun _ _ _ h => h) (Or.inl ⟨by kernel_rfl, ?_⟩) hHeld ?_
      rotate_left
      · intro X hX
        first | (go_simp; done) | (go_simp; with_reducible rfl)
      try simp only [Act.put, List.getElem_toArray, List.getElem_cons_succ, List.getElem_cons_zero, List.setIfInBounds_toArray, List.set_cons_zero, List.set_cons_succ]
      refine wpAnyH_take (i := 18) (v := ?_) rfl (by kernel_rfl) (by kernel_rfl) (by kernel_rfl) (fun _ _ _ h => h) (Or.inl ⟨by kernel_rfl, ?_⟩) hHeld ?_
      rotate_left
      · intro X hX
        first | (go_simp; done) | (go_simp; with_reducible rfl)
      try simp only [Act.put, List.getElem_toArray, List.getElem_cons_succ, List.getElem_cons_zero, List.setIfInBounds_toArray, List.set_cons_zero, List.set_cons_succ]
      refine wpAnyH_take (i := 19) (v := ?_) rfl (by kernel_rfl) (by kernel_rfl) (by kernel_rfl) (fun _ _ _ h => h) (Or.inl ⟨by kernel_rfl, ?_⟩) hHeld ?_
      rotate_left
      · intro X hX
        first | (go_simp; done) | (go_simp; with_reducible rfl)
      try simp only [Act.put, List.getElem_toArray, List.getElem_cons_succ, List.getElem_cons_zero, List.setIfInBounds_toArray, List.set_cons_zero, List.set_cons_succ]
      refine wpAnyH_take (i := 20) (v := ?_) rfl (by kernel_rfl) (by kernel_rfl) (by kernel_rfl) (fun _ _ _ h => h) (Or.inl ⟨by kernel_rfl, ?_⟩) hHeld ?_
      rotate_left
      · intro X hX
        first | (go_simp; done) | (go_simp; with_reducible rfl)
      try simp only [Act.put, List.getElem_toArray, List.getElem_cons_succ, List.getElem_cons_zero, List.setIfInBounds_toArray, List.set_cons_zero, List.set_cons_succ]
      refine wpAnyH_take (i := 21) (v := ?_) rfl (by kernel_rfl) (by kernel_rfl) (by kernel_rfl) (fun _ _ _ h => h) (Or.inl ⟨by kernel_rfl, ?_⟩) hHeld ?_
      rotate_left
      · intro X hX
        first | (go_simp; done) | (go_simp; with_reducible rfl)
      try simp only [Act.put, List.getElem_toArray, List.getElem_cons_succ, List.getElem_cons_zero, List.setIfInBounds_toArray, List.set_cons_zero, List.set_cons_succ]
      refine wpAnyH_take (i := 22) (v := ?_) rfl (by kernel_rfl) (by kernel_rfl) (by kernel_rfl) (fun _ _ _ h => h) (Or.inl ⟨by kernel_rfl, ?_⟩) hHeld ?_
      rotate_left
      · intro X hX
        have y : X.cell? ⟨g, off + j, none⟩ = some (.int .i64 x) := (by have := ints_at hX.out.1 hlt rfl; rw [HXE.out] at this; exact this)
        first | (go_simp; done) | (go_simp; with_reducible rfl)
      try simp only [Act.put, List.getElem_toArray, List.getElem_cons_succ, List.getElem_cons_zero, List.setIfInBounds_toArray, List.set_cons_zero, List.set_cons_succ]
      refine wpAnyH_ready (rs := [23]) (by kernel_rfl) (by simp) ?_
      refine AllReadyH.cons rfl (fun K hK => ?_) AllReadyH.nil
      go_simp
      go_wp2_with (go_at_call 10; refine (KFR.out X0 hHeld.out.2.1).mono ?_; rintro e X2 ⟨rfl, hb0⟩; have hS := qv _ _ hHeld hb0; clear hb0)
      refine hK.out _ _ hS (fun hHeld => ?_)
      clear hK K hS
      try simp only [Act.put, List.getElem_toArray, List.getElem_cons_succ, List.getElem_cons_zero, List.setIfInBounds_toArray, List.set_cons_zero, List.set_cons_succ]
      refine wpAnyH_take (i := 24) (v := ?_) rfl (by kernel_rfl) (by kernel_rfl) (by kernel_rfl) (fun _ _ _ h => h) (Or.inl ⟨by kernel_rfl, ?_⟩) hHeld ?_
      rotate_left
      · intro X hX
        first | (go_simp; done) | (go_simp; with_reducible rfl)
      try simp only [Act.put, List.getElem_toArray, List.getElem_cons_succ, List.getElem_cons_zero, List.setIfInBounds_toArray, List.set_cons_zero, List.set_cons_succ]
      refine wpAnyH_take (i := 25) (v := ?_) rfl (by kernel_rfl) (by kernel_rfl) (by kernel_rfl) (fun _ _ _ h => h) (Or.inl ⟨by kernel_rfl, ?_⟩) hHeld ?_
      rotate_left
      · intro X hX
        first | (go_simp; done) | (go_simp; with_reducible rfl)
      try simp only [Act.put, List.getElem_toArray, List.getElem_cons_succ, List.getElem_cons_zero, List.setIfInBounds_toArray, List.set_cons_zero, List.set_cons_succ]
      refine wpAnyH_done (by kernel_rfl) ?_ _
      have HRR := Lib.hid hHeld.out.1
      have HSN := Lib.hid hHeld.out.2.1
      have HB := Lib.hid hHeld.out.2.2
      clear hHeld qv
      have c1 : X2.cell? ⟨g, off + j, none⟩ = some (.int .i64 x) := (by have := ints_at HRR.out hlt rfl; rw [HXE.out] at this; exact this)
      have K := Lib.hid (F.out.note sn x _ s2 HN2.out (by omega) HP.out.ints (by constructor <;> omega) X2 HSN.out)
      go_wp2_with fail
      refine (K.out).mono ?_
      rintro e Z1 ⟨v2, f2, rfl, -, ho2, hb⟩
      obtain ⟨sa2, sk2, rfl⟩ := rows_form (layIntS.read ho2)
      have HS2 := Lib.hid (layIntS.read ho2)
      replace HRR := Lib.hid (layIntS.below HRR.out hb)
      replace HB := Lib.hid (nb _ _ HB.out hb)
      clear hb ho2 K HSN c1 f2
      have K := Lib.hid (F.out.ok s2 _ true ⟨fun _ => HP2.out, fun _ => rfl⟩ (by have := HP2.out.1; omega) HP2.out.ints Z1 HS2.out)
      go_wp2_with fail
      refine (K.out).mono ?_
      rintro e Z2 ⟨rfl, hb⟩
      replace HS2 := Lib.hid (layIntS.below HS2.out hb)
      replace HRR := Lib.hid (layIntS.below HRR.out hb)
      replace HB := Lib.hid (nb _ _ HB.out hb)
      clear hb K
      have c1 : Z2.cell? ⟨g, off + j, none⟩ = some (.int .i64 x) := (by have := ints_at HRR.out hlt rfl; rw [HXE.out] at this; exact this)
      have K := Lib.hid (F.out.fresh s2 x _ false ⟨fun e => (by cases e), fun e => absurd e HNF.out⟩ (by have := HP2.out.1; omega) HP2.out.ints (by constructor <;> omega) Z2 HS2.out)
      go_wp2_with fail
      refine (K.out).mono ?_
      rintro e Z3 ⟨rfl, hb⟩
      replace HS2 := Lib.hid (layIntS.below HS2.out hb)
      replace HRR := Lib.hid (layIntS.below HRR.out hb)
      replace HB := Lib.hid (nb _ _ HB.out hb)
      clear hb K c1
      have c1 : Z3.cell? ⟨g, off + j, none⟩ = some (.int .i64 x) := (by have := ints_at HRR.out hlt rfl; rw [HXE.out] at this; exact this)
      by_cases hmo : topZ sn < x
      · have HTP2 : Hid (topZ s2 = x) := Lib.hid (by rw [HTM.out]; omega)
        go_wp2_with fail
        go_roundw
        case rel => exact ⟨j + 1, s2, sa2, sk2, by omega, by go_num, by rw [HTP2.out], rfl, HP2, HC2, HPA2, HS2, HRR, HB⟩
        case measure => simp [intOf]; omega
      · have HTP2 : Hid (topZ s2 = topZ sn) := Lib.hid (by rw [HTM.out]; omega)
        have hmo' : ¬ (topZ sn < x) := hmo
        go_wp2_with fail
        go_roundw
        case rel => exact ⟨j + 1, s2, sa2, sk2, by omega, by go_num, by rw [HTP2.out], rfl, HP2, HC2, HPA2, HS2, HRR, HB⟩
        case measure => simp [intOf]; omega
    · have hlt' : ¬ ((j : Int) < (r.length : Int)) := by omega
      have HB0 := HB
      clear HP HC HPA HSN HRR2 hj
      have hal : Below wr.heap.size wr (wr.alloc (.cells #[] 3)) := (Below.refl _ _).alloc (Nat.le_refl _) _
      have O1 : Hid (layIntS.own (wr.alloc (.cells #[] 3)) wr.heap.size [wr.heap.size] [.slice (some ⟨wr.heap.size, 0, none⟩) 0 0] []) := Lib.hid (flat_lit wr _ (Nat.le_refl _))
      have B1 := Lib.hid hal
      clear hal
      generalize wr = wo at *
      go_upto_region 20 with fail
      generalize wo.alloc (.cells #[] 3) = W1 at *
      go_wp2_with fail
      go_loopw [8, 9] (fun t c wr => ∃ (i g3 k3 : Nat) (ys : List Int), i ≤ es.length ∧ c = .int .i64 i ∧ t = .slice (some ⟨g3, 0, none⟩) ys.length k3 ∧ Hid (ys = (List.range i).map fun m : Nat => (m : Int) + 1) ∧ Hid (layIntS.own wr wo.heap.size [g3] [.slice (some ⟨g3, 0, none⟩) ys.length k3] ys) ∧ Hid (Below wo.heap.size wo wr)) (fun _ c _ => es.length - (intOf c).toNat)
      case atStart => exact ⟨0, wo.heap.size, 0, [], Nat.zero_le _, rfl, rfl, Lib.hid rfl, O1, B1⟩
      case round =>
        obtain ⟨i, g3, k3, ys, hi, rfl, rfl, HY, HO, HB2⟩ := hrel
        clear O1 B1
        have HYL : Hid (ys.length = i) := Lib.hid (by rw [HY.out]; simp)
        by_cases hlt2 : i < es.length
        · have hlt2' : (i : Int) < (es.length : Int) := by omega
          have hwr : wo.heap.size ≤ wr.heap.size := HB2.out.size
          have hyl2 : ys.length + 1 ≤ 1000000000 := by have := HYL.out; omega
          have hwi : IntKind.i64.wrap ((i : Int) + 1) = (i : Int) + 1 := by rw [IntKind.wrap_i64]; omega
          have HYN : Hid (ys ++ [(i : Int) + 1] = (List.range (i + 1)).map fun m : Nat => (m : Int) + 1) := Lib.hid (by rw [List.range_succ, List.map_append, HY.out]; rfl)
          go_wp2_with (at_builtin; refine wpList_pushF wr rfl _ _ 24 rfl wo.heap.size 3 i0 _ 8 Lay.int flatIntN Try.underlying24 hi0 hz0 hsz0 hby0 rfl (by omega) (.slice (some ⟨g3, 0, none⟩) ys.length k3) [g3] ys (by rfl) HO.out ((i : Int) + 1) #[.int .i64 ((i : Int) + 1)] rfl (by rfl) hyl2 hwr ?_; intro v1 w3 hown1 hnn1 hgr1 hbe1; obtain ⟨m1, mc1, rfl, hblk, _, _⟩ := flat_some flatIntN hown1 hnn1; rw [hblk] at hown1)
          have HO3 := Lib.hid hown1
          have HB3 := Lib.hid (HB2.out.trans hbe1)
          clear hown1 hnn1 hgr1 hbe1 hblk HO HB2 hyl2 hwr
          go_wp2_with fail
          go_roundw
          case rel => exact ⟨i + 1, m1, mc1, ys ++ [(i : Int) + 1], by omega, by go_num, by rw [List.length_append]; rfl, HYN, HO3, HB3⟩
          case measure => simp [intOf]; omega
        · have hlt2' : ¬ ((i : Int) < (es.length : Int)) := by omega
          obtain ⟨r2, htr⟩ := takes_is ys []
          obtain rfl : r2 = ys := by
            have e9 : ys = (List.range i).map fun m => ((0 + m + 1 : Nat) : Int) := HY.out.trans (List.map_congr_left fun m _ => by omega)
            rw [e9] at htr
            rw [e9]
            exact takes_row (k := 0) seen_none rfl (by omega) htr
          have HYR := Lib.hid (layIntS.read HO.out)
          have B := Lib.hid (HB0.out.1.trans (HB2.out.mono HB0.out.1.size))
          have K := Lib.hid (F.out.take r2 _ r2 htr (by have := HYL.out; omega) (fun x hx => by rw [HY.out] at hx; obtain ⟨m, hm, rfl⟩ := List.mem_map.1 hx; have := List.mem_range.1 hm; exact ⟨by omega, by omega⟩) wr HYR.out)
          clear htr HO HB2 HY
          go_wp2_with fail
          refine (K.out).mono ?_
          rintro e w5 ⟨v5, f5, rfl, -, ho5, hb⟩
          obtain ⟨oa5, k5, rfl⟩ := rows_form (layIntS.read ho5)
          have K2 := Lib.hid (sameInts_same _ _ r2 (by have := HYL.out; omega) w5 (layIntS.read ho5) (layIntS.below HYR.out hb))
          replace B := Lib.hid (B.out.trans (hb.mono B.out.size))
          clear hb ho5 K f5
          go_wp2_with fail
          refine (K2.out).mono ?_
          rintro e w6 ⟨rfl, hb⟩
          replace B := Lib.hid (B.out.trans (hb.mono B.out.size))
          clear hb K2
          go_wp2_with fail
          go_ret
          exact ⟨rfl, B.out⟩

end Go.Proofs.Ytogninaejehinae

/-
  The given ReadPrefix.
-/
import Derived.Test.YtmmippdommemmaoDoorInPrefixSpec
namespace Go.Proofs.YtmmippdommemmaoDoor
open Go.RowKit

/-- How reading a prefix ends. -/
def PrefEnd (s : ByteArray) (e : Ending) : Prop :=
  (∃ a n : Nat, PrefOk a n ∧ s.data.toList = prefL a n ∧ e = .returned (.tuple #[.agg #[.int .i64 (a : Nat), .int .i64 (n : Nat)], .bool true])) ∨ ((∀ a n : Nat, PrefOk a n → s.data.toList ≠ prefL a n) ∧ e = .returned (.tuple #[.agg #[.int .i64 0, .int .i64 0], .bool false]))
/-- A text's number, or none. -/
theorem specReadDec_all (p : List UInt8) : ∃ (n : Nat) (b : Bool), n ≤ 1000000000 ∧ (∀ w, Calls Tryd.prog 9 #[.string ⟨p.toArray⟩] w fun e w' => e = .returned (.tuple #[.int .i64 n, .bool b]) ∧ Below w.heap.size w w') ∧
    ((b = true ∧ Lib.decDigits n = p) ∨ (b = false ∧ n = 0 ∧ ∀ m, m ≤ 1000000000 → Lib.decDigits m ≠ p)) := by
  by_cases h : ∃ m, m ≤ 1000000000 ∧ Lib.decDigits m = p
  · obtain ⟨m, hm, hp⟩ := h
    exact ⟨m, true, hm, fun w => specReadDec_yes m hm _ (by rw [hp]) w, .inl ⟨rfl, hp⟩⟩
  · exact ⟨0, false, by omega, fun w => specReadDec_no _ (fun m hm e => h ⟨m, hm, e.symm⟩) w, .inr ⟨rfl, rfl, fun m hm e => h ⟨m, hm, e⟩⟩⟩
theorem specReadAddr_all (p : List UInt8) (hp : p.length ≤ 100000000) : ∃ (a : Nat) (b : Bool), a ≤ 4294967295 ∧ (∀ w, Calls Tryd.prog 8 #[.string ⟨p.toArray⟩] w fun e w' => e = .returned (.tuple #[.int .i64 a, .bool b]) ∧ Below w.heap.size w w') ∧
    ((b = true ∧ addrL a = p) ∨ (b = false ∧ a = 0 ∧ ∀ m, m ≤ 4294967295 → addrL m ≠ p)) := by
  by_cases h : ∃ m, m ≤ 4294967295 ∧ addrL m = p
  · obtain ⟨m, hm, rfl⟩ := h
    exact ⟨m, true, hm, fun w => specReadAddr_yes m hm w, .inl ⟨rfl, rfl⟩⟩
  · exact ⟨0, false, by omega, fun w => specReadAddr_no _ (by show p.toArray.size ≤ _; simpa using hp) (fun m hm e => h ⟨m, hm, e.symm⟩) w, .inr ⟨rfl, rfl, fun m hm e => h ⟨m, hm, e⟩⟩⟩
theorem cutAt_len (x : UInt8) : ∀ (l cur : List UInt8), ∀ p ∈ cutAt x cur l, p.length ≤ cur.length + l.length
  | [], cur, p, h => by simp [cutAt] at h; subst h; simp
  | b :: l, cur, p, h => by
    rw [cutAt_cons] at h
    split at h
    · rcases List.mem_cons.1 h with rfl | h
      · omega
      · have := cutAt_len x l [] p h
        simp at this ⊢
        omega
    · have := cutAt_len x l (cur ++ [b]) p h
      simp at this ⊢
      omega
theorem two_of (ps : List (List UInt8)) (h : ps.length = 2) : ∃ p q, ps = [p, q] := by
  match ps, h with
  | [p, q], _ => exact ⟨p, q, rfl⟩
theorem pref_cut (l p q : List UInt8) (hc : cutAt 47 [] l = [p, q]) (a n : Nat) (e : l = prefL a n) : addrL a = p ∧ Lib.decDigits n = q := by
  rw [e, cut_pref] at hc
  simpa using hc
theorem pref_join (l p q : List UInt8) (hc : cutAt 47 [] l = [p, q]) (a n : Nat) (h1 : addrL a = p) (h2 : Lib.decDigits n = q) : l = prefL a n := by
  have h := joinAt_cut 47 l []
  rw [hc, ← h1, ← h2] at h
  exact h.symm

set_option maxRecDepth 100000 in
set_option maxHeartbeats 1600000 in
theorem specReadPrefix_any (s : ByteArray) (hs : s.size ≤ 100000000) (w : World) :
    Calls Tryd.prog 4 #[.string s] w fun e w' => PrefEnd s e ∧ Below w.heap.size w w' := by
  have P0 := Lib.hid (PV.new w PT (.int .i64 0) (.int .i64 0))
  have i0 := P0.out.v.c0
  have i1 := P0.out.v.c1
  have f0 := P0.out.v.free 0
  have f1 := P0.out.v.free 1
  have H1 := Lib.hid (specSplit_any s 47 hs)
  obtain ⟨ps, PS⟩ : ∃ ps, Hid (cutAt 47 [] s.data.toList = ps) := ⟨_, rfl⟩
  rw [PS.out] at H1
  have e47 : ((47 : UInt8).toNat : Int) = 47 := rfl
  rw [e47] at H1
  clear e47
  by_cases h2 : ps.length = 2
  · have g2 : ((ps.length : Int) != 2) = false := by rw [bne_eq_false_iff_eq]; omega
    obtain ⟨p, q, rfl⟩ := two_of ps h2
    have hpl : p.length ≤ 100000000 := by
      have h := cutAt_len 47 s.data.toList [] p (by rw [PS.out]; simp)
      have hl : s.data.toList.length = s.size := by simp
      simp at h
      omega
    obtain ⟨a, b1, ha, hA, hca⟩ := specReadAddr_all p hpl
    obtain ⟨m, b2, hm, hD, hcd⟩ := specReadDec_all q
    have HA := Lib.hid hA
    have HD := Lib.hid hD
    have CA := Lib.hid hca
    have CD := Lib.hid hcd
    clear hA hD hca hcd hpl
    go_enter Tryd.func4, Tryd.ntmps4
    go_wp2_with fail
    refine (H1.out _).mono ?_
    rintro e w1 ⟨v, rfl, hown, hb1⟩
    obtain ⟨ao, cap, rfl, hf⟩ := hown.form
    obtain ⟨g, rfl, hg, hgs, hcell⟩ := hf (by simp)
    have P1 := Lib.hid (P0.out.next hb1)
    have c0 : w1.cell? ⟨g, 0, none⟩ = some (.string ⟨p.toArray⟩) := (hcell 0 (by simp)).1
    have c1 : w1.cell? ⟨g, 1, none⟩ = some (.string ⟨q.toArray⟩) := (hcell 1 (by simp)).1
    obtain ⟨pt, PT'⟩ : ∃ t : ByteArray, Hid (t = ⟨p.toArray⟩) := ⟨_, rfl⟩
    obtain ⟨qt, QT⟩ : ∃ t : ByteArray, Hid (t = ⟨q.toArray⟩) := ⟨_, rfl⟩
    rw [← PT'.out] at c0 HA
    rw [← QT.out] at c1 HD
    clear hf hcell hown hb1
    go_wp2_with fail
    refine (HA.out _).mono ?_
    rintro e w2 ⟨rfl, hb2⟩
    have P2 := Lib.hid (P1.out.next hb2)
    rw [← hb2.cell (p := ⟨g, 1, none⟩) hgs] at c1
    clear hb2 c0
    go_wp2_with fail
    refine (HD.out _).mono ?_
    rintro e w3 ⟨rfl, hb3⟩
    have P3 := Lib.hid (P2.out.next hb3)
    have P4 := Lib.hid (P3.out.next ((Below.refl _ _).alloc (Nat.le_refl _) (.cells #[.int .i64 a, .int .i64 m] PT)))
    clear hb3 c1
    have hno : (b1 = false ∨ b2 = false) → ∀ x y : Nat, PrefOk x y → s.data.toList ≠ prefL x y := by
      intro hb x y hxy e
      obtain ⟨e1, e2⟩ := pref_cut _ p q PS.out x y e
      have hx : x ≤ 4294967295 := by have := hxy.1; omega
      have hy : y ≤ 32 := by have := hxy.2.1; omega
      rcases hb with rfl | rfl
      · rcases CA.out with ⟨h, _⟩ | ⟨_, _, h⟩
        · cases h
        · exact h x hx e1
      · rcases CD.out with ⟨h, _⟩ | ⟨_, _, h⟩
        · cases h
        · exact h y (by omega) e2
    cases b1
    · have hend := Lib.hid (hno (.inl rfl))
      clear hno
      have j0 := P4.out.v.c0
      have j1 := P4.out.v.c1
      have k0 := P4.out.v.free 0
      have k1 := P4.out.v.free 1
      have P9 := Lib.hid (P4.out.set2 (.int .i64 0) (.int .i64 0))
      have l0 := P9.out.v.c0
      have l1 := P9.out.v.c1
      go_wp2_with fail
      exact bodyPost_ret (v := .tuple #[.agg #[.int .i64 0, .int .i64 0], .bool false]) (by simp [results, Tryd.results4, go_sem, l0, l1]) rfl ⟨.inr ⟨hend.out, rfl⟩, P9.out.below⟩
    · cases b2
      · have hend := Lib.hid (hno (.inr rfl))
        clear hno
        have j0 := P4.out.v.c0
        have j1 := P4.out.v.c1
        have k0 := P4.out.v.free 0
        have k1 := P4.out.v.free 1
        have P9 := Lib.hid (P4.out.set2 (.int .i64 0) (.int .i64 0))
        have l0 := P9.out.v.c0
        have l1 := P9.out.v.c1
        go_wp2_with fail
        exact bodyPost_ret (v := .tuple #[.agg #[.int .i64 0, .int .i64 0], .bool false]) (by simp [results, Tryd.results4, go_sem, l0, l1]) rfl ⟨.inr ⟨hend.out, rfl⟩, P9.out.below⟩
      · clear hno
        have ea : addrL a = p := by
          rcases CA.out with ⟨_, h⟩ | ⟨h, _, _⟩
          · exact h
          · cases h
        have em : Lib.decDigits m = q := by
          rcases CD.out with ⟨_, h⟩ | ⟨h, _, _⟩
          · exact h
          · cases h
        by_cases hok : PrefOk a m
        · have HK := Lib.hid (specPrefixOk_right a m hok)
          have hjoin := Lib.hid (pref_join _ p q PS.out a m ea em)
          have V4 := Lib.hid (VarP.new w3 PT (.int .i64 a) (.int .i64 m))
          clear ea em
          go_wp2_with fail
          refine (HK.out _).mono ?_
          rintro e w5 ⟨rfl, hb5⟩
          have P5 := Lib.hid (P4.out.next hb5)
          have V5 := Lib.hid (V4.out.next hb5)
          have o0 := V5.out.c0
          have o1 := V5.out.c1
          have j0 := P5.out.v.c0
          have j1 := P5.out.v.c1
          have k0 := P5.out.v.free 0
          have k1 := P5.out.v.free 1
          have P9 := Lib.hid (P5.out.set2 (.int .i64 a) (.int .i64 m))
          have l0 := P9.out.v.c0
          have l1 := P9.out.v.c1
          clear hb5
          go_wp2_with fail
          exact bodyPost_ret (v := .tuple #[.agg #[.int .i64 a, .int .i64 m], .bool true]) (by simp [results, Tryd.results4, go_sem, l0, l1]) rfl ⟨.inl ⟨a, m, hok, hjoin.out, rfl⟩, P9.out.below⟩
        · have HK := Lib.hid (specPrefixOk_wrong a m hok)
          have hend : Hid (∀ x y : Nat, PrefOk x y → s.data.toList ≠ prefL x y) := fun x y hxy e => by
            obtain ⟨e1, e2⟩ := pref_cut _ p q PS.out x y e
            have hx : x = a := addrL_inj _ _ (e1.trans ea.symm)
            have hy : y = m := dec_inj _ _ (e2.trans em.symm)
            subst hx hy
            exact hok hxy
          clear ea em
          go_wp2_with fail
          refine (HK.out _).mono ?_
          rintro e w5 ⟨rfl, hb5⟩
          have P5 := Lib.hid (P4.out.next hb5)
          have j0 := P5.out.v.c0
          have j1 := P5.out.v.c1
          have k0 := P5.out.v.free 0
          have k1 := P5.out.v.free 1
          have P9 := Lib.hid (P5.out.set2 (.int .i64 0) (.int .i64 0))
          have l0 := P9.out.v.c0
          have l1 := P9.out.v.c1
          clear hb5
          go_wp2_with fail
          exact bodyPost_ret (v := .tuple #[.agg #[.int .i64 0, .int .i64 0], .bool false]) (by simp [results, Tryd.results4, go_sem, l0, l1]) rfl ⟨.inr ⟨hend.out, rfl⟩, P9.out.below⟩
  · have g2 : ((ps.length : Int) != 2) = true := by rw [bne_iff_ne]; omega
    have hend : Hid (∀ a n : Nat, PrefOk a n → s.data.toList ≠ prefL a n) := fun a n _ e => h2 (by rw [← PS.out, e, cut_pref]; rfl)
    go_enter Tryd.func4, Tryd.ntmps4
    go_wp2_with fail
    refine (H1.out _).mono ?_
    rintro e w1 ⟨v, rfl, hown, hb1⟩
    obtain ⟨ao, cap, rfl, hf⟩ := hown.form
    have P1 := Lib.hid (P0.out.next hb1)
    have j0 := P1.out.v.c0
    have j1 := P1.out.v.c1
    have k0 := P1.out.v.free 0
    have k1 := P1.out.v.free 1
    have P2 := Lib.hid (P1.out.set2 (.int .i64 0) (.int .i64 0))
    have l0 := P2.out.v.c0
    have l1 := P2.out.v.c1
    clear hf hown hb1
    go_wp2_with fail
    exact bodyPost_ret (v := .tuple #[.agg #[.int .i64 0, .int .i64 0], .bool false]) (by simp [results, Tryd.results4, go_sem, l0, l1]) rfl ⟨.inr ⟨hend.out, rfl⟩, P2.out.below⟩

theorem specReadPrefix_yes (a n : Nat) (h : PrefOk a n) (w : World) :
    Calls Tryd.prog 4 #[.string (prefP a n)] w fun e w' => e = .returned (.tuple #[.agg #[.int .i64 (a : Nat), .int .i64 (n : Nat)], .bool true]) ∧ Below w.heap.size w w' := by
  have ha : a ≤ 4294967295 := by have := h.1; omega
  have hn : n ≤ 32 := by have := h.2.1; omega
  have hz := prefP_size a n ha hn
  have hl : (prefP a n).data.toList = prefL a n := by simp [prefP]
  refine (specReadPrefix_any (prefP a n) (by omega) w).mono ?_
  rintro e w' ⟨⟨b, m, _, h2, rfl⟩ | ⟨h3, _⟩, hb⟩
  · obtain ⟨rfl, rfl⟩ := prefL_inj a n b m (hl.symm.trans h2)
    exact ⟨rfl, hb⟩
  · exact absurd hl (h3 a n h)
theorem specReadPrefix_no (s : ByteArray) (hs : s.size ≤ 100000000) (h : ∀ a n : Nat, PrefOk a n → s.data.toList ≠ prefL a n) (w : World) :
    Calls Tryd.prog 4 #[.string s] w fun e w' => e = .returned (.tuple #[.agg #[.int .i64 0, .int .i64 0], .bool false]) ∧ Below w.heap.size w w' := by
  refine (specReadPrefix_any s hs w).mono ?_
  rintro e w' ⟨⟨b, m, h1, h2, rfl⟩ | ⟨_, h2⟩, hb⟩
  · exact absurd h2 (h b m h1)
  · exact ⟨h2, hb⟩

end Go.Proofs.YtmmippdommemmaoDoor

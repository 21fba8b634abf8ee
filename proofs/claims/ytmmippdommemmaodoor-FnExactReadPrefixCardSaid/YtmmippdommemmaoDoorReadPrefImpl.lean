/-
  The program's ReadPrefix.
-/
import Derived.Test.YtmmippdommemmaoDoorReadAddrImpl
import Derived.Test.YtmmippdommemmaoDoorReadPrefixSpec
import Derived.Test.YtmmippdommemmaoDoorReadDecBack
import Derived.Test.YtmmippdommemmaoDoorAddrImpl
namespace Go.Proofs.YtmmippdommemmaoDoor
open Go.RowKit

/-- What the library's cutting gives besides. -/
structure CutGives (L : World → Prop) : Prop extends SplitGives L where
  cut : ∀ s : ByteArray, s.size ≤ 1048576 → ∀ X, L X → Calls Tryd.prog 11 #[.string s, .string ⟨#[47]⟩] X fun e Y =>
    (∃ b : Bool, e = .returned (.tuple #[.string ⟨(Lib.cut s.data.toList [47]).1.toArray⟩, .string ⟨(Lib.cut s.data.toList [47]).2.1.toArray⟩, .bool b])) ∧ Below X.heap.size X Y

theorem implReadAddr_all (L : World → Prop) (hL : SplitGives L) (p : List UInt8) (hp : p.length ≤ 1048576) : ∃ (a : Nat) (b : Bool), a ≤ 4294967295 ∧ (∀ w, L w → Calls Tryd.prog 12 #[.string ⟨p.toArray⟩] w fun e w' => e = .returned (.tuple #[.int .i64 a, .bool b]) ∧ Below w.heap.size w w') ∧
    ((b = true ∧ addrL a = p) ∨ (b = false ∧ a = 0 ∧ ∀ m, m ≤ 4294967295 → addrL m ≠ p)) := by
  by_cases h : ∃ m, m ≤ 4294967295 ∧ addrL m = p
  · obtain ⟨m, hm, rfl⟩ := h
    exact ⟨m, true, hm, fun w hw => implReadAddr_yesL L hL m hm w hw, .inl ⟨rfl, rfl⟩⟩
  · exact ⟨0, false, by omega, fun w hw => implReadAddr_noL L hL _ (by show p.toArray.size ≤ _; simpa using hp) (fun m hm e => h ⟨m, hm, e.symm⟩) w hw, .inr ⟨rfl, rfl, fun m hm e => h ⟨m, hm, e⟩⟩⟩
theorem addrL_ne (a : Nat) : addrL a ≠ [] := by
  unfold addrL
  rw [joinAt_four]
  have := dec_ne (a / 16777216)
  simp [this]
/-- A text's two parts at its first stroke: it is a prefix just if they are an address and a number that make one. -/
theorem pref_parts (l p q : List UInt8) (h : (47 ∉ l ∧ p = l ∧ q = []) ∨ (l = p ++ 47 :: q ∧ 47 ∉ p)) (a n : Nat) : l = prefL a n ↔ (addrL a = p ∧ Lib.decDigits n = q) := by
  constructor
  · intro e
    rcases h with ⟨h1, _, _⟩ | ⟨h1, h2⟩
    · exfalso
      apply h1
      rw [e]
      unfold prefL
      rw [joinAt_two]
      simp
    · have hc := cut_pref a n
      rw [← e, h1, cutAt_part 47 q p [] h2] at hc
      simp only [List.nil_append, List.cons.injEq] at hc
      have hj := joinAt_cut 47 q []
      rw [hc.2, joinAt_one] at hj
      exact ⟨hc.1.symm, hj⟩
  · rintro ⟨h1, h2⟩
    rcases h with ⟨_, _, h5⟩ | ⟨h3, h4⟩
    · exact absurd (h2.trans h5) (dec_ne n)
    · rw [h3, ← h1, ← h2]
      unfold prefL
      rw [joinAt_two]

set_option maxRecDepth 100000 in
set_option maxHeartbeats 1600000 in
theorem implReadPrefix_any (L : World → Prop) (hL : CutGives L) (s : ByteArray) (hs : s.size ≤ 1048576) (w : World) (hw : L w) :
    Calls Tryd.prog 5 #[.string s] w fun e w' => PrefEnd s e ∧ Below w.heap.size w w' := by
  have P0 := Lib.hid (PV.new w PT (.int .i64 0) (.int .i64 0))
  have H1 := Lib.hid (hL.cut s hs)
  have hcut := cut_one 47 s
  obtain ⟨p, hp⟩ : ∃ p, (Lib.cut s.data.toList [47]).1 = p := ⟨_, rfl⟩
  obtain ⟨q, hq⟩ : ∃ q, (Lib.cut s.data.toList [47]).2.1 = q := ⟨_, rfl⟩
  rw [hp, hq] at hcut H1
  have hsl : s.data.toList.length = s.size := by simp
  have hpar : (47 ∉ s.data.toList ∧ p = s.data.toList ∧ q = []) ∨ (s.data.toList = p ++ 47 :: q ∧ 47 ∉ p) := by
    rcases hcut with ⟨h1, h2, h3⟩ | ⟨p', r', h1, h2, h3, h4⟩
    · exact .inl ⟨h1, h2, h3⟩
    · subst h3 h4
      exact .inr ⟨h1, h2⟩
  have hpl : p.length ≤ 1048576 := by
    rcases hpar with ⟨_, h2, _⟩ | ⟨h1, _⟩
    · rw [h2, hsl]; exact hs
    · have := congrArg List.length h1
      rw [hsl] at this
      simp at this
      omega
  have HP := Lib.hid (pref_parts s.data.toList p q hpar)
  obtain ⟨a, b1, ha, hA, hca⟩ := implReadAddr_all L hL.toSplitGives p hpl
  obtain ⟨m, b2, hm, hD, hcd⟩ := implReadDec_all q
  have HA := Lib.hid hA
  have HD := Lib.hid hD
  have CA := Lib.hid hca
  have CD := Lib.hid hcd
  have HS := Lib.hid hL.stays
  have HW := Lib.hid hw
  clear hA hD hca hcd hpl hL hw hpar hcut hp hq hsl
  have NO1 : b1 = false → PrefEnd s (.returned (.tuple #[.agg #[.int .i64 0, .int .i64 0], .bool false])) := by
    intro h
    refine .inr ⟨fun a' n' hok e => ?_, rfl⟩
    have e2 := (HP.out a' n').1 e
    rcases CA.out with h1 | h1
    · rw [h] at h1; exact Bool.noConfusion h1.1
    · have := hok.1
      exact h1.2.2 a' (by omega) e2.1
  have NO2 : b2 = false → PrefEnd s (.returned (.tuple #[.agg #[.int .i64 0, .int .i64 0], .bool false])) := by
    intro h
    refine .inr ⟨fun a' n' hok e => ?_, rfl⟩
    have e2 := (HP.out a' n').1 e
    rcases CD.out with h1 | h1
    · rw [h] at h1; exact Bool.noConfusion h1.1
    · have := hok.2.1
      exact h1.2.2 n' (by omega) e2.2
  have NO3 : b1 = true → b2 = true → ¬ PrefOk a m → PrefEnd s (.returned (.tuple #[.agg #[.int .i64 0, .int .i64 0], .bool false])) := by
    intro h1 h2 h3
    refine .inr ⟨fun a' n' hok e => ?_, rfl⟩
    have e2 := (HP.out a' n').1 e
    rcases CA.out with g1 | g1
    · rcases CD.out with g2 | g2
      · have k1 := addrL_inj a a' (g1.2.trans e2.1.symm)
        have k2 := dec_inj m n' (g2.2.trans e2.2.symm)
        rw [k1, k2] at h3
        exact h3 hok
      · rw [h2] at g2; exact Bool.noConfusion g2.1
    · rw [h1] at g1; exact Bool.noConfusion g1.1
  have YES : b1 = true → b2 = true → PrefOk a m → PrefEnd s (.returned (.tuple #[.agg #[.int .i64 (a : Nat), .int .i64 (m : Nat)], .bool true])) := by
    intro h1 h2 h3
    refine .inl ⟨a, m, h3, ?_, rfl⟩
    rcases CA.out with g1 | g1
    · rcases CD.out with g2 | g2
      · exact (HP.out a m).2 ⟨g1.2, g2.2⟩
      · rw [h2] at g2; exact Bool.noConfusion g2.1
    · rw [h1] at g1; exact Bool.noConfusion g1.1
  have N1 := Lib.hid NO1
  have N2 := Lib.hid NO2
  have N3 := Lib.hid NO3
  have Y1 := Lib.hid YES
  have HOKY := Lib.hid (implPrefixOk_yes a m)
  have HOKN := Lib.hid (implPrefixOk_no a m)
  clear NO1 NO2 NO3 YES
  go_enter Tryd.func5, Tryd.ntmps5
  go_wp2_with fail
  refine (H1.out _ (HS.out _ _ HW.out P0.out.below)).mono ?_
  rintro e w1 ⟨⟨bb, rfl⟩, hb1⟩
  have P1 := Lib.hid (P0.out.next hb1)
  clear hb1
  go_wp2_with fail
  refine (HA.out _ (HS.out _ _ HW.out P1.out.below)).mono ?_
  rintro e w2 ⟨rfl, hb2⟩
  have P2 := Lib.hid (P1.out.next hb2)
  clear hb2
  go_wp2_with fail
  refine (HD.out _).mono ?_
  rintro e w3 ⟨rfl, hb3⟩
  have P3 := P2.out.next hb3
  have i0 := P3.v.c0
  have i1 := P3.v.c1
  have j0 := P3.v.free 0
  have j1 := P3.v.free 1
  have Q0 := PV.new w3 PT (.int .i64 a) (.int .i64 m)
  have q0 := Q0.v.c0
  have q1 := Q0.v.c1
  have P4 := P3.next Q0.below
  have r0 := P4.v.c0
  have r1 := P4.v.c1
  have s0 := P4.v.free 0
  have s1 := P4.v.free 1
  have PZ := P4.set2 (.int .i64 0) (.int .i64 0)
  have z0 := PZ.v.c0
  have z1 := PZ.v.c1
  have HBZ := Lib.hid PZ.below
  have HP4 := Lib.hid P4
  have HQ0 := Lib.hid Q0
  clear hb3 P3 P4 PZ Q0
  cases b1 with
  | false =>
    go_wp2_with fail
    exact bodyPost_ret (v := .tuple #[.agg #[.int .i64 0, .int .i64 0], .bool false]) (by simp [results, Tryd.results5, go_sem, z0, z1]) rfl ⟨N1.out (by simp), HBZ.out⟩
  | true =>
    cases b2 with
    | false =>
      go_wp2_with fail
      exact bodyPost_ret (v := .tuple #[.agg #[.int .i64 0, .int .i64 0], .bool false]) (by simp [results, Tryd.results5, go_sem, z0, z1]) rfl ⟨N2.out (by simp), HBZ.out⟩
    | true =>
      by_cases hok : PrefOk a m
      · have HC := Lib.hid (HOKY.out hok)
        have HY := Lib.hid (Y1.out rfl rfl hok)
        clear hok
        go_wp2_with fail
        refine (HC.out _).mono ?_
        rintro e w4 ⟨rfl, hb4⟩
        have P5 := HP4.out.next hb4
        have a0 := P5.v.c0
        have a1 := P5.v.c1
        have b0 := P5.v.free 0
        have b1 := P5.v.free 1
        have Q5 := HQ0.out.next hb4
        have c0 := Q5.v.c0
        have c1 := Q5.v.c1
        have PS := P5.set2 (.int .i64 a) (.int .i64 m)
        have d0 := PS.v.c0
        have d1 := PS.v.c1
        have HB5 := Lib.hid PS.below
        clear hb4 P5 Q5 PS
        go_wp2_with fail
        exact bodyPost_ret (v := .tuple #[.agg #[.int .i64 a, .int .i64 m], .bool true]) (by simp [results, Tryd.results5, go_sem, d0, d1]) rfl ⟨HY.out, HB5.out⟩
      · have HC := Lib.hid (HOKN.out hok)
        have HY := Lib.hid (N3.out rfl rfl hok)
        clear hok
        go_wp2_with fail
        refine (HC.out _).mono ?_
        rintro e w4 ⟨rfl, hb4⟩
        have P5 := HP4.out.next hb4
        have a0 := P5.v.c0
        have a1 := P5.v.c1
        have b0 := P5.v.free 0
        have b1 := P5.v.free 1
        have PS := P5.set2 (.int .i64 0) (.int .i64 0)
        have d0 := PS.v.c0
        have d1 := PS.v.c1
        have HB5 := Lib.hid PS.below
        clear hb4 P5 PS
        go_wp2_with fail
        exact bodyPost_ret (v := .tuple #[.agg #[.int .i64 0, .int .i64 0], .bool false]) (by simp [results, Tryd.results5, go_sem, d0, d1]) rfl ⟨HY.out, HB5.out⟩

theorem implReadPrefix_yesL (L : World → Prop) (hL : CutGives L) (a n : Nat) (h : PrefOk a n) (w : World) (hw : L w) :
    Calls Tryd.prog 5 #[.string (prefP a n)] w fun e w' => e = .returned (.tuple #[.agg #[.int .i64 (a : Nat), .int .i64 (n : Nat)], .bool true]) ∧ Below w.heap.size w w' := by
  have h1 := h.1
  have h2 := h.2.1
  have hz := prefP_size a n (by omega) (by omega)
  have hl : (prefP a n).data.toList = prefL a n := by simp [prefP]
  refine (implReadPrefix_any L hL (prefP a n) (by omega) w hw).mono ?_
  rintro e w' ⟨⟨b, m, _, h4, rfl⟩ | ⟨h3, _⟩, hb⟩
  · obtain ⟨rfl, rfl⟩ := prefL_inj a n b m (hl.symm.trans h4)
    exact ⟨rfl, hb⟩
  · exact absurd hl (h3 a n h)
theorem implReadPrefix_noL (L : World → Prop) (hL : CutGives L) (s : ByteArray) (hs : s.size ≤ 1048576) (h : ∀ a n : Nat, PrefOk a n → s.data.toList ≠ prefL a n) (w : World) (hw : L w) :
    Calls Tryd.prog 5 #[.string s] w fun e w' => e = .returned (.tuple #[.agg #[.int .i64 0, .int .i64 0], .bool false]) ∧ Below w.heap.size w w' := by
  refine (implReadPrefix_any L hL s hs w hw).mono ?_
  rintro e w' ⟨⟨b, m, h1, h2, rfl⟩ | ⟨_, h2⟩, hb⟩
  · exact absurd h2 (h b m h1)
  · exact ⟨h2, hb⟩

end Go.Proofs.YtmmippdommemmaoDoor

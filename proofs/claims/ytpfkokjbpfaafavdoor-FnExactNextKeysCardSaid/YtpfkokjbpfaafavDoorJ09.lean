/-
  The given HashMore, by what it answers.
-/
import Derived.Test.YtpfkokjbpfaafavDoorJ08
namespace Go.Proofs.YtpfkokjbpfaafavDoor
open Go.RowKit

/-- A hasher, as a value. -/
def hasherV (st rest : ByteArray) (n : Int) : Value := .agg #[.string st, .string rest, .int .i64 n]

theorem join_bytes (a b : ByteArray) : (a ++ b).data.toList = a.data.toList ++ b.data.toList := by simp
theorem slice_block (s : ByteArray) (k : Nat) : (s.extract (64 * k) (64 * k + 64)).data.toList = blockAt s.data.toList k := by
  unfold blockAt
  simp

theorem extract_end (b : ByteArray) (m : Nat) : (⟨(b.data.toList.drop m).toArray⟩ : ByteArray) = b.extract m b.size := by
  apply ByteArray.ext
  apply Array.toList_inj.1
  simp
  exact (List.take_of_length_le (by simp)).symm

/-- The parameter and the result, each in a block of its own; what was there ahead of w is as it was. -/
structure TwoVars (w : World) (t : TypeId) (a b c : Value) (X : World) : Prop where
  v : Var3 w.heap.size t a b c X
  r : Var3 (w.heap.size + 1) t (.string ⟨#[]⟩) (.string ⟨#[]⟩) (.int .i64 0) X
  below : Below w.heap.size w X
theorem TwoVars.next {w : World} {t : TypeId} {a b c : Value} {X Y : World} (h : TwoVars w t a b c X) (hb : Below X.heap.size X Y) : TwoVars w t a b c Y :=
  ⟨h.v.next hb, h.r.next hb, h.below.trans (hb.mono h.below.size)⟩
theorem TwoVars.new (w : World) (t : TypeId) (a b c : Value) : TwoVars w t a b c ((w.alloc (.cells #[a, b, c] t)).alloc (.cells #[.string ⟨#[]⟩, .string ⟨#[]⟩, .int .i64 0] t)) := by
  refine ⟨(Var3.new w t a b c).next ((Below.refl _ _).alloc (Nat.le_refl _) _), ?_, ((Below.refl _ _).alloc (Nat.le_refl _) _).alloc (by simp) _⟩
  have h := Var3.new (w.alloc (.cells #[a, b, c] t)) t (.string ⟨#[]⟩) (.string ⟨#[]⟩) (.int .i64 0)
  have e : (w.alloc (.cells #[a, b, c] t)).heap.size = w.heap.size + 1 := by simp
  rw [e] at h
  exact h

set_option maxRecDepth 100000 in
set_option maxHeartbeats 1600000 in
theorem specHashMore_yes (st rest : ByteArray) (n : Int) (s : ByteArray) (h : HOk st rest n) (hn : n + (s.size : Int) ≤ 1000000000) (hs : s.size ≤ 500000000) (w : World) :
    Calls Tryd.prog 9 #[.agg #[.string st, .string rest, .int .i64 n], .string s] w fun e w' => e = .returned (.agg #[.string ⟨(bytesOf (moreState st rest s)).toArray⟩, .string ⟨(moreRest rest s).toArray⟩, .int .i64 (n + (s.size : Int))]) ∧ Below w.heap.size w w' := by
  have H0 := Lib.hid (specHasherOk_yes st rest n h)
  obtain ⟨h1, h2, h3, h4, h5⟩ := h
  have hnn : ¬ (1000000000 < n + (s.size : Int)) := by omega
  have H1 := Lib.hid (specWords_any st (by omega))
  have H2 := Lib.hid specK_any
  have T0 := Lib.hid (TwoVars.new w 28 (.string st) (.string rest) (.int .i64 n))
  go_enter Tryd.func9, Tryd.ntmps9
  go_wp2_with fail
  refine (H0.out _).mono ?_
  rintro e w1 ⟨rfl, hb1⟩
  have T1 := Lib.hid (T0.out.next hb1)
  have a0 := T1.out.v.c0
  have a2 := T1.out.v.c2
  clear hb1 T0 H0
  go_wp2_with fail
  refine (H1.out _).mono ?_
  rintro e w2 ⟨v, rfl, hown, hb2⟩
  have T2 := Lib.hid (T1.out.next hb2)
  have HO2 := Lib.hid (hown.mono (T1.out.below.size))
  clear hb2 T1 H1 a0 a2 hown
  go_wp2_with fail
  refine (H2.out _).mono ?_
  rintro e wk ⟨gk, ck, rfl, hgk, hck, hbk⟩
  have Tk := Lib.hid (T2.out.next hbk)
  have HOk := Lib.hid (HO2.out.below hbk)
  have HCK := Lib.hid hck
  have b1 := Tk.out.v.c1
  have hjoin : ¬ 9223372036854775807 < rest.size + s.size := by omega
  have hbz : (rest ++ s).size = rest.size + s.size := ByteArray.size_append
  clear hbk hck T2 HO2 H2
  go_wp2_with fail
  obtain ⟨S0, HS0⟩ : ∃ S0, Hid (S0 = wordsOf st.data.toList) := ⟨_, rfl⟩
  have hs8 : S0.length = 8 := by rw [HS0.out, wordsOf_length]; simp; omega
  have hsw : Words S0 := by rw [HS0.out]; exact wordsOf_words _
  rw [← HS0.out] at HOk
  obtain ⟨buf, HBUF⟩ : ∃ buf, Hid (buf = rest ++ s) := ⟨_, rfl⟩
  rw [← HBUF.out] at hbz
  have hbf : buf.size ≤ 500000064 := by omega
  have HBZ := Lib.hid hbz
  clear hbz
  simp only [← HBUF.out]
  clear b1 hjoin
  go_loopw [5, 8] (fun v i wr => ∃ k : Nat, 64 * k ≤ buf.size ∧ i = .int .i64 ((64 * k : Nat) : Int) ∧ OwnW wr w.heap.size 31 v (eatUp S0 buf.data.toList k) ∧ Below wk.heap.size wk wr) (fun _ i _ => buf.size - (intOf i).toNat)
  case atStart =>
    exact ⟨0, by omega, rfl, HOk.out, Below.refl _ _⟩
  case round =>
    obtain ⟨k, hk, rfl, hown, hnx⟩ := hrel
    have hl := eatUp_length S0 buf.data.toList hs8 k
    have hw := eatUp_words S0 buf.data.toList hsw k
    obtain ⟨m, HM⟩ : ∃ m : Nat, Hid (m = 64 * k) := ⟨_, rfl⟩
    rw [← HM.out] at hk ⊢
    obtain ⟨gs, cs, rfl, hgs0, hgs, hcs⟩ := hown.form (by omega)
    rw [hl] at hcs ⊢
    have hgk2 : gk < wr.heap.size := Nat.lt_of_lt_of_le hgk hnx.size
    have HN := Lib.hid hnx
    by_cases hlt : m + 64 ≤ buf.size
    · have q1 : (m : Int) + 64 ≤ (buf.size : Int) := by omega
      have hck2 : ∀ j, j < 64 → wr.cell? ⟨gk, j, none⟩ = some (.int .u32 (kTab.getD j 0 : Nat)) := fun j hj => by rw [hnx.cell (p := ⟨gk, j, none⟩) hgk]; exact HCK.out j hj
      have hblk : (buf.extract m (m + 64)).size = 64 := by simp [ByteArray.size_extract]; omega
      have H3 := Lib.hid (specRound_any gs cs gk ck _ hw hl (buf.extract m (m + 64)) hblk wr hcs hck2 hgs hgk2)
      have e1 : (buf.extract m (m + 64)).data.toList = blockAt buf.data.toList k := by rw [HM.out]; exact slice_block buf k
      rw [e1] at H3
      clear hck2 hblk hcs hnx hown e1
      go_wp2_with fail
      refine (H3.out).mono ?_
      rintro e w5 ⟨v', rfl, hown5, hb5⟩
      have hm5 : w.heap.size ≤ wr.heap.size := Nat.le_trans Tk.out.below.size HN.out.size
      have HO5 := Lib.hid (hown5.mono hm5)
      have HB5 := Lib.hid (HN.out.trans (hb5.mono HN.out.size))
      clear hown5 hb5
      go_wp2_with fail
      go_roundw
      case rel =>
        refine ⟨k + 1, by have := HM.out; omega, by have := HM.out; go_num, HO5.out, HB5.out⟩
      case measure => simp [intOf]; omega
    · have q1 : ¬ ((m : Int) + 64 ≤ (buf.size : Int)) := by omega
      have q2 : (m : Int) ≤ (buf.size : Int) := by omega
      have hwn : IntKind.i64.wrap (n + (s.size : Int)) = n + (s.size : Int) := by rw [IntKind.wrap_i64]; omega
      have Tr := Lib.hid (Tk.out.next hnx)
      have Td := Lib.hid (Tr.out.next ((Below.refl _ wr).drew))
      have cd := Td.out.v.c2
      have H4 := Lib.hid (specBytes_any gs cs _ hw (by omega) wr.drew (fun j hj => hcs j (by omega)) hgs)
      have hk64 : k = (rest.size + s.size) / 64 := by have := HM.out; have := HBZ.out; omega
      have e3 : eatUp S0 buf.data.toList k = moreState st rest s := by unfold moreState; rw [← hk64, HS0.out, HBUF.out, join_bytes]
      have e4 : (⟨(moreRest rest s).toArray⟩ : ByteArray) = buf.extract m buf.size := by
        have hm := HM.out
        unfold moreRest
        rw [← hk64, ← hm]
        have : buf.data.toList = rest.data.toList ++ s.data.toList := by rw [HBUF.out, join_bytes]
        rw [← this]
        exact extract_end buf m
      rw [hl, e3] at H4
      have E4 := Lib.hid e4
      clear hcs hnx hown e3 e4 hw hl
      go_wp2_with fail
      go_region_held3 (fun X => X.cell? ⟨w.heap.size, 2, none⟩ = some (.int .i64 n)) (first | assumption | go_keep) (first | (go_at_call 19; refine (H4.out).mono ?_; rintro e v1 ⟨rfl, hb6⟩; have Tv := Td.out.next hb6; have s1 := Tv.v.c2; have r0 := Tv.r.c0; have r1 := Tv.r.c1; have r2 := Tv.r.c2; have f0 := Tv.r.free 0; have f1 := Tv.r.free 1; have f2 := Tv.r.free 2; have hTv := Lib.hid Tv; clear Tv hb6))
      all_goals
        go_wp2_with fail
        have V3 := hTv.out.r.set3 (.string ⟨(bytesOf (moreState st rest s)).toArray⟩) (.string (buf.extract m buf.size)) (.int .i64 (n + (s.size : Int)))
        have d0 := V3.c0
        have d1 := V3.c1
        have d2 := V3.c2
        refine bodyPost_ret (v := .agg #[.string ⟨(bytesOf (moreState st rest s)).toArray⟩, .string (buf.extract m buf.size), .int .i64 (n + (s.size : Int))]) (by simp [results, Tryd.results9, go_sem, d0, d1, d2]) rfl ⟨by rw [E4.out], ?_⟩
        exact Below.set3 hTv.out.below (by omega) _ _ _

set_option maxRecDepth 100000 in
set_option maxHeartbeats 400000 in
theorem specHashMore_no (st rest : ByteArray) (n : Int) (s : ByteArray) (h : ¬ HOk st rest n ∨ 1000000000 < n + (s.size : Int)) (hs : s.size ≤ 500000000) (w : World) :
    Calls Tryd.prog 9 #[.agg #[.string st, .string rest, .int .i64 n], .string s] w fun e w' => e = .returned (.agg #[.string st, .string rest, .int .i64 n]) ∧ Below w.heap.size w w' := by
  have T0 := Lib.hid (TwoVars.new w 28 (.string st) (.string rest) (.int .i64 n))
  by_cases hk : HOk st rest n
  · have hn : 1000000000 < n + (s.size : Int) := by
      rcases h with h | h
      · exact absurd hk h
      · exact h
    have H0 := Lib.hid (specHasherOk_yes st rest n hk)
    obtain ⟨_, _, h3, h4, _⟩ := hk
    have hwn : IntKind.i64.wrap (n + (s.size : Int)) = n + (s.size : Int) := by rw [IntKind.wrap_i64]; omega
    clear h
    go_enter Tryd.func9, Tryd.ntmps9
    go_wp2_with fail
    refine (H0.out _).mono ?_
    rintro e w1 ⟨rfl, hb1⟩
    have T1 := Lib.hid (T0.out.next hb1)
    have a0 := T1.out.v.c0
    have a1 := T1.out.v.c1
    have a2 := T1.out.v.c2
    have r0 := T1.out.r.c0
    have r1 := T1.out.r.c1
    have r2 := T1.out.r.c2
    have f0 := T1.out.r.free 0
    have f1 := T1.out.r.free 1
    have f2 := T1.out.r.free 2
    clear hb1 T0 H0
    go_wp2_with fail
    have V3 := T1.out.r.set3 (.string st) (.string rest) (.int .i64 n)
    have d0 := V3.c0
    have d1 := V3.c1
    have d2 := V3.c2
    refine bodyPost_ret (v := .agg #[.string st, .string rest, .int .i64 n]) (by simp [results, Tryd.results9, go_sem, d0, d1, d2]) rfl ⟨rfl, ?_⟩
    exact Below.set3 T1.out.below (by omega) _ _ _
  · have H0 := Lib.hid (specHasherOk_no st rest n hk)
    clear h hk
    go_enter Tryd.func9, Tryd.ntmps9
    go_wp2_with fail
    refine (H0.out _).mono ?_
    rintro e w1 ⟨rfl, hb1⟩
    have T1 := Lib.hid (T0.out.next hb1)
    have a0 := T1.out.v.c0
    have a1 := T1.out.v.c1
    have a2 := T1.out.v.c2
    have r0 := T1.out.r.c0
    have r1 := T1.out.r.c1
    have r2 := T1.out.r.c2
    have f0 := T1.out.r.free 0
    have f1 := T1.out.r.free 1
    have f2 := T1.out.r.free 2
    clear hb1 T0 H0
    go_wp2_with fail
    have V3 := T1.out.r.set3 (.string st) (.string rest) (.int .i64 n)
    have d0 := V3.c0
    have d1 := V3.c1
    have d2 := V3.c2
    refine bodyPost_ret (v := .agg #[.string st, .string rest, .int .i64 n]) (by simp [results, Tryd.results9, go_sem, d0, d1, d2]) rfl ⟨rfl, ?_⟩
    exact Below.set3 T1.out.below (by omega) _ _ _

end Go.Proofs.YtpfkokjbpfaafavDoor

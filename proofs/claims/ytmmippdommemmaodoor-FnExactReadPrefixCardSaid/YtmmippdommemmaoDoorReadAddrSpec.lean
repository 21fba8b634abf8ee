/-
  The given ReadDecimal by its answer; the given ReadAddr.
-/
import Derived.Test.YtmmippdommemmaoDoorSplitSpec
import Derived.Test.YtmmippdommemmaoDoorReadDecSpec
namespace Go.Proofs.YtmmippdommemmaoDoor
open Go.RowKit

theorem specReadDec_yes (m : Nat) (hm : m ≤ 1000000000) (s : ByteArray) (h : s.data.toList = Lib.decDigits m) (w : World) :
    Calls Tryd.prog 9 #[.string s] w fun e w' => e = .returned (.tuple #[.int .i64 m, .bool true]) ∧ Below w.heap.size w w' := by
  obtain ⟨qs, h1, h2, h3, h4⟩ := dec_back m m (Nat.le_refl _)
  have hl := dec_length 10 m (by omega) (by omega)
  have hs : s.size ≤ 10 := by
    have e : s.data.toList.length = s.size := by simp
    rw [← e, h]
    exact hl
  refine (specReadDec_any s hs qs [] h1 (by rw [h, h3]; simp) (by simp) w).mono ?_
  rintro e w' ⟨h5 | h5, hb⟩
  · rw [h4] at h5
    exact ⟨h5.2.2.2, hb⟩
  · rw [h4] at h5
    exact absurd ⟨rfl, hm, h3⟩ h5.1
theorem specReadDec_no (s : ByteArray) (h : ∀ m, m ≤ 1000000000 → s.data.toList ≠ Lib.decDigits m) (w : World) :
    Calls Tryd.prog 9 #[.string s] w fun e w' => e = .returned (.tuple #[.int .i64 0, .bool false]) ∧ Below w.heap.size w w' := by
  by_cases hs : 10 < s.size
  · exact specReadDec_long s hs w
  · obtain ⟨qs, tail, a1, a2, a3⟩ := figured 10 s.data.toList
    refine (specReadDec_any s (by omega) qs tail a1 a2 a3 w).mono ?_
    rintro e w' ⟨h5 | h5, hb⟩
    · exact absurd (by rw [a2, h5.1, List.append_nil, h5.2.2.1]) (h _ h5.2.1)
    · exact ⟨h5.2, hb⟩
/-- One part of an address: a number of one byte, or none. -/
theorem specReadDec_part (p : List UInt8) : ∃ (n : Nat) (b : Bool), n ≤ 1000000000 ∧ (∀ w, Calls Tryd.prog 9 #[.string ⟨p.toArray⟩] w fun e w' => e = .returned (.tuple #[.int .i64 n, .bool b]) ∧ Below w.heap.size w w') ∧
    ((b = true ∧ n < 256 ∧ Lib.decDigits n = p) ∨ ((b = true ∧ 255 < n ∨ b = false) ∧ ∀ m, m < 256 → Lib.decDigits m ≠ p)) := by
  by_cases h : ∃ m, m ≤ 1000000000 ∧ Lib.decDigits m = p
  · obtain ⟨m, hm, hp⟩ := h
    refine ⟨m, true, hm, fun w => specReadDec_yes m hm _ (by rw [hp]) w, ?_⟩
    by_cases h2 : m < 256
    · exact .inl ⟨rfl, h2, hp⟩
    · refine .inr ⟨.inl ⟨rfl, by omega⟩, fun k hk e => ?_⟩
      have := dec_inj k m (e.trans hp.symm)
      omega
  · exact ⟨0, false, by omega, fun w => specReadDec_no _ (fun m hm e => h ⟨m, hm, e.symm⟩) w, .inr ⟨.inr rfl, fun m hm e => h ⟨m, by omega, e⟩⟩⟩

/-- What numbers read so far make. -/
def byteVal (ns : List Nat) : Nat := ns.foldl (fun o n => 256 * o + n) 0
theorem byteVal_snoc (ns : List Nat) (n : Nat) : byteVal (ns ++ [n]) = 256 * byteVal ns + n := by simp [byteVal]
theorem byteVal_next (v n k : Nat) (hv : v < 256 ^ k) (hn : n < 256) : 256 * v + n < 256 ^ (k + 1) := by
  rw [Nat.pow_succ]
  omega
theorem four_of (ns : List Nat) (h : ns.length = 4) : ∃ a b c d, ns = [a, b, c, d] := by
  match ns, h with
  | [a, b, c, d], _ => exact ⟨a, b, c, d, rfl⟩
/-- A part that is no number of one byte: the text is no address. -/
theorem no_addr (l : List UInt8) (ps : List (List UInt8)) (hc : cutAt 46 [] l = ps) (i : Nat) (hi : i < 4) (h : ∀ m, m < 256 → Lib.decDigits m ≠ ps.getD i []) (a : Nat) (ha : a ≤ 4294967295) : l ≠ addrL a := by
  intro e
  rw [e, cut_addr] at hc
  subst hc
  match i, hi with
  | 0, _ => exact h _ (by omega) rfl
  | 1, _ => exact h _ (by omega) rfl
  | 2, _ => exact h _ (by omega) rfl
  | 3, _ => exact h _ (by omega) rfl
theorem no_addr_count (l : List UInt8) (h : (cutAt 46 [] l).length ≠ 4) (a : Nat) : l ≠ addrL a := by
  intro e
  rw [e, cut_addr] at h
  exact h rfl
theorem yes_addr (l : List UInt8) (ns : List Nat) (h4 : ns.length = 4) (hn : ∀ n ∈ ns, n < 256) (hm : ns.map Lib.decDigits = cutAt 46 [] l) : l = addrL (byteVal ns) ∧ byteVal ns ≤ 4294967295 := by
  obtain ⟨a, b, c, d, rfl⟩ := four_of ns h4
  obtain ⟨x, hx, hl, he⟩ := addr_parts l _ _ _ _ hm.symm a b c d (hn a (by simp)) (hn b (by simp)) (hn c (by simp)) (hn d (by simp)) rfl rfl rfl rfl
  have e : byteVal [a, b, c, d] = x := by
    rw [he]
    simp [byteVal]
  rw [e]
  exact ⟨hl, hx⟩
/-- How reading an address ends. -/
def AddrEnd (s : ByteArray) (e : Ending) : Prop :=
  (∃ a, a ≤ 4294967295 ∧ s.data.toList = addrL a ∧ e = .returned (.tuple #[.int .i64 (a : Nat), .bool true])) ∨ ((∀ a, a ≤ 4294967295 → s.data.toList ≠ addrL a) ∧ e = .returned (.tuple #[.int .i64 0, .bool false]))

set_option maxRecDepth 100000 in
set_option maxHeartbeats 800000 in
theorem specReadAddr_any (s : ByteArray) (hs : s.size ≤ 100000000) (w : World) :
    Calls Tryd.prog 8 #[.string s] w fun e w' => AddrEnd s e ∧ Below w.heap.size w w' := by
  have H1 := Lib.hid (specSplit_any s 46 hs w)
  have HD := Lib.hid specReadDec_part
  obtain ⟨ps, PS⟩ : ∃ ps, Hid (cutAt 46 [] s.data.toList = ps) := ⟨_, rfl⟩
  rw [PS.out] at H1
  have e46 : ((46 : UInt8).toNat : Int) = 46 := rfl
  rw [e46] at H1
  clear e46
  go_enter Tryd.func8, Tryd.ntmps8
  go_wp2_with fail
  refine (H1.out).mono ?_
  rintro e w1 ⟨v, rfl, hown, hb1⟩
  have hsz1 := hb1.size
  obtain ⟨ao, cap, rfl, hf⟩ := hown.form
  by_cases h4 : ps.length = 4
  · have g4 : ((ps.length : Int) != 4) = false := by rw [bne_eq_false_iff_eq]; omega
    obtain ⟨g, rfl, hg, hgs, hcell⟩ := hf (by omega)
    have HC := Lib.hid (fun j hj => (hcell j hj).1)
    have HB1 := Lib.hid hb1
    clear hf hcell hown hb1
    go_wp2_with fail
    go_loopw [5, 6] (fun o c wr => ∃ ns : List Nat, ns.length ≤ 4 ∧ c = .int .i64 ns.length ∧ (∀ n ∈ ns, n < 256) ∧ Hid (ns.map Lib.decDigits = ps.take ns.length) ∧ byteVal ns < 256 ^ ns.length ∧ o = .int .i64 (byteVal ns) ∧ Below w.heap.size w wr ∧ Below w1.heap.size w1 wr) (fun _ c _ => 4 - (intOf c).toNat)
    case atStart => exact ⟨[], by simp, rfl, by simp, rfl, by decide, rfl, HB1.out, Below.refl _ _⟩
    case round =>
      obtain ⟨ns, hn4, rfl, hns, HM, hv, rfl, hnx, hn1⟩ := hrel
      by_cases hlt : ns.length < 4
      · have hlt' : (ns.length : Int) < 4 := by omega
        have hc := HC.out ns.length (by omega)
        rw [← hn1.cell (p := ⟨g, ns.length, none⟩) hgs] at hc
        have hpw : 256 ^ ns.length ≤ 16777216 := Nat.pow_le_pow_right (n := 256) (by omega) (show ns.length ≤ 3 by omega)
        obtain ⟨n, b, hn, hrd, hcase⟩ := HD.out (ps.getD ns.length [])
        have HRD := Lib.hid hrd
        clear hrd
        rcases hcase with ⟨rfl, hn256, hdec⟩ | ⟨hbad, hno⟩
        · have hle : ¬ ((255 : Int) < (n : Int)) := by omega
          have hm2 : (ns ++ [n]).map Lib.decDigits = ps.take (ns ++ [n]).length := by
            rw [List.map_append, HM.out, List.length_append, List.length_singleton, List.take_add_one]
            congr 1
            rw [List.map_cons, List.map_nil, hdec, List.getD_eq_getElem?_getD, List.getElem?_eq_getElem (by omega)]
            rfl
          have HM2 := Lib.hid hm2
          have hall : ∀ k ∈ ns ++ [n], k < 256 := fun k hk => by
            rcases List.mem_append.1 hk with h | h
            · exact hns k h
            · rw [List.mem_singleton.1 h]; exact hn256
          have hv2 := byteVal_next _ n _ hv hn256
          have HA := Lib.hid hall
          have HV2 := Lib.hid hv2
          obtain ⟨pt, PT⟩ : ∃ p : ByteArray, Hid (p = ⟨(ps.getD ns.length []).toArray⟩) := ⟨_, rfl⟩
          rw [← PT.out] at hc HRD
          have HNX := Lib.hid hnx
          have HN1 := Lib.hid hn1
          obtain ⟨v, V⟩ : ∃ v, Hid (v = byteVal ns) := ⟨_, rfl⟩
          rw [← V.out] at hv ⊢
          have hvl : v ≤ 16777216 := by omega
          clear hm2 hall hv2 hdec hns hn4 hnx hn1 hv
          go_wp2_with fail
          refine (HRD.out _).mono ?_
          rintro e w2 ⟨rfl, hb2⟩
          go_wp2_with fail
          go_roundw
          case rel =>
            refine ⟨ns ++ [n], by simp; omega, by simp, HA.out, HM2.out, ?_, ?_, HNX.out.trans (hb2.mono HNX.out.size), HN1.out.trans (hb2.mono HN1.out.size)⟩
            · rw [byteVal_snoc, List.length_append, List.length_singleton]
              exact HV2.out
            · rw [byteVal_snoc, ← V.out]
              go_num
          case measure => simp [intOf]; omega
        · have HNO := Lib.hid hno
          obtain ⟨pt, PT⟩ : ∃ p : ByteArray, Hid (p = ⟨(ps.getD ns.length []).toArray⟩) := ⟨_, rfl⟩
          rw [← PT.out] at hc HRD
          have HNX := Lib.hid hnx
          have hend : Hid (∀ a, a ≤ 4294967295 → s.data.toList ≠ addrL a) := fun a ha => no_addr _ ps PS.out ns.length hlt HNO.out a ha
          clear hno hns hn4 hnx hn1 hv
          rcases hbad with ⟨rfl, hgt⟩ | rfl
          · have hgt' : (255 : Int) < (n : Int) := by omega
            go_wp2_with fail
            refine (HRD.out _).mono ?_
            rintro e w2 ⟨rfl, hb2⟩
            go_wp2_with fail
            go_ret2
            exact ⟨.inr ⟨hend.out, rfl⟩, HNX.out.trans (hb2.mono HNX.out.size)⟩
          · go_wp2_with fail
            refine (HRD.out _).mono ?_
            rintro e w2 ⟨rfl, hb2⟩
            go_wp2_with fail
            go_ret2
            exact ⟨.inr ⟨hend.out, rfl⟩, HNX.out.trans (hb2.mono HNX.out.size)⟩
      · have hlt' : ¬ ((ns.length : Int) < 4) := by omega
        have h44 : ns.length = 4 := by omega
        have hy := yes_addr s.data.toList ns h44 hns (by rw [HM.out, h44, PS.out, ← h4, List.take_length])
        have HY := Lib.hid hy
        clear hy hns hv
        go_wp2_with fail
        go_ret2
        exact ⟨.inl ⟨_, HY.out.2, HY.out.1, rfl⟩, hnx⟩
  · have g4 : ((ps.length : Int) != 4) = true := by rw [bne_iff_ne]; omega
    have hend : Hid (∀ a, a ≤ 4294967295 → s.data.toList ≠ addrL a) := fun a _ => no_addr_count _ (by rw [PS.out]; exact h4) a
    clear hf hown
    go_wp2_with fail
    go_ret2
    exact ⟨.inr ⟨hend.out, rfl⟩, hb1⟩

theorem specReadAddr_yes (a : Nat) (ha : a ≤ 4294967295) (w : World) :
    Calls Tryd.prog 8 #[.string (addrP a)] w fun e w' => e = .returned (.tuple #[.int .i64 (a : Nat), .bool true]) ∧ Below w.heap.size w w' := by
  have hz := addrP_size a ha
  have hl : (addrP a).data.toList = addrL a := by simp [addrP]
  refine (specReadAddr_any (addrP a) (by omega) w).mono ?_
  rintro e w' ⟨⟨b, _, h2, rfl⟩ | ⟨h, _⟩, hb⟩
  · rw [addrL_inj a b (hl.symm.trans h2)]
    exact ⟨rfl, hb⟩
  · exact absurd hl (h a ha)
theorem specReadAddr_no (s : ByteArray) (hs : s.size ≤ 100000000) (h : ∀ a, a ≤ 4294967295 → s.data.toList ≠ addrL a) (w : World) :
    Calls Tryd.prog 8 #[.string s] w fun e w' => e = .returned (.tuple #[.int .i64 0, .bool false]) ∧ Below w.heap.size w w' := by
  refine (specReadAddr_any s hs w).mono ?_
  rintro e w' ⟨⟨b, h1, h2, rfl⟩ | ⟨_, h2⟩, hb⟩
  · exact absurd h2 (h b h1)
  · exact ⟨h2, hb⟩

end Go.Proofs.YtmmippdommemmaoDoor

/-
  The given l13Put: one that came early, and all that come out at once.
-/
import Derived.Test.YthljmjbmmgligarJ20
import Derived.Test.YthljmjbmmgligarJ22
import Derived.Test.YthljmjbmmgligarJ15
import Derived.Deep.LoopGhost
import Derived.Deep.RegionLaw
import Derived.BigQuiet
import Derived.Deep.QuietTactic
namespace Go.Proofs.Ythljmjbmmgligar
open Go.RowKit

def sliceLen : Value → Nat
  | .slice _ n _ => n
  | _ => 0
/-- What stands of a channel when one text has come. -/
def EarlyEnd (lo G : Nat) (me peer next : Int) (v3 v4 v7 : Value) (f3 f4 f7 : List Nat) (qs : List ByteArray) (ss : List PendingD) (os : List Int) (got : Int) (es : List EarlyD) (xs : List ByteArray) (w w' : World) : Prop :=
  ∃ (v6 v8 : Value) (f6 f8 : List Nat), VarA G ChanT #[.int .i64 me, .int .i64 peer, .int .i64 next, v3, v4, .int .i64 got, v6, v7, v8] w' ∧ CO lo v3 v4 v6 v7 v8 f3 f4 f6 f7 f8 qs ss es os xs w' ∧ Below lo w w'
theorem filter_take_next (p : EarlyD → Bool) (es : List EarlyD) (j : Nat) (x : EarlyD) (hx : es[j]? = some x) : (es.take (j + 1)).filter p = (es.take j).filter p ++ (if p x = true then [x] else []) := by
  rw [List.take_add_one, hx, List.filter_append]
  simp only [Option.toList_some, List.filter_cons, List.filter_nil]

/-- What the two loops make. -/
def EarlyList (_G : Nat) (_num : Int) (_body : ByteArray) (es : List EarlyD) (w : World) (v : Value) (ks : List EarlyD) (wr : World) : Prop := (∃ f, layEarlyS.own wr w.heap.size f [v] ks) ∧ v ≠ .slice none 0 0 ∧ ks.length ≤ es.length + 1 ∧ Below w.heap.size w wr

set_option maxRecDepth 100000 in
set_option maxHeartbeats 6400000 in
theorem specEarly_there (lo G : Nat) (me peer next got num : Int) (v3 v4 v6 v7 v8 : Value) (f3 f4 f6 f7 f8 : List Nat) (qs : List ByteArray) (ss : List PendingD) (es : List EarlyD) (os : List Int) (xs : List ByteArray) (body : ByteArray) (he : es.length ≤ 100000000) (w : World)
    (hv : VarA G ChanT #[.int .i64 me, .int .i64 peer, .int .i64 next, v3, v4, .int .i64 got, v6, v7, v8] w) (hco : CO lo v3 v4 v6 v7 v8 f3 f4 f6 f7 f8 qs ss es os xs w) (hlo : lo ≤ w.heap.size) (hin : ∃ e ∈ es, e.1 = num) :
    Calls Try.prog 68 #[.pointer (some ⟨G, 0, none⟩), .int .i64 num, .string body] w fun e w' => e = .returned (.tuple #[]) ∧ EarlyEnd lo G me peer next v3 v4 v7 f3 f4 f7 qs ss os got es xs w w' := by
  obtain ⟨ea, ec, rfl⟩ := rows_form (layEarlyS.read hco.e)
  obtain ⟨i0, hi0, hz0, hsz0, hby0⟩ := info_of infoEarly
  have HR := Lib.hid (layEarlyS.read hco.e)
  have HV := Lib.hid hv
  have HCO := Lib.hid hco
  have HIN := Lib.hid hin
  have L0 : Hid (EarlyList G num body es w (.slice (some ⟨w.heap.size, 0, none⟩) 0 0) [] (w.alloc (.cells #[] EarlyT))) := ⟨⟨_, flat_lit w _ (Nat.le_refl _)⟩, (fun e => by cases e), Nat.zero_le _, (Below.refl _ _).alloc (Nat.le_refl _) _⟩
  clear hv hco hin
  go_enter Try.func68, Try.ntmps68
  go_wp2_with fail
  go_loopw [6, 7] (fun v c wr => ∃ (j : Nat) (ks : List EarlyD), j ≤ es.length ∧ c = .int .i64 j ∧ ks.length ≤ j ∧ EarlyList G num body es w v ks wr ∧ Hid (∀ i x, i < j → es[i]? = some x → x.1 ≠ num)) (fun _ c _ => es.length - (intOf c).toNat)
  case atStart => exact ⟨0, [], Nat.zero_le _, rfl, Nat.le_refl _, L0.out, fun i x h => absurd h (by omega)⟩
  case round =>
    obtain ⟨j, ks, hj, rfl, hkj, ⟨⟨f, hown⟩, hnn, hkl, hb⟩, HA⟩ := hrel
    have HO := Lib.hid hown
    have HB := Lib.hid hb
    have HNN := Lib.hid hnn
    obtain ⟨la, lc, rfl⟩ := rows_form (layEarlyS.read hown)
    clear hown hb hnn L0
    have c6 : wr.cell? ⟨G, 6, none⟩ = some (.slice ea es.length ec) := (HV.out.next HB.out).cell 6
    by_cases hlt : j < es.length
    · have hlt' : (j : Int) < (es.length : Int) := by omega
      have hx := List.getElem?_eq_getElem hlt
      obtain ⟨g, off, cs, rfl, hg, hr, hc⟩ := rows_elem (layEarlyS.below HR.out HB.out) j _ hx
      have HN : Hid (es[j].1 ≠ num → ∀ i x, i < j + 1 → es[i]? = some x → x.1 ≠ num) := fun h i x hi hx2 => by
        rcases Nat.lt_or_ge i j with h2 | h2
        · exact HA.out i x h2 hx2
        · have : i = j := by omega
          subst this
          rw [hx] at hx2
          cases hx2
          exact h
      generalize es[j] = x at hr HN
      rw [layEarly_rd] at hr
      subst hr
      obtain ⟨x0, x1⟩ := x
      have d0 : wr.cell? ⟨g, off + j * 2, none⟩ = some (.int .i64 x0) := hc 0 _ rfl
      have d1 : wr.cell? ⟨g, off + j * 2 + 1, none⟩ = some (.string x1) := hc 1 _ rfl
      clear hc hx
      by_cases h0 : x0 = num
      · have k0 : (x0 == num) = true := by rw [beq_iff_eq]; exact h0
        clear h0
        have FV := Lib.hid (HV.out.next HB.out)
        have FC := Lib.hid (HCO.out.next HB.out)
        go_wp2_with fail
        refine bodyPost_ret (v := .tuple #[]) (by simp [results, Try.results68, go_sem]) rfl ⟨rfl, ?_⟩
        exact ⟨_, _, _, _, FV.out, FC.out, HB.out.mono hlo⟩
      · have k0 : (x0 == num) = false := by rw [beq_eq_false_iff_ne]; exact h0
        have HN2 := Lib.hid (HN.out h0)
        clear h0
        by_cases h1 : x0 < num
        · have hws := HB.out.size
          go_wp2_with (at_builtin; refine wpList_pushF wr rfl _ _ 24 rfl w.heap.size EarlyT i0 _ 24 layEarly flatEarly Try.underlying24 hi0 hz0 hsz0 hby0 rfl (by omega) (.slice la ks.length lc) f ks (by rfl) HO.out (x0, x1) #[.int .i64 x0, .string x1] (layEarly_rd.2 rfl) (by rfl) (by omega) hws ?_; intro v1 w2 hown1 hnn1 hgr1 hbe1; obtain ⟨m1, mc1, rfl, hblk, _, _⟩ := flat_some flatEarly hown1 hnn1)
          have HL : Hid (EarlyList G num body es w (.slice (some ⟨m1, 0, none⟩) (ks ++ [(x0, x1)]).length mc1) (ks ++ [(x0, x1)]) w2) := ⟨⟨_, hown1⟩, hnn1, by rw [List.length_append]; simp only [List.length_cons, List.length_nil]; omega, HB.out.trans hbe1⟩
          clear hown1 hnn1 hgr1 hbe1 hblk
          go_wp2_with fail
          go_roundw
          case rel => exact ⟨j + 1, ks ++ [(x0, x1)], by omega, by go_num, by rw [List.length_append]; simp only [List.length_cons, List.length_nil]; omega, by simpa using HL.out, HN2⟩
          case measure => simp [intOf]; omega
        · go_wp2_with fail
          go_roundw
          case rel => exact ⟨j + 1, ks, by omega, by go_num, by omega, ⟨⟨f, HO.out⟩, HNN.out, hkl, HB.out⟩, HN2⟩
          case measure => simp [intOf]; omega
    · obtain ⟨x, hx, he2⟩ := HIN.out
      obtain ⟨i, hi, rfl⟩ := List.getElem_of_mem hx
      exact absurd he2 (HA.out i _ (by omega) (List.getElem?_eq_getElem hi))

theorem putE_parts (num : Int) (body : ByteArray) (es : List EarlyD) : putE num body es = (es.filter (fun e => decide (e.1 < num)) ++ [(num, body)]) ++ es.filter (fun e => decide (num < e.1)) := by
  unfold putE
  rw [List.append_assoc]
  rfl
theorem filter_few (p : EarlyD → Bool) (es : List EarlyD) (j : Nat) (h : j ≤ es.length) : ((es.take j).filter p).length ≤ j := Nat.le_trans (List.length_filter_le _ _) (by rw [List.length_take]; omega)
/-- A tail of a row can be read. -/
theorem early_tail {w : World} {g n cap : Nat} {L : List EarlyD} (h : layEarlyS.rd w [.slice (some ⟨g, 0, none⟩) n cap] L) (j : Nat) (hj : j ≤ L.length) (a : Option Addr) (ha : a = some ⟨g, j * 2, none⟩ ∨ (j = L.length ∧ (a = none → cap - j = 0))) : layEarlyS.rd w [.slice a (L.length - j) (cap - j)] (L.drop j) := by
  have hn : n ≤ cap := rows_room h
  obtain ⟨v', hv', h⟩ := h
  simp only [List.cons.injEq, and_true] at hv'
  subst hv'
  rcases ha with rfl | ⟨rfl, ha⟩
  · rcases h with ⟨rfl, a', c', hv, _⟩ | ⟨g', off, c', us, hv, hroom, hg, hc, hr⟩
    · simp only [Value.slice.injEq] at hv
      have hj0 : j = 0 := by simpa using hj
      subst hj0
      exact ⟨_, rfl, .inl ⟨by simp, some ⟨g, 0 * 2, none⟩, cap - 0, rfl, fun e => by cases e⟩⟩
    · simp only [Value.slice.injEq, Option.some.injEq, Addr.mk.injEq, and_true] at hv
      obtain ⟨⟨rfl, rfl⟩, rfl, rfl⟩ := hv
      by_cases hje : j = L.length
      · subst hje
        exact ⟨_, rfl, .inl ⟨by simp, _, _, by rw [Nat.sub_self], fun e => by cases e⟩⟩
      · have e : L = L.take j ++ L.drop j := (List.take_append_drop j L).symm
        rw [e] at hr
        obtain ⟨u1, u2, rfl, h1, h2⟩ := rdAll_append layEarly hr
        have hl1 := rdAll_len layEarly h1
        rw [List.length_take, Nat.min_eq_left hj, show layEarly.k = 2 from rfl] at hl1
        refine ⟨_, rfl, .inr ⟨g, j * 2, cap - j, u2, by rw [List.length_drop], by rw [List.length_drop]; omega, hg, fun i u hu => ?_, h2⟩⟩
        have := hc (j * 2 + i) u (by rw [List.getElem?_append_right (by omega), hl1, Nat.add_sub_cancel_left]; exact hu)
        rw [Nat.zero_add] at this
        exact this
  · refine ⟨_, rfl, .inl ⟨by simp, a, cap - L.length, by rw [Nat.sub_self], ha⟩⟩

set_option maxRecDepth 100000 in
set_option maxHeartbeats 12800000 in
theorem specEarly_new (lo G : Nat) (me peer next got num : Int) (v3 v4 v6 v7 v8 : Value) (f3 f4 f6 f7 f8 : List Nat) (qs : List ByteArray) (ss : List PendingD) (es : List EarlyD) (os : List Int) (xs : List ByteArray) (body : ByteArray) (he : es.length ≤ 100000000) (hxl : xs.length ≤ 1000000) (hg0 : 0 ≤ got) (hg1 : got ≤ 1000000) (w : World)
    (hv : VarA G ChanT #[.int .i64 me, .int .i64 peer, .int .i64 next, v3, v4, .int .i64 got, v6, v7, v8] w) (hco : CO lo v3 v4 v6 v7 v8 f3 f4 f6 f7 f8 qs ss es os xs w) (hlo : lo ≤ w.heap.size) (hlg : lo ≤ G) (hin : ∀ e ∈ es, e.1 ≠ num) :
    Calls Try.prog 68 #[.pointer (some ⟨G, 0, none⟩), .int .i64 num, .string body] w fun e w' => e = .returned (.tuple #[]) ∧ EarlyEnd lo G me peer next v3 v4 v7 f3 f4 f7 qs ss os (got + (drainN got (putE num body es) : Nat)) ((putE num body es).drop (drainN got (putE num body es))) (xs ++ ((putE num body es).take (drainN got (putE num body es))).map (·.2)) w w' := by
  obtain ⟨ea, ec, rfl⟩ := rows_form (layEarlyS.read hco.e)
  obtain ⟨i0, hi0, hz0, hsz0, hby0⟩ := info_of infoEarly
  obtain ⟨i1, hi1, hz1, hsz1, hby1⟩ := info_of infoString
  have HR := Lib.hid (layEarlyS.read hco.e)
  have HV := Lib.hid hv
  have HCO := Lib.hid hco
  have HIN := Lib.hid hin
  have L0 : Hid (EarlyList G num body es w (.slice (some ⟨w.heap.size, 0, none⟩) 0 0) [] (w.alloc (.cells #[] EarlyT))) := ⟨⟨_, flat_lit w _ (Nat.le_refl _)⟩, (fun e => by cases e), Nat.zero_le _, (Below.refl _ _).alloc (Nat.le_refl _) _⟩
  have HLEN := Lib.hid (putE_length num body es hin)
  clear hv hco hin
  go_enter Try.func68, Try.ntmps68
  go_wp2_with fail
  go_loopw [6, 7] (fun v c wr => ∃ (j : Nat) (ks : List EarlyD), j ≤ es.length ∧ c = .int .i64 j ∧ Hid (ks = (es.take j).filter (fun e => decide (e.1 < num))) ∧ EarlyList G num body es w v ks wr) (fun _ c _ => es.length - (intOf c).toNat)
  case atStart => exact ⟨0, [], Nat.zero_le _, rfl, rfl, L0.out⟩
  case round =>
    obtain ⟨j, ks, hj, rfl, HK, ⟨⟨f, hown⟩, hnn, hkl, hb⟩⟩ := hrel
    have hkj : ks.length ≤ j := by rw [HK.out]; exact filter_few _ es j hj
    have HO := Lib.hid hown
    have HB := Lib.hid hb
    have HNN := Lib.hid hnn
    have hws := hb.size
    obtain ⟨la, lc, rfl⟩ := rows_form (layEarlyS.read hown)
    clear hown hb hnn L0
    have c6 : wr.cell? ⟨G, 6, none⟩ = some (.slice ea es.length ec) := (HV.out.next HB.out).cell 6
    by_cases hlt : j < es.length
    · have hlt' : (j : Int) < (es.length : Int) := by omega
      have hx := List.getElem?_eq_getElem hlt
      obtain ⟨g, off, cs, rfl, hg, hr, hc⟩ := rows_elem (layEarlyS.below HR.out HB.out) j _ hx
      have hne := HIN.out _ (List.getElem_mem hlt)
      have HFN := Lib.hid (filter_take_next (fun e => decide (e.1 < num)) es j _ hx)
      generalize es[j] = x at hr hne HFN
      rw [layEarly_rd] at hr
      subst hr
      obtain ⟨x0, x1⟩ := x
      have d0 : wr.cell? ⟨g, off + j * 2, none⟩ = some (.int .i64 x0) := hc 0 _ rfl
      have d1 : wr.cell? ⟨g, off + j * 2 + 1, none⟩ = some (.string x1) := hc 1 _ rfl
      clear hc hx
      have k0 : (x0 == num) = false := by rw [beq_eq_false_iff_ne]; exact hne
      clear hne
      by_cases h1 : x0 < num
      · have HK2 : Hid (ks ++ [(x0, x1)] = (es.take (j + 1)).filter (fun e => decide (e.1 < num))) := by
          show _ = _
          rw [HFN.out, HK.out, if_pos (by simpa using h1)]
        go_wp2_with (at_builtin; refine wpList_pushF wr rfl _ _ 24 rfl w.heap.size EarlyT i0 _ 24 layEarly flatEarly Try.underlying24 hi0 hz0 hsz0 hby0 rfl (by omega) (.slice la ks.length lc) f ks (by rfl) HO.out (x0, x1) #[.int .i64 x0, .string x1] (layEarly_rd.2 rfl) (by rfl) (by omega) hws ?_; intro v1 w2 hown1 hnn1 hgr1 hbe1; obtain ⟨m1, mc1, rfl, hblk, _, _⟩ := flat_some flatEarly hown1 hnn1)
        have HL : Hid (EarlyList G num body es w (.slice (some ⟨m1, 0, none⟩) (ks ++ [(x0, x1)]).length mc1) (ks ++ [(x0, x1)]) w2) := ⟨⟨_, hown1⟩, hnn1, by rw [List.length_append]; simp only [List.length_cons, List.length_nil]; omega, HB.out.trans hbe1⟩
        clear hown1 hnn1 hgr1 hbe1 hblk
        go_wp2_with fail
        go_roundw
        case rel => exact ⟨j + 1, ks ++ [(x0, x1)], by omega, by go_num, HK2, by simpa using HL.out⟩
        case measure => simp [intOf]; omega
      · have HK2 : Hid (ks = (es.take (j + 1)).filter (fun e => decide (e.1 < num))) := by
          show _ = _
          rw [HFN.out, HK.out, if_neg (by simpa using h1), List.append_nil]
        go_wp2_with fail
        go_roundw
        case rel => exact ⟨j + 1, ks, by omega, by go_num, HK2, ⟨⟨f, HO.out⟩, HNN.out, hkl, HB.out⟩⟩
        case measure => simp [intOf]; omega
    · have hlt' : ¬ ((j : Int) < (es.length : Int)) := by omega
      have hje : j = es.length := by omega
      subst hje
      rw [List.take_length] at HK
      go_wp2_with (at_builtin; refine wpList_pushF wr rfl _ _ 24 rfl w.heap.size EarlyT i0 _ 24 layEarly flatEarly Try.underlying24 hi0 hz0 hsz0 hby0 rfl (by omega) (.slice la ks.length lc) f ks (by rfl) HO.out (num, body) #[.int .i64 num, .string body] (layEarly_rd.2 rfl) (by rfl) (by omega) hws ?_; intro v1 w2 hown1 hnn1 hgr1 hbe1; obtain ⟨m1, mc1, rfl, hblk, _, _⟩ := flat_some flatEarly hown1 hnn1)
      have hkl2 : (ks ++ [(num, body)]).length ≤ es.length + 1 := by rw [List.length_append]; simp only [List.length_cons, List.length_nil]; omega
      have HL : Hid (EarlyList G num body es w (.slice (some ⟨m1, 0, none⟩) (ks ++ [(num, body)]).length mc1) (ks ++ [(num, body)]) w2) := ⟨⟨_, hown1⟩, hnn1, hkl2, HB.out.trans hbe1⟩
      obtain ⟨k1, HK1⟩ : ∃ l : List EarlyD, Hid (l = ks ++ [(num, body)]) := ⟨_, Lib.hid rfl⟩
      have HEX : Hid (putE num body es = k1 ++ es.filter (fun e => decide (num < e.1))) := by
        show _ = _
        rw [HK1.out, HK.out, putE_parts]
      clear hown1 hnn1 hgr1 hbe1 hblk c6 HO HB HNN hws hkj
      rw [← HK1.out] at HL
      have hl1 : ks.length + 1 = k1.length := by rw [HK1.out, List.length_append]; rfl
      go_wp2_with fail
      try rw [hl1]
      clear HK hl1
      generalize wr = wold at *
      go_loopw [6, 8] (fun v c wr => ∃ (j : Nat) (k2 : List EarlyD), j ≤ es.length ∧ c = .int .i64 j ∧ Hid (k2 = k1 ++ (es.take j).filter (fun e => decide (num < e.1))) ∧ EarlyList G num body es w v k2 wr) (fun _ c _ => es.length - (intOf c).toNat)
      case atStart => exact ⟨0, k1, Nat.zero_le _, rfl, by show _ = _; simp, HL.out⟩
      case round =>
        obtain ⟨j, k2, hj2, rfl, HK2, ⟨⟨f2, hown⟩, hnn, hkl3, hb⟩⟩ := hrel
        have hkj : k2.length ≤ es.length + 1 + j := by
          have h9 : k2.length = k1.length + ((es.take j).filter (fun e => decide (num < e.1))).length := by rw [HK2.out, List.length_append]
          have h8 := filter_few (fun e => decide (num < e.1)) es j hj2
          have h7 : k1.length ≤ es.length + 1 := by rw [HK1.out]; exact hkl2
          omega
        have HO := Lib.hid hown
        have HB := Lib.hid hb
        have HNN := Lib.hid hnn
        have hws := hb.size
        obtain ⟨lb, ld, rfl⟩ := rows_form (layEarlyS.read hown)
        clear hown hb hnn HL
        have c6 : wr.cell? ⟨G, 6, none⟩ = some (.slice ea es.length ec) := (HV.out.next HB.out).cell 6
        by_cases hlt2 : j < es.length
        · have hlt3 : (j : Int) < (es.length : Int) := by omega
          have hx := List.getElem?_eq_getElem hlt2
          obtain ⟨g, off, cs, rfl, hg, hr, hc⟩ := rows_elem (layEarlyS.below HR.out HB.out) j _ hx
          have HFN := Lib.hid (filter_take_next (fun e => decide (num < e.1)) es j _ hx)
          generalize es[j] = x at hr HFN
          rw [layEarly_rd] at hr
          subst hr
          obtain ⟨x0, x1⟩ := x
          have d0 : wr.cell? ⟨g, off + j * 2, none⟩ = some (.int .i64 x0) := hc 0 _ rfl
          have d1 : wr.cell? ⟨g, off + j * 2 + 1, none⟩ = some (.string x1) := hc 1 _ rfl
          clear hc hx
          by_cases h1 : num < x0
          · have HK3 : Hid (k2 ++ [(x0, x1)] = k1 ++ (es.take (j + 1)).filter (fun e => decide (num < e.1))) := by
              show _ = _
              rw [HFN.out, HK2.out, if_pos (by simpa using h1), List.append_assoc]
            have HFW : Hid ((k2 ++ [(x0, x1)]).length ≤ es.length + 1) := by
              show _ ≤ _
              rw [HK3.out, ← HLEN.out, HEX.out, List.length_append, List.length_append]
              exact Nat.add_le_add_left ((List.Sublist.filter _ (List.take_sublist _ _)).length_le) _
            go_wp2_with (at_builtin; refine wpList_pushF wr rfl _ _ 24 rfl w.heap.size EarlyT i0 _ 24 layEarly flatEarly Try.underlying24 hi0 hz0 hsz0 hby0 rfl (by omega) (.slice lb k2.length ld) f2 k2 (by rfl) HO.out (x0, x1) #[.int .i64 x0, .string x1] (layEarly_rd.2 rfl) (by rfl) (by omega) hws ?_; intro v1 w2 hown1 hnn1 hgr1 hbe1; obtain ⟨m1, mc1, rfl, hblk, _, _⟩ := flat_some flatEarly hown1 hnn1)
            have HL : Hid (EarlyList G num body es w (.slice (some ⟨m1, 0, none⟩) (k2 ++ [(x0, x1)]).length mc1) (k2 ++ [(x0, x1)]) w2) := ⟨⟨_, hown1⟩, hnn1, HFW.out, HB.out.trans hbe1⟩
            clear hown1 hnn1 hgr1 hbe1 hblk
            go_wp2_with fail
            go_roundw
            case rel => exact ⟨j + 1, k2 ++ [(x0, x1)], by omega, by go_num, HK3, by simpa using HL.out⟩
            case measure => simp [intOf]; omega
          · have HK3 : Hid (k2 = k1 ++ (es.take (j + 1)).filter (fun e => decide (num < e.1))) := by
              show _ = _
              rw [HFN.out, HK2.out, if_neg (by simpa using h1), List.append_nil]
            go_wp2_with fail
            go_roundw
            case rel => exact ⟨j + 1, k2, by omega, by go_num, HK3, ⟨⟨f2, HO.out⟩, HNN.out, hkl3, HB.out⟩⟩
            case measure => simp [intOf]; omega
        · have hlt3 : ¬ ((j : Int) < (es.length : Int)) := by omega
          have hje : j = es.length := by omega
          subst hje
          have HL : Hid (k2 = putE num body es) := by
            show _ = _
            rw [HK2.out, HEX.out, List.take_length]
          obtain ⟨m, mc, e9, hblk, hmb, hml⟩ := flat_some flatEarly HO.out HNN.out
          simp only [Value.slice.injEq, true_and] at e9
          obtain ⟨rfl, rfl⟩ := e9
          subst hblk
          have VW := Lib.hid (HV.out.next HB.out)
          have CW := Lib.hid (HCO.out.next HB.out)
          have LW := Lib.hid (HB.out.mono hlo)
          have hk2 : k2.length ≤ es.length + 1 := hkl3
          go_wp2_with fail
          clear HK2 HEX HK1 HLEN HNN c6
          generalize wr = wo2 at *
          go_loopw [6] (fun l wr => ∃ (j : Nat) (a : Option Addr) (v8' : Value) (f8' : List Nat), j ≤ k2.length ∧ l = .slice a (k2.length - j) (ld - j) ∧ (j < k2.length → a = some ⟨m, j * 2, none⟩) ∧ (a = none → ld - j = 0) ∧ Hid (drainN got k2 = j + drainN (got + (j : Int)) (k2.drop j)) ∧ VarA G ChanT #[.int .i64 me, .int .i64 peer, .int .i64 next, v3, v4, .int .i64 (got + (j : Int)), .slice ea es.length ec, v7, v8'] wr ∧ CO lo v3 v4 (.slice ea es.length ec) v7 v8' f3 f4 f6 f7 f8' qs ss es os (xs ++ (k2.take j).map (·.2)) wr ∧ layEarlyS.own wr w.heap.size [m] [.slice (some ⟨m, 0, none⟩) k2.length ld] k2 ∧ Below lo w wr) (fun l _ => sliceLen l)
          case atStart => exact ⟨0, _, v8, f8, Nat.zero_le _, rfl, fun _ => by rw [Nat.zero_mul], (fun e => by cases e), by show _ = _; simp, by simpa using VW.out, by simpa using CW.out, HO.out, LW.out⟩
          case round =>
            obtain ⟨j, a, v8', f8', hj3, rfl, hap, han, HDR, hv2, hco2, hown2, hb2⟩ := hrel
            obtain ⟨xa, xc, rfl⟩ := rows_form (layStringS.read hco2.x)
            have hroom := rows_room (layEarlyS.read hown2)
            have VR := Lib.hid hv2
            have CR := Lib.hid hco2
            have OR := Lib.hid hown2
            have BR := Lib.hid hb2
            clear hv2 hco2 hown2 hb2 VW CW LW HO
            obtain ⟨r, hr⟩ : ∃ r : Nat, r = k2.length - j := ⟨_, rfl⟩
            obtain ⟨cc, hcc⟩ : ∃ r : Nat, r = ld - j := ⟨_, rfl⟩
            rw [← hr, ← hcc]
            rw [← hcc] at han
            have hr0 : j < k2.length → (0 : Int) < (r : Int) := fun h => by omega
            have hr1 : ¬ (j < k2.length) → ¬ ((0 : Int) < (r : Int)) := fun h => by omega
            have hrc : (r : Int) ≤ (cc : Int) := by omega
            have HRR := Lib.hid hr
            have HCC := Lib.hid hcc
            clear hr hcc
            obtain ⟨z, HZ⟩ : ∃ l : List ByteArray, Hid (l = xs ++ (k2.take j).map (·.2)) := ⟨_, Lib.hid rfl⟩
            have hzl : z.length ≤ 300000000 := by
              rw [HZ.out, List.length_append, List.length_map, List.length_take]
              omega
            rw [← HZ.out] at VR CR
            by_cases hlt4 : j < k2.length
            · obtain rfl := hap hlt4
              clear hap han
              have hx := List.getElem?_eq_getElem hlt4
              obtain ⟨g9, off9, cs, e9, hg, hre, hc⟩ := rows_elem (layEarlyS.read OR.out) j _ hx
              simp only [Option.some.injEq, Addr.mk.injEq, and_true] at e9
              obtain ⟨rfl, rfl⟩ := e9
              have HD1 : Hid (k2.drop j = k2[j] :: k2.drop (j + 1)) := List.drop_eq_getElem_cons hlt4
              have HT1 : Hid (k2.take (j + 1) = k2.take j ++ [k2[j]]) := by show _ = _; rw [List.take_add_one, hx]; rfl
              generalize k2[j] = x at hre HD1 HT1
              rw [layEarly_rd] at hre
              subst hre
              obtain ⟨y0, y1⟩ := x
              have d0 : wr.cell? ⟨m, j * 2, none⟩ = some (.int .i64 y0) := by have h9 := hc 0 _ rfl; rw [Nat.zero_add] at h9; exact h9
              have d1 : wr.cell? ⟨m, j * 2 + 1, none⟩ = some (.string y1) := by have h9 := hc 1 _ rfl; rw [Nat.zero_add] at h9; exact h9
              clear hc hx
              have hr2 := hr0 hlt4
              have hr3 : 0 < r := by omega
              clear hr0 hr1
              have c5 : wr.cell? ⟨G, 5, none⟩ = some (.int .i64 (got + (j : Int))) := VR.out.cell 5
              have c8 : wr.cell? ⟨G, 8, none⟩ = some (.slice xa z.length xc) := VR.out.cell 8
              have hw1 : IntKind.i64.wrap (got + (j : Int) + 1) = got + (j : Int) + 1 := by rw [IntKind.wrap_i64]; omega
              by_cases hy : y0 = got + (j : Int) + 1
              · have k9 : (y0 == got + (j : Int) + 1) = true := by rw [beq_iff_eq]; exact hy
                have HDR2 : Hid (drainN got k2 = (j + 1) + drainN (got + ((j + 1 : Nat) : Int)) (k2.drop (j + 1))) := by
                  show _ = _
                  rw [HDR.out, HD1.out, drainN, if_pos hy, show got + ((j + 1 : Nat) : Int) = got + (j : Int) + 1 by omega]
                  omega
                clear hy
                go_wp2_with fail
                go_quiet (fail)
                go_wp2_with fail
                generalize hq9 : wr.drewN _ = wr9 at *
                have BQ : Below wr.heap.size wr wr9 := by rw [← hq9]; exact below_drewN (Below.refl _ _) _
                have BQC : ∀ p : Addr, p.block < wr.heap.size → wr9.cell? p = wr.cell? p := fun p hp => BQ.cell (p := p) hp
                replace VR := Lib.hid (VR.out.next BQ)
                replace CR := Lib.hid (CR.out.next BQ)
                replace OR := Lib.hid (layEarlyS.next OR.out BQ)
                replace BR := Lib.hid (BR.out.trans (BQ.mono (Nat.le_trans hlo BR.out.size)))
                clear hq9 BQ
                obtain ⟨_, _, _, hf8⟩ := flat_inv flatString CR.out.x
                subst hf8
                have b0 : wr9.cell? ⟨m, j * 2, none⟩ = some (.int .i64 y0) := by rw [BQC ⟨m, j * 2, none⟩ hg]; exact d0
                have b1 : wr9.cell? ⟨m, j * 2 + 1, none⟩ = some (.string y1) := by rw [BQC ⟨m, j * 2 + 1, none⟩ hg]; exact d1
                clear BQC d0 d1 c5 c8 hg
                have c5 : wr9.cell? ⟨G, 5, none⟩ = some (.int .i64 (got + (j : Int))) := VR.out.cell 5
                have c8 : wr9.cell? ⟨G, 8, none⟩ = some (.slice xa z.length xc) := VR.out.cell 8
                have AD : Below wr9.heap.size wr9 (wr9.alloc (.cells #[.string y1] StringT)).drew := ((Below.refl _ _).alloc (Nat.le_refl _) _).drew
                have VD := Lib.hid (VR.out.next AD)
                have CD := Lib.hid (CR.out.next AD)
                have OD := Lib.hid (layEarlyS.next OR.out AD)
                have BD := Lib.hid (BR.out.trans (AD.mono (Nat.le_trans hlo BR.out.size)))
                have e5 : (wr9.alloc (.cells #[.string y1] StringT)).cell? ⟨G, 5, none⟩ = some (.int .i64 (got + (j : Int))) := VD.out.cell 5
                have e8 : (wr9.alloc (.cells #[.string y1] StringT)).cell? ⟨G, 8, none⟩ = some (.slice xa z.length xc) := VD.out.cell 8
                have hws : lo ≤ (wr9.alloc (.cells #[.string y1] StringT)).drew.heap.size := Nat.le_trans hlo BD.out.size
                clear AD VR CR OR BR
                go_region_law (refine step_pushT rfl (.tmp 103) (.tmp 108) 22 rfl lo StringT i1 (.string ⟨#[]⟩) 16 layString flatString Try.underlying22 hi1 hz1 hsz1 hby1 rfl (by omega) (.slice xa z.length xc) (blk (.slice xa z.length xc)) z (by first | rfl | simp [Act.eval, Act.put]) CD.out.x y1 [.string y1] rfl ⟨wr9.heap.size, 0, none⟩ (by first | rfl | simp [Act.eval, Act.put]) (fun j u hj => lit_cells_one wr9 #[.string y1] StringT j u hj) (by omega) hws ?_; intro v1 w2 hown1 hnn1 htl1 hgr1 hbe1; obtain ⟨a9, k9, rfl, hblk, -, -⟩ := flat_some flatString hown1 hnn1; obtain ⟨l9, HL9⟩ : ∃ l : Nat, Hid (l = (z ++ [y1]).length) := ⟨_, Lib.hid rfl⟩; rw [← HL9.out] at hown1 htl1 hblk; rw [← HL9.out]; have hchg : Chg (blk (.slice xa z.length xc)) (wr9.alloc (.cells #[.string y1] StringT)).drew w2 := Chg.grown hgr1 _ (fun k hk => by simp [blk, hk]); have hvr : VarA G ChanT #[.int .i64 me, .int .i64 peer, .int .i64 next, v3, v4, .int .i64 (got + (j : Int)), .slice ea es.length ec, v7, .slice xa z.length xc] w2 := ⟨(hchg.block G VD.out.lt (row_off flatString CD.out.x VD.out (by decide))).trans VD.out.row⟩; have g8 : w2.cell? ⟨G, 8, none⟩ = some (.slice xa z.length xc) := hvr.cell 8; have u8 := hvr.free 8)
                all_goals
                  have C2 : Hid (CO lo v3 v4 (.slice ea es.length ec) v7 (.slice (some ⟨a9, 0, none⟩) l9 k9) f3 f4 f6 f7 (blk (.slice (some ⟨a9, 0, none⟩) l9 k9)) qs ss es os (z ++ [y1]) w2) := by
                    refine ⟨layStringS.chg CD.out.q hchg CD.out.ap, layPendingS.chg CD.out.s hchg ?_, layEarlyS.chg CD.out.e hchg ?_, layIntS.chg CD.out.o hchg ?_, hown1, fun g hg hg2 => ?_⟩
                    · exact fun g hg hm => rows_off flatPending flatString CD.out.s CD.out.x (by decide) g hg hm
                    · exact fun g hg hm => rows_off flatEarly flatString CD.out.e CD.out.x (by decide) g hg hm
                    · exact fun g hg hm => rows_off flatIntP flatString CD.out.o CD.out.x (by decide) g hg hm
                    · rcases htl1 with h9 | h9
                      · exact CD.out.ap g hg (h9 ▸ hg2)
                      · have h10 := h9 g hg2
                        exact absurd (layStringS.blocks CD.out.q g hg).2 (Nat.not_lt.2 h10)
                  have O2 : Hid (layEarlyS.own w2 w.heap.size [m] [.slice (some ⟨m, 0, none⟩) k2.length ld] k2) := layEarlyS.chg OD.out hchg (fun g hg hm => rows_off flatEarly flatString OD.out CD.out.x (by decide) g hg hm)
                  have B2 := Lib.hid (BD.out.trans hbe1)
                  have S8 : Only G w2 (w2.setCell ⟨G, 8, none⟩ (.slice (some ⟨a9, 0, none⟩) l9 k9)) := Only.setCell 8 _
                  have V3 : Hid (VarA G ChanT #[.int .i64 me, .int .i64 peer, .int .i64 next, v3, v4, .int .i64 (got + (j : Int)), .slice ea es.length ec, v7, .slice (some ⟨a9, 0, none⟩) l9 k9] (w2.setCell ⟨G, 8, none⟩ (.slice (some ⟨a9, 0, none⟩) l9 k9))) := hvr.set 8 _
                  have C3 := Lib.hid (C2.out.only S8 hvr (by decide) (by decide) (by decide) (by decide))
                  have O3 : Hid (layEarlyS.own (w2.setCell ⟨G, 8, none⟩ (.slice (some ⟨a9, 0, none⟩) l9 k9)) w.heap.size [m] [.slice (some ⟨m, 0, none⟩) k2.length ld] k2) := layEarlyS.chg O2.out (only_chg S8) (fun g hg hm => row_off flatEarly O2.out hvr (by decide) (List.mem_singleton.1 hm ▸ hg))
                  have B3 := Lib.hid (B2.out.trans (only_below S8 hlg (Nat.le_trans hlo B2.out.size)))
                  clear C2 O2 B2 S8 hvr g8 u8 hchg hown1 hnn1 htl1 hgr1 hbe1 hblk CD OD BD VD e5 e8 c5 c8 b0 b1 hws
                  generalize w2.setCell ⟨G, 8, none⟩ (.slice (some ⟨a9, 0, none⟩) l9 k9) = w3 at *
                  clear w2
                  have c5 : w3.cell? ⟨G, 5, none⟩ = some (.int .i64 (got + (j : Int))) := V3.out.cell 5
                  have u5 := V3.out.free 5
                  have S5 : Only G w3 (w3.setCell ⟨G, 5, none⟩ (.int .i64 (got + (j : Int) + 1))) := Only.setCell 5 _
                  have V4 : Hid (VarA G ChanT #[.int .i64 me, .int .i64 peer, .int .i64 next, v3, v4, .int .i64 (got + (j : Int) + 1), .slice ea es.length ec, v7, .slice (some ⟨a9, 0, none⟩) l9 k9] (w3.setCell ⟨G, 5, none⟩ (.int .i64 (got + (j : Int) + 1)))) := V3.out.set 5 _
                  have C4 := Lib.hid (C3.out.only S5 V3.out (by decide) (by decide) (by decide) (by decide))
                  have O4 : Hid (layEarlyS.own (w3.setCell ⟨G, 5, none⟩ (.int .i64 (got + (j : Int) + 1))) w.heap.size [m] [.slice (some ⟨m, 0, none⟩) k2.length ld] k2) := layEarlyS.chg O3.out (only_chg S5) (fun g hg hm => row_off flatEarly O3.out V3.out (by decide) (List.mem_singleton.1 hm ▸ hg))
                  have B4 := Lib.hid (B3.out.trans (only_below S5 hlg (Nat.le_trans hlo B3.out.size)))
                  have HZ2 : Hid (z ++ [y1] = xs ++ (k2.take (j + 1)).map (·.2)) := by
                    show _ = _
                    rw [HT1.out, List.map_append, ← List.append_assoc, ← HZ.out]
                    rfl
                  clear S5 C3 O3 B3 V3
                  have hr4 : ¬ ((r : Int) < 1) := by omega
                  have hr5 : (1 : Int) ≤ (r : Int) := by omega
                  have hr6 : (1 : Int) ≤ (cc : Int) := by omega
                  have q1 : r - 1 = k2.length - (j + 1) := by have h1 := HRR.out; omega
                  have q2 : cc - 1 = ld - (j + 1) := by have h1 := HCC.out; omega
                  have q3 : j + 1 < k2.length → ¬ (cc = 1) := fun h => by have h1 := HRR.out; omega
                  have q4 : got + ((j + 1 : Nat) : Int) = got + (j : Int) + 1 := by omega
                  have QQ := Lib.hid q1
                  have QR := Lib.hid q2
                  clear q1 q2
                  go_wp2_with fail
                  go_roundw
                  case rel =>
                    refine ⟨j + 1, _, _, _, by omega, by rw [QQ.out, QR.out], fun h => ?_, fun h => ?_, HDR2, by rw [q4]; exact V4.out, by rw [← HZ2.out]; exact C4.out, O4.out, B4.out⟩
                    · rw [if_neg (q3 h)]
                      simp only [Option.some.injEq, Addr.mk.injEq, and_true, true_and]
                      omega
                    · split at h <;> cases h
                  case measure => simp [sliceLen]; omega
              · have k9 : (y0 == got + (j : Int) + 1) = false := by rw [beq_eq_false_iff_ne]; exact hy
                have HJE : Hid (drainN got k2 = j) := by
                  show _ = _
                  rw [HDR.out, HD1.out, drainN, if_neg hy, Nat.add_zero]
                have TL : Hid (layEarlyS.rd wr [.slice (some ⟨m, j * 2, none⟩) r cc] (k2.drop j)) := by
                  have h9 := early_tail (layEarlyS.read OR.out) j hj3 (some ⟨m, j * 2, none⟩) (.inl rfl)
                  rw [← HRR.out, ← HCC.out] at h9
                  exact h9
                clear hy
                go_wp2_with fail
                go_quiet (fail)
                go_upto_region 17 with fail
                generalize hq9 : wr.drewN _ = wr9 at *
                have BQ : Below wr.heap.size wr wr9 := by rw [← hq9]; exact below_drewN (Below.refl _ _) _
                replace VR := Lib.hid (VR.out.next BQ)
                replace CR := Lib.hid (CR.out.next BQ)
                replace BR := Lib.hid (BR.out.trans (BQ.mono (Nat.le_trans hlo BR.out.size)))
                replace TL := Lib.hid (layEarlyS.below TL.out BQ)
                clear hq9 BQ OR d0 d1 c5 c8 hg
                have hbl : Below wr9.heap.size wr9 (wr9.alloc (.cells #[] EarlyT)) := (Below.refl _ _).alloc (Nat.le_refl _) _
                have hl9 : lo ≤ wr9.heap.size := Nat.le_trans hlo BR.out.size
                have hdl : (k2.drop j).length ≤ 100000001 := by rw [List.length_drop]; omega
                have hgl := VR.out.lt
                go_wp2_with (at_builtin; refine wpList_copyF (wr9.alloc (.cells #[] EarlyT)) rfl _ _ 24 rfl wr9.heap.size EarlyT i0 _ 24 layEarly flatEarly Try.underlying24 hi0 hz0 hsz0 hby0 rfl (by omega) _ _ _ rfl (flat_lit wr9 _ (Nat.le_refl _)) (fun e => by cases e) (.slice (some ⟨m, j * 2, none⟩) r cc) (k2.drop j) (by rfl) (layEarlyS.below TL.out hbl) (by simp; omega) (by simp) ?_; intro v1 w2 hown1 hnn1 hgr1 hbe1; obtain ⟨a9, k9, rfl, hblk, -, -⟩ := flat_some flatEarly hown1 hnn1; rw [hblk] at hown1; obtain ⟨l9, HL9⟩ : ∃ l : Nat, Hid (l = ([] ++ k2.drop j).length) := ⟨_, Lib.hid rfl⟩; rw [← HL9.out] at hown1; rw [← HL9.out]; have V2 := VR.out.next (hbl.trans hbe1); have g6 : w2.cell? ⟨G, 6, none⟩ = some (.slice ea es.length ec) := V2.cell 6; have u6 := V2.free 6)
                have C2 := CR.out.next (hbl.trans hbe1)
                have C3 : CO lo v3 v4 (.slice (some ⟨a9, 0, none⟩) l9 k9) v7 (.slice xa z.length xc) f3 f4 [a9] f7 f8' qs ss (k2.drop j) os z w2 := ⟨C2.q, C2.s, layEarlyS.lower (show layEarlyS.own w2 wr9.heap.size [a9] [.slice (some ⟨a9, 0, none⟩) l9 k9] (k2.drop j) from hown1) hl9, C2.o, C2.x, C2.ap⟩
                have S6 : Only G w2 (w2.setCell ⟨G, 6, none⟩ (.slice (some ⟨a9, 0, none⟩) l9 k9)) := Only.setCell 6 _
                have V4 : Hid (VarA G ChanT #[.int .i64 me, .int .i64 peer, .int .i64 next, v3, v4, .int .i64 (got + (j : Int)), .slice (some ⟨a9, 0, none⟩) l9 k9, v7, .slice xa z.length xc] (w2.setCell ⟨G, 6, none⟩ (.slice (some ⟨a9, 0, none⟩) l9 k9))) := V2.set 6 _
                have C4 := Lib.hid (C3.only S6 V2 (by decide) (by decide) (by decide) (by decide))
                have B2 := BR.out.trans ((hbl.trans hbe1).mono hl9)
                have B4 := Lib.hid (B2.trans (only_below S6 hlg (Nat.le_trans hlo B2.size)))
                clear C2 C3 S6 B2 hown1 hnn1 hgr1 hbe1 hblk V2 hbl
                go_wp2_with fail
                refine bodyPost_end (results_none rfl _ _ _) rfl ⟨rfl, ?_⟩
                rw [← HL.out, HJE.out, ← HZ.out]
                exact ⟨_, _, _, _, V4.out, C4.out, B4.out⟩
            · have hje4 : j = k2.length := by omega
              have hr4 := hr1 hlt4
              have hr5 : ¬ (0 < r) := by omega
              have hr6 : r = 0 := by omega
              have HJE : Hid (drainN got k2 = j) := by
                show _ = _
                rw [HDR.out, hje4, List.drop_length]
                rfl
              have TL : Hid (layEarlyS.rd wr [.slice a r cc] (k2.drop j)) := by
                have h9 := early_tail (layEarlyS.read OR.out) j hj3 a (.inr ⟨hje4, fun e => by have h1 := HCC.out; have h2 := han e; omega⟩)
                rw [← HRR.out, ← HCC.out] at h9
                exact h9
              clear hr0 hr1 hap han hje4 hr4 hr5
              subst hr6
              go_wp2_with fail
              go_quiet (fail)
              go_upto_region 17 with fail
              generalize hq9 : wr.drewN _ = wr9 at *
              have BQ : Below wr.heap.size wr wr9 := by rw [← hq9]; exact below_drewN (Below.refl _ _) _
              replace VR := Lib.hid (VR.out.next BQ)
              replace CR := Lib.hid (CR.out.next BQ)
              replace BR := Lib.hid (BR.out.trans (BQ.mono (Nat.le_trans hlo BR.out.size)))
              replace TL := Lib.hid (layEarlyS.below TL.out BQ)
              clear hq9 BQ OR 
              have hbl : Below wr9.heap.size wr9 (wr9.alloc (.cells #[] EarlyT)) := (Below.refl _ _).alloc (Nat.le_refl _) _
              have hl9 : lo ≤ wr9.heap.size := Nat.le_trans hlo BR.out.size
              have hdl : (k2.drop j).length ≤ 100000001 := by rw [List.length_drop]; omega
              have hgl := VR.out.lt
              go_wp2_with (at_builtin; refine wpList_copyF (wr9.alloc (.cells #[] EarlyT)) rfl _ _ 24 rfl wr9.heap.size EarlyT i0 _ 24 layEarly flatEarly Try.underlying24 hi0 hz0 hsz0 hby0 rfl (by omega) _ _ _ rfl (flat_lit wr9 _ (Nat.le_refl _)) (fun e => by cases e) (.slice a 0 cc) (k2.drop j) (by rfl) (layEarlyS.below TL.out hbl) (by simp; omega) (by simp) ?_; intro v1 w2 hown1 hnn1 hgr1 hbe1; obtain ⟨a9, k9, rfl, hblk, -, -⟩ := flat_some flatEarly hown1 hnn1; rw [hblk] at hown1; obtain ⟨l9, HL9⟩ : ∃ l : Nat, Hid (l = ([] ++ k2.drop j).length) := ⟨_, Lib.hid rfl⟩; rw [← HL9.out] at hown1; rw [← HL9.out]; have V2 := VR.out.next (hbl.trans hbe1); have g6 : w2.cell? ⟨G, 6, none⟩ = some (.slice ea es.length ec) := V2.cell 6; have u6 := V2.free 6)
              have C2 := CR.out.next (hbl.trans hbe1)
              have C3 : CO lo v3 v4 (.slice (some ⟨a9, 0, none⟩) l9 k9) v7 (.slice xa z.length xc) f3 f4 [a9] f7 f8' qs ss (k2.drop j) os z w2 := ⟨C2.q, C2.s, layEarlyS.lower (show layEarlyS.own w2 wr9.heap.size [a9] [.slice (some ⟨a9, 0, none⟩) l9 k9] (k2.drop j) from hown1) hl9, C2.o, C2.x, C2.ap⟩
              have S6 : Only G w2 (w2.setCell ⟨G, 6, none⟩ (.slice (some ⟨a9, 0, none⟩) l9 k9)) := Only.setCell 6 _
              have V4 : Hid (VarA G ChanT #[.int .i64 me, .int .i64 peer, .int .i64 next, v3, v4, .int .i64 (got + (j : Int)), .slice (some ⟨a9, 0, none⟩) l9 k9, v7, .slice xa z.length xc] (w2.setCell ⟨G, 6, none⟩ (.slice (some ⟨a9, 0, none⟩) l9 k9))) := V2.set 6 _
              have C4 := Lib.hid (C3.only S6 V2 (by decide) (by decide) (by decide) (by decide))
              have B2 := BR.out.trans ((hbl.trans hbe1).mono hl9)
              have B4 := Lib.hid (B2.trans (only_below S6 hlg (Nat.le_trans hlo B2.size)))
              clear C2 C3 S6 B2 hown1 hnn1 hgr1 hbe1 hblk V2 hbl
              go_wp2_with fail
              refine bodyPost_end (results_none rfl _ _ _) rfl ⟨rfl, ?_⟩
              rw [← HL.out, HJE.out, ← HZ.out]
              exact ⟨_, _, _, _, V4.out, C4.out, B4.out⟩

end Go.Proofs.Ythljmjbmmgligar

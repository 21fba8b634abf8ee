/-
  The sorted keys of the program's maps, by the library.
  The routes of the program's table in their order.
  A route struck from the program's table.
-/
import Derived.Test.YtpcdmfimjnhejaoStandImpl
import Derived.Test.YtpcdmfimjnhejaoKitMap
import Derived.Test.YtpcdmfimjnhejaoIter
import Derived.Test.YtpcdmfimjnhejaoPlainTold
namespace Go.Proofs.Ytpcdmfimjnhejao
open Go.RowKit

abbrev IT : TypeId := 3

/-- What the library calls a map's keys. -/
theorem MapF.ints {P : Program} {k : TypeId} {hk : P.underlying k = some (.int .i64)} {w : World} {b s : Nat} {f : Int → Option Value} (h : MapF (intKey hk) w b f s) :
    ∃ D : DataW Value, w.ownsMap P k asIs b s D ∧ Maps.size D = s ∧ ∀ ss : List Int, ss.Perm (intKeys D) → ss.Nodup ∧ ss.length = s ∧ ∀ x, x ∈ ss ↔ (f x).isSome = true := by
  obtain ⟨ks, hnd, hm, hl⟩ := h.keys
  obtain ⟨D, hown, hsz, hno, hhas, _⟩ := h
  have hC : CollectedI D (fun _ => false) ks := ⟨hnd, fun x => by
    rw [hm x]
    constructor
    · intro hx
      have hok : (intKey hk).ok x := Classical.byContradiction fun hn => by rw [hno x hn] at hx; cases hx
      exact ⟨(hhas x hok).trans hx, rfl⟩
    · rintro ⟨hx, _⟩
      have hok : (intKey hk).ok x := by
        obtain ⟨es, rfl, hko⟩ := hown.keysOf
        rw [Maps.has_eq, List.any_eq_true] at hx
        obtain ⟨p, hp, hs⟩ := hx
        obtain ⟨v, hv⟩ := hko p hp
        obtain ⟨y, _, hy, hw⟩ := Maps.keyOf_i64 hk hv
        rw [hy] at hs
        have := WideAt.sameKey_eq hs
        injection this with _ this
        subst this
        exact hw
      exact (hhas x hok).symm.trans hx⟩
  have hp := hC.perm hown (Maps.int_keyed hk) hk (fun _ => rfl)
  refine ⟨D, hown, hsz, fun ss hss => ?_⟩
  have hpk := hss.trans hp.symm
  exact ⟨hpk.nodup_iff.2 hnd, hpk.length_eq.trans hl, fun x => hpk.mem_iff.trans (hm x)⟩

theorem sortsI (m : Nat) : AnyZI.SortsIn Try.prog Try.sortedI_ren Fence.wide m :=
  ⟨fun blk off cap ss W hH hblk hsz => callsIn_wide.2 (AnyM.slices_Sort_int Try.sortI blk off cap ss W hH hblk hsz),
   fun p cap W => callsIn_wide.2 (AnyM.slices_Sort_int_none Try.sortI p cap W)⟩

/-- What comes of sorted keys. -/
def KeysEnd (base : Nat) (f : Int → Option Value) (s : Nat) (X : World) (e : Ending) (w' : World) : Prop :=
  ∃ (v : Value) (ss : List Int), e = .returned v ∧ OwnR intRec w' base IT v ss ∧ ss.Pairwise (· < ·) ∧ (∀ x, x ∈ ss ↔ (f x).isSome = true) ∧ ss.length = s ∧ Below base X w'

theorem keys_end {base : Nat} {f : Int → Option Value} {s : Nat} {D : DataW Value} (hss : ∀ ss : List Int, ss.Perm (intKeys D) → ss.Nodup ∧ ss.length = s ∧ ∀ x, x ∈ ss ↔ (f x).isSome = true) {X : World} {e : Ending} {w' : World}
    (h : ∃ (v : Value) (ss : List Int), e = .returned v ∧ ss.Perm (intKeys D) ∧ w'.ownsRow base IT 1 v ss.length ((ss.mergeSort (fun x y => decide (x ≤ y))).map encZ) ∧ (v = .slice none 0 0 ↔ ss = []) ∧ Below base X w') : KeysEnd base f s X e w' := by
  obtain ⟨v, ss, he, hp, hrow, _, hb⟩ := h
  obtain ⟨h1, h2, h3⟩ := hss ss hp
  refine ⟨v, sortZ ss, he, ?_, sortZ_asc ss h1, fun x => by rw [sortZ_mem]; exact h3 x, by rw [sortZ_length]; exact h2, hb⟩
  unfold OwnR
  rw [intRec_flat, sortZ_length]
  exact hrow

/-- maps.Keys at the outer map. -/
theorem keysM_any (mb : Option Nat) (W : World) : Calls Try.prog 46 #[.map mb] W fun e w' =>
    e = .returned (.func (.func 52) #[] #[.pointer (some ⟨W.heap.size, 0, none⟩)]) ∧ w' = W.alloc (.cells #[.map mb] TM) :=
  (callsIn_wide (n := 5)).1 (AnyZI.keys_in Try.keysM Fence.wide 5 trivial rfl mb W)
theorem keysI_any (mb : Option Nat) (W : World) : Calls Try.prog 47 #[.map mb] W fun e w' =>
    e = .returned (.func (.func 53) #[] #[.pointer (some ⟨W.heap.size, 0, none⟩)]) ∧ w' = W.alloc (.cells #[.map mb] TI) :=
  (callsIn_wide (n := 5)).1 (AnyZI.keys_in Try.keysI Fence.wide 5 trivial rfl mb W)

set_option maxHeartbeats 1000000 in
theorem sortedM_any (w : World) (b s : Nat) (f : Int → Option Value) (h : MapF KI w b f s) (hs : s ≤ 100000) :
    Calls Try.prog 45 #[.func (.func 52) #[] #[.pointer (some ⟨w.heap.size, 0, none⟩)]] (w.alloc (.cells #[.map (some b)] TM))
      (KeysEnd (w.alloc (.cells #[.map (some b)] TM)).heap.size f s (w.alloc (.cells #[.map (some b)] TM))) := by
  obtain ⟨D, hown, hsz, hss⟩ := h.ints
  have hbl := hown.lt
  have hseq : SeqGives Fence.wide 2 Try.prog 52 #[.pointer (some ⟨w.heap.size, 0, none⟩)] encZ (fun ss => ss.Perm (intKeys D)) (Maps.size D) (w.alloc (.cells #[.map (some b)] TM)) :=
    AnyZI.keys_gives (ρ := Try.keysM_ren) { Try.keysM with } Fence.wide _ trivial rfl (by omega) w.heap.size b s D _ (by simp) (by simp) (by
      obtain ⟨es, clock, hb, Ft, hs, hD⟩ := hown
      exact ⟨es, clock, (Below.heap_alloc _ _ b hbl).trans hb, Ft, hs, hD⟩)
  have cS := AnyZI.sorted_in Try.sortedI Fence.wide 5 trivial trivial trivial trivial rfl (by omega) (sortsI _) (enters_of Try.func51 (by kernel_rfl) rfl) 52 #[.pointer (some ⟨w.heap.size, 0, none⟩)] trivial (enters_of Try.func52 (by kernel_rfl) rfl) _ _ (by rw [hsz]; unfold maxLen; omega) (by rw [hsz]; omega) _ hseq
  refine ((callsIn_wide (n := 5)).1 cS).mono ?_
  intro e w' he
  exact keys_end hss he

set_option maxHeartbeats 1000000 in
theorem sortedI_any (w : World) (b s : Nat) (f : Int → Option Value) (h : MapF KI w b f s) (hs : s ≤ 100000) :
    Calls Try.prog 45 #[.func (.func 53) #[] #[.pointer (some ⟨w.heap.size, 0, none⟩)]] (w.alloc (.cells #[.map (some b)] TI))
      (KeysEnd (w.alloc (.cells #[.map (some b)] TI)).heap.size f s (w.alloc (.cells #[.map (some b)] TI))) := by
  obtain ⟨D, hown, hsz, hss⟩ := h.ints
  have hbl := hown.lt
  have hseq : SeqGives Fence.wide 2 Try.prog 53 #[.pointer (some ⟨w.heap.size, 0, none⟩)] encZ (fun ss => ss.Perm (intKeys D)) (Maps.size D) (w.alloc (.cells #[.map (some b)] TI)) :=
    AnyZI.keys_gives (ρ := Try.keysI_ren) { Try.keysI with } Fence.wide _ trivial rfl (by omega) w.heap.size b s D _ (by simp) (by simp) (by
      obtain ⟨es, clock, hb, Ft, hs, hD⟩ := hown
      exact ⟨es, clock, (Below.heap_alloc _ _ b hbl).trans hb, Ft, hs, hD⟩)
  have cS := AnyZI.sorted_in Try.sortedI Fence.wide 5 trivial trivial trivial trivial rfl (by omega) (sortsI _) (enters_of Try.func51 (by kernel_rfl) rfl) 53 #[.pointer (some ⟨w.heap.size, 0, none⟩)] trivial (enters_of Try.func53 (by kernel_rfl) rfl) _ _ (by rw [hsz]; unfold maxLen; omega) (by rw [hsz]; omega) _ hseq
  refine ((callsIn_wide (n := 5)).1 cS).mono ?_
  intro e w' he
  exact keys_end hss he

end Go.Proofs.Ytpcdmfimjnhejao
namespace Go.Proofs.Ytpcdmfimjnhejao
open Go.RowKit

abbrev RtT : TypeId := 37

set_option maxRecDepth 100000 in
set_option maxHeartbeats 1600000 in
theorem told_any (w : World) (base b : Nat) (g : Int → Option Nat) (s : Nat) (F : Int → Int → Option Int) (sz : Int → Nat) (h : Tab w base b g s F sz) (hs : s ≤ 1000) (hsz : ∀ x, sz x ≤ 1000) :
    Calls Try.prog 34 #[.map (some b)] w fun e w' =>
      ∃ v, e = .returned v ∧ ∃ ys, OwnR rtRec w' w.heap.size RtT v ys ∧ ys.Pairwise AheadR ∧ (∀ a n t, (a, n, t) ∈ ys ↔ F a n = some t) ∧ Below w.heap.size w w' := by
  have hlt := h.lt
  obtain ⟨i0, z0, hi, hz0, hzs, hsz0, hby0⟩ := info_rec infoRoute
  have h0 := h.alloc (.cells #[] RtT)
  have hL0 : OwnR rtRec (w.alloc (.cells #[] RtT)) w.heap.size RtT (.slice (some ⟨w.heap.size, 0, none⟩) 0 0) [] := OwnR.lit _ _ _ (Nat.le_refl _)
  have hB0 : Below w.heap.size w (w.alloc (.cells #[] RtT)) := (Below.refl _ _).alloc (Nat.le_refl _) _
  have HSZ : Hid (∀ x, sz x ≤ 1000) := hsz
  clear hsz
  go_enter Try.func34, Try.ntmps34
  go_upto_region 2 with fail
  generalize w.alloc (.cells #[] RtT) = X0 at *
  go_wp2_with (first
    | (go_at_call 46; refine (keysM_any _ _).mono ?_; rintro e w' ⟨rfl, hw⟩; rw [hw])
    | (go_at_call 45; refine (sortedM_any X0 b s _ h0.outer (by omega)).mono ?_; rintro e X1 ⟨v1, ss, rfl, hO1, hasc, hmem, hslen, hB1⟩; obtain ⟨ao, cp, rfl, hfo⟩ := hO1.form))
  have hT1 := (h0.alloc (.cells #[.map (some b)] TM)).below hB1
  have hL1 := (hL0.alloc (.cells #[.map (some b)] TM)).below hB1
  have hBw1 : Below w.heap.size w X1 := (hB0.alloc hB0.size _).trans (hB1.mono (Nat.le_trans hB0.size (by simp)))
  obtain ⟨B1, hBe⟩ : ∃ B, Hid (B = (X0.alloc (.cells #[.map (some b)] TM)).heap.size) := ⟨_, rfl⟩
  rw [← hBe.out] at hO1
  have hsm : Hid (∀ x, x ∈ ss ↔ (g x).isSome = true) := fun x => by rw [hmem x, Option.isSome_map]
  have HAS := Lib.hid hasc
  have hsl : ss.length ≤ 1000 := by omega
  clear hmem hasc hfo hw hB1 hL0 h0 hB0
  go_loopw [3, 14] (fun o c wr => ∃ (k : Nat) (ls : List Rt), k ≤ ss.length ∧ c = .int .i64 k ∧ OwnR rtRec wr w.heap.size RtT o ls ∧ Hid (ToldTo F ss k ls) ∧ ls.length ≤ 1000 * k ∧ OwnR intRec wr B1 IT (.slice ao ss.length cp) ss ∧ Tab wr base b g s F sz ∧ Below w.heap.size w wr) (fun _ c _ => ss.length - (intOf c).toNat)
  case atStart => exact ⟨0, [], Nat.zero_le _, rfl, hL1, told_none F ss, Nat.zero_le _, hO1, hT1, hBw1⟩
  case round =>
    obtain ⟨k, ls, hk, rfl, hLk, HTo, hln, hOk, hTk, hBk⟩ := hrel
    have hBs := hBk.size
    clear hO1 hT1 hL1 hBw1
    by_cases hlk : k < ss.length
    · have hlk' : (k : Int) < (ss.length : Int) := by omega
      obtain ⟨ao', cp', hv, hfo'⟩ := hOk.form
      injection hv with hv1 hv2 hv3
      subst hv1
      obtain ⟨g0, rfl, _, _, hcell⟩ := hfo' (by omega)
      have hka : ss[k]? = some ss[k] := List.getElem?_eq_getElem hlk
      have c0 := (hcell k 0 ss[k] hka (by decide)).1
      have c0' : wr.cell? ⟨g0, k, none⟩ = some (.int .i64 ss[k]) := by
        have e1 : intRec.k * k + 0 = k := by show 1 * k + 0 = k; omega
        rw [e1] at c0
        exact c0
      clear c0
      have hga := (hsm.out ss[k]).1 (List.getElem_mem hlk)
      generalize ss[k] = a at c0' hga hka
      obtain ⟨c, hc⟩ := Option.isSome_iff_exists.1 hga
      have hao : KI.ok a := Classical.byContradiction fun hno => by
        have := hTk.outer
        obtain ⟨D, _, _, h3, _⟩ := this
        have := h3 a hno
        simp [hc] at this
      have HKA := Lib.hid hka
      have hsza := HSZ.out a
      clear hfo' hcell hga hv2 hv3 hka
      go_wp2_with (first
        | (at_lookup; refine wpList_lookM _ KI rfl _ _ TM rfl TI undM (zeroM _) b g s rfl hTk.outer a hao rfl ?_; rw [hc])
        | (go_at_call 47; refine (keysI_any _ _).mono ?_; rintro e w' ⟨rfl, hw⟩; rw [hw])
        | (go_at_call 45; refine (sortedI_any wr c (sz a) _ (hTk.inner a c hc) (by omega)).mono ?_; rintro e X2 ⟨v2, ns, rfl, hO2, hnasc, hnmem, hnlen, hB2⟩; obtain ⟨ao2, cp2, rfl, hfo2⟩ := hO2.form))
      have hT2 := (hTk.alloc (.cells #[.map (some c)] TI)).below hB2
      have hL2 := (hLk.alloc (.cells #[.map (some c)] TI)).below hB2
      have hK2 := (hOk.alloc (.cells #[.map (some c)] TI)).below hB2
      have hBw2 : Below w.heap.size w X2 := (hBk.alloc hBk.size _).trans (hB2.mono (Nat.le_trans hBk.size (by simp)))
      obtain ⟨B2, hBe2⟩ : ∃ B, Hid (B = (wr.alloc (.cells #[.map (some c)] TI)).heap.size) := ⟨_, rfl⟩
      rw [← hBe2.out] at hO2
      have hnm : Hid (∀ x, x ∈ ns ↔ (F a x).isSome = true) := fun x => by rw [hnmem x, Option.isSome_map]
      have HNA := Lib.hid hnasc
      have hnl : ns.length ≤ 1000 := by omega
      clear hnmem hnasc hfo2 hw hB2 hLk hOk hTk hBk c0'
      go_loopw [3, 25] (fun o c' wr' => ∃ (j : Nat) (ls' : List Rt), j ≤ ns.length ∧ c' = .int .i64 j ∧ OwnR rtRec wr' w.heap.size RtT o ls' ∧ Hid (ToldIn F ss k a ns j ls') ∧ ls'.length ≤ 1000 * k + j ∧ OwnR intRec wr' B2 IT (.slice ao2 ns.length cp2) ns ∧ OwnR intRec wr' B1 IT (.slice (some ⟨g0, 0, none⟩) ss.length cp) ss ∧ Tab wr' base b g s F sz ∧ Below w.heap.size w wr') (fun _ c' _ => ns.length - (intOf c').toNat)
      case atStart => exact ⟨0, ls, Nat.zero_le _, rfl, hL2, told_begin HTo.out a ns, by omega, hO2, hK2, hT2, hBw2⟩
      case round =>
        obtain ⟨j, ls', hj, rfl, hLm, HTi, hlm, hNm, hOm, hTm, hBm⟩ := hrel
        have hBms := hBm.size
        clear hO2 hT2 hL2 hBw2 hK2
        by_cases hjl : j < ns.length
        · have hjl' : (j : Int) < (ns.length : Int) := by omega
          obtain ⟨ao3, cp3, hv, hfo3⟩ := hNm.form
          injection hv with hv1 hv2 hv3
          subst hv1
          obtain ⟨g1, rfl, _, _, hcell⟩ := hfo3 (by omega)
          have hjn : ns[j]? = some ns[j] := List.getElem?_eq_getElem hjl
          have c1 := (hcell j 0 ns[j] hjn (by decide)).1
          have c1' : wr.cell? ⟨g1, j, none⟩ = some (.int .i64 ns[j]) := by
            have e1 : intRec.k * j + 0 = j := by show 1 * j + 0 = j; omega
            rw [e1] at c1
            exact c1
          clear c1
          have hfn := (hnm.out ns[j]).1 (List.getElem_mem hjl)
          generalize ns[j] = n at c1' hfn hjn
          obtain ⟨t, ht⟩ := Option.isSome_iff_exists.1 hfn
          have hno : KI.ok n := Classical.byContradiction fun hno => by
            have := hTm.inner a c hc
            obtain ⟨D, _, _, h3, _⟩ := this
            have := h3 n hno
            simp [ht] at this
          have HST : Hid (ToldIn F ss k a ns (j + 1) (ls' ++ [(a, n, t)])) := told_step HAS.out HNA.out HKA.out hjn ht HTi.out
          clear hfo3 hcell hfn hv2 hv3 hjn
          go_wp2_with (first
            | (at_lookup; refine wpList_lookI _ KI rfl _ _ TI rfl IT .i64 undI (zeroI _) c (F a) (sz a) rfl (hTm.inner a c hc) n hno rfl ?_; simp only [ht, Option.getD_some])
            | (at_builtin; refine wpList_pushG _ rfl _ _ 25 rfl w.heap.size RtT i0 z0 24 Try.underlying25 hi hz0 hsz0 hby0 hzs (by decide) _ _ rfl hLm (a, n, t) _ rfl rfl (by omega) hBms ?_; intro o2 w2 hL2 hg2 hb2))
          go_roundw
          case rel => exact ⟨j + 1, ls' ++ [(a, n, t)], by omega, by go_num, hL2, HST, by rw [List.length_append]; simp; omega, hNm.kept hg2 (hNm.ne_row hLm (by decide)), hOm.kept hg2 (hOm.ne_row hLm (by decide)), hTm.kept hg2 (hLm.ne_map hTm.outer) (fun x' c' hc' => hLm.ne_map (hTm.inner x' c' hc')), hBm.trans hb2⟩
          case measure => simp [intOf]; omega
        · have hjl' : ¬ ((j : Int) < (ns.length : Int)) := by omega
          have hje : j = ns.length := by omega
          subst hje
          have HSE : Hid (ToldTo F ss (k + 1) ls') := told_end HKA.out hnm.out HTi.out
          go_wp2_with fail
          go_roundw
          case rel => exact ⟨k + 1, ls', hlk, by go_num, hLm, HSE, by omega, hOm, hTm, hBm⟩
          case measure => simp [intOf]; omega
    · have hlk' : ¬ ((k : Int) < (ss.length : Int)) := by omega
      have hke : k = ss.length := by omega
      subst hke
      have HA : Hid (ls.Pairwise AheadR ∧ ∀ a n t, (a, n, t) ∈ ls ↔ F a n = some t) := told_all (fun a n t hft => (hsm.out a).2 (by
        cases hga : g a with
        | none => rw [h.no a n hga] at hft; cases hft
        | some c => rfl)) HTo.out
      go_wp2_with fail
      go_ret
      exact ⟨_, rfl, ls, hLk, HA.out.1, HA.out.2, hBk⟩

end Go.Proofs.Ytpcdmfimjnhejao
namespace Go.Proofs.Ytpcdmfimjnhejao
open Go.RowKit

abbrev PfT : TypeId := 35

set_option maxRecDepth 100000 in
set_option maxHeartbeats 800000 in
theorem drop_miss (w : World) (base b : Nat) (g : Int → Option Nat) (s : Nat) (F : Int → Int → Option Int) (sz : Int → Nat) (h : Tab w base b g s F sz) (a n : Int) (ha : KI.ok a) (hn : KI.ok n) (hF : F a n = none) :
    Calls Try.prog 35 #[.map (some b), .agg #[.int .i64 a, .int .i64 n]] w fun e w' =>
      e = .returned (.bool false) ∧ Below w.heap.size w w' := by
  have h0 := h.alloc (.cells #[.int .i64 a, .int .i64 n] PfT)
  have hw0 : Below w.heap.size w (w.alloc (.cells #[.int .i64 a, .int .i64 n] PfT)) := (Below.refl _ _).alloc (Nat.le_refl _) _
  rcases hga : g a with _ | c
  · go_enter Try.func35, Try.ntmps35
    go_wp2_with (first
      | (at_lookup; refine wpList_lookM _ KI rfl _ _ TM rfl TI undM (zeroM _) b g s rfl h0.outer a ha rfl ?_; rw [hga])
      | (at_lookup; refine wpList_lookI_nil _ KI rfl _ _ TI true rfl 3 (.int .i64 0) undI (zeroI _) rfl n hn rfl ?_))
    go_ret
    exact ⟨rfl, hw0⟩
  · go_enter Try.func35, Try.ntmps35
    go_wp2_with (first
      | (at_lookup; refine wpList_lookM _ KI rfl _ _ TM rfl TI undM (zeroM _) b g s rfl h0.outer a ha rfl ?_; rw [hga])
      | (at_lookup; refine wpList_lookI_ok _ KI rfl _ _ TI rfl 3 .i64 undI (zeroI _) c (F a) (sz a) rfl (h0.inner a c hga) n hn rfl ?_; simp only [hF, Option.isSome_none, Option.getD_none]))
    go_ret
    exact ⟨rfl, hw0⟩

set_option maxRecDepth 100000 in
set_option maxHeartbeats 800000 in
theorem drop_hit (w : World) (base b : Nat) (g : Int → Option Nat) (s : Nat) (F : Int → Int → Option Int) (sz : Int → Nat) (h : Tab w base b g s F sz) (a n t : Int) (ha : KI.ok a) (hn : KI.ok n) (hF : F a n = some t) :
    Calls Try.prog 35 #[.map (some b), .agg #[.int .i64 a, .int .i64 n]] w fun e w' =>
      e = .returned (.bool true) ∧ ∃ g' s' sz', Tab w' base b g' s' (tabDel F a n) sz' ∧ s' ≤ s ∧ (∀ x, sz' x ≤ sz x) ∧ Below base w w' := by
  have hlt := h.lt
  have hown := h.own
  have h0 := h.alloc (.cells #[.int .i64 a, .int .i64 n] PfT)
  have hs0 : (w.alloc (.cells #[.int .i64 a, .int .i64 n] PfT)).heap.size = w.heap.size + 1 := by simp
  have hw0 : Below base w (w.alloc (.cells #[.int .i64 a, .int .i64 n] PfT)) := (Below.refl _ _).alloc (by omega) _
  have hrow : (w.alloc (.cells #[.int .i64 a, .int .i64 n] PfT)).heap[w.heap.size]? = some (.cells #[.int .i64 a, .int .i64 n] PfT (0, 0)) := (MapKept.heap_alloc _ _).1
  have hd0 : (w.alloc (.cells #[.int .i64 a, .int .i64 n] PfT)).cell? ⟨w.heap.size, 0, none⟩ = some (.int .i64 a) := cell_of_row _ _ 0 _ _ (0, 0) hrow
  rcases hga : g a with _ | c
  · rw [h.no a n hga] at hF
    cases hF
  have hcl := h.in_lt hga
  have hM := h0.inner a c hga
  obtain ⟨m, hm⟩ : ∃ m, sz a = m + 1 := by
    have : sz a ≠ 0 := fun e => by
      have := (h.empty_iff hga).1 e n
      rw [hF] at this
      cases this
    exact ⟨sz a - 1, by omega⟩
  have hsome : Hid (((F a n).map (Value.int .i64)).isSome = true) := by
    show _ = true
    rw [hF]
    rfl
  rcases hm0 : m with _ | m'
  · go_enter Try.func35, Try.ntmps35
    go_wp2_with (first
      | (at_lookup; refine wpList_lookM _ KI rfl _ _ TM rfl TI undM (zeroM _) b g s rfl h0.outer a ha rfl ?_; rw [hga])
      | (at_lookup; refine wpList_lookI_ok _ KI rfl _ _ TI rfl 3 .i64 undI (zeroI _) c (F a) (sz a) rfl hM n hn rfl ?_; simp only [hF, Option.isSome_some, Option.getD_some])
      | (at_delete; refine wpList_dropF _ KI rfl _ _ TI rfl 3 undI c _ (sz a) rfl hM n hn rfl ?_; intro w1 hm1 ht1; rw [if_pos hsome.out, hm, hm0] at hm1; have hN1 := h0.del hga hm1 ht1; have hc0 := (turned_cell ht1 (p := ⟨w.heap.size, 0, none⟩) (by rw [hs0]; show w.heap.size < _; omega) (by show w.heap.size ≠ _; omega)).trans hd0)
      | (at_len; refine wpList_lenF _ KI rfl _ TI rfl 3 undI c _ _ rfl hm1 ?_)
      | (at_delete; refine wpList_dropF _ KI rfl _ _ TM rfl TI undM b _ s rfl hN1.outer a ha rfl ?_; intro w2 hm2 ht2))
    go_ret
    have hp := hN1.strike hm2 ht2
    have hE : upd (upd F a (upd (F a) n none)) a (fun _ => none) = tabDel F a n := by
      have he := (hN1.empty_iff (x := a) hga).1 (by rw [upd_same])
      funext x y
      by_cases hx : x = a
      · subst hx
        rw [upd_same]
        exact (he y).symm
      · rw [upd_other _ _ hx]
        rfl
    rw [hE] at hp
    refine ⟨rfl, _, _, _, hp, ?_, fun x => ?_, hw0.trans ((turned_below ht1 (h.apart a c hga).1 (by rw [hs0]; omega)).trans (turned_below ht2 hown (by rw [turned_size ht1, hs0]; omega)))⟩
    · split <;> omega
    · unfold upd
      split
      · omega
      · exact Nat.le_refl _
  · go_enter Try.func35, Try.ntmps35
    go_wp2_with (first
      | (at_lookup; refine wpList_lookM _ KI rfl _ _ TM rfl TI undM (zeroM _) b g s rfl h0.outer a ha rfl ?_; rw [hga])
      | (at_lookup; refine wpList_lookI_ok _ KI rfl _ _ TI rfl 3 .i64 undI (zeroI _) c (F a) (sz a) rfl hM n hn rfl ?_; simp only [hF, Option.isSome_some, Option.getD_some])
      | (at_delete; refine wpList_dropF _ KI rfl _ _ TI rfl 3 undI c _ (sz a) rfl hM n hn rfl ?_; intro w1 hm1 ht1; rw [if_pos hsome.out, hm, hm0] at hm1; have hN1 := h0.del hga hm1 ht1)
      | (at_len; refine wpList_lenF _ KI rfl _ TI rfl 3 undI c _ _ rfl hm1 ?_))
    go_ret
    refine ⟨rfl, g, s, _, hN1, Nat.le_refl _, fun x => ?_, hw0.trans (turned_below ht1 (h.apart a c hga).1 (by rw [hs0]; omega))⟩
    unfold upd
    split
    · rename_i hx
      rw [hx]
      omega
    · exact Nat.le_refl _

end Go.Proofs.Ytpcdmfimjnhejao

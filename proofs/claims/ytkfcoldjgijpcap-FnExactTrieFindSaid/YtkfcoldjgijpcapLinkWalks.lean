/-
  The program's search among linked twigs: left by a goto.
  What is put among linked twigs.
-/
import Derived.Test.YtkfcoldjgijpcapLinkAll
import Derived.WalkMore
import Derived.ScopeJumps
namespace Go.Proofs.Ytkfcoldjgijpcap
open Go.RowKit

theorem way_any (b k : Nat) (hk : k < 2) (w : World) : Calls Try.prog 59 #[.pointer (some ⟨b, 0, none⟩), .int .i64 (k : Nat)] w fun e w' => e = .returned (.pointer (some ⟨b, 1 + k, none⟩)) ∧ w' = w := by
  match k, hk with
  | 0, _ => exact way_zero b w
  | 1, _ => exact way_one b w
/-- The twig behind a bit. -/
theorem link_kid {w : World} {base : Nat} {t : List Tw} {bs : List Nat} (h : Nodes LkT w base bs (linkA t bs)) {i b : Nat} (hi : bs[i]? = some b) (k : Nat) (hk : k < 2) : w.cell? ⟨b, 1 + k, none⟩ = some (ptrAt bs (kidOf (atT t i) k)) := by
  rw [h.cell hi (1 + k)]
  match k, hk with
  | 0, _ => rfl
  | 1, _ => rfl
theorem jump_ret {l : Nat} {J : Act → World → Prop} {Q : Exit → Act → World → Prop} {a : Act} {w : World} (h : Q .ret a w) : Exit.jump l J Q .ret a w := h

set_option maxRecDepth 100000 in
set_option maxHeartbeats 1600000 in
theorem find_any (base : Nat) (v : Value) (t : List Tw) (bs : List Nat) (a : Nat) (w : World) (hl : bs.length = t.length) (hN : Nodes LkT w base bs (linkA t bs)) (hO : OwnR ptrRec w base LpT v bs) (hR : TrieR t) (ha : a ≤ 4294967295) :
    Calls Try.prog 43 #[v, .int .i64 a] w fun e w' => e = .returned (.int .i64 (findP t a)) ∧ w' = w := by
  obtain ⟨po, pc, rfl, hpf⟩ := hO.row.form
  have hpos := hR.pos
  obtain ⟨pg, rfl, hpg, _⟩ := hpf (by omega)
  obtain ⟨b0, hb0⟩ : ∃ b, bs[0]? = some b := ⟨_, List.getElem?_eq_getElem (by omega)⟩
  have q0 : w.cell? ⟨pg, 0, none⟩ = some (.pointer (some ⟨b0, 0, none⟩)) := own_ptr hO hb0
  have hl0 : (0 : Int) < (bs.length : Int) := by omega
  have HN := Lib.hid hN
  have HR := Lib.hid hR
  have HL : Hid (bs.length = t.length) := hl
  have HBI := Lib.hid (fun k hk => addrBit_any a k ha hk)
  have HWY := Lib.hid way_any
  clear hpf hN hR hl hpg hO
  go_enter Try.func43, Try.ntmps43
  go_wp2_with fail
  refine wp_scope_jumps 0 (fun a' w' => ∃ (s0 s1 s2 s3 s4 s5 s6 s7 s8 s9 s10 s11 s12 s13 s14 s15 s16 s17 s18 s19 s20 s21 s22 s23 s24 s25 s26 s27 s28 s29 s30 s31 s32 s33 : Value), a' = { tmps := #[s0, s1, s2, s3, s4, s5, s6, s7, s8, s9, s10, s11, s12, s13, s14, s15, s16, s17, s18, s19, s20, s21, s22, s23, s24, s25, s26, s27, s28, s29, s30, s31, s32, s33], defers := [] } ∧ s5 = .int .i64 (findP t a) ∧ w' = w) (fun _ _ => 0) rfl ?first ?pass
  case pass =>
    rintro a1 w1 ⟨s0, s1, s2, s3, s4, s5, s6, s7, s8, s9, s10, s11, s12, s13, s14, s15, s16, s17, s18, s19, s20, s21, s22, s23, s24, s25, s26, s27, s28, s29, s30, s31, s32, s33, rfl, rfl, rfl⟩
    go_wp2_with fail
    refine jump_ret ?_
    go_ret
    exact ⟨rfl, rfl⟩
  go_wp2_with fail
  go_loop [5, 6, 7] (fun to_ at_ c => ∃ (k i b : Nat) (z : Int), k ≤ 32 ∧ c = .int .i64 k ∧ i < t.length ∧ bs[i]? = some b ∧ at_ = .pointer (some ⟨b, 0, none⟩) ∧ to_ = .int .i64 z ∧ Hid (findT t i (if (atT t i).2.2 = 0 then z else (atT t i).2.2) ((bitsP a 32).drop k) = findP t a)) (fun _ _ c => 33 - (intOf c).toNat)
  case atStart => exact ⟨0, 0, b0, 0, by omega, rfl, by omega, hb0, rfl, rfl, by
    show findT t 0 _ _ = findP t a
    unfold findP
    rw [List.drop_zero]
    by_cases h : (atT t 0).2.2 = 0
    · rw [if_pos h, h]
    · rw [if_neg h]⟩
  case round =>
    obtain ⟨k, i, b, z, hk, rfl, hi, hib, rfl, rfl, HFD⟩ := hrel
    have m3 : w.cell? ⟨b, 3, none⟩ = some (.int .i64 (atT t i).2.2) := HN.out.cell hib 3
    obtain ⟨cur, HCU⟩ : ∃ cur, Hid (cur = if (atT t i).2.2 = 0 then z else (atT t i).2.2) := ⟨_, rfl⟩
    rw [← HCU.out] at HFD
    go_upto_if 17 with fail
    go_cut [5] (fun v wx => v = .int .i64 cur ∧ wx = w)
    case first =>
      by_cases hto : (atT t i).2.2 = 0
      · have hcz : cur = z := by rw [HCU.out, if_pos hto]
        rw [hto] at m3
        subst hcz
        go_wp2_with fail
        go_meet
        exact ⟨rfl, rfl⟩
      · have hcz : cur = (atT t i).2.2 := by rw [HCU.out, if_neg hto]
        have hto' : ((atT t i).2.2 != 0) = true := by rw [bne_iff_ne]; exact hto
        generalize (atT t i).2.2 = y at *
        subst hcz
        clear hto
        go_wp2_with fail
        go_meet
        exact ⟨rfl, rfl⟩
    case rest =>
      obtain ⟨rfl, rfl⟩ := hcut
      clear m3 HCU
      by_cases hk32 : k < 32
      · have hk' : ((k : Int) == 32) = false := by rw [beq_eq_false_iff_ne]; omega
        have hdr := bits_drop a k hk32
        have hb2 := bitP_two a k
        have hkid := HR.out.kids i hi (bitP a k)
        have m1 := link_kid HN.out hib (bitP a k) (by omega)
        by_cases hz : kidOf (atT t i) (bitP a k) = 0
        · rw [ptr_none bs _ hz] at m1
          have HZ : Hid (findP t a = cur) := by
            show _ = _
            rw [← HFD.out, hdr, findT, if_pos hz]
          clear hdr hkid HFD hz
          go_wp2_with (first | (go_at_call 60; refine (HBI.out k hk32 _).mono ?_; rintro e w' ⟨rfl, hw⟩; rw [hw]) | (go_at_call 59; refine (HWY.out b (bitP a k) (by omega) _).mono ?_; rintro e w' ⟨rfl, hw⟩; rw [hw]))
          go_step3
          exact ⟨rfl, _, _, _, _, _, _, _, _, _, _, _, _, _, _, _, _, _, _, _, _, _, _, _, _, _, _, _, _, _, _, _, _, _, _, rfl, by rw [HZ.out], rfl⟩
        · obtain ⟨m, hm, him, hml⟩ := hkid.resolve_left hz
          obtain ⟨bm, hbm⟩ : ∃ b, bs[m]? = some b := ⟨_, List.getElem?_eq_getElem (by have := HL.out; omega)⟩
          rw [ptr_some bs _ m bm hm hz hbm] at m1
          have HZ : Hid (findT t m (if (atT t m).2.2 = 0 then cur else (atT t m).2.2) ((bitsP a 32).drop (k + 1)) = findP t a) := by
            show _ = _
            rw [← HFD.out, hdr, findT, if_neg hz, hm, Int.toNat_natCast]
          clear hdr hkid HFD hz hm
          go_wp2_with (first | (go_at_call 60; refine (HBI.out k hk32 _).mono ?_; rintro e w' ⟨rfl, hw⟩; rw [hw]) | (go_at_call 59; refine (HWY.out b (bitP a k) (by omega) _).mono ?_; rintro e w' ⟨rfl, hw⟩; rw [hw]))
          go_round
          case rel => exact ⟨k + 1, m, bm, cur, by omega, by go_num, hml, hbm, rfl, rfl, HZ⟩
          case measure => simp [intOf]; omega
      · have hke : k = 32 := by omega
        subst hke
        have HZ : Hid (findP t a = cur) := by
          show _ = _
          rw [← HFD.out, List.drop_of_length_le (by rw [bitsP_length]; exact Nat.le_refl _)]
          rfl
        go_wp2_with fail
        go_step3
        exact ⟨rfl, _, _, _, _, _, _, _, _, _, _, _, _, _, _, _, _, _, _, _, _, _, _, _, _, _, _, _, _, _, _, _, _, _, _, rfl, by rw [HZ.out], rfl⟩

end Go.Proofs.Ytkfcoldjgijpcap
namespace Go.Proofs.Ytkfcoldjgijpcap
open Go.RowKit

abbrev PfT : TypeId := 40

theorem ptr_more (bs : List Nat) (n : Nat) (z : Int) (h : z = 0 ∨ ∃ m : Nat, z = (m : Int) ∧ m < bs.length) : ptrAt (bs ++ [n]) z = ptrAt bs z := by
  rcases h with rfl | ⟨m, rfl, hm⟩
  · rw [ptr_none _ 0 rfl, ptr_none _ 0 rfl]
  · unfold ptrAt
    by_cases h0 : (m : Int) = 0
    · rw [if_pos h0, if_pos h0]
    · rw [if_neg h0, if_neg h0, Int.toNat_natCast, List.getD_eq_getElem?_getD, List.getD_eq_getElem?_getD, List.getElem?_append_left hm]
theorem ptr_last (bs : List Nat) (n : Nat) (hp : 1 ≤ bs.length) : ptrAt (bs ++ [n]) (bs.length : Nat) = .pointer (some ⟨n, 0, none⟩) :=
  ptr_some _ _ bs.length n rfl (by omega) (by simp)
theorem kid_room {l : List Tw} (hR : TrieR l) {bs : List Nat} (hl : bs.length = l.length) (j : Nat) (hj : j < l.length) (c : Nat) : kidOf (atT l j) c = 0 ∨ ∃ m : Nat, kidOf (atT l j) c = (m : Int) ∧ m < bs.length := by
  rcases hR.kids j hj c with h | ⟨m, h1, _, h3⟩
  · exact .inl h
  · exact .inr ⟨m, h1, by omega⟩
/-- A new twig is linked. -/
theorem link_step {l : List Tw} (hR : TrieR l) {bs : List Nat} (hl : bs.length = l.length) (k b n : Nat) (hk : k < l.length) (hb : b < 2) (j : Nat) (hj : j < (bs ++ [n]).length) :
    (if j = k then (if k = bs.length then #[.int .i64 (bs.length : Nat), .pointer none, .pointer none, .int .i64 0] else linkA l bs k).setIfInBounds (1 + b) (.pointer (some ⟨n, 0, none⟩)) else if j = bs.length then #[.int .i64 (bs.length : Nat), .pointer none, .pointer none, .int .i64 0] else linkA l bs j) =
      linkA (l.set k (setKid (atT l k) b (l.length : Nat)) ++ [tw0]) (bs ++ [n]) j := by
  have hlen : (l.set k (setKid (atT l k) b (l.length : Nat))).length = l.length := List.length_set
  have hpos := hR.pos
  have hj2 : j < bs.length + 1 := by simpa using hj
  by_cases hjk : j = k
  · subst hjk
    have hat : atT (l.set j (setKid (atT l j) b (l.length : Nat)) ++ [tw0]) j = setKid (atT l j) b (l.length : Nat) := by rw [atT_append, hlen, if_pos hk, atT_set _ _ _ _ hk, if_pos rfl]
    rw [if_pos rfl, if_neg (by omega)]
    unfold linkA
    rw [hat]
    have e0 : kidOf (atT l j) 0 = (atT l j).1 := rfl
    have e1 : kidOf (atT l j) 1 = (atT l j).2.1 := rfl
    have r0 := ptr_more bs n _ (kid_room hR hl j hk 0)
    have r1 := ptr_more bs n _ (kid_room hR hl j hk 1)
    rw [e0] at r0
    rw [e1] at r1
    have r2 := ptr_last bs n (by omega)
    rw [hl] at r2
    match b, hb with
    | 0, _ =>
      show #[_, .pointer (some ⟨n, 0, none⟩), ptrAt bs (atT l j).2.1, _] = #[_, ptrAt (bs ++ [n]) (l.length : Nat), ptrAt (bs ++ [n]) (atT l j).2.1, _]
      rw [r1, r2]
      rfl
    | 1, _ =>
      show #[_, ptrAt bs (atT l j).1, .pointer (some ⟨n, 0, none⟩), _] = #[_, ptrAt (bs ++ [n]) (atT l j).1, ptrAt (bs ++ [n]) (l.length : Nat), _]
      rw [r0, r2]
      rfl
  · rw [if_neg hjk]
    by_cases hjl : j = bs.length
    · have hat : atT (l.set k (setKid (atT l k) b (l.length : Nat)) ++ [tw0]) j = tw0 := by rw [atT_append, hlen, if_neg (by omega), if_pos (by omega)]
      rw [if_pos hjl]
      unfold linkA
      rw [hat, hjl]
      show _ = #[_, ptrAt (bs ++ [n]) 0, ptrAt (bs ++ [n]) 0, _]
      rw [ptr_none _ 0 rfl]
      rfl
    · have hat : atT (l.set k (setKid (atT l k) b (l.length : Nat)) ++ [tw0]) j = atT l j := by rw [atT_append, hlen, if_pos (by omega), atT_set _ _ _ _ hk, if_neg hjk]
      rw [if_neg hjl]
      unfold linkA
      have r0 := ptr_more bs n _ (kid_room hR hl j (by omega) 0)
      have r1 := ptr_more bs n _ (kid_room hR hl j (by omega) 1)
      have e0 : kidOf (atT l j) 0 = (atT l j).1 := rfl
      have e1 : kidOf (atT l j) 1 = (atT l j).2.1 := rfl
      rw [e0] at r0
      rw [e1] at r1
      rw [hat, r0, r1]
theorem link_to (l : List Tw) (bs : List Nat) (k : Nat) (p : Int) (hk : k < l.length) (j : Nat) : (if j = k then (linkA l bs k).setIfInBounds 3 (.int .i64 p) else linkA l bs j) = linkA (setTo l k p) bs j := by
  have hat : atT (setTo l k p) j = if j = k then ((atT l k).1, (atT l k).2.1, p) else atT l j := by unfold setTo; rw [atT_set _ _ _ _ hk]
  unfold linkA
  by_cases hjk : j = k
  · subst hjk
    rw [if_pos rfl, hat, if_pos rfl]
    rfl
  · rw [if_neg hjk, hat, if_neg hjk]

/-- While something is put. -/
structure PutI (w : World) (base : Nat) (A N : Int) (l : List Tw) (bs : List Nat) (pg pc : Nat) (X : World) : Prop where
  nodes : Nodes LkT X base bs (linkA l bs)
  row : OwnR ptrRec X base LpT (.slice (some ⟨pg, 0, none⟩) bs.length pc) bs
  pvar : VarA w.heap.size PfT #[.int .i64 A, .int .i64 N] X
  below : Below base w X
/-- A row of pointers is kept where a twig is written. -/
theorem ptr_keep {X : World} {base pg pc : Nat} {bs cs : List Nat} {f : Nat → Array Value} (hN : Nodes LkT X base bs f) {i b : Nat} (hi : bs[i]? = some b) (h : OwnR ptrRec X base LpT (.slice (some ⟨pg, 0, none⟩) cs.length pc) cs) (j : Nat) (v : Value) : OwnR ptrRec (X.setCell ⟨b, j, none⟩ v) base LpT (.slice (some ⟨pg, 0, none⟩) cs.length pc) cs := by
  have hv := hN.node i b hi
  obtain ⟨cur, hc⟩ := h.cells (g := pg) rfl
  have hne : pg ≠ b := by
    intro e
    subst e
    rw [hv.row] at hc
    injection hc with hc
    injection hc with _ hc
    exact absurd hc (by decide)
  have hc2 := Chg.cell X b j v
  have hk := h
  unfold OwnR at hk ⊢
  exact ownsRow_keep hk (hc2.block pg (Array.getElem?_eq_some_iff.1 hc).1 (by simp; exact hne))

set_option maxRecDepth 100000 in
set_option maxHeartbeats 1600000 in
theorem put_any (base : Nat) (v : Value) (t : List Tw) (bs : List Nat) (A N : Nat) (p : Int) (w : World) (hl : bs.length = t.length) (hN : Nodes LkT w base bs (linkA t bs)) (hO : OwnR ptrRec w base LpT v bs) (hR : TrieR t) (ht : t.length ≤ 400) (hA : A ≤ 4294967295) (hNn : N ≤ 32) (hb : base ≤ w.heap.size) :
    Calls Try.prog 39 #[v, .agg #[.int .i64 A, .int .i64 N], .int .i64 p] w fun e w' => ∃ v' bs', e = .returned v' ∧ bs'.length = (putT t (bitsP A N) p).length ∧ Nodes LkT w' base bs' (linkA (putT t (bitsP A N) p) bs') ∧ OwnR ptrRec w' base LpT v' bs' ∧ Below base w w' := by
  obtain ⟨po, pc, rfl, hpf⟩ := hO.row.form
  have hpos := hR.pos
  obtain ⟨pg, rfl, hpg, _⟩ := hpf (by omega)
  obtain ⟨b0, hb0⟩ : ∃ b, bs[0]? = some b := ⟨_, List.getElem?_eq_getElem (by omega)⟩
  have P0 : Hid (PutI w base A N t bs pg pc (w.alloc (.cells #[.int .i64 (A : Int), .int .i64 (N : Int)] PfT))) := ⟨hN.alloc _, hO.alloc _, VarA.new w PfT _, (Below.refl base w).alloc hb _⟩
  have hl0 : (0 : Int) < (bs.length : Int) := by omega
  have HR := Lib.hid hR
  have HL : Hid (bs.length = t.length) := hl
  have HBI := Lib.hid (fun k hk => addrBit_any A k hA hk)
  have HWY := Lib.hid way_any
  clear hpf hN hR hl hpg hO
  go_enter Try.func39, Try.ntmps39
  go_upto_region 1 with fail
  generalize w.alloc (.cells #[.int .i64 (A : Int), .int .i64 (N : Int)] PfT) = X0 at *
  have q0 : X0.cell? ⟨pg, 0, none⟩ = some (.pointer (some ⟨b0, 0, none⟩)) := own_ptr P0.out.row hb0
  have q1 : X0.cell? ⟨w.heap.size, 1, none⟩ = some (.int .i64 (N : Int)) := P0.out.pvar.cell 1
  go_wp2_with fail
  go_loopw [0, 7, 15] (fun o la c wr => ∃ (i k b : Nat) (l : List Tw) (bs : List Nat) (pg pc : Nat), i ≤ N ∧ c = .int .i64 i ∧ o = .slice (some ⟨pg, 0, none⟩) bs.length pc ∧ bs[k]? = some b ∧ la = .pointer (some ⟨b, 0, none⟩) ∧ Hid (goT t 0 ((bitsP A N).take i) = (l, k)) ∧ Hid (bs.length = l.length) ∧ k < l.length ∧ l.length ≤ t.length + i ∧ PutI w base A N l bs pg pc wr) (fun _ _ c _ => N - (intOf c).toNat)
  case atStart => exact ⟨0, 0, b0, t, bs, pg, pc, Nat.zero_le _, rfl, rfl, hb0, rfl, rfl, HL, by omega, by omega, P0.out⟩
  case round =>
    clear P0 q0 q1 hl0 hb0 HL
    obtain ⟨i, k, b, l, bs, pg, pc, hiN, rfl, rfl, hkb, rfl, HG, HL, hkl, hll, hP⟩ := hrel
    have HP := Lib.hid hP
    clear hP
    have hRl : TrieR l := by
      have h := (goT_ok HR.out ((bitsP A N).take i)).1.right
      rw [HG.out] at h
      exact h
    have hbb : base ≤ wr.heap.size := Nat.le_trans hb HP.out.below.size
    by_cases hlt : i < N
    · have hlt' : (i : Int) < (N : Int) := by omega
      have hi32 : i < 32 := by omega
      have p0 : wr.cell? ⟨w.heap.size, 0, none⟩ = some (.int .i64 (A : Int)) := HP.out.pvar.cell 0
      have hkid := hRl.kids k hkl (bitP A i)
      have hb2 := bitP_two A i
      have m1 := link_kid HP.out.nodes hkb (bitP A i) hb2
      have HTK : Hid ((bitsP A N).take (i + 1) = (bitsP A N).take i ++ [bitP A i]) := by
        show _ = _
        rw [bitsP_take A N (i + 1) (by omega), bitsP_take A N i (by omega), bitsP_snoc]
      have HSTP : Hid (goT t 0 ((bitsP A N).take (i + 1)) = stepT l k (bitP A i)) := by
        show _ = _
        rw [HTK.out, goT_snoc, HG.out]
      have HBB := Lib.hid (HBI.out i hi32)
      generalize bitP A i = bt at *
      rcases hkid with hz | ⟨m, hm, hkm, hml⟩
      · rw [ptr_none bs _ hz] at m1
        have HKZ := Lib.hid hz
        have HST : Hid (goT t 0 ((bitsP A N).take (i + 1)) = (l.set k (setKid (atT l k) bt (l.length : Nat)) ++ [tw0], l.length)) := by
          show _ = _
          rw [HSTP.out]
          unfold stepT
          rw [if_pos HKZ.out]
        have HGR := Lib.hid (grown_any base (.slice (some ⟨pg, 0, none⟩) bs.length pc) bs (linkA l bs) 0 wr HP.out.row HP.out.nodes (by have := HL.out; omega) hbb)
        have HLS := Lib.hid (fun n j hj => link_step hRl HL.out k bt n hkl hb2 j hj)
        clear hz HSTP HTK hRl
        go_wp2_with (first | (go_at_call 60; refine (HBB.out _).mono ?_; rintro e w' ⟨rfl, hw⟩; rw [hw]) | (go_at_call 59; refine (HWY.out b bt hb2 _).mono ?_; rintro e w' ⟨rfl, hw⟩; rw [hw]))
        refine (HGR.out).mono ?_
        rintro e W1 ⟨v', rfl, hO1, hN1, hg1, hb1⟩
        obtain ⟨n, HNn⟩ : ∃ n, Hid (n = wr.heap.size) := ⟨_, rfl⟩
        rw [← HNn.out] at hO1 hN1
        obtain ⟨pg', pc', hv, hO2⟩ : ∃ pg' pc', v' = .slice (some ⟨pg', 0, none⟩) (bs.length + 1) pc' ∧ OwnR ptrRec W1 base LpT (.slice (some ⟨pg', 0, none⟩) (bs ++ [n]).length pc') (bs ++ [n]) := by
          obtain ⟨po', pc', rfl, hpf'⟩ := hO1.row.form
          obtain ⟨pg', rfl, _, _⟩ := hpf' (by simp)
          exact ⟨pg', pc', by simp, hO1⟩
        subst hv
        have hkb1 : (bs ++ [n])[k]? = some b := by rw [List.getElem?_append_left (by have := HL.out; omega)]; exact hkb
        have c1 : W1.cell? ⟨pg', bs.length, none⟩ = some (.pointer (some ⟨n, 0, none⟩)) := own_ptr hO2 (by simp)
        have c2 : W1.cell? ⟨b, 1 + bt, none⟩ = some (.pointer none) := by
          rw [hN1.cell hkb1 (1 + bt), if_neg (by have := HL.out; omega), ← m1, HP.out.nodes.cell hkb (1 + bt)]
        have c3 : W1.frozen? ⟨b, 1 + bt, none⟩ = false := hN1.free hkb1 (1 + bt)
        have hPv : VarA w.heap.size PfT #[.int .i64 (A : Int), .int .i64 (N : Int)] W1 := ⟨(hg1.block w.heap.size HP.out.pvar.lt (HP.out.row.ne_varP HP.out.pvar (by decide))).trans HP.out.pvar.row⟩
        have P2 : Hid (PutI w base A N (l.set k (setKid (atT l k) bt (l.length : Nat)) ++ [tw0]) (bs ++ [n]) pg' pc' (W1.setCell ⟨b, 1 + bt, none⟩ (.pointer (some ⟨n, 0, none⟩)))) :=
          ⟨(hN1.set hkb1 (1 + bt) _).congr (fun j hj => HLS.out n j hj), ptr_keep hN1 hkb1 hO2 (1 + bt) _, hPv.off (1 + bt) _ (fun e => var_ne hPv (hN1.node k b hkb1) (by decide) e), (HP.out.below.trans hb1).trans (hN1.set_below hkb1 (1 + bt) _)⟩
        have c4 : (W1.setCell ⟨b, 1 + bt, none⟩ (.pointer (some ⟨n, 0, none⟩))).cell? ⟨b, 1 + bt, none⟩ = some (.pointer (some ⟨n, 0, none⟩)) := by
          have h := (hN1.set hkb1 (1 + bt) (.pointer (some ⟨n, 0, none⟩))).cell hkb1 (1 + bt)
          rw [h, if_pos rfl, if_neg (by have := HL.out; omega)]
          match bt, hb2 with
          | 0, _ => rfl
          | 1, _ => rfl
        have hbl : (bs.length : Int) ≤ 100000 := by have := HL.out; omega
        clear hO1 hN1 hg1 hb1 hPv hO2 HLS HGR m1 p0 hbb
        go_upto_region 9 with fail
        generalize W1.setCell ⟨b, 1 + bt, none⟩ (.pointer (some ⟨n, 0, none⟩)) = W2 at *
        go_wp2_with fail
        go_roundw
        case rel => exact ⟨i + 1, l.length, n, _, bs ++ [n], pg', pc', by omega, by go_num, by simp, by rw [← HL.out]; simp, rfl, HST, by show _ = _; have := HL.out; simp [this], by simp, by simp; omega, P2.out⟩
        case measure => simp [intOf]; omega
      · have hz : kidOf (atT l k) bt ≠ 0 := by omega
        obtain ⟨bm, hbm⟩ : ∃ b, bs[m]? = some b := ⟨_, List.getElem?_eq_getElem (by have := HL.out; omega)⟩
        rw [ptr_some bs _ m bm hm hz hbm] at m1
        have HST : Hid (goT t 0 ((bitsP A N).take (i + 1)) = (l, m)) := by
          show _ = _
          rw [HSTP.out]
          unfold stepT
          rw [if_neg hz, hm]
          rfl
        clear hz HSTP HTK hRl hm
        go_wp2_with (first | (go_at_call 60; refine (HBB.out _).mono ?_; rintro e w' ⟨rfl, hw⟩; rw [hw]) | (go_at_call 59; refine (HWY.out b bt hb2 _).mono ?_; rintro e w' ⟨rfl, hw⟩; rw [hw]))
        go_roundw
        case rel => exact ⟨i + 1, m, bm, l, bs, pg, pc, by omega, by go_num, rfl, hbm, rfl, HST, HL, hml, by omega, HP.out⟩
        case measure => simp [intOf]; omega
    · have hlt' : ¬ ((i : Int) < (N : Int)) := by omega
      have hiN2 : i = N := by omega
      subst hiN2
      rw [bitsP_take A i i (Nat.le_refl _)] at HG
      have HPUT : Hid (putT t (bitsP A i) p = setTo l k p) := by
        show _ = _
        unfold putT
        rw [HG.out]
      have d3 : wr.cell? ⟨b, 3, none⟩ = some (.int .i64 (atT l k).2.2) := HP.out.nodes.cell hkb 3
      have z3 : wr.frozen? ⟨b, 3, none⟩ = false := HP.out.nodes.free hkb 3
      have FIN : Hid (bs.length = (putT t (bitsP A i) p).length ∧ Nodes LkT (wr.setCell ⟨b, 3, none⟩ (.int .i64 p)) base bs (linkA (putT t (bitsP A i) p) bs) ∧ OwnR ptrRec (wr.setCell ⟨b, 3, none⟩ (.int .i64 p)) base LpT (.slice (some ⟨pg, 0, none⟩) bs.length pc) bs ∧ Below base w (wr.setCell ⟨b, 3, none⟩ (.int .i64 p))) := by
        rw [HPUT.out]
        exact ⟨by rw [HL.out]; simp [setTo], (HP.out.nodes.set hkb 3 _).congr (fun j _ => link_to l bs k p hkl j), ptr_keep HP.out.nodes hkb HP.out.row 3 _, HP.out.below.trans (HP.out.nodes.set_below hkb 3 _)⟩
      go_wp2_with fail
      go_ret
      exact ⟨_, rfl, bs, FIN.out.1, FIN.out.2.1, FIN.out.2.2.1, FIN.out.2.2.2⟩

end Go.Proofs.Ytkfcoldjgijpcap

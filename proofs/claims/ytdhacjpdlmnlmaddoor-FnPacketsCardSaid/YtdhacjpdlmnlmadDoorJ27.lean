/-
  The program's readAcks, and its ReadVar in plain words.
  The library's contracts laid at this translation, in plain words: each is one application.
-/
import Derived.Test.YtdhacjpdlmnlmadDoorJ26
import Derived.Test.YtdhacjpdlmnlmadDoorJ05
import Derived.Test.YtdhacjpdlmnlmadDoorJ09
import Derived.Test.YtdhacjpdlmnlmadDoorJ10
import Derived.Deep.LoopGhost
import Derived.Deep.DeepCutAuto
import Derived.Shelf.Strings.Builder1
import Derived.Shelf.Strings.BuilderF
import Derived.Shelf.Strings.BuilderK
import Derived.Shelf.LaysM
import Derived.Shelf.Strconv.Clone
import Derived.Shelf.Strings.BuilderCap
import Derived.Test.YtdhacjpdlmnlmadDoorProg
namespace Go.Proofs.YtdhacjpdlmnlmadDoor
open Go.RowKit

/-- ReadVar's answer: the number that the bytes from a on begin with, and the place behind it. -/
def VarTold (s : ByteArray) (a : Nat) (e : Ending) : Prop := (∃ n q : Nat, readV (s.data.toList.drop a) = some (n, s.data.toList.drop q) ∧ q ≤ s.size ∧ n ≤ 1000000000 ∧ e = .returned (.tuple #[.int .i64 (n : Nat), .int .i64 (q : Nat), .bool true])) ∨ (readV (s.data.toList.drop a) = none ∧ e = .returned (.tuple #[.int .i64 0, .int .i64 0, .bool false]))
theorem implReadVar_read (s : ByteArray) (hs : s.size ≤ 1048576) (a : Nat) (ha : a ≤ s.size) (w : World) :
    Calls Tryd.prog 20 #[.string s, .int .i64 a] w fun e w' => VarTold s a e ∧ Below w.heap.size w w' := by
  cases hk : low 5 (s.data.toList.drop a) with
  | none =>
    refine (implReadVar_none s hs a ha hk w).mono ?_
    rintro e w' ⟨rfl, hb⟩
    exact ⟨.inr ⟨by unfold readV; rw [hk], rfl⟩, hb⟩
  | some k =>
    have hlt := (low_some 5 _ k hk).2.1
    rw [List.length_drop] at hlt
    have hsz : s.data.toList.length = s.size := by simp
    by_cases h0 : k = 0 ∨ ((s.data.toList.drop a).getD k 0).toNat ≠ 0
    · refine (implReadVar_some s hs a ha k hk h0 w).mono ?_
      rintro e w' ⟨⟨h1, rfl⟩ | ⟨h1, rfl⟩, hb⟩
      · refine ⟨.inl ⟨_, a + k + 1, ?_, by omega, h1, rfl⟩, hb⟩
        unfold readV
        rw [hk]
        simp only []
        rw [if_pos ⟨h1, h0⟩, List.drop_drop]
        rfl
      · refine ⟨.inr ⟨?_, rfl⟩, hb⟩
        unfold readV
        rw [hk]
        simp only []
        rw [if_neg (fun h => by omega)]
    · refine (implReadVar_long s hs a ha k hk h0 w).mono ?_
      rintro e w' ⟨rfl, hb⟩
      refine ⟨.inr ⟨?_, rfl⟩, hb⟩
      unfold readV
      rw [hk]
      simp only []
      rw [if_neg (fun h => h0 h.2)]
/-- The same, by one Bool. -/
theorem implReadVar_bool (s : ByteArray) (hs : s.size ≤ 1048576) (a : Nat) (ha : a ≤ s.size) (w : World) :
    Calls Tryd.prog 20 #[.string s, .int .i64 a] w fun e w' => ∃ (n q : Nat) (ok : Bool), e = .returned (.tuple #[.int .i64 (n : Nat), .int .i64 (q : Nat), .bool ok]) ∧ (n ≤ 1000000000 ∧ q ≤ s.size ∧ (ok = true → readV (s.data.toList.drop a) = some (n, s.data.toList.drop q)) ∧ (ok = false → readV (s.data.toList.drop a) = none)) ∧ Below w.heap.size w w' := by
  refine (implReadVar_read s hs a ha w).mono ?_
  rintro e w' ⟨⟨n, q, h1, h2, h3, rfl⟩ | ⟨h1, rfl⟩, hb⟩
  · exact ⟨n, q, true, rfl, ⟨h3, h2, fun _ => h1, fun h => by cases h⟩, hb⟩
  · exact ⟨0, 0, false, rfl, ⟨by omega, Nat.zero_le _, (fun h => by cases h), fun _ => h1⟩, hb⟩

theorem readVs_snoc : ∀ (k : Nat) (t : List UInt8) (xs : List Nat) (r : List UInt8), readVs k t = some (xs, r) → ∀ x r', readV r = some (x, r') → readVs (k + 1) t = some (xs ++ [x], r')
  | 0, t, xs, r, h, x, r', h2 => by
    simp only [readVs, Option.some.injEq, Prod.mk.injEq] at h
    obtain ⟨rfl, rfl⟩ := h
    simp [readVs, h2]
  | k + 1, t, xs, r, h, x, r', h2 => by
    unfold readVs at h
    cases h3 : readV t with
    | none => rw [h3] at h; cases h
    | some q =>
      obtain ⟨y, r1⟩ := q
      rw [h3] at h
      simp only [] at h
      cases h4 : readVs k r1 with
      | none => rw [h4] at h; cases h
      | some q2 =>
        obtain ⟨ys, r2⟩ := q2
        rw [h4] at h
        simp only [Option.some.injEq, Prod.mk.injEq] at h
        obtain ⟨rfl, rfl⟩ := h
        have h5 := readVs_snoc k r1 ys r2 h4 x r' h2
        unfold readVs
        rw [h3]
        simp only []
        rw [h5]
        rfl
theorem readVs_stop : ∀ (k : Nat) (t : List UInt8) (xs : List Nat) (r : List UInt8), readVs k t = some (xs, r) → readV r = none → ∀ n, k < n → readVs n t = none
  | 0, t, xs, r, h, h2, n, hn => by
    simp only [readVs, Option.some.injEq, Prod.mk.injEq] at h
    obtain ⟨rfl, rfl⟩ := h
    obtain ⟨m, rfl⟩ : ∃ m, n = m + 1 := ⟨n - 1, by omega⟩
    simp [readVs, h2]
  | k + 1, t, xs, r, h, h2, n, hn => by
    obtain ⟨m, rfl⟩ : ∃ m, n = m + 1 := ⟨n - 1, by omega⟩
    unfold readVs at h ⊢
    cases h3 : readV t with
    | none => rfl
    | some q =>
      obtain ⟨y, r1⟩ := q
      rw [h3] at h
      simp only [] at h ⊢
      cases h4 : readVs k r1 with
      | none => rw [h4] at h; cases h
      | some q2 =>
        obtain ⟨ys, r2⟩ := q2
        rw [h4] at h
        simp only [Option.some.injEq, Prod.mk.injEq] at h
        obtain ⟨rfl, rfl⟩ := h
        rw [readVs_stop k r1 ys r2 h4 h2 m (by omega)]
/-- One more of a row of numbers that are read. -/
theorem acks_next (xs : List Nat) (n j x : Nat) (hl : xs.length = j) (hj : j < n) : (xs.map Int.ofNat ++ List.replicate (n - j) (0 : Int)).set j (x : Int) = (xs ++ [x]).map Int.ofNat ++ List.replicate (n - (j + 1)) 0 := by
  subst hl
  obtain ⟨m, hm⟩ : ∃ m, n - xs.length = m + 1 := ⟨n - xs.length - 1, by omega⟩
  have e2 : n - (xs.length + 1) = m := by omega
  rw [hm, e2, List.replicate_succ, List.set_append_right _ _ (by simp)]
  simp

/-- What readAcks answers. -/
def AcksEnd (s : ByteArray) (a : Nat) (w : World) (e : Ending) (w' : World) : Prop :=
  (∃ (n : Nat) (t : List UInt8) (xs : List Nat) (q : Nat) (v : Value) (f : List Nat), readV (s.data.toList.drop a) = some (n, t) ∧ n ≤ 4 ∧ readVs n t = some (xs, s.data.toList.drop q) ∧ q ≤ s.size ∧ e = .returned (.tuple #[v, .int .i64 (q : Nat), .bool true]) ∧ layIntS.own w' w.heap.size f [v] (xs.map Int.ofNat) ∧ Below w.heap.size w w') ∨
  ((∀ n t, readV (s.data.toList.drop a) = some (n, t) → n ≤ 4 → readVs n t = none) ∧ e = .returned (.tuple #[.slice none 0 0, .int .i64 0, .bool false]) ∧ Below w.heap.size w w')

set_option maxRecDepth 100000 in
set_option maxHeartbeats 1600000 in
theorem readAcks_any (s : ByteArray) (hs : s.size ≤ 1048576) (a : Nat) (ha : a ≤ s.size) (w : World) :
    Calls Tryd.prog 21 #[.string s, .int .i64 a] w (AcksEnd s a w) := by
  obtain ⟨i0, hi, hz0, hsz0, hby0⟩ := info_of infoInt
  have K := Lib.hid (fun b hb X => implReadVar_bool s hs b hb X)
  have K1 := Lib.hid (K.out a ha w)
  obtain ⟨Q, HQ⟩ : ∃ Q : Ending → World → Prop, Hid (Q = AcksEnd s a w) := ⟨_, rfl⟩
  rw [← HQ.out]
  go_enter Tryd.func21, Tryd.ntmps21
  go_wp2_with fail
  refine (K1.out).mono ?_
  rintro e w1 ⟨n, q, ok, rfl, hf, hb1⟩
  have HF := Lib.hid hf
  have HB1 := Lib.hid hb1
  have hsz1 := hb1.size
  clear hf hb1 K1
  cases ok with
  | false =>
    have HNO : Hid (Q (.returned (.tuple #[.slice none 0 0, .int .i64 0, .bool false])) w1) := by
      show Q _ _
      rw [HQ.out]
      exact .inr ⟨fun n t h => (by rw [HF.out.2.2.2 rfl] at h; cases h), rfl, HB1.out⟩
    go_wp2_with fail
    go_ret3
    exact HNO.out
  | true =>
    have HRV := Lib.hid (HF.out.2.2.1 rfl)
    by_cases hn4 : n ≤ 4
    rotate_left
    · have hn4' : (4 : Int) < (n : Int) := by omega
      have HNO : Hid (Q (.returned (.tuple #[.slice none 0 0, .int .i64 0, .bool false])) w1) := by
        show Q _ _
        rw [HQ.out]
        exact .inr ⟨fun n' t h h4 => by
          rw [HRV.out] at h
          simp only [Option.some.injEq, Prod.mk.injEq] at h
          omega, rfl, HB1.out⟩
      go_wp2_with fail
      go_ret3
      exact HNO.out
    have hn4' : ¬ ((4 : Int) < (n : Int)) := by omega
    have hq := HF.out.2.1
    go_wp2_with (at_make; refine wpList_make_full _ rfl _ _ 24 rfl w1.heap.size 3 i0 (.int .i64 0) 1 Tryd.underlying24 hi hz0 hsz0 .i64 .i64 _ _ n rfl rfl rfl rfl (by rw [hby0]; omega) (by unfold maxLen; omega) (Nat.le_refl _) ?_)
    intro w2 hown1 hg1
    have hown : layIntS.own w2 w1.heap.size [w1.heap.size] [.slice (some ⟨w1.heap.size, 0, none⟩) n n] (List.replicate n 0) := rows_made (cs := #[.int .i64 0]) (by rw [show n * Lay.int.k = n from Nat.mul_one _]; exact hown1) rfl (int_own.2 ⟨rfl, rfl⟩)
    have HO := Lib.hid hown
    have HB2 := Lib.hid (HB1.out.trans ((below_grown hg1 (fun k h => by cases h) (Nat.le_refl _)).mono HB1.out.size))
    have HS2 := Lib.hid hg1.size
    clear hown1 hg1 hown hi hz0 hsz0 hby0
    generalize w1.heap.size = G at *
    go_wp2_with fail
    go_loopw [1, 28] (fun t c wr => ∃ (j p : Nat) (xs : List Nat), j ≤ n ∧ c = .int .i64 j ∧ t = .int .i64 (p : Nat) ∧ p ≤ s.size ∧ Hid (readVs j (s.data.toList.drop q) = some (xs, s.data.toList.drop p)) ∧ Hid (xs.length = j) ∧ layIntS.own wr G [G] [.slice (some ⟨G, 0, none⟩) n n] (xs.map Int.ofNat ++ List.replicate (n - j) 0) ∧ Below w.heap.size w wr) (fun _ c _ => n - (intOf c).toNat)
    case atStart => exact ⟨0, q, [], Nat.zero_le _, rfl, rfl, hq, rfl, rfl, HO.out, HB2.out⟩
    case round =>
      obtain ⟨j, p, xs, hj, rfl, rfl, hp, HV, HL, hown2, hb2⟩ := hrel
      have HO2 := Lib.hid hown2
      have HBR := Lib.hid hb2
      clear hown2 hb2 HO HB2 HS2
      by_cases hlt : j < n
      · have hlt' : (j : Int) < (n : Int) := by omega
        have K2 := Lib.hid (K.out p hp wr)
        go_wp2_with fail
        refine (K2.out).mono ?_
        rintro e w3 ⟨x, p', ok, rfl, hf, hb3⟩
        have HF3 := Lib.hid hf
        have HO3 := Lib.hid (layIntS.next HO2.out hb3)
        have HB3 := Lib.hid (HBR.out.trans (hb3.mono HBR.out.size))
        clear hf hb3 K2
        have hlen : j < (xs.map Int.ofNat ++ List.replicate (n - j) (0 : Int)).length := by rw [List.length_append, List.length_map, HL.out, List.length_replicate]; omega
        obtain ⟨g', cap'', hv', _, _, _, hc', hf', hown3, hchg⟩ := ints_put HO3.out (by simp) j hlen (x : Int)
        simp only [Value.slice.injEq, Option.some.injEq, Addr.mk.injEq, and_true] at hv'
        obtain ⟨rfl, -, -⟩ := hv'
        rw [acks_next xs n j x HL.out hlt] at hown3
        have HP := Lib.hid hown3
        have HB4 := Lib.hid (HB3.out.trans (hchg.below (b := w.heap.size) (by simp; omega) HB3.out.size))
        generalize (xs.map Int.ofNat ++ List.replicate (n - j) (0 : Int))[j] = y0 at hc'
        clear hown3 hchg hlen HO2 HBR
        cases ok with
        | true =>
          have HV2 := Lib.hid (readVs_snoc j _ xs _ HV.out x _ (HF3.out.2.2.1 rfl))
          have hp2 := HF3.out.2.1
          go_wp2_with fail
          go_roundw
          case rel => exact ⟨j + 1, p', xs ++ [x], by omega, by go_num, rfl, hp2, HV2, by show _ = _; rw [List.length_append, HL.out]; rfl, HP.out, HB4.out⟩
          case measure => simp [intOf]; omega
        | false =>
          have HNO : Hid (Q (.returned (.tuple #[.slice none 0 0, .int .i64 0, .bool false])) (w3.setCell ⟨G, j, none⟩ (.int .i64 (x : Int)))) := by
            show Q _ _
            rw [HQ.out]
            refine .inr ⟨fun n' t h h4 => ?_, rfl, HB4.out⟩
            rw [HRV.out] at h
            simp only [Option.some.injEq, Prod.mk.injEq] at h
            obtain ⟨rfl, rfl⟩ := h
            exact readVs_stop j _ xs _ HV.out (HF3.out.2.2.2 rfl) _ hlt
          go_wp2_with fail
          go_ret3
          exact HNO.out
      · have hlt' : ¬ ((j : Int) < (n : Int)) := by omega
        have hje : j = n := by omega
        subst hje
        have HYES : Hid (Q (.returned (.tuple #[.slice (some ⟨G, 0, none⟩) j j, .int .i64 (p : Nat), .bool true])) wr) := by
          show Q _ _
          rw [HQ.out]
          have h1 := HO2.out
          rw [Nat.sub_self, List.replicate_zero, List.append_nil] at h1
          exact .inl ⟨j, _, xs, p, _, [G], HRV.out, hn4, HV.out, hp, rfl, layIntS.lower h1 hsz1, HBR.out⟩
        go_wp2_with fail
        go_ret3
        exact HYES.out

end Go.Proofs.YtdhacjpdlmnlmadDoor
namespace Go.Proofs
open Go.Shelf
def Tryd.lays169_ren : Go.Shelf.Ren := ⟨fun | 169 => 42 | n => n, fun | 70 => 64 | 9 => 9 | 0 => 0 | 72 => 66 | 37 => 22 | 127 => 81 | 3 => 3 | 5 => 5 | n => n, fun | n => n⟩
theorem Tryd.lays169 : Go.Proofs.Lays.n169 Tryd.prog Tryd.lays169_ren := {
  mixed := by kernel_rfl
  f169 := Tryd.func42.trans (congrArg some (by kernel_rfl))
  t0 := Tryd.underlying0
  a0 := Tryd.isAgg0
  z0 := Tryd.sizeOf0
  v0 := Tryd.zeroValue0
  t3 := Tryd.underlying3
  a3 := Tryd.isAgg3
  z3 := Tryd.sizeOf3
  v3 := Tryd.zeroValue3
  t9 := Tryd.underlying9
  a9 := Tryd.isAgg9
  z9 := Tryd.sizeOf9
  v9 := Tryd.zeroValue9
  t37 := Tryd.underlying22
  a37 := Tryd.isAgg22
  z37 := Tryd.sizeOf22
  v37 := Tryd.zeroValue22
  t70 := Tryd.underlying64
  a70 := Tryd.isAgg64
  z70 := Tryd.sizeOf64
  v70 := Tryd.zeroValue64
  t72 := Tryd.underlying66
  a72 := Tryd.isAgg66
  z72 := Tryd.sizeOf66
  v72 := Tryd.zeroValue66
  t127 := Tryd.underlying81
  a127 := Tryd.isAgg81
  z127 := Tryd.sizeOf81
  v127 := Tryd.zeroValue81 }
theorem Tryd.Builder_Extra_169 : Builder.Extra Tryd.prog Tryd.lays169_ren := {
  sizeBuilder := by kernel_rfl
  liesBuilder := by kernel_rfl
  t5 := Tryd.underlying5
  a5 := Tryd.isAgg5
  z5 := Tryd.sizeOf5
  v5 := Tryd.zeroValue5
  infoByte := by kernel_rfl
  cellsByte := by kernel_rfl
  sizeByte := by kernel_rfl
  neB5 := by decide }
open Go.RowKit in
theorem Tryd.Builder_String_any_f (B b : Nat) (l : List UInt8) (w : World) (h : Lib.IsBuilderF 66 5 B b (Lib.byteCells l) w) (hBw : B ≤ w.heap.size) :
    Calls Tryd.prog 42 #[.pointer (some ⟨b, 0, none⟩)] w fun e w' => e = .returned (.string ⟨l.toArray⟩) ∧ (Lib.IsBuilderF 66 5 B b (Lib.byteCells l) w' ∧ Below B w w') := Any.Builder_String_any_f Tryd.lays169 Tryd.Builder_Extra_169 B b l w h hBw
def Tryd.laysM316_ren : Go.Shelf.Ren := ⟨fun | 316 => 54 | n => n, fun | 9 => 9 | 3 => 3 | 4 => 4 | 37 => 22 | 0 => 0 | 127 => 81 | 5 => 5 | n => n, fun | n => n⟩
theorem Tryd.laysM316 : Go.Proofs.LaysM.n316 Tryd.prog Tryd.laysM316_ren := {
  mixed := by kernel_rfl
  f316 := Tryd.func54.trans (congrArg some (by kernel_rfl))
  t0 := Tryd.underlying0
  a0 := Tryd.isAgg0
  z0 := Tryd.sizeOf0
  v0 := Tryd.zeroValue0
  t3 := Tryd.underlying3
  a3 := Tryd.isAgg3
  z3 := Tryd.sizeOf3
  v3 := Tryd.zeroValue3
  t4 := Tryd.underlying4
  a4 := Tryd.isAgg4
  z4 := Tryd.sizeOf4
  v4 := Tryd.zeroValue4
  t9 := Tryd.underlying9
  a9 := Tryd.isAgg9
  z9 := Tryd.sizeOf9
  v9 := Tryd.zeroValue9
  t37 := Tryd.underlying22
  a37 := Tryd.isAgg22
  z37 := Tryd.sizeOf22
  v37 := Tryd.zeroValue22
  t127 := Tryd.underlying81
  a127 := Tryd.isAgg81
  z127 := Tryd.sizeOf81
  v127 := Tryd.zeroValue81
  t5 := Tryd.underlying5
  a5 := Tryd.isAgg5
  z5 := Tryd.sizeOf5
  v5 := Tryd.zeroValue5
  i0 := by kernel_rfl
  i3 := by kernel_rfl
  i4 := by kernel_rfl
  i5 := by kernel_rfl
  i9 := by kernel_rfl
  i37 := by kernel_rfl
  i127 := by kernel_rfl }
open Go.RowKit in
theorem Tryd.stringslite_Clone (s : ByteArray) (w : World) (hlim : s.size ≤ 281474976710656) :
    Calls Tryd.prog 54 #[.string s] w fun e w' => e = .returned (.string s) ∧ Below w.heap.size w w' := Any.stringslite_Clone Tryd.laysM316 s w hlim
end Go.Proofs

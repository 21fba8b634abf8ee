/-
  The program's readAcks, and its ReadVar in plain words.
  Who somebody is: the program's isWho.
-/
import Derived.Test.YtdhacjpdlmnlmarDoorJ02
import Derived.Test.YtdhacjpdlmnlmarDoorJ04
import Derived.Test.YtdhacjpdlmnlmarDoorJ08
import Derived.Test.YtdhacjpdlmnlmarDoorJ09
import Derived.Deep.LoopGhost
import Derived.Deep.DeepCutAuto
import Derived.Test.YtdhacjpdlmnlmarDoorJ01
import Derived.Test.YtdhacjpdlmnlmarDoorRows
namespace Go.Proofs.YtdhacjpdlmnlmarDoor
open Go.RowKit

/-- ReadVar's answer: the number that the bytes from a on begin with, and the place behind it. -/
def VarTold (s : ByteArray) (a : Nat) (e : Ending) : Prop := (∃ n q : Nat, readV (s.data.toList.drop a) = some (n, s.data.toList.drop q) ∧ q ≤ s.size ∧ n ≤ 1000000000 ∧ e = .returned (.tuple #[.int .i64 (n : Nat), .int .i64 (q : Nat), .bool true])) ∨ (readV (s.data.toList.drop a) = none ∧ e = .returned (.tuple #[.int .i64 0, .int .i64 0, .bool false]))
theorem implReadVar_read (s : ByteArray) (hs : s.size ≤ 1048576) (a : Nat) (ha : a ≤ s.size) (w : World) :
    Calls Tryd.prog 14 #[.string s, .int .i64 a] w fun e w' => VarTold s a e ∧ Below w.heap.size w w' := by
  cases hk : low 5 (s.data.toList.drop a) with
  | none =>
    refine (implReadVar_none s hs a ha hk w).mono ?_
    rintro e w' ⟨rfl, hb⟩
    exact ⟨.inr ⟨by unfold readV; rw [hk], rfl⟩, hb⟩
  | some k =>
    have hlt := (low_some 5 _ k hk).2.1
    rw [List.length_drop] at hlt
    have hsz : s.data.toList.length = s.size := by simp
    by_cases h0 : k = 0 ∨ ((s.data.toList.drop a).getD k 0).toNat ≠ 0
    · refine (implReadVar_some s hs a ha k hk h0 w).mono ?_
      rintro e w' ⟨⟨h1, rfl⟩ | ⟨h1, rfl⟩, hb⟩
      · refine ⟨.inl ⟨_, a + k + 1, ?_, by omega, h1, rfl⟩, hb⟩
        unfold readV
        rw [hk]
        simp only []
        rw [if_pos ⟨h1, h0⟩, List.drop_drop]
        rfl
      · refine ⟨.inr ⟨?_, rfl⟩, hb⟩
        unfold readV
        rw [hk]
        simp only []
        rw [if_neg (fun h => by omega)]
    · refine (implReadVar_long s hs a ha k hk h0 w).mono ?_
      rintro e w' ⟨rfl, hb⟩
      refine ⟨.inr ⟨?_, rfl⟩, hb⟩
      unfold readV
      rw [hk]
      simp only []
      rw [if_neg (fun h => h0 h.2)]
/-- The same, by one Bool. -/
theorem implReadVar_bool (s : ByteArray) (hs : s.size ≤ 1048576) (a : Nat) (ha : a ≤ s.size) (w : World) :
    Calls Tryd.prog 14 #[.string s, .int .i64 a] w fun e w' => ∃ (n q : Nat) (ok : Bool), e = .returned (.tuple #[.int .i64 (n : Nat), .int .i64 (q : Nat), .bool ok]) ∧ (n ≤ 1000000000 ∧ q ≤ s.size ∧ (ok = true → readV (s.data.toList.drop a) = some (n, s.data.toList.drop q)) ∧ (ok = false → readV (s.data.toList.drop a) = none)) ∧ Below w.heap.size w w' := by
  refine (implReadVar_read s hs a ha w).mono ?_
  rintro e w' ⟨⟨n, q, h1, h2, h3, rfl⟩ | ⟨h1, rfl⟩, hb⟩
  · exact ⟨n, q, true, rfl, ⟨h3, h2, fun _ => h1, fun h => by cases h⟩, hb⟩
  · exact ⟨0, 0, false, rfl, ⟨by omega, Nat.zero_le _, (fun h => by cases h), fun _ => h1⟩, hb⟩

theorem readVs_snoc : ∀ (k : Nat) (t : List UInt8) (xs : List Nat) (r : List UInt8), readVs k t = some (xs, r) → ∀ x r', readV r = some (x, r') → readVs (k + 1) t = some (xs ++ [x], r')
  | 0, t, xs, r, h, x, r', h2 => by
    simp only [readVs, Option.some.injEq, Prod.mk.injEq] at h
    obtain ⟨rfl, rfl⟩ := h
    simp [readVs, h2]
  | k + 1, t, xs, r, h, x, r', h2 => by
    unfold readVs at h
    cases h3 : readV t with
    | none => rw [h3] at h; cases h
    | some q =>
      obtain ⟨y, r1⟩ := q
      rw [h3] at h
      simp only [] at h
      cases h4 : readVs k r1 with
      | none => rw [h4] at h; cases h
      | some q2 =>
        obtain ⟨ys, r2⟩ := q2
        rw [h4] at h
        simp only [Option.some.injEq, Prod.mk.injEq] at h
        obtain ⟨rfl, rfl⟩ := h
        have h5 := readVs_snoc k r1 ys r2 h4 x r' h2
        unfold readVs
        rw [h3]
        simp only []
        rw [h5]
        rfl
theorem readVs_stop : ∀ (k : Nat) (t : List UInt8) (xs : List Nat) (r : List UInt8), readVs k t = some (xs, r) → readV r = none → ∀ n, k < n → readVs n t = none
  | 0, t, xs, r, h, h2, n, hn => by
    simp only [readVs, Option.some.injEq, Prod.mk.injEq] at h
    obtain ⟨rfl, rfl⟩ := h
    obtain ⟨m, rfl⟩ : ∃ m, n = m + 1 := ⟨n - 1, by omega⟩
    simp [readVs, h2]
  | k + 1, t, xs, r, h, h2, n, hn => by
    obtain ⟨m, rfl⟩ : ∃ m, n = m + 1 := ⟨n - 1, by omega⟩
    unfold readVs at h ⊢
    cases h3 : readV t with
    | none => rfl
    | some q =>
      obtain ⟨y, r1⟩ := q
      rw [h3] at h
      simp only [] at h ⊢
      cases h4 : readVs k r1 with
      | none => rw [h4] at h; cases h
      | some q2 =>
        obtain ⟨ys, r2⟩ := q2
        rw [h4] at h
        simp only [Option.some.injEq, Prod.mk.injEq] at h
        obtain ⟨rfl, rfl⟩ := h
        rw [readVs_stop k r1 ys r2 h4 h2 m (by omega)]
/-- One more of a row of numbers that are read. -/
theorem acks_next (xs : List Nat) (n j x : Nat) (hl : xs.length = j) (hj : j < n) : (xs.map Int.ofNat ++ List.replicate (n - j) (0 : Int)).set j (x : Int) = (xs ++ [x]).map Int.ofNat ++ List.replicate (n - (j + 1)) 0 := by
  subst hl
  obtain ⟨m, hm⟩ : ∃ m, n - xs.length = m + 1 := ⟨n - xs.length - 1, by omega⟩
  have e2 : n - (xs.length + 1) = m := by omega
  rw [hm, e2, List.replicate_succ, List.set_append_right _ _ (by simp)]
  simp

/-- What readAcks answers. -/
def AcksEnd (s : ByteArray) (a : Nat) (w : World) (e : Ending) (w' : World) : Prop :=
  (∃ (n : Nat) (t : List UInt8) (xs : List Nat) (q : Nat) (v : Value) (f : List Nat), readV (s.data.toList.drop a) = some (n, t) ∧ n ≤ 4 ∧ readVs n t = some (xs, s.data.toList.drop q) ∧ q ≤ s.size ∧ e = .returned (.tuple #[v, .int .i64 (q : Nat), .bool true]) ∧ layIntS.own w' w.heap.size f [v] (xs.map Int.ofNat) ∧ Below w.heap.size w w') ∨
  ((∀ n t, readV (s.data.toList.drop a) = some (n, t) → n ≤ 4 → readVs n t = none) ∧ e = .returned (.tuple #[.slice none 0 0, .int .i64 0, .bool false]) ∧ Below w.heap.size w w')

set_option maxRecDepth 100000 in
set_option maxHeartbeats 1600000 in
theorem readAcks_any (s : ByteArray) (hs : s.size ≤ 1048576) (a : Nat) (ha : a ≤ s.size) (w : World) :
    Calls Tryd.prog 15 #[.string s, .int .i64 a] w (AcksEnd s a w) := by
  obtain ⟨i0, hi, hz0, hsz0, hby0⟩ := info_of infoInt
  have K := Lib.hid (fun b hb X => implReadVar_bool s hs b hb X)
  have K1 := Lib.hid (K.out a ha w)
  obtain ⟨Q, HQ⟩ : ∃ Q : Ending → World → Prop, Hid (Q = AcksEnd s a w) := ⟨_, rfl⟩
  rw [← HQ.out]
  go_enter Tryd.func15, Tryd.ntmps15
  go_wp2_with fail
  refine (K1.out).mono ?_
  rintro e w1 ⟨n, q, ok, rfl, hf, hb1⟩
  have HF := Lib.hid hf
  have HB1 := Lib.hid hb1
  have hsz1 := hb1.size
  clear hf hb1 K1
  cases ok with
  | false =>
    have HNO : Hid (Q (.returned (.tuple #[.slice none 0 0, .int .i64 0, .bool false])) w1) := by
      show Q _ _
      rw [HQ.out]
      exact .inr ⟨fun n t h => (by rw [HF.out.2.2.2 rfl] at h; cases h), rfl, HB1.out⟩
    go_wp2_with fail
    go_ret3
    exact HNO.out
  | true =>
    have HRV := Lib.hid (HF.out.2.2.1 rfl)
    by_cases hn4 : n ≤ 4
    rotate_left
    · have hn4' : (4 : Int) < (n : Int) := by omega
      have HNO : Hid (Q (.returned (.tuple #[.slice none 0 0, .int .i64 0, .bool false])) w1) := by
        show Q _ _
        rw [HQ.out]
        exact .inr ⟨fun n' t h h4 => by
          rw [HRV.out] at h
          simp only [Option.some.injEq, Prod.mk.injEq] at h
          omega, rfl, HB1.out⟩
      go_wp2_with fail
      go_ret3
      exact HNO.out
    have hn4' : ¬ ((4 : Int) < (n : Int)) := by omega
    have hq := HF.out.2.1
    go_wp2_with (at_make; refine wpList_make_full _ rfl _ _ 22 rfl w1.heap.size 3 i0 (.int .i64 0) 1 Tryd.underlying22 hi hz0 hsz0 .i64 .i64 _ _ n rfl rfl rfl rfl (by rw [hby0]; omega) (by unfold maxLen; omega) (Nat.le_refl _) ?_)
    intro w2 hown1 hg1
    have hown : layIntS.own w2 w1.heap.size [w1.heap.size] [.slice (some ⟨w1.heap.size, 0, none⟩) n n] (List.replicate n 0) := rows_made (cs := #[.int .i64 0]) (by rw [show n * Lay.int.k = n from Nat.mul_one _]; exact hown1) rfl (int_own.2 ⟨rfl, rfl⟩)
    have HO := Lib.hid hown
    have HB2 := Lib.hid (HB1.out.trans ((below_grown hg1 (fun k h => by cases h) (Nat.le_refl _)).mono HB1.out.size))
    have HS2 := Lib.hid hg1.size
    clear hown1 hg1 hown hi hz0 hsz0 hby0
    generalize w1.heap.size = G at *
    go_wp2_with fail
    go_loopw [1, 28] (fun t c wr => ∃ (j p : Nat) (xs : List Nat), j ≤ n ∧ c = .int .i64 j ∧ t = .int .i64 (p : Nat) ∧ p ≤ s.size ∧ Hid (readVs j (s.data.toList.drop q) = some (xs, s.data.toList.drop p)) ∧ Hid (xs.length = j) ∧ layIntS.own wr G [G] [.slice (some ⟨G, 0, none⟩) n n] (xs.map Int.ofNat ++ List.replicate (n - j) 0) ∧ Below w.heap.size w wr) (fun _ c _ => n - (intOf c).toNat)
    case atStart => exact ⟨0, q, [], Nat.zero_le _, rfl, rfl, hq, rfl, rfl, HO.out, HB2.out⟩
    case round =>
      obtain ⟨j, p, xs, hj, rfl, rfl, hp, HV, HL, hown2, hb2⟩ := hrel
      have HO2 := Lib.hid hown2
      have HBR := Lib.hid hb2
      clear hown2 hb2 HO HB2 HS2
      by_cases hlt : j < n
      · have hlt' : (j : Int) < (n : Int) := by omega
        have K2 := Lib.hid (K.out p hp wr)
        go_wp2_with fail
        refine (K2.out).mono ?_
        rintro e w3 ⟨x, p', ok, rfl, hf, hb3⟩
        have HF3 := Lib.hid hf
        have HO3 := Lib.hid (layIntS.next HO2.out hb3)
        have HB3 := Lib.hid (HBR.out.trans (hb3.mono HBR.out.size))
        clear hf hb3 K2
        have hlen : j < (xs.map Int.ofNat ++ List.replicate (n - j) (0 : Int)).length := by rw [List.length_append, List.length_map, HL.out, List.length_replicate]; omega
        obtain ⟨g', cap'', hv', _, _, _, hc', hf', hown3, hchg⟩ := ints_put HO3.out (by simp) j hlen (x : Int)
        simp only [Value.slice.injEq, Option.some.injEq, Addr.mk.injEq, and_true] at hv'
        obtain ⟨rfl, -, -⟩ := hv'
        rw [acks_next xs n j x HL.out hlt] at hown3
        have HP := Lib.hid hown3
        have HB4 := Lib.hid (HB3.out.trans (hchg.below (b := w.heap.size) (by simp; omega) HB3.out.size))
        generalize (xs.map Int.ofNat ++ List.replicate (n - j) (0 : Int))[j] = y0 at hc'
        clear hown3 hchg hlen HO2 HBR
        cases ok with
        | true =>
          have HV2 := Lib.hid (readVs_snoc j _ xs _ HV.out x _ (HF3.out.2.2.1 rfl))
          have hp2 := HF3.out.2.1
          go_wp2_with fail
          go_roundw
          case rel => exact ⟨j + 1, p', xs ++ [x], by omega, by go_num, rfl, hp2, HV2, by show _ = _; rw [List.length_append, HL.out]; rfl, HP.out, HB4.out⟩
          case measure => simp [intOf]; omega
        | false =>
          have HNO : Hid (Q (.returned (.tuple #[.slice none 0 0, .int .i64 0, .bool false])) (w3.setCell ⟨G, j, none⟩ (.int .i64 (x : Int)))) := by
            show Q _ _
            rw [HQ.out]
            refine .inr ⟨fun n' t h h4 => ?_, rfl, HB4.out⟩
            rw [HRV.out] at h
            simp only [Option.some.injEq, Prod.mk.injEq] at h
            obtain ⟨rfl, rfl⟩ := h
            exact readVs_stop j _ xs _ HV.out (HF3.out.2.2.2 rfl) _ hlt
          go_wp2_with fail
          go_ret3
          exact HNO.out
      · have hlt' : ¬ ((j : Int) < (n : Int)) := by omega
        have hje : j = n := by omega
        subst hje
        have HYES : Hid (Q (.returned (.tuple #[.slice (some ⟨G, 0, none⟩) j j, .int .i64 (p : Nat), .bool true])) wr) := by
          show Q _ _
          rw [HQ.out]
          have h1 := HO2.out
          rw [Nat.sub_self, List.replicate_zero, List.append_nil] at h1
          exact .inl ⟨j, _, xs, p, _, [G], HRV.out, hn4, HV.out, hp, rfl, layIntS.lower h1 hsz1, HBR.out⟩
        go_wp2_with fail
        go_ret3
        exact HYES.out

end Go.Proofs.YtdhacjpdlmnlmarDoor
namespace Go.Proofs.YtdhacjpdlmnlmarDoor
open Go.RowKit

theorem isWho_yes (x : Int) (h0 : 1 ≤ x) (h1 : x ≤ 99) (w : World) : Calls Tryd.prog 30 #[.int .i64 x] w fun e w' => e = .returned (.bool true) ∧ w' = w := by
  go_enter Tryd.func30, Tryd.ntmps30
  go_wp2_with fail
  go_ret
  exact ⟨rfl, rfl⟩
theorem isWho_no (x : Int) (h : ¬ (1 ≤ x ∧ x ≤ 99)) (w : World) : Calls Tryd.prog 30 #[.int .i64 x] w fun e w' => e = .returned (.bool false) ∧ w' = w := by
  by_cases h0 : 1 ≤ x
  · have h1 : ¬ x ≤ 99 := fun h1 => h ⟨h0, h1⟩
    clear h
    go_enter Tryd.func30, Tryd.ntmps30
    go_wp2_with fail
    go_ret
    exact ⟨rfl, rfl⟩
  · clear h
    go_enter Tryd.func30, Tryd.ntmps30
    go_wp2_with fail
    go_ret
    exact ⟨rfl, rfl⟩
theorem isWho_any (x : Int) (b : Bool) (hb : b = true ↔ (1 ≤ x ∧ x ≤ 99)) (w : World) : Calls Tryd.prog 30 #[.int .i64 x] w fun e w' => e = .returned (.bool b) ∧ w' = w := by
  cases b with
  | true => exact isWho_yes x (hb.1 rfl).1 (hb.1 rfl).2 w
  | false => exact isWho_no x (fun h => by cases hb.2 h) w

end Go.Proofs.YtdhacjpdlmnlmarDoor

/-
  Plain mathematics of chapter 1's numbers read from bytes: the first low byte, the number that some bytes say, and when they are its shortest text; no program is spoken of here.
  The program's ReadVar, and its helper, by what they answer at every text and place.
  Plain mathematics of figures: two for each byte, and back; no program is spoken of here.
-/
import Derived.Test.YtdhacjpdlmnlmarDoorJ01
import Derived.BigQuiet
import Derived.Deep.QuietTactic
import Derived.Lib.Strings
import Derived.WalkKit
namespace Go.Proofs.YtdhacjpdlmnlmarDoor

/-- What bytes say, seven bits a byte, the lowest first. -/
def val : List UInt8 → Nat
  | [] => 0
  | b :: r => b.toNat % 128 + 128 * val r

/-- The place of the first byte below 128 among the first f ones. -/
def low : Nat → List UInt8 → Option Nat
  | 0, _ => none
  | _ + 1, [] => none
  | f + 1, b :: r => if b.toNat < 128 then some 0 else (low f r).map (· + 1)

theorem low_some : ∀ (f : Nat) (t : List UInt8) (k : Nat), low f t = some k → k < f ∧ k < t.length ∧ (∀ i, i < k → 128 ≤ (t.getD i 0).toNat) ∧ (t.getD k 0).toNat < 128
  | 0, _, k, h => by simp [low] at h
  | f + 1, [], k, h => by simp [low] at h
  | f + 1, b :: r, k, h => by
    by_cases hb : b.toNat < 128
    · simp [low, hb] at h
      subst h
      exact ⟨by omega, by simp, by intro i hi; omega, by simpa using hb⟩
    · simp only [low, if_neg hb, Option.map_eq_some_iff] at h
      obtain ⟨j, hj, rfl⟩ := h
      obtain ⟨h1, h2, h3, h4⟩ := low_some f r j hj
      refine ⟨by omega, by simp; omega, ?_, by simpa using h4⟩
      intro i hi
      cases i with
      | zero => simp; omega
      | succ i => simpa using h3 i (by omega)

theorem low_none : ∀ (f : Nat) (t : List UInt8), low f t = none → ∀ k, k < f → k < t.length → 128 ≤ (t.getD k 0).toNat
  | 0, _, _, k, h, _ => by omega
  | f + 1, [], _, k, _, h => by simp at h
  | f + 1, b :: r, h, k, hk, hl => by
    by_cases hb : b.toNat < 128
    · simp [low, hb] at h
    · simp only [low, if_neg hb, Option.map_eq_none_iff] at h
      cases k with
      | zero => simp; omega
      | succ k => simpa using low_none f r h k (by omega) (by simpa using hl)

theorem val_append (a : List UInt8) : ∀ (b : List UInt8), val (a ++ b) = val a + 128 ^ a.length * val b := by
  induction a with
  | nil => intro b; simp [val]
  | cons x a ih =>
    intro b
    simp only [List.cons_append, val, ih, List.length_cons, Nat.pow_succ]
    rw [Nat.mul_add, Nat.mul_comm (128 ^ a.length) 128, Nat.mul_assoc]
    omega

theorem val_lt : ∀ (a : List UInt8), val a < 128 ^ a.length
  | [] => by simp [val]
  | b :: r => by
    have := val_lt r
    simp only [val, List.length_cons, Nat.pow_succ]
    omega

theorem val_take_succ (t : List UInt8) (j : Nat) (h : j < t.length) : val (t.take (j + 1)) = val (t.take j) + (t.getD j 0).toNat % 128 * 128 ^ j := by
  rw [List.take_succ_eq_append_getElem h, val_append]
  have e : (t.take j).length = j := by simp; omega
  have g : t.getD j 0 = t[j] := by simp [h]
  rw [e, g]
  simp only [val, Nat.mul_zero, Nat.add_zero]
  rw [Nat.mul_comm]

theorem val_drop (t : List UInt8) (j : Nat) (h : j < t.length) : val (t.drop j) = val (t.drop (j + 1)) * 128 + (t.getD j 0).toNat % 128 := by
  rw [List.drop_eq_getElem_cons h]
  have g : t.getD j 0 = t[j] := by simp [h]
  rw [g]
  simp only [val]
  omega

/-- The bytes but the last are high, the last is low. -/
def Formed (xs : List UInt8) : Prop := ∃ ys z, xs = ys ++ [z] ∧ (∀ y ∈ ys, 128 ≤ y.toNat) ∧ z.toNat < 128

theorem low_formed (f : Nat) (t : List UInt8) (k : Nat) (h : low f t = some k) : Formed (t.take (k + 1)) := by
  obtain ⟨_, h2, h3, h4⟩ := low_some f t k h
  refine ⟨t.take k, t.getD k 0, ?_, ?_, h4⟩
  · rw [List.take_succ_eq_append_getElem h2]
    simp [h2]
  · intro y hy
    obtain ⟨i, hi, rfl⟩ := List.getElem_of_mem hy
    have hi' : i < k := by simp at hi; omega
    have := h3 i hi'
    rw [List.getElem_take]
    have hl : i < t.length := by omega
    simpa [hl] using this

theorem val_pos (ys : List UInt8) (z : UInt8) (hz : z.toNat < 128) (h0 : z ≠ 0) : 0 < val (ys ++ [z]) := by
  have hz0 : z.toNat ≠ 0 := fun e => h0 (UInt8.toNat_inj.1 (by simpa using e))
  induction ys with
  | nil => simp [val]; omega
  | cons y ys ih => simp only [List.cons_append, val]; omega

theorem ofNat_self (b : UInt8) : UInt8.ofNat b.toNat = b := by simp

theorem var_val : ∀ (ys : List UInt8) (z : UInt8), (∀ y ∈ ys, 128 ≤ y.toNat) → z.toNat < 128 → (ys = [] ∨ z ≠ 0) → var (val (ys ++ [z])) = ys ++ [z]
  | [], z, _, hz, _ => by
    have e : val ([] ++ [z]) = z.toNat := by simp [val]; omega
    rw [e, var_small _ (by omega), ofNat_self]
    rfl
  | y :: ys, z, hy, hz, h0 => by
    have hz0 : z ≠ 0 := by
      rcases h0 with h | h
      · simp at h
      · exact h
    have hp := val_pos ys z hz hz0
    have e : val (y :: ys ++ [z]) = y.toNat % 128 + 128 * val (ys ++ [z]) := rfl
    have hy0 := hy y (by simp)
    have hy1 : y.toNat < 256 := y.toNat_lt
    have hd : val (y :: ys ++ [z]) / 128 = val (ys ++ [z]) := by rw [e]; omega
    have hm : val (y :: ys ++ [z]) % 128 + 128 = y.toNat := by rw [e]; omega
    rw [var_great _ (by rw [e]; omega), hd, hm, ofNat_self, var_val ys z (fun y' h => hy y' (by simp [h])) hz (.inr hz0)]
    rfl

theorem var_last : ∀ (f n : Nat), n ≤ f → 127 < n → ∃ ys z, var n = ys ++ [z] ∧ z ≠ 0
  | 0, n, h, h' => by omega
  | f + 1, n, h, h' => by
    rw [var_great n h']
    by_cases hs : n / 128 ≤ 127
    · rw [var_small _ hs]
      refine ⟨[UInt8.ofNat (n % 128 + 128)], UInt8.ofNat (n / 128), rfl, ?_⟩
      intro e
      have := congrArg UInt8.toNat e
      have h2 : (UInt8.ofNat (n / 128)).toNat = n / 128 := by simp; omega
      rw [h2] at this
      simp at this
      omega
    · obtain ⟨ys, z, e, hz⟩ := var_last f (n / 128) (by omega) (by omega)
      exact ⟨UInt8.ofNat (n % 128 + 128) :: ys, z, by rw [e]; rfl, hz⟩

theorem var_val_not (ys : List UInt8) (n : Nat) (h : ys ≠ []) : var n ≠ ys ++ [0] := by
  intro e
  by_cases hn : n ≤ 127
  · rw [var_small n hn] at e
    have := congrArg List.length e
    simp at this
    exact h this
  · obtain ⟨zs, z, e2, hz⟩ := var_last n n (Nat.le_refl _) (by omega)
    rw [e2] at e
    have := (List.append_inj' e rfl).2
    simp at this
    exact hz this

/-- The bytes up to the first low one are the text of their number, just when they are one byte or the last is not nought. -/
theorem short_iff (f : Nat) (t : List UInt8) (k : Nat) (h : low f t = some k) : var (val (t.take (k + 1))) = t.take (k + 1) ↔ (k = 0 ∨ (t.getD k 0).toNat ≠ 0) := by
  obtain ⟨_, h2, h3, h4⟩ := low_some f t k h
  have e : t.take (k + 1) = t.take k ++ [t.getD k 0] := by
    rw [List.take_succ_eq_append_getElem h2]
    simp [h2]
  have hh : ∀ y ∈ t.take k, 128 ≤ y.toNat := by
    intro y hy
    obtain ⟨i, hi, rfl⟩ := List.getElem_of_mem hy
    have hi' : i < k := by simp at hi; omega
    have := h3 i hi'
    rw [List.getElem_take]
    have hl : i < t.length := by omega
    simpa [hl] using this
  rw [e]
  constructor
  · intro hv
    by_cases hk : k = 0
    · exact .inl hk
    · refine .inr fun h0 => ?_
      have hz : t.getD k 0 = 0 := UInt8.toNat_inj.1 (by simpa using h0)
      rw [hz] at hv
      exact var_val_not (t.take k) _ (by intro hn; simp at hn; rcases hn with hn | hn <;> simp_all) hv
  · intro hv
    refine var_val _ _ hh h4 ?_
    rcases hv with hk | hz
    · left; simp [hk]
    · right; intro hz'; rw [hz'] at hz; simp at hz

theorem val_five (a : List UInt8) (h : a.length ≤ 5) : val a < 34359738368 :=
  Nat.lt_of_lt_of_le (val_lt a) (Nat.pow_le_pow_right (n := 128) (by omega) h)

end Go.Proofs.YtdhacjpdlmnlmarDoor
namespace Go.Proofs.YtdhacjpdlmnlmarDoor
open Go.RowKit

set_option maxRecDepth 100000 in
set_option maxHeartbeats 400000 in
theorem varSize_none (s : ByteArray) (hs : s.size ≤ 1048576) (h : low 5 s.data.toList = none) (w : World) :
    Calls Tryd.prog 29 #[.string s] w fun e w' => e = .returned (.tuple #[.int .i64 0, .bool false]) ∧ ∃ n, w' = w.drewN n := by
  have HN := Lib.hid (low_none 5 _ h)
  clear h
  go_enter Tryd.func29, Tryd.ntmps29
  go_wp2
  go_loop [4] (fun t => ∃ k : Nat, k ≤ 5 ∧ k ≤ s.size ∧ t = .int .i64 k) (fun t => 5 - (intOf t).toNat)
  case atStart => exact ⟨0, by omega, by omega, rfl⟩
  case round =>
    obtain ⟨k, h5, hk, rfl⟩ := hrel
    by_cases hlt : k < s.size
    · by_cases h4 : k < 5
      · have hb : 128 ≤ (s[k].toNat : Int) := by
          have := HN.out k h4 (by simpa using hlt)
          have e : s.data.toList.getD k 0 = s[k] := by simp [hlt]; rfl
          rw [e] at this
          omega
        have HB := Lib.hid hb
        clear hb
        go_wp2
        · have := HB.out
          omega
        go_round
        case rel => exact ⟨k + 1, by omega, by omega, by go_num⟩
        case measure => simp [intOf]; omega
      · go_wp2
        go_ret2
        exact ⟨rfl, 0, rfl⟩
    · go_wp2
      go_ret2
      exact ⟨rfl, 0, rfl⟩

set_option maxRecDepth 100000 in
set_option maxHeartbeats 400000 in
theorem varSize_some (s : ByteArray) (_hs : s.size ≤ 1048576) (n : Nat) (h : low 5 s.data.toList = some n) (w : World) :
    Calls Tryd.prog 29 #[.string s] w fun e w' => e = .returned (.tuple #[.int .i64 ((n + 1 : Nat) : Int), .bool (decide (n = 0 ∨ (s.data.toList.getD n 0).toNat ≠ 0))]) ∧ ∃ n, w' = w.drewN n := by
  obtain ⟨n5, nl, hh, hlo⟩ := low_some 5 _ n h
  have nl' : n < s.size := by simpa using nl
  have eb : ∀ k (hk : k < s.size), s.data.toList.getD k 0 = s[k] := fun k hk => by simp [hk]; rfl
  have HN := Lib.hid hh
  have HL := Lib.hid hlo
  have HE := Lib.hid eb
  clear h hh hlo eb nl
  go_enter Tryd.func29, Tryd.ntmps29
  go_wp2
  go_loop [4] (fun t => ∃ k : Nat, k ≤ n ∧ t = .int .i64 k) (fun t => 5 - (intOf t).toNat)
  case atStart => exact ⟨0, by omega, rfl⟩
  case round =>
    obtain ⟨k, hk, rfl⟩ := hrel
    have hlt : k < s.size := by omega
    have h4 : k < 5 := by omega
    by_cases hkn : k = n
    · have hb : (s[k].toNat : Int) < 128 := by
        have h1 := HL.out
        have h2 := HE.out k hlt
        rw [← hkn, h2] at h1
        omega
      have HB := Lib.hid hb
      have HK := Lib.hid hkn
      clear hb hkn
      go_wp2
      · by_cases h0 : k = 0
        · have g0 : ((k : Int) == 0) = true := beq_iff_eq.2 (by omega)
          go_quiet (fail)
          go_wp2
          go_ret2
          exact ⟨ret_ib (by have := HK.out; omega) (by have := HK.out; simp; omega), _, rfl⟩
        · have g0 : ((k : Int) == 0) = false := beq_eq_false_iff_ne.2 (by omega)
          go_quiet (fail)
          go_wp2
          go_ret2
          refine ⟨ret_ib (by have := HK.out; omega) ?_, _, rfl⟩
          have h1 := HK.out
          have h2 := HE.out k hlt
          clear HK HE HB HL HN g0
          subst h1
          rw [h2]
          simp [h0, bne_nat]
      · have := HB.out
        omega
    · have hb : 128 ≤ (s[k].toNat : Int) := by
        have := HN.out k (by omega)
        rw [HE.out k hlt] at this
        omega
      have HB := Lib.hid hb
      have HK := Lib.hid hkn
      clear hb hkn
      go_wp2
      · have := HB.out
        omega
      · go_round
        case rel => exact ⟨k + 1, by have := HK.out; omega, by go_num⟩
        case measure => simp [intOf]; omega

/-- What is left of a text from a place on. -/
theorem rest_list (s : ByteArray) (a : Nat) : (s.extract a s.size).data.toList = s.data.toList.drop a := by
  rw [Lib.extract_data, List.take_of_length_le]
  rw [List.length_drop, ← Lib.size_eq]
  exact Nat.le_refl _

set_option maxRecDepth 100000 in
set_option maxHeartbeats 400000 in
theorem implReadVar_out (s : ByteArray) (hs : s.size ≤ 1048576) (p : Int) (h : p < 0 ∨ (s.size : Int) < p) (w : World) :
    Calls Tryd.prog 14 #[.string s, .int .i64 p] w fun e w' => e = .returned (.tuple #[.int .i64 0, .int .i64 0, .bool false]) ∧ Below w.heap.size w w' := by
  rcases h with h | h
  · go_enter Tryd.func14, Tryd.ntmps14
    go_wp2
    go_ret3
    exact ⟨rfl, Below.refl _ _⟩
  · have h0 : ¬ p < 0 := by omega
    go_enter Tryd.func14, Tryd.ntmps14
    go_wp2
    go_ret3
    exact ⟨rfl, Below.refl _ _⟩

set_option maxRecDepth 100000 in
set_option maxHeartbeats 400000 in
theorem implReadVar_none (s : ByteArray) (hs : s.size ≤ 1048576) (a : Nat) (ha : a ≤ s.size) (h : low 5 (s.data.toList.drop a) = none) (w : World) :
    Calls Tryd.prog 14 #[.string s, .int .i64 a] w fun e w' => e = .returned (.tuple #[.int .i64 0, .int .i64 0, .bool false]) ∧ Below w.heap.size w w' := by
  have h0 : ¬ (a : Int) < 0 := by omega
  have h1 : ¬ (s.size : Int) < (a : Int) := by omega
  have hx : (s.extract a s.size).size ≤ 1048576 := by simp; omega
  rw [← rest_list] at h
  have H := Lib.hid h
  clear h
  go_enter Tryd.func14, Tryd.ntmps14
  go_wp2_with fail
  refine (varSize_none _ hx H.out _).mono ?_
  rintro e w1 ⟨rfl, nq, rfl⟩
  go_wp2
  go_ret3
  exact ⟨rfl, below_drewN (Below.refl _ _) _⟩

set_option maxRecDepth 100000 in
set_option maxHeartbeats 400000 in
theorem implReadVar_long (s : ByteArray) (hs : s.size ≤ 1048576) (a : Nat) (ha : a ≤ s.size) (k : Nat) (h : low 5 (s.data.toList.drop a) = some k)
    (hk : ¬ (k = 0 ∨ ((s.data.toList.drop a).getD k 0).toNat ≠ 0)) (w : World) :
    Calls Tryd.prog 14 #[.string s, .int .i64 a] w fun e w' => e = .returned (.tuple #[.int .i64 0, .int .i64 0, .bool false]) ∧ Below w.heap.size w w' := by
  have h0 : ¬ (a : Int) < 0 := by omega
  have h1 : ¬ (s.size : Int) < (a : Int) := by omega
  have hx : (s.extract a s.size).size ≤ 1048576 := by simp; omega
  rw [← rest_list] at h hk
  have H := Lib.hid h
  have hd := decide_eq_false hk
  have HD := Lib.hid hd
  clear h hk hd
  go_enter Tryd.func14, Tryd.ntmps14
  go_wp2_with fail
  refine (varSize_some _ hx k H.out _).mono ?_
  rintro e w1 ⟨rfl, nq, rfl⟩
  rw [HD.out]
  go_wp2
  go_ret3
  exact ⟨rfl, below_drewN (Below.refl _ _) _⟩

theorem getD_rest (s : ByteArray) (a k i : Nat) (hi : i ≤ k) (hl : a + k < s.size) : ((s.data.toList.drop a).take (k + 1)).getD i 0 = s[a + i] := by
  have e : a + i < s.size := by omega
  rw [List.getD_eq_getElem?_getD, List.getElem?_take, if_pos (by omega), List.getElem?_drop]
  have e2 : a + i < s.data.toList.length := by simpa using e
  rw [List.getElem?_eq_getElem e2]
  rfl

set_option maxRecDepth 100000 in
set_option maxHeartbeats 400000 in
theorem implReadVar_some (s : ByteArray) (hs : s.size ≤ 1048576) (a : Nat) (ha : a ≤ s.size) (k : Nat) (h : low 5 (s.data.toList.drop a) = some k)
    (hk : k = 0 ∨ ((s.data.toList.drop a).getD k 0).toNat ≠ 0) (w : World) :
    Calls Tryd.prog 14 #[.string s, .int .i64 a] w fun e w' =>
      (val ((s.data.toList.drop a).take (k + 1)) ≤ 1000000000 ∧ e = .returned (.tuple #[.int .i64 (val ((s.data.toList.drop a).take (k + 1)) : Nat), .int .i64 ((a + k + 1 : Nat) : Int), .bool true]) ∨
       1000000000 < val ((s.data.toList.drop a).take (k + 1)) ∧ e = .returned (.tuple #[.int .i64 0, .int .i64 0, .bool false])) ∧ Below w.heap.size w w' := by
  have h0 : ¬ (a : Int) < 0 := by omega
  have h1 : ¬ (s.size : Int) < (a : Int) := by omega
  have hx : (s.extract a s.size).size ≤ 1048576 := by simp; omega
  obtain ⟨k5, kl, _, _⟩ := low_some _ _ _ h
  have kl' : a + k < s.size := by simp at kl; omega
  have hbyte := getD_rest s a k
  obtain ⟨u, hu⟩ : ∃ u, u = (s.data.toList.drop a).take (k + 1) := ⟨_, rfl⟩
  rw [← hu] at hbyte ⊢
  have ulen : u.length = k + 1 := by rw [hu]; simp at kl ⊢; omega
  rw [← rest_list] at h hk
  have H := Lib.hid h
  have hd := decide_eq_true hk
  have HD := Lib.hid hd
  have HY := Lib.hid hbyte
  have HU := Lib.hid ulen
  clear h hk hd hbyte ulen hu kl
  go_enter Tryd.func14, Tryd.ntmps14
  go_wp2_with fail
  refine (varSize_some _ hx k H.out _).mono ?_
  rintro e w1 ⟨rfl, nq, rfl⟩
  rw [HD.out]
  go_wp2
  go_loop [9, 10] (fun n p => ∃ j : Nat, j ≤ k + 1 ∧ n = .int .i64 (val (u.drop j) : Nat) ∧ p = .int .i64 ((a : Int) + j - 1)) (fun _ p => ((intOf p) + 1 - a).toNat)
  case atStart => exact ⟨k + 1, Nat.le_refl _, int_eq (by rw [List.drop_of_length_le (by have := HU.out; omega)]; rfl), int_eq (by omega)⟩
  case round =>
    obtain ⟨j, hj, rfl, rfl⟩ := hrel
    by_cases hj0 : j = 0
    · subst hj0
      go_wp2
      · go_ret3
        exact ⟨.inr ⟨by omega, rfl⟩, below_drewN (Below.refl _ _) _⟩
      · go_ret3
        exact ⟨.inl ⟨by omega, ret_iib rfl (by omega) rfl⟩, below_drewN (Below.refl _ _) _⟩
    · obtain ⟨i, rfl⟩ : ∃ i, j = i + 1 := ⟨j - 1, by omega⟩
      have hv := val_drop u i (by have := HU.out; omega)
      rw [HY.out i (by omega) kl'] at hv
      have hb := val_five (u.drop (i + 1)) (by have := HU.out; simp; omega)
      have HV := Lib.hid hv
      clear hv
      have hi : a + i < s.size := by omega
      go_wp2
      go_round
      case rel => exact ⟨i, by omega, int_eq (by rw [HV.out]; omega), int_eq (by omega)⟩
      case measure => simp [intOf]; omega

end Go.Proofs.YtdhacjpdlmnlmarDoor
namespace Go.Proofs.YtdhacjpdlmnlmarDoor

/-- The figure of a worth below 16. -/
def fig (x : Nat) : UInt8 := if x < 10 then UInt8.ofNat (48 + x) else UInt8.ofNat (87 + x)

def hexOf (l : List UInt8) : List UInt8 := l.flatMap fun b => [fig (b.toNat / 16), fig (b.toNat % 16)]

theorem hexOf_snoc (l : List UInt8) (b : UInt8) : hexOf (l ++ [b]) = hexOf l ++ [fig (b.toNat / 16), fig (b.toNat % 16)] := by simp [hexOf]

theorem hexOf_length (l : List UInt8) : (hexOf l).length = 2 * l.length := by
  induction l with
  | nil => rfl
  | cons b l ih =>
    have e : hexOf (b :: l) = fig (b.toNat / 16) :: fig (b.toNat % 16) :: hexOf l := rfl
    rw [e, List.length_cons, List.length_cons, List.length_cons, ih]
    omega

theorem fig_toNat (x : Nat) (h : x < 16) : (fig x).toNat = if x < 10 then 48 + x else 87 + x := by
  unfold fig
  split <;> simp <;> omega

theorem take_snoc (s : ByteArray) (k : Nat) (h : k < s.size) : s.data.toList.take (k + 1) = s.data.toList.take k ++ [s[k]] := by
  rw [List.take_succ_eq_append_getElem (by simpa using h)]; rfl

theorem figs_get : ∀ (q : Nat) (h : q < 16), ((⟨#[48, 49, 50, 51, 52, 53, 54, 55, 56, 57, 97, 98, 99, 100, 101, 102]⟩ : ByteArray)[q]'(by exact h)) = fig q := by
  intro q h
  have : ∀ q : Fin 16, ((⟨#[48, 49, 50, 51, 52, 53, 54, 55, 56, 57, 97, 98, 99, 100, 101, 102]⟩ : ByteArray)[q.1]'(by exact q.2)) = fig q.1 := by decide
  exact this ⟨q, h⟩

theorem figs_int (q : Nat) (h : (q : Int) < 16) : ((((⟨#[48, 49, 50, 51, 52, 53, 54, 55, 56, 57, 97, 98, 99, 100, 101, 102]⟩ : ByteArray)[q]'(show q < 16 by omega)).toNat : Nat) : Int) = ((fig q).toNat : Int) := by
  rw [figs_get q (by omega)]

end Go.Proofs.YtdhacjpdlmnlmarDoor

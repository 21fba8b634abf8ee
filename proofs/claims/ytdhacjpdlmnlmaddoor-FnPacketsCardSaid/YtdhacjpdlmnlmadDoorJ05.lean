/-
  Plain mathematics: numbers and texts come back from their bytes and figures; no program is spoken of here.
  Packets as bytes, and read back; no program is spoken of here.
  The two functions that write a number in bytes, the given one and the program's, answer one text, at every number.
-/
import Derived.Test.YtdhacjpdlmnlmadDoorJ03
import Derived.Test.YtdhacjpdlmnlmadDoorJ04
import Derived.Test.YtdhacjpdlmnlmadDoorRows
import Derived.Test.YtdhacjpdlmnlmadDoorJ01
namespace Go.Proofs.YtdhacjpdlmnlmadDoor

theorem var_formed : ∀ (f n : Nat), n ≤ f → ∃ (ys : List UInt8) (z : UInt8), var n = ys ++ [z] ∧ (∀ y ∈ ys, 128 ≤ y.toNat) ∧ z.toNat < 128 ∧ (ys = [] ∨ z.toNat ≠ 0) ∧ val (ys ++ [z]) = n
  | f, n, hf => by
    by_cases h : n ≤ 127
    · refine ⟨[], UInt8.ofNat n, by rw [var_small n h]; rfl, by simp, ?_, .inl rfl, ?_⟩
      · rw [UInt8.toNat_ofNat', Nat.mod_eq_of_lt (by omega)]; omega
      · simp only [List.nil_append, val, UInt8.toNat_ofNat']
        rw [Nat.mod_eq_of_lt (by omega : n < 2 ^ 8)]
        omega
    · match f, hf with
      | 0, hf => omega
      | f + 1, hf =>
        obtain ⟨ys, z, h1, h2, h3, h4, h5⟩ := var_formed f (n / 128) (by omega)
        have hb : (UInt8.ofNat (n % 128 + 128)).toNat = n % 128 + 128 := by rw [UInt8.toNat_ofNat', Nat.mod_eq_of_lt (by omega)]
        refine ⟨UInt8.ofNat (n % 128 + 128) :: ys, z, by rw [var_great n (by omega), h1]; rfl, ?_, h3, .inr ?_, ?_⟩
        · intro y hy
          rcases List.mem_cons.1 hy with rfl | hy
          · omega
          · exact h2 y hy
        · rcases h4 with rfl | h4
          · simp only [List.nil_append, val] at h5
            omega
          · exact h4
        · show (UInt8.ofNat (n % 128 + 128)).toNat % 128 + 128 * val (ys ++ [z]) = n
          rw [hb, h5]
          omega

theorem var_len : ∀ (m n : Nat), n < 128 ^ (m + 1) → (var n).length ≤ m + 1
  | 0, n, h => by rw [var_small n (by omega)]; simp
  | m + 1, n, h => by
    by_cases hs : n ≤ 127
    · rw [var_small n hs]; simp
    · rw [var_great n (by omega), List.length_cons]
      have := var_len m (n / 128) (by rw [Nat.div_lt_iff_lt_mul (by omega)]; rw [Nat.pow_succ] at h; exact h)
      omega

theorem low_of : ∀ (f : Nat) (ys : List UInt8) (z : UInt8) (r : List UInt8), (∀ y ∈ ys, 128 ≤ y.toNat) → z.toNat < 128 → ys.length < f → low f (ys ++ z :: r) = some ys.length
  | 0, _, _, _, _, _, h => by omega
  | f + 1, [], z, r, _, hz, _ => by simp [low, hz]
  | f + 1, y :: ys, z, r, hy, hz, hl => by
    have h1 := hy y (by simp)
    have h2 := low_of f ys z r (fun x hx => hy x (by simp [hx])) hz (by simp at hl; omega)
    show (if y.toNat < 128 then some 0 else (low f (ys ++ z :: r)).map (· + 1)) = _
    rw [if_neg (by omega), h2]
    rfl

/-- The bytes of a number, whatever follows them: where they end, and what they say. -/
theorem var_read (n : Nat) (h : n ≤ 1000000000) (r : List UInt8) : ∃ k, low 5 (var n ++ r) = some k ∧ k + 1 = (var n).length ∧ val ((var n ++ r).take (k + 1)) = n ∧ (k = 0 ∨ ((var n ++ r).getD k 0).toNat ≠ 0) := by
  obtain ⟨ys, z, h1, h2, h3, h4, h5⟩ := var_formed n n (Nat.le_refl _)
  have hl := var_len 4 n (by have : (128 : Nat) ^ 5 = 34359738368 := by decide
                             omega)
  rw [h1] at hl
  simp at hl
  refine ⟨ys.length, ?_, by rw [h1]; simp, ?_, ?_⟩
  · rw [h1, List.append_assoc]
    exact low_of 5 ys z r h2 h3 (by omega)
  · rw [List.take_append_of_le_length (by rw [h1]; simp), h1, List.take_of_length_le (by simp), h5]
  · rcases h4 with rfl | h4
    · exact .inl rfl
    · right
      rw [h1]
      simp
      exact fun e => h4 (by simp [e])

theorem hex_back : ∀ (l : List UInt8), ∃ qs : List Nat, (∀ q ∈ qs, q < 16) ∧ hexOf l = qs.map fig ∧ pairs qs = l
  | [] => ⟨[], by simp, rfl, rfl⟩
  | b :: l => by
    obtain ⟨qs, h1, h2, h3⟩ := hex_back l
    have hb := b.toNat_lt
    refine ⟨b.toNat / 16 :: b.toNat % 16 :: qs, ?_, ?_, ?_⟩
    · intro q hq
      rcases List.mem_cons.1 hq with rfl | hq
      · omega
      · rcases List.mem_cons.1 hq with rfl | hq
        · omega
        · exact h1 q hq
    · show fig (b.toNat / 16) :: fig (b.toNat % 16) :: hexOf l = _
      rw [h2]
      rfl
    · show UInt8.ofNat (16 * (b.toNat / 16) + b.toNat % 16) :: pairs qs = b :: l
      rw [h3, Nat.div_add_mod, ofNat_self]

theorem dec_back : ∀ (f m : Nat), m ≤ f → ∃ qs : List Nat, (∀ q ∈ qs, q < 10) ∧ qs ≠ [] ∧ Lib.decDigits m = qs.map fig ∧ valD qs = m
  | f, m, hf => by
    by_cases h : m < 10
    · refine ⟨[m], by simpa using h, by simp, ?_, by simp [valD, valR]⟩
      rw [Lib.decDigits_one h]
      simp [fig, h]
    · match f, hf with
      | 0, hf => omega
      | f + 1, hf =>
        obtain ⟨qs, h1, h2, h3, h4⟩ := dec_back f (m / 10) (by omega)
        refine ⟨qs ++ [m % 10], ?_, by simp, ?_, ?_⟩
        · intro q hq
          rcases List.mem_append.1 hq with hq | hq
          · exact h1 q hq
          · simp at hq
            omega
        · rw [← digs_pos m (by omega), digs_step m (by omega), digs_pos (m / 10) (by omega), h3]
          simp
        · rw [valD_snoc, h4]
          omega

end Go.Proofs.YtdhacjpdlmnlmadDoor
namespace Go.Proofs.YtdhacjpdlmnlmadDoor

/-- The number that bytes begin with, and the rest. -/
def readV (t : List UInt8) : Option (Nat × List UInt8) :=
  match low 5 t with
  | none => none
  | some k => if val (t.take (k + 1)) ≤ 1000000000 ∧ (k = 0 ∨ (t.getD k 0).toNat ≠ 0) then some (val (t.take (k + 1)), t.drop (k + 1)) else none
theorem readV_var (n : Nat) (h : n ≤ 1000000000) (r : List UInt8) : readV (var n ++ r) = some (n, r) := by
  obtain ⟨k, h1, h2, h3, h4⟩ := var_read n h r
  unfold readV
  rw [h1]
  simp only []
  rw [h3, if_pos ⟨h, h4⟩, h2, List.drop_left']
  rfl
theorem readV_some {t : List UInt8} {n : Nat} {r : List UInt8} (h : readV t = some (n, r)) : n ≤ 1000000000 ∧ t = var n ++ r := by
  unfold readV at h
  cases hk : low 5 t with
  | none => rw [hk] at h; cases h
  | some k =>
    rw [hk] at h
    simp only [] at h
    split at h
    · next hc =>
      simp only [Option.some.injEq, Prod.mk.injEq] at h
      obtain ⟨rfl, rfl⟩ := h
      refine ⟨hc.1, ?_⟩
      rw [(short_iff 5 t k hk).2 hc.2, List.take_append_drop]
    · cases h
/-- Several numbers, one behind another. -/
def readVs : Nat → List UInt8 → Option (List Nat × List UInt8)
  | 0, t => some ([], t)
  | n + 1, t => match readV t with
    | none => none
    | some (x, r) => match readVs n r with
      | none => none
      | some (xs, q) => some (x :: xs, q)
theorem readVs_of : ∀ (xs : List Nat) (r : List UInt8), (∀ x ∈ xs, x ≤ 1000000000) → readVs xs.length (xs.flatMap var ++ r) = some (xs, r)
  | [], r, _ => rfl
  | x :: xs, r, h => by
    have h1 := readV_var x (h x (by simp)) (xs.flatMap var ++ r)
    have h2 := readVs_of xs r (fun y hy => h y (by simp [hy]))
    show (match readV ((var x ++ xs.flatMap var) ++ r) with | none => none | some (x, r) => match readVs xs.length r with | none => none | some (xs, q) => some (x :: xs, q)) = _
    rw [List.append_assoc, h1]
    simp only []
    rw [h2]
theorem readVs_some : ∀ (n : Nat) (t : List UInt8) (xs : List Nat) (r : List UInt8), readVs n t = some (xs, r) → xs.length = n ∧ t = xs.flatMap var ++ r ∧ ∀ x ∈ xs, x ≤ 1000000000
  | 0, t, xs, r, h => by
    simp only [readVs, Option.some.injEq, Prod.mk.injEq] at h
    obtain ⟨rfl, rfl⟩ := h
    exact ⟨rfl, rfl, by simp⟩
  | n + 1, t, xs, r, h => by
    unfold readVs at h
    cases hv : readV t with
    | none => rw [hv] at h; cases h
    | some q =>
      obtain ⟨x, r1⟩ := q
      rw [hv] at h
      simp only [] at h
      cases hw : readVs n r1 with
      | none => rw [hw] at h; cases h
      | some q2 =>
        obtain ⟨ys, r2⟩ := q2
        rw [hw] at h
        simp only [Option.some.injEq, Prod.mk.injEq] at h
        obtain ⟨rfl, rfl⟩ := h
        obtain ⟨k1, k2⟩ := readV_some hv
        obtain ⟨m1, m2, m3⟩ := readVs_some n r1 ys r2 hw
        refine ⟨by simp [m1], ?_, fun y hy => ?_⟩
        · rw [k2, m2, List.flatMap_cons, List.append_assoc]
        · rcases List.mem_cons.1 hy with rfl | hy
          · exact k1
          · exact m3 y hy

/-- A packet in plain words: Op, Key, From, To, Num, Acks, Body. -/
structure Pk where
  op : Nat
  key : Nat
  src : Nat
  dst : Nat
  num : Nat
  acks : List Nat
  body : List UInt8
/-- The bytes of a packet ahead of its sum. -/
def pkB (p : Pk) : List UInt8 := UInt8.ofNat (8 * p.op + p.key) :: UInt8.ofNat p.src :: UInt8.ofNat p.dst :: (var p.num ++ (var p.acks.length ++ (p.acks.flatMap var ++ p.body)))
/-- A packet whose fields have room in their bytes. -/
structure PkFits (p : Pk) : Prop where
  op : p.op ≤ 31
  key : p.key ≤ 7
  src : p.src ≤ 255
  dst : p.dst ≤ 255
  num : p.num ≤ 1000000000
  many : p.acks.length ≤ 1000000000
  acks : ∀ x ∈ p.acks, x ≤ 1000000000
/-- What bytes say, as a packet. -/
def readPk (t : List UInt8) : Option Pk :=
  match t with
  | a :: b :: c :: r => match readV r with
    | none => none
    | some (n, r1) => match readV r1 with
      | none => none
      | some (m, r2) => match readVs m r2 with
        | none => none
        | some (xs, body) => some ⟨a.toNat / 8, a.toNat % 8, b.toNat, c.toNat, n, xs, body⟩
  | _ => none
theorem readPk_of (p : Pk) (h : PkFits p) : readPk (pkB p) = some p := by
  have h1 := readV_var p.num h.num (var p.acks.length ++ (p.acks.flatMap var ++ p.body))
  have h2 := readV_var p.acks.length h.many (p.acks.flatMap var ++ p.body)
  have h3 := readVs_of p.acks p.body h.acks
  have hop := h.op
  have hke := h.key
  have hs := h.src
  have hd := h.dst
  unfold readPk pkB
  simp only []
  rw [h1]
  simp only []
  rw [h2]
  simp only []
  rw [h3]
  have e1 : (UInt8.ofNat (8 * p.op + p.key)).toNat = 8 * p.op + p.key := by rw [UInt8.toNat_ofNat']; omega
  have e2 : (UInt8.ofNat p.src).toNat = p.src := by rw [UInt8.toNat_ofNat']; omega
  have e3 : (UInt8.ofNat p.dst).toNat = p.dst := by rw [UInt8.toNat_ofNat']; omega
  simp only [e1, e2, e3]
  have e4 : (8 * p.op + p.key) / 8 = p.op := by omega
  have e5 : (8 * p.op + p.key) % 8 = p.key := by omega
  rw [e4, e5]
theorem readPk_some {t : List UInt8} {p : Pk} (h : readPk t = some p) : t = pkB p ∧ PkFits p := by
  unfold readPk at h
  match t, h with
  | a :: b :: c :: r, h =>
    simp only [] at h
    cases h1 : readV r with
    | none => rw [h1] at h; cases h
    | some q1 =>
      obtain ⟨n, r1⟩ := q1
      rw [h1] at h
      simp only [] at h
      cases h2 : readV r1 with
      | none => rw [h2] at h; cases h
      | some q2 =>
        obtain ⟨m, r2⟩ := q2
        rw [h2] at h
        simp only [] at h
        cases h3 : readVs m r2 with
        | none => rw [h3] at h; cases h
        | some q3 =>
          obtain ⟨xs, body⟩ := q3
          rw [h3] at h
          simp only [Option.some.injEq] at h
          subst h
          obtain ⟨k1, k2⟩ := readV_some h1
          obtain ⟨k3, k4⟩ := readV_some h2
          obtain ⟨k5, k6, k7⟩ := readVs_some m r2 xs body h3
          have ha := a.toNat_lt
          have hb := b.toNat_lt
          have hc := c.toNat_lt
          refine ⟨?_, ⟨by show a.toNat / 8 ≤ 31; omega, by show a.toNat % 8 ≤ 7; omega, by show b.toNat ≤ 255; omega, by show c.toNat ≤ 255; omega, k1, by show xs.length ≤ _; omega, k7⟩⟩
          unfold pkB
          simp only []
          have e1 : 8 * (a.toNat / 8) + a.toNat % 8 = a.toNat := by omega
          rw [e1, ofNat_self, ofNat_self, ofNat_self, k2, k4, k6, k5]
/-- Two packets have the same bytes only where they are the same. -/
theorem pkB_inj {p q : Pk} (hp : PkFits p) (hq : PkFits q) (h : pkB p = pkB q) : p = q := by
  have h1 := readPk_of p hp
  rw [h, readPk_of q hq] at h1
  exact (Option.some.inj h1).symm

end Go.Proofs.YtdhacjpdlmnlmadDoor
namespace Go.Proofs.YtdhacjpdlmnlmadDoor
open Go.RowKit

theorem infoByte : (Tryd.prog.info? 5).map (fun i => (i.zero, i.size, i.bytes)) = some (some (.int .u8 0), 1, 1) := by kernel_rfl

set_option maxRecDepth 100000 in
set_option maxHeartbeats 400000 in
theorem l01Var_any (n : Nat) (hn : n ≤ 1000000000) (w : World) :
    Calls Tryd.prog 47 #[.int .i64 n] w fun e w' => e = .returned (.string ⟨(var n).toArray⟩) ∧ Below w.heap.size w w' := by
  obtain ⟨i0, hi, hz0, hz1, hz2⟩ := info_parts infoByte
  go_enter Tryd.func47, Tryd.ntmps47
  go_wp2
  go_loopw [0, 3] (fun t v wr => ∃ (m : Nat) (xs : List UInt8), m ≤ n ∧ t = .int .i64 m ∧ xs ++ var m = var n ∧ OwnB wr w.heap.size 5 v xs ∧ Below w.heap.size w wr) (fun t _ _ => (intOf t).toNat)
  case atStart => exact ⟨n, [], Nat.le_refl _, rfl, rfl, OwnB.lit _ _ _ (Nat.le_refl _), (Below.refl _ _).alloc (Nat.le_refl _) _⟩
  case round =>
    obtain ⟨m, xs, hm, rfl, hx, hown, hnx⟩ := hrel
    have hsz := hnx.size
    have hlen : xs.length + (var m).length ≤ 1000000001 := by
      have h1 := var_length n
      rw [← hx, List.length_append] at h1
      omega
    have HX := Lib.hid hx
    clear hx
    by_cases hlt : 127 < m
    · obtain ⟨b, hb, hg⟩ : ∃ b : UInt8, ((m : Int) % 128 + 128) = b.toNat ∧ var m = b :: var (m / 128) := ⟨_, by rw [byte_of _ (by omega)]; omega, var_great m hlt⟩
      have HG := Lib.hid hg
      have HB := Lib.hid hb
      clear hg hb
      go_wp2_with (at_builtin; refine wpList_push _ rfl _ _ 22 rfl w.heap.size 5 i0 Tryd.underlying22 hi hz0 hz1 hz2 _ xs rfl hown b _ rfl HB.out (by omega) hsz ?_)
      intro v' w1 hown1 hnx1
      have hnx2 := hnx.trans hnx1
      clear hown hnx hnx1 hsz
      go_wp2
      go_roundw
      case rel => exact ⟨m / 128, xs ++ [b], by omega, by go_num, by rw [← HX.out, HG.out, List.append_assoc]; rfl, hown1, hnx2⟩
      case measure => simp [intOf]; omega
    · obtain ⟨b, hb, hs⟩ : ∃ b : UInt8, (m : Int) = b.toNat ∧ var m = [b] := ⟨_, by rw [byte_of _ (by omega)], var_small m (by omega)⟩
      have HS := Lib.hid hs
      have HB := Lib.hid hb
      clear hs hb
      go_wp2_with (at_builtin; refine wpList_push _ rfl _ _ 22 rfl w.heap.size 5 i0 Tryd.underlying22 hi hz0 hz1 hz2 _ xs rfl hown b _ rfl HB.out (by omega) hsz ?_)
      intro v' w1 hown1 hnx1
      have hcv := run_string_own (P := Tryd.prog) w1 22 9 5 Tryd.underlying22 Tryd.underlying5 Tryd.underlying9 _ hown1
      go_wp2
      go_ret
      exact ⟨ret_str (by rw [← HX.out, HS.out]), hnx.trans hnx1⟩

theorem l01Var_int (n : Int) (h0 : 0 ≤ n) (h1 : n ≤ 1000000000) (w : World) :
    Calls Tryd.prog 47 #[.int .i64 n] w fun e w' => e = .returned (.string ⟨(var n.toNat).toArray⟩) ∧ Below w.heap.size w w' := by
  obtain ⟨m, rfl⟩ := Int.eq_ofNat_of_zero_le h0
  rw [Int.toNat_natCast]
  exact l01Var_any m (by omega) w

theorem l01In_yes (x a b : Int) (h0 : a ≤ x) (h1 : x ≤ b) (w : World) :
    Calls Tryd.prog 22 #[.int .i64 x, .int .i64 a, .int .i64 b] w fun e w' => e = .returned (.bool true) ∧ w = w' := by
  go_enter Tryd.func22, Tryd.ntmps22
  go_wp2
  go_ret
  exact ⟨rfl, rfl⟩

theorem l01In_no (x a b : Int) (h : x < a ∨ b < x) (w : World) :
    Calls Tryd.prog 22 #[.int .i64 x, .int .i64 a, .int .i64 b] w fun e w' => e = .returned (.bool false) ∧ w = w' := by
  by_cases hx : x < a
  · go_enter Tryd.func22, Tryd.ntmps22
    go_wp2
    go_ret
    exact ⟨rfl, rfl⟩
  · have h0 : a ≤ x := by omega
    have h1 : decide (x ≤ b) = false := decide_eq_false (by omega)
    clear h hx
    go_enter Tryd.func22, Tryd.ntmps22
    go_wp2
    go_ret
    exact ⟨rfl, rfl⟩

end Go.Proofs.YtdhacjpdlmnlmadDoor

/-
  Plain mathematics of decimal figures that are read: the number, and when the figures are its shortest; no program is spoken of here.
  Plain mathematics: numbers and texts come back from their bytes and figures; no program is spoken of here.
  Packets as bytes, and read back; no program is spoken of here.
  The given l05Byte: one byte as a text.
-/
import Derived.Test.YtdhacjpdlmnlmaqDoorJ04
import Derived.Test.YtdhacjpdlmnlmaqDoorJ07
import Derived.Test.YtdhacjpdlmnlmaqDoorJ01
import Derived.Test.YtdhacjpdlmnlmaqDoorRows
namespace Go.Proofs.YtdhacjpdlmnlmaqDoor

/-- Figures from the last on. -/
def valR : List Nat → Nat
  | [] => 0
  | q :: r => q + 10 * valR r

def valD (l : List Nat) : Nat := valR l.reverse

theorem valD_snoc (l : List Nat) (q : Nat) : valD (l ++ [q]) = 10 * valD l + q := by
  unfold valD
  rw [List.reverse_append]
  show q + 10 * valR l.reverse = _
  omega

theorem valR_lt : ∀ (l : List Nat), (∀ q ∈ l, q < 10) → valR l < 10 ^ l.length
  | [], _ => by simp [valR]
  | q :: r, h => by
    have h1 := valR_lt r (fun x hx => h x (by simp [hx]))
    have h2 := h q (by simp)
    simp only [valR, List.length_cons, Nat.pow_succ]
    omega

theorem valR_append_zero : ∀ (l : List Nat), valR (l ++ [0]) = valR l
  | [] => rfl
  | q :: r => by
    show q + 10 * valR (r ++ [0]) = q + 10 * valR r
    rw [valR_append_zero r]

theorem valR_pos : ∀ (l : List Nat), l ≠ [] → l.getLast? ≠ some 0 → 1 ≤ valR l
  | [], h, _ => absurd rfl h
  | [q], _, h => by
    have : q ≠ 0 := fun e => h (by rw [e]; rfl)
    simp [valR]
    omega
  | q :: q2 :: r, _, h => by
    have h1 := valR_pos (q2 :: r) (by simp) (by simpa using h)
    show 1 ≤ q + 10 * valR (q2 :: r)
    omega

theorem dec_val : ∀ (l : List Nat), (∀ q ∈ l, q < 10) → l ≠ [] → (l.length = 1 ∨ l.getLast? ≠ some 0) → Lib.decDigits (valR l) = l.reverse.map fig
  | [], _, h, _ => absurd rfl h
  | [q], h, _, _ => by
    have h1 := h q (by simp)
    have e : valR [q] = q := by simp [valR]
    rw [e, Lib.decDigits_one h1]
    simp [fig, h1]
  | q :: q2 :: r, h, _, hl => by
    have h1 := h q (by simp)
    have hl2 : (q :: q2 :: r).getLast? ≠ some 0 := by
      rcases hl with hl | hl
      · simp at hl
      · exact hl
    have hl3 : (q2 :: r).getLast? ≠ some 0 := by simpa using hl2
    have ih := dec_val (q2 :: r) (fun x hx => h x (by simp at hx ⊢; right; exact hx)) (by simp) (.inr hl3)
    have hp := valR_pos (q2 :: r) (by simp) hl3
    have e : valR (q :: q2 :: r) = q + 10 * valR (q2 :: r) := rfl
    have e1 : valR (q :: q2 :: r) / 10 = valR (q2 :: r) := by rw [e]; omega
    have e2 : valR (q :: q2 :: r) % 10 = q := by rw [e]; omega
    rw [Lib.decDigits, dif_neg (by rw [e]; omega), e1, e2, ih, List.reverse_cons (a := q), List.map_append]
    simp [fig, h1]

theorem dec_length : ∀ (k u : Nat), 1 ≤ k → u < 10 ^ k → (Lib.decDigits u).length ≤ k
  | 0, _, h, _ => by omega
  | 1, u, _, h => by rw [Lib.decDigits_one (by simpa using h)]; simp
  | k + 2, u, _, h => by
    by_cases hs : u < 10
    · rw [Lib.decDigits_one hs]; simp
    · have hk : u / 10 < 10 ^ (k + 1) := by
        rw [Nat.pow_succ] at h
        omega
      have ih := dec_length (k + 1) (u / 10) (by omega) hk
      rw [Lib.decDigits, dif_neg hs, List.length_append]
      simp only [List.length_cons, List.length_nil]
      omega

theorem dec_val_not (l : List Nat) (h : ∀ q ∈ l, q < 10) (h1 : 1 < l.length) (h2 : l.getLast? = some 0) : Lib.decDigits (valR l) ≠ l.reverse.map fig := by
  intro e
  have e2 := congrArg List.length e
  rw [List.length_map, List.length_reverse] at e2
  obtain ⟨r, rfl⟩ : ∃ r, l = r ++ [0] := by
    rw [List.getLast?_eq_some_iff] at h2
    exact h2
  rw [valR_append_zero] at e2
  have h3 := valR_lt r (fun q hq => h q (by simp [hq]))
  have h4 := dec_length r.length (valR r) (by simp at h1; omega) h3
  simp at e2
  omega

/-- The figures are those of their number, just when there is one, or the first is not nought. -/
theorem dec_iff (qs : List Nat) (h : ∀ q ∈ qs, q < 10) (h0 : qs ≠ []) : Lib.decDigits (valD qs) = qs.map fig ↔ (qs.length = 1 ∨ qs.getD 0 0 ≠ 0) := by
  have hl : qs.reverse.getLast? = qs.head? := by simp
  have hd : qs.getD 0 0 = (qs.head?).getD 0 := by cases qs <;> rfl
  have hn : qs.reverse ≠ [] := by simpa using h0
  constructor
  · intro e
    by_cases h1 : qs.length = 1
    · exact .inl h1
    · right
      intro hz
      have hlen : 1 < qs.reverse.length := by
        have : qs.length ≠ 0 := fun e => h0 (List.length_eq_zero_iff.1 e)
        simp; omega
      refine dec_val_not qs.reverse (fun q hq => h q (by simpa using hq)) hlen ?_ (by rw [List.reverse_reverse]; exact e)
      rw [hl]
      cases qs with
      | nil => exact absurd rfl h0
      | cons a r => simp at hz; rw [hz]; rfl
  · intro hv
    have := dec_val qs.reverse (fun q hq => h q (by simpa using hq)) hn (by
      rcases hv with h1 | h1
      · left; simpa using h1
      · right
        rw [hl]
        intro e
        rw [hd, e] at h1
        exact h1 rfl)
    rw [List.reverse_reverse] at this
    exact this

theorem valD_lt (qs : List Nat) (h : ∀ q ∈ qs, q < 10) (hl : qs.length ≤ 10) : valD qs < 10000000000 := by
  have h1 := valR_lt qs.reverse (fun q hq => h q (by simpa using hq))
  have h2 : 10 ^ qs.reverse.length ≤ 10 ^ 10 := Nat.pow_le_pow_right (by omega) (by simpa using hl)
  unfold valD
  have e : (10 : Nat) ^ 10 = 10000000000 := by decide
  omega

theorem valD_take (qs : List Nat) (i : Nat) (h : i < qs.length) : valD (qs.take (i + 1)) = 10 * valD (qs.take i) + qs.getD i 0 := by
  rw [List.take_succ_eq_append_getElem h, valD_snoc]
  simp [h]

theorem digit_toNat (q : Nat) (h : q < 10) : (fig q).toNat = 48 + q := by rw [fig_toNat q (by omega), if_pos h]

theorem no_digit (x : UInt8) (h : ∀ q, q < 10 → fig q ≠ x) : x.toNat < 48 ∨ 57 < x.toNat := by
  by_cases h1 : 48 ≤ x.toNat ∧ x.toNat ≤ 57
  · exfalso
    refine h (x.toNat - 48) (by omega) ?_
    apply UInt8.toNat_inj.1
    rw [digit_toNat _ (by omega)]
    omega
  · omega

end Go.Proofs.YtdhacjpdlmnlmaqDoor
namespace Go.Proofs.YtdhacjpdlmnlmaqDoor

theorem var_formed : ∀ (f n : Nat), n ≤ f → ∃ (ys : List UInt8) (z : UInt8), var n = ys ++ [z] ∧ (∀ y ∈ ys, 128 ≤ y.toNat) ∧ z.toNat < 128 ∧ (ys = [] ∨ z.toNat ≠ 0) ∧ val (ys ++ [z]) = n
  | f, n, hf => by
    by_cases h : n ≤ 127
    · refine ⟨[], UInt8.ofNat n, by rw [var_small n h]; rfl, by simp, ?_, .inl rfl, ?_⟩
      · rw [UInt8.toNat_ofNat', Nat.mod_eq_of_lt (by omega)]; omega
      · simp only [List.nil_append, val, UInt8.toNat_ofNat']
        rw [Nat.mod_eq_of_lt (by omega : n < 2 ^ 8)]
        omega
    · match f, hf with
      | 0, hf => omega
      | f + 1, hf =>
        obtain ⟨ys, z, h1, h2, h3, h4, h5⟩ := var_formed f (n / 128) (by omega)
        have hb : (UInt8.ofNat (n % 128 + 128)).toNat = n % 128 + 128 := by rw [UInt8.toNat_ofNat', Nat.mod_eq_of_lt (by omega)]
        refine ⟨UInt8.ofNat (n % 128 + 128) :: ys, z, by rw [var_great n (by omega), h1]; rfl, ?_, h3, .inr ?_, ?_⟩
        · intro y hy
          rcases List.mem_cons.1 hy with rfl | hy
          · omega
          · exact h2 y hy
        · rcases h4 with rfl | h4
          · simp only [List.nil_append, val] at h5
            omega
          · exact h4
        · show (UInt8.ofNat (n % 128 + 128)).toNat % 128 + 128 * val (ys ++ [z]) = n
          rw [hb, h5]
          omega

theorem var_len : ∀ (m n : Nat), n < 128 ^ (m + 1) → (var n).length ≤ m + 1
  | 0, n, h => by rw [var_small n (by omega)]; simp
  | m + 1, n, h => by
    by_cases hs : n ≤ 127
    · rw [var_small n hs]; simp
    · rw [var_great n (by omega), List.length_cons]
      have := var_len m (n / 128) (by rw [Nat.div_lt_iff_lt_mul (by omega)]; rw [Nat.pow_succ] at h; exact h)
      omega

theorem low_of : ∀ (f : Nat) (ys : List UInt8) (z : UInt8) (r : List UInt8), (∀ y ∈ ys, 128 ≤ y.toNat) → z.toNat < 128 → ys.length < f → low f (ys ++ z :: r) = some ys.length
  | 0, _, _, _, _, _, h => by omega
  | f + 1, [], z, r, _, hz, _ => by simp [low, hz]
  | f + 1, y :: ys, z, r, hy, hz, hl => by
    have h1 := hy y (by simp)
    have h2 := low_of f ys z r (fun x hx => hy x (by simp [hx])) hz (by simp at hl; omega)
    show (if y.toNat < 128 then some 0 else (low f (ys ++ z :: r)).map (· + 1)) = _
    rw [if_neg (by omega), h2]
    rfl

/-- The bytes of a number, whatever follows them: where they end, and what they say. -/
theorem var_read (n : Nat) (h : n ≤ 1000000000) (r : List UInt8) : ∃ k, low 5 (var n ++ r) = some k ∧ k + 1 = (var n).length ∧ val ((var n ++ r).take (k + 1)) = n ∧ (k = 0 ∨ ((var n ++ r).getD k 0).toNat ≠ 0) := by
  obtain ⟨ys, z, h1, h2, h3, h4, h5⟩ := var_formed n n (Nat.le_refl _)
  have hl := var_len 4 n (by have : (128 : Nat) ^ 5 = 34359738368 := by decide
                             omega)
  rw [h1] at hl
  simp at hl
  refine ⟨ys.length, ?_, by rw [h1]; simp, ?_, ?_⟩
  · rw [h1, List.append_assoc]
    exact low_of 5 ys z r h2 h3 (by omega)
  · rw [List.take_append_of_le_length (by rw [h1]; simp), h1, List.take_of_length_le (by simp), h5]
  · rcases h4 with rfl | h4
    · exact .inl rfl
    · right
      rw [h1]
      simp
      exact fun e => h4 (by simp [e])

theorem hex_back : ∀ (l : List UInt8), ∃ qs : List Nat, (∀ q ∈ qs, q < 16) ∧ hexOf l = qs.map fig ∧ pairs qs = l
  | [] => ⟨[], by simp, rfl, rfl⟩
  | b :: l => by
    obtain ⟨qs, h1, h2, h3⟩ := hex_back l
    have hb := b.toNat_lt
    refine ⟨b.toNat / 16 :: b.toNat % 16 :: qs, ?_, ?_, ?_⟩
    · intro q hq
      rcases List.mem_cons.1 hq with rfl | hq
      · omega
      · rcases List.mem_cons.1 hq with rfl | hq
        · omega
        · exact h1 q hq
    · show fig (b.toNat / 16) :: fig (b.toNat % 16) :: hexOf l = _
      rw [h2]
      rfl
    · show UInt8.ofNat (16 * (b.toNat / 16) + b.toNat % 16) :: pairs qs = b :: l
      rw [h3, Nat.div_add_mod, ofNat_self]

theorem dec_back : ∀ (f m : Nat), m ≤ f → ∃ qs : List Nat, (∀ q ∈ qs, q < 10) ∧ qs ≠ [] ∧ Lib.decDigits m = qs.map fig ∧ valD qs = m
  | f, m, hf => by
    by_cases h : m < 10
    · refine ⟨[m], by simpa using h, by simp, ?_, by simp [valD, valR]⟩
      rw [Lib.decDigits_one h]
      simp [fig, h]
    · match f, hf with
      | 0, hf => omega
      | f + 1, hf =>
        obtain ⟨qs, h1, h2, h3, h4⟩ := dec_back f (m / 10) (by omega)
        refine ⟨qs ++ [m % 10], ?_, by simp, ?_, ?_⟩
        · intro q hq
          rcases List.mem_append.1 hq with hq | hq
          · exact h1 q hq
          · simp at hq
            omega
        · rw [← digs_pos m (by omega), digs_step m (by omega), digs_pos (m / 10) (by omega), h3]
          simp
        · rw [valD_snoc, h4]
          omega

end Go.Proofs.YtdhacjpdlmnlmaqDoor
namespace Go.Proofs.YtdhacjpdlmnlmaqDoor

/-- The number that bytes begin with, and the rest. -/
def readV (t : List UInt8) : Option (Nat × List UInt8) :=
  match low 5 t with
  | none => none
  | some k => if val (t.take (k + 1)) ≤ 1000000000 ∧ (k = 0 ∨ (t.getD k 0).toNat ≠ 0) then some (val (t.take (k + 1)), t.drop (k + 1)) else none
theorem readV_var (n : Nat) (h : n ≤ 1000000000) (r : List UInt8) : readV (var n ++ r) = some (n, r) := by
  obtain ⟨k, h1, h2, h3, h4⟩ := var_read n h r
  unfold readV
  rw [h1]
  simp only []
  rw [h3, if_pos ⟨h, h4⟩, h2, List.drop_left']
  rfl
theorem readV_some {t : List UInt8} {n : Nat} {r : List UInt8} (h : readV t = some (n, r)) : n ≤ 1000000000 ∧ t = var n ++ r := by
  unfold readV at h
  cases hk : low 5 t with
  | none => rw [hk] at h; cases h
  | some k =>
    rw [hk] at h
    simp only [] at h
    split at h
    · next hc =>
      simp only [Option.some.injEq, Prod.mk.injEq] at h
      obtain ⟨rfl, rfl⟩ := h
      refine ⟨hc.1, ?_⟩
      rw [(short_iff 5 t k hk).2 hc.2, List.take_append_drop]
    · cases h
/-- Several numbers, one behind another. -/
def readVs : Nat → List UInt8 → Option (List Nat × List UInt8)
  | 0, t => some ([], t)
  | n + 1, t => match readV t with
    | none => none
    | some (x, r) => match readVs n r with
      | none => none
      | some (xs, q) => some (x :: xs, q)
theorem readVs_of : ∀ (xs : List Nat) (r : List UInt8), (∀ x ∈ xs, x ≤ 1000000000) → readVs xs.length (xs.flatMap var ++ r) = some (xs, r)
  | [], r, _ => rfl
  | x :: xs, r, h => by
    have h1 := readV_var x (h x (by simp)) (xs.flatMap var ++ r)
    have h2 := readVs_of xs r (fun y hy => h y (by simp [hy]))
    show (match readV ((var x ++ xs.flatMap var) ++ r) with | none => none | some (x, r) => match readVs xs.length r with | none => none | some (xs, q) => some (x :: xs, q)) = _
    rw [List.append_assoc, h1]
    simp only []
    rw [h2]
theorem readVs_some : ∀ (n : Nat) (t : List UInt8) (xs : List Nat) (r : List UInt8), readVs n t = some (xs, r) → xs.length = n ∧ t = xs.flatMap var ++ r ∧ ∀ x ∈ xs, x ≤ 1000000000
  | 0, t, xs, r, h => by
    simp only [readVs, Option.some.injEq, Prod.mk.injEq] at h
    obtain ⟨rfl, rfl⟩ := h
    exact ⟨rfl, rfl, by simp⟩
  | n + 1, t, xs, r, h => by
    unfold readVs at h
    cases hv : readV t with
    | none => rw [hv] at h; cases h
    | some q =>
      obtain ⟨x, r1⟩ := q
      rw [hv] at h
      simp only [] at h
      cases hw : readVs n r1 with
      | none => rw [hw] at h; cases h
      | some q2 =>
        obtain ⟨ys, r2⟩ := q2
        rw [hw] at h
        simp only [Option.some.injEq, Prod.mk.injEq] at h
        obtain ⟨rfl, rfl⟩ := h
        obtain ⟨k1, k2⟩ := readV_some hv
        obtain ⟨m1, m2, m3⟩ := readVs_some n r1 ys r2 hw
        refine ⟨by simp [m1], ?_, fun y hy => ?_⟩
        · rw [k2, m2, List.flatMap_cons, List.append_assoc]
        · rcases List.mem_cons.1 hy with rfl | hy
          · exact k1
          · exact m3 y hy

/-- A packet in plain words: Op, Key, From, To, Num, Acks, Body. -/
structure Pk where
  op : Nat
  key : Nat
  src : Nat
  dst : Nat
  num : Nat
  acks : List Nat
  body : List UInt8
/-- The bytes of a packet ahead of its sum. -/
def pkB (p : Pk) : List UInt8 := UInt8.ofNat (8 * p.op + p.key) :: UInt8.ofNat p.src :: UInt8.ofNat p.dst :: (var p.num ++ (var p.acks.length ++ (p.acks.flatMap var ++ p.body)))
/-- A packet whose fields have room in their bytes. -/
structure PkFits (p : Pk) : Prop where
  op : p.op ≤ 31
  key : p.key ≤ 7
  src : p.src ≤ 255
  dst : p.dst ≤ 255
  num : p.num ≤ 1000000000
  many : p.acks.length ≤ 1000000000
  acks : ∀ x ∈ p.acks, x ≤ 1000000000
/-- What bytes say, as a packet. -/
def readPk (t : List UInt8) : Option Pk :=
  match t with
  | a :: b :: c :: r => match readV r with
    | none => none
    | some (n, r1) => match readV r1 with
      | none => none
      | some (m, r2) => match readVs m r2 with
        | none => none
        | some (xs, body) => some ⟨a.toNat / 8, a.toNat % 8, b.toNat, c.toNat, n, xs, body⟩
  | _ => none
theorem readPk_of (p : Pk) (h : PkFits p) : readPk (pkB p) = some p := by
  have h1 := readV_var p.num h.num (var p.acks.length ++ (p.acks.flatMap var ++ p.body))
  have h2 := readV_var p.acks.length h.many (p.acks.flatMap var ++ p.body)
  have h3 := readVs_of p.acks p.body h.acks
  have hop := h.op
  have hke := h.key
  have hs := h.src
  have hd := h.dst
  unfold readPk pkB
  simp only []
  rw [h1]
  simp only []
  rw [h2]
  simp only []
  rw [h3]
  have e1 : (UInt8.ofNat (8 * p.op + p.key)).toNat = 8 * p.op + p.key := by rw [UInt8.toNat_ofNat']; omega
  have e2 : (UInt8.ofNat p.src).toNat = p.src := by rw [UInt8.toNat_ofNat']; omega
  have e3 : (UInt8.ofNat p.dst).toNat = p.dst := by rw [UInt8.toNat_ofNat']; omega
  simp only [e1, e2, e3]
  have e4 : (8 * p.op + p.key) / 8 = p.op := by omega
  have e5 : (8 * p.op + p.key) % 8 = p.key := by omega
  rw [e4, e5]
theorem readPk_some {t : List UInt8} {p : Pk} (h : readPk t = some p) : t = pkB p ∧ PkFits p := by
  unfold readPk at h
  match t, h with
  | a :: b :: c :: r, h =>
    simp only [] at h
    cases h1 : readV r with
    | none => rw [h1] at h; cases h
    | some q1 =>
      obtain ⟨n, r1⟩ := q1
      rw [h1] at h
      simp only [] at h
      cases h2 : readV r1 with
      | none => rw [h2] at h; cases h
      | some q2 =>
        obtain ⟨m, r2⟩ := q2
        rw [h2] at h
        simp only [] at h
        cases h3 : readVs m r2 with
        | none => rw [h3] at h; cases h
        | some q3 =>
          obtain ⟨xs, body⟩ := q3
          rw [h3] at h
          simp only [Option.some.injEq] at h
          subst h
          obtain ⟨k1, k2⟩ := readV_some h1
          obtain ⟨k3, k4⟩ := readV_some h2
          obtain ⟨k5, k6, k7⟩ := readVs_some m r2 xs body h3
          have ha := a.toNat_lt
          have hb := b.toNat_lt
          have hc := c.toNat_lt
          refine ⟨?_, ⟨by show a.toNat / 8 ≤ 31; omega, by show a.toNat % 8 ≤ 7; omega, by show b.toNat ≤ 255; omega, by show c.toNat ≤ 255; omega, k1, by show xs.length ≤ _; omega, k7⟩⟩
          unfold pkB
          simp only []
          have e1 : 8 * (a.toNat / 8) + a.toNat % 8 = a.toNat := by omega
          rw [e1, ofNat_self, ofNat_self, ofNat_self, k2, k4, k6, k5]
/-- Two packets have the same bytes only where they are the same. -/
theorem pkB_inj {p q : Pk} (hp : PkFits p) (hq : PkFits q) (h : pkB p = pkB q) : p = q := by
  have h1 := readPk_of p hp
  rw [h, readPk_of q hq] at h1
  exact (Option.some.inj h1).symm

end Go.Proofs.YtdhacjpdlmnlmaqDoor
namespace Go.Proofs.YtdhacjpdlmnlmaqDoor
open Go.RowKit

set_option maxRecDepth 100000 in
set_option maxHeartbeats 400000 in
theorem specByteP_any (i : Nat) (h : i < 256) (w : World) :
    Calls Tryd.prog 11 #[.int .i64 i] w fun e w' => e = .returned (.string ⟨#[UInt8.ofNat i]⟩) ∧ Below w.heap.size w w' := by
  have h1 : (i : Int) % 256 = (i : Int) := by omega
  have h2 : (i : Int).tmod 256 = (i : Int) := by rw [Int.tmod_eq_emod_of_nonneg (by omega)]; exact h1
  have h3 : ¬ ((i : Int) < 0) := by omega
  obtain ⟨b, hb, BB⟩ : ∃ b : UInt8, (i : Int) = (b.toNat : Int) ∧ Hid (b = UInt8.ofNat i) := ⟨UInt8.ofNat i, by rw [UInt8.toNat_ofNat']; omega, rfl⟩
  have hr := run_string_one (P := Tryd.prog) w 37 9 5 Tryd.underlying37 Tryd.underlying5 Tryd.underlying9 b
  rw [← hb] at hr
  have HB := Lib.hid hb
  rw [← BB.out]
  clear hb
  go_enter Tryd.func11, Tryd.ntmps11
  go_wp2_with fail
  go_ret
  exact ⟨rfl, (Below.refl _ _).alloc (Nat.le_refl _) _⟩

end Go.Proofs.YtdhacjpdlmnlmaqDoor

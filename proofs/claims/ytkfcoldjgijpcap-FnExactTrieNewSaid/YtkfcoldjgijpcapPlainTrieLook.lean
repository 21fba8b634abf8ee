/-
  A tree of bits finds what routes find; no program is spoken of here.
-/
import Derived.Test.YtkfcoldjgijpcapPlainTries
import Derived.Test.YtkfcoldjgijpcapLookSpec
import Derived.Test.YtkfcoldjgijpcapPlainRoutes
namespace Go.Proofs.Ytkfcoldjgijpcap
open Go.RowKit

/-- The bit of an address at a place, from the greatest one on. -/
def bitP (a i : Nat) : Nat := a / 2 ^ (31 - i) % 2
def bitsP (a n : Nat) : List Nat := (List.range n).map (bitP a)
theorem bitsP_length (a n : Nat) : (bitsP a n).length = n := by simp [bitsP]
theorem bitsP_snoc (a n : Nat) : bitsP a (n + 1) = bitsP a n ++ [bitP a n] := by simp [bitsP, List.range_succ]
theorem bitsP_bits (a n : Nat) : BitsL (bitsP a n) := fun b hb => by
  simp only [bitsP, List.mem_map] at hb
  obtain ⟨i, _, rfl⟩ := hb
  exact Nat.mod_lt _ (by decide)
theorem bitsP_take (a n j : Nat) (h : j ≤ n) : (bitsP a n).take j = bitsP a j := by
  unfold bitsP
  rw [← List.map_take, List.take_range]
  congr 2
  omega
theorem hi_next (a n : Nat) (h : n < 32) : a / 2 ^ (32 - (n + 1)) = 2 * (a / 2 ^ (32 - n)) + bitP a n := by
  unfold bitP
  have e : 32 - n = (31 - n) + 1 := by omega
  have e2 : 32 - (n + 1) = 31 - n := by omega
  rw [e, e2, Nat.pow_succ, ← Nat.div_div_eq_div_mul]
  omega
/-- The first bits of two addresses are alike just if they are in one prefix. -/
theorem bits_same (a b : Nat) (ha : a ≤ 4294967295) (hb : b ≤ 4294967295) : ∀ n, n ≤ 32 → (bitsP a n = bitsP b n ↔ a / 2 ^ (32 - n) = b / 2 ^ (32 - n))
  | 0, _ => by
    have e1 : a / 2 ^ 32 = 0 := Nat.div_eq_of_lt (by omega)
    have e2 : b / 2 ^ 32 = 0 := Nat.div_eq_of_lt (by omega)
    simp only [Nat.sub_zero]
    rw [e1, e2]
    exact ⟨fun _ => rfl, fun _ => rfl⟩
  | n + 1, hn => by
    have ih := bits_same a b ha hb n (by omega)
    rw [bitsP_snoc, bitsP_snoc, hi_next a n (by omega), hi_next b n (by omega)]
    have h1 : bitP a n < 2 := Nat.mod_lt _ (by decide)
    have h2 : bitP b n < 2 := Nat.mod_lt _ (by decide)
    constructor
    · intro e
      have e2 := List.append_inj e (by rw [bitsP_length, bitsP_length])
      have e3 := ih.1 e2.1
      have e4 : bitP a n = bitP b n := by simpa using e2.2
      omega
    · intro e
      have e3 : a / 2 ^ (32 - n) = b / 2 ^ (32 - n) := by omega
      have e4 : bitP a n = bitP b n := by omega
      rw [ih.2 e3, e4]
theorem first_same (a b n : Nat) : firstP a n = firstP b n ↔ a / 2 ^ (32 - n) = b / 2 ^ (32 - n) := by
  unfold firstP sizeP
  have h1 := Nat.div_add_mod a (2 ^ (32 - n))
  have h2 := Nat.div_add_mod b (2 ^ (32 - n))
  have hp : 0 < 2 ^ (32 - n) := Nat.two_pow_pos _
  have f1 : a - a % 2 ^ (32 - n) = 2 ^ (32 - n) * (a / 2 ^ (32 - n)) := by omega
  have f2 : b - b % 2 ^ (32 - n) = 2 ^ (32 - n) * (b / 2 ^ (32 - n)) := by omega
  rw [f1, f2]
  constructor
  · exact fun e => Nat.eq_of_mul_eq_mul_left hp e
  · exact fun e => by rw [e]
/-- An address is in a right prefix just if its first bits are that one's. -/
theorem inPref_bits (a n x : Nat) (h : PrefOk a n) (hx : x ≤ 4294967295) : InPref a n x ↔ bitsP x n = bitsP a n := by
  have h1 := h.1
  have h2 := h.2.1
  have h3 : a % sizeP n = 0 := h.2.2
  have e : firstP a n = a := by unfold firstP; omega
  rw [bits_same x a hx (by omega) n (by omega), ← first_same, e]
  unfold InPref
  constructor
  · rintro ⟨_, _, h4⟩
    exact_mod_cast h4
  · intro h4
    exact ⟨h, ⟨by omega, by omega⟩, by exact_mod_cast h4⟩
/-- The bits of a route. -/
def rtBits (r : Rt) : List Nat := bitsP r.1.toNat r.2.1.toNat
theorem RtOk.pref {r : Rt} (h : RtOk r) : PrefOk r.1 r.2.1 := h.1
theorem take_is_route (x : Nat) (hx : x ≤ 4294967295) (r : Rt) (h : PrefOk r.1 r.2.1) (j : Nat) (hj : j ≤ 32) : (bitsP x 32).take j = rtBits r ↔ (j : Int) = r.2.1 ∧ InPref r.1 r.2.1 x := by
  obtain ⟨b, m, e1, e2, hb, hm, hz⟩ := h.nats
  rw [bitsP_take x 32 j hj]
  unfold rtBits
  rw [e1, e2] at h ⊢
  simp only [Int.toNat_natCast]
  rw [inPref_bits b m x h hx]
  constructor
  · intro e
    have hl := congrArg List.length e
    rw [bitsP_length, bitsP_length] at hl
    subst hl
    exact ⟨rfl, e⟩
  · rintro ⟨e, e3⟩
    obtain rfl : j = m := by omega
    exact e3
/-- The tree of routes. -/
def trieOfP (xs : List Rt) : List Tw := xs.foldl (fun t r => putT t (rtBits r) r.2.2) [tw0]
theorem trieOf_snoc (xs : List Rt) (r : Rt) : trieOfP (xs ++ [r]) = putT (trieOfP xs) (rtBits r) r.2.2 := by simp [trieOfP]
theorem new_right : TrieR [tw0] := by
  refine ⟨by decide, ?_, ?_, ?_, ?_⟩
  · intro k hk b
    obtain rfl : k = 0 := by simpa using hk
    exact .inl (kid_zero b)
  · intro k j hk _ b c hne
    obtain rfl : k = 0 := by simpa using hk
    exact absurd (kid_zero b) hne
  · intro m h1 hm
    simp at hm
    omega
  · intro k hk
    obtain rfl : k = 0 := by simpa using hk
    decide
theorem new_to (qs : List Nat) : toAt [tw0] qs = 0 := by
  unfold toAt toFrom
  rw [node_new [tw0] 0 rfl]
  split
  · next m h =>
    split at h
    · cases h; rfl
    · cases h
  · rfl
theorem bit_len (a n : Int) (h : PrefOk a n) : (bitsP a.toNat n.toNat).length ≤ 32 := by
  rw [bitsP_length]
  have := h.2.1
  omega
theorem rtOk_to {r : Rt} (h : RtOk r) : 1 ≤ r.2.2 ∧ r.2.2 ≤ 99 := h.2
theorem snocR {P : List Rt → Prop} (h0 : P []) (h1 : ∀ l x, P l → P (l ++ [x])) (l : List Rt) : P l := by
  have h : ∀ r : List Rt, P r.reverse := by
    intro r
    induction r with
    | nil => exact h0
    | cons x r ih => rw [List.reverse_cons]; exact h1 _ _ ih
  have := h l.reverse
  rwa [List.reverse_reverse] at this
theorem put_length_le {t : List Tw} (h : TrieR t) (bs : List Nat) (hb : BitsL bs) (v : Int) (h0 : 0 ≤ v) (h1 : v ≤ 99) : (putT t bs v).length ≤ t.length + bs.length := by
  rw [(putT_ok h bs hb v h0 h1).2.1]
  exact (goT_ok h bs).2
theorem trieOf_right (xs : List Rt) : (∀ r ∈ xs, RtOk r) → TrieR (trieOfP xs) ∧ (trieOfP xs).length ≤ 1 + 32 * xs.length := by
  refine snocR (P := fun xs => (∀ r ∈ xs, RtOk r) → TrieR (trieOfP xs) ∧ (trieOfP xs).length ≤ 1 + 32 * xs.length) ?_ ?_ xs
  · exact fun _ => ⟨new_right, by decide⟩
  · intro xs r ih h
    obtain ⟨h1, h2⟩ := ih (fun x hx => h x (by simp [hx]))
    have hr := h r (by simp)
    have ht := rtOk_to hr
    rw [trieOf_snoc]
    have hl := put_length_le h1 (rtBits r) (bitsP_bits _ _) r.2.2 (by omega) (by omega)
    have hb := bit_len r.1 r.2.1 hr.pref
    refine ⟨(putT_ok h1 _ (bitsP_bits _ _) _ (by omega) (by omega)).1, ?_⟩
    unfold rtBits at *
    simp
    omega
/-- What the longest route so far and the tree tell of one address. -/
def Agrees (x : Nat) (xs : List Rt) (t : List Tw) (s : Int × Int) : Prop :=
  (s = (-1, 0) ∧ ∀ j, j ≤ 32 → toAt t ((bitsP x 32).take j) = 0) ∨
  ∃ r ∈ xs, s = (r.2.1, r.2.2) ∧ RtOk r ∧ InPref r.1 r.2.1 x ∧ toAt t ((bitsP x 32).take r.2.1.toNat) = r.2.2 ∧ ∀ j : Nat, r.2.1 < j → j ≤ 32 → toAt t ((bitsP x 32).take j) = 0
open Classical in
theorem trieOf_agrees (x : Nat) (hx : x ≤ 4294967295) (xs : List Rt) : (∀ r ∈ xs, RtOk r) → xs.Pairwise AheadR → Agrees x xs (trieOfP xs) (lookTo x xs) := by
  refine snocR (P := fun xs => (∀ r ∈ xs, RtOk r) → xs.Pairwise AheadR → Agrees x xs (trieOfP xs) (lookTo x xs)) ?_ ?_ xs
  · exact fun _ _ => .inl ⟨rfl, fun j _ => new_to _⟩
  · intro xs r ih hok hpw
    rw [List.pairwise_append] at hpw
    have hok' : ∀ y ∈ xs, RtOk y := fun y hy => hok y (by simp [hy])
    have ih := ih hok' hpw.1
    have hr := hok r (by simp)
    have hrt := rtOk_to hr
    obtain ⟨hT, _⟩ := trieOf_right xs hok'
    have hput : ∀ j, j ≤ 32 → toAt (trieOfP (xs ++ [r])) ((bitsP x 32).take j) = if (j : Int) = r.2.1 ∧ InPref r.1 r.2.1 x then r.2.2 else toAt (trieOfP xs) ((bitsP x 32).take j) := fun j hj => by
      rw [trieOf_snoc, (putT_ok hT (rtBits r) (bitsP_bits _ _) r.2.2 (by omega) (by omega)).2.2 _ (by rw [bitsP_take x 32 j hj]; exact bitsP_bits _ _)]
      by_cases e : (j : Int) = r.2.1 ∧ InPref r.1 r.2.1 x
      · rw [if_pos ((take_is_route x hx r hr.pref j hj).2 e), if_pos e]
      · rw [if_neg (fun e2 => e ((take_is_route x hx r hr.pref j hj).1 e2)), if_neg e]
    have hlook : lookTo x (xs ++ [r]) = lookStep x (lookTo x xs) r := by simp [lookTo]
    have hlen := hr.pref.2.1
    rw [hlook]
    unfold lookStep
    by_cases hin : InPref r.1 r.2.1 x
    · have hB : inB r.1 r.2.1 x = true := (inB_iff _ _ _).2 hin
      have hnew : ∀ b : Int, (∀ j : Nat, b < j → j ≤ 32 → toAt (trieOfP xs) ((bitsP x 32).take j) = 0) → b < r.2.1 → Agrees x (xs ++ [r]) (trieOfP (xs ++ [r])) (r.2.1, r.2.2) := by
        intro b hz hb
        refine .inr ⟨r, by simp, rfl, hr, hin, ?_, fun j hj hj2 => ?_⟩
        · rw [hput _ (by omega), if_pos ⟨by omega, hin⟩]
        · rw [hput j hj2, if_neg (by omega)]
          exact hz j (by omega) hj2
      rcases ih with ⟨he, hz⟩ | ⟨q, hq, he, hqok, hqin, hqt, hqz⟩
      · rw [he, if_pos (by rw [hB, Bool.true_and]; exact decide_eq_true (by show (-1 : Int) < r.2.1; omega))]
        exact hnew (-1) (fun j _ hj => hz j hj) (by omega)
      · rw [he]
        have hqlen := hqok.pref.2.1
        by_cases hlt : q.2.1 < r.2.1
        · rw [if_pos (by rw [hB, Bool.true_and]; exact decide_eq_true hlt)]
          exact hnew q.2.1 hqz hlt
        · rw [if_neg (by rw [hB, Bool.true_and]; simpa using hlt)]
          have hne : q.2.1 ≠ r.2.1 := by
            intro e
            have ha := hpw.2.2 q hq r (by simp)
            have e1 := hqin.2.2
            have e2 := hin.2.2
            rw [e] at e1
            have e3 : q.1 = r.1 := by rw [← e1, ← e2]
            unfold AheadR Ahead at ha
            omega
          refine .inr ⟨q, by simp [hq], rfl, hqok, hqin, ?_, fun j hj hj2 => ?_⟩
          · rw [hput _ (by omega), if_neg (by omega)]
            exact hqt
          · rw [hput j hj2, if_neg (by omega)]
            exact hqz j hj hj2
    · have hB : inB r.1 r.2.1 x = false := Bool.eq_false_iff.2 (fun e => hin ((inB_iff _ _ _).1 e))
      rw [if_neg (by rw [hB]; simp)]
      rcases ih with ⟨he, hz⟩ | ⟨q, hq, he, hqok, hqin, hqt, hqz⟩
      · exact .inl ⟨he, fun j hj => by rw [hput j hj, if_neg (fun e => hin e.2)]; exact hz j hj⟩
      · have hqlen := hqok.pref.2.1
        exact .inr ⟨q, by simp [hq], he, hqok, hqin, by rw [hput _ (by omega), if_neg (fun e => hin e.2)]; exact hqt, fun j hj hj2 => by rw [hput j hj2, if_neg (fun e => hin e.2)]; exact hqz j hj hj2⟩
/-- What a tree finds at an address. -/
def findP (t : List Tw) (x : Nat) : Int := findT t 0 (atT t 0).2.2 (bitsP x 32)
theorem find_is (t : List Tw) (x : Nat) : LastIs (toAt t) (bitsP x 32) (findP t x) := find_last t (bitsP x 32)
/-- A tree of right routes finds what they find. -/
theorem trie_finds (xs : List Rt) (h : RoutesP xs) (x : Nat) (hx : x ≤ 4294967295) : findP (trieOfP xs) x = (lookTo x xs).2 := by
  have hr := (routesP_iff xs).1 h
  refine (find_is (trieOfP xs) x).uniq ?_
  rcases trieOf_agrees x hx xs hr.1 hr.2.1 with ⟨he, hz⟩ | ⟨q, hq, he, hqok, hqin, hqt, hqz⟩
  · rw [he]
    exact .inl ⟨rfl, fun j hj => hz j (by rw [bitsP_length] at hj; exact hj)⟩
  · rw [he]
    have h1 := rtOk_to hqok
    have h2 := hqok.pref.2.1
    exact .inr ⟨q.2.1.toNat, by rw [bitsP_length]; omega, hqt.symm, by show q.2.2 ≠ 0; omega, fun i hi hil => hqz i (by omega) (by rw [bitsP_length] at hil; exact hil)⟩
theorem look_out (xs : List Rt) (x : Int) (hx : x < 0 ∨ 4294967295 < x) : (lookTo x xs).2 = 0 := by
  have h : lookTo x xs = (-1, 0) := by
    refine snocR (P := fun xs => lookTo x xs = (-1, 0)) rfl (fun l r ih => ?_) xs
    have hl : lookTo x (l ++ [r]) = lookStep x (lookTo x l) r := by simp [lookTo]
    have hB : inB r.1 r.2.1 x = false := Bool.eq_false_iff.2 (fun e => by have := ((inB_iff _ _ _).1 e).2.1; omega)
    rw [hl, ih]
    unfold lookStep
    rw [hB]
    simp
  rw [h]
open Classical in
/-- What is put changes what is found only for those that the prefix has. -/
theorem put_finds {t : List Tw} (h : TrieR t) (r : Rt) (hr : PrefOk r.1 r.2.1) (h0 : 0 ≤ r.2.2) (h1 : r.2.2 ≤ 99) (x : Nat) (hx : x ≤ 4294967295) :
    (¬ InPref r.1 r.2.1 x → findP (putT t (rtBits r) r.2.2) x = findP t x) ∧ (InPref r.1 r.2.1 x → r.2.2 ≠ 0 → findP (putT t (rtBits r) r.2.2) x = r.2.2 ∨ findP (putT t (rtBits r) r.2.2) x = findP t x) := by
  have hput : ∀ j, j ≤ 32 → toAt (putT t (rtBits r) r.2.2) ((bitsP x 32).take j) = if (j : Int) = r.2.1 ∧ InPref r.1 r.2.1 x then r.2.2 else toAt t ((bitsP x 32).take j) := fun j hj => by
    rw [(putT_ok h (rtBits r) (bitsP_bits _ _) r.2.2 h0 h1).2.2 _ (by rw [bitsP_take x 32 j hj]; exact bitsP_bits _ _)]
    by_cases e : (j : Int) = r.2.1 ∧ InPref r.1 r.2.1 x
    · rw [if_pos ((take_is_route x hx r hr j hj).2 e), if_pos e]
    · rw [if_neg (fun e2 => e ((take_is_route x hx r hr j hj).1 e2)), if_neg e]
  have hlen := hr.2.1
  constructor
  · intro hin
    refine (find_is _ x).uniq ((find_is t x).congr fun j hj => ?_)
    rw [bitsP_length] at hj
    rw [hput j hj, if_neg (fun e => hin e.2)]
  · intro hin hne
    have hn : toAt (putT t (rtBits r) r.2.2) ((bitsP x 32).take r.2.1.toNat) = r.2.2 := by rw [hput _ (by omega), if_pos ⟨by omega, hin⟩]
    rcases find_is (putT t (rtBits r) r.2.2) x with ⟨_, hz⟩ | ⟨j, hj, e, hne2, hz⟩
    · exact absurd ((hz r.2.1.toNat (by rw [bitsP_length]; omega)).symm.trans hn).symm hne
    · rw [bitsP_length] at hj hz
      by_cases hjl : (j : Int) = r.2.1
      · left
        rw [e, hput j hj, if_pos ⟨hjl, hin⟩]
      · by_cases hgt : r.2.1 < (j : Int)
        · right
          refine LastIs.uniq (f := toAt t) (bs := bitsP x 32) ?_ (find_is t x)
          refine .inr ⟨j, by rw [bitsP_length]; exact hj, ?_, hne2, fun i hi hil => ?_⟩
          · rw [e, hput j hj, if_neg (fun e => hjl e.1)]
          · rw [bitsP_length] at hil
            have := hz i hi hil
            rw [hput i hil, if_neg (by omega)] at this
            exact this
        · exact absurd ((hz r.2.1.toNat (by omega) (by omega)).symm.trans hn).symm hne

end Go.Proofs.Ytkfcoldjgijpcap

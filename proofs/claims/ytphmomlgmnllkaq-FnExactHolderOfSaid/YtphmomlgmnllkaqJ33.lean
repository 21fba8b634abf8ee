/-
  What the library's splitting tells at a sign of one byte, held against cutAt; shifts of addresses; no program is spoken of here.
  The program's addresses and prefixes as numbers: AddrOk, PrefixOf, InPrefix, PrefixOk.
-/
import Derived.Test.YtphmomlgmnllkaqJ14
import Derived.Lib.SplitLaws
import Derived.Test.YtphmomlgmnllkaqJ16
import Derived.Test.YtphmomlgmnllkaqJ32
import Derived.Deep.RegionHeld3
import Derived.BigQuiet
import Derived.Deep.QuietTactic
namespace Go.Proofs.Ytphmomlgmnllkaq
open Go.RowKit

/-- A text has the sign, and then this is what stands ahead of it and behind it; or it has it not. -/
theorem one_cases (x : UInt8) : ∀ l : List UInt8, (Lib.index l [x] = -1 ∧ x ∉ l) ∨ ∃ p r, l = p ++ x :: r ∧ x ∉ p ∧ Lib.index l [x] = (p.length : Int)
  | [] => .inl ⟨by simp [Lib.index], by simp⟩
  | b :: l => by
    by_cases h : b = x
    · subst h
      exact .inr ⟨[], l, rfl, by simp, by rw [Lib.index]; simp [List.isPrefixOf]⟩
    · have hp : ([x] : List UInt8).isPrefixOf (b :: l) = false := by simp [List.isPrefixOf, Ne.symm h]
      have hix : Lib.index (b :: l) [x] = if Lib.index l [x] == -1 then -1 else Lib.index l [x] + 1 := by rw [Lib.index, hp]; simp
      rcases one_cases x l with ⟨h1, h2⟩ | ⟨p, r, h1, h2, h3⟩
      · refine .inl ⟨by rw [hix, if_pos (beq_iff_eq.2 h1)], ?_⟩
        rw [List.mem_cons]
        rintro (e | e)
        · exact h e.symm
        · exact h2 e
      · refine .inr ⟨b :: p, r, by rw [h1]; rfl, ?_, ?_⟩
        · rw [List.mem_cons]
          rintro (e | e)
          · exact h e.symm
          · exact h2 e
        · rw [hix, if_neg (fun e => by have := beq_iff_eq.1 e; omega), h3]
          simp
theorem cutAt_pos (x : UInt8) (cur l : List UInt8) : 1 ≤ (cutAt x cur l).length := by
  have := cutAt_ne x l cur
  exact List.length_pos_iff.2 this
theorem splitK_hit (x : UInt8) (k : Nat) (p r : List UInt8) (h : Lib.index (p ++ x :: r) [x] = (p.length : Int)) : Lib.splitK [x] 0 (k + 1) (p ++ x :: r) = p :: Lib.splitK [x] 0 k r := by
  have hm : ¬ (Lib.index (p ++ x :: r) [x] == -1) = true := fun e => by have := beq_iff_eq.1 e; omega
  rw [Lib.splitK, if_neg hm, h]
  simp
/-- What is cut at k places at most: all of it where there are not more, else k + 1 parts. -/
theorem splitK_cut (x : UInt8) : ∀ (k : Nat) (l : List UInt8), ((cutAt x [] l).length ≤ k + 1 → Lib.splitK [x] 0 k l = cutAt x [] l) ∧ (Lib.splitK [x] 0 k l).length = min (k + 1) (cutAt x [] l).length
  | 0, l => by
    have hpos := cutAt_pos x [] l
    refine ⟨fun h => ?_, ?_⟩
    · rcases one_cases x l with ⟨_, h2⟩ | ⟨p, r, rfl, h2, _⟩
      · rw [cutAt_last x l [] h2]; rfl
      · rw [cutAt_part x r p [] h2, List.length_cons] at h
        have := cutAt_pos x [] r
        omega
    · show 1 = _
      omega
  | k + 1, l => by
    rcases one_cases x l with ⟨h1, h2⟩ | ⟨p, r, rfl, h2, h3⟩
    · have e : Lib.splitK [x] 0 (k + 1) l = [l] := by rw [Lib.splitK, if_pos (beq_iff_eq.2 h1)]
      rw [e, cutAt_last x l [] h2]
      exact ⟨fun _ => rfl, by simp⟩
    · obtain ⟨ih1, ih2⟩ := splitK_cut x k r
      rw [splitK_hit x k p r h3, cutAt_part x r p [] h2]
      refine ⟨fun h => ?_, ?_⟩
      · rw [ih1 (by simpa using h)]; rfl
      · rw [List.length_cons, List.length_cons, ih2]
        omega
/-- A text split into five parts at most: four of them are just those that it has. -/
theorem split_five (x : UInt8) (s : ByteArray) : (Lib.splitB ⟨#[x]⟩ 0 (min 5 (s.size + 1) - 1) s).length ≤ 5 ∧
    ((cutAt x [] s.data.toList).length = 4 → (Lib.splitB ⟨#[x]⟩ 0 (min 5 (s.size + 1) - 1) s).map (·.data.toList) = cutAt x [] s.data.toList) ∧
    ((Lib.splitB ⟨#[x]⟩ 0 (min 5 (s.size + 1) - 1) s).length = 4 → (cutAt x [] s.data.toList).length = 4) := by
  have hd := Lib.splitB_data ⟨#[x]⟩ 0 (min 5 (s.size + 1) - 1) s
  have hl : s.data.toList.length = s.size := by simp
  have hc := cutAt_count x s.data.toList []
  have e : (⟨#[x]⟩ : ByteArray).data.toList = [x] := rfl
  rw [e] at hd
  have hlen : (Lib.splitB ⟨#[x]⟩ 0 (min 5 (s.size + 1) - 1) s).length = (Lib.splitK [x] 0 (min 5 (s.size + 1) - 1) s.data.toList).length := by rw [← hd, List.length_map]
  obtain ⟨h1, h2⟩ := splitK_cut x (min 5 (s.size + 1) - 1) s.data.toList
  refine ⟨?_, fun h => ?_, fun h => ?_⟩
  · rw [hlen, h2]; omega
  · rw [hd, h1 (by omega)]
  · rw [hlen, h2] at h
    omega
/-- A text cut once. -/
theorem cut_one (x : UInt8) (s : ByteArray) : (x ∉ s.data.toList ∧ (Lib.cut s.data.toList [x]).1 = s.data.toList ∧ (Lib.cut s.data.toList [x]).2.1 = []) ∨
    ∃ p r, s.data.toList = p ++ x :: r ∧ x ∉ p ∧ (Lib.cut s.data.toList [x]).1 = p ∧ (Lib.cut s.data.toList [x]).2.1 = r := by
  rcases one_cases x s.data.toList with ⟨h1, h2⟩ | ⟨p, r, h1, h2, h3⟩
  · refine .inl ⟨h2, ?_⟩
    unfold Lib.cut
    rw [h1, if_neg (by omega)]
    exact ⟨rfl, rfl⟩
  · refine .inr ⟨p, r, h1, h2, ?_⟩
    unfold Lib.cut
    rw [h3, if_pos (by omega), h1]
    simp

/-- The figures of one byte, value by value. -/
def figVal (l : List UInt8) : Nat := l.foldl (fun o x => 10 * o + (x.toNat - 48)) 0
theorem figVal_snoc (l : List UInt8) (x : UInt8) : figVal (l ++ [x]) = 10 * figVal l + (x.toNat - 48) := by simp [figVal]

theorem snoc_ind {α : Type} {P : List α → Prop} (h0 : P []) (h1 : ∀ l x, P l → P (l ++ [x])) (l : List α) : P l := by
  have h : ∀ r : List α, P r.reverse := by
    intro r
    induction r with
    | nil => exact h0
    | cons x r ih => rw [List.reverse_cons]; exact h1 _ _ ih
  have := h l.reverse
  rwa [List.reverse_reverse] at this
theorem figVal_map (qs : List Nat) : (∀ q ∈ qs, q < 10) → figVal (qs.map fig) = valD qs := by
  refine snoc_ind (P := fun qs => (∀ q ∈ qs, q < 10) → figVal (qs.map fig) = valD qs) (fun _ => rfl) (fun l x ih h => ?_) qs
  rw [List.map_append, List.map_cons, List.map_nil, figVal_snoc, valD_snoc, ih (fun q hq => h q (by simp [hq])), digit_toNat x (h x (by simp))]
  omega
theorem figVal_dec (n : Nat) : figVal (Lib.decDigits n) = n := by
  obtain ⟨qs, h1, _, h3, h4⟩ := dec_back n n (Nat.le_refl _)
  rw [h3, figVal_map qs h1, h4]
theorem figVal_more (a b : List UInt8) : figVal a ≤ figVal (a ++ b) := by
  refine snoc_ind (P := fun b => figVal a ≤ figVal (a ++ b)) (by simp) (fun l x ih => ?_) b
  rw [← List.append_assoc, figVal_snoc]
  omega
theorem figVal_take (l : List UInt8) (i : Nat) : figVal (l.take i) ≤ figVal l := by
  have := figVal_more (l.take i) (l.drop i)
  rwa [List.take_append_drop] at this

/-- An address without its last bits. -/
theorem shift_first (a n : Nat) : a >>> (32 - n) <<< (32 - n) = firstP a n := by
  rw [Nat.shiftRight_eq_div_pow, Nat.shiftLeft_eq]
  unfold firstP sizeP
  have h := Nat.div_add_mod a (2 ^ (32 - n))
  have e : a / 2 ^ (32 - n) * 2 ^ (32 - n) = 2 ^ (32 - n) * (a / 2 ^ (32 - n)) := Nat.mul_comm _ _
  omega

end Go.Proofs.Ytphmomlgmnllkaq
namespace Go.Proofs.Ytphmomlgmnllkaq
open Go.RowKit

theorem implAddrOk_yes (a : Int) (h0 : 0 ≤ a) (h1 : a ≤ 4294967295) (w : World) :
    Calls Try.prog 70 #[.int .i64 a] w fun e w' => e = .returned (.bool true) ∧ Below w.heap.size w w' := by
  go_enter Try.func70, Try.ntmps70
  go_wp2_with fail
  go_ret
  exact ⟨rfl, Below.refl _ _⟩
theorem implAddrOk_no (a : Int) (h : a < 0 ∨ 4294967295 < a) (w : World) :
    Calls Try.prog 70 #[.int .i64 a] w fun e w' => e = .returned (.bool false) ∧ Below w.heap.size w w' := by
  by_cases h0 : 0 ≤ a
  · have h1 : ¬ a ≤ 4294967295 := by omega
    clear h
    go_enter Try.func70, Try.ntmps70
    go_wp2_with fail
    go_ret
    exact ⟨rfl, Below.refl _ _⟩
  · clear h
    go_enter Try.func70, Try.ntmps70
    go_wp2_with fail
    go_ret
    exact ⟨rfl, Below.refl _ _⟩

/-- An address without its last bits, as two shifts. -/
theorem first_shifts (a n r : Nat) (ha : a ≤ 4294967295) (hn : n ≤ 32) (hr : r = 32 - n) : ∃ q : Nat, ((a : Nat) : Int) / 2 ^ min r 64 = (q : Int) ∧ IntKind.i64.wrap ((q : Int) * 2 ^ min r 64) = ((firstP a n : Nat) : Int) := by
  subst hr
  have hm : min (32 - n) 64 = 32 - n := by omega
  refine ⟨a / 2 ^ (32 - n), by rw [hm]; simp, ?_⟩
  have h := Nat.div_add_mod a (2 ^ (32 - n))
  have e : a / 2 ^ (32 - n) * 2 ^ (32 - n) = firstP a n := by
    unfold firstP sizeP
    rw [Nat.mul_comm]
    omega
  have hl := firstP_le a n
  have e2 : ((a / 2 ^ (32 - n) : Nat) : Int) * 2 ^ (32 - n) = ((a / 2 ^ (32 - n) * 2 ^ (32 - n) : Nat) : Int) := by simp
  rw [hm, e2, e, IntKind.wrap_i64]
  omega

set_option maxRecDepth 100000 in
set_option maxHeartbeats 800000 in
theorem implPrefixOf_yes (a n : Nat) (ha : a ≤ 4294967295) (hn : n ≤ 32) (w : World) :
    Calls Try.prog 69 #[.int .i64 a, .int .i64 n] w fun e w' => e = .returned (.tuple #[.agg #[.int .i64 (firstP a n : Nat), .int .i64 n], .bool true]) ∧ Below w.heap.size w w' := by
  have H1 := Lib.hid (implAddrOk_yes a (by omega) (by omega))
  obtain ⟨r, hr⟩ : ∃ r, r = 32 - n := ⟨_, rfl⟩
  obtain ⟨q, hq, hs⟩ := first_shifts a n r ha hn hr
  have hsub : IntKind.i64.wrap (32 - (n : Int)) = (r : Int) := by rw [IntKind.wrap_i64]; omega
  obtain ⟨f, F⟩ : ∃ f, Hid (f = firstP a n) := ⟨_, rfl⟩
  rw [← F.out] at hs ⊢
  have n0 : ¬ ((n : Int) < 0) := by omega
  have n1 : ¬ ((32 : Int) < (n : Int)) := by omega
  have P0 := Lib.hid (PV.new w PT (.int .i64 0) (.int .i64 0))
  have p0 := P0.out.v.c0
  have p1 := P0.out.v.c1
  have f0 := P0.out.v.free 0
  have f1 := P0.out.v.free 1
  clear hr
  go_enter Try.func69, Try.ntmps69
  go_wp2_with fail
  refine (H1.out _).mono ?_
  rintro e w1 ⟨rfl, hb1⟩
  have P1 := P0.out.next hb1
  have i0 := P1.v.c0
  have i1 := P1.v.c1
  have j0 := P1.v.free 0
  have j1 := P1.v.free 1
  have PS := P1.set2 (.int .i64 f) (.int .i64 n)
  have k0 := PS.v.c0
  have k1 := PS.v.c1
  have HB := Lib.hid PS.below
  clear hb1 P1 PS
  go_wp2_with fail
  refine bodyPost_ret (v := .tuple #[.agg #[.int .i64 f, .int .i64 n], .bool true]) (by simp [results, Try.results69, go_sem, k0, k1]) rfl ⟨rfl, HB.out⟩

set_option maxRecDepth 100000 in
set_option maxHeartbeats 800000 in
theorem implPrefixOf_no (a n : Int) (h : (a < 0 ∨ 4294967295 < a) ∨ (n < 0 ∨ 32 < n)) (w : World) :
    Calls Try.prog 69 #[.int .i64 a, .int .i64 n] w fun e w' => e = .returned (.tuple #[.agg #[.int .i64 0, .int .i64 0], .bool false]) ∧ Below w.heap.size w w' := by
  have P0 := Lib.hid (PV.new w PT (.int .i64 0) (.int .i64 0))
  have main : ∀ b : Bool, (b = true → n < 0 ∨ 32 < n) → (∀ X, Calls Try.prog 70 #[.int .i64 a] X fun e X' => e = .returned (.bool b) ∧ Below X.heap.size X X') →
      Calls Try.prog 69 #[.int .i64 a, .int .i64 n] w fun e w' => e = .returned (.tuple #[.agg #[.int .i64 0, .int .i64 0], .bool false]) ∧ Below w.heap.size w w' := by
    intro b hb H
    have H1 := Lib.hid H
    clear H h
    cases b with
    | false =>
      clear hb
      go_enter Try.func69, Try.ntmps69
      go_wp2_with fail
      refine (H1.out _).mono ?_
      rintro e w1 ⟨rfl, hb1⟩
      have P1 := P0.out.next hb1
      have i0 := P1.v.c0
      have i1 := P1.v.c1
      have j0 := P1.v.free 0
      have j1 := P1.v.free 1
      have PS := P1.set2 (.int .i64 0) (.int .i64 0)
      have k0 := PS.v.c0
      have k1 := PS.v.c1
      have HB := Lib.hid PS.below
      clear hb1 P1 PS
      go_wp2_with fail
      exact bodyPost_ret (v := .tuple #[.agg #[.int .i64 0, .int .i64 0], .bool false]) (by simp [results, Try.results69, go_sem, k0, k1]) rfl ⟨rfl, HB.out⟩
    | true =>
      by_cases hn : n < 0
      · clear hb
        go_enter Try.func69, Try.ntmps69
        go_wp2_with fail
        refine (H1.out _).mono ?_
        rintro e w1 ⟨rfl, hb1⟩
        have P1 := P0.out.next hb1
        have i0 := P1.v.c0
        have i1 := P1.v.c1
        have j0 := P1.v.free 0
        have j1 := P1.v.free 1
        have PS := P1.set2 (.int .i64 0) (.int .i64 0)
        have k0 := PS.v.c0
        have k1 := PS.v.c1
        have HB := Lib.hid PS.below
        clear hb1 P1 PS
        go_wp2_with fail
        exact bodyPost_ret (v := .tuple #[.agg #[.int .i64 0, .int .i64 0], .bool false]) (by simp [results, Try.results69, go_sem, k0, k1]) rfl ⟨rfl, HB.out⟩
      · have hn2 : 32 < n := by rcases hb rfl with h | h <;> omega
        clear hb
        go_enter Try.func69, Try.ntmps69
        go_wp2_with fail
        refine (H1.out _).mono ?_
        rintro e w1 ⟨rfl, hb1⟩
        have P1 := P0.out.next hb1
        have i0 := P1.v.c0
        have i1 := P1.v.c1
        have j0 := P1.v.free 0
        have j1 := P1.v.free 1
        have PS := P1.set2 (.int .i64 0) (.int .i64 0)
        have k0 := PS.v.c0
        have k1 := PS.v.c1
        have HB := Lib.hid PS.below
        clear hb1 P1 PS
        go_wp2_with fail
        exact bodyPost_ret (v := .tuple #[.agg #[.int .i64 0, .int .i64 0], .bool false]) (by simp [results, Try.results69, go_sem, k0, k1]) rfl ⟨rfl, HB.out⟩
  by_cases h1 : a < 0 ∨ 4294967295 < a
  · exact main false (by simp) (implAddrOk_no a h1)
  · exact main true (fun _ => by omega) (implAddrOk_yes a (by omega) (by omega))

/-- What PrefixOf answers, as one. -/
theorem implPrefixOf_any (a n : Int) : ∃ (x y : Int) (b : Bool), (∀ X, Calls Try.prog 69 #[.int .i64 a, .int .i64 n] X fun e X' => e = .returned (.tuple #[.agg #[.int .i64 x, .int .i64 y], .bool b]) ∧ Below X.heap.size X X') ∧
    (b = true → (0 ≤ a ∧ a ≤ 4294967295) ∧ (0 ≤ n ∧ n ≤ 32) ∧ x = (firstP a.toNat n.toNat : Nat) ∧ y = n) ∧ (b = false → (a < 0 ∨ 4294967295 < a) ∨ (n < 0 ∨ 32 < n)) := by
  by_cases h : (a < 0 ∨ 4294967295 < a) ∨ (n < 0 ∨ 32 < n)
  · exact ⟨0, 0, false, implPrefixOf_no a n h, by simp, fun _ => h⟩
  · obtain ⟨m, rfl⟩ : ∃ m : Nat, a = (m : Int) := ⟨a.toNat, by omega⟩
    obtain ⟨k, rfl⟩ : ∃ k : Nat, n = (k : Int) := ⟨n.toNat, by omega⟩
    exact ⟨(firstP m k : Nat), k, true, implPrefixOf_yes m k (by omega) (by omega), fun _ => ⟨⟨by omega, by omega⟩, ⟨by omega, by omega⟩, rfl, rfl⟩, by simp⟩

set_option maxRecDepth 100000 in
set_option maxHeartbeats 800000 in
theorem implInPrefix_any (a n x : Int) (b : Bool) (hb : b = true ↔ InPref a n x) (w : World) :
    Calls Try.prog 67 #[.agg #[.int .i64 a, .int .i64 n], .int .i64 x] w fun e w' => e = .returned (.bool b) ∧ Below w.heap.size w w' := by
  obtain ⟨u, v, c, H, hy, hn⟩ := implPrefixOf_any x n
  have hc : b = (c && (u == a && v == n)) := by
    rw [Bool.eq_iff_iff, hb]
    unfold InPref PrefOk
    cases c with
    | false =>
      have := hn rfl
      simp
      intro h1 h2 h3 h4 h5 h6 h7
      omega
    | true =>
      obtain ⟨h1, h2, h3, h4⟩ := hy rfl
      simp only [Bool.true_and, Bool.and_eq_true, beq_iff_eq]
      constructor
      · rintro ⟨_, _, h⟩
        exact ⟨by rw [h3, h], h4⟩
      · rintro ⟨e1, e2⟩
        have hf := firstP_mod x.toNat n.toNat
        have hl := firstP_le x.toNat n.toNat
        have e3 : a.toNat = firstP x.toNat n.toNat := by omega
        exact ⟨⟨⟨by omega, by omega⟩, h2, by rw [e3, hf]⟩, h1, by omega⟩
  subst hc
  clear hb hy hn
  have H1 := Lib.hid H
  clear H
  have P0 := Lib.hid (PV.new w PT (.int .i64 a) (.int .i64 n))
  have p0 := P0.out.v.c0
  have p1 := P0.out.v.c1
  have EQ := fun (X : World) => pref_eq u v a n X
  go_enter Try.func67, Try.ntmps67
  go_wp2_with fail
  refine (H1.out _).mono ?_
  rintro e w1 ⟨rfl, hb1⟩
  have P1 := P0.out.next hb1
  have i0 := P1.v.c0
  have i1 := P1.v.c1
  have Q0 := PV.new w1 PT (.int .i64 u) (.int .i64 v)
  have q0 := Q0.v.c0
  have q1 := Q0.v.c1
  have P2 := P1.next Q0.below
  have r0 := P2.v.c0
  have r1 := P2.v.c1
  have HB := Lib.hid P2.below
  clear hb1 P1 P2 Q0
  cases c with
  | false =>
    go_wp2_with fail
    go_ret
    exact ⟨rfl, HB.out⟩
  | true =>
    go_wp2_with fail
    go_ret
    exact ⟨by simp, HB.out⟩
theorem implInPrefix_yes (a n x : Int) (h : InPref a n x) (w : World) :
    Calls Try.prog 67 #[.agg #[.int .i64 a, .int .i64 n], .int .i64 x] w fun e w' => e = .returned (.bool true) ∧ Below w.heap.size w w' := implInPrefix_any a n x true (by simp [h]) w
theorem implInPrefix_no (a n x : Int) (h : ¬ InPref a n x) (w : World) :
    Calls Try.prog 67 #[.agg #[.int .i64 a, .int .i64 n], .int .i64 x] w fun e w' => e = .returned (.bool false) ∧ Below w.heap.size w w' := implInPrefix_any a n x false (by simp [h]) w
/-- A prefix has its own first address just if it is right. -/
theorem inPref_own (a n : Int) : InPref a n a ↔ PrefOk a n := by
  unfold InPref
  constructor
  · exact fun h => h.1
  · intro h
    refine ⟨h, h.1, ?_⟩
    have h2 := h.2.2
    have h1 := h.1
    unfold firstP
    omega

set_option maxRecDepth 100000 in
set_option maxHeartbeats 800000 in
theorem implPrefixOk_any (a n : Int) (b : Bool) (hb : b = true ↔ PrefOk a n) (w : World) :
    Calls Try.prog 61 #[.agg #[.int .i64 a, .int .i64 n]] w fun e w' => e = .returned (.bool b) ∧ Below w.heap.size w w' := by
  have H1 := Lib.hid (implInPrefix_any a n a b (hb.trans (inPref_own a n).symm))
  clear hb
  have P0 := Lib.hid (PV.new w PT (.int .i64 a) (.int .i64 n))
  have p0 := P0.out.v.c0
  have p1 := P0.out.v.c1
  go_enter Try.func61, Try.ntmps61
  go_wp2_with fail
  refine (H1.out _).mono ?_
  rintro e w1 ⟨rfl, hb1⟩
  have HB := Lib.hid (P0.out.next hb1).below
  clear hb1
  go_wp2_with fail
  go_ret
  exact ⟨rfl, HB.out⟩
theorem implPrefixOk_yes (a n : Int) (h : PrefOk a n) (w : World) :
    Calls Try.prog 61 #[.agg #[.int .i64 a, .int .i64 n]] w fun e w' => e = .returned (.bool true) ∧ Below w.heap.size w w' := implPrefixOk_any a n true (by simp [h]) w
theorem implPrefixOk_no (a n : Int) (h : ¬ PrefOk a n) (w : World) :
    Calls Try.prog 61 #[.agg #[.int .i64 a, .int .i64 n]] w fun e w' => e = .returned (.bool false) ∧ Below w.heap.size w w' := implPrefixOk_any a n false (by simp [h]) w

end Go.Proofs.Ytphmomlgmnllkaq

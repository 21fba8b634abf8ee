/-
  What of a heap's leases is told, in plain words.
  Prefixes compared as values.
  What the library's splitting tells at a sign of one byte, held against cutAt; shifts of addresses; no program is spoken of here.
-/
import Derived.Test.YtphmomlgmnllkapJ19
import Derived.Test.YtphmomlgmnllkapJ23
import Derived.Test.YtphmomlgmnllkapRows
import Derived.Test.YtphmomlgmnllkapJ03
import Derived.Laws.StructEq
import Derived.Test.YtphmomlgmnllkapJ11
import Derived.Lib.SplitLaws
namespace Go.Proofs.Ytphmomlgmnllkap
open Go.RowKit

theorem who_one {pa pn : Int} {ls : List Ls} {fs : List Fx} (h : LeasesR pa pn ls fs) (x y : Ls) (hx : x ∈ ls) (hy : y ∈ ls) (e : x.2.1 = y.2.1) : x = y := by
  obtain ⟨i, hi⟩ := List.mem_iff_getElem?.1 hx
  obtain ⟨j, hj⟩ := List.mem_iff_getElem?.1 hy
  rcases Nat.lt_trichotomy i j with h1 | h1 | h1
  · exact absurd e (at_of_pair _ _ h.2.2 j i x y h1 hi hj)
  · subst h1
    rw [hi] at hj
    exact Option.some.inj hj
  · exact absurd e.symm (at_of_pair _ _ h.2.2 i j y x h1 hj hi)
theorem LeasesIn.who {pa pn : Int} {ls : List Ls} {fs : List Fx} {nd : Nat → Hd} {ps : List Nat} (h : LeasesIn nd ps ls) (hR : LeasesR pa pn ls fs) (hk : KeyOne nd ps) {p q : Nat} (hp : p ∈ ps) (hq : q ∈ ps) (e : (nd p).1.2.1 = (nd q).1.2.1) : p = q := by
  have h1 := (h _).2 ⟨p, hp, rfl⟩
  have h2 := (h _).2 ⟨q, hq, rfl⟩
  have h3 := who_one hR _ _ h1 h2 e
  exact hk p hp q hq (by unfold keyN; rw [h3])
/-- Without somebody's. -/
theorem LeasesIn.without {pa pn : Int} {ls : List Ls} {fs : List Fx} {nd : Nat → Hd} {ps qs : List Nat} (h : LeasesIn nd ps ls) (hR : LeasesR pa pn ls fs) (hk : KeyOne nd ps) {p : Nat} {who : Int} (hp : p ∈ ps) (e : (nd p).1.2.1 = who) (hq : ∀ x, x ∈ qs ↔ x ∈ ps ∧ x ≠ p) : LeasesIn nd qs (ls.filter fun l => l.2.1 != who) := by
  intro l
  rw [List.mem_filter, bne_iff_ne, h l]
  constructor
  · rintro ⟨⟨q, hq1, rfl⟩, hw⟩
    exact ⟨q, (hq q).2 ⟨hq1, fun e2 => hw (by rw [e2]; exact e)⟩, rfl⟩
  · rintro ⟨q, hq1, rfl⟩
    obtain ⟨h1, h2⟩ := (hq q).1 hq1
    exact ⟨⟨q, h1, rfl⟩, fun hw => h2 (h.who hR hk h1 hp (hw.trans e.symm))⟩
theorem rel_yes {pa pn : Int} {ls : List Ls} {fs : List Fx} {nd : Nat → Hd} {ps : List Nat} {who : Int} (hP : PoolOkP pa pn ls fs) (h : LeasesIn nd ps ls) {p : Nat} (hp : p ∈ ps) (e : (nd p).1.2.1 = who) : RelTold pa pn ls fs who (ls.filter fun l => l.2.1 != who) true := by
  refine .inl ⟨rfl, ⟨hP, fun hl => ?_⟩, rfl⟩
  have h1 := (h _).2 ⟨p, hp, rfl⟩
  have h2 := List.Sublist.eq_of_length (List.filter_sublist (l := ls) (p := fun l => l.2.1 != who)) hl
  rw [← h2] at h1
  have := (List.mem_filter.1 h1).2
  rw [bne_iff_ne] at this
  exact this e
theorem rel_no {pa pn : Int} {ls : List Ls} {fs : List Fx} {nd : Nat → Hd} {ps : List Nat} {who : Int} (h : LeasesIn nd ps ls) (hn : ∀ p ∈ ps, (nd p).1.2.1 ≠ who) : RelTold pa pn ls fs who ls false := by
  refine .inr ⟨rfl, rfl, fun hc => hc.2 ?_⟩
  congr 1
  rw [List.filter_eq_self]
  intro l hl
  obtain ⟨p, hp, rfl⟩ := (h l).1 hl
  rw [bne_iff_ne]
  exact hn p hp
theorem asc_filter {ls : List Ls} (h : AscL ls) (p : Ls → Bool) : AscL (ls.filter p) := List.Pairwise.sublist List.filter_sublist h

end Go.Proofs.Ytphmomlgmnllkap
namespace Go.Proofs.Ytphmomlgmnllkap
open Go.RowKit

theorem prefFields : Try.prog.underlying 40 = some (.struct (Try.prog.fieldsOf 40)) := by kernel_rfl
theorem prefStood : Try.prog.stoodInHeld 40 = false := by kernel_rfl
theorem prefGuard : Try.prog.eqGuardType Try.prog.depth 40 = false := by kernel_rfl
theorem pref_eq (a b c d : Int) (w : World) : (Op.equalIn 10000 40 (.agg #[.int .i64 a, .int .i64 b]) (.agg #[.int .i64 c, .int .i64 d])).run Try.prog w = .ok (a == c && b == d) w := by
  have u3 := Try.underlying3
  have a3 := Try.isAgg3
  have z3 := Try.sizeOf3
  rw [show (10000 : Nat) = 9999 + 1 from rfl, run_equalIn_agg w 9999 40 _ _ prefFields prefStood]
  simp only [Program.fieldsOf, Try.underlying40]
  go_simp
  by_cases h1 : a = c <;> by_cases h2 : b = d <;> simp [h1, h2]
theorem pref_same (a b : Int) (w : World) : (Op.equalIn 10000 40 (.agg #[.int .i64 a, .int .i64 b]) (.agg #[.int .i64 a, .int .i64 b])).run Try.prog w = .ok true w := by
  rw [pref_eq]
  simp

end Go.Proofs.Ytphmomlgmnllkap
namespace Go.Proofs.Ytphmomlgmnllkap
open Go.RowKit

/-- A text has the sign, and then this is what stands ahead of it and behind it; or it has it not. -/
theorem one_cases (x : UInt8) : ∀ l : List UInt8, (Lib.index l [x] = -1 ∧ x ∉ l) ∨ ∃ p r, l = p ++ x :: r ∧ x ∉ p ∧ Lib.index l [x] = (p.length : Int)
  | [] => .inl ⟨by simp [Lib.index], by simp⟩
  | b :: l => by
    by_cases h : b = x
    · subst h
      exact .inr ⟨[], l, rfl, by simp, by rw [Lib.index]; simp [List.isPrefixOf]⟩
    · have hp : ([x] : List UInt8).isPrefixOf (b :: l) = false := by simp [List.isPrefixOf, Ne.symm h]
      have hix : Lib.index (b :: l) [x] = if Lib.index l [x] == -1 then -1 else Lib.index l [x] + 1 := by rw [Lib.index, hp]; simp
      rcases one_cases x l with ⟨h1, h2⟩ | ⟨p, r, h1, h2, h3⟩
      · refine .inl ⟨by rw [hix, if_pos (beq_iff_eq.2 h1)], ?_⟩
        rw [List.mem_cons]
        rintro (e | e)
        · exact h e.symm
        · exact h2 e
      · refine .inr ⟨b :: p, r, by rw [h1]; rfl, ?_, ?_⟩
        · rw [List.mem_cons]
          rintro (e | e)
          · exact h e.symm
          · exact h2 e
        · rw [hix, if_neg (fun e => by have := beq_iff_eq.1 e; omega), h3]
          simp
theorem cutAt_pos (x : UInt8) (cur l : List UInt8) : 1 ≤ (cutAt x cur l).length := by
  have := cutAt_ne x l cur
  exact List.length_pos_iff.2 this
theorem splitK_hit (x : UInt8) (k : Nat) (p r : List UInt8) (h : Lib.index (p ++ x :: r) [x] = (p.length : Int)) : Lib.splitK [x] 0 (k + 1) (p ++ x :: r) = p :: Lib.splitK [x] 0 k r := by
  have hm : ¬ (Lib.index (p ++ x :: r) [x] == -1) = true := fun e => by have := beq_iff_eq.1 e; omega
  rw [Lib.splitK, if_neg hm, h]
  simp
/-- What is cut at k places at most: all of it where there are not more, else k + 1 parts. -/
theorem splitK_cut (x : UInt8) : ∀ (k : Nat) (l : List UInt8), ((cutAt x [] l).length ≤ k + 1 → Lib.splitK [x] 0 k l = cutAt x [] l) ∧ (Lib.splitK [x] 0 k l).length = min (k + 1) (cutAt x [] l).length
  | 0, l => by
    have hpos := cutAt_pos x [] l
    refine ⟨fun h => ?_, ?_⟩
    · rcases one_cases x l with ⟨_, h2⟩ | ⟨p, r, rfl, h2, _⟩
      · rw [cutAt_last x l [] h2]; rfl
      · rw [cutAt_part x r p [] h2, List.length_cons] at h
        have := cutAt_pos x [] r
        omega
    · show 1 = _
      omega
  | k + 1, l => by
    rcases one_cases x l with ⟨h1, h2⟩ | ⟨p, r, rfl, h2, h3⟩
    · have e : Lib.splitK [x] 0 (k + 1) l = [l] := by rw [Lib.splitK, if_pos (beq_iff_eq.2 h1)]
      rw [e, cutAt_last x l [] h2]
      exact ⟨fun _ => rfl, by simp⟩
    · obtain ⟨ih1, ih2⟩ := splitK_cut x k r
      rw [splitK_hit x k p r h3, cutAt_part x r p [] h2]
      refine ⟨fun h => ?_, ?_⟩
      · rw [ih1 (by simpa using h)]; rfl
      · rw [List.length_cons, List.length_cons, ih2]
        omega
/-- A text split into five parts at most: four of them are just those that it has. -/
theorem split_five (x : UInt8) (s : ByteArray) : (Lib.splitB ⟨#[x]⟩ 0 (min 5 (s.size + 1) - 1) s).length ≤ 5 ∧
    ((cutAt x [] s.data.toList).length = 4 → (Lib.splitB ⟨#[x]⟩ 0 (min 5 (s.size + 1) - 1) s).map (·.data.toList) = cutAt x [] s.data.toList) ∧
    ((Lib.splitB ⟨#[x]⟩ 0 (min 5 (s.size + 1) - 1) s).length = 4 → (cutAt x [] s.data.toList).length = 4) := by
  have hd := Lib.splitB_data ⟨#[x]⟩ 0 (min 5 (s.size + 1) - 1) s
  have hl : s.data.toList.length = s.size := by simp
  have hc := cutAt_count x s.data.toList []
  have e : (⟨#[x]⟩ : ByteArray).data.toList = [x] := rfl
  rw [e] at hd
  have hlen : (Lib.splitB ⟨#[x]⟩ 0 (min 5 (s.size + 1) - 1) s).length = (Lib.splitK [x] 0 (min 5 (s.size + 1) - 1) s.data.toList).length := by rw [← hd, List.length_map]
  obtain ⟨h1, h2⟩ := splitK_cut x (min 5 (s.size + 1) - 1) s.data.toList
  refine ⟨?_, fun h => ?_, fun h => ?_⟩
  · rw [hlen, h2]; omega
  · rw [hd, h1 (by omega)]
  · rw [hlen, h2] at h
    omega
/-- A text cut once. -/
theorem cut_one (x : UInt8) (s : ByteArray) : (x ∉ s.data.toList ∧ (Lib.cut s.data.toList [x]).1 = s.data.toList ∧ (Lib.cut s.data.toList [x]).2.1 = []) ∨
    ∃ p r, s.data.toList = p ++ x :: r ∧ x ∉ p ∧ (Lib.cut s.data.toList [x]).1 = p ∧ (Lib.cut s.data.toList [x]).2.1 = r := by
  rcases one_cases x s.data.toList with ⟨h1, h2⟩ | ⟨p, r, h1, h2, h3⟩
  · refine .inl ⟨h2, ?_⟩
    unfold Lib.cut
    rw [h1, if_neg (by omega)]
    exact ⟨rfl, rfl⟩
  · refine .inr ⟨p, r, h1, h2, ?_⟩
    unfold Lib.cut
    rw [h3, if_pos (by omega), h1]
    simp

/-- The figures of one byte, value by value. -/
def figVal (l : List UInt8) : Nat := l.foldl (fun o x => 10 * o + (x.toNat - 48)) 0
theorem figVal_snoc (l : List UInt8) (x : UInt8) : figVal (l ++ [x]) = 10 * figVal l + (x.toNat - 48) := by simp [figVal]

theorem snoc_ind {α : Type} {P : List α → Prop} (h0 : P []) (h1 : ∀ l x, P l → P (l ++ [x])) (l : List α) : P l := by
  have h : ∀ r : List α, P r.reverse := by
    intro r
    induction r with
    | nil => exact h0
    | cons x r ih => rw [List.reverse_cons]; exact h1 _ _ ih
  have := h l.reverse
  rwa [List.reverse_reverse] at this
theorem figVal_map (qs : List Nat) : (∀ q ∈ qs, q < 10) → figVal (qs.map fig) = valD qs := by
  refine snoc_ind (P := fun qs => (∀ q ∈ qs, q < 10) → figVal (qs.map fig) = valD qs) (fun _ => rfl) (fun l x ih h => ?_) qs
  rw [List.map_append, List.map_cons, List.map_nil, figVal_snoc, valD_snoc, ih (fun q hq => h q (by simp [hq])), digit_toNat x (h x (by simp))]
  omega
theorem figVal_dec (n : Nat) : figVal (Lib.decDigits n) = n := by
  obtain ⟨qs, h1, _, h3, h4⟩ := dec_back n n (Nat.le_refl _)
  rw [h3, figVal_map qs h1, h4]
theorem figVal_more (a b : List UInt8) : figVal a ≤ figVal (a ++ b) := by
  refine snoc_ind (P := fun b => figVal a ≤ figVal (a ++ b)) (by simp) (fun l x ih => ?_) b
  rw [← List.append_assoc, figVal_snoc]
  omega
theorem figVal_take (l : List UInt8) (i : Nat) : figVal (l.take i) ≤ figVal l := by
  have := figVal_more (l.take i) (l.drop i)
  rwa [List.take_append_drop] at this

/-- An address without its last bits. -/
theorem shift_first (a n : Nat) : a >>> (32 - n) <<< (32 - n) = firstP a n := by
  rw [Nat.shiftRight_eq_div_pow, Nat.shiftLeft_eq]
  unfold firstP sizeP
  have h := Nat.div_add_mod a (2 ^ (32 - n))
  have e : a / 2 ^ (32 - n) * 2 ^ (32 - n) = 2 ^ (32 - n) * (a / 2 ^ (32 - n)) := Nat.mul_comm _ _
  omega

end Go.Proofs.Ytphmomlgmnllkap

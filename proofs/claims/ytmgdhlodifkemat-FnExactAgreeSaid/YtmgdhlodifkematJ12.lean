/-
  What the library's splitting tells at a sign of one byte, held against cutAt; shifts of addresses; no program is spoken of here.
  Options set one behind another, and what the parts of a text set; no program is spoken of here.
-/
import Derived.Test.YtmgdhlodifkematJ10
import Derived.Lib.SplitLaws
import Derived.Test.YtmgdhlodifkematJ11
import Derived.Lib.Strings
namespace Go.Proofs.Ytmgdhlodifkemat
open Go.RowKit

/-- A text has the sign, and then this is what stands ahead of it and behind it; or it has it not. -/
theorem one_cases (x : UInt8) : ∀ l : List UInt8, (Lib.index l [x] = -1 ∧ x ∉ l) ∨ ∃ p r, l = p ++ x :: r ∧ x ∉ p ∧ Lib.index l [x] = (p.length : Int)
  | [] => .inl ⟨by simp [Lib.index], by simp⟩
  | b :: l => by
    by_cases h : b = x
    · subst h
      exact .inr ⟨[], l, rfl, by simp, by rw [Lib.index]; simp [List.isPrefixOf]⟩
    · have hp : ([x] : List UInt8).isPrefixOf (b :: l) = false := by simp [List.isPrefixOf, Ne.symm h]
      have hix : Lib.index (b :: l) [x] = if Lib.index l [x] == -1 then -1 else Lib.index l [x] + 1 := by rw [Lib.index, hp]; simp
      rcases one_cases x l with ⟨h1, h2⟩ | ⟨p, r, h1, h2, h3⟩
      · refine .inl ⟨by rw [hix, if_pos (beq_iff_eq.2 h1)], ?_⟩
        rw [List.mem_cons]
        rintro (e | e)
        · exact h e.symm
        · exact h2 e
      · refine .inr ⟨b :: p, r, by rw [h1]; rfl, ?_, ?_⟩
        · rw [List.mem_cons]
          rintro (e | e)
          · exact h e.symm
          · exact h2 e
        · rw [hix, if_neg (fun e => by have := beq_iff_eq.1 e; omega), h3]
          simp
theorem cutAt_pos (x : UInt8) (cur l : List UInt8) : 1 ≤ (cutAt x cur l).length := by
  have := cutAt_ne x l cur
  exact List.length_pos_iff.2 this
theorem splitK_hit (x : UInt8) (k : Nat) (p r : List UInt8) (h : Lib.index (p ++ x :: r) [x] = (p.length : Int)) : Lib.splitK [x] 0 (k + 1) (p ++ x :: r) = p :: Lib.splitK [x] 0 k r := by
  have hm : ¬ (Lib.index (p ++ x :: r) [x] == -1) = true := fun e => by have := beq_iff_eq.1 e; omega
  rw [Lib.splitK, if_neg hm, h]
  simp
/-- What is cut at k places at most: all of it where there are not more, else k + 1 parts. -/
theorem splitK_cut (x : UInt8) : ∀ (k : Nat) (l : List UInt8), ((cutAt x [] l).length ≤ k + 1 → Lib.splitK [x] 0 k l = cutAt x [] l) ∧ (Lib.splitK [x] 0 k l).length = min (k + 1) (cutAt x [] l).length
  | 0, l => by
    have hpos := cutAt_pos x [] l
    refine ⟨fun h => ?_, ?_⟩
    · rcases one_cases x l with ⟨_, h2⟩ | ⟨p, r, rfl, h2, _⟩
      · rw [cutAt_last x l [] h2]; rfl
      · rw [cutAt_part x r p [] h2, List.length_cons] at h
        have := cutAt_pos x [] r
        omega
    · show 1 = _
      omega
  | k + 1, l => by
    rcases one_cases x l with ⟨h1, h2⟩ | ⟨p, r, rfl, h2, h3⟩
    · have e : Lib.splitK [x] 0 (k + 1) l = [l] := by rw [Lib.splitK, if_pos (beq_iff_eq.2 h1)]
      rw [e, cutAt_last x l [] h2]
      exact ⟨fun _ => rfl, by simp⟩
    · obtain ⟨ih1, ih2⟩ := splitK_cut x k r
      rw [splitK_hit x k p r h3, cutAt_part x r p [] h2]
      refine ⟨fun h => ?_, ?_⟩
      · rw [ih1 (by simpa using h)]; rfl
      · rw [List.length_cons, List.length_cons, ih2]
        omega
/-- A text split into five parts at most: four of them are just those that it has. -/
theorem split_five (x : UInt8) (s : ByteArray) : (Lib.splitB ⟨#[x]⟩ 0 (min 5 (s.size + 1) - 1) s).length ≤ 5 ∧
    ((cutAt x [] s.data.toList).length = 4 → (Lib.splitB ⟨#[x]⟩ 0 (min 5 (s.size + 1) - 1) s).map (·.data.toList) = cutAt x [] s.data.toList) ∧
    ((Lib.splitB ⟨#[x]⟩ 0 (min 5 (s.size + 1) - 1) s).length = 4 → (cutAt x [] s.data.toList).length = 4) := by
  have hd := Lib.splitB_data ⟨#[x]⟩ 0 (min 5 (s.size + 1) - 1) s
  have hl : s.data.toList.length = s.size := by simp
  have hc := cutAt_count x s.data.toList []
  have e : (⟨#[x]⟩ : ByteArray).data.toList = [x] := rfl
  rw [e] at hd
  have hlen : (Lib.splitB ⟨#[x]⟩ 0 (min 5 (s.size + 1) - 1) s).length = (Lib.splitK [x] 0 (min 5 (s.size + 1) - 1) s.data.toList).length := by rw [← hd, List.length_map]
  obtain ⟨h1, h2⟩ := splitK_cut x (min 5 (s.size + 1) - 1) s.data.toList
  refine ⟨?_, fun h => ?_, fun h => ?_⟩
  · rw [hlen, h2]; omega
  · rw [hd, h1 (by omega)]
  · rw [hlen, h2] at h
    omega
/-- A text cut once. -/
theorem cut_one (x : UInt8) (s : ByteArray) : (x ∉ s.data.toList ∧ (Lib.cut s.data.toList [x]).1 = s.data.toList ∧ (Lib.cut s.data.toList [x]).2.1 = []) ∨
    ∃ p r, s.data.toList = p ++ x :: r ∧ x ∉ p ∧ (Lib.cut s.data.toList [x]).1 = p ∧ (Lib.cut s.data.toList [x]).2.1 = r := by
  rcases one_cases x s.data.toList with ⟨h1, h2⟩ | ⟨p, r, h1, h2, h3⟩
  · refine .inl ⟨h2, ?_⟩
    unfold Lib.cut
    rw [h1, if_neg (by omega)]
    exact ⟨rfl, rfl⟩
  · refine .inr ⟨p, r, h1, h2, ?_⟩
    unfold Lib.cut
    rw [h3, if_pos (by omega), h1]
    simp

/-- The figures of one byte, value by value. -/
def figVal (l : List UInt8) : Nat := l.foldl (fun o x => 10 * o + (x.toNat - 48)) 0
theorem figVal_snoc (l : List UInt8) (x : UInt8) : figVal (l ++ [x]) = 10 * figVal l + (x.toNat - 48) := by simp [figVal]

theorem snoc_ind {α : Type} {P : List α → Prop} (h0 : P []) (h1 : ∀ l x, P l → P (l ++ [x])) (l : List α) : P l := by
  have h : ∀ r : List α, P r.reverse := by
    intro r
    induction r with
    | nil => exact h0
    | cons x r ih => rw [List.reverse_cons]; exact h1 _ _ ih
  have := h l.reverse
  rwa [List.reverse_reverse] at this
theorem figVal_map (qs : List Nat) : (∀ q ∈ qs, q < 10) → figVal (qs.map fig) = valD qs := by
  refine snoc_ind (P := fun qs => (∀ q ∈ qs, q < 10) → figVal (qs.map fig) = valD qs) (fun _ => rfl) (fun l x ih h => ?_) qs
  rw [List.map_append, List.map_cons, List.map_nil, figVal_snoc, valD_snoc, ih (fun q hq => h q (by simp [hq])), digit_toNat x (h x (by simp))]
  omega
theorem figVal_dec (n : Nat) : figVal (Lib.decDigits n) = n := by
  obtain ⟨qs, h1, _, h3, h4⟩ := dec_back n n (Nat.le_refl _)
  rw [h3, figVal_map qs h1, h4]
theorem figVal_more (a b : List UInt8) : figVal a ≤ figVal (a ++ b) := by
  refine snoc_ind (P := fun b => figVal a ≤ figVal (a ++ b)) (by simp) (fun l x ih => ?_) b
  rw [← List.append_assoc, figVal_snoc]
  omega
theorem figVal_take (l : List UInt8) (i : Nat) : figVal (l.take i) ≤ figVal l := by
  have := figVal_more (l.take i) (l.drop i)
  rwa [List.take_append_drop] at this

/-- An address without its last bits. -/
theorem shift_first (a n : Nat) : a >>> (32 - n) <<< (32 - n) = firstP a n := by
  rw [Nat.shiftRight_eq_div_pow, Nat.shiftLeft_eq]
  unfold firstP sizeP
  have h := Nat.div_add_mod a (2 ^ (32 - n))
  have e : a / 2 ^ (32 - n) * 2 ^ (32 - n) = 2 ^ (32 - n) * (a / 2 ^ (32 - n)) := Nat.mul_comm _ _
  omega

end Go.Proofs.Ytmgdhlodifkemat
namespace Go.Proofs.Ytmgdhlodifkemat
open Go.RowKit

/-- What one option sets. -/
inductive Sets where
  | size (n : Int)
  | ways (ws : List ByteArray)
  | pieces (b : Bool)
/-- Options with one more set. -/
def putS (o : Int × List ByteArray × Bool) : Sets → Int × List ByteArray × Bool
  | .size n => (n, o.2.1, o.2.2)
  | .ways ws => (o.1, ws, o.2.2)
  | .pieces b => (o.1, o.2.1, b)
def allS (sts : List Sets) : Int × List ByteArray × Bool := sts.foldl putS (0, [], false)
theorem allS_snoc (sts : List Sets) (st : Sets) : allS (sts ++ [st]) = putS (allS sts) st := by unfold allS; rw [List.foldl_append]; rfl
/-- What is set fits. -/
def FitS : Sets → Prop
  | .size n => 0 ≤ n ∧ n ≤ 1000000000
  | .ways ws => ws.length ≤ 5 ∧ ∀ x ∈ ws, x.size ≤ 1048576
  | .pieces _ => True
def optWay : List UInt8 := [119, 97, 121, 115, 32]
def optPcs : List UInt8 := [112, 105, 101, 99, 101, 115]
/-- The ways that stand in the rest of a part: five at most. -/
def waysIn (x : List UInt8) : List ByteArray := Lib.splitB ⟨#[44]⟩ 0 (min 5 ((⟨(x.drop 5).toArray⟩ : ByteArray).size + 1) - 1) ⟨(x.drop 5).toArray⟩
/-- What a part of a text sets. -/
def PartSets (x : List UInt8) (st : Sets) : Prop :=
  (Lib.hasPrefix x optSize = true ∧ ∃ n : Nat, n ≤ 1000000000 ∧ st = .size n ∧ ∀ m, m ≤ 1000000000 → Lib.decDigits m = x.drop 5 → n = m) ∨
  (Lib.hasPrefix x optSize = false ∧ Lib.hasPrefix x optWay = true ∧ st = .ways (waysIn x)) ∨
  (Lib.hasPrefix x optSize = false ∧ Lib.hasPrefix x optWay = false ∧ ∃ b, st = .pieces b ∧ (b = true ↔ x = optPcs))
/-- The parts of a text: four at most. -/
def partsO (s : ByteArray) : List ByteArray := Lib.splitB ⟨#[59]⟩ 0 (min 4 (s.size + 1) - 1) s
theorem split_few (x : UInt8) (n : Nat) (hn : 1 ≤ n) (s : ByteArray) : 1 ≤ (Lib.splitB ⟨#[x]⟩ 0 (min n (s.size + 1) - 1) s).length ∧ (Lib.splitB ⟨#[x]⟩ 0 (min n (s.size + 1) - 1) s).length ≤ n ∧
    ((cutAt x [] s.data.toList).length ≤ n → (Lib.splitB ⟨#[x]⟩ 0 (min n (s.size + 1) - 1) s).map (·.data.toList) = cutAt x [] s.data.toList) := by
  have hd := Lib.splitB_data ⟨#[x]⟩ 0 (min n (s.size + 1) - 1) s
  have hl : s.data.toList.length = s.size := by simp
  have hc := cutAt_count x s.data.toList []
  have e : (⟨#[x]⟩ : ByteArray).data.toList = [x] := rfl
  rw [e] at hd
  have hlen : (Lib.splitB ⟨#[x]⟩ 0 (min n (s.size + 1) - 1) s).length = (Lib.splitK [x] 0 (min n (s.size + 1) - 1) s.data.toList).length := by rw [← hd, List.length_map]
  obtain ⟨h1, h2⟩ := splitK_cut x (min n (s.size + 1) - 1) s.data.toList
  have h3 := cutAt_pos x [] s.data.toList
  refine ⟨?_, ?_, fun h => ?_⟩
  · rw [hlen, h2]; omega
  · rw [hlen, h2]; omega
  · rw [hd, h1 (by omega)]
theorem split_part (x : UInt8) : ∀ (k : Nat) (s : ByteArray), ∀ y ∈ Lib.splitB ⟨#[x]⟩ 0 k s, y.size ≤ s.size
  | 0, s => fun y hy => by
    rw [Lib.splitB_zero, List.mem_singleton] at hy
    rw [hy]
    exact Nat.le_refl _
  | k + 1, s => fun y hy => by
    unfold Lib.splitB at hy
    split at hy
    · rw [List.mem_singleton] at hy
      rw [hy]
      exact Nat.le_refl _
    · rcases List.mem_cons.1 hy with h | h
      · rw [h, ByteArray.size_extract]; omega
      · have := split_part x k _ y h
        rw [ByteArray.size_extract] at this
        omega
theorem ways_fit (x : List UInt8) (h : x.length ≤ 1048576) : (waysIn x).length ≤ 5 ∧ ∀ y ∈ waysIn x, y.size ≤ 1048576 := by
  refine ⟨(split_few 44 5 (by decide) _).2.1, fun y hy => ?_⟩
  have h1 := split_part 44 _ _ y hy
  have h2 : (⟨(x.drop 5).toArray⟩ : ByteArray).size = x.length - 5 := by show (x.drop 5).toArray.size = _; simp
  omega
theorem part_fit {x : List UInt8} {st : Sets} (h : PartSets x st) (hx : x.length ≤ 1048576) : FitS st := by
  rcases h with ⟨_, n, hn, rfl, _⟩ | ⟨_, _, rfl⟩ | ⟨_, _, b, rfl, _⟩
  · exact ⟨Int.natCast_nonneg n, by omega⟩
  · exact ways_fit x hx
  · exact trivial
theorem bytes_one {a : ByteArray} {l : List UInt8} (h : a.data.toList = l) : a = ⟨l.toArray⟩ := by
  rw [← h]
theorem twoS_of {α : Type} : ∀ l : List α, l.length = 2 → ∃ a b, l = [a, b]
  | [a, b], _ => ⟨a, b, rfl⟩
theorem threeS_of {α : Type} : ∀ l : List α, l.length = 3 → ∃ a b c, l = [a, b, c]
  | [a, b, c], _ => ⟨a, b, c, rfl⟩
/-- The parts of right options' text set just these. -/
theorem sets_back {z : Int} {ws : List ByteArray} {p : Bool} (h : OptP z ws) (sts : List Sets) (hl : sts.length = (partsO (optT z.toNat ws p)).length)
    (hs : ∀ (j : Nat) (x : ByteArray) (st : Sets), (partsO (optT z.toNat ws p))[j]? = some x → sts[j]? = some st → PartSets x.data.toList st) : allS sts = (z, ws, p) := by
  have hc : cutAt 59 [] (optT z.toNat ws p).data.toList = _ := opt_cut59 h p
  have hm := (split_few 59 4 (by decide) (optT z.toNat ws p)).2.2 (by rw [hc]; cases p <;> simp)
  rw [hc] at hm
  unfold partsO at hs hl
  generalize Lib.splitB ⟨#[59]⟩ 0 (min 4 ((optT z.toNat ws p).size + 1) - 1) (optT z.toNat ws p) = ps at hs hl hm
  have hz := h.sizeR
  have D0 : ∀ x st, x = optSize ++ Lib.decDigits z.toNat → PartSets x st → st = .size z := by
    rintro x st rfl h1
    have e1 : Lib.hasPrefix (optSize ++ Lib.decDigits z.toNat) optSize = true := by unfold optSize; rfl
    rcases h1 with ⟨_, n, hn, rfl, h2⟩ | ⟨h2, _⟩ | ⟨h2, _⟩
    · have := h2 z.toNat (by omega) rfl
      rw [this, Int.toNat_of_nonneg (by omega)]
    · rw [e1] at h2; cases h2
    · rw [e1] at h2; cases h2
  have D1 : ∀ x st, x = [119, 97, 121, 115, 32] ++ joinAt 44 (bytesW ws) → PartSets x st → st = .ways ws := by
    rintro x st rfl h1
    have e1 : Lib.hasPrefix ([119, 97, 121, 115, 32] ++ joinAt 44 (bytesW ws)) optSize = false := rfl
    have e2 : Lib.hasPrefix ([119, 97, 121, 115, 32] ++ joinAt 44 (bytesW ws)) optWay = true := by unfold optWay; rfl
    rcases h1 with ⟨h2, _⟩ | ⟨_, _, rfl⟩ | ⟨_, h2, _⟩
    · rw [e1] at h2; cases h2
    · congr 1
      unfold waysIn
      rw [show (([119, 97, 121, 115, 32] : List UInt8) ++ joinAt 44 (bytesW ws)).drop 5 = joinAt 44 (bytesW ws) from rfl]
      have hq : cutAt 44 [] (⟨(joinAt 44 (bytesW ws)).toArray⟩ : ByteArray).data.toList = _ := opt_cut44 h
      have h3 := (split_few 44 5 (by decide) ⟨(joinAt 44 (bytesW ws)).toArray⟩).2.2 (by rw [hq]; unfold bytesW; rw [List.length_map]; have := h.few; omega)
      rw [hq] at h3
      generalize Lib.splitB ⟨#[44]⟩ 0 _ _ = qs at h3
      have h4 := congrArg textsW h3
      rw [texts_bytes] at h4
      rw [← h4]
      exact (texts_bytes qs).symm
    · rw [e2] at h2; cases h2
  have D2 : ∀ st, PartSets [112, 105, 101, 99, 101, 115] st → st = .pieces true := by
    intro st h1
    rcases h1 with ⟨h2, _⟩ | ⟨_, h2, _⟩ | ⟨_, _, b, rfl, hb⟩
    · exact absurd h2 (by decide)
    · exact absurd h2 (by decide)
    · rw [hb.2 rfl]
  cases p with
  | false =>
    simp only [Bool.false_eq_true, if_false, List.append_nil] at hm
    obtain ⟨a, b, rfl⟩ : ∃ a b, ps = [a, b] := twoS_of _ (by have := congrArg List.length hm; rw [List.length_map] at this; exact this)
    obtain ⟨s, t, rfl⟩ : ∃ s t, sts = [s, t] := twoS_of _ hl
    simp only [List.map_cons, List.map_nil, List.cons.injEq, and_true] at hm
    rw [D0 _ _ hm.1 (hs 0 a s rfl rfl), D1 _ _ hm.2 (hs 1 b t rfl rfl)]
    rfl
  | true =>
    simp only [if_true] at hm
    obtain ⟨a, b, c, rfl⟩ : ∃ a b c, ps = [a, b, c] := threeS_of _ (by have := congrArg List.length hm; rw [List.length_map] at this; exact this)
    obtain ⟨s, t, u, rfl⟩ : ∃ s t u, sts = [s, t, u] := threeS_of _ hl
    simp only [List.map_cons, List.map_nil, List.cons_append, List.nil_append, List.cons.injEq, and_true] at hm
    have hu := hs 2 c u rfl rfl
    rw [hm.2.2] at hu
    rw [D0 _ _ hm.1 (hs 0 a s rfl rfl), D1 _ _ hm.2.1 (hs 1 b t rfl rfl), D2 _ hu]
    rfl
/-- What the program reads: options that write the text, or none. -/
theorem read_by {s : ByteArray} {rz : Int} {rw : List ByteArray} {rp ok : Bool} (hR : ReadIs s rz rw rp ok) (sts : List Sets) (hl : sts.length = (partsO s).length)
    (hs : ∀ (j : Nat) (x : ByteArray) (st : Sets), (partsO s)[j]? = some x → sts[j]? = some st → PartSets x.data.toList st) (t : ByteArray) (right : Bool) (ht : TextIs (allS sts).1 (allS sts).2.1 (allS sts).2.2 t right) :
    (right = true ∧ t = s ∧ ok = true ∧ rz = (allS sts).1 ∧ rw = (allS sts).2.1 ∧ rp = (allS sts).2.2) ∨ ((right = false ∨ t ≠ s) ∧ ok = false ∧ rz = 0 ∧ rw = [] ∧ rp = false) := by
  rcases hR with ⟨rfl, h1, rfl⟩ | ⟨rfl, h1, rfl, rfl, rfl⟩
  · have h2 := sets_back h1 sts hl hs
    rw [h2] at ht
    rcases ht with ⟨h3, _, h4⟩ | ⟨_, h3, _⟩
    · exact .inl ⟨h3, h4, rfl, by rw [h2], by rw [h2], by rw [h2]⟩
    · exact absurd h1 h3
  · refine .inr ⟨?_, rfl, rfl, rfl, rfl⟩
    rcases ht with ⟨_, h3, h4⟩ | ⟨h3, _⟩
    · exact .inr fun e => h1 _ _ _ h3 (e.symm.trans h4)
    · exact .inl h3

end Go.Proofs.Ytmgdhlodifkemat

/-
  The text of options in plain words: what it is, and that it is read back; no program is spoken of here.
  What the library's splitting tells at a sign of one byte, held against cutAt; shifts of addresses; no program is spoken of here.
-/
import Derived.Test.YtmgdhlodifkematDoorJ11
import Derived.Lib.SplitLaws
namespace Go.Proofs.YtmgdhlodifkematDoor
open Go.RowKit

def optSize : List UInt8 := [115, 105, 122, 101, 32]
def optWays : List UInt8 := [59, 119, 97, 121, 115, 32]
def optEnd (p : Bool) : List UInt8 := if p = true then [59, 112, 105, 101, 99, 101, 115] else []
/-- A text's bytes. -/
def bytesW (ws : List ByteArray) : List (List UInt8) := ws.map (fun x => x.data.toList)
def textsW (ls : List (List UInt8)) : List ByteArray := ls.map (fun l => ⟨l.toArray⟩)
theorem texts_bytes (ws : List ByteArray) : textsW (bytesW ws) = ws := by
  unfold textsW bytesW
  rw [List.map_map]
  exact (List.map_congr_left (g := id) fun x _ => rfl).trans (List.map_id ws)
theorem bytes_texts (ls : List (List UInt8)) : bytesW (textsW ls) = ls := by
  unfold textsW bytesW
  rw [List.map_map]
  exact (List.map_congr_left (g := id) fun x _ => rfl).trans (List.map_id ls)
def optL (z : Nat) (ws : List ByteArray) (p : Bool) : List UInt8 := optSize ++ Lib.decDigits z ++ optWays ++ joinAt 44 (bytesW ws) ++ optEnd p
def optT (z : Nat) (ws : List ByteArray) (p : Bool) : ByteArray := ⟨(optL z ws p).toArray⟩

theorem joinAt_not (x y : UInt8) (hxy : x ≠ y) : ∀ ps : List (List UInt8), (∀ p ∈ ps, y ∉ p) → y ∉ joinAt x ps
  | [], _ => by simp [joinAt]
  | [p], h => by rw [joinAt_one]; exact h p (by simp)
  | p :: q :: t, h => by
    rw [joinAt_more x p (q :: t) (by simp)]
    intro hm
    rcases List.mem_append.1 hm with h1 | h1
    · exact h p (by simp) h1
    · rcases List.mem_cons.1 h1 with h2 | h2
      · exact hxy h2.symm
      · exact joinAt_not x y hxy (q :: t) (fun z hz => h z (List.mem_cons_of_mem _ hz)) h2
theorem joinAt_snoc (x : UInt8) (p : List UInt8) : ∀ ps : List (List UInt8), ps ≠ [] → joinAt x (ps ++ [p]) = joinAt x ps ++ x :: p
  | [], h => absurd rfl h
  | [q], _ => by rw [List.cons_append, List.nil_append, joinAt_more x q [p] (by simp), joinAt_one, joinAt_one]
  | q :: r :: t, _ => by
    rw [List.cons_append, joinAt_more x q (r :: t ++ [p]) (by simp), joinAt_snoc x p (r :: t) (by simp), joinAt_more x q (r :: t) (by simp), List.append_assoc, List.cons_append]
theorem joinAt_len (x : UInt8) (n : Nat) : ∀ ps : List (List UInt8), (∀ p ∈ ps, p.length ≤ n) → (joinAt x ps).length ≤ ps.length * (n + 1)
  | [], _ => by simp [joinAt]
  | [p], h => by rw [joinAt_one]; have := h p (by simp); simp; omega
  | p :: q :: t, h => by
    rw [joinAt_more x p (q :: t) (by simp)]
    have h1 := h p (by simp)
    have h2 := joinAt_len x n (q :: t) (fun z hz => h z (List.mem_cons_of_mem _ hz))
    simp only [List.length_append, List.length_cons, Nat.add_mul, Nat.one_mul] at h2 ⊢
    omega
theorem way_sign {z : Int} {ws : List ByteArray} (h : OptP z ws) {x : ByteArray} (hx : x ∈ ws) : (44 : UInt8) ∉ x.data.toList ∧ (59 : UInt8) ∉ x.data.toList := by
  have h1 := (h.way x hx).1
  refine ⟨fun hm => ?_, fun hm => ?_⟩
  · have h2 := h1 _ hm
    revert h2
    unfold SignW
    decide
  · have h2 := h1 _ hm
    revert h2
    unfold SignW
    decide
theorem opt_cut44 {z : Int} {ws : List ByteArray} (h : OptP z ws) : cutAt 44 [] (joinAt 44 (bytesW ws)) = bytesW ws := by
  refine cut_joinAt 44 _ (fun e => ?_) (fun p hp => ?_)
  · have h1 := h.some1
    have h2 : (bytesW ws).length = ws.length := by unfold bytesW; simp
    rw [e] at h2
    simp at h2
    omega
  · obtain ⟨x, hx, rfl⟩ := List.mem_map.1 hp
    exact (way_sign h hx).1
theorem opt_ways_ne {z : Int} {ws : List ByteArray} (h : OptP z ws) : joinAt 44 (bytesW ws) ≠ [] := by
  obtain ⟨x, t, hws⟩ : ∃ x t, ws = x :: t := by
    cases ws with
    | nil => have := h.some1; simp at this
    | cons x t => exact ⟨x, t, rfl⟩
  have hx := (h.way x (by rw [hws]; simp)).2.1
  have hl : x.data.toList.length = x.size := by simp
  rw [hws]
  intro e
  have h1 : bytesW (x :: t) = x.data.toList :: bytesW t := rfl
  rw [h1] at e
  by_cases ht : bytesW t = []
  · rw [ht, joinAt_one] at e
    rw [e] at hl
    simp at hl
    omega
  · rw [joinAt_more 44 _ _ ht] at e
    simp at e
theorem opt_cut59 {z : Int} {ws : List ByteArray} (h : OptP z ws) (p : Bool) : cutAt 59 [] (optL z.toNat ws p) = [optSize ++ Lib.decDigits z.toNat, [119, 97, 121, 115, 32] ++ joinAt 44 (bytesW ws)] ++ (if p = true then [[112, 105, 101, 99, 101, 115]] else []) := by
  have n1 : (59 : UInt8) ∉ optSize ++ Lib.decDigits z.toNat := fun hm => by
    rcases List.mem_append.1 hm with h1 | h1
    · revert h1
      unfold optSize
      decide
    · have := dec_mem _ _ h1
      revert this
      decide
  have n2 : (59 : UInt8) ∉ [119, 97, 121, 115, 32] ++ joinAt 44 (bytesW ws) := fun hm => by
    rcases List.mem_append.1 hm with h1 | h1
    · revert h1
      decide
    · refine joinAt_not 44 59 (by decide) _ (fun q hq => ?_) h1
      obtain ⟨x, hx, rfl⟩ := List.mem_map.1 hq
      exact (way_sign h hx).2
  have e1 : optL z.toNat ws p = (optSize ++ Lib.decDigits z.toNat) ++ 59 :: (([119, 97, 121, 115, 32] ++ joinAt 44 (bytesW ws)) ++ optEnd p) := by
    unfold optL optWays
    simp
  rw [e1, cutAt_part 59 _ _ [] n1, List.nil_append]
  cases p with
  | false =>
    simp only [optEnd, Bool.false_eq_true, if_false, List.append_nil]
    rw [cutAt_last 59 _ [] n2]
    simp
  | true =>
    simp only [optEnd, if_true]
    rw [show ([59, 112, 105, 101, 99, 101, 115] : List UInt8) = 59 :: [112, 105, 101, 99, 101, 115] from rfl, cutAt_part 59 _ _ [] n2, cutAt_last 59 _ [] (by decide)]
    simp
theorem opt_len {z : Int} {ws : List ByteArray} (h : OptP z ws) (p : Bool) : (optL z.toNat ws p).length ≤ 100 := by
  have h1 := dec_length 2 z.toNat (by omega) (by have := h.sizeR; omega)
  have h2 := joinAt_len 44 8 (bytesW ws) (fun q hq => by
    obtain ⟨x, hx, rfl⟩ := List.mem_map.1 hq
    have := (h.way x hx).2.2
    simpa using this)
  have h3 : (bytesW ws).length = ws.length := by unfold bytesW; simp
  have h4 := h.few
  have h5 : (optEnd p).length ≤ 7 := by unfold optEnd; split <;> simp
  unfold optL optSize optWays
  simp only [List.length_append, List.length_cons, List.length_nil]
  rw [h3] at h2
  omega
theorem opt_inj {z z' : Int} {ws ws' : List ByteArray} {p p' : Bool} (h : OptP z ws) (h' : OptP z' ws') (e : optL z.toNat ws p = optL z'.toNat ws' p') : z = z' ∧ ws = ws' ∧ p = p' := by
  have h1 := opt_cut59 h p
  rw [e, opt_cut59 h' p'] at h1
  have hp : p = p' := by
    cases p <;> cases p' <;> simp at h1 <;> rfl
  subst hp
  have h2 := List.append_cancel_right h1
  simp only [List.cons.injEq, and_true] at h2
  have h3 := dec_inj _ _ (List.append_cancel_left h2.1)
  have h4 := List.append_cancel_left h2.2
  have h5 := opt_cut44 h
  rw [← h4, opt_cut44 h'] at h5
  have h6 := congrArg textsW h5
  rw [texts_bytes, texts_bytes] at h6
  have := h.sizeR
  have := h'.sizeR
  exact ⟨by omega, h6.symm, rfl⟩
/-- The text of options, or none. -/
def TextIs (z : Int) (ws : List ByteArray) (p : Bool) (t : ByteArray) (ok : Bool) : Prop := (ok = true ∧ OptP z ws ∧ t = optT z.toNat ws p) ∨ (ok = false ∧ ¬ OptP z ws ∧ t = ⟨#[]⟩)
theorem text_is (z : Int) (ws : List ByteArray) (p : Bool) : ∃ t ok, TextIs z ws p t ok := by
  by_cases h : OptP z ws
  · exact ⟨_, true, .inl ⟨rfl, h, rfl⟩⟩
  · exact ⟨_, false, .inr ⟨rfl, h, rfl⟩⟩
theorem text_few {z : Int} {ws : List ByteArray} {p : Bool} {t : ByteArray} {ok : Bool} (h : TextIs z ws p t ok) : t.size ≤ 100 := by
  rcases h with ⟨_, h, rfl⟩ | ⟨_, _, rfl⟩
  · exact opt_len h p
  · exact Nat.zero_le _
/-- The options of a text, or none. -/
def ReadIs (s : ByteArray) (z : Int) (ws : List ByteArray) (p : Bool) (ok : Bool) : Prop := (ok = true ∧ OptP z ws ∧ s = optT z.toNat ws p) ∨ (ok = false ∧ (∀ z' ws' p', OptP z' ws' → s ≠ optT z'.toNat ws' p') ∧ z = 0 ∧ ws = [] ∧ p = false)
theorem read_is (s : ByteArray) : ∃ z ws p ok, ReadIs s z ws p ok := by
  by_cases h : ∃ z ws p, OptP z ws ∧ s = optT z.toNat ws p
  · obtain ⟨z, ws, p, h1, h2⟩ := h
    exact ⟨z, ws, p, true, .inl ⟨rfl, h1, h2⟩⟩
  · exact ⟨0, [], false, false, .inr ⟨rfl, fun z' ws' p' h1 h2 => h ⟨z', ws', p', h1, h2⟩, rfl, rfl, rfl⟩⟩
theorem optT_inj {z z' : Int} {ws ws' : List ByteArray} {p p' : Bool} (h : OptP z ws) (h' : OptP z' ws') (e : optT z.toNat ws p = optT z'.toNat ws' p') : z = z' ∧ ws = ws' ∧ p = p' := by
  refine opt_inj h h' ?_
  have := congrArg (fun t : ByteArray => t.data.toList) e
  simpa [optT] using this
/-- What is read, where it is found. -/
theorem read_found {s : ByteArray} {z z' : Int} {ws ws' : List ByteArray} {p p' ok : Bool} (h : ReadIs s z ws p ok) (h1 : OptP z' ws') (h2 : s = optT z'.toNat ws' p') : ok = true ∧ z' = z ∧ ws' = ws ∧ p' = p := by
  rcases h with ⟨h3, h4, h5⟩ | ⟨_, h3, _⟩
  · obtain ⟨a, b, c⟩ := optT_inj h1 h4 (h2.symm.trans h5)
    exact ⟨h3, a, b, c⟩
  · exact absurd h2 (h3 _ _ _ h1)
theorem read_few {s : ByteArray} {z : Int} {ws : List ByteArray} {p ok : Bool} (h : ReadIs s z ws p ok) : ws.length ≤ 4 := by
  rcases h with ⟨_, h, _⟩ | ⟨_, _, _, rfl, _⟩
  · exact h.few
  · simp
/-- What the parts of a right text are. -/
theorem read_parts {s : ByteArray} {z : Int} {ws : List ByteArray} {p : Bool} (h : ReadIs s z ws p true) : ∃ a b : List UInt8, cutAt 59 [] s.data.toList = [optSize ++ a, [119, 97, 121, 115, 32] ++ b] ++ (if p = true then [[112, 105, 101, 99, 101, 115]] else []) ∧ a ≠ [] ∧ b ≠ [] ∧ a = Lib.decDigits z.toNat ∧ cutAt 44 [] b = bytesW ws ∧ OptP z ws ∧ s = optT z.toNat ws p := by
  rcases h with ⟨_, h1, h2⟩ | ⟨h, _⟩
  · refine ⟨_, _, ?_, dec_ne _, opt_ways_ne h1, rfl, opt_cut44 h1, h1, h2⟩
    rw [← opt_cut59 h1 p, h2]
    rfl
  · cases h

end Go.Proofs.YtmgdhlodifkematDoor
namespace Go.Proofs.YtmgdhlodifkematDoor
open Go.RowKit

/-- A text has the sign, and then this is what stands ahead of it and behind it; or it has it not. -/
theorem one_cases (x : UInt8) : ∀ l : List UInt8, (Lib.index l [x] = -1 ∧ x ∉ l) ∨ ∃ p r, l = p ++ x :: r ∧ x ∉ p ∧ Lib.index l [x] = (p.length : Int)
  | [] => .inl ⟨by simp [Lib.index], by simp⟩
  | b :: l => by
    by_cases h : b = x
    · subst h
      exact .inr ⟨[], l, rfl, by simp, by rw [Lib.index]; simp [List.isPrefixOf]⟩
    · have hp : ([x] : List UInt8).isPrefixOf (b :: l) = false := by simp [List.isPrefixOf, Ne.symm h]
      have hix : Lib.index (b :: l) [x] = if Lib.index l [x] == -1 then -1 else Lib.index l [x] + 1 := by rw [Lib.index, hp]; simp
      rcases one_cases x l with ⟨h1, h2⟩ | ⟨p, r, h1, h2, h3⟩
      · refine .inl ⟨by rw [hix, if_pos (beq_iff_eq.2 h1)], ?_⟩
        rw [List.mem_cons]
        rintro (e | e)
        · exact h e.symm
        · exact h2 e
      · refine .inr ⟨b :: p, r, by rw [h1]; rfl, ?_, ?_⟩
        · rw [List.mem_cons]
          rintro (e | e)
          · exact h e.symm
          · exact h2 e
        · rw [hix, if_neg (fun e => by have := beq_iff_eq.1 e; omega), h3]
          simp
theorem cutAt_pos (x : UInt8) (cur l : List UInt8) : 1 ≤ (cutAt x cur l).length := by
  have := cutAt_ne x l cur
  exact List.length_pos_iff.2 this
theorem splitK_hit (x : UInt8) (k : Nat) (p r : List UInt8) (h : Lib.index (p ++ x :: r) [x] = (p.length : Int)) : Lib.splitK [x] 0 (k + 1) (p ++ x :: r) = p :: Lib.splitK [x] 0 k r := by
  have hm : ¬ (Lib.index (p ++ x :: r) [x] == -1) = true := fun e => by have := beq_iff_eq.1 e; omega
  rw [Lib.splitK, if_neg hm, h]
  simp
/-- What is cut at k places at most: all of it where there are not more, else k + 1 parts. -/
theorem splitK_cut (x : UInt8) : ∀ (k : Nat) (l : List UInt8), ((cutAt x [] l).length ≤ k + 1 → Lib.splitK [x] 0 k l = cutAt x [] l) ∧ (Lib.splitK [x] 0 k l).length = min (k + 1) (cutAt x [] l).length
  | 0, l => by
    have hpos := cutAt_pos x [] l
    refine ⟨fun h => ?_, ?_⟩
    · rcases one_cases x l with ⟨_, h2⟩ | ⟨p, r, rfl, h2, _⟩
      · rw [cutAt_last x l [] h2]; rfl
      · rw [cutAt_part x r p [] h2, List.length_cons] at h
        have := cutAt_pos x [] r
        omega
    · show 1 = _
      omega
  | k + 1, l => by
    rcases one_cases x l with ⟨h1, h2⟩ | ⟨p, r, rfl, h2, h3⟩
    · have e : Lib.splitK [x] 0 (k + 1) l = [l] := by rw [Lib.splitK, if_pos (beq_iff_eq.2 h1)]
      rw [e, cutAt_last x l [] h2]
      exact ⟨fun _ => rfl, by simp⟩
    · obtain ⟨ih1, ih2⟩ := splitK_cut x k r
      rw [splitK_hit x k p r h3, cutAt_part x r p [] h2]
      refine ⟨fun h => ?_, ?_⟩
      · rw [ih1 (by simpa using h)]; rfl
      · rw [List.length_cons, List.length_cons, ih2]
        omega
/-- A text split into five parts at most: four of them are just those that it has. -/
theorem split_five (x : UInt8) (s : ByteArray) : (Lib.splitB ⟨#[x]⟩ 0 (min 5 (s.size + 1) - 1) s).length ≤ 5 ∧
    ((cutAt x [] s.data.toList).length = 4 → (Lib.splitB ⟨#[x]⟩ 0 (min 5 (s.size + 1) - 1) s).map (·.data.toList) = cutAt x [] s.data.toList) ∧
    ((Lib.splitB ⟨#[x]⟩ 0 (min 5 (s.size + 1) - 1) s).length = 4 → (cutAt x [] s.data.toList).length = 4) := by
  have hd := Lib.splitB_data ⟨#[x]⟩ 0 (min 5 (s.size + 1) - 1) s
  have hl : s.data.toList.length = s.size := by simp
  have hc := cutAt_count x s.data.toList []
  have e : (⟨#[x]⟩ : ByteArray).data.toList = [x] := rfl
  rw [e] at hd
  have hlen : (Lib.splitB ⟨#[x]⟩ 0 (min 5 (s.size + 1) - 1) s).length = (Lib.splitK [x] 0 (min 5 (s.size + 1) - 1) s.data.toList).length := by rw [← hd, List.length_map]
  obtain ⟨h1, h2⟩ := splitK_cut x (min 5 (s.size + 1) - 1) s.data.toList
  refine ⟨?_, fun h => ?_, fun h => ?_⟩
  · rw [hlen, h2]; omega
  · rw [hd, h1 (by omega)]
  · rw [hlen, h2] at h
    omega
/-- A text cut once. -/
theorem cut_one (x : UInt8) (s : ByteArray) : (x ∉ s.data.toList ∧ (Lib.cut s.data.toList [x]).1 = s.data.toList ∧ (Lib.cut s.data.toList [x]).2.1 = []) ∨
    ∃ p r, s.data.toList = p ++ x :: r ∧ x ∉ p ∧ (Lib.cut s.data.toList [x]).1 = p ∧ (Lib.cut s.data.toList [x]).2.1 = r := by
  rcases one_cases x s.data.toList with ⟨h1, h2⟩ | ⟨p, r, h1, h2, h3⟩
  · refine .inl ⟨h2, ?_⟩
    unfold Lib.cut
    rw [h1, if_neg (by omega)]
    exact ⟨rfl, rfl⟩
  · refine .inr ⟨p, r, h1, h2, ?_⟩
    unfold Lib.cut
    rw [h3, if_pos (by omega), h1]
    simp

/-- The figures of one byte, value by value. -/
def figVal (l : List UInt8) : Nat := l.foldl (fun o x => 10 * o + (x.toNat - 48)) 0
theorem figVal_snoc (l : List UInt8) (x : UInt8) : figVal (l ++ [x]) = 10 * figVal l + (x.toNat - 48) := by simp [figVal]

theorem snoc_ind {α : Type} {P : List α → Prop} (h0 : P []) (h1 : ∀ l x, P l → P (l ++ [x])) (l : List α) : P l := by
  have h : ∀ r : List α, P r.reverse := by
    intro r
    induction r with
    | nil => exact h0
    | cons x r ih => rw [List.reverse_cons]; exact h1 _ _ ih
  have := h l.reverse
  rwa [List.reverse_reverse] at this
theorem figVal_map (qs : List Nat) : (∀ q ∈ qs, q < 10) → figVal (qs.map fig) = valD qs := by
  refine snoc_ind (P := fun qs => (∀ q ∈ qs, q < 10) → figVal (qs.map fig) = valD qs) (fun _ => rfl) (fun l x ih h => ?_) qs
  rw [List.map_append, List.map_cons, List.map_nil, figVal_snoc, valD_snoc, ih (fun q hq => h q (by simp [hq])), digit_toNat x (h x (by simp))]
  omega
theorem figVal_dec (n : Nat) : figVal (Lib.decDigits n) = n := by
  obtain ⟨qs, h1, _, h3, h4⟩ := dec_back n n (Nat.le_refl _)
  rw [h3, figVal_map qs h1, h4]
theorem figVal_more (a b : List UInt8) : figVal a ≤ figVal (a ++ b) := by
  refine snoc_ind (P := fun b => figVal a ≤ figVal (a ++ b)) (by simp) (fun l x ih => ?_) b
  rw [← List.append_assoc, figVal_snoc]
  omega
theorem figVal_take (l : List UInt8) (i : Nat) : figVal (l.take i) ≤ figVal l := by
  have := figVal_more (l.take i) (l.drop i)
  rwa [List.take_append_drop] at this

/-- An address without its last bits. -/
theorem shift_first (a n : Nat) : a >>> (32 - n) <<< (32 - n) = firstP a n := by
  rw [Nat.shiftRight_eq_div_pow, Nat.shiftLeft_eq]
  unfold firstP sizeP
  have h := Nat.div_add_mod a (2 ^ (32 - n))
  have e : a / 2 ^ (32 - n) * 2 ^ (32 - n) = 2 ^ (32 - n) * (a / 2 ^ (32 - n)) := Nat.mul_comm _ _
  omega

end Go.Proofs.YtmgdhlodifkematDoor

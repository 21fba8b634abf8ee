/-
  The text of options in plain words: what it is, and that it is read back; no program is spoken of here.
  The given cut of a text at a sign.
  The given ReadDecimal by what it answers at every text.
  The given ReadDecimal by its answer; the given ReadAddr.
  The given AddrOk and AddrText; how many addresses a prefix has.
-/
import Derived.Test.YtmgdhlodifkemasDoorJ05
import Derived.Test.YtmgdhlodifkemasDoorRows
import Derived.Test.YtmgdhlodifkemasDoorJ01
import Derived.Test.YtmgdhlodifkemasDoorJ09
import Derived.Test.YtmgdhlodifkemasDoorJ02
import Derived.Test.YtmgdhlodifkemasDoorJ03
import Derived.Test.YtmgdhlodifkemasDoorJ11
namespace Go.Proofs.YtmgdhlodifkemasDoor
open Go.RowKit

def optSize : List UInt8 := [115, 105, 122, 101, 32]
def optWays : List UInt8 := [59, 119, 97, 121, 115, 32]
def optEnd (p : Bool) : List UInt8 := if p = true then [59, 112, 105, 101, 99, 101, 115] else []
/-- A text's bytes. -/
def bytesW (ws : List ByteArray) : List (List UInt8) := ws.map (fun x => x.data.toList)
def textsW (ls : List (List UInt8)) : List ByteArray := ls.map (fun l => ⟨l.toArray⟩)
theorem texts_bytes (ws : List ByteArray) : textsW (bytesW ws) = ws := by
  unfold textsW bytesW
  rw [List.map_map]
  exact (List.map_congr_left (g := id) fun x _ => rfl).trans (List.map_id ws)
theorem bytes_texts (ls : List (List UInt8)) : bytesW (textsW ls) = ls := by
  unfold textsW bytesW
  rw [List.map_map]
  exact (List.map_congr_left (g := id) fun x _ => rfl).trans (List.map_id ls)
def optL (z : Nat) (ws : List ByteArray) (p : Bool) : List UInt8 := optSize ++ Lib.decDigits z ++ optWays ++ joinAt 44 (bytesW ws) ++ optEnd p
def optT (z : Nat) (ws : List ByteArray) (p : Bool) : ByteArray := ⟨(optL z ws p).toArray⟩

theorem joinAt_not (x y : UInt8) (hxy : x ≠ y) : ∀ ps : List (List UInt8), (∀ p ∈ ps, y ∉ p) → y ∉ joinAt x ps
  | [], _ => by simp [joinAt]
  | [p], h => by rw [joinAt_one]; exact h p (by simp)
  | p :: q :: t, h => by
    rw [joinAt_more x p (q :: t) (by simp)]
    intro hm
    rcases List.mem_append.1 hm with h1 | h1
    · exact h p (by simp) h1
    · rcases List.mem_cons.1 h1 with h2 | h2
      · exact hxy h2.symm
      · exact joinAt_not x y hxy (q :: t) (fun z hz => h z (List.mem_cons_of_mem _ hz)) h2
theorem joinAt_snoc (x : UInt8) (p : List UInt8) : ∀ ps : List (List UInt8), ps ≠ [] → joinAt x (ps ++ [p]) = joinAt x ps ++ x :: p
  | [], h => absurd rfl h
  | [q], _ => by rw [List.cons_append, List.nil_append, joinAt_more x q [p] (by simp), joinAt_one, joinAt_one]
  | q :: r :: t, _ => by
    rw [List.cons_append, joinAt_more x q (r :: t ++ [p]) (by simp), joinAt_snoc x p (r :: t) (by simp), joinAt_more x q (r :: t) (by simp), List.append_assoc, List.cons_append]
theorem joinAt_len (x : UInt8) (n : Nat) : ∀ ps : List (List UInt8), (∀ p ∈ ps, p.length ≤ n) → (joinAt x ps).length ≤ ps.length * (n + 1)
  | [], _ => by simp [joinAt]
  | [p], h => by rw [joinAt_one]; have := h p (by simp); simp; omega
  | p :: q :: t, h => by
    rw [joinAt_more x p (q :: t) (by simp)]
    have h1 := h p (by simp)
    have h2 := joinAt_len x n (q :: t) (fun z hz => h z (List.mem_cons_of_mem _ hz))
    simp only [List.length_append, List.length_cons, Nat.add_mul, Nat.one_mul] at h2 ⊢
    omega
theorem way_sign {z : Int} {ws : List ByteArray} (h : OptP z ws) {x : ByteArray} (hx : x ∈ ws) : (44 : UInt8) ∉ x.data.toList ∧ (59 : UInt8) ∉ x.data.toList := by
  have h1 := (h.way x hx).1
  refine ⟨fun hm => ?_, fun hm => ?_⟩
  · have h2 := h1 _ hm
    revert h2
    unfold SignW
    decide
  · have h2 := h1 _ hm
    revert h2
    unfold SignW
    decide
theorem opt_cut44 {z : Int} {ws : List ByteArray} (h : OptP z ws) : cutAt 44 [] (joinAt 44 (bytesW ws)) = bytesW ws := by
  refine cut_joinAt 44 _ (fun e => ?_) (fun p hp => ?_)
  · have h1 := h.some1
    have h2 : (bytesW ws).length = ws.length := by unfold bytesW; simp
    rw [e] at h2
    simp at h2
    omega
  · obtain ⟨x, hx, rfl⟩ := List.mem_map.1 hp
    exact (way_sign h hx).1
theorem opt_ways_ne {z : Int} {ws : List ByteArray} (h : OptP z ws) : joinAt 44 (bytesW ws) ≠ [] := by
  obtain ⟨x, t, hws⟩ : ∃ x t, ws = x :: t := by
    cases ws with
    | nil => have := h.some1; simp at this
    | cons x t => exact ⟨x, t, rfl⟩
  have hx := (h.way x (by rw [hws]; simp)).2.1
  have hl : x.data.toList.length = x.size := by simp
  rw [hws]
  intro e
  have h1 : bytesW (x :: t) = x.data.toList :: bytesW t := rfl
  rw [h1] at e
  by_cases ht : bytesW t = []
  · rw [ht, joinAt_one] at e
    rw [e] at hl
    simp at hl
    omega
  · rw [joinAt_more 44 _ _ ht] at e
    simp at e
theorem opt_cut59 {z : Int} {ws : List ByteArray} (h : OptP z ws) (p : Bool) : cutAt 59 [] (optL z.toNat ws p) = [optSize ++ Lib.decDigits z.toNat, [119, 97, 121, 115, 32] ++ joinAt 44 (bytesW ws)] ++ (if p = true then [[112, 105, 101, 99, 101, 115]] else []) := by
  have n1 : (59 : UInt8) ∉ optSize ++ Lib.decDigits z.toNat := fun hm => by
    rcases List.mem_append.1 hm with h1 | h1
    · revert h1
      unfold optSize
      decide
    · have := dec_mem _ _ h1
      revert this
      decide
  have n2 : (59 : UInt8) ∉ [119, 97, 121, 115, 32] ++ joinAt 44 (bytesW ws) := fun hm => by
    rcases List.mem_append.1 hm with h1 | h1
    · revert h1
      decide
    · refine joinAt_not 44 59 (by decide) _ (fun q hq => ?_) h1
      obtain ⟨x, hx, rfl⟩ := List.mem_map.1 hq
      exact (way_sign h hx).2
  have e1 : optL z.toNat ws p = (optSize ++ Lib.decDigits z.toNat) ++ 59 :: (([119, 97, 121, 115, 32] ++ joinAt 44 (bytesW ws)) ++ optEnd p) := by
    unfold optL optWays
    simp
  rw [e1, cutAt_part 59 _ _ [] n1, List.nil_append]
  cases p with
  | false =>
    simp only [optEnd, Bool.false_eq_true, if_false, List.append_nil]
    rw [cutAt_last 59 _ [] n2]
    simp
  | true =>
    simp only [optEnd, if_true]
    rw [show ([59, 112, 105, 101, 99, 101, 115] : List UInt8) = 59 :: [112, 105, 101, 99, 101, 115] from rfl, cutAt_part 59 _ _ [] n2, cutAt_last 59 _ [] (by decide)]
    simp
theorem opt_len {z : Int} {ws : List ByteArray} (h : OptP z ws) (p : Bool) : (optL z.toNat ws p).length ≤ 100 := by
  have h1 := dec_length 2 z.toNat (by omega) (by have := h.sizeR; omega)
  have h2 := joinAt_len 44 8 (bytesW ws) (fun q hq => by
    obtain ⟨x, hx, rfl⟩ := List.mem_map.1 hq
    have := (h.way x hx).2.2
    simpa using this)
  have h3 : (bytesW ws).length = ws.length := by unfold bytesW; simp
  have h4 := h.few
  have h5 : (optEnd p).length ≤ 7 := by unfold optEnd; split <;> simp
  unfold optL optSize optWays
  simp only [List.length_append, List.length_cons, List.length_nil]
  rw [h3] at h2
  omega
theorem opt_inj {z z' : Int} {ws ws' : List ByteArray} {p p' : Bool} (h : OptP z ws) (h' : OptP z' ws') (e : optL z.toNat ws p = optL z'.toNat ws' p') : z = z' ∧ ws = ws' ∧ p = p' := by
  have h1 := opt_cut59 h p
  rw [e, opt_cut59 h' p'] at h1
  have hp : p = p' := by
    cases p <;> cases p' <;> simp at h1 <;> rfl
  subst hp
  have h2 := List.append_cancel_right h1
  simp only [List.cons.injEq, and_true] at h2
  have h3 := dec_inj _ _ (List.append_cancel_left h2.1)
  have h4 := List.append_cancel_left h2.2
  have h5 := opt_cut44 h
  rw [← h4, opt_cut44 h'] at h5
  have h6 := congrArg textsW h5
  rw [texts_bytes, texts_bytes] at h6
  have := h.sizeR
  have := h'.sizeR
  exact ⟨by omega, h6.symm, rfl⟩
/-- The text of options, or none. -/
def TextIs (z : Int) (ws : List ByteArray) (p : Bool) (t : ByteArray) (ok : Bool) : Prop := (ok = true ∧ OptP z ws ∧ t = optT z.toNat ws p) ∨ (ok = false ∧ ¬ OptP z ws ∧ t = ⟨#[]⟩)
theorem text_is (z : Int) (ws : List ByteArray) (p : Bool) : ∃ t ok, TextIs z ws p t ok := by
  by_cases h : OptP z ws
  · exact ⟨_, true, .inl ⟨rfl, h, rfl⟩⟩
  · exact ⟨_, false, .inr ⟨rfl, h, rfl⟩⟩
theorem text_few {z : Int} {ws : List ByteArray} {p : Bool} {t : ByteArray} {ok : Bool} (h : TextIs z ws p t ok) : t.size ≤ 100 := by
  rcases h with ⟨_, h, rfl⟩ | ⟨_, _, rfl⟩
  · exact opt_len h p
  · exact Nat.zero_le _
/-- The options of a text, or none. -/
def ReadIs (s : ByteArray) (z : Int) (ws : List ByteArray) (p : Bool) (ok : Bool) : Prop := (ok = true ∧ OptP z ws ∧ s = optT z.toNat ws p) ∨ (ok = false ∧ (∀ z' ws' p', OptP z' ws' → s ≠ optT z'.toNat ws' p') ∧ z = 0 ∧ ws = [] ∧ p = false)
theorem read_is (s : ByteArray) : ∃ z ws p ok, ReadIs s z ws p ok := by
  by_cases h : ∃ z ws p, OptP z ws ∧ s = optT z.toNat ws p
  · obtain ⟨z, ws, p, h1, h2⟩ := h
    exact ⟨z, ws, p, true, .inl ⟨rfl, h1, h2⟩⟩
  · exact ⟨0, [], false, false, .inr ⟨rfl, fun z' ws' p' h1 h2 => h ⟨z', ws', p', h1, h2⟩, rfl, rfl, rfl⟩⟩
theorem optT_inj {z z' : Int} {ws ws' : List ByteArray} {p p' : Bool} (h : OptP z ws) (h' : OptP z' ws') (e : optT z.toNat ws p = optT z'.toNat ws' p') : z = z' ∧ ws = ws' ∧ p = p' := by
  refine opt_inj h h' ?_
  have := congrArg (fun t : ByteArray => t.data.toList) e
  simpa [optT] using this
/-- What is read, where it is found. -/
theorem read_found {s : ByteArray} {z z' : Int} {ws ws' : List ByteArray} {p p' ok : Bool} (h : ReadIs s z ws p ok) (h1 : OptP z' ws') (h2 : s = optT z'.toNat ws' p') : ok = true ∧ z' = z ∧ ws' = ws ∧ p' = p := by
  rcases h with ⟨h3, h4, h5⟩ | ⟨_, h3, _⟩
  · obtain ⟨a, b, c⟩ := optT_inj h1 h4 (h2.symm.trans h5)
    exact ⟨h3, a, b, c⟩
  · exact absurd h2 (h3 _ _ _ h1)
theorem read_few {s : ByteArray} {z : Int} {ws : List ByteArray} {p ok : Bool} (h : ReadIs s z ws p ok) : ws.length ≤ 4 := by
  rcases h with ⟨_, h, _⟩ | ⟨_, _, _, rfl, _⟩
  · exact h.few
  · simp
/-- What the parts of a right text are. -/
theorem read_parts {s : ByteArray} {z : Int} {ws : List ByteArray} {p : Bool} (h : ReadIs s z ws p true) : ∃ a b : List UInt8, cutAt 59 [] s.data.toList = [optSize ++ a, [119, 97, 121, 115, 32] ++ b] ++ (if p = true then [[112, 105, 101, 99, 101, 115]] else []) ∧ a ≠ [] ∧ b ≠ [] ∧ a = Lib.decDigits z.toNat ∧ cutAt 44 [] b = bytesW ws ∧ OptP z ws ∧ s = optT z.toNat ws p := by
  rcases h with ⟨_, h1, h2⟩ | ⟨h, _⟩
  · refine ⟨_, _, ?_, dec_ne _, opt_ways_ne h1, rfl, opt_cut44 h1, h1, h2⟩
    rw [← opt_cut59 h1 p, h2]
    rfl
  · cases h

end Go.Proofs.YtmgdhlodifkemasDoor
namespace Go.Proofs.YtmgdhlodifkemasDoor
open Go.RowKit

theorem infoText : (Tryd.prog.info? 9).map (fun i => (i.zero, i.size, i.bytes)) = some (some (.string ByteArray.empty), 1, 16) := by kernel_rfl
theorem part_text (s : ByteArray) (b i : Nat) : s.extract b i = ⟨(seg s.data.toList b i).toArray⟩ := Lib.extract_eq s b i

end Go.Proofs.YtmgdhlodifkemasDoor
namespace Go.Proofs.YtmgdhlodifkemasDoor
open Go.RowKit

end Go.Proofs.YtmgdhlodifkemasDoor
namespace Go.Proofs.YtmgdhlodifkemasDoor
open Go.RowKit

/-- What numbers read so far make. -/
def byteVal (ns : List Nat) : Nat := ns.foldl (fun o n => 256 * o + n) 0
theorem byteVal_snoc (ns : List Nat) (n : Nat) : byteVal (ns ++ [n]) = 256 * byteVal ns + n := by simp [byteVal]
theorem byteVal_next (v n k : Nat) (hv : v < 256 ^ k) (hn : n < 256) : 256 * v + n < 256 ^ (k + 1) := by
  rw [Nat.pow_succ]
  omega
theorem four_of (ns : List Nat) (h : ns.length = 4) : ∃ a b c d, ns = [a, b, c, d] := by
  match ns, h with
  | [a, b, c, d], _ => exact ⟨a, b, c, d, rfl⟩
/-- A part that is no number of one byte: the text is no address. -/
theorem no_addr (l : List UInt8) (ps : List (List UInt8)) (hc : cutAt 46 [] l = ps) (i : Nat) (hi : i < 4) (h : ∀ m, m < 256 → Lib.decDigits m ≠ ps.getD i []) (a : Nat) (ha : a ≤ 4294967295) : l ≠ addrL a := by
  intro e
  rw [e, cut_addr] at hc
  subst hc
  match i, hi with
  | 0, _ => exact h _ (by omega) rfl
  | 1, _ => exact h _ (by omega) rfl
  | 2, _ => exact h _ (by omega) rfl
  | 3, _ => exact h _ (by omega) rfl
theorem no_addr_count (l : List UInt8) (h : (cutAt 46 [] l).length ≠ 4) (a : Nat) : l ≠ addrL a := by
  intro e
  rw [e, cut_addr] at h
  exact h rfl
theorem yes_addr (l : List UInt8) (ns : List Nat) (h4 : ns.length = 4) (hn : ∀ n ∈ ns, n < 256) (hm : ns.map Lib.decDigits = cutAt 46 [] l) : l = addrL (byteVal ns) ∧ byteVal ns ≤ 4294967295 := by
  obtain ⟨a, b, c, d, rfl⟩ := four_of ns h4
  obtain ⟨x, hx, hl, he⟩ := addr_parts l _ _ _ _ hm.symm a b c d (hn a (by simp)) (hn b (by simp)) (hn c (by simp)) (hn d (by simp)) rfl rfl rfl rfl
  have e : byteVal [a, b, c, d] = x := by
    rw [he]
    simp [byteVal]
  rw [e]
  exact ⟨hl, hx⟩
/-- How reading an address ends. -/
def AddrEnd (s : ByteArray) (e : Ending) : Prop :=
  (∃ a, a ≤ 4294967295 ∧ s.data.toList = addrL a ∧ e = .returned (.tuple #[.int .i64 (a : Nat), .bool true])) ∨ ((∀ a, a ≤ 4294967295 → s.data.toList ≠ addrL a) ∧ e = .returned (.tuple #[.int .i64 0, .bool false]))

end Go.Proofs.YtmgdhlodifkemasDoor
namespace Go.Proofs.YtmgdhlodifkemasDoor
open Go.RowKit

theorem specDecimal_nat (n : Nat) (h : n ≤ 1000000000) (w : World) :
    Calls Tryd.prog 11 #[.int .i64 n] w fun e w' => e = .returned (.string ⟨(Lib.decDigits n).toArray⟩) ∧ Below w.heap.size w w' := by
  have := specDecimal_any (n : Int) (by omega) (by omega) w
  rw [Lib.itoa_nonneg] at this
  exact this

theorem dec_few (n : Nat) (h : n < 1000) : (⟨(Lib.decDigits n).toArray⟩ : ByteArray).size ≤ 3 := by
  show (Lib.decDigits n).toArray.size ≤ 3
  rw [List.size_toArray]
  exact dec_length 3 n (by omega) (by omega)
theorem addr_texts (a : Nat) : addrP a = (⟨(Lib.decDigits (a / 16777216)).toArray⟩ : ByteArray) ++ ⟨#[46]⟩ ++ ⟨(Lib.decDigits (a / 65536 % 256)).toArray⟩ ++ ⟨#[46]⟩ ++ ⟨(Lib.decDigits (a / 256 % 256)).toArray⟩ ++ ⟨#[46]⟩ ++ ⟨(Lib.decDigits (a % 256)).toArray⟩ := by
  unfold addrP addrL
  rw [joinAt_four]
  apply ByteArray.ext
  apply Array.ext'
  simp

end Go.Proofs.YtmgdhlodifkemasDoor

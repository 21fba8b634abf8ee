/-
  Pieces that come in turn, from wherever it begins, are whole again behind the last one; no program is spoken of here.
  Two lists of texts that are the same are told so.
  What the law on pieces asks of the program.
  Rows and variables of different types lie apart; no program is spoken of here.
  The given l20Copy: a shelf that is copied.
-/
import Derived.Test.YtfhlpgngeiploaaJ12
import Derived.Test.YtfhlpgngeiploaaJ05
import Derived.Test.YtfhlpgngeiploaaJ10
import Derived.Test.YtfhlpgngeiploaaJ13
import Derived.Test.YtfhlpgngeiploaaJ14
namespace Go.Proofs.Ytfhlpgngeiploaa

/-- The piece at a place, without its head. -/
def segP (size : Nat) (s : ByteArray) (i : Nat) : ByteArray := s.extract (i * size) (min ((i + 1) * size) s.size)
/-- Which piece comes. -/
def turnN (n turn i : Nat) : Nat := (i + turn) % n
/-- Whether it came. -/
def hadB (n turn k i : Nat) : Bool := (List.range k).any (fun m => turnN n turn m == i)
theorem had_iff {n turn k i : Nat} : hadB n turn k i = true ↔ ∃ m, m < k ∧ turnN n turn m = i := by
  unfold hadB
  rw [List.any_eq_true]
  constructor
  · rintro ⟨m, hm, h⟩
    exact ⟨m, List.mem_range.1 hm, by simpa using h⟩
  · rintro ⟨m, hm, h⟩
    exact ⟨m, List.mem_range.2 hm, by simpa using h⟩
theorem turn_lt {n turn i : Nat} (hn : 0 < n) : turnN n turn i < n := Nat.mod_lt _ hn
theorem turn_inj {n turn a b : Nat} (ha : a < n) (hb : b < n) (h : turnN n turn a = turnN n turn b) : a = b := by
  unfold turnN at h
  have h1 : (a + turn) % n = (a + turn % n) % n := by rw [Nat.add_mod_mod]
  have h2 : (b + turn) % n = (b + turn % n) % n := by rw [Nat.add_mod_mod]
  have hr := Nat.mod_lt turn (show 0 < n by omega)
  rw [h1, h2] at h
  generalize turn % n = r at h hr
  have e : ∀ x, x < n → (x + r) % n = if x + r < n then x + r else x + r - n := fun x hx => by
    split
    · rename_i q; exact Nat.mod_eq_of_lt q
    · rw [Nat.mod_eq_sub_mod (by omega)]
      exact Nat.mod_eq_of_lt (by omega)
  rw [e a ha, e b hb] at h
  split at h <;> split at h <;> omega
theorem turn_all {n turn i : Nat} (hi : i < n) : ∃ m, m < n ∧ turnN n turn m = i := by
  have hr := Nat.mod_lt turn (show 0 < n by omega)
  refine ⟨(i + (n - turn % n)) % n, Nat.mod_lt _ (by omega), ?_⟩
  unfold turnN
  rw [Nat.mod_add_mod, ← Nat.add_mod_mod]
  generalize turn % n = r at hr ⊢
  rw [show i + (n - r) + r = i + n by omega, Nat.add_mod_right]
  exact Nat.mod_eq_of_lt hi
theorem had_next (n turn k i : Nat) : hadB n turn (k + 1) i = (hadB n turn k i || turnN n turn k == i) := by
  unfold hadB
  rw [List.range_succ, List.any_append]
  simp
theorem had_new {n turn k : Nat} (hk : k < n) : hadB n turn k (turnN n turn k) = false := by
  rw [Bool.eq_false_iff]
  intro h
  obtain ⟨m, hm, e⟩ := had_iff.1 h
  have := turn_inj (by omega) hk e
  omega
theorem had_all {n turn i : Nat} (hi : i < n) : hadB n turn n i = true := had_iff.2 (turn_all hi)
/-- What is held when k pieces came. -/
def xK (id n turn size : Nat) (s : ByteArray) (k : Nat) : HeldV := (4, (id : Int), (n : Int), (List.range n).map (fun i => if hadB n turn k i = true then segP size s i else ⟨#[]⟩), (List.range n).map (hadB n turn k), 13)
theorem range_set {α : Type} (f : Nat → α) (n j : Nat) (v : α) : ((List.range n).map f).set j v = (List.range n).map (fun i => if i = j then v else f i) := by
  apply List.ext_getElem?
  intro i
  rw [List.getElem?_set]
  simp only [List.length_map, List.length_range, List.getElem?_map]
  by_cases hi : i < n
  · rw [List.getElem?_range hi]
    by_cases h : j = i
    · subst h
      simp [hi]
    · have h' : ¬ i = j := fun e => h e.symm
      simp [h, h']
  · have h1 : (List.range n)[i]? = none := List.getElem?_eq_none (by simp; omega)
    rw [h1]
    by_cases h : j = i
    · subst h
      simp [hi]
    · simp [h]
theorem set_next (id n turn size : Nat) (s : ByteArray) (k : Nat) (hk : k < n) : setV (turnN n turn k) (segP size s (turnN n turn k)) (xK id n turn size s k) = xK id n turn size s (k + 1) := by
  have hj : turnN n turn k < n := turn_lt (by omega)
  have h0 : ((List.range n).map (hadB n turn k))[turnN n turn k]? = some false := by
    rw [List.getElem?_map, List.getElem?_range hj]
    show some (hadB n turn k (turnN n turn k)) = some false
    rw [had_new hk]
  unfold setV xK
  simp only
  rw [if_neg (by rw [h0]; simp), range_set, range_set]
  congr 1; congr 1; congr 1; congr 1
  · apply List.map_congr_left
    intro i _
    rw [had_next]
    by_cases h : i = turnN n turn k
    · rw [if_pos h, if_pos (by rw [← h]; simp), h]
    · have h' : (turnN n turn k == i) = false := by rw [beq_eq_false_iff_ne]; exact fun e => h e.symm
      rw [if_neg h, h', Bool.or_false]
  · congr 1
    apply List.map_congr_left
    intro i _
    rw [had_next]
    by_cases h : i = turnN n turn k
    · rw [if_pos h, ← h]; simp
    · have h' : (turnN n turn k == i) = false := by rw [beq_eq_false_iff_ne]; exact fun e => h e.symm
      rw [if_neg h, h', Bool.or_false]
theorem new_first (id n turn size : Nat) (s : ByteArray) : newV 4 (id : Int) (n : Int) 5 = xK id n turn size s 0 := by
  unfold newV xK
  rw [Int.toNat_natCast]
  congr 1; congr 1; congr 1; congr 1
  · apply List.ext_getElem?
    intro i
    rw [List.getElem?_replicate, List.getElem?_map]
    by_cases hi : i < n
    · rw [List.getElem?_range hi, if_pos hi]; rfl
    · rw [List.getElem?_eq_none (by simp; omega : (List.range n).length ≤ i), if_neg hi]; rfl
  · congr 1
    apply List.ext_getElem?
    intro i
    rw [List.getElem?_replicate, List.getElem?_map]
    by_cases hi : i < n
    · rw [List.getElem?_range hi, if_pos hi]; rfl
    · rw [List.getElem?_eq_none (by simp; omega : (List.range n).length ≤ i), if_neg hi]; rfl
theorem seg_join (size : Nat) (s : ByteArray) : ∀ k, ((List.range k).map (segP size s)).foldl (· ++ ·) ⟨#[]⟩ = s.extract 0 (min (k * size) s.size)
  | 0 => by simp; rfl
  | k + 1 => by
    rw [List.range_succ, List.map_append, List.foldl_append, seg_join size s k]
    show s.extract 0 (min (k * size) s.size) ++ segP size s k = _
    unfold segP
    have e9 : (k + 1) * size = k * size + size := by rw [Nat.add_mul, Nat.one_mul]
    rw [e9]
    generalize k * size = q
    by_cases h : q ≤ s.size
    · rw [Nat.min_eq_left h, ByteArray.extract_append_extract, show min 0 q = 0 by omega, show max q (min (q + size) s.size) = min (q + size) s.size by omega]
    · rw [Nat.min_eq_right (by omega), Nat.min_eq_right (by omega), show s.extract q s.size = ⟨#[]⟩ from by apply ByteArray.ext; simp; omega]
      apply ByteArray.ext
      simp
theorem whole_all {id n turn size : Nat} {s : ByteArray} (hn : s.size ≤ n * size) : wholeV (xK id n turn size s n).2.2.2.1 = s := by
  unfold wholeV xK
  have e : (List.range n).map (fun i => if hadB n turn n i = true then segP size s i else ⟨#[]⟩) = (List.range n).map (segP size s) := by
    apply List.map_congr_left
    intro i hi
    rw [if_pos (had_all (List.mem_range.1 hi))]
  simp only
  rw [e, seg_join, Nat.min_eq_right hn]
  simp
/-- The shelf when k pieces came. -/
def shelfK (id n turn size : Nat) (s : ByteArray) (k : Nat) : List HeldV := if k = 0 ∨ k = n then [] else [xK id n turn size s k]
theorem part_bytes {id count size : Nat} {s : ByteArray} {i : Nat} (h1 : id < 256) (h2 : count ≤ 15) (hi : i < count) : PieceP (partP id count size s i) ∧ byteAt (partP id count size s i) 0 = id ∧ byteAt (partP id count size s i) 1 = i ∧ byteAt (partP id count size s i) 2 = count ∧ (partP id count size s i).extract 3 (partP id count size s i).size = segP size s i := by
  rcases part_read (size := size) (s := s) h1 h2 hi with ⟨_, a, b, c, d, e⟩ | ⟨h, _⟩
  · exact ⟨a, by omega, by omega, by omega, e.symm⟩
  · cases h
theorem part_size {id count size : Nat} {s : ByteArray} {i : Nat} (hs : size ≤ 120) : (partP id count size s i).size ≤ 123 := by
  unfold partP
  rw [ByteArray.size_append, ByteArray.size_append, ByteArray.size_append, ByteArray.size_extract, byteN_size, byteN_size, byteN_size]
  have e9 : (i + 1) * size = i * size + size := by rw [Nat.add_mul, Nat.one_mul]
  rw [e9]
  omega
theorem got_none (a b c now : Int) : gotV [] a b c now = newV a b c now := rfl
theorem got_one {x : HeldV} {a b c now : Int} (h : SameV a b x ∧ x.2.2.1 = c) : gotV [x] a b c now = x := by
  unfold gotV
  rw [List.find?_cons_of_pos (by simpa using h)]
  rfl
theorem rest_one {x : HeldV} {a b : Int} (h : SameV a b x) : restV [x] a b = [] := by
  unfold restV
  rw [List.filter_cons_of_neg (by simpa using h)]
  rfl
theorem place_one {x y : HeldV} {a b c : Int} (h : SameV a b x ∧ x.2.2.1 = c) : placeV [x] a b c y = [y] := by
  unfold placeV
  rw [List.map_cons, if_pos h]
  rfl
theorem full_not {id n turn size : Nat} {s : ByteArray} : false ∉ (xK id n turn size s n).2.2.2.2.1 := by
  intro h
  obtain ⟨i, hi, e⟩ := List.mem_map.1 h
  rw [had_all (List.mem_range.1 hi)] at e
  cases e
theorem part_false {id n turn size : Nat} {s : ByteArray} {k : Nat} (hk : k < n) : false ∈ (xK id n turn size s k).2.2.2.2.1 :=
  List.mem_map.2 ⟨turnN n turn k, List.mem_range.2 (turn_lt (by omega)), had_new hk⟩
/-- A piece comes: the next shelf; behind the last one the text is whole. -/
theorem piece_go {id n turn size : Nat} {s : ByteArray} (hid : id < 256) (_hs : 20 ≤ size) (hs2 : size ≤ 120) (hn1 : 1 ≤ n) (hn : n ≤ 15) (hw : s.size ≤ n * size) (k : Nat) (hk : k < n) (hr : ShelfP (shelfK id n turn size s k)) :
    AddIs (shelfK id n turn size s k) 4 (partP id n size s (turnN n turn k)) 5 (shelfK id n turn size s (k + 1)) (if k + 1 = n then s else ⟨#[]⟩) (decide (k + 1 = n)) := by
  have hj : turnN n turn k < n := turn_lt (by omega)
  obtain ⟨b0, b1, b2, b3, b4⟩ := part_bytes (size := size) (s := s) hid hn hj
  have hp : AddP (shelfK id n turn size s k) 4 (partP id n size s (turnN n turn k)) 5 := ⟨hr, by omega, b0, part_size hs2, by omega⟩
  by_cases h1 : n = 1
  · subst h1
    obtain rfl : k = 0 := by omega
    refine .inl ⟨hp, b3, ?_, ?_, ?_⟩
    · unfold shelfK; simp
    · rw [if_pos rfl, b4]
      obtain h0 : turnN 1 turn 0 = 0 := by omega
      rw [h0]
      unfold segP
      rw [Nat.zero_mul, Nat.min_eq_right (by omega)]
      simp
    · simp
  · refine .inr (.inl ⟨hp, by omega, ?_⟩)
    rw [b1, b2, b3, b4]
    have hset : setV (turnN n turn k) (segP size s (turnN n turn k)) (gotV (shelfK id n turn size s k) 4 (id : Int) (n : Int) 5) = xK id n turn size s (k + 1) := by
      unfold shelfK
      by_cases h0 : k = 0
      · subst h0
        rw [if_pos (.inl rfl), got_none, new_first, set_next _ _ _ _ _ _ hk]
      · rw [if_neg (by omega), got_one (x := xK id n turn size s k) (a := 4) (b := (id : Int)) (c := (n : Int)) ⟨⟨rfl, rfl⟩, rfl⟩, set_next _ _ _ _ _ _ hk]
    unfold AddMore
    rw [hset]
    by_cases hl : k + 1 = n
    · rw [if_pos hl]
      refine .inl ⟨?_, ?_, ?_, by simp [hl]⟩
      · rw [hl]; exact full_not
      · unfold shelfK
        rw [if_pos (.inr hl), if_neg (by omega), rest_one (x := xK id n turn size s k) (a := 4) (b := (id : Int)) ⟨rfl, rfl⟩]
      · rw [hl, whole_all hw]
    · rw [if_neg hl]
      have hf := part_false (id := id) (turn := turn) (size := size) (s := s) (show k + 1 < n by omega)
      have hd : decide (k + 1 = n) = false := by simp [hl]
      by_cases h0 : k = 0
      · subst h0
        refine .inr (.inr ⟨hf, ?_, ?_, rfl, hd⟩)
        · rintro ⟨x, hx, _⟩
          unfold shelfK at hx
          rw [if_pos (.inl rfl)] at hx
          cases hx
        · have e0 : shelfK id n turn size s 0 = [] := by unfold shelfK; rw [if_pos (.inl rfl)]
          have e1 : shelfK id n turn size s (0 + 1) = [xK id n turn size s (0 + 1)] := by unfold shelfK; rw [if_neg (by omega)]
          rw [e0, e1]
          rfl
      · refine .inr (.inl ⟨hf, ?_, ?_, rfl, hd⟩)
        · unfold shelfK
          rw [if_neg (by omega)]
          exact ⟨_, List.mem_singleton.2 rfl, ⟨rfl, rfl⟩, rfl⟩
        · unfold shelfK
          rw [if_neg (by omega), if_neg (by omega), place_one (x := xK id n turn size s k) (a := 4) (b := (id : Int)) (c := (n : Int)) ⟨⟨rfl, rfl⟩, rfl⟩]
theorem shelf_right {id n turn size : Nat} {s : ByteArray} (hid : id < 256) (hs : 20 ≤ size) (hs2 : size ≤ 120) (hn1 : 1 ≤ n) (hn : n ≤ 15) (hw : s.size ≤ n * size) : ∀ k, k ≤ n → ShelfP (shelfK id n turn size s k)
  | 0, _ => by
    unfold shelfK
    rw [if_pos (.inl rfl)]
    exact ⟨by simp, fun x hx => (by cases hx), List.Pairwise.nil⟩
  | k + 1, hk => by
    have h := shelf_right (turn := turn) hid hs hs2 hn1 hn hw k (by omega)
    exact add_right h (piece_go hid hs hs2 hn1 hn hw k (by omega) h)

end Go.Proofs.Ytfhlpgngeiploaa
namespace Go.Proofs.Ytfhlpgngeiploaa
open Go.RowKit

set_option maxRecDepth 100000 in
set_option maxHeartbeats 800000 in
theorem sameTexts_same (v u : Value) (xs : List ByteArray) (hl : xs.length ≤ 100000000) (w : World) (hv : layStringS.rd w [v] xs) (hu : layStringS.rd w [u] xs) :
    Calls Try.prog 11 #[v, u] w fun e w' => e = .returned (.bool true) ∧ Below w.heap.size w w' := by
  obtain ⟨ao, cp, rfl⟩ := rows_form hv
  obtain ⟨bo, dp, rfl⟩ := rows_form hu
  have HV := Lib.hid hv
  have HU := Lib.hid hu
  clear hv hu
  go_enter Try.func11, Try.ntmps11
  go_wp2_with fail
  go_loopw [5] (fun c wr => ∃ j : Nat, j ≤ xs.length ∧ c = .int .i64 j ∧ Below w.heap.size w wr) (fun c _ => xs.length - (intOf c).toNat)
  case atStart => exact ⟨0, Nat.zero_le _, rfl, Below.refl _ _⟩
  case round =>
    obtain ⟨j, hj, rfl, hb⟩ := hrel
    have HB := Lib.hid hb
    by_cases hlt : j < xs.length
    · have hlt' : (j : Int) < (xs.length : Int) := by omega
      have hx := List.getElem?_eq_getElem hlt
      obtain ⟨g, og, cs, rfl, hg, hr, hc⟩ := rows_elem (layStringS.below HV.out hb) j _ hx
      obtain ⟨h, oh, ds, rfl, hh, hs, hd⟩ := rows_elem (layStringS.below HU.out hb) j _ hx
      generalize xs[j] = x at hr hs
      rw [layString_rd] at hr hs
      subst hr hs
      have c0 : wr.cell? ⟨g, og + j * 1, none⟩ = some (.string x) := hc 0 _ rfl
      have d0 : wr.cell? ⟨h, oh + j * 1, none⟩ = some (.string x) := hd 0 _ rfl
      rw [Nat.mul_one] at c0 d0
      clear hb hc hd hx
      go_wp2_with fail
      go_quiet (fail)
      go_wp2_with fail
      go_roundw
      case rel => exact ⟨j + 1, by omega, by go_num, below_drewN HB.out _⟩
      case measure => simp [intOf]; omega
    · have hlt' : ¬ ((j : Int) < (xs.length : Int)) := by omega
      go_wp2_with fail
      go_ret
      exact ⟨rfl, hb⟩

end Go.Proofs.Ytfhlpgngeiploaa
namespace Go.Proofs.Ytfhlpgngeiploaa
open Go.RowKit

/-- The program's contracts. -/
structure PieceFns : Prop where
  split : ∀ (id : Int) (s : ByteArray) (size : Int) (out : List ByteArray) (ok : Bool), SplitIs id s size out ok → s.size ≤ 1048576 → ∀ X : World, Calls Try.prog 9 #[.int .i64 id, .string s, .int .i64 size] X (PiecesEnd out ok X)
  read : ∀ (t : ByteArray) (id place count : Int) (part : ByteArray) (ok : Bool), ReadPartIs t id place count part ok → t.size ≤ 1048576 → ∀ X : World, Calls Try.prog 13 #[.string t] X (PartEnd id place count part ok X)
  add : ∀ (v : Value) (xs : List HeldD) (a : Int) (t : ByteArray) (now : Int) (ys : List HeldD) (whole : ByteArray) (done : Bool), AddIs xs a t now ys whole done → FitsHeldS xs → (∀ x ∈ xs, HdG x) → t.size ≤ 1048576 → ∀ X : World, layHeldS.rd X [v] xs → Calls Try.prog 14 #[.agg #[v], .int .i64 a, .string t, .int .i64 now] X (AddMade X ys whole done)
  ok : ∀ (v : Value) (xs : List HeldD) (b : Bool), (b = true ↔ ShelfP xs) → FitsHeldS xs → (∀ x ∈ xs, HdG x) → ∀ X : World, layHeldS.rd X [v] xs → Calls Try.prog 15 #[.agg #[v]] X fun e Y => e = .returned (.bool b) ∧ Below X.heap.size X Y

end Go.Proofs.Ytfhlpgngeiploaa
namespace Go.Proofs.Ytfhlpgngeiploaa
open Go.RowKit

theorem VarA.next' {r : Nat} {t : TypeId} {cs : Array Value} {X Y : World} {b : Nat} (h : VarA r t cs X) (hb : Below b X Y) (hr : r < b) : VarA r t cs Y := ⟨(hb.block r hr).trans h.row⟩

end Go.Proofs.Ytfhlpgngeiploaa
namespace Go.Proofs.Ytfhlpgngeiploaa
open Go.RowKit

theorem flatBool : Flat Lay.bool := ⟨fun _ _ _ _ h => bool_own.2 ⟨rfl, bool_rd.1 h⟩, fun _ _ _ _ _ h => (bool_own.1 h).1, fun _ _ _ _ h => bool_rd.2 (bool_rd.1 h)⟩
theorem lit_held (X : World) (cs : Array Value) (T : TypeId) (j : Nat) (u : Value) (hj : cs.toList[j]? = some u) : (X.alloc (.cells cs T)).cell? ((⟨X.heap.size, 0, none⟩ : Addr).add j) = some u := by
  have e1 : (⟨X.heap.size, 0, none⟩ : Addr).add j = ⟨X.heap.size, j, none⟩ := by unfold Addr.add; split <;> simp_all
  rw [e1, cell_of_row (X.alloc (.cells cs T)) X.heap.size j cs T (0, 0) (heap_alloc_new X _)]
  simpa using hj
/-- The shelf, the result and the copy in their variables. -/
structure CSV (w : World) (v u : Value) (fp : List Nat) (ys : List HeldD) (X : World) : Prop where
  s : VarA w.heap.size ShelfT #[v] X
  r : VarA (w.heap.size + 1) ShelfT #[.slice none 0 0] X
  o : VarA (w.heap.size + 1 + 1) ShelfT #[u] X
  dup : fp.Nodup
  own : layHeldS.own X (w.heap.size + 1 + 1 + 1) fp [u] ys
  below : Below w.heap.size w X
section
variable {w X Y : World} {v u : Value} {fp : List Nat} {ys : List HeldD}
theorem CSV.next (h : CSV w v u fp ys X) (hb : Below X.heap.size X Y) : CSV w v u fp ys Y := ⟨h.s.next hb, h.r.next hb, h.o.next hb, h.dup, layHeldS.next h.own hb, h.below.trans (hb.mono h.below.size)⟩
theorem CSV.off {g : Nat} (h : CSV w v u fp ys X) (ho : Only g X Y) (hg : w.heap.size + 1 + 1 + 1 ≤ g) (hn : ∀ a ∈ fp, a < g) : CSV w v u fp ys Y :=
  ⟨h.s.only ho (by omega), h.r.only ho (by omega), h.o.only ho (by omega), h.dup, layHeldS.keep h.own (fun a ha => ho.block a (layHeldS.blocks h.own a ha).2 (by have := hn a ha; omega)), h.below.trans (ho.below (by omega) h.below.size)⟩
theorem CSV.pushed {fy f' : List Nat} {y : HeldD} {zs : List HeldD} {u' : Value} (h : CSV w v u fp ys X) (hp : Pushed HeldT layHeld (w.heap.size + 1 + 1 + 1) u fp fy ys y X u' Y) (ho : layHeldS.own Y (w.heap.size + 1 + 1 + 1) f' [u'] zs) (hd : f'.Nodup) : CSV w v u' f' zs (Y.setCell ⟨w.heap.size + 1 + 1, 0, none⟩ u') := by
  have hc : Only (w.heap.size + 1 + 1) Y (Y.setCell ⟨w.heap.size + 1 + 1, 0, none⟩ u') := Only.setCell 0 _
  exact ⟨(h.s.next' hp.below (by omega)).only hc (by omega), (h.r.next' hp.below (by omega)).only hc (by omega), (h.o.next' hp.below (by omega)).set 0 _, hd, layHeldS.keep ho (fun a ha => hc.block a (layHeldS.blocks ho a ha).2 (by have := (layHeldS.blocks ho a ha).1; omega)), (h.below.trans (hp.below.mono (by omega))).setCell (p := ⟨w.heap.size + 1 + 1, 0, none⟩) (show w.heap.size ≤ w.heap.size + 1 + 1 by omega) _⟩
end

end Go.Proofs.Ytfhlpgngeiploaa

/-
  Rows of bytes that bear a mark behind their last cell (what '[]byte(s)' lays), and bytes put behind them; no program is spoken of here.
  The given HashEnd, by what it answers.
  Plain mathematics of sums under a key; no program is spoken of here.
  The given sums under a key.
  The given expansions.
-/
import Derived.Test.YtoaifgblbfdncaaDoorJ09
import Derived.Lib.ConvBytes
import Derived.Lib.FrozenHead
import Derived.Test.YtoaifgblbfdncaaDoorJ10
namespace Go.Proofs.YtoaifgblbfdncaaDoor
open Go.RowKit

/-- No cell of the row is frozen. -/
def Unmarked (n : Nat) (fz : Nat × Nat) : Prop := n ≤ fz.1 ∨ fz.2 = 0
theorem Unmarked.free {n : Nat} {fz : Nat × Nat} (h : Unmarked n fz) {w : World} {g : Nat} {cur : Array Value} {e : TypeId} (hg : w.heap[g]? = some (.cells cur e fz)) (j : Nat) (hj : j < n) : w.frozen? ⟨g, j, none⟩ = false := by
  obtain ⟨lo, hi⟩ := fz
  simp only [World.frozen?, hg, Bool.and_eq_false_iff, decide_eq_false_iff_not]
  rcases h with h | h
  · left; simp only at h; omega
  · right; simp only at h; omega

/-- One cell is stored where nothing is frozen. -/
theorem store_oneM (P : Program) (w : World) (g o : Nat) (t : TypeId) (fz : Nat × Nat) (cur : Array Value) (v : Value) (hg : w.heap[g]? = some (.cells cur t fz)) (hfz : Unmarked cur.size fz) (ho : o < cur.size) (hv : v.oneCell' = true) :
    (storeCells ⟨g, o, none⟩ [v] 0).run P w = .ok () (w.setRow g (cur.setIfInBounds o v)) := by
  have hadd : (⟨g, o, none⟩ : Addr).add 0 = ⟨g, o, none⟩ := by unfold Addr.add; split <;> simp_all
  have hc : w.cell? ⟨g, o, none⟩ = some cur[o] := by rw [cell_of_row w g o cur t fz hg]; simp [ho]
  have h1 : (store ((⟨g, o, none⟩ : Addr).add 0) v).run P w = .ok () (w.setRow g (cur.setIfInBounds o v)) := by
    rw [hadd, run_store P w _ v _ hv, hc]
    simp [hfz.free hg o ho, setCell_eq_setRow w g o cur t fz v hg]
  simp [storeCells, h1]

/-- The slice value v is the call's own (from block 'base' on), and holds these bytes; a mark may lie behind its last cell. -/
def OwnM (w : World) (base : Nat) (e : TypeId) (v : Value) (xs : List UInt8) : Prop :=
  ∃ g cap cur fz, v = .slice (some ⟨g, 0, none⟩) xs.length cap ∧ base ≤ g ∧ w.heap[g]? = some (.cells cur e fz) ∧ Unmarked cur.size fz ∧ xs.length ≤ cap ∧ cap ≤ maxLen ∧ cur.size = cap ∧ cur.toList.take xs.length = Lib.byteCells xs

theorem OwnM.below {w w' : World} {base : Nat} {e : TypeId} {v : Value} {xs : List UInt8} (h : OwnM w base e v xs) (hb : Below w.heap.size w w') : OwnM w' base e v xs := by
  obtain ⟨g, cap, cur, fz, hv, hg0, hg, rest⟩ := h
  exact ⟨g, cap, cur, fz, hv, hg0, by rw [hb.block g (lt_of_block hg)]; exact hg, rest⟩
theorem OwnM.mono {w : World} {base base' : Nat} {e : TypeId} {v : Value} {xs : List UInt8} (h : OwnM w base e v xs) (hb : base' ≤ base) : OwnM w base' e v xs := by
  obtain ⟨g, cap, cur, fz, hv, hg0, rest⟩ := h
  exact ⟨g, cap, cur, fz, hv, by omega, rest⟩
theorem OwnM.form {w : World} {base : Nat} {e : TypeId} {v : Value} {xs : List UInt8} (h : OwnM w base e v xs) : ∃ g cap, v = .slice (some ⟨g, 0, none⟩) xs.length cap ∧ base ≤ g ∧ g < w.heap.size ∧ xs.length ≤ cap ∧
    ∀ j, j < xs.length → w.cell? ⟨g, j, none⟩ = some (.int .u8 ((xs.getD j 0).toNat : Nat)) := by
  obtain ⟨g, cap, cur, fz, rfl, hg0, hg, _, hnc, _, hcs, htake⟩ := h
  refine ⟨g, cap, rfl, hg0, lt_of_block hg, hnc, fun j hj => ?_⟩
  rw [cell_of_row w g j cur e fz hg]
  have h1 : (cur.toList.take xs.length)[j]? = (Lib.byteCells xs)[j]? := by rw [htake]
  rw [List.getElem?_take, if_pos hj] at h1
  have h2 : cur[j]? = cur.toList[j]? := by simp
  rw [h2, h1]
  simp [Lib.byteCells, hj]

/-- '[]byte(s)'. -/
theorem OwnM.ofBytes (w : World) (e : TypeId) (s : ByteArray) (hcap : grownCap w s.size 0 e ≤ maxLen) : OwnM (Lib.bytesWorld w e s) w.heap.size e (.slice (some ⟨w.heap.size, 0, none⟩) s.data.toList.length (grownCap w s.size 0 e)) s.data.toList := by
  have hge := grownCap_ge w s.size 0 e
  refine ⟨w.heap.size, grownCap w s.size 0 e, Lib.bytesCells w e s, _, rfl, Nat.le_refl _, Lib.bytesWorld_at_new w e s, .inl (Nat.le_refl _), by simpa using hge, hcap, ?_, ?_⟩
  · simp [Lib.bytesCells]; omega
  · simp only [Lib.bytesCells, Array.toList_append, Lib.byteCells]
    rw [List.take_append_of_le_length (by simp)]
    rw [List.take_of_length_le (by simp)]
    simp

theorem run_pushM {P : Program} (w : World) (base : Nat) (t ty e : TypeId) (i : TypeInfo) (ht : P.underlying t = some (.slice e)) (hi : P.info? e = some i) (hz : i.zero = some (.int .u8 0))
    (hsize : i.size = 1) (hby : i.bytes = 1) (v : Value) (xs : List UInt8) (hown : OwnM w base e v xs) (b : UInt8)
    (ad : Addr) (c : Nat) (hnew : ∀ j u, [Value.int .u8 (b.toNat : Int)][j]? = some u → w.cell? (ad.add j) = some u)
    (hlen : xs.length + 1 ≤ 1000000000) (hbase : base ≤ w.heap.size) :
    ∃ v' w', (Builtin.append_ #[t, t] ty #[v, .slice (some ad) 1 c]).run P w = .ok v' w' ∧ OwnM w' base e v' (xs ++ [b]) ∧ w.grownBy w' v.ownBlock := by
  obtain ⟨g, cap, cur, fz, rfl, hbg, hg, hum, hnc, hcm, hcs, htake⟩ := hown
  have hl : [Value.int .u8 (b.toNat : Int)].length = 1 * i.size := by rw [hsize]; rfl
  have e2 : Lib.byteCells (xs ++ [b]) = Lib.byteCells xs ++ [.int .u8 (b.toNat : Int)] := by simp [Lib.byteCells]
  have e1 : (xs ++ [b]).length = xs.length + 1 := by simp
  have hbl : (Lib.byteCells xs).length = xs.length := by simp [Lib.byteCells]
  by_cases hroom : xs.length + 1 ≤ cap
  · have hf := run_firstCells_some (P := P) w i.size 1 ad 1 c _ hl hnew
    have hst := store_oneM P w g xs.length e fz cur (Value.int .u8 (b.toNat : Int)) hg hum (by omega) rfl
    have hr : (Builtin.append_ #[t, t] ty #[.slice (some ⟨g, 0, none⟩) xs.length cap, .slice (some ad) 1 c]).run P w = .ok (.slice (some ⟨g, 0, none⟩) (xs.length + 1) cap) (w.setRow g (cur.setIfInBounds xs.length (Value.int .u8 (b.toNat : Int)))) := by
      rw [hsize] at hf
      simp [Builtin.append_, run_underlying ht, sizeOf, typeInfo, hi, hsize, Builtin.lenOf, hroom, hf, Addr.add_lit, hst]
    refine ⟨_, _, hr, ⟨g, cap, _, fz, by rw [e1], hbg, setRow_heap w g cur _ e _ hg, by simpa using hum, by omega, hcm, by simpa using hcs, ?_⟩, ⟨rfl, rfl, rfl, by simp, fun k _ hk => setRow_other w g k _ (fun e => hk (by simp [Value.ownBlock, e]))⟩⟩
    rw [e1, e2, ← htake, Array.toList_setIfInBounds]
    have hx : xs.length < cur.toList.length := by simp; omega
    rw [List.take_add_one, List.take_set_of_le (Nat.le_refl _), List.getElem?_set_self hx]
    rfl
  · have holds : ∀ j u, (Lib.byteCells xs)[j]? = some u → w.cell? ((⟨g, 0, none⟩ : Addr).add j) = some u := by
      intro j u hj
      have hadd : (⟨g, 0, none⟩ : Addr).add j = ⟨g, j, none⟩ := by unfold Addr.add; split <;> simp_all
      rw [hadd, cell_of_row w g j cur e fz hg]
      rw [← htake, List.getElem?_take] at hj
      split at hj
      · simpa using hj
      · cases hj
    have hr := run_append_grow (P := P) w t ty e i (.int .u8 0) ht hi hz ⟨g, 0, none⟩ xs.length cap (Lib.byteCells xs) (by rw [hsize, Nat.mul_one]; exact hbl) holds ad 1 c [Value.int .u8 (b.toNat : Int)] hl hnew (by omega) (by omega) (by rw [hby]; exact growslice_fits (by omega) (by omega))
    have hge := grownCap_ge w (xs.length + 1) cap e
    have hcm2 : grownCap w (xs.length + 1) cap e ≤ maxLen := grownCap_le_maxLen w (xs.length + 1) cap e (by unfold maxLen; omega)
    refine ⟨_, _, hr, ⟨w.heap.size, _, _, (0, 0), by rw [e1], hbase, heap_alloc_new w.drew _, .inr rfl, by omega, hcm2, ?_, ?_⟩, ⟨rfl, rfl, rfl, by simp, fun k hk _ => heap_alloc_old w.drew _ hk⟩⟩
    · have hz1 : (Value.int IntKind.u8 0).cells.size = 1 := rfl
      simp only [Array.size_append, List.size_toArray, size_zeroCells, hz1, hbl, List.length_cons, List.length_nil]
      omega
    · simp only [Array.toList_append]
      rw [e1, e2]
      have : (Lib.byteCells xs ++ [Value.int .u8 (b.toNat : Int)]).length = xs.length + 1 := by rw [List.length_append, hbl]; rfl
      rw [← this, List.take_left' (by simp)]

/-- 'out = append(out, c)'. -/
theorem wpList_pushM {P : Program} (w : World) {ops : Array Oper} {rest : List Oper} {o : Oper} {a : Act} {Q : Exit → Act → World → Prop} (hgd : o.guard = none) (s x : Operand) (t : TypeId)
    (ho : o.op = .call { callee := .builtin .append, args := #[s, x], argTypes := #[t, t] })
    (base : Nat) (e : TypeId) (i : TypeInfo) (ht : P.underlying t = some (.slice e)) (hi : P.info? e = some i) (hz : i.zero = some (.int .u8 0))
    (hsize : i.size = 1) (hby : i.bytes = 1) (v : Value) (xs : List UInt8) (hs : a.eval s = v) (hown : OwnM w base e v xs)
    (b : UInt8) (z : Int) (hx : a.eval x = .slice (some ⟨w.heap.size, 0, none⟩) 1 1) (hzb : z = b.toNat)
    (hlen : xs.length + 1 ≤ 1000000000) (hbase : base ≤ w.heap.size)
    (h : ∀ v' w', OwnM w' base e v' (xs ++ [b]) → Below base w w' → wpList P ops Q rest (a.put o.dst v') w') :
    wpList P ops Q (o :: rest) a (w.alloc (.cells #[.int .u8 z] e)) := by
  refine wpList_plain hgd fun _ hK => ?_
  have hown' : OwnM (w.alloc (.cells #[.int .u8 z] e)) base e v xs := hown.below ((Below.refl _ _).alloc (Nat.le_refl _) _)
  obtain ⟨v', w', hr, h2, h3⟩ := run_pushM (P := P) (w.alloc (.cells #[.int .u8 z] e)) base t o.type e i ht hi hz hsize hby v xs hown' b ⟨w.heap.size, 0, none⟩ 1 (push_cells w e z b hzb) hlen (by simp; omega)
  unfold Oper.wp execOp
  simp only [ho, resolve, invoke, builtin, Sem.run_bind, Sem.run_pure, Result.andThen_ok, List.map_toArray, List.map_cons, List.map_nil, hs, hx, hr]
  refine hK _ _ (h v' w' h2 ?_)
  refine ((Below.refl base w).alloc hbase _).grown h3 (by simp; omega) (fun k hk => ?_)
  obtain ⟨g, cap, cur, fz, rfl, hbg, _⟩ := hown
  cases hk
  exact hbg

end Go.Proofs.YtoaifgblbfdncaaDoor
namespace Go.Proofs.YtoaifgblbfdncaaDoor
open Go.RowKit

theorem zeros_more (r j : Nat) (h : r < 64) (hj : j < zerosFor r) : (r + 1 + j) % 64 ≠ 56 := by unfold zerosFor at hj; omega
theorem pow_step (b j : Nat) : b / 256 ^ j / 256 = b / 256 ^ (j + 1) := by rw [Nat.div_div_eq_div_mul, Nat.pow_succ]
theorem zeros_done (r : Nat) (h : r < 64) : (r + 1 + zerosFor r) % 64 = 56 := by unfold zerosFor; omega

/-- The parameter in a block of its own; what was there ahead of w is as it was. -/
structure OneVar (w : World) (t : TypeId) (a b c : Value) (X : World) : Prop where
  v : Var3 w.heap.size t a b c X
  below : Below w.heap.size w X
theorem OneVar.next {w : World} {t : TypeId} {a b c : Value} {X Y : World} (h : OneVar w t a b c X) (hb : Below X.heap.size X Y) : OneVar w t a b c Y :=
  ⟨h.v.next hb, h.below.trans (hb.mono h.below.size)⟩
theorem OneVar.new (w : World) (t : TypeId) (a b c : Value) : OneVar w t a b c (w.alloc (.cells #[a, b, c] t)) := ⟨Var3.new w t a b c, (Below.refl _ _).alloc (Nat.le_refl _) _⟩
theorem OneVar.later {w : World} {t : TypeId} {a b c : Value} {X Y : World} {B : Nat} (h : OneVar w t a b c X) (hB : w.heap.size < B) (hb : Below B X Y) : OneVar w t a b c Y :=
  ⟨⟨by rw [hb.block _ hB]; exact h.v.row⟩, h.below.trans (hb.mono (by omega))⟩

end Go.Proofs.YtoaifgblbfdncaaDoor
namespace Go.Proofs.YtoaifgblbfdncaaDoor
open Go.RowKit

/-- The digest of a text. -/
def digP (s : ByteArray) : ByteArray := ⟨(endOf ⟨(bytesOf (moreState ⟨(bytesOf firstState).toArray⟩ ⟨#[]⟩ s)).toArray⟩ ⟨(moreRest ⟨#[]⟩ s).toArray⟩ s.size).toArray⟩
theorem digP_size (s : ByteArray) : (digP s).size = 32 := by
  have h0 : (wordsOf (bytesOf firstState)).length = 8 := by rw [wordsOf_bytesOf _ firstState_words]; rfl
  have h1 : (moreState ⟨(bytesOf firstState).toArray⟩ ⟨#[]⟩ s).length = 8 := eatUp_length _ _ h0 _
  have h2 : Words (moreState ⟨(bytesOf firstState).toArray⟩ ⟨#[]⟩ s) := eatUp_words _ _ (wordsOf_words _) _
  have h3 : (wordsOf (bytesOf (moreState ⟨(bytesOf firstState).toArray⟩ ⟨#[]⟩ s))).length = 8 := by rw [wordsOf_bytesOf _ h2]; exact h1
  show (bytesOf (endState _ _ _)).toArray.size = 32
  rw [List.size_toArray, bytesOf_length]
  unfold endState
  rw [eatUp_length _ _ h3]
/-- A key as it counts: a long one is its digest. -/
def keyP (k : ByteArray) : ByteArray := if 64 < k.size then digP k else k
theorem keyP_size (k : ByteArray) : (keyP k).size ≤ 64 := by
  unfold keyP
  split
  · rw [digP_size]; decide
  · omega
/-- A key, filled with zeros, each byte's exclusive or with a number: the first n bytes, then zeros. -/
def padUp (k : List UInt8) (x : UInt8) (n : Nat) : List UInt8 := (List.range n).map (fun i => k.getD i 0 ^^^ x) ++ List.replicate (64 - n) 0
def padP (k : ByteArray) (x : UInt8) : ByteArray := ⟨(padUp (keyP k).data.toList x 64).toArray⟩
theorem padUp_length (k : List UInt8) (x : UInt8) (n : Nat) (h : n ≤ 64) : (padUp k x n).length = 64 := by unfold padUp; simp; omega
theorem padP_size (k : ByteArray) (x : UInt8) : (padP k x).size = 64 := by
  show (padUp _ x 64).toArray.size = 64
  rw [List.size_toArray, padUp_length _ _ _ (Nat.le_refl _)]
theorem padUp_set (k : List UInt8) (x : UInt8) (n : Nat) (h : n < 64) : (padUp k x n).set n (k.getD n 0 ^^^ x) = padUp k x (n + 1) := by
  unfold padUp
  have e : 64 - n = (64 - (n + 1)) + 1 := by omega
  rw [e, List.replicate_succ, List.set_append_right _ _ (by simp), List.length_map, List.length_range, Nat.sub_self, List.set_cons_zero, List.range_succ, List.map_append, List.append_assoc]
  rfl
theorem padUp_at (k : List UInt8) (x : UInt8) (n : Nat) (h : n < 64) : (padUp k x n).getD n 0 = 0 := by
  unfold padUp
  rw [List.getD_eq_getElem?_getD, List.getElem?_append_right (by simp), List.length_map, List.length_range, Nat.sub_self]
  have e : 64 - n = (64 - (n + 1)) + 1 := by omega
  rw [e, List.replicate_succ]
  rfl
def macP (k s : ByteArray) : ByteArray := digP (padP k 92 ++ digP (padP k 54 ++ s))
theorem macP_size (k s : ByteArray) : (macP k s).size = 32 := digP_size _

/-- The parts of an expansion, and all of them up to one. -/
def tUp (key info : ByteArray) : Nat → ByteArray
  | 0 => ⟨#[]⟩
  | i + 1 => macP key (tUp key info i ++ info ++ ⟨#[UInt8.ofNat (i + 1)]⟩)
theorem tUp_size (key info : ByteArray) (i : Nat) : (tUp key info (i + 1)).size = 32 := macP_size _ _
theorem tUp_few (key info : ByteArray) (i : Nat) : (tUp key info i).size ≤ 32 := by
  cases i with
  | zero => show 0 ≤ 32; decide
  | succ i => rw [tUp_size]; decide
def outUp (key info : ByteArray) : Nat → List UInt8
  | 0 => []
  | i + 1 => outUp key info i ++ (tUp key info (i + 1)).data.toList
theorem outUp_length (key info : ByteArray) (i : Nat) : (outUp key info i).length = 32 * i := by
  induction i with
  | zero => rfl
  | succ i ih =>
    have h := tUp_size key info i
    have h2 : (tUp key info (i + 1)).data.toList.length = (tUp key info (i + 1)).size := by simp
    rw [outUp, List.length_append, ih, h2, h]
    omega
def expandP (key info : ByteArray) (n : Nat) : List UInt8 := (outUp key info ((n + 31) / 32)).take n
/-- A longer expansion begins with a shorter one. -/
theorem outUp_front (key info : ByteArray) (i j : Nat) : (outUp key info (i + j)).take (32 * i) = outUp key info i := by
  induction j with
  | zero => exact List.take_of_length_le (by rw [Nat.add_zero, outUp_length]; omega)
  | succ j ih =>
    show (outUp key info (i + j) ++ _).take (32 * i) = _
    rw [List.take_append_of_le_length (by rw [outUp_length]; omega)]
    exact ih
theorem expandP_front (key info : ByteArray) (n m : Nat) (h : n ≤ m) : (expandP key info m).take n = expandP key info n := by
  unfold expandP
  have e : (m + 31) / 32 = (n + 31) / 32 + ((m + 31) / 32 - (n + 31) / 32) := by omega
  rw [List.take_take, Nat.min_eq_left h, ← outUp_front key info ((n + 31) / 32) ((m + 31) / 32 - (n + 31) / 32), ← e, List.take_take, Nat.min_eq_left (by omega)]
theorem expandP_length (key info : ByteArray) (n : Nat) : (expandP key info n).length = n := by
  unfold expandP
  rw [List.length_take, outUp_length]
  omega

end Go.Proofs.YtoaifgblbfdncaaDoor
namespace Go.Proofs.YtoaifgblbfdncaaDoor
open Go.RowKit

theorem OwnB.set {w : World} {base g cap n : Nat} {e : TypeId} {xs : List UInt8} (h : OwnB w base e (.slice (some ⟨g, 0, none⟩) n cap) xs) (hn : xs.length = n) (j : Nat) (x : UInt8) :
    OwnB (w.setCell ⟨g, j, none⟩ (.int .u8 (x.toNat : Int))) base e (.slice (some ⟨g, 0, none⟩) n cap) (xs.set j x) := by
  subst hn
  have h' : w.ownsRow base e 1 (.slice (some ⟨g, 0, none⟩) xs.length cap) xs.length (Lib.byteCells xs) := h
  have := (h'.stored j (.int .u8 (x.toNat : Int))).1
  unfold OwnB
  rw [List.length_set]
  have e1 : Lib.byteCells (xs.set j x) = (Lib.byteCells xs).set j (.int .u8 (x.toNat : Int)) := by unfold Lib.byteCells; rw [List.map_set]
  rw [e1]
  exact this
theorem OwnB.free {w : World} {base g cap n : Nat} {e : TypeId} {xs : List UInt8} (h : OwnB w base e (.slice (some ⟨g, 0, none⟩) n cap) xs) (hn : xs.length = n) (j : Nat) : w.frozen? ⟨g, j, none⟩ = false := by
  subst hn
  exact World.ownsRow.frozenAt (base := base) (e := e) (size := 1) (xs := Lib.byteCells xs) (n := xs.length) (cap := cap) h j
theorem OwnB.at {w : World} {base g cap n : Nat} {e : TypeId} {xs : List UInt8} (h : OwnB w base e (.slice (some ⟨g, 0, none⟩) n cap) xs) (hn : xs.length = n) (j : Nat) (hj : j < n) : w.cell? ⟨g, j, none⟩ = some (.int .u8 ((xs.getD j 0).toNat : Nat)) := by
  subst hn
  obtain ⟨ao, c, hv, hh⟩ := h.form
  obtain ⟨g', hg', _, hc⟩ := hh (by omega)
  simp only [Value.slice.injEq] at hv
  obtain ⟨h1, _, _⟩ := hv
  rw [hg'] at h1
  simp only [Option.some.injEq, Addr.mk.injEq, and_true] at h1
  subst h1
  exact hc j hj
theorem xorB (x y : UInt8) : bits .xor .u8 (x.toNat : Int) (y.toNat : Int) = ((x ^^^ y).toNat : Int) := by
  have e : ∀ x y : Fin 256, bits .xor .u8 (x.val : Int) (y.val : Int) = ((x.val ^^^ y.val : Nat) : Int) := by
    intro x y
    unfold bits
    simp only
    rw [BitVec.toNat_xor]
    have ex : ∀ z : Fin 256, (BitVec.ofInt IntKind.u8.bits (z.val : Int)).toNat = z.val := fun z => by
      rw [BitVec.toNat_ofInt]
      show ((z.val : Int) % ((2 ^ 8 : Nat) : Int)).toNat = z.val
      have := z.isLt
      omega
    rw [ex x, ex y, IntKind.wrap_u8]
    have : x.val ^^^ y.val < 256 := Nat.xor_lt_two_pow (n := 8) x.isLt y.isLt
    omega
  have := e ⟨x.toNat, x.toNat_lt⟩ ⟨y.toNat, y.toNat_lt⟩
  rw [this]
  simp

end Go.Proofs.YtoaifgblbfdncaaDoor
namespace Go.Proofs.YtoaifgblbfdncaaDoor
open Go.RowKit

/-- A text's bytes as a row of their own. -/
theorem bytes_row (w : World) (t : ByteArray) : ∃ (cp : Nat) (w' : World), (convert 9 22 (.string t)).run Tryd.prog w = .ok (.slice (some ⟨w.heap.size, 0, none⟩) t.size cp) w' ∧ w.heap.size < w'.heap.size ∧ Below w.heap.size w w' ∧
    (∀ j, j < t.size → w'.cell? ⟨w.heap.size, j, none⟩ = some (.int .u8 (t.data.toList.getD j 0).toNat)) ∧ (∀ j, j < t.size → w'.frozen? ⟨w.heap.size, j, none⟩ = false) := by
  refine ⟨_, _, Lib.run_convert_string_bytes w 9 22 5 t Tryd.underlying9 Tryd.underlying22 Tryd.underlying5, by rw [Lib.bytesWorld_size]; omega, ⟨rfl, rfl, rfl, by rw [Lib.bytesWorld_size]; omega, fun k hk => Lib.bytesWorld_at_old w _ t k hk⟩, fun j hj => Lib.bytesWorld_cell w _ t j hj, fun j hj => ?_⟩
  have h := Lib.bytesWorld_at_new w 5 t
  have hz : t.size ≤ (Lib.bytesCells w 5 t).size := by simp [Lib.bytesCells]
  unfold World.frozen?
  rw [h]
  simp
  omega

theorem OwnB.after {w w' : World} {base : Nat} {e : TypeId} {v : Value} {xs : List UInt8} (h : OwnB w base e v xs) (hb : Below w.heap.size w w') : OwnB w' base e v xs := by
  refine ⟨h.1, ?_⟩
  rcases h.2 with hn | ⟨g, cap, cur, hv, hb', hg, rest⟩
  · exact .inl hn
  · exact .inr ⟨g, cap, cur, hv, hb', by rw [hb.block g (lt_of_block hg)]; exact hg, rest⟩
/-- 'out = append(out, l...)': out a row of bytes of the call's own. -/
theorem wpList_joinB {P : Program} (w : World) {ops : Array Oper} {rest : List Oper} {o : Oper} {a : Act} {Q : Exit → Act → World → Prop} (hgd : o.guard = none) (s x : Operand) (t : TypeId)
    (ho : o.op = .call { callee := .builtin .append, args := #[s, x], argTypes := #[t, t] })
    (base : Nat) (e : TypeId) (i : TypeInfo) (ht : P.underlying t = some (.slice e)) (hi : P.info? e = some i) (hz : i.zero = some (.int .u8 0))
    (hsize : i.size = 1) (hby : i.bytes = 1) (v : Value) (xs : List UInt8) (hs : a.eval s = v) (hown : OwnB w base e v xs)
    (g m c : Nat) (l : List UInt8) (hx : a.eval x = .slice (some ⟨g, 0, none⟩) m c) (hm : l.length = m) (hc : ∀ j, j < m → w.cell? ⟨g, j, none⟩ = some (.int .u8 (l.getD j 0).toNat))
    (hlen : xs.length + m ≤ 1000000000) (hbase : base ≤ w.heap.size)
    (h : ∀ v' w', OwnB w' base e v' (xs ++ l) → Below base w w' → wpList P ops Q rest (a.put o.dst v') w') :
    wpList P ops Q (o :: rest) a w := by
  subst hm
  refine wpList_append_own w hgd s x t ho base e i (.int .u8 0) 1 1 ht hi hz hsize hby rfl (by decide) v xs.length (Lib.byteCells xs) hs hown ⟨g, 0, none⟩ l.length c (Lib.byteCells l) hx (by simp [Lib.byteCells]) (fun j u hj => ?_) (by intro u hu; simp [Lib.byteCells] at hu; obtain ⟨b, _, rfl⟩ := hu; rfl) (by unfold maxLen; omega) (by omega) hbase ?_
  · have hjl : j < l.length := by
      rcases Nat.lt_or_ge j l.length with h | h
      · exact h
      · rw [List.getElem?_eq_none (by simpa [Lib.byteCells] using h)] at hj
        cases hj
    have hadd : (⟨g, 0, none⟩ : Addr).add j = ⟨g, j, none⟩ := by unfold Addr.add; split <;> simp_all
    rw [hadd, hc j hjl, ← hj]
    simp [Lib.byteCells, hjl]
  · intro v' w' h1 h2 _
    refine h v' w' ?_ ((Below.refl base w).grown h2 hbase (fun k hk => (World.ownsRow.lt hown k hk).1))
    unfold OwnB
    rw [List.length_append, Lib.byteCells_append]
    exact h1

/-- The front of a row of one's own, read as a text. -/
theorem own_front {P : Program} (w : World) (src dst e : TypeId) (hs : P.underlying src = some (.slice e)) (he : P.underlying e = some (.int .u8)) (hd : P.underlying dst = some .string)
    {base : Nat} {v : Value} (l : List UInt8) (hown0 : OwnB w base e v l) (n : Nat) (hn : n ≤ l.length) :
    ∃ ao cap, v = .slice ao l.length cap ∧ n ≤ cap ∧ (convert src dst (.slice ao n cap)).run P w = .ok (.string ⟨(l.take n).toArray⟩) w := by
  have hown : w.ownsRow base e 1 v l.length (Lib.byteCells l) := hown0
  rcases hown.2 with ⟨rfl, h0⟩ | ⟨g, cap, cur, rfl, _, _, hnc, _, _, _⟩
  · obtain rfl : l = [] := List.length_eq_zero_iff.1 h0
    obtain rfl : n = 0 := by simpa using hn
    refine ⟨none, 0, rfl, Nat.le_refl _, ?_⟩
    rw [run_convert_bytes_string w src dst e none 0 0 hs he hd]
    rfl
  · refine ⟨_, cap, rfl, by omega, ?_⟩
    have hl : (l.take n).length = n := by rw [List.length_take]; omega
    have h := run_convert_bytes_back w src dst e ⟨g, 0, none⟩ cap (l.take n) hs he hd (fun j hj => hown.cells (g := g) rfl j _ (by
      rw [hl] at hj
      unfold Lib.byteCells
      rw [List.getElem?_map, List.getElem_take, List.getElem?_eq_getElem (by omega)]
      rfl))
    rw [hl] at h
    exact h

end Go.Proofs.YtoaifgblbfdncaaDoor

/-
  Rows of bytes that bear a mark behind their last cell (what '[]byte(s)' lays), and bytes put behind them; no program is spoken of here.
  The given HashEnd, by what it answers.
  The given sums under a key.
  The given signatures: secrets, public numbers, challenges.
  Variables of two cells; no program is spoken of here.
-/
import Derived.Test.YtkjjdoadjhjmbatJ13
import Derived.Lib.ConvBytes
import Derived.Lib.FrozenHead
import Derived.Test.YtkjjdoadjhjmbatJ14
import Derived.Test.YtkjjdoadjhjmbatJ03
import Derived.Test.YtkjjdoadjhjmbatJ05
import Derived.Test.YtkjjdoadjhjmbatJ12
import Derived.Test.YtkjjdoadjhjmbatJ04
namespace Go.Proofs.Ytkjjdoadjhjmbat
open Go.RowKit

/-- No cell of the row is frozen. -/
def Unmarked (n : Nat) (fz : Nat × Nat) : Prop := n ≤ fz.1 ∨ fz.2 = 0
theorem Unmarked.free {n : Nat} {fz : Nat × Nat} (h : Unmarked n fz) {w : World} {g : Nat} {cur : Array Value} {e : TypeId} (hg : w.heap[g]? = some (.cells cur e fz)) (j : Nat) (hj : j < n) : w.frozen? ⟨g, j, none⟩ = false := by
  obtain ⟨lo, hi⟩ := fz
  simp only [World.frozen?, hg, Bool.and_eq_false_iff, decide_eq_false_iff_not]
  rcases h with h | h
  · left; simp only at h; omega
  · right; simp only at h; omega

/-- One cell is stored where nothing is frozen. -/
theorem store_oneM (P : Program) (w : World) (g o : Nat) (t : TypeId) (fz : Nat × Nat) (cur : Array Value) (v : Value) (hg : w.heap[g]? = some (.cells cur t fz)) (hfz : Unmarked cur.size fz) (ho : o < cur.size) (hv : v.oneCell' = true) :
    (storeCells ⟨g, o, none⟩ [v] 0).run P w = .ok () (w.setRow g (cur.setIfInBounds o v)) := by
  have hadd : (⟨g, o, none⟩ : Addr).add 0 = ⟨g, o, none⟩ := by unfold Addr.add; split <;> simp_all
  have hc : w.cell? ⟨g, o, none⟩ = some cur[o] := by rw [cell_of_row w g o cur t fz hg]; simp [ho]
  have h1 : (store ((⟨g, o, none⟩ : Addr).add 0) v).run P w = .ok () (w.setRow g (cur.setIfInBounds o v)) := by
    rw [hadd, run_store P w _ v _ hv, hc]
    simp [hfz.free hg o ho, setCell_eq_setRow w g o cur t fz v hg]
  simp [storeCells, h1]

/-- The slice value v is the call's own (from block 'base' on), and holds these bytes; a mark may lie behind its last cell. -/
def OwnM (w : World) (base : Nat) (e : TypeId) (v : Value) (xs : List UInt8) : Prop :=
  ∃ g cap cur fz, v = .slice (some ⟨g, 0, none⟩) xs.length cap ∧ base ≤ g ∧ w.heap[g]? = some (.cells cur e fz) ∧ Unmarked cur.size fz ∧ xs.length ≤ cap ∧ cap ≤ maxLen ∧ cur.size = cap ∧ cur.toList.take xs.length = Lib.byteCells xs

theorem OwnM.below {w w' : World} {base : Nat} {e : TypeId} {v : Value} {xs : List UInt8} (h : OwnM w base e v xs) (hb : Below w.heap.size w w') : OwnM w' base e v xs := by
  obtain ⟨g, cap, cur, fz, hv, hg0, hg, rest⟩ := h
  exact ⟨g, cap, cur, fz, hv, hg0, by rw [hb.block g (lt_of_block hg)]; exact hg, rest⟩
theorem OwnM.mono {w : World} {base base' : Nat} {e : TypeId} {v : Value} {xs : List UInt8} (h : OwnM w base e v xs) (hb : base' ≤ base) : OwnM w base' e v xs := by
  obtain ⟨g, cap, cur, fz, hv, hg0, rest⟩ := h
  exact ⟨g, cap, cur, fz, hv, by omega, rest⟩
theorem OwnM.form {w : World} {base : Nat} {e : TypeId} {v : Value} {xs : List UInt8} (h : OwnM w base e v xs) : ∃ g cap, v = .slice (some ⟨g, 0, none⟩) xs.length cap ∧ base ≤ g ∧ g < w.heap.size ∧ xs.length ≤ cap ∧
    ∀ j, j < xs.length → w.cell? ⟨g, j, none⟩ = some (.int .u8 ((xs.getD j 0).toNat : Nat)) := by
  obtain ⟨g, cap, cur, fz, rfl, hg0, hg, _, hnc, _, hcs, htake⟩ := h
  refine ⟨g, cap, rfl, hg0, lt_of_block hg, hnc, fun j hj => ?_⟩
  rw [cell_of_row w g j cur e fz hg]
  have h1 : (cur.toList.take xs.length)[j]? = (Lib.byteCells xs)[j]? := by rw [htake]
  rw [List.getElem?_take, if_pos hj] at h1
  have h2 : cur[j]? = cur.toList[j]? := by simp
  rw [h2, h1]
  simp [Lib.byteCells, hj]

/-- '[]byte(s)'. -/
theorem OwnM.ofBytes (w : World) (e : TypeId) (s : ByteArray) (hcap : grownCap w s.size 0 e ≤ maxLen) : OwnM (Lib.bytesWorld w e s) w.heap.size e (.slice (some ⟨w.heap.size, 0, none⟩) s.data.toList.length (grownCap w s.size 0 e)) s.data.toList := by
  have hge := grownCap_ge w s.size 0 e
  refine ⟨w.heap.size, grownCap w s.size 0 e, Lib.bytesCells w e s, _, rfl, Nat.le_refl _, Lib.bytesWorld_at_new w e s, .inl (Nat.le_refl _), by simpa using hge, hcap, ?_, ?_⟩
  · simp [Lib.bytesCells]; omega
  · simp only [Lib.bytesCells, Array.toList_append, Lib.byteCells]
    rw [List.take_append_of_le_length (by simp)]
    rw [List.take_of_length_le (by simp)]
    simp

theorem run_pushM {P : Program} (w : World) (base : Nat) (t ty e : TypeId) (i : TypeInfo) (ht : P.underlying t = some (.slice e)) (hi : P.info? e = some i) (hz : i.zero = some (.int .u8 0))
    (hsize : i.size = 1) (hby : i.bytes = 1) (v : Value) (xs : List UInt8) (hown : OwnM w base e v xs) (b : UInt8)
    (ad : Addr) (c : Nat) (hnew : ∀ j u, [Value.int .u8 (b.toNat : Int)][j]? = some u → w.cell? (ad.add j) = some u)
    (hlen : xs.length + 1 ≤ 1000000000) (hbase : base ≤ w.heap.size) :
    ∃ v' w', (Builtin.append_ #[t, t] ty #[v, .slice (some ad) 1 c]).run P w = .ok v' w' ∧ OwnM w' base e v' (xs ++ [b]) ∧ w.grownBy w' v.ownBlock := by
  obtain ⟨g, cap, cur, fz, rfl, hbg, hg, hum, hnc, hcm, hcs, htake⟩ := hown
  have hl : [Value.int .u8 (b.toNat : Int)].length = 1 * i.size := by rw [hsize]; rfl
  have e2 : Lib.byteCells (xs ++ [b]) = Lib.byteCells xs ++ [.int .u8 (b.toNat : Int)] := by simp [Lib.byteCells]
  have e1 : (xs ++ [b]).length = xs.length + 1 := by simp
  have hbl : (Lib.byteCells xs).length = xs.length := by simp [Lib.byteCells]
  by_cases hroom : xs.length + 1 ≤ cap
  · have hf := run_firstCells_some (P := P) w i.size 1 ad 1 c _ hl hnew
    have hst := store_oneM P w g xs.length e fz cur (Value.int .u8 (b.toNat : Int)) hg hum (by omega) rfl
    have hr : (Builtin.append_ #[t, t] ty #[.slice (some ⟨g, 0, none⟩) xs.length cap, .slice (some ad) 1 c]).run P w = .ok (.slice (some ⟨g, 0, none⟩) (xs.length + 1) cap) (w.setRow g (cur.setIfInBounds xs.length (Value.int .u8 (b.toNat : Int)))) := by
      rw [hsize] at hf
      simp [Builtin.append_, run_underlying ht, sizeOf, typeInfo, hi, hsize, Builtin.lenOf, hroom, hf, Addr.add_lit, hst]
    refine ⟨_, _, hr, ⟨g, cap, _, fz, by rw [e1], hbg, setRow_heap w g cur _ e _ hg, by simpa using hum, by omega, hcm, by simpa using hcs, ?_⟩, ⟨rfl, rfl, rfl, by simp, fun k _ hk => setRow_other w g k _ (fun e => hk (by simp [Value.ownBlock, e]))⟩⟩
    rw [e1, e2, ← htake, Array.toList_setIfInBounds]
    have hx : xs.length < cur.toList.length := by simp; omega
    rw [List.take_add_one, List.take_set_of_le (Nat.le_refl _), List.getElem?_set_self hx]
    rfl
  · have holds : ∀ j u, (Lib.byteCells xs)[j]? = some u → w.cell? ((⟨g, 0, none⟩ : Addr).add j) = some u := by
      intro j u hj
      have hadd : (⟨g, 0, none⟩ : Addr).add j = ⟨g, j, none⟩ := by unfold Addr.add; split <;> simp_all
      rw [hadd, cell_of_row w g j cur e fz hg]
      rw [← htake, List.getElem?_take] at hj
      split at hj
      · simpa using hj
      · cases hj
    have hr := run_append_grow (P := P) w t ty e i (.int .u8 0) ht hi hz ⟨g, 0, none⟩ xs.length cap (Lib.byteCells xs) (by rw [hsize, Nat.mul_one]; exact hbl) holds ad 1 c [Value.int .u8 (b.toNat : Int)] hl hnew (by omega) (by omega) (by rw [hby]; exact growslice_fits (by omega) (by omega))
    have hge := grownCap_ge w (xs.length + 1) cap e
    have hcm2 : grownCap w (xs.length + 1) cap e ≤ maxLen := grownCap_le_maxLen w (xs.length + 1) cap e (by unfold maxLen; omega)
    refine ⟨_, _, hr, ⟨w.heap.size, _, _, (0, 0), by rw [e1], hbase, heap_alloc_new w.drew _, .inr rfl, by omega, hcm2, ?_, ?_⟩, ⟨rfl, rfl, rfl, by simp, fun k hk _ => heap_alloc_old w.drew _ hk⟩⟩
    · have hz1 : (Value.int IntKind.u8 0).cells.size = 1 := rfl
      simp only [Array.size_append, List.size_toArray, size_zeroCells, hz1, hbl, List.length_cons, List.length_nil]
      omega
    · simp only [Array.toList_append]
      rw [e1, e2]
      have : (Lib.byteCells xs ++ [Value.int .u8 (b.toNat : Int)]).length = xs.length + 1 := by rw [List.length_append, hbl]; rfl
      rw [← this, List.take_left' (by simp)]

/-- 'out = append(out, c)'. -/
theorem wpList_pushM {P : Program} (w : World) {ops : Array Oper} {rest : List Oper} {o : Oper} {a : Act} {Q : Exit → Act → World → Prop} (hgd : o.guard = none) (s x : Operand) (t : TypeId)
    (ho : o.op = .call { callee := .builtin .append, args := #[s, x], argTypes := #[t, t] })
    (base : Nat) (e : TypeId) (i : TypeInfo) (ht : P.underlying t = some (.slice e)) (hi : P.info? e = some i) (hz : i.zero = some (.int .u8 0))
    (hsize : i.size = 1) (hby : i.bytes = 1) (v : Value) (xs : List UInt8) (hs : a.eval s = v) (hown : OwnM w base e v xs)
    (b : UInt8) (z : Int) (hx : a.eval x = .slice (some ⟨w.heap.size, 0, none⟩) 1 1) (hzb : z = b.toNat)
    (hlen : xs.length + 1 ≤ 1000000000) (hbase : base ≤ w.heap.size)
    (h : ∀ v' w', OwnM w' base e v' (xs ++ [b]) → Below base w w' → wpList P ops Q rest (a.put o.dst v') w') :
    wpList P ops Q (o :: rest) a (w.alloc (.cells #[.int .u8 z] e)) := by
  refine wpList_plain hgd fun _ hK => ?_
  have hown' : OwnM (w.alloc (.cells #[.int .u8 z] e)) base e v xs := hown.below ((Below.refl _ _).alloc (Nat.le_refl _) _)
  obtain ⟨v', w', hr, h2, h3⟩ := run_pushM (P := P) (w.alloc (.cells #[.int .u8 z] e)) base t o.type e i ht hi hz hsize hby v xs hown' b ⟨w.heap.size, 0, none⟩ 1 (push_cells w e z b hzb) hlen (by simp; omega)
  unfold Oper.wp execOp
  simp only [ho, resolve, invoke, builtin, Sem.run_bind, Sem.run_pure, Result.andThen_ok, List.map_toArray, List.map_cons, List.map_nil, hs, hx, hr]
  refine hK _ _ (h v' w' h2 ?_)
  refine ((Below.refl base w).alloc hbase _).grown h3 (by simp; omega) (fun k hk => ?_)
  obtain ⟨g, cap, cur, fz, rfl, hbg, _⟩ := hown
  cases hk
  exact hbg

end Go.Proofs.Ytkjjdoadjhjmbat
namespace Go.Proofs.Ytkjjdoadjhjmbat
open Go.RowKit

theorem zeros_more (r j : Nat) (h : r < 64) (hj : j < zerosFor r) : (r + 1 + j) % 64 ≠ 56 := by unfold zerosFor at hj; omega
theorem pow_step (b j : Nat) : b / 256 ^ j / 256 = b / 256 ^ (j + 1) := by rw [Nat.div_div_eq_div_mul, Nat.pow_succ]
theorem zeros_done (r : Nat) (h : r < 64) : (r + 1 + zerosFor r) % 64 = 56 := by unfold zerosFor; omega

/-- The parameter in a block of its own; what was there ahead of w is as it was. -/
structure OneVar (w : World) (t : TypeId) (a b c : Value) (X : World) : Prop where
  v : Var3 w.heap.size t a b c X
  below : Below w.heap.size w X
theorem OneVar.next {w : World} {t : TypeId} {a b c : Value} {X Y : World} (h : OneVar w t a b c X) (hb : Below X.heap.size X Y) : OneVar w t a b c Y :=
  ⟨h.v.next hb, h.below.trans (hb.mono h.below.size)⟩
theorem OneVar.new (w : World) (t : TypeId) (a b c : Value) : OneVar w t a b c (w.alloc (.cells #[a, b, c] t)) := ⟨Var3.new w t a b c, (Below.refl _ _).alloc (Nat.le_refl _) _⟩
theorem OneVar.later {w : World} {t : TypeId} {a b c : Value} {X Y : World} {B : Nat} (h : OneVar w t a b c X) (hB : w.heap.size < B) (hb : Below B X Y) : OneVar w t a b c Y :=
  ⟨⟨by rw [hb.block _ hB]; exact h.v.row⟩, h.below.trans (hb.mono (by omega))⟩

end Go.Proofs.Ytkjjdoadjhjmbat
namespace Go.Proofs.Ytkjjdoadjhjmbat
open Go.RowKit

theorem OwnB.set {w : World} {base g cap n : Nat} {e : TypeId} {xs : List UInt8} (h : OwnB w base e (.slice (some ⟨g, 0, none⟩) n cap) xs) (hn : xs.length = n) (j : Nat) (x : UInt8) :
    OwnB (w.setCell ⟨g, j, none⟩ (.int .u8 (x.toNat : Int))) base e (.slice (some ⟨g, 0, none⟩) n cap) (xs.set j x) := by
  subst hn
  have h' : w.ownsRow base e 1 (.slice (some ⟨g, 0, none⟩) xs.length cap) xs.length (Lib.byteCells xs) := h
  have := (h'.stored j (.int .u8 (x.toNat : Int))).1
  unfold OwnB
  rw [List.length_set]
  have e1 : Lib.byteCells (xs.set j x) = (Lib.byteCells xs).set j (.int .u8 (x.toNat : Int)) := by unfold Lib.byteCells; rw [List.map_set]
  rw [e1]
  exact this
theorem OwnB.free {w : World} {base g cap n : Nat} {e : TypeId} {xs : List UInt8} (h : OwnB w base e (.slice (some ⟨g, 0, none⟩) n cap) xs) (hn : xs.length = n) (j : Nat) : w.frozen? ⟨g, j, none⟩ = false := by
  subst hn
  exact World.ownsRow.frozenAt (base := base) (e := e) (size := 1) (xs := Lib.byteCells xs) (n := xs.length) (cap := cap) h j
theorem OwnB.at {w : World} {base g cap n : Nat} {e : TypeId} {xs : List UInt8} (h : OwnB w base e (.slice (some ⟨g, 0, none⟩) n cap) xs) (hn : xs.length = n) (j : Nat) (hj : j < n) : w.cell? ⟨g, j, none⟩ = some (.int .u8 ((xs.getD j 0).toNat : Nat)) := by
  subst hn
  obtain ⟨ao, c, hv, hh⟩ := h.form
  obtain ⟨g', hg', _, hc⟩ := hh (by omega)
  simp only [Value.slice.injEq] at hv
  obtain ⟨h1, _, _⟩ := hv
  rw [hg'] at h1
  simp only [Option.some.injEq, Addr.mk.injEq, and_true] at h1
  subst h1
  exact hc j hj
theorem xorB (x y : UInt8) : bits .xor .u8 (x.toNat : Int) (y.toNat : Int) = ((x ^^^ y).toNat : Int) := by
  have e : ∀ x y : Fin 256, bits .xor .u8 (x.val : Int) (y.val : Int) = ((x.val ^^^ y.val : Nat) : Int) := by
    intro x y
    unfold bits
    simp only
    rw [BitVec.toNat_xor]
    have ex : ∀ z : Fin 256, (BitVec.ofInt IntKind.u8.bits (z.val : Int)).toNat = z.val := fun z => by
      rw [BitVec.toNat_ofInt]
      show ((z.val : Int) % ((2 ^ 8 : Nat) : Int)).toNat = z.val
      have := z.isLt
      omega
    rw [ex x, ex y, IntKind.wrap_u8]
    have : x.val ^^^ y.val < 256 := Nat.xor_lt_two_pow (n := 8) x.isLt y.isLt
    omega
  have := e ⟨x.toNat, x.toNat_lt⟩ ⟨y.toNat, y.toNat_lt⟩
  rw [this]
  simp

end Go.Proofs.Ytkjjdoadjhjmbat
namespace Go.Proofs.Ytkjjdoadjhjmbat
open Go.RowKit

set_option maxRecDepth 100000 in
set_option maxHeartbeats 400000 in
theorem specPublicOf_yes (s : Nat) (h1 : 1 ≤ s) (h2 : s ≤ 1073741788) (w : World) :
    Calls Try.prog 37 #[.int .i64 s] w fun e w' => e = .returned (.int .i64 (publicP s : Nat)) ∧ w' = w := by
  have H0 := Lib.hid (inRange_yes (s : Int) 1 1073741788 (by omega) (by omega))
  have hp := specPowP_any 4 (s : Int)
  have e1 : powI 4 (s : Nat) = publicP s := powI_pow s (by omega)
  rw [e1] at hp
  have HP := Lib.hid hp
  generalize publicP s = p at HP
  clear hp e1
  go_enter Try.func37, Try.ntmps37
  go_wp2_with fail
  refine (H0.out _).mono ?_
  rintro e w1 ⟨rfl, rfl⟩
  go_wp2_with fail
  refine (HP.out _).mono ?_
  rintro e w2 ⟨rfl, rfl⟩
  go_wp2_with fail
  go_ret
  exact ⟨rfl, rfl⟩

set_option maxRecDepth 100000 in
set_option maxHeartbeats 400000 in
theorem specPublicOf_no (s : Int) (h : s < 1 ∨ 1073741788 < s) (w : World) :
    Calls Try.prog 37 #[.int .i64 s] w fun e w' => e = .returned (.int .i64 0) ∧ w' = w := by
  have H0 := Lib.hid (inRange_no s 1 1073741788 h)
  clear h
  go_enter Try.func37, Try.ntmps37
  go_wp2_with fail
  refine (H0.out _).mono ?_
  rintro e w1 ⟨rfl, rfl⟩
  go_wp2_with fail
  go_ret
  exact ⟨rfl, rfl⟩

end Go.Proofs.Ytkjjdoadjhjmbat
namespace Go.Proofs.Ytkjjdoadjhjmbat
open Go.RowKit

/-- A variable of two cells in a block of its own. -/
structure VarP (r : Nat) (t : TypeId) (a b : Value) (X : World) : Prop where
  row : X.heap[r]? = some (.cells #[a, b] t (0, 0))
theorem VarP.next {r : Nat} {t : TypeId} {a b : Value} {X Y : World} (h : VarP r t a b X) (hb : Below X.heap.size X Y) : VarP r t a b Y := ⟨by rw [hb.block r (lt_of_block h.row)]; exact h.row⟩
theorem VarP.drew {r : Nat} {t : TypeId} {a b : Value} {X : World} (h : VarP r t a b X) : VarP r t a b X.drew := ⟨h.row⟩
theorem VarP.c0 {r : Nat} {t : TypeId} {a b : Value} {X : World} (h : VarP r t a b X) : X.cell? ⟨r, 0, none⟩ = some a := by rw [cell_of_row X r 0 _ t (0, 0) h.row]; rfl
theorem VarP.c1 {r : Nat} {t : TypeId} {a b : Value} {X : World} (h : VarP r t a b X) : X.cell? ⟨r, 1, none⟩ = some b := by rw [cell_of_row X r 1 _ t (0, 0) h.row]; rfl
theorem VarP.free {r : Nat} {t : TypeId} {a b : Value} {X : World} (h : VarP r t a b X) (j : Nat) : X.frozen? ⟨r, j, none⟩ = false := frozen_of_row X r j _ t h.row
theorem VarP.set2 {r : Nat} {t : TypeId} {a b : Value} {X : World} (h : VarP r t a b X) (a' b' : Value) : VarP r t a' b' ((X.setCell ⟨r, 0, none⟩ a').setCell ⟨r, 1, none⟩ b') :=
  ⟨by have h1 := h.row; simp [World.setCell, Array.getElem?_modify, h1]⟩
theorem Only.set2 (w : World) (r : Nat) (v0 v1 : Value) : Only r w ((w.setCell ⟨r, 0, none⟩ v0).setCell ⟨r, 1, none⟩ v1) := (Only.setCell 0 v0).trans (Only.setCell 1 v1)
theorem VarP.set0 {r : Nat} {t : TypeId} {a b : Value} {X : World} (h : VarP r t a b X) (a' : Value) : VarP r t a' b (X.setCell ⟨r, 0, none⟩ a') := ⟨by have h1 := h.row; simp [World.setCell, Array.getElem?_modify, h1]⟩
theorem VarP.set1 {r : Nat} {t : TypeId} {a b : Value} {X : World} (h : VarP r t a b X) (b' : Value) : VarP r t a b' (X.setCell ⟨r, 1, none⟩ b') := ⟨by have h1 := h.row; simp [World.setCell, Array.getElem?_modify, h1]⟩
theorem VarP.only {r q : Nat} {t : TypeId} {a b : Value} {X Y : World} (h : VarP r t a b X) (ho : Only q X Y) (hr : r ≠ q) : VarP r t a b Y := ⟨by rw [ho.block r (lt_of_block h.row) hr]; exact h.row⟩
theorem VarP.new (w : World) (t : TypeId) (a b : Value) : VarP w.heap.size t a b (w.alloc (.cells #[a, b] t)) := ⟨heap_alloc_new w _⟩

/-- A variable of two cells that the call itself has made, and nothing below it is changed. -/
structure PV (w : World) (t : TypeId) (a b : Value) (X : World) : Prop where
  v : VarP w.heap.size t a b X
  below : Below w.heap.size w X
theorem PV.next {w : World} {t : TypeId} {a b : Value} {X Y : World} (h : PV w t a b X) (hb : Below X.heap.size X Y) : PV w t a b Y := ⟨h.v.next hb, h.below.trans (hb.mono h.below.size)⟩
theorem PV.drew {w : World} {t : TypeId} {a b : Value} {X : World} (h : PV w t a b X) : PV w t a b X.drew := ⟨h.v.drew, h.below.drew⟩
theorem PV.two {w : World} {t : TypeId} {a b : Value} {X : World} (h : PV w t a b X) : X.cell? ⟨w.heap.size, 0, none⟩ = some a ∧ X.cell? ⟨w.heap.size, 1, none⟩ = some b ∧ PV w t a b X := ⟨h.v.c0, h.v.c1, h⟩
theorem PV.new (w : World) (t : TypeId) (a b : Value) : PV w t a b (w.alloc (.cells #[a, b] t)) := ⟨VarP.new w t a b, (Below.refl _ _).alloc (Nat.le_refl _) _⟩
theorem PV.set2 {w : World} {t : TypeId} {a b : Value} {X : World} (h : PV w t a b X) (a' b' : Value) : PV w t a' b' ((X.setCell ⟨w.heap.size, 0, none⟩ a').setCell ⟨w.heap.size, 1, none⟩ b') :=
  ⟨h.v.set2 a' b', h.below.trans ((Only.set2 X w.heap.size a' b').below (Nat.le_refl _) h.below.size)⟩

end Go.Proofs.Ytkjjdoadjhjmbat

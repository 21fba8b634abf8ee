/-
  A number read from four bytes, by the given one: what it answers.
  The given words of digests: turned, read of a text.
  Rows of words of 32 bits in memory; no program is spoken of here.
-/
import Derived.Test.YtkjjdoadjhjmbaeGreatDoorJ08
import Derived.Test.YtkjjdoadjhjmbaeGreatDoorRows
import Derived.Test.YtkjjdoadjhjmbaeGreatDoorJ02
import Derived.Test.YtkjjdoadjhjmbaeGreatDoorJ01
import Derived.Deep.RegionHeld3
import Derived.BigQuiet
import Derived.Deep.QuietTactic
import Derived.Deep.LoopGhost
import Derived.Deep.DeepCutAuto
import Derived.Test.YtkjjdoadjhjmbaeGreatDoorJ03
namespace Go.Proofs.YtkjjdoadjhjmbaeGreatDoor
open Go.RowKit

theorem w64_in (n : Int) (h : -9223372036854775808 ≤ n ∧ n ≤ 9223372036854775807) : wrap64 n = n := by unfold wrap64; omega
theorem word_sum (a b c d : Nat) (ha : a < 256) (hb : b < 256) (hc : c < 256) (hd : d < 256) :
    wrap64 (wrap64 (wrap64 (wrap64 (wrap64 (a : Int) * 16777216) + wrap64 (wrap64 (b : Int) * 65536)) + wrap64 (wrap64 (c : Int) * 256)) + wrap64 (d : Int)) = ((a * 16777216 + b * 65536 + c * 256 + d : Nat) : Int) := by
  rw [w64_in (a : Int) (by omega), w64_in (b : Int) (by omega), w64_in (c : Int) (by omega), w64_in (d : Int) (by omega), w64_in ((a : Int) * 16777216) (by omega), w64_in ((b : Int) * 65536) (by omega), w64_in ((c : Int) * 256) (by omega), w64_in ((a : Int) * 16777216 + (b : Int) * 65536) (by omega), w64_in ((a : Int) * 16777216 + (b : Int) * 65536 + (c : Int) * 256) (by omega), w64_in ((a : Int) * 16777216 + (b : Int) * 65536 + (c : Int) * 256 + (d : Int)) (by omega)]
  omega

set_option maxHeartbeats 400000 in
theorem specReadNumber_no (s : ByteArray) (hs : s.size ≠ 4) (w : World) :
    Calls Tryz.prog 79 #[.string s] w fun e w' => e = .returned (.tuple #[.int .i64 0, .bool false]) ∧ Below w.heap.size w w' := by
  have h1 : ((s.size : Int) != 4) = true := bne_iff_ne.2 (by omega)
  go_enter Tryz.func79, Tryz.ntmps79
  go_wp2
  go_ret2
  exact ⟨rfl, Below.refl _ _⟩

set_option maxRecDepth 100000 in
set_option maxHeartbeats 800000 in
theorem specReadNumber_yes (s : ByteArray) (hs : s.size = 4) (w : World) :
    Calls Tryz.prog 79 #[.string s] w fun e w' => e = .returned (.tuple #[.int .i64 (fourBack s.data.toList : Nat), .bool true]) ∧ Below w.heap.size w w' := by
  obtain ⟨b0, b1, b2, b3, rfl⟩ := four_bytes s hs
  have h1 : (((⟨#[b0, b1, b2, b3]⟩ : ByteArray).size : Int) != 4) = false := by rfl
  have l0 := b0.toNat_lt
  have l1 := b1.toNat_lt
  have l2 := b2.toNat_lt
  have l3 := b3.toNat_lt
  go_enter Tryz.func79, Tryz.ntmps79
  go_wp2
  go_quiet (fail)
  go_wp2
  go_ret2
  exact ⟨ret_ib (word_sum _ _ _ _ b0.toNat_lt b1.toNat_lt b2.toNat_lt b3.toNat_lt) rfl, below_drewN (Below.refl _ _) _⟩

theorem ReadNumber_both (s : ByteArray) : ∃ (n : Int) (b : Bool),
    (∀ w, Calls Tryz.prog 60 #[.string s] w fun e w' => e = .returned (.tuple #[.int .i64 n, .bool b]) ∧ Below w.heap.size w w') ∧
    (∀ w, Calls Tryz.prog 79 #[.string s] w fun e w' => e = .returned (.tuple #[.int .i64 n, .bool b]) ∧ Below w.heap.size w w') := by
  by_cases h : s.size = 4
  · exact ⟨_, _, fun w => implReadNumber_yes s h w, fun w => specReadNumber_yes s h w⟩
  · exact ⟨_, _, fun w => (implReadNumber_no s h w).mono fun e w' ⟨he, hw⟩ => ⟨he, by rw [hw]; exact Below.refl _ _⟩, fun w => specReadNumber_no s h w⟩

end Go.Proofs.YtkjjdoadjhjmbaeGreatDoor
namespace Go.Proofs.YtkjjdoadjhjmbaeGreatDoor
open Go.RowKit

set_option maxRecDepth 100000 in
set_option maxHeartbeats 400000 in
theorem specRight_any (x low high : Nat) (hx : x < 4294967296) (h0 : 0 < low) (hlh : low * high = 4294967296) (w : World) :
    Calls Tryz.prog 124 #[.int .u32 x, .int .u32 low, .int .u32 high] w fun e w' => e = .returned (.int .u32 (right x low high : Nat)) ∧ Below w.heap.size w w' := by
  have hl0 : ¬ (low : Int) = 0 := by omega
  go_enter Tryz.func124, Tryz.ntmps124
  go_wp2
  go_quiet (fail)
  go_wp2
  go_ret
  refine ⟨congrArg (fun z => Ending.returned (.int .u32 z)) ?_, below_drewN (Below.refl _ _) _⟩
  obtain ⟨p1, p2, p3⟩ := right_parts x low high hx h0 hlh
  have p4 := right_lt x low high hx h0 hlh
  have e1 : (x : Int) / (low : Int) = ((x / low : Nat) : Int) := by rw [Int.natCast_ediv]
  have e2 : (x : Int) % (low : Int) * (high : Int) = ((x % low * high : Nat) : Int) := by rw [Int.natCast_mul, Int.natCast_emod]
  rw [e1, e2]
  unfold right at p4 ⊢
  generalize x / low = q at *
  generalize x % low * high = r at *
  omega

/-- A place behind another one, as a number of its own. -/
theorem place (k j n : Nat) (h : k + j < n) (hn : n ≤ 1099511627776) : ∃ m : Nat, (k : Int) + (j : Int) = (m : Int) ∧ IntKind.i64.wrap (m : Int) = (m : Int) ∧ (m : Int) < (n : Int) ∧ Hid (m = k + j) :=
  ⟨k + j, by omega, by rw [IntKind.wrap_i64]; omega, by omega, rfl⟩

theorem byte_getD (s : ByteArray) (k : Nat) (h : k < s.size) : s.data.toList.getD k 0 = s[k] := by
  rw [List.getD_eq_getElem?_getD, List.getElem?_eq_getElem (by simpa using h)]
  rfl

theorem word_mul (a b c d : Nat) (ha : a < 256) (hb : b < 256) (hc : c < 256) (hd : d < 256) :
    (((a : Int) % 4294967296 * 16777216 + (b : Int) % 4294967296 * 65536 + (c : Int) % 4294967296 * 256) % 4294967296 + (d : Int) % 4294967296) % 4294967296 = ((a * 16777216 + b * 65536 + c * 256 + d : Nat) : Int) := by
  omega

set_option maxRecDepth 100000 in
set_option maxHeartbeats 800000 in
theorem specWord_any (s : ByteArray) (k : Nat) (hk : k + 3 < s.size) (hs : s.size ≤ 1099511627776) (w : World) :
    Calls Tryz.prog 115 #[.string s, .int .i64 k] w fun e w' => e = .returned (.int .u32 (wordAt s.data.toList k : Nat)) ∧ Below w.heap.size w w' := by
  have h0 : (k : Int) < (s.size : Int) := by omega
  obtain ⟨k1, a1, b1, c1, K1⟩ := place k 1 s.size (by omega) hs
  obtain ⟨k2, a2, b2, c2, K2⟩ := place k 2 s.size (by omega) hs
  obtain ⟨k3, a3, b3, c3, K3⟩ := place k 3 s.size (by omega) hs
  have a1' : (k : Int) + 1 = (k1 : Int) := a1
  have a2' : (k : Int) + 2 = (k2 : Int) := a2
  have a3' : (k : Int) + 3 = (k3 : Int) := a3
  clear a1 a2 a3
  go_enter Tryz.func115, Tryz.ntmps115
  go_wp2
  go_quiet (fail)
  go_wp2
  go_ret
  refine ⟨congrArg (fun z => Ending.returned (.int .u32 z)) ?_, below_drewN (Below.refl _ _) _⟩
  have q0 := byte_getD s k (by omega)
  have q1 := byte_getD s k1 (by omega)
  have q2 := byte_getD s k2 (by omega)
  have q3 := byte_getD s k3 (by omega)
  unfold wordAt fourNum
  rw [← K1.out, ← K2.out, ← K3.out, q0, q1, q2, q3]
  exact word_mul _ _ _ _ (UInt8.toNat_lt _) (UInt8.toNat_lt _) (UInt8.toNat_lt _) (UInt8.toNat_lt _)

set_option maxRecDepth 100000 in
set_option maxHeartbeats 800000 in
theorem specS_any (x a b c : Nat) (last : Bool) (hx : x < 4294967296) (ha : Halves a) (hb : Halves b) (hc : Halves c) (w : World) :
    Calls Tryz.prog 116 #[.int .u32 x, .int .u32 a, .int .u32 b, .int .u32 c, .bool last] w fun e w' => e = .returned (.int .u32 (sgm x a b c last : Nat)) ∧ Below w.heap.size w w' := by
  obtain ⟨qa, fa, ga, QA⟩ := ha.part
  obtain ⟨qb, fb, gb, QB⟩ := hb.part
  obtain ⟨qc, fc, gc, QC⟩ := hc.part
  have H1 := Lib.hid (specRight_any x a (qa * 2) hx ha.1 (by rw [QA.out]; exact ha.2.2))
  have H2 := Lib.hid (specRight_any x b (qb * 2) hx hb.1 (by rw [QB.out]; exact hb.2.2))
  have H3 := Lib.hid (specRight_any x c (qc * 2) hx hc.1 (by rw [QC.out]; exact hc.2.2))
  have e1 : sgm x a b c last = right x a (qa * 2) ^^^ right x b (qb * 2) ^^^ (if last then x / c else right x c (qc * 2)) := by rw [QA.out, QB.out, QC.out]; rfl
  have l1 := right_lt x a (qa * 2) hx ha.1 (by rw [QA.out]; exact ha.2.2)
  have l2 := right_lt x b (qb * 2) hx hb.1 (by rw [QB.out]; exact hb.2.2)
  have l3 := right_lt x c (qc * 2) hx hc.1 (by rw [QC.out]; exact hc.2.2)
  rw [e1]
  have a0 : ¬ (a : Int) = 0 := by have := ha.1; omega
  have b0 : ¬ (b : Int) = 0 := by have := hb.1; omega
  have c0 : ¬ (c : Int) = 0 := by have := hc.1; omega
  generalize right x a (qa * 2) = ra at *
  generalize right x b (qb * 2) = rb at *
  generalize right x c (qc * 2) = rc at *
  obtain ⟨xc, hxc, lxc, XC⟩ : ∃ q : Nat, (x : Int) / (c : Int) = (q : Int) ∧ q < 4294967296 ∧ Hid (q = x / c) := ⟨x / c, by rw [Int.natCast_ediv], Nat.lt_of_le_of_lt (Nat.div_le_self _ _) hx, rfl⟩
  rw [← XC.out]
  have lx1 : ra ^^^ rb < 4294967296 := Nat.xor_lt_two_pow (n := 32) l1 l2
  have x1 := xor_u32 ra rb l1 l2
  have x2 := xor_u32 (ra ^^^ rb) rc lx1 l3
  have x3 := xor_u32 (ra ^^^ rb) xc lx1 lxc
  have w1 : ((qa * 2 : Nat) : Int) = (qa : Int) * 2 := by omega
  have w2 : ((qb * 2 : Nat) : Int) = (qb : Int) * 2 := by omega
  have w3 : ((qc * 2 : Nat) : Int) = (qc : Int) * 2 := by omega
  rw [w1] at H1
  rw [w2] at H2
  rw [w3] at H3
  clear w1 w2 w3 e1 ha hb hc
  go_enter Tryz.func116, Tryz.ntmps116
  go_wp2_with fail
  refine (H1.out _).mono ?_
  rintro e w4 ⟨rfl, hb4⟩
  go_wp2_with fail
  refine (H2.out _).mono ?_
  rintro e w5 ⟨rfl, hb5⟩
  have HB5 := Lib.hid (hb4.trans (hb5.mono hb4.size))
  clear hb4 hb5
  cases last with
  | true =>
    go_wp2_with fail
    go_ret
    exact ⟨rfl, HB5.out⟩
  | false =>
    go_wp2_with fail
    refine (H3.out _).mono ?_
    rintro e w6 ⟨rfl, hb6⟩
    go_wp2_with fail
    go_ret
    exact ⟨rfl, HB5.out.trans (hb6.mono HB5.out.size)⟩

end Go.Proofs.YtkjjdoadjhjmbaeGreatDoor
namespace Go.Proofs.YtkjjdoadjhjmbaeGreatDoor
open Go.RowKit

/-- The cells of words. -/
def wcells (xs : List Nat) : List Value := xs.map fun (x : Nat) => Value.int .u32 (x : Int)
theorem wcells_length (xs : List Nat) : (wcells xs).length = xs.length := by simp [wcells]
theorem wcells_at (xs : List Nat) (j : Nat) (h : j < xs.length) : (wcells xs)[j]? = some (.int .u32 (xs.getD j 0 : Nat)) := by
  unfold wcells
  rw [List.getElem?_map, List.getD_eq_getElem?_getD, List.getElem?_eq_getElem h]
  rfl
theorem wcells_append (xs ys : List Nat) : wcells (xs ++ ys) = wcells xs ++ wcells ys := by unfold wcells; rw [List.map_append]

/-- The slice value v is nil or the call's own (from block 'base' on), and holds these words. -/
def OwnW (w : World) (base : Nat) (e : TypeId) (v : Value) (xs : List Nat) : Prop := w.ownsRow base e 1 v xs.length (wcells xs)

theorem OwnW.lit (w : World) (base : Nat) (e : TypeId) (hb : base ≤ w.heap.size) : OwnW (w.alloc (.cells #[] e)) base e (.slice (some ⟨w.heap.size, 0, none⟩) 0 0) [] :=
  World.ownsRow_lit w #[] 0 hb (by decide) rfl
theorem OwnW.alloc {w : World} {base : Nat} {e : TypeId} {v : Value} {xs : List Nat} (h : OwnW w base e v xs) (o : Obj) : OwnW (w.alloc o) base e v xs := World.ownsRow.alloc h o
theorem OwnW.drew {w : World} {base : Nat} {e : TypeId} {v : Value} {xs : List Nat} (h : OwnW w base e v xs) : OwnW w.drew base e v xs := World.ownsRow.drew h
theorem OwnW.drewN {w : World} {base : Nat} {e : TypeId} {v : Value} {xs : List Nat} (h : OwnW w base e v xs) (n : Nat) : OwnW (w.drewN n) base e v xs := h
theorem OwnW.below {w w' : World} {base : Nat} {e : TypeId} {v : Value} {xs : List Nat} (h : OwnW w base e v xs) (hb : Below w.heap.size w w') : OwnW w' base e v xs := by
  refine ⟨h.1, ?_⟩
  rcases h.2 with hn | ⟨g, cap, cur, hv, hb', hg, rest⟩
  · exact .inl hn
  · exact .inr ⟨g, cap, cur, hv, hb', by rw [hb.block g (lt_of_block hg)]; exact hg, rest⟩
theorem OwnW.mono {w : World} {base base' : Nat} {e : TypeId} {v : Value} {xs : List Nat} (h : OwnW w base e v xs) (hb : base' ≤ base) : OwnW w base' e v xs := by
  refine ⟨h.1, ?_⟩
  rcases h.2 with hn | ⟨g, cap, cur, hv, hb', rest⟩
  · exact .inl hn
  · exact .inr ⟨g, cap, cur, hv, by omega, rest⟩
theorem OwnW.form {w : World} {base : Nat} {e : TypeId} {v : Value} {xs : List Nat} (h : OwnW w base e v xs) (h0 : 0 < xs.length) : ∃ g cap, v = .slice (some ⟨g, 0, none⟩) xs.length cap ∧ base ≤ g ∧ g < w.heap.size ∧
    ∀ j, j < xs.length → w.cell? ⟨g, j, none⟩ = some (.int .u32 (xs.getD j 0 : Nat)) := by
  have h' : w.ownsRow base e 1 v xs.length (wcells xs) := h
  rcases h'.2 with ⟨rfl, hz⟩ | ⟨g, cap, cur, rfl, hb, hh, _, _, _, _⟩
  · omega
  · refine ⟨g, cap, rfl, hb, lt_of_block hh, fun j hj => ?_⟩
    rw [h'.cellAt j (by omega), wcells_at xs j hj]
theorem OwnW.cell {w : World} {base g cap n : Nat} {e : TypeId} {xs : List Nat} (h : OwnW w base e (.slice (some ⟨g, 0, none⟩) n cap) xs) (hn : xs.length = n) (j : Nat) (hj : j < n) : w.cell? ⟨g, j, none⟩ = some (.int .u32 (xs.getD j 0 : Nat)) := by
  subst hn
  have h' : w.ownsRow base e 1 (.slice (some ⟨g, 0, none⟩) xs.length cap) xs.length (wcells xs) := h
  rw [h'.cellAt j (by omega), wcells_at xs j hj]
theorem OwnW.free {w : World} {base g cap n : Nat} {e : TypeId} {xs : List Nat} (h : OwnW w base e (.slice (some ⟨g, 0, none⟩) n cap) xs) (hn : xs.length = n) (j : Nat) : w.frozen? ⟨g, j, none⟩ = false := by
  subst hn
  exact World.ownsRow.frozenAt (base := base) (e := e) (size := 1) (xs := wcells xs) (n := xs.length) (cap := cap) h j
theorem OwnW.set {w : World} {base g cap n : Nat} {e : TypeId} {xs : List Nat} (h : OwnW w base e (.slice (some ⟨g, 0, none⟩) n cap) xs) (hn : xs.length = n) (j x : Nat) :
    OwnW (w.setCell ⟨g, j, none⟩ (.int .u32 (x : Int))) base e (.slice (some ⟨g, 0, none⟩) n cap) (xs.set j x) := by
  subst hn
  have h' : w.ownsRow base e 1 (.slice (some ⟨g, 0, none⟩) xs.length cap) xs.length (wcells xs) := h
  have := (h'.stored j (.int .u32 (x : Int))).1
  unfold OwnW
  rw [List.length_set]
  have e1 : wcells (xs.set j x) = (wcells xs).set j (.int .u32 (x : Int)) := by unfold wcells; rw [List.map_set]
  rw [e1]
  exact this

theorem push_cellsW (w : World) (e : TypeId) (z : Nat) :
    ∀ j u, [Value.int .u32 (z : Int)][j]? = some u → (w.alloc (.cells #[.int .u32 (z : Int)] e)).cell? ((⟨w.heap.size, 0, none⟩ : Addr).add j) = some u := by
  intro j u hj
  match j, hj with
  | 0, hj => simp at hj; subst hj; simp [Addr.add]

/-- 'out = append(out, x)': out a row of words of the call's own. -/
theorem wpList_pushW {P : Program} (w : World) {ops : Array Oper} {rest : List Oper} {o : Oper} {a : Act} {Q : Exit → Act → World → Prop} (hgd : o.guard = none) (s x : Operand) (t : TypeId)
    (ho : o.op = .call { callee := .builtin .append, args := #[s, x], argTypes := #[t, t] })
    (base : Nat) (e : TypeId) (i : TypeInfo) (ht : P.underlying t = some (.slice e)) (hi : P.info? e = some i) (hz : i.zero = some (.int .u32 0))
    (hsize : i.size = 1) (hby : i.bytes = 4) (v : Value) (xs : List Nat) (hs : a.eval s = v) (hown : OwnW w base e v xs)
    (z : Nat) (y : Int) (hx : a.eval x = .slice (some ⟨w.heap.size, 0, none⟩) 1 1) (hy : y = (z : Int))
    (hlen : xs.length + 1 ≤ 1000000000) (hbase : base ≤ w.heap.size)
    (h : ∀ v' w', OwnW w' base e v' (xs ++ [z]) → Below base w w' → wpList P ops Q rest (a.put o.dst v') w') :
    wpList P ops Q (o :: rest) a (w.alloc (.cells #[.int .u32 y] e)) := by
  subst hy
  refine wpList_append_own (w.alloc (.cells #[.int .u32 (z : Int)] e)) hgd s x t ho base e i (.int .u32 0) 1 4 ht hi hz hsize hby rfl (by decide) v xs.length (wcells xs) hs (World.ownsRow.alloc hown _) ⟨w.heap.size, 0, none⟩ 1 1 [.int .u32 (z : Int)] hx rfl (push_cellsW w e z) (by intro u hu; simp at hu; subst hu; rfl) (by unfold maxLen; omega) (by omega) (by simp; omega) ?_
  intro v' w' h1 h2 _
  refine h v' w' ?_ ?_
  · unfold OwnW
    rw [List.length_append, wcells_append]
    exact h1
  · exact ((Below.refl base w).alloc hbase _).grown h2 (by simp; omega) (fun k hk => (World.ownsRow.lt hown k hk).1)

/-- 'append' onto a row of one's own: the cells of the old row stay, in place or not. -/
theorem run_append_keeps {P : Program} (w : World) (base : Nat) (t ty e : TypeId) (i : TypeInfo) (z : Value) (bytes : Nat) (ht : P.underlying t = some (.slice e)) (hi : P.info? e = some i) (hz : i.zero = some z)
    (hsize : i.size = 1) (hby : i.bytes = bytes) (hzs : z.cells.size = 1)
    (g cap n : Nat) (xs : List Value) (hown : w.ownsRow base e 1 (.slice (some ⟨g, 0, none⟩) n cap) n xs)
    (a : Addr) (m c : Nat) (news : List Value) (hl : news.length = m) (hnews : ∀ j u, news[j]? = some u → w.cell? (a.add j) = some u) (h1 : ∀ u ∈ news, u.oneCell' = true)
    (h63 : n + m ≤ maxLen) (hbytes : (n + m) * bytes ≤ 140737488355328) (hbase : base ≤ w.heap.size) :
    ∃ v' w', (Builtin.append_ #[t, t] ty #[.slice (some ⟨g, 0, none⟩) n cap, .slice (some a) m c]).run P w = .ok v' w' ∧ w'.ownsRow base e 1 v' (n + m) (xs ++ news) ∧ w.grownBy w' (some g) ∧
      w'.ownsRow base e 1 (.slice (some ⟨g, 0, none⟩) n cap) n xs := by
  have hl' : news.length = m * 1 := by omega
  obtain ⟨v', w', hr, h2, h3, _⟩ := run_append_own (P := P) w base t ty e i z 1 bytes ht hi hz hsize hby hzs (by decide) (.slice (some ⟨g, 0, none⟩) n cap) n xs hown a m c news hl' hnews h1 h63 hbytes hbase
  refine ⟨v', w', hr, h2, h3, ?_⟩
  have hsmall : n + m ≤ 9223372036854775807 := by simp only [maxLen] at h63; omega
  have hx : xs.length = n := by have := hown.1; omega
  rcases hown.2 with ⟨h', _⟩ | ⟨g', cap', cur, h', hbg, hg, hnc, hcm, hcs, htake⟩
  · simp at h'
  · simp only [Value.slice.injEq, Option.some.injEq, Addr.mk.injEq, and_true, true_and] at h'
    obtain ⟨rfl, rfl⟩ := h'
    by_cases hroom : n + m ≤ cap
    · have hfit : n * i.size + news.length ≤ cur.size := by rw [hsize, hcs]; omega
      have hr2 := run_append_room (P := P) w t ty e i ht hi g n cap cur hg a m c news (by rw [hsize]; exact hl') hnews h1 hroom hfit
      have hv : v' = .slice (some ⟨g, 0, none⟩) (n + m) cap := by
        have := hr.symm.trans hr2
        injection this
      subst hv
      rcases h2.2 with ⟨h', _⟩ | ⟨g2, cap2, cur2, h', hbg2, hg2, hnc2, hcm2, hcs2, htake2⟩
      · simp at h'
      · simp only [Value.slice.injEq, Option.some.injEq, Addr.mk.injEq, and_true, true_and] at h'
        obtain ⟨rfl, rfl⟩ := h'
        refine ⟨hown.1, .inr ⟨g, cap, cur2, rfl, hbg, hg2, hnc, hcm, hcs2, ?_⟩⟩
        have h5 := congrArg (List.take n) htake2
        rw [List.take_take, List.take_append_of_le_length (by omega), List.take_of_length_le (l := xs) (by omega)] at h5
        rw [Nat.mul_one, ← h5]
        congr 1
        omega
    · have holds : ∀ j u, xs[j]? = some u → w.cell? ((⟨g, 0, none⟩ : Addr).add j) = some u := hown.cells (g := g) rfl
      have hr2 := run_append_grow (P := P) w t ty e i z ht hi hz ⟨g, 0, none⟩ n cap xs (by rw [hsize]; omega) holds a m c news (by rw [hsize]; exact hl') hnews (by omega) (by omega) (growslice_fits (by omega) (by rw [hby]; exact hbytes))
      have hw := hr.symm.trans hr2
      injection hw with _ hw
      subst hw
      have hlt : g < w.heap.size := lt_of_block hg
      refine ⟨hown.1, .inr ⟨g, cap, cur, rfl, hbg, ?_, hnc, hcm, hcs, htake⟩⟩
      rw [heap_alloc_old w.drew _ hlt]
      exact hg

/-- The same as a step of a region that draws its order; the old row stays. -/
theorem step_pushWat {P : Program} {ops : Array Oper} {o : Oper} {a : Act} {W : World} {K : Act → World → Prop} {Q : Exit → Act → World → Prop} {E : Prop}
    (hg : o.guard = none) (s x : Operand) (t : TypeId) (hop : o.op = Op.call { callee := Callee.builtin Builtin.append, args := #[s, x], argTypes := #[t, t] })
    (base : Nat) (e : TypeId) (i : TypeInfo) (ht : P.underlying t = some (.slice e)) (hi : P.info? e = some i) (hz : i.zero = some (.int .u32 0))
    (hsize : i.size = 1) (hby : i.bytes = 4) (g cap n : Nat) (xs : List Nat) (hs : a.eval s = .slice (some ⟨g, 0, none⟩) n cap) (hn : xs.length = n) (hown : OwnW W base e (.slice (some ⟨g, 0, none⟩) n cap) xs)
    (z : Nat) (ad : Addr) (hx : a.eval x = .slice (some ad) 1 1) (hc : ∀ j u, [Value.int .u32 (z : Int)][j]? = some u → W.cell? (ad.add j) = some u)
    (hlen : n + 1 ≤ 1000000000) (hbase : base ≤ W.heap.size)
    (hK : ∀ v' w', OwnW w' base e v' (xs ++ [z]) → Below base W w' → OwnW w' base e (.slice (some ⟨g, 0, none⟩) n cap) xs → K (a.put o.dst v') w') :
    if Region.wanted o (yielded ops a.tmps) = true then Oper.wp P o a W K Q else E := by
  subst hn
  have hw : Region.wanted o (yielded ops a.tmps) = true := by simp [Region.wanted, hg]
  rw [if_pos hw]
  obtain ⟨v', w', hrun, r1, r2, r3⟩ := run_append_keeps (P := P) W base t o.type e i (.int .u32 0) 4 ht hi hz hsize hby rfl g cap xs.length (wcells xs) hown ad 1 1 [.int .u32 (z : Int)] rfl hc
    (by intro u hu; simp at hu; subst hu; rfl) (by unfold maxLen; omega) (by omega) hbase
  unfold Oper.wp
  simp [execOp, hop, resolve, invoke, builtin, hs, hx, hrun, Result.andThen]
  refine hK v' w' ?_ ?_ r3
  · unfold OwnW
    rw [List.length_append, wcells_append]
    exact r1
  · exact (Below.refl base W).grown r2 hbase (fun k hk => by cases hk; exact (World.ownsRow.lt hown _ rfl).1)

/-- Behind the word that the statement itself has laid. -/
theorem step_pushW {P : Program} {ops : Array Oper} {o : Oper} {a : Act} {w : World} {K : Act → World → Prop} {Q : Exit → Act → World → Prop} {E : Prop}
    (hg : o.guard = none) (s x : Operand) (t : TypeId) (hop : o.op = Op.call { callee := Callee.builtin Builtin.append, args := #[s, x], argTypes := #[t, t] })
    (base : Nat) (e : TypeId) (i : TypeInfo) (ht : P.underlying t = some (.slice e)) (hi : P.info? e = some i) (hz : i.zero = some (.int .u32 0))
    (hsize : i.size = 1) (hby : i.bytes = 4) (g cap n : Nat) (xs : List Nat) (hs : a.eval s = .slice (some ⟨g, 0, none⟩) n cap) (hn : xs.length = n) (hown : OwnW w base e (.slice (some ⟨g, 0, none⟩) n cap) xs)
    (z : Nat) (y : Int) (hx : a.eval x = .slice (some ⟨w.heap.size, 0, none⟩) 1 1) (hy : y = (z : Int))
    (hlen : n + 1 ≤ 1000000000) (hbase : base ≤ w.heap.size)
    (hK : ∀ v' w', OwnW w' base e v' (xs ++ [z]) → Below base w w' → OwnW w' base e (.slice (some ⟨g, 0, none⟩) n cap) xs → K (a.put o.dst v') w') :
    if Region.wanted o (yielded ops a.tmps) = true then Oper.wp P o a (w.alloc (.cells #[.int .u32 y] e)) K Q else E := by
  subst hy
  exact step_pushWat hg s x t hop base e i ht hi hz hsize hby g cap n xs hs hn (hown.alloc _) z ⟨w.heap.size, 0, none⟩ hx (fun j u hj => push_cellsW w e z j u hj) hlen (by simp; omega) fun v' w' h1 h2 h3 => hK v' w' h1 (((Below.refl base w).alloc hbase _).trans h2) h3

/-- Behind the word that the statement itself has laid, where nothing was called. -/
theorem step_pushWd {P : Program} {ops : Array Oper} {o : Oper} {a : Act} {w : World} {K : Act → World → Prop} {Q : Exit → Act → World → Prop} {E : Prop}
    (hg : o.guard = none) (s x : Operand) (t : TypeId) (hop : o.op = Op.call { callee := Callee.builtin Builtin.append, args := #[s, x], argTypes := #[t, t] })
    (base : Nat) (e : TypeId) (i : TypeInfo) (ht : P.underlying t = some (.slice e)) (hi : P.info? e = some i) (hz : i.zero = some (.int .u32 0))
    (hsize : i.size = 1) (hby : i.bytes = 4) (v : Value) (xs : List Nat) (hs : a.eval s = v) (hown : OwnW w base e v xs)
    (z : Nat) (y : Int) (hx : a.eval x = .slice (some ⟨w.heap.size, 0, none⟩) 1 1) (hy : y = (z : Int))
    (hlen : xs.length + 1 ≤ 1000000000) (hbase : base ≤ w.heap.size)
    (hK : ∀ v' w', OwnW w' base e v' (xs ++ [z]) → Below base w w' → K (a.put o.dst v') w') :
    if Region.wanted o (yielded ops a.tmps) = true then Oper.wp P o a ((w.alloc (.cells #[.int .u32 y] e)).drew) K Q else E := by
  subst hy
  have hw : Region.wanted o (yielded ops a.tmps) = true := by simp [Region.wanted, hg]
  rw [if_pos hw]
  have hown' : (w.alloc (.cells #[.int .u32 (z : Int)] e)).drew.ownsRow base e 1 v xs.length (wcells xs) := World.ownsRow.drew (World.ownsRow.alloc hown _)
  obtain ⟨v', w', hrun, r1, r2, _⟩ := run_append_own (P := P) (w.alloc (.cells #[.int .u32 (z : Int)] e)).drew base t o.type e i (.int .u32 0) 1 4 ht hi hz hsize hby rfl (by decide) v xs.length (wcells xs) hown' ⟨w.heap.size, 0, none⟩ 1 1 [.int .u32 (z : Int)] rfl (fun j u hj => push_cellsW w e z j u hj)
    (by intro u hu; simp at hu; subst hu; rfl) (by unfold maxLen; omega) (by omega) (by show base ≤ (w.alloc _).heap.size; simp; omega)
  unfold Oper.wp
  simp [execOp, hop, resolve, invoke, builtin, hs, hx, hrun, Result.andThen]
  refine hK v' w' ?_ ?_
  · unfold OwnW
    rw [List.length_append, wcells_append]
    exact r1
  · exact (((Below.refl base w).alloc hbase _).drew).grown r2 (by show base ≤ (w.alloc _).heap.size; simp; omega) (fun k hk => (World.ownsRow.lt hown k hk).1)

/-- 'append(out, row...)': out a row of words of the call's own, row one that can be read. -/
theorem wpList_joinW {P : Program} (w : World) {ops : Array Oper} {rest : List Oper} {o : Oper} {a : Act} {Q : Exit → Act → World → Prop} (hgd : o.guard = none) (s x : Operand) (t : TypeId)
    (ho : o.op = .call { callee := .builtin .append, args := #[s, x], argTypes := #[t, t] })
    (base : Nat) (e : TypeId) (i : TypeInfo) (ht : P.underlying t = some (.slice e)) (hi : P.info? e = some i) (hz : i.zero = some (.int .u32 0))
    (hsize : i.size = 1) (hby : i.bytes = 4) (v : Value) (xs : List Nat) (hs : a.eval s = v) (hown : OwnW w base e v xs)
    (g n c : Nat) (ys : List Nat) (hx : a.eval x = .slice (some ⟨g, 0, none⟩) n c) (hn : ys.length = n) (hc : ∀ j, j < n → w.cell? ⟨g, j, none⟩ = some (.int .u32 (ys.getD j 0 : Nat)))
    (hlen : xs.length + n ≤ 1000000000) (hbase : base ≤ w.heap.size)
    (h : ∀ v' w', OwnW w' base e v' (xs ++ ys) → Below base w w' → wpList P ops Q rest (a.put o.dst v') w') :
    wpList P ops Q (o :: rest) a w := by
  subst hn
  refine wpList_append_own w hgd s x t ho base e i (.int .u32 0) 1 4 ht hi hz hsize hby rfl (by decide) v xs.length (wcells xs) hs hown ⟨g, 0, none⟩ ys.length c (wcells ys) hx (by rw [wcells_length, Nat.mul_one]) ?_ (by intro u hu; unfold wcells at hu; obtain ⟨y, _, rfl⟩ := List.mem_map.1 hu; rfl) (by unfold maxLen; omega) (by omega) hbase ?_
  · intro j u hj
    have hjl : j < ys.length := by
      rcases Nat.lt_or_ge j ys.length with h | h
      · exact h
      · rw [List.getElem?_eq_none (by rw [wcells_length]; exact h)] at hj; cases hj
    have e1 : (⟨g, 0, none⟩ : Addr).add j = ⟨g, j, none⟩ := by unfold Addr.add; split <;> simp_all
    rw [e1, hc j hjl, ← wcells_at ys j hjl, hj]
  · intro v' w' h1 h2 _
    refine h v' w' ?_ ?_
    · unfold OwnW
      rw [List.length_append, wcells_append]
      exact h1
    · exact (Below.refl base w).grown h2 hbase (fun k hk => (World.ownsRow.lt hown k hk).1)

theorem push_cells4 (w : World) (e : TypeId) (b0 b1 b2 b3 : UInt8) :
    ∀ j u, (Lib.byteCells [b0, b1, b2, b3])[j]? = some u → (w.alloc (.cells #[.int .u8 (b0.toNat : Int), .int .u8 (b1.toNat : Int), .int .u8 (b2.toNat : Int), .int .u8 (b3.toNat : Int)] e)).cell? ((⟨w.heap.size, 0, none⟩ : Addr).add j) = some u := by
  intro j u hj
  match j, hj with
  | 0, hj => simp [Lib.byteCells] at hj; subst hj; simp [Addr.add]
  | 1, hj => simp [Lib.byteCells] at hj; subst hj; simp [Addr.add]
  | 2, hj => simp [Lib.byteCells] at hj; subst hj; simp [Addr.add]
  | 3, hj => simp [Lib.byteCells] at hj; subst hj; simp [Addr.add]

/-- 'out = append(out, a, b, c, d)': out a row of bytes of the call's own. -/
theorem wpList_push4 {P : Program} (w : World) {ops : Array Oper} {rest : List Oper} {o : Oper} {a : Act} {Q : Exit → Act → World → Prop} (hgd : o.guard = none) (s x : Operand) (t : TypeId)
    (ho : o.op = .call { callee := .builtin .append, args := #[s, x], argTypes := #[t, t] })
    (base : Nat) (e : TypeId) (i : TypeInfo) (ht : P.underlying t = some (.slice e)) (hi : P.info? e = some i) (hz : i.zero = some (.int .u8 0))
    (hsize : i.size = 1) (hby : i.bytes = 1) (v : Value) (xs : List UInt8) (hs : a.eval s = v) (hown : OwnB w base e v xs)
    (b0 b1 b2 b3 : UInt8) (z0 z1 z2 z3 : Int) (hx : a.eval x = .slice (some ⟨w.heap.size, 0, none⟩) 4 4) (h0 : z0 = b0.toNat) (h1 : z1 = b1.toNat) (h2 : z2 = b2.toNat) (h3 : z3 = b3.toNat)
    (hlen : xs.length + 4 ≤ 1000000000) (hbase : base ≤ w.heap.size)
    (h : ∀ v' w', OwnB w' base e v' (xs ++ [b0, b1, b2, b3]) → Below base w w' → wpList P ops Q rest (a.put o.dst v') w') :
    wpList P ops Q (o :: rest) a (w.alloc (.cells #[.int .u8 z0, .int .u8 z1, .int .u8 z2, .int .u8 z3] e)) := by
  subst h0 h1 h2 h3
  refine wpList_append_own (w.alloc (.cells #[.int .u8 (b0.toNat : Int), .int .u8 (b1.toNat : Int), .int .u8 (b2.toNat : Int), .int .u8 (b3.toNat : Int)] e)) hgd s x t ho base e i (.int .u8 0) 1 1 ht hi hz hsize hby rfl (by decide) v xs.length (Lib.byteCells xs) hs (World.ownsRow.alloc hown _) ⟨w.heap.size, 0, none⟩ 4 4 (Lib.byteCells [b0, b1, b2, b3]) hx rfl (push_cells4 w e b0 b1 b2 b3) (by intro u hu; simp [Lib.byteCells] at hu; rcases hu with rfl | rfl | rfl | rfl <;> rfl) (by unfold maxLen; omega) (by omega) (by simp; omega) ?_
  intro v' w' r1 r2 _
  refine h v' w' ?_ ?_
  · unfold OwnB
    rw [List.length_append, Lib.byteCells_append]
    exact r1
  · exact ((Below.refl base w).alloc hbase _).grown r2 (by simp; omega) (fun k hk => (World.ownsRow.lt hown k hk).1)

end Go.Proofs.YtkjjdoadjhjmbaeGreatDoor

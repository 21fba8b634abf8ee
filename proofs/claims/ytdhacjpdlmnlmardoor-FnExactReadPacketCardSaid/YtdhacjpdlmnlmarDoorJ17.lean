/-
  The given Unsealed.
  'out = append(out, x)' as a step of a region that draws its order; no program is spoken of here.
  A packet that is being read: what its bytes say so far, and what lies where.
-/
import Derived.Test.YtdhacjpdlmnlmarDoorJ15
import Derived.Test.YtdhacjpdlmnlmarDoorJ09
import Derived.Test.YtdhacjpdlmnlmarDoorJ13
import Derived.Test.YtdhacjpdlmnlmarDoorJ16
namespace Go.Proofs.YtdhacjpdlmnlmarDoor
open Go.RowKit

/-- A text is its cuts. -/
theorem cut_whole (s : ByteArray) (n : Nat) : s.data.toList = (s.extract 0 n).data.toList ++ (s.extract n s.size).data.toList := by
  have e := List.take_append_drop n s.data.toList
  have h1 : (s.extract 0 n).data.toList = s.data.toList.take n := by
    rw [ByteArray.data_extract, Array.toList_extract, List.extract_eq_take_drop]
    simp
  have h2 : (s.extract n s.size).data.toList = s.data.toList.drop n := by
    rw [ByteArray.data_extract, Array.toList_extract, List.extract_eq_take_drop]
    exact List.take_of_length_le (by simp)
  rw [h1, h2, e]

theorem byteArray_eq {a b : ByteArray} (h : a.data.toList = b.data.toList) : a = b := ByteArray.ext (Array.toList_inj.1 h)

theorem texts_apart {a b : ByteArray} (h : ¬ a = b) : (a.toList == b.toList) = false := by
  rw [beq_eq_false_iff_ne]
  intro e
  apply h
  rw [ByteArray.toList_eq, ByteArray.toList_eq] at e
  exact byteArray_eq e

theorem specUnsealed_short (s : ByteArray) (hs : s.size < 4) (w : World) :
    Calls Tryd.prog 9 #[.string s] w fun e w' => e = .returned (.tuple #[.string ⟨#[]⟩, .bool false]) ∧ Below w.heap.size w w' := by
  have h7 : (s.size : Int) - 4 < 0 := by omega
  go_enter Tryd.func9, Tryd.ntmps9
  go_wp2
  go_quiet (fail)
  go_wp2
  go_ret2
  first | exact ⟨rfl, below_drewN (Below.refl _ _) _⟩ | exact ⟨rfl, below_drewN _ _⟩

theorem specUnsealed_long (s : ByteArray) (hs : s.size ≤ 1048576) (h4 : 20004 < s.size) (w : World) :
    Calls Tryd.prog 9 #[.string s] w fun e w' => e = .returned (.tuple #[.string ⟨#[]⟩, .bool false]) ∧ Below w.heap.size w w' := by
  have h7 : decide ((s.size : Int) - 4 < 0) = false := decide_eq_false (by omega)
  have h8 : decide (20000 < (s.size : Int) - 4) = true := decide_eq_true (by omega)
  go_enter Tryd.func9, Tryd.ntmps9
  go_wp2
  go_quiet (fail)
  go_wp2
  go_ret2
  first | exact ⟨rfl, below_drewN (Below.refl _ _) _⟩ | exact ⟨rfl, below_drewN _ _⟩

set_option maxRecDepth 100000 in
set_option maxHeartbeats 400000 in
theorem specUnsealed_wrong (s : ByteArray) (h4 : 4 ≤ s.size) (h5 : s.size ≤ 20004) (hne : ¬ s.extract (s.size - 4) s.size = ⟨(four (sumL 4294967295 (s.extract 0 (s.size - 4)).data.toList)).toArray⟩) (w : World) :
    Calls Tryd.prog 9 #[.string s] w fun e w' => e = .returned (.tuple #[.string ⟨#[]⟩, .bool false]) ∧ Below w.heap.size w w' := by
  have h9 : (s.extract 0 (s.size - 4)).size = s.size - 4 := by simp [ByteArray.size_extract]
  have H1 := Lib.hid (specSumOf_any (s.extract 0 (s.size - 4)) (by omega))
  have H2 := Lib.hid (specFour_any (sumL 4294967295 (s.extract 0 (s.size - 4)).data.toList) (sealedOf_lt _))
  have h6 : ((s.size : Int) - 4).toNat = s.size - 4 := by omega
  have hs1 : 4 ≤ (s.size : Int) := by omega
  have hs2 : (s.size : Int) - 4 ≤ (s.size : Int) := by omega
  have h7 : decide ((s.size : Int) - 4 < 0) = false := decide_eq_false (by omega)
  have h8 : decide (20000 < (s.size : Int) - 4) = false := decide_eq_false (by omega)
  generalize (⟨(four (sumL 4294967295 (s.extract 0 (s.size - 4)).data.toList)).toArray⟩ : ByteArray) = u at hne H2
  generalize sumL 4294967295 (s.extract 0 (s.size - 4)).data.toList = z at H1 H2
  have hq : ((s.extract (s.size - 4) s.size).toList == u.toList) = false := texts_apart hne
  clear h9 hne
  go_enter Tryd.func9, Tryd.ntmps9
  go_wp2_with fail
  go_region_held3 (fun _ => True) (trivial) (first | (go_at_call 21; refine (H1.out _).mono ?_; rintro e w1 ⟨rfl, rfl⟩) | (go_at_call 20; refine (H2.out _).mono ?_; rintro e w2 ⟨rfl, hb⟩))
  all_goals
    go_wp2
    go_ret2
    exact ⟨rfl, below_undrew hb⟩

set_option maxRecDepth 100000 in
set_option maxHeartbeats 400000 in
theorem specUnsealed_right (s : ByteArray) (h4 : 4 ≤ s.size) (h5 : s.size ≤ 20004) (he : s.extract (s.size - 4) s.size = ⟨(four (sumL 4294967295 (s.extract 0 (s.size - 4)).data.toList)).toArray⟩) (w : World) :
    Calls Tryd.prog 9 #[.string s] w fun e w' => e = .returned (.tuple #[.string (s.extract 0 (s.size - 4)), .bool true]) ∧ Below w.heap.size w w' := by
  have h9 : (s.extract 0 (s.size - 4)).size = s.size - 4 := by simp [ByteArray.size_extract]
  have H1 := Lib.hid (specSumOf_any (s.extract 0 (s.size - 4)) (by omega))
  have H2 := Lib.hid (specFour_any (sumL 4294967295 (s.extract 0 (s.size - 4)).data.toList) (sealedOf_lt _))
  rw [← he] at H2
  have h6 : ((s.size : Int) - 4).toNat = s.size - 4 := by omega
  have hs1 : 4 ≤ (s.size : Int) := by omega
  have hs2 : (s.size : Int) - 4 ≤ (s.size : Int) := by omega
  have h7 : decide ((s.size : Int) - 4 < 0) = false := decide_eq_false (by omega)
  have h8 : decide (20000 < (s.size : Int) - 4) = false := decide_eq_false (by omega)
  generalize sumL 4294967295 (s.extract 0 (s.size - 4)).data.toList = z at H1 H2
  clear h9 he
  go_enter Tryd.func9, Tryd.ntmps9
  go_wp2_with fail
  go_region_held3 (fun _ => True) (trivial) (first | (go_at_call 21; refine (H1.out _).mono ?_; rintro e w1 ⟨rfl, rfl⟩) | (go_at_call 20; refine (H2.out _).mono ?_; rintro e w2 ⟨rfl, hb⟩))
  all_goals
    go_wp2
    go_ret2
    exact ⟨rfl, below_undrew hb⟩

theorem unsealed_same (s : ByteArray) : (⟨(sealedOf (s.extract 0 (s.size - 4)).data.toList).toArray⟩ : ByteArray) = s ↔ s.extract (s.size - 4) s.size = ⟨(four (sumL 4294967295 (s.extract 0 (s.size - 4)).data.toList)).toArray⟩ := by
  have e := cut_whole s (s.size - 4)
  constructor
  · intro h
    have h1 := congrArg (fun b : ByteArray => b.data.toList) h
    simp only [sealedOf] at h1
    refine byteArray_eq ?_
    rw [e] at h1
    exact (List.append_cancel_left h1).symm
  · intro h
    have h1 := congrArg (fun b : ByteArray => b.data.toList) h
    refine byteArray_eq ?_
    simp only at h1
    rw [h1] at e
    exact e.symm

end Go.Proofs.YtdhacjpdlmnlmarDoor
namespace Go.Proofs.YtdhacjpdlmnlmarDoor
open Go.RowKit

/-- 'out = append(out, x)' as a step of a region that draws its order, over flat rows. -/
theorem step_pushOne {α : Type} {P : Program} {ops : Array Oper} {o : Oper} {a : Act} {W : World} {K : Act → World → Prop} {Q : Exit → Act → World → Prop} {E : Prop}
    (hg : o.guard = none) (s x : Operand) (t : TypeId) (hop : o.op = Op.call { callee := Callee.builtin Builtin.append, args := #[s, x], argTypes := #[t, t] })
    (base : Nat) (e : TypeId) (i : TypeInfo) (z : Value) (bytes : Nat) (A : Lay α) (hf : Flat A) (ht : P.underlying t = some (.slice e)) (hi : P.info? e = some i) (hz : i.zero = some z)
    (hsize : i.size = A.k) (hby : i.bytes = bytes) (hzs : z.cells.size = A.k) (hb1 : bytes ≤ 1000) (v : Value) (f : List Nat) (xs : List α) (hs : a.eval s = v) (hown : (Lay.rows e A).own W base f [v] xs)
    (y : α) (cs : List Value) (hcs : A.rd W cs y) (ad : Addr) (hx : a.eval x = .slice (some ad) 1 1) (hc : ∀ j u, cs[j]? = some u → W.cell? (ad.add j) = some u)
    (hlen : xs.length + 1 ≤ 1000000000) (hbase : base ≤ W.heap.size)
    (hK : ∀ v' w', (Lay.rows e A).own w' base (blk v') [v'] (xs ++ [y]) → v' ≠ .slice none 0 0 → Below base W w' → W.grownBy w' v.ownBlock → K (a.put o.dst v') w') :
    if Region.wanted o (yielded ops a.tmps) = true then Oper.wp P o a W K Q else E := by
  have hw : Region.wanted o (yielded ops a.tmps) = true := by simp [Region.wanted, hg]
  rw [if_pos hw]
  obtain ⟨us, h1, h2, rfl⟩ := flat_inv hf hown
  have hlt : ∀ k, v.ownBlock = some k → base ≤ k := fun k hk => (World.ownsRow.lt h1 k hk).1
  obtain ⟨v', w', hrun, r1, r2, r3⟩ := run_append_own (P := P) W base t o.type e i z A.k bytes ht hi hz hsize hby hzs A.pos v xs.length us h1 ad 1 1 cs (by rw [A.len hcs, Nat.one_mul]) hc (A.one hcs) (by unfold maxLen; omega)
    (by have h1 : (xs.length + 1) * bytes ≤ 1000000000 * 1000 := Nat.mul_le_mul hlen hb1
        omega) hbase
  unfold Oper.wp
  simp [execOp, hop, resolve, invoke, builtin, hs, hx, hrun, Result.andThen]
  refine hK v' w' ?_ (fun e => by have := (r3.1 e).2; omega) (below_grown r2 hlt hbase) r2
  have h6 : w'.ownsRow base e A.k v' (xs ++ [y]).length (us ++ cs) := by rw [List.length_append]; exact r1
  exact flat_own hf h6 (rdAll_join A (hf.all h2) ⟨cs, [], by simp, hf.any _ _ _ _ hcs, rfl⟩)
theorem lit_cells_one (X : World) (cs : Array Value) (e : TypeId) (j : Nat) (u : Value) (h : cs.toList[j]? = some u) : (X.alloc (.cells cs e)).drew.cell? ((⟨X.heap.size, 0, none⟩ : Addr).add j) = some u := by
  have e1 : (⟨X.heap.size, 0, none⟩ : Addr).add j = ⟨X.heap.size, j, none⟩ := by unfold Addr.add; split <;> simp_all
  show (X.alloc (.cells cs e)).cell? _ = _
  rw [e1, cell_of_row (X.alloc (.cells cs e)) X.heap.size j cs e (0, 0) (heap_alloc_new X _)]
  simpa using h
theorem lit_cells_at (X : World) (cs : Array Value) (e : TypeId) (j : Nat) (u : Value) (h : cs.toList[j]? = some u) : (X.alloc (.cells cs e)).cell? ((⟨X.heap.size, 0, none⟩ : Addr).add j) = some u := lit_cells_one X cs e j u h

end Go.Proofs.YtdhacjpdlmnlmarDoor
namespace Go.Proofs.YtdhacjpdlmnlmarDoor
open Go.RowKit

/-- A packet with its ints. -/
structure PI where
  op : Int
  key : Int
  fr : Int
  dst : Int
  num : Int
  acks : List Int
  body : ByteArray
/-- text is the text of the right packet p. -/
def PI.says (text : ByteArray) (p : PI) : Prop := PkOkP p.op p.key p.fr p.dst p.num p.acks p.body ∧ text = ⟨(sealedOf (pkB (pkOf p.op p.key p.fr p.dst p.num p.acks p.body))).toArray⟩
def PI.accs (p : PI) : List Nat := p.acks.map Int.toNat
/-- What follows the first bytes. -/
def PI.t3 (p : PI) : List UInt8 := var p.num.toNat ++ (var p.accs.length ++ (p.accs.flatMap var ++ p.body.data.toList))

/-- Unsealed: one answer, and it is told where text is sealed. -/
theorem unsealed_one (text : ByteArray) (hs : text.size ≤ 1048576) : ∃ (s : ByteArray) (ok : Bool), s.size ≤ 20000 ∧
    (∀ w, Calls Tryd.prog 9 #[.string text] w fun e w' => e = .returned (.tuple #[.string s, .bool ok]) ∧ Below w.heap.size w w') ∧
    ∀ t : List UInt8, t.length ≤ 20000 → text = ⟨(sealedOf t).toArray⟩ → s.data.toList = t ∧ ok = true := by
  have hz : ∀ t : List UInt8, text = ⟨(sealedOf t).toArray⟩ → text.size = t.length + 4 := fun t h => by
    rw [h]
    show (sealedOf t).toArray.size = _
    simp [sealedOf, four_length]
  by_cases h1 : text.size < 4
  · exact ⟨⟨#[]⟩, false, by show 0 ≤ _; omega, fun w => specUnsealed_short text h1 w, fun t _ h => absurd (hz t h) (by omega)⟩
  by_cases h2 : 20004 < text.size
  · exact ⟨⟨#[]⟩, false, by show 0 ≤ _; omega, fun w => specUnsealed_long text hs h2 w, fun t ht h => absurd (hz t h) (by omega)⟩
  have hcut : ∀ t : List UInt8, text = ⟨(sealedOf t).toArray⟩ → (text.extract 0 (text.size - 4)).data.toList = t := fun t h => by
    have e := cut_whole text (text.size - 4)
    have hl : (text.extract 0 (text.size - 4)).data.toList.length = t.length := by
      have := hz t h
      simp
      omega
    have h3 : text.data.toList = t ++ four (sumL 4294967295 t) := by
      have := congrArg (fun b : ByteArray => b.data.toList) h
      simpa [sealedOf] using this
    rw [h3] at e
    exact (List.append_inj e.symm hl).1
  by_cases h3 : (⟨(sealedOf (text.extract 0 (text.size - 4)).data.toList).toArray⟩ : ByteArray) = text
  · exact ⟨_, true, by simp [ByteArray.size_extract]; omega, fun w => specUnsealed_right text (by omega) (by omega) ((unsealed_same text).1 h3) w, fun t _ h => ⟨hcut t h, rfl⟩⟩
  · exact ⟨⟨#[]⟩, false, by show 0 ≤ _; omega, fun w => specUnsealed_wrong text (by omega) (by omega) (fun h => h3 ((unsealed_same text).2 h)) w, fun t _ h => absurd (by rw [hcut t h]; exact h.symm) h3⟩
theorem PI.fits {text : ByteArray} {p : PI} (h : p.says text) : PkFits (pkOf p.op p.key p.fr p.dst p.num p.acks p.body) := h.1.fits
/-- The bytes of a right packet are few. -/
theorem PI.few {text : ByteArray} {p : PI} (h : p.says text) : (pkB (pkOf p.op p.key p.fr p.dst p.num p.acks p.body)).length ≤ 20000 := by
  have hf := h.1.fits
  have h1 := var_five _ hf.num
  have h2 := var_five _ hf.many
  have h3 := acks_bytes _ hf.acks
  have h4 : (pkOf p.op p.key p.fr p.dst p.num p.acks p.body).acks.length ≤ 4 := by
    show (p.acks.map Int.toNat).length ≤ 4
    rw [List.length_map]
    exact h.1.2.2.2.2.2.1
  have h5 : (pkOf p.op p.key p.fr p.dst p.num p.acks p.body).body.length ≤ 120 := by
    show p.body.data.toList.length ≤ 120
    have := h.1.2.2.2.2.2.2.1
    simpa using this
  unfold pkB
  simp only [List.length_cons, List.length_append]
  omega
/-- One byte more. -/
theorem one_step {R : PI → Prop} {s : ByteArray} {a a' r : Nat} {b b' : Bool} {x : PI → UInt8} {rest : PI → List UInt8} (h : b = false → ∀ h : a < s.size, r = s[a].toNat ∧ a' = a + 1 ∧ b' = false) (H : ∀ p, R p → b = false ∧ s.data.toList.drop a = x p :: rest p) :
    ∀ p, R p → (b' = false ∧ s.data.toList.drop a' = rest p) ∧ r = (x p).toNat := fun p hp => by
  obtain ⟨hb, hd⟩ := H p hp
  have hlt : a < s.data.toList.length := by
    have := congrArg List.length hd
    rw [List.length_drop, List.length_cons] at this
    omega
  have hlt2 : a < s.size := by simpa using hlt
  obtain ⟨h1, h2, h3⟩ := h hb hlt2
  rw [List.drop_eq_getElem_cons hlt] at hd
  injection hd with hd1 hd2
  have e1 : s[a] = x p := by rw [← hd1]; rfl
  exact ⟨⟨h3, by rw [h2]; exact hd2⟩, by rw [h1, e1]⟩
/-- One number more. -/
theorem var_step {R : PI → Prop} {s : ByteArray} {a a' r : Nat} {b b' : Bool} {x : PI → Nat} {rest : PI → List UInt8} (h : b = false → ∀ n t, readV (s.data.toList.drop a) = some (n, t) → r = n ∧ t = s.data.toList.drop a' ∧ b' = false) (hx : ∀ p, R p → x p ≤ 1000000000) (H : ∀ p, R p → b = false ∧ s.data.toList.drop a = var (x p) ++ rest p) :
    ∀ p, R p → (b' = false ∧ s.data.toList.drop a' = rest p) ∧ r = x p := fun p hp => by
  obtain ⟨hb, hd⟩ := H p hp
  have h1 := readV_var (x p) (hx p hp) (rest p)
  rw [← hd] at h1
  obtain ⟨k1, k2, k3⟩ := h hb _ _ h1
  exact ⟨⟨k3, k2.symm⟩, k1⟩

/-- The cursor, the result, the packet in its variable, its row. -/
structure RP (w : World) (c q : Nat) (s : ByteArray) (a : Nat) (b : Bool) (cs : Array Value) (v : Value) (xs : List Int) (X : World) : Prop where
  cur : VarA c CuT #[.string s, .int .i64 (a : Int), .bool b] X
  res : VarA w.heap.size PkT #[.int .i64 0, .int .i64 0, .int .i64 0, .int .i64 0, .int .i64 0, .slice none 0 0, .string ⟨#[]⟩] X
  var : VarA q PkT cs X
  own : ∃ f, layIntS.own X (q + 1) f [v] xs
  lt : w.heap.size < c ∧ c < q
  below : Below w.heap.size w X
section
variable {w : World} {c q : Nat} {s : ByteArray} {a : Nat} {b : Bool} {cs : Array Value} {v : Value} {xs : List Int} {X Y : World}
theorem RP.next (h : RP w c q s a b cs v xs X) (hb : Below X.heap.size X Y) : RP w c q s a b cs v xs Y := by
  obtain ⟨f, hf⟩ := h.own
  exact ⟨h.cur.next hb, h.res.next hb, h.var.next hb, ⟨f, layIntS.next hf hb⟩, h.lt, h.below.trans (hb.mono h.below.size)⟩
theorem RP.drew (h : RP w c q s a b cs v xs X) : RP w c q s a b cs v xs X.drew := h.next ((Below.refl _ X).drew)
theorem RP.alloc (h : RP w c q s a b cs v xs X) (o : Obj) : RP w c q s a b cs v xs (X.alloc o) := h.next ((Below.refl _ X).alloc (Nat.le_refl _) o)
/-- The cursor goes on. -/
theorem RP.step (h : RP w c q s a b cs v xs X) {a' : Nat} {b' : Bool} (hc : VarA c CuT #[.string s, .int .i64 (a' : Int), .bool b'] Y) (ho : Only c X Y) : RP w c q s a' b' cs v xs Y := by
  obtain ⟨f, hf⟩ := h.own
  have h2 := h.lt
  exact ⟨hc, h.res.only ho (by omega), h.var.only ho (by omega), ⟨f, lay_only layIntS hf ho (by omega)⟩, h.lt, h.below.trans (only_below ho (by omega) h.below.size)⟩
/-- One of the packet's cells is written. -/
theorem RP.set (h : RP w c q s a b cs v xs X) (j : Nat) (u : Value) : RP w c q s a b (cs.setIfInBounds j u) v xs (X.setCell ⟨q, j, none⟩ u) := by
  obtain ⟨f, hf⟩ := h.own
  have h2 := h.lt
  have ho : Only q X (X.setCell ⟨q, j, none⟩ u) := Only.setCell j u
  exact ⟨h.cur.only ho (by omega), h.res.only ho (by omega), h.var.set j u, ⟨f, lay_only layIntS hf ho (by omega)⟩, h.lt, h.below.trans (only_below ho (by omega) h.below.size)⟩
/-- The row has grown. -/
theorem RP.grown (h : RP w c q s a b cs v xs X) {v' : Value} {ys : List Int} (hown : ∃ f, layIntS.own Y (q + 1) f [v'] ys) (hb : Below (q + 1) X Y) : RP w c q s a b cs v' ys Y := by
  have h2 := h.lt
  exact ⟨h.cur.keep hb (by omega), h.res.keep hb (by omega), h.var.keep hb (by omega), hown, h.lt, h.below.trans (hb.mono (by omega))⟩
theorem RP.read (h : RP w c q s a b cs v xs X) : layIntS.rd X [v] xs := by
  obtain ⟨f, hf⟩ := h.own
  exact layIntS.read hf
end

end Go.Proofs.YtdhacjpdlmnlmarDoor

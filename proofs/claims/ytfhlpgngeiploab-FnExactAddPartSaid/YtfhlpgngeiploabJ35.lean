/-
  The given AddPart's variables: what is held of memory meanwhile.
  'append' to the tail of a flat row of the call's own; no program is spoken of here.
  'append(out, list...)' as a step of a region that draws its order; no program is spoken of here.
-/
import Derived.Test.YtfhlpgngeiploabJ32
import Derived.Test.YtfhlpgngeiploabJ34
import Derived.Test.YtfhlpgngeiploabJ27
import Derived.Test.YtfhlpgngeiploabJ23
import Derived.Lib.LazyBuf
import Derived.ArgAppend
import Derived.Test.YtfhlpgngeiploabJ04
import Derived.Laws.OwnMore
namespace Go.Proofs.Ytfhlpgngeiploab
open Go.RowKit

abbrev rawHeld : Lay (List (List Value)) := Lay.rows HeldT (layCells layHeld.k layHeld.pos)
/-- The cells of one, what it is, and its own blocks. -/
abbrev HeldZ := List Value × HeldD × List Nat
/-- Behind the loop: the one that is put in its place, and the others' cells. -/
structure GPS (w : World) (gx zs : Nat) (v : Value) (fx : List Nat) (cs : List Value) (x : HeldD) (fr : List Nat) (u : Value) (rz : List HeldZ) (X : World) : Prop where
  s : VarA w.heap.size ShelfT #[v] X
  r : VarA (w.heap.size + 1) ShelfT #[.slice none 0 0] X
  xv : VarA gx HeldT cs.toArray X
  xo : layHeld.own X (w.heap.size + 2) fx cs x
  xd : fx.Nodup
  ro : rawHeld.own X zs fr [u] (rz.map (·.1))
  rd : fr.Nodup
  each : ∀ z ∈ rz, layHeld.own X (w.heap.size + 2) z.2.2 z.1 z.2.1 ∧ ∀ k ∈ z.2.2, k ∉ fx
  ez : ∀ z ∈ rz, ∀ k ∈ z.2.2, k < zs
  lo : w.heap.size + 2 ≤ gx
  gxx : gx ∉ fx
  fxz : ∀ k ∈ fx, k < zs
  gz : gx < zs
  below : Below w.heap.size w X
section
variable {w X Y : World} {gx zs : Nat} {v u : Value} {fx fr : List Nat} {cs : List Value} {x x' : HeldD} {rz : List HeldZ}
theorem GPS.next (h : GPS w gx zs v fx cs x fr u rz X) (hb : Below X.heap.size X Y) : GPS w gx zs v fx cs x fr u rz Y :=
  ⟨h.s.next hb, h.r.next hb, h.xv.next hb, layHeld.next h.xo hb, h.xd, rawHeld.next h.ro hb, h.rd, fun z hz => ⟨layHeld.next (h.each z hz).1 hb, (h.each z hz).2⟩, h.ez, h.lo, h.gxx, h.fxz, h.gz, h.below.trans (hb.mono h.below.size)⟩
/-- Its rows are written. -/
theorem GPS.put (h : GPS w gx zs v fx cs x fr u rz X) (hc : Chg fx X Y) (ho : layHeld.own Y (w.heap.size + 2) fx cs x') : GPS w gx zs v fx cs x' fr u rz Y := by
  have hb := layHeld.blocks h.xo
  have hlow : ∀ k ∈ fx, w.heap.size + 2 ≤ k := fun k hk => (hb k hk).1
  refine ⟨⟨(hc.block _ h.s.lt (fun hm => by have := hlow _ hm; omega)).trans h.s.row⟩, ⟨(hc.block _ h.r.lt (fun hm => by have := hlow _ hm; omega)).trans h.r.row⟩, ⟨(hc.block _ h.xv.lt h.gxx).trans h.xv.row⟩, ho, h.xd,
    rawHeld.chg h.ro hc (fun k hk hm => by have h1 := (rawHeld.blocks h.ro k hk).1; have h2 := h.fxz k hm; omega), h.rd, fun z hz => ⟨layHeld.chg (h.each z hz).1 hc (h.each z hz).2, (h.each z hz).2⟩, h.ez, h.lo, h.gxx, h.fxz, h.gz, h.below.trans (hc.below (fun k hk => by have := hlow k hk; omega) h.below.size)⟩
/-- The others can be read. -/
theorem GPS.others (h : GPS w gx zs v fx cs x fr u rz X) (hb : Below X.heap.size X Y) : ∀ z ∈ rz.map (fun z => (z.1, z.2.1)), layHeld.rd Y z.1 z.2 := fun z hz => by
  obtain ⟨q, hq, rfl⟩ := List.mem_map.1 hz
  exact layHeld.below (layHeld.read (h.each q hq).1) hb
/-- All can be read where nothing below is changed. -/
theorem GPS.reads (h : GPS w gx zs v fx cs x fr u rz X) (hb : Below zs X Y) : (∀ z ∈ rz.map (fun z => (z.1, z.2.1)), layHeld.rd Y z.1 z.2) ∧ layHeld.rd Y cs x := by
  refine ⟨fun z hz => ?_, layHeld.read (layHeld.keep h.xo (fun g hg => hb.block g (h.fxz g hg)))⟩
  obtain ⟨q, hq, rfl⟩ := List.mem_map.1 hz
  exact layHeld.read (layHeld.keep (h.each q hq).1 (fun g hg => hb.block g (h.ez q hq g hg)))
theorem map_fst (rz : List HeldZ) : rz.map (·.1) = (rz.map (fun z => (z.1, z.2.1))).map (·.1) := by rw [List.map_map]; rfl
theorem map_snd (rz : List HeldZ) : rz.map (fun z => z.2.1) = (rz.map (fun z => (z.1, z.2.1))).map (·.2) := by rw [List.map_map]; rfl
end
/-- What l20Copy handed back goes out. -/
theorem made_ends {w X Y : World} {ys : List HeldD} {v9 : Value} {f9 : List Nat} (hs : w.heap.size + 2 ≤ X.heap.size) (hB : Below w.heap.size w X) (hd : f9.Nodup) (ho : layHeldS.own Y X.heap.size f9 [v9] ys) (hb : Below X.heap.size X Y) (whole : ByteArray) (ok : Bool) : AddMade w ys whole ok (.returned (.tuple #[.agg #[v9], .string whole, .bool ok])) (Y.setCell ⟨w.heap.size + 1, 0, none⟩ v9) := by
  have ho1 : Only (w.heap.size + 1) Y (Y.setCell ⟨w.heap.size + 1, 0, none⟩ v9) := Only.setCell 0 _
  have hB2 := hB.trans (hb.mono hB.size)
  have h9 := layHeldS.keep ho (fun a ha => ho1.block a (layHeldS.blocks ho a ha).2 (by have := (layHeldS.blocks ho a ha).1; omega))
  exact ⟨v9, f9, rfl, hd, room_of (layHeldS.lower h9 (by omega)), hB2.trans (ho1.below (by omega) hB2.size)⟩
/-- The variables ahead of the loop. -/
structure GAS (w : World) (q gx : Nat) (v u : Value) (f fx : List Nat) (xs : List HeldD) (cs : List Value) (x : HeldD) (X : World) : Prop where
  s : VarA w.heap.size ShelfT #[v] X
  r : VarA (w.heap.size + 1) ShelfT #[.slice none 0 0] X
  n : VarA q ShelfT #[u] X
  dup : f.Nodup
  own : layHeldS.own X (w.heap.size + 2) f [u] xs
  xo : layHeld.own X (w.heap.size + 2) fx cs x
  xd : fx.Nodup
  dis : ∀ k ∈ fx, k ∉ f
  gf : gx ∉ f ∧ gx ∉ fx ∧ gx ≠ q
  lo : w.heap.size + 2 ≤ gx ∧ w.heap.size + 2 ≤ q
  gl : gx < X.heap.size
  below : Below w.heap.size w X

theorem chg_below {f : List Nat} {Z X Y : World} (h : Chg f Z X) (hb : Below Z.heap.size X Y) : Chg f Z Y := ⟨hb.os.trans h.os, hb.tape.trans h.tape, hb.output.trans h.output, Nat.le_trans h.size hb.size, fun g hg hn => (hb.block g hg).trans (h.block g hg hn)⟩
theorem own_form {α : Type} {e : TypeId} {A : Lay α} {w : World} {b : Nat} {f : List Nat} {v : Value} {xs : List α} (h : (Lay.rows e A).own w b f [v] xs) (hn : v ≠ .slice none 0 0) : ∃ g c, v = .slice (some ⟨g, 0, none⟩) xs.length c ∧ xs.length ≤ c := by
  obtain ⟨v', hv, h⟩ := h
  obtain rfl : v = v' := by simpa using hv
  rcases h with ⟨h1, _, _⟩ | ⟨g, cap, us, fq, rfl, rfl, hrow, _⟩
  · exact absurd h1 hn
  · refine ⟨g, cap, rfl, ?_⟩
    rcases hrow.2 with ⟨hv, _⟩ | ⟨g', cap', cur, hv, _, _, hc, _⟩
    · cases hv
    · simp only [Value.slice.injEq] at hv
      obtain ⟨-, -, rfl⟩ := hv
      exact hc
theorem var_cells {g : Nat} {T : TypeId} {cs : List Value} {X : World} (h : VarA g T cs.toArray X) : ∀ j u, cs[j]? = some u → X.cell? ((⟨g, 0, none⟩ : Addr).add j) = some u := fun j u hj => by
  rw [add_in, Nat.zero_add, cell_of_row X g j _ T (0, 0) h.row]
  simpa using hj
/-- Those of another From or Id. -/
def restZ (a d : Int) (zs : List HeldZ) : List HeldZ := zs.filter (fun z => decide (¬ SameV a d z.2.1))
theorem restZ_next {a d : Int} {zs : List HeldZ} {j : Nat} (h : j < zs.length) : restZ a d (zs.take (j + 1)) = restZ a d (zs.take j) ++ (if SameV a d zs[j].2.1 then [] else [zs[j]]) := by
  unfold restZ
  rw [take_next h, List.filter_append]
  congr 1
  by_cases hh : SameV a d zs[j].2.1
  · rw [if_pos hh, List.filter_cons, if_neg (by rw [decide_eq_true_eq]; exact fun h => h hh)]; rfl
  · rw [if_neg hh, List.filter_cons, if_pos (decide_eq_true hh)]; rfl
theorem restZ_snd (a d : Int) (zs : List HeldZ) : (restZ a d zs).map (fun z => z.2.1) = restV (zs.map (fun z => z.2.1)) a d := by
  unfold restZ restV
  rw [List.filter_map]
  rfl
theorem restZ_all {a d : Int} {zs : List HeldZ} (h : ∀ z ∈ zs, ¬ SameV a d z.2.1) : restZ a d zs = zs := List.filter_eq_self.2 (fun z hz => decide_eq_true (h z hz))
/-- Which one is found among the first. -/
def AtZ (zs : List HeldZ) (a d c : Int) (cs0 : List Value) (j : Nat) (A : Int) (cs : List Value) : Prop := (∃ (i : Nat) (hi : i < zs.length), i < j ∧ SameV a d zs[i].2.1 ∧ zs[i].2.1.2.2.1 = c ∧ A = (i : Int) ∧ cs = zs[i].1) ∨ ((∀ (i : Nat) (hi : i < zs.length), i < j → ¬ (SameV a d zs[i].2.1 ∧ zs[i].2.1.2.2.1 = c)) ∧ A = -1 ∧ cs = cs0)
theorem AtZ.skip {zs : List HeldZ} {a d c : Int} {cs0 cs : List Value} {j : Nat} {A : Int} (h : AtZ zs a d c cs0 j A cs) (hj : j < zs.length) (hn : ¬ (SameV a d zs[j].2.1 ∧ zs[j].2.1.2.2.1 = c)) : AtZ zs a d c cs0 (j + 1) A cs := by
  rcases h with ⟨i, hi, h1, h2⟩ | ⟨h1, h2⟩
  · exact .inl ⟨i, hi, by omega, h2⟩
  · refine .inr ⟨fun i hi h => ?_, h2⟩
    rcases Nat.lt_or_ge i j with h9 | h9
    · exact h1 i hi h9
    · obtain rfl : i = j := by omega
      exact hn
/-- A right list has one of From and Id at most. -/
theorem one_same {zs : List HeldZ} {a d : Int} (hs : ShelfP (zs.map (fun z => z.2.1))) {i k : Nat} (hi : i < zs.length) (hk : k < zs.length) (h1 : SameV a d zs[i].2.1) (h2 : SameV a d zs[k].2.1) : i = k := by
  have hp := List.pairwise_map.1 hs.2.2
  rcases Nat.lt_trichotomy i k with h9 | h9 | h9
  · exact absurd ⟨h1.1.trans h2.1.symm, h1.2.trans h2.2.symm⟩ ((List.pairwise_iff_getElem.1 hp) i k hi hk h9)
  · exact h9
  · exact absurd ⟨h2.1.trans h1.1.symm, h2.2.trans h1.2.symm⟩ ((List.pairwise_iff_getElem.1 hp) k i hk hi h9)
theorem restZ_at {zs : List HeldZ} {a d : Int} (hs : ShelfP (zs.map (fun z => z.2.1))) {j : Nat} (hj : j < zs.length) (h1 : SameV a d zs[j].2.1) : restZ a d (zs.take j) = zs.take j := restZ_all (fun z hz h9 => by
  obtain ⟨i, hi, rfl⟩ := List.mem_take_iff_getElem.1 hz
  have hij : i < j := by omega
  have := one_same hs (show i < zs.length by omega) hj h9 h1
  omega)

end Go.Proofs.Ytfhlpgngeiploab
namespace Go.Proofs.Ytfhlpgngeiploab
open Go.RowKit

section
variable {α : Type}
theorem run_pushTail {P : Program} (W : World) (base : Nat) (t ty e : TypeId) (i : TypeInfo) (z : Value) (bytes : Nat) (A : Lay α) (hf : Flat A) (ht : P.underlying t = some (.slice e)) (hi : P.info? e = some i) (hz : i.zero = some z)
    (hsize : i.size = A.k) (hby : i.bytes = bytes) (hzs : z.cells.size = A.k) (hb1 : bytes ≤ 1000) (g c : Nat) (f : List Nat) (xs : List α) (hown : (Lay.rows e A).own W base f [.slice (some ⟨g, 0, none⟩) xs.length c] xs) (k : Nat) (hk : k ≤ xs.length)
    (y : α) (cs : List Value) (hcs : A.rd W cs y) (ad : Addr) (hc : ∀ j u, cs[j]? = some u → W.cell? (ad.add j) = some u) (hlen : xs.length + 1 ≤ 1000000000) (hbase : base ≤ W.heap.size) :
    ∃ v' w', (Builtin.append_ #[t, t] ty #[.slice (some ⟨g, k * A.k, none⟩) (xs.length - k) (c - k), .slice (some ad) 1 1]).run P W = .ok v' w' ∧ (Lay.rows e A).rd w' [v'] (xs.drop k ++ [y]) ∧ Below base W w' := by
  obtain ⟨cur, R⟩ := RowK.of hf hown
  have hroom := R.room
  have hlow := R.low
  have hsz := R.size
  have hgl : g < W.heap.size := lt_of_block R.heap
  have hnl : cs.length = 1 * A.k := by rw [A.len hcs, Nat.one_mul]
  have hckk : xs.length * A.k ≤ c * A.k := Nat.mul_le_mul_right _ hroom
  have hkk : k * A.k ≤ xs.length * A.k := Nat.mul_le_mul_right _ hk
  have hsub : (xs.length - k) * A.k = xs.length * A.k - k * A.k := Nat.sub_mul _ _ _
  have hul : (cur.take (xs.length * A.k)).length = xs.length * A.k := rdAll_len A R.rd
  have hcell : ∀ j u, cur[j]? = some u → W.cell? ⟨g, j, none⟩ = some u := fun j u hu => by
    rw [cell_of_row W g j cur.toArray e (0, 0) R.heap]
    simpa using hu
  have hdr : ∀ w', rdAll A w' ((cur.take (xs.length * A.k)).drop (k * A.k)) (xs.drop k) := fun w' => hf.all (rdAll_drop A R.rd k hk)
  have hold : ∀ j u, ((cur.take (xs.length * A.k)).drop (k * A.k))[j]? = some u → cur[k * A.k + j]? = some u ∧ k * A.k + j < xs.length * A.k := fun j u hu => by
    rw [List.getElem?_drop] at hu
    have h9 := (List.getElem?_eq_some_iff.1 hu).1
    rw [hul] at h9
    rw [List.getElem?_take, if_pos h9] at hu
    exact ⟨hu, h9⟩
  have hol : ((cur.take (xs.length * A.k)).drop (k * A.k)).length = (xs.length - k) * A.k := by rw [List.length_drop, hul, hsub]
  by_cases hfit : xs.length - k + 1 ≤ c - k
  · have hck1 : (xs.length + 1) * A.k ≤ c * A.k := Nat.mul_le_mul_right _ (by omega)
    rw [Nat.add_mul, Nat.one_mul] at hck1
    have hoff : k * A.k + (xs.length - k) * A.k = xs.length * A.k := by rw [hsub]; omega
    have hin : ∀ j, j < cs.length → (W.cell? ⟨g, xs.length * A.k + j, none⟩).isSome = true ∧ W.frozen? ⟨g, xs.length * A.k + j, none⟩ = false := fun j hj => by
      rw [cell_of_row W g _ cur.toArray e (0, 0) R.heap, frozen_of_row W g _ cur.toArray e R.heap]
      have h9 : xs.length * A.k + j < cur.toArray.size := by rw [List.size_toArray, hsz]; omega
      rw [Array.getElem?_eq_getElem h9]
      simp
    have hrun := run_append_room_cells (P := P) W t ty e i ht hi g (k * A.k) (xs.length - k) (c - k) ad 1 1 cs (by rw [hsize]; exact hnl) hc (A.one hcs) hfit (fun j hj => by rw [hsize, hoff]; exact (hin j hj).1) (fun j hj => by rw [hsize, hoff]; exact (hin j hj).2)
    rw [hsize, hoff] at hrun
    have hB : Below base W (W.setCells g (xs.length * A.k) cs) := _root_.Go.below_setCells hlow cs _ W (Below.refl base W)
    refine ⟨_, _, hrun, ?_, hB⟩
    have hl : (xs.drop k ++ [y]).length = xs.length - k + 1 := by rw [List.length_append, List.length_drop]; rfl
    refine ⟨_, rfl, .inr ⟨g, k * A.k, c - k, (cur.take (xs.length * A.k)).drop (k * A.k) ++ cs, by rw [hl], by rw [hl]; exact hfit, Nat.lt_of_lt_of_le hgl hB.size, fun j u hu => ?_, rdAll_join A (hdr _) ⟨cs, [], by simp, hf.any _ _ _ _ hcs, rfl⟩⟩⟩
    by_cases hj : j < ((cur.take (xs.length * A.k)).drop (k * A.k)).length
    · rw [List.getElem?_append_left hj] at hu
      obtain ⟨h8, h9⟩ := hold j u hu
      rw [World.cell?_setCells_out g cs (xs.length * A.k) W ⟨g, k * A.k + j, none⟩ (fun _ _ => .inl h9)]
      exact hcell _ u h8
    · rw [List.getElem?_append_right (by omega)] at hu
      have h7 := (List.getElem?_eq_some_iff.1 hu).1
      have h9 := World.cell?_setCells_in g cs (xs.length * A.k) W (fun j hj => (hin j hj).1) (j - ((cur.take (xs.length * A.k)).drop (k * A.k)).length) h7
      rw [List.getElem?_eq_getElem h7] at hu
      cases hu
      have e9 : xs.length * A.k + (j - ((cur.take (xs.length * A.k)).drop (k * A.k)).length) = k * A.k + j := by rw [hol, hsub]; rw [hol, hsub] at hj; omega
      rw [e9] at h9
      exact h9
  · have hbyt : (xs.length - k + 1) * bytes ≤ 140737488355328 := by
      have h1 : (xs.length - k + 1) * bytes ≤ 1000000000 * 1000 := Nat.mul_le_mul (by omega) hb1
      omega
    obtain ⟨v', w', hrun, h3, hg⟩ := run_append_arg_grows (P := P) W t ty e i z A.k bytes ht hi hz hsize hby hzs A.pos ⟨g, k * A.k, none⟩ (xs.length - k) (c - k) ((cur.take (xs.length * A.k)).drop (k * A.k)) hol (fun j u hu => by
      rw [add_in]
      exact hcell _ u (hold j u hu).1) ad 1 1 cs hnl hc (by omega) (by unfold maxLen; omega) hbyt
    have hl : (xs.drop k ++ [y]).length = xs.length - k + 1 := by rw [List.length_append, List.length_drop]; rfl
    have h6 : w'.ownsRow W.heap.size e A.k v' (xs.drop k ++ [y]).length ((cur.take (xs.length * A.k)).drop (k * A.k) ++ cs) := by rw [hl]; exact h3
    exact ⟨v', w', hrun, (Lay.rows e A).read (flat_own hf h6 (rdAll_join A (hdr _) ⟨cs, [], by simp, hf.any _ _ _ _ hcs, rfl⟩)), (below_grown hg (fun k hk => by cases hk) (Nat.le_refl _)).mono hbase⟩
theorem wpList_pushTail {P : Program} (W : World) {ops : Array Oper} {rest : List Oper} {o : Oper} {a : Act} {Q : Exit → Act → World → Prop} (hgd : o.guard = none) (s x : Operand) (t : TypeId)
    (hop : o.op = Op.call { callee := Callee.builtin Builtin.append, args := #[s, x], argTypes := #[t, t] }) (v u : Value) (hs : a.eval s = v) (hx : a.eval x = u) {v' : Value} {w' : World}
    (hrun : (Builtin.append_ #[t, t] o.type #[v, u]).run P W = .ok v' w') (hK : wpList P ops Q rest (a.put o.dst v') w') : wpList P ops Q (o :: rest) a W := by
  refine wpList_plain hgd fun K hK' => ?_
  unfold Oper.wp
  simp [execOp, hop, resolve, invoke, builtin, hs, hx, hrun, Result.andThen]
  exact hK' _ _ hK
end

end Go.Proofs.Ytfhlpgngeiploab
namespace Go.Proofs.Ytfhlpgngeiploab
open Go.RowKit

/-- 'append(out, list...)' as a step of a region that draws its order, over flat rows. -/
theorem step_copyF {α : Type} {P : Program} {ops : Array Oper} {o : Oper} {a : Act} {W : World} {K : Act → World → Prop} {Q : Exit → Act → World → Prop} {E : Prop}
    (hg : o.guard = none) (s x : Operand) (t : TypeId) (hop : o.op = Op.call { callee := Callee.builtin Builtin.append, args := #[s, x], argTypes := #[t, t] })
    (base : Nat) (e : TypeId) (i : TypeInfo) (z : Value) (bytes : Nat) (A : Lay α) (hf : Flat A) (ht : P.underlying t = some (.slice e)) (hi : P.info? e = some i) (hz : i.zero = some z)
    (hsize : i.size = A.k) (hby : i.bytes = bytes) (hzs : z.cells.size = A.k) (hb1 : bytes ≤ 1000) (v : Value) (f : List Nat) (xs : List α) (hs : a.eval s = v) (hown : (Lay.rows e A).own W base f [v] xs) (hv0 : v ≠ .slice none 0 0)
    (u : Value) (ys : List α) (hx : a.eval x = u) (hys : (Lay.rows e A).rd W [u] ys)
    (hlen : xs.length + ys.length ≤ 1000000000) (hbase : base ≤ W.heap.size)
    (hK : ∀ v' w', (Lay.rows e A).own w' base (blk v') [v'] (xs ++ ys) → v' ≠ .slice none 0 0 → W.grownBy w' v.ownBlock → Below base W w' → K (a.put o.dst v') w') :
    if Region.wanted o (yielded ops a.tmps) = true then Oper.wp P o a W K Q else E := by
  have hw : Region.wanted o (yielded ops a.tmps) = true := by simp [Region.wanted, hg]
  rw [if_pos hw]
  obtain ⟨us, h1, h2, rfl⟩ := flat_inv hf hown
  obtain ⟨u', hu, hys⟩ := hys
  obtain rfl : u = u' := by simpa using hu
  have hlt : ∀ k, v.ownBlock = some k → base ≤ k := fun k hk => (World.ownsRow.lt h1 k hk).1
  have h7 : (xs.length + ys.length) * bytes ≤ 1000000000 * 1000 := Nat.mul_le_mul hlen hb1
  rcases hys with ⟨rfl, a', cap, rfl, hcap⟩ | ⟨g, off, cap, vs, rfl, _, hg2, hc, hr⟩
  · cases a' with
    | none =>
      rw [hcap rfl] at hx
      have hrun := run_append_owned_none (P := P) (w := W) base t o.type e i A.k ht hi v xs.length us h1
      unfold Oper.wp
      simp [execOp, hop, resolve, invoke, builtin, hs, hx, hrun, Result.andThen]
      rw [List.append_nil] at hK
      exact hK v W (flat_own hf h1 h2) hv0 (World.grownBy.refl _ _) (Below.refl _ _)
    | some ad =>
      obtain ⟨v', w', hrun, r1, r2, r3⟩ := run_append_own (P := P) W base t o.type e i z A.k bytes ht hi hz hsize hby hzs A.pos v xs.length us h1 ad 0 cap [] (by simp) (by simp) (by simp) (by unfold maxLen; simp at hlen; omega) (by simp at h7; simp; omega) hbase
      unfold Oper.wp
      simp [execOp, hop, resolve, invoke, builtin, hs, hx, hrun, Result.andThen]
      rw [List.append_nil] at hK
      rw [List.append_nil] at r1
      refine hK v' w' ?_ (fun e => hv0 (r3.1 e).1) r2 (below_grown r2 hlt hbase)
      exact flat_own hf r1 (hf.all h2)
  · obtain ⟨v', w', hrun, r1, r2, r3⟩ := run_append_own (P := P) W base t o.type e i z A.k bytes ht hi hz hsize hby hzs A.pos v xs.length us h1 ⟨g, off, none⟩ ys.length cap vs (rdAll_len A hr) (by
      intro j q hj
      have e1 : (⟨g, off, none⟩ : Addr).add j = ⟨g, off + j, none⟩ := by unfold Addr.add; split <;> simp_all
      rw [e1]
      exact hc j q hj) (rdAll_one A hr) (by unfold maxLen; omega) (by omega) hbase
    unfold Oper.wp
    simp [execOp, hop, resolve, invoke, builtin, hs, hx, hrun, Result.andThen]
    refine hK v' w' ?_ (fun e => hv0 (r3.1 e).1) r2 (below_grown r2 hlt hbase)
    have h6 : w'.ownsRow base e A.k v' (xs ++ ys).length (us ++ vs) := by rw [List.length_append]; exact r1
    exact flat_own hf h6 (rdAll_join A (hf.all h2) (hf.all hr))

end Go.Proofs.Ytfhlpgngeiploab

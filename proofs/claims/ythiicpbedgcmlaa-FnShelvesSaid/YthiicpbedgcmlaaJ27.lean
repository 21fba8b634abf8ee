/-
  Slices of rows, as they are read; no program is spoken of here.
  The given l20All: whether all parts are there.
  The given AddPart's variables: what is held of memory meanwhile.
-/
import Derived.Test.YthiicpbedgcmlaaJ26
import Derived.Test.YthiicpbedgcmlaaJ07
import Derived.Test.YthiicpbedgcmlaaJ24
import Derived.Test.YthiicpbedgcmlaaJ22
namespace Go.Proofs.Ythiicpbedgcmlaa
open Go.RowKit

section
variable {α : Type}
theorem rd_take {e : TypeId} {A : Lay α} {w : World} {a : Option Addr} {c : Nat} {xs : List α} (h : (Lay.rows e A).rd w [.slice a xs.length c] xs) (i : Nat) (hi : i ≤ xs.length) : (Lay.rows e A).rd w [.slice a i c] (xs.take i) := by
  obtain ⟨v, hv, h⟩ := h
  simp only [List.cons.injEq, and_true] at hv
  subst hv
  rcases h with ⟨rfl, a', c', hv, h⟩ | ⟨g, off, cap, us, hv, hc, hg, hcell, hr⟩
  · simp only [Value.slice.injEq] at hv
    obtain ⟨rfl, -, rfl⟩ := hv
    obtain rfl : i = 0 := by simpa using hi
    exact ⟨_, rfl, .inl ⟨rfl, _, _, rfl, h⟩⟩
  · simp only [Value.slice.injEq, true_and] at hv
    obtain ⟨rfl, rfl⟩ := hv
    have e : xs = xs.take i ++ xs.drop i := (List.take_append_drop i xs).symm
    rw [e] at hr
    obtain ⟨u1, u2, rfl, h1, h2⟩ := rdAll_append A hr
    have hl : (xs.take i).length = i := by rw [List.length_take]; omega
    refine ⟨_, rfl, .inr ⟨g, off, c, u1, by rw [hl], by rw [hl]; omega, hg, fun j u hu => hcell j u (by rw [List.getElem?_append_left (List.getElem?_eq_some_iff.1 hu).1]; exact hu), h1⟩⟩
theorem rd_drop {e : TypeId} {A : Lay α} {w : World} {g c : Nat} {xs : List α} (h : (Lay.rows e A).rd w [.slice (some ⟨g, 0, none⟩) xs.length c] xs) (i : Nat) (hi : i ≤ xs.length) : (Lay.rows e A).rd w [.slice (some ⟨g, i * A.k, none⟩) (xs.length - i) (c - i)] (xs.drop i) := by
  obtain ⟨v, hv, h⟩ := h
  simp only [List.cons.injEq, and_true] at hv
  subst hv
  rcases h with ⟨rfl, a', c', hv, h⟩ | ⟨g', off, cap, us, hv, hc, hg, hcell, hr⟩
  · obtain rfl : i = 0 := by simpa using hi
    exact ⟨_, rfl, .inl ⟨rfl, some ⟨g, 0 * A.k, none⟩, c - 0, rfl, fun e => by cases e⟩⟩
  · simp only [Value.slice.injEq, true_and, Option.some.injEq, Addr.mk.injEq, and_true] at hv
    obtain ⟨⟨rfl, rfl⟩, rfl⟩ := hv
    have e : xs = xs.take i ++ xs.drop i := (List.take_append_drop i xs).symm
    rw [e] at hr
    obtain ⟨u1, u2, rfl, h1, h2⟩ := rdAll_append A hr
    have hl : (xs.take i).length = i := by rw [List.length_take]; omega
    have hl2 : (xs.drop i).length = xs.length - i := List.length_drop
    have hu1 := rdAll_len A h1
    rw [hl] at hu1
    refine ⟨_, rfl, .inr ⟨g, i * A.k, c - i, u2, by rw [hl2], by rw [hl2]; omega, hg, fun j u hu => ?_, h2⟩⟩
    have h9 := hcell (u1.length + j) u (by rw [List.getElem?_append_right (by omega), Nat.add_sub_cancel_left]; exact hu)
    rw [Nat.zero_add, hu1] at h9
    exact h9
theorem rd_none {e : TypeId} {A : Lay α} {w : World} {g : Nat} : (Lay.rows e A).rd w [.slice (some ⟨g, 0, none⟩) 0 0] [] := ⟨_, rfl, .inl ⟨rfl, _, _, rfl, fun e => by cases e⟩⟩
end

end Go.Proofs.Ythiicpbedgcmlaa
namespace Go.Proofs.Ythiicpbedgcmlaa
open Go.RowKit

set_option maxRecDepth 100000 in
set_option maxHeartbeats 1600000 in
theorem specAll_bool (x0 x1 x2 : Int) (v3 v4 : Value) (r4 : List Bool) (x5 : Int) (b : Bool) (hb : b = true ↔ false ∉ r4) (hl : r4.length ≤ 100000000) (w : World) (h : layBoolS.rd w [v4] r4) :
    Calls Try.prog 28 #[.agg #[.int .i64 x0, .int .i64 x1, .int .i64 x2, v3, v4, .int .i64 x5]] w fun e w' => e = .returned (.bool b) ∧ Below w.heap.size w w' := by
  obtain ⟨a4, p4, rfl⟩ := rows_form h
  have A0 := Lib.hid (VarA.new w HeldT #[.int .i64 x0, .int .i64 x1, .int .i64 x2, v3, .slice a4 r4.length p4, .int .i64 x5])
  have B0 := Lib.hid ((Below.refl w.heap.size w).alloc (Nat.le_refl _) (.cells #[.int .i64 x0, .int .i64 x1, .int .i64 x2, v3, .slice a4 r4.length p4, .int .i64 x5] HeldT))
  have H4 := Lib.hid h
  have HB := Lib.hid hb
  clear h hb
  go_enter Try.func28, Try.ntmps28
  go_upto_region 1 with fail
  generalize w.alloc (.cells #[.int .i64 x0, .int .i64 x1, .int .i64 x2, v3, .slice a4 r4.length p4, .int .i64 x5] HeldT) = Y at *
  have c4 : Y.cell? ⟨w.heap.size, 4, none⟩ = some (.slice a4 r4.length p4) := A0.out.cell 4
  go_wp2_with fail
  go_loop [3] (fun c => ∃ j : Nat, j ≤ r4.length ∧ c = .int .i64 j ∧ Hid (false ∉ r4.take j)) (fun c => r4.length - (intOf c).toNat)
  case atStart => exact ⟨0, Nat.zero_le _, rfl, Lib.hid (by simp)⟩
  case round =>
    obtain ⟨j, hj, rfl, HP⟩ := hrel
    by_cases hlt : j < r4.length
    rotate_left
    · have hlt' : ¬ ((j : Int) < (r4.length : Int)) := by omega
      obtain rfl : j = r4.length := by omega
      have h9 := HP.out
      rw [List.take_length] at h9
      obtain rfl : b = true := HB.out.2 h9
      clear HB HP h9
      go_wp2_with fail
      go_ret
      exact ⟨rfl, B0.out⟩
    have hlt' : (j : Int) < (r4.length : Int) := by omega
    obtain ⟨g4, off4, cap4, hv4, hg4, hcell4⟩ := bools_get (layBoolS.below H4.out B0.out) j hlt
    simp only [Value.slice.injEq] at hv4
    obtain ⟨rfl, -, rfl⟩ := hv4
    have HTN : Hid (r4.take (j + 1) = r4.take j ++ [r4[j]]) := Lib.hid (by rw [List.take_add_one, List.getElem?_eq_getElem hlt]; rfl)
    have HMM := Lib.hid (List.getElem_mem hlt)
    generalize r4[j] = q at *
    cases q with
    | true =>
      have HN : Hid (false ∉ r4.take (j + 1)) := Lib.hid (by rw [HTN.out]; intro hm; rcases List.mem_append.1 hm with hm | hm; exact HP.out hm; simp at hm)
      clear HB HTN HMM
      go_wp2_with fail
      go_round
      case rel => exact ⟨j + 1, by omega, by go_num, HN⟩
      case measure => simp [intOf]; omega
    | false =>
      obtain rfl : b = false := Bool.eq_false_iff.2 (fun e => HB.out.1 e HMM.out)
      clear HB HTN HMM
      go_wp2_with fail
      go_ret
      exact ⟨rfl, B0.out⟩

end Go.Proofs.Ythiicpbedgcmlaa
namespace Go.Proofs.Ythiicpbedgcmlaa
open Go.RowKit

abbrev rawHeld : Lay (List (List Value)) := Lay.rows HeldT (layCells layHeld.k layHeld.pos)
/-- The cells of one, what it is, and its own blocks. -/
abbrev HeldZ := List Value × HeldD × List Nat
/-- Behind the loop: the one that is put in its place, and the others' cells. -/
structure GPS (w : World) (gx zs : Nat) (v : Value) (fx : List Nat) (cs : List Value) (x : HeldD) (fr : List Nat) (u : Value) (rz : List HeldZ) (X : World) : Prop where
  s : VarA w.heap.size ShelfT #[v] X
  r : VarA (w.heap.size + 1) ShelfT #[.slice none 0 0] X
  xv : VarA gx HeldT cs.toArray X
  xo : layHeld.own X (w.heap.size + 2) fx cs x
  xd : fx.Nodup
  ro : rawHeld.own X zs fr [u] (rz.map (·.1))
  rd : fr.Nodup
  each : ∀ z ∈ rz, layHeld.own X (w.heap.size + 2) z.2.2 z.1 z.2.1 ∧ ∀ k ∈ z.2.2, k ∉ fx
  ez : ∀ z ∈ rz, ∀ k ∈ z.2.2, k < zs
  lo : w.heap.size + 2 ≤ gx
  gxx : gx ∉ fx
  fxz : ∀ k ∈ fx, k < zs
  gz : gx < zs
  below : Below w.heap.size w X
section
variable {w X Y : World} {gx zs : Nat} {v u : Value} {fx fr : List Nat} {cs : List Value} {x x' : HeldD} {rz : List HeldZ}
theorem GPS.next (h : GPS w gx zs v fx cs x fr u rz X) (hb : Below X.heap.size X Y) : GPS w gx zs v fx cs x fr u rz Y :=
  ⟨h.s.next hb, h.r.next hb, h.xv.next hb, layHeld.next h.xo hb, h.xd, rawHeld.next h.ro hb, h.rd, fun z hz => ⟨layHeld.next (h.each z hz).1 hb, (h.each z hz).2⟩, h.ez, h.lo, h.gxx, h.fxz, h.gz, h.below.trans (hb.mono h.below.size)⟩
/-- Its rows are written. -/
theorem GPS.put (h : GPS w gx zs v fx cs x fr u rz X) (hc : Chg fx X Y) (ho : layHeld.own Y (w.heap.size + 2) fx cs x') : GPS w gx zs v fx cs x' fr u rz Y := by
  have hb := layHeld.blocks h.xo
  have hlow : ∀ k ∈ fx, w.heap.size + 2 ≤ k := fun k hk => (hb k hk).1
  refine ⟨⟨(hc.block _ h.s.lt (fun hm => by have := hlow _ hm; omega)).trans h.s.row⟩, ⟨(hc.block _ h.r.lt (fun hm => by have := hlow _ hm; omega)).trans h.r.row⟩, ⟨(hc.block _ h.xv.lt h.gxx).trans h.xv.row⟩, ho, h.xd,
    rawHeld.chg h.ro hc (fun k hk hm => by have h1 := (rawHeld.blocks h.ro k hk).1; have h2 := h.fxz k hm; omega), h.rd, fun z hz => ⟨layHeld.chg (h.each z hz).1 hc (h.each z hz).2, (h.each z hz).2⟩, h.ez, h.lo, h.gxx, h.fxz, h.gz, h.below.trans (hc.below (fun k hk => by have := hlow k hk; omega) h.below.size)⟩
/-- The others can be read. -/
theorem GPS.others (h : GPS w gx zs v fx cs x fr u rz X) (hb : Below X.heap.size X Y) : ∀ z ∈ rz.map (fun z => (z.1, z.2.1)), layHeld.rd Y z.1 z.2 := fun z hz => by
  obtain ⟨q, hq, rfl⟩ := List.mem_map.1 hz
  exact layHeld.below (layHeld.read (h.each q hq).1) hb
/-- All can be read where nothing below is changed. -/
theorem GPS.reads (h : GPS w gx zs v fx cs x fr u rz X) (hb : Below zs X Y) : (∀ z ∈ rz.map (fun z => (z.1, z.2.1)), layHeld.rd Y z.1 z.2) ∧ layHeld.rd Y cs x := by
  refine ⟨fun z hz => ?_, layHeld.read (layHeld.keep h.xo (fun g hg => hb.block g (h.fxz g hg)))⟩
  obtain ⟨q, hq, rfl⟩ := List.mem_map.1 hz
  exact layHeld.read (layHeld.keep (h.each q hq).1 (fun g hg => hb.block g (h.ez q hq g hg)))
theorem map_fst (rz : List HeldZ) : rz.map (·.1) = (rz.map (fun z => (z.1, z.2.1))).map (·.1) := by rw [List.map_map]; rfl
theorem map_snd (rz : List HeldZ) : rz.map (fun z => z.2.1) = (rz.map (fun z => (z.1, z.2.1))).map (·.2) := by rw [List.map_map]; rfl
end
/-- What l20Copy handed back goes out. -/
theorem made_ends {w X Y : World} {ys : List HeldD} {v9 : Value} {f9 : List Nat} (hs : w.heap.size + 2 ≤ X.heap.size) (hB : Below w.heap.size w X) (hd : f9.Nodup) (ho : layHeldS.own Y X.heap.size f9 [v9] ys) (hb : Below X.heap.size X Y) (whole : ByteArray) (ok : Bool) : AddMade w ys whole ok (.returned (.tuple #[.agg #[v9], .string whole, .bool ok])) (Y.setCell ⟨w.heap.size + 1, 0, none⟩ v9) := by
  have ho1 : Only (w.heap.size + 1) Y (Y.setCell ⟨w.heap.size + 1, 0, none⟩ v9) := Only.setCell 0 _
  have hB2 := hB.trans (hb.mono hB.size)
  have h9 := layHeldS.keep ho (fun a ha => ho1.block a (layHeldS.blocks ho a ha).2 (by have := (layHeldS.blocks ho a ha).1; omega))
  exact ⟨v9, f9, rfl, hd, room_of (layHeldS.lower h9 (by omega)), hB2.trans (ho1.below (by omega) hB2.size)⟩
/-- The variables ahead of the loop. -/
structure GAS (w : World) (q gx : Nat) (v u : Value) (f fx : List Nat) (xs : List HeldD) (cs : List Value) (x : HeldD) (X : World) : Prop where
  s : VarA w.heap.size ShelfT #[v] X
  r : VarA (w.heap.size + 1) ShelfT #[.slice none 0 0] X
  n : VarA q ShelfT #[u] X
  dup : f.Nodup
  own : layHeldS.own X (w.heap.size + 2) f [u] xs
  xo : layHeld.own X (w.heap.size + 2) fx cs x
  xd : fx.Nodup
  dis : ∀ k ∈ fx, k ∉ f
  gf : gx ∉ f ∧ gx ∉ fx ∧ gx ≠ q
  lo : w.heap.size + 2 ≤ gx ∧ w.heap.size + 2 ≤ q
  gl : gx < X.heap.size
  below : Below w.heap.size w X

theorem chg_below {f : List Nat} {Z X Y : World} (h : Chg f Z X) (hb : Below Z.heap.size X Y) : Chg f Z Y := ⟨hb.os.trans h.os, hb.tape.trans h.tape, hb.output.trans h.output, Nat.le_trans h.size hb.size, fun g hg hn => (hb.block g hg).trans (h.block g hg hn)⟩
theorem own_form {α : Type} {e : TypeId} {A : Lay α} {w : World} {b : Nat} {f : List Nat} {v : Value} {xs : List α} (h : (Lay.rows e A).own w b f [v] xs) (hn : v ≠ .slice none 0 0) : ∃ g c, v = .slice (some ⟨g, 0, none⟩) xs.length c ∧ xs.length ≤ c := by
  obtain ⟨v', hv, h⟩ := h
  obtain rfl : v = v' := by simpa using hv
  rcases h with ⟨h1, _, _⟩ | ⟨g, cap, us, fq, rfl, rfl, hrow, _⟩
  · exact absurd h1 hn
  · refine ⟨g, cap, rfl, ?_⟩
    rcases hrow.2 with ⟨hv, _⟩ | ⟨g', cap', cur, hv, _, _, hc, _⟩
    · cases hv
    · simp only [Value.slice.injEq] at hv
      obtain ⟨-, -, rfl⟩ := hv
      exact hc
theorem var_cells {g : Nat} {T : TypeId} {cs : List Value} {X : World} (h : VarA g T cs.toArray X) : ∀ j u, cs[j]? = some u → X.cell? ((⟨g, 0, none⟩ : Addr).add j) = some u := fun j u hj => by
  rw [add_in, Nat.zero_add, cell_of_row X g j _ T (0, 0) h.row]
  simpa using hj
/-- Those of another From or Id. -/
def restZ (a d : Int) (zs : List HeldZ) : List HeldZ := zs.filter (fun z => decide (¬ SameV a d z.2.1))
theorem restZ_next {a d : Int} {zs : List HeldZ} {j : Nat} (h : j < zs.length) : restZ a d (zs.take (j + 1)) = restZ a d (zs.take j) ++ (if SameV a d zs[j].2.1 then [] else [zs[j]]) := by
  unfold restZ
  rw [take_next h, List.filter_append]
  congr 1
  by_cases hh : SameV a d zs[j].2.1
  · rw [if_pos hh, List.filter_cons, if_neg (by rw [decide_eq_true_eq]; exact fun h => h hh)]; rfl
  · rw [if_neg hh, List.filter_cons, if_pos (decide_eq_true hh)]; rfl
theorem restZ_snd (a d : Int) (zs : List HeldZ) : (restZ a d zs).map (fun z => z.2.1) = restV (zs.map (fun z => z.2.1)) a d := by
  unfold restZ restV
  rw [List.filter_map]
  rfl
theorem restZ_all {a d : Int} {zs : List HeldZ} (h : ∀ z ∈ zs, ¬ SameV a d z.2.1) : restZ a d zs = zs := List.filter_eq_self.2 (fun z hz => decide_eq_true (h z hz))
/-- Which one is found among the first. -/
def AtZ (zs : List HeldZ) (a d c : Int) (cs0 : List Value) (j : Nat) (A : Int) (cs : List Value) : Prop := (∃ (i : Nat) (hi : i < zs.length), i < j ∧ SameV a d zs[i].2.1 ∧ zs[i].2.1.2.2.1 = c ∧ A = (i : Int) ∧ cs = zs[i].1) ∨ ((∀ (i : Nat) (hi : i < zs.length), i < j → ¬ (SameV a d zs[i].2.1 ∧ zs[i].2.1.2.2.1 = c)) ∧ A = -1 ∧ cs = cs0)
theorem AtZ.skip {zs : List HeldZ} {a d c : Int} {cs0 cs : List Value} {j : Nat} {A : Int} (h : AtZ zs a d c cs0 j A cs) (hj : j < zs.length) (hn : ¬ (SameV a d zs[j].2.1 ∧ zs[j].2.1.2.2.1 = c)) : AtZ zs a d c cs0 (j + 1) A cs := by
  rcases h with ⟨i, hi, h1, h2⟩ | ⟨h1, h2⟩
  · exact .inl ⟨i, hi, by omega, h2⟩
  · refine .inr ⟨fun i hi h => ?_, h2⟩
    rcases Nat.lt_or_ge i j with h9 | h9
    · exact h1 i hi h9
    · obtain rfl : i = j := by omega
      exact hn
/-- A right list has one of From and Id at most. -/
theorem one_same {zs : List HeldZ} {a d : Int} (hs : ShelfP (zs.map (fun z => z.2.1))) {i k : Nat} (hi : i < zs.length) (hk : k < zs.length) (h1 : SameV a d zs[i].2.1) (h2 : SameV a d zs[k].2.1) : i = k := by
  have hp := List.pairwise_map.1 hs.2.2
  rcases Nat.lt_trichotomy i k with h9 | h9 | h9
  · exact absurd ⟨h1.1.trans h2.1.symm, h1.2.trans h2.2.symm⟩ ((List.pairwise_iff_getElem.1 hp) i k hi hk h9)
  · exact h9
  · exact absurd ⟨h2.1.trans h1.1.symm, h2.2.trans h1.2.symm⟩ ((List.pairwise_iff_getElem.1 hp) k i hk hi h9)
theorem restZ_at {zs : List HeldZ} {a d : Int} (hs : ShelfP (zs.map (fun z => z.2.1))) {j : Nat} (hj : j < zs.length) (h1 : SameV a d zs[j].2.1) : restZ a d (zs.take j) = zs.take j := restZ_all (fun z hz h9 => by
  obtain ⟨i, hi, rfl⟩ := List.mem_take_iff_getElem.1 hz
  have hij : i < j := by omega
  have := one_same hs (show i < zs.length by omega) hj h9 h1
  omega)

end Go.Proofs.Ythiicpbedgcmlaa

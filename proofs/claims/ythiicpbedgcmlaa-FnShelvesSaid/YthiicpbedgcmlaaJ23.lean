/-
  The program's put: a part kept in its place, through a pointer into a shelf's list.
  Bytes: their exclusive or and or as the model spells them; no program is spoken of here.
  '[]byte(t)' and '[]byte{}' written into and turned back into a text.
  Blocks of bytes as lists of cells.
-/
import Derived.Test.YthiicpbedgcmlaaJ16
import Derived.Test.YthiicpbedgcmlaaJ06
import Derived.Test.YthiicpbedgcmlaaJ09
import Derived.Deep.RegionHeld3
import Derived.Test.YthiicpbedgcmlaaJ01
import Derived.Test.YthiicpbedgcmlaaRows
import Derived.Lib.ConvBytes
import Derived.BigQuiet
import Derived.Deep.QuietTactic
import Derived.Deep.LoopGhost
import Derived.Deep.DeepCutAuto
import Derived.Test.YthiicpbedgcmlaaJ08
import Derived.Test.YthiicpbedgcmlaaJ04
import Derived.Test.YthiicpbedgcmlaaJ13
import Derived.Deep.OwnRows
namespace Go.Proofs.Ythiicpbedgcmlaa
open Go.RowKit

theorem texts_put {w : World} {b : Nat} {fp : List Nat} {v : Value} {xs : List ByteArray} (h : layStringS.own w b fp [v] xs) (hd : fp.Nodup) (m : Nat) (hm : m < xs.length) (y : ByteArray) :
    ∃ g cap, v = .slice (some ⟨g, 0, none⟩) xs.length cap ∧ b ≤ g ∧ g < w.heap.size ∧ g ∈ fp ∧ w.cell? ⟨g, m, none⟩ = some (.string xs[m]) ∧ w.frozen? ⟨g, m, none⟩ = false ∧
      layStringS.own (w.setCell ⟨g, m, none⟩ (.string y)) b fp [v] (xs.set m y) ∧ Chg fp w (w.setCell ⟨g, m, none⟩ (.string y)) := by
  have e : xs = xs.take m ++ xs[m] :: xs.drop (m + 1) := by rw [List.getElem_cons_drop, List.take_append_drop]
  have es : xs.set m y = xs.take m ++ y :: xs.drop (m + 1) := by rw [List.set_eq_take_append_cons_drop, if_pos hm]
  have hl : (xs.take m ++ xs[m] :: xs.drop (m + 1)).length = xs.length := by rw [← e]
  have h2 := h
  rw [e] at h2
  obtain ⟨g, cap, f1, f2, f3, u1, c, u3, hv, rfl, Z⟩ := rows_open h2 hd
  rw [hl] at hv
  obtain rfl : f2 = [] := flatString.none _ _ _ _ _ Z.mid
  obtain rfl := layString_rd.1 (layString.read Z.mid)
  have hml : (xs.take m).length = m := by rw [List.length_take]; omega
  have hc := Z.cell 0 _ rfl
  rw [show layString.k = 1 from rfl, Nat.mul_one, hml] at hc
  have hs := Z.store [.string y] 0 (by simp) [] y (flatString.own _ _ _ _ (layString_rd.2 rfl)) Z.dup
  rw [show layString.k = 1 from rfl, Nat.mul_one, hml] at hs
  refine ⟨g, cap, hv, Z.lt.1, Z.lt.2, by simp, hc.1, hc.2, ?_, hs.2.sub (by simp)⟩
  have h3 := hs.1.shut
  have e4 : (xs.take m ++ y :: xs.drop (m + 1)).length = xs.length := by rw [← es, List.length_set]
  rw [e4] at h3
  rw [es, hv]
  exact h3

/-- A part is in its place. -/
def HPutEnd (base : Nat) (fp : List Nat) (u : Value) (xs : List HeldD) (W : World) (e : Ending) (W' : World) : Prop := e = .returned (.tuple #[]) ∧ layHeldS.own W' base fp [u] xs ∧ Chg fp W W'

set_option maxRecDepth 100000 in
set_option maxHeartbeats 3200000 in
theorem putHeld_any (base : Nat) (fp : List Nat) (g n cap : Nat) (X : List HeldD) (x : HeldD) (Y : List HeldD) (j : Nat) (p : ByteArray) (hj3 : j < x.2.2.2.1.length) (hj4 : j < x.2.2.2.2.1.length) (_hjs : j ≤ 1000) (W : World) (hd : fp.Nodup) (ho : layHeldS.own W base fp [.slice (some ⟨g, 0, none⟩) n cap] (X ++ x :: Y)) :
    Calls Try.prog 20 #[.pointer (some ⟨g, X.length * 6, none⟩), .int .i64 j, .string p] W (HPutEnd base fp (.slice (some ⟨g, 0, none⟩) n cap) (X ++ setV j p x :: Y) W) := by
  obtain ⟨g', cap', f1, f2, f3, u1, c, u3, hv, hfp, Z⟩ := rows_open ho hd
  simp only [Value.slice.injEq, Option.some.injEq, Addr.mk.injEq, and_true] at hv
  obtain ⟨rfl, rfl, rfl⟩ := hv
  obtain ⟨x0, x1, x2, r3, r4, x5⟩ := x
  obtain ⟨v3, v4, fa, fb, rfl, rfl, h3, h4⟩ := layHeld_own.1 Z.mid
  simp only at h3 h4 hj3 hj4
  obtain ⟨o, ho9⟩ : ∃ o, X.length * 6 = o := ⟨_, rfl⟩
  have hcell := fun t u hu => Z.cell t u hu
  rw [show layHeld.k = 6 from rfl, ho9] at hcell
  rw [ho9]
  have C3 : W.cell? ⟨g, o + 3, none⟩ = some v3 := (hcell 3 _ rfl).1
  have C4 : W.cell? ⟨g, o + 4, none⟩ = some v4 := (hcell 4 _ rfl).1
  have hdd := List.nodup_append.1 (List.nodup_append.1 (List.nodup_append.1 (List.nodup_cons.1 Z.dup).2).2.1).1
  have ZZ := Lib.hid Z
  have HO := Lib.hid ho
  have j0 : (j : Int) < (r3.length : Int) := by omega
  have j1 : (j : Int) < (r4.length : Int) := by omega
  obtain ⟨gb, cb, rfl, hgb1, hgb2, hgbm, hcb, hfb, -, -⟩ := bools_put h4 hdd.2.1 j hj4 true
  obtain ⟨q, hq⟩ : ∃ q, r4[j] = q := ⟨_, rfl⟩
  rw [hq] at hcb
  have hq4 : r4[j]? = some q := by rw [List.getElem?_eq_getElem hj4, hq]
  cases q with
  | true =>
    have hset : setV j p (x0, x1, x2, r3, r4, x5) = (x0, x1, x2, r3, r4, x5) := by
      unfold setV
      rw [if_pos (by exact hq4)]
    rw [hset]
    have E : Hid (HPutEnd base fp (.slice (some ⟨g, 0, none⟩) (X ++ (x0, x1, x2, r3, r4, x5) :: Y).length cap) (X ++ (x0, x1, x2, r3, r4, x5) :: Y) W (.returned (.tuple #[])) W) := Lib.hid ⟨rfl, HO.out, Chg.refl _ _⟩
    clear hset hcell h3 h4 hdd ZZ HO Z hd hq hq4 ho hfp hgbm ho9
    generalize (X ++ (x0, x1, x2, r3, r4, x5) :: Y).length = n at *
    go_enter Try.func20, Try.ntmps20
    go_wp2_with fail
    refine bodyPost_end (results_none rfl _ _ _) rfl ?_
    exact E.out
  | false =>
    have hset : setV j p (x0, x1, x2, r3, r4, x5) = (x0, x1, x2, r3.set j p, r4.set j true, x5) := by
      unfold setV
      rw [if_neg (by show ¬ (r4[j]? = some true); rw [hq4]; simp)]
    rw [hset]
    have hdr : Below W.heap.size W W.drew := (Below.refl W.heap.size W).drew
    obtain ⟨ga, ca, rfl, hga1, hga2, hgam, hca, hfa, ho3, hc3⟩ := texts_put (layStringS.next h3 hdr) hdd.1 j hj3 p
    obtain ⟨gb', cb', hvb, -, -, -, hcb2, hfb2, ho4, hc4⟩ := bools_put (layBoolS.chg (layBoolS.next h4 hdr) hc3 (fun a ha hb => hdd.2.2 a hb a ha rfl)) hdd.2.1 j hj4 true
    simp only [Value.slice.injEq, Option.some.injEq, Addr.mk.injEq, and_true, true_and] at hvb
    obtain ⟨rfl, rfl⟩ := hvb
    have hab : ga ≠ gb := fun e => hdd.2.2 ga hgam gb hgbm e
    have ho3b := layStringS.chg ho3 hc4 (fun a ha hb => hdd.2.2 a ha a hb rfl)
    have Z1 := (Z.next hdr).sub (x0, x1, x2, r3.set j p, r4, x5) (layHeld_own.2 ⟨_, _, fa, fb, rfl, rfl, ho3, layBoolS.chg (layBoolS.next h4 hdr) hc3 (fun a ha hb => hdd.2.2 a hb a ha rfl)⟩) (hc3.sub (by simp +contextual))
    have Z2 := Z1.sub (x0, x1, x2, r3.set j p, r4.set j true, x5) (layHeld_own.2 ⟨_, _, fa, fb, rfl, rfl, ho3b, ho4⟩) (hc4.sub (by simp +contextual))
    have hfin := Z2.shut
    rw [← hfp] at hfin
    have hlen : (X ++ (x0, x1, x2, r3.set j p, r4.set j true, x5) :: Y).length = (X ++ (x0, x1, x2, r3, r4, x5) :: Y).length := by simp
    rw [hlen] at hfin
    have hsub : ∀ a, a ∈ fa ++ fb → a ∈ fp := fun a ha => by rw [hfp]; rcases List.mem_append.1 ha with ha | ha <;> simp [ha]
    have hchg : Chg fp W ((W.drew.setCell ⟨ga, j, none⟩ (.string p)).setCell ⟨gb, j, none⟩ (.bool true)) := (Below.chg hdr fp).trans2 ((hc3.sub (fun a ha => hsub a (by simp [ha]))).trans2 (hc4.sub (fun a ha => hsub a (by simp [ha]))))
    have E : Hid (HPutEnd base fp (.slice (some ⟨g, 0, none⟩) (X ++ (x0, x1, x2, r3, r4, x5) :: Y).length cap) (X ++ (x0, x1, x2, r3.set j p, r4.set j true, x5) :: Y) W (.returned (.tuple #[])) ((W.drew.setCell ⟨ga, j, none⟩ (.string p)).setCell ⟨gb, j, none⟩ (.bool true))) := Lib.hid ⟨rfl, hfin, hchg⟩
    obtain ⟨pp, hpp⟩ : ∃ pp, r3[j] = pp := ⟨_, rfl⟩
    rw [hpp] at hca
    have hga : g ∉ fa ++ fb := fun hm => (List.nodup_cons.1 Z.dup).1 (by rcases List.mem_append.1 hm with hm | hm <;> simp [hm])
    have hne1 : ga ≠ g := fun e => hga (by simp [← e, hgam])
    have hne2 : gb ≠ g := fun e => hga (by simp [← e, hgbm])
    obtain ⟨q2, hq2⟩ : ∃ q2, r4[j] = q2 := ⟨_, rfl⟩
    rw [hq2] at hcb2
    have HCA := Lib.hid hca
    have HFA := Lib.hid hfa
    have HCB := Lib.hid hcb2
    have HFB := Lib.hid hfb2
    have E0 : Hid (W.drew.cell? ⟨g, o + 3, none⟩ = some (.slice (some ⟨ga, 0, none⟩) r3.length ca) ∧ W.drew.cell? ⟨g, o + 4, none⟩ = some (.slice (some ⟨gb, 0, none⟩) r4.length cb)) := Lib.hid ⟨C3, C4⟩
    have E1 : Hid ((W.drew.setCell ⟨ga, j, none⟩ (.string p)).cell? ⟨g, o + 3, none⟩ = some (.slice (some ⟨ga, 0, none⟩) r3.length ca) ∧ (W.drew.setCell ⟨ga, j, none⟩ (.string p)).cell? ⟨g, o + 4, none⟩ = some (.slice (some ⟨gb, 0, none⟩) r4.length cb)) := Lib.hid ⟨(World.cell?_of_block (Below.heap_setCell _ _ _ _ (by exact hne1.symm))).trans C3, (World.cell?_of_block (Below.heap_setCell _ _ _ _ (by exact hne1.symm))).trans C4⟩
    have E2 : Hid (((W.drew.setCell ⟨ga, j, none⟩ (.string p)).setCell ⟨gb, j, none⟩ (.bool true)).cell? ⟨g, o + 3, none⟩ = some (.slice (some ⟨ga, 0, none⟩) r3.length ca) ∧ ((W.drew.setCell ⟨ga, j, none⟩ (.string p)).setCell ⟨gb, j, none⟩ (.bool true)).cell? ⟨g, o + 4, none⟩ = some (.slice (some ⟨gb, 0, none⟩) r4.length cb)) := Lib.hid ⟨(World.cell?_of_block (Below.heap_setCell _ _ _ _ (by exact hne2.symm))).trans E1.out.1, (World.cell?_of_block (Below.heap_setCell _ _ _ _ (by exact hne2.symm))).trans E1.out.2⟩
    clear hset hcell h3 h4 hdd ZZ HO Z hd hq hq4 ho hfp hgbm ho9 Z1 Z2 hfin hchg hsub hlen hpp hca hfa hcb2 hfb2 hq2 ho3 hc3 ho4 hc4 ho3b hdr hgam hga
    generalize (X ++ (x0, x1, x2, r3, r4, x5) :: Y).length = n at *
    generalize (X ++ (x0, x1, x2, r3.set j p, r4.set j true, x5) :: Y) = ys at *
    go_enter Try.func20, Try.ntmps20
    go_wp2_with fail
    clear C3 C4
    refine wp_region_held_drew (S := fun X => Hid (X.cell? ⟨g, o + 3, none⟩ = some (.slice (some ⟨ga, 0, none⟩) r3.length ca) ∧ X.cell? ⟨g, o + 4, none⟩ = some (.slice (some ⟨gb, 0, none⟩) r4.length cb))) (by kernel_rfl) E0 (fun hHeld => ?_)
    refine wpAnyH_take (i := 0) (v := ?_) rfl (by kernel_rfl) (by kernel_rfl) (by kernel_rfl) (fun _ _ _ h => h) (Or.inl ⟨by kernel_rfl, ?_⟩) hHeld ?_
    rotate_left
    · intro X hX
      first | (go_simp; done) | (go_simp; with_reducible rfl)
    try simp only [Act.put, List.getElem_toArray, List.getElem_cons_zero, List.setIfInBounds_toArray, List.set_cons_zero, List.set_cons_succ]
    refine wpAnyH_take (i := 1) (v := ?_) rfl (by kernel_rfl) (by kernel_rfl) (by kernel_rfl) (fun _ _ _ h => h) (Or.inl ⟨by kernel_rfl, ?_⟩) hHeld ?_
    rotate_left
    · intro X hX
      first | (go_simp; done) | (go_simp; with_reducible rfl)
    try simp only [Act.put, List.getElem_toArray, List.getElem_cons_succ, List.getElem_cons_zero, List.setIfInBounds_toArray, List.set_cons_zero, List.set_cons_succ]
    refine wpAnyH_take (i := 2) (v := ?_) rfl (by kernel_rfl) (by kernel_rfl) (by kernel_rfl) (fun _ _ _ h => h) (Or.inl ⟨by kernel_rfl, ?_⟩) hHeld ?_
    rotate_left
    · intro X hX
      first | (go_simp; done) | (go_simp; with_reducible rfl)
    try simp only [Act.put, List.getElem_toArray, List.getElem_cons_succ, List.getElem_cons_zero, List.setIfInBounds_toArray, List.set_cons_zero, List.set_cons_succ]
    refine wpAnyH_take (i := 3) (v := ?_) rfl (by kernel_rfl) (by kernel_rfl) (by kernel_rfl) (fun _ _ _ h => h) (Or.inl ⟨by kernel_rfl, ?_⟩) hHeld ?_
    rotate_left
    · intro X hX
      have yy := hX.out.1
      first | (go_simp; done) | (go_simp; with_reducible rfl)
    try simp only [Act.put, List.getElem_toArray, List.getElem_cons_succ, List.getElem_cons_zero, List.setIfInBounds_toArray, List.set_cons_zero, List.set_cons_succ]
    refine wpAnyH_take (i := 4) (v := ?_) rfl (by kernel_rfl) (by kernel_rfl) (by kernel_rfl) (fun _ _ _ h => h) (Or.inl ⟨by kernel_rfl, ?_⟩) hHeld ?_
    rotate_left
    · intro X hX
      first | (go_simp; done) | (go_simp; with_reducible rfl)
    try simp only [Act.put, List.getElem_toArray, List.getElem_cons_succ, List.getElem_cons_zero, List.setIfInBounds_toArray, List.set_cons_zero, List.set_cons_succ]
    refine wpAnyH_take (i := 5) (v := ?_) rfl (by kernel_rfl) (by kernel_rfl) (by kernel_rfl) (fun _ _ _ h => h) (Or.inl ⟨by kernel_rfl, ?_⟩) hHeld ?_
    rotate_left
    · intro X hX
      first | (go_simp; done) | (go_simp; with_reducible rfl)
    try simp only [Act.put, List.getElem_toArray, List.getElem_cons_succ, List.getElem_cons_zero, List.setIfInBounds_toArray, List.set_cons_zero, List.set_cons_succ]
    refine wpAnyH_take (i := 6) (v := ?_) rfl (by kernel_rfl) (by kernel_rfl) (by kernel_rfl) (fun _ _ _ h => h) (Or.inl ⟨by kernel_rfl, ?_⟩) hHeld ?_
    rotate_left
    · intro X hX
      first | (go_simp; done) | (go_simp; with_reducible rfl)
    try simp only [Act.put, List.getElem_toArray, List.getElem_cons_succ, List.getElem_cons_zero, List.setIfInBounds_toArray, List.set_cons_zero, List.set_cons_succ]
    refine wpAnyH_take (i := 7) (v := ?_) rfl (by kernel_rfl) (by kernel_rfl) (by kernel_rfl) (fun _ _ _ h => h) (Or.inl ⟨by kernel_rfl, ?_⟩) hHeld ?_
    rotate_left
    · intro X hX
      first | (go_simp; done) | (go_simp; with_reducible rfl)
    try simp only [Act.put, List.getElem_toArray, List.getElem_cons_succ, List.getElem_cons_zero, List.setIfInBounds_toArray, List.set_cons_zero, List.set_cons_succ]
    refine wpAnyH_take (i := 8) (v := ?_) rfl (by kernel_rfl) (by kernel_rfl) (by kernel_rfl) (fun _ _ _ h => h) (Or.inl ⟨by kernel_rfl, ?_⟩) hHeld ?_
    rotate_left
    · intro X hX
      have yy := hX.out.2
      first | (go_simp; done) | (go_simp; with_reducible rfl)
    try simp only [Act.put, List.getElem_toArray, List.getElem_cons_succ, List.getElem_cons_zero, List.setIfInBounds_toArray, List.set_cons_zero, List.set_cons_succ]
    refine wpAnyH_take (i := 9) (v := ?_) rfl (by kernel_rfl) (by kernel_rfl) (by kernel_rfl) (fun _ _ _ h => h) (Or.inl ⟨by kernel_rfl, ?_⟩) hHeld ?_
    rotate_left
    · intro X hX
      first | (go_simp; done) | (go_simp; with_reducible rfl)
    try simp only [Act.put, List.getElem_toArray, List.getElem_cons_succ, List.getElem_cons_zero, List.setIfInBounds_toArray, List.set_cons_zero, List.set_cons_succ]
    refine wpAnyH_take (i := 10) (v := ?_) rfl (by kernel_rfl) (by kernel_rfl) (by kernel_rfl) (fun _ _ _ h => h) (Or.inl ⟨by kernel_rfl, ?_⟩) hHeld ?_
    rotate_left
    · intro X hX
      first | (go_simp; done) | (go_simp; with_reducible rfl)
    try simp only [Act.put, List.getElem_toArray, List.getElem_cons_succ, List.getElem_cons_zero, List.setIfInBounds_toArray, List.set_cons_zero, List.set_cons_succ]
    refine wpAnyH_take (i := 11) (v := ?_) rfl (by kernel_rfl) (by kernel_rfl) (by kernel_rfl) (fun _ _ _ h => h) (Or.inl ⟨by kernel_rfl, ?_⟩) hHeld ?_
    rotate_left
    · intro X hX
      first | (go_simp; done) | (go_simp; with_reducible rfl)
    try simp only [Act.put, List.getElem_toArray, List.getElem_cons_succ, List.getElem_cons_zero, List.setIfInBounds_toArray, List.set_cons_zero, List.set_cons_succ]
    refine wpAnyH_ready (rs := [12]) (by kernel_rfl) (by simp) ?_
    refine AllReadyH.cons rfl (fun K hK => ?_) AllReadyH.nil
    have s0 := HCA.out
    have s1 := HFA.out
    go_simp
    refine hK.out _ _ E1 (fun hHeld => ?_)
    clear hK K s0 s1
    try simp only [Act.put, List.getElem_toArray, List.getElem_cons_succ, List.getElem_cons_zero, List.setIfInBounds_toArray, List.set_cons_zero, List.set_cons_succ]
    refine wpAnyH_take (i := 13) (v := ?_) rfl (by kernel_rfl) (by kernel_rfl) (by kernel_rfl) (fun _ _ _ h => h) (Or.inl ⟨by kernel_rfl, ?_⟩) hHeld ?_
    rotate_left
    · intro X hX
      first | (go_simp; done) | (go_simp; with_reducible rfl)
    try simp only [Act.put, List.getElem_toArray, List.getElem_cons_succ, List.getElem_cons_zero, List.setIfInBounds_toArray, List.set_cons_zero, List.set_cons_succ]
    refine wpAnyH_ready (rs := [14]) (by kernel_rfl) (by simp) ?_
    refine AllReadyH.cons rfl (fun K hK => ?_) AllReadyH.nil
    have s0 := HCB.out
    have s1 := HFB.out
    go_simp
    refine hK.out _ _ E2 (fun hHeld => ?_)
    clear hK K s0 s1
    try simp only [Act.put, List.getElem_toArray, List.getElem_cons_succ, List.getElem_cons_zero, List.setIfInBounds_toArray, List.set_cons_zero, List.set_cons_succ]
    refine wpAnyH_done (by kernel_rfl) ?_ _
    clear hHeld
    go_wp2_with fail
    refine bodyPost_end (results_none rfl _ _ _) rfl ?_
    exact E.out

end Go.Proofs.Ythiicpbedgcmlaa
namespace Go.Proofs.Ythiicpbedgcmlaa
open Go.RowKit

end Go.Proofs.Ythiicpbedgcmlaa
namespace Go.Proofs.Ythiicpbedgcmlaa
open Go.RowKit

/-- A row of bytes in block g: its cells, none of them barred. -/
structure RowB (g : Nat) (l : List UInt8) (X : World) : Prop where
  cell : ∀ j, j < l.length → X.cell? ⟨g, j, none⟩ = some (.int .u8 ((l.getD j 0).toNat : Nat))
  free : ∀ j, j < l.length → X.frozen? ⟨g, j, none⟩ = false
theorem RowB.set {g : Nat} {l : List UInt8} {X : World} (h : RowB g l X) (k : Nat) (hk : k < l.length) (b : UInt8) : RowB g (l.set k b) (X.setCell ⟨g, k, none⟩ (.int .u8 (b.toNat : Nat))) := by
  refine ⟨fun j hj => ?_, fun j hj => ?_⟩
  · rw [List.length_set] at hj
    by_cases hjk : k = j
    · subst hjk
      rw [set_on _ _ _ _ _ (h.cell k hk), List.getD_eq_getElem?_getD, List.getElem?_set_self hk]
      rfl
    · rw [set_off _ _ _ _ _ hjk, h.cell j hj, List.getD_eq_getElem?_getD, List.getD_eq_getElem?_getD, List.getElem?_set_ne hjk]
  · rw [List.length_set] at hj
    rw [World.frozen?_setCell]
    exact h.free j hj
theorem RowB.drew {g : Nat} {l : List UInt8} {X : World} (h : RowB g l X) : RowB g l X.drew := ⟨h.cell, h.free⟩
end Go.Proofs.Ythiicpbedgcmlaa
namespace Go.Proofs.Ythiicpbedgcmlaa
open Go.RowKit

theorem infoU8 : (Try.prog.info? 5).map (fun i => (i.zero, i.size, i.bytes)) = some (some (.int .u8 0), 1, 1) := by kernel_rfl
theorem u8_size : (Try.prog.info? 5).map (·.size) = some 1 := by kernel_rfl
/-- The cells of some bytes. -/
def u8C (l : List UInt8) : List Value := l.map fun x => .int .u8 (x.toNat : Int)
theorem u8C_len (l : List UInt8) : (u8C l).length = l.length := by unfold u8C; simp
/-- A block of bytes handed back as a text. -/
theorem block_back (X : World) (g : Nat) (l : List UInt8) (t : TypeId) (h : X.heap[g]? = some (.cells (u8C l).toArray t (0, 0))) (n cap : Nat) (hn : l.length = n) : (convert 22 9 (.slice (some ⟨g, 0, none⟩) n cap)).run Try.prog X = .ok (.string ⟨l.toArray⟩) X := by
  subst hn
  refine run_convert_bytes_back (P := Try.prog) X 22 9 5 ⟨g, 0, none⟩ cap l Try.underlying22 Try.underlying5 Try.underlying9 (fun j hj => ?_)
  have e : (⟨g, 0, none⟩ : Addr).add j = ⟨g, j, none⟩ := by unfold Addr.add; split <;> simp_all
  rw [e, cell_of_row X g j _ t (0, 0) h]
  simp [u8C, hj]
end Go.Proofs.Ythiicpbedgcmlaa

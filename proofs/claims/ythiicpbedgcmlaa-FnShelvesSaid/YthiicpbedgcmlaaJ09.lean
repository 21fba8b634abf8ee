/-
  Rows whose room ends ahead of their block; one element struck out of a row; no program is spoken of here.
  The test package's functions over rows of what is held: marked, found marked.
  A shelf in a variable, with rows of its own; marked and held.
  The exact law on AddPart, out of one answer that both give.
-/
import Derived.Test.YthiicpbedgcmlaaJ05
import Derived.Test.YthiicpbedgcmlaaJ08
import Derived.Test.YthiicpbedgcmlaaJ04
import Derived.Deep.RegionHeld3
namespace Go.Proofs.Ythiicpbedgcmlaa
open Go.RowKit

theorem add_in (g i j : Nat) : (⟨g, i, none⟩ : Addr).add j = ⟨g, i + j, none⟩ := by unfold Addr.add; split <;> simp_all
section
variable {α : Type}
/-- A row with another room can be read. -/
theorem rd_room {e : TypeId} {A : Lay α} {w : World} {a : Option Addr} {q c : Nat} {xs : List α} (h : (Lay.rows e A).rd w [.slice a xs.length q] xs) (hc : xs.length ≤ c) (h0 : a = none → c = 0) : (Lay.rows e A).rd w [.slice a xs.length c] xs := by
  obtain ⟨v, hv, h⟩ := h
  simp only [List.cons.injEq, and_true] at hv
  subst hv
  rcases h with ⟨rfl, a', c', hv, h⟩ | ⟨g, off, cap, us, hv, _, hg, hcell, hr⟩
  · simp only [Value.slice.injEq] at hv
    obtain ⟨rfl, -, rfl⟩ := hv
    exact ⟨_, rfl, .inl ⟨rfl, _, _, rfl, h0⟩⟩
  · simp only [Value.slice.injEq, true_and] at hv
    obtain ⟨rfl, rfl⟩ := hv
    exact ⟨_, rfl, .inr ⟨g, off, c, us, rfl, hc, hg, hcell, hr⟩⟩
/-- A row of the call's own, with whatever room. -/
def Lay.room (e : TypeId) (A : Lay α) : Lay (List α) where
  k := 1
  rd := (Lay.rows e A).rd
  own := fun w b fp cs xs => ∃ a c q, cs = [.slice a xs.length c] ∧ (Lay.rows e A).own w b fp [.slice a xs.length q] xs ∧ xs.length ≤ c ∧ (a = none → c = 0)
  mark := (Lay.rows e A).mark
  pos := by decide
  len := (Lay.rows e A).len
  one := (Lay.rows e A).one
  below := (Lay.rows e A).below
  read := by
    rintro w b fp cs x ⟨a, c, q, rfl, h, hc, h0⟩
    exact rd_room ((Lay.rows e A).read h) hc h0
  blocks := by
    rintro w b fp cs x ⟨a, c, q, rfl, h, hc, h0⟩
    exact (Lay.rows e A).blocks h
  keep := by
    rintro w w' b fp cs x ⟨a, c, q, rfl, h, hc, h0⟩ hk
    exact ⟨a, c, q, rfl, (Lay.rows e A).keep h hk, hc, h0⟩
  lower := by
    rintro w b b' fp cs x ⟨a, c, q, rfl, h, hc, h0⟩ hb
    exact ⟨a, c, q, rfl, (Lay.rows e A).lower h hb, hc, h0⟩
theorem room_of {e : TypeId} {A : Lay α} {w : World} {b : Nat} {f : List Nat} {v : Value} {xs : List α} (h : (Lay.rows e A).own w b f [v] xs) : (Lay.room e A).own w b f [v] xs := by
  obtain ⟨v', hv, h2⟩ := h
  obtain rfl : v = v' := by simpa using hv
  rcases h2 with ⟨rfl, rfl, rfl⟩ | ⟨g, cap, us, fq, rfl, rfl, h1, h2⟩
  · exact ⟨none, 0, 0, rfl, ⟨_, rfl, .inl ⟨rfl, rfl, rfl⟩⟩, Nat.le_refl _, fun _ => rfl⟩
  · have hn : xs.length ≤ cap := by
      rcases h1.2 with ⟨hv, _⟩ | ⟨g', cap', cur, hv, _, _, hc, _⟩
      · cases hv
      · simp only [Value.slice.injEq] at hv
        obtain ⟨-, -, rfl⟩ := hv
        exact hc
    exact ⟨_, cap, cap, rfl, ⟨_, rfl, .inr ⟨g, cap, us, fq, rfl, rfl, h1, h2⟩⟩, hn, fun e => by cases e⟩
/-- One element struck out: what lies behind it is copied over it. -/
theorem rows_erase {e : TypeId} {A : Lay α} {w : World} {b : Nat} {fp : List Nat} {v : Value} {X : List α} {x : α} {Y : List α} (h : (Lay.rows e A).own w b fp [v] (X ++ x :: Y)) (hd : fp.Nodup) :
    ∃ (g cap : Nat) (cur cs : List Value), v = .slice (some ⟨g, 0, none⟩) (X ++ x :: Y).length cap ∧ b ≤ g ∧ g < w.heap.size ∧ g ∈ fp ∧ (X ++ x :: Y).length ≤ cap ∧ w.heap[g]? = some (.cells cur.toArray e (0, 0)) ∧ cs.length = Y.length * A.k ∧ X.length * A.k + cs.length ≤ cur.length ∧ (∀ v ∈ cs, v.oneCell' = true) ∧
      (∀ j u, cs[j]? = some u → w.cell? ⟨g, (X.length + 1) * A.k + j, none⟩ = some u) ∧
      ∃ fp', fp'.Nodup ∧ (∀ a ∈ fp', a ∈ fp) ∧ (Lay.rows e A).own (w.setRow g (splice cur (X.length * A.k) cs).toArray) b fp' [.slice (some ⟨g, 0, none⟩) (X ++ Y).length cap] (X ++ Y) := by
  obtain ⟨g, cap, f1, f2, f3, u1, c, u3, rfl, rfl, Z⟩ := rows_open h hd
  have hl1 := ownAll_len A Z.left
  have hl3 := ownAll_len A Z.right
  have hlc := A.len (A.read Z.mid)
  have hrow := Z.row
  obtain ⟨hlen, hrow2⟩ := hrow
  rcases hrow2 with ⟨hv, _⟩ | ⟨g', cap', cur, hv, hb, hh, hn, hm, hs, ht⟩
  · cases hv
  simp only [Value.slice.injEq, Option.some.injEq, Addr.mk.injEq, and_true, true_and] at hv
  obtain ⟨rfl, rfl⟩ := hv
  have hnl : (X ++ x :: Y).length = X.length + 1 + Y.length := by simp; omega
  have hnk : (X ++ x :: Y).length * A.k = X.length * A.k + A.k + Y.length * A.k := by rw [hnl, Nat.add_mul, Nat.add_mul, Nat.one_mul]
  have hcl : cur.toList.length = cap * A.k := by simpa using hs
  have hck : (X ++ x :: Y).length * A.k ≤ cap * A.k := Nat.mul_le_mul_right _ hn
  have hsize : g < w.heap.size := Z.lt.2
  have hd1 := List.nodup_cons.1 Z.dup
  have hd2 := List.nodup_append.1 hd1.2
  have hd3 := List.nodup_append.1 hd2.2.1
  have hcur : cur.toList = u1 ++ (c ++ (u3 ++ cur.toList.drop ((X ++ x :: Y).length * A.k))) := by
    have h9 := List.take_append_drop ((X ++ x :: Y).length * A.k) cur.toList
    rw [ht] at h9
    rw [← List.append_assoc c, ← List.append_assoc u1]
    exact h9.symm
  refine ⟨g, cap, cur.toList, u3, rfl, hb, hsize, List.mem_cons_self, hn, (by rw [Array.toArray_toList]; exact hh), hl3, by rw [hcl]; omega, rdAll_one A (ownAll_rd A Z.right), fun j u hu => ?_, g :: (f1 ++ f3), ?_, ?_, ?_⟩
  · have hj := (List.getElem?_eq_some_iff.1 hu).1
    have h3 := Z.row.cells (g := g) rfl ((X.length + 1) * A.k + j) u (by
      rw [Nat.add_mul, Nat.one_mul, ← hl1, ← hlc, List.getElem?_append_right (by omega), List.getElem?_append_right (by omega), show u1.length + c.length + j - u1.length - c.length = j by omega]
      exact hu)
    rw [add_in, Nat.zero_add] at h3
    exact h3
  · refine List.nodup_cons.2 ⟨fun hm => hd1.1 ?_, List.nodup_append.2 ⟨hd2.1, hd3.2.1, fun a ha q hq => hd2.2.2 a ha q (by simp [hq])⟩⟩
    rcases List.mem_append.1 hm with hm | hm
    · simp [hm]
    · simp [hm]
  · intro a ha
    rcases List.mem_cons.1 ha with rfl | ha
    · simp
    · rcases List.mem_append.1 ha with ha | ha <;> simp [ha]
  · have hXY : (X ++ Y).length = X.length + Y.length := List.length_append
    have hall := ownAll_join A Z.left Z.right
    have hblk := ownAll_blocks A hall
    refine ⟨_, rfl, .inr ⟨g, cap, u1 ++ u3, f1 ++ f3, rfl, rfl, ⟨by rw [List.length_append, hl1, hl3, hXY, Nat.add_mul], .inr ⟨g, cap, (splice cur.toList (X.length * A.k) u3).toArray, rfl, hb, setRow_heap w g _ _ e _ hh, by omega, hm, ?_, ?_⟩⟩, ownAll_keep A hall (fun a ha => setRow_other w g a _ (fun e => ?_))⟩⟩
    · rw [List.size_toArray, splice_len _ _ _ (by rw [hcl]; omega), hcl]
    · show (splice cur.toList (X.length * A.k) u3).take ((X ++ Y).length * A.k) = u1 ++ u3
      unfold splice
      have e2 : cur.toList.take (X.length * A.k) = u1 := by
        rw [hcur, ← hl1, List.take_left]
      rw [e2, ← List.append_assoc]
      exact List.take_left' (by rw [List.length_append, hl1, hl3, hXY, Nat.add_mul])
    · subst e
      rcases List.mem_append.1 ha with ha | ha
      · exact hd1.1 (by simp [ha])
      · exact hd1.1 (by simp [ha])
/-- 'append(row, x)' where row has no more room: a new block. -/
theorem run_pushFull {P : Program} (W : World) (base : Nat) (t ty e : TypeId) (i : TypeInfo) (z : Value) (bytes : Nat) (A : Lay α) (ht : P.underlying t = some (.slice e)) (hi : P.info? e = some i) (hz : i.zero = some z)
    (hsize : i.size = A.k) (hby : i.bytes = bytes) (hzs : z.cells.size = A.k) (hb1 : bytes ≤ 1000) (g q : Nat) (f : List Nat) (xs : List α) (hown : (Lay.rows e A).own W base f [.slice (some ⟨g, 0, none⟩) xs.length q] xs) (hd : f.Nodup)
    (y : α) (cs : List Value) (fy : List Nat) (hy : A.own W base fy cs y) (hdy : fy.Nodup) (hdis : ∀ k ∈ fy, k ∉ f) (ad : Addr) (hc : ∀ j u, cs[j]? = some u → W.cell? (ad.add j) = some u) (hlen : xs.length + 1 ≤ 1000000000) (hbase : base ≤ W.heap.size) :
    ∃ v' w', (Builtin.append_ #[t, t] ty #[.slice (some ⟨g, 0, none⟩) xs.length xs.length, .slice (some ad) 1 1]).run P W = .ok v' w' ∧ (∃ f', (Lay.rows e A).own w' base f' [v'] (xs ++ [y]) ∧ f'.Nodup ∧ ∀ k ∈ f', k ∈ f ∨ k ∈ fy ∨ W.heap.size ≤ k) ∧ Below W.heap.size W w' := by
  have hbyt : (xs.length + 1) * bytes ≤ 140737488355328 := by
    have h1 : (xs.length + 1) * bytes ≤ 1000000000 * 1000 := Nat.mul_le_mul hlen hb1
    omega
  have hcs := A.read hy
  have hnl : cs.length = 1 * A.k := by rw [A.len hcs, Nat.one_mul]
  have hyb := A.blocks hy
  have hone : ownAll A W base fy cs [y] := ⟨fy, [], cs, [], by simp, by simp, hy, rfl, rfl⟩
  obtain ⟨v2, hv2, hown⟩ := hown
  simp only [List.cons.injEq, and_true] at hv2
  subst hv2
  rcases hown with ⟨h0, rfl, rfl⟩ | ⟨g', cap, us, fq, hv, rfl, hrow, hall⟩
  · cases h0
  simp only [Value.slice.injEq, Option.some.injEq, Addr.mk.injEq, and_true, true_and] at hv
  obtain ⟨rfl, rfl⟩ := hv
  have hnd := List.nodup_cons.1 hd
  have hcell := hrow.cells (g := g) rfl
  obtain ⟨v', w', hrun, h3, hg⟩ := run_append_arg_grows (P := P) W t ty e i z A.k bytes ht hi hz hsize hby hzs A.pos ⟨g, 0, none⟩ xs.length xs.length us (ownAll_len A hall) hcell ad 1 1 cs hnl hc (by omega) (by unfold maxLen; omega) hbyt
  have hqb := ownAll_blocks A hall
  have hall2 := ownAll_join A hall hone
  have hkeep : ownAll A w' base (fq ++ fy) (us ++ cs) (xs ++ [y]) := ownAll_keep A hall2 (fun k hk => by
    rcases List.mem_append.1 hk with hk | hk
    · exact hg.block k (hqb k hk).2 (by simp)
    · exact hg.block k (hyb k hk).2 (by simp))
  refine ⟨v', w', hrun, ?_, below_grown hg (fun k hk => by cases hk) (Nat.le_refl _)⟩
  rcases h3.2 with ⟨hv, h0⟩ | ⟨g', cap', cur', hv, hgb, hrest⟩
  · omega
  · subst hv
    have hl : (xs ++ [y]).length = xs.length + 1 := by rw [List.length_append]; rfl
    have h4 : w'.ownsRow base e A.k (.slice (some ⟨g', 0, none⟩) (xs.length + 1) cap') (xs.length + 1) (us ++ cs) := ownsRow_lower h3 hbase
    refine ⟨g' :: (fq ++ fy), ⟨_, rfl, .inr ⟨g', cap', us ++ cs, fq ++ fy, by rw [hl], rfl, by rw [hl]; exact h4, hkeep⟩⟩, ?_, ?_⟩
    · refine List.nodup_cons.2 ⟨fun hm => ?_, List.nodup_append.2 ⟨hnd.2, hdy, fun a ha b hb e => hdis b hb (e ▸ (by simp [ha]))⟩⟩
      rcases List.mem_append.1 hm with hm | hm
      · have := (hqb g' hm).2
        omega
      · have := (hyb g' hm).2
        omega
    · intro k hk
      rcases List.mem_cons.1 hk with rfl | hk
      · exact .inr (.inr hgb)
      · rcases List.mem_append.1 hk with hk | hk
        · exact .inl (by simp [hk])
        · exact .inr (.inl hk)
end

end Go.Proofs.Ythiicpbedgcmlaa
namespace Go.Proofs.Ythiicpbedgcmlaa
open Go.RowKit

/-- Rows of what is held, with whatever room. -/
def layHeldC : Lay (List HeldD) := .room HeldT layHeld
end Go.Proofs.Ythiicpbedgcmlaa
namespace Go.Proofs.Ythiicpbedgcmlaa
open Go.RowKit

/-- A shelf in variable G, whose rows lie in blocks from lo on, below hi. -/
structure SHO (lo hi G : Nat) (v : Value) (xs : List HeldD) (X : World) : Prop where
  var : VarA G ShelfT #[v] X
  co : ∃ f : List Nat, f.Nodup ∧ layHeldC.own X lo f [v] xs ∧ ∀ a ∈ f, a < hi
  gh : hi ≤ G
/-- Blocks from a on, below b, alone are changed. -/
def HIn (a b : Nat) (X Y : World) : Prop := ∃ f : List Nat, (∀ g ∈ f, a ≤ g ∧ g < b) ∧ Chg f X Y
section
variable {lo hi G : Nat} {v : Value} {xs : List HeldD} {X Y : World}
theorem SHO.next (h : SHO lo hi G v xs X) (hb : Below X.heap.size X Y) : SHO lo hi G v xs Y := by
  obtain ⟨f, hd, h1, h3⟩ := h.co
  exact ⟨h.var.next hb, ⟨f, hd, layHeldC.next h1 hb, h3⟩, h.gh⟩
theorem SHO.rd (h : SHO lo hi G v xs X) : layHeldS.rd X [v] xs := by
  obtain ⟨f, hd, h1, h3⟩ := h.co
  exact layHeldC.read h1
theorem HIn.var {a b : Nat} (hc : HIn a b X Y) {q : Nat} {t : TypeId} {es : Array Value} (h : VarA q t es X) (hq : q < a ∨ b ≤ q) : VarA q t es Y := by
  obtain ⟨f, h1, h2⟩ := hc
  exact ⟨(h2.block q h.lt (fun hm => by have := h1 q hm; omega)).trans h.row⟩
theorem HIn.below {W : World} {a b : Nat} (hb : Below W.heap.size W X) (hc : HIn a b X Y) (ha : W.heap.size ≤ a) : Below W.heap.size W Y := by
  obtain ⟨f, h1, h2⟩ := hc
  exact hb.trans (h2.below (fun g hg => by have := h1 g hg; omega) hb.size)
theorem HIn.size {a b : Nat} (hc : HIn a b X Y) : X.heap.size ≤ Y.heap.size := by
  obtain ⟨f, _, h⟩ := hc
  exact h.size
end
theorem SHO.newC {W X : World} {v : Value} {xs : List HeldD} {f : List Nat} (hd : f.Nodup) (h1 : layHeldC.own X W.heap.size f [v] xs) : SHO W.heap.size X.heap.size X.heap.size v xs (X.alloc (.cells #[v] ShelfT)) :=
  ⟨VarA.new X ShelfT #[v], ⟨f, hd, layHeldC.next h1 ((Below.refl _ _).alloc (Nat.le_refl _) _), fun a ha => (layHeldC.blocks h1 a ha).2⟩, Nat.le_refl _⟩
theorem SHO.new {W X : World} {v : Value} {xs : List HeldD} {f : List Nat} (hd : f.Nodup) (h1 : layHeldS.own X W.heap.size f [v] xs) : SHO W.heap.size X.heap.size X.heap.size v xs (X.alloc (.cells #[v] ShelfT)) := SHO.newC hd (room_of h1)
end Go.Proofs.Ythiicpbedgcmlaa
namespace Go.Proofs.Ythiicpbedgcmlaa
open Go.RowKit

/-- A shelf, a text and whether are handed back. -/
def AddMade (w : World) (xs : List HeldD) (whole : ByteArray) (ok : Bool) (e : Ending) (w' : World) : Prop := ∃ v fp, e = .returned (.tuple #[.agg #[v], .string whole, .bool ok]) ∧ fp.Nodup ∧ layHeldC.own w' w.heap.size fp [v] xs ∧ Below w.heap.size w w'
end Go.Proofs.Ythiicpbedgcmlaa

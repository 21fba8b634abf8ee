/-
  Held as it lies; the laws' own functions over it and over rows of it.
  'out = append(out, x)', told whether the row stays in its block or lies in a new one; no program is spoken of here.
  'out = append(out, x)' over rows whose elements hold rows; no program is spoken of here.
  Rows of what is held, held against each other.
  What is held, measured.
  An element of a row of the call's own is put anew, whatever the elder one held.
  Rows of what is held as the laws read them.
  The front and the back of two texts; no program is spoken of here.
  Pieces of a long text, in plain words; no program is spoken of here.
-/
import Derived.Test.YthiicpbedgcmlaaJ04
import Derived.Test.YthiicpbedgcmlaaRows
import Derived.Deep.RegionHeld3
import Derived.BigQuiet
import Derived.Deep.QuietTactic
import Derived.Deep.DeepCutAuto
import Derived.ArgAppend
import Derived.Test.YthiicpbedgcmlaaJ03
namespace Go.Proofs.Ythiicpbedgcmlaa
open Go.RowKit

abbrev HeldD := Int × Int × Int × (List ByteArray) × (List Bool) × Int
abbrev HeldT : TypeId := 35
def layHeld : Lay HeldD := Lay.pair Lay.int (Lay.pair Lay.int (Lay.pair Lay.int (Lay.pair layStringS (Lay.pair layBoolS Lay.int))))
def layHeldS : Lay (List HeldD) := .rows HeldT layHeld

theorem layHeld_rd {w : World} {cs : List Value} {x : HeldD} : layHeld.rd w cs x ↔ ∃ v3 v4, cs = [.int .i64 x.1, .int .i64 x.2.1, .int .i64 x.2.2.1, v3, v4, .int .i64 x.2.2.2.2.2] ∧ layStringS.rd w [v3] x.2.2.2.1 ∧ layBoolS.rd w [v4] x.2.2.2.2.1 := by
  constructor
  · rintro ⟨c100, d100, rfl, rfl, ⟨c101, d101, rfl, rfl, ⟨c102, d102, rfl, rfl, ⟨c104, d104, rfl, ⟨v103, rfl, h103⟩, ⟨c106, d106, rfl, ⟨v105, rfl, h105⟩, rfl⟩⟩⟩⟩⟩
    exact ⟨v103, v105, rfl, ⟨v103, rfl, h103⟩, ⟨v105, rfl, h105⟩⟩
  · rintro ⟨v3, v4, rfl, H3, H4⟩
    exact ⟨[_], [_, _, _, _, _], rfl, rfl, ⟨[_], [_, _, _, _], rfl, rfl, ⟨[_], [_, _, _], rfl, rfl, ⟨[_], [_, _], rfl, H3, ⟨[_], [_], rfl, H4, rfl⟩⟩⟩⟩⟩

theorem layHeld_own {w : World} {b : Nat} {f : List Nat} {cs : List Value} {x : HeldD} : layHeld.own w b f cs x ↔ ∃ v3 v4 f3 f4, cs = [.int .i64 x.1, .int .i64 x.2.1, .int .i64 x.2.2.1, v3, v4, .int .i64 x.2.2.2.2.2] ∧ f = f3 ++ f4 ∧ layStringS.own w b f3 [v3] x.2.2.2.1 ∧ layBoolS.own w b f4 [v4] x.2.2.2.2.1 := by
  constructor
  · rintro ⟨f100, g100, c100, d100, rfl, rfl, ⟨rfl, rfl⟩, ⟨f101, g101, c101, d101, rfl, rfl, ⟨rfl, rfl⟩, ⟨f102, g102, c102, d102, rfl, rfl, ⟨rfl, rfl⟩, ⟨f104, g104, c104, d104, rfl, rfl, ⟨v103, rfl, h103⟩, ⟨f106, g106, c106, d106, rfl, rfl, ⟨v105, rfl, h105⟩, ⟨rfl, rfl⟩⟩⟩⟩⟩⟩
    exact ⟨v103, v105, _, _, rfl, by simp, ⟨v103, rfl, h103⟩, ⟨v105, rfl, h105⟩⟩
  · rintro ⟨v3, v4, f3, f4, rfl, hf, H3, H4⟩
    have hf2 : f = ([] ++ ([] ++ ([] ++ (f3 ++ (f4 ++ []))))) := by simp [hf]
    rw [hf2]
    exact ⟨[], ([] ++ ([] ++ (f3 ++ (f4 ++ [])))), [_], [_, _, _, _, _], rfl, rfl, ⟨rfl, rfl⟩, ⟨[], ([] ++ (f3 ++ (f4 ++ []))), [_], [_, _, _, _], rfl, rfl, ⟨rfl, rfl⟩, ⟨[], (f3 ++ (f4 ++ [])), [_], [_, _, _], rfl, rfl, ⟨rfl, rfl⟩, ⟨f3, (f4 ++ []), [_], [_, _], rfl, rfl, H3, ⟨f4, [], [_], [_], rfl, rfl, H4, ⟨rfl, rfl⟩⟩⟩⟩⟩⟩

end Go.Proofs.Ythiicpbedgcmlaa
namespace Go.Proofs.Ythiicpbedgcmlaa
open Go.RowKit

theorem grown_some {w w' : World} {r : Option Nat} (h : w.grownBy w' none) : w.grownBy w' r := ⟨h.os, h.tape, h.output, h.size, fun k hk _ => h.block k hk (by simp)⟩
end Go.Proofs.Ythiicpbedgcmlaa
namespace Go.Proofs.Ythiicpbedgcmlaa
open Go.RowKit

/-- A row with one more element, whose own rows lie apart: where it lies, what has changed. -/
structure Pushed {α : Type} (e : TypeId) (A : Lay α) (base : Nat) (v : Value) (f fy : List Nat) (xs : List α) (y : α) (W : World) (v' : Value) (w' : World) : Prop where
  own : ∃ f', (Lay.rows e A).own w' base f' [v'] (xs ++ [y]) ∧ f'.Nodup ∧ ∀ k ∈ f', k ∈ f ∨ k ∈ fy ∨ W.heap.size ≤ k
  some : v' ≠ .slice none 0 0
  grown : W.grownBy w' v.ownBlock
  below : Below base W w'
theorem run_pushL {α : Type} {P : Program} (W : World) (base : Nat) (t ty e : TypeId) (i : TypeInfo) (z : Value) (bytes : Nat) (A : Lay α) (ht : P.underlying t = some (.slice e)) (hi : P.info? e = some i) (hz : i.zero = some z)
    (hsize : i.size = A.k) (hby : i.bytes = bytes) (hzs : z.cells.size = A.k) (hb1 : bytes ≤ 1000) (v : Value) (f : List Nat) (xs : List α) (hown : (Lay.rows e A).own W base f [v] xs) (hd : f.Nodup)
    (y : α) (cs : List Value) (fy : List Nat) (hy : A.own W base fy cs y) (hdy : fy.Nodup) (hdis : ∀ k ∈ fy, k ∉ f) (ad : Addr) (hc : ∀ j u, cs[j]? = some u → W.cell? (ad.add j) = some u) (hlen : xs.length + 1 ≤ 1000000000) (hbase : base ≤ W.heap.size) :
    ∃ v' w', (Builtin.append_ #[t, t] ty #[v, .slice (some ad) 1 1]).run P W = .ok v' w' ∧ Pushed e A base v f fy xs y W v' w' := by
  have hbyt : (xs.length + 1) * bytes ≤ 140737488355328 := by
    have h1 : (xs.length + 1) * bytes ≤ 1000000000 * 1000 := Nat.mul_le_mul hlen hb1
    omega
  have hcs := A.read hy
  have hnl : cs.length = 1 * A.k := by rw [A.len hcs, Nat.one_mul]
  have hyb := A.blocks hy
  have hone : ownAll A W base fy cs [y] := ⟨fy, [], cs, [], by simp, by simp, hy, rfl, rfl⟩
  -- a new block
  have big : ∀ (olds : List Value) (fq : List Nat) (n : Nat), n = xs.length → ownAll A W base fq olds xs → fq.Nodup → (∀ k ∈ fq, k ∈ f) → (∀ k, v.ownBlock = some k → base ≤ k) → ∀ v' w', w'.ownsRow W.heap.size e A.k v' (n + 1) (olds ++ cs) → W.grownBy w' none → Pushed e A base v f fy xs y W v' w' := by
    intro olds fq n hn ha hfq hsub hlt v' w' h3 hg
    have hqb := ownAll_blocks A ha
    have hall := ownAll_join A ha hone
    have hkeep : ownAll A w' base (fq ++ fy) (olds ++ cs) (xs ++ [y]) := ownAll_keep A hall (fun k hk => by
      rcases List.mem_append.1 hk with hk | hk
      · exact hg.block k (hqb k hk).2 (by simp)
      · exact hg.block k (hyb k hk).2 (by simp))
    rcases h3.2 with ⟨hv, h0⟩ | ⟨g', cap', cur', hv, hgb, hrest⟩
    · omega
    · subst hv
      have hl : (xs ++ [y]).length = n + 1 := by rw [List.length_append, ← hn]; rfl
      have h4 : w'.ownsRow base e A.k (.slice (some ⟨g', 0, none⟩) (n + 1) cap') (n + 1) (olds ++ cs) := ownsRow_lower h3 hbase
      refine ⟨⟨g' :: (fq ++ fy), ⟨_, rfl, .inr ⟨g', cap', olds ++ cs, fq ++ fy, by rw [hl], rfl, by rw [hl]; exact h4, hkeep⟩⟩, ?_, ?_⟩, by simp, grown_some hg, below_grown (grown_some hg) hlt hbase⟩
      · refine List.nodup_cons.2 ⟨fun hm => ?_, List.nodup_append.2 ⟨hfq, hdy, fun a ha b hb e => hdis b hb (hsub b (e ▸ ha))⟩⟩
        rcases List.mem_append.1 hm with hm | hm
        · have := (hqb g' hm).2
          omega
        · have := (hyb g' hm).2
          omega
      · intro k hk
        rcases List.mem_cons.1 hk with rfl | hk
        · exact .inr (.inr hgb)
        · rcases List.mem_append.1 hk with hk | hk
          · exact .inl (hsub k hk)
          · exact .inr (.inl hk)
  obtain ⟨v2, hv2, hown⟩ := hown
  simp only [List.cons.injEq, and_true] at hv2
  subst hv2
  rcases hown with ⟨rfl, rfl, rfl⟩ | ⟨g, cap, us, fq, rfl, rfl, hrow, hall⟩
  · obtain ⟨v', w', hrun, r1, r2, _⟩ := run_append_own (P := P) W W.heap.size t ty e i z A.k bytes ht hi hz hsize hby hzs A.pos (.slice none 0 0) 0 [] (World.ownsRow_nil W _ e A.k) ad 1 1 cs hnl hc (A.one hcs) (by unfold maxLen; omega) (by simpa using hbyt) (Nat.le_refl _)
    exact ⟨v', w', hrun, big [] [] 0 rfl ⟨rfl, rfl⟩ List.nodup_nil (fun k hk => by cases hk) (fun k hk => by cases hk) v' w' r1 r2⟩
  · have hgb := ownsRow_block hrow
    have hnd := List.nodup_cons.1 hd
    have hlt : ∀ k, (Value.slice (some ⟨g, 0, none⟩) xs.length cap).ownBlock = some k → base ≤ k := fun k hk => by
      cases hk
      exact hgb.1
    by_cases hfit : xs.length + 1 ≤ cap
    · obtain ⟨w', hrun, r1, r2⟩ := run_append_fits (P := P) W base t ty e i A.k ht hi hsize g xs.length cap us hrow ad 1 1 cs hnl hc (A.one hcs) hfit
      have hqb := ownAll_blocks A hall
      have hj := ownAll_join A hall hone
      have hkeep : ownAll A w' base (fq ++ fy) (us ++ cs) (xs ++ [y]) := ownAll_keep A hj (fun k hk => by
        rcases List.mem_append.1 hk with hk | hk
        · exact r2.block k (hqb k hk).2 (fun e => by cases e; exact hnd.1 hk)
        · exact r2.block k (hyb k hk).2 (fun e => by cases e; exact hdis g hk (by simp)))
      have hl : (xs ++ [y]).length = xs.length + 1 := by rw [List.length_append]; rfl
      refine ⟨_, w', hrun, ⟨g :: (fq ++ fy), ⟨_, rfl, .inr ⟨g, cap, us ++ cs, fq ++ fy, by rw [hl], rfl, by rw [hl]; exact r1, hkeep⟩⟩, ?_, ?_⟩, by simp, r2, below_grown r2 hlt hbase⟩
      · refine List.nodup_cons.2 ⟨fun hm => ?_, List.nodup_append.2 ⟨hnd.2, hdy, fun a ha b hb e => hdis b hb (by simp [← e, ha])⟩⟩
        rcases List.mem_append.1 hm with hm | hm
        · exact hnd.1 hm
        · exact hdis g hm (by simp)
      · intro k hk
        rcases List.mem_cons.1 hk with rfl | hk
        · exact .inl (by simp)
        · rcases List.mem_append.1 hk with hk | hk
          · exact .inl (by simp [hk])
          · exact .inr (.inl hk)
    · have hcell := hrow.cells (g := g) rfl
      obtain ⟨v', w', hrun, r1, r2⟩ := run_append_arg_grows (P := P) W t ty e i z A.k bytes ht hi hz hsize hby hzs A.pos ⟨g, 0, none⟩ xs.length cap us (ownAll_len A hall) hcell ad 1 1 cs hnl hc (by omega) (by unfold maxLen; omega) hbyt
      exact ⟨v', w', hrun, big us fq _ rfl hall hnd.2 (fun k hk => by simp [hk]) hlt v' w' r1 r2⟩
/-- 'out = append(out, x)' where nothing draws. -/
theorem wpList_pushL {α : Type} {P : Program} (W : World) {ops : Array Oper} {rest : List Oper} {o : Oper} {a : Act} {Q : Exit → Act → World → Prop} (hgd : o.guard = none) (s x : Operand) (t : TypeId)
    (hop : o.op = Op.call { callee := Callee.builtin Builtin.append, args := #[s, x], argTypes := #[t, t] })
    (base : Nat) (e : TypeId) (i : TypeInfo) (z : Value) (bytes : Nat) (A : Lay α) (ht : P.underlying t = some (.slice e)) (hi : P.info? e = some i) (hz : i.zero = some z)
    (hsize : i.size = A.k) (hby : i.bytes = bytes) (hzs : z.cells.size = A.k) (hb1 : bytes ≤ 1000) (v : Value) (f : List Nat) (xs : List α) (hs : a.eval s = v) (hown : (Lay.rows e A).own W base f [v] xs) (hd : f.Nodup)
    (y : α) (cs : List Value) (fy : List Nat) (hy : A.own W base fy cs y) (hdy : fy.Nodup) (hdis : ∀ k ∈ fy, k ∉ f) (ad : Addr) (hx : a.eval x = .slice (some ad) 1 1) (hc : ∀ j u, cs[j]? = some u → W.cell? (ad.add j) = some u)
    (hlen : xs.length + 1 ≤ 1000000000) (hbase : base ≤ W.heap.size)
    (hK : ∀ v' w', Pushed e A base v f fy xs y W v' w' → wpList P ops Q rest (a.put o.dst v') w') : wpList P ops Q (o :: rest) a W := by
  refine wpList_plain hgd fun K hK' => ?_
  obtain ⟨v', w', hrun, hp⟩ := run_pushL (P := P) W base t o.type e i z bytes A ht hi hz hsize hby hzs hb1 v f xs hown hd y cs fy hy hdy hdis ad hc hlen hbase
  unfold Oper.wp
  simp [execOp, hop, resolve, invoke, builtin, hs, hx, hrun, Result.andThen]
  exact hK' _ _ (hK v' w' hp)
/-- The same as a step of a region that draws its order. -/
theorem step_pushL {α : Type} {P : Program} {ops : Array Oper} {o : Oper} {a : Act} {W : World} {K : Act → World → Prop} {Q : Exit → Act → World → Prop} {E : Prop}
    (hg : o.guard = none) (s x : Operand) (t : TypeId) (hop : o.op = Op.call { callee := Callee.builtin Builtin.append, args := #[s, x], argTypes := #[t, t] })
    (base : Nat) (e : TypeId) (i : TypeInfo) (z : Value) (bytes : Nat) (A : Lay α) (ht : P.underlying t = some (.slice e)) (hi : P.info? e = some i) (hz : i.zero = some z)
    (hsize : i.size = A.k) (hby : i.bytes = bytes) (hzs : z.cells.size = A.k) (hb1 : bytes ≤ 1000) (v : Value) (f : List Nat) (xs : List α) (hs : a.eval s = v) (hown : (Lay.rows e A).own W base f [v] xs) (hd : f.Nodup)
    (y : α) (cs : List Value) (fy : List Nat) (hy : A.own W base fy cs y) (hdy : fy.Nodup) (hdis : ∀ k ∈ fy, k ∉ f) (ad : Addr) (hx : a.eval x = .slice (some ad) 1 1) (hc : ∀ j u, cs[j]? = some u → W.cell? (ad.add j) = some u)
    (hlen : xs.length + 1 ≤ 1000000000) (hbase : base ≤ W.heap.size)
    (hK : ∀ v' w', Pushed e A base v f fy xs y W v' w' → K (a.put o.dst v') w') : if Region.wanted o (yielded ops a.tmps) = true then Oper.wp P o a W K Q else E := by
  have hw : Region.wanted o (yielded ops a.tmps) = true := by simp [Region.wanted, hg]
  rw [if_pos hw]
  obtain ⟨v', w', hrun, hp⟩ := run_pushL (P := P) W base t o.type e i z bytes A ht hi hz hsize hby hzs hb1 v f xs hown hd y cs fy hy hdy hdis ad hc hlen hbase
  unfold Oper.wp
  simp [execOp, hop, resolve, invoke, builtin, hs, hx, hrun, Result.andThen]
  exact hK v' w' hp

end Go.Proofs.Ythiicpbedgcmlaa
namespace Go.Proofs.Ythiicpbedgcmlaa
open Go.RowKit

theorem infoHeld : (Try.prog.info? HeldT).map (fun i => (i.zero, i.size, i.bytes)) = some (some (.agg #[.int .i64 0, .int .i64 0, .int .i64 0, .slice none 0 0, .slice none 0 0, .int .i64 0]), 6, 80) := by kernel_rfl

end Go.Proofs.Ythiicpbedgcmlaa
namespace Go.Proofs.Ythiicpbedgcmlaa
open Go.RowKit

/-- How many parts there are in all. -/
def partsN : List HeldD → Nat
  | [] => 0
  | x :: xs => x.2.2.2.1.length + x.2.2.2.2.1.length + partsN xs
def FitsHeld (x : HeldD) : Prop := FitsString x.2.2.2.1 ∧ FitsBool x.2.2.2.2.1
def FitsHeldS (xs : List HeldD) : Prop := xs.length ≤ 1048576 ∧ (∀ x ∈ xs, FitsHeld x) ∧ xs.length + partsN xs ≤ 1048576
end Go.Proofs.Ythiicpbedgcmlaa
namespace Go.Proofs.Ythiicpbedgcmlaa
open Go.RowKit

variable {α : Type}
theorem none_rows {e : TypeId} {A : Lay α} (w : World) (b : Nat) : (Lay.rows e A).own w b [] [.slice none 0 0] [] := ⟨_, rfl, .inl ⟨rfl, rfl, rfl⟩⟩

end Go.Proofs.Ythiicpbedgcmlaa
namespace Go.Proofs.Ythiicpbedgcmlaa
open Go.RowKit

end Go.Proofs.Ythiicpbedgcmlaa
namespace Go.Proofs.Ythiicpbedgcmlaa

end Go.Proofs.Ythiicpbedgcmlaa
namespace Go.Proofs.Ythiicpbedgcmlaa

/-- A number in one byte. -/
def byteN (n : Nat) : ByteArray := ⟨#[UInt8.ofNat n]⟩
theorem byteN_size (n : Nat) : (byteN n).size = 1 := rfl
/-- How many parts a text of n bytes has. -/
def countP (n size : Nat) : Nat := if (n + size - 1) / size = 0 then 1 else (n + size - 1) / size
/-- The part at a place. -/
def partP (id count size : Nat) (s : ByteArray) (i : Nat) : ByteArray := byteN id ++ byteN i ++ byteN count ++ s.extract (i * size) (min ((i + 1) * size) s.size)
/-- The first k parts. -/
def partsP (id count size : Nat) (s : ByteArray) (k : Nat) : List ByteArray := (List.range k).map (partP id count size s)
/-- A text that can be split. -/
def SplitP (id : Int) (s : ByteArray) (size : Int) : Prop := (0 ≤ id ∧ id ≤ 255) ∧ (20 ≤ size ∧ size ≤ 120) ∧ s.size ≤ 300
/-- What Split tells. -/
def SplitIs (id : Int) (s : ByteArray) (size : Int) (out : List ByteArray) (ok : Bool) : Prop :=
  (ok = true ∧ SplitP id s size ∧ out = partsP id.toNat (countP s.size size.toNat) size.toNat s (countP s.size size.toNat)) ∨ (ok = false ∧ ¬ SplitP id s size ∧ out = [])
theorem partsP_length (id count size : Nat) (s : ByteArray) (k : Nat) : (partsP id count size s k).length = k := by unfold partsP; simp
theorem partsP_next (id count size : Nat) (s : ByteArray) (k : Nat) : partsP id count size s (k + 1) = partsP id count size s k ++ [partP id count size s k] := by
  unfold partsP
  rw [List.range_succ, List.map_append]
  rfl
theorem count_few {n size : Nat} (hn : n ≤ 300) (hs : 20 ≤ size) : 1 ≤ countP n size ∧ countP n size ≤ 15 := by
  have h1 : (n + size - 1) / size < 16 := by
    rw [Nat.div_lt_iff_lt_mul (by omega)]
    omega
  unfold countP
  generalize (n + size - 1) / size = q at h1
  split <;> omega
/-- The parts reach to the end, and no part begins behind it. -/
theorem count_end {n size : Nat} (hs : 20 ≤ size) : n ≤ countP n size * size ∧ (∀ i, i < countP n size → i * size ≤ n) := by
  have h0 : size * ((n + size - 1) / size) ≤ n + size - 1 := Nat.mul_div_le _ _
  have h1 : n + size - 1 < size * ((n + size - 1) / size + 1) := Nat.lt_mul_div_succ _ (by omega)
  unfold countP
  generalize (n + size - 1) / size = q at h0 h1
  by_cases hq : q = 0
  · subst hq
    rw [if_pos rfl]
    refine ⟨by omega, fun i hi => ?_⟩
    obtain rfl : i = 0 := by omega
    omega
  · rw [if_neg hq]
    rw [Nat.mul_add, Nat.mul_one] at h1
    rw [Nat.mul_comm q size]
    refine ⟨by omega, fun i hi => ?_⟩
    have h2 : size * i ≤ size * (q - 1) := Nat.mul_le_mul_left _ (by omega)
    have h3 : size * q = size * (q - 1) + size := by
      obtain ⟨p, rfl⟩ : ∃ p, q = p + 1 := ⟨q - 1, by omega⟩
      rw [Nat.add_sub_cancel, Nat.mul_add, Nat.mul_one]
    rw [Nat.mul_comm i size]
    omega
/-- A byte of a text. -/
def byteAt (t : ByteArray) (i : Nat) : Nat := (t.data.toList.getD i 0).toNat
theorem byteAt_lt (t : ByteArray) (i : Nat) : byteAt t i < 256 := UInt8.toNat_lt _
/-- A text that is a part. -/
def PieceP (t : ByteArray) : Prop := 3 ≤ t.size ∧ (1 ≤ byteAt t 2 ∧ byteAt t 2 ≤ 15) ∧ byteAt t 1 < byteAt t 2
/-- What ReadPart tells. -/
def ReadPartIs (t : ByteArray) (id place count : Int) (part : ByteArray) (ok : Bool) : Prop :=
  (ok = true ∧ PieceP t ∧ id = (byteAt t 0 : Nat) ∧ place = (byteAt t 1 : Nat) ∧ count = (byteAt t 2 : Nat) ∧ part = t.extract 3 t.size) ∨ (ok = false ∧ ¬ PieceP t ∧ id = 0 ∧ place = 0 ∧ count = 0 ∧ part = ⟨#[]⟩)
theorem readPart_is (t : ByteArray) : ∃ id place count part ok, ReadPartIs t id place count part ok := by
  by_cases h : PieceP t
  · exact ⟨_, _, _, _, _, .inl ⟨rfl, h, rfl, rfl, rfl, rfl⟩⟩
  · exact ⟨_, _, _, _, _, .inr ⟨rfl, h, rfl, rfl, rfl, rfl⟩⟩
end Go.Proofs.Ythiicpbedgcmlaa

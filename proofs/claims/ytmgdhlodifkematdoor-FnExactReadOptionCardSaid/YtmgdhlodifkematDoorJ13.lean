/-
  Options set one behind another, and what the parts of a text set; no program is spoken of here.
  Options as it lies; the laws' own functions over it and over rows of it.
-/
import Derived.Test.YtmgdhlodifkematDoorJ12
import Derived.Lib.Strings
import Derived.Test.YtmgdhlodifkematDoorJ07
import Derived.Test.YtmgdhlodifkematDoorRows
import Derived.Test.YtmgdhlodifkematDoorJ08
import Derived.Deep.RegionHeld3
import Derived.BigQuiet
import Derived.Deep.QuietTactic
import Derived.Deep.DeepCutAuto
namespace Go.Proofs.YtmgdhlodifkematDoor
open Go.RowKit

/-- What one option sets. -/
inductive Sets where
  | size (n : Int)
  | ways (ws : List ByteArray)
  | pieces (b : Bool)
/-- Options with one more set. -/
def putS (o : Int × List ByteArray × Bool) : Sets → Int × List ByteArray × Bool
  | .size n => (n, o.2.1, o.2.2)
  | .ways ws => (o.1, ws, o.2.2)
  | .pieces b => (o.1, o.2.1, b)
def allS (sts : List Sets) : Int × List ByteArray × Bool := sts.foldl putS (0, [], false)
theorem allS_snoc (sts : List Sets) (st : Sets) : allS (sts ++ [st]) = putS (allS sts) st := by unfold allS; rw [List.foldl_append]; rfl
/-- What is set fits. -/
def FitS : Sets → Prop
  | .size n => 0 ≤ n ∧ n ≤ 1000000000
  | .ways ws => ws.length ≤ 5 ∧ ∀ x ∈ ws, x.size ≤ 1048576
  | .pieces _ => True
def optWay : List UInt8 := [119, 97, 121, 115, 32]
def optPcs : List UInt8 := [112, 105, 101, 99, 101, 115]
/-- The ways that stand in the rest of a part: five at most. -/
def waysIn (x : List UInt8) : List ByteArray := Lib.splitB ⟨#[44]⟩ 0 (min 5 ((⟨(x.drop 5).toArray⟩ : ByteArray).size + 1) - 1) ⟨(x.drop 5).toArray⟩
/-- What a part of a text sets. -/
def PartSets (x : List UInt8) (st : Sets) : Prop :=
  (Lib.hasPrefix x optSize = true ∧ ∃ n : Nat, n ≤ 1000000000 ∧ st = .size n ∧ ∀ m, m ≤ 1000000000 → Lib.decDigits m = x.drop 5 → n = m) ∨
  (Lib.hasPrefix x optSize = false ∧ Lib.hasPrefix x optWay = true ∧ st = .ways (waysIn x)) ∨
  (Lib.hasPrefix x optSize = false ∧ Lib.hasPrefix x optWay = false ∧ ∃ b, st = .pieces b ∧ (b = true ↔ x = optPcs))
/-- The parts of a text: four at most. -/
def partsO (s : ByteArray) : List ByteArray := Lib.splitB ⟨#[59]⟩ 0 (min 4 (s.size + 1) - 1) s
theorem split_few (x : UInt8) (n : Nat) (hn : 1 ≤ n) (s : ByteArray) : 1 ≤ (Lib.splitB ⟨#[x]⟩ 0 (min n (s.size + 1) - 1) s).length ∧ (Lib.splitB ⟨#[x]⟩ 0 (min n (s.size + 1) - 1) s).length ≤ n ∧
    ((cutAt x [] s.data.toList).length ≤ n → (Lib.splitB ⟨#[x]⟩ 0 (min n (s.size + 1) - 1) s).map (·.data.toList) = cutAt x [] s.data.toList) := by
  have hd := Lib.splitB_data ⟨#[x]⟩ 0 (min n (s.size + 1) - 1) s
  have hl : s.data.toList.length = s.size := by simp
  have hc := cutAt_count x s.data.toList []
  have e : (⟨#[x]⟩ : ByteArray).data.toList = [x] := rfl
  rw [e] at hd
  have hlen : (Lib.splitB ⟨#[x]⟩ 0 (min n (s.size + 1) - 1) s).length = (Lib.splitK [x] 0 (min n (s.size + 1) - 1) s.data.toList).length := by rw [← hd, List.length_map]
  obtain ⟨h1, h2⟩ := splitK_cut x (min n (s.size + 1) - 1) s.data.toList
  have h3 := cutAt_pos x [] s.data.toList
  refine ⟨?_, ?_, fun h => ?_⟩
  · rw [hlen, h2]; omega
  · rw [hlen, h2]; omega
  · rw [hd, h1 (by omega)]
theorem split_part (x : UInt8) : ∀ (k : Nat) (s : ByteArray), ∀ y ∈ Lib.splitB ⟨#[x]⟩ 0 k s, y.size ≤ s.size
  | 0, s => fun y hy => by
    rw [Lib.splitB_zero, List.mem_singleton] at hy
    rw [hy]
    exact Nat.le_refl _
  | k + 1, s => fun y hy => by
    unfold Lib.splitB at hy
    split at hy
    · rw [List.mem_singleton] at hy
      rw [hy]
      exact Nat.le_refl _
    · rcases List.mem_cons.1 hy with h | h
      · rw [h, ByteArray.size_extract]; omega
      · have := split_part x k _ y h
        rw [ByteArray.size_extract] at this
        omega
theorem ways_fit (x : List UInt8) (h : x.length ≤ 1048576) : (waysIn x).length ≤ 5 ∧ ∀ y ∈ waysIn x, y.size ≤ 1048576 := by
  refine ⟨(split_few 44 5 (by decide) _).2.1, fun y hy => ?_⟩
  have h1 := split_part 44 _ _ y hy
  have h2 : (⟨(x.drop 5).toArray⟩ : ByteArray).size = x.length - 5 := by show (x.drop 5).toArray.size = _; simp
  omega
theorem part_fit {x : List UInt8} {st : Sets} (h : PartSets x st) (hx : x.length ≤ 1048576) : FitS st := by
  rcases h with ⟨_, n, hn, rfl, _⟩ | ⟨_, _, rfl⟩ | ⟨_, _, b, rfl, _⟩
  · exact ⟨Int.natCast_nonneg n, by omega⟩
  · exact ways_fit x hx
  · exact trivial
theorem bytes_one {a : ByteArray} {l : List UInt8} (h : a.data.toList = l) : a = ⟨l.toArray⟩ := by
  rw [← h]
theorem twoS_of {α : Type} : ∀ l : List α, l.length = 2 → ∃ a b, l = [a, b]
  | [a, b], _ => ⟨a, b, rfl⟩
theorem threeS_of {α : Type} : ∀ l : List α, l.length = 3 → ∃ a b c, l = [a, b, c]
  | [a, b, c], _ => ⟨a, b, c, rfl⟩
/-- The parts of right options' text set just these. -/
theorem sets_back {z : Int} {ws : List ByteArray} {p : Bool} (h : OptP z ws) (sts : List Sets) (hl : sts.length = (partsO (optT z.toNat ws p)).length)
    (hs : ∀ (j : Nat) (x : ByteArray) (st : Sets), (partsO (optT z.toNat ws p))[j]? = some x → sts[j]? = some st → PartSets x.data.toList st) : allS sts = (z, ws, p) := by
  have hc : cutAt 59 [] (optT z.toNat ws p).data.toList = _ := opt_cut59 h p
  have hm := (split_few 59 4 (by decide) (optT z.toNat ws p)).2.2 (by rw [hc]; cases p <;> simp)
  rw [hc] at hm
  unfold partsO at hs hl
  generalize Lib.splitB ⟨#[59]⟩ 0 (min 4 ((optT z.toNat ws p).size + 1) - 1) (optT z.toNat ws p) = ps at hs hl hm
  have hz := h.sizeR
  have D0 : ∀ x st, x = optSize ++ Lib.decDigits z.toNat → PartSets x st → st = .size z := by
    rintro x st rfl h1
    have e1 : Lib.hasPrefix (optSize ++ Lib.decDigits z.toNat) optSize = true := by unfold optSize; rfl
    rcases h1 with ⟨_, n, hn, rfl, h2⟩ | ⟨h2, _⟩ | ⟨h2, _⟩
    · have := h2 z.toNat (by omega) rfl
      rw [this, Int.toNat_of_nonneg (by omega)]
    · rw [e1] at h2; cases h2
    · rw [e1] at h2; cases h2
  have D1 : ∀ x st, x = [119, 97, 121, 115, 32] ++ joinAt 44 (bytesW ws) → PartSets x st → st = .ways ws := by
    rintro x st rfl h1
    have e1 : Lib.hasPrefix ([119, 97, 121, 115, 32] ++ joinAt 44 (bytesW ws)) optSize = false := rfl
    have e2 : Lib.hasPrefix ([119, 97, 121, 115, 32] ++ joinAt 44 (bytesW ws)) optWay = true := by unfold optWay; rfl
    rcases h1 with ⟨h2, _⟩ | ⟨_, _, rfl⟩ | ⟨_, h2, _⟩
    · rw [e1] at h2; cases h2
    · congr 1
      unfold waysIn
      rw [show (([119, 97, 121, 115, 32] : List UInt8) ++ joinAt 44 (bytesW ws)).drop 5 = joinAt 44 (bytesW ws) from rfl]
      have hq : cutAt 44 [] (⟨(joinAt 44 (bytesW ws)).toArray⟩ : ByteArray).data.toList = _ := opt_cut44 h
      have h3 := (split_few 44 5 (by decide) ⟨(joinAt 44 (bytesW ws)).toArray⟩).2.2 (by rw [hq]; unfold bytesW; rw [List.length_map]; have := h.few; omega)
      rw [hq] at h3
      generalize Lib.splitB ⟨#[44]⟩ 0 _ _ = qs at h3
      have h4 := congrArg textsW h3
      rw [texts_bytes] at h4
      rw [← h4]
      exact (texts_bytes qs).symm
    · rw [e2] at h2; cases h2
  have D2 : ∀ st, PartSets [112, 105, 101, 99, 101, 115] st → st = .pieces true := by
    intro st h1
    rcases h1 with ⟨h2, _⟩ | ⟨_, h2, _⟩ | ⟨_, _, b, rfl, hb⟩
    · exact absurd h2 (by decide)
    · exact absurd h2 (by decide)
    · rw [hb.2 rfl]
  cases p with
  | false =>
    simp only [Bool.false_eq_true, if_false, List.append_nil] at hm
    obtain ⟨a, b, rfl⟩ : ∃ a b, ps = [a, b] := twoS_of _ (by have := congrArg List.length hm; rw [List.length_map] at this; exact this)
    obtain ⟨s, t, rfl⟩ : ∃ s t, sts = [s, t] := twoS_of _ hl
    simp only [List.map_cons, List.map_nil, List.cons.injEq, and_true] at hm
    rw [D0 _ _ hm.1 (hs 0 a s rfl rfl), D1 _ _ hm.2 (hs 1 b t rfl rfl)]
    rfl
  | true =>
    simp only [if_true] at hm
    obtain ⟨a, b, c, rfl⟩ : ∃ a b c, ps = [a, b, c] := threeS_of _ (by have := congrArg List.length hm; rw [List.length_map] at this; exact this)
    obtain ⟨s, t, u, rfl⟩ : ∃ s t u, sts = [s, t, u] := threeS_of _ hl
    simp only [List.map_cons, List.map_nil, List.cons_append, List.nil_append, List.cons.injEq, and_true] at hm
    have hu := hs 2 c u rfl rfl
    rw [hm.2.2] at hu
    rw [D0 _ _ hm.1 (hs 0 a s rfl rfl), D1 _ _ hm.2.1 (hs 1 b t rfl rfl), D2 _ hu]
    rfl
/-- What the program reads: options that write the text, or none. -/
theorem read_by {s : ByteArray} {rz : Int} {rw : List ByteArray} {rp ok : Bool} (hR : ReadIs s rz rw rp ok) (sts : List Sets) (hl : sts.length = (partsO s).length)
    (hs : ∀ (j : Nat) (x : ByteArray) (st : Sets), (partsO s)[j]? = some x → sts[j]? = some st → PartSets x.data.toList st) (t : ByteArray) (right : Bool) (ht : TextIs (allS sts).1 (allS sts).2.1 (allS sts).2.2 t right) :
    (right = true ∧ t = s ∧ ok = true ∧ rz = (allS sts).1 ∧ rw = (allS sts).2.1 ∧ rp = (allS sts).2.2) ∨ ((right = false ∨ t ≠ s) ∧ ok = false ∧ rz = 0 ∧ rw = [] ∧ rp = false) := by
  rcases hR with ⟨rfl, h1, rfl⟩ | ⟨rfl, h1, rfl, rfl, rfl⟩
  · have h2 := sets_back h1 sts hl hs
    rw [h2] at ht
    rcases ht with ⟨h3, _, h4⟩ | ⟨_, h3, _⟩
    · exact .inl ⟨h3, h4, rfl, by rw [h2], by rw [h2], by rw [h2]⟩
    · exact absurd h1 h3
  · refine .inr ⟨?_, rfl, rfl, rfl, rfl⟩
    rcases ht with ⟨_, h3, h4⟩ | ⟨h3, _⟩
    · exact .inr fun e => h1 _ _ _ h3 (e.symm.trans h4)
    · exact .inl h3

end Go.Proofs.YtmgdhlodifkematDoor
namespace Go.Proofs.YtmgdhlodifkematDoor
open Go.RowKit

abbrev OptionsD := Int × (List ByteArray) × Bool
abbrev OptionsT : TypeId := 24
def layOptions : Lay OptionsD := Lay.pair Lay.int (Lay.pair layStringS Lay.bool)
def layOptionsS : Lay (List OptionsD) := .rows OptionsT layOptions

theorem layOptions_rd {w : World} {cs : List Value} {x : OptionsD} : layOptions.rd w cs x ↔ ∃ v1, cs = [.int .i64 x.1, v1, .bool x.2.2] ∧ layStringS.rd w [v1] x.2.1 := by
  constructor
  · rintro ⟨c100, d100, rfl, rfl, ⟨c102, d102, rfl, ⟨v101, rfl, h101⟩, rfl⟩⟩
    exact ⟨v101, rfl, ⟨v101, rfl, h101⟩⟩
  · rintro ⟨v1, rfl, H1⟩
    exact ⟨[_], [_, _], rfl, rfl, ⟨[_], [_], rfl, H1, rfl⟩⟩

theorem layOptions_own {w : World} {b : Nat} {f : List Nat} {cs : List Value} {x : OptionsD} : layOptions.own w b f cs x ↔ ∃ v1 f1, cs = [.int .i64 x.1, v1, .bool x.2.2] ∧ f = f1 ∧ layStringS.own w b f1 [v1] x.2.1 := by
  constructor
  · rintro ⟨f100, g100, c100, d100, rfl, rfl, ⟨rfl, rfl⟩, ⟨f102, g102, c102, d102, rfl, rfl, ⟨v101, rfl, h101⟩, ⟨rfl, rfl⟩⟩⟩
    exact ⟨v101, _, rfl, by simp, ⟨v101, rfl, h101⟩⟩
  · rintro ⟨v1, f1, rfl, hf, H1⟩
    have hf2 : f = ([] ++ (f1 ++ [])) := by simp [hf]
    rw [hf2]
    exact ⟨[], (f1 ++ []), [_], [_, _], rfl, rfl, ⟨rfl, rfl⟩, ⟨f1, [], [_], [_], rfl, rfl, H1, ⟨rfl, rfl⟩⟩⟩

set_option maxRecDepth 100000 in
set_option maxHeartbeats 1600000 in
theorem eqOptions_same (x0 : Int) (v1 u1 : Value) (r1 : List ByteArray) (x2 : Bool) (w : World) (h1 : layStringS.rd w [v1] r1) (k1 : layStringS.rd w [u1] r1) (l1 : r1.length ≤ 100000000) :
    Calls Tryd.prog 6 #[.agg #[.int .i64 x0, v1, .bool x2], .agg #[.int .i64 x0, u1, .bool x2]] w fun e w' => e = .returned (.bool true) ∧ Below w.heap.size w w' := by
  have C_eqStringS_same := Lib.hid eqStringS_same
  have H1 := Lib.hid h1
  have K1 := Lib.hid k1
  clear h1 k1
  have A0 := (VarA.new w OptionsT #[.int .i64 x0, v1, .bool x2]).alloc (.cells #[.int .i64 x0, u1, .bool x2] OptionsT)
  have A1 := VarA.new (w.alloc (.cells #[.int .i64 x0, v1, .bool x2] OptionsT)) OptionsT #[.int .i64 x0, u1, .bool x2]
  have BY := ((Below.refl w.heap.size w).alloc (Nat.le_refl _) (.cells #[.int .i64 x0, v1, .bool x2] OptionsT)).alloc (by simp) (.cells #[.int .i64 x0, u1, .bool x2] OptionsT)
  have e1 : (w.alloc (.cells #[.int .i64 x0, v1, .bool x2] OptionsT)).heap.size = w.heap.size + 1 := by simp
  rw [e1] at A1
  clear e1
  have HA0 := Lib.hid A0
  have HA1 := Lib.hid A1
  have HBY := Lib.hid BY
  clear A0 A1 BY
  go_enter Tryd.func6, Tryd.ntmps6
  go_upto_region 1 with fail
  generalize (w.alloc (.cells #[.int .i64 x0, v1, .bool x2] OptionsT)).alloc (.cells #[.int .i64 x0, u1, .bool x2] OptionsT) = Y0 at *
  have a0 : Y0.cell? ⟨w.heap.size, 0, none⟩ = some (.int .i64 x0) := HA0.out.cell 0
  have b0 : Y0.cell? ⟨w.heap.size + 1, 0, none⟩ = some (.int .i64 x0) := HA1.out.cell 0
  have a1 : Y0.cell? ⟨w.heap.size, 1, none⟩ = some (v1) := HA0.out.cell 1
  have b1 : Y0.cell? ⟨w.heap.size + 1, 1, none⟩ = some (u1) := HA1.out.cell 1
  have a2 : Y0.cell? ⟨w.heap.size, 2, none⟩ = some (.bool x2) := HA0.out.cell 2
  have b2 : Y0.cell? ⟨w.heap.size + 1, 2, none⟩ = some (.bool x2) := HA1.out.cell 2
  go_wp2_with fail
  refine (C_eqStringS_same.out _ _ r1 l1 _ (layStringS.below H1.out HBY.out) (layStringS.below K1.out HBY.out)).mono ?_
  rintro e Y1 ⟨rfl, hb⟩
  replace HA0 := Lib.hid (HA0.out.next hb)
  replace HA1 := Lib.hid (HA1.out.next hb)
  replace HBY := Lib.hid (HBY.out.trans (hb.mono HBY.out.size))
  clear hb a0 b0 a1 b1 a2 b2
  have a0 : Y1.cell? ⟨w.heap.size, 0, none⟩ = some (.int .i64 x0) := HA0.out.cell 0
  have b0 : Y1.cell? ⟨w.heap.size + 1, 0, none⟩ = some (.int .i64 x0) := HA1.out.cell 0
  have a1 : Y1.cell? ⟨w.heap.size, 1, none⟩ = some (v1) := HA0.out.cell 1
  have b1 : Y1.cell? ⟨w.heap.size + 1, 1, none⟩ = some (u1) := HA1.out.cell 1
  have a2 : Y1.cell? ⟨w.heap.size, 2, none⟩ = some (.bool x2) := HA0.out.cell 2
  have b2 : Y1.cell? ⟨w.heap.size + 1, 2, none⟩ = some (.bool x2) := HA1.out.cell 2
  go_wp2_with fail
  go_ret
  exact ⟨rfl, HBY.out⟩

set_option maxRecDepth 100000 in
set_option maxHeartbeats 3200000 in
theorem markOptions_any (x0 : Int) (v1 : Value) (r1 : List ByteArray) (x2 : Bool) (b : Nat) (f1 : List Nat) (l1 : r1.length ≤ 10000000) (k : Int) (hk0 : 1 ≤ k) (hk1 : k ≤ 100000000) (w : World) (hd : (f1).Nodup) (o1 : layStringS.own w b f1 [v1] r1) :
    Calls Tryd.prog 7 #[.agg #[.int .i64 x0, v1, .bool x2], .int .i64 k] w fun e w' => e = .returned (.int .i64 (k + 1 * (r1.length : Int))) ∧ (layStringS.own w' b f1 [v1] (layStringS.mark (k) r1).1) ∧ Chg (f1) w w' := by
  obtain ⟨a1, p1, rfl⟩ := rows_form (layStringS.read o1)
  have O1 := Lib.hid (layStringS.next o1 ((Below.refl _ _).alloc (Nat.le_refl _) (.cells #[.int .i64 x0, .slice a1 r1.length p1, .bool x2] OptionsT)))
  have A0 := Lib.hid (VarA.new w OptionsT #[.int .i64 x0, .slice a1 r1.length p1, .bool x2])
  have G0 := Lib.hid (Below.chg ((Below.refl w.heap.size w).alloc (Nat.le_refl _) (.cells #[.int .i64 x0, .slice a1 r1.length p1, .bool x2] OptionsT)) (f1))
  have LW1 : Hid (∀ a ∈ f1, a < w.heap.size) := fun a ha => (layStringS.blocks o1 a ha).2
  have N1 := Lib.hid hd
  clear hd o1 
  go_enter Tryd.func7, Tryd.ntmps7
  go_upto_region 1 with fail
  generalize w.alloc (.cells #[.int .i64 x0, .slice a1 r1.length p1, .bool x2] OptionsT) = Y0 at *
  have c1 : Y0.cell? ⟨w.heap.size, 1, none⟩ = some (.slice a1 r1.length p1) := A0.out.cell 1
  have K1 := Lib.hid (markStringS_any (.slice a1 r1.length p1) r1 b f1 k (by omega) (by omega) (by omega) Y0 N1.out O1.out)
  go_wp2_with fail
  refine (K1.out).mono ?_
  rintro e Y1 ⟨rfl, om1, hc⟩
  have M1 := Lib.hid om1
  replace A0 : Hid (VarA w.heap.size OptionsT #[.int .i64 x0, .slice a1 r1.length p1, .bool x2] Y1) := ⟨by rw [hc.block _ A0.out.lt (fun e => by have := LW1.out _ e; omega)]; exact A0.out.row⟩
  replace G0 := Lib.hid (G0.out.trans (hc.sub (fun a ha => ha)))
  clear hc om1 c1 K1
  go_wp2_with fail
  go_ret
  have e9 : k + (r1.length : Int) = k + 1 * (r1.length : Int) := by omega
  exact ⟨ret_int e9, M1.out, G0.out⟩

set_option maxRecDepth 100000 in
set_option maxHeartbeats 3200000 in
theorem heldOptions_any (x0 : Int) (v1 : Value) (r1 : List ByteArray) (x2 : Bool) (l1 : r1.length ≤ 10000000) (k : Int) (hk0 : 1 ≤ k) (hk1 : k ≤ 100000000) (w : World) (h1 : layStringS.rd w [v1] (layStringS.mark (k) r1).1) :
    Calls Tryd.prog 8 #[.agg #[.int .i64 x0, v1, .bool x2], .int .i64 k] w fun e w' => e = .returned (.int .i64 (k + 1 * (r1.length : Int))) ∧ Below w.heap.size w w' := by
  have hm1 := mkAll_length layString r1 (k)
  obtain ⟨a1, p1, hv1⟩ := rows_form h1
  rw [show (layStringS.mark (k) r1).1.length = r1.length from hm1] at hv1
  subst hv1
  have H1 := Lib.hid (layStringS.below h1 ((Below.refl _ _).alloc (Nat.le_refl _) (.cells #[.int .i64 x0, .slice a1 r1.length p1, .bool x2] OptionsT)))
  have A0 := Lib.hid (VarA.new w OptionsT #[.int .i64 x0, .slice a1 r1.length p1, .bool x2])
  have BY := Lib.hid ((Below.refl w.heap.size w).alloc (Nat.le_refl _) (.cells #[.int .i64 x0, .slice a1 r1.length p1, .bool x2] OptionsT))
  clear h1 hm1
  go_enter Tryd.func8, Tryd.ntmps8
  go_upto_region 1 with fail
  generalize w.alloc (.cells #[.int .i64 x0, .slice a1 r1.length p1, .bool x2] OptionsT) = Y0 at *
  have c1 : Y0.cell? ⟨w.heap.size, 1, none⟩ = some (.slice a1 r1.length p1) := A0.out.cell 1
  have P1 : ¬ (k + 1 * (r1.length : Int) < 0) := by omega
  have K1 := Lib.hid (heldStringS_any (.slice a1 r1.length p1) r1 k (by omega) (by omega) (by omega) Y0 H1.out)
  go_wp2_with fail
  refine (K1.out).mono ?_
  rintro e Y1 ⟨rfl, hb⟩
  replace A0 := Lib.hid (A0.out.next hb)
  replace BY := Lib.hid (BY.out.trans (hb.mono BY.out.size))
  clear hb c1 K1
  go_wp2_with fail
  go_ret
  have e9 : k + (r1.length : Int) = k + 1 * (r1.length : Int) := by omega
  exact ⟨ret_int e9, BY.out⟩

def FitsOptions (r1 : List ByteArray) : Prop := FitsString r1
end Go.Proofs.YtmgdhlodifkematDoor

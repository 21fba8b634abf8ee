/-
  The library's contracts laid at this translation, in plain words: each is one application.
  What the library's Clone gives.
  The program's contracts on inner packets.
  The test package's functions over inner packets: laid, measured, held against each other.
  The exact laws on InnerOk, InnerText and ReadInner, out of one answer that both give.
  Data that come as arguments, opened by their types: whatever is read of them lies as the lays say; no program is spoken of here.
  An inner packet as argument, opened.
  The exact laws on InnerOk, InnerText and ReadInner, at every argument.
-/
import Derived.Shelf.LaysM
import Derived.Shelf.Strconv.Clone
import Derived.Test.YthiicpbedgcmlaaDoorProg
import Derived.Test.YthiicpbedgcmlaaDoorJ04
import Derived.Test.YthiicpbedgcmlaaDoorJ03
import Derived.Test.YthiicpbedgcmlaaDoorJ06
import Derived.Test.YthiicpbedgcmlaaDoorJ02
import Derived.ChangeSame
import Derived.ChangeMaps
import Derived.Deep.Slices
namespace Go.Proofs
open Go.Shelf
def Tryd.laysM316_ren : Go.Shelf.Ren := ⟨fun | 316 => 39 | n => n, fun | 9 => 9 | 3 => 3 | 4 => 4 | 37 => 22 | 0 => 0 | 127 => 84 | 5 => 5 | n => n, fun | n => n⟩
theorem Tryd.laysM316 : Go.Proofs.LaysM.n316 Tryd.prog Tryd.laysM316_ren := {
  mixed := by kernel_rfl
  f316 := Tryd.func39.trans (congrArg some (by kernel_rfl))
  t0 := Tryd.underlying0
  a0 := Tryd.isAgg0
  z0 := Tryd.sizeOf0
  v0 := Tryd.zeroValue0
  t3 := Tryd.underlying3
  a3 := Tryd.isAgg3
  z3 := Tryd.sizeOf3
  v3 := Tryd.zeroValue3
  t4 := Tryd.underlying4
  a4 := Tryd.isAgg4
  z4 := Tryd.sizeOf4
  v4 := Tryd.zeroValue4
  t9 := Tryd.underlying9
  a9 := Tryd.isAgg9
  z9 := Tryd.sizeOf9
  v9 := Tryd.zeroValue9
  t37 := Tryd.underlying22
  a37 := Tryd.isAgg22
  z37 := Tryd.sizeOf22
  v37 := Tryd.zeroValue22
  t127 := Tryd.underlying84
  a127 := Tryd.isAgg84
  z127 := Tryd.sizeOf84
  v127 := Tryd.zeroValue84
  t5 := Tryd.underlying5
  a5 := Tryd.isAgg5
  z5 := Tryd.sizeOf5
  v5 := Tryd.zeroValue5
  i0 := by kernel_rfl
  i3 := by kernel_rfl
  i4 := by kernel_rfl
  i5 := by kernel_rfl
  i9 := by kernel_rfl
  i37 := by kernel_rfl
  i127 := by kernel_rfl }
open Go.RowKit in
theorem Tryd.stringslite_Clone (s : ByteArray) (w : World) (hlim : s.size ≤ 281474976710656) :
    Calls Tryd.prog 39 #[.string s] w fun e w' => e = .returned (.string s) ∧ Below w.heap.size w w' := Any.stringslite_Clone Tryd.laysM316 s w hlim
end Go.Proofs
namespace Go.Proofs.YthiicpbedgcmlaaDoor
open Go.RowKit

theorem cloneGives : CloneGives := fun s w hs => by
  have H := Lib.hid (fun w => Tryd.stringslite_Clone s w (by omega))
  go_enter Tryd.func24, Tryd.ntmps24
  go_wp2_with fail
  refine (H.out _).mono ?_
  rintro e w1 ⟨rfl, hb1⟩
  go_wp2
  go_ret
  exact ⟨rfl, hb1⟩

end Go.Proofs.YthiicpbedgcmlaaDoor
namespace Go.Proofs.YthiicpbedgcmlaaDoor
open Go.RowKit

theorem innerFns : InnerFns LaidE where
  stays := LaidE.all
  ok := fun a b t c hc _ X hX => implInnerOk_bool a b t c hc X hX
  text := fun a b t s c h _ X hX => implInnerText_any a b t s c h X hX
  read := fun s a b t c h hz X hX => implReadInner_any cloneGives s a b t c hz h X hX

end Go.Proofs.YthiicpbedgcmlaaDoor
namespace Go.Proofs.YthiicpbedgcmlaaDoor
open Go.RowKit

abbrev LInT : TypeId := 33

/-- While an inner packet is laid: the argument, the result, the copy. -/
structure TIn (w : World) (bs cs : Array Value) (X : World) : Prop where
  box : VarA w.heap.size LInT bs X
  res : VarA (w.heap.size + 1) InnerT #[.int .i64 0, .int .i64 0, .string ⟨#[]⟩] X
  var : VarA (w.heap.size + 2) InnerT cs X
  below : Below w.heap.size w X
theorem TIn.set {w : World} {bs cs : Array Value} {X : World} (h : TIn w bs cs X) (j : Nat) (u : Value) : TIn w bs (cs.setIfInBounds j u) (X.setCell ⟨w.heap.size + 2, j, none⟩ u) := by
  have ho : Only (w.heap.size + 2) X (X.setCell ⟨w.heap.size + 2, j, none⟩ u) := Only.setCell j u
  exact ⟨h.box.only ho (by omega), h.res.only ho (by omega), h.var.set j u, h.below.trans (ho.below (by omega) h.below.size)⟩

set_option maxRecDepth 100000 in
set_option maxHeartbeats 800000 in
theorem eqInner_same (a b : Int) (t : ByteArray) (w : World) :
    Calls Tryd.prog 18 #[.agg #[.int .i64 a, .int .i64 b, .string t], .agg #[.int .i64 a, .int .i64 b, .string t]] w fun e w' => e = .returned (.bool true) ∧ Below w.heap.size w w' := by
  have e1 : (w.alloc (.cells #[.int .i64 a, .int .i64 b, .string t] InnerT)).heap.size = w.heap.size + 1 := by simp
  have A1 := VarA.new (w.alloc (.cells #[.int .i64 a, .int .i64 b, .string t] InnerT)) InnerT #[.int .i64 a, .int .i64 b, .string t]
  rw [e1] at A1
  have A0 := (VarA.new w InnerT #[.int .i64 a, .int .i64 b, .string t]).alloc (.cells #[.int .i64 a, .int .i64 b, .string t] InnerT)
  have B0 := Lib.hid (((Below.refl w.heap.size w).alloc (Nat.le_refl _) (.cells #[.int .i64 a, .int .i64 b, .string t] InnerT)).alloc (by simp) (.cells #[.int .i64 a, .int .i64 b, .string t] InnerT))
  clear e1
  go_enter Tryd.func18, Tryd.ntmps18
  go_upto_region 1 with fail
  generalize (w.alloc (.cells #[.int .i64 a, .int .i64 b, .string t] InnerT)).alloc (.cells #[.int .i64 a, .int .i64 b, .string t] InnerT) = Y at *
  have c0 : Y.cell? ⟨w.heap.size, 0, none⟩ = some (.int .i64 a) := A0.cell 0
  have d0 : Y.cell? ⟨w.heap.size + 1, 0, none⟩ = some (.int .i64 a) := A1.cell 0
  have c1 : Y.cell? ⟨w.heap.size, 1, none⟩ = some (.int .i64 b) := A0.cell 1
  have d1 : Y.cell? ⟨w.heap.size + 1, 1, none⟩ = some (.int .i64 b) := A1.cell 1
  have c2 : Y.cell? ⟨w.heap.size, 2, none⟩ = some (.string t) := A0.cell 2
  have d2 : Y.cell? ⟨w.heap.size + 1, 2, none⟩ = some (.string t) := A1.cell 2
  go_wp2_with fail
  go_ret
  exact ⟨rfl, B0.out⟩

end Go.Proofs.YthiicpbedgcmlaaDoor
namespace Go.Proofs.YthiicpbedgcmlaaDoor
open Go.RowKit

set_option maxRecDepth 100000 in
set_option maxHeartbeats 1600000 in
theorem lawReadInnerF {L : World → Prop} (s : ByteArray) (a b : Int) (t : ByteArray) (ok : Bool)
    (hI : s.size ≤ 1048576 → ∀ X : World, L X → Calls Tryd.prog 10 #[.string s] X (ReadEnd a b t ok X))
    (hS : s.size ≤ 1048576 → ∀ X : World, Calls Tryd.prog 12 #[.string s] X (ReadEnd a b t ok X)) (w : World) (stays : ∀ X : World, Below w.heap.size w X → L X) :
    Calls Tryd.prog 6 #[.string s] w fun e w' => e = .returned (.bool true) ∧ Below w.heap.size w w' := by
  have hbb : (ok != ok) = false := by cases ok <;> rfl
  go_enter Tryd.func6, Tryd.ntmps6
  by_cases hs : s.size ≤ 1048576
  rotate_left
  · have hs' : (1048576 : Int) < (s.size : Int) := by omega
    go_wp2_with fail
    go_ret
    exact ⟨rfl, Below.refl _ _⟩
  have hs' : ¬ ((1048576 : Int) < (s.size : Int)) := by omega
  have LL := Lib.hid stays
  have HI := Lib.hid (hI hs)
  have HS := Lib.hid (hS hs)
  clear hI hS hs
  go_wp2_with fail
  refine (HS.out w).mono ?_
  rintro e Y1 ⟨rfl, hb⟩
  have A0 := Lib.hid (VarA.new Y1 InnerT #[.int .i64 a, .int .i64 b, .string t])
  have B0 := Lib.hid (hb.alloc hb.size (.cells #[.int .i64 a, .int .i64 b, .string t] InnerT))
  clear hb
  go_upto_region 4 with fail
  generalize Y1.alloc (.cells #[.int .i64 a, .int .i64 b, .string t] InnerT) = Y2 at *
  generalize Y1.heap.size = g at *
  go_wp2_with fail
  refine (HI.out Y2 (LL.out _ B0.out)).mono ?_
  rintro e Y3 ⟨rfl, hb⟩
  replace A0 := Lib.hid ((A0.out.next hb).alloc (.cells #[.int .i64 a, .int .i64 b, .string t] InnerT))
  replace B0 := Lib.hid (B0.out.trans (hb.mono B0.out.size))
  replace B0 := Lib.hid (B0.out.alloc B0.out.size (.cells #[.int .i64 a, .int .i64 b, .string t] InnerT))
  have D0 := Lib.hid (VarA.new Y3 InnerT #[.int .i64 a, .int .i64 b, .string t])
  clear hb
  go_upto_region 5 with fail
  generalize Y3.alloc (.cells #[.int .i64 a, .int .i64 b, .string t] InnerT) = Y4 at *
  generalize Y3.heap.size = h at *
  have c0 : Y4.cell? ⟨g, 0, none⟩ = some (.int .i64 a) := A0.out.cell 0
  have d0 : Y4.cell? ⟨h, 0, none⟩ = some (.int .i64 a) := D0.out.cell 0
  have c1 : Y4.cell? ⟨g, 1, none⟩ = some (.int .i64 b) := A0.out.cell 1
  have d1 : Y4.cell? ⟨h, 1, none⟩ = some (.int .i64 b) := D0.out.cell 1
  have c2 : Y4.cell? ⟨g, 2, none⟩ = some (.string t) := A0.out.cell 2
  have d2 : Y4.cell? ⟨h, 2, none⟩ = some (.string t) := D0.out.cell 2
  go_wp2_with fail
  refine (eqInner_same a b t Y4).mono ?_
  rintro e Y5 ⟨rfl, hb⟩
  have B1 := Lib.hid (B0.out.trans (hb.mono B0.out.size))
  clear hb
  go_wp2_with fail
  go_ret
  exact ⟨rfl, B1.out⟩

end Go.Proofs.YthiicpbedgcmlaaDoor
namespace Go.Proofs.YthiicpbedgcmlaaDoor
open Go.ChangeShapes Go.WideShapes Go.RowKit

section
variable {H : Type} (enc : TypeId × Value → H) (P : Program) (W : World)

/-- What is read at type t lies as A says, and G holds of it. -/
def Opens {α : Type} (A : Lay α) (t : TypeId) (G : α → Prop) : Prop := ∀ fuel cs d, DataW.trod enc P W 0 (fun _ => true) true fuel t cs = some d → ∃ x, A.rd W cs x ∧ G x
/-- The same of fields from a place on. -/
def OpensF {α : Type} (off : Nat) (fs : List Field) (A : Lay α) (G : α → Prop) : Prop :=
  ∀ cs : List Value, cs.length = off + A.k → (∀ f ∈ fs, ∃ n d, DataW.trod enc P W 0 (fun _ => true) true n f.type ((cs.drop f.offset).take (P.cellsOf f.type)) = some d) → ∃ x, A.rd W (cs.drop off) x ∧ G x

variable {enc P W}

theorem Opens.int {t : TypeId} (ht : P.underlying t = some (.int .i64)) : Opens enc P W Lay.int t (fun x => (Lit.int .i64 x).wf = true) := by
  intro fuel cs d h
  obtain ⟨a, e0, _, hw⟩ := DataW.trod_int ht h
  exact ⟨a, e0, hw⟩

theorem Opens.bool {t : TypeId} (ht : P.underlying t = some .bool) : Opens enc P W Lay.bool t (fun _ => True) := by
  intro fuel cs d h
  obtain ⟨a, e0, _⟩ := DataW.trod_bool ht h
  exact ⟨a, e0, trivial⟩

theorem OpensF.cons {α β : Type} {A : Lay α} {B : Lay β} {G : α → Prop} {K : β → Prop} {off : Nat} {f : Field} {fs : List Field} (ho : f.offset = off) (hk : P.cellsOf f.type = A.k) (h : Opens enc P W A f.type G) (hr : OpensF enc P W (off + A.k) fs B K) :
    OpensF enc P W off (f :: fs) (Lay.pair A B) (fun x => G x.1 ∧ K x.2) := by
  intro cs hl hf
  have hl' : cs.length = off + (A.k + B.k) := hl
  obtain ⟨n, d, hd⟩ := hf f List.mem_cons_self
  rw [ho, hk] at hd
  obtain ⟨x, hx, gx⟩ := h n _ d hd
  obtain ⟨y, hy, gy⟩ := hr cs (by omega) (fun f' hf' => hf f' (List.mem_cons_of_mem _ hf'))
  refine ⟨(x, y), ⟨_, _, ?_, hx, hy⟩, gx, gy⟩
  rw [← List.drop_drop, List.take_append_drop]
theorem Opens.struct {α : Type} {A : Lay α} {G : α → Prop} {t : TypeId} {fs : Array Field} (ht : P.underlying t = some (.struct fs)) (hk : P.cellsOf t = A.k) (h : OpensF enc P W 0 fs.toList A G) : Opens enc P W A t G := by
  intro fuel cs d hd
  obtain ⟨xs, n, _, _, hl, hlen, hp⟩ := DataW.trod_struct ht hd
  obtain ⟨x, hx, gx⟩ := h cs (by omega) (fun f hf => by
    obtain ⟨j, hj, e⟩ := List.getElem_of_mem hf
    have hj' : j < fs.size := by simpa using hj
    have := hp j f (by rw [Array.getElem?_eq_getElem hj']; simp at e; rw [e])
    exact ⟨n, xs[j]'(by omega), by rw [this, List.getElem?_eq_getElem (by omega)]⟩)
  exact ⟨x, by simpa using hx, gx⟩

/-- A struct as an argument. -/
theorem Opens.agg {α : Type} {A : Lay α} {G : α → Prop} {t : TypeId} {fs : Array Field} {r : Reach} {base : Nat} {v : Value} {d : DataW H} {p : List MemPlace} (h : Opens enc P W A t G) (ht : P.underlying t = some (.struct fs)) (hok : Value.okWide P W r base t v)
    (hd : DataW.Trod enc P W 0 (fun _ => true) true t v d p) : ∃ cs x, v = .agg cs.toArray ∧ A.rd W cs x ∧ G x := by
  obtain ⟨cs, rfl, _⟩ := okWide_struct ht hok
  obtain ⟨fuel, hf⟩ := hd
  obtain ⟨x, hx, hg⟩ := h fuel _ _ hf
  exact ⟨cs.toList, x, by simp, by simpa [Value.cells] using hx, hg⟩
/-- A slice as an argument. -/
theorem Opens.slice {α : Type} {A : Lay α} {G : α → Prop} {t e : TypeId} {r : Reach} {base : Nat} {v : Value} {d : DataW H} {p : List MemPlace} (h : Opens enc P W A t G) (ht : P.underlying t = some (.slice e)) (hok : Value.okWide P W r base t v)
    (hd : DataW.Trod enc P W 0 (fun _ => true) true t v d p) : ∃ x, A.rd W [v] x ∧ G x := by
  obtain ⟨a0, len0, cap0, rfl⟩ := okWide_slice ht hok
  obtain ⟨fuel, hf⟩ := hd
  obtain ⟨x, hx, hg⟩ := h fuel _ _ hf
  exact ⟨x, by simpa [Value.cells] using hx, hg⟩

end
end Go.Proofs.YthiicpbedgcmlaaDoor
namespace Go.Proofs.YthiicpbedgcmlaaDoor
open Go.ChangeShapes Go.WideShapes Go.RowKit

end Go.Proofs.YthiicpbedgcmlaaDoor
namespace Go.Proofs.YthiicpbedgcmlaaDoor
open Go.RowKit

theorem lawReadInner (s : ByteArray) (w : World) (hL : LaidE w) :
    Calls Tryd.prog 6 #[.string s] w fun e w' => e = .returned (.bool true) ∧ Below w.heap.size w w' := by
  obtain ⟨a, b, t, c, hc⟩ := readInner_is s
  exact lawReadInnerF (L := LaidE) s a b t c (fun h X hX => innerFns.read s a b t c hc h X hX) (fun h X => specReadInner_any s a b t c (by omega) hc X) w (fun X hb => LaidE.all w X hL hb)

end Go.Proofs.YthiicpbedgcmlaaDoor

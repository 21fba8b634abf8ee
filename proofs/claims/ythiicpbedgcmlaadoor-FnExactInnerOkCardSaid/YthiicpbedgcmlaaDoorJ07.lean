/-
  The library's contracts laid at this translation, in plain words: each is one application.
  What the library's Clone gives.
  The program's contracts on inner packets.
  The test package's functions over inner packets: laid, measured, held against each other.
  The exact laws on InnerOk, InnerText and ReadInner, out of one answer that both give.
  Data that come as arguments, opened by their types: whatever is read of them lies as the lays say; no program is spoken of here.
-/
import Derived.Shelf.LaysM
import Derived.Shelf.Strconv.Clone
import Derived.Test.YthiicpbedgcmlaaDoorProg
import Derived.Test.YthiicpbedgcmlaaDoorJ04
import Derived.Test.YthiicpbedgcmlaaDoorJ02
import Derived.Test.YthiicpbedgcmlaaDoorJ06
import Derived.ChangeSame
import Derived.ChangeMaps
import Derived.Deep.Slices
namespace Go.Proofs
open Go.Shelf
def Tryd.laysM316_ren : Go.Shelf.Ren := ⟨fun | 316 => 39 | n => n, fun | 9 => 9 | 3 => 3 | 4 => 4 | 37 => 22 | 0 => 0 | 127 => 84 | 5 => 5 | n => n, fun | n => n⟩
theorem Tryd.laysM316 : Go.Proofs.LaysM.n316 Tryd.prog Tryd.laysM316_ren := {
  mixed := by kernel_rfl
  f316 := Tryd.func39.trans (congrArg some (by kernel_rfl))
  t0 := Tryd.underlying0
  a0 := Tryd.isAgg0
  z0 := Tryd.sizeOf0
  v0 := Tryd.zeroValue0
  t3 := Tryd.underlying3
  a3 := Tryd.isAgg3
  z3 := Tryd.sizeOf3
  v3 := Tryd.zeroValue3
  t4 := Tryd.underlying4
  a4 := Tryd.isAgg4
  z4 := Tryd.sizeOf4
  v4 := Tryd.zeroValue4
  t9 := Tryd.underlying9
  a9 := Tryd.isAgg9
  z9 := Tryd.sizeOf9
  v9 := Tryd.zeroValue9
  t37 := Tryd.underlying22
  a37 := Tryd.isAgg22
  z37 := Tryd.sizeOf22
  v37 := Tryd.zeroValue22
  t127 := Tryd.underlying84
  a127 := Tryd.isAgg84
  z127 := Tryd.sizeOf84
  v127 := Tryd.zeroValue84
  t5 := Tryd.underlying5
  a5 := Tryd.isAgg5
  z5 := Tryd.sizeOf5
  v5 := Tryd.zeroValue5
  i0 := by kernel_rfl
  i3 := by kernel_rfl
  i4 := by kernel_rfl
  i5 := by kernel_rfl
  i9 := by kernel_rfl
  i37 := by kernel_rfl
  i127 := by kernel_rfl }
open Go.RowKit in
theorem Tryd.stringslite_Clone (s : ByteArray) (w : World) (hlim : s.size ≤ 281474976710656) :
    Calls Tryd.prog 39 #[.string s] w fun e w' => e = .returned (.string s) ∧ Below w.heap.size w w' := Any.stringslite_Clone Tryd.laysM316 s w hlim
end Go.Proofs
namespace Go.Proofs.YthiicpbedgcmlaaDoor
open Go.RowKit

theorem cloneGives : CloneGives := fun s w hs => by
  have H := Lib.hid (fun w => Tryd.stringslite_Clone s w (by omega))
  go_enter Tryd.func24, Tryd.ntmps24
  go_wp2_with fail
  refine (H.out _).mono ?_
  rintro e w1 ⟨rfl, hb1⟩
  go_wp2
  go_ret
  exact ⟨rfl, hb1⟩

end Go.Proofs.YthiicpbedgcmlaaDoor
namespace Go.Proofs.YthiicpbedgcmlaaDoor
open Go.RowKit

theorem innerFns : InnerFns LaidE where
  stays := LaidE.all
  ok := fun a b t c hc _ X hX => implInnerOk_bool a b t c hc X hX
  text := fun a b t s c h _ X hX => implInnerText_any a b t s c h X hX
  read := fun s a b t c h hz X hX => implReadInner_any cloneGives s a b t c hz h X hX

end Go.Proofs.YthiicpbedgcmlaaDoor
namespace Go.Proofs.YthiicpbedgcmlaaDoor
open Go.RowKit

abbrev LInT : TypeId := 33

/-- While an inner packet is laid: the argument, the result, the copy. -/
structure TIn (w : World) (bs cs : Array Value) (X : World) : Prop where
  box : VarA w.heap.size LInT bs X
  res : VarA (w.heap.size + 1) InnerT #[.int .i64 0, .int .i64 0, .string ⟨#[]⟩] X
  var : VarA (w.heap.size + 2) InnerT cs X
  below : Below w.heap.size w X
theorem TIn.set {w : World} {bs cs : Array Value} {X : World} (h : TIn w bs cs X) (j : Nat) (u : Value) : TIn w bs (cs.setIfInBounds j u) (X.setCell ⟨w.heap.size + 2, j, none⟩ u) := by
  have ho : Only (w.heap.size + 2) X (X.setCell ⟨w.heap.size + 2, j, none⟩ u) := Only.setCell j u
  exact ⟨h.box.only ho (by omega), h.res.only ho (by omega), h.var.set j u, h.below.trans (ho.below (by omega) h.below.size)⟩

set_option maxRecDepth 100000 in
set_option maxHeartbeats 1600000 in
theorem toInner_any (a b : Int) (t : ByteArray) (w : World) :
    Calls Tryd.prog 16 #[.agg #[.int .i64 a, .int .i64 b, .string t]] w fun e w' => e = .returned (.agg #[.int .i64 a, .int .i64 b, .string t]) ∧ Below w.heap.size w w' := by
  obtain ⟨Q, HQ⟩ : ∃ Q : Ending → World → Prop, Hid (Q = fun e w' => e = .returned (.agg #[.int .i64 a, .int .i64 b, .string t]) ∧ Below w.heap.size w w') := ⟨_, Lib.hid rfl⟩
  rw [← HQ.out]
  have T0 : Hid (TIn w #[.int .i64 a, .int .i64 b, .string t] #[.int .i64 0, .int .i64 0, .string ⟨#[]⟩] (((w.alloc (.cells #[.int .i64 a, .int .i64 b, .string t] LInT)).alloc (.cells #[.int .i64 0, .int .i64 0, .string ⟨#[]⟩] InnerT)).alloc (.cells #[.int .i64 0, .int .i64 0, .string ⟨#[]⟩] InnerT))) := by
    have e1 : (w.alloc (.cells #[.int .i64 a, .int .i64 b, .string t] LInT)).heap.size = w.heap.size + 1 := by simp
    have e2 : ((w.alloc (.cells #[.int .i64 a, .int .i64 b, .string t] LInT)).alloc (.cells #[.int .i64 0, .int .i64 0, .string ⟨#[]⟩] InnerT)).heap.size = w.heap.size + 2 := by simp
    have A1 := VarA.new (w.alloc (.cells #[.int .i64 a, .int .i64 b, .string t] LInT)) InnerT #[.int .i64 0, .int .i64 0, .string ⟨#[]⟩]
    have A2 := VarA.new ((w.alloc (.cells #[.int .i64 a, .int .i64 b, .string t] LInT)).alloc (.cells #[.int .i64 0, .int .i64 0, .string ⟨#[]⟩] InnerT)) InnerT #[.int .i64 0, .int .i64 0, .string ⟨#[]⟩]
    rw [e1] at A1
    rw [e2] at A2
    exact ⟨((VarA.new w LInT #[.int .i64 a, .int .i64 b, .string t]).alloc _).alloc _, A1.alloc _, A2, (((Below.refl w.heap.size w).alloc (Nat.le_refl _) _).alloc (by simp) _).alloc (by simp; omega) _⟩
  go_enter Tryd.func16, Tryd.ntmps16
  go_upto_region 2 with fail
  generalize ((w.alloc (.cells #[.int .i64 a, .int .i64 b, .string t] LInT)).alloc (.cells #[.int .i64 0, .int .i64 0, .string ⟨#[]⟩] InnerT)).alloc (.cells #[.int .i64 0, .int .i64 0, .string ⟨#[]⟩] InnerT) = X0 at *
  have b0 : X0.cell? ⟨w.heap.size, 0, none⟩ = some (.int .i64 a) := T0.out.box.cell 0
  have d0 : X0.cell? ⟨w.heap.size + 2, 0, none⟩ = some (.int .i64 0) := T0.out.var.cell 0
  have f0 := T0.out.var.free 0
  have T1 : Hid (TIn w #[.int .i64 a, .int .i64 b, .string t] #[.int .i64 a, .int .i64 0, .string ⟨#[]⟩] (X0.setCell ⟨w.heap.size + 2, 0, none⟩ (.int .i64 a))) := T0.out.set 0 (.int .i64 a)
  clear T0
  go_upto_region 3 with fail
  generalize X0.setCell ⟨w.heap.size + 2, 0, none⟩ (.int .i64 a) = X1 at *
  clear b0 d0 f0
  have b1 : X1.cell? ⟨w.heap.size, 1, none⟩ = some (.int .i64 b) := T1.out.box.cell 1
  have d1 : X1.cell? ⟨w.heap.size + 2, 1, none⟩ = some (.int .i64 0) := T1.out.var.cell 1
  have f1 := T1.out.var.free 1
  have T2 : Hid (TIn w #[.int .i64 a, .int .i64 b, .string t] #[.int .i64 a, .int .i64 b, .string ⟨#[]⟩] (X1.setCell ⟨w.heap.size + 2, 1, none⟩ (.int .i64 b))) := T1.out.set 1 (.int .i64 b)
  clear T1
  go_upto_region 4 with fail
  generalize X1.setCell ⟨w.heap.size + 2, 1, none⟩ (.int .i64 b) = X2 at *
  clear b1 d1 f1
  have b2 : X2.cell? ⟨w.heap.size, 2, none⟩ = some (.string t) := T2.out.box.cell 2
  have d2 : X2.cell? ⟨w.heap.size + 2, 2, none⟩ = some (.string ⟨#[]⟩) := T2.out.var.cell 2
  have f2 := T2.out.var.free 2
  have T3 : Hid (TIn w #[.int .i64 a, .int .i64 b, .string t] #[.int .i64 a, .int .i64 b, .string t] (X2.setCell ⟨w.heap.size + 2, 2, none⟩ (.string t))) := T2.out.set 2 (.string t)
  clear T2
  go_upto_region 5 with fail
  generalize X2.setCell ⟨w.heap.size + 2, 2, none⟩ (.string t) = X3 at *
  clear b2 d2 f2
  have c0 : X3.cell? ⟨w.heap.size + 2, 0, none⟩ = some (.int .i64 a) := T3.out.var.cell 0
  have d0 : X3.cell? ⟨w.heap.size + 1, 0, none⟩ = some (.int .i64 0) := T3.out.res.cell 0
  have f0 := T3.out.res.free 0
  have c1 : X3.cell? ⟨w.heap.size + 2, 1, none⟩ = some (.int .i64 b) := T3.out.var.cell 1
  have d1 : X3.cell? ⟨w.heap.size + 1, 1, none⟩ = some (.int .i64 0) := T3.out.res.cell 1
  have f1 := T3.out.res.free 1
  have c2 : X3.cell? ⟨w.heap.size + 2, 2, none⟩ = some (.string t) := T3.out.var.cell 2
  have d2 : X3.cell? ⟨w.heap.size + 1, 2, none⟩ = some (.string ⟨#[]⟩) := T3.out.res.cell 2
  have f2 := T3.out.res.free 2
  have r0 := (((T3.out.res.set 0 (.int .i64 a)).set 1 (.int .i64 b)).set 2 (.string t)).cell 0
  have r1 := (((T3.out.res.set 0 (.int .i64 a)).set 1 (.int .i64 b)).set 2 (.string t)).cell 1
  have r2 := (((T3.out.res.set 0 (.int .i64 a)).set 1 (.int .i64 b)).set 2 (.string t)).cell 2
  have E : Hid (Q (.returned (.agg #[.int .i64 a, .int .i64 b, .string t])) (((X3.setCell ⟨w.heap.size + 1, 0, none⟩ (.int .i64 a)).setCell ⟨w.heap.size + 1, 1, none⟩ (.int .i64 b)).setCell ⟨w.heap.size + 1, 2, none⟩ (.string t))) := Lib.hid (by
    rw [HQ.out]
    exact ⟨rfl, ((T3.out.below.setCell (p := ⟨w.heap.size + 1, 0, none⟩) (by show w.heap.size ≤ w.heap.size + 1; omega) _).setCell (p := ⟨w.heap.size + 1, 1, none⟩) (by show w.heap.size ≤ w.heap.size + 1; omega) _).setCell (p := ⟨w.heap.size + 1, 2, none⟩) (by show w.heap.size ≤ w.heap.size + 1; omega) _⟩)
  clear T3
  go_wp2_with fail
  exact bodyPost_ret (v := .agg #[.int .i64 a, .int .i64 b, .string t]) (by simp [results, Tryd.results16, go_sem, r0, r1, r2]) rfl E.out

set_option maxRecDepth 100000 in
set_option maxHeartbeats 800000 in
theorem szInner_any (a b : Int) (t : ByteArray) (hz : t.size ≤ 9223372036854775807) (w : World) :
    Calls Tryd.prog 15 #[.agg #[.int .i64 a, .int .i64 b, .string t], .int .i64 1048576] w fun e w' => (∃ z : Int, e = .returned (.int .i64 z) ∧ (z = -1 ∨ (0 ≤ z ∧ t.size ≤ 1048576))) ∧ Below w.heap.size w w' := by
  have A0 := Lib.hid (VarA.new w LInT #[.int .i64 a, .int .i64 b, .string t])
  have B0 := Lib.hid ((Below.refl w.heap.size w).alloc (Nat.le_refl _) (.cells #[.int .i64 a, .int .i64 b, .string t] LInT))
  have hw : IntKind.i64.wrap (1048576 - (t.size : Int)) = 1048576 - (t.size : Int) := by rw [IntKind.wrap_i64]; omega
  go_enter Tryd.func15, Tryd.ntmps15
  go_upto_region 1 with fail
  generalize w.alloc (.cells #[.int .i64 a, .int .i64 b, .string t] LInT) = Y at *
  have c2 : Y.cell? ⟨w.heap.size, 2, none⟩ = some (.string t) := A0.out.cell 2
  by_cases h : t.size ≤ 1048576
  · have h1 : ¬ (1048576 - (t.size : Int) < 0) := by omega
    go_wp2_with fail
    go_ret
    exact ⟨⟨1048576 - (t.size : Int), rfl, Or.inr (by omega)⟩, B0.out⟩
  · have h1 : 1048576 - (t.size : Int) < 0 := by omega
    go_wp2_with fail
    go_ret
    exact ⟨⟨-1, rfl, .inl rfl⟩, B0.out⟩

end Go.Proofs.YthiicpbedgcmlaaDoor
namespace Go.Proofs.YthiicpbedgcmlaaDoor
open Go.RowKit

set_option maxRecDepth 100000 in
set_option maxHeartbeats 1600000 in
theorem lawInnerOkF {L : World → Prop} (a b : Int) (t : ByteArray) (ok : Bool) (hz : t.size ≤ 9223372036854775807)
    (hI : t.size ≤ 1048576 → ∀ X : World, L X → Calls Tryd.prog 14 #[.agg #[.int .i64 a, .int .i64 b, .string t]] X fun e Y => e = .returned (.bool ok) ∧ Below X.heap.size X Y)
    (hS : t.size ≤ 1048576 → ∀ X : World, Calls Tryd.prog 13 #[.agg #[.int .i64 a, .int .i64 b, .string t]] X fun e Y => e = .returned (.bool ok) ∧ Below X.heap.size X Y) (w : World) (stays : ∀ X : World, Below w.heap.size w X → L X) :
    Calls Tryd.prog 4 #[.agg #[.int .i64 a, .int .i64 b, .string t]] w fun e w' => e = .returned (.bool true) ∧ Below w.heap.size w w' := by
  have HI0 := Lib.hid hI
  have LL := Lib.hid stays
  have HS0 := Lib.hid hS
  have A0 := Lib.hid (VarA.new w LInT #[.int .i64 a, .int .i64 b, .string t])
  have B0 := Lib.hid ((Below.refl w.heap.size w).alloc (Nat.le_refl _) (.cells #[.int .i64 a, .int .i64 b, .string t] LInT))
  have hbb : (ok != ok) = false := by cases ok <;> rfl
  clear hI hS
  go_enter Tryd.func4, Tryd.ntmps4
  go_upto_region 1 with fail
  generalize w.alloc (.cells #[.int .i64 a, .int .i64 b, .string t] LInT) = Y0 at *
  have c0 : Y0.cell? ⟨w.heap.size, 0, none⟩ = some (.int .i64 a) := A0.out.cell 0
  have c1 : Y0.cell? ⟨w.heap.size, 1, none⟩ = some (.int .i64 b) := A0.out.cell 1
  have c2 : Y0.cell? ⟨w.heap.size, 2, none⟩ = some (.string t) := A0.out.cell 2
  go_wp2_with fail
  refine (szInner_any a b t hz Y0).mono ?_
  rintro e Y1 ⟨⟨z, rfl, hzz⟩, hb⟩
  replace A0 := Lib.hid (A0.out.next hb)
  replace B0 := Lib.hid (B0.out.trans (hb.mono B0.out.size))
  clear hb c0 c1 c2
  rcases hzz with rfl | ⟨hz0, hfit⟩
  · go_wp2_with fail
    go_ret
    exact ⟨rfl, B0.out⟩
  have hz2 : ¬ (z < 0) := by omega
  have HI := Lib.hid (HI0.out hfit)
  have HS := Lib.hid (HS0.out hfit)
  clear HI0 HS0 hfit hz0
  have c0 : Y1.cell? ⟨w.heap.size, 0, none⟩ = some (.int .i64 a) := A0.out.cell 0
  have c1 : Y1.cell? ⟨w.heap.size, 1, none⟩ = some (.int .i64 b) := A0.out.cell 1
  have c2 : Y1.cell? ⟨w.heap.size, 2, none⟩ = some (.string t) := A0.out.cell 2
  go_wp2_with fail
  refine (toInner_any a b t Y1).mono ?_
  rintro e Y2 ⟨rfl, hb⟩
  replace A0 := Lib.hid (A0.out.next hb)
  replace B0 := Lib.hid (B0.out.trans (hb.mono B0.out.size))
  clear hb c0 c1 c2
  go_wp2_with fail
  refine (HS.out Y2).mono ?_
  rintro e Y3 ⟨rfl, hb⟩
  replace A0 := Lib.hid (A0.out.next hb)
  replace B0 := Lib.hid (B0.out.trans (hb.mono B0.out.size))
  clear hb
  have c0 : Y3.cell? ⟨w.heap.size, 0, none⟩ = some (.int .i64 a) := A0.out.cell 0
  have c1 : Y3.cell? ⟨w.heap.size, 1, none⟩ = some (.int .i64 b) := A0.out.cell 1
  have c2 : Y3.cell? ⟨w.heap.size, 2, none⟩ = some (.string t) := A0.out.cell 2
  go_wp2_with fail
  refine (toInner_any a b t Y3).mono ?_
  rintro e Y4 ⟨rfl, hb⟩
  replace A0 := Lib.hid (A0.out.next hb)
  replace B0 := Lib.hid (B0.out.trans (hb.mono B0.out.size))
  clear hb c0 c1 c2
  go_wp2_with fail
  refine (HI.out Y4 (LL.out _ B0.out)).mono ?_
  rintro e Y5 ⟨rfl, hb⟩
  replace A0 := Lib.hid (A0.out.next hb)
  replace B0 := Lib.hid (B0.out.trans (hb.mono B0.out.size))
  clear hb
  go_wp2_with fail
  go_ret
  exact ⟨rfl, B0.out⟩

end Go.Proofs.YthiicpbedgcmlaaDoor
namespace Go.Proofs.YthiicpbedgcmlaaDoor
open Go.ChangeShapes Go.WideShapes Go.RowKit

section
variable {H : Type} (enc : TypeId × Value → H) (P : Program) (W : World)

/-- What is read at type t lies as A says, and G holds of it. -/
def Opens {α : Type} (A : Lay α) (t : TypeId) (G : α → Prop) : Prop := ∀ fuel cs d, DataW.trod enc P W 0 (fun _ => true) true fuel t cs = some d → ∃ x, A.rd W cs x ∧ G x
/-- The same of fields from a place on. -/
def OpensF {α : Type} (off : Nat) (fs : List Field) (A : Lay α) (G : α → Prop) : Prop :=
  ∀ cs : List Value, cs.length = off + A.k → (∀ f ∈ fs, ∃ n d, DataW.trod enc P W 0 (fun _ => true) true n f.type ((cs.drop f.offset).take (P.cellsOf f.type)) = some d) → ∃ x, A.rd W (cs.drop off) x ∧ G x

variable {enc P W}

theorem Opens.int {t : TypeId} (ht : P.underlying t = some (.int .i64)) : Opens enc P W Lay.int t (fun x => (Lit.int .i64 x).wf = true) := by
  intro fuel cs d h
  obtain ⟨a, e0, _, hw⟩ := DataW.trod_int ht h
  exact ⟨a, e0, hw⟩

theorem Opens.str {t : TypeId} (ht : P.underlying t = some .string) : Opens enc P W Lay.str t (fun x => x.size ≤ maxLen) := by
  intro fuel cs d h
  obtain ⟨a, e0, _, hw⟩ := DataW.trod_string ht h
  exact ⟨a, e0, hw⟩
theorem Opens.bool {t : TypeId} (ht : P.underlying t = some .bool) : Opens enc P W Lay.bool t (fun _ => True) := by
  intro fuel cs d h
  obtain ⟨a, e0, _⟩ := DataW.trod_bool ht h
  exact ⟨a, e0, trivial⟩

theorem OpensF.last {α : Type} {A : Lay α} {G : α → Prop} {off : Nat} {f : Field} (ho : f.offset = off) (hk : P.cellsOf f.type = A.k) (h : Opens enc P W A f.type G) : OpensF enc P W off [f] A G := by
  intro cs hl hf
  obtain ⟨n, d, hd⟩ := hf f List.mem_cons_self
  rw [ho, hk, List.take_of_length_le (by rw [List.length_drop]; omega)] at hd
  exact h n _ d hd
theorem OpensF.cons {α β : Type} {A : Lay α} {B : Lay β} {G : α → Prop} {K : β → Prop} {off : Nat} {f : Field} {fs : List Field} (ho : f.offset = off) (hk : P.cellsOf f.type = A.k) (h : Opens enc P W A f.type G) (hr : OpensF enc P W (off + A.k) fs B K) :
    OpensF enc P W off (f :: fs) (Lay.pair A B) (fun x => G x.1 ∧ K x.2) := by
  intro cs hl hf
  have hl' : cs.length = off + (A.k + B.k) := hl
  obtain ⟨n, d, hd⟩ := hf f List.mem_cons_self
  rw [ho, hk] at hd
  obtain ⟨x, hx, gx⟩ := h n _ d hd
  obtain ⟨y, hy, gy⟩ := hr cs (by omega) (fun f' hf' => hf f' (List.mem_cons_of_mem _ hf'))
  refine ⟨(x, y), ⟨_, _, ?_, hx, hy⟩, gx, gy⟩
  rw [← List.drop_drop, List.take_append_drop]
theorem Opens.struct {α : Type} {A : Lay α} {G : α → Prop} {t : TypeId} {fs : Array Field} (ht : P.underlying t = some (.struct fs)) (hk : P.cellsOf t = A.k) (h : OpensF enc P W 0 fs.toList A G) : Opens enc P W A t G := by
  intro fuel cs d hd
  obtain ⟨xs, n, _, _, hl, hlen, hp⟩ := DataW.trod_struct ht hd
  obtain ⟨x, hx, gx⟩ := h cs (by omega) (fun f hf => by
    obtain ⟨j, hj, e⟩ := List.getElem_of_mem hf
    have hj' : j < fs.size := by simpa using hj
    have := hp j f (by rw [Array.getElem?_eq_getElem hj']; simp at e; rw [e])
    exact ⟨n, xs[j]'(by omega), by rw [this, List.getElem?_eq_getElem (by omega)]⟩)
  exact ⟨x, by simpa using hx, gx⟩

/-- A struct as an argument. -/
theorem Opens.agg {α : Type} {A : Lay α} {G : α → Prop} {t : TypeId} {fs : Array Field} {r : Reach} {base : Nat} {v : Value} {d : DataW H} {p : List MemPlace} (h : Opens enc P W A t G) (ht : P.underlying t = some (.struct fs)) (hok : Value.okWide P W r base t v)
    (hd : DataW.Trod enc P W 0 (fun _ => true) true t v d p) : ∃ cs x, v = .agg cs.toArray ∧ A.rd W cs x ∧ G x := by
  obtain ⟨cs, rfl, _⟩ := okWide_struct ht hok
  obtain ⟨fuel, hf⟩ := hd
  obtain ⟨x, hx, hg⟩ := h fuel _ _ hf
  exact ⟨cs.toList, x, by simp, by simpa [Value.cells] using hx, hg⟩
/-- A slice as an argument. -/
theorem Opens.slice {α : Type} {A : Lay α} {G : α → Prop} {t e : TypeId} {r : Reach} {base : Nat} {v : Value} {d : DataW H} {p : List MemPlace} (h : Opens enc P W A t G) (ht : P.underlying t = some (.slice e)) (hok : Value.okWide P W r base t v)
    (hd : DataW.Trod enc P W 0 (fun _ => true) true t v d p) : ∃ x, A.rd W [v] x ∧ G x := by
  obtain ⟨a0, len0, cap0, rfl⟩ := okWide_slice ht hok
  obtain ⟨fuel, hf⟩ := hd
  obtain ⟨x, hx, hg⟩ := h fuel _ _ hf
  exact ⟨x, by simpa [Value.cells] using hx, hg⟩

end
end Go.Proofs.YthiicpbedgcmlaaDoor

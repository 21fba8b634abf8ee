/-
  The program's varTexts: numbers in bytes, one behind another.
  The library's contracts laid at this translation, in plain words: each is one application.
  What the library tells of a builder's String, at this translation.
  Who somebody is: the program's isWho.
-/
import Derived.Test.YtdhacjpdlmnlmaqDoorJ02
import Derived.Test.YtdhacjpdlmnlmaqDoorJ11
import Derived.Deep.LoopGhost
import Derived.Shelf.Strings.Builder1
import Derived.Shelf.Strings.BuilderF
import Derived.Shelf.Strings.BuilderK
import Derived.Shelf.Strings.BuilderCap
import Derived.Test.YtdhacjpdlmnlmaqDoorProg
import Derived.Test.YtdhacjpdlmnlmaqDoorJ01
import Derived.Test.YtdhacjpdlmnlmaqDoorRows
import Derived.Deep.DeepCutAuto
namespace Go.Proofs.YtdhacjpdlmnlmaqDoor
open Go.RowKit

/-- What a builder's String tells. -/
def StrGives : Prop := ∀ (B b : Nat) (l : List UInt8) (w : World), Lib.IsBuilderF 47 5 B b (Lib.byteCells l) w → B ≤ w.heap.size →
    Calls Tryd.prog 28 #[.pointer (some ⟨b, 0, none⟩)] w fun e w' => e = .returned (.string ⟨l.toArray⟩) ∧ (Lib.IsBuilderF 47 5 B b (Lib.byteCells l) w' ∧ Below B w w')
theorem implVarText_int (x : Int) (h0 : 0 ≤ x) (h1 : x ≤ 1000000000) (w : World) :
    Calls Tryd.prog 26 #[.int .i64 x] w fun e w' => e = .returned (.tuple #[.string ⟨(var x.toNat).toArray⟩, .bool true]) ∧ Below w.heap.size w w' := by
  obtain ⟨n, rfl⟩ := Int.eq_ofNat_of_zero_le h0
  exact implVarText_yes n (by omega) w
/-- The bytes of numbers. -/
def varsB (xs : List Int) : List UInt8 := (xs.map Int.toNat).flatMap var
theorem varsB_take {xs : List Int} {k : Nat} (h : k < xs.length) : varsB (xs.take (k + 1)) = varsB (xs.take k) ++ var xs[k].toNat := by
  unfold varsB
  rw [List.take_add_one, List.getElem?_eq_getElem h, List.map_append, List.flatMap_append]
  simp
theorem varsB_few (xs : List Int) (h : ∀ x ∈ xs, 0 ≤ x ∧ x ≤ 1000000000) : (varsB xs).length ≤ 5 * xs.length := by
  have := acks_bytes (xs.map Int.toNat) (fun x hx => by
    obtain ⟨y, hy, rfl⟩ := List.mem_map.1 hx
    have := h y hy
    omega)
  rw [List.length_map] at this
  exact this

set_option maxRecDepth 100000 in
set_option maxHeartbeats 1600000 in
theorem varTexts_any (G : StrGives) (xs : List Int) (v : Value) (hx : ∀ x ∈ xs, 0 ≤ x ∧ x ≤ 1000000000) (hl : xs.length ≤ 1000) (w : World) (h : layIntS.rd w [v] xs) :
    Calls Tryd.prog 17 #[v] w fun e w' => e = .returned (.string ⟨(varsB xs).toArray⟩) ∧ Below w.heap.size w w' := by
  obtain ⟨ao, cp, rfl⟩ := rows_form h
  have HR := Lib.hid h
  have HG := Lib.hid G
  have HXS := Lib.hid hx
  clear h G hx
  have B0 : Hid (Lib.IsBuilderF 47 5 w.heap.size w.heap.size (Lib.byteCells (varsB (xs.take 0))) (w.alloc (.cells #[.pointer none, .slice none 0 0] 47))) :=
    .inl ⟨by omega, .slice none 0 0, heap_alloc_new w (.cells #[.pointer none, .slice none 0 0] 47), World.ownsRowF_of (World.ownsRow_nil _ _ _ _), by simp [Value.ownBlock]⟩
  have C0 := Lib.hid ((Below.refl w.heap.size w).alloc (Nat.le_refl _) (.cells #[.pointer none, .slice none 0 0] 47))
  go_enter Tryd.func17, Tryd.ntmps17
  go_wp2_with fail
  go_loopw [10] (fun i wr => ∃ k : Nat, k ≤ xs.length ∧ i = .int .i64 (k : Int) ∧ Lib.IsBuilderF 47 5 w.heap.size w.heap.size (Lib.byteCells (varsB (xs.take k))) wr ∧ Below w.heap.size w wr) (fun i _ => xs.length - (intOf i).toNat)
  case atStart => exact ⟨0, Nat.zero_le _, rfl, B0.out, C0.out⟩
  case round =>
    obtain ⟨k, hk, rfl, hv, hnx⟩ := hrel
    have HV := Lib.hid hv
    have HN := Lib.hid hnx
    clear hv hnx B0 C0
    by_cases hlt : k < xs.length
    · have hlt' : (k : Int) < (xs.length : Int) := by omega
      obtain ⟨g, off, cap, hv, hg, hcell⟩ := ints_get (layIntS.below HR.out HN.out) k hlt
      simp only [Value.slice.injEq] at hv
      obtain ⟨rfl, -, rfl⟩ := hv
      have hxk := HXS.out _ (List.getElem_mem hlt)
      have HT := Lib.hid (varsB_take hlt)
      have hfew := varsB_few (xs.take k) (fun x hx => HXS.out x (List.take_subset k xs hx))
      rw [List.length_take] at hfew
      generalize xs[k] = x at hcell hxk HT
      have H1 := Lib.hid (implVarText_int x hxk.1 hxk.2 wr)
      have z5 := var_five x.toNat (by omega)
      obtain ⟨sx, HSX⟩ : ∃ s : ByteArray, Hid (s = ⟨(Go.Proofs.YtdhacjpdlmnlmaqDoor.var x.toNat).toArray⟩) := ⟨_, rfl⟩
      rw [← HSX.out] at H1
      have zx : sx.size ≤ 5 := by rw [HSX.out]; show (Go.Proofs.YtdhacjpdlmnlmaqDoor.var x.toNat).toArray.size ≤ 5; simpa using z5
      have ec : Hid (Lib.byteCells (varsB (xs.take (k + 1))) = Lib.byteCells (varsB (xs.take k)) ++ Lib.strCells sx) := by
        show _ = _
        rw [HT.out, Lib.byteCells_append, HSX.out]
        rfl
      have hlen : Hid ((Lib.byteCells (varsB (xs.take k))).length + sx.size ≤ 140737488355328) := by
        show _ ≤ _
        rw [Lib.byteCells_length]
        omega
      clear hfew z5 HT
      go_wp2_with fail
      refine (H1.out).mono ?_
      rintro e w1 ⟨rfl, hb1⟩
      have HV1 := Lib.hid (builder_next HV.out hb1)
      have HN1 := Lib.hid (HN.out.trans (hb1.mono HN.out.size))
      have H2 := Lib.hid (writeString_any w.heap.size w.heap.size _ sx w1 HV1.out hlen.out HN1.out.size)
      clear hb1
      go_wp2_with fail
      refine (H2.out).mono ?_
      rintro e w2 ⟨rfl, hv2, hb2⟩
      have HV2 := Lib.hid hv2
      have HN2 := Lib.hid (HN1.out.trans hb2)
      clear hv2 hb2
      go_wp2_with fail
      go_roundw
      case rel =>
        refine ⟨k + 1, by omega, by go_num, ?_, HN2.out⟩
        rw [ec.out]
        exact .inr HV2.out
      case measure => simp [intOf]; omega
    · have hlt' : ¬ ((k : Int) < (xs.length : Int)) := by omega
      have hke : k = xs.length := by omega
      subst hke
      rw [List.take_length] at HV
      have H3 := Lib.hid (HG.out _ _ _ _ HV.out HN.out.size)
      go_wp2_with fail
      refine (H3.out).mono ?_
      rintro e w3 ⟨rfl, _, hb3⟩
      have HN3 := Lib.hid (HN.out.trans hb3)
      clear hb3
      go_wp2_with fail
      go_ret
      exact ⟨rfl, HN3.out⟩

end Go.Proofs.YtdhacjpdlmnlmaqDoor
namespace Go.Proofs
open Go.Shelf
def Tryd.lays169_ren : Go.Shelf.Ren := ⟨fun | 169 => 28 | n => n, fun | 70 => 45 | 9 => 9 | 0 => 0 | 72 => 47 | 37 => 37 | 127 => 57 | 3 => 3 | 5 => 5 | n => n, fun | n => n⟩
theorem Tryd.lays169 : Go.Proofs.Lays.n169 Tryd.prog Tryd.lays169_ren := {
  mixed := by kernel_rfl
  f169 := Tryd.func28.trans (congrArg some (by kernel_rfl))
  t0 := Tryd.underlying0
  a0 := Tryd.isAgg0
  z0 := Tryd.sizeOf0
  v0 := Tryd.zeroValue0
  t3 := Tryd.underlying3
  a3 := Tryd.isAgg3
  z3 := Tryd.sizeOf3
  v3 := Tryd.zeroValue3
  t9 := Tryd.underlying9
  a9 := Tryd.isAgg9
  z9 := Tryd.sizeOf9
  v9 := Tryd.zeroValue9
  t37 := Tryd.underlying37
  a37 := Tryd.isAgg37
  z37 := Tryd.sizeOf37
  v37 := Tryd.zeroValue37
  t70 := Tryd.underlying45
  a70 := Tryd.isAgg45
  z70 := Tryd.sizeOf45
  v70 := Tryd.zeroValue45
  t72 := Tryd.underlying47
  a72 := Tryd.isAgg47
  z72 := Tryd.sizeOf47
  v72 := Tryd.zeroValue47
  t127 := Tryd.underlying57
  a127 := Tryd.isAgg57
  z127 := Tryd.sizeOf57
  v127 := Tryd.zeroValue57 }
theorem Tryd.Builder_Extra_169 : Builder.Extra Tryd.prog Tryd.lays169_ren := {
  sizeBuilder := by kernel_rfl
  liesBuilder := by kernel_rfl
  t5 := Tryd.underlying5
  a5 := Tryd.isAgg5
  z5 := Tryd.sizeOf5
  v5 := Tryd.zeroValue5
  infoByte := by kernel_rfl
  cellsByte := by kernel_rfl
  sizeByte := by kernel_rfl
  neB5 := by decide }
open Go.RowKit in
theorem Tryd.Builder_String_any_f (B b : Nat) (l : List UInt8) (w : World) (h : Lib.IsBuilderF 47 5 B b (Lib.byteCells l) w) (hBw : B ≤ w.heap.size) :
    Calls Tryd.prog 28 #[.pointer (some ⟨b, 0, none⟩)] w fun e w' => e = .returned (.string ⟨l.toArray⟩) ∧ (Lib.IsBuilderF 47 5 B b (Lib.byteCells l) w' ∧ Below B w w') := Any.Builder_String_any_f Tryd.lays169 Tryd.Builder_Extra_169 B b l w h hBw
end Go.Proofs
namespace Go.Proofs.YtdhacjpdlmnlmaqDoor
open Go.RowKit

theorem strGives : StrGives := fun B b l w h hB => Tryd.Builder_String_any_f B b l w h hB

end Go.Proofs.YtdhacjpdlmnlmaqDoor
namespace Go.Proofs.YtdhacjpdlmnlmaqDoor
open Go.RowKit

theorem isWho_yes (x : Int) (h0 : 1 ≤ x) (h1 : x ≤ 99) (w : World) : Calls Tryd.prog 22 #[.int .i64 x] w fun e w' => e = .returned (.bool true) ∧ w' = w := by
  go_enter Tryd.func22, Tryd.ntmps22
  go_wp2_with fail
  go_ret
  exact ⟨rfl, rfl⟩
theorem isWho_no (x : Int) (h : ¬ (1 ≤ x ∧ x ≤ 99)) (w : World) : Calls Tryd.prog 22 #[.int .i64 x] w fun e w' => e = .returned (.bool false) ∧ w' = w := by
  by_cases h0 : 1 ≤ x
  · have h1 : ¬ x ≤ 99 := fun h1 => h ⟨h0, h1⟩
    clear h
    go_enter Tryd.func22, Tryd.ntmps22
    go_wp2_with fail
    go_ret
    exact ⟨rfl, rfl⟩
  · clear h
    go_enter Tryd.func22, Tryd.ntmps22
    go_wp2_with fail
    go_ret
    exact ⟨rfl, rfl⟩
theorem isWho_any (x : Int) (b : Bool) (hb : b = true ↔ (1 ≤ x ∧ x ≤ 99)) (w : World) : Calls Tryd.prog 22 #[.int .i64 x] w fun e w' => e = .returned (.bool b) ∧ w' = w := by
  cases b with
  | true => exact isWho_yes x (hb.1 rfl).1 (hb.1 rfl).2 w
  | false => exact isWho_no x (fun h => by cases hb.2 h) w

end Go.Proofs.YtdhacjpdlmnlmaqDoor

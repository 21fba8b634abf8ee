/-
  The program's state of a digest: its bytes, and back.
-/
import Derived.Test.YtogmmilfdolpnaaDoorEightImpl
import Derived.Test.YtogmmilfdolpnaaDoorPlainAll
import Derived.Test.YtogmmilfdolpnaaDoorSealWord
import Derived.Test.YtogmmilfdolpnaaDoorShelf
import Derived.Test.YtogmmilfdolpnaaDoorBuilderLay
namespace Go.Proofs.YtogmmilfdolpnaaDoor
open Go.RowKit

/-- A builder stays what it is where only new blocks are made. -/
theorem builderAt_next {T e : TypeId} {B b : Nat} {p : Value} {bs : List Value} {w w' : World} (h : Lib.BuilderAtF T e B b p bs w) (hb : Below w.heap.size w w') : Lib.BuilderAtF T e B b p bs w' := by
  have hlt := h.lt
  obtain ⟨hB, v, hbk, hown, hne⟩ := h
  have hg : World.grownBy w w' none := ⟨hb.os, hb.tape, hb.output, hb.size, fun k hk _ => hb.block k hk⟩
  exact ⟨hB, v, by rw [hb.block b hlt]; exact hbk, hown.kept hg (by cases hv : v.ownBlock <;> simp), hne⟩
theorem builder_next {T e : TypeId} {B b : Nat} {bs : List Value} {w w' : World} (h : Lib.IsBuilderF T e B b bs w) (hb : Below w.heap.size w w') : Lib.IsBuilderF T e B b bs w' :=
  h.elim (fun k => .inl (builderAt_next k hb)) (fun k => .inr (builderAt_next k hb))
theorem strCells_list (l : List UInt8) : Lib.strCells ⟨l.toArray⟩ = Lib.byteCells l := rfl
theorem bytesOf_take (st : List Nat) (k : Nat) (h : k < st.length) : bytesOf (st.take (k + 1)) = bytesOf (st.take k) ++ four (st.getD k 0) := by
  rw [List.take_succ_eq_append_getElem h, bytesOf_append, List.getD_eq_getElem?_getD, List.getElem?_eq_getElem h]
  show _ ++ (four _ ++ []) = _
  rw [List.append_nil]
  rfl

set_option maxRecDepth 100000 in
set_option maxHeartbeats 1600000 in
theorem stateText_any (st : List Nat) (hst : Words st) (hst8 : st.length = 8) (w : World) :
    Calls Tryd.prog 57 #[stV st] w fun e w' => e = .returned (.string ⟨(bytesOf st).toArray⟩) ∧ Below w.heap.size w w' := by
  have A0 := Lib.hid ((ArrW.new w 70 st).alloc (.cells #[.pointer none, .slice none 0 0] 89))
  have j8 : (Tryd.prog.info? 70).map (·.size) = some st.length := by rw [hst8]; kernel_rfl
  have i8 := Lib.hid j8
  clear j8
  have B0 : Hid (Lib.IsBuilderF 89 5 w.heap.size (w.heap.size + 1) (Lib.byteCells (bytesOf (st.take 0))) ((w.alloc (.cells (wcells st).toArray 70)).alloc (.cells #[.pointer none, .slice none 0 0] 89))) := by
    refine .inl ⟨by omega, .slice none 0 0, ?_, World.ownsRowF_of (World.ownsRow_nil _ _ _ _), by simp [Value.ownBlock]⟩
    have h := heap_alloc_new (w.alloc (.cells (wcells st).toArray 70)) (.cells #[.pointer none, .slice none 0 0] 89)
    have e : (w.alloc (.cells (wcells st).toArray 70)).heap.size = w.heap.size + 1 := by simp
    rw [e] at h
    exact h
  have C0 := Lib.hid (((Below.refl w.heap.size w).alloc (Nat.le_refl _) (.cells (wcells st).toArray 70)).alloc (by simp) (.cells #[.pointer none, .slice none 0 0] 89))
  show Calls Tryd.prog 57 #[.agg (wcells st).toArray] w _
  go_enter Tryd.func57, Tryd.ntmps57
  go_wp2_with (refine wpList_loadA _ rfl (.tmp 1) 70 rfl w.heap.size st rfl Tryd.underlying70 i8.out A0.out ?_)
  go_loopw [7] (fun i wr => ∃ k : Nat, k ≤ 8 ∧ i = .int .i64 (k : Int) ∧ Lib.IsBuilderF 89 5 w.heap.size (w.heap.size + 1) (Lib.byteCells (bytesOf (st.take k))) wr ∧ Below w.heap.size w wr) (fun i _ => 8 - (intOf i).toNat)
  case atStart =>
    exact ⟨0, by omega, rfl, B0.out, C0.out⟩
  case round =>
    obtain ⟨k, hk, rfl, hv, hnx⟩ := hrel
    have HV := Lib.hid hv
    have HN := Lib.hid hnx
    clear hv hnx A0 B0 C0
    by_cases hlt : (k : Int) < 8
    · have hix := index8 st hst8 k (by omega) wr
      have hlx := hst.at k
      have HB := Lib.hid (bytesOf_take st k (by omega))
      obtain ⟨x, X1⟩ : ∃ x, Hid (x = st.getD k 0) := ⟨_, rfl⟩
      rw [← X1.out] at hix hlx HB
      have H1 := Lib.hid (wordText_any x hlx)
      go_wp2_with fail
      refine (H1.out _).mono ?_
      rintro e w1 ⟨rfl, hb1⟩
      have HV1 := Lib.hid (builder_next HV.out hb1)
      have HN1 := Lib.hid (HN.out.trans (hb1.mono HN.out.size))
      have hlen : (Lib.byteCells (bytesOf (st.take k))).length + (⟨(four x).toArray⟩ : ByteArray).size ≤ 140737488355328 := by
        have e1 : (Lib.byteCells (bytesOf (st.take k))).length = 4 * k := by rw [Lib.byteCells_length, bytesOf_length, List.length_take]; omega
        rw [e1]
        show 4 * k + 4 ≤ _
        omega
      have H2 := Lib.hid (writeString_any w.heap.size (w.heap.size + 1) _ ⟨(four x).toArray⟩ w1 HV1.out hlen HN1.out.size)
      clear hb1 hlen
      go_wp2_with fail
      refine (H2.out).mono ?_
      rintro e w2 ⟨rfl, hv2, hb2⟩
      have HV2 := Lib.hid hv2
      have HB2 := Lib.hid hb2
      clear hv2 hb2
      go_wp2_with fail
      go_roundw
      case rel =>
        refine ⟨k + 1, by omega, by go_num, ?_, HN1.out.trans HB2.out⟩
        rw [HB.out, Lib.byteCells_append]
        exact .inr HV2.out
      case measure => simp [intOf]; omega
    · have hk8 : k = 8 := by omega
      subst hk8
      have e8 : st.take 8 = st := List.take_of_length_le (by omega)
      rw [e8] at HV
      have hne : bytesOf st ≠ [] := by
        intro h
        have := bytesOf_length st
        rw [h, hst8] at this
        exact absurd this (by decide)
      have H3 := Lib.hid (Tryd.Builder_String_f w.heap.size (w.heap.size + 1) (bytesOf st) wr HV.out hne)
      go_wp2_with fail
      refine (H3.out).mono ?_
      rintro e w3 ⟨rfl, _, hb3⟩
      have HB3 := Lib.hid hb3
      clear hb3
      go_wp2_with fail
      go_ret
      exact ⟨rfl, HN.out.trans HB3.out⟩

set_option maxRecDepth 100000 in
set_option maxHeartbeats 400000 in
theorem firstState_any (w : World) :
    Calls Tryd.prog 56 #[] w fun e w' => e = .returned (stV firstState) ∧ Below w.heap.size w w' := by
  go_enter Tryd.func56, Tryd.ntmps56
  go_wp2_with fail
  refine bodyPost_ret (v := stV firstState) ?_ rfl ⟨rfl, ?_⟩
  · simp [results, Tryd.results56, go_sem]
    rfl
  · exact (Below.refl _ _).alloc (Nat.le_refl _) _

end Go.Proofs.YtogmmilfdolpnaaDoor

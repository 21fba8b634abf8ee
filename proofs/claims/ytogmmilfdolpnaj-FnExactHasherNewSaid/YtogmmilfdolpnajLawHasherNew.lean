/-
  Proved: the program's HasherNew answers what the given HasherNew answers, and the call leaves what was there as it was; no condition.
-/
import Derived.Test.YtogmmilfdolpnajHasherEq
import Derived.Test.YtogmmilfdolpnajHasherImpl
import Derived.Test.YtogmmilfdolpnajHasherSpec
import Derived.ProofKit
import Derived.OpenShut
import Derived.ShutString
import Derived.ChangeOld
import Derived.Below
namespace Go.Proofs.Ytogmmilfdolpnaj
open Go.ChangeShapes Go.WideShapes Go.ChangeAt Go.RowKit
open Go.ChangeMaps (open_string shut_string)

theorem own : ownKnob Try.prog.godebug = none := by kernel_rfl

set_option maxRecDepth 100000 in
set_option maxHeartbeats 400000 in
theorem lawHasherNew (w : World) :
    Calls Try.prog 7 #[] w fun e w' => e = .returned (.bool true) ∧ Below w.heap.size w w' := by
  obtain ⟨bs, BS⟩ : ∃ b : ByteArray, Hid (b = ⟨(bytesOf firstState).toArray⟩) := ⟨_, rfl⟩
  have H1 := Lib.hid implHasherNew_any
  have H2 := Lib.hid specHasherNew_any
  rw [← BS.out] at H1 H2
  have H3 := Lib.hid (eqHasher_same bs ⟨#[]⟩ 0)
  go_enter Try.func7, Try.ntmps7
  go_wp2_with fail
  refine (H2.out _).mono ?_
  rintro e w1 ⟨rfl, hb1⟩
  have V1 := Lib.hid (VarT.new w1 30 (.string bs) (.string ⟨#[]⟩) (.int .i64 0))
  have B1 := Lib.hid (hb1.alloc hb1.size (.cells #[.string bs, .string ⟨#[]⟩, .int .i64 0] 30))
  clear hb1
  go_wp2_with fail
  refine (H1.out _).mono ?_
  rintro e w2 ⟨rfl, hb2⟩
  have V2 := Lib.hid (V1.out.next hb2)
  have c0 := V2.out.c0
  have c1 := V2.out.c1
  have c2 := V2.out.c2
  have hlt : w1.heap.size < w2.heap.size := lt_of_block V2.out.row
  have B2 := Lib.hid (B1.out.trans (hb2.mono B1.out.size))
  have B3 := Lib.hid (B2.out.alloc B2.out.size (.cells #[.string bs, .string ⟨#[]⟩, .int .i64 0] 30))
  clear hb2
  go_wp2_with fail
  refine (H3.out _).mono ?_
  rintro e w3 ⟨rfl, hb3⟩
  have B4 := Lib.hid (B3.out.trans (hb3.mono B3.out.size))
  clear hb3
  go_wp2_with fail
  go_ret
  exact ⟨rfl, B4.out⟩

set_option maxRecDepth 100000 in
theorem liftedHasherNew (os : Os) (started : os.Started) (H : Type) (enc : TypeId × Value → H) :
    ReturnsInHanded {} Try.checked os 7 .any (Rows.fnExactHasherNewSpec.pre6 enc Try.prog Try.f7 Rows.fnExactHasherNewRow.domain false) (Rows.fnExactHasherNewSpec.post enc Try.prog Try.f7 false true false false) := by
  refine returnsInHanded_of_change (C := Try.checked) own started (by kernel_rfl) Try.func7
    (ChangeSpec.witness6 (enc := enc) (C := Try.checked) false ⟨#[], #[], []⟩ 8 (by kernel_rfl) (by kernel_rfl) (by kernel_rfl) (by kernel_rfl)) ?_
  intro W base args ds gs before hval0 hW hcnd _
  have hval : ∀ (j : Nat) t v, Try.f7.params[j]? = some t → args[j]? = some v → Value.okWide Try.prog W .any base t v := hval0
  have hW' := hW
  obtain ⟨p, q, hA0, hV, rfl, hfz, hnd⟩ := hW
  have hA : DataW.TrodAll enc Try.prog W 0 (fun _ => true) true Try.f7.params.toList args.toList ds p := hA0
  rw [Try.params7] at hA hval
  obtain ⟨hargs, rfl, rfl⟩ := trodAll_nil hA
  obtain rfl : args = #[] := by cases args; simp_all
  obtain ⟨rfl, rfl⟩ := trodVars_none hV
  clear hA0 hval0
  refine (lawHasherNew  W).mono fun e W' ⟨he, bel⟩ => ?_
  subst he
  exact ⟨_, rfl, _, _, _, [], _, [], hW', trodAll_mk1 (shut_bool Try.underlying4 _), trodAll_mk0, rfl, bel.frame _, fun h => by cases h⟩

theorem FnExactHasherNew_holds : Rows.FnExactHasherNewSaid :=
  OpenClaim.holds_of_wide 7 Try.f7 rfl rfl rfl rfl rfl rfl rfl ⟨rfl, rfl, rfl, rfl, rfl⟩ rfl rfl rfl rfl rfl (by kernel_rfl) Try.func7 (by kernel_rfl)
    (of_decide_eq_true (by kernel_rfl)) (by unfold Func.isWrapper; first | (rw [if_pos (by decide +kernel)]; kernel_rfl) | (rw [if_neg (by decide +kernel)]; exact ⟨rfl, rfl⟩))
    (fun os started H enc _ => liftedHasherNew os started H enc)

#print axioms FnExactHasherNew_holds
end Go.Proofs.Ytogmmilfdolpnaj

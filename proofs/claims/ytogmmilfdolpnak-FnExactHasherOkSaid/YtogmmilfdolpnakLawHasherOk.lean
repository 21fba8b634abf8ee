/-
  Proved: at every hasher the program's HasherOk answers what the given HasherOk answers, and the call leaves what was there as it was; no condition.
-/
import Derived.Test.YtogmmilfdolpnakHasherArg
import Derived.Test.YtogmmilfdolpnakHasherOkImpl
import Derived.Test.YtogmmilfdolpnakHasherOkSpec
import Derived.ProofKit
import Derived.OpenShut
import Derived.ShutString
import Derived.ChangeOld
import Derived.Below
namespace Go.Proofs.Ytogmmilfdolpnak
open Go.ChangeShapes Go.WideShapes Go.ChangeAt Go.RowKit
open Go.ChangeMaps (open_string shut_string)

theorem own : ownKnob Try.prog.godebug = none := by kernel_rfl

set_option maxRecDepth 100000 in
set_option maxHeartbeats 400000 in
theorem lawHasherOk (st rest : ByteArray) (n : Int) (ws : st.size ≤ maxLen) (wr : rest.size ≤ maxLen) (w : World) :
    Calls Try.prog 3 #[.agg #[.string st, .string rest, .int .i64 n]] w fun e w' => e = .returned (.bool true) ∧ Below w.heap.size w w' := by
  have HT := Lib.hid (toHasher_any st rest n)
  have A0 := Lib.hid (ArgV.new w 23 (.string st) (.string rest) (.int .i64 n))
  by_cases hs : st.size + rest.size ≤ 1048576
  · have H0 := Lib.hid (szHasher_yes st rest n hs)
    have a0 : ¬ (1048576 - (st.size : Int) - (rest.size : Int) < 0) := by omega
    obtain ⟨p, hp1, hp2⟩ : ∃ p : Bool, (∀ X, Calls Try.prog 8 #[.agg #[.string st, .string rest, .int .i64 n]] X fun e X' => e = .returned (.bool p) ∧ Below X.heap.size X X') ∧ (∀ X, Calls Try.prog 6 #[.agg #[.string st, .string rest, .int .i64 n]] X fun e X' => e = .returned (.bool p) ∧ Below X.heap.size X X') := by
      by_cases hk : HOk st rest n
      · exact ⟨true, implHasherOk_yes st rest n hk, specHasherOk_yes st rest n hk⟩
      · exact ⟨false, implHasherOk_no st rest n hk, specHasherOk_no st rest n hk⟩
    have H1 := Lib.hid hp1
    have H2 := Lib.hid hp2
    clear hp1 hp2 hs ws wr
    go_enter Try.func3, Try.ntmps3
    go_wp2_with fail
    refine (H0.out _).mono ?_
    rintro e w1 ⟨rfl, hb1⟩
    have A1 := Lib.hid (A0.out.next hb1)
    have c10 := A1.out.c0
    have c11 := A1.out.c1
    have c12 := A1.out.c2
    clear hb1 A0
    go_wp2_with fail
    refine (HT.out _).mono ?_
    rintro e w2 ⟨rfl, hb2⟩
    have A2 := Lib.hid (A1.out.next hb2)
    have c20 := A2.out.c0
    have c21 := A2.out.c1
    have c22 := A2.out.c2
    clear hb2 A1
    go_wp2_with fail
    refine (H2.out _).mono ?_
    rintro e w3 ⟨rfl, hb3⟩
    have A3 := Lib.hid (A2.out.next hb3)
    have c30 := A3.out.c0
    have c31 := A3.out.c1
    have c32 := A3.out.c2
    clear hb3 A2
    go_wp2_with fail
    refine (HT.out _).mono ?_
    rintro e w4 ⟨rfl, hb4⟩
    have A4 := Lib.hid (A3.out.next hb4)
    have c40 := A4.out.c0
    have c41 := A4.out.c1
    have c42 := A4.out.c2
    clear hb4 A3
    go_wp2_with fail
    refine (H1.out _).mono ?_
    rintro e w5 ⟨rfl, hb5⟩
    have A5 := Lib.hid (A4.out.next hb5)
    have c50 := A5.out.c0
    have c51 := A5.out.c1
    have c52 := A5.out.c2
    clear hb5 A4
    go_wp2_with fail
    go_ret
    exact ⟨rfl, A5.out.below⟩
  · have H0 := Lib.hid (szHasher_no st rest n (by omega) ws wr)
    clear hs ws wr HT
    go_enter Try.func3, Try.ntmps3
    go_wp2_with fail
    refine (H0.out _).mono ?_
    rintro e w1 ⟨rfl, hb1⟩
    have A1 := Lib.hid (A0.out.next hb1)
    clear hb1 A0
    go_wp2_with fail
    go_ret
    exact ⟨rfl, A1.out.below⟩

set_option maxRecDepth 100000 in
theorem liftedHasherOk (os : Os) (started : os.Started) (H : Type) (enc : TypeId × Value → H) :
    ReturnsInHanded {} Try.checked os 3 .any (Rows.fnExactHasherOkSpec.pre6 enc Try.prog Try.f3 Rows.fnExactHasherOkRow.domain false) (Rows.fnExactHasherOkSpec.post enc Try.prog Try.f3 false true false false) := by
  refine returnsInHanded_of_change (C := Try.checked) own started (by kernel_rfl) Try.func3
    (ChangeSpec.witness6 (enc := enc) (C := Try.checked) false ⟨#[], #[.agg #[.string ⟨#[]⟩, .string ⟨#[]⟩, .int .i64 0]], []⟩ 8 (by kernel_rfl) (by kernel_rfl) (by kernel_rfl) (by kernel_rfl)) ?_
  intro W base args ds gs before hval0 hW hcnd _
  have hval : ∀ (j : Nat) t v, Try.f3.params[j]? = some t → args[j]? = some v → Value.okWide Try.prog W .any base t v := hval0
  have hW' := hW
  obtain ⟨p, q, hA0, hV, rfl, hfz, hnd⟩ := hW
  have hA : DataW.TrodAll enc Try.prog W 0 (fun _ => true) true Try.f3.params.toList args.toList ds p := hA0
  rw [Try.params3] at hA hval
  obtain ⟨v0, vs0, d0, ds0, p0, q0, hargs, rfl, rfl, h0, r0⟩ := trodAll_cons hA
  obtain ⟨rfl, rfl, rfl⟩ := trodAll_nil r0
  obtain rfl : args = #[v0] := by cases args; simp_all
  obtain ⟨st, rest, n, rfl, rfl, ws, wr, hread⟩ := open_hasher (hval 0 23 v0 rfl rfl) h0
  obtain ⟨rfl, rfl⟩ := trodVars_none hV
  clear hA0 hval0
  refine (lawHasherOk st rest n ws wr W).mono fun e W' ⟨he, bel⟩ => ?_
  subst he
  exact ⟨_, rfl, _, _, _, [], _, [], hW', trodAll_mk1 (shut_bool Try.underlying4 _), (trodAll_cons_mk (hread _ _) trodAll_mk0), rfl, bel.frame _, fun h => by cases h⟩

theorem FnExactHasherOk_holds : Rows.FnExactHasherOkSaid :=
  OpenClaim.holds_of_wide 3 Try.f3 rfl rfl rfl rfl rfl rfl rfl ⟨rfl, rfl, rfl, rfl, rfl⟩ rfl rfl rfl rfl rfl (by kernel_rfl) Try.func3 (by kernel_rfl)
    (of_decide_eq_true (by kernel_rfl)) (by unfold Func.isWrapper; first | (rw [if_pos (by decide +kernel)]; kernel_rfl) | (rw [if_neg (by decide +kernel)]; exact ⟨rfl, rfl⟩))
    (fun os started H enc _ => liftedHasherOk os started H enc)

#print axioms FnExactHasherOk_holds
end Go.Proofs.Ytogmmilfdolpnak

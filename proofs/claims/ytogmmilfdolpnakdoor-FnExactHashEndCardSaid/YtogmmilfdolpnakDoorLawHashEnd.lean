/-
  Proved: at every hasher the program's HashEnd answers what the given HashEnd answers, and the call leaves what was there as it was; the table of cube roots starts as the program's text lays it (the card ties it).
-/
import Derived.Test.YtogmmilfdolpnakDoorCards
import Derived.Test.YtogmmilfdolpnakDoorTie
import Derived.Test.YtogmmilfdolpnakDoorEndYesImpl
import Derived.Test.YtogmmilfdolpnakDoorHashEndSpec
import Derived.Test.YtogmmilfdolpnakDoorHasherArg
import Derived.ProofKit
import Derived.OpenShut
import Derived.ShutString
import Derived.ChangeOld
import Derived.ChangeVars
import Derived.OpenVars
import Derived.Below
import Derived.Deep.DeepHandedRow
import Derived.Lib.LaidTab
import Derived.Stop.LaidErr
namespace Go.Proofs.YtogmmilfdolpnakDoor
open Go.ChangeShapes Go.WideShapes Go.ChangeAt Go.RowKit
open Go.ChangeMaps (open_string shut_string)

theorem own : ownKnob Tryd.prog.godebug = none := by kernel_rfl
theorem laidOut : laidOutB Tryd.prog = true := by kernel_rfl
theorem gCubeType : (Tryd.prog.globals[0]?).map (·.type) = some 79 := by kernel_rfl
theorem cellsCube : Tryd.prog.cellsOf 79 = 64 := by kernel_rfl
theorem cellsWord : Tryd.prog.cellsOf 44 = 1 := by kernel_rfl

/-- What the row's list gives: the table's cells hold the cube roots. -/
theorem table {W : World} (h : laidMetH Tryd.prog Rows.fnExactHashEndRow.laid W) : LaidK W := by
  have h1 : laidMet Tryd.prog Rows.fnExactHashEndRow.laid W := h
  exact Lib.tabIs_of_head (rest := []) gCube gCubeType Tryd.underlying79 Tryd.underlying44 cellsWord cellsCube h1

set_option maxRecDepth 100000 in
set_option maxHeartbeats 400000 in
theorem lawHashEnd (st rest : ByteArray) (n : Int) (ws : st.size ≤ maxLen) (wr : rest.size ≤ maxLen) (w : World) (ht : LaidK w) :
    Calls Tryd.prog 4 #[.agg #[.string st, .string rest, .int .i64 n]] w fun e w' => e = .returned (.bool true) ∧ Below w.heap.size w w' := by
  have HT := Lib.hid (toHasher_any st rest n)
  have A0 := Lib.hid (ArgV.new w 23 (.string st) (.string rest) (.int .i64 n))
  have HL := Lib.hid ht
  clear ht
  by_cases hs : st.size + rest.size ≤ 1048576
  · have H0 := Lib.hid (szHasher_yes st rest n hs)
    have a0 : ¬ (1048576 - (st.size : Int) - (rest.size : Int) < 0) := by omega
    obtain ⟨d, hp1, hp2⟩ : ∃ d : ByteArray, (∀ X, LaidK X → Calls Tryd.prog 13 #[.agg #[.string st, .string rest, .int .i64 n]] X fun e X' => e = .returned (.string d) ∧ Below X.heap.size X X') ∧ (∀ X, Calls Tryd.prog 12 #[.agg #[.string st, .string rest, .int .i64 n]] X fun e X' => e = .returned (.string d) ∧ Below X.heap.size X X') := by
      by_cases hk : HOk st rest n
      · obtain ⟨N, rfl⟩ : ∃ N : Nat, n = (N : Int) := ⟨n.toNat, by have := hk.2.2.1; omega⟩
        exact ⟨_, implHashEnd_yes st rest N hk, specHashEnd_yes st rest N hk⟩
      · exact ⟨_, fun X _ => implHashEnd_no st rest n hk X, specHashEnd_no st rest n hk⟩
    have H1 := Lib.hid hp1
    have H2 := Lib.hid hp2
    clear hp1 hp2 hs ws wr
    go_enter Tryd.func4, Tryd.ntmps4
    go_wp2_with fail
    refine (H0.out _).mono ?_
    rintro e w1 ⟨rfl, hb1⟩
    have A1 := Lib.hid (A0.out.next hb1)
    have c10 := A1.out.c0
    have c11 := A1.out.c1
    have c12 := A1.out.c2
    clear hb1 A0
    go_wp2_with fail
    refine (HT.out _).mono ?_
    rintro e w2 ⟨rfl, hb2⟩
    have A2 := Lib.hid (A1.out.next hb2)
    have c20 := A2.out.c0
    have c21 := A2.out.c1
    have c22 := A2.out.c2
    clear hb2 A1
    go_wp2_with fail
    refine (H2.out _).mono ?_
    rintro e w3 ⟨rfl, hb3⟩
    have A3 := Lib.hid (A2.out.next hb3)
    have c30 := A3.out.c0
    have c31 := A3.out.c1
    have c32 := A3.out.c2
    clear hb3 A2
    go_wp2_with fail
    refine (HT.out _).mono ?_
    rintro e w4 ⟨rfl, hb4⟩
    have A4 := Lib.hid (A3.out.next hb4)
    have c40 := A4.out.c0
    have c41 := A4.out.c1
    have c42 := A4.out.c2
    clear hb4 A3
    go_wp2_with fail
    refine (H1.out _ (HL.out.stays A4.out.below (Nat.le_refl _))).mono ?_
    rintro e w5 ⟨rfl, hb5⟩
    have A5 := Lib.hid (A4.out.next hb5)
    have c50 := A5.out.c0
    have c51 := A5.out.c1
    have c52 := A5.out.c2
    clear hb5 A4
    go_wp2_with fail
    go_ret
    exact ⟨rfl, A5.out.below⟩
  · have H0 := Lib.hid (szHasher_no st rest n (by omega) ws wr)
    clear hs ws wr HT
    go_enter Tryd.func4, Tryd.ntmps4
    go_wp2_with fail
    refine (H0.out _).mono ?_
    rintro e w1 ⟨rfl, hb1⟩
    have A1 := Lib.hid (A0.out.next hb1)
    clear hb1 A0
    go_wp2_with fail
    go_ret
    exact ⟨rfl, A1.out.below⟩

set_option maxRecDepth 100000 in
/-- What the walk gives, for every argument and every world that holds the table. -/
theorem contract (H : Type) (enc : TypeId × Value → H) (W : World) (base : Nat) (args : Array Value) (ds gs : List (DataW H)) (before : List MemPlace)
    (hval : ∀ (j : Nat) t v, Tryd.f4.params[j]? = some t → args[j]? = some v → Value.okWide Tryd.prog W .any base t v)
    (hW : DataW.Whole enc Tryd.prog Tryd.f4.params.toList Rows.fnExactHashEndSpec.vars false W args.toList ds gs before) (hL : laidMetH Tryd.prog Rows.fnExactHashEndRow.laid W) :
    Calls Tryd.prog 4 args W fun e W' => ∃ v, e = .returned v ∧ Rows.fnExactHashEndSpec.post enc Tryd.prog Tryd.f4 false true false false W args v W' := by
  have hW' := hW
  obtain ⟨p, q, hA0, hV, rfl, hfz, hnd⟩ := hW
  have hA : DataW.TrodAll enc Tryd.prog W 0 (fun _ => true) true Tryd.f4.params.toList args.toList ds p := hA0
  have hV' : DataW.TrodVars enc Tryd.prog W (fun _ => true) ["loop.example/g00193/impl.cubeRoots"] gs q := hV
  obtain ⟨g', t', cs, fuel, d', p', rfl, _, _, _, _, _⟩ := trodVars_one hV'
  rw [Tryd.params4] at hA hval
  obtain ⟨v0, vs0, d0, ds0, p0, q0, hargs, rfl, rfl, h0, r0⟩ := trodAll_cons hA
  obtain ⟨rfl, rfl, rfl⟩ := trodAll_nil r0
  obtain rfl : args = #[v0] := by cases args; simp_all
  obtain ⟨st, rest, n, rfl, rfl, ws, wr, hread⟩ := open_hasher (hval 0 23 v0 rfl rfl) h0
  clear hA0
  refine (lawHashEnd st rest n ws wr W (table hL)).mono fun e W' ⟨he, bel⟩ => ?_
  subst he
  exact ⟨_, rfl, _, _, _, [], _, _, hW', trodAll_mk1 (shut_bool Tryd.underlying4 _), (trodAll_cons_mk (hread _ _) trodAll_mk0), bel.trodVars laidOut (by kernel_rfl) hV', bel.frame _, fun h => by cases h⟩

/-- An object whose cells are these. -/
def fill (cs : Array Value) : Obj → Obj
  | .cells _ t frozen => .cells cs t frozen
  | o => o
/-- For the witness: the table holding what its initialiser lays. -/
def laidHeap (h : Array Obj) : Array Obj := h.modify 0 (fill (wcells kTab).toArray)
theorem laid_met (os : Os) : laidMet Tryd.prog Rows.fnExactHashEndRow.laid (({ World.holding Tryd.prog os ⟨#[], #[], []⟩ with heap := laidHeap (World.holding Tryd.prog os ⟨#[], #[], []⟩).heap } : World).forCall (fun _ _ => 0) ⟨#[], #[.agg #[.string ⟨#[]⟩, .string ⟨#[]⟩, .int .i64 0]], []⟩).memory :=
  laidMet_of_run' 8 (by kernel_rfl) (by kernel_rfl)
theorem reads (os : Os) {H : Type} (enc : TypeId × Value → H) : ∃ places, DataW.whole enc Tryd.prog (({ World.holding Tryd.prog os ⟨#[], #[], []⟩ with heap := laidHeap (World.holding Tryd.prog os ⟨#[], #[], []⟩).heap } : World).forCall (fun _ _ => 0) ⟨#[], #[.agg #[.string ⟨#[]⟩, .string ⟨#[]⟩, .int .i64 0]], []⟩).memory Tryd.f4.params.toList Rows.fnExactHashEndSpec.vars false #[.agg #[.string ⟨#[]⟩, .string ⟨#[]⟩, .int .i64 0]].toList 8 = some ([.agg [.lit (.string []), .lit (.string []), .lit (.int .i64 0)]], [Rows.laid_loop_example_g00193_impl_cubeRoots], places) :=
  ⟨MemPlace.row ⟨0, 0, none⟩ 64, by kernel_rfl⟩

set_option maxRecDepth 100000 in
theorem lifted (os : Os) (started : os.Started) (H : Type) (enc : TypeId × Value → H) (F : Stop.Interp) :
    ReturnsInHanded {} Tryd.checked os 4 .any ((OpenSpec.ofChange Rows.fnExactHashEndSpec).preRow enc Tryd.prog Tryd.f4 Rows.fnExactHashEndRow.domain false Rows.fnExactHashEndRow.laid) (((OpenSpec.ofChange Rows.fnExactHashEndSpec).at F).post enc Tryd.prog Tryd.f4 false true false false) := by
  obtain ⟨places, hx⟩ := reads os enc
  refine returnsInHanded_of_row (C := Tryd.checked) (s := OpenSpec.ofChange Rows.fnExactHashEndSpec) own started (by kernel_rfl) Tryd.func4
    (witness_row_at (enc := enc) (C := Tryd.checked) false ({ World.holding Tryd.prog os ⟨#[], #[], []⟩ with heap := laidHeap (World.holding Tryd.prog os ⟨#[], #[], []⟩).heap } : World) #[.agg #[.string ⟨#[]⟩, .string ⟨#[]⟩, .int .i64 0]] rfl (by kernel_rfl) (by kernel_rfl) (by kernel_rfl)
      (OpenSpec.preRow_of_cond 8 hx (by kernel_rfl) (fun k hk => by cases hk) (by kernel_rfl) (laid_met os))) ?_
  intro W base args ds gs before hval hW _ _ _ hL _ _
  exact contract H enc W base args ds gs before hval hW hL

theorem said : Rows.FnExactHashEndSaid :=
  OpenClaim.holds_of_cond 4 Tryd.f4 rfl rfl rfl rfl rfl rfl rfl ⟨rfl, rfl, rfl, rfl, rfl⟩ rfl rfl rfl rfl rfl (by kernel_rfl) Tryd.func4 (by kernel_rfl)
    (of_decide_eq_true (by kernel_rfl)) (by unfold Func.isWrapper; first | (rw [if_pos (by decide +kernel)]; kernel_rfl) | (rw [if_neg (by decide +kernel)]; exact ⟨rfl, rfl⟩))
    (fun os started H enc _ F => by rw [OpenClaim.pre_eq_preRow]; exact lifted os started H enc F)

/-- No parameter wants a stand-in; the program's own looks are as the card says. -/
theorem plain (f : FuncId) (fn : Func) (hf : Tryd.pinned.checked.prog.funcNamed "loop.example/g00193/laws.FnExactHashEnd" = some f) (hfn : Tryd.pinned.checked.prog.funcs[f]? = some fn) :
    false = Tryd.pinned.checked.prog.looks [] ∧ ∀ (j : Nat) t, fn.params[j]? = some t → Tryd.pinned.checked.prog.wantsStandIn t = false := by
  obtain rfl : f = 4 := Option.some.inj ((show Tryd.prog.funcNamed "loop.example/g00193/laws.FnExactHashEnd" = some 4 by kernel_rfl).symm.trans hf) |>.symm
  obtain rfl : fn = Tryd.f4 := (Option.some.inj (Tryd.func4.symm.trans hfn)).symm
  refine ⟨by kernel_rfl, fun j t ht => ?_⟩
  rw [Tryd.params4] at ht
  obtain rfl : t = 23 := by simpa using Array.mem_of_getElem? ht
  exact (show Tryd.prog.wantsStandIn 23 = false by kernel_rfl)

theorem FnExactHashEnd_card : Rows.FnExactHashEndCardSaid :=
  Claim7.holds_tied_plain_at .later [] _ _ _ _ said (fun _ h => by cases h) (by kernel_rfl) (fun _ h => by cases h) fnExactHashEnd_row_tie rfl ⟨rfl, rfl⟩ (by kernel_rfl) rfl plain (by kernel_rfl)

#print axioms FnExactHashEnd_card
end Go.Proofs.YtogmmilfdolpnakDoor

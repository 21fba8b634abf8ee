/-
  Proved: at every line the program's PartsOf answers what the given PartsOf answers, in memory of its own that no later call writes, and the call leaves what was there as it was; the library's tables start as the program's text lays them (the card ties them).
-/
import Derived.Test.YtcnnmpenahihnaiDoorCards
import Derived.Test.YtcnnmpenahihnaiDoorTie
import Derived.Test.YtcnnmpenahihnaiDoorPartsImpl
import Derived.Test.YtcnnmpenahihnaiDoorMarks
import Derived.ProofKit
import Derived.OpenShut
import Derived.ShutString
import Derived.Deep.DeepHandedRow
import Derived.Deep.DeepWitnessRowRef
import Derived.Lib.LaidTab
import Derived.Stop.LaidErr
namespace Go.Proofs.YtcnnmpenahihnaiDoor
open Go.ChangeShapes Go.WideShapes Go.ChangeAt Go.RowKit
open Go.ChangeMaps (open_string shut_string)

theorem gSp : Tryd.prog.globalNamed "strings.asciiSpace" = some 0 := by kernel_rfl

theorem space_below {W W' : World} (h : Lib.TabIs Tryd.prog W "strings.asciiSpace" .u8 Lib.asciiSpaceTab) (hb : Below W.heap.size W W') : Lib.TabIs Tryd.prog W' "strings.asciiSpace" .u8 Lib.asciiSpaceTab := by
  have hlt : 0 < W.heap.size := by
    rcases Nat.lt_or_ge 0 W.heap.size with h' | h'
    · exact h'
    · exfalso
      unfold Lib.TabIs World.var? at h
      rw [gSp] at h
      simp [Array.getElem?_eq_none h'] at h
  exact var?_below hb gSp hlt h

set_option maxRecDepth 100000 in
set_option maxHeartbeats 800000 in
theorem lawPartsOf (s : ByteArray) (w : World) (ht : Lib.TabIs Tryd.prog w "strings.asciiSpace" .u8 Lib.asciiSpaceTab) :
    Calls Tryd.prog 3 #[.string s] w fun e w' => e = .returned (.bool true) ∧ Below w.heap.size w w' := by
  have HT := Lib.hid ht
  clear ht
  by_cases hs : s.size ≤ 1048576
  · obtain ⟨b, ls, hls, h1, h2⟩ := partsOf_both s
    have H1 := Lib.hid h1
    have H2 := Lib.hid h2
    have HLS := Lib.hid hls
    clear h1 h2 hls
    obtain ⟨M, hM0, HM⟩ : ∃ M : Int, 0 ≤ M ∧ Hid (((1 + ls.length : Nat) : Int) = M) := ⟨_, by omega, rfl⟩
    go_enter Tryd.func3, Tryd.ntmps3
    go_wp2_with fail
    refine (H1.out _).mono ?_
    rintro e w1 ⟨vw, rfl, ow1, b1⟩
    have OW1 := Lib.hid ow1
    have B1 := Lib.hid b1
    clear ow1 b1
    go_wp2_with fail
    refine (H2.out _ (space_below HT.out B1.out)).mono ?_
    rintro e w2 ⟨vg, rfl, og2, b2⟩
    have OG2 := Lib.hid og2
    have B2 := Lib.hid b2
    clear og2 b2
    go_wp2_with fail
    refine (eqStringS_same vg vw ls (by have := HLS.out; omega) _ _ _ OG2.out (OW1.out.below B2.out)).mono ?_
    rintro e w3 ⟨rfl, b3⟩
    have B3 := Lib.hid b3
    clear b3
    go_wp2_with fail
    refine (markStringS_any 1 (by omega) vg ls (by have := HLS.out; omega) w1.heap.size _ (by have h2 := B2.out.size; have h3 := B3.out.size; omega) (OG2.out.below B3.out)).mono ?_
    rintro e w4 ⟨he4, og4, b4⟩
    rw [HM.out] at he4
    subst he4
    have OG4 := Lib.hid og4
    have B4 := Lib.hid b4
    clear og4 b4
    go_wp2_with fail
    refine (heldStringS_any 1 (by omega) vg ls.length (by have := HLS.out; omega) w1.heap.size _ OG4.out).mono ?_
    rintro e w5 ⟨he5, b5⟩
    rw [HM.out] at he5
    subst he5
    have B5 := Lib.hid b5
    clear b5
    have B15 : Hid (Below w1.heap.size w1 w5) := by
      have s2 := B2.out.size
      have s3 := B3.out.size
      have s4 := B4.out.size
      exact ((B2.out.trans (B3.out.mono s2)).trans B4.out).trans (B5.out.mono (by omega))
    have BW5 : Hid (Below w.heap.size w w5) := B1.out.trans (B15.out.mono B1.out.size)
    go_wp2_with fail
    refine (H2.out _ (space_below HT.out BW5.out)).mono ?_
    rintro e w6 ⟨vh, rfl, oh6, b6⟩
    have OH6 := Lib.hid oh6
    have B6 := Lib.hid b6
    clear oh6 b6
    go_wp2_with fail
    refine (eqStringS_same vh vw ls (by have := HLS.out; omega) _ _ _ OH6.out (OW1.out.below (B15.out.trans (B6.out.mono B15.out.size)))).mono ?_
    rintro e w7 ⟨rfl, b7⟩
    have B7 := Lib.hid b7
    clear b7
    have B47 : Hid (Below w4.heap.size w4 w7) := by
      have s5 := B5.out.size
      have s6 := B6.out.size
      exact (B5.out.trans (B6.out.mono s5)).trans (B7.out.mono (by omega))
    go_wp2_with fail
    refine (heldStringS_any 1 (by omega) vg ls.length (by have := HLS.out; omega) w1.heap.size _ (OG4.out.below B47.out)).mono ?_
    rintro e w8 ⟨he8, b8⟩
    rw [HM.out] at he8
    subst he8
    go_wp2
    go_ret
    refine ⟨rfl, ?_⟩
    have s5 := BW5.out.size
    have s6 := B6.out.size
    have s7 := B7.out.size
    exact ((BW5.out.trans (B6.out.mono s5)).trans (B7.out.mono (by omega))).trans (b8.mono (by omega))
  · go_enter Tryd.func3, Tryd.ntmps3
    go_wp2
    go_ret
    exact ⟨rfl, Below.refl _ _⟩

theorem own : ownKnob Tryd.prog.godebug = none := by kernel_rfl
theorem gSpType : (Tryd.prog.globals[0]?).map (·.type) = some 31 := by kernel_rfl
theorem cellsSp : Tryd.prog.cellsOf 31 = 256 := by kernel_rfl
theorem cellsByte : Tryd.prog.cellsOf 5 = 1 := by kernel_rfl

theorem space_data : Rows.laid_strings_asciiSpace (H := Unit) = Lib.tabData .u8 Lib.asciiSpaceTab := by kernel_rfl

/-- What the row's list gives: the table's cells tell which bytes are blanks. -/
theorem table {W : World} (h : laidMetH Tryd.prog Rows.fnExactPartsOfRow.laid W) : Lib.TabIs Tryd.prog W "strings.asciiSpace" .u8 Lib.asciiSpaceTab := by
  have h1 : laidMet Tryd.prog [("unicode.White_Space", Rows.laid_unicode_White_Space), ("strings.asciiSpace", Rows.laid_strings_asciiSpace)] W := h
  rw [space_data] at h1
  exact Lib.tabIs_of_head (rest := []) gSp gSpType Tryd.underlying31 Tryd.underlying5 cellsByte cellsSp (laidMet.tail h1)

/-- What the walk gives, for every argument and every world that holds the tables. -/
theorem contract (H : Type) (enc : TypeId × Value → H) (W : World) (base : Nat) (args : Array Value) (ds gs : List (DataW H)) (before : List MemPlace)
    (hval : ∀ (j : Nat) t v, Tryd.f3.params[j]? = some t → args[j]? = some v → Value.okWide Tryd.prog W .any base t v)
    (hW : DataW.Whole enc Tryd.prog Tryd.f3.params.toList Rows.fnExactPartsOfSpec.vars false W args.toList ds gs before) (hL : laidMetH Tryd.prog Rows.fnExactPartsOfRow.laid W) :
    Calls Tryd.prog 3 args W fun e W' => ∃ v, e = .returned v ∧ Rows.fnExactPartsOfSpec.post enc Tryd.prog Tryd.f3 false true false false W args v W' := by
  have hW' := hW
  obtain ⟨p, q, hA0, hV, rfl, hfz, hnd⟩ := hW
  have hA : DataW.TrodAll enc Tryd.prog W 0 (fun _ => true) true Tryd.f3.params.toList args.toList ds p := hA0
  rw [Tryd.params3] at hA hval
  obtain ⟨v0, vs0, d0, ds0, p0, q0, hargs, rfl, rfl, h0, r0⟩ := trodAll_cons hA
  obtain ⟨rfl, rfl, rfl⟩ := trodAll_nil r0
  obtain rfl : args = #[v0] := by cases args; simp_all
  obtain ⟨rfl, rfl⟩ := trodVars_none hV
  obtain ⟨s0, rfl, rfl, rfl, ws0⟩ := open_string Tryd.underlying9 (hval 0 9 v0 rfl rfl) h0
  clear hA0
  refine (lawPartsOf s0 W (table hL)).mono fun e W' ⟨he, bel⟩ => ?_
  subst he
  exact ⟨_, rfl, _, _, _, [], _, [], hW', trodAll_mk1 (shut_bool Tryd.underlying4 _), (trodAll_cons_mk (shut_string Tryd.underlying9 ws0) trodAll_mk0), rfl, bel.frame _, fun h => by cases h⟩

/-- An object whose cells are these. -/
def fill (cs : Array Value) : Obj → Obj
  | .cells _ t frozen => .cells cs t frozen
  | o => o
/-- For the witness: the ranges of blanks, and the table that has them. -/
def blocks (n : Nat) : Array Obj := #[.cells (Lib.whiteT.map fun (z : Nat) => Value.int .u16 (z : Int)).toArray 48, .cells #[.slice (some ⟨n, 0, none⟩) 7 7, .slice none 0 0, .int .i64 2] 45]
/-- For the witness: each variable holding what its initialiser lays. -/
def laidHeap (n : Nat) (h : Array Obj) : Array Obj :=
  (h.modify 0 (fill (Lib.asciiSpaceTab.map fun z => Value.int .u8 z).toArray)).modify 1 (fill #[.pointer (some ⟨n + 1, 0, none⟩)])
theorem laid_met (os : Os) : laidMet Tryd.prog Rows.fnExactPartsOfRow.laid (({ World.holding Tryd.prog os ⟨blocks (World.settled Tryd.prog os).heap.size, #[], []⟩ with heap := laidHeap (World.settled Tryd.prog os).heap.size (World.holding Tryd.prog os ⟨blocks (World.settled Tryd.prog os).heap.size, #[], []⟩).heap } : World).forCall (fun _ _ => 0) ⟨#[], #[.string ⟨#[]⟩], []⟩).memory :=
  laidMet_of_run' 10 (by kernel_rfl) (by kernel_rfl)
theorem reads (os : Os) {H : Type} (enc : TypeId × Value → H) : ∃ places, DataW.whole enc Tryd.prog (({ World.holding Tryd.prog os ⟨blocks (World.settled Tryd.prog os).heap.size, #[], []⟩ with heap := laidHeap (World.settled Tryd.prog os).heap.size (World.holding Tryd.prog os ⟨blocks (World.settled Tryd.prog os).heap.size, #[], []⟩).heap } : World).forCall (fun _ _ => 0) ⟨#[], #[.string ⟨#[]⟩], []⟩).memory Tryd.f3.params.toList Rows.fnExactPartsOfSpec.vars false #[Value.string ⟨#[]⟩].toList 8 = some ([.lit (.string [])], [], places) :=
  ⟨[], by kernel_rfl⟩

set_option maxRecDepth 100000 in
theorem lifted (os : Os) (started : os.Started) (H : Type) (enc : TypeId × Value → H) (F : Stop.Interp) :
    ReturnsInHanded {} Tryd.checked os 3 .any ((OpenSpec.ofChange Rows.fnExactPartsOfSpec).preRow enc Tryd.prog Tryd.f3 Rows.fnExactPartsOfRow.domain false Rows.fnExactPartsOfRow.laid) (((OpenSpec.ofChange Rows.fnExactPartsOfSpec).at F).post enc Tryd.prog Tryd.f3 false true false false) := by
  obtain ⟨places, hx⟩ := reads os enc
  refine returnsInHanded_of_row (C := Tryd.checked) (s := OpenSpec.ofChange Rows.fnExactPartsOfSpec) own started (by kernel_rfl) Tryd.func3
    (witness_row_atRef (enc := enc) (C := Tryd.checked) false ({ World.holding Tryd.prog os ⟨blocks (World.settled Tryd.prog os).heap.size, #[], []⟩ with heap := laidHeap (World.settled Tryd.prog os).heap.size (World.holding Tryd.prog os ⟨blocks (World.settled Tryd.prog os).heap.size, #[], []⟩).heap } : World) #[.string ⟨#[]⟩] rfl (by kernel_rfl) (by kernel_rfl) (by kernel_rfl)
      (OpenSpec.preRow_of_cond 8 hx (by kernel_rfl) (fun k hk => by cases hk) (by kernel_rfl) (laid_met os))) ?_
  intro W base args ds gs before hval hW _ _ _ hL _ _
  exact contract H enc W base args ds gs before hval hW hL

theorem said : Rows.FnExactPartsOfSaid :=
  OpenClaim.holds_of_cond 3 Tryd.f3 rfl rfl rfl rfl rfl rfl rfl ⟨rfl, rfl, rfl, rfl, rfl⟩ rfl rfl rfl rfl rfl (by kernel_rfl) Tryd.func3 (by kernel_rfl)
    (of_decide_eq_true (by kernel_rfl)) (by unfold Func.isWrapper; first | (rw [if_pos (by decide +kernel)]; kernel_rfl) | (rw [if_neg (by decide +kernel)]; exact ⟨rfl, rfl⟩))
    (fun os started H enc _ F => by rw [OpenClaim.pre_eq_preRow]; exact lifted os started H enc F)

/-- No parameter wants a stand-in; the program's own looks are off. -/
theorem plain (f : FuncId) (fn : Func) (hf : Tryd.pinned.checked.prog.funcNamed "loop.example/g00193/laws.FnExactPartsOf" = some f) (hfn : Tryd.pinned.checked.prog.funcs[f]? = some fn) :
    false = Tryd.pinned.checked.prog.looks [] ∧ ∀ (j : Nat) t, fn.params[j]? = some t → Tryd.pinned.checked.prog.wantsStandIn t = false := by
  obtain rfl : f = 3 := Option.some.inj ((show Tryd.prog.funcNamed "loop.example/g00193/laws.FnExactPartsOf" = some 3 by kernel_rfl).symm.trans hf) |>.symm
  obtain rfl : fn = Tryd.f3 := (Option.some.inj (Tryd.func3.symm.trans hfn)).symm
  refine ⟨by kernel_rfl, fun j t ht => ?_⟩
  rw [Tryd.params3] at ht
  obtain rfl : t = 9 := by simpa using Array.mem_of_getElem? ht
  exact (show Tryd.prog.wantsStandIn 9 = false by kernel_rfl)

theorem FnExactPartsOf_card : Rows.FnExactPartsOfCardSaid :=
  Claim7.holds_tied_plain_at .later [] _ _ _ _ said (fun _ h => by cases h) (by kernel_rfl) (fun _ h => by cases h) fnExactPartsOf_row_tie rfl ⟨rfl, rfl⟩ (by kernel_rfl) rfl plain (by kernel_rfl)

#print axioms FnExactPartsOf_card
end Go.Proofs.YtcnnmpenahihnaiDoor

/-
  The given marks that are written into a row of texts and looked for again, and the given comparison of two rows.
-/
import Derived.Test.YtcnnmpenahihnaiDoorRows
import Derived.Test.YtcnnmpenahihnaiDoorKitS
import Derived.Test.YtcnnmpenahihnaiDoorPlainDec
import Derived.BigQuiet
import Derived.Deep.QuietTactic
import Derived.Deep.RegionHeld3
namespace Go.Proofs.YtcnnmpenahihnaiDoor
open Go.RowKit

theorem ret_int {k : IntKind} {a b : Int} (h : a = b) : Ending.returned (.int k a) = .returned (.int k b) := by rw [h]

/-- The mark of a number. -/
def mark (k : Nat) : List UInt8 := 109 :: digs k

set_option maxRecDepth 100000 in
set_option maxHeartbeats 400000 in
theorem markText_any (N : Nat) (h1 : 1 ≤ N) (h2 : N ≤ 1000000000) (w : World) :
    Calls Tryd.prog 12 #[.int .i64 N] w fun e w' => e = .returned (.string ⟨(mark N).toArray⟩) ∧ Below w.heap.size w w' := by
  have g0 : ¬ (N : Int) ≤ 0 := by omega
  have hdl := digs_length N (by omega)
  have hz109 := size_list [109]
  go_enter Tryd.func12, Tryd.ntmps12
  go_wp2
  go_loopw [0, 3] (fun n s wr => ∃ (m : Nat) (t : List UInt8), m ≤ N ∧ n = .int .i64 m ∧ s = .string ⟨t.toArray⟩ ∧ Hid (digs m ++ t = digs N) ∧ t.length ≤ 21 ∧ Below w.heap.size w wr) (fun n _ _ => (intOf n).toNat)
  case atStart => exact ⟨N, [], Nat.le_refl _, rfl, rfl, List.append_nil _, by simp, Below.refl _ _⟩
  case round =>
    obtain ⟨m, t, hm, rfl, rfl, HD, htl, hnx⟩ := hrel
    have hsz := hnx.size
    have hz := size_list t
    by_cases hm0 : m = 0
    · subst hm0
      go_wp2
      go_ret
      refine ⟨?_, hnx⟩
      have hd := HD.out
      unfold mark
      rw [← hd]
      exact congrArg (fun x => Ending.returned (Value.string x)) (cat_list [109] t)
    · have hst := digs_step m (by omega)
      have hcv := fun b => run_string_one (P := Tryd.prog) wr 34 9 5 Tryd.underlying34 Tryd.underlying5 Tryd.underlying9 b
      have hz1 := fun b => size_list [b]
      obtain ⟨b, hb, HB⟩ : ∃ b : UInt8, 48 + (m : Int) % 10 = (b.toNat : Int) ∧ Hid (b = fig (m % 10)) := ⟨_, by rw [fig_toNat _ (by omega), if_pos (by omega)]; omega, rfl⟩
      have HS := Lib.hid hst
      clear hst
      go_wp2
      go_roundw
      case rel =>
        have hn := HD.out
        rw [HS.out, List.append_assoc] at hn
        refine ⟨m / 10, b :: t, by omega, int_eq (by omega), congrArg Value.string (cat_list [b] t), ?_, ?_, hnx.alloc hsz _⟩
        · rw [HB.out]; exact hn
        · have h3 := congrArg List.length hn
          simp only [List.length_append, List.length_cons, List.length_nil] at h3 ⊢
          omega
      case measure => simp [intOf]; omega

/-- The marks of n numbers from k on. -/
def marks (k n : Nat) : List (List UInt8) := (List.range n).map fun i => mark (k + i)

theorem marks_length (k n : Nat) : (marks k n).length = n := by simp [marks]

theorem marks_at (k n i : Nat) (h : i < n) : (marks k n).getD i [] = mark (k + i) := by simp [marks, h]

theorem marks_set (k i : Nat) (ls : List (List UInt8)) (h : i < ls.length) : (marks k i ++ ls.drop i).set i (mark (k + i)) = marks k (i + 1) ++ ls.drop (i + 1) := by
  have e1 : marks k (i + 1) = marks k i ++ [mark (k + i)] := by simp [marks, List.range_succ]
  rw [List.set_append_right _ _ (by rw [marks_length]; exact Nat.le_refl _), marks_length, Nat.sub_self, List.drop_eq_getElem_cons h, e1, List.append_assoc]
  rfl

set_option maxRecDepth 100000 in
set_option maxHeartbeats 400000 in
theorem markStringS_any (k : Nat) (hk : 1 ≤ k) (v : Value) (ls : List (List UInt8)) (hn : k + ls.length ≤ 1000000) (base : Nat) (w : World) (hbase : base ≤ w.heap.size) (hown : OwnS w base 9 v ls) :
    Calls Tryd.prog 7 #[v, .int .i64 k] w fun e w' => e = .returned (.int .i64 ((k + ls.length : Nat) : Int)) ∧ OwnS w' base 9 v (marks k ls.length) ∧ Below base w w' := by
  obtain ⟨ao, cap, rfl, _⟩ := hown.form
  have HO := Lib.hid hown
  clear hown
  go_enter Tryd.func7, Tryd.ntmps7
  go_wp2
  go_loopw [1, 5] (fun kk c wr => ∃ i : Nat, i ≤ ls.length ∧ c = .int .i64 i ∧ kk = .int .i64 ((k : Int) + i) ∧ OwnS wr base 9 (.slice ao ls.length cap) (marks k i ++ ls.drop i) ∧ Below base w wr) (fun _ c _ => ls.length - (intOf c).toNat)
  case atStart => exact ⟨0, Nat.zero_le _, rfl, int_eq (by omega), HO.out, Below.refl _ _⟩
  case round =>
    obtain ⟨i, hi, rfl, rfl, hown, hnx⟩ := hrel
    have hsz := hnx.size
    by_cases hlt : i < ls.length
    · have hlen : (marks k i ++ ls.drop i).length = ls.length := by rw [List.length_append, marks_length, List.length_drop]; omega
      obtain ⟨ao', cap', ev, hform⟩ := hown.form
      obtain ⟨g, rfl, hg, hgs, _⟩ := hform (by omega)
      rw [hlen] at ev
      simp only [Value.slice.injEq, true_and] at ev
      obtain ⟨rfl, rfl⟩ := ev
      have hlt2 : (i : Int) < (ls.length : Int) := by omega
      have hki : ((k : Int) + i) = ((k + i : Nat) : Int) := by omega
      have HL := Lib.hid hlen
      have HOW := Lib.hid hown
      clear hform hlen hown
      rw [hki]
      have HK := Lib.hid hki
      clear hki
      have HC := Lib.hid (fun w => markText_any (k + i) (by omega) (by omega) w)
      go_wp2_with fail
      refine (HC.out _).mono ?_
      rintro e w1 ⟨rfl, hb1⟩
      have hown1 := HOW.out.below hb1
      obtain ⟨ao2, cap2, ev2, hform2⟩ := hown1.form
      obtain ⟨g2, rfl, _, _, hcc⟩ := hform2 (by have := HL.out; omega)
      simp only [Value.slice.injEq, Option.some.injEq, Addr.mk.injEq, and_true] at ev2
      obtain ⟨rfl, -, rfl⟩ := ev2
      obtain ⟨u0, hc0⟩ : ∃ u0, w1.cell? ⟨g, i, none⟩ = some (.string u0) := ⟨_, (hcc i (by have := HL.out; omega)).1⟩
      have hf0 := (hcc i (by have := HL.out; omega)).2
      have HO1 := Lib.hid hown1
      clear hcc hform2 hown1
      go_wp2
      go_roundw
      case rel =>
        refine ⟨i + 1, by omega, by go_num, int_eq (by omega), ?_, ?_⟩
        · rw [← marks_set k i ls hlt]
          exact OwnS.stored HL.out.symm HO1.out i (mark (k + i))
        · exact (hnx.trans (hb1.mono (by omega))).setCell hg _
      case measure => simp [intOf]; omega
    · have hi2 : i = ls.length := by omega
      have HI := Lib.hid hi2
      clear hi2
      go_wp2
      go_ret
      refine ⟨ret_int (by have := HI.out; omega), ?_, hnx⟩
      rw [HI.out, List.drop_of_length_le (Nat.le_refl _), List.append_nil] at hown
      exact hown

set_option maxRecDepth 100000 in
set_option maxHeartbeats 400000 in
theorem heldStringS_any (k : Nat) (hk : 1 ≤ k) (v : Value) (n : Nat) (hn : k + n ≤ 1000000) (base : Nat) (w : World) (hown : OwnS w base 9 v (marks k n)) :
    Calls Tryd.prog 8 #[v, .int .i64 k] w fun e w' => e = .returned (.int .i64 ((k + n : Nat) : Int)) ∧ Below w.heap.size w w' := by
  obtain ⟨ao, cap, hv, hform⟩ := hown.form
  rw [marks_length] at hv hform
  subst hv
  have HF := Lib.hid hform
  clear hform hown
  go_enter Tryd.func8, Tryd.ntmps8
  go_wp2
  go_loopw [1, 5] (fun kk c wr => ∃ i : Nat, i ≤ n ∧ c = .int .i64 i ∧ kk = .int .i64 ((k : Int) + i) ∧ Below w.heap.size w wr) (fun _ c _ => n - (intOf c).toNat)
  case atStart => exact ⟨0, Nat.zero_le _, rfl, int_eq (by omega), Below.refl _ _⟩
  case round =>
    obtain ⟨i, hi, rfl, rfl, hnx⟩ := hrel
    have hsz := hnx.size
    by_cases hlt : i < n
    · obtain ⟨g, rfl, hg, hgs, hcc⟩ := HF.out (by omega)
      have hc0 := (hcc i hlt).1
      rw [marks_at k n i hlt] at hc0
      have hc1 : wr.cell? ⟨g, i, none⟩ = some (.string ⟨(mark (k + i)).toArray⟩) := (hnx.cell (p := ⟨g, i, none⟩) hgs).trans hc0
      have hgs2 : g < wr.heap.size := by omega
      have hlt2 : (i : Int) < (n : Int) := by omega
      have hki : ((k : Int) + i) = ((k + i : Nat) : Int) := by omega
      rw [hki]
      clear hki hcc hc0
      have HC := Lib.hid (fun w => markText_any (k + i) (by omega) (by omega) w)
      generalize hM : mark (k + i) = M at *
      clear hM
      go_wp2
      go_region_held3 (fun W => W.cell? ⟨g, i, none⟩ = some (.string ⟨M.toArray⟩)) (go_keep) (first | (go_at_call 12; refine (HC.out _).mono ?_; rintro e w1 ⟨rfl, hb1⟩; have k0 := (hb1.cell (p := ⟨g, i, none⟩) hgs2).trans hc1))
      all_goals
        go_wp2
        go_roundw
        case rel => exact ⟨i + 1, by omega, by go_num, int_eq (by omega), hnx.trans ((below_undrew hb1).mono hsz)⟩
        case measure => simp [intOf]; omega
    · have hi2 : i = n := by omega
      have HI := Lib.hid hi2
      clear hi2
      go_wp2
      go_ret
      exact ⟨ret_int (by have := HI.out; omega), hnx⟩

set_option maxRecDepth 100000 in
set_option maxHeartbeats 400000 in
theorem eqStringS_same (va vb : Value) (ls : List (List UInt8)) (hn : ls.length ≤ 1000000) (ba bb : Nat) (w : World) (ha : OwnS w ba 9 va ls) (hb : OwnS w bb 9 vb ls) :
    Calls Tryd.prog 6 #[va, vb] w fun e w' => e = .returned (.bool true) ∧ Below w.heap.size w w' := by
  obtain ⟨ao, ca, rfl, hfa⟩ := ha.form
  obtain ⟨bo, cb, rfl, hfb⟩ := hb.form
  have HA := Lib.hid hfa
  have HB := Lib.hid hfb
  clear hfa hfb ha hb
  go_enter Tryd.func6, Tryd.ntmps6
  go_wp2
  go_loopw [5] (fun c wr => ∃ i : Nat, i ≤ ls.length ∧ c = .int .i64 i ∧ Below w.heap.size w wr) (fun c _ => ls.length - (intOf c).toNat)
  case atStart => exact ⟨0, Nat.zero_le _, rfl, Below.refl _ _⟩
  case round =>
    obtain ⟨i, hi, rfl, hnx⟩ := hrel
    by_cases hlt : i < ls.length
    · obtain ⟨g, rfl, hg, hgs, hcc⟩ := HA.out (by omega)
      obtain ⟨g', rfl, hg', hgs', hcc'⟩ := HB.out (by omega)
      have hc0 := (hnx.cell (p := ⟨g, i, none⟩) hgs).trans (hcc i hlt).1
      have hc1 := (hnx.cell (p := ⟨g', i, none⟩) hgs').trans (hcc' i hlt).1
      have hlt2 : (i : Int) < (ls.length : Int) := by omega
      clear hcc hcc'
      generalize ls.getD i [] = M at *
      go_wp2
      go_quiet (fail)
      go_wp2
      go_roundw
      case rel => exact ⟨i + 1, by omega, by go_num, below_drewN hnx _⟩
      case measure => simp [intOf]; omega
    · go_wp2
      go_ret
      exact ⟨rfl, hnx⟩

end Go.Proofs.YtcnnmpenahihnaiDoor

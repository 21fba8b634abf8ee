/-
  ReadShort, the given one and the program's, answer one value at every text and place.
-/
import Derived.Test.YtcnnmpenahihnahReadVarBoth
import Derived.Test.YtcnnmpenahihnahShelf
namespace Go.Proofs.Ytcnnmpenahihnah
open Go.RowKit

theorem clone_any (s : ByteArray) (hs : s.size ≤ 1048576) (w : World) :
    Calls Try.prog 22 #[.string s] w fun e w' => e = .returned (.string s) ∧ Below w.heap.size w w' := by
  have H := Lib.hid (fun w => Try.stringslite_Clone s w (by omega))
  go_enter Try.func22, Try.ntmps22
  go_wp2_with fail
  refine (H.out _).mono ?_
  rintro e w1 ⟨rfl, hb1⟩
  go_wp2
  go_ret
  exact ⟨rfl, hb1⟩

theorem size_cut (s : ByteArray) (a b : Nat) (hs : s.size ≤ 1048576) : (s.extract a b).size ≤ 1048576 := by
  simp
  omega

set_option maxHeartbeats 400000 in
theorem readShort_both (s : ByteArray) (hs : s.size ≤ 1048576) (p : Int) : ∃ (t : ByteArray) (q : Int) (b : Bool),
    (∀ w, Calls Try.prog 10 #[.string s, .int .i64 p] w fun e w' => e = .returned (.tuple #[.string t, .int .i64 q, .bool b]) ∧ Below w.heap.size w w') ∧
    (∀ w, Calls Try.prog 11 #[.string s, .int .i64 p] w fun e w' => e = .returned (.tuple #[.string t, .int .i64 q, .bool b]) ∧ Below w.heap.size w w') := by
  obtain ⟨n, q, b, hq, h1, h2⟩ := readVar_both s hs p
  have H1 := Lib.hid h1
  have H2 := Lib.hid h2
  clear h1 h2
  cases b with
  | false =>
    clear hq
    refine ⟨⟨#[]⟩, 0, false, fun w => ?_, fun w => ?_⟩
    · go_enter Try.func10, Try.ntmps10
      go_wp2_with fail
      refine (H1.out _).mono ?_
      rintro e w1 ⟨rfl, hb1⟩
      go_wp2
      go_ret3
      exact ⟨rfl, hb1⟩
    · go_enter Try.func11, Try.ntmps11
      go_wp2_with fail
      refine (H2.out _).mono ?_
      rintro e w1 ⟨rfl, hb1⟩
      go_wp2
      go_ret3
      exact ⟨rfl, hb1⟩
  | true =>
    obtain ⟨n0, n1, q0, q1⟩ := hq rfl
    clear hq
    by_cases hbig : 20000 < n
    · have hd : decide (20000 < n) = true := decide_eq_true hbig
      refine ⟨⟨#[]⟩, 0, false, fun w => ?_, fun w => ?_⟩
      · go_enter Try.func10, Try.ntmps10
        go_wp2_with fail
        refine (H1.out _).mono ?_
        rintro e w1 ⟨rfl, hb1⟩
        go_wp2
        go_ret3
        exact ⟨rfl, hb1⟩
      · go_enter Try.func11, Try.ntmps11
        go_wp2_with fail
        refine (H2.out _).mono ?_
        rintro e w1 ⟨rfl, hb1⟩
        go_wp2
        go_ret3
        exact ⟨rfl, hb1⟩
    · have hd : decide (20000 < n) = false := decide_eq_false hbig
      by_cases hlong : (s.size : Int) - q < n
      · have hd2 : decide ((s.size : Int) - q < n) = true := decide_eq_true hlong
        refine ⟨⟨#[]⟩, 0, false, fun w => ?_, fun w => ?_⟩
        · go_enter Try.func10, Try.ntmps10
          go_wp2_with fail
          refine (H1.out _).mono ?_
          rintro e w1 ⟨rfl, hb1⟩
          go_wp2
          go_ret3
          exact ⟨rfl, hb1⟩
        · go_enter Try.func11, Try.ntmps11
          go_wp2_with fail
          refine (H2.out _).mono ?_
          rintro e w1 ⟨rfl, hb1⟩
          go_wp2
          go_ret3
          exact ⟨rfl, hb1⟩
      · have hd2 : decide ((s.size : Int) - q < n) = false := decide_eq_false hlong
        refine ⟨s.extract q.toNat (q + n).toNat, q + n, true, fun w => ?_, fun w => ?_⟩
        · go_enter Try.func10, Try.ntmps10
          go_wp2_with fail
          refine (H1.out _).mono ?_
          rintro e w1 ⟨rfl, hb1⟩
          go_wp2
          go_ret3
          exact ⟨rfl, hb1⟩
        · have HC := Lib.hid (fun w => clone_any (s.extract q.toNat (q + n).toNat) (size_cut s _ _ hs) w)
          go_enter Try.func11, Try.ntmps11
          go_wp2_with fail
          refine (H2.out _).mono ?_
          rintro e w1 ⟨rfl, hb1⟩
          go_wp2_with fail
          refine (HC.out _).mono ?_
          rintro e w2 ⟨rfl, hb2⟩
          go_wp2
          go_ret3
          exact ⟨rfl, hb1.trans (hb2.mono hb1.size)⟩

end Go.Proofs.Ytcnnmpenahihnah

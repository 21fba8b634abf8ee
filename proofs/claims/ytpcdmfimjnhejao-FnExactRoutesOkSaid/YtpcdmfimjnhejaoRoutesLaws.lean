/-
  The exact laws of chapter 9, out of the program's contracts; a route and a prefix as arguments.
-/
import Derived.Test.YtpcdmfimjnhejaoRoutesImpl
import Derived.Test.YtpcdmfimjnhejaoExactRoutes
import Derived.Test.YtpcdmfimjnhejaoLawRoutesWalk
namespace Go.Proofs.Ytpcdmfimjnhejao
open Go.ChangeShapes Go.WideShapes Go.ChangeAt Go.RowKit

set_option maxRecDepth 100000 in
/-- A prefix, opened: its two parts, and how it is read again in every world. -/
theorem open_prefR {H : Type} {enc : TypeId × Value → H} {W : World} {r : Reach} {base : Nat} {v : Value} {d : DataW H} {p : List MemPlace}
    (hok : Value.okWide Try.prog W r base 30 v) (h : DataW.Trod enc Try.prog W 0 (fun _ => true) true 30 v d p) :
    ∃ a n : Int, v = .agg #[.int .i64 a, .int .i64 n] ∧ p = [] ∧ (Lit.int .i64 a).wf = true ∧ (Lit.int .i64 n).wf = true ∧
      ∀ (W' : World) (sp : Nat → Bool), DataW.Trod enc Try.prog W' 0 sp true 30 v d [] := by
  obtain ⟨cs, rfl, hsz⟩ := okWide_struct Try.underlying30 hok
  rw [lawPrefCells] at hsz
  obtain ⟨l⟩ := cs
  match l, hsz with
  | [c0, c1], _ =>
  obtain ⟨fuel, hf⟩ := h
  obtain ⟨xs, m, _, hx, _, hlen, hp⟩ := DataW.trod_struct Try.underlying30 hf
  match xs, hlen with
  | [y0, y1], _ =>
  have g0 := hp 0 _ rfl
  have g1 := hp 1 _ rfl
  obtain ⟨a, e0, f0, w0⟩ := DataW.trod_int Try.underlying3 (by simpa [lawIntCells] using g0)
  obtain ⟨n, e1, f1, w1⟩ := DataW.trod_int Try.underlying3 (by simpa [lawIntCells] using g1)
  simp [Value.cells] at e0 e1
  subst e0 e1
  subst f0 f1
  simp at hx
  obtain ⟨rfl, rfl⟩ := hx
  refine ⟨a, n, rfl, rfl, w0, w1, fun W' sp => ⟨2, ?_⟩⟩
  have k0 : DataW.trod enc Try.prog W' 0 sp true 1 3 [.int .i64 a] = some (.lit (.int .i64 a), []) := by simp [DataW.trod, Try.underlying3, w0]
  have k1 : DataW.trod enc Try.prog W' 0 sp true 1 3 [.int .i64 n] = some (.lit (.int .i64 n), []) := by simp [DataW.trod, Try.underlying3, w1]
  have := trod_struct_mk (enc := enc) (w := W') (base := 0) (spare := sp) (held := true) (n := 1) (cs := [.int .i64 a, .int .i64 n]) (xs := [(.lit (.int .i64 a), []), (.lit (.int .i64 n), [])]) Try.underlying30 (by simp [lawPrefCells])
    (by simp [lawIntCells, k0, k1])
  simpa [Value.cells] using this

set_option maxRecDepth 100000 in
/-- A route, opened: its three numbers, and how it is read again in every world. -/
theorem open_route {H : Type} {enc : TypeId × Value → H} {W : World} {r : Reach} {base : Nat} {v : Value} {d : DataW H} {p : List MemPlace}
    (hok : Value.okWide Try.prog W r base 32 v) (h : DataW.Trod enc Try.prog W 0 (fun _ => true) true 32 v d p) :
    ∃ a n t : Int, v = .agg #[.int .i64 a, .int .i64 n, .int .i64 t] ∧ p = [] ∧ (Lit.int .i64 a).wf = true ∧ (Lit.int .i64 n).wf = true ∧
      ∀ (W' : World) (sp : Nat → Bool), DataW.Trod enc Try.prog W' 0 sp true 32 v d [] := by
  obtain ⟨cs, rfl, hsz⟩ := okWide_struct Try.underlying32 hok
  rw [lawRouteCells] at hsz
  obtain ⟨l⟩ := cs
  match l, hsz with
  | [c0, c1, c2], _ =>
  obtain ⟨fuel, hf⟩ := h
  obtain ⟨xs, m, _, hx, _, hlen, hp⟩ := DataW.trod_struct Try.underlying32 hf
  match xs, hlen with
  | [y0, y1], _ =>
  have g0 := hp 0 _ rfl
  have g1 := hp 1 _ rfl
  obtain ⟨zs, m2, _, hx2, _, hlen2, hp2⟩ := DataW.trod_struct Try.underlying30 (by simpa [lawPrefCells, Value.cells] using g0)
  match zs, hlen2 with
  | [z0, z1], _ =>
  have g2 := hp2 0 _ rfl
  have g3 := hp2 1 _ rfl
  obtain ⟨a, e0, f0, w0⟩ := DataW.trod_int Try.underlying3 (by simpa [lawIntCells] using g2)
  obtain ⟨n, e1, f1, w1⟩ := DataW.trod_int Try.underlying3 (by simpa [lawIntCells] using g3)
  obtain ⟨t, e2, f2, w2⟩ := DataW.trod_int Try.underlying3 (by simpa [lawIntCells, Value.cells] using g1)
  simp at e0 e1 e2
  subst e0 e1 e2
  subst f0 f1 f2
  simp at hx2
  subst hx2
  simp at hx
  obtain ⟨rfl, rfl⟩ := hx
  refine ⟨a, n, t, rfl, rfl, w0, w1, fun W' sp => ⟨3, ?_⟩⟩
  have k0 : DataW.trod enc Try.prog W' 0 sp true 1 3 [.int .i64 a] = some (.lit (.int .i64 a), []) := by simp [DataW.trod, Try.underlying3, w0]
  have k1 : DataW.trod enc Try.prog W' 0 sp true 1 3 [.int .i64 n] = some (.lit (.int .i64 n), []) := by simp [DataW.trod, Try.underlying3, w1]
  have k2 : DataW.trod enc Try.prog W' 0 sp true 2 3 [.int .i64 t] = some (.lit (.int .i64 t), []) := by simp [DataW.trod, Try.underlying3, w2]
  have kp := trod_struct_mk (enc := enc) (w := W') (base := 0) (spare := sp) (held := true) (n := 1) (cs := [.int .i64 a, .int .i64 n]) (xs := [(.lit (.int .i64 a), []), (.lit (.int .i64 n), [])]) Try.underlying30 (by simp [lawPrefCells])
    (by simp [lawIntCells, k0, k1])
  have := trod_struct_mk (enc := enc) (w := W') (base := 0) (spare := sp) (held := true) (n := 2) (cs := [.int .i64 a, .int .i64 n, .int .i64 t]) (xs := [(.agg [.lit (.int .i64 a), .lit (.int .i64 n)], []), (.lit (.int .i64 t), [])]) Try.underlying32 (by simp [lawRouteCells])
    (by
      have kp2 : DataW.trod enc Try.prog W' 0 sp true 2 30 [.int .i64 a, .int .i64 n] = some (.agg [.lit (.int .i64 a), .lit (.int .i64 n)], []) := by simpa using kp
      simp [lawIntCells, lawPrefCells, k2, kp2])
  simpa [Value.cells] using this

theorem put_ans (xs : List Rt) (r : Rt) (hl : xs.length ≤ 1048576) : ∃ (ys : List Rt) (o : Bool), ys.length ≤ 100000000 ∧ ∀ (w : World) (e : Ending) (w' : World), PutEnd xs r w e w' → ∃ v', e = .returned (.tuple #[v', .bool o]) ∧ OwnR rtRec w' w.heap.size RTI v' ys := by
  by_cases h : RoutesP xs ∧ RoutesP (putP xs r)
  · refine ⟨putP xs r, true, by have := put_length xs r; omega, fun w e w' he => ?_⟩
    rcases he with ⟨_, v', h1, h2⟩ | ⟨hno, _⟩
    · exact ⟨v', h1, h2⟩
    · exact absurd h hno
  · refine ⟨xs, false, by omega, fun w e w' he => ?_⟩
    rcases he with ⟨hno, _⟩ | ⟨_, v', h1, h2⟩
    · exact absurd hno h
    · exact ⟨v', h1, h2⟩
theorem drop_ans (xs : List Rt) (a n : Int) (hl : xs.length ≤ 1048576) : ∃ (ys : List Rt) (o : Bool), ys.length ≤ 100000000 ∧ ∀ (w : World) (e : Ending) (w' : World), DropEnd xs a n w e w' → ∃ v', e = .returned (.tuple #[v', .bool o]) ∧ OwnR rtRec w' w.heap.size RTI v' ys := by
  by_cases h : RoutesP xs ∧ (dropP xs a n).length ≠ xs.length
  · refine ⟨dropP xs a n, true, by have := List.length_filter_le (other a n) xs; unfold dropP; omega, fun w e w' he => ?_⟩
    rcases he with ⟨_, v', h1, h2⟩ | ⟨hno, _⟩
    · exact ⟨v', h1, h2⟩
    · exact absurd h hno
  · refine ⟨xs, false, by omega, fun w e w' he => ?_⟩
    rcases he with ⟨hno, _⟩ | ⟨_, v', h1, h2⟩
    · exact absurd hno h
    · exact ⟨v', h1, h2⟩
theorem ok_ans (xs : List Rt) : ∃ b : Bool, ∀ e : Ending, RoutesEnd xs e → e = .returned (.bool b) := by
  by_cases h : RoutesP xs
  · refine ⟨true, fun e he => ?_⟩
    rcases he with ⟨_, h1⟩ | ⟨hno, _⟩
    · exact h1
    · exact absurd h hno
  · refine ⟨false, fun e he => ?_⟩
    rcases he with ⟨hno, _⟩ | ⟨_, h1⟩
    · exact absurd hno h
    · exact h1

set_option maxRecDepth 100000 in
set_option maxHeartbeats 400000 in
theorem lawPutRoute (a : Option Addr) (xs : List Rt) (cap : Nat) {w : World} (hs : SrcR rtRec w a xs) (hlen : xs.length ≤ 9223372036854775807) (ra rn rt : Int) (hwa : (Lit.int .i64 ra).wf = true) (hwn : (Lit.int .i64 rn).wf = true) (w' : World) (hw : w' = w) :
    Calls Try.prog 4 #[.slice a xs.length cap, .agg #[.int .i64 ra, .int .i64 rn, .int .i64 rt]] w' fun e w2 => e = .returned (.bool true) ∧ Below w'.heap.size w' w2 := by
  subst hw
  by_cases hl : xs.length ≤ 1048576
  · obtain ⟨ys, o, hy, hans⟩ := put_ans xs (ra, rn, rt) hl
    refine lawPutRouteF (fun _ => True) (fun _ _ _ _ => trivial) a xs cap ra rn rt ys o hl hy (fun v X _ hr => ?_) (fun v X hr => ?_) w' trivial hs
    · refine (implPutRoute_any v xs ra rn rt (by omega) hwa hwn X hr).mono ?_
      rintro e Y ⟨he, hb⟩
      obtain ⟨v', h1, h2⟩ := hans X e Y he
      exact ⟨v', h1, h2, hb⟩
    · refine (specPutRoute_any v xs ra rn rt (by omega) X hr).mono ?_
      rintro e Y ⟨he, hb⟩
      obtain ⟨v', h1, h2⟩ := hans X e Y he
      exact ⟨v', h1, h2, hb⟩
  · exact lawPutRoute_big a xs.length cap ra rn rt (by omega) hlen w'

set_option maxRecDepth 100000 in
set_option maxHeartbeats 400000 in
theorem lawDropRoute (a : Option Addr) (xs : List Rt) (cap : Nat) {w : World} (hs : SrcR rtRec w a xs) (hlen : xs.length ≤ 9223372036854775807) (ra rn : Int) (hwa : (Lit.int .i64 ra).wf = true) (hwn : (Lit.int .i64 rn).wf = true) (w' : World) (hw : w' = w) :
    Calls Try.prog 5 #[.slice a xs.length cap, .agg #[.int .i64 ra, .int .i64 rn]] w' fun e w2 => e = .returned (.bool true) ∧ Below w'.heap.size w' w2 := by
  subst hw
  by_cases hl : xs.length ≤ 1048576
  · obtain ⟨ys, o, hy, hans⟩ := drop_ans xs ra rn hl
    refine lawDropRouteF (fun _ => True) (fun _ _ _ _ => trivial) a xs cap ra rn ys o hl hy (fun v X _ hr => ?_) (fun v X hr => ?_) w' trivial hs
    · refine (implDropRoute_any v xs ra rn (by omega) hwa hwn X hr).mono ?_
      rintro e Y ⟨he, hb⟩
      obtain ⟨v', h1, h2⟩ := hans X e Y he
      exact ⟨v', h1, h2, hb⟩
    · refine (specDropRoute_any v xs ra rn (by omega) X hr).mono ?_
      rintro e Y ⟨he, hb⟩
      obtain ⟨v', h1, h2⟩ := hans X e Y he
      exact ⟨v', h1, h2, hb⟩
  · exact lawDropRoute_big a xs.length cap ra rn (by omega) hlen w'

set_option maxRecDepth 100000 in
set_option maxHeartbeats 400000 in
theorem lawDropTo (a : Option Addr) (xs : List Rt) (cap : Nat) {w : World} (hs : SrcR rtRec w a xs) (hlen : xs.length ≤ 9223372036854775807) (z : Int) (_hwz : (Lit.int .i64 z).wf = true) (w' : World) (hw : w' = w) :
    Calls Try.prog 7 #[.slice a xs.length cap, .int .i64 z] w' fun e w2 => e = .returned (.bool true) ∧ Below w'.heap.size w' w2 := by
  subst hw
  by_cases hl : xs.length ≤ 1048576
  · exact lawDropToF (fun _ => True) (fun _ _ _ _ => trivial) a xs cap z _ hl (by have := List.length_filter_le (fun r : Rt => r.2.2 != z) xs; omega) (fun v X _ hr => implDropTo_any v xs z (by omega) X hr) (fun v X hr => specDropTo_any v xs z (by omega) X hr) w' trivial hs
  · exact lawDropTo_big a xs.length cap z (by omega) hlen w'

set_option maxRecDepth 100000 in
set_option maxHeartbeats 400000 in
theorem lawLookUp (a : Option Addr) (xs : List Rt) (cap : Nat) {w : World} (hs : SrcR rtRec w a xs) (hlen : xs.length ≤ 9223372036854775807) (z : Int) (hwz : (Lit.int .i64 z).wf = true) (w' : World) (hw : w' = w) :
    Calls Try.prog 6 #[.slice a xs.length cap, .int .i64 z] w' fun e w2 => e = .returned (.bool true) ∧ Below w'.heap.size w' w2 := by
  subst hw
  by_cases hl : xs.length ≤ 1048576
  · by_cases h : RoutesP xs
    · exact lawLookUpF (fun _ => True) (fun _ _ _ _ => trivial) a xs cap z _ hl (fun v X _ hr => implLookUp_right v xs z (by omega) hwz X hr h) (fun v X hr => specLookUp_right v xs z (by omega) X hr h) w' trivial hs
    · exact lawLookUpF (fun _ => True) (fun _ _ _ _ => trivial) a xs cap z _ hl (fun v X _ hr => implLookUp_wrong v xs z (by omega) hwz X hr h) (fun v X hr => specLookUp_wrong v xs z (by omega) X hr h) w' trivial hs
  · exact lawLookUp_big a xs.length cap z (by omega) hlen w'

set_option maxRecDepth 100000 in
set_option maxHeartbeats 400000 in
theorem lawRoutesOk (a : Option Addr) (xs : List Rt) (cap : Nat) {w : World} (hs : SrcR rtRec w a xs) (hlen : xs.length ≤ 9223372036854775807)  (w' : World) (hw : w' = w) :
    Calls Try.prog 3 #[.slice a xs.length cap] w' fun e w2 => e = .returned (.bool true) ∧ Below w'.heap.size w' w2 := by
  subst hw
  by_cases hl : xs.length ≤ 1048576
  · obtain ⟨b, hans⟩ := ok_ans xs
    refine lawRoutesOkF (fun _ => True) (fun _ _ _ _ => trivial) a xs cap b hl (fun v X _ hr => ?_) (fun v X hr => ?_) w' trivial hs
    · refine (implRoutesOk_any v xs (by omega) X hr).mono ?_
      rintro e Y ⟨he, hb⟩
      exact ⟨hans e he, hb⟩
    · refine (specRoutesOk_any v xs (by omega) X hr).mono ?_
      rintro e Y ⟨he, hb⟩
      exact ⟨hans e he, hb⟩
  · exact lawRoutesOk_big a xs.length cap  (by omega) hlen w'

end Go.Proofs.Ytpcdmfimjnhejao

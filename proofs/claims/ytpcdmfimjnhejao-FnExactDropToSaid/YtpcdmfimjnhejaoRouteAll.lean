/-
  Rows of routes as arguments; the laws' own small functions over them.
  The laws' own functions that write marks into rows of routes, find them again, and hold rows against each other.
  Routes compared as values; rows of routes held against each other by values.
-/
import Derived.Test.YtpcdmfimjnhejaoDropToSpec
import Derived.Test.YtpcdmfimjnhejaoKitArg
import Derived.Test.YtpcdmfimjnhejaoVarTwo
import Derived.Deep.RegionHeld3
import Derived.BigQuiet
import Derived.Deep.QuietTactic
import Derived.Deep.LoopGhost
import Derived.Deep.DeepCutAuto
import Derived.ProofKit
import Derived.OpenShut
import Derived.ShutString
import Derived.ChangeOld
import Derived.ChangeSame
import Derived.Below
import Derived.Test.YtpcdmfimjnhejaoPrefEq
namespace Go.Proofs.Ytpcdmfimjnhejao
open Go.ChangeShapes Go.WideShapes Go.ChangeAt Go.RowKit

abbrev RTI : TypeId := 37
theorem lawRouteCells : Try.prog.cellsOf 32 = 3 := by kernel_rfl
theorem lawPrefCells : Try.prog.cellsOf 30 = 2 := by kernel_rfl
theorem lawIntCells : Try.prog.cellsOf 3 = 1 := by kernel_rfl
theorem infoRouteZ : (Try.prog.info? 37).map (fun i => (i.zero, i.size, i.bytes)) = some (some (.agg #[.int .i64 0, .int .i64 0, .int .i64 0]), 3, 24) := by kernel_rfl
theorem info_zero {P : Program} {t : TypeId} {n b : Nat} {z : Value} (h : (P.info? t).map (fun i => (i.zero, i.size, i.bytes)) = some (some z, n, b)) : ∃ i : TypeInfo, P.info? t = some i ∧ i.zero = some z ∧ i.size = n ∧ i.bytes = b := by
  cases hi : P.info? t with
  | none => simp [hi] at h
  | some i =>
    simp [hi] at h
    exact ⟨i, rfl, h.1, h.2.1, h.2.2⟩

set_option maxRecDepth 100000 in
/-- A row of routes as an argument, opened. -/
theorem open_routes {H : Type} {enc : TypeId × Value → H} {W : World} {r : Reach} {base : Nat} {v : Value} {d : DataW H} {p : List MemPlace}
    (hok : Value.okWide Try.prog W r base 22 v) (h : DataW.Trod enc Try.prog W 0 (fun _ => true) true 22 v d p) :
    ∃ (a : Option Addr) (xs : List Rt) (cap : Nat), v = .slice a xs.length cap ∧ SrcR rtRec W a xs ∧ xs.length ≤ 9223372036854775807 := by
  obtain ⟨a0, len0, cap0, rfl⟩ := okWide_slice Try.underlying22 hok
  obtain ⟨fuel, hf⟩ := h
  rcases Deep.open_slice Try.underlying22 hf with ⟨hcs, _⟩ | ⟨x, l, c, m, n, D, Pl, hcs, _, hl, hcm, hmm, _, hx⟩
  · simp [Value.cells] at hcs
    obtain ⟨rfl, rfl, rfl⟩ := hcs
    exact ⟨none, [], 0, rfl, .inl rfl, by simp⟩
  · simp [Value.cells] at hcs
    obtain ⟨rfl, rfl, rfl⟩ := hcs
    have hlm : len0 ≤ m := by rw [hmm]; split <;> omega
    have each : ∀ i, i < m → ∃ q : Rt, W.cell? (x.add (i * 3)) = some (.int .i64 q.1) ∧ W.cell? (x.add (i * 3 + 1)) = some (.int .i64 q.2.1) ∧ W.cell? (x.add (i * 3 + 2)) = some (.int .i64 q.2.2) := by
      intro i hi
      obtain ⟨cs', h1, h2⟩ := hx i hi
      rw [lawRouteCells] at h1
      obtain ⟨_, hlen, hcell⟩ := World.cells?_some h1
      obtain ⟨ys, k, _, _, _, hyl, hg⟩ := DataW.trod_struct Try.underlying32 h2
      match ys, hyl, cs', hlen with
      | [y0, y1], _, [v0, v1, v2], _ =>
        have g0 := hg 0 _ rfl
        have g1 := hg 1 _ rfl
        obtain ⟨zs, k2, _, _, _, hzl, hg2⟩ := DataW.trod_struct Try.underlying30 (by simpa [lawPrefCells] using g0)
        match zs, hzl with
        | [z0, z1], _ =>
          have g2 := hg2 0 _ rfl
          have g3 := hg2 1 _ rfl
          obtain ⟨q0, e0, _, _⟩ := DataW.trod_int Try.underlying3 (by simpa [lawIntCells] using g2)
          obtain ⟨q1, e1, _, _⟩ := DataW.trod_int Try.underlying3 (by simpa [lawIntCells] using g3)
          obtain ⟨q2, e2, _, _⟩ := DataW.trod_int Try.underlying3 (by simpa [lawIntCells] using g1)
          simp at e0 e1 e2
          subst e0 e1 e2
          have c0 := hcell 0 (by omega)
          have c1 := hcell 1 (by omega)
          have c2 := hcell 2 (by omega)
          rw [Deep.add_add] at c0 c1 c2
          exact ⟨(q0, q1, q2), by simpa using c0, by simpa using c1, by simpa using c2⟩
    obtain ⟨f, hq⟩ := Deep.choose_lt (α := Rt) each
    refine ⟨some x, (List.range len0).map f, cap0, by simp, ?_, by rw [List.length_map, List.length_range]; unfold maxLen at hcm; omega⟩
    by_cases h0 : len0 = 0
    · subst h0
      exact .inl (by simp)
    · obtain ⟨b, off, spot⟩ := x
      have hc0 := (hq 0 (by omega)).1
      have hspot : spot = none := by simpa [Addr.add] using World.cell?_spot hc0
      subst hspot
      refine .inr ⟨b, off, rfl, ?_, fun j t y hy ht => ?_⟩
      · have := World.block_lt_of_cell? W _ hc0
        simpa [Addr.add] using this
      · have hj : j < len0 := by
          have := (List.getElem?_eq_some_iff.1 hy).1
          simpa using this
        have hy2 : y = f j := by
          rw [List.getElem?_map, List.getElem?_range hj] at hy
          simpa using hy.symm
        subst hy2
        obtain ⟨k0, k1, k2⟩ := hq j (by omega)
        rw [add_plain] at k0 k1 k2
        have e : rtRec.k * j = j * 3 := Nat.mul_comm _ _
        rw [e]
        have ht3 : t < 3 := ht
        match t, ht3 with
        | 0, _ => exact k0
        | 1, _ => exact k1
        | 2, _ => exact k2

theorem src_three {w : World} {b off : Nat} {xs : List Rt} (h : ∀ j t x, xs[j]? = some x → t < rtRec.k → w.cell? ⟨b, off + (rtRec.k * j + t), none⟩ = (rtRec.enc x)[t]?) (j : Nat) (x : Rt) (hx : xs[j]? = some x) :
    w.cell? ⟨b, off + j * 3, none⟩ = some (.int .i64 x.1) ∧ w.cell? ⟨b, off + j * 3 + 1, none⟩ = some (.int .i64 x.2.1) ∧ w.cell? ⟨b, off + j * 3 + 2, none⟩ = some (.int .i64 x.2.2) := by
  have h0 := h j 0 x hx (by decide)
  have h1 := h j 1 x hx (by decide)
  have h2 := h j 2 x hx (by decide)
  have e : rtRec.k * j = j * 3 := Nat.mul_comm _ _
  rw [e, ← Nat.add_assoc] at h0 h1 h2
  exact ⟨h0, h1, h2⟩
theorem put_three {w : World} {base g cap : Nat} {l : List Rt} (h : OwnR rtRec w base RTI (.slice (some ⟨g, 0, none⟩) l.length cap) l) (j : Nat) (a b c : Int) (hj : j < l.length) :
    OwnR rtRec (((w.setCell ⟨g, j * 3, none⟩ (.int .i64 a)).setCell ⟨g, j * 3 + 1, none⟩ (.int .i64 b)).setCell ⟨g, j * 3 + 2, none⟩ (.int .i64 c)) base RTI (.slice (some ⟨g, 0, none⟩) l.length cap) (l.set j (a, b, c)) ∧ w.grownBy (((w.setCell ⟨g, j * 3, none⟩ (.int .i64 a)).setCell ⟨g, j * 3 + 1, none⟩ (.int .i64 b)).setCell ⟨g, j * 3 + 2, none⟩ (.int .i64 c)) (some g) := by
  have h1 := OwnR.put h j (a, b, c) hj
  have e : rtRec.k * j = j * 3 := Nat.mul_comm _ _
  rw [e] at h1
  exact h1
theorem own_three {w : World} {base g cap : Nat} {l : List Rt} (h : OwnR rtRec w base RTI (.slice (some ⟨g, 0, none⟩) l.length cap) l) (j : Nat) (hj : j < l.length) :
    ∃ x : Rt, l[j]? = some x ∧ w.cell? ⟨g, j * 3, none⟩ = some (.int .i64 x.1) ∧ w.cell? ⟨g, j * 3 + 1, none⟩ = some (.int .i64 x.2.1) ∧ w.cell? ⟨g, j * 3 + 2, none⟩ = some (.int .i64 x.2.2) ∧ w.frozen? ⟨g, j * 3, none⟩ = false ∧ w.frozen? ⟨g, j * 3 + 1, none⟩ = false ∧ w.frozen? ⟨g, j * 3 + 2, none⟩ = false := by
  have hx := List.getElem?_eq_getElem hj
  obtain ⟨ao, c, hv, hf⟩ := h.form
  obtain ⟨g', hg, _, _, hc⟩ := hf (by omega)
  subst hg
  simp only [Value.slice.injEq, Option.some.injEq, Addr.mk.injEq, and_true, true_and] at hv
  obtain ⟨rfl, rfl⟩ := hv
  have h0 := hc j 0 _ hx (by decide)
  have h1 := hc j 1 _ hx (by decide)
  have h2 := hc j 2 _ hx (by decide)
  have e : rtRec.k * j = j * 3 := Nat.mul_comm _ _
  rw [e] at h0 h1 h2
  exact ⟨_, hx, h0.1, h1.1, h2.1, h0.2, h1.2, h2.2⟩
theorem set_mid {α : Type} (A B : List α) (j : Nat) (x : α) (hA : A.length = j) (hj : j < B.length) : (A ++ B.drop j).set j x = (A ++ [x]) ++ B.drop (j + 1) := by
  subst hA
  rw [List.set_append_right _ _ (Nat.le_refl _), Nat.sub_self, List.drop_eq_getElem_cons hj, List.set_cons_zero, List.append_assoc]
  rfl

set_option maxRecDepth 100000 in
set_option maxHeartbeats 400000 in
theorem toPrefR_any (a n : Int) (w : World) :
    Calls Try.prog 19 #[.agg #[.int .i64 a, .int .i64 n]] w fun e w' => e = .returned (.agg #[.int .i64 a, .int .i64 n]) ∧ Below w.heap.size w w' := by
  go_enter Try.func19, Try.ntmps19
  go_wp2_with fail
  refine bodyPost_ret (v := .agg #[.int .i64 a, .int .i64 n]) (by simp [results, Try.results19, go_sem]) rfl ⟨rfl, ?_⟩
  exact (((Below.refl w.heap.size w).alloc (Nat.le_refl _) _).alloc (by simp) _).alloc (by simp; omega) _

set_option maxRecDepth 100000 in
set_option maxHeartbeats 400000 in
theorem toRoute_any (a n t : Int) (w : World) :
    Calls Try.prog 14 #[.agg #[.int .i64 a, .int .i64 n, .int .i64 t]] w fun e w' => e = .returned (.agg #[.int .i64 a, .int .i64 n, .int .i64 t]) ∧ Below w.heap.size w w' := by
  have H1 := Lib.hid (toPrefR_any a n)
  go_enter Try.func14, Try.ntmps14
  go_wp2_with fail
  refine (H1.out _).mono ?_
  rintro e Y ⟨rfl, hb⟩
  have A0 := ((VarA.new w 32 #[.int .i64 a, .int .i64 n, .int .i64 t]).alloc (.cells #[.int .i64 0, .int .i64 0, .int .i64 0] RTI)).alloc (.cells #[.int .i64 0, .int .i64 0, .int .i64 0] RTI)
  have A1 := (VarA.new (w.alloc (.cells #[.int .i64 a, .int .i64 n, .int .i64 t] 32)) RTI #[.int .i64 0, .int .i64 0, .int .i64 0]).alloc (.cells #[.int .i64 0, .int .i64 0, .int .i64 0] RTI)
  have A2 := VarA.new ((w.alloc (.cells #[.int .i64 a, .int .i64 n, .int .i64 t] 32)).alloc (.cells #[.int .i64 0, .int .i64 0, .int .i64 0] RTI)) RTI #[.int .i64 0, .int .i64 0, .int .i64 0]
  have BB := ((((Below.refl w.heap.size w).alloc (Nat.le_refl _) (.cells #[.int .i64 a, .int .i64 n, .int .i64 t] 32)).alloc (by simp) (.cells #[.int .i64 0, .int .i64 0, .int .i64 0] RTI)).alloc (by simp; omega) (.cells #[.int .i64 0, .int .i64 0, .int .i64 0] RTI))
  have z1 : (w.alloc (.cells #[.int .i64 a, .int .i64 n, .int .i64 t] 32)).heap.size = w.heap.size + 1 := by simp
  have z2 : ((w.alloc (.cells #[.int .i64 a, .int .i64 n, .int .i64 t] 32)).alloc (.cells #[.int .i64 0, .int .i64 0, .int .i64 0] RTI)).heap.size = w.heap.size + 1 + 1 := by simp
  rw [z1] at A1
  rw [z2] at A2
  have BY := Lib.hid (BB.trans (hb.mono BB.size))
  have X0 := A0.next hb
  have X1 := A1.next hb
  have X2 := A2.next hb
  clear A0 A1 A2 BB z1 z2 hb
  have c0 := X0.cell 0
  have c1 := X0.cell 1
  have c2 := X0.cell 2
  have o0 := X2.cell 0
  have o1 := X2.cell 1
  have f0 := X2.free 0
  have f1 := X2.free 1
  have D0 := Lib.hid ((X0.off 0 (.int .i64 a) (q := w.heap.size + 1 + 1) (by omega)).off 1 (.int .i64 n) (q := w.heap.size + 1 + 1) (by omega))
  have D1 := Lib.hid ((X1.off 0 (.int .i64 a) (q := w.heap.size + 1 + 1) (by omega)).off 1 (.int .i64 n) (q := w.heap.size + 1 + 1) (by omega))
  have D2 := Lib.hid ((X2.set 0 (.int .i64 a)).set 1 (.int .i64 n))
  have BY2 := Lib.hid (BY.out.trans (((Only.setCell (c := w.heap.size + 1 + 1) (w := Y) 0 (.int .i64 a)).trans (Only.setCell 1 (.int .i64 n))).below (B := w.heap.size) (by omega) BY.out.size))
  clear X0 X1 X2 BY
  go_upto_region 3 with fail
  generalize (Y.setCell ⟨w.heap.size + 1 + 1, 0, none⟩ (.int .i64 a)).setCell ⟨w.heap.size + 1 + 1, 1, none⟩ (.int .i64 n) = Y2 at *
  clear c0 c1 c2 o0 o1 f0 f1
  have c2 := D0.out.cell 2
  have o2 := D2.out.cell 2
  have f2 := D2.out.free 2
  have E1 := Lib.hid (D1.out.off 2 (.int .i64 t) (q := w.heap.size + 1 + 1) (by omega))
  have E2 := Lib.hid (D2.out.set 2 (.int .i64 t))
  have BY3 := Lib.hid (BY2.out.trans ((Only.setCell (c := w.heap.size + 1 + 1) (w := Y2) 2 (.int .i64 t)).below (B := w.heap.size) (by omega) BY2.out.size))
  clear D0 D1 D2 BY2
  go_upto_region 4 with fail
  generalize Y2.setCell ⟨w.heap.size + 1 + 1, 2, none⟩ (.int .i64 t) = Y3 at *
  clear c2 o2 f2
  have c0 := E2.out.cell 0
  have c1 := E2.out.cell 1
  have c2 := E2.out.cell 2
  have o0 := E1.out.cell 0
  have o1 := E1.out.cell 1
  have o2 := E1.out.cell 2
  have f0 := E1.out.free 0
  have f1 := E1.out.free 1
  have f2 := E1.out.free 2
  have G1 := Lib.hid (((E1.out.set 0 (.int .i64 a)).set 1 (.int .i64 n)).set 2 (.int .i64 t))
  have BY4 := Lib.hid (BY3.out.trans ((((Only.setCell (c := w.heap.size + 1) (w := Y3) 0 (.int .i64 a)).trans (Only.setCell 1 (.int .i64 n))).trans (Only.setCell 2 (.int .i64 t))).below (B := w.heap.size) (by omega) BY3.out.size))
  clear E1 E2 BY3
  go_wp2_with fail
  have j0 := G1.out.cell 0
  have j1 := G1.out.cell 1
  have j2 := G1.out.cell 2
  refine bodyPost_ret (v := .agg #[.int .i64 a, .int .i64 n, .int .i64 t]) (by simp [results, Try.results14, go_sem, j0, j1, j2]) rfl ⟨rfl, BY4.out⟩

set_option maxRecDepth 100000 in
set_option maxHeartbeats 400000 in
theorem szRouteS_any (a : Option Addr) (len cap : Nat) (hl : len ≤ 9223372036854775807) (w : World) :
    Calls Try.prog 8 #[.slice a len cap, .int .i64 1048576] w fun e w' => e = .returned (.int .i64 (if 1048576 < len then -1 else 1048576 - (len : Int))) ∧ w' = w := by
  by_cases h : 1048576 < len
  · have h1 : (1048576 : Int) - (len : Int) < 0 := by omega
    rw [if_pos h]
    go_enter Try.func8, Try.ntmps8
    go_wp2
    go_ret
    exact ⟨rfl, rfl⟩
  · have h1 : ¬ ((1048576 : Int) - (len : Int) < 0) := by omega
    rw [if_neg h]
    go_enter Try.func8, Try.ntmps8
    go_wp2
    go_ret
    exact ⟨rfl, rfl⟩

set_option maxRecDepth 100000 in
set_option maxHeartbeats 800000 in
theorem toRouteS_any (a : Option Addr) (xs : List Rt) (cap : Nat) (hl : xs.length ≤ 1048576) (w : World) (hs : SrcR rtRec w a xs) :
    Calls Try.prog 10 #[.slice a xs.length cap] w fun e w' => ∃ v', e = .returned v' ∧ OwnR rtRec w' w.heap.size RTI v' xs ∧ Below w.heap.size w w' := by
  obtain ⟨i0, hi, hz0, hsz0, hby0⟩ := info_zero infoRouteZ
  have H1 := Lib.hid toRoute_any
  have HS := Lib.hid hs
  clear hs
  go_enter Try.func10, Try.ntmps10
  go_wp2_with (at_make; refine wpList_make_full _ rfl _ _ 25 rfl w.heap.size RTI i0 (.agg #[.int .i64 0, .int .i64 0, .int .i64 0]) 3 Try.underlying25 hi hz0 hsz0 .i64 .i64 _ _ xs.length rfl rfl rfl rfl (by rw [hby0]; omega) (by unfold maxLen; omega) (Nat.le_refl _) ?_)
  intro w1 hown1 hg1
  have hown : OwnR rtRec w1 w.heap.size RTI (.slice (some ⟨w.heap.size, 0, none⟩) xs.length xs.length) (List.replicate xs.length (0, 0, 0)) := by
    unfold OwnR
    rw [List.length_replicate, ← made_flat rtRec (0, 0, 0) #[.int .i64 0, .int .i64 0, .int .i64 0] rfl xs.length]
    exact hown1
  have hbel : Below w.heap.size w w1 := below_grown hg1 (fun k h => by cases h) (Nat.le_refl _)
  clear hown1 hg1
  go_wp2_with fail
  go_loopw [4] (fun c wr => ∃ j : Nat, j ≤ xs.length ∧ c = .int .i64 j ∧ OwnR rtRec wr w.heap.size RTI (.slice (some ⟨w.heap.size, 0, none⟩) xs.length xs.length) (xs.take j ++ (List.replicate xs.length (0, 0, 0)).drop j) ∧ Below w.heap.size w wr) (fun c _ => xs.length - (intOf c).toNat)
  case atStart => exact ⟨0, Nat.zero_le _, rfl, by simpa using hown, hbel⟩
  case round =>
    obtain ⟨j, hj, rfl, hown2, hb2⟩ := hrel
    have HO := Lib.hid hown2
    have HB := Lib.hid hb2
    clear hown2 hb2 hown hbel
    by_cases hlt : j < xs.length
    · have hlt' : (j : Int) < (xs.length : Int) := by omega
      obtain ⟨b, off, rfl, hbl, hcell⟩ := HS.out.form (by omega)
      obtain ⟨c0, c1, c2⟩ := src_three hcell j xs[j] (List.getElem?_eq_getElem hlt)
      rw [← HB.out.cell (p := ⟨b, off + j * 3, none⟩) hbl] at c0
      rw [← HB.out.cell (p := ⟨b, off + j * 3 + 1, none⟩) hbl] at c1
      rw [← HB.out.cell (p := ⟨b, off + j * 3 + 2, none⟩) hbl] at c2
      have hta : xs.take (j + 1) = xs.take j ++ [xs[j]] := by rw [List.take_add_one, List.getElem?_eq_getElem hlt]; rfl
      generalize xs[j] = x at c0 c1 c2 hta
      obtain ⟨xa, xn, xt⟩ := x
      have HTA := Lib.hid hta
      clear hta hcell
      go_wp2_with fail
      refine (H1.out _ _ _ _).mono ?_
      rintro e w2 ⟨rfl, hb2⟩
      have hlen : (xs.take j ++ (List.replicate xs.length ((0, 0, 0) : Rt)).drop j).length = xs.length := by simp; omega
      have hown3 := HO.out.below hb2
      have hown4 : OwnR rtRec w2 w.heap.size RTI (.slice (some ⟨w.heap.size, 0, none⟩) (xs.take j ++ (List.replicate xs.length ((0, 0, 0) : Rt)).drop j).length xs.length) (xs.take j ++ (List.replicate xs.length ((0, 0, 0) : Rt)).drop j) := by rw [hlen]; exact hown3
      obtain ⟨y, _, d0, d1, d2, f0, f1, f2⟩ := own_three hown4 j (by rw [hlen]; exact hlt)
      have hput := put_three hown4 j xa xn xt (by rw [hlen]; exact hlt)
      rw [hlen, set_mid _ _ j _ (by rw [List.length_take]; omega) (by simpa using hlt), ← HTA.out] at hput
      have hbel2 := HB.out.trans (hb2.mono HB.out.size)
      have HP := Lib.hid hput.1
      have HB3 := Lib.hid (hbel2.trans (below_grown hput.2 (fun k h => by cases h; exact Nat.le_refl _) hbel2.size))
      clear hown3 hown4 hput hbel2 hb2
      go_wp2_with fail
      go_roundw
      case rel => exact ⟨j + 1, by omega, by go_num, HP.out, HB3.out⟩
      case measure => simp [intOf]; omega
    · have hlt' : ¬ ((j : Int) < (xs.length : Int)) := by omega
      have hke : j = xs.length := by omega
      have hfin : xs.take j ++ (List.replicate xs.length ((0, 0, 0) : Rt)).drop j = xs := by subst hke; simp
      have HO2 := HO.out
      rw [hfin] at HO2
      have HO3 := Lib.hid HO2
      clear HO2 HO
      go_wp2_with fail
      go_ret
      exact ⟨_, rfl, HO3.out, HB.out⟩

end Go.Proofs.Ytpcdmfimjnhejao
namespace Go.Proofs.Ytpcdmfimjnhejao
open Go.RowKit

/-- The marks of a row, from a number on. -/
def marks (k : Int) (n : Nat) : List Rt := (List.range n).map fun (j : Nat) => (k + 3 * (j : Int), k + 3 * (j : Int) + 1, k + 3 * (j : Int) + 1 + 1)
theorem marks_length (k : Int) (n : Nat) : (marks k n).length = n := by simp [marks]
theorem marks_succ (k : Int) (n : Nat) : marks k (n + 1) = marks k n ++ [(k + 3 * (n : Int), k + 3 * (n : Int) + 1, k + 3 * (n : Int) + 1 + 1)] := by simp [marks, List.range_succ]
theorem marks_get (k : Int) (n j : Nat) (h : j < n) : (marks k n)[j]? = some (k + 3 * (j : Int), k + 3 * (j : Int) + 1, k + 3 * (j : Int) + 1 + 1) := by
  unfold marks
  rw [List.getElem?_map, List.getElem?_range h]
  rfl

set_option maxRecDepth 100000 in
set_option maxHeartbeats 800000 in
theorem markRouteS_any (v : Value) (xs : List Rt) (base : Nat) (k : Int) (hk0 : 0 ≤ k) (hk1 : k ≤ 1000000000) (hl : xs.length ≤ 100000000) (w : World) (ho : OwnR rtRec w base RTI v xs) :
    Calls Try.prog 16 #[v, .int .i64 k] w fun e w' => e = .returned (.int .i64 (k + 3 * (xs.length : Int))) ∧ OwnR rtRec w' base RTI v (marks k xs.length) ∧ w.grownBy w' v.ownBlock := by
  obtain ⟨ao, cp, rfl, hf⟩ := ho.form
  have HO := Lib.hid ho
  clear ho
  go_enter Try.func16, Try.ntmps16
  go_wp2_with fail
  go_loopw [1, 5] (fun q c wr => ∃ j : Nat, j ≤ xs.length ∧ c = .int .i64 j ∧ q = .int .i64 (k + 3 * (j : Int)) ∧ OwnR rtRec wr base RTI (.slice ao xs.length cp) (marks k j ++ xs.drop j) ∧ w.grownBy wr (Value.slice ao xs.length cp).ownBlock) (fun _ c _ => xs.length - (intOf c).toNat)
  case atStart => exact ⟨0, Nat.zero_le _, rfl, by simp, by simpa [marks] using HO.out, World.grownBy.refl _ _⟩
  case round =>
    obtain ⟨j, hj, rfl, rfl, hown2, hg2⟩ := hrel
    have HO2 := Lib.hid hown2
    have HG := Lib.hid hg2
    clear hown2 hg2 HO
    by_cases hlt : j < xs.length
    · have hlt' : (j : Int) < (xs.length : Int) := by omega
      obtain ⟨g, rfl, _, _, _⟩ := hf (by omega)
      have hlen : (marks k j ++ xs.drop j).length = xs.length := by rw [List.length_append, marks_length, List.length_drop]; omega
      have hown4 : OwnR rtRec wr base RTI (.slice (some ⟨g, 0, none⟩) (marks k j ++ xs.drop j).length cp) (marks k j ++ xs.drop j) := by rw [hlen]; exact HO2.out
      obtain ⟨y, _, d0, d1, d2, f0, f1, f2⟩ := own_three hown4 j (by rw [hlen]; exact hlt)
      have hput := put_three hown4 j (k + 3 * (j : Int)) (k + 3 * (j : Int) + 1) (k + 3 * (j : Int) + 1 + 1) (by rw [hlen]; exact hlt)
      rw [hlen, set_mid _ _ j _ (marks_length k j) hlt, ← marks_succ] at hput
      have HP := Lib.hid hput.1
      have HG3 := Lib.hid (grown_trans HG.out hput.2)
      clear hown4 hput hf HG HO2
      go_wp2_with fail
      go_roundw
      case rel => exact ⟨j + 1, by omega, by go_num, by go_num, HP.out, HG3.out⟩
      case measure => simp [intOf]; omega
    · have hlt' : ¬ ((j : Int) < (xs.length : Int)) := by omega
      have hke : j = xs.length := by omega
      subst hke
      have HO3 := HO2.out
      rw [List.drop_length, List.append_nil] at HO3
      have HO4 := Lib.hid HO3
      clear HO3 HO2
      go_wp2_with fail
      go_ret
      exact ⟨rfl, HO4.out, HG.out⟩

set_option maxRecDepth 100000 in
set_option maxHeartbeats 800000 in
theorem heldRouteS_any (v : Value) (n : Nat) (k : Int) (hk0 : 0 ≤ k) (hk1 : k ≤ 1000000000) (hl : n ≤ 100000000) (w : World) (hr : RowR rtRec w v (marks k n)) :
    Calls Try.prog 17 #[v, .int .i64 k] w fun e w' => e = .returned (.int .i64 (k + 3 * (n : Int))) ∧ w' = w := by
  obtain ⟨ao, cp, rfl, hf⟩ := hr.form
  clear hr
  rw [marks_length] at hf ⊢
  go_enter Try.func17, Try.ntmps17
  go_wp2_with fail
  go_loopw [1, 5] (fun q c wr => ∃ j : Nat, j ≤ n ∧ c = .int .i64 j ∧ q = .int .i64 (k + 3 * (j : Int)) ∧ wr = w) (fun _ c _ => n - (intOf c).toNat)
  case atStart => exact ⟨0, Nat.zero_le _, rfl, by simp, by first | trivial | rfl⟩
  case round =>
    obtain ⟨j, hj, rfl, rfl, rfl⟩ := hrel
    by_cases hlt : j < n
    · have hlt' : (j : Int) < (n : Int) := by omega
      obtain ⟨g, rfl, _, hcell⟩ := hf (by omega)
      obtain ⟨c0, c1, c2⟩ := row_three hcell j _ (marks_get k n j hlt)
      simp only at c0 c1 c2
      clear hcell hf
      go_wp2_with fail
      go_roundw
      case rel => exact ⟨j + 1, by omega, by go_num, by go_num, by first | trivial | rfl⟩
      case measure => simp [intOf]; omega
    · have hlt' : ¬ ((j : Int) < (n : Int)) := by omega
      have hke : j = n := by omega
      subst hke
      go_wp2_with fail
      go_ret
      exact ⟨rfl, rfl⟩

set_option maxRecDepth 100000 in
set_option maxHeartbeats 400000 in
theorem eqPrefR_same (a n : Int) (w : World) :
    Calls Try.prog 44 #[.agg #[.int .i64 a, .int .i64 n], .agg #[.int .i64 a, .int .i64 n]] w fun e w' => e = .returned (.bool true) ∧ Below w.heap.size w w' := by
  go_enter Try.func44, Try.ntmps44
  go_wp2_with fail
  go_ret
  exact ⟨rfl, ((Below.refl _ _).alloc (Nat.le_refl _) _).alloc (by simp) _⟩

set_option maxRecDepth 100000 in
set_option maxHeartbeats 400000 in
theorem eqRoute_same (a n t : Int) (w : World) :
    Calls Try.prog 30 #[.agg #[.int .i64 a, .int .i64 n, .int .i64 t], .agg #[.int .i64 a, .int .i64 n, .int .i64 t]] w fun e w' => e = .returned (.bool true) ∧ Below w.heap.size w w' := by
  have H1 := Lib.hid (eqPrefR_same a n)
  have A0 := (VarA.new w RTI #[.int .i64 a, .int .i64 n, .int .i64 t]).alloc (.cells #[.int .i64 a, .int .i64 n, .int .i64 t] RTI)
  have A1 := VarA.new (w.alloc (.cells #[.int .i64 a, .int .i64 n, .int .i64 t] RTI)) RTI #[.int .i64 a, .int .i64 n, .int .i64 t]
  have BB := ((Below.refl w.heap.size w).alloc (Nat.le_refl _) (.cells #[.int .i64 a, .int .i64 n, .int .i64 t] RTI)).alloc (by simp) (.cells #[.int .i64 a, .int .i64 n, .int .i64 t] RTI)
  have z1 : (w.alloc (.cells #[.int .i64 a, .int .i64 n, .int .i64 t] RTI)).heap.size = w.heap.size + 1 := by simp
  rw [z1] at A1
  have HA0 := Lib.hid A0
  have HA1 := Lib.hid A1
  have HBB := Lib.hid BB
  clear A0 A1 BB z1
  go_enter Try.func30, Try.ntmps30
  go_wp2_with fail
  refine (H1.out _).mono ?_
  rintro e Y ⟨rfl, hb⟩
  have X0 := Lib.hid (HA0.out.next hb)
  have X1 := Lib.hid (HA1.out.next hb)
  have BY := Lib.hid (HBB.out.trans (hb.mono HBB.out.size))
  have c2 := X0.out.cell 2
  have d2 := X1.out.cell 2
  clear hb
  go_wp2_with fail
  go_ret
  exact ⟨rfl, BY.out⟩

/-- Two rows' records in hand. -/
structure EqH (w : World) (g h : Nat) (j : Nat) (x : Rt) (X : World) : Prop where
  c0 : X.cell? ⟨g, j * 3, none⟩ = some (.int .i64 x.1)
  c1 : X.cell? ⟨g, j * 3 + 1, none⟩ = some (.int .i64 x.2.1)
  c2 : X.cell? ⟨g, j * 3 + 2, none⟩ = some (.int .i64 x.2.2)
  d0 : X.cell? ⟨h, j * 3, none⟩ = some (.int .i64 x.1)
  d1 : X.cell? ⟨h, j * 3 + 1, none⟩ = some (.int .i64 x.2.1)
  d2 : X.cell? ⟨h, j * 3 + 2, none⟩ = some (.int .i64 x.2.2)
  below : Below w.heap.size w X
theorem EqH.next {w : World} {g h j : Nat} {x : Rt} {X Y : World} (H : EqH w g h j x X) (hb : Below X.heap.size X Y) : EqH w g h j x Y := by
  have hg : g < X.heap.size := cell_size (p := ⟨g, j * 3, none⟩) H.c0
  have hh : h < X.heap.size := cell_size (p := ⟨h, j * 3, none⟩) H.d0
  refine ⟨?_, ?_, ?_, ?_, ?_, ?_, H.below.trans (hb.mono H.below.size)⟩
  · rw [hb.cell (p := ⟨g, j * 3, none⟩) hg]; exact H.c0
  · rw [hb.cell (p := ⟨g, j * 3 + 1, none⟩) hg]; exact H.c1
  · rw [hb.cell (p := ⟨g, j * 3 + 2, none⟩) hg]; exact H.c2
  · rw [hb.cell (p := ⟨h, j * 3, none⟩) hh]; exact H.d0
  · rw [hb.cell (p := ⟨h, j * 3 + 1, none⟩) hh]; exact H.d1
  · rw [hb.cell (p := ⟨h, j * 3 + 2, none⟩) hh]; exact H.d2
theorem EqH.all {w : World} {g h j : Nat} {x : Rt} {X : World} (H : EqH w g h j x X) : X.cell? ⟨g, j * 3, none⟩ = some (.int .i64 x.1) ∧ X.cell? ⟨g, j * 3 + 1, none⟩ = some (.int .i64 x.2.1) ∧ X.cell? ⟨g, j * 3 + 2, none⟩ = some (.int .i64 x.2.2) ∧ X.cell? ⟨h, j * 3, none⟩ = some (.int .i64 x.1) ∧ X.cell? ⟨h, j * 3 + 1, none⟩ = some (.int .i64 x.2.1) ∧ X.cell? ⟨h, j * 3 + 2, none⟩ = some (.int .i64 x.2.2) ∧ EqH w g h j x X := ⟨H.c0, H.c1, H.c2, H.d0, H.d1, H.d2, H⟩

set_option maxRecDepth 100000 in
set_option maxHeartbeats 1600000 in
theorem eqRouteS_same (v u : Value) (xs : List Rt) (hl : xs.length ≤ 100000000) (w : World) (hv : RowR rtRec w v xs) (hu : RowR rtRec w u xs) :
    Calls Try.prog 12 #[v, u] w fun e w' => e = .returned (.bool true) ∧ Below w.heap.size w w' := by
  obtain ⟨ao, cp, rfl, hf⟩ := hv.form
  obtain ⟨bo, dp, rfl, hh⟩ := hu.form
  clear hv hu
  have K1 := eqRoute_same
  go_enter Try.func12, Try.ntmps12
  go_wp2_with fail
  go_loopw [5] (fun c wr => ∃ j : Nat, j ≤ xs.length ∧ c = .int .i64 j ∧ Below w.heap.size w wr) (fun c _ => xs.length - (intOf c).toNat)
  case atStart => exact ⟨0, Nat.zero_le _, rfl, Below.refl _ _⟩
  case round =>
    obtain ⟨j, hj, rfl, hb2⟩ := hrel
    by_cases hlt : j < xs.length
    · have hlt' : (j : Int) < (xs.length : Int) := by omega
      obtain ⟨g, rfl, hg, hcell⟩ := hf (by omega)
      obtain ⟨h, rfl, hh2, hcell2⟩ := hh (by omega)
      obtain ⟨c0, c1, c2⟩ := row_three hcell j xs[j] (List.getElem?_eq_getElem hlt)
      obtain ⟨d0, d1, d2⟩ := row_three hcell2 j xs[j] (List.getElem?_eq_getElem hlt)
      generalize xs[j] = x at c0 c1 c2 d0 d1 d2
      have E0 := Lib.hid (EqH.next (w := w) ⟨c0, c1, c2, d0, d1, d2, Below.refl _ _⟩ hb2.drew)
      obtain ⟨xa, xn, xt⟩ := x
      have K2 : Hid (∀ X, (X.cell? ⟨g, j * 3, none⟩ = some (.int .i64 xa) ∧ X.cell? ⟨g, j * 3 + 1, none⟩ = some (.int .i64 xn) ∧ X.cell? ⟨g, j * 3 + 2, none⟩ = some (.int .i64 xt) ∧ X.cell? ⟨h, j * 3, none⟩ = some (.int .i64 xa) ∧ X.cell? ⟨h, j * 3 + 1, none⟩ = some (.int .i64 xn) ∧ X.cell? ⟨h, j * 3 + 2, none⟩ = some (.int .i64 xt) ∧ EqH w g h j (xa, xn, xt) X) → Calls Try.prog 30 #[.agg #[.int .i64 xa, .int .i64 xn, .int .i64 xt], .agg #[.int .i64 xa, .int .i64 xn, .int .i64 xt]] X fun e Y => e = .returned (.bool true) ∧ (Y.cell? ⟨g, j * 3, none⟩ = some (.int .i64 xa) ∧ Y.cell? ⟨g, j * 3 + 1, none⟩ = some (.int .i64 xn) ∧ Y.cell? ⟨g, j * 3 + 2, none⟩ = some (.int .i64 xt) ∧ Y.cell? ⟨h, j * 3, none⟩ = some (.int .i64 xa) ∧ Y.cell? ⟨h, j * 3 + 1, none⟩ = some (.int .i64 xn) ∧ Y.cell? ⟨h, j * 3 + 2, none⟩ = some (.int .i64 xt) ∧ EqH w g h j (xa, xn, xt) Y)) := fun X hX => by
        refine (K1 xa xn xt X).mono ?_
        rintro e Y ⟨rfl, hb⟩
        exact ⟨rfl, (hX.2.2.2.2.2.2.next hb).all⟩
      clear hcell hcell2 hf hh c0 c1 c2 d0 d1 d2
      go_wp2_with fail
      go_region_held3 (fun X => X.cell? ⟨g, j * 3, none⟩ = some (.int .i64 xa) ∧ X.cell? ⟨g, j * 3 + 1, none⟩ = some (.int .i64 xn) ∧ X.cell? ⟨g, j * 3 + 2, none⟩ = some (.int .i64 xt) ∧ X.cell? ⟨h, j * 3, none⟩ = some (.int .i64 xa) ∧ X.cell? ⟨h, j * 3 + 1, none⟩ = some (.int .i64 xn) ∧ X.cell? ⟨h, j * 3 + 2, none⟩ = some (.int .i64 xt) ∧ EqH w g h j (xa, xn, xt) X) (first | (with_reducible assumption) | (with_reducible exact E0.out.all)) (first | (go_at_call 30; refine (K2.out _ (by assumption)).mono ?_; rintro e v1 ⟨rfl, hS⟩))
      all_goals
        have HS := Lib.hid hS.2.2.2.2.2.2.below
        clear hS
        go_wp2_with fail
        go_roundw
        case rel => exact ⟨j + 1, by omega, by go_num, HS.out⟩
        case measure => simp [intOf]; omega
    · have hlt' : ¬ ((j : Int) < (xs.length : Int)) := by omega
      go_wp2_with fail
      go_ret
      exact ⟨rfl, hb2⟩

end Go.Proofs.Ytpcdmfimjnhejao
namespace Go.Proofs.Ytpcdmfimjnhejao
open Go.RowKit

theorem routeFields : Try.prog.underlying RTI = some (.struct (Try.prog.fieldsOf RTI)) := by kernel_rfl
theorem routeStood : Try.prog.stoodInHeld RTI = false := by kernel_rfl
set_option maxRecDepth 100000 in
theorem route_same (a b c : Int) (w : World) : (Op.equalIn 10000 37 (.agg #[.int .i64 a, .int .i64 b, .int .i64 c]) (.agg #[.int .i64 a, .int .i64 b, .int .i64 c])).run Try.prog w = .ok true w := by
  have u3 := Try.underlying3
  have a3 := Try.isAgg3
  have z3 := Try.sizeOf3
  have ap := Try.isAgg35
  have zp := Try.sizeOf35
  rw [show (10000 : Nat) = 9999 + 1 from rfl, run_equalIn_agg w 9999 37 _ _ routeFields routeStood]
  simp only [Program.fieldsOf, Try.underlying37]
  have hp : (Op.equalIn 9999 35 (.agg #[.int .i64 a, .int .i64 b]) (.agg #[.int .i64 a, .int .i64 b])).run Try.prog w = .ok true w := by
    rw [show (9999 : Nat) = 9998 + 1 from rfl, run_equalIn_agg w 9998 35 _ _ prefFields prefStood]
    simp only [Program.fieldsOf, Try.underlying35]
    go_simp
  go_simp

end Go.Proofs.Ytpcdmfimjnhejao

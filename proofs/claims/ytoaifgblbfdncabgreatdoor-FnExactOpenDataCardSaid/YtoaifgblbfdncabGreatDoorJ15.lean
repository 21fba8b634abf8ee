/-
  The given NoteSeen.
  The test package's functions over rows of ints: held against each other, marked, found marked.
-/
import Derived.Test.YtoaifgblbfdncabGreatDoorJ14
import Derived.Deep.DeepCutAuto
import Derived.BigQuiet
import Derived.Deep.QuietTactic
namespace Go.Proofs.YtoaifgblbfdncabGreatDoor
open Go.RowKit

theorem flatIntN : Flat Lay.int := ⟨fun _ _ _ _ h => ⟨rfl, h⟩, fun _ _ _ _ _ h => h.1, fun _ _ _ _ h => h⟩
theorem note_len {xs r : List Int} {n : Int} (h : NoteIs xs n r) : r.length ≤ xs.length + 6 := by
  have h1 := h
  rcases h with ⟨hf, _⟩ | ⟨_, rfl⟩
  · have := (note_right hf h1).1.1
    omega
  · omega
theorem put_len (n : Int) (xs : List Int) : (xs.filter (fun x => decide (n < x))).length + (xs.filter (fun x => decide (x < n))).length ≤ xs.length := by
  induction xs with
  | nil => simp
  | cons x l ih =>
    rw [List.filter_cons, List.filter_cons]
    by_cases a : n < x
    · have b : ¬ (x < n) := by omega
      simp only [a, b, decide_true, decide_false, if_true, List.length_cons, Bool.false_eq_true, if_false]
      omega
    · by_cases b : x < n
      · simp only [a, b, decide_true, decide_false, if_true, List.length_cons, Bool.false_eq_true, if_false]
        omega
      · simp only [a, b, decide_false, List.length_cons, Bool.false_eq_true, if_false]
        omega
/-- A row of ints, to be read, at a place that is known. -/
theorem ints_own_at {w : World} {b : Nat} {f : List Nat} {g n c : Nat} {xs : List Int} (h : layIntS.own w b f [.slice (some ⟨g, 0, none⟩) n c] xs) {j : Nat} (hj : j < xs.length) : w.cell? ⟨g, j, none⟩ = some (.int .i64 xs[j]) := by
  have := ints_at (layIntS.read h) hj rfl
  rwa [Nat.zero_add] at this

set_option maxRecDepth 100000 in
set_option maxHeartbeats 3200000 in
theorem specNoteSeen_any (xs : List Int) (n : Int) (v : Value) (r : List Int) (hr : NoteIs xs n r) (hl : xs.length ≤ 10000000) (w : World) (h : layIntS.rd w [v] xs) :
    Calls Tryz.prog 39 #[v, .int .i64 n] w fun e w' => OutS layIntS w r e w' := by
  obtain ⟨ao, cp, rfl⟩ := rows_form h
  obtain ⟨i0, hi0, hz0, hsz0, hby0⟩ := info_of infoInt
  have HR := Lib.hid h
  have HN := Lib.hid hr
  clear h hr
  obtain ⟨Q, HQ⟩ : ∃ Q : Ending → World → Prop, Hid (Q = fun e w' => OutS layIntS w r e w') := ⟨_, Lib.hid rfl⟩
  rw [← HQ.out]
  go_enter Tryz.func39, Tryz.ntmps39
  by_cases hf : FreshP xs n
  rotate_left
  · obtain rfl : r = xs := by
      rcases HN.out with ⟨h, _⟩ | ⟨_, h⟩
      · exact absurd h hf
      · exact h
    have K := Lib.hid (specIsFresh_bool r n _ false ⟨fun e => (by cases e), fun e => absurd e hf⟩ (by omega) w HR.out)
    clear hf HN
    go_wp2_with fail
    refine (K.out).mono ?_
    rintro e Y ⟨rfl, hy⟩
    have B := Lib.hid hy
    have HRY := Lib.hid (layIntS.below HR.out hy)
    clear hy K HR
    have hbl : Below Y.heap.size Y (Y.alloc (.cells #[] 3)) := (Below.refl _ _).alloc (Nat.le_refl _) _
    go_wp2_with (at_builtin; refine wpList_copyF (Y.alloc (.cells #[] 3)) rfl _ _ 22 rfl Y.heap.size 3 i0 _ 8 Lay.int flatIntN Tryz.underlying22 hi0 hz0 hsz0 hby0 rfl (by omega) _ _ _ rfl (flat_lit Y _ (Nat.le_refl _)) (fun e => by cases e) _ r rfl (layIntS.below HRY.out hbl) (by simp; omega) (by simp) ?_; intro v1 w1 hown1 hnn1 hgr1 hbe1)
    have E : Hid (Q (.returned v1) w1) := by
      rw [HQ.out]
      exact Lib.hid ⟨v1, _, rfl, blk_dup v1, layIntS.lower hown1 B.out.size, B.out.trans ((hbl.trans hbe1).mono B.out.size)⟩
    clear hown1 hnn1 hgr1 hbe1 hbl
    go_wp2_with fail
    exact E.out
  · obtain rfl : r = nearZ (putD n xs) := by
      rcases HN.out with ⟨_, h⟩ | ⟨h, _⟩
      · exact h
      · exact absurd hf h
    have hpl := put_len n xs
    have HT : Hid (1 ≤ topZ (putD n xs) ∧ topZ (putD n xs) ≤ 1000000000) := Lib.hid (by
      rcases put_mem.1 (top_mem (put_ne n xs)) with h | ⟨h, _⟩
      · rw [h]; exact hf.2.1
      · exact hf.1.2.1 _ h)
    have K := Lib.hid (specIsFresh_bool xs n _ true ⟨fun _ => hf, fun _ => rfl⟩ (by omega) w HR.out)
    clear hf HN
    go_wp2_with fail
    refine (K.out).mono ?_
    rintro e Y ⟨rfl, hy⟩
    have B := Lib.hid hy
    have HRY := Lib.hid (layIntS.below HR.out hy)
    clear hy K HR
    have hal : Below Y.heap.size Y (Y.alloc (.cells #[] 3)) := (Below.refl _ _).alloc (Nat.le_refl _) _
    have O1 : Hid (layIntS.own (Y.alloc (.cells #[] 3)) Y.heap.size [Y.heap.size] [.slice (some ⟨Y.heap.size, 0, none⟩) 0 0] []) := Lib.hid (flat_lit Y _ (Nat.le_refl _))
    have B1 := Lib.hid hal
    clear hal
    go_upto_region 4 with fail
    generalize Y.alloc (.cells #[] 3) = Y1 at *
    go_wp2_with fail
    go_loopw [5, 6] (fun t c wr => ∃ (j g k : Nat) (ys : List Int), j ≤ xs.length ∧ c = .int .i64 j ∧ t = .slice (some ⟨g, 0, none⟩) ys.length k ∧ Hid (ys = (xs.take j).filter (fun x => decide (n < x))) ∧ Hid (layIntS.own wr Y.heap.size [g] [.slice (some ⟨g, 0, none⟩) ys.length k] ys) ∧ Hid (Below Y.heap.size Y wr)) (fun _ c _ => xs.length - (intOf c).toNat)
    case atStart => exact ⟨0, Y.heap.size, 0, [], Nat.zero_le _, rfl, rfl, Lib.hid rfl, O1, B1⟩
    case round =>
      obtain ⟨j, g, k, ys, hj, rfl, rfl, HY, HO, HB⟩ := hrel
      clear O1 B1
      by_cases hlt : j < xs.length
      · have hlt' : (j : Int) < (xs.length : Int) := by omega
        have HRW := layIntS.below HRY.out HB.out
        obtain ⟨g2, off, c2, hv, -, c0⟩ := ints_get HRW j hlt
        simp only [Value.slice.injEq] at hv
        obtain ⟨rfl, -, rfl⟩ := hv
        have hta := filter_next (fun x => decide (n < x)) xs j hlt
        rw [← HY.out] at hta
        have hyl : ys.length ≤ xs.length := by rw [HY.out]; exact filter_len _ xs j
        have hwr : Y.heap.size ≤ wr.heap.size := HB.out.size
        clear HRW
        generalize xs[j] = x at *
        by_cases hx : n < x
        · have HTA : Hid (ys ++ [x] = (xs.take (j + 1)).filter (fun x => decide (n < x))) := Lib.hid (by rw [hta, decide_eq_true hx]; rfl)
          clear hta
          go_wp2_with (at_builtin; refine wpList_pushF wr rfl _ _ 22 rfl Y.heap.size 3 i0 _ 8 Lay.int flatIntN Tryz.underlying22 hi0 hz0 hsz0 hby0 rfl (by omega) (.slice (some ⟨g, 0, none⟩) ys.length k) [g] ys (by rfl) HO.out x #[.int .i64 x] rfl (by rfl) (by omega) hwr ?_; intro v1 w3 hown1 hnn1 hgr1 hbe1; obtain ⟨m1, mc1, rfl, hblk, _, _⟩ := flat_some flatIntN hown1 hnn1; rw [hblk] at hown1)
          have HO3 := Lib.hid hown1
          have HB3 := Lib.hid (HB.out.trans hbe1)
          clear hown1 hnn1 hgr1 hbe1 hblk HO HB c0
          go_wp2_with fail
          go_roundw
          case rel => exact ⟨j + 1, m1, mc1, ys ++ [x], by omega, by go_num, by rw [List.length_append]; rfl, HTA, HO3, HB3⟩
          case measure => simp [intOf]; omega
        · have HTA : Hid (ys = (xs.take (j + 1)).filter (fun x => decide (n < x))) := Lib.hid (by rw [hta, decide_eq_false hx]; simp)
          have hx' : ¬ (n < x) := hx
          clear hta
          go_wp2_with fail
          go_roundw
          case rel => exact ⟨j + 1, g, k, ys, by omega, by go_num, rfl, HTA, HO, HB⟩
          case measure => simp [intOf]; omega
      · have hlt' : ¬ ((j : Int) < (xs.length : Int)) := by omega
        obtain rfl : j = xs.length := by omega
        rw [List.take_length] at HY
        have hyl : Hid (ys.length = (xs.filter (fun x => decide (n < x))).length) := Lib.hid (by rw [HY.out])
        have hyl2 : ys.length + 1 ≤ 1000000000 := by have := hyl.out; omega
        have hwr : Y.heap.size ≤ wr.heap.size := HB.out.size
        go_wp2_with (at_builtin; refine wpList_pushF wr rfl _ _ 22 rfl Y.heap.size 3 i0 _ 8 Lay.int flatIntN Tryz.underlying22 hi0 hz0 hsz0 hby0 rfl (by omega) (.slice (some ⟨g, 0, none⟩) ys.length k) [g] ys (by rfl) HO.out n #[.int .i64 n] rfl (by rfl) hyl2 hwr ?_; intro v1 w3 hown1 hnn1 hgr1 hbe1; obtain ⟨m1, mc1, rfl, hblk, _, _⟩ := flat_some flatIntN hown1 hnn1; rw [hblk] at hown1)
        have HO3 := Lib.hid hown1
        have HB3 := Lib.hid (HB.out.trans hbe1)
        clear hown1 hnn1 hgr1 hbe1 hblk HO HB
        have HL2 : Hid (ys ++ [n] = xs.filter (fun x => decide (n < x)) ++ [n] ++ (xs.take 0).filter (fun x => decide (x < n))) := Lib.hid (by rw [HY.out]; simp)
        clear HY hyl hyl2 hwr
        generalize hzs : ys ++ [n] = zs at *
        have HZL : Hid (zs.length = ys.length + 1) := Lib.hid (by rw [← hzs]; simp)
        clear hzs
        go_wp2_with fail
        go_loopw [5, 7] (fun t c wr => ∃ (j g k : Nat) (ys : List Int), j ≤ xs.length ∧ c = .int .i64 j ∧ t = .slice (some ⟨g, 0, none⟩) ys.length k ∧ Hid (ys = xs.filter (fun x => decide (n < x)) ++ [n] ++ (xs.take j).filter (fun x => decide (x < n))) ∧ Hid (layIntS.own wr Y.heap.size [g] [.slice (some ⟨g, 0, none⟩) ys.length k] ys) ∧ Hid (Below Y.heap.size Y wr)) (fun _ c _ => xs.length - (intOf c).toNat)
        case atStart => exact ⟨0, m1, mc1, zs, Nat.zero_le _, rfl, by rw [HZL.out], HL2, HO3, HB3⟩
        case round =>
          obtain ⟨j, g, k, ys, hj, rfl, rfl, HY, HO, HB⟩ := hrel
          clear HO3 HB3 HL2
          by_cases hlt : j < xs.length
          · have hlt' : (j : Int) < (xs.length : Int) := by omega
            have HRW := layIntS.below HRY.out HB.out
            obtain ⟨g2, off, c2, hv, -, c0⟩ := ints_get HRW j hlt
            simp only [Value.slice.injEq] at hv
            obtain ⟨rfl, -, rfl⟩ := hv
            have hta := filter_next (fun x => decide (x < n)) xs j hlt
            have hyl : ys.length + 1 ≤ 1000000000 := by
              rw [HY.out, List.length_append, List.length_append]
              have h1 := filter_len (fun x => decide (x < n)) xs j
              have h2 := List.length_filter_le (fun x => decide (n < x)) xs
              simp only [List.length_singleton]
              omega
            have hwr : Y.heap.size ≤ wr.heap.size := HB.out.size
            clear HRW
            generalize xs[j] = x at *
            by_cases hx : x < n
            · have HTA : Hid (ys ++ [x] = xs.filter (fun x => decide (n < x)) ++ [n] ++ (xs.take (j + 1)).filter (fun x => decide (x < n))) := Lib.hid (by rw [hta, HY.out, decide_eq_true hx]; simp)
              clear hta
              go_wp2_with (at_builtin; refine wpList_pushF wr rfl _ _ 22 rfl Y.heap.size 3 i0 _ 8 Lay.int flatIntN Tryz.underlying22 hi0 hz0 hsz0 hby0 rfl (by omega) (.slice (some ⟨g, 0, none⟩) ys.length k) [g] ys (by rfl) HO.out x #[.int .i64 x] rfl (by rfl) hyl hwr ?_; intro v1 w3 hown1 hnn1 hgr1 hbe1; obtain ⟨m1, mc1, rfl, hblk, _, _⟩ := flat_some flatIntN hown1 hnn1; rw [hblk] at hown1)
              have HO3 := Lib.hid hown1
              have HB3 := Lib.hid (HB.out.trans hbe1)
              clear hown1 hnn1 hgr1 hbe1 hblk HO HB c0
              go_wp2_with fail
              go_roundw
              case rel => exact ⟨j + 1, m1, mc1, ys ++ [x], by omega, by go_num, by rw [List.length_append]; rfl, HTA, HO3, HB3⟩
              case measure => simp [intOf]; omega
            · have HTA : Hid (ys = xs.filter (fun x => decide (n < x)) ++ [n] ++ (xs.take (j + 1)).filter (fun x => decide (x < n))) := Lib.hid (by rw [hta, HY.out, decide_eq_false hx]; simp)
              have hx' : ¬ (x < n) := hx
              clear hta
              go_wp2_with fail
              go_roundw
              case rel => exact ⟨j + 1, g, k, ys, by omega, by go_num, rfl, HTA, HO, HB⟩
              case measure => simp [intOf]; omega
          · have hlt' : ¬ ((j : Int) < (xs.length : Int)) := by omega
            obtain rfl : j = xs.length := by omega
            rw [List.take_length] at HY
            obtain rfl : ys = putD n xs := HY.out
            have hle : (putD n xs).length ≤ 100000000 := by
              unfold putD
              rw [List.length_append, List.length_append]
              simp only [List.length_singleton]
              omega
            have hne : 0 < (putD n xs).length := List.length_pos_iff.2 (put_ne n xs)
            have HTG : Hid (topZ (putD n xs) = (putD n xs)[0]) := Lib.hid (top_get hne)
            have HRES : Hid (nearZ (putD n xs) = ((putD n xs).take (putD n xs).length).filter (fun x => decide (topZ (putD n xs) - 6 < x))) := Lib.hid (by rw [List.take_length]; rfl)
            clear HY
            generalize wr = wo at *
            generalize topZ (putD n xs) = tp at *
            generalize nearZ (putD n xs) = res at *
            generalize putD n xs = ls at *
            have hal : Below wo.heap.size wo (wo.alloc (.cells #[] 3)) := (Below.refl _ _).alloc (Nat.le_refl _) _
            have O1 : Hid (layIntS.own (wo.alloc (.cells #[] 3)) wo.heap.size [wo.heap.size] [.slice (some ⟨wo.heap.size, 0, none⟩) 0 0] []) := Lib.hid (flat_lit wo _ (Nat.le_refl _))
            have B1 := Lib.hid hal
            clear hal
            go_upto_region 16 with fail
            generalize wo.alloc (.cells #[] 3) = W1 at *
            go_wp2_with fail
            go_loopw [8, 9] (fun t c wr => ∃ (j g3 k3 : Nat) (ys : List Int), j ≤ ls.length ∧ c = .int .i64 j ∧ t = .slice (some ⟨g3, 0, none⟩) ys.length k3 ∧ Hid (ys = (ls.take j).filter (fun x => decide (tp - 6 < x))) ∧ Hid (layIntS.own wr wo.heap.size [g3] [.slice (some ⟨g3, 0, none⟩) ys.length k3] ys) ∧ Hid (Below wo.heap.size wo wr)) (fun _ c _ => ls.length - (intOf c).toNat)
            case atStart => exact ⟨0, wo.heap.size, 0, [], Nat.zero_le _, rfl, rfl, Lib.hid rfl, O1, B1⟩
            case round =>
              obtain ⟨j, g3, k3, ys, hj, rfl, rfl, HY, HO2, HB2⟩ := hrel
              clear O1 B1
              by_cases hlt : j < ls.length
              · have hlt' : (j : Int) < (ls.length : Int) := by omega
                have hl0 : (0 : Int) < (ls.length : Int) := by omega
                have HLW := layIntS.next HO.out HB2.out
                have c0 : wr.cell? ⟨g, j, none⟩ = some (.int .i64 ls[j]) := ints_own_at HLW hlt
                have d0 : wr.cell? ⟨g, 0, none⟩ = some (.int .i64 tp) := (by rw [HTG.out]; exact ints_own_at HLW hne)
                have hta := filter_next (fun x => decide (tp - 6 < x)) ls j hlt
                rw [← HY.out] at hta
                have hyl : ys.length + 1 ≤ 1000000000 := by
                  rw [HY.out]
                  have h1 := filter_len (fun x => decide (tp - 6 < x)) ls j
                  omega
                have hwr : wo.heap.size ≤ wr.heap.size := HB2.out.size
                have hwt : IntKind.i64.wrap (tp - 6) = tp - 6 := by rw [IntKind.wrap_i64]; have := HT.out; omega
                clear HLW
                generalize ls[j] = x at *
                by_cases hx : tp - 6 < x
                · have HTA : Hid (ys ++ [x] = (ls.take (j + 1)).filter (fun x => decide (tp - 6 < x))) := Lib.hid (by rw [hta, decide_eq_true hx]; rfl)
                  clear hta
                  go_wp2_with fail
                  go_quiet (fail)
                  have HBN : Below wr.heap.size wr (wr.drewN nq) := below_drewN (Below.refl _ _) _
                  have HO := Lib.hid (layIntS.next HO2.out HBN)
                  have HB4 := Lib.hid (HB2.out.trans (HBN.mono HB2.out.size))
                  have c1 : (wr.drewN nq).cell? ⟨g, j, none⟩ = some (.int .i64 x) := (HBN.cell (p := ⟨g, j, none⟩) (cell_size c0)).trans c0
                  have hwr2 : wo.heap.size ≤ (wr.drewN nq).heap.size := Nat.le_trans hwr HBN.size
                  clear HO2 HB2 HBN c0 d0 hwr
                  generalize wr.drewN nq = wz at *
                  go_wp2_with (at_builtin; refine wpList_pushF wz rfl _ _ 22 rfl wo.heap.size 3 i0 _ 8 Lay.int flatIntN Tryz.underlying22 hi0 hz0 hsz0 hby0 rfl (by omega) (.slice (some ⟨g3, 0, none⟩) ys.length k3) [g3] ys (by rfl) HO.out x #[.int .i64 x] rfl (by rfl) hyl hwr2 ?_; intro v1 w3 hown1 hnn1 hgr1 hbe1; obtain ⟨m1, mc1, rfl, hblk, _, _⟩ := flat_some flatIntN hown1 hnn1; rw [hblk] at hown1)
                  have HO3 := Lib.hid hown1
                  have HB3 := Lib.hid (HB4.out.trans hbe1)
                  clear hown1 hnn1 hgr1 hbe1 hblk HO HB4 c1
                  go_wp2_with fail
                  go_roundw
                  case rel => exact ⟨j + 1, m1, mc1, ys ++ [x], by omega, by go_num, by rw [List.length_append]; rfl, HTA, HO3, HB3⟩
                  case measure => simp [intOf]; omega
                · have HTA : Hid (ys = (ls.take (j + 1)).filter (fun x => decide (tp - 6 < x))) := Lib.hid (by rw [hta, decide_eq_false hx]; simp)
                  have hx' : ¬ (tp - 6 < x) := hx
                  clear hta
                  go_wp2_with fail
                  go_quiet (fail)
                  have HBN : Below wr.heap.size wr (wr.drewN nq) := below_drewN (Below.refl _ _) _
                  have HO4 := Lib.hid (layIntS.next HO2.out HBN)
                  have HB4 := Lib.hid (HB2.out.trans (HBN.mono HB2.out.size))
                  clear HO2 HB2 HBN c0 d0 hwr
                  generalize wr.drewN nq = wz at *
                  go_wp2_with fail
                  go_roundw
                  case rel => exact ⟨j + 1, g3, k3, ys, by omega, by go_num, rfl, HTA, HO4, HB4⟩
                  case measure => simp [intOf]; omega
              · have hlt' : ¬ ((j : Int) < (ls.length : Int)) := by omega
                obtain rfl : j = ls.length := by omega
                obtain rfl : ys = res := HY.out.trans HRES.out.symm
                have E : Hid (Q (.returned (.slice (some ⟨g3, 0, none⟩) ys.length k3)) wr) := by
                  rw [HQ.out]
                  exact Lib.hid ⟨_, [g3], rfl, by simp, layIntS.lower HO2.out (Nat.le_trans B.out.size HB.out.size), B.out.trans ((HB.out.trans (HB2.out.mono HB.out.size)).mono B.out.size)⟩
                go_wp2_with fail
                exact E.out

end Go.Proofs.YtoaifgblbfdncabGreatDoor
namespace Go.Proofs.YtoaifgblbfdncabGreatDoor
open Go.RowKit

/-- The numbers from k on. -/
def upI (k : Int) (n : Nat) : List Int := (List.range n).map fun (j : Nat) => k + (j : Int)
theorem upI_length (k : Int) (n : Nat) : (upI k n).length = n := by simp [upI]
theorem upI_get (k : Int) (n j : Nat) (h : j < (upI k n).length) : (upI k n)[j] = k + (j : Int) := by simp [upI]
/-- The first j of a list are marked. -/
def partI (k : Int) (xs : List Int) (j : Nat) : List Int := upI k j ++ xs.drop j
theorem partI_length (k : Int) (xs : List Int) (j : Nat) (h : j ≤ xs.length) : (partI k xs j).length = xs.length := by
  unfold partI
  rw [List.length_append, upI_length, List.length_drop]
  omega
theorem partI_next (k : Int) (xs : List Int) (j : Nat) (h : j < xs.length) : (partI k xs j).set j (k + (j : Int)) = partI k xs (j + 1) := by
  unfold partI
  have e : upI k (j + 1) = upI k j ++ [k + (j : Int)] := by simp [upI, List.range_succ]
  have hl : (upI k j).length = j := upI_length k j
  rw [e, List.set_append_right _ _ (by omega), hl, Nat.sub_self, List.append_assoc]
  congr 1
  rw [← List.getElem_cons_drop h]
  rfl

set_option maxRecDepth 100000 in
set_option maxHeartbeats 800000 in
theorem markIntS_any (v : Value) (xs : List Int) (b : Nat) (fp : List Nat) (k : Int) (hk0 : 0 ≤ k) (hk1 : k ≤ 1000000000) (hl : xs.length ≤ 100000000) (w : World) (hd : fp.Nodup) (ho : layIntS.own w b fp [v] xs) :
    Calls Tryz.prog 32 #[v, .int .i64 k] w fun e w' => e = .returned (.int .i64 (k + (xs.length : Int))) ∧ layIntS.own w' b fp [v] (upI k xs.length) ∧ Chg fp w w' := by
  obtain ⟨ao, cp, rfl⟩ := rows_form (layIntS.read ho)
  have HO := Lib.hid ho
  clear ho
  go_enter Tryz.func32, Tryz.ntmps32
  go_wp2_with fail
  go_loopw [1, 5] (fun q c wr => ∃ j : Nat, j ≤ xs.length ∧ q = .int .i64 (k + (j : Int)) ∧ c = .int .i64 j ∧ layIntS.own wr b fp [.slice ao xs.length cp] (partI k xs j) ∧ Chg fp w wr) (fun _ c _ => xs.length - (intOf c).toNat)
  case atStart => exact ⟨0, Nat.zero_le _, by simp, rfl, HO.out, Chg.refl _ _⟩
  case round =>
    obtain ⟨j, hj, rfl, rfl, hO, hC⟩ := hrel
    clear HO
    by_cases hlt : j < xs.length
    · have hlt' : (j : Int) < (xs.length : Int) := by omega
      obtain ⟨g, cap, hv, hbg, hgl, hin, hcell, hfree, hown, hchg⟩ := ints_put hO hd j (by rw [partI_length k xs j (by omega)]; exact hlt) (k + (j : Int))
      simp only [Value.slice.injEq] at hv
      obtain ⟨rfl, -, rfl⟩ := hv
      rw [partI_next k xs j hlt] at hown
      have HN := Lib.hid hown
      have HC := Lib.hid (hC.trans hchg)
      generalize (partI k xs j)[j]'(by rw [partI_length k xs j (by omega)]; exact hlt) = old at hcell
      clear hown hchg hO hC
      go_wp2_with fail
      go_roundw
      case rel => exact ⟨j + 1, hlt, by push_cast; rw [← Int.add_assoc], by go_num, HN.out, HC.out⟩
      case measure => simp [intOf]; omega
    · have hlt' : ¬ ((j : Int) < (xs.length : Int)) := by omega
      have hje : j = xs.length := by omega
      subst hje
      have e : partI k xs xs.length = upI k xs.length := by unfold partI; rw [List.drop_length, List.append_nil]
      rw [e] at hO
      go_wp2_with fail
      go_ret
      exact ⟨rfl, hO, hC⟩

set_option maxRecDepth 100000 in
set_option maxHeartbeats 800000 in
theorem heldIntS_any (v : Value) (n : Nat) (k : Int) (hk0 : 0 ≤ k) (hk1 : k ≤ 1000000000) (hl : n ≤ 100000000) (w : World) (h : layIntS.rd w [v] (upI k n)) :
    Calls Tryz.prog 50 #[v, .int .i64 k] w fun e w' => e = .returned (.int .i64 (k + (n : Int))) ∧ w' = w := by
  obtain ⟨ao, cp, hv⟩ := rows_form h
  rw [upI_length] at hv
  subst hv
  have HR := Lib.hid h
  clear h
  go_enter Tryz.func50, Tryz.ntmps50
  go_wp2_with fail
  go_loop [1, 5] (fun q c => ∃ j : Nat, j ≤ n ∧ q = .int .i64 (k + (j : Int)) ∧ c = .int .i64 j) (fun _ c => n - (intOf c).toNat)
  case atStart => exact ⟨0, Nat.zero_le _, by simp, rfl⟩
  case round =>
    obtain ⟨j, hj, rfl, rfl⟩ := hrel
    by_cases hlt : j < n
    · have hlt' : (j : Int) < (n : Int) := by omega
      obtain ⟨g, off, cap, hv, hg, hcell⟩ := ints_get HR.out j (by rw [upI_length]; exact hlt)
      simp only [Value.slice.injEq] at hv
      obtain ⟨rfl, -, rfl⟩ := hv
      rw [upI_get] at hcell
      go_wp2_with fail
      go_round
      case rel => exact ⟨j + 1, hlt, by push_cast; rw [← Int.add_assoc], by go_num⟩
      case measure => simp [intOf]; omega
    · have hlt' : ¬ ((j : Int) < (n : Int)) := by omega
      have hje : j = n := by omega
      subst hje
      go_wp2_with fail
      go_ret
      exact ⟨rfl, rfl⟩

set_option maxRecDepth 100000 in
set_option maxHeartbeats 800000 in
theorem eqIntS_same (v u : Value) (xs : List Int) (hl : xs.length ≤ 100000000) (w : World) (hv : layIntS.rd w [v] xs) (hu : layIntS.rd w [u] xs) :
    Calls Tryz.prog 30 #[v, u] w fun e w' => e = .returned (.bool true) ∧ Below w.heap.size w w' := by
  obtain ⟨ao, cp, rfl⟩ := rows_form hv
  obtain ⟨bo, dp, rfl⟩ := rows_form hu
  have HV := Lib.hid hv
  have HU := Lib.hid hu
  clear hv hu
  go_enter Tryz.func30, Tryz.ntmps30
  go_wp2_with fail
  go_loopw [5] (fun c wr => ∃ j : Nat, j ≤ xs.length ∧ c = .int .i64 j ∧ Below w.heap.size w wr) (fun c _ => xs.length - (intOf c).toNat)
  case atStart => exact ⟨0, Nat.zero_le _, rfl, Below.refl _ _⟩
  case round =>
    obtain ⟨j, hj, rfl, hb⟩ := hrel
    have HB := Lib.hid hb
    by_cases hlt : j < xs.length
    · have hlt' : (j : Int) < (xs.length : Int) := by omega
      obtain ⟨g, off, cap, hv, hg, hcell⟩ := ints_get (layIntS.below HV.out hb) j hlt
      simp only [Value.slice.injEq] at hv
      obtain ⟨rfl, -, rfl⟩ := hv
      obtain ⟨g2, off2, cap2, hv2, hg2, hcell2⟩ := ints_get (layIntS.below HU.out hb) j hlt
      simp only [Value.slice.injEq] at hv2
      obtain ⟨rfl, -, rfl⟩ := hv2
      generalize xs[j] = x at hcell hcell2
      clear hb
      go_wp2_with fail
      go_quiet (fail)
      go_wp2_with fail
      go_roundw
      case rel => exact ⟨j + 1, by omega, by go_num, below_drewN HB.out _⟩
      case measure => simp [intOf]; omega
    · have hlt' : ¬ ((j : Int) < (xs.length : Int)) := by omega
      go_wp2_with fail
      go_ret
      exact ⟨rfl, hb⟩

end Go.Proofs.YtoaifgblbfdncabGreatDoor

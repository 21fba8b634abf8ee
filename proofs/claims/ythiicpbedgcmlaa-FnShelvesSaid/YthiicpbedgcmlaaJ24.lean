/-
  The program's joined: parts put one behind another.
  AddPart's variables: what is held of memory meanwhile.
-/
import Derived.Test.YthiicpbedgcmlaaJ23
import Derived.Test.YthiicpbedgcmlaaJ06
import Derived.Test.YthiicpbedgcmlaaJ07
import Derived.Lib.BufferWrite
import Derived.Test.YthiicpbedgcmlaaJ09
namespace Go.Proofs.Ythiicpbedgcmlaa
open Go.RowKit

theorem whole_next {l : List ByteArray} {j : Nat} (h : j < l.length) : wholeV (l.take (j + 1)) = wholeV (l.take j) ++ l[j] := by
  have e : l.take (j + 1) = l.take j ++ [l[j]] := by rw [List.take_add_one, List.getElem?_eq_getElem h]; rfl
  unfold wholeV
  rw [e, List.foldl_append]
  rfl
/-- How many bytes the first parts have. -/
def sumZ (l : List ByteArray) (j : Nat) : Nat := (wholeV (l.take j)).size
theorem sumZ_next {l : List ByteArray} {j : Nat} (h : j < l.length) : sumZ l (j + 1) = sumZ l j + l[j].size := by
  unfold sumZ
  rw [whole_next h, ByteArray.size_append]
theorem sumZ_le {l : List ByteArray} (hz : ∀ p ∈ l, p.size ≤ 1000) : ∀ j, j ≤ l.length → sumZ l j ≤ 1000 * j
  | 0, _ => Nat.le_of_eq (by unfold sumZ; rw [List.take_zero]; rfl)
  | j + 1, h => by
    have h1 := sumZ_le hz j (by omega)
    have h2 := hz l[j] (List.getElem_mem (by omega))
    rw [sumZ_next (by omega)]
    omega
theorem sumZ_mono {l : List ByteArray} {j : Nat} : ∀ d, j + d ≤ l.length → sumZ l j ≤ sumZ l (j + d)
  | 0, _ => Nat.le_refl _
  | d + 1, h => by
    have h1 := sumZ_mono (l := l) (j := j) d (by omega)
    rw [← Nat.add_assoc, sumZ_next (by omega)]
    omega

set_option maxRecDepth 100000 in
set_option maxHeartbeats 3200000 in
theorem joined_any (v : Value) (r3 : List ByteArray) (hl : r3.length ≤ 1000) (hz : ∀ p ∈ r3, p.size ≤ 1000) (w : World) (h : layStringS.rd w [v] r3) :
    Calls Try.prog 22 #[v] w fun e w' => e = .returned (.string (wholeV r3)) ∧ Below w.heap.size w w' := by
  obtain ⟨i0, hi0, hz0, hs0, hb0⟩ := info_of infoU8
  obtain ⟨a, p, rfl⟩ := rows_form h
  have HR := Lib.hid h
  have HZ := Lib.hid hz
  have HSL := Lib.hid (sumZ_le hz)
  clear h hz
  obtain ⟨n, hn⟩ : ∃ n, sumZ r3 r3.length = n := ⟨_, rfl⟩
  have hnb : n ≤ 1000000 := by have := HSL.out r3.length (Nat.le_refl _); omega
  have HN := Lib.hid hn
  clear hn
  obtain ⟨Q, HQ⟩ : ∃ Q : Ending → World → Prop, Hid (Q = fun e w' => e = .returned (.string (wholeV r3)) ∧ Below w.heap.size w w') := ⟨_, Lib.hid rfl⟩
  rw [← HQ.out]
  go_enter Try.func22, Try.ntmps22
  go_wp2_with fail
  go_loop [3, 12] (fun s c => ∃ (j z : Nat), j ≤ r3.length ∧ c = .int .i64 j ∧ s = .int .i64 z ∧ Hid (z = sumZ r3 j)) (fun _ c => r3.length - (intOf c).toNat)
  case atStart => exact ⟨0, 0, Nat.zero_le _, rfl, rfl, Lib.hid rfl⟩
  case round =>
    obtain ⟨j, z, hj, rfl, rfl, HS⟩ := hrel
    by_cases hlt : j < r3.length
    · have hlt' : (j : Int) < (r3.length : Int) := by omega
      obtain ⟨g3, off3, rfl, hg3, hcell3⟩ := text_at HR.out j hlt
      have hnx := sumZ_next hlt
      have hpz := HZ.out _ (List.getElem_mem hlt)
      have hzb := HSL.out j (by omega)
      rw [← HS.out] at hnx hzb
      generalize r3[j] = q at *
      have hw : IntKind.i64.wrap ((z : Int) + (q.size : Int)) = ((z + q.size : Nat) : Int) := by rw [IntKind.wrap_i64]; omega
      have HS2 : Hid (z + q.size = sumZ r3 (j + 1)) := Lib.hid hnx.symm
      clear hnx
      go_wp2_with fail
      go_round
      case rel => exact ⟨j + 1, z + q.size, by omega, by go_num, by first | rfl | (apply int_eq; omega), HS2⟩
      case measure => simp [intOf]; omega
    · have hlt' : ¬ ((j : Int) < (r3.length : Int)) := by omega
      obtain rfl : j = r3.length := by omega
      obtain rfl : z = n := by rw [HS.out, HN.out]
      clear HS
      obtain ⟨cur, hcur⟩ : ∃ cur : List Value, (madeCells #[Value.int .u8 0] z) = cur.toArray := ⟨(madeCells #[Value.int .u8 0] z).toList, by simp⟩
      have hcl0 : cur.length = z := by
        have h9 : (madeCells #[Value.int .u8 0] z).size = z := by simp [madeCells]
        rw [hcur] at h9
        simpa using h9
      go_wp2_with (at_make; refine wpList_make_row _ rfl _ _ 22 rfl 5 i0 (.int .u8 0) Try.underlying22 hi0 hz0 hs0 rfl .i64 .i64 z rfl rfl (by rw [hb0]; omega) (by omega) ?_)
      have A1 := Lib.hid (VarA.new w 5 cur.toArray)
      have B1 := Lib.hid ((Below.refl w.heap.size w).alloc (Nat.le_refl _) (.cells cur.toArray 5))
      try rw [hcur]
      generalize w.alloc (.cells cur.toArray 5) = W1 at *
      clear hcur
      go_wp2_with fail
      go_loopw [7, 25] (fun s c wr => ∃ (j at_ : Nat) (cur : List Value), j ≤ r3.length ∧ c = .int .i64 j ∧ s = .int .i64 at_ ∧ Hid (at_ = sumZ r3 j ∧ cur.length = z ∧ cur.take at_ = u8C (wholeV (r3.take j)).data.toList) ∧ Hid (VarA w.heap.size 5 cur.toArray wr) ∧ Hid (Below w.heap.size w wr)) (fun _ c _ => r3.length - (intOf c).toNat)
      case atStart => exact ⟨0, 0, cur, Nat.zero_le _, rfl, rfl, Lib.hid ⟨rfl, hcl0, rfl⟩, A1, B1⟩
      case round =>
        obtain ⟨j, k, cu, hj, rfl, rfl, HS, HA, HB⟩ := hrel
        clear A1 B1
        by_cases hlt : j < r3.length
        rotate_left
        · have hlt' : ¬ ((j : Int) < (r3.length : Int)) := by omega
          obtain rfl : j = r3.length := by omega
          have hk : k = z := by rw [HS.out.1, HN.out]
          have hcu : cu = u8C (wholeV r3).data.toList := by
            have h9 := HS.out.2.2
            rw [List.take_length, List.take_of_length_le (by rw [HS.out.2.1, hk]; exact Nat.le_refl _)] at h9
            exact h9
          have hrow := HA.out.row
          rw [hcu] at hrow
          have hcv := block_back wr w.heap.size _ 5 hrow z z (by
            rw [← u8C_len, ← hcu]
            exact HS.out.2.1)
          have E : Hid (Q (.returned (.string (wholeV r3))) wr) := Lib.hid (by rw [HQ.out]; exact ⟨rfl, HB.out⟩)
          have hba : (⟨(wholeV r3).data.toList.toArray⟩ : ByteArray) = wholeV r3 := by rw [Array.toArray_toList]
          rw [hba] at hcv
          clear hrow hcu hk HS hba
          generalize wholeV r3 = tx at *
          go_wp2_with fail
          exact E.out
        have hlt' : (j : Int) < (r3.length : Int) := by omega
        obtain ⟨g3, off3, rfl, hg3, hcell3⟩ := text_at (layStringS.below HR.out HB.out) j hlt
        have hnx := sumZ_next hlt
        have hwn := whole_next hlt
        have hpz := HZ.out _ (List.getElem_mem hlt)
        have htot : k + r3[j].size ≤ z := by
          have h9 := sumZ_mono (l := r3) (j := j + 1) (r3.length - (j + 1)) (by omega)
          rw [show j + 1 + (r3.length - (j + 1)) = r3.length by omega, HN.out, hnx] at h9
          have h8 := HS.out.1
          omega
        generalize r3[j] = q at *
        have hw : IntKind.i64.wrap ((k : Int) + (q.size : Int)) = ((k + q.size : Nat) : Int) := by rw [IntKind.wrap_i64]; omega
        have hkz : (k : Int) ≤ (z : Int) := by omega
        have hS2 : ∀ c2 : List Value, c2.take k = cu.take k → (c2.drop k).take q.size = u8C q.data.toList → c2.take (k + q.size) = u8C (wholeV (r3.take (j + 1))).data.toList := fun c2 h1 h2 => by
          rw [List.take_add, h1, h2, HS.out.2.2, hwn]
          unfold u8C
          rw [ByteArray.data_append, Array.toList_append, List.map_append]
        have HS2 := Lib.hid hS2
        have HK2 : Hid (k + q.size = sumZ r3 (j + 1)) := Lib.hid (by rw [hnx, HS.out.1])
        have hql : q.data.toList.length = q.size := rfl
        clear hnx hwn hS2
        by_cases hkn : k = z
        · subst hkn
          have hq0 : q.size = 0 := by omega
          have hrun := Lib.run_copy_empty_string (P := Try.prog) wr 22 9 3 5 (some ⟨w.heap.size, 0, none⟩) 0 0 q Try.underlying22 (by rw [u8_size]; rfl) hq0
          have hw0 : IntKind.i64.wrap (k : Int) = (k : Int) := by rw [IntKind.wrap_i64]; omega
          have HF : Hid (k = sumZ r3 (j + 1) ∧ cu.length = k ∧ cu.take k = u8C (wholeV (r3.take (j + 1))).data.toList) := Lib.hid (by
            have h9 := HK2.out
            rw [hq0, Nat.add_zero] at h9
            have h8 := HS2.out cu rfl (by rw [hq0, List.take_zero, List.length_eq_zero_iff.1 (hql.trans hq0)]; rfl)
            rw [hq0, Nat.add_zero] at h8
            exact ⟨h9, HS.out.2.1, h8⟩)
          clear HK2 HS2 HS hw
          go_wp2_with (at_builtin; refine wpList_copyK wr rfl _ _ _ _ rfl _ _ rfl rfl hrun ?_)
          go_roundw
          case rel => exact ⟨j + 1, k, cu, by omega, by go_num, rfl, HF, HA, HB⟩
          case measure => simp [intOf]; omega
        · have hrun := Lib.run_copy_row_string (P := Try.prog) wr 22 9 3 5 w.heap.size k (z - k) (z - k) q cu.toArray 5 Try.underlying22 u8_size HA.out.row (by omega) (by rw [List.size_toArray, HS.out.2.1]; exact htot)
          have hl9 := HS.out.2.1
          obtain ⟨c2, hc2⟩ : ∃ c2 : List Value, c2 = cu.take k ++ Lib.byteCells q.data.toList ++ cu.drop (k + q.size) := ⟨_, rfl⟩
          have e9 : (cu.toArray.toList.take k ++ Lib.byteCells q.data.toList ++ cu.toArray.toList.drop (k + q.size)) = c2 := hc2.symm
          rw [e9] at hrun
          have hbl : (Lib.byteCells q.data.toList).length = q.size := u8C_len q.data.toList
          have hkl : (cu.take k).length = k := by rw [List.length_take]; omega
          have HF : Hid (k + q.size = sumZ r3 (j + 1) ∧ c2.length = z ∧ c2.take (k + q.size) = u8C (wholeV (r3.take (j + 1))).data.toList) := Lib.hid ⟨HK2.out, by rw [hc2, List.length_append, List.length_append, hbl, hkl, List.length_drop]; omega, HS2.out c2 (by rw [hc2, List.append_assoc]; exact List.take_left' hkl) (by
            rw [hc2, List.append_assoc, List.drop_left' hkl]
            exact List.take_left' hbl)⟩
          have A2 : Hid (VarA w.heap.size 5 c2.toArray (wr.setRow w.heap.size c2.toArray)) := Lib.hid ⟨setRow_heap _ w.heap.size _ _ 5 _ HA.out.row⟩
          have B2 := Lib.hid (below_setRow HB.out (Nat.le_refl w.heap.size) c2.toArray)
          have hz1 : ¬ (z = k) := fun e => hkn e.symm
          have hz2 : ¬ (z - k = 0) := by omega
          clear HK2 HS2 HS HA HB hc2 e9 hbl hkl
          go_wp2_with (at_builtin; refine wpList_copyK wr rfl _ _ _ _ rfl _ _ rfl rfl hrun ?_)
          go_roundw
          case rel => exact ⟨j + 1, k + q.size, c2, by omega, by go_num, by first | rfl | (apply int_eq; omega), HF, A2, B2⟩
          case measure => simp [intOf]; omega

end Go.Proofs.Ythiicpbedgcmlaa
namespace Go.Proofs.Ythiicpbedgcmlaa
open Go.RowKit

/-- The shelf, the result and the next shelf in their variables. -/
structure APS (w : World) (q : Nat) (v u : Value) (fp : List Nat) (ys : List HeldD) (X : World) : Prop where
  s : VarA w.heap.size ShelfT #[v] X
  r : VarA (w.heap.size + 1) ShelfT #[.slice none 0 0] X
  n : VarA q ShelfT #[u] X
  dup : fp.Nodup
  own : layHeldC.own X (w.heap.size + 2) fp [u] ys
  out : q ∉ fp
  low : w.heap.size + 2 ≤ q
  below : Below w.heap.size w X
theorem APS.next {w X Y : World} {q : Nat} {v u : Value} {fp : List Nat} {ys : List HeldD} (h : APS w q v u fp ys X) (hb : Below X.heap.size X Y) : APS w q v u fp ys Y := ⟨h.s.next hb, h.r.next hb, h.n.next hb, h.dup, layHeldC.next h.own hb, h.out, h.low, h.below.trans (hb.mono h.below.size)⟩
theorem APS.ends {w X : World} {q : Nat} {v u : Value} {fp : List Nat} {ys : List HeldD} (h : APS w q v u fp ys X) (whole : ByteArray) (ok : Bool) : AddMade w ys whole ok (.returned (.tuple #[.agg #[u], .string whole, .bool ok])) (X.setCell ⟨w.heap.size + 1, 0, none⟩ u) := by
  have ho1 : Only (w.heap.size + 1) X (X.setCell ⟨w.heap.size + 1, 0, none⟩ u) := Only.setCell 0 _
  exact ⟨u, fp, rfl, h.dup, layHeldC.lower (layHeldC.keep h.own (fun a ha => ho1.block a (layHeldC.blocks h.own a ha).2 (by have := (layHeldC.blocks h.own a ha).1; omega))) (by omega), h.below.trans (ho1.below (by omega) h.below.size)⟩

end Go.Proofs.Ythiicpbedgcmlaa

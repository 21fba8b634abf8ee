/-
  The program's words of a block.
-/
import Derived.Test.YtoaifgblbfdncabGreatDoorJ27
import Derived.Test.YtoaifgblbfdncabGreatDoorJ06
namespace Go.Proofs.YtoaifgblbfdncabGreatDoor
open Go.RowKit

/-- Words, filled up with zeros to 64. -/
def filled (l : List Nat) : List Nat := l ++ List.replicate (64 - l.length) 0
theorem filled_length (l : List Nat) (h : l.length ≤ 64) : (filled l).length = 64 := by unfold filled; rw [List.length_append, List.length_replicate]; omega
theorem filled_set (l : List Nat) (n x : Nat) (h : l.length < 64) (hn : l.length = n) : (filled l).set n x = filled (l ++ [x]) := by
  subst hn
  unfold filled
  have e : 64 - l.length = (64 - (l ++ [x]).length) + 1 := by rw [List.length_append]; show _ = 64 - (l.length + 1) + 1; omega
  rw [e, List.replicate_succ, List.set_append_right _ _ (Nat.le_refl _), Nat.sub_self, List.set_cons_zero, List.append_assoc]
  rfl
theorem filled_getD (l : List Nat) (j : Nat) (h : j < l.length) : (filled l).getD j 0 = l.getD j 0 := by
  unfold filled
  rw [List.getD_eq_getElem?_getD, List.getElem?_append_left h, ← List.getD_eq_getElem?_getD]
theorem filled_full (l : List Nat) (h : l.length = 64) : filled l = l := by unfold filled; rw [h]; simp

/-- The result's variable, and one more, each of 64 words. -/
structure WV (w : World) (t : TypeId) (xs : List Nat) (X : World) : Prop where
  res : ArrW w.heap.size t (filled []) X
  arr : ArrW (w.heap.size + 1) t xs X
  below : Below w.heap.size w X
theorem WV.next {w : World} {t : TypeId} {xs : List Nat} {X Y : World} (h : WV w t xs X) (hb : Below X.heap.size X Y) : WV w t xs Y := ⟨h.res.next hb, h.arr.next hb, h.below.trans (hb.mono h.below.size)⟩
theorem WV.drewN {w : World} {t : TypeId} {xs : List Nat} {X : World} (h : WV w t xs X) (n : Nat) : WV w t xs (X.drewN n) := ⟨⟨h.res.row⟩, ⟨h.arr.row⟩, below_drewN h.below n⟩
theorem WV.store {w : World} {t : TypeId} {xs : List Nat} {X : World} (h : WV w t xs X) (j x : Nat) : WV w t (xs.set j x) (X.setCell ⟨w.heap.size + 1, j, none⟩ (.int .u32 (x : Int))) :=
  ⟨h.res.set_other ⟨w.heap.size + 1, j, none⟩ (by show w.heap.size + 1 ≠ w.heap.size; omega) _, h.arr.set j x, h.below.setCell (p := ⟨w.heap.size + 1, j, none⟩) (by show w.heap.size ≤ w.heap.size + 1; omega) _⟩
theorem WV.new (w : World) (t : TypeId) : WV w t (filled []) ((w.alloc (.cells (wcells (filled [])).toArray t)).alloc (.cells (wcells (filled [])).toArray t)) :=
  ⟨(ArrW.new w t _).alloc _, ArrW.new2 w _ t _, ((Below.refl _ _).alloc (Nat.le_refl _) _).alloc (by simp) _⟩

/-- The variable ahead of its next word, or behind it. -/
structure W2 (w : World) (t : TypeId) (xs : List Nat) (z : Nat) (X : World) : Prop where
  two : WV w t (filled xs) X ∨ WV w t (filled (xs ++ [z])) X
theorem W2.drew {w : World} {t : TypeId} {xs : List Nat} {z : Nat} {X : World} (h : W2 w t xs z X) : W2 w t xs z X.drew := ⟨h.two.elim (fun k => .inl ⟨⟨k.res.row⟩, ⟨k.arr.row⟩, k.below.drew⟩) (fun k => .inr ⟨⟨k.res.row⟩, ⟨k.arr.row⟩, k.below.drew⟩)⟩
theorem W2.store {w : World} {t : TypeId} {xs : List Nat} {z : Nat} {X : World} (h : W2 w t xs z X) {q : Nat} (hn : xs.length = q) (hq : q < 64) : WV w t (filled (xs ++ [z])) (X.setCell ⟨w.heap.size + 1, q, none⟩ (.int .u32 (z : Int))) := by
  rcases h.two with k | k
  · rw [← filled_set xs q z (by omega) hn]
    exact k.store q z
  · have := k.store q z
    have e : (filled (xs ++ [z])).set q z = filled (xs ++ [z]) := by rw [← filled_set xs q z (by omega) hn, List.set_set]
    rw [e] at this
    exact this
theorem W2.four {w : World} {t : TypeId} {xs : List Nat} {z : Nat} {X : World} (h : W2 w t xs z X) {q : Nat} (hn : xs.length = q) (hq : q < 64) {p1 p2 p3 p4 x1 x2 x3 x4 : Nat} (h1 : p1 < q) (h2 : p2 < q) (h3 : p3 < q) (h4 : p4 < q) (e1 : x1 = xs.getD p1 0) (e2 : x2 = xs.getD p2 0) (e3 : x3 = xs.getD p3 0) (e4 : x4 = xs.getD p4 0) :
    X.cell? ⟨w.heap.size + 1, p1, none⟩ = some (.int .u32 x1) ∧ X.cell? ⟨w.heap.size + 1, p2, none⟩ = some (.int .u32 x2) ∧ X.cell? ⟨w.heap.size + 1, p3, none⟩ = some (.int .u32 x3) ∧ X.cell? ⟨w.heap.size + 1, p4, none⟩ = some (.int .u32 x4) ∧ W2 w t xs z X := by
  subst e1 e2 e3 e4
  have hc : ∀ p, p < q → X.cell? ⟨w.heap.size + 1, p, none⟩ = some (.int .u32 (xs.getD p 0 : Nat)) := fun p hp => by
    rcases h.two with k | k
    · have hl := filled_length xs (by omega)
      rw [k.arr.cell p (by omega), filled_getD xs p (by omega)]
    · have hl := filled_length (xs ++ [z]) (by simp; omega)
      rw [k.arr.cell p (by omega), filled_getD _ p (by simp; omega), List.getD_eq_getElem?_getD, List.getElem?_append_left (by omega), ← List.getD_eq_getElem?_getD]
  exact ⟨hc p1 h1, hc p2 h2, hc p3 h3, hc p4 h4, h⟩
theorem W2.at {w : World} {t : TypeId} {xs : List Nat} {z : Nat} {X : World} (h : W2 w t xs z X) {q : Nat} (hn : xs.length = q) (hq : q < 64) : (∃ v, X.cell? ⟨w.heap.size + 1, q, none⟩ = some v) ∧ X.frozen? ⟨w.heap.size + 1, q, none⟩ = false := by
  rcases h.two with k | k
  · have hl := filled_length xs (by omega)
    exact ⟨⟨_, k.arr.cell q (by omega)⟩, k.arr.free q⟩
  · have hl := filled_length (xs ++ [z]) (by simp; omega)
    exact ⟨⟨_, k.arr.cell q (by omega)⟩, k.arr.free q⟩
theorem WV.drew {w : World} {t : TypeId} {xs : List Nat} {X : World} (h : WV w t xs X) : WV w t xs X.drew := ⟨⟨h.res.row⟩, ⟨h.arr.row⟩, h.below.drew⟩
/-- A sum of words, as a number of its own. -/
theorem sumW (x y : Nat) : ∃ z : Nat, IntKind.u32.wrap ((x : Int) + (y : Int)) = (z : Int) ∧ Hid (z = (x + y) % 4294967296) := ⟨(x + y) % 4294967296, by rw [IntKind.wrap_u32]; omega, rfl⟩
/-- A place ahead of another one, as a number of its own. -/
theorem placeW (t j : Nat) (h : j ≤ t) (ht : t ≤ 1000) : ∃ m : Nat, (t : Int) - (j : Int) = (m : Int) ∧ IntKind.i64.wrap (m : Int) = (m : Int) ∧ Hid (m = t - j) :=
  ⟨t - j, by omega, by rw [IntKind.wrap_i64]; omega, rfl⟩

theorem drop_word (s : ByteArray) (k : Nat) : wordAt (s.extract (4 * k) s.size).data.toList 0 = wordAt s.data.toList (4 * k) := by
  have e : (s.extract (4 * k) s.size).data.toList = s.data.toList.drop (4 * k) := by
    rw [ByteArray.data_extract, Array.toList_extract, List.extract_eq_take_drop]
    rw [List.take_of_length_le (by simp)]
  rw [e]
  unfold wordAt
  simp only [List.getD_eq_getElem?_getD, List.getElem?_drop, Nat.add_zero]

set_option maxRecDepth 100000 in
set_option maxHeartbeats 1600000 in
theorem implWords_any (s : ByteArray) (hs : s.size = 64) (w : World) :
    Calls Tryz.prog 117 #[.string s] w fun e w' => e = .returned (stV (grow (wordsOf s.data.toList) 48)) ∧ Below w.heap.size w w' := by
  have V0 := Lib.hid (WV.new w 148)
  have hl0 : (wordsOf s.data.toList).length = 16 := by rw [wordsOf_length]; simp; omega
  have hw0 := wordsOf_words s.data.toList
  obtain ⟨W0, HW0⟩ : ∃ W0, Hid (W0 = wordsOf s.data.toList) := ⟨_, rfl⟩
  rw [← HW0.out] at hl0 hw0
  rw [← HW0.out]
  go_enter Tryz.func117, Tryz.ntmps117
  go_wp2_with fail
  go_loopw [6] (fun i wr => ∃ k : Nat, k ≤ 16 ∧ i = .int .i64 (k : Int) ∧ WV w 148 (filled (wordsUp s.data.toList k)) wr) (fun i _ => 16 - (intOf i).toNat)
  case atStart =>
    exact ⟨0, by omega, rfl, V0.out⟩
  case round =>
    obtain ⟨k, hk, rfl, hv⟩ := hrel
    have HV := Lib.hid hv
    clear hv V0
    by_cases hlt : (k : Int) < 16
    · obtain ⟨m, M1, M2⟩ : ∃ m : Nat, (k : Int) * 4 = (m : Int) ∧ Hid (m = 4 * k) := ⟨4 * k, by omega, rfl⟩
      have hm : (m : Int) ≤ (s.size : Int) := by have := M2.out; omega
      have hm2 : IntKind.i64.wrap (m : Int) = (m : Int) := by rw [IntKind.wrap_i64]; have := M2.out; omega
      have hk64 : (k : Int) < 64 := by omega
      have H1 := Lib.hid (textWord_first (s.extract m s.size) (by rw [ByteArray.size_extract]; have := M2.out; omega))
      rw [M2.out, drop_word s k, ← M2.out] at H1
      rw [hs] at H1
      have lt := wordAt_lt s.data.toList m
      obtain ⟨z, Z⟩ : ∃ z, Hid (z = wordAt s.data.toList m) := ⟨_, rfl⟩
      rw [← Z.out] at H1 lt
      go_wp2_with fail
      refine (H1.out _).mono ?_
      rintro e w1 ⟨rfl, hb1⟩
      have HV1 := HV.out.next hb1
      have hl : (wordsUp s.data.toList k).length = k := wordsUp_length _ _
      have c1 := HV1.arr.cell k (by rw [filled_length _ (by omega)]; omega)
      have f1 := HV1.arr.free k
      have HW := Lib.hid (HV1.store k z)
      clear HV1 hb1
      go_wp2_with fail
      go_roundw
      case rel =>
        refine ⟨k + 1, by omega, by go_num, ?_⟩
        rw [wordsUp_succ, ← filled_set _ k _ (by omega) hl, ← M2.out, ← Z.out]
        exact HW.out
      case measure => simp [intOf]; omega
    · have hk16 : k = 16 := by omega
      subst hk16
      have HE : Hid (wordsUp s.data.toList 16 = W0) := by
        show _ = _
        rw [HW0.out]
        unfold wordsOf
        congr 1
        simp
        omega
      rw [HE.out] at HV
      go_wp2_with fail
      go_loopw [5] (fun i wr => ∃ k : Nat, k ≤ 48 ∧ i = .int .i64 ((16 + k : Nat) : Int) ∧ WV w 148 (filled (grow W0 k)) wr) (fun i _ => 64 - (intOf i).toNat)
      case atStart =>
        exact ⟨0, by omega, rfl, HV.out⟩
      case round =>
        obtain ⟨k, hk, rfl, hv⟩ := hrel
        have HV := Lib.hid hv
        clear hv
        obtain ⟨t, ht, HT⟩ : ∃ t : Nat, t ≤ 64 ∧ Hid (t = 16 + k) := ⟨16 + k, by omega, rfl⟩
        rw [← HT.out]
        have hlen : (grow W0 k).length = t := by rw [grow_length, hl0, HT.out]
        have hwk := grow_words W0 hw0 k
        obtain ⟨xs, HXS⟩ : ∃ xs, Hid (xs = grow W0 k) := ⟨_, rfl⟩
        rw [← HXS.out] at HV hlen hwk
        by_cases hlt : (t : Int) < 64
        · obtain ⟨p2, a2, b2, P2⟩ := placeW t 2 (by rw [HT.out]; omega) (by omega)
          obtain ⟨p7, a7, b7, P7⟩ := placeW t 7 (by rw [HT.out]; omega) (by omega)
          obtain ⟨p15, a15, b15, P15⟩ := placeW t 15 (by rw [HT.out]; omega) (by omega)
          obtain ⟨p16, a16, b16, P16⟩ := placeW t 16 (by rw [HT.out]; omega) (by omega)
          have d2 : (p2 : Int) < 64 := by have := P2.out; have := HT.out; omega
          have d7 : (p7 : Int) < 64 := by have := P7.out; have := HT.out; omega
          have d15 : (p15 : Int) < 64 := by have := P15.out; have := HT.out; omega
          have d16 : (p16 : Int) < 64 := by have := P16.out; have := HT.out; omega
          have n2 : p2 < t := by have := P2.out; have := HT.out; omega
          have n7 : p7 < t := by have := P7.out; have := HT.out; omega
          have n15 : p15 < t := by have := P15.out; have := HT.out; omega
          have n16 : p16 < t := by have := P16.out; have := HT.out; omega
          have a2' : (t : Int) - 2 = (p2 : Int) := a2
          have a7' : (t : Int) - 7 = (p7 : Int) := a7
          have a15' : (t : Int) - 15 = (p15 : Int) := a15
          have a16' : (t : Int) - 16 = (p16 : Int) := a16
          clear a2 a7 a15 a16
          have l2 := hwk.at p2
          have l7 := hwk.at p7
          have l15 := hwk.at p15
          have l16 := hwk.at p16
          have hz : nextW xs = (ss1 (xs.getD p2 0) + xs.getD p7 0 + ss0 (xs.getD p15 0) + xs.getD p16 0) % 4294967296 := by unfold nextW; rw [hlen, P2.out, P7.out, P15.out, P16.out]
          have HZ := Lib.hid hz
          clear hz
          obtain ⟨x2, X2⟩ : ∃ x, Hid (x = xs.getD p2 0) := ⟨_, rfl⟩
          obtain ⟨x7, X7⟩ : ∃ x, Hid (x = xs.getD p7 0) := ⟨_, rfl⟩
          obtain ⟨x15, X15⟩ : ∃ x, Hid (x = xs.getD p15 0) := ⟨_, rfl⟩
          obtain ⟨x16, X16⟩ : ∃ x, Hid (x = xs.getD p16 0) := ⟨_, rfl⟩
          rw [← X2.out] at l2 HZ
          rw [← X7.out] at l7 HZ
          rw [← X15.out] at l15 HZ
          rw [← X16.out] at l16 HZ
          have k2 := mixed_ss1 x2 l2
          have k15 := mixed_ss0 x15 l15
          have m2 := ss1_lt x2 l2
          have m15 := ss0_lt x15 l15
          generalize ss1 x2 = y2 at *
          generalize ss0 x15 = y15 at *
          obtain ⟨z1, q1, Q1⟩ := sumW y2 x7
          obtain ⟨z2, q2, Q2⟩ := sumW z1 y15
          obtain ⟨z, q3, Q3⟩ := sumW z2 x16
          have HY : Hid (z = nextW xs) := by
            show _ = _
            rw [HZ.out]
            have := Q1.out
            have := Q2.out
            have := Q3.out
            omega
          have hq : t < 64 := by omega
          have HF := Lib.hid (fun X (h : W2 w 148 xs z X) => h.four hlen hq n2 n7 n15 n16 X2.out X7.out X15.out X16.out)
          have S0 := Lib.hid (HF.out wr ⟨.inl HV.out⟩)
          have HE5 := Lib.hid (WV.drew (S0.out.2.2.2.2.store hlen hq))
          obtain ⟨⟨v0, hv0⟩, hf0⟩ := S0.out.2.2.2.2.at hlen hq
          have K2 := Lib.hid k2
          have K15 := Lib.hid k15
          clear k2 k15
          go_wp2_with fail
          go_region_held3 (fun X => X.cell? ⟨w.heap.size + 1, p2, none⟩ = some (.int .u32 x2) ∧ X.cell? ⟨w.heap.size + 1, p7, none⟩ = some (.int .u32 x7) ∧ X.cell? ⟨w.heap.size + 1, p15, none⟩ = some (.int .u32 x15) ∧ X.cell? ⟨w.heap.size + 1, p16, none⟩ = some (.int .u32 x16) ∧ W2 w 148 xs z X) (first | assumption | (exact ⟨by assumption, by assumption, by assumption, by assumption, by assumption⟩) | exact HF.out _ (W2.drew S0.out.2.2.2.2) | exact HF.out _ ⟨.inr HE5.out⟩) (first | (go_at_call_of 122 (Value.int IntKind.u32 (x2 : Int)); refine (K2.out _).mono ?_; rintro e v1 ⟨rfl, rfl⟩) | (go_at_call_of 122 (Value.int IntKind.u32 (x15 : Int)); refine (K15.out _).mono ?_; rintro e v1 ⟨rfl, rfl⟩))
          go_wp2_with fail
          go_roundw
          case rel =>
            refine ⟨k + 1, by have := HT.out; omega, by have := HT.out; go_num, ?_⟩
            rw [grow, ← HXS.out, ← HY.out]
            exact HE5.out
          case measure => simp [intOf]; omega
        · have hx64 : t = 64 := by omega
          have HA : Hid (ArrW (w.heap.size + 1) 148 xs wr) := by
            have := HV.out.arr
            rw [filled_full xs (by omega)] at this
            exact this
          have hx := hlen
          rw [hx64] at hx
          have hf : (filled []).length = xs.length := by rw [hx]; rfl
          have hinf : (Tryz.prog.info? 148).map (·.size) = some xs.length := by rw [hx]; kernel_rfl
          have HI := Lib.hid hinf
          clear hinf
          go_wp2_with (first | (refine wpList_loadA _ rfl (.tmp 3) 148 rfl (w.heap.size + 1) xs rfl Tryz.underlying148 HI.out HA.out ?_) | (refine wpList_storeA _ rfl (.tmp 2) (.tmp 44) 148 rfl w.heap.size (filled []) xs rfl rfl hf HI.out HV.out.res ?_))
          have hkk : k = 48 := by have := HT.out; omega
          rw [hkk] at HXS
          refine bodyPost_ret (v := stV (grow W0 48)) ?_ rfl ⟨rfl, ?_⟩
          · have := (HV.out.res.setRow xs).loadVar (P := Tryz.prog) Tryz.underlying148 HI.out
            rw [HXS.out] at this
            simp [results, Tryz.results117, asAddr, this, HXS.out]
          · exact Below.setRow HV.out.below (Nat.le_refl _) _
end Go.Proofs.YtoaifgblbfdncabGreatDoor

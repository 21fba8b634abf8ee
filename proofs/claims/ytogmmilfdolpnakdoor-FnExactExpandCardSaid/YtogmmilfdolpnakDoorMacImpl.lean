/-
  The program's sums under a key.
-/
import Derived.Test.YtogmmilfdolpnakDoorReadyImpl
namespace Go.Proofs.YtogmmilfdolpnakDoor
open Go.RowKit

set_option maxRecDepth 100000 in
set_option maxHeartbeats 1600000 in
theorem sumOf_any (inner outer : ByteArray) (z1 : inner.size ≤ 1000) (z2 : outer.size ≤ 1000) (g m : Nat) (xs : List ByteArray) (hm : xs.length = m) (hm2 : m ≤ 1000) (t : ByteArray) (ht : (⟨(Lib.join (xs.map (·.data.toList)) []).toArray⟩ : ByteArray) = t) (hts : t.size ≤ 400000000)
    (w : World) (hK : LaidK w) (hc : ∀ (j : Nat) x, xs[j]? = some x → w.cell? ⟨g, 0 + j, none⟩ = some (.string x)) (hg : g < w.heap.size) :
    Calls Tryd.prog 32 #[.agg #[.string inner, .string outer], .slice (some ⟨g, 0, none⟩) m m] w fun e w' => e = .returned (.string (digP (outer ++ digP (inner ++ t)))) ∧ Below w.heap.size w w' := by
  have P0 := Lib.hid (PV.new w 55 (.string inner) (.string outer))
  have K1 : Hid (∀ X, (X.cell? ⟨w.heap.size, 0, none⟩ = some (.string inner) ∧ X.cell? ⟨w.heap.size, 1, none⟩ = some (.string outer) ∧ PV w 55 (.string inner) (.string outer) X) → Calls Tryd.prog 48 #[.slice (some ⟨g, 0, none⟩) m m, .string ⟨#[]⟩] X fun e Y => e = .returned (.string t) ∧ (Y.cell? ⟨w.heap.size, 0, none⟩ = some (.string inner) ∧ Y.cell? ⟨w.heap.size, 1, none⟩ = some (.string outer) ∧ PV w 55 (.string inner) (.string outer) Y)) := fun X hX => by
    have hlen : (Lib.join (xs.map (·.data.toList)) (⟨#[]⟩ : ByteArray).data.toList).length ≤ 140737488355328 := by
      have h := congrArg ByteArray.size ht
      have h2 : (⟨(Lib.join (xs.map (·.data.toList)) []).toArray⟩ : ByteArray).size = (Lib.join (xs.map (·.data.toList)) []).length := by show (Lib.join (xs.map (·.data.toList)) []).toArray.size = _; simp
      show (Lib.join (xs.map (·.data.toList)) []).length ≤ _
      omega
    have h := Tryd.strings_Join g 0 m xs ⟨#[]⟩ X (fun j x hj => by rw [hX.2.2.below.cell (p := ⟨g, 0 + j, none⟩) hg]; exact hc j x hj) (Nat.lt_of_lt_of_le hg hX.2.2.below.size) (by omega) (by omega) hlen
    rw [hm] at h
    have ht2 : (⟨(Lib.join (xs.map (·.data.toList)) (⟨#[]⟩ : ByteArray).data.toList).toArray⟩ : ByteArray) = t := ht
    rw [ht2] at h
    refine h.mono ?_
    rintro e Y ⟨rfl, hb⟩
    exact ⟨rfl, (hX.2.2.next hb).two⟩
  have q1 : (inner ++ t).size ≤ 500000000 := by rw [ByteArray.size_append]; omega
  have q2 : (outer ++ digP (inner ++ t)).size ≤ 500000000 := by rw [ByteArray.size_append, digP_size]; omega
  have m1 : ∀ X, (Op.stringOp .add inner t).run Tryd.prog X = .ok (.string (inner ++ t)) X := fun X => run_string_add_sum X inner t (by omega)
  have m2 : ∀ X, (Op.stringOp .add outer (digP (inner ++ t))).run Tryd.prog X = .ok (.string (outer ++ digP (inner ++ t))) X := fun X => run_string_add_sum X outer (digP (inner ++ t)) (by rw [digP_size]; omega)
  have k2 := fun X hX => implDigP_any (inner ++ t) q1 X hX
  have k3 := fun X hX => implDigP_any (outer ++ digP (inner ++ t)) q2 X hX
  obtain ⟨i1, I1⟩ : ∃ i, Hid (i = inner ++ t) := ⟨_, rfl⟩
  rw [← I1.out] at m1 m2 k2 k3 ⊢
  obtain ⟨d1, D1⟩ : ∃ i, Hid (i = digP i1) := ⟨_, rfl⟩
  rw [← D1.out] at m2 k2 k3 ⊢
  obtain ⟨i2, I2⟩ : ∃ i, Hid (i = outer ++ d1) := ⟨_, rfl⟩
  rw [← I2.out] at m2 k3 ⊢
  obtain ⟨d2, D2⟩ : ∃ i, Hid (i = digP i2) := ⟨_, rfl⟩
  rw [← D2.out] at k3 ⊢
  have K2 : Hid (∀ X, (X.cell? ⟨w.heap.size, 0, none⟩ = some (.string inner) ∧ X.cell? ⟨w.heap.size, 1, none⟩ = some (.string outer) ∧ PV w 55 (.string inner) (.string outer) X) → Calls Tryd.prog 46 #[.string i1] X fun e Y => e = .returned (.string d1) ∧ (Y.cell? ⟨w.heap.size, 0, none⟩ = some (.string inner) ∧ Y.cell? ⟨w.heap.size, 1, none⟩ = some (.string outer) ∧ PV w 55 (.string inner) (.string outer) Y)) := fun X hX => by
    refine (k2 X (hK.stays hX.2.2.below (Nat.le_refl _))).mono ?_
    rintro e Y ⟨rfl, hb⟩
    exact ⟨rfl, (hX.2.2.next hb).two⟩
  have K3 : Hid (∀ X, (X.cell? ⟨w.heap.size, 0, none⟩ = some (.string inner) ∧ X.cell? ⟨w.heap.size, 1, none⟩ = some (.string outer) ∧ PV w 55 (.string inner) (.string outer) X) → Calls Tryd.prog 46 #[.string i2] X fun e Y => e = .returned (.string d2) ∧ (Y.cell? ⟨w.heap.size, 0, none⟩ = some (.string inner) ∧ Y.cell? ⟨w.heap.size, 1, none⟩ = some (.string outer) ∧ PV w 55 (.string inner) (.string outer) Y)) := fun X hX => by
    refine (k3 X (hK.stays hX.2.2.below (Nat.le_refl _))).mono ?_
    rintro e Y ⟨rfl, hb⟩
    exact ⟨rfl, (hX.2.2.next hb).two⟩
  clear k2 k3 q1 q2 hK hc hg ht hm I1 D1 I2 D2 z1 z2 hts hm2
  go_enter Tryd.func32, Tryd.ntmps32
  go_wp2_with fail
  go_region_held3 (fun X => X.cell? ⟨w.heap.size, 0, none⟩ = some (.string inner) ∧ X.cell? ⟨w.heap.size, 1, none⟩ = some (.string outer) ∧ PV w 55 (.string inner) (.string outer) X) (first | (with_reducible assumption) | (with_reducible exact (PV.drew P0.out).two)) (first | (go_at_call 48; refine (K1.out _ (by assumption)).mono ?_; rintro e v1 ⟨rfl, hS⟩) | (go_at_call_of 46 (Value.string i1); refine (K2.out _ (by assumption)).mono ?_; rintro e v1 ⟨rfl, hS⟩) | (go_at_call_of 46 (Value.string i2); refine (K3.out _ (by assumption)).mono ?_; rintro e v1 ⟨rfl, hS⟩))
  all_goals
    go_wp2_with fail
    go_ret
    exact ⟨rfl, hS.2.2.below⟩

set_option maxRecDepth 100000 in
set_option maxHeartbeats 400000 in
theorem implMacOf_any (key s : ByteArray) (hk : key.size ≤ 400000000) (hs : s.size ≤ 400000000) (w : World) (hK : LaidK w) :
    Calls Tryd.prog 15 #[.string key, .string s] w fun e w' => e = .returned (.string (macP key s)) ∧ Below w.heap.size w w' := by
  have H1 := Lib.hid (readyKey_any key hk w hK)
  have z1 := padP_size key 54
  have z2 := padP_size key 92
  have h2 := sumOf_any (padP key 54) (padP key 92) (by omega) (by omega)
  have HK := Lib.hid hK
  unfold macP
  obtain ⟨pa, PA⟩ : ∃ p, Hid (p = padP key 54) := ⟨_, rfl⟩
  obtain ⟨pb, PB⟩ : ∃ p, Hid (p = padP key 92) := ⟨_, rfl⟩
  rw [← PA.out] at H1 h2 ⊢
  rw [← PB.out] at H1 h2 ⊢
  have H2 := Lib.hid h2
  clear h2 z1 z2 hK
  go_enter Tryd.func15, Tryd.ntmps15
  go_wp2_with fail
  refine (H1.out).mono ?_
  rintro e w1 ⟨rfl, hb1⟩
  have HB1 := Lib.hid hb1
  clear hb1
  have B2 := Lib.hid (HB1.out.alloc HB1.out.size (.cells #[.string s] 9))
  have H3 := Lib.hid (H2.out w1.heap.size 1 [s] rfl (by omega) s (by rw [List.map_cons, List.map_nil, Lib.join_one]) hs (w1.alloc (.cells #[.string s] 9)) (HK.out.stays B2.out (Nat.le_refl _)) (fun j x hj => by
    match j, hj with
    | 0, hj => simp at hj; subst hj; simp) (by simp))
  go_wp2_with fail
  refine (H3.out).mono ?_
  rintro e w2 ⟨rfl, hb2⟩
  have HB2 := Lib.hid (B2.out.trans (hb2.mono B2.out.size))
  clear hb2
  go_wp2_with fail
  go_ret
  exact ⟨rfl, HB2.out⟩

end Go.Proofs.YtogmmilfdolpnakDoor

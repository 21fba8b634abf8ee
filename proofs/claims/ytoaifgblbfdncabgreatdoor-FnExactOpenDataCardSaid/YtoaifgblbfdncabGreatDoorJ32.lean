/-
  The program's sums under a key.
  The program's expansions.
  The program's VarText: the number's text and true in the range, nothing and false outside of it.
  The program's masks.
  The program's tags and locked texts.
-/
import Derived.Test.YtoaifgblbfdncabGreatDoorJ31
import Derived.Test.YtoaifgblbfdncabGreatDoorJ09
import Derived.Test.YtoaifgblbfdncabGreatDoorJ10
namespace Go.Proofs.YtoaifgblbfdncabGreatDoor
open Go.RowKit

set_option maxRecDepth 100000 in
set_option maxHeartbeats 1600000 in
theorem sumOf_any (inner outer : ByteArray) (z1 : inner.size ≤ 1000) (z2 : outer.size ≤ 1000) (g m : Nat) (xs : List ByteArray) (hm : xs.length = m) (hm2 : m ≤ 1000) (t : ByteArray) (ht : (⟨(Lib.join (xs.map (·.data.toList)) []).toArray⟩ : ByteArray) = t) (hts : t.size ≤ 400000000)
    (w : World) (hK : LaidK w) (hc : ∀ (j : Nat) x, xs[j]? = some x → w.cell? ⟨g, 0 + j, none⟩ = some (.string x)) (hg : g < w.heap.size) :
    Calls Tryz.prog 82 #[.agg #[.string inner, .string outer], .slice (some ⟨g, 0, none⟩) m m] w fun e w' => e = .returned (.string (digP (outer ++ digP (inner ++ t)))) ∧ Below w.heap.size w w' := by
  have P0 := Lib.hid (PV.new w 100 (.string inner) (.string outer))
  have K1 : Hid (∀ X, (X.cell? ⟨w.heap.size, 0, none⟩ = some (.string inner) ∧ X.cell? ⟨w.heap.size, 1, none⟩ = some (.string outer) ∧ PV w 100 (.string inner) (.string outer) X) → Calls Tryz.prog 90 #[.slice (some ⟨g, 0, none⟩) m m, .string ⟨#[]⟩] X fun e Y => e = .returned (.string t) ∧ (Y.cell? ⟨w.heap.size, 0, none⟩ = some (.string inner) ∧ Y.cell? ⟨w.heap.size, 1, none⟩ = some (.string outer) ∧ PV w 100 (.string inner) (.string outer) Y)) := fun X hX => by
    have hlen : (Lib.join (xs.map (·.data.toList)) (⟨#[]⟩ : ByteArray).data.toList).length ≤ 140737488355328 := by
      have h := congrArg ByteArray.size ht
      have h2 : (⟨(Lib.join (xs.map (·.data.toList)) []).toArray⟩ : ByteArray).size = (Lib.join (xs.map (·.data.toList)) []).length := by show (Lib.join (xs.map (·.data.toList)) []).toArray.size = _; simp
      show (Lib.join (xs.map (·.data.toList)) []).length ≤ _
      omega
    have h := Tryz.strings_Join g 0 m xs ⟨#[]⟩ X (fun j x hj => by rw [hX.2.2.below.cell (p := ⟨g, 0 + j, none⟩) hg]; exact hc j x hj) (Nat.lt_of_lt_of_le hg hX.2.2.below.size) (by omega) (by omega) hlen
    rw [hm] at h
    have ht2 : (⟨(Lib.join (xs.map (·.data.toList)) (⟨#[]⟩ : ByteArray).data.toList).toArray⟩ : ByteArray) = t := ht
    rw [ht2] at h
    refine h.mono ?_
    rintro e Y ⟨rfl, hb⟩
    exact ⟨rfl, (hX.2.2.next hb).two⟩
  have q1 : (inner ++ t).size ≤ 500000000 := by rw [ByteArray.size_append]; omega
  have q2 : (outer ++ digP (inner ++ t)).size ≤ 500000000 := by rw [ByteArray.size_append, digP_size]; omega
  have m1 : ∀ X, (Op.stringOp .add inner t).run Tryz.prog X = .ok (.string (inner ++ t)) X := fun X => run_string_add_sum X inner t (by omega)
  have m2 : ∀ X, (Op.stringOp .add outer (digP (inner ++ t))).run Tryz.prog X = .ok (.string (outer ++ digP (inner ++ t))) X := fun X => run_string_add_sum X outer (digP (inner ++ t)) (by rw [digP_size]; omega)
  have k2 := fun X hX => implDigP_any (inner ++ t) q1 X hX
  have k3 := fun X hX => implDigP_any (outer ++ digP (inner ++ t)) q2 X hX
  obtain ⟨i1, I1⟩ : ∃ i, Hid (i = inner ++ t) := ⟨_, rfl⟩
  rw [← I1.out] at m1 m2 k2 k3 ⊢
  obtain ⟨d1, D1⟩ : ∃ i, Hid (i = digP i1) := ⟨_, rfl⟩
  rw [← D1.out] at m2 k2 k3 ⊢
  obtain ⟨i2, I2⟩ : ∃ i, Hid (i = outer ++ d1) := ⟨_, rfl⟩
  rw [← I2.out] at m2 k3 ⊢
  obtain ⟨d2, D2⟩ : ∃ i, Hid (i = digP i2) := ⟨_, rfl⟩
  rw [← D2.out] at k3 ⊢
  have K2 : Hid (∀ X, (X.cell? ⟨w.heap.size, 0, none⟩ = some (.string inner) ∧ X.cell? ⟨w.heap.size, 1, none⟩ = some (.string outer) ∧ PV w 100 (.string inner) (.string outer) X) → Calls Tryz.prog 88 #[.string i1] X fun e Y => e = .returned (.string d1) ∧ (Y.cell? ⟨w.heap.size, 0, none⟩ = some (.string inner) ∧ Y.cell? ⟨w.heap.size, 1, none⟩ = some (.string outer) ∧ PV w 100 (.string inner) (.string outer) Y)) := fun X hX => by
    refine (k2 X (hK.stays hX.2.2.below (Nat.le_refl _))).mono ?_
    rintro e Y ⟨rfl, hb⟩
    exact ⟨rfl, (hX.2.2.next hb).two⟩
  have K3 : Hid (∀ X, (X.cell? ⟨w.heap.size, 0, none⟩ = some (.string inner) ∧ X.cell? ⟨w.heap.size, 1, none⟩ = some (.string outer) ∧ PV w 100 (.string inner) (.string outer) X) → Calls Tryz.prog 88 #[.string i2] X fun e Y => e = .returned (.string d2) ∧ (Y.cell? ⟨w.heap.size, 0, none⟩ = some (.string inner) ∧ Y.cell? ⟨w.heap.size, 1, none⟩ = some (.string outer) ∧ PV w 100 (.string inner) (.string outer) Y)) := fun X hX => by
    refine (k3 X (hK.stays hX.2.2.below (Nat.le_refl _))).mono ?_
    rintro e Y ⟨rfl, hb⟩
    exact ⟨rfl, (hX.2.2.next hb).two⟩
  clear k2 k3 q1 q2 hK hc hg ht hm I1 D1 I2 D2 z1 z2 hts hm2
  go_enter Tryz.func82, Tryz.ntmps82
  go_wp2_with fail
  go_region_held3 (fun X => X.cell? ⟨w.heap.size, 0, none⟩ = some (.string inner) ∧ X.cell? ⟨w.heap.size, 1, none⟩ = some (.string outer) ∧ PV w 100 (.string inner) (.string outer) X) (first | (with_reducible assumption) | (with_reducible exact (PV.drew P0.out).two)) (first | (go_at_call 90; refine (K1.out _ (by assumption)).mono ?_; rintro e v1 ⟨rfl, hS⟩) | (go_at_call_of 88 (Value.string i1); refine (K2.out _ (by assumption)).mono ?_; rintro e v1 ⟨rfl, hS⟩) | (go_at_call_of 88 (Value.string i2); refine (K3.out _ (by assumption)).mono ?_; rintro e v1 ⟨rfl, hS⟩))
  all_goals
    go_wp2_with fail
    go_ret
    exact ⟨rfl, hS.2.2.below⟩

end Go.Proofs.YtoaifgblbfdncabGreatDoor
namespace Go.Proofs.YtoaifgblbfdncabGreatDoor
open Go.RowKit

theorem join3 (a b c : ByteArray) : (⟨(Lib.join ([a, b, c].map (·.data.toList)) []).toArray⟩ : ByteArray) = a ++ b ++ c := by
  apply ByteArray.ext
  apply Array.ext'
  simp [Lib.join, List.intercalate]
theorem front_bytes (l : List UInt8) (n : Nat) : (⟨l.toArray⟩ : ByteArray).extract 0 n = ⟨(l.take n).toArray⟩ := by
  apply ByteArray.ext
  apply Array.ext'
  simp

end Go.Proofs.YtoaifgblbfdncabGreatDoor
namespace Go.Proofs.YtoaifgblbfdncabGreatDoor
open Go.RowKit

set_option maxRecDepth 100000 in
set_option maxHeartbeats 400000 in
theorem implVarText_yes (n : Nat) (hn : n ≤ 1000000000) (w : World) :
    Calls Tryz.prog 80 #[.int .i64 n] w fun e w' => e = .returned (.tuple #[.string ⟨(var n).toArray⟩, .bool true]) ∧ Below w.heap.size w w' := by
  obtain ⟨i0, hi, hz0, hz1, hz2⟩ := info_parts infoByte
  have h0 : ¬ (n : Int) < 0 := by omega
  have h1 : ¬ 1000000000 < (n : Int) := by omega
  go_enter Tryz.func80, Tryz.ntmps80
  go_wp2
  go_loopw [0, 4] (fun t v wr => ∃ (m : Nat) (xs : List UInt8), m ≤ n ∧ t = .int .i64 m ∧ xs ++ var m = var n ∧ OwnB wr w.heap.size 5 v xs ∧ Below w.heap.size w wr) (fun t _ _ => (intOf t).toNat)
  case atStart => exact ⟨n, [], Nat.le_refl _, rfl, rfl, OwnB.nil _ _ _, Below.refl _ _⟩
  case round =>
    obtain ⟨m, xs, hm, rfl, hx, hown, hnx⟩ := hrel
    have hsz := hnx.size
    have hlen : xs.length + (var m).length ≤ 1000000001 := by
      have h1 := var_length n
      rw [← hx, List.length_append] at h1
      omega
    have HX := Lib.hid hx
    clear hx
    by_cases hlt : 127 < m
    · obtain ⟨b, hb, hg⟩ : ∃ b : UInt8, ((m : Int) % 128 + 128) = b.toNat ∧ var m = b :: var (m / 128) := ⟨_, by rw [byte_of _ (by omega)]; omega, var_great m hlt⟩
      have HG := Lib.hid hg
      have HB := Lib.hid hb
      clear hg hb
      go_wp2_with (at_builtin; refine wpList_push _ rfl _ _ 94 rfl w.heap.size 5 i0 Tryz.underlying94 hi hz0 hz1 hz2 _ xs rfl hown b _ rfl HB.out (by omega) hsz ?_)
      intro v' w1 hown1 hnx1
      have hnx2 := hnx.trans hnx1
      clear hown hnx hnx1 hsz
      go_wp2
      go_roundw
      case rel => exact ⟨m / 128, xs ++ [b], by omega, by go_num, by rw [← HX.out, HG.out, List.append_assoc]; rfl, hown1, hnx2⟩
      case measure => simp [intOf]; omega
    · obtain ⟨b, hb, hs⟩ : ∃ b : UInt8, (m : Int) = b.toNat ∧ var m = [b] := ⟨_, by rw [byte_of _ (by omega)], var_small m (by omega)⟩
      have HS := Lib.hid hs
      have HB := Lib.hid hb
      clear hs hb
      go_wp2_with (at_builtin; refine wpList_push _ rfl _ _ 94 rfl w.heap.size 5 i0 Tryz.underlying94 hi hz0 hz1 hz2 _ xs rfl hown b _ rfl HB.out (by omega) hsz ?_)
      intro v' w1 hown1 hnx1
      have hcv := run_string_own (P := Tryz.prog) w1 94 9 5 Tryz.underlying94 Tryz.underlying5 Tryz.underlying9 _ hown1
      go_wp2
      go_ret2
      exact ⟨ret_str2 (by rw [← HX.out, HS.out]), hnx.trans hnx1⟩

set_option maxRecDepth 100000 in
set_option maxHeartbeats 400000 in
theorem implVarText_no (n : Int) (hn : n < 0 ∨ 1000000000 < n) (w : World) :
    Calls Tryz.prog 80 #[.int .i64 n] w fun e w' => e = .returned (.tuple #[.string ⟨#[]⟩, .bool false]) ∧ Below w.heap.size w w' := by
  rcases hn with h | h
  · go_enter Tryz.func80, Tryz.ntmps80
    go_wp2
    go_ret2
    exact ⟨rfl, Below.refl _ _⟩
  · have h0 : ¬ n < 0 := by omega
    go_enter Tryz.func80, Tryz.ntmps80
    go_wp2
    go_ret2
    exact ⟨rfl, Below.refl _ _⟩

end Go.Proofs.YtoaifgblbfdncabGreatDoor
namespace Go.Proofs.YtoaifgblbfdncabGreatDoor
open Go.RowKit

theorem maskCount_next (j : Nat) : ((((UInt8.ofNat j).toNat : Nat) : Int) + 1) % 256 = (((UInt8.ofNat (j + 1)).toNat : Nat) : Int) := by
  rw [UInt8.toNat_ofNat', UInt8.toNat_ofNat']
  omega
/-- How many rounds a mask's count leaves. -/
def maskLeft (c : Value) : Nat := 256 - (intOf c).toNat
theorem maskLeft_at (j : Nat) (h : j < 255) : maskLeft (.int .u8 (((UInt8.ofNat (j + 1)).toNat : Nat) : Int)) < maskLeft (.int .u8 (((UInt8.ofNat j).toNat : Nat) : Int)) := by
  unfold maskLeft
  rw [UInt8.toNat_ofNat', UInt8.toNat_ofNat']
  show 256 - ((((j + 1) % 2 ^ 8 : Nat) : Int)).toNat < 256 - ((((j % 2 ^ 8 : Nat) : Int)).toNat)
  omega
theorem varB_size (num : Nat) (h : num ≤ 1000000000) : (⟨(var num).toArray⟩ : ByteArray).size ≤ 5 := by
  show (var num).toArray.size ≤ 5
  rw [List.size_toArray]
  exact var_few num h

set_option maxRecDepth 100000 in
set_option maxHeartbeats 1600000 in
theorem implMask_yes (key : ByteArray) (num n : Nat) (hnum : num ≤ 1000000000) (hn : n ≤ 8000) (hk : key.size ≤ 300000000) (w : World) (hK : LaidK w) :
    Calls Tryz.prog 78 #[.string key, .int .i64 num, .int .i64 n] w fun e w' => e = .returned (.tuple #[.string (maskB key num n), .bool true]) ∧ Below w.heap.size w w' := by
  have H0 := Lib.hid (implVarText_yes num hnum w)
  have z0 := varB_size num hnum
  have h1 := fun X hX => readyKey_any key (by omega) X hX
  have z1 := padP_size key 54
  have z2 := padP_size key 92
  have h2 := sumOf_any (padP key 54) (padP key 92) (by omega) (by omega)
  have hT : ∀ j, Hid (digP (padP key 92 ++ digP (padP key 54 ++ ((⟨#[109]⟩ : ByteArray) ++ (⟨(var num).toArray⟩ : ByteArray) ++ (⟨#[UInt8.ofNat j]⟩ : ByteArray)))) = maskPart key num j) := fun j => rfl
  have HK := Lib.hid hK
  obtain ⟨pa, PA⟩ : ∃ p, Hid (p = padP key 54) := ⟨_, rfl⟩
  obtain ⟨pb, PB⟩ : ∃ p, Hid (p = padP key 92) := ⟨_, rfl⟩
  obtain ⟨vt, VT⟩ : ∃ p : ByteArray, Hid (p = ⟨(var num).toArray⟩) := ⟨_, rfl⟩
  obtain ⟨ml, ML⟩ : ∃ p : ByteArray, Hid (p = ⟨#[109]⟩) := ⟨_, rfl⟩
  have zm : ml.size = 1 := by rw [ML.out]; rfl
  rw [← PA.out] at h1 h2 hT
  rw [← PB.out] at h1 h2 hT
  rw [← VT.out] at H0 hT z0
  rw [← ML.out] at hT
  have H1 := Lib.hid h1
  have H2 := Lib.hid h2
  have HT := Lib.hid hT
  have hn0 : ¬ ((n : Int) < 0) := by omega
  have hn1 : ¬ (8000 < (n : Int)) := by omega
  clear h1 h2 z1 z2 hK hT
  go_enter Tryz.func78, Tryz.ntmps78
  go_wp2_with fail
  refine (H0.out).mono ?_
  rintro e w0 ⟨rfl, hb0⟩
  have HB0 := Lib.hid hb0
  clear hb0
  go_wp2_with fail
  refine (H1.out _ (HK.out.stays HB0.out (Nat.le_refl _))).mono ?_
  rintro e w1 ⟨rfl, hb1'⟩
  have hb1 := HB0.out.trans (hb1'.mono HB0.out.size)
  clear hb1'
  have HB1 := Lib.hid hb1
  have V2 := Lib.hid ((VarP.new w1 100 (.string pa) (.string pb)).next ((Below.refl _ _).alloc (Nat.le_refl _) (.cells #[.pointer none, .slice none 0 0] 107)))
  have B2 := Lib.hid ((hb1.alloc hb1.size (.cells #[.string pa, .string pb] 100)).alloc (by simp; have := hb1.size; omega) (.cells #[.pointer none, .slice none 0 0] 107))
  have U2 : Hid (Lib.IsBuilderF 107 5 (w1.heap.size + 1) (w1.heap.size + 1) (Lib.byteCells (maskUp key num 0)) ((w1.alloc (.cells #[.string pa, .string pb] 100)).alloc (.cells #[.pointer none, .slice none 0 0] 107))) := by
    refine .inl ⟨by omega, .slice none 0 0, ?_, World.ownsRowF_of (World.ownsRow_nil _ _ _ _), by simp [Value.ownBlock]⟩
    have h := heap_alloc_new (w1.alloc (.cells #[.string pa, .string pb] 100)) (.cells #[.pointer none, .slice none 0 0] 107)
    have e : (w1.alloc (.cells #[.string pa, .string pb] 100)).heap.size = w1.heap.size + 1 := by simp
    rw [e] at h
    exact h
  have hs1 := hb1.size
  clear hb1
  go_wp2_with fail
  go_loopw [12] (fun c wr => ∃ j : Nat, 32 * j < n + 32 ∧ c = .int .u8 (((UInt8.ofNat j).toNat : Nat) : Int) ∧ Lib.IsBuilderF 107 5 (w1.heap.size + 1) (w1.heap.size + 1) (Lib.byteCells (maskUp key num j)) wr ∧ VarP w1.heap.size 100 (.string pa) (.string pb) wr ∧ Below w.heap.size w wr ∧ w1.heap.size + 1 < wr.heap.size) (fun c _ => maskLeft c)
  case atStart =>
    exact ⟨0, by omega, rfl, U2.out, V2.out, B2.out, by simp⟩
  case round =>
    obtain ⟨j, hj, rfl, hu, hv, hnx, hsz⟩ := hrel
    have hlen := maskUp_length key num j
    have hl2 : (Lib.byteCells (maskUp key num j)).length = 32 * j := by rw [Lib.byteCells_length]; exact hlen
    have hL := Tryz.Builder_Len_f (w1.heap.size + 1) (w1.heap.size + 1) _ wr hu
    rw [hl2] at hL
    have HL := Lib.hid hL
    have HU := Lib.hid hu
    have HV := Lib.hid hv
    have HN := Lib.hid hnx
    clear hu hv hnx hL
    by_cases hlt : 32 * j < n
    · have hlt' : ((32 * j : Nat) : Int) < (n : Int) := by omega
      have hj1 : j < 255 := by omega
      obtain ⟨m, M⟩ : ∃ m, Hid (m = 32 * j) := ⟨_, rfl⟩
      rw [← M.out] at HL hlt'
      have c0 := HV.out.c0
      have c1 := HV.out.c1
      have hT := HT.out j
      obtain ⟨b, BB⟩ : ∃ b : UInt8, Hid (b = UInt8.ofNat j) := ⟨_, rfl⟩
      rw [← BB.out] at hT
      rw [← BB.out]
      have hr := run_string_one (P := Tryz.prog) wr 94 9 5 Tryz.underlying94 Tryz.underlying5 Tryz.underlying9 b
      have z1 : (⟨#[b]⟩ : ByteArray).size = 1 := rfl
      have hr' : (convert 94 9 (.slice (some ⟨wr.heap.size, 0, none⟩) 1 1)).run Tryz.prog (wr.alloc (.cells #[.int .u8 (b.toNat : Int)] 5)) = .ok (.string ⟨#[b]⟩) (wr.alloc (.cells #[.int .u8 (b.toNat : Int)] 5)) := hr
      obtain ⟨bt, BT⟩ : ∃ b' : ByteArray, Hid (b' = ⟨#[b]⟩) := ⟨_, rfl⟩
      rw [← BT.out] at hr' hT z1
      have b3 : Below wr.heap.size wr ((wr.alloc (.cells #[.int .u8 (b.toNat : Int)] 5)).alloc (.cells #[.string ml, .string vt, .string bt] 9)) := ((Below.refl _ _).alloc (Nat.le_refl _) _).alloc (by simp) _
      have HN3 := Lib.hid (HN.out.trans (b3.mono HN.out.size))
      have HU3 := Lib.hid (builder_next HU.out b3)
      have HV3 := Lib.hid (HV.out.next b3)
      have hS := H2.out (wr.heap.size + 1) 3 [ml, vt, bt] rfl (by omega) _ (join3 ml vt bt) (by rw [ByteArray.size_append, ByteArray.size_append, z1]; omega) _ (HK.out.stays HN3.out (Nat.le_refl _)) (fun k x hk => by
        have hz : (wr.alloc (.cells #[.int .u8 (b.toNat : Int)] 5)).heap.size = wr.heap.size + 1 := by simp
        rw [← hz]
        match k, hk with
        | 0, hk => simp at hk; subst hk; simp
        | 1, hk => simp at hk; subst hk; simp
        | 2, hk => simp at hk; subst hk; simp) (by simp)
      rw [hT.out] at hS
      have hml := ML.out
      have HS := Lib.hid hS
      clear hr b3 hS hT
      go_wp2_with fail
      refine (HL.out).mono ?_
      rintro e w2 ⟨rfl, rfl⟩
      rw [hml] at HS HN3 HU3 HV3
      go_wp2_with fail
      refine (HS.out).mono ?_
      rintro e w3 ⟨rfl, hb3⟩
      have HN4 := Lib.hid (HN3.out.trans (hb3.mono HN3.out.size))
      have HV4 := Lib.hid (HV3.out.next hb3)
      have HU4 := Lib.hid (builder_next HU3.out hb3)
      have hsz4 : w1.heap.size + 1 < w3.heap.size := Nat.lt_of_lt_of_le (by simp; omega) hb3.size
      have hts := maskPart_size key num j
      obtain ⟨tn, TN⟩ : ∃ b : ByteArray, Hid (b = maskPart key num j) := ⟨_, rfl⟩
      rw [← TN.out] at hts ⊢
      have H5 := Lib.hid (writeString_any (w1.heap.size + 1) (w1.heap.size + 1) _ tn w3 HU4.out (by rw [hl2]; omega) (by omega))
      clear hb3
      go_wp2_with fail
      refine (H5.out).mono ?_
      rintro e w4 ⟨rfl, hu5, hb5⟩
      have HU5 := Lib.hid hu5
      have HV5 : Hid (VarP w1.heap.size 100 (.string pa) (.string pb) w4) := ⟨by rw [hb5.block w1.heap.size (by omega)]; exact HV4.out.row⟩
      have HN5 := Lib.hid (HN4.out.trans (hb5.mono (by omega)))
      have hsz5 := Nat.lt_of_lt_of_le hsz4 hb5.size
      clear hu5 hb5
      go_wp2_with fail
      go_roundw
      case rel =>
        refine ⟨j + 1, by omega, ?_, ?_, HV5.out, HN5.out, hsz5⟩
        · rw [BB.out]
          exact int_eq (maskCount_next j)
        · have h5 := HU5.out
          rw [TN.out] at h5
          have e5 : Lib.byteCells (maskUp key num (j + 1)) = Lib.byteCells (maskUp key num j) ++ Lib.strCells (maskPart key num j) := Lib.byteCells_append _ _
          rw [e5]
          exact .inr h5
      case measure =>
        have h := maskLeft_at j hj1
        rw [← maskCount_next j, ← BB.out] at h
        exact h
    · have hjn : j = (n + 31) / 32 := by omega
      have hlt' : ¬ (((32 * j : Nat) : Int) < (n : Int)) := by omega
      have hS := Tryz.Builder_String_any_f (w1.heap.size + 1) (w1.heap.size + 1) _ wr HU.out (by omega)
      have hx := front_bytes (maskUp key num j) n
      have hE : (maskUp key num j).take n = maskP key num n := by unfold maskP; rw [hjn]
      rw [hE] at hx
      have hz : (⟨(maskUp key num j).toArray⟩ : ByteArray).size = 32 * j := by show (maskUp key num j).toArray.size = _; rw [List.size_toArray]; exact hlen
      obtain ⟨all, AL⟩ : ∃ b : ByteArray, Hid (b = ⟨(maskUp key num j).toArray⟩) := ⟨_, rfl⟩
      rw [← AL.out] at hx hS hz
      have HS := Lib.hid hS
      have hle : (n : Int) ≤ (all.size : Int) := by omega
      obtain ⟨m, M⟩ : ∃ m, Hid (m = 32 * j) := ⟨_, rfl⟩
      rw [← M.out] at HL hlt'
      clear hS hE hjn
      go_wp2_with fail
      refine (HL.out).mono ?_
      rintro e w2 ⟨rfl, rfl⟩
      go_wp2_with fail
      refine (HS.out).mono ?_
      rintro e w3 ⟨rfl, _, hb3⟩
      have HN4 := Lib.hid (HN.out.trans (hb3.mono (by omega)))
      clear hb3
      go_wp2_with fail
      go_ret2
      exact ⟨rfl, HN4.out⟩

set_option maxRecDepth 100000 in
set_option maxHeartbeats 400000 in
theorem implMask_no (key : ByteArray) (num n : Int) (h : (num < 0 ∨ 1000000000 < num) ∨ (n < 0 ∨ 8000 < n)) (w : World) :
    Calls Tryz.prog 78 #[.string key, .int .i64 num, .int .i64 n] w fun e w' => e = .returned (.tuple #[.string ⟨#[]⟩, .bool false]) ∧ Below w.heap.size w w' := by
  by_cases hv : num < 0 ∨ 1000000000 < num
  · have H0 := Lib.hid (implVarText_no num hv w)
    clear h hv
    go_enter Tryz.func78, Tryz.ntmps78
    go_wp2_with fail
    refine (H0.out).mono ?_
    rintro e w0 ⟨rfl, hb0⟩
    go_wp2_with fail
    go_ret2
    exact ⟨rfl, hb0⟩
  · have hn : n < 0 ∨ 8000 < n := by omega
    obtain ⟨m, hm, hm2⟩ : ∃ m : Nat, num = m ∧ m ≤ 1000000000 := ⟨num.toNat, by omega, by omega⟩
    subst hm
    have H0 := Lib.hid (implVarText_yes m hm2 w)
    obtain ⟨vt, VT⟩ : ∃ p : ByteArray, Hid (p = ⟨(var m).toArray⟩) := ⟨_, rfl⟩
    rw [← VT.out] at H0
    clear h hv
    by_cases h0 : n < 0
    · clear hn
      go_enter Tryz.func78, Tryz.ntmps78
      go_wp2_with fail
      refine (H0.out).mono ?_
      rintro e w0 ⟨rfl, hb0⟩
      go_wp2_with fail
      go_ret2
      exact ⟨rfl, hb0⟩
    · have h1 : 8000 < n := by omega
      clear hn
      go_enter Tryz.func78, Tryz.ntmps78
      go_wp2_with fail
      refine (H0.out).mono ?_
      rintro e w0 ⟨rfl, hb0⟩
      go_wp2_with fail
      go_ret2
      exact ⟨rfl, hb0⟩

end Go.Proofs.YtoaifgblbfdncabGreatDoor
namespace Go.Proofs.YtoaifgblbfdncabGreatDoor
open Go.RowKit

set_option maxRecDepth 100000 in
set_option maxHeartbeats 1600000 in
theorem implTag_any (key : ByteArray) (num : Nat) (x : ByteArray) (hnum : num ≤ 1000000000) (hk : key.size ≤ 300000000) (hx : x.size ≤ 300000000) (w : World) (hK : LaidK w) :
    Calls Tryz.prog 69 #[.string key, .int .i64 num, .string x] w fun e w' => e = .returned (.string (tagP key num x)) ∧ Below w.heap.size w w' := by
  have H0 := Lib.hid (implVarText_yes num hnum w)
  have z0 := varB_size num hnum
  have h1 := fun X hX => readyKey_any key (by omega) X hX
  have z1 := padP_size key 54
  have z2 := padP_size key 92
  have h2 := sumOf_any (padP key 54) (padP key 92) (by omega) (by omega)
  have hT : tagP key num x = (digP (padP key 92 ++ digP (padP key 54 ++ ((⟨#[116]⟩ : ByteArray) ++ (⟨(var num).toArray⟩ : ByteArray) ++ x)))).extract 0 16 := rfl
  have hms := macP_size key ((⟨#[116]⟩ : ByteArray) ++ (⟨(var num).toArray⟩ : ByteArray) ++ x)
  unfold macP at hms
  have HK := Lib.hid hK
  rw [hT]
  obtain ⟨pa, PA⟩ : ∃ p, Hid (p = padP key 54) := ⟨_, rfl⟩
  obtain ⟨pb, PB⟩ : ∃ p, Hid (p = padP key 92) := ⟨_, rfl⟩
  obtain ⟨vt, VT⟩ : ∃ p : ByteArray, Hid (p = ⟨(var num).toArray⟩) := ⟨_, rfl⟩
  rw [← PA.out] at h1 h2 hms ⊢
  rw [← PB.out] at h1 h2 hms ⊢
  rw [← VT.out] at H0 hms z0 ⊢
  have zm : (⟨#[116]⟩ : ByteArray).size = 1 := rfl
  obtain ⟨d, D⟩ : ∃ p : ByteArray, Hid (p = digP (pb ++ digP (pa ++ ((⟨#[116]⟩ : ByteArray) ++ vt ++ x)))) := ⟨_, rfl⟩
  rw [← D.out] at hms ⊢
  have hm2 : (16 : Int) ≤ (d.size : Int) := by omega
  have H1 := Lib.hid h1
  have H2 := Lib.hid h2
  clear h1 h2 z1 z2 hK hT
  go_enter Tryz.func69, Tryz.ntmps69
  go_wp2_with fail
  refine (H0.out).mono ?_
  rintro e w0 ⟨rfl, hb0⟩
  have HB0 := Lib.hid hb0
  clear hb0
  go_wp2_with fail
  refine (H1.out _ (HK.out.stays HB0.out (Nat.le_refl _))).mono ?_
  rintro e w1 ⟨rfl, hb1'⟩
  have HB1 := Lib.hid (HB0.out.trans (hb1'.mono HB0.out.size))
  clear hb1'
  have B2 := Lib.hid (HB1.out.alloc HB1.out.size (.cells #[.string ⟨#[116]⟩, .string vt, .string x] 9))
  have hS := H2.out w1.heap.size 3 [⟨#[116]⟩, vt, x] rfl (by omega) _ (join3 ⟨#[116]⟩ vt x) (by rw [ByteArray.size_append, ByteArray.size_append, zm]; omega) (w1.alloc (.cells #[.string ⟨#[116]⟩, .string vt, .string x] 9)) (HK.out.stays B2.out (Nat.le_refl _)) (fun k y hk => by
    match k, hk with
    | 0, hk => simp at hk; subst hk; simp
    | 1, hk => simp at hk; subst hk; simp
    | 2, hk => simp at hk; subst hk; simp) (by simp)
  rw [← D.out] at hS
  have HS := Lib.hid hS
  clear hS
  go_wp2_with fail
  refine (HS.out).mono ?_
  rintro e w2 ⟨rfl, hb2⟩
  have HB2 := Lib.hid (B2.out.trans (hb2.mono B2.out.size))
  clear hb2
  go_wp2_with fail
  go_ret
  exact ⟨rfl, HB2.out⟩

end Go.Proofs.YtoaifgblbfdncabGreatDoor

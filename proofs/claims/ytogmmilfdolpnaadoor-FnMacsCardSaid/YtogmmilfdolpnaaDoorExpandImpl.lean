/-
  The program's expansions.
-/
import Derived.Test.YtogmmilfdolpnaaDoorMacImpl
namespace Go.Proofs.YtogmmilfdolpnaaDoor
open Go.RowKit

theorem join3 (a b c : ByteArray) : (⟨(Lib.join ([a, b, c].map (·.data.toList)) []).toArray⟩ : ByteArray) = a ++ b ++ c := by
  apply ByteArray.ext
  apply Array.ext'
  simp [Lib.join, List.intercalate]
theorem count_next (j : Nat) : ((((UInt8.ofNat (j + 1)).toNat : Nat) : Int) + 1) % 256 = (((UInt8.ofNat (j + 1 + 1)).toNat : Nat) : Int) := by
  rw [UInt8.toNat_ofNat', UInt8.toNat_ofNat']
  omega
/-- How many rounds a count leaves. -/
def countLeft (c : Value) : Nat := if intOf c = 0 then 0 else 256 - (intOf c).toNat
theorem countLeft_at (j : Nat) (h : j < 255) : countLeft (.int .u8 (((UInt8.ofNat (j + 1 + 1)).toNat : Nat) : Int)) < countLeft (.int .u8 (((UInt8.ofNat (j + 1)).toNat : Nat) : Int)) := by
  unfold countLeft
  rw [UInt8.toNat_ofNat', UInt8.toNat_ofNat']
  show (if ((((j + 1 + 1) % 2 ^ 8 : Nat) : Int)) = 0 then 0 else 256 - ((((j + 1 + 1) % 2 ^ 8 : Nat) : Int)).toNat) < (if ((((j + 1) % 2 ^ 8 : Nat) : Int)) = 0 then 0 else 256 - ((((j + 1) % 2 ^ 8 : Nat) : Int)).toNat)
  split <;> split <;> omega
theorem front_bytes (l : List UInt8) (n : Nat) : (⟨l.toArray⟩ : ByteArray).extract 0 n = ⟨(l.take n).toArray⟩ := by
  apply ByteArray.ext
  apply Array.ext'
  simp

set_option maxRecDepth 100000 in
set_option maxHeartbeats 1600000 in
theorem implExpand_yes (key info : ByteArray) (n : Nat) (hn : n ≤ 8160) (hk : key.size ≤ 300000000) (hi : info.size ≤ 300000000) (w : World) (hK : LaidK w) :
    Calls Tryd.prog 37 #[.string key, .string info, .int .i64 n] w fun e w' => e = .returned (.tuple #[.string ⟨(expandP key info n).toArray⟩, .bool true]) ∧ Below w.heap.size w w' := by
  have H1 := Lib.hid (readyKey_any key (by omega) w hK)
  have z1 := padP_size key 54
  have z2 := padP_size key 92
  have h2 := sumOf_any (padP key 54) (padP key 92) (by omega) (by omega)
  have hT : ∀ j, Hid (digP (padP key 92 ++ digP (padP key 54 ++ (tUp key info j ++ info ++ (⟨#[UInt8.ofNat (j + 1)]⟩ : ByteArray)))) = tUp key info (j + 1)) := fun j => rfl
  have HK := Lib.hid hK
  obtain ⟨pa, PA⟩ : ∃ p, Hid (p = padP key 54) := ⟨_, rfl⟩
  obtain ⟨pb, PB⟩ : ∃ p, Hid (p = padP key 92) := ⟨_, rfl⟩
  rw [← PA.out] at H1 h2 hT
  rw [← PB.out] at H1 h2 hT
  have H2 := Lib.hid h2
  have HT := Lib.hid hT
  have hn0 : ¬ ((n : Int) < 0) := by omega
  have hn1 : ¬ (8160 < (n : Int)) := by omega
  clear h2 z1 z2 hK hT
  go_enter Tryd.func37, Tryd.ntmps37
  go_wp2_with fail
  refine (H1.out).mono ?_
  rintro e w1 ⟨rfl, hb1⟩
  have HB1 := Lib.hid hb1
  have V2 := Lib.hid ((VarP.new w1 84 (.string pa) (.string pb)).next ((Below.refl _ _).alloc (Nat.le_refl _) (.cells #[.pointer none, .slice none 0 0] 89)))
  have B2 := Lib.hid ((hb1.alloc hb1.size (.cells #[.string pa, .string pb] 84)).alloc (by simp; have := hb1.size; omega) (.cells #[.pointer none, .slice none 0 0] 89))
  have U2 : Hid (Lib.IsBuilderF 89 5 (w1.heap.size + 1) (w1.heap.size + 1) (Lib.byteCells (outUp key info 0)) ((w1.alloc (.cells #[.string pa, .string pb] 84)).alloc (.cells #[.pointer none, .slice none 0 0] 89))) := by
    refine .inl ⟨by omega, .slice none 0 0, ?_, World.ownsRowF_of (World.ownsRow_nil _ _ _ _), by simp [Value.ownBlock]⟩
    have h := heap_alloc_new (w1.alloc (.cells #[.string pa, .string pb] 84)) (.cells #[.pointer none, .slice none 0 0] 89)
    have e : (w1.alloc (.cells #[.string pa, .string pb] 84)).heap.size = w1.heap.size + 1 := by simp
    rw [e] at h
    exact h
  have hs1 := hb1.size
  clear hb1
  go_wp2_with fail
  go_loopw [9, 11] (fun t c wr => ∃ j : Nat, 32 * j < n + 32 ∧ t = .string (tUp key info j) ∧ c = .int .u8 (((UInt8.ofNat (j + 1)).toNat : Nat) : Int) ∧ Lib.IsBuilderF 89 5 (w1.heap.size + 1) (w1.heap.size + 1) (Lib.byteCells (outUp key info j)) wr ∧ VarP w1.heap.size 84 (.string pa) (.string pb) wr ∧ Below w.heap.size w wr ∧ w1.heap.size + 1 < wr.heap.size) (fun _ c _ => countLeft c)
  case atStart =>
    exact ⟨0, by omega, rfl, rfl, U2.out, V2.out, B2.out, by simp⟩
  case round =>
    obtain ⟨j, hj, rfl, rfl, hu, hv, hnx, hsz⟩ := hrel
    have hlen := outUp_length key info j
    have hl2 : (Lib.byteCells (outUp key info j)).length = 32 * j := by rw [Lib.byteCells_length]; exact hlen
    have hL := Tryd.Builder_Len_f (w1.heap.size + 1) (w1.heap.size + 1) _ wr hu
    rw [hl2] at hL
    have HL := Lib.hid hL
    have HU := Lib.hid hu
    have HV := Lib.hid hv
    have HN := Lib.hid hnx
    clear hu hv hnx hL
    by_cases hlt : 32 * j < n
    · have hlt' : ((32 * j : Nat) : Int) < (n : Int) := by omega
      have hj1 : j < 255 := by omega
      obtain ⟨m, M⟩ : ∃ m, Hid (m = 32 * j) := ⟨_, rfl⟩
      rw [← M.out] at HL hlt'
      have c0 := HV.out.c0
      have c1 := HV.out.c1
      have ht := tUp_few key info j
      have hT := HT.out j
      obtain ⟨b, BB⟩ : ∃ b : UInt8, Hid (b = UInt8.ofNat (j + 1)) := ⟨_, rfl⟩
      obtain ⟨tj, TJ⟩ : ∃ b : ByteArray, Hid (b = tUp key info j) := ⟨_, rfl⟩
      rw [← TJ.out] at hT ht
      rw [← BB.out] at hT
      rw [← TJ.out, ← BB.out]
      have hr := run_string_one (P := Tryd.prog) wr 22 9 5 Tryd.underlying22 Tryd.underlying5 Tryd.underlying9 b
      have z1 : (⟨#[b]⟩ : ByteArray).size = 1 := rfl
      have hr' : (convert 22 9 (.slice (some ⟨wr.heap.size, 0, none⟩) 1 1)).run Tryd.prog (wr.alloc (.cells #[.int .u8 (b.toNat : Int)] 5)) = .ok (.string ⟨#[b]⟩) (wr.alloc (.cells #[.int .u8 (b.toNat : Int)] 5)) := hr
      obtain ⟨bt, BT⟩ : ∃ b' : ByteArray, Hid (b' = ⟨#[b]⟩) := ⟨_, rfl⟩
      rw [← BT.out] at hr' hT z1
      have b3 : Below wr.heap.size wr ((wr.alloc (.cells #[.int .u8 (b.toNat : Int)] 5)).alloc (.cells #[.string tj, .string info, .string bt] 9)) := ((Below.refl _ _).alloc (Nat.le_refl _) _).alloc (by simp) _
      have HN3 := Lib.hid (HN.out.trans (b3.mono HN.out.size))
      have HU3 := Lib.hid (builder_next HU.out b3)
      have HV3 := Lib.hid (HV.out.next b3)
      have hS := H2.out (wr.heap.size + 1) 3 [tj, info, bt] rfl (by omega) _ (join3 tj info bt) (by rw [ByteArray.size_append, ByteArray.size_append, z1]; omega) _ (HK.out.stays HN3.out (Nat.le_refl _)) (fun k x hk => by
        have hz : (wr.alloc (.cells #[.int .u8 (b.toNat : Int)] 5)).heap.size = wr.heap.size + 1 := by simp
        rw [← hz]
        match k, hk with
        | 0, hk => simp at hk; subst hk; simp
        | 1, hk => simp at hk; subst hk; simp
        | 2, hk => simp at hk; subst hk; simp) (by simp)
      rw [hT.out] at hS
      have HS := Lib.hid hS
      clear hr b3 hS hT
      go_wp2_with fail
      refine (HL.out).mono ?_
      rintro e w2 ⟨rfl, rfl⟩
      go_wp2_with fail
      refine (HS.out).mono ?_
      rintro e w3 ⟨rfl, hb3⟩
      have HN4 := Lib.hid (HN3.out.trans (hb3.mono HN3.out.size))
      have HV4 := Lib.hid (HV3.out.next hb3)
      have HU4 := Lib.hid (builder_next HU3.out hb3)
      have hsz4 : w1.heap.size + 1 < w3.heap.size := Nat.lt_of_lt_of_le (by simp; omega) hb3.size
      have hts := tUp_size key info j
      obtain ⟨tn, TN⟩ : ∃ b : ByteArray, Hid (b = tUp key info (j + 1)) := ⟨_, rfl⟩
      rw [← TN.out] at hts ⊢
      have H5 := Lib.hid (writeString_any (w1.heap.size + 1) (w1.heap.size + 1) _ tn w3 HU4.out (by rw [hl2]; omega) (by omega))
      clear hb3
      go_wp2_with fail
      refine (H5.out).mono ?_
      rintro e w4 ⟨rfl, hu5, hb5⟩
      have HU5 := Lib.hid hu5
      have HV5 : Hid (VarP w1.heap.size 84 (.string pa) (.string pb) w4) := ⟨by rw [hb5.block w1.heap.size (by omega)]; exact HV4.out.row⟩
      have HN5 := Lib.hid (HN4.out.trans (hb5.mono (by omega)))
      have hsz5 := Nat.lt_of_lt_of_le hsz4 hb5.size
      clear hu5 hb5
      go_wp2_with fail
      go_roundw
      case rel =>
        refine ⟨j + 1, by omega, by rw [TN.out], ?_, ?_, HV5.out, HN5.out, hsz5⟩
        · rw [BB.out]
          exact int_eq (count_next j)
        · have h5 := HU5.out
          rw [TN.out] at h5
          have e5 : Lib.byteCells (outUp key info (j + 1)) = Lib.byteCells (outUp key info j) ++ Lib.strCells (tUp key info (j + 1)) := Lib.byteCells_append _ _
          rw [e5]
          exact .inr h5
      case measure =>
        have h := countLeft_at j hj1
        rw [← count_next j, ← BB.out] at h
        exact h
    · have hjn : j = (n + 31) / 32 := by omega
      have hlt' : ¬ (((32 * j : Nat) : Int) < (n : Int)) := by omega
      have hS := Tryd.Builder_String_any_f (w1.heap.size + 1) (w1.heap.size + 1) _ wr HU.out (by omega)
      have hx := front_bytes (outUp key info j) n
      have hE : (outUp key info j).take n = expandP key info n := by unfold expandP; rw [hjn]
      rw [hE] at hx
      have hz : (⟨(outUp key info j).toArray⟩ : ByteArray).size = 32 * j := by show (outUp key info j).toArray.size = _; rw [List.size_toArray]; exact hlen
      obtain ⟨all, AL⟩ : ∃ b : ByteArray, Hid (b = ⟨(outUp key info j).toArray⟩) := ⟨_, rfl⟩
      rw [← AL.out] at hx hS hz
      have HS := Lib.hid hS
      have hle : (n : Int) ≤ (all.size : Int) := by omega
      obtain ⟨m, M⟩ : ∃ m, Hid (m = 32 * j) := ⟨_, rfl⟩
      rw [← M.out] at HL hlt'
      clear hS hE hjn
      go_wp2_with fail
      refine (HL.out).mono ?_
      rintro e w2 ⟨rfl, rfl⟩
      go_wp2_with fail
      refine (HS.out).mono ?_
      rintro e w3 ⟨rfl, _, hb3⟩
      have HN4 := Lib.hid (HN.out.trans (hb3.mono (by omega)))
      clear hb3
      go_wp2_with fail
      go_ret2
      exact ⟨rfl, HN4.out⟩

set_option maxRecDepth 100000 in
set_option maxHeartbeats 400000 in
theorem implExpand_no (key info : ByteArray) (n : Int) (hn : n < 0 ∨ 8160 < n) (w : World) :
    Calls Tryd.prog 37 #[.string key, .string info, .int .i64 n] w fun e w' => e = .returned (.tuple #[.string ⟨#[]⟩, .bool false]) ∧ Below w.heap.size w w' := by
  by_cases h0 : n < 0
  · go_enter Tryd.func37, Tryd.ntmps37
    go_wp2_with fail
    go_ret2
    exact ⟨rfl, Below.refl _ _⟩
  · have h1 : 8160 < n := by omega
    clear hn
    go_enter Tryd.func37, Tryd.ntmps37
    go_wp2_with fail
    go_ret2
    exact ⟨rfl, Below.refl _ _⟩

end Go.Proofs.YtogmmilfdolpnaaDoor

/-
  The program's masks.
  The program's tags and locked texts.
  The program's OpenText: steps that panic with a fault of its own, and the deferred function that takes it back.
  The program's OpenText.
  What is taken once, in plain words: none twice, each near what was taken ahead, all of a row.
  Numbers that were seen as a first one and a bit for each of six; no program is spoken of here.
-/
import Derived.Test.YtoaifgblbfdncaaGreatDoorJ32
import Derived.Test.YtoaifgblbfdncaaGreatDoorJ21
import Derived.Test.YtoaifgblbfdncaaGreatDoorJ22
import Derived.Test.YtoaifgblbfdncaaGreatDoorJ10
import Derived.Defers
import Derived.Recover
import Derived.LaidEql
import Derived.Laws.Pointers
import Derived.Test.YtoaifgblbfdncaaGreatDoorJ01
namespace Go.Proofs.YtoaifgblbfdncaaGreatDoor
open Go.RowKit

theorem maskCount_next (j : Nat) : ((((UInt8.ofNat j).toNat : Nat) : Int) + 1) % 256 = (((UInt8.ofNat (j + 1)).toNat : Nat) : Int) := by
  rw [UInt8.toNat_ofNat', UInt8.toNat_ofNat']
  omega
/-- How many rounds a mask's count leaves. -/
def maskLeft (c : Value) : Nat := 256 - (intOf c).toNat
theorem maskLeft_at (j : Nat) (h : j < 255) : maskLeft (.int .u8 (((UInt8.ofNat (j + 1)).toNat : Nat) : Int)) < maskLeft (.int .u8 (((UInt8.ofNat j).toNat : Nat) : Int)) := by
  unfold maskLeft
  rw [UInt8.toNat_ofNat', UInt8.toNat_ofNat']
  show 256 - ((((j + 1) % 2 ^ 8 : Nat) : Int)).toNat < 256 - ((((j % 2 ^ 8 : Nat) : Int)).toNat)
  omega
theorem varB_size (num : Nat) (h : num ≤ 1000000000) : (⟨(var num).toArray⟩ : ByteArray).size ≤ 5 := by
  show (var num).toArray.size ≤ 5
  rw [List.size_toArray]
  exact var_few num h

set_option maxRecDepth 100000 in
set_option maxHeartbeats 1600000 in
theorem implMask_yes (key : ByteArray) (num n : Nat) (hnum : num ≤ 1000000000) (hn : n ≤ 8000) (hk : key.size ≤ 300000000) (w : World) (hK : LaidK w) :
    Calls Tryz.prog 90 #[.string key, .int .i64 num, .int .i64 n] w fun e w' => e = .returned (.tuple #[.string (maskB key num n), .bool true]) ∧ Below w.heap.size w w' := by
  have H0 := Lib.hid (implVarText_yes num hnum w)
  have z0 := varB_size num hnum
  have h1 := fun X hX => readyKey_any key (by omega) X hX
  have z1 := padP_size key 54
  have z2 := padP_size key 92
  have h2 := sumOf_any (padP key 54) (padP key 92) (by omega) (by omega)
  have hT : ∀ j, Hid (digP (padP key 92 ++ digP (padP key 54 ++ ((⟨#[109]⟩ : ByteArray) ++ (⟨(var num).toArray⟩ : ByteArray) ++ (⟨#[UInt8.ofNat j]⟩ : ByteArray)))) = maskPart key num j) := fun j => rfl
  have HK := Lib.hid hK
  obtain ⟨pa, PA⟩ : ∃ p, Hid (p = padP key 54) := ⟨_, rfl⟩
  obtain ⟨pb, PB⟩ : ∃ p, Hid (p = padP key 92) := ⟨_, rfl⟩
  obtain ⟨vt, VT⟩ : ∃ p : ByteArray, Hid (p = ⟨(var num).toArray⟩) := ⟨_, rfl⟩
  obtain ⟨ml, ML⟩ : ∃ p : ByteArray, Hid (p = ⟨#[109]⟩) := ⟨_, rfl⟩
  have zm : ml.size = 1 := by rw [ML.out]; rfl
  rw [← PA.out] at h1 h2 hT
  rw [← PB.out] at h1 h2 hT
  rw [← VT.out] at H0 hT z0
  rw [← ML.out] at hT
  have H1 := Lib.hid h1
  have H2 := Lib.hid h2
  have HT := Lib.hid hT
  have hn0 : ¬ ((n : Int) < 0) := by omega
  have hn1 : ¬ (8000 < (n : Int)) := by omega
  clear h1 h2 z1 z2 hK hT
  go_enter Tryz.func90, Tryz.ntmps90
  go_wp2_with fail
  refine (H0.out).mono ?_
  rintro e w0 ⟨rfl, hb0⟩
  have HB0 := Lib.hid hb0
  clear hb0
  go_wp2_with fail
  refine (H1.out _ (HK.out.stays HB0.out (Nat.le_refl _))).mono ?_
  rintro e w1 ⟨rfl, hb1'⟩
  have hb1 := HB0.out.trans (hb1'.mono HB0.out.size)
  clear hb1'
  have HB1 := Lib.hid hb1
  have V2 := Lib.hid ((VarP.new w1 154 (.string pa) (.string pb)).next ((Below.refl _ _).alloc (Nat.le_refl _) (.cells #[.pointer none, .slice none 0 0] 123)))
  have B2 := Lib.hid ((hb1.alloc hb1.size (.cells #[.string pa, .string pb] 154)).alloc (by simp; have := hb1.size; omega) (.cells #[.pointer none, .slice none 0 0] 123))
  have U2 : Hid (Lib.IsBuilderF 123 5 (w1.heap.size + 1) (w1.heap.size + 1) (Lib.byteCells (maskUp key num 0)) ((w1.alloc (.cells #[.string pa, .string pb] 154)).alloc (.cells #[.pointer none, .slice none 0 0] 123))) := by
    refine .inl ⟨by omega, .slice none 0 0, ?_, World.ownsRowF_of (World.ownsRow_nil _ _ _ _), by simp [Value.ownBlock]⟩
    have h := heap_alloc_new (w1.alloc (.cells #[.string pa, .string pb] 154)) (.cells #[.pointer none, .slice none 0 0] 123)
    have e : (w1.alloc (.cells #[.string pa, .string pb] 154)).heap.size = w1.heap.size + 1 := by simp
    rw [e] at h
    exact h
  have hs1 := hb1.size
  clear hb1
  go_wp2_with fail
  go_loopw [12] (fun c wr => ∃ j : Nat, 32 * j < n + 32 ∧ c = .int .u8 (((UInt8.ofNat j).toNat : Nat) : Int) ∧ Lib.IsBuilderF 123 5 (w1.heap.size + 1) (w1.heap.size + 1) (Lib.byteCells (maskUp key num j)) wr ∧ VarP w1.heap.size 154 (.string pa) (.string pb) wr ∧ Below w.heap.size w wr ∧ w1.heap.size + 1 < wr.heap.size) (fun c _ => maskLeft c)
  case atStart =>
    exact ⟨0, by omega, rfl, U2.out, V2.out, B2.out, by simp⟩
  case round =>
    obtain ⟨j, hj, rfl, hu, hv, hnx, hsz⟩ := hrel
    have hlen := maskUp_length key num j
    have hl2 : (Lib.byteCells (maskUp key num j)).length = 32 * j := by rw [Lib.byteCells_length]; exact hlen
    have hL := Tryz.Builder_Len_f (w1.heap.size + 1) (w1.heap.size + 1) _ wr hu
    rw [hl2] at hL
    have HL := Lib.hid hL
    have HU := Lib.hid hu
    have HV := Lib.hid hv
    have HN := Lib.hid hnx
    clear hu hv hnx hL
    by_cases hlt : 32 * j < n
    · have hlt' : ((32 * j : Nat) : Int) < (n : Int) := by omega
      have hj1 : j < 255 := by omega
      obtain ⟨m, M⟩ : ∃ m, Hid (m = 32 * j) := ⟨_, rfl⟩
      rw [← M.out] at HL hlt'
      have c0 := HV.out.c0
      have c1 := HV.out.c1
      have hT := HT.out j
      obtain ⟨b, BB⟩ : ∃ b : UInt8, Hid (b = UInt8.ofNat j) := ⟨_, rfl⟩
      rw [← BB.out] at hT
      rw [← BB.out]
      have hr := run_string_one (P := Tryz.prog) wr 22 9 5 Tryz.underlying22 Tryz.underlying5 Tryz.underlying9 b
      have z1 : (⟨#[b]⟩ : ByteArray).size = 1 := rfl
      have hr' : (convert 22 9 (.slice (some ⟨wr.heap.size, 0, none⟩) 1 1)).run Tryz.prog (wr.alloc (.cells #[.int .u8 (b.toNat : Int)] 5)) = .ok (.string ⟨#[b]⟩) (wr.alloc (.cells #[.int .u8 (b.toNat : Int)] 5)) := hr
      obtain ⟨bt, BT⟩ : ∃ b' : ByteArray, Hid (b' = ⟨#[b]⟩) := ⟨_, rfl⟩
      rw [← BT.out] at hr' hT z1
      have b3 : Below wr.heap.size wr ((wr.alloc (.cells #[.int .u8 (b.toNat : Int)] 5)).alloc (.cells #[.string ml, .string vt, .string bt] 9)) := ((Below.refl _ _).alloc (Nat.le_refl _) _).alloc (by simp) _
      have HN3 := Lib.hid (HN.out.trans (b3.mono HN.out.size))
      have HU3 := Lib.hid (builder_next HU.out b3)
      have HV3 := Lib.hid (HV.out.next b3)
      have hS := H2.out (wr.heap.size + 1) 3 [ml, vt, bt] rfl (by omega) _ (join3 ml vt bt) (by rw [ByteArray.size_append, ByteArray.size_append, z1]; omega) _ (HK.out.stays HN3.out (Nat.le_refl _)) (fun k x hk => by
        have hz : (wr.alloc (.cells #[.int .u8 (b.toNat : Int)] 5)).heap.size = wr.heap.size + 1 := by simp
        rw [← hz]
        match k, hk with
        | 0, hk => simp at hk; subst hk; simp
        | 1, hk => simp at hk; subst hk; simp
        | 2, hk => simp at hk; subst hk; simp) (by simp)
      rw [hT.out] at hS
      have hml := ML.out
      have HS := Lib.hid hS
      clear hr b3 hS hT
      go_wp2_with fail
      refine (HL.out).mono ?_
      rintro e w2 ⟨rfl, rfl⟩
      rw [hml] at HS HN3 HU3 HV3
      go_wp2_with fail
      refine (HS.out).mono ?_
      rintro e w3 ⟨rfl, hb3⟩
      have HN4 := Lib.hid (HN3.out.trans (hb3.mono HN3.out.size))
      have HV4 := Lib.hid (HV3.out.next hb3)
      have HU4 := Lib.hid (builder_next HU3.out hb3)
      have hsz4 : w1.heap.size + 1 < w3.heap.size := Nat.lt_of_lt_of_le (by simp; omega) hb3.size
      have hts := maskPart_size key num j
      obtain ⟨tn, TN⟩ : ∃ b : ByteArray, Hid (b = maskPart key num j) := ⟨_, rfl⟩
      rw [← TN.out] at hts ⊢
      have H5 := Lib.hid (writeString_any (w1.heap.size + 1) (w1.heap.size + 1) _ tn w3 HU4.out (by rw [hl2]; omega) (by omega))
      clear hb3
      go_wp2_with fail
      refine (H5.out).mono ?_
      rintro e w4 ⟨rfl, hu5, hb5⟩
      have HU5 := Lib.hid hu5
      have HV5 : Hid (VarP w1.heap.size 154 (.string pa) (.string pb) w4) := ⟨by rw [hb5.block w1.heap.size (by omega)]; exact HV4.out.row⟩
      have HN5 := Lib.hid (HN4.out.trans (hb5.mono (by omega)))
      have hsz5 := Nat.lt_of_lt_of_le hsz4 hb5.size
      clear hu5 hb5
      go_wp2_with fail
      go_roundw
      case rel =>
        refine ⟨j + 1, by omega, ?_, ?_, HV5.out, HN5.out, hsz5⟩
        · rw [BB.out]
          exact int_eq (maskCount_next j)
        · have h5 := HU5.out
          rw [TN.out] at h5
          have e5 : Lib.byteCells (maskUp key num (j + 1)) = Lib.byteCells (maskUp key num j) ++ Lib.strCells (maskPart key num j) := Lib.byteCells_append _ _
          rw [e5]
          exact .inr h5
      case measure =>
        have h := maskLeft_at j hj1
        rw [← maskCount_next j, ← BB.out] at h
        exact h
    · have hjn : j = (n + 31) / 32 := by omega
      have hlt' : ¬ (((32 * j : Nat) : Int) < (n : Int)) := by omega
      have hS := Tryz.Builder_String_any_f (w1.heap.size + 1) (w1.heap.size + 1) _ wr HU.out (by omega)
      have hx := front_bytes (maskUp key num j) n
      have hE : (maskUp key num j).take n = maskP key num n := by unfold maskP; rw [hjn]
      rw [hE] at hx
      have hz : (⟨(maskUp key num j).toArray⟩ : ByteArray).size = 32 * j := by show (maskUp key num j).toArray.size = _; rw [List.size_toArray]; exact hlen
      obtain ⟨all, AL⟩ : ∃ b : ByteArray, Hid (b = ⟨(maskUp key num j).toArray⟩) := ⟨_, rfl⟩
      rw [← AL.out] at hx hS hz
      have HS := Lib.hid hS
      have hle : (n : Int) ≤ (all.size : Int) := by omega
      obtain ⟨m, M⟩ : ∃ m, Hid (m = 32 * j) := ⟨_, rfl⟩
      rw [← M.out] at HL hlt'
      clear hS hE hjn
      go_wp2_with fail
      refine (HL.out).mono ?_
      rintro e w2 ⟨rfl, rfl⟩
      go_wp2_with fail
      refine (HS.out).mono ?_
      rintro e w3 ⟨rfl, _, hb3⟩
      have HN4 := Lib.hid (HN.out.trans (hb3.mono (by omega)))
      clear hb3
      go_wp2_with fail
      go_ret2
      exact ⟨rfl, HN4.out⟩

end Go.Proofs.YtoaifgblbfdncaaGreatDoor
namespace Go.Proofs.YtoaifgblbfdncaaGreatDoor
open Go.RowKit

set_option maxRecDepth 100000 in
set_option maxHeartbeats 1600000 in
theorem implTag_any (key : ByteArray) (num : Nat) (x : ByteArray) (hnum : num ≤ 1000000000) (hk : key.size ≤ 300000000) (hx : x.size ≤ 300000000) (w : World) (hK : LaidK w) :
    Calls Tryz.prog 92 #[.string key, .int .i64 num, .string x] w fun e w' => e = .returned (.string (tagP key num x)) ∧ Below w.heap.size w w' := by
  have H0 := Lib.hid (implVarText_yes num hnum w)
  have z0 := varB_size num hnum
  have h1 := fun X hX => readyKey_any key (by omega) X hX
  have z1 := padP_size key 54
  have z2 := padP_size key 92
  have h2 := sumOf_any (padP key 54) (padP key 92) (by omega) (by omega)
  have hT : tagP key num x = (digP (padP key 92 ++ digP (padP key 54 ++ ((⟨#[116]⟩ : ByteArray) ++ (⟨(var num).toArray⟩ : ByteArray) ++ x)))).extract 0 16 := rfl
  have hms := macP_size key ((⟨#[116]⟩ : ByteArray) ++ (⟨(var num).toArray⟩ : ByteArray) ++ x)
  unfold macP at hms
  have HK := Lib.hid hK
  rw [hT]
  obtain ⟨pa, PA⟩ : ∃ p, Hid (p = padP key 54) := ⟨_, rfl⟩
  obtain ⟨pb, PB⟩ : ∃ p, Hid (p = padP key 92) := ⟨_, rfl⟩
  obtain ⟨vt, VT⟩ : ∃ p : ByteArray, Hid (p = ⟨(var num).toArray⟩) := ⟨_, rfl⟩
  rw [← PA.out] at h1 h2 hms ⊢
  rw [← PB.out] at h1 h2 hms ⊢
  rw [← VT.out] at H0 hms z0 ⊢
  have zm : (⟨#[116]⟩ : ByteArray).size = 1 := rfl
  obtain ⟨d, D⟩ : ∃ p : ByteArray, Hid (p = digP (pb ++ digP (pa ++ ((⟨#[116]⟩ : ByteArray) ++ vt ++ x)))) := ⟨_, rfl⟩
  rw [← D.out] at hms ⊢
  have hm2 : (16 : Int) ≤ (d.size : Int) := by omega
  have H1 := Lib.hid h1
  have H2 := Lib.hid h2
  clear h1 h2 z1 z2 hK hT
  go_enter Tryz.func92, Tryz.ntmps92
  go_wp2_with fail
  refine (H0.out).mono ?_
  rintro e w0 ⟨rfl, hb0⟩
  have HB0 := Lib.hid hb0
  clear hb0
  go_wp2_with fail
  refine (H1.out _ (HK.out.stays HB0.out (Nat.le_refl _))).mono ?_
  rintro e w1 ⟨rfl, hb1'⟩
  have HB1 := Lib.hid (HB0.out.trans (hb1'.mono HB0.out.size))
  clear hb1'
  have B2 := Lib.hid (HB1.out.alloc HB1.out.size (.cells #[.string ⟨#[116]⟩, .string vt, .string x] 9))
  have hS := H2.out w1.heap.size 3 [⟨#[116]⟩, vt, x] rfl (by omega) _ (join3 ⟨#[116]⟩ vt x) (by rw [ByteArray.size_append, ByteArray.size_append, zm]; omega) (w1.alloc (.cells #[.string ⟨#[116]⟩, .string vt, .string x] 9)) (HK.out.stays B2.out (Nat.le_refl _)) (fun k y hk => by
    match k, hk with
    | 0, hk => simp at hk; subst hk; simp
    | 1, hk => simp at hk; subst hk; simp
    | 2, hk => simp at hk; subst hk; simp) (by simp)
  rw [← D.out] at hS
  have HS := Lib.hid hS
  clear hS
  go_wp2_with fail
  refine (HS.out).mono ?_
  rintro e w2 ⟨rfl, hb2⟩
  have HB2 := Lib.hid (B2.out.trans (hb2.mono B2.out.size))
  clear hb2
  go_wp2_with fail
  go_ret
  exact ⟨rfl, HB2.out⟩

set_option maxRecDepth 100000 in
set_option maxHeartbeats 400000 in
theorem implLock_yes (key : ByteArray) (num : Nat) (s : ByteArray) (hnum : num ≤ 1000000000) (hk : key.size ≤ 300000000) (hs : s.size ≤ 8000) (w : World) (hK : LaidK w) :
    Calls Tryz.prog 64 #[.string key, .int .i64 num, .string s] w fun e w' => e = .returned (.tuple #[.string (lockP key num s), .bool true]) ∧ Below w.heap.size w w' := by
  have H1 := Lib.hid (implMask_yes key num s.size hnum hs hk)
  have hms := maskB_size key num s.size
  have h2 := exclusiveOr_any s (maskB key num s.size) (by omega) (by omega)
  have hO : (⟨(xorUp s.data.toList (maskB key num s.size).data.toList s.size).toArray⟩ : ByteArray) = lockX key num s := rfl
  rw [hO] at h2
  have hxs := lockX_size key num s
  have h3 := implTag_any key num (lockX key num s) hnum hk (by omega)
  have hts := tagP_size key num (lockX key num s)
  unfold lockP
  obtain ⟨mk, MK⟩ : ∃ m, Hid (m = maskB key num s.size) := ⟨_, rfl⟩
  obtain ⟨x, X⟩ : ∃ m, Hid (m = lockX key num s) := ⟨_, rfl⟩
  rw [← MK.out] at H1 h2
  rw [← X.out] at h2 h3 hxs hts ⊢
  obtain ⟨tg, TG⟩ : ∃ m, Hid (m = tagP key num x) := ⟨_, rfl⟩
  rw [← TG.out] at h3 hts ⊢
  have H2 := Lib.hid h2
  have H3 := Lib.hid h3
  have s1 : ¬ (9223372036854775807 < x.size + tg.size) := by omega
  have HK := Lib.hid hK
  clear h2 h3 hO hms hxs hts hK
  go_enter Tryz.func64, Tryz.ntmps64
  go_wp2_with fail
  refine (H1.out _ HK.out).mono ?_
  rintro e w1 ⟨rfl, hb1⟩
  have HB1 := Lib.hid hb1
  clear hb1
  go_wp2_with fail
  refine (H2.out _).mono ?_
  rintro e w2 ⟨rfl, hb2⟩
  have HB2 := Lib.hid (HB1.out.trans (hb2.mono HB1.out.size))
  clear hb2
  go_wp2_with fail
  refine (H3.out _ (HK.out.stays HB2.out (Nat.le_refl _))).mono ?_
  rintro e w3 ⟨rfl, hb3⟩
  have HB3 := Lib.hid (HB2.out.trans (hb3.mono HB2.out.size))
  clear hb3
  go_wp2_with fail
  go_ret2
  exact ⟨rfl, HB3.out⟩

end Go.Proofs.YtoaifgblbfdncaaGreatDoor
namespace Go.Proofs.YtoaifgblbfdncaaGreatDoor
open Go.RowKit

/-- Two results that a closure captures: variables of their own. -/
structure ResV (w : World) (t0 t1 : TypeId) (a b : Value) (X : World) : Prop where
  row0 : X.heap[w.heap.size]? = some (.cells #[a] t0 (0, 0))
  row1 : X.heap[w.heap.size + 1]? = some (.cells #[b] t1 (0, 0))
  below : Below w.heap.size w X
theorem ResV.next {w : World} {t0 t1 : TypeId} {a b : Value} {X Y : World} (h : ResV w t0 t1 a b X) (hb : Below X.heap.size X Y) : ResV w t0 t1 a b Y :=
  ⟨by rw [hb.block _ (lt_of_block h.row0)]; exact h.row0, by rw [hb.block _ (lt_of_block h.row1)]; exact h.row1, h.below.trans (hb.mono h.below.size)⟩
theorem ResV.c0 {w : World} {t0 t1 : TypeId} {a b : Value} {X : World} (h : ResV w t0 t1 a b X) : X.cell? ⟨w.heap.size, 0, none⟩ = some a := by rw [cell_of_row X _ 0 _ t0 (0, 0) h.row0]; rfl
theorem ResV.c1 {w : World} {t0 t1 : TypeId} {a b : Value} {X : World} (h : ResV w t0 t1 a b X) : X.cell? ⟨w.heap.size + 1, 0, none⟩ = some b := by rw [cell_of_row X _ 0 _ t1 (0, 0) h.row1]; rfl
theorem ResV.f1 {w : World} {t0 t1 : TypeId} {a b : Value} {X : World} (h : ResV w t0 t1 a b X) : X.frozen? ⟨w.heap.size + 1, 0, none⟩ = false := frozen_of_row X _ 0 _ t1 h.row1
theorem ResV.new (w : World) (t0 t1 : TypeId) (a b : Value) : ResV w t0 t1 a b ((w.alloc (.cells #[a] t0)).alloc (.cells #[b] t1)) := by
  refine ⟨?_, ?_, ((Below.refl _ _).alloc (Nat.le_refl _) _).alloc (by simp) _⟩
  · have h := ((Below.refl (w.alloc (.cells #[a] t0)).heap.size (w.alloc (.cells #[a] t0))).alloc (Nat.le_refl _) (.cells #[b] t1)).block w.heap.size (by simp)
    rw [h]
    exact heap_alloc_new w _
  · have h := heap_alloc_new (w.alloc (.cells #[a] t0)) (.cells #[b] t1)
    have e : (w.alloc (.cells #[a] t0)).heap.size = w.heap.size + 1 := by simp
    rw [e] at h
    exact h

end Go.Proofs.YtoaifgblbfdncaaGreatDoor
namespace Go.Proofs.YtoaifgblbfdncaaGreatDoor
open Go.RowKit

end Go.Proofs.YtoaifgblbfdncaaGreatDoor
namespace Go.Proofs.YtoaifgblbfdncaaGreatDoor

end Go.Proofs.YtoaifgblbfdncaaGreatDoor
namespace Go.Proofs.YtoaifgblbfdncaaGreatDoor
open Go.RowKit

end Go.Proofs.YtoaifgblbfdncaaGreatDoor

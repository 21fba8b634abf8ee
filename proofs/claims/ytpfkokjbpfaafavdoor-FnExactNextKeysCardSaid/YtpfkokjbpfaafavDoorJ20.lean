/-
  The program's DigestOf.
  Plain mathematics of two texts' exclusive or; no program is spoken of here.
  Bytes: their exclusive or and or as the model spells them; no program is spoken of here.
  '[]byte(t)' and '[]byte{}' written into and turned back into a text.
  The program's exclusive or of two texts.
-/
import Derived.Test.YtpfkokjbpfaafavDoorJ19
import Derived.Test.YtpfkokjbpfaafavDoorJ12
import Derived.Test.YtpfkokjbpfaafavDoorJ01
import Derived.Test.YtpfkokjbpfaafavDoorRows
import Derived.Test.YtpfkokjbpfaafavDoorJ04
import Derived.Lib.ConvBytes
import Derived.Deep.RegionHeld3
import Derived.BigQuiet
import Derived.Deep.QuietTactic
import Derived.Deep.LoopGhost
import Derived.Deep.DeepCutAuto
namespace Go.Proofs.YtpfkokjbpfaafavDoor
open Go.RowKit

theorem digest_first (s : ByteArray) : moreState ⟨(bytesOf firstState).toArray⟩ ⟨#[]⟩ s = eatUp firstState s.data.toList (s.size / 64) := by
  unfold moreState
  have e : (⟨(bytesOf firstState).toArray⟩ : ByteArray).data.toList = bytesOf firstState := rfl
  have e0 : (⟨#[]⟩ : ByteArray).size = 0 := rfl
  rw [e, e0, Nat.zero_add, wordsOf_bytesOf firstState firstState_words]
  rfl
theorem digest_rest (s : ByteArray) : s.extract (64 * (s.size / 64)) s.size = ⟨(moreRest ⟨#[]⟩ s).toArray⟩ := by
  apply ByteArray.ext
  apply Array.ext'
  have e0 : (⟨#[]⟩ : ByteArray).size = 0 := rfl
  unfold moreRest
  rw [e0, Nat.zero_add, ByteArray.data_extract, Array.toList_extract, List.extract_eq_take_drop]
  rw [List.take_of_length_le (by simp)]
  rfl
/-- The digest of a text. -/
def digestOf (s : ByteArray) : ByteArray := ⟨(endOf ⟨(bytesOf (moreState ⟨(bytesOf firstState).toArray⟩ ⟨#[]⟩ s)).toArray⟩ ⟨(moreRest ⟨#[]⟩ s).toArray⟩ s.size).toArray⟩
theorem digest_last (s mr : ByteArray) (D1 : List Nat) (h1 : D1 = eatUp firstState s.data.toList (s.size / 64)) (h2 : mr = s.extract (64 * (s.size / 64)) s.size) :
    (⟨(bytesOf (eatUp D1 (mr ++ ⟨(endL s.size).toArray⟩).data.toList ((mr ++ ⟨(endL s.size).toArray⟩).size / 64))).toArray⟩ : ByteArray) = digestOf s := by
  have hw : Words D1 := by rw [h1]; exact eatUp_words _ _ firstState_words _
  have hz : mr.size = s.size % 64 := by rw [h2, ByteArray.size_extract]; omega
  have he := end_state ⟨(bytesOf D1).toArray⟩ mr s.size hz
  have e : (⟨(bytesOf D1).toArray⟩ : ByteArray).data.toList = bytesOf D1 := rfl
  rw [e, wordsOf_bytesOf D1 hw] at he
  rw [he]
  unfold digestOf endOf
  rw [digest_first s, ← h1, ← digest_rest s, ← h2]

/-- The state's variable. -/
structure DV (w : World) (q : Nat) (t8 : TypeId) (us : List Nat) (X : World) : Prop where
  arr : ArrW q t8 us X
  ge : w.heap.size ≤ q
  below : Below w.heap.size w X
theorem DV.next {w : World} {q : Nat} {t8 : TypeId} {us : List Nat} {X Y : World} (h : DV w q t8 us X) (hb : Below X.heap.size X Y) : DV w q t8 us Y := ⟨h.arr.next hb, h.ge, h.below.trans (hb.mono h.below.size)⟩
theorem DV.drew {w : World} {q : Nat} {t8 : TypeId} {us : List Nat} {X : World} (h : DV w q t8 us X) : DV w q t8 us X.drew := ⟨h.arr.drew, h.ge, h.below.drew⟩
theorem DV.eight {w : World} {q : Nat} {t8 : TypeId} {us : List Nat} {X : World} (h : DV w q t8 us X) (hl : us.length = 8) (u0 u1 u2 u3 u4 u5 u6 u7 : Nat) :
    DV w q t8 [u0, u1, u2, u3, u4, u5, u6, u7] ((((((((X.setCell ⟨q, 0, none⟩ (.int .u32 (u0 : Int))).setCell ⟨q, 1, none⟩ (.int .u32 (u1 : Int))).setCell ⟨q, 2, none⟩ (.int .u32 (u2 : Int))).setCell ⟨q, 3, none⟩ (.int .u32 (u3 : Int))).setCell ⟨q, 4, none⟩ (.int .u32 (u4 : Int))).setCell ⟨q, 5, none⟩ (.int .u32 (u5 : Int))).setCell ⟨q, 6, none⟩ (.int .u32 (u6 : Int))).setCell ⟨q, 7, none⟩ (.int .u32 (u7 : Int))) :=
  ⟨h.arr.set8 hl u0 u1 u2 u3 u4 u5 u6 u7, h.ge, h.below.trans ((Only.set8 X q (.int .u32 (u0 : Int)) (.int .u32 (u1 : Int)) (.int .u32 (u2 : Int)) (.int .u32 (u3 : Int)) (.int .u32 (u4 : Int)) (.int .u32 (u5 : Int)) (.int .u32 (u6 : Int)) (.int .u32 (u7 : Int))).below h.ge h.below.size)⟩

set_option maxRecDepth 100000 in
set_option maxHeartbeats 4000000 in
theorem implDigestOf_any (s : ByteArray) (hs : s.size ≤ 500000000) (w : World) (hK : LaidK w) :
    Calls Tryd.prog 7 #[.string s] w fun e w' => e = .returned (.string (digestOf s)) ∧ Below w.heap.size w w' := by
  have HK := Lib.hid hK
  clear hK
  have H1 := Lib.hid firstState_any
  have k1 := fun X hX => afterBlocks_any firstState firstState_words rfl s X hX
  have hl1 := eatUp_length firstState s.data.toList rfl (s.size / 64)
  have hw1 := eatUp_words firstState s.data.toList firstState_words (s.size / 64)
  obtain ⟨D1, HD1⟩ : ∃ D, Hid (D = eatUp firstState s.data.toList (s.size / 64)) := ⟨_, rfl⟩
  obtain ⟨mr, MR⟩ : ∃ mr : ByteArray, Hid (mr = s.extract (64 * (s.size / 64)) s.size) := ⟨_, rfl⟩
  rw [← HD1.out] at k1 hl1 hw1
  rw [← MR.out] at k1
  have hmr : mr.size ≤ 500000000 := by rw [MR.out, ByteArray.size_extract]; omega
  have k2 := endingOf_any s.size (by omega)
  have hel : (⟨(endL s.size).toArray⟩ : ByteArray).size ≤ 128 := by show (endL s.size).toArray.size ≤ 128; rw [List.size_toArray]; exact endL_length s.size
  have hlast := digest_last s mr D1 HD1.out MR.out
  obtain ⟨el, EL⟩ : ∃ b : ByteArray, Hid (b = ⟨(endL s.size).toArray⟩) := ⟨_, rfl⟩
  rw [← EL.out] at k2 hel hlast
  have m2 : ∀ X, (Op.stringOp .add mr el).run Tryd.prog X = .ok (.string (mr ++ el)) X := fun X => run_string_add_sum X mr el (by omega)
  have k3 := fun X hX => afterBlocks_any D1 hw1 hl1 (mr ++ el) X hX
  have hl2 := eatUp_length D1 (mr ++ el).data.toList hl1 ((mr ++ el).size / 64)
  have hw2 := eatUp_words D1 (mr ++ el).data.toList hw1 ((mr ++ el).size / 64)
  obtain ⟨D2, HD2⟩ : ∃ D, Hid (D = eatUp D1 (mr ++ el).data.toList ((mr ++ el).size / 64)) := ⟨_, rfl⟩
  obtain ⟨m3, M3⟩ : ∃ m : ByteArray, Hid (m = (mr ++ el).extract (64 * ((mr ++ el).size / 64)) (mr ++ el).size) := ⟨_, rfl⟩
  rw [← HD2.out, ← M3.out] at k3
  rw [← HD2.out] at hl2 hw2 hlast
  have k4 := stateText_any D2 hw2 hl2
  rw [hlast] at k4
  obtain ⟨v0, v1, v2, v3, v4, v5, v6, v7, rfl⟩ := eight_of D1 hl1
  obtain ⟨u0, u1, u2, u3, u4, u5, u6, u7, rfl⟩ := eight_of D2 hl2
  have K1 : Hid (∀ X, LaidK X → Calls Tryd.prog 12 #[stV firstState, .string s] X fun e Y => e = .returned (.tuple #[.agg #[.int .u32 v0, .int .u32 v1, .int .u32 v2, .int .u32 v3, .int .u32 v4, .int .u32 v5, .int .u32 v6, .int .u32 v7], .string mr]) ∧ Below X.heap.size X Y) := k1
  have K2 := Lib.hid k2
  have K3 : Hid (∀ X, LaidK X → Calls Tryd.prog 12 #[.agg #[.int .u32 v0, .int .u32 v1, .int .u32 v2, .int .u32 v3, .int .u32 v4, .int .u32 v5, .int .u32 v6, .int .u32 v7], .string (mr ++ el)] X fun e Y => e = .returned (.tuple #[.agg #[.int .u32 u0, .int .u32 u1, .int .u32 u2, .int .u32 u3, .int .u32 u4, .int .u32 u5, .int .u32 u6, .int .u32 u7], .string m3]) ∧ Below X.heap.size X Y) := k3
  have K4 : Hid (∀ X, Calls Tryd.prog 14 #[.agg #[.int .u32 u0, .int .u32 u1, .int .u32 u2, .int .u32 u3, .int .u32 u4, .int .u32 u5, .int .u32 u6, .int .u32 u7]] X fun e Y => e = .returned (.string (digestOf s)) ∧ Below X.heap.size X Y) := k4
  obtain ⟨dg, DG⟩ : ∃ d, Hid (d = digestOf s) := ⟨_, rfl⟩
  rw [← DG.out] at K4
  rw [← DG.out]
  clear k1 k2 k3 k4 hl1 hw1 hl2 hw2 hlast HD1 HD2 M3
  go_enter Tryd.func7, Tryd.ntmps7
  go_wp2_with fail
  refine (H1.out _).mono ?_
  rintro e w1 ⟨rfl, hb1⟩
  have HB1 := Lib.hid hb1
  have HK1 := Lib.hid (HK.out.stays hb1 (Nat.le_refl _))
  clear hb1
  go_wp2_with fail
  refine (K1.out _ HK1.out).mono ?_
  rintro e w2 ⟨rfl, hb2⟩
  have HB2 := Lib.hid (HB1.out.trans (hb2.mono HB1.out.size))
  clear hb2
  have V2 : Hid (DV w w2.heap.size 33 [v0, v1, v2, v3, v4, v5, v6, v7] (w2.alloc (.cells #[.int .u32 v0, .int .u32 v1, .int .u32 v2, .int .u32 v3, .int .u32 v4, .int .u32 v5, .int .u32 v6, .int .u32 v7] 33))) := ⟨ArrW.new w2 33 [v0, v1, v2, v3, v4, v5, v6, v7], HB2.out.size, HB2.out.alloc HB2.out.size _⟩
  have HK2 : Hid (LaidK (w2.alloc (.cells #[.int .u32 v0, .int .u32 v1, .int .u32 v2, .int .u32 v3, .int .u32 v4, .int .u32 v5, .int .u32 v6, .int .u32 v7] 33)).drew) := HK.out.stays V2.out.drew.below (Nat.le_refl _)
  go_wp2_with fail
  go_region_with (first | (go_at_call 13; refine (K2.out _).mono ?_; rintro e x1 ⟨rfl, hb⟩; have hV1 := V2.out.drew.next hb; have HK3 := Lib.hid (HK.out.stays hV1.below (Nat.le_refl _)); have g0 := hV1.arr.cell 0 (by show 0 < 8; decide); have g1 := hV1.arr.cell 1 (by show 1 < 8; decide); have g2 := hV1.arr.cell 2 (by show 2 < 8; decide); have g3 := hV1.arr.cell 3 (by show 3 < 8; decide); have g4 := hV1.arr.cell 4 (by show 4 < 8; decide); have g5 := hV1.arr.cell 5 (by show 5 < 8; decide); have g6 := hV1.arr.cell 6 (by show 6 < 8; decide); have g7 := hV1.arr.cell 7 (by show 7 < 8; decide)) | (go_at_call 12; refine (K3.out _ HK3.out).mono ?_; rintro e x2 ⟨rfl, hb⟩; have hV2 := hV1.next hb; have m0 := hV2.arr.cell 0 (by show 0 < 8; decide); have m1 := hV2.arr.cell 1 (by show 1 < 8; decide); have m2 := hV2.arr.cell 2 (by show 2 < 8; decide); have m3 := hV2.arr.cell 3 (by show 3 < 8; decide); have m4 := hV2.arr.cell 4 (by show 4 < 8; decide); have m5 := hV2.arr.cell 5 (by show 5 < 8; decide); have m6 := hV2.arr.cell 6 (by show 6 < 8; decide); have m7 := hV2.arr.cell 7 (by show 7 < 8; decide); have n0 := hV2.arr.free 0; have n1 := hV2.arr.free 1; have n2 := hV2.arr.free 2; have n3 := hV2.arr.free 3; have n4 := hV2.arr.free 4; have n5 := hV2.arr.free 5; have n6 := hV2.arr.free 6; have n7 := hV2.arr.free 7; have hV3 := hV2.eight rfl u0 u1 u2 u3 u4 u5 u6 u7))
  all_goals
    have p0 := hV3.arr.cell 0 (by show 0 < 8; decide); have p1 := hV3.arr.cell 1 (by show 1 < 8; decide); have p2 := hV3.arr.cell 2 (by show 2 < 8; decide); have p3 := hV3.arr.cell 3 (by show 3 < 8; decide); have p4 := hV3.arr.cell 4 (by show 4 < 8; decide); have p5 := hV3.arr.cell 5 (by show 5 < 8; decide); have p6 := hV3.arr.cell 6 (by show 6 < 8; decide); have p7 := hV3.arr.cell 7 (by show 7 < 8; decide)
    go_wp2_with fail
    refine (K4.out _).mono ?_
    rintro e w5 ⟨rfl, hb5⟩
    have HB5 := Lib.hid (hV3.below.trans (hb5.mono hV3.below.size))
    clear hb5
    go_wp2_with fail
    go_ret
    exact ⟨rfl, HB5.out⟩

end Go.Proofs.YtpfkokjbpfaafavDoor
namespace Go.Proofs.YtpfkokjbpfaafavDoor
open Go.RowKit

/-- Two texts' exclusive or: the first n bytes, then the first text's own. -/
def xorUp (a b : List UInt8) (n : Nat) : List UInt8 := (List.range n).map (fun i => a.getD i 0 ^^^ b.getD i 0) ++ a.drop n
theorem xorUp_length (a b : List UInt8) (n : Nat) (h : n ≤ a.length) : (xorUp a b n).length = a.length := by unfold xorUp; simp; omega
theorem xorUp_zero (a b : List UInt8) : xorUp a b 0 = a := rfl
theorem xorUp_at (a b : List UInt8) (n : Nat) : (xorUp a b n).getD n 0 = a.getD n 0 := by
  unfold xorUp
  rw [List.getD_eq_getElem?_getD, List.getElem?_append_right (by simp), List.length_map, List.length_range, Nat.sub_self, List.getElem?_drop, Nat.add_zero, List.getD_eq_getElem?_getD]
theorem xorUp_set (a b : List UInt8) (n : Nat) (h : n < a.length) : (xorUp a b n).set n (a.getD n 0 ^^^ b.getD n 0) = xorUp a b (n + 1) := by
  unfold xorUp
  rw [List.set_append_right _ _ (by simp), List.length_map, List.length_range, Nat.sub_self, List.drop_eq_getElem_cons h, List.set_cons_zero, List.range_succ, List.map_append, List.append_assoc]
  rfl
theorem xorUp_pad (k : List UInt8) (x : UInt8) (h : k.length ≤ 64) : xorUp (k ++ List.replicate (64 - k.length) 0) (List.replicate 64 x) 64 = padUp k x 64 := by
  unfold xorUp padUp
  have e1 : (k ++ List.replicate (64 - k.length) 0).drop 64 = [] := by
    apply List.drop_of_length_le
    simp
    omega
  rw [e1, Nat.sub_self, List.replicate_zero, List.append_nil, List.append_nil]
  apply List.map_congr_left
  intro i hi
  have hi' : i < 64 := by simpa using hi
  have e2 : (List.replicate 64 x).getD i 0 = x := by rw [List.getD_eq_getElem?_getD, List.getElem?_replicate, if_pos hi']; rfl
  have e3 : (k ++ List.replicate (64 - k.length) 0).getD i 0 = k.getD i 0 := by
    rw [List.getD_eq_getElem?_getD, List.getD_eq_getElem?_getD]
    by_cases hk : i < k.length
    · rw [List.getElem?_append_left hk]
    · rw [List.getElem?_append_right (by omega), List.getElem?_replicate, List.getElem?_eq_none (by omega), if_pos (by omega)]
      rfl
  rw [e2, e3]

end Go.Proofs.YtpfkokjbpfaafavDoor
namespace Go.Proofs.YtpfkokjbpfaafavDoor
open Go.RowKit

theorem xor_bytes (x y : UInt8) : bits .xor .u8 (x.toNat : Int) (y.toNat : Int) = ((x ^^^ y).toNat : Int) := by
  have e : ∀ x y : Fin 256, bits .xor .u8 (x.val : Int) (y.val : Int) = ((x.val ^^^ y.val : Nat) : Int) := by
    intro x y
    unfold bits
    simp only
    rw [BitVec.toNat_xor]
    have ex : ∀ z : Fin 256, (BitVec.ofInt IntKind.u8.bits (z.val : Int)).toNat = z.val := fun z => by
      rw [BitVec.toNat_ofInt]
      show ((z.val : Int) % ((2 ^ 8 : Nat) : Int)).toNat = z.val
      have := z.isLt
      omega
    rw [ex x, ex y, IntKind.wrap_u8]
    have : x.val ^^^ y.val < 256 := Nat.xor_lt_two_pow (n := 8) x.isLt y.isLt
    omega
  have := e ⟨x.toNat, x.toNat_lt⟩ ⟨y.toNat, y.toNat_lt⟩
  rw [this]
  simp
theorem text_byte (t : ByteArray) (n : Nat) (h : n < t.size) : t[n]'h = t.data.toList.getD n 0 := by
  rw [List.getD_eq_getElem?_getD, List.getElem?_eq_getElem (by simpa using h)]
  rfl
theorem or_bytes (x y : UInt8) : bits .or .u8 (x.toNat : Int) (y.toNat : Int) = ((x ||| y).toNat : Int) := by
  have e : ∀ x y : Fin 256, bits .or .u8 (x.val : Int) (y.val : Int) = ((x.val ||| y.val : Nat) : Int) := by
    intro x y
    unfold bits
    simp only
    rw [BitVec.toNat_or]
    have ex : ∀ z : Fin 256, (BitVec.ofInt IntKind.u8.bits (z.val : Int)).toNat = z.val := fun z => by
      rw [BitVec.toNat_ofInt]
      show ((z.val : Int) % ((2 ^ 8 : Nat) : Int)).toNat = z.val
      have := z.isLt
      omega
    rw [ex x, ex y, IntKind.wrap_u8]
    have : x.val ||| y.val < 256 := Nat.or_lt_two_pow (n := 8) x.isLt y.isLt
    omega
  have := e ⟨x.toNat, x.toNat_lt⟩ ⟨y.toNat, y.toNat_lt⟩
  rw [this]
  simp

/-- What the first n bytes of two texts differ in. -/
def diffUp (a b : List UInt8) : Nat → UInt8
  | 0 => 0
  | n + 1 => diffUp a b n ||| (a.getD n 0 ^^^ b.getD n 0)
theorem diffUp_zero (a b : List UInt8) (n : Nat) : diffUp a b n = 0 ↔ ∀ i, i < n → a.getD i 0 = b.getD i 0 := by
  induction n with
  | zero => exact ⟨fun _ i hi => absurd hi (by omega), fun _ => rfl⟩
  | succ n ih =>
    show diffUp a b n ||| (a.getD n 0 ^^^ b.getD n 0) = 0 ↔ _
    rw [UInt8.or_eq_zero_iff, UInt8.xor_eq_zero_iff, ih]
    constructor
    · rintro ⟨h1, h2⟩ i hi
      rcases Nat.lt_or_ge i n with h | h
      · exact h1 i h
      · obtain rfl : i = n := by omega
        exact h2
    · intro h
      exact ⟨fun i hi => h i (by omega), h n (by omega)⟩
theorem diffUp_eq (a b : ByteArray) (h : a.size = b.size) : ((((diffUp a.data.toList b.data.toList a.size).toNat : Nat) : Int) == 0) = (a.toList == b.toList) := by
  have e : ∀ t : ByteArray, t.toList = t.data.toList := fun t => by rw [ByteArray.toList_eq]
  have hz : ((((diffUp a.data.toList b.data.toList a.size).toNat : Nat) : Int) = 0) ↔ diffUp a.data.toList b.data.toList a.size = 0 := by
    constructor
    · intro h
      apply UInt8.toNat_inj.1
      show _ = 0
      omega
    · intro h
      rw [h]
      rfl
  rw [e a, e b, Bool.eq_iff_iff, beq_iff_eq, beq_iff_eq, hz, diffUp_zero]
  constructor
  · intro hh
    apply List.ext_getElem (by simp; exact h)
    intro i h1 h2
    have := hh i (by simpa using h1)
    rw [List.getD_eq_getElem?_getD, List.getD_eq_getElem?_getD, List.getElem?_eq_getElem h1, List.getElem?_eq_getElem h2] at this
    exact this
  · intro hh i _
    rw [hh]

end Go.Proofs.YtpfkokjbpfaafavDoor
namespace Go.Proofs.YtpfkokjbpfaafavDoor
open Go.RowKit

/-- A row of bytes in block g: its cells, none of them barred. -/
structure RowB (g : Nat) (l : List UInt8) (X : World) : Prop where
  cell : ∀ j, j < l.length → X.cell? ⟨g, j, none⟩ = some (.int .u8 ((l.getD j 0).toNat : Nat))
  free : ∀ j, j < l.length → X.frozen? ⟨g, j, none⟩ = false
theorem RowB.set {g : Nat} {l : List UInt8} {X : World} (h : RowB g l X) (k : Nat) (hk : k < l.length) (b : UInt8) : RowB g (l.set k b) (X.setCell ⟨g, k, none⟩ (.int .u8 (b.toNat : Nat))) := by
  refine ⟨fun j hj => ?_, fun j hj => ?_⟩
  · rw [List.length_set] at hj
    by_cases hjk : k = j
    · subst hjk
      rw [set_on _ _ _ _ _ (h.cell k hk), List.getD_eq_getElem?_getD, List.getElem?_set_self hk]
      rfl
    · rw [set_off _ _ _ _ _ hjk, h.cell j hj, List.getD_eq_getElem?_getD, List.getD_eq_getElem?_getD, List.getElem?_set_ne hjk]
  · rw [List.length_set] at hj
    rw [World.frozen?_setCell]
    exact h.free j hj
theorem RowB.drew {g : Nat} {l : List UInt8} {X : World} (h : RowB g l X) : RowB g l X.drew := ⟨h.cell, h.free⟩
theorem RowB.back {g : Nat} {l : List UInt8} {X : World} (h : RowB g l X) (n cap : Nat) (hn : l.length = n) : (convert 40 9 (.slice (some ⟨g, 0, none⟩) n cap)).run Tryd.prog X = .ok (.string ⟨l.toArray⟩) X := by
  subst hn
  refine run_convert_bytes_back (P := Tryd.prog) X 40 9 5 ⟨g, 0, none⟩ cap l Tryd.underlying40 Tryd.underlying5 Tryd.underlying9 (fun j hj => ?_)
  have e : (⟨g, 0, none⟩ : Addr).add j = ⟨g, j, none⟩ := by unfold Addr.add; split <;> simp_all
  rw [e, h.cell j hj, List.getD_eq_getElem?_getD, List.getElem?_eq_getElem hj]
  rfl
/-- '[]byte(t)': a row of its own that holds t's bytes. -/
theorem bytes_text (w : World) (t : ByteArray) : ∃ (cp : Nat) (w' : World), (convert 9 40 (.string t)).run Tryd.prog w = .ok (.slice (some ⟨w.heap.size, 0, none⟩) t.size cp) w' ∧ Below w.heap.size w w' ∧ RowB w.heap.size t.data.toList w' := by
  have hl : t.data.toList.length = t.size := by simp
  refine ⟨_, _, Lib.run_convert_string_bytes w 9 40 5 t Tryd.underlying9 Tryd.underlying40 Tryd.underlying5, ⟨rfl, rfl, rfl, by rw [Lib.bytesWorld_size]; omega, fun k hk => Lib.bytesWorld_at_old w _ t k hk⟩, fun j hj => Lib.bytesWorld_cell w _ t j (by omega), fun j hj => ?_⟩
  have h := Lib.bytesWorld_at_new w 5 t
  have hz : t.size ≤ (Lib.bytesCells w 5 t).size := by simp [Lib.bytesCells]
  unfold World.frozen?
  rw [h]
  simp
  omega

end Go.Proofs.YtpfkokjbpfaafavDoor
namespace Go.Proofs.YtpfkokjbpfaafavDoor
open Go.RowKit

end Go.Proofs.YtpfkokjbpfaafavDoor

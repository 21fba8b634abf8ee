/-
  The program's DigestOf.
  A signature's bytes, and back.
  What the program's functions of signatures give: the contracts by name; both sides tell the same.
-/
import Derived.Test.YtkjjdoadjhjmbatDoorJ30
import Derived.Test.YtkjjdoadjhjmbatDoorJ05
import Derived.Test.YtkjjdoadjhjmbatDoorJ28
import Derived.Test.YtkjjdoadjhjmbatDoorJ22
namespace Go.Proofs.YtkjjdoadjhjmbatDoor
open Go.RowKit

theorem digest_first (s : ByteArray) : moreState ⟨(bytesOf firstState).toArray⟩ ⟨#[]⟩ s = eatUp firstState s.data.toList (s.size / 64) := by
  unfold moreState
  have e : (⟨(bytesOf firstState).toArray⟩ : ByteArray).data.toList = bytesOf firstState := rfl
  have e0 : (⟨#[]⟩ : ByteArray).size = 0 := rfl
  rw [e, e0, Nat.zero_add, wordsOf_bytesOf firstState firstState_words]
  rfl
theorem digest_rest (s : ByteArray) : s.extract (64 * (s.size / 64)) s.size = ⟨(moreRest ⟨#[]⟩ s).toArray⟩ := by
  apply ByteArray.ext
  apply Array.ext'
  have e0 : (⟨#[]⟩ : ByteArray).size = 0 := rfl
  unfold moreRest
  rw [e0, Nat.zero_add, ByteArray.data_extract, Array.toList_extract, List.extract_eq_take_drop]
  rw [List.take_of_length_le (by simp)]
  rfl
/-- The digest of a text. -/
def digestOf (s : ByteArray) : ByteArray := ⟨(endOf ⟨(bytesOf (moreState ⟨(bytesOf firstState).toArray⟩ ⟨#[]⟩ s)).toArray⟩ ⟨(moreRest ⟨#[]⟩ s).toArray⟩ s.size).toArray⟩
theorem digest_last (s mr : ByteArray) (D1 : List Nat) (h1 : D1 = eatUp firstState s.data.toList (s.size / 64)) (h2 : mr = s.extract (64 * (s.size / 64)) s.size) :
    (⟨(bytesOf (eatUp D1 (mr ++ ⟨(endL s.size).toArray⟩).data.toList ((mr ++ ⟨(endL s.size).toArray⟩).size / 64))).toArray⟩ : ByteArray) = digestOf s := by
  have hw : Words D1 := by rw [h1]; exact eatUp_words _ _ firstState_words _
  have hz : mr.size = s.size % 64 := by rw [h2, ByteArray.size_extract]; omega
  have he := end_state ⟨(bytesOf D1).toArray⟩ mr s.size hz
  have e : (⟨(bytesOf D1).toArray⟩ : ByteArray).data.toList = bytesOf D1 := rfl
  rw [e, wordsOf_bytesOf D1 hw] at he
  rw [he]
  unfold digestOf endOf
  rw [digest_first s, ← h1, ← digest_rest s, ← h2]

/-- The state's variable. -/
structure DV (w : World) (q : Nat) (t8 : TypeId) (us : List Nat) (X : World) : Prop where
  arr : ArrW q t8 us X
  ge : w.heap.size ≤ q
  below : Below w.heap.size w X
theorem DV.next {w : World} {q : Nat} {t8 : TypeId} {us : List Nat} {X Y : World} (h : DV w q t8 us X) (hb : Below X.heap.size X Y) : DV w q t8 us Y := ⟨h.arr.next hb, h.ge, h.below.trans (hb.mono h.below.size)⟩
theorem DV.drew {w : World} {q : Nat} {t8 : TypeId} {us : List Nat} {X : World} (h : DV w q t8 us X) : DV w q t8 us X.drew := ⟨h.arr.drew, h.ge, h.below.drew⟩
theorem DV.eight {w : World} {q : Nat} {t8 : TypeId} {us : List Nat} {X : World} (h : DV w q t8 us X) (hl : us.length = 8) (u0 u1 u2 u3 u4 u5 u6 u7 : Nat) :
    DV w q t8 [u0, u1, u2, u3, u4, u5, u6, u7] ((((((((X.setCell ⟨q, 0, none⟩ (.int .u32 (u0 : Int))).setCell ⟨q, 1, none⟩ (.int .u32 (u1 : Int))).setCell ⟨q, 2, none⟩ (.int .u32 (u2 : Int))).setCell ⟨q, 3, none⟩ (.int .u32 (u3 : Int))).setCell ⟨q, 4, none⟩ (.int .u32 (u4 : Int))).setCell ⟨q, 5, none⟩ (.int .u32 (u5 : Int))).setCell ⟨q, 6, none⟩ (.int .u32 (u6 : Int))).setCell ⟨q, 7, none⟩ (.int .u32 (u7 : Int))) :=
  ⟨h.arr.set8 hl u0 u1 u2 u3 u4 u5 u6 u7, h.ge, h.below.trans ((Only.set8 X q (.int .u32 (u0 : Int)) (.int .u32 (u1 : Int)) (.int .u32 (u2 : Int)) (.int .u32 (u3 : Int)) (.int .u32 (u4 : Int)) (.int .u32 (u5 : Int)) (.int .u32 (u6 : Int)) (.int .u32 (u7 : Int))).below h.ge h.below.size)⟩

set_option maxRecDepth 100000 in
set_option maxHeartbeats 4000000 in
theorem implDigestOf_any (s : ByteArray) (hs : s.size ≤ 500000000) (w : World) (hK : LaidK w) :
    Calls Tryd.prog 96 #[.string s] w fun e w' => e = .returned (.string (digestOf s)) ∧ Below w.heap.size w w' := by
  have HK := Lib.hid hK
  clear hK
  have H1 := Lib.hid firstState_any
  have k1 := fun X hX => afterBlocks_any firstState firstState_words rfl s X hX
  have hl1 := eatUp_length firstState s.data.toList rfl (s.size / 64)
  have hw1 := eatUp_words firstState s.data.toList firstState_words (s.size / 64)
  obtain ⟨D1, HD1⟩ : ∃ D, Hid (D = eatUp firstState s.data.toList (s.size / 64)) := ⟨_, rfl⟩
  obtain ⟨mr, MR⟩ : ∃ mr : ByteArray, Hid (mr = s.extract (64 * (s.size / 64)) s.size) := ⟨_, rfl⟩
  rw [← HD1.out] at k1 hl1 hw1
  rw [← MR.out] at k1
  have hmr : mr.size ≤ 500000000 := by rw [MR.out, ByteArray.size_extract]; omega
  have k2 := endingOf_any s.size (by omega)
  have hel : (⟨(endL s.size).toArray⟩ : ByteArray).size ≤ 128 := by show (endL s.size).toArray.size ≤ 128; rw [List.size_toArray]; exact endL_length s.size
  have hlast := digest_last s mr D1 HD1.out MR.out
  obtain ⟨el, EL⟩ : ∃ b : ByteArray, Hid (b = ⟨(endL s.size).toArray⟩) := ⟨_, rfl⟩
  rw [← EL.out] at k2 hel hlast
  have m2 : ∀ X, (Op.stringOp .add mr el).run Tryd.prog X = .ok (.string (mr ++ el)) X := fun X => run_string_add_sum X mr el (by omega)
  have k3 := fun X hX => afterBlocks_any D1 hw1 hl1 (mr ++ el) X hX
  have hl2 := eatUp_length D1 (mr ++ el).data.toList hl1 ((mr ++ el).size / 64)
  have hw2 := eatUp_words D1 (mr ++ el).data.toList hw1 ((mr ++ el).size / 64)
  obtain ⟨D2, HD2⟩ : ∃ D, Hid (D = eatUp D1 (mr ++ el).data.toList ((mr ++ el).size / 64)) := ⟨_, rfl⟩
  obtain ⟨m3, M3⟩ : ∃ m : ByteArray, Hid (m = (mr ++ el).extract (64 * ((mr ++ el).size / 64)) (mr ++ el).size) := ⟨_, rfl⟩
  rw [← HD2.out, ← M3.out] at k3
  rw [← HD2.out] at hl2 hw2 hlast
  have k4 := stateText_any D2 hw2 hl2
  rw [hlast] at k4
  obtain ⟨v0, v1, v2, v3, v4, v5, v6, v7, rfl⟩ := eight_of D1 hl1
  obtain ⟨u0, u1, u2, u3, u4, u5, u6, u7, rfl⟩ := eight_of D2 hl2
  have K1 : Hid (∀ X, LaidK X → Calls Tryd.prog 116 #[stV firstState, .string s] X fun e Y => e = .returned (.tuple #[.agg #[.int .u32 v0, .int .u32 v1, .int .u32 v2, .int .u32 v3, .int .u32 v4, .int .u32 v5, .int .u32 v6, .int .u32 v7], .string mr]) ∧ Below X.heap.size X Y) := k1
  have K2 := Lib.hid k2
  have K3 : Hid (∀ X, LaidK X → Calls Tryd.prog 116 #[.agg #[.int .u32 v0, .int .u32 v1, .int .u32 v2, .int .u32 v3, .int .u32 v4, .int .u32 v5, .int .u32 v6, .int .u32 v7], .string (mr ++ el)] X fun e Y => e = .returned (.tuple #[.agg #[.int .u32 u0, .int .u32 u1, .int .u32 u2, .int .u32 u3, .int .u32 u4, .int .u32 u5, .int .u32 u6, .int .u32 u7], .string m3]) ∧ Below X.heap.size X Y) := k3
  have K4 : Hid (∀ X, Calls Tryd.prog 118 #[.agg #[.int .u32 u0, .int .u32 u1, .int .u32 u2, .int .u32 u3, .int .u32 u4, .int .u32 u5, .int .u32 u6, .int .u32 u7]] X fun e Y => e = .returned (.string (digestOf s)) ∧ Below X.heap.size X Y) := k4
  obtain ⟨dg, DG⟩ : ∃ d, Hid (d = digestOf s) := ⟨_, rfl⟩
  rw [← DG.out] at K4
  rw [← DG.out]
  clear k1 k2 k3 k4 hl1 hw1 hl2 hw2 hlast HD1 HD2 M3
  go_enter Tryd.func96, Tryd.ntmps96
  go_wp2_with fail
  refine (H1.out _).mono ?_
  rintro e w1 ⟨rfl, hb1⟩
  have HB1 := Lib.hid hb1
  have HK1 := Lib.hid (HK.out.stays hb1 (Nat.le_refl _))
  clear hb1
  go_wp2_with fail
  refine (K1.out _ HK1.out).mono ?_
  rintro e w2 ⟨rfl, hb2⟩
  have HB2 := Lib.hid (HB1.out.trans (hb2.mono HB1.out.size))
  clear hb2
  have V2 : Hid (DV w w2.heap.size 128 [v0, v1, v2, v3, v4, v5, v6, v7] (w2.alloc (.cells #[.int .u32 v0, .int .u32 v1, .int .u32 v2, .int .u32 v3, .int .u32 v4, .int .u32 v5, .int .u32 v6, .int .u32 v7] 128))) := ⟨ArrW.new w2 128 [v0, v1, v2, v3, v4, v5, v6, v7], HB2.out.size, HB2.out.alloc HB2.out.size _⟩
  have HK2 : Hid (LaidK (w2.alloc (.cells #[.int .u32 v0, .int .u32 v1, .int .u32 v2, .int .u32 v3, .int .u32 v4, .int .u32 v5, .int .u32 v6, .int .u32 v7] 128)).drew) := HK.out.stays V2.out.drew.below (Nat.le_refl _)
  go_wp2_with fail
  go_region_with (first | (go_at_call 117; refine (K2.out _).mono ?_; rintro e x1 ⟨rfl, hb⟩; have hV1 := V2.out.drew.next hb; have HK3 := Lib.hid (HK.out.stays hV1.below (Nat.le_refl _)); have g0 := hV1.arr.cell 0 (by show 0 < 8; decide); have g1 := hV1.arr.cell 1 (by show 1 < 8; decide); have g2 := hV1.arr.cell 2 (by show 2 < 8; decide); have g3 := hV1.arr.cell 3 (by show 3 < 8; decide); have g4 := hV1.arr.cell 4 (by show 4 < 8; decide); have g5 := hV1.arr.cell 5 (by show 5 < 8; decide); have g6 := hV1.arr.cell 6 (by show 6 < 8; decide); have g7 := hV1.arr.cell 7 (by show 7 < 8; decide)) | (go_at_call 116; refine (K3.out _ HK3.out).mono ?_; rintro e x2 ⟨rfl, hb⟩; have hV2 := hV1.next hb; have m0 := hV2.arr.cell 0 (by show 0 < 8; decide); have m1 := hV2.arr.cell 1 (by show 1 < 8; decide); have m2 := hV2.arr.cell 2 (by show 2 < 8; decide); have m3 := hV2.arr.cell 3 (by show 3 < 8; decide); have m4 := hV2.arr.cell 4 (by show 4 < 8; decide); have m5 := hV2.arr.cell 5 (by show 5 < 8; decide); have m6 := hV2.arr.cell 6 (by show 6 < 8; decide); have m7 := hV2.arr.cell 7 (by show 7 < 8; decide); have n0 := hV2.arr.free 0; have n1 := hV2.arr.free 1; have n2 := hV2.arr.free 2; have n3 := hV2.arr.free 3; have n4 := hV2.arr.free 4; have n5 := hV2.arr.free 5; have n6 := hV2.arr.free 6; have n7 := hV2.arr.free 7; have hV3 := hV2.eight rfl u0 u1 u2 u3 u4 u5 u6 u7))
  all_goals
    have p0 := hV3.arr.cell 0 (by show 0 < 8; decide); have p1 := hV3.arr.cell 1 (by show 1 < 8; decide); have p2 := hV3.arr.cell 2 (by show 2 < 8; decide); have p3 := hV3.arr.cell 3 (by show 3 < 8; decide); have p4 := hV3.arr.cell 4 (by show 4 < 8; decide); have p5 := hV3.arr.cell 5 (by show 5 < 8; decide); have p6 := hV3.arr.cell 6 (by show 6 < 8; decide); have p7 := hV3.arr.cell 7 (by show 7 < 8; decide)
    go_wp2_with fail
    refine (K4.out _).mono ?_
    rintro e w5 ⟨rfl, hb5⟩
    have HB5 := Lib.hid (hV3.below.trans (hb5.mono hV3.below.size))
    clear hb5
    go_wp2_with fail
    go_ret
    exact ⟨rfl, HB5.out⟩

end Go.Proofs.YtkjjdoadjhjmbatDoor
namespace Go.Proofs.YtkjjdoadjhjmbatDoor
open Go.RowKit

theorem sig_halves (text : ByteArray) (h : text.size = 8) : text.extract 0 4 ++ text.extract 4 8 = text := by
  apply ByteArray.ext
  apply Array.ext'
  rw [ByteArray.data_append, Array.toList_append, ByteArray.data_extract, ByteArray.data_extract, Array.toList_extract, Array.toList_extract, List.extract_eq_take_drop, List.extract_eq_take_drop]
  have hl : text.data.toList.length = 8 := by simpa using h
  have e : List.take (8 - 4) (List.drop 4 text.data.toList) = List.drop 4 text.data.toList := List.take_of_length_le (by simp; omega)
  rw [e]
  show List.take 4 text.data.toList ++ _ = _
  exact List.take_append_drop 4 _
theorem four_back (a b c d : UInt8) : four (fourNum a b c d) = [a, b, c, d] := by
  have ha := a.toNat_lt
  have hb := b.toNat_lt
  have hc := c.toNat_lt
  have hd := d.toNat_lt
  have e : ∀ (x : UInt8) (n : Nat), n % 256 = x.toNat → UInt8.ofNat n = x := fun x n h => by
    apply UInt8.toNat_inj.1
    rw [UInt8.toNat_ofNat']
    exact h
  unfold four fourNum
  rw [e a _ (by omega), e b _ (by omega), e c _ (by omega), e d _ (by omega)]
theorem numB_back (l : ByteArray) (h : l.size = 4) : numB (fourBack l.data.toList) = l := by
  obtain ⟨a, b, c, d, rfl⟩ := four_bytes l h
  apply ByteArray.ext
  apply Array.ext'
  show four (fourBack [a, b, c, d]) = [a, b, c, d]
  exact four_back a b c d
theorem numB_lt {n m : Nat} (hn : n < 4294967296) (hm : m < 4294967296) (h : numB n = numB m) : n = m := by
  have h2 := congrArg (fun b : ByteArray => fourBack b.data.toList) h
  have e1 : fourBack (numB n).data.toList = n := fourBack_four n hn
  have e2 : fourBack (numB m).data.toList = m := fourBack_four m hm
  exact e1.symm.trans (h2.trans e2)
/-- What is read of bytes as a signature. -/
def SigReadIs (text : ByteArray) (E S : Nat) (b : Bool) : Prop := (b = true ∧ E < 1073741789 ∧ S < 1073741789 ∧ text = numB E ++ numB S) ∨ (b = false ∧ E = 0 ∧ S = 0 ∧ ∀ E S : Nat, E < 1073741789 → S < 1073741789 → text ≠ numB E ++ numB S)
theorem sig_read (text : ByteArray) : ∃ E S b, SigReadIs text E S b := by
  by_cases h : ∃ E S : Nat, E < 1073741789 ∧ S < 1073741789 ∧ text = numB E ++ numB S
  · obtain ⟨E, S, h1, h2, h3⟩ := h
    exact ⟨E, S, true, .inl ⟨rfl, h1, h2, h3⟩⟩
  · exact ⟨0, 0, false, .inr ⟨rfl, rfl, rfl, fun E S h1 h2 h3 => h ⟨E, S, h1, h2, h3⟩⟩⟩
theorem sig_left (E S : Nat) : (numB E ++ numB S).extract 0 4 = numB E := ByteArray.extract_append_eq_left (numB_size E).symm
theorem sig_right (E S : Nat) : (numB E ++ numB S).extract 4 8 = numB S := ByteArray.extract_append_eq_right (numB_size E).symm (by rw [numB_size, numB_size])

end Go.Proofs.YtkjjdoadjhjmbatDoor
namespace Go.Proofs.YtkjjdoadjhjmbatDoor
open Go.RowKit

end Go.Proofs.YtkjjdoadjhjmbatDoor

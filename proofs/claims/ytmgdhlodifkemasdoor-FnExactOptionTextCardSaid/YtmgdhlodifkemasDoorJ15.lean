/-
  The given OptionText.
-/
import Derived.Test.YtmgdhlodifkemasDoorJ13
import Derived.Test.YtmgdhlodifkemasDoorJ14
namespace Go.Proofs.YtmgdhlodifkemasDoor
open Go.RowKit

theorem bytes_eq {a b : ByteArray} (h : a.data.toList = b.data.toList) : a = b := ByteArray.ext (Array.toList_inj.1 h)
theorem ret_sb {a b : ByteArray} {o : Value} (h : a = b) : Ending.returned (.tuple #[.string a, o]) = .returned (.tuple #[.string b, o]) := by rw [h]
theorem cat_bytes (a b : ByteArray) : (a ++ b).data.toList = a.data.toList ++ b.data.toList := by simp
/-- What is written when j ways are. -/
def optPart (d : ByteArray) (ws : List ByteArray) (j : Nat) : List UInt8 := optSize ++ d.data.toList ++ optWays ++ joinAt 44 (bytesW (ws.take j))
theorem part_next (d : ByteArray) (ws : List ByteArray) (j : Nat) (hj : j < ws.length) : optPart d ws (j + 1) = optPart d ws j ++ (if 0 < j then [44] else []) ++ ws[j].data.toList := by
  unfold optPart
  have h1 : ws.take (j + 1) = ws.take j ++ [ws[j]] := by rw [List.take_add_one, List.getElem?_eq_getElem hj]; rfl
  have h2 : bytesW (ws.take j ++ [ws[j]]) = bytesW (ws.take j) ++ [ws[j].data.toList] := by unfold bytesW; rw [List.map_append]; rfl
  rw [h1, h2]
  by_cases h0 : 0 < j
  · have h3 : bytesW (ws.take j) ≠ [] := fun e => by
      have hl : (bytesW (ws.take j)).length = j := by unfold bytesW; rw [List.length_map, List.length_take]; omega
      rw [e] at hl
      simp at hl
      omega
    rw [joinAt_snoc 44 _ _ h3, if_pos h0]
    simp
  · obtain rfl : j = 0 := by omega
    simp [bytesW, joinAt]

set_option maxRecDepth 100000 in
set_option maxHeartbeats 3200000 in
theorem specOptionText_any (z : Int) (v1 : Value) (ws : List ByteArray) (p : Bool) (t : ByteArray) (ok : Bool) (ht : TextIs z ws p t ok) (hl : ws.length ≤ 100000000) (hx : ∀ x ∈ ws, x.size ≤ 100000000) (w : World) (h : layStringS.rd w [v1] ws) :
    Calls Tryd.prog 5 #[.agg #[.int .i64 z, v1, .bool p]] w fun e w' => e = .returned (.tuple #[.string t, .bool ok]) ∧ Below w.heap.size w w' := by
  obtain ⟨ao, cp, rfl⟩ := rows_form h
  have A0 := Lib.hid (VarA.new w OptionsT #[.int .i64 z, .slice ao ws.length cp, .bool p])
  have B0 := Lib.hid ((Below.refl w.heap.size w).alloc (Nat.le_refl _) (.cells #[.int .i64 z, .slice ao ws.length cp, .bool p] OptionsT))
  have HR := Lib.hid (layStringS.below h B0.out)
  clear h
  go_enter Tryd.func5, Tryd.ntmps5
  go_upto_region 1 with fail
  generalize w.alloc (.cells #[.int .i64 z, .slice ao ws.length cp, .bool p] OptionsT) = Y at *
  have c0 : Y.cell? ⟨w.heap.size, 0, none⟩ = some (.int .i64 z) := A0.out.cell 0
  have c1 : Y.cell? ⟨w.heap.size, 1, none⟩ = some (.slice ao ws.length cp) := A0.out.cell 1
  have c2 : Y.cell? ⟨w.heap.size, 2, none⟩ = some (.bool p) := A0.out.cell 2
  rcases ht with ⟨rfl, hok, rfl⟩ | ⟨rfl, hno, rfl⟩
  rotate_left
  · have K := Lib.hid (specOptionsOk_bool z _ ws p false ⟨fun e => (by cases e), fun e => absurd e hno⟩ hl hx Y HR.out)
    go_wp2_with fail
    refine (K.out).mono ?_
    rintro e Y1 ⟨rfl, hb1⟩
    have B1 := Lib.hid (B0.out.trans (hb1.mono B0.out.size))
    clear hb1
    go_wp2_with fail
    go_ret2
    exact ⟨rfl, B1.out⟩
  have K := Lib.hid (specOptionsOk_bool z _ ws p true ⟨fun _ => hok, fun _ => rfl⟩ hl hx Y HR.out)
  have hz := hok.sizeR
  obtain ⟨n, rfl⟩ : ∃ n : Nat, z = n := ⟨z.toNat, by omega⟩
  have hway := Lib.hid hok.way
  have hfew := hok.few
  have HE : Hid (∀ u : ByteArray, u.data.toList = optPart ⟨(Lib.decDigits n).toArray⟩ ws ws.length ++ optEnd p → u = optT ((n : Int).toNat) ws p) := Lib.hid (fun u hu => bytes_eq (by
    rw [hu]
    unfold optPart optT optL
    rw [List.take_length]
    rfl))
  have hd2 := dec_length 2 n (by omega) (by omega)
  go_wp2_with fail
  refine (K.out).mono ?_
  rintro e Y1 ⟨rfl, hb1⟩
  have A1 := Lib.hid (A0.out.next hb1)
  have B1 := Lib.hid (B0.out.trans (hb1.mono B0.out.size))
  have R1 := Lib.hid (layStringS.below HR.out hb1)
  clear hb1 K A0 B0 HR c0 c1 c2 hx
  have c0 : Y1.cell? ⟨w.heap.size, 0, none⟩ = some (.int .i64 (n : Int)) := A1.out.cell 0
  have K3 : Hid (∀ X, Calls Tryd.prog 11 #[.int .i64 (n : Int)] X fun e Z => e = .returned (.string ⟨(Lib.decDigits n).toArray⟩) ∧ Below X.heap.size X Z) := Lib.hid (fun X => specDecimal_nat n (by omega) X)
  have hd3 : (⟨(Lib.decDigits n).toArray⟩ : ByteArray).size ≤ 2 := hd2
  generalize (⟨(Lib.decDigits n).toArray⟩ : ByteArray) = d at K3 HE hd3
  have s0 : ¬ (9223372036854775807 < 5 + d.size) := by omega
  have s1 : ¬ (9223372036854775807 < 5 + d.size + 6) := by omega
  go_wp2_with fail
  refine (K3.out _).mono ?_
  rintro e Y2 ⟨rfl, hb2⟩
  have A2 := Lib.hid (A1.out.next hb2)
  have B2 := Lib.hid (B1.out.trans (hb2.mono B1.out.size))
  have R2 := Lib.hid (layStringS.below R1.out hb2)
  clear hb2 K3 A1 B1 R1 c0
  go_upto_region 4 with fail
  obtain ⟨t0, T0⟩ : ∃ u : ByteArray, Hid (u = (⟨#[115, 105, 122, 101, 32]⟩ : ByteArray) ++ d ++ (⟨#[59, 119, 97, 121, 115, 32]⟩ : ByteArray)) := ⟨_, Lib.hid rfl⟩
  rw [← T0.out]
  have HT0 : Hid (t0.data.toList = optPart d ws 0) := Lib.hid (by
    rw [T0.out, cat_bytes, cat_bytes]
    simp [optPart, optSize, optWays, bytesW, joinAt])
  have ht0 : t0.size ≤ 20 := by
    have h9 := congrArg List.length HT0.out
    rw [show t0.data.toList.length = t0.size by simp] at h9
    rw [h9]
    simp [optPart, optSize, optWays, bytesW, joinAt]
    omega
  clear T0
  go_wp2_with fail
  go_loopw [4, 5] (fun u c wr => ∃ (j : Nat) (tj : ByteArray), j ≤ ws.length ∧ c = .int .i64 j ∧ u = .string tj ∧ tj.size ≤ 20 + 9 * j ∧ Hid (tj.data.toList = optPart d ws j) ∧ wr = Y2) (fun _ c _ => ws.length - (intOf c).toNat)
  case atStart => exact ⟨0, t0, Nat.zero_le _, rfl, rfl, by omega, HT0, by first | trivial | rfl⟩
  case round =>
    clear HT0 ht0
    obtain ⟨j, tj, hj, rfl, rfl, htj, HTJ, rfl⟩ := hrel
    have c1 : wr.cell? ⟨w.heap.size, 1, none⟩ = some (.slice ao ws.length cp) := A2.out.cell 1
    by_cases hlt : j < ws.length
    · have hlt' : (j : Int) < (ws.length : Int) := by omega
      have HN := Lib.hid (part_next d ws j hlt)
      have hs := (hway.out _ (List.getElem_mem hlt)).2.2
      obtain ⟨g, off, cs, rfl, hg, hr, hc⟩ := rows_elem R2.out j _ (List.getElem?_eq_getElem hlt)
      generalize ws[j] = x at hr HN hs
      rw [layString_rd] at hr
      subst hr
      have c3 : wr.cell? ⟨g, off + j, none⟩ = some (.string x) := (by have h9 := hc 0 _ rfl; rw [str_k] at h9; exact h9)
      clear hc
      by_cases h0 : 0 < j
      · have h0' : (0 : Int) < (j : Int) := by omega
        have s2 : ¬ (9223372036854775807 < tj.size + 1) := by omega
        have s3 : ¬ (9223372036854775807 < tj.size + 1 + x.size) := by omega
        have HJ : Hid ((tj ++ (⟨#[44]⟩ : ByteArray) ++ x).data.toList = optPart d ws (j + 1)) := Lib.hid (by
          rw [HN.out, if_pos h0, cat_bytes, cat_bytes, HTJ.out])
        have hzz : (tj ++ (⟨#[44]⟩ : ByteArray) ++ x).size ≤ 20 + 9 * (j + 1) := by
          rw [ByteArray.size_append, ByteArray.size_append]
          show tj.size + 1 + x.size ≤ _
          omega
        clear HN HTJ
        go_wp2_with fail
        go_roundw
        case rel => exact ⟨j + 1, _, by omega, by go_num, rfl, hzz, HJ, by first | trivial | rfl⟩
        case measure => simp [intOf]; omega
      · have h0' : ¬ ((0 : Int) < (j : Int)) := by omega
        have s3 : ¬ (9223372036854775807 < tj.size + x.size) := by omega
        have HJ : Hid ((tj ++ x).data.toList = optPart d ws (j + 1)) := Lib.hid (by
          rw [HN.out, if_neg h0, cat_bytes, HTJ.out, List.append_nil])
        have hzz : (tj ++ x).size ≤ 20 + 9 * (j + 1) := by
          rw [ByteArray.size_append]
          omega
        clear HN HTJ
        go_wp2_with fail
        go_roundw
        case rel => exact ⟨j + 1, _, by omega, by go_num, rfl, hzz, HJ, by first | trivial | rfl⟩
        case measure => simp [intOf]; omega
    · have hlt' : ¬ ((j : Int) < (ws.length : Int)) := by omega
      have hje : j = ws.length := by omega
      have c2 : wr.cell? ⟨w.heap.size, 2, none⟩ = some (.bool p) := A2.out.cell 2
      have s4 : ¬ (9223372036854775807 < tj.size + 7) := by omega
      cases p with
      | true =>
        have HU := Lib.hid (HE.out (tj ++ (⟨#[59, 112, 105, 101, 99, 101, 115]⟩ : ByteArray)) (by rw [cat_bytes, HTJ.out, hje]; rfl))
        clear hje
        go_wp2_with fail
        go_ret2
        exact ⟨ret_sb HU.out, B2.out⟩
      | false =>
        have HU := Lib.hid (HE.out tj (by rw [HTJ.out, hje]; exact (List.append_nil _).symm))
        clear hje
        go_wp2_with fail
        go_ret2
        exact ⟨ret_sb HU.out, B2.out⟩

end Go.Proofs.YtmgdhlodifkemasDoor

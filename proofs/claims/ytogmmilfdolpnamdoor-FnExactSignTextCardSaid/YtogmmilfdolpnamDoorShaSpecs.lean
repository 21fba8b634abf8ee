/-
  The given words of digests: turned, read of a text.
  The given rows of words of digests: the words of a text, the bytes of words, the tables.
-/
import Derived.Test.YtogmmilfdolpnamDoorRows
import Derived.Test.YtogmmilfdolpnamDoorKit
import Derived.Test.YtogmmilfdolpnamDoorPlainAll
import Derived.Deep.RegionHeld3
import Derived.BigQuiet
import Derived.Deep.QuietTactic
import Derived.Deep.LoopGhost
import Derived.Deep.DeepCutAuto
import Derived.Test.YtogmmilfdolpnamDoorRowW
namespace Go.Proofs.YtogmmilfdolpnamDoor
open Go.RowKit

set_option maxRecDepth 100000 in
set_option maxHeartbeats 400000 in
theorem specRight_any (x low high : Nat) (hx : x < 4294967296) (h0 : 0 < low) (hlh : low * high = 4294967296) (w : World) :
    Calls Tryd.prog 60 #[.int .u32 x, .int .u32 low, .int .u32 high] w fun e w' => e = .returned (.int .u32 (right x low high : Nat)) ∧ Below w.heap.size w w' := by
  have hl0 : ¬ (low : Int) = 0 := by omega
  go_enter Tryd.func60, Tryd.ntmps60
  go_wp2
  go_quiet (fail)
  go_wp2
  go_ret
  refine ⟨congrArg (fun z => Ending.returned (.int .u32 z)) ?_, below_drewN (Below.refl _ _) _⟩
  obtain ⟨p1, p2, p3⟩ := right_parts x low high hx h0 hlh
  have p4 := right_lt x low high hx h0 hlh
  have e1 : (x : Int) / (low : Int) = ((x / low : Nat) : Int) := by rw [Int.natCast_ediv]
  have e2 : (x : Int) % (low : Int) * (high : Int) = ((x % low * high : Nat) : Int) := by rw [Int.natCast_mul, Int.natCast_emod]
  rw [e1, e2]
  unfold right at p4 ⊢
  generalize x / low = q at *
  generalize x % low * high = r at *
  omega

/-- A place behind another one, as a number of its own. -/
theorem place (k j n : Nat) (h : k + j < n) (hn : n ≤ 1099511627776) : ∃ m : Nat, (k : Int) + (j : Int) = (m : Int) ∧ IntKind.i64.wrap (m : Int) = (m : Int) ∧ (m : Int) < (n : Int) ∧ Hid (m = k + j) :=
  ⟨k + j, by omega, by rw [IntKind.wrap_i64]; omega, by omega, rfl⟩

theorem byte_getD (s : ByteArray) (k : Nat) (h : k < s.size) : s.data.toList.getD k 0 = s[k] := by
  rw [List.getD_eq_getElem?_getD, List.getElem?_eq_getElem (by simpa using h)]
  rfl

theorem word_mul (a b c d : Nat) (ha : a < 256) (hb : b < 256) (hc : c < 256) (hd : d < 256) :
    (((a : Int) % 4294967296 * 16777216 + (b : Int) % 4294967296 * 65536 + (c : Int) % 4294967296 * 256) % 4294967296 + (d : Int) % 4294967296) % 4294967296 = ((a * 16777216 + b * 65536 + c * 256 + d : Nat) : Int) := by
  omega

set_option maxRecDepth 100000 in
set_option maxHeartbeats 800000 in
theorem specWord_any (s : ByteArray) (k : Nat) (hk : k + 3 < s.size) (hs : s.size ≤ 1099511627776) (w : World) :
    Calls Tryd.prog 54 #[.string s, .int .i64 k] w fun e w' => e = .returned (.int .u32 (wordAt s.data.toList k : Nat)) ∧ Below w.heap.size w w' := by
  have h0 : (k : Int) < (s.size : Int) := by omega
  obtain ⟨k1, a1, b1, c1, K1⟩ := place k 1 s.size (by omega) hs
  obtain ⟨k2, a2, b2, c2, K2⟩ := place k 2 s.size (by omega) hs
  obtain ⟨k3, a3, b3, c3, K3⟩ := place k 3 s.size (by omega) hs
  have a1' : (k : Int) + 1 = (k1 : Int) := a1
  have a2' : (k : Int) + 2 = (k2 : Int) := a2
  have a3' : (k : Int) + 3 = (k3 : Int) := a3
  clear a1 a2 a3
  go_enter Tryd.func54, Tryd.ntmps54
  go_wp2
  go_quiet (fail)
  go_wp2
  go_ret
  refine ⟨congrArg (fun z => Ending.returned (.int .u32 z)) ?_, below_drewN (Below.refl _ _) _⟩
  have q0 := byte_getD s k (by omega)
  have q1 := byte_getD s k1 (by omega)
  have q2 := byte_getD s k2 (by omega)
  have q3 := byte_getD s k3 (by omega)
  unfold wordAt fourNum
  rw [← K1.out, ← K2.out, ← K3.out, q0, q1, q2, q3]
  exact word_mul _ _ _ _ (UInt8.toNat_lt _) (UInt8.toNat_lt _) (UInt8.toNat_lt _) (UInt8.toNat_lt _)

set_option maxRecDepth 100000 in
set_option maxHeartbeats 800000 in
theorem specS_any (x a b c : Nat) (last : Bool) (hx : x < 4294967296) (ha : Halves a) (hb : Halves b) (hc : Halves c) (w : World) :
    Calls Tryd.prog 55 #[.int .u32 x, .int .u32 a, .int .u32 b, .int .u32 c, .bool last] w fun e w' => e = .returned (.int .u32 (sgm x a b c last : Nat)) ∧ Below w.heap.size w w' := by
  obtain ⟨qa, fa, ga, QA⟩ := ha.part
  obtain ⟨qb, fb, gb, QB⟩ := hb.part
  obtain ⟨qc, fc, gc, QC⟩ := hc.part
  have H1 := Lib.hid (specRight_any x a (qa * 2) hx ha.1 (by rw [QA.out]; exact ha.2.2))
  have H2 := Lib.hid (specRight_any x b (qb * 2) hx hb.1 (by rw [QB.out]; exact hb.2.2))
  have H3 := Lib.hid (specRight_any x c (qc * 2) hx hc.1 (by rw [QC.out]; exact hc.2.2))
  have e1 : sgm x a b c last = right x a (qa * 2) ^^^ right x b (qb * 2) ^^^ (if last then x / c else right x c (qc * 2)) := by rw [QA.out, QB.out, QC.out]; rfl
  have l1 := right_lt x a (qa * 2) hx ha.1 (by rw [QA.out]; exact ha.2.2)
  have l2 := right_lt x b (qb * 2) hx hb.1 (by rw [QB.out]; exact hb.2.2)
  have l3 := right_lt x c (qc * 2) hx hc.1 (by rw [QC.out]; exact hc.2.2)
  rw [e1]
  have a0 : ¬ (a : Int) = 0 := by have := ha.1; omega
  have b0 : ¬ (b : Int) = 0 := by have := hb.1; omega
  have c0 : ¬ (c : Int) = 0 := by have := hc.1; omega
  generalize right x a (qa * 2) = ra at *
  generalize right x b (qb * 2) = rb at *
  generalize right x c (qc * 2) = rc at *
  obtain ⟨xc, hxc, lxc, XC⟩ : ∃ q : Nat, (x : Int) / (c : Int) = (q : Int) ∧ q < 4294967296 ∧ Hid (q = x / c) := ⟨x / c, by rw [Int.natCast_ediv], Nat.lt_of_le_of_lt (Nat.div_le_self _ _) hx, rfl⟩
  rw [← XC.out]
  have lx1 : ra ^^^ rb < 4294967296 := Nat.xor_lt_two_pow (n := 32) l1 l2
  have x1 := xor_u32 ra rb l1 l2
  have x2 := xor_u32 (ra ^^^ rb) rc lx1 l3
  have x3 := xor_u32 (ra ^^^ rb) xc lx1 lxc
  have w1 : ((qa * 2 : Nat) : Int) = (qa : Int) * 2 := by omega
  have w2 : ((qb * 2 : Nat) : Int) = (qb : Int) * 2 := by omega
  have w3 : ((qc * 2 : Nat) : Int) = (qc : Int) * 2 := by omega
  rw [w1] at H1
  rw [w2] at H2
  rw [w3] at H3
  clear w1 w2 w3 e1 ha hb hc
  go_enter Tryd.func55, Tryd.ntmps55
  go_wp2_with fail
  refine (H1.out _).mono ?_
  rintro e w4 ⟨rfl, hb4⟩
  go_wp2_with fail
  refine (H2.out _).mono ?_
  rintro e w5 ⟨rfl, hb5⟩
  have HB5 := Lib.hid (hb4.trans (hb5.mono hb4.size))
  clear hb4 hb5
  cases last with
  | true =>
    go_wp2_with fail
    go_ret
    exact ⟨rfl, HB5.out⟩
  | false =>
    go_wp2_with fail
    refine (H3.out _).mono ?_
    rintro e w6 ⟨rfl, hb6⟩
    go_wp2_with fail
    go_ret
    exact ⟨rfl, HB5.out.trans (hb6.mono HB5.out.size)⟩

end Go.Proofs.YtogmmilfdolpnamDoor
namespace Go.Proofs.YtogmmilfdolpnamDoor
open Go.RowKit

theorem infoWord : (Tryd.prog.info? 46).map (fun i => (i.zero, i.size, i.bytes)) = some (some (.int .u32 0), 1, 4) := by kernel_rfl
theorem infoByteS : (Tryd.prog.info? 5).map (fun i => (i.zero, i.size, i.bytes)) = some (some (.int .u8 0), 1, 1) := by kernel_rfl

set_option maxRecDepth 100000 in
set_option maxHeartbeats 800000 in
theorem specWords_any (s : ByteArray) (hs : s.size ≤ 1048576) (w : World) :
    Calls Tryd.prog 45 #[.string s] w fun e w' => ∃ v, e = .returned v ∧ OwnW w' w.heap.size 46 v (wordsOf s.data.toList) ∧ Below w.heap.size w w' := by
  obtain ⟨i0, hi, hz0, hz1, hz2⟩ := info_parts infoWord
  go_enter Tryd.func45, Tryd.ntmps45
  go_wp2
  go_loopw [3, 4] (fun v i wr => ∃ k : Nat, 4 * k ≤ s.size ∧ i = .int .i64 ((4 * k : Nat) : Int) ∧ OwnW wr w.heap.size 46 v (wordsUp s.data.toList k) ∧ Below w.heap.size w wr) (fun _ i _ => s.size - (intOf i).toNat)
  case atStart =>
    exact ⟨0, by omega, rfl, OwnW.lit _ _ _ (Nat.le_refl _), (Below.refl _ _).alloc (Nat.le_refl _) _⟩
  case round =>
    obtain ⟨k, hk, rfl, hown, hnx⟩ := hrel
    obtain ⟨m, hm, HM⟩ : ∃ m : Nat, m ≤ s.size ∧ Hid (m = 4 * k) := ⟨4 * k, hk, rfl⟩
    rw [← HM.out]
    have hsz := hnx.size
    have hl := wordsUp_length s.data.toList k
    by_cases hlt : m + 4 ≤ s.size
    · have h1 : (m : Int) + 4 ≤ (s.size : Int) := by omega
      have H1 := Lib.hid (specWord_any s m (by omega) (by omega))
      have HO := Lib.hid hown
      have HN := Lib.hid hnx
      have lt := wordAt_lt s.data.toList m
      generalize hwa : wordAt s.data.toList m = z at H1 lt
      have HZ := Lib.hid hwa
      clear hown hnx hwa
      go_wp2_with fail
      refine (H1.out _).mono ?_
      rintro e w1 ⟨rfl, hb1⟩
      have hown := HO.out.below hb1
      have hsz1 : w.heap.size ≤ w1.heap.size := Nat.le_trans hsz hb1.size
      go_wp2_with (at_builtin; refine wpList_pushW _ rfl _ _ 57 rfl w.heap.size 46 i0 Tryd.underlying57 hi hz0 hz1 hz2 _ _ rfl hown z _ rfl rfl (by omega) hsz1 ?_)
      intro v' w2 hown2 hnx2
      go_wp2
      go_roundw
      case rel =>
        have e1 := HM.out
        refine ⟨k + 1, by omega, by rw [e1]; go_num, ?_, (HN.out.trans (hb1.mono hsz)).trans hnx2⟩
        rw [wordsUp_succ, ← e1, HZ.out]
        exact hown2
      case measure => simp [intOf]; omega
    · have h1 : ¬ ((m : Int) + 4 ≤ (s.size : Int)) := by omega
      have e2 : k = s.data.toList.length / 4 := by have := HM.out; simp; omega
      have HO := Lib.hid hown
      have HN := Lib.hid hnx
      clear hown hnx
      go_wp2
      go_ret
      exact ⟨_, rfl, by unfold wordsOf; rw [← e2]; exact HO.out, HN.out⟩

theorem four_ints (x : Nat) (hx : x < 4294967296) : ((x : Int) / 16777216 = ((UInt8.ofNat (x / 16777216)).toNat : Int)) ∧ ((x : Int) / 65536 % 256 = ((UInt8.ofNat (x / 65536 % 256)).toNat : Int)) ∧ ((x : Int) / 256 % 256 = ((UInt8.ofNat (x / 256 % 256)).toNat : Int)) ∧ ((x : Int) % 256 = ((UInt8.ofNat (x % 256)).toNat : Int)) := by
  refine ⟨?_, ?_, ?_, ?_⟩ <;> rw [UInt8.toNat_ofNat'] <;> omega

theorem bytesOf_take (l : List Nat) (k : Nat) (h : k < l.length) : bytesOf (l.take (k + 1)) = bytesOf (l.take k) ++ four (l.getD k 0) := by
  rw [List.take_add_one, bytesOf_append, List.getElem?_eq_getElem h, List.getD_eq_getElem?_getD, List.getElem?_eq_getElem h]
  simp [bytesOf]

set_option maxRecDepth 100000 in
set_option maxHeartbeats 800000 in
theorem specBytes_any (g c : Nat) (xs : List Nat) (hw : Words xs) (hn : xs.length ≤ 1000000) (w : World) (hc : ∀ j, j < xs.length → w.cell? ⟨g, j, none⟩ = some (.int .u32 (xs.getD j 0 : Nat))) (hg : g < w.heap.size) :
    Calls Tryd.prog 48 #[.slice (some ⟨g, 0, none⟩) xs.length c] w fun e w' => e = .returned (.string ⟨(bytesOf xs).toArray⟩) ∧ Below w.heap.size w w' := by
  obtain ⟨i0, hi, hz0, hz1, hz2⟩ := info_parts infoByteS
  have HC := Lib.hid hc
  clear hc
  obtain ⟨n, hnn, HN⟩ : ∃ n : Nat, n ≤ 1000000 ∧ Hid (n = xs.length) := ⟨_, hn, rfl⟩
  rw [← HN.out]
  go_enter Tryd.func48, Tryd.ntmps48
  go_wp2
  go_loopw [3, 4] (fun v i wr => ∃ k : Nat, k ≤ n ∧ i = .int .i64 (k : Int) ∧ OwnB wr w.heap.size 5 v (bytesOf (xs.take k)) ∧ Below w.heap.size w wr) (fun _ i _ => n - (intOf i).toNat)
  case atStart =>
    exact ⟨0, by omega, rfl, OwnB.lit _ _ _ (Nat.le_refl _), (Below.refl _ _).alloc (Nat.le_refl _) _⟩
  case round =>
    obtain ⟨k, hk, rfl, hown, hnx⟩ := hrel
    have hsz := hnx.size
    have HW := Lib.hid hnx
    have hl : (bytesOf (xs.take k)).length = 4 * k := by rw [bytesOf_length, List.length_take]; have := HN.out; omega
    by_cases hlt : k < n
    · have h1 : (k : Int) < (n : Int) := by omega
      have hck : wr.cell? ⟨g, k, none⟩ = some (.int .u32 (xs.getD k 0 : Nat)) := by rw [hnx.cell (p := ⟨g, k, none⟩) hg]; exact HC.out k (by have := HN.out; omega)
      have hx := hw.at k
      have e3 : bytesOf (xs.take (k + 1)) = bytesOf (xs.take k) ++ four (xs.getD k 0) := bytesOf_take xs k (by have := HN.out; omega)
      have E3 := Lib.hid e3
      clear hnx e3
      generalize xs.getD k 0 = x at hck hx E3
      have Q := Lib.hid (four_ints x hx)
      go_wp2_with (at_builtin; refine wpList_push4 _ rfl _ _ 44 rfl w.heap.size 5 i0 Tryd.underlying44 hi hz0 hz1 hz2 _ _ rfl hown _ _ _ _ _ _ _ _ rfl Q.out.1 Q.out.2.1 Q.out.2.2.1 Q.out.2.2.2 (by omega) hsz ?_)
      intro v' w2 hown2 hnx2
      go_wp2
      go_roundw
      case rel =>
        refine ⟨k + 1, by omega, by go_num, ?_, HW.out.trans hnx2⟩
        rw [E3.out]
        exact hown2
      case measure => simp [intOf]; omega
    · have h1 : ¬ ((k : Int) < (n : Int)) := by omega
      have e2 : xs.take k = xs := List.take_of_length_le (by have := HN.out; omega)
      rw [e2] at hown
      clear e2 hl
      have hcv := run_string_own (P := Tryd.prog) wr 44 9 5 Tryd.underlying44 Tryd.underlying5 Tryd.underlying9 _ hown
      go_wp2
      go_ret
      exact ⟨rfl, HW.out⟩

set_option maxRecDepth 100000 in
set_option maxHeartbeats 800000 in
theorem specK_any (w : World) :
    Calls Tryd.prog 46 #[] w fun e w' => ∃ g c, e = .returned (.slice (some ⟨g, 0, none⟩) 64 c) ∧ g < w'.heap.size ∧ (∀ j, j < 64 → w'.cell? ⟨g, j, none⟩ = some (.int .u32 (kTab.getD j 0 : Nat))) ∧ Below w.heap.size w w' := by
  have h := World.ownsRow_lit (base := w.heap.size) (e := 46) (size := 1) w (wcells kTab).toArray 64 (Nat.le_refl _) (by decide) rfl
  have hown : OwnW (w.alloc (.cells (wcells kTab).toArray 46)) w.heap.size 46 (Value.slice (some ⟨w.heap.size, 0, none⟩) 64 64) kTab := h
  have HO := Lib.hid (hown.cell rfl)
  clear h hown
  go_enter Tryd.func46, Tryd.ntmps46
  go_wp2
  go_ret
  exact ⟨w.heap.size, 64, rfl, by simp, HO.out, (Below.refl _ _).alloc (Nat.le_refl _) _⟩

set_option maxRecDepth 100000 in
set_option maxHeartbeats 800000 in
theorem specFirst_any (w : World) :
    Calls Tryd.prog 49 #[] w fun e w' => ∃ g c, e = .returned (.slice (some ⟨g, 0, none⟩) 8 c) ∧ g < w'.heap.size ∧ (∀ j, j < 8 → w'.cell? ⟨g, j, none⟩ = some (.int .u32 (firstState.getD j 0 : Nat))) ∧ Below w.heap.size w w' := by
  have h := World.ownsRow_lit (base := w.heap.size) (e := 46) (size := 1) w (wcells firstState).toArray 8 (Nat.le_refl _) (by decide) rfl
  have hown : OwnW (w.alloc (.cells (wcells firstState).toArray 46)) w.heap.size 46 (Value.slice (some ⟨w.heap.size, 0, none⟩) 8 8) firstState := h
  have HO := Lib.hid (hown.cell rfl)
  clear h hown
  go_enter Tryd.func49, Tryd.ntmps49
  go_wp2
  go_ret
  exact ⟨w.heap.size, 8, rfl, by simp, HO.out, (Below.refl _ _).alloc (Nat.le_refl _) _⟩

end Go.Proofs.YtogmmilfdolpnamDoor

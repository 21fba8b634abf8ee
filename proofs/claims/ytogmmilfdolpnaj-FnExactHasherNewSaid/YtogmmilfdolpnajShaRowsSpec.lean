/-
  The given rows of words of digests: the words of a text, the bytes of words, the tables.
-/
import Derived.Test.YtogmmilfdolpnajShaWordsSpec
import Derived.Test.YtogmmilfdolpnajRowW
namespace Go.Proofs.Ytogmmilfdolpnaj
open Go.RowKit

theorem infoWord : (Try.prog.info? 41).map (fun i => (i.zero, i.size, i.bytes)) = some (some (.int .u32 0), 1, 4) := by kernel_rfl
theorem infoByteS : (Try.prog.info? 5).map (fun i => (i.zero, i.size, i.bytes)) = some (some (.int .u8 0), 1, 1) := by kernel_rfl

theorem four_ints (x : Nat) (hx : x < 4294967296) : ((x : Int) / 16777216 = ((UInt8.ofNat (x / 16777216)).toNat : Int)) ∧ ((x : Int) / 65536 % 256 = ((UInt8.ofNat (x / 65536 % 256)).toNat : Int)) ∧ ((x : Int) / 256 % 256 = ((UInt8.ofNat (x / 256 % 256)).toNat : Int)) ∧ ((x : Int) % 256 = ((UInt8.ofNat (x % 256)).toNat : Int)) := by
  refine ⟨?_, ?_, ?_, ?_⟩ <;> rw [UInt8.toNat_ofNat'] <;> omega

theorem bytesOf_take (l : List Nat) (k : Nat) (h : k < l.length) : bytesOf (l.take (k + 1)) = bytesOf (l.take k) ++ four (l.getD k 0) := by
  rw [List.take_add_one, bytesOf_append, List.getElem?_eq_getElem h, List.getD_eq_getElem?_getD, List.getElem?_eq_getElem h]
  simp [bytesOf]

set_option maxRecDepth 100000 in
set_option maxHeartbeats 800000 in
theorem specBytes_any (g c : Nat) (xs : List Nat) (hw : Words xs) (hn : xs.length ≤ 1000000) (w : World) (hc : ∀ j, j < xs.length → w.cell? ⟨g, j, none⟩ = some (.int .u32 (xs.getD j 0 : Nat))) (hg : g < w.heap.size) :
    Calls Try.prog 25 #[.slice (some ⟨g, 0, none⟩) xs.length c] w fun e w' => e = .returned (.string ⟨(bytesOf xs).toArray⟩) ∧ Below w.heap.size w w' := by
  obtain ⟨i0, hi, hz0, hz1, hz2⟩ := info_parts infoByteS
  have HC := Lib.hid hc
  clear hc
  obtain ⟨n, hnn, HN⟩ : ∃ n : Nat, n ≤ 1000000 ∧ Hid (n = xs.length) := ⟨_, hn, rfl⟩
  rw [← HN.out]
  go_enter Try.func25, Try.ntmps25
  go_wp2
  go_loopw [3, 4] (fun v i wr => ∃ k : Nat, k ≤ n ∧ i = .int .i64 (k : Int) ∧ OwnB wr w.heap.size 5 v (bytesOf (xs.take k)) ∧ Below w.heap.size w wr) (fun _ i _ => n - (intOf i).toNat)
  case atStart =>
    exact ⟨0, by omega, rfl, OwnB.lit _ _ _ (Nat.le_refl _), (Below.refl _ _).alloc (Nat.le_refl _) _⟩
  case round =>
    obtain ⟨k, hk, rfl, hown, hnx⟩ := hrel
    have hsz := hnx.size
    have HW := Lib.hid hnx
    have hl : (bytesOf (xs.take k)).length = 4 * k := by rw [bytesOf_length, List.length_take]; have := HN.out; omega
    by_cases hlt : k < n
    · have h1 : (k : Int) < (n : Int) := by omega
      have hck : wr.cell? ⟨g, k, none⟩ = some (.int .u32 (xs.getD k 0 : Nat)) := by rw [hnx.cell (p := ⟨g, k, none⟩) hg]; exact HC.out k (by have := HN.out; omega)
      have hx := hw.at k
      have e3 : bytesOf (xs.take (k + 1)) = bytesOf (xs.take k) ++ four (xs.getD k 0) := bytesOf_take xs k (by have := HN.out; omega)
      have E3 := Lib.hid e3
      clear hnx e3
      generalize xs.getD k 0 = x at hck hx E3
      have Q := Lib.hid (four_ints x hx)
      go_wp2_with (at_builtin; refine wpList_push4 _ rfl _ _ 39 rfl w.heap.size 5 i0 Try.underlying39 hi hz0 hz1 hz2 _ _ rfl hown _ _ _ _ _ _ _ _ rfl Q.out.1 Q.out.2.1 Q.out.2.2.1 Q.out.2.2.2 (by omega) hsz ?_)
      intro v' w2 hown2 hnx2
      go_wp2
      go_roundw
      case rel =>
        refine ⟨k + 1, by omega, by go_num, ?_, HW.out.trans hnx2⟩
        rw [E3.out]
        exact hown2
      case measure => simp [intOf]; omega
    · have h1 : ¬ ((k : Int) < (n : Int)) := by omega
      have e2 : xs.take k = xs := List.take_of_length_le (by have := HN.out; omega)
      rw [e2] at hown
      clear e2 hl
      have hcv := run_string_own (P := Try.prog) wr 39 9 5 Try.underlying39 Try.underlying5 Try.underlying9 _ hown
      go_wp2
      go_ret
      exact ⟨rfl, HW.out⟩

set_option maxRecDepth 100000 in
set_option maxHeartbeats 800000 in
theorem specFirst_any (w : World) :
    Calls Try.prog 26 #[] w fun e w' => ∃ g c, e = .returned (.slice (some ⟨g, 0, none⟩) 8 c) ∧ g < w'.heap.size ∧ (∀ j, j < 8 → w'.cell? ⟨g, j, none⟩ = some (.int .u32 (firstState.getD j 0 : Nat))) ∧ Below w.heap.size w w' := by
  have h := World.ownsRow_lit (base := w.heap.size) (e := 41) (size := 1) w (wcells firstState).toArray 8 (Nat.le_refl _) (by decide) rfl
  have hown : OwnW (w.alloc (.cells (wcells firstState).toArray 41)) w.heap.size 41 (Value.slice (some ⟨w.heap.size, 0, none⟩) 8 8) firstState := h
  have HO := Lib.hid (hown.cell rfl)
  clear h hown
  go_enter Try.func26, Try.ntmps26
  go_wp2
  go_ret
  exact ⟨w.heap.size, 8, rfl, by simp, HO.out, (Below.refl _ _).alloc (Nat.le_refl _) _⟩

end Go.Proofs.Ytogmmilfdolpnaj

/-
  The program's exclusive or of two texts.
-/
import Derived.Test.YtogmmilfdolpnaaDoorRows
import Derived.Test.YtogmmilfdolpnaaDoorPlainAll
import Derived.Test.YtogmmilfdolpnaaDoorPlainCur
import Derived.Test.YtogmmilfdolpnaaDoorXorByte
import Derived.Test.YtogmmilfdolpnaaDoorKit
import Derived.Lib.ConvBytes
import Derived.Deep.RegionHeld3
import Derived.BigQuiet
import Derived.Deep.QuietTactic
import Derived.Deep.LoopGhost
import Derived.Deep.DeepCutAuto
namespace Go.Proofs.YtogmmilfdolpnaaDoor
open Go.RowKit

/-- A row of bytes in block g: its cells, none of them barred. -/
structure RowB (g : Nat) (l : List UInt8) (X : World) : Prop where
  cell : ∀ j, j < l.length → X.cell? ⟨g, j, none⟩ = some (.int .u8 ((l.getD j 0).toNat : Nat))
  free : ∀ j, j < l.length → X.frozen? ⟨g, j, none⟩ = false
theorem RowB.set {g : Nat} {l : List UInt8} {X : World} (h : RowB g l X) (k : Nat) (hk : k < l.length) (b : UInt8) : RowB g (l.set k b) (X.setCell ⟨g, k, none⟩ (.int .u8 (b.toNat : Nat))) := by
  refine ⟨fun j hj => ?_, fun j hj => ?_⟩
  · rw [List.length_set] at hj
    by_cases hjk : k = j
    · subst hjk
      rw [set_on _ _ _ _ _ (h.cell k hk), List.getD_eq_getElem?_getD, List.getElem?_set_self hk]
      rfl
    · rw [set_off _ _ _ _ _ hjk, h.cell j hj, List.getD_eq_getElem?_getD, List.getD_eq_getElem?_getD, List.getElem?_set_ne hjk]
  · rw [List.length_set] at hj
    rw [World.frozen?_setCell]
    exact h.free j hj
theorem RowB.drew {g : Nat} {l : List UInt8} {X : World} (h : RowB g l X) : RowB g l X.drew := ⟨h.cell, h.free⟩
theorem RowB.back {g : Nat} {l : List UInt8} {X : World} (h : RowB g l X) (n cap : Nat) (hn : l.length = n) : (convert 22 9 (.slice (some ⟨g, 0, none⟩) n cap)).run Tryd.prog X = .ok (.string ⟨l.toArray⟩) X := by
  subst hn
  refine run_convert_bytes_back (P := Tryd.prog) X 22 9 5 ⟨g, 0, none⟩ cap l Tryd.underlying22 Tryd.underlying5 Tryd.underlying9 (fun j hj => ?_)
  have e : (⟨g, 0, none⟩ : Addr).add j = ⟨g, j, none⟩ := by unfold Addr.add; split <;> simp_all
  rw [e, h.cell j hj, List.getD_eq_getElem?_getD, List.getElem?_eq_getElem hj]
  rfl
/-- '[]byte(t)': a row of its own that holds t's bytes. -/
theorem bytes_text (w : World) (t : ByteArray) : ∃ (cp : Nat) (w' : World), (convert 9 22 (.string t)).run Tryd.prog w = .ok (.slice (some ⟨w.heap.size, 0, none⟩) t.size cp) w' ∧ Below w.heap.size w w' ∧ RowB w.heap.size t.data.toList w' := by
  have hl : t.data.toList.length = t.size := by simp
  refine ⟨_, _, Lib.run_convert_string_bytes w 9 22 5 t Tryd.underlying9 Tryd.underlying22 Tryd.underlying5, ⟨rfl, rfl, rfl, by rw [Lib.bytesWorld_size]; omega, fun k hk => Lib.bytesWorld_at_old w _ t k hk⟩, fun j hj => Lib.bytesWorld_cell w _ t j (by omega), fun j hj => ?_⟩
  have h := Lib.bytesWorld_at_new w 5 t
  have hz : t.size ≤ (Lib.bytesCells w 5 t).size := by simp [Lib.bytesCells]
  unfold World.frozen?
  rw [h]
  simp
  omega
set_option maxRecDepth 100000 in
set_option maxHeartbeats 1600000 in
theorem exclusiveOr_any (t y : ByteArray) (hz : t.size ≤ 1000000000) (hy : t.size ≤ y.size) (w : World) :
    Calls Tryd.prog 86 #[.string t, .string y] w fun e w' => e = .returned (.string ⟨(xorUp t.data.toList y.data.toList t.size).toArray⟩) ∧ Below w.heap.size w w' := by
  obtain ⟨cp, w1, hcv, hb1, hr1⟩ := bytes_text w t
  have htl : t.data.toList.length = t.size := by simp
  have HB1 := Lib.hid hb1
  have HR1 := Lib.hid hr1
  clear hb1 hr1
  go_enter Tryd.func86, Tryd.ntmps86
  go_wp2_with fail
  clear hcv
  go_loopw [11] (fun i wr => ∃ n : Nat, n ≤ t.size ∧ i = .int .i64 (n : Int) ∧ RowB w.heap.size (xorUp t.data.toList y.data.toList n) wr ∧ Below w.heap.size w wr) (fun i _ => t.size - (intOf i).toNat)
  case atStart =>
    exact ⟨0, by omega, rfl, HR1.out, HB1.out⟩
  case round =>
    obtain ⟨n, hn, rfl, hrow, hnx⟩ := hrel
    have HN := Lib.hid hnx
    have hl := xorUp_length t.data.toList y.data.toList n (by omega)
    by_cases hlt : (n : Int) < (t.size : Int)
    · have c0 := hrow.cell n (by omega)
      have f0 := hrow.free n (by omega)
      rw [xorUp_at _ _ n] at c0
      obtain ⟨a, AA⟩ : ∃ b : UInt8, Hid (b = t.data.toList.getD n 0) := ⟨_, rfl⟩
      obtain ⟨b, BB⟩ : ∃ b : UInt8, Hid (b = y.data.toList.getD n 0) := ⟨_, rfl⟩
      rw [← AA.out] at c0
      have hyn : (n : Int) < (y.size : Int) := by omega
      have hnz : (n : Int) < 1000000000 := by omega
      have hb : (y[n]'(by omega)) = b := by rw [BB.out]; exact text_byte y n (by omega)
      obtain ⟨x, hx, X⟩ : ∃ x : Nat, bits .xor .u8 (a.toNat : Int) (b.toNat : Int) = (x : Int) ∧ Hid (x = (a ^^^ b).toNat) := ⟨_, xor_bytes a b, rfl⟩
      have HR : Hid (RowB w.heap.size (xorUp t.data.toList y.data.toList (n + 1)) (wr.setCell ⟨w.heap.size, n, none⟩ (.int .u8 (x : Int)))) := by
        rw [X.out, ← xorUp_set _ _ n (by omega), ← AA.out, ← BB.out]
        exact hrow.set n (by omega) (a ^^^ b)
      clear hrow hnx
      go_wp2_with fail
      go_region
      all_goals
        go_wp2_with fail
        go_roundw
        case rel => exact ⟨n + 1, by omega, by go_num, HR.out.drew, (HN.out.setCell (p := ⟨w.heap.size, n, none⟩) (Nat.le_refl _) _).drew⟩
        case measure => simp [intOf]; omega
    · have hnt : n = t.size := by omega
      subst hnt
      have hrd := hrow.back t.size cp (by omega)
      clear hrow hnx
      go_wp2_with fail
      go_ret
      exact ⟨rfl, HN.out⟩

end Go.Proofs.YtogmmilfdolpnaaDoor

/-
  The program's helper that tells what each figure is worth, at every text of at most 1048576 bytes and every base up to 16.
-/
import Derived.Test.YtmmippdommemmanDoorRows
import Derived.Test.YtmmippdommemmanDoorKit
import Derived.Test.YtmmippdommemmanDoorPlainAll
import Derived.BigQuiet
import Derived.Deep.QuietTactic
import Derived.Deep.LoopGhost
import Derived.Deep.DeepCutAuto
namespace Go.Proofs.YtmmippdommemmanDoor
open Go.RowKit

theorem infoByteW : (Tryd.prog.info? 5).map (fun i => (i.zero, i.size, i.bytes)) = some (some (.int .u8 0), 1, 1) := by kernel_rfl

/-- The value of the worths, and its cells. -/
theorem worths_form {w : World} {base : Nat} {v : Value} {qs : List Nat} (hq : ∀ q ∈ qs, q < 16) (h : OwnB w base 5 v (bytesOf qs)) : ∃ ao cap, v = .slice ao qs.length cap ∧
    (0 < qs.length → ∃ g, ao = some ⟨g, 0, none⟩ ∧ g < w.heap.size ∧ ∀ j, j < qs.length → w.cell? ⟨g, j, none⟩ = some (.int .u8 ((qs.getD j 0 : Nat) : Int)) ∧ qs.getD j 0 < 16) := by
  obtain ⟨ao, cap, hv, hc⟩ := h.form
  rw [bytesOf_length] at hv hc
  refine ⟨ao, cap, hv, fun hp => ?_⟩
  obtain ⟨g, h1, h2, h3⟩ := hc hp
  refine ⟨g, h1, h2, fun j hj => ?_⟩
  have hm : qs.getD j 0 < 16 := by
    rw [List.getD_eq_getElem?_getD, List.getElem?_eq_getElem hj]
    exact hq _ (List.getElem_mem hj)
  refine ⟨?_, hm⟩
  rw [h3 j hj]
  have e : (bytesOf qs).getD j 0 = UInt8.ofNat (qs.getD j 0) := by simp [bytesOf, hj]
  rw [e, ← ofNat_int _ (by omega)]

end Go.Proofs.YtmmippdommemmanDoor

/-
  What the library gives chapter 8's readers, in worlds that hold its tables, and its bound on short texts whatever it is.
-/
import Derived.Test.YtmmippdommemmaoDoorDecTab
import Derived.Test.YtmmippdommemmaoDoorReadPrefImpl
import Derived.Test.YtmmippdommemmaoDoorShelf
import Derived.Shelf.LaysM
namespace Go.Proofs.YtmmippdommemmaoDoor
open Go.RowKit

/-- The table of powers of ten lies as it is laid, and the bound is a number. -/
structure LaidA (w : World) : Prop where
  tab : LaidT w
  max : ∃ m : Int, w.cell? ⟨0, 0, none⟩ = some (.int .i64 m)
theorem LaidA.all : ∀ X Y : World, LaidA X → Below X.heap.size X Y → LaidA Y := fun X Y h hb => ⟨h.tab.stays hb, by
  obtain ⟨m, hm⟩ := h.max
  exact ⟨m, by rw [hb.cell (p := ⟨0, 0, none⟩) (World.block_lt_of_cell? _ _ hm)]; exact hm⟩⟩
theorem max_of {w : World} (h : w.ShapedOpen Tryd.prog) : ∃ m : Int, w.cell? ⟨0, 0, none⟩ = some (.int .i64 m) :=
  Go.Proofs.cell_of_shapedOpen_int (zero := #[.int .i64 0]) (t := 3) h (of_decide_eq_true (by kernel_rfl)) (by kernel_rfl) rfl (by kernel_rfl) (by kernel_rfl) Tryd.underlying3
theorem cells_part (ps : List ByteArray) (N j : Nat) (x : ByteArray) (h : ps[j]? = some x) : (Lib.cellsOf ps N)[j]? = some (.string x) := by
  have hj : j < ps.length := by
    rcases Nat.lt_or_ge j ps.length with h1 | h1
    · exact h1
    · rw [List.getElem?_eq_none h1] at h
      cases h
  unfold Lib.cellsOf
  rw [List.getElem?_toArray, List.getElem?_append_left (by simpa using hj), List.getElem?_map, h]
  rfl
theorem decGivesA : DecGives LaidA := ⟨LaidA.all, fun n hn X hX => by
  have h := implDecimal_any (n : Int) (by omega) (by omega) X hX.tab
  rw [Lib.itoa_nonneg] at h
  exact h⟩
theorem splitGives : SplitGives LaidA := ⟨decGivesA, fun s hs X hX => by
  obtain ⟨m, hm⟩ := hX.max
  refine (Tryd.strings_SplitN s ⟨#[46]⟩ 5 m X (by omega) hm (by decide) (by decide) (by decide)).mono ?_
  rintro e Y ⟨rfl, rfl⟩
  obtain ⟨h5, hy, hn⟩ := split_five 46 s
  refine ⟨_, _, rfl, (Below.refl _ _).alloc (Nat.le_refl _) _, by simp, fun j x hx => ?_, h5, fun h4 => hy (hn h4), fun h4 h => h4 ?_⟩
  · rw [World.cell?_alloc_at _ _ _ _ rfl]
    exact cells_part _ _ j x hx
  · have := congrArg List.length (hy h)
    rw [List.length_map, h] at this
    exact this⟩
theorem cutGives : CutGives LaidA := ⟨splitGives, fun s hs X hX => by
  obtain ⟨m, hm⟩ := hX.max
  refine (Tryd.strings_Cut s ⟨#[47]⟩ m X (by omega) hm).mono ?_
  rintro e Y ⟨rfl, k, rfl⟩
  exact ⟨⟨_, rfl⟩, below_drewN (Below.refl _ _) k⟩⟩
theorem implReadAddr_yes (a : Nat) (ha : a ≤ 4294967295) (w : World) (hw : LaidA w) :
    Calls Tryd.prog 12 #[.string (addrP a)] w fun e w' => e = .returned (.tuple #[.int .i64 (a : Nat), .bool true]) ∧ Below w.heap.size w w' := implReadAddr_yesL LaidA splitGives a ha w hw
theorem implReadAddr_no (s : ByteArray) (hs : s.size ≤ 1048576) (h : ∀ a, a ≤ 4294967295 → s.data.toList ≠ addrL a) (w : World) (hw : LaidA w) :
    Calls Tryd.prog 12 #[.string s] w fun e w' => e = .returned (.tuple #[.int .i64 0, .bool false]) ∧ Below w.heap.size w w' := implReadAddr_noL LaidA splitGives s hs h w hw
theorem implReadPrefix_yes (a n : Nat) (h : PrefOk a n) (w : World) (hw : LaidA w) :
    Calls Tryd.prog 5 #[.string (prefP a n)] w fun e w' => e = .returned (.tuple #[.agg #[.int .i64 (a : Nat), .int .i64 (n : Nat)], .bool true]) ∧ Below w.heap.size w w' := implReadPrefix_yesL LaidA cutGives a n h w hw
theorem implReadPrefix_no (s : ByteArray) (hs : s.size ≤ 1048576) (h : ∀ a n : Nat, PrefOk a n → s.data.toList ≠ prefL a n) (w : World) (hw : LaidA w) :
    Calls Tryd.prog 5 #[.string s] w fun e w' => e = .returned (.tuple #[.agg #[.int .i64 0, .int .i64 0], .bool false]) ∧ Below w.heap.size w w' := implReadPrefix_noL LaidA cutGives s hs h w hw

end Go.Proofs.YtmmippdommemmaoDoor

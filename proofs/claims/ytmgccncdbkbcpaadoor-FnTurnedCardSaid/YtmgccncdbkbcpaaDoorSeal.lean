/-
  The program's Sealed and Unsealed, and the given ones, by what they answer.
-/
import Derived.Test.YtmgccncdbkbcpaaDoorSumImpl
import Derived.Test.YtmgccncdbkbcpaaDoorSumSpec
import Derived.Test.YtmgccncdbkbcpaaDoorSealWord
namespace Go.Proofs.YtmgccncdbkbcpaaDoor
open Go.RowKit

/-- A text and its sum, in bytes. -/
def sealedOf (l : List UInt8) : List UInt8 := l ++ four (sumL 4294967295 l)
theorem sealedOf_lt (l : List UInt8) : sumL 4294967295 l < 4294967296 := sumL_lt l _ (by omega)

theorem join_text (s : ByteArray) (l : List UInt8) : s ++ (⟨l.toArray⟩ : ByteArray) = ⟨(s.data.toList ++ l).toArray⟩ := by
  apply ByteArray.ext
  simp

theorem implSealed_no (s : ByteArray) (hs : 20000 < s.size) (w : World) :
    Calls Tryd.prog 18 #[.string s] w fun e w' => e = .returned (.tuple #[.string ⟨#[]⟩, .bool false]) ∧ Below w.heap.size w w' := by
  have h1 : 20000 < (s.size : Int) := by omega
  go_enter Tryd.func18, Tryd.ntmps18
  go_wp2
  go_ret2
  exact ⟨rfl, Below.refl _ _⟩

set_option maxRecDepth 100000 in
set_option maxHeartbeats 400000 in
theorem implSealed_yes (s : ByteArray) (hs : s.size ≤ 20000) (w : World) (ht : Laid w) :
    Calls Tryd.prog 18 #[.string s] w fun e w' => e = .returned (.tuple #[.string ⟨(sealedOf s.data.toList).toArray⟩, .bool true]) ∧ Below w.heap.size w w' := by
  have h1 : ¬ 20000 < (s.size : Int) := by omega
  have h2 : ¬ 9223372036854775807 < s.size + (four (sumL 4294967295 s.data.toList)).length := by rw [four_length]; omega
  have H1 := Lib.hid (implSumOf_any s (by omega) w ht)
  have H2 := Lib.hid (wordText_any (sumL 4294967295 s.data.toList) (sealedOf_lt _))
  clear ht
  go_enter Tryd.func18, Tryd.ntmps18
  go_wp2_with fail
  refine (H1.out).mono ?_
  rintro e w1 ⟨rfl, rfl⟩
  go_wp2_with fail
  refine (H2.out _).mono ?_
  rintro e w2 ⟨rfl, hb⟩
  go_wp2
  go_ret2
  exact ⟨by rw [join_text]; rfl, hb⟩

end Go.Proofs.YtmgccncdbkbcpaaDoor

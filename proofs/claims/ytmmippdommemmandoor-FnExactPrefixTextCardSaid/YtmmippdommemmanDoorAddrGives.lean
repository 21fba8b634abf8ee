/-
  What the library gives chapter 8's functions, in worlds that hold its tables.
-/
import Derived.Test.YtmmippdommemmanDoorDecTab
import Derived.Test.YtmmippdommemmanDoorAddrTextImpl
import Derived.Test.YtmmippdommemmanDoorShelf
namespace Go.Proofs.YtmmippdommemmanDoor
open Go.RowKit

theorem decGives : DecGives LaidT := ⟨LaidT.all, fun n hn X hX => by
  have h := implDecimal_any (n : Int) (by omega) (by omega) X hX
  rw [Lib.itoa_nonneg] at h
  exact h⟩
theorem joinGives : JoinGives LaidT := ⟨decGives, fun g c xs hc hl hj X hx hg => by
  have h := Tryd.strings_Join g 0 c xs ⟨#[46]⟩ X (fun j x hxj => by rw [Nat.zero_add]; exact hx j x hxj) hg (by omega) hc (by
    show (Lib.join (xs.map (·.data.toList)) [46]).length ≤ _
    omega)
  exact h⟩
theorem implAddrText_yes (a : Nat) (ha : a ≤ 4294967295) (w : World) (hw : LaidT w) :
    Calls Tryd.prog 7 #[.int .i64 a] w fun e w' => e = .returned (.string (addrP a)) ∧ Below w.heap.size w w' := implAddrText_yesL LaidT joinGives a ha w hw
theorem implPrefixText_yes (a n : Nat) (h : PrefOk a n) (w : World) (hw : LaidT w) :
    Calls Tryd.prog 12 #[.agg #[.int .i64 a, .int .i64 n]] w fun e w' => e = .returned (.tuple #[.string (prefP a n), .bool true]) ∧ Below w.heap.size w w' := implPrefixText_yesL LaidT joinGives a n h w hw

end Go.Proofs.YtmmippdommemmanDoor

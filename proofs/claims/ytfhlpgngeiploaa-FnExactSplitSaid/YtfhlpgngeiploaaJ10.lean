/-
  The library's contracts laid at this translation, in plain words: each is one application.
  What the library's Clone gives.
  The program's ReadPart and Split.
  The exact laws on ReadPart and Split, out of one answer that both give.
  The exact laws on ReadPart and Split, at every argument.
-/
import Derived.Shelf.LaysM
import Derived.Shelf.Strconv.Clone
import Derived.Test.YtfhlpgngeiploaaProg
import Derived.Test.YtfhlpgngeiploaaJ09
import Derived.Test.YtfhlpgngeiploaaJ08
namespace Go.Proofs
open Go.Shelf
end Go.Proofs
namespace Go.Proofs.Ytfhlpgngeiploaa
open Go.RowKit

end Go.Proofs.Ytfhlpgngeiploaa
namespace Go.Proofs.Ytfhlpgngeiploaa
open Go.RowKit

end Go.Proofs.Ytfhlpgngeiploaa
namespace Go.Proofs.Ytfhlpgngeiploaa
open Go.RowKit

/-- What Split hands back. -/
def PiecesEnd (out : List ByteArray) (ok : Bool) (w : World) (e : Ending) (w' : World) : Prop := ∃ v f, e = .returned (.tuple #[v, .bool ok]) ∧ f.Nodup ∧ layStringS.own w' w.heap.size f [v] out ∧ Below w.heap.size w w'

set_option maxRecDepth 100000 in
set_option maxHeartbeats 3200000 in
theorem lawSplitF (id : Int) (s : ByteArray) (size : Int) (out : List ByteArray) (ok : Bool) (hl : out.length ≤ 1000)
    (hI : s.size ≤ 1048576 → ∀ X : World, Calls Try.prog 9 #[.int .i64 id, .string s, .int .i64 size] X (PiecesEnd out ok X))
    (hS : s.size ≤ 1048576 → ∀ X : World, Calls Try.prog 10 #[.int .i64 id, .string s, .int .i64 size] X (PiecesEnd out ok X)) (w : World) :
    Calls Try.prog 5 #[.int .i64 id, .string s, .int .i64 size] w fun e w' => e = .returned (.bool true) ∧ Below w.heap.size w w' := by
  have hbb : (ok != ok) = false := by cases ok <;> rfl
  go_enter Try.func5, Try.ntmps5
  by_cases hs : s.size ≤ 1048576
  rotate_left
  · have hs' : (1048576 : Int) < (s.size : Int) := by omega
    go_wp2_with fail
    go_ret
    exact ⟨rfl, Below.refl _ _⟩
  have hs' : ¬ ((1048576 : Int) < (s.size : Int)) := by omega
  have HI := Lib.hid (hI hs)
  have HS := Lib.hid (hS hs)
  clear hI hS hs
  go_wp2_with fail
  refine (HS.out w).mono ?_
  rintro e Y1 ⟨v1, f1, rfl, _, o1, hb⟩
  obtain ⟨wa, wk, rfl⟩ := rows_form (layStringS.read o1)
  have O1 := Lib.hid o1
  have B1 := Lib.hid hb
  clear o1 hb
  go_wp2_with fail
  refine (HI.out Y1).mono ?_
  rintro e Y2 ⟨v2, f2, rfl, hd2, o2, hb⟩
  obtain ⟨ga, gk, rfl⟩ := rows_form (layStringS.read o2)
  have hlo : ∀ a ∈ f2, a ∉ f1 := fun a ha h1 => by
    have h5 := (layStringS.blocks o2 a ha).1
    have h6 := (layStringS.blocks O1.out a h1).2
    omega
  have hlw : ∀ a ∈ f2, w.heap.size ≤ a := fun a ha => by
    have h5 := (layStringS.blocks o2 a ha).1
    have h6 := B1.out.size
    omega
  have O2 := Lib.hid o2
  replace O1 := Lib.hid (layStringS.next O1.out hb)
  have B2 := Lib.hid (B1.out.trans (hb.mono B1.out.size))
  clear hb o2 B1
  have K := Lib.hid (eqStringS_same _ _ out (by omega) Y2 (layStringS.read O2.out) (layStringS.read O1.out))
  go_wp2_with fail
  refine (K.out).mono ?_
  rintro e Y3 ⟨rfl, hb⟩
  replace O1 := Lib.hid (layStringS.next O1.out hb)
  replace O2 := Lib.hid (layStringS.next O2.out hb)
  replace B2 := Lib.hid (B2.out.trans (hb.mono B2.out.size))
  clear hb K
  have K := Lib.hid (markStringS_any _ out Y1.heap.size f2 1 (by omega) (by omega) (by omega) Y3 hd2 O2.out)
  go_wp2_with fail
  refine (K.out).mono ?_
  rintro e Y4 ⟨rfl, om, hc⟩
  replace O1 := Lib.hid (layStringS.chg O1.out hc (fun a h1 ha => hlo a ha h1))
  have OM := Lib.hid om
  replace B2 := Lib.hid (B2.out.trans (hc.below hlw B2.out.size))
  clear om hc K O2 hlo hlw
  obtain ⟨mg, HMG⟩ : ∃ mg : Int, Hid (mg = 1 + 1 * (out.length : Int)) := ⟨_, Lib.hid rfl⟩
  have hk2 : ¬ (mg < 0) := by have := HMG.out; omega
  rw [← HMG.out]
  have K := Lib.hid (heldStringS_any _ out 1 (by omega) (by omega) (by omega) Y4 (layStringS.read OM.out))
  rw [← HMG.out] at K
  go_wp2_with fail
  refine (K.out).mono ?_
  rintro e Y5 ⟨rfl, hb⟩
  replace O1 := Lib.hid (layStringS.next O1.out hb)
  replace OM := Lib.hid (layStringS.next OM.out hb)
  replace B2 := Lib.hid (B2.out.trans (hb.mono B2.out.size))
  clear hb K
  go_wp2_with fail
  refine (HI.out Y5).mono ?_
  rintro e Y6 ⟨v3, f3, rfl, _, o3, hb⟩
  obtain ⟨ha, hk, rfl⟩ := rows_form (layStringS.read o3)
  replace O1 := Lib.hid (layStringS.next O1.out hb)
  replace OM := Lib.hid (layStringS.next OM.out hb)
  replace B2 := Lib.hid (B2.out.trans (hb.mono B2.out.size))
  have K := Lib.hid (eqStringS_same _ _ out (by omega) Y6 (layStringS.read o3) (layStringS.read O1.out))
  clear hb o3
  go_wp2_with fail
  refine (K.out).mono ?_
  rintro e Y7 ⟨rfl, hb⟩
  replace OM := Lib.hid (layStringS.next OM.out hb)
  replace B2 := Lib.hid (B2.out.trans (hb.mono B2.out.size))
  clear hb K
  have K := Lib.hid (heldStringS_any _ out 1 (by omega) (by omega) (by omega) Y7 (layStringS.read OM.out))
  rw [← HMG.out] at K
  go_wp2_with fail
  refine (K.out).mono ?_
  rintro e Y8 ⟨rfl, hb⟩
  replace B2 := Lib.hid (B2.out.trans (hb.mono B2.out.size))
  clear hb K
  go_wp2_with fail
  go_ret
  exact ⟨rfl, B2.out⟩

end Go.Proofs.Ytfhlpgngeiploaa
namespace Go.Proofs.Ytfhlpgngeiploaa
open Go.RowKit

theorem splitIs_few {id : Int} {s : ByteArray} {size : Int} {out : List ByteArray} {ok : Bool} (h : SplitIs id s size out ok) : out.length ≤ 1000 := by
  rcases h with ⟨_, h, rfl⟩ | ⟨_, _, rfl⟩
  · rw [partsP_length]
    have := (count_few (n := s.size) (size := size.toNat) h.2.2 (by have := h.2.1; omega)).2
    omega
  · exact Nat.zero_le _
theorem lawSplit (id : Int) (s : ByteArray) (size : Int) (w : World) :
    Calls Try.prog 5 #[.int .i64 id, .string s, .int .i64 size] w fun e w' => e = .returned (.bool true) ∧ Below w.heap.size w w' := by
  obtain ⟨out, ok, h⟩ := split_is id s size
  exact lawSplitF id s size out ok (splitIs_few h) (fun hz X => implPieces_any id s size out ok h (by omega) X) (fun hz X => specPieces_any id s size out ok h (by omega) X) w

end Go.Proofs.Ytfhlpgngeiploaa

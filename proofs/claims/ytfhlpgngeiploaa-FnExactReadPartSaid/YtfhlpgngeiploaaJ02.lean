/-
  The program's ReadPart.
  The library's contracts laid at this translation, in plain words: each is one application.
  What the library's Clone gives.
  The program's ReadPart and Split.
  The exact laws on ReadPart and Split, out of one answer that both give.
  The exact laws on ReadPart and Split, at every argument.
-/
import Derived.Test.YtfhlpgngeiploaaJ01
import Derived.Shelf.LaysM
import Derived.Shelf.Strconv.Clone
import Derived.Test.YtfhlpgngeiploaaProg
namespace Go.Proofs.Ytfhlpgngeiploaa
open Go.RowKit

set_option maxRecDepth 100000 in
set_option maxHeartbeats 1600000 in
theorem implReadPart_of (HG : CloneGives) (t : ByteArray) (id place count : Int) (part : ByteArray) (ok : Bool) (hz : t.size ≤ 1048576) (h : ReadPartIs t id place count part ok) (w : World) :
    Calls Try.prog 13 #[.string t] w fun e w' => e = .returned (.tuple #[.int .i64 id, .int .i64 place, .int .i64 count, .string part, .bool ok]) ∧ Below w.heap.size w w' := by
  obtain ⟨Q, HQ⟩ : ∃ Q : Ending → World → Prop, Hid (Q = fun e w' => e = .returned (.tuple #[.int .i64 id, .int .i64 place, .int .i64 count, .string part, .bool ok]) ∧ Below w.heap.size w w') := ⟨_, Lib.hid rfl⟩
  rw [← HQ.out]
  go_enter Try.func13, Try.ntmps13
  by_cases h3 : 3 ≤ t.size
  rotate_left
  · obtain ⟨rfl, rfl, rfl, rfl, rfl⟩ : ok = false ∧ id = 0 ∧ place = 0 ∧ count = 0 ∧ part = ⟨#[]⟩ := by
      rcases h with ⟨_, h, _⟩ | ⟨h1, _, h2, h3, h4, h5⟩
      · exact absurd h.1 h3
      · exact ⟨h1, h2, h3, h4, h5⟩
    have h3' : (t.size : Int) < 3 := by omega
    clear h h3
    go_wp2_with fail
    exact bodyPost_ret (v := .tuple #[.int .i64 0, .int .i64 0, .int .i64 0, .string ⟨#[]⟩, .bool false]) (by simp [results, Try.results13, go_sem]) rfl (by rw [HQ.out]; exact ⟨rfl, Below.refl _ _⟩)
  have h3' : ¬ ((t.size : Int) < 3) := by omega
  have i0 : (0 : Int) < (t.size : Int) := by omega
  have i1 : (1 : Int) < (t.size : Int) := by omega
  have i2 : (2 : Int) < (t.size : Int) := by omega
  have z3 : (3 : Int) ≤ (t.size : Int) := by omega
  have B0 := byte_is t 0 (by omega)
  have B1 := byte_is t 1 (by omega)
  have B2 := byte_is t 2 (by omega)
  obtain ⟨x0, hx0⟩ : ∃ x : UInt8, t[0]'(by omega) = x := ⟨_, rfl⟩
  obtain ⟨x1, hx1⟩ : ∃ x : UInt8, t[1]'(by omega) = x := ⟨_, rfl⟩
  obtain ⟨x2, hx2⟩ : ∃ x : UInt8, t[2]'(by omega) = x := ⟨_, rfl⟩
  rw [hx0] at B0
  rw [hx1] at B1
  rw [hx2] at B2
  have l0 := x0.toNat_lt
  have l1 := x1.toNat_lt
  have l2 := x2.toNat_lt
  have w0 : IntKind.i64.wrap (x0.toNat : Int) = (x0.toNat : Int) := by rw [IntKind.wrap_i64]; omega
  have w1 : IntKind.i64.wrap (x1.toNat : Int) = (x1.toNat : Int) := by rw [IntKind.wrap_i64]; omega
  have w2 : IntKind.i64.wrap (x2.toNat : Int) = (x2.toNat : Int) := by rw [IntKind.wrap_i64]; omega
  by_cases h2 : x2.toNat ≤ 15
  rotate_left
  · obtain ⟨rfl, rfl, rfl, rfl, rfl⟩ : ok = false ∧ id = 0 ∧ place = 0 ∧ count = 0 ∧ part = ⟨#[]⟩ := by
      rcases h with ⟨_, h, _⟩ | ⟨h1, _, h2, h3, h4, h5⟩
      · exact absurd (by rw [B2]; exact h.2.1.2) h2
      · exact ⟨h1, h2, h3, h4, h5⟩
    have k2 : decide ((15 : Int) < (x2.toNat : Int)) = true := decide_eq_true (by omega)
    have k2' : (15 : Int) < (x2.toNat : Int) := by omega
    clear h h2 B0 B1 B2 w0 w1
    go_wp2_with fail
    go_quiet (fail)
    go_wp2_with fail
    exact bodyPost_ret (v := .tuple #[.int .i64 0, .int .i64 0, .int .i64 0, .string ⟨#[]⟩, .bool false]) (by simp [results, Try.results13, go_sem]) rfl (by rw [HQ.out]; exact ⟨rfl, below_drewN (Below.refl _ _) _⟩)
  have k2 : decide ((15 : Int) < (x2.toNat : Int)) = false := decide_eq_false (by omega)
  have k2' : ¬ ((15 : Int) < (x2.toNat : Int)) := by omega
  by_cases h1 : x1.toNat < x2.toNat
  rotate_left
  · obtain ⟨rfl, rfl, rfl, rfl, rfl⟩ : ok = false ∧ id = 0 ∧ place = 0 ∧ count = 0 ∧ part = ⟨#[]⟩ := by
      rcases h with ⟨_, h, _⟩ | ⟨h1, _, h2, h3, h4, h5⟩
      · exact absurd (by rw [B1, B2]; exact h.2.2) h1
      · exact ⟨h1, h2, h3, h4, h5⟩
    have h1' : decide ((x2.toNat : Int) ≤ (x1.toNat : Int)) = true := decide_eq_true (by omega)
    have h1'' : (x2.toNat : Int) ≤ (x1.toNat : Int) := by omega
    clear h h2 h1 B0 B1 B2 w0
    go_wp2_with fail
    go_quiet (fail)
    go_wp2_with fail
    exact bodyPost_ret (v := .tuple #[.int .i64 0, .int .i64 0, .int .i64 0, .string ⟨#[]⟩, .bool false]) (by simp [results, Try.results13, go_sem]) rfl (by rw [HQ.out]; exact ⟨rfl, below_drewN (Below.refl _ _) _⟩)
  have h1' : decide ((x2.toNat : Int) ≤ (x1.toNat : Int)) = false := decide_eq_false (by omega)
  have h1'' : ¬ ((x2.toNat : Int) ≤ (x1.toNat : Int)) := by omega
  obtain ⟨rfl, rfl, rfl, rfl, hp⟩ : ok = true ∧ id = (x0.toNat : Int) ∧ place = (x1.toNat : Int) ∧ count = (x2.toNat : Int) ∧ part = t.extract 3 t.size := by
    rcases h with ⟨h1, _, h2, h3, h4, h5⟩ | ⟨_, h, _⟩
    · exact ⟨h1, by rw [B0]; exact h2, by rw [B1]; exact h3, by rw [B2]; exact h4, h5⟩
    · exact absurd ⟨h3, ⟨by rw [← B2]; omega, by rw [← B2]; exact h2⟩, by rw [← B1, ← B2]; exact h1⟩ h
  have E : Hid (∀ X, Below w.heap.size w X → Q (.returned (.tuple #[.int .i64 (x0.toNat : Int), .int .i64 (x1.toNat : Int), .int .i64 (x2.toNat : Int), .string (t.extract 3 t.size), .bool true])) X) := Lib.hid (fun X hX => by
    rw [HQ.out, ← hp]
    exact ⟨rfl, hX⟩)
  have K := Lib.hid (fun X => HG (t.extract 3 t.size) X (by rw [ByteArray.size_extract]; omega))
  clear h h2 h1 B0 B1 B2 hp
  go_wp2_with fail
  go_quiet (fail)
  go_wp2_with fail
  refine (K.out _).mono ?_
  rintro e X1 ⟨rfl, hb⟩
  have HB := Lib.hid (hb.mono (Nat.le_refl _))
  clear hb
  go_wp2_with fail
  exact bodyPost_ret (v := .tuple #[.int .i64 (x0.toNat : Int), .int .i64 (x1.toNat : Int), .int .i64 (x2.toNat : Int), .string (t.extract 3 t.size), .bool true]) (by simp [results, Try.results13, go_sem]) rfl (E.out _ ((below_drewN (Below.refl _ _) _).trans HB.out))

end Go.Proofs.Ytfhlpgngeiploaa
namespace Go.Proofs
open Go.Shelf
def Try.laysM316_ren : Go.Shelf.Ren := ⟨fun | 316 => 52 | n => n, fun | 9 => 9 | 3 => 3 | 4 => 4 | 37 => 22 | 0 => 0 | 127 => 82 | 5 => 5 | n => n, fun | n => n⟩
theorem Try.laysM316 : Go.Proofs.LaysM.n316 Try.prog Try.laysM316_ren := {
  mixed := by kernel_rfl
  f316 := Try.func52.trans (congrArg some (by kernel_rfl))
  t0 := Try.underlying0
  a0 := Try.isAgg0
  z0 := Try.sizeOf0
  v0 := Try.zeroValue0
  t3 := Try.underlying3
  a3 := Try.isAgg3
  z3 := Try.sizeOf3
  v3 := Try.zeroValue3
  t4 := Try.underlying4
  a4 := Try.isAgg4
  z4 := Try.sizeOf4
  v4 := Try.zeroValue4
  t9 := Try.underlying9
  a9 := Try.isAgg9
  z9 := Try.sizeOf9
  v9 := Try.zeroValue9
  t37 := Try.underlying22
  a37 := Try.isAgg22
  z37 := Try.sizeOf22
  v37 := Try.zeroValue22
  t127 := Try.underlying82
  a127 := Try.isAgg82
  z127 := Try.sizeOf82
  v127 := Try.zeroValue82
  t5 := Try.underlying5
  a5 := Try.isAgg5
  z5 := Try.sizeOf5
  v5 := Try.zeroValue5
  i0 := by kernel_rfl
  i3 := by kernel_rfl
  i4 := by kernel_rfl
  i5 := by kernel_rfl
  i9 := by kernel_rfl
  i37 := by kernel_rfl
  i127 := by kernel_rfl }
open Go.RowKit in
theorem Try.stringslite_Clone (s : ByteArray) (w : World) (hlim : s.size ≤ 281474976710656) :
    Calls Try.prog 52 #[.string s] w fun e w' => e = .returned (.string s) ∧ Below w.heap.size w w' := Any.stringslite_Clone Try.laysM316 s w hlim
end Go.Proofs
namespace Go.Proofs.Ytfhlpgngeiploaa
open Go.RowKit

theorem cloneGives : CloneGives := fun s w hs => by
  have H := Lib.hid (fun w => Try.stringslite_Clone s w (by omega))
  go_enter Try.func32, Try.ntmps32
  go_wp2_with fail
  refine (H.out _).mono ?_
  rintro e w1 ⟨rfl, hb1⟩
  go_wp2
  go_ret
  exact ⟨rfl, hb1⟩

end Go.Proofs.Ytfhlpgngeiploaa
namespace Go.Proofs.Ytfhlpgngeiploaa
open Go.RowKit

theorem implReadPart_any (t : ByteArray) (id place count : Int) (part : ByteArray) (ok : Bool) (hz : t.size ≤ 1048576) (h : ReadPartIs t id place count part ok) (w : World) :
    Calls Try.prog 13 #[.string t] w fun e w' => e = .returned (.tuple #[.int .i64 id, .int .i64 place, .int .i64 count, .string part, .bool ok]) ∧ Below w.heap.size w w' := implReadPart_of cloneGives t id place count part ok hz h w

end Go.Proofs.Ytfhlpgngeiploaa
namespace Go.Proofs.Ytfhlpgngeiploaa
open Go.RowKit

/-- What ReadPart hands back. -/
def PartEnd (id place count : Int) (part : ByteArray) (ok : Bool) (w : World) (e : Ending) (w' : World) : Prop := e = .returned (.tuple #[.int .i64 id, .int .i64 place, .int .i64 count, .string part, .bool ok]) ∧ Below w.heap.size w w'

set_option maxRecDepth 100000 in
set_option maxHeartbeats 1600000 in
theorem lawReadPartF (t : ByteArray) (id place count : Int) (part : ByteArray) (ok : Bool)
    (hI : t.size ≤ 1048576 → ∀ X : World, Calls Try.prog 13 #[.string t] X (PartEnd id place count part ok X))
    (hS : t.size ≤ 1048576 → ∀ X : World, Calls Try.prog 22 #[.string t] X (PartEnd id place count part ok X)) (w : World) :
    Calls Try.prog 6 #[.string t] w fun e w' => e = .returned (.bool true) ∧ Below w.heap.size w w' := by
  have hbb : (ok != ok) = false := by cases ok <;> rfl
  have htt : (part.toList != part.toList) = false := by simp
  have n1 : (id != id) = false := by simp
  have n2 : (place != place) = false := by simp
  have n3 : (count != count) = false := by simp
  go_enter Try.func6, Try.ntmps6
  by_cases hs : t.size ≤ 1048576
  rotate_left
  · have hs' : (1048576 : Int) < (t.size : Int) := by omega
    go_wp2_with fail
    go_ret
    exact ⟨rfl, Below.refl _ _⟩
  have hs' : ¬ ((1048576 : Int) < (t.size : Int)) := by omega
  have HI := Lib.hid (hI hs)
  have HS := Lib.hid (hS hs)
  clear hI hS hs
  go_wp2_with fail
  refine (HS.out w).mono ?_
  rintro e Y1 ⟨rfl, hb⟩
  have B := Lib.hid hb
  clear hb
  go_wp2_with fail
  refine (HI.out Y1).mono ?_
  rintro e Y2 ⟨rfl, hb⟩
  have B2 := Lib.hid (B.out.trans (hb.mono B.out.size))
  clear hb
  go_wp2_with fail
  go_ret
  exact ⟨rfl, B2.out⟩

end Go.Proofs.Ytfhlpgngeiploaa
namespace Go.Proofs.Ytfhlpgngeiploaa
open Go.RowKit

theorem lawReadPart (t : ByteArray) (w : World) :
    Calls Try.prog 6 #[.string t] w fun e w' => e = .returned (.bool true) ∧ Below w.heap.size w w' := by
  obtain ⟨id, place, count, part, ok, h⟩ := readPart_is t
  exact lawReadPartF t id place count part ok (fun hz X => implReadPart_any t id place count part ok (by omega) h X) (fun hz X => specReadPart_any t id place count part ok (by omega) h X) w
end Go.Proofs.Ytfhlpgngeiploaa

/-
  The library's contracts laid at this translation, in plain words: each is one application.
  What the library's Clone gives.
  The exact law on Push, at every argument.
-/
import Derived.Shelf.LaysM
import Derived.Shelf.Strconv.Clone
import Derived.Ground.Names2Prog
import Derived.Shelf.Slices.SearchI
import Derived.Test.YthljmjbmmgligarProg
import Derived.Test.YthljmjbmmgligarJ28
import Derived.Test.YthljmjbmmgligarJ32
import Derived.Test.YthljmjbmmgligarJ33
import Derived.Test.YthljmjbmmgligarJ27
namespace Go.Proofs
open Go.Shelf
def Try.laysM316_ren : Go.Shelf.Ren := ⟨fun | 316 => 84 | n => n, fun | 9 => 9 | 3 => 3 | 4 => 4 | 37 => 107 | 0 => 0 | 127 => 115 | 5 => 5 | n => n, fun | n => n⟩
theorem Try.laysM316 : Go.Proofs.LaysM.n316 Try.prog Try.laysM316_ren := {
  mixed := by kernel_rfl
  f316 := Try.func84.trans (congrArg some (by kernel_rfl))
  t0 := Try.underlying0
  a0 := Try.isAgg0
  z0 := Try.sizeOf0
  v0 := Try.zeroValue0
  t3 := Try.underlying3
  a3 := Try.isAgg3
  z3 := Try.sizeOf3
  v3 := Try.zeroValue3
  t4 := Try.underlying4
  a4 := Try.isAgg4
  z4 := Try.sizeOf4
  v4 := Try.zeroValue4
  t9 := Try.underlying9
  a9 := Try.isAgg9
  z9 := Try.sizeOf9
  v9 := Try.zeroValue9
  t37 := Try.underlying107
  a37 := Try.isAgg107
  z37 := Try.sizeOf107
  v37 := Try.zeroValue107
  t127 := Try.underlying115
  a127 := Try.isAgg115
  z127 := Try.sizeOf115
  v127 := Try.zeroValue115
  t5 := Try.underlying5
  a5 := Try.isAgg5
  z5 := Try.sizeOf5
  v5 := Try.zeroValue5
  i0 := by kernel_rfl
  i3 := by kernel_rfl
  i4 := by kernel_rfl
  i5 := by kernel_rfl
  i9 := by kernel_rfl
  i37 := by kernel_rfl
  i127 := by kernel_rfl }
open Go.RowKit in
theorem Try.stringslite_Clone (s : ByteArray) (w : World) (hlim : s.size ≤ 281474976710656) :
    Calls Try.prog 84 #[.string s] w fun e w' => e = .returned (.string s) ∧ Below w.heap.size w w' := Any.stringslite_Clone Try.laysM316 s w hlim
end Go.Proofs
namespace Go.Proofs.Ythljmjbmmgligar
open Go.RowKit

theorem cloneGives : CloneGives := fun s w hs => by
  have H := Lib.hid (fun w => Try.stringslite_Clone s w (by omega))
  go_enter Try.func61, Try.ntmps61
  go_wp2_with fail
  refine (H.out _).mono ?_
  rintro e w1 ⟨rfl, hb1⟩
  go_wp2
  go_ret
  exact ⟨rfl, hb1⟩

end Go.Proofs.Ythljmjbmmgligar
namespace Go.Proofs.Ythljmjbmmgligar
open Go.RowKit

theorem ret_val {ok : Bool} {m0 m1 m2 m5 : Int} {r3 : List ByteArray} {r4 : List PendingD} {r6 : List EarlyD} {r7 : List Int} {r8 : List ByteArray} {X Y : World} {e : Ending} (h : ChanRet ok m0 m1 m2 m5 r3 r4 r6 r7 r8 X e Y) : ∃ v, e = .returned (.tuple #[v, .bool ok]) ∧ ChanVal X m0 m1 m2 m5 r3 r4 r6 r7 r8 v Y := by
  obtain ⟨v3, v4, v6, v7, v8, f3, f4, f6, f7, f8, rfl, hco, hb⟩ := h
  exact ⟨_, rfl, hco.val hb⟩
theorem lawPush (n0 n1 n2 n5 : Int) (v3 v4 v6 v7 v8 : Value) (p3 : List ByteArray) (p4 : List PendingD) (p6 : List EarlyD) (p7 : List Int) (p8 : List ByteArray) (t : ByteArray) (ht : t.size ≤ 9223372036854775807) (k3 : RoomString p3) (k4 : RoomPending p4) (k6 : RoomEarly p6) (k7 : RoomInt p7) (k8 : RoomString p8) (w : World) (ha : ChanRd v3 v4 v6 v7 v8 p3 p4 p6 p7 p8 w) :
    Calls Try.prog 5 #[.agg #[.int .i64 n0, .int .i64 n1, .int .i64 n2, v3, v4, .int .i64 n5, v6, v7, v8], .string t] w fun e w' => e = .returned (.bool true) ∧ Below w.heap.size w w' := by
  obtain ⟨b, hb⟩ := exists_bool (PushOk n0 n1 n2 n5 p3 p4 p6 p7 p8 t)
  refine lawPushF n0 n1 n2 n5 v3 v4 v6 v7 v8 p3 p4 p6 p7 p8 t ht k3 k4 k6 k7 k8 n0 n1 n2 n5 (if b = true then p3 ++ [t] else p3) p4 p6 p7 p8 b ?_ ?_ ?_ w ha
  · intro hf
    have l := fits_few hf
    refine ⟨?_, by have := l.l4; omega, by have := l.l6; omega, by have := l.l7; omega, by have := l.l8; omega⟩
    have := l.l3
    split
    · rw [List.length_append]
      simp only [List.length_cons, List.length_nil]
      omega
    · omega
  · intro hf hs u3 u4 u6 u7 u8 X h
    have l := fits_few hf
    exact (implPush_any cloneGives n0 n1 n2 n5 u3 u4 u6 u7 u8 p3 p4 p6 p7 p8 t hs l.l3 l.l4 l.l6 l.l7 l.l8 hf.1.2 hf.2.1.2 hf.2.2.1.2 hf.2.2.2.2.2 X h.h3 h.h4 h.h6 h.h7 h.h8 b hb.out).mono fun _ _ h => ret_val h
  · intro hf hs u3 u4 u6 u7 u8 X h
    have l := fits_few hf
    exact (specPush_any n0 n1 n2 n5 u3 u4 u6 u7 u8 p3 p4 p6 p7 p8 t (by omega) (by have := l.l3; omega) (by have := l.l4; omega) (by have := l.l6; omega) (by have := l.l7; omega) (by have := l.l8; omega) X h.h3 h.h4 h.h6 h.h7 h.h8 b hb.out).mono fun _ _ h => ret_val h

end Go.Proofs.Ythljmjbmmgligar

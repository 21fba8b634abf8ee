/-
  The library's contracts laid at this translation, in plain words: each is one application.
  The program's Unsealed and the given one by what they answer.
-/
import Derived.Shelf.LaysM
import Derived.Shelf.Strconv.Clone
import Derived.Test.YtdhacjpdlmnlmarDoorProg
import Derived.Test.YtdhacjpdlmnlmarDoorJ17
namespace Go.Proofs
open Go.Shelf
def Tryd.laysM316_ren : Go.Shelf.Ren := ⟨fun | 316 => 36 | n => n, fun | 9 => 9 | 3 => 3 | 4 => 4 | 37 => 53 | 0 => 0 | 127 => 57 | 5 => 5 | n => n, fun | n => n⟩
theorem Tryd.laysM316 : Go.Proofs.LaysM.n316 Tryd.prog Tryd.laysM316_ren := {
  mixed := by kernel_rfl
  f316 := Tryd.func36.trans (congrArg some (by kernel_rfl))
  t0 := Tryd.underlying0
  a0 := Tryd.isAgg0
  z0 := Tryd.sizeOf0
  v0 := Tryd.zeroValue0
  t3 := Tryd.underlying3
  a3 := Tryd.isAgg3
  z3 := Tryd.sizeOf3
  v3 := Tryd.zeroValue3
  t4 := Tryd.underlying4
  a4 := Tryd.isAgg4
  z4 := Tryd.sizeOf4
  v4 := Tryd.zeroValue4
  t9 := Tryd.underlying9
  a9 := Tryd.isAgg9
  z9 := Tryd.sizeOf9
  v9 := Tryd.zeroValue9
  t37 := Tryd.underlying53
  a37 := Tryd.isAgg53
  z37 := Tryd.sizeOf53
  v37 := Tryd.zeroValue53
  t127 := Tryd.underlying57
  a127 := Tryd.isAgg57
  z127 := Tryd.sizeOf57
  v127 := Tryd.zeroValue57
  t5 := Tryd.underlying5
  a5 := Tryd.isAgg5
  z5 := Tryd.sizeOf5
  v5 := Tryd.zeroValue5
  i0 := by kernel_rfl
  i3 := by kernel_rfl
  i4 := by kernel_rfl
  i5 := by kernel_rfl
  i9 := by kernel_rfl
  i37 := by kernel_rfl
  i127 := by kernel_rfl }
open Go.RowKit in
theorem Tryd.stringslite_Clone (s : ByteArray) (w : World) (hlim : s.size ≤ 281474976710656) :
    Calls Tryd.prog 36 #[.string s] w fun e w' => e = .returned (.string s) ∧ Below w.heap.size w w' := Any.stringslite_Clone Tryd.laysM316 s w hlim
end Go.Proofs
namespace Go.Proofs.YtdhacjpdlmnlmarDoor
open Go.RowKit

set_option maxHeartbeats 400000 in
theorem clone_text (s : ByteArray) (hs : s.size ≤ 1048576) (w : World) :
    Calls Tryd.prog 28 #[.string s] w fun e w' => e = .returned (.string s) ∧ Below w.heap.size w w' := by
  have H := Lib.hid (fun w => Tryd.stringslite_Clone s w (by omega))
  go_enter Tryd.func28, Tryd.ntmps28
  go_wp2_with fail
  refine (H.out _).mono ?_
  rintro e w1 ⟨rfl, hb⟩
  go_wp2
  go_ret
  exact ⟨rfl, hb⟩

theorem implUnsealed_short (s : ByteArray) (hs : s.size < 4) (w : World) :
    Calls Tryd.prog 13 #[.string s] w fun e w' => e = .returned (.tuple #[.string ⟨#[]⟩, .bool false]) ∧ Below w.heap.size w w' := by
  have h7 : (s.size : Int) - 4 < 0 := by omega
  go_enter Tryd.func13, Tryd.ntmps13
  go_wp2
  go_ret2
  exact ⟨rfl, Below.refl _ _⟩

set_option maxRecDepth 100000 in
set_option maxHeartbeats 400000 in
theorem implUnsealed_long (s : ByteArray) (hs : s.size ≤ 1048576) (h4 : 20004 < s.size) (w : World) :
    Calls Tryd.prog 13 #[.string s] w fun e w' => e = .returned (.tuple #[.string ⟨#[]⟩, .bool false]) ∧ Below w.heap.size w w' := by
  have h5 : (s.extract 0 (s.size - 4)).size = s.size - 4 := by simp [ByteArray.size_extract]
  have H1 := Lib.hid (fun w => implSealed_no (s.extract 0 (s.size - 4)) (by omega) w)
  have h6 : ((s.size : Int) - 4).toNat = s.size - 4 := by omega
  have h7 : ¬ ((s.size : Int) - 4 < 0) := by omega
  clear h5
  go_enter Tryd.func13, Tryd.ntmps13
  go_wp2_with fail
  refine (H1.out _).mono ?_
  rintro e w1 ⟨rfl, hb⟩
  go_wp2
  go_ret2
  exact ⟨rfl, hb⟩

set_option maxRecDepth 100000 in
set_option maxHeartbeats 400000 in
theorem implUnsealed_wrong (s : ByteArray) (h4 : 4 ≤ s.size) (h5 : s.size ≤ 20004) (hne : ¬ (⟨(sealedOf (s.extract 0 (s.size - 4)).data.toList).toArray⟩ : ByteArray) = s) (w : World) (ht : Laid w) :
    Calls Tryd.prog 13 #[.string s] w fun e w' => e = .returned (.tuple #[.string ⟨#[]⟩, .bool false]) ∧ Below w.heap.size w w' := by
  have h8 : (s.extract 0 (s.size - 4)).size = s.size - 4 := by simp [ByteArray.size_extract]
  have H1 := Lib.hid (implSealed_yes (s.extract 0 (s.size - 4)) (by omega) w ht)
  have h6 : ((s.size : Int) - 4).toNat = s.size - 4 := by omega
  have h7 : ¬ ((s.size : Int) - 4 < 0) := by omega
  generalize (⟨(sealedOf (s.extract 0 (s.size - 4)).data.toList).toArray⟩ : ByteArray) = u at hne H1
  have hq : (u.toList == s.toList) = false := texts_apart hne
  clear h8 ht hne
  go_enter Tryd.func13, Tryd.ntmps13
  go_wp2_with fail
  refine (H1.out).mono ?_
  rintro e w1 ⟨rfl, hb⟩
  go_wp2
  go_ret2
  exact ⟨rfl, hb⟩

set_option maxRecDepth 100000 in
set_option maxHeartbeats 400000 in
theorem implUnsealed_right (s : ByteArray) (h4 : 4 ≤ s.size) (h5 : s.size ≤ 20004) (he : (⟨(sealedOf (s.extract 0 (s.size - 4)).data.toList).toArray⟩ : ByteArray) = s) (w : World) (ht : Laid w) :
    Calls Tryd.prog 13 #[.string s] w fun e w' => e = .returned (.tuple #[.string (s.extract 0 (s.size - 4)), .bool true]) ∧ Below w.heap.size w w' := by
  have h8 : (s.extract 0 (s.size - 4)).size = s.size - 4 := by simp [ByteArray.size_extract]
  have H1 := Lib.hid (implSealed_yes (s.extract 0 (s.size - 4)) (by omega) w ht)
  rw [he] at H1
  have H2 := Lib.hid (clone_text (s.extract 0 (s.size - 4)) (by omega))
  have h6 : ((s.size : Int) - 4).toNat = s.size - 4 := by omega
  have h7 : ¬ ((s.size : Int) - 4 < 0) := by omega
  clear h8 ht he
  go_enter Tryd.func13, Tryd.ntmps13
  go_wp2_with fail
  refine (H1.out).mono ?_
  rintro e w1 ⟨rfl, hb⟩
  go_wp2_with fail
  refine (H2.out _).mono ?_
  rintro e w2 ⟨rfl, hb2⟩
  go_wp2
  go_ret2
  exact ⟨rfl, hb.trans (hb2.mono hb.size)⟩

theorem Unsealed_both (s : ByteArray) (hs : s.size ≤ 1048576) : ∃ (t : ByteArray) (b : Bool),
    (∀ w, Laid w → Calls Tryd.prog 13 #[.string s] w fun e w' => e = .returned (.tuple #[.string t, .bool b]) ∧ Below w.heap.size w w') ∧
    (∀ w, Calls Tryd.prog 9 #[.string s] w fun e w' => e = .returned (.tuple #[.string t, .bool b]) ∧ Below w.heap.size w w') := by
  by_cases h1 : s.size < 4
  · exact ⟨_, _, fun w _ => implUnsealed_short s h1 w, fun w => specUnsealed_short s h1 w⟩
  by_cases h2 : 20004 < s.size
  · exact ⟨_, _, fun w _ => implUnsealed_long s hs h2 w, fun w => specUnsealed_long s hs h2 w⟩
  by_cases h3 : (⟨(sealedOf (s.extract 0 (s.size - 4)).data.toList).toArray⟩ : ByteArray) = s
  · exact ⟨_, _, fun w ht => implUnsealed_right s (by omega) (by omega) h3 w ht, fun w => specUnsealed_right s (by omega) (by omega) ((unsealed_same s).1 h3) w⟩
  · exact ⟨_, _, fun w ht => implUnsealed_wrong s (by omega) (by omega) h3 w ht, fun w => specUnsealed_wrong s (by omega) (by omega) (fun h => h3 ((unsealed_same s).2 h)) w⟩

end Go.Proofs.YtdhacjpdlmnlmarDoor

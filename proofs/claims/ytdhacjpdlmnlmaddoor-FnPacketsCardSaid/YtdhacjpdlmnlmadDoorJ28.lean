/-
  The program's Unsealed and the given one by what they answer.
-/
import Derived.Test.YtdhacjpdlmnlmadDoorJ14
import Derived.Test.YtdhacjpdlmnlmadDoorJ27
namespace Go.Proofs.YtdhacjpdlmnlmadDoor
open Go.RowKit

set_option maxHeartbeats 400000 in
theorem clone_text (s : ByteArray) (hs : s.size ≤ 1048576) (w : World) :
    Calls Tryd.prog 43 #[.string s] w fun e w' => e = .returned (.string s) ∧ Below w.heap.size w w' := by
  have H := Lib.hid (fun w => Tryd.stringslite_Clone s w (by omega))
  go_enter Tryd.func43, Tryd.ntmps43
  go_wp2_with fail
  refine (H.out _).mono ?_
  rintro e w1 ⟨rfl, hb⟩
  go_wp2
  go_ret
  exact ⟨rfl, hb⟩

theorem implUnsealed_short (s : ByteArray) (hs : s.size < 4) (w : World) :
    Calls Tryd.prog 19 #[.string s] w fun e w' => e = .returned (.tuple #[.string ⟨#[]⟩, .bool false]) ∧ Below w.heap.size w w' := by
  have h7 : (s.size : Int) - 4 < 0 := by omega
  go_enter Tryd.func19, Tryd.ntmps19
  go_wp2
  go_ret2
  exact ⟨rfl, Below.refl _ _⟩

set_option maxRecDepth 100000 in
set_option maxHeartbeats 400000 in
theorem implUnsealed_long (s : ByteArray) (hs : s.size ≤ 1048576) (h4 : 20004 < s.size) (w : World) :
    Calls Tryd.prog 19 #[.string s] w fun e w' => e = .returned (.tuple #[.string ⟨#[]⟩, .bool false]) ∧ Below w.heap.size w w' := by
  have h5 : (s.extract 0 (s.size - 4)).size = s.size - 4 := by simp [ByteArray.size_extract]
  have H1 := Lib.hid (fun w => implSealed_no (s.extract 0 (s.size - 4)) (by omega) w)
  have h6 : ((s.size : Int) - 4).toNat = s.size - 4 := by omega
  have h7 : ¬ ((s.size : Int) - 4 < 0) := by omega
  clear h5
  go_enter Tryd.func19, Tryd.ntmps19
  go_wp2_with fail
  refine (H1.out _).mono ?_
  rintro e w1 ⟨rfl, hb⟩
  go_wp2
  go_ret2
  exact ⟨rfl, hb⟩

set_option maxRecDepth 100000 in
set_option maxHeartbeats 400000 in
theorem implUnsealed_wrong (s : ByteArray) (h4 : 4 ≤ s.size) (h5 : s.size ≤ 20004) (hne : ¬ (⟨(sealedOf (s.extract 0 (s.size - 4)).data.toList).toArray⟩ : ByteArray) = s) (w : World) (ht : Laid w) :
    Calls Tryd.prog 19 #[.string s] w fun e w' => e = .returned (.tuple #[.string ⟨#[]⟩, .bool false]) ∧ Below w.heap.size w w' := by
  have h8 : (s.extract 0 (s.size - 4)).size = s.size - 4 := by simp [ByteArray.size_extract]
  have H1 := Lib.hid (implSealed_yes (s.extract 0 (s.size - 4)) (by omega) w ht)
  have h6 : ((s.size : Int) - 4).toNat = s.size - 4 := by omega
  have h7 : ¬ ((s.size : Int) - 4 < 0) := by omega
  generalize (⟨(sealedOf (s.extract 0 (s.size - 4)).data.toList).toArray⟩ : ByteArray) = u at hne H1
  have hq : (u.toList == s.toList) = false := texts_apart hne
  clear h8 ht hne
  go_enter Tryd.func19, Tryd.ntmps19
  go_wp2_with fail
  refine (H1.out).mono ?_
  rintro e w1 ⟨rfl, hb⟩
  go_wp2
  go_ret2
  exact ⟨rfl, hb⟩

set_option maxRecDepth 100000 in
set_option maxHeartbeats 400000 in
theorem implUnsealed_right (s : ByteArray) (h4 : 4 ≤ s.size) (h5 : s.size ≤ 20004) (he : (⟨(sealedOf (s.extract 0 (s.size - 4)).data.toList).toArray⟩ : ByteArray) = s) (w : World) (ht : Laid w) :
    Calls Tryd.prog 19 #[.string s] w fun e w' => e = .returned (.tuple #[.string (s.extract 0 (s.size - 4)), .bool true]) ∧ Below w.heap.size w w' := by
  have h8 : (s.extract 0 (s.size - 4)).size = s.size - 4 := by simp [ByteArray.size_extract]
  have H1 := Lib.hid (implSealed_yes (s.extract 0 (s.size - 4)) (by omega) w ht)
  rw [he] at H1
  have H2 := Lib.hid (clone_text (s.extract 0 (s.size - 4)) (by omega))
  have h6 : ((s.size : Int) - 4).toNat = s.size - 4 := by omega
  have h7 : ¬ ((s.size : Int) - 4 < 0) := by omega
  clear h8 ht he
  go_enter Tryd.func19, Tryd.ntmps19
  go_wp2_with fail
  refine (H1.out).mono ?_
  rintro e w1 ⟨rfl, hb⟩
  go_wp2_with fail
  refine (H2.out _).mono ?_
  rintro e w2 ⟨rfl, hb2⟩
  go_wp2
  go_ret2
  exact ⟨rfl, hb.trans (hb2.mono hb.size)⟩

theorem Unsealed_both (s : ByteArray) (hs : s.size ≤ 1048576) : ∃ (t : ByteArray) (b : Bool),
    (∀ w, Laid w → Calls Tryd.prog 19 #[.string s] w fun e w' => e = .returned (.tuple #[.string t, .bool b]) ∧ Below w.heap.size w w') ∧
    (∀ w, Calls Tryd.prog 28 #[.string s] w fun e w' => e = .returned (.tuple #[.string t, .bool b]) ∧ Below w.heap.size w w') := by
  by_cases h1 : s.size < 4
  · exact ⟨_, _, fun w _ => implUnsealed_short s h1 w, fun w => specUnsealed_short s h1 w⟩
  by_cases h2 : 20004 < s.size
  · exact ⟨_, _, fun w _ => implUnsealed_long s hs h2 w, fun w => specUnsealed_long s hs h2 w⟩
  by_cases h3 : (⟨(sealedOf (s.extract 0 (s.size - 4)).data.toList).toArray⟩ : ByteArray) = s
  · exact ⟨_, _, fun w ht => implUnsealed_right s (by omega) (by omega) h3 w ht, fun w => specUnsealed_right s (by omega) (by omega) ((unsealed_same s).1 h3) w⟩
  · exact ⟨_, _, fun w ht => implUnsealed_wrong s (by omega) (by omega) h3 w ht, fun w => specUnsealed_wrong s (by omega) (by omega) (fun h => h3 ((unsealed_same s).2 h)) w⟩

end Go.Proofs.YtdhacjpdlmnlmadDoor

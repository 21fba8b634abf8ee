/-
  What chapter 1 writes it reads back: numbers from bytes and from figures, texts from short texts and from figures.
-/
import Derived.Test.YtcnnmpenahihnaaDoorShortText
import Derived.Test.YtcnnmpenahihnaaDoorReadVarImpl
import Derived.Test.YtcnnmpenahihnaaDoorHexImpl
import Derived.Test.YtcnnmpenahihnaaDoorUnhexImpl
import Derived.Test.YtcnnmpenahihnaaDoorReadDecImpl
import Derived.Test.YtcnnmpenahihnaaDoorPlainBack
import Derived.Test.YtcnnmpenahihnaaDoorShelf
namespace Go.Proofs.YtcnnmpenahihnaaDoor
open Go.RowKit

theorem clone_any (s : ByteArray) (hs : s.size ≤ 1048576) (w : World) :
    Calls Tryd.prog 24 #[.string s] w fun e w' => e = .returned (.string s) ∧ Below w.heap.size w w' := by
  have H := Lib.hid (fun w => Tryd.stringslite_Clone s w (by omega))
  go_enter Tryd.func24, Tryd.ntmps24
  go_wp2_with fail
  refine (H.out _).mono ?_
  rintro e w1 ⟨rfl, hb1⟩
  go_wp2
  go_ret
  exact ⟨rfl, hb1⟩

theorem size_cut (s : ByteArray) (a b : Nat) (hs : s.size ≤ 1048576) : (s.extract a b).size ≤ 1048576 := by
  simp
  omega

theorem readVar_back (s : ByteArray) (hs : s.size ≤ 1048576) (p r : List UInt8) (n : Nat) (hn : n ≤ 1000000000) (h : s.data.toList = p ++ (var n ++ r)) (w : World) :
    Calls Tryd.prog 7 #[.string s, .int .i64 p.length] w fun e w' => e = .returned (.tuple #[.int .i64 n, .int .i64 ((p.length + (var n).length : Nat) : Int), .bool true]) ∧ Below w.heap.size w w' := by
  obtain ⟨k, h1, h2, h3, h4⟩ := var_read n hn r
  have hd : s.data.toList.drop p.length = var n ++ r := by rw [h]; simp
  have hl : s.size = p.length + ((var n).length + r.length) := by
    have := congrArg List.length h
    simpa using this
  refine (implReadVar_some s hs p.length (by omega) k (by rw [hd]; exact h1) (by rw [hd]; exact h4) w).mono ?_
  rintro e w' ⟨h5 | h5, hb⟩
  · refine ⟨?_, hb⟩
    rw [h5.2, hd, h3]
    congr 6
    omega
  · rw [hd, h3] at h5
    omega

theorem cut_back (a t : ByteArray) : (a ++ t).extract a.size (a.size + t.size) = t := by
  have h1 : List.drop a.size a.data.toList = [] := List.drop_of_length_le (by simp)
  have h2 : List.take t.size t.data.toList = t.data.toList := List.take_of_length_le (by simp)
  apply ByteArray.ext
  apply Array.ext'
  simp [h1, h2]

theorem cat_toList (l : List UInt8) (t : ByteArray) : (⟨l.toArray⟩ ++ t : ByteArray).data.toList = l ++ t.data.toList := by simp
theorem cat_size (l : List UInt8) (t : ByteArray) : (⟨l.toArray⟩ ++ t : ByteArray).size = l.length + t.size := by rw [ByteArray.size_append]; rfl

set_option maxRecDepth 100000 in
set_option maxHeartbeats 400000 in
theorem readShort_back (t : ByteArray) (ht : t.size ≤ 20000) (w : World) :
    Calls Tryd.prog 12 #[.string (⟨(var t.size).toArray⟩ ++ t), .int .i64 0] w fun e w' =>
      e = .returned (.tuple #[.string t, .int .i64 ((⟨(var t.size).toArray⟩ ++ t : ByteArray).size : Nat), .bool true]) ∧ Below w.heap.size w w' := by
  have hv := var_len 2 t.size (by have : (128 : Nat) ^ 3 = 2097152 := by decide
                                  omega)
  have hsz : (⟨(var t.size).toArray⟩ ++ t : ByteArray).size = (var t.size).length + t.size := cat_size _ _
  have H2 := Lib.hid (fun w => readVar_back (⟨(var t.size).toArray⟩ ++ t) (by omega) [] t.data.toList t.size (by omega) (cat_toList _ _) w)
  have hcut : (⟨(var t.size).toArray⟩ ++ t : ByteArray).extract (var t.size).length ((var t.size).length + t.size) = t := cut_back ⟨(var t.size).toArray⟩ t
  have HC := Lib.hid (fun w => clone_any t (by omega) w)
  generalize (⟨(var t.size).toArray⟩ ++ t : ByteArray) = s at hsz H2 hcut
  generalize (var t.size).length = q at *
  have hn : ¬ (20000 : Int) < (t.size : Int) := by omega
  have hq : ¬ (s.size : Int) - (q : Int) < (t.size : Int) := by omega
  go_enter Tryd.func12, Tryd.ntmps12
  go_wp2_with fail
  refine (H2.out _).mono ?_
  rintro e w1 ⟨rfl, hb1⟩
  go_wp2_with fail
  refine (HC.out _).mono ?_
  rintro e w2 ⟨rfl, hb2⟩
  go_wp2
  go_ret3
  exact ⟨by rw [hsz]; rfl, hb1.trans (hb2.mono hb1.size)⟩

theorem unhex_back (l : List UInt8) (hl : l.length ≤ 20000) (w : World) :
    Calls Tryd.prog 14 #[.string ⟨(hexOf l).toArray⟩] w fun e w' => e = .returned (.tuple #[.string ⟨l.toArray⟩, .bool true]) ∧ Below w.heap.size w w' := by
  obtain ⟨qs, h1, h2, h3⟩ := hex_back l
  have hs : (⟨(hexOf l).toArray⟩ : ByteArray).size = 2 * l.length := by rw [size_list, hexOf_length]
  have := implUnhex_yes ⟨(hexOf l).toArray⟩ (by omega) (by omega) qs h1 (by simpa using h2) w
  rw [h3] at this
  exact this

theorem readDec_back (m : Nat) (hm : m ≤ 1000000000) (w : World) :
    Calls Tryd.prog 8 #[.string ⟨(Lib.itoa (m : Int)).toArray⟩] w fun e w' => e = .returned (.tuple #[.int .i64 m, .bool true]) ∧ Below w.heap.size w w' := by
  have e : Lib.itoa (m : Int) = Lib.decDigits m := by unfold Lib.itoa; rw [if_neg (by omega)]; rfl
  rw [e]
  obtain ⟨qs, h1, h2, h3, h4⟩ := dec_back m m (Nat.le_refl _)
  have hl := dec_length 10 m (by omega) (by omega)
  have hq : 0 < qs.length := List.length_pos_iff.2 h2
  have hs : (⟨(Lib.decDigits m).toArray⟩ : ByteArray).size = qs.length := by rw [size_list, h3]; simp
  have hs2 : (⟨(Lib.decDigits m).toArray⟩ : ByteArray).size ≤ 10 := by rw [size_list]; exact hl
  have ha : (⟨(Lib.decDigits m).toArray⟩ : ByteArray).data.toList = qs.map fig ++ [] := by simpa using h3
  have hd : qs.length = 1 ∨ qs.getD 0 0 ≠ 0 := (dec_iff qs h1 h2).1 (by rw [h4]; exact h3)
  have hled : Led ⟨(Lib.decDigits m).toArray⟩ := by
    by_cases h6 : qs.length = 1
    · exact .inl (by omega)
    · have hd2 : qs.getD 0 0 ≠ 0 := hd.resolve_left h6
      refine .inr ⟨by omega, ?_⟩
      rw [H0 _ qs [] h1 ha (by omega) hq]
      omega
  refine (implReadDec_main ⟨(Lib.decDigits m).toArray⟩ hs2 (by omega) hled qs [] h1 ha (by simp) w).mono ?_
  rintro e w' ⟨h5 | h5, hb⟩
  · rw [h4] at h5
    exact ⟨h5.2.2, hb⟩
  · exact absurd ⟨rfl, by omega⟩ h5.1

end Go.Proofs.YtcnnmpenahihnaaDoor

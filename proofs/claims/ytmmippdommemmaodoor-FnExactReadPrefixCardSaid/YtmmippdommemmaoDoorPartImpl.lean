/-
  The program's parts of an address, read rune by rune.
-/
import Derived.Test.YtmmippdommemmaoDoorRows
import Derived.Test.YtmmippdommemmaoDoorPlainAll
import Derived.Test.YtmmippdommemmaoDoorKit
import Derived.Laws.RangeAny
import Derived.Lib.RuneCount
namespace Go.Proofs.YtmmippdommemmaoDoor
open Go.RowKit

/-- What the program's Decimal gives, in worlds that hold what it lays. -/
structure DecGives (L : World → Prop) : Prop where
  stays : ∀ X Y, L X → Below X.heap.size X Y → L Y
  dec : ∀ n : Nat, n ≤ 1000000000 → ∀ X, L X → Calls Tryd.prog 27 #[.int .i64 n] X fun e X' => e = .returned (.string ⟨(Lib.decDigits n).toArray⟩) ∧ Below X.heap.size X X'
/-- How a part is read: a number of one byte, or none. -/
def PartEnd (s : ByteArray) (e : Ending) : Prop :=
  (∃ n : Nat, n < 256 ∧ Lib.decDigits n = s.data.toList ∧ e = .returned (.tuple #[.int .i64 n, .bool true])) ∨ ((∀ n, n < 256 → Lib.decDigits n ≠ s.data.toList) ∧ e = .returned (.tuple #[.int .i64 0, .bool false]))
theorem byte_here (s : ByteArray) (k : Nat) (h : k < s.size) : ∃ h2 : k < s.data.toList.length, s.data.toList[k] = s[k] := ⟨by simpa using h, rfl⟩
/-- A byte that is no figure: the text is no number. -/
theorem no_part_byte (s : ByteArray) (k : Nat) (h : k < s.size) (hb : s[k].toNat < 48 ∨ 57 < s[k].toNat) (n : Nat) : Lib.decDigits n ≠ s.data.toList := by
  intro e
  obtain ⟨h2, h3⟩ := byte_here s k h
  have hm : s[k] ∈ Lib.decDigits n := by rw [e, ← h3]; exact List.getElem_mem h2
  have := dec_mem n _ hm
  omega
theorem no_part_great (s : ByteArray) (k v : Nat) (hv : v = figVal (s.data.toList.take k)) (hg : 255 < v) (n : Nat) (hn : n < 256) : Lib.decDigits n ≠ s.data.toList := by
  intro e
  have h1 := figVal_take s.data.toList k
  rw [← e, figVal_dec] at h1
  rw [e, ← hv] at h1
  omega
theorem figVal_next (s : ByteArray) (k : Nat) (h : k < s.size) : figVal (s.data.toList.take (k + 1)) = 10 * figVal (s.data.toList.take k) + (s[k].toNat - 48) := by
  obtain ⟨h2, h3⟩ := byte_here s k h
  rw [← h3, ← figVal_snoc, List.take_add_one, List.getElem?_eq_getElem h2]
  rfl
theorem iter_below (w : World) (s : ByteArray) (pos : Nat) : Below w.heap.size w (w.iter s pos) := (Below.refl _ _).alloc (Nat.le_refl _) _
theorem text_same {a b : ByteArray} (h : a.data.toList = b.data.toList) : (a.toList == b.toList) = true := by
  rw [ByteArray.toList_eq, ByteArray.toList_eq, h]
  simp
theorem text_other {a b : ByteArray} (h : a.data.toList ≠ b.data.toList) : (a.toList == b.toList) = false := by
  rw [ByteArray.toList_eq, ByteArray.toList_eq, beq_eq_false_iff_ne]
  exact h

set_option maxRecDepth 100000 in
set_option maxHeartbeats 800000 in
theorem readPart_any (L : World → Prop) (hL : DecGives L) (s : ByteArray) (w : World) (hw : L w) :
    Calls Tryd.prog 21 #[.string s] w fun e w' => PartEnd s e ∧ Below w.heap.size w w' := by
  have HL := Lib.hid hL
  have HW := Lib.hid hw
  clear hL hw
  go_enter Tryd.func21, Tryd.ntmps21
  go_wp2_with fail
  go_loopw [4] (fun o wr => ∃ (pos v : Nat), wr = w.iter s pos ∧ o = .int .i64 v ∧ v ≤ 255 ∧ pos ≤ s.size ∧ Hid (v = figVal (s.data.toList.take pos))) (fun _ wr => s.size - wr.iterPos w.heap.size)
  case atStart => exact ⟨0, 0, rfl, rfl, by omega, by omega, rfl⟩
  case round =>
    obtain ⟨pos, v, rfl, rfl, hv, hps, HV⟩ := hrel
    have HB := Lib.hid (iter_below w s pos)
    by_cases hp : pos < s.size
    · by_cases ha : (s[pos]'hp).toNat < 128
      · have hnx : ∀ ty, (Instr.next (.pointer (some ⟨w.heap.size, 0, none⟩)) true ty).run Tryd.prog (w.iter s pos) = _ := fun ty => run_next_ascii w s pos ty hp ha
        have HNB := Lib.hid (no_part_byte s pos hp)
        have HNG := Lib.hid (fun u => no_part_great s (pos + 1) u)
        have HFN := Lib.hid (figVal_next s pos hp)
        have HB1 := Lib.hid (iter_below w s (pos + 1))
        generalize (s[pos]'hp).toNat = b at *
        by_cases h1 : (b : Int) < 48
        · go_wp2_with fail
          go_ret2
          exact ⟨.inr ⟨fun n _ => HNB.out (by omega) n, rfl⟩, HB1.out⟩
        · by_cases h2 : (57 : Int) < (b : Int)
          · go_wp2_with fail
            go_ret2
            exact ⟨.inr ⟨fun n _ => HNB.out (by omega) n, rfl⟩, HB1.out⟩
          · have HN : Hid (10 * v + (b - 48) = figVal (s.data.toList.take (pos + 1))) := by
              show _ = _
              rw [HFN.out, ← HV.out]
            by_cases h3 : (255 : Int) < (v : Int) * 10 + ((b : Int) - 48)
            · have HG : Hid (255 < 10 * v + (b - 48)) := by show _ < _; omega
              go_wp2_with fail
              go_ret2
              exact ⟨.inr ⟨fun n hn => HNG.out _ HN.out HG.out n hn, rfl⟩, HB1.out⟩
            · have HG : Hid (10 * v + (b - 48) ≤ 255) := by show _ ≤ _; omega
              go_wp2_with fail
              go_roundw
              case rel => exact ⟨pos + 1, 10 * v + (b - 48), rfl, by congr 1; omega, HG.out, by omega, HN⟩
              case measure =>
                simp
                omega
      · have hd := decode_high s pos hp (by omega)
        have hnx : ∀ ty, (Instr.next (.pointer (some ⟨w.heap.size, 0, none⟩)) true ty).run Tryd.prog (w.iter s pos) = _ := fun ty => run_next_any w s pos ty hp
        have HNB := Lib.hid (no_part_byte s pos hp (by omega))
        have HB1 := Lib.hid (iter_below w s (pos + (Utf8.decode s pos).2))
        generalize (Utf8.decode s pos).1 = r at *
        generalize (Utf8.decode s pos).2 = q at *
        have h1 : ¬ ((r : Int) < 48) := by omega
        have h2 : (57 : Int) < (r : Int) := by omega
        go_wp2_with fail
        go_ret2
        exact ⟨.inr ⟨fun n _ => HNB.out n, rfl⟩, HB1.out⟩
    · have hnx : ∀ ty, (Instr.next (.pointer (some ⟨w.heap.size, 0, none⟩)) true ty).run Tryd.prog (w.iter s pos) = _ := fun ty => run_next_end w s pos ty hp
      have HD := Lib.hid (HL.out.dec v (by omega) (w.iter s pos) (HL.out.stays _ _ HW.out HB.out))
      have hfull : Hid (v = figVal s.data.toList) := by
        have h := HV.out
        rw [List.take_of_length_le (by simp; omega)] at h
        exact h
      by_cases hy : Lib.decDigits v = s.data.toList
      · have HY := Lib.hid hy
        have hc : ((⟨(Lib.decDigits v).toArray⟩ : ByteArray).toList == s.toList) = true := text_same hy
        generalize (⟨(Lib.decDigits v).toArray⟩ : ByteArray) = t at *
        clear hy
        go_wp2_with fail
        refine HD.out.mono ?_
        rintro e w2 ⟨rfl, hb2⟩
        go_wp2_with fail
        go_ret2
        exact ⟨.inl ⟨v, by omega, HY.out, rfl⟩, HB.out.trans (hb2.mono HB.out.size)⟩
      · have HY : Hid (∀ n, n < 256 → Lib.decDigits n ≠ s.data.toList) := fun n _ e => by
          have h := hfull.out
          rw [← e, figVal_dec] at h
          exact hy (by rw [h, e])
        have hc : ((⟨(Lib.decDigits v).toArray⟩ : ByteArray).toList == s.toList) = false := text_other hy
        generalize (⟨(Lib.decDigits v).toArray⟩ : ByteArray) = t at *
        clear hy
        go_wp2_with fail
        refine HD.out.mono ?_
        rintro e w2 ⟨rfl, hb2⟩
        go_wp2_with fail
        go_ret2
        exact ⟨.inr ⟨HY.out, rfl⟩, HB.out.trans (hb2.mono HB.out.size)⟩

end Go.Proofs.YtmmippdommemmaoDoor

/-
  What a part of a text sets, by the program.
-/
import Derived.Test.YtmgdhlodifkemadDoorJ27
import Derived.Test.YtmgdhlodifkemadDoorJ28
import Derived.Test.YtmgdhlodifkemadDoorJ03
namespace Go.Proofs.YtmgdhlodifkemadDoor
open Go.RowKit

theorem rd_texts (w : World) : ∀ qs : List ByteArray, rdAll layString w (qs.map Value.string) qs
  | [] => rfl
  | x :: t => ⟨[.string x], t.map Value.string, rfl, rfl, rd_texts w t⟩
/-- The library's splitting at one sign: a row of the call's own. -/
theorem splitN_any (s : ByteArray) (x : UInt8) (n : Nat) (hs : s.size ≤ 1048576) (hn : 1 ≤ n) (hn2 : n ≤ 1000) (w : World) (hw : LaidA w) :
    Calls Tryd.prog 48 #[.string s, .string ⟨#[x]⟩, .int .i64 n] w fun e w' => ∃ k, e = .returned (.slice (some ⟨w.heap.size, 0, none⟩) (Lib.splitB ⟨#[x]⟩ 0 (min n (s.size + 1) - 1) s).length k) ∧
      layStringS.own w' w.heap.size [w.heap.size] [.slice (some ⟨w.heap.size, 0, none⟩) (Lib.splitB ⟨#[x]⟩ 0 (min n (s.size + 1) - 1) s).length k] (Lib.splitB ⟨#[x]⟩ 0 (min n (s.size + 1) - 1) s) ∧ Below w.heap.size w w' := by
  obtain ⟨m, hm⟩ := hw.max
  refine (Tryd.strings_SplitN s ⟨#[x]⟩ n m w (by omega) hm (Nat.le_refl 1) hn (by omega)).mono ?_
  rintro e Y ⟨rfl, rfl⟩
  have hN : min n (s.size + 1) ≤ 1000 := by omega
  have hl := (split_few x n hn s).2.1
  have hl2 : (Lib.splitB ⟨#[x]⟩ 0 (min n (s.size + 1) - 1) s).length ≤ min n (s.size + 1) := by
    have hd := Lib.splitB_data ⟨#[x]⟩ 0 (min n (s.size + 1) - 1) s
    have hlen : (Lib.splitB ⟨#[x]⟩ 0 (min n (s.size + 1) - 1) s).length = (Lib.splitK [x] 0 (min n (s.size + 1) - 1) s.data.toList).length := by rw [← show _ = Lib.splitK [x] 0 (min n (s.size + 1) - 1) s.data.toList from hd, List.length_map]
    have := (splitK_cut x (min n (s.size + 1) - 1) s.data.toList).2
    omega
  generalize Lib.splitB ⟨#[x]⟩ 0 (min n (s.size + 1) - 1) s = qs at hl hl2
  generalize min n (s.size + 1) = N at hl2 hN
  refine ⟨N, rfl, ?_, (Below.refl _ _).alloc (Nat.le_refl _) _⟩
  refine flat_own flatString (us := qs.map Value.string) ⟨by rw [List.length_map]; exact (Nat.mul_one _).symm, .inr ⟨w.heap.size, N, Lib.cellsOf qs N, rfl, Nat.le_refl _, heap_alloc_new w _, hl2, by unfold maxLen; omega, ?_, ?_⟩⟩ (rd_texts _ qs)
  · rw [Lib.cellsOf_size hl2]
    exact (Nat.mul_one _).symm
  · unfold Lib.cellsOf
    rw [show qs.length * layString.k = (qs.map Value.string).length by rw [List.length_map]; exact Nat.mul_one _, List.take_left']
    rfl
set_option maxRecDepth 100000 in
set_option maxHeartbeats 1600000 in
theorem optionIn_any (x : ByteArray) (hx : x.size ≤ 1048576) (w : World) (hw : LaidA w) :
    Calls Tryd.prog 49 #[.string x] w fun e w' => ∃ c st, e = .returned c ∧ PartSets x.data.toList st ∧ CloV w' c st ∧ Below w.heap.size w w' := by
  have H1 : Hid (∀ X, Calls Tryd.prog 85 #[.string x, .string ⟨#[115, 105, 122, 101, 32]⟩] X fun e w' => e = .returned (.tuple #[.string ⟨(Lib.trimPrefix x.data.toList optSize).toArray⟩, .bool (Lib.hasPrefix x.data.toList optSize)]) ∧ w' = X) := Lib.hid (fun X => Tryd.strings_CutPrefix x ⟨#[115, 105, 122, 101, 32]⟩ X)
  have H2 : Hid (∀ X, Calls Tryd.prog 85 #[.string x, .string ⟨#[119, 97, 121, 115, 32]⟩] X fun e w' => e = .returned (.tuple #[.string ⟨(Lib.trimPrefix x.data.toList optWay).toArray⟩, .bool (Lib.hasPrefix x.data.toList optWay)]) ∧ w' = X) := Lib.hid (fun X => Tryd.strings_CutPrefix x ⟨#[119, 97, 121, 115, 32]⟩ X)
  have T1 : Hid (Lib.hasPrefix x.data.toList optSize = true → Lib.trimPrefix x.data.toList optSize = x.data.toList.drop 5) := Lib.hid (fun h => by unfold Lib.trimPrefix; rw [h]; rfl)
  have T2 : Hid (Lib.hasPrefix x.data.toList optWay = true → Lib.trimPrefix x.data.toList optWay = x.data.toList.drop 5) := Lib.hid (fun h => by unfold Lib.trimPrefix; rw [h]; rfl)
  have HX := Lib.hid hx
  have HW := Lib.hid hw
  clear hx hw
  obtain ⟨Q, HQ⟩ : ∃ Q : Ending → World → Prop, Hid (Q = fun e w' => ∃ c st, e = .returned c ∧ PartSets x.data.toList st ∧ CloV w' c st ∧ Below w.heap.size w w') := ⟨_, Lib.hid rfl⟩
  rw [← HQ.out]
  go_enter Tryd.func49, Tryd.ntmps49
  go_wp2_with fail
  refine (H1.out _).mono ?_
  rintro e Z9 ⟨rfl, hz⟩
  rw [hz]
  clear hz Z9 H1
  cases hp : Lib.hasPrefix x.data.toList optSize with
  | true =>
    obtain ⟨n, b, hn, hK, hd⟩ := implReadDec_all (x.data.toList.drop 5)
    rw [T1.out hp]
    have K := Lib.hid (hK w)
    have HP : Hid (PartSets x.data.toList (.size n)) := Lib.hid (.inl ⟨hp, n, hn, rfl, fun m hm e => by
      rcases hd with ⟨_, h⟩ | ⟨_, _, h⟩
      · exact dec_inj _ _ (h.trans e.symm)
      · exact absurd e (h m hm)⟩)
    clear hK hd hp T1 T2 H2
    generalize x.data.toList.drop 5 = r at *
    go_wp2_with fail
    refine (K.out).mono ?_
    rintro e Z1 ⟨rfl, hb⟩
    have HB := Lib.hid hb
    clear hb K
    go_wp2_with fail
    refine (withSize_own n Z1).mono ?_
    rintro e Z2 ⟨c, rfl, hc, hb⟩
    have E : Hid (Q (.returned c) Z2) := by
      rw [HQ.out]
      exact Lib.hid ⟨c, _, rfl, HP.out, hc, HB.out.trans (hb.mono HB.out.size)⟩
    clear hc hb
    go_wp2_with fail
    exact E.out
  | false =>
    generalize Lib.trimPrefix x.data.toList optSize = r0
    go_wp2_with fail
    refine (H2.out _).mono ?_
    rintro e Z9 ⟨rfl, hz⟩
    rw [hz]
    clear hz Z9 H2 T1
    cases hq : Lib.hasPrefix x.data.toList optWay with
    | true =>
      rw [T2.out hq]
      have HP : Hid (PartSets x.data.toList (.ways (waysIn x.data.toList))) := Lib.hid (.inr (.inl ⟨hp, hq, rfl⟩))
      have hsz : (⟨(x.data.toList.drop 5).toArray⟩ : ByteArray).size ≤ 1048576 := by
        have h1 : x.data.toList.length = x.size := by simp
        have h2 := HX.out
        show (x.data.toList.drop 5).toArray.size ≤ _
        simp only [List.size_toArray, List.length_drop]
        omega
      have K := Lib.hid (splitN_any ⟨(x.data.toList.drop 5).toArray⟩ 44 5 hsz (by decide) (by decide) w HW.out)
      clear hp hq T2 hsz
      unfold waysIn at HP
      generalize (⟨(x.data.toList.drop 5).toArray⟩ : ByteArray) = r at *
      generalize Lib.splitB ⟨#[44]⟩ 0 (min 5 (r.size + 1) - 1) r = qs at *
      go_wp2_with fail
      refine (K.out).mono ?_
      rintro e Z1 ⟨k, rfl, ho, hb⟩
      have HB := Lib.hid hb
      have HO := Lib.hid ho
      clear hb K ho
      go_wp2_with fail
      refine (withWays_own _ qs _ _ Z1 HO.out).mono ?_
      rintro e Z2 ⟨c, rfl, hc, hb⟩
      have E : Hid (Q (.returned c) Z2) := by
        rw [HQ.out]
        exact Lib.hid ⟨c, _, rfl, HP.out, hc, HB.out.trans (hb.mono HB.out.size)⟩
      clear hc hb HO
      go_wp2_with fail
      exact E.out
    | false =>
      generalize Lib.trimPrefix x.data.toList optWay = r1
      by_cases hx : x = ⟨#[112, 105, 101, 99, 101, 115]⟩
      · have HP : Hid (PartSets x.data.toList (.pieces true)) := Lib.hid (.inr (.inr ⟨hp, hq, true, rfl, ⟨fun _ => by rw [hx]; rfl, fun _ => rfl⟩⟩))
        have k1 : (x.toList == [112, 105, 101, 99, 101, 115]) = true := by rw [hx, ByteArray.toList_eq]; decide
        have k2 : (x.toList == (⟨#[112, 105, 101, 99, 101, 115]⟩ : ByteArray).toList) = true := by rw [hx]; simp
        clear hx hp hq T2
        go_wp2_with fail
        refine (withPieces_own true w).mono ?_
        rintro e Z2 ⟨c, rfl, hc, hb⟩
        have E : Hid (Q (.returned c) Z2) := by
          rw [HQ.out]
          exact Lib.hid ⟨c, _, rfl, HP.out, hc, hb⟩
        clear hc hb
        go_wp2_with fail
        exact E.out
      · have HP : Hid (PartSets x.data.toList (.pieces false)) := Lib.hid (.inr (.inr ⟨hp, hq, false, rfl, ⟨fun e => (by cases e), fun e => absurd (bytes_one e) hx⟩⟩))
        have k1 : (x.toList == [112, 105, 101, 99, 101, 115]) = false := by
          have := texts_ne hx
          rw [show (⟨#[112, 105, 101, 99, 101, 115]⟩ : ByteArray).toList = [112, 105, 101, 99, 101, 115] by rw [ByteArray.toList_eq]] at this
          exact this
        have k2 := texts_ne hx
        clear hx hp hq T2
        go_wp2_with fail
        refine (withPieces_own false w).mono ?_
        rintro e Z2 ⟨c, rfl, hc, hb⟩
        have E : Hid (Q (.returned c) Z2) := by
          rw [HQ.out]
          exact Lib.hid ⟨c, _, rfl, HP.out, hc, hb⟩
        clear hc hb
        go_wp2_with fail
        exact E.out

end Go.Proofs.YtmgdhlodifkemadDoor

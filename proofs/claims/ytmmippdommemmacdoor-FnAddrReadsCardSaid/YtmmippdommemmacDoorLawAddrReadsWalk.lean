/-
  The law on words that are read as an address or a prefix: its walk.
-/
import Derived.Test.YtmmippdommemmacDoorAddrFns
import Derived.Test.YtmmippdommemmacDoorDrawWords
namespace Go.Proofs.YtmmippdommemmacDoor
open Go.RowKit

set_option maxRecDepth 100000 in
theorem bigA_any (a : Option Addr) (len cap : Nat) (w : World) :
    Calls Tryd.prog 4 #[.slice a len cap] w fun e w' => e = .returned (.bool (decide (1048576 < (len : Int)))) ∧ w' = w := by
  go_enter Tryd.func4, Tryd.ntmps4
  go_wp2
  go_ret
  exact ⟨rfl, rfl⟩
set_option maxRecDepth 100000 in
set_option maxHeartbeats 400000 in
theorem lawAddrReads_big (a : Option Addr) (len cap : Nat) (h : 1048576 < len) (w : World) :
    Calls Tryd.prog 3 #[.slice a len cap] w fun e w' => e = .returned (.bool true) ∧ Below w.heap.size w w' := by
  have hd : decide (1048576 < (len : Int)) = true := decide_eq_true (by omega)
  have HB := Lib.hid (fun w => bigA_any a len cap w)
  rw [hd] at HB
  clear hd
  go_enter Tryd.func3, Tryd.ntmps3
  go_wp2_with fail
  refine (HB.out _).mono ?_
  rintro e w1 ⟨rfl, rfl⟩
  go_wp2_with fail
  go_ret
  exact ⟨rfl, Below.refl _ _⟩

set_option maxRecDepth 100000 in
set_option maxHeartbeats 1600000 in
theorem lawAddrReadsF (L : World → Prop) (F : AddrFns L) (a : Option Addr) (len cap : Nat) (w : World) (H : Src a len w) (ht : L w) :
    Calls Tryd.prog 3 #[.slice a len cap] w fun e w' => e = .returned (.bool true) ∧ Below w.heap.size w w' := by
  have hd : decide (1048576 < (len : Int)) = false := decide_eq_false (by have := H.few; omega)
  have HB := Lib.hid (fun w => bigA_any a len cap w)
  rw [hd] at HB
  have HS := Lib.hid H
  have HT : Hid (∀ X, Below w.heap.size w X → L X) := fun X hX => F.stays w X ht hX
  have FF := Lib.hid F
  clear H ht hd F
  go_enter Tryd.func3, Tryd.ntmps3
  go_wp2_with fail
  refine (HB.out _).mono ?_
  rintro e w0 ⟨rfl, rfl⟩
  go_wp2_with fail
  refine (drawReadAddr_any a len cap _ HS.out).mono ?_
  rintro e w1 ⟨s, hs, rfl, hb1⟩
  have HB1 := Lib.hid hb1
  clear hb1
  obtain ⟨x, b, hx, hRead, hSpec, hText⟩ : ∃ (x : Nat) (b : Bool), x ≤ 4294967295 ∧ (∀ X, L X → Calls Tryd.prog 6 #[.string s] X fun e X' => e = .returned (.tuple #[.int .i64 (x : Nat), .bool b]) ∧ Below X.heap.size X X') ∧ (∀ X, Calls Tryd.prog 7 #[.string s] X fun e X' => e = .returned (.tuple #[.int .i64 (x : Nat), .bool b]) ∧ Below X.heap.size X X') ∧ (b = true → ∀ X, L X → Calls Tryd.prog 12 #[.int .i64 x] X fun e X' => e = .returned (.string s) ∧ Below X.heap.size X X') := by
    rcases addr_or s with ⟨x, hx, rfl⟩ | h
    · exact ⟨x, true, hx, FF.out.read_yes x hx, specReadAddr_yes x hx, fun _ => FF.out.text_yes x hx⟩
    · exact ⟨0, false, by omega, FF.out.read_no s (by omega) h, specReadAddr_no s (by omega) h, fun h => by cases h⟩
  have HR := Lib.hid hRead
  have HSp := Lib.hid hSpec
  have HTx := Lib.hid hText
  clear hRead hSpec hText
  go_wp2_with fail
  refine (HR.out _ (HT.out _ HB1.out)).mono ?_
  rintro e w2 ⟨rfl, hb2⟩
  have HB2 := Lib.hid (HB1.out.trans (hb2.mono HB1.out.size))
  clear hb2
  go_wp2_with fail
  refine (HSp.out _).mono ?_
  rintro e w3 ⟨rfl, hb3⟩
  have HB3 := Lib.hid (HB2.out.trans (hb3.mono HB2.out.size))
  clear hb3
  go_wp2_with fail
  refine (drawReadPrefix_any a len cap _ (HS.out.below HB3.out)).mono ?_
  rintro e w4 ⟨t, ht, rfl, hb4⟩
  have HB4 := Lib.hid (HB3.out.trans (hb4.mono HB3.out.size))
  clear hb4
  obtain ⟨p, n, c, u, ok, hPR, hPS, hPT, hOk⟩ : ∃ (p n : Nat) (c : Bool) (u : ByteArray) (ok : Bool), (∀ X, L X → Calls Tryd.prog 9 #[.string t] X fun e X' => e = .returned (.tuple #[.agg #[.int .i64 (p : Nat), .int .i64 (n : Nat)], .bool c]) ∧ Below X.heap.size X X') ∧ (∀ X, Calls Tryd.prog 10 #[.string t] X fun e X' => e = .returned (.tuple #[.agg #[.int .i64 (p : Nat), .int .i64 (n : Nat)], .bool c]) ∧ Below X.heap.size X X') ∧ (∀ X, L X → Calls Tryd.prog 11 #[.agg #[.int .i64 (p : Nat), .int .i64 (n : Nat)]] X fun e X' => e = .returned (.tuple #[.string u, .bool ok]) ∧ Below X.heap.size X X') ∧ (c = true → u = t ∧ ∀ X, Calls Tryd.prog 13 #[.agg #[.int .i64 (p : Nat), .int .i64 (n : Nat)]] X fun e X' => e = .returned (.bool true) ∧ Below X.heap.size X X') := by
    rcases pref_or t with ⟨p, n, hp, rfl⟩ | h
    · exact ⟨p, n, true, _, true, FF.out.pread_yes p n hp, specReadPrefix_yes p n hp, FF.out.ptext_yes p n hp, fun _ => ⟨rfl, specPrefixOk_right p n hp⟩⟩
    · exact ⟨0, 0, false, _, true, FF.out.pread_no t (by omega) h, specReadPrefix_no t (by omega) h, FF.out.ptext_yes 0 0 (prefOk_nat 0 0 (by omega) (by omega) (by decide)), fun h => by cases h⟩
  have KR := Lib.hid hPR
  have KS := Lib.hid hPS
  have KT := Lib.hid hPT
  have KO := Lib.hid hOk
  clear hPR hPS hPT hOk hs ht
  go_wp2_with fail
  refine (KR.out _ (HT.out _ HB4.out)).mono ?_
  rintro e w5 ⟨rfl, hb5⟩
  have HB5 := Lib.hid (HB4.out.trans (hb5.mono HB4.out.size))
  have V5 := Lib.hid (VarP.new w5 PT (.int .i64 p) (.int .i64 n))
  have B5 : Below w5.heap.size w5 (w5.alloc (.cells #[.int .i64 p, .int .i64 n] PT)) := (Below.refl _ _).alloc (Nat.le_refl _) _
  have HB5' := Lib.hid (HB5.out.trans (B5.mono HB5.out.size))
  clear hb5 B5
  go_wp2_with fail
  refine (KS.out _).mono ?_
  rintro e w6 ⟨rfl, hb6⟩
  have V6 := Lib.hid (V5.out.next hb6)
  have HB6 := Lib.hid (HB5'.out.trans (hb6.mono HB5'.out.size))
  have B6 : Below w6.heap.size w6 (w6.alloc (.cells #[.int .i64 p, .int .i64 n] PT)) := (Below.refl _ _).alloc (Nat.le_refl _) _
  have V7 := Lib.hid (V6.out.next B6)
  have HB7 := Lib.hid (HB6.out.trans (B6.mono HB6.out.size))
  have c0 := V7.out.c0
  have c1 := V7.out.c1
  clear hb6 B6
  go_wp2_with fail
  refine (KT.out _ (HT.out _ HB7.out)).mono ?_
  rintro e w8 ⟨rfl, hb8⟩
  have V8 := Lib.hid (V7.out.next hb8)
  have HB8 := Lib.hid (HB7.out.trans (hb8.mono HB7.out.size))
  have d0 := V8.out.c0
  have d1 := V8.out.c1
  clear hb8 c0 c1
  cases b
  · cases c
    · go_wp2_with fail
      go_ret
      exact ⟨rfl, HB8.out⟩
    · obtain ⟨rfl, hk⟩ := KO.out rfl
      have KK := Lib.hid hk
      clear hk KO
      go_wp2_with fail
      refine (KK.out _).mono ?_
      rintro e w9 ⟨rfl, hb9⟩
      have HB9 := Lib.hid (HB8.out.trans (hb9.mono HB8.out.size))
      clear hb9
      go_wp2_with fail
      go_ret
      exact ⟨rfl, HB9.out⟩
  · have KX := Lib.hid (HTx.out rfl)
    go_wp2_with fail
    refine (KX.out _ (HT.out _ HB8.out)).mono ?_
    rintro e w9 ⟨rfl, hb9⟩
    have V9 := Lib.hid (V8.out.next hb9)
    have HB9 := Lib.hid (HB8.out.trans (hb9.mono HB8.out.size))
    have e0 := V9.out.c0
    have e1 := V9.out.c1
    clear hb9 d0 d1
    cases c
    · go_wp2_with fail
      go_ret
      exact ⟨rfl, HB9.out⟩
    · obtain ⟨rfl, hk⟩ := KO.out rfl
      have KK := Lib.hid hk
      clear hk KO
      go_wp2_with fail
      refine (KK.out _).mono ?_
      rintro e w10 ⟨rfl, hb10⟩
      have HB10 := Lib.hid (HB9.out.trans (hb10.mono HB9.out.size))
      clear hb10
      go_wp2_with fail
      go_ret
      exact ⟨rfl, HB10.out⟩

end Go.Proofs.YtmmippdommemmacDoor

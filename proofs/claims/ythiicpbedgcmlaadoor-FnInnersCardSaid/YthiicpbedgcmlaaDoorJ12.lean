/-
  The law on inner packets, out of the program's contracts.
  The law FnInners, out of the program's contracts.
-/
import Derived.Test.YthiicpbedgcmlaaDoorJ04
import Derived.Test.YthiicpbedgcmlaaDoorJ11
import Derived.Test.YthiicpbedgcmlaaDoorJ09
namespace Go.Proofs.YthiicpbedgcmlaaDoor
open Go.RowKit

set_option maxRecDepth 100000 in
theorem bigI_any (a : Option Addr) (len cap : Nat) (w : World) :
    Calls Tryd.prog 7 #[.slice a len cap] w fun e w' => e = .returned (.bool (decide (1048576 < (len : Int)))) ∧ w' = w := by
  go_enter Tryd.func7, Tryd.ntmps7
  go_wp2
  go_ret
  exact ⟨rfl, rfl⟩

set_option maxRecDepth 100000 in
set_option maxHeartbeats 3200000 in
theorem lawInnersF {L : World → Prop} (F0 : InnerFns L) (sa : Option Addr) (len cap : Nat) (w : World) (H : Src sa len w) (hL : L w) :
    Calls Tryd.prog 3 #[.slice sa len cap] w fun e w' => e = .returned (.bool true) ∧ Below w.heap.size w w' := by
  have hd : decide (1048576 < (len : Int)) = false := decide_eq_false (by have := H.few; omega)
  have HBG := Lib.hid (fun w => bigI_any sa len cap w)
  rw [hd] at HBG
  have HS := Lib.hid H
  have F := Lib.hid F0
  have LL := Lib.hid (fun X hb => F0.stays w X hL hb)
  clear H hd F0 hL
  go_enter Tryd.func3, Tryd.ntmps3
  go_wp2_with fail
  refine (HBG.out _).mono ?_
  rintro e w0 ⟨rfl, hw⟩
  rw [hw]
  clear hw w0 HBG
  go_wp2_with fail
  refine (drawInnerText_any sa len cap w HS.out).mono ?_
  rintro e w1 ⟨x, y, t, ⟨_, _, ht⟩, rfl, hb⟩
  have V1 := Lib.hid (VarA.new w1 InnerT #[.int .i64 x, .int .i64 y, .string t])
  have B := Lib.hid (hb.alloc hb.size (.cells #[.int .i64 x, .int .i64 y, .string t] InnerT))
  clear hb
  go_upto_region 4 with fail
  generalize w1.alloc (.cells #[.int .i64 x, .int .i64 y, .string t] InnerT) = w2 at *
  generalize w1.heap.size = q1 at *
  obtain ⟨s, ok, hs⟩ := innerText_is x y t
  have hss := innerT_size hs
  have KT := Lib.hid (F.out.text x y t s ok hs (by omega))
  have c0 : w2.cell? ⟨q1, 0, none⟩ = some (.int .i64 x) := V1.out.cell 0
  have c1 : w2.cell? ⟨q1, 1, none⟩ = some (.int .i64 y) := V1.out.cell 1
  have c2 : w2.cell? ⟨q1, 2, none⟩ = some (.string t) := V1.out.cell 2
  go_wp2_with fail
  refine (KT.out _ (LL.out _ B.out)).mono ?_
  rintro e w3 ⟨rfl, hb⟩
  replace V1 := Lib.hid (V1.out.next hb)
  replace B := Lib.hid (B.out.trans (hb.mono B.out.size))
  clear hb c0 c1 c2
  obtain ⟨a, b, u, right, hr, hback⟩ : ∃ a b u right, ReadInnerIs s a b u right ∧ (ok = true → a = x ∧ b = y ∧ u = t ∧ right = true) := by
    cases ok with
    | true => exact ⟨x, y, t, true, read_text hs, fun _ => ⟨rfl, rfl, rfl, rfl⟩⟩
    | false =>
      obtain ⟨a, b, u, r, h⟩ := readInner_is s
      exact ⟨a, b, u, r, h, fun e => by cases e⟩
  have HB := Lib.hid hback
  have HOK : Hid (ok = true ↔ InnerP x y t) := Lib.hid (by
    rcases hs with ⟨rfl, h, -⟩ | ⟨rfl, h, -⟩
    · exact ⟨fun _ => h, fun _ => rfl⟩
    · exact ⟨fun e => (by cases e), fun e => absurd e h⟩)
  have KR := Lib.hid (F.out.read s a b u right hr (by omega) w3 (LL.out _ B.out))
  clear hback hs hr
  go_wp2_with fail
  refine (KR.out).mono ?_
  rintro e w4 ⟨rfl, hb⟩
  replace V1 := Lib.hid ((V1.out.next hb).alloc (.cells #[.int .i64 a, .int .i64 b, .string u] InnerT))
  replace B := Lib.hid (B.out.trans (hb.mono B.out.size))
  replace B := Lib.hid (B.out.alloc B.out.size (.cells #[.int .i64 a, .int .i64 b, .string u] InnerT))
  have V2 := Lib.hid (VarA.new w4 InnerT #[.int .i64 a, .int .i64 b, .string u])
  clear hb KR KT
  go_upto_region 6 with fail
  generalize w4.alloc (.cells #[.int .i64 a, .int .i64 b, .string u] InnerT) = w5 at *
  generalize w4.heap.size = q2 at *
  go_wp2_with fail
  refine (drawReadInner_any sa len cap w5 (HS.out.below B.out)).mono ?_
  rintro e w6 ⟨p, hp, rfl, hb⟩
  replace V1 := Lib.hid (V1.out.next hb)
  replace V2 := Lib.hid (V2.out.next hb)
  replace B := Lib.hid (B.out.trans (hb.mono B.out.size))
  clear hb HS
  obtain ⟨c, d, v, may, hm⟩ := readInner_is p
  have KR := Lib.hid (F.out.read p c d v may hm (by omega) w6 (LL.out _ B.out))
  have KS := Lib.hid (fun X => specReadInner_any p c d v may (by omega) hm X)
  go_wp2_with fail
  refine (KR.out).mono ?_
  rintro e w7 ⟨rfl, hb⟩
  replace V1 := Lib.hid ((V1.out.next hb).alloc (.cells #[.int .i64 c, .int .i64 d, .string v] InnerT))
  replace V2 := Lib.hid ((V2.out.next hb).alloc (.cells #[.int .i64 c, .int .i64 d, .string v] InnerT))
  replace B := Lib.hid (B.out.trans (hb.mono B.out.size))
  replace B := Lib.hid (B.out.alloc B.out.size (.cells #[.int .i64 c, .int .i64 d, .string v] InnerT))
  have V3 := Lib.hid (VarA.new w7 InnerT #[.int .i64 c, .int .i64 d, .string v])
  clear hb KR
  go_upto_region 8 with fail
  generalize w7.alloc (.cells #[.int .i64 c, .int .i64 d, .string v] InnerT) = w8 at *
  generalize w7.heap.size = q3 at *
  go_wp2_with fail
  refine (KS.out _).mono ?_
  rintro e w9 ⟨rfl, hb⟩
  replace V1 := Lib.hid ((V1.out.next hb).alloc (.cells #[.int .i64 c, .int .i64 d, .string v] InnerT))
  replace V2 := Lib.hid ((V2.out.next hb).alloc (.cells #[.int .i64 c, .int .i64 d, .string v] InnerT))
  replace V3 := Lib.hid ((V3.out.next hb).alloc (.cells #[.int .i64 c, .int .i64 d, .string v] InnerT))
  replace B := Lib.hid (B.out.trans (hb.mono B.out.size))
  replace B := Lib.hid (B.out.alloc B.out.size (.cells #[.int .i64 c, .int .i64 d, .string v] InnerT))
  clear hb KS
  go_upto_region 9 with fail
  generalize w9.alloc (.cells #[.int .i64 c, .int .i64 d, .string v] InnerT) = w10 at *
  obtain ⟨g, gk, hg, hgain⟩ : ∃ g gk, InnerTextIs c d v g gk ∧ (may = true → g = p) := by
    cases may with
    | true => exact ⟨p, true, text_read hm, fun _ => rfl⟩
    | false =>
      obtain ⟨g, gk, h⟩ := innerText_is c d v
      exact ⟨g, gk, h, fun e => by cases e⟩
  have hv : v.size ≤ 1048576 := by
    rcases hm with ⟨-, h, -, -, rfl⟩ | ⟨-, -, -, -, rfl⟩
    · rw [ByteArray.size_extract]; omega
    · exact Nat.zero_le _
  have KT := Lib.hid (F.out.text c d v g gk hg hv w10 (LL.out _ B.out))
  have HG := Lib.hid hgain
  clear hg hgain hm hv
  have c0 : w10.cell? ⟨q3, 0, none⟩ = some (.int .i64 c) := V3.out.cell 0
  have c1 : w10.cell? ⟨q3, 1, none⟩ = some (.int .i64 d) := V3.out.cell 1
  have c2 : w10.cell? ⟨q3, 2, none⟩ = some (.string v) := V3.out.cell 2
  go_wp2_with fail
  refine (KT.out).mono ?_
  rintro e w11 ⟨rfl, hb⟩
  replace V1 := Lib.hid (V1.out.next hb)
  replace V2 := Lib.hid (V2.out.next hb)
  replace B := Lib.hid (B.out.trans (hb.mono B.out.size))
  clear hb KT c0 c1 c2 V3
  have KO := Lib.hid (fun X => specInnerOk_bool x y t ok HOK.out X)
  have KI := Lib.hid (fun X hX => F.out.ok x y t ok HOK.out (by omega) X (LL.out _ (hX)))
  have hoo : (ok == ok) = true := beq_self_eq_true _
  have hmm : (may == may) = true := beq_self_eq_true _
  have c0 : w11.cell? ⟨q1, 0, none⟩ = some (.int .i64 x) := V1.out.cell 0
  have c1 : w11.cell? ⟨q1, 1, none⟩ = some (.int .i64 y) := V1.out.cell 1
  have c2 : w11.cell? ⟨q1, 2, none⟩ = some (.string t) := V1.out.cell 2
  go_wp2_with fail
  refine (KO.out _).mono ?_
  rintro e w12 ⟨rfl, hb⟩
  replace V1 := Lib.hid (V1.out.next hb)
  replace V2 := Lib.hid (V2.out.next hb)
  replace B := Lib.hid (B.out.trans (hb.mono B.out.size))
  clear hb KO c0 c1 c2
  have c0 : w12.cell? ⟨q1, 0, none⟩ = some (.int .i64 x) := V1.out.cell 0
  have c1 : w12.cell? ⟨q1, 1, none⟩ = some (.int .i64 y) := V1.out.cell 1
  have c2 : w12.cell? ⟨q1, 2, none⟩ = some (.string t) := V1.out.cell 2
  go_wp2_with fail
  refine (KI.out _ B.out).mono ?_
  rintro e w13 ⟨rfl, hb⟩
  replace V1 := Lib.hid (V1.out.next hb)
  replace V2 := Lib.hid (V2.out.next hb)
  replace B := Lib.hid (B.out.trans (hb.mono B.out.size))
  clear hb KI c0 c1 c2
  cases ok with
  | true =>
    obtain ⟨rfl, rfl, rfl, rfl⟩ := HB.out rfl
    have c0 : w13.cell? ⟨q1, 0, none⟩ = some (.int .i64 a) := V1.out.cell 0
    have c1 : w13.cell? ⟨q1, 1, none⟩ = some (.int .i64 b) := V1.out.cell 1
    have c2 : w13.cell? ⟨q1, 2, none⟩ = some (.string u) := V1.out.cell 2
    have d0 : w13.cell? ⟨q2, 0, none⟩ = some (.int .i64 a) := V2.out.cell 0
    have d1 : w13.cell? ⟨q2, 1, none⟩ = some (.int .i64 b) := V2.out.cell 1
    have d2 : w13.cell? ⟨q2, 2, none⟩ = some (.string u) := V2.out.cell 2
    have HE := inner_same a b u w13
    cases may with
    | true =>
      obtain rfl := HG.out rfl
      have hgg : (g.toList == g.toList) = true := beq_self_eq_true _
      go_wp2_with fail
      go_ret
      exact ⟨rfl, B.out⟩
    | false =>
      go_wp2_with fail
      go_ret
      exact ⟨rfl, B.out⟩
  | false =>
    cases may with
    | true =>
      obtain rfl := HG.out rfl
      have hgg : (g.toList == g.toList) = true := beq_self_eq_true _
      go_wp2_with fail
      go_ret
      exact ⟨rfl, B.out⟩
    | false =>
      go_wp2_with fail
      go_ret
      exact ⟨rfl, B.out⟩

end Go.Proofs.YthiicpbedgcmlaaDoor
namespace Go.Proofs.YthiicpbedgcmlaaDoor
open Go.RowKit

set_option maxRecDepth 100000 in
set_option maxHeartbeats 800000 in
theorem lawInners_big (a : Option Addr) (len cap : Nat) (h : 1048576 < len) (w : World) :
    Calls Tryd.prog 3 #[.slice a len cap] w fun e w' => e = .returned (.bool true) ∧ Below w.heap.size w w' := by
  have hd : decide (1048576 < (len : Int)) = true := decide_eq_true (by omega)
  have HB := Lib.hid (fun w => bigI_any a len cap w)
  rw [hd] at HB
  clear hd
  go_enter Tryd.func3, Tryd.ntmps3
  go_wp2_with fail
  refine (HB.out _).mono ?_
  rintro e w1 ⟨rfl, rfl⟩
  go_wp2_with fail
  go_ret
  exact ⟨rfl, Below.refl _ _⟩

/-- The law, at every row of bytes. -/
theorem lawInners (a : Option Addr) (len cap : Nat) (w : World) (H : Src a len w) (hL : LaidE w) :
    Calls Tryd.prog 3 #[.slice a len cap] w fun e w' => e = .returned (.bool true) ∧ Below w.heap.size w w' := lawInnersF innerFns a len cap w H hL

end Go.Proofs.YthiicpbedgcmlaaDoor

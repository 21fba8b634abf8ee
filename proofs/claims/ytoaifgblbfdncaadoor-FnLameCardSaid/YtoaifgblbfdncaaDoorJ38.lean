/-
  The program's Install, with the library's Clone.
  The program's NextKeys.
-/
import Derived.Test.YtoaifgblbfdncaaDoorJ30
import Derived.Test.YtoaifgblbfdncaaDoorJ37
import Derived.Test.YtoaifgblbfdncaaDoorJ14
import Derived.Test.YtoaifgblbfdncaaDoorJ21
namespace Go.Proofs.YtoaifgblbfdncaaDoor
open Go.RowKit

theorem implInstall_any (x0 : Int) (x1 x2 : ByteArray) (x3 : Int) (v4 : Value) (r4 : List Int) (x5 : Int) (y0 : Int) (y1 y2 : ByteArray) (y3 : Int) (u4 : Value) (s4 : List Int) (y5 : Int) (send op : ByteArray) (now : Int) (q1 : send.size ≤ 1048576) (q2 : op.size ≤ 1048576) (f1 : FitsSlot x1 x2 r4) (f2 : FitsSlot y1 y2 s4) (gx : SlG x0 x1 x2 x3 r4 x5) (gy : SlG y0 y1 y2 y3 s4 y5) (_hwn : IntZ now) (w : World) (h : layIntS.rd w [v4] r4) (k : layIntS.rd w [u4] s4) :
    Calls Tryd.prog 16 #[.agg #[.int .i64 x0, .string x1, .string x2, .int .i64 x3, v4, .int .i64 x5, .int .i64 y0, .string y1, .string y2, .int .i64 y3, u4, .int .i64 y5], .string send, .string op, .int .i64 now] w (InstallEnd x0 x1 x2 x3 r4 x5 y0 y1 y2 y3 s4 y5 send op now w) :=
  implInstall_of cloneS x0 x1 x2 x3 v4 r4 x5 y0 y1 y2 y3 u4 s4 y5 send op now q1 q2 f1 f2 gx gy w h k

end Go.Proofs.YtoaifgblbfdncaaDoor
namespace Go.Proofs.YtoaifgblbfdncaaDoor
open Go.RowKit

set_option maxRecDepth 100000 in
set_option maxHeartbeats 800000 in
theorem implNextKeys_any (a b : ByteArray) (ha : a.size ≤ 400000000) (hb : b.size ≤ 400000000) (w : World) (ht : LaidK w) :
    Calls Tryd.prog 24 #[.string a, .string b] w fun e w' => e = .returned (.tuple #[.string (nextK a), .string (nextK b)]) ∧ Below w.heap.size w w' := by
  have e1 : (⟨#[107]⟩ : ByteArray).size = 1 := rfl
  have H1 := Lib.hid (implDigP_any (a ++ ⟨#[107]⟩) (by rw [ByteArray.size_append, e1]; omega))
  have H2 := Lib.hid (implDigP_any (b ++ ⟨#[107]⟩) (by rw [ByteArray.size_append, e1]; omega))
  have k1 : ¬ (9223372036854775807 < a.size + 1) := by omega
  have k2 : ¬ (9223372036854775807 < b.size + 1) := by omega
  have D1 : Hid (nextK a = digP (a ++ ⟨#[107]⟩)) := Lib.hid rfl
  have D2 : Hid (nextK b = digP (b ++ ⟨#[107]⟩)) := Lib.hid rfl
  rw [← D1.out] at H1
  rw [← D2.out] at H2
  have HT := Lib.hid ht
  clear e1 D1 D2 ht
  generalize nextK a = na at *
  generalize nextK b = nb at *
  go_enter Tryd.func24, Tryd.ntmps24
  go_wp2_with fail
  refine (H1.out _ HT.out).mono ?_
  rintro e w1 ⟨rfl, hb1⟩
  have B1 := Lib.hid hb1
  have HT1 := Lib.hid (HT.out.stays hb1 (Nat.le_refl _))
  clear hb1
  go_wp2_with fail
  refine (H2.out _ HT1.out).mono ?_
  rintro e w2 ⟨rfl, hb2⟩
  have B2 := Lib.hid (B1.out.trans (hb2.mono B1.out.size))
  clear hb2
  go_wp2_with fail
  go_ret2
  exact ⟨rfl, B2.out⟩

end Go.Proofs.YtoaifgblbfdncaaDoor

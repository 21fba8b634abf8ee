/-
  The exact law on SealData, at every argument.
-/
import Derived.Test.YtoaifgblbfdncaaGreatDoorJ42
import Derived.Test.YtoaifgblbfdncaaGreatDoorJ45
import Derived.Test.YtoaifgblbfdncaaGreatDoorJ39
namespace Go.Proofs.YtoaifgblbfdncaaGreatDoor
open Go.RowKit

set_option maxHeartbeats 1600000 in
theorem lawSealData (x0 : Int) (x1 x2 : ByteArray) (x3 : Int) (v4 : Value) (r4 : List Int) (x5 : Int) (y0 : Int) (y1 y2 : ByteArray) (y3 : Int) (u4 : Value) (s4 : List Int) (y5 : Int) (fr dst : Int) (body : ByteArray) (gx : SlG x0 x1 x2 x3 r4 x5) (gy : SlG y0 y1 y2 y3 s4 y5) (w : World) (ht : LaidK w) (ha : layIntS.rd w [v4] r4) (hb : layIntS.rd w [u4] s4) :
    Calls Tryz.prog 4 #[.agg #[.int .i64 x0, .string x1, .string x2, .int .i64 x3, v4, .int .i64 x5, .int .i64 y0, .string y1, .string y2, .int .i64 y3, u4, .int .i64 y5], .int .i64 fr, .int .i64 dst, .string body] w fun e w' => e = .returned (.bool true) ∧ Below w.heap.size w w' := by
  obtain ⟨c, k0, k1, k2, k3, k4, k6, ok, hi⟩ := seal_is x0 x1 x2 x3 r4 x5 y0 y1 y2 y3 s4 y5 fr dst body
  exact lawSealDataF (L := LaidK) x0 x1 x2 x3 v4 r4 x5 y0 y1 y2 y3 u4 s4 y5 fr dst body gx.s1 gx.s2 gx.r gy.s1 gy.s2 gy.r c k0 k1 k2 k3 k4 k6 ok (fun hz f1 f2 v u X hX h k => implSealData_any x0 x1 x2 x3 v r4 x5 y0 y1 y2 y3 u s4 y5 fr dst body c k0 k1 k2 k3 k4 k6 ok hi f1.1 f1.2.1 f2.1 f2.2.1 (by have := f1.2.2; unfold FitsInt at this; omega) (by have := f2.2.2; unfold FitsInt at this; omega) hz gx.rs gy.rs X hX h k) (fun hz f1 f2 v u X h k => (specSealData_any x0 x1 x2 x3 v r4 x5 y0 y1 y2 y3 u s4 y5 fr dst body f1.1 hz (by have := f1.2.2; unfold FitsInt at this; omega) (by have := f2.2.2; unfold FitsInt at this; omega) X h k).mono fun _ _ h => seal_made hi h) w (fun _ hb => ht.stays hb (Nat.le_refl _)) ha hb

end Go.Proofs.YtoaifgblbfdncaaGreatDoor

/-
  The exact law on StepBoth, at every argument.
-/
import Derived.Test.YtoaifgblbfdncabDoorJ35
import Derived.Test.YtoaifgblbfdncabDoorJ36
import Derived.Test.YtoaifgblbfdncabDoorJ37
import Derived.Test.YtoaifgblbfdncabDoorJ17
namespace Go.Proofs.YtoaifgblbfdncabDoor
open Go.RowKit

set_option maxHeartbeats 1600000 in
theorem lawStepBoth (x0 : Int) (x1 x2 : ByteArray) (x3 : Int) (v4 : Value) (r4 : List Int) (x5 : Int) (y0 : Int) (y1 y2 : ByteArray) (y3 : Int) (u4 : Value) (s4 : List Int) (y5 : Int) (now : Int) (gx : SlG x0 x1 x2 x3 r4 x5) (gy : SlG y0 y1 y2 y3 s4 y5) (hwn : IntZ now) (w : World) (ht : LaidK w) (ha : layIntS.rd w [v4] r4) (hb : layIntS.rd w [u4] s4) :
    Calls Tryd.prog 4 #[.agg #[.int .i64 x0, .string x1, .string x2, .int .i64 x3, v4, .int .i64 x5, .int .i64 y0, .string y1, .string y2, .int .i64 y3, u4, .int .i64 y5], .int .i64 now] w fun e w' => e = .returned (.bool true) ∧ Below w.heap.size w w' := by
  by_cases hr : r4.length ≤ 1048576 ∧ s4.length ≤ 1048576
  · by_cases hp : InstallP x0 x1 x2 x3 r4 x5 y0 y1 y2 y3 s4 y5 (nextK x1) (nextK x2) now
    · obtain ⟨u, hu⟩ := until_is x0 x1 x2 x3 r4 x5 now
      have he : ∀ (X : World) (e : Ending) (X' : World), InstallEnd x0 x1 x2 x3 r4 x5 y0 y1 y2 y3 s4 y5 (nextK x1) (nextK x2) now X e X' → SlotsMadeB (x0 + 1) (nextK x1) (nextK x2) 0 [] 0 x0 x1 x2 x3 r4 u true X e X' := by
        rintro X e X' ⟨z0, z1, z2, z3, t4, z5, n0, n1, n2, n3, o4, n5, ok, v, u', f, g, hc, rfl, hd, h1, h2, hbl⟩
        rcases hc with ⟨rfl, _, ⟨rfl, rfl, rfl, rfl, rfl, rfl⟩, rfl, rfl, rfl, rfl, rfl, hn⟩ | ⟨_, h, _⟩
        · obtain rfl : n5 = u := by
            rcases hn with ⟨a1, a2⟩ | ⟨a1, a2⟩ <;> rcases hu with ⟨b1, b2⟩ | ⟨b1, b2⟩
            · rw [a2, b2]
            · exact absurd a1 b1
            · exact absurd b1 a1
            · rw [a2, b2]
          exact ⟨v, u', f, g, rfl, hd, h1, h2, hbl⟩
        · exact absurd hp h
      exact lawStepBothF (L := LaidK) x0 x1 x2 x3 v4 r4 x5 y0 y1 y2 y3 u4 s4 y5 now gx.s1 gx.s2 gx.r gy.s1 gy.s2 gy.r (x0 + 1) (nextK x1) (nextK x2) 0 [] 0 x0 x1 x2 x3 r4 u true (by simp) (by omega) (fun f1 f2 v u X hX h k => (implStepBoth_any x0 x1 x2 x3 v r4 x5 y0 y1 y2 y3 u s4 y5 now f1 f2 gx gy hwn X hX h k).mono fun _ _ h => he _ _ _ h) (fun f1 f2 v u X h k => (specStepBoth_any x0 x1 x2 x3 v r4 x5 y0 y1 y2 y3 u s4 y5 now f1.1 f1.2.1 (by have := f1.2.2; unfold FitsInt at this; omega) (by have := f2.2.2; unfold FitsInt at this; omega) X h k).mono fun _ _ h => he _ _ _ h) w (fun _ hb => ht.stays hb (Nat.le_refl _)) ha hb
    · have he : ∀ (X : World) (e : Ending) (X' : World), InstallEnd x0 x1 x2 x3 r4 x5 y0 y1 y2 y3 s4 y5 (nextK x1) (nextK x2) now X e X' → SlotsMadeB x0 x1 x2 x3 r4 x5 y0 y1 y2 y3 s4 y5 false X e X' := by
        rintro X e X' ⟨z0, z1, z2, z3, t4, z5, n0, n1, n2, n3, o4, n5, ok, v, u', f, g, hc, rfl, hd, h1, h2, hbl⟩
        rcases hc with ⟨_, h, _⟩ | ⟨rfl, _, ⟨rfl, rfl, rfl, rfl, rfl, rfl⟩, rfl, rfl, rfl, rfl, rfl, rfl⟩
        · exact absurd h hp
        · exact ⟨v, u', f, g, rfl, hd, h1, h2, hbl⟩
      exact lawStepBothF (L := LaidK) x0 x1 x2 x3 v4 r4 x5 y0 y1 y2 y3 u4 s4 y5 now gx.s1 gx.s2 gx.r gy.s1 gy.s2 gy.r x0 x1 x2 x3 r4 x5 y0 y1 y2 y3 s4 y5 false (by omega) (by omega) (fun f1 f2 v u X hX h k => (implStepBoth_any x0 x1 x2 x3 v r4 x5 y0 y1 y2 y3 u s4 y5 now f1 f2 gx gy hwn X hX h k).mono fun _ _ h => he _ _ _ h) (fun f1 f2 v u X h k => (specStepBoth_any x0 x1 x2 x3 v r4 x5 y0 y1 y2 y3 u s4 y5 now f1.1 f1.2.1 (by have := f1.2.2; unfold FitsInt at this; omega) (by have := f2.2.2; unfold FitsInt at this; omega) X h k).mono fun _ _ h => he _ _ _ h) w (fun _ hb => ht.stays hb (Nat.le_refl _)) ha hb
  · exact lawStepBothF (L := LaidK) x0 x1 x2 x3 v4 r4 x5 y0 y1 y2 y3 u4 s4 y5 now gx.s1 gx.s2 gx.r gy.s1 gy.s2 gy.r 0 ⟨#[]⟩ ⟨#[]⟩ 0 [] 0 0 ⟨#[]⟩ ⟨#[]⟩ 0 [] 0 false (by simp) (by simp) (fun f1 f2 => absurd ⟨f1.2.2, f2.2.2⟩ hr) (fun f1 f2 => absurd ⟨f1.2.2, f2.2.2⟩ hr) w (fun _ hb => ht.stays hb (Nat.le_refl _)) ha hb

end Go.Proofs.YtoaifgblbfdncabDoor

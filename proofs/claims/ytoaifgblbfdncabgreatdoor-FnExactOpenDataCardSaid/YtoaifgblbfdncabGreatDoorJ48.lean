/-
  A packet as an argument, opened.
  The exact law on OpenData, at every argument.
-/
import Derived.Test.YtoaifgblbfdncabGreatDoorJ40
import Derived.Test.YtoaifgblbfdncabGreatDoorJ45
import Derived.Test.YtoaifgblbfdncabGreatDoorJ44
import Derived.Test.YtoaifgblbfdncabGreatDoorJ47
import Derived.Test.YtoaifgblbfdncabGreatDoorJ41
namespace Go.Proofs.YtoaifgblbfdncabGreatDoor
open Go.ChangeShapes Go.WideShapes Go.RowKit

def wfP (x : Int) : Prop := (Lit.int .i64 x).wf = true
def layPkA : Lay (Int × Int × Int × Int × Int × List Int × ByteArray) := .pair .int (.pair .int (.pair .int (.pair .int (.pair .int (.pair layIntS .str)))))
theorem layPkA_rd {w : World} {cs : List Value} {x : Int × Int × Int × Int × Int × List Int × ByteArray} (h : layPkA.rd w cs x) : ∃ v, cs = [.int .i64 x.1, .int .i64 x.2.1, .int .i64 x.2.2.1, .int .i64 x.2.2.2.1, .int .i64 x.2.2.2.2.1, v, .string x.2.2.2.2.2.2] ∧ layIntS.rd w [v] x.2.2.2.2.2.1 := by
  obtain ⟨c1, d1, rfl, rfl, c2, d2, rfl, rfl, c3, d3, rfl, rfl, c4, d4, rfl, rfl, c5, d5, rfl, rfl, c6, d6, rfl, ⟨v, rfl, h6⟩, rfl⟩ := h
  exact ⟨v, rfl, ⟨v, rfl, h6⟩⟩
set_option maxRecDepth 100000 in
theorem opensPkA {H : Type} (enc : TypeId × Value → H) (W : World) : Opens enc Tryz.prog W layPkA LPkT (fun x => wfP x.1 ∧ wfP x.2.1 ∧ wfP x.2.2.1 ∧ wfP x.2.2.2.1 ∧ wfP x.2.2.2.2.1 ∧ (x.2.2.2.2.2.1.length ≤ maxLen ∧ ∀ y ∈ x.2.2.2.2.2.1, wfP y) ∧ x.2.2.2.2.2.2.size ≤ maxLen) := by
  refine Opens.struct (A := layPkA) Tryz.underlying28 (by kernel_rfl) ?_
  refine OpensF.cons (A := Lay.int) (B := .pair .int (.pair .int (.pair .int (.pair .int (.pair layIntS .str))))) (G := wfP) (K := fun x => wfP x.1 ∧ wfP x.2.1 ∧ wfP x.2.2.1 ∧ wfP x.2.2.2.1 ∧ (x.2.2.2.2.1.length ≤ maxLen ∧ ∀ y ∈ x.2.2.2.2.1, wfP y) ∧ x.2.2.2.2.2.size ≤ maxLen) rfl (by kernel_rfl) (Opens.int Tryz.underlying3) ?_
  refine OpensF.cons (A := Lay.int) (B := .pair .int (.pair .int (.pair .int (.pair layIntS .str)))) (G := wfP) (K := fun x => wfP x.1 ∧ wfP x.2.1 ∧ wfP x.2.2.1 ∧ (x.2.2.2.1.length ≤ maxLen ∧ ∀ y ∈ x.2.2.2.1, wfP y) ∧ x.2.2.2.2.size ≤ maxLen) rfl (by kernel_rfl) (Opens.int Tryz.underlying3) ?_
  refine OpensF.cons (A := Lay.int) (B := .pair .int (.pair .int (.pair layIntS .str))) (G := wfP) (K := fun x => wfP x.1 ∧ wfP x.2.1 ∧ (x.2.2.1.length ≤ maxLen ∧ ∀ y ∈ x.2.2.1, wfP y) ∧ x.2.2.2.size ≤ maxLen) rfl (by kernel_rfl) (Opens.int Tryz.underlying3) ?_
  refine OpensF.cons (A := Lay.int) (B := .pair .int (.pair layIntS .str)) (G := wfP) (K := fun x => wfP x.1 ∧ (x.2.1.length ≤ maxLen ∧ ∀ y ∈ x.2.1, wfP y) ∧ x.2.2.size ≤ maxLen) rfl (by kernel_rfl) (Opens.int Tryz.underlying3) ?_
  refine OpensF.cons (A := Lay.int) (B := .pair layIntS .str) (G := wfP) (K := fun x => (x.1.length ≤ maxLen ∧ ∀ y ∈ x.1, wfP y) ∧ x.2.size ≤ maxLen) rfl (by kernel_rfl) (Opens.int Tryz.underlying3) ?_
  refine OpensF.cons (A := layIntS) (B := .str) (G := fun y => y.length ≤ maxLen ∧ ∀ z ∈ y, wfP z) (K := fun x => x.size ≤ maxLen) rfl (by kernel_rfl) (Opens.rows 3 Tryz.underlying22 (by kernel_rfl) (Opens.int Tryz.underlying3)) ?_
  exact OpensF.last (A := Lay.str) rfl (by kernel_rfl) (Opens.str Tryz.underlying9)
set_option maxRecDepth 100000 in
theorem open_packet {H : Type} {enc : TypeId × Value → H} {W : World} {r : Reach} {base : Nat} {v : Value} {d : DataW H} {p : List MemPlace} (hok : Value.okWide Tryz.prog W r base LPkT v) (h : DataW.Trod enc Tryz.prog W 0 (fun _ => true) true LPkT v d p) :
    ∃ (op key fr dst num : Int) (u : Value) (xs : List Int) (body : ByteArray), v = .agg #[.int .i64 op, .int .i64 key, .int .i64 fr, .int .i64 dst, .int .i64 num, u, .string body] ∧ layIntS.rd W [u] xs ∧ xs.length ≤ maxLen ∧ body.size ≤ maxLen := by
  obtain ⟨cs, x, rfl, hx, hg⟩ := Opens.agg (opensPkA enc W) Tryz.underlying28 hok h
  obtain ⟨u, rfl, h2⟩ := layPkA_rd hx
  exact ⟨_, _, _, _, _, u, _, _, rfl, h2, hg.2.2.2.2.2.1.1, hg.2.2.2.2.2.2⟩

end Go.Proofs.YtoaifgblbfdncabGreatDoor
namespace Go.Proofs.YtoaifgblbfdncabGreatDoor
open Go.RowKit

theorem open_few {x2 : ByteArray} {r4 : List Int} {num : Int} {body : ByteArray} {r5 : List Int} {t : ByteArray} {ok : Bool} (h : OpensP x2 r4 num body r5 t ok) (hl : r4.length ≤ 1048576) : r5.length ≤ 10000000 := by
  rcases h with ⟨_, _, _, hn⟩ | ⟨_, _, rfl, _⟩
  · have := note_len hn
    omega
  · omega
set_option maxHeartbeats 1600000 in
theorem lawOpenData (x0 : Int) (x1 x2 : ByteArray) (x3 : Int) (v4 : Value) (r4 : List Int) (x5 : Int) (y0 : Int) (y1 y2 : ByteArray) (y3 : Int) (u4 : Value) (s4 : List Int) (y5 : Int) (op key fr dst num : Int) (va : Value) (acks : List Int) (body : ByteArray) (now : Int) (gx : SlG x0 x1 x2 x3 r4 x5) (gy : SlG y0 y1 y2 y3 s4 y5) (ga : acks.length ≤ maxLen) (gb : body.size ≤ maxLen) (w : World) (ht : LaidK w) (ha : layIntS.rd w [v4] r4) (hb : layIntS.rd w [u4] s4) (hc : layIntS.rd w [va] acks) :
    Calls Tryz.prog 3 #[.agg #[.int .i64 x0, .string x1, .string x2, .int .i64 x3, v4, .int .i64 x5, .int .i64 y0, .string y1, .string y2, .int .i64 y3, u4, .int .i64 y5], .agg #[.int .i64 op, .int .i64 key, .int .i64 fr, .int .i64 dst, .int .i64 num, va, .string body], .int .i64 now] w fun e w' => e = .returned (.bool true) ∧ Below w.heap.size w w' := by
  have hm : maxLen ≤ 9223372036854775807 := by decide
  by_cases hr : r4.length ≤ 1048576 ∧ s4.length ≤ 1048576
  · obtain ⟨r5, s5, t, ok, hO⟩ := openD_is x0 x1 x2 x3 r4 x5 y0 y1 y2 y3 s4 y5 op key fr dst num acks body now
    have hl5 : r5.length ≤ 10000000 ∧ s5.length ≤ 10000000 := by
      have h1 := hr.1
      have h2 := hr.2
      rcases hO with ⟨_, h, rfl⟩ | ⟨_, h, rfl⟩ | ⟨_, _, rfl, rfl, _⟩
      · exact ⟨open_few h h1, by omega⟩
      · exact ⟨by omega, open_few h h2⟩
      · exact ⟨by omega, by omega⟩
    exact lawOpenDataF (L := LaidK) x0 x1 x2 x3 v4 r4 x5 y0 y1 y2 y3 u4 s4 y5 op key fr dst num va acks body now gx.s1 gx.s2 gx.r gy.s1 gy.s2 gy.r (by omega) (by omega) r5 s5 t ok hl5.1 hl5.2 (fun f1 f2 hz1 hz2 v u vp X hX h k p => implOpenData_any x0 x1 x2 x3 v r4 x5 y0 y1 y2 y3 u s4 y5 op key fr dst num vp acks body now f1.1 f1.2.1 f2.1 f2.2.1 (by have := f1.2.2; unfold FitsInt at this; omega) (by have := f2.2.2; unfold FitsInt at this; omega) hz1 hz2 gx.rs gy.rs r5 s5 t ok hO X hX h k p) (fun f1 f2 hz1 hz2 v u vp X h k p => specOpenData_any x0 x1 x2 x3 v r4 x5 y0 y1 y2 y3 u s4 y5 op key fr dst num vp acks body now f1.2.1 f2.2.1 (by have := f1.2.2; unfold FitsInt at this; omega) (by have := f2.2.2; unfold FitsInt at this; omega) (by omega) hz2 r5 s5 t ok hO X h k p) w (fun _ hb => ht.stays hb (Nat.le_refl _)) ha hb hc
  · exact lawOpenDataF (L := LaidK) x0 x1 x2 x3 v4 r4 x5 y0 y1 y2 y3 u4 s4 y5 op key fr dst num va acks body now gx.s1 gx.s2 gx.r gy.s1 gy.s2 gy.r (by omega) (by omega) [] [] ⟨#[]⟩ false (by simp) (by simp) (fun f1 f2 => absurd ⟨f1.2.2, f2.2.2⟩ hr) (fun f1 f2 => absurd ⟨f1.2.2, f2.2.2⟩ hr) w (fun _ hb => ht.stays hb (Nat.le_refl _)) ha hb hc

end Go.Proofs.YtoaifgblbfdncabGreatDoor

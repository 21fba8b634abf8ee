/-
  A packet as an argument, opened.
  The test package's functions over packets: measured, held against each other, marked, found marked.
-/
import Derived.Test.YtdhacjpdlmnlmaqDoorJ16
import Derived.Test.YtdhacjpdlmnlmaqDoorJ17
namespace Go.Proofs.YtdhacjpdlmnlmaqDoor
open Go.ChangeShapes Go.WideShapes Go.RowKit

def wfP (x : Int) : Prop := (Lit.int .i64 x).wf = true
def layPkA : Lay (Int × Int × Int × Int × Int × List Int × ByteArray) := .pair .int (.pair .int (.pair .int (.pair .int (.pair .int (.pair layIntS .str)))))
theorem layPkA_rd {w : World} {cs : List Value} {x : Int × Int × Int × Int × Int × List Int × ByteArray} (h : layPkA.rd w cs x) : ∃ v, cs = [.int .i64 x.1, .int .i64 x.2.1, .int .i64 x.2.2.1, .int .i64 x.2.2.2.1, .int .i64 x.2.2.2.2.1, v, .string x.2.2.2.2.2.2] ∧ layIntS.rd w [v] x.2.2.2.2.2.1 := by
  obtain ⟨c1, d1, rfl, rfl, c2, d2, rfl, rfl, c3, d3, rfl, rfl, c4, d4, rfl, rfl, c5, d5, rfl, rfl, c6, d6, rfl, ⟨v, rfl, h6⟩, rfl⟩ := h
  exact ⟨v, rfl, ⟨v, rfl, h6⟩⟩
set_option maxRecDepth 100000 in
theorem opensPkA {H : Type} (enc : TypeId × Value → H) (W : World) : Opens enc Tryd.prog W layPkA LPkT (fun x => wfP x.1 ∧ wfP x.2.1 ∧ wfP x.2.2.1 ∧ wfP x.2.2.2.1 ∧ wfP x.2.2.2.2.1 ∧ (x.2.2.2.2.2.1.length ≤ maxLen ∧ ∀ y ∈ x.2.2.2.2.2.1, wfP y) ∧ x.2.2.2.2.2.2.size ≤ maxLen) := by
  refine Opens.struct (A := layPkA) Tryd.underlying24 (by kernel_rfl) ?_
  refine OpensF.cons (A := Lay.int) (B := .pair .int (.pair .int (.pair .int (.pair .int (.pair layIntS .str))))) (G := wfP) (K := fun x => wfP x.1 ∧ wfP x.2.1 ∧ wfP x.2.2.1 ∧ wfP x.2.2.2.1 ∧ (x.2.2.2.2.1.length ≤ maxLen ∧ ∀ y ∈ x.2.2.2.2.1, wfP y) ∧ x.2.2.2.2.2.size ≤ maxLen) rfl (by kernel_rfl) (Opens.int Tryd.underlying3) ?_
  refine OpensF.cons (A := Lay.int) (B := .pair .int (.pair .int (.pair .int (.pair layIntS .str)))) (G := wfP) (K := fun x => wfP x.1 ∧ wfP x.2.1 ∧ wfP x.2.2.1 ∧ (x.2.2.2.1.length ≤ maxLen ∧ ∀ y ∈ x.2.2.2.1, wfP y) ∧ x.2.2.2.2.size ≤ maxLen) rfl (by kernel_rfl) (Opens.int Tryd.underlying3) ?_
  refine OpensF.cons (A := Lay.int) (B := .pair .int (.pair .int (.pair layIntS .str))) (G := wfP) (K := fun x => wfP x.1 ∧ wfP x.2.1 ∧ (x.2.2.1.length ≤ maxLen ∧ ∀ y ∈ x.2.2.1, wfP y) ∧ x.2.2.2.size ≤ maxLen) rfl (by kernel_rfl) (Opens.int Tryd.underlying3) ?_
  refine OpensF.cons (A := Lay.int) (B := .pair .int (.pair layIntS .str)) (G := wfP) (K := fun x => wfP x.1 ∧ (x.2.1.length ≤ maxLen ∧ ∀ y ∈ x.2.1, wfP y) ∧ x.2.2.size ≤ maxLen) rfl (by kernel_rfl) (Opens.int Tryd.underlying3) ?_
  refine OpensF.cons (A := Lay.int) (B := .pair layIntS .str) (G := wfP) (K := fun x => (x.1.length ≤ maxLen ∧ ∀ y ∈ x.1, wfP y) ∧ x.2.size ≤ maxLen) rfl (by kernel_rfl) (Opens.int Tryd.underlying3) ?_
  refine OpensF.cons (A := layIntS) (B := .str) (G := fun y => y.length ≤ maxLen ∧ ∀ z ∈ y, wfP z) (K := fun x => x.size ≤ maxLen) rfl (by kernel_rfl) (Opens.rows 3 Tryd.underlying22 (by kernel_rfl) (Opens.int Tryd.underlying3)) ?_
  exact OpensF.last (A := Lay.str) rfl (by kernel_rfl) (Opens.str Tryd.underlying9)
set_option maxRecDepth 100000 in
theorem open_packet {H : Type} {enc : TypeId × Value → H} {W : World} {r : Reach} {base : Nat} {v : Value} {d : DataW H} {p : List MemPlace} (hok : Value.okWide Tryd.prog W r base LPkT v) (h : DataW.Trod enc Tryd.prog W 0 (fun _ => true) true LPkT v d p) :
    ∃ (op key fr dst num : Int) (u : Value) (xs : List Int) (body : ByteArray), v = .agg #[.int .i64 op, .int .i64 key, .int .i64 fr, .int .i64 dst, .int .i64 num, u, .string body] ∧ layIntS.rd W [u] xs ∧ xs.length ≤ maxLen ∧ body.size ≤ maxLen := by
  obtain ⟨cs, x, rfl, hx, hg⟩ := Opens.agg (opensPkA enc W) Tryd.underlying24 hok h
  obtain ⟨u, rfl, h2⟩ := layPkA_rd hx
  exact ⟨_, _, _, _, _, u, _, _, rfl, h2, hg.2.2.2.2.2.1.1, hg.2.2.2.2.2.2⟩

end Go.Proofs.YtdhacjpdlmnlmaqDoor
namespace Go.Proofs.YtdhacjpdlmnlmaqDoor
open Go.RowKit

set_option maxRecDepth 100000 in
set_option maxHeartbeats 800000 in
theorem szPacket_any (op key fr dst num : Int) (a : Option Addr) (n cp : Nat) (body : ByteArray) (hn : n ≤ 9223372036854775807) (hb : body.size ≤ 9223372036854775807) (w : World) :
    Calls Tryd.prog 4 #[.agg #[.int .i64 op, .int .i64 key, .int .i64 fr, .int .i64 dst, .int .i64 num, .slice a n cp, .string body], .int .i64 1048576] w fun e w' => e = .returned (.int .i64 (if 1048576 < n + body.size then -1 else 1048576 - (n : Int) - (body.size : Int))) ∧ Below w.heap.size w w' := by
  have H1 := Lib.hid (szIntS_any a n cp 1048576 (by omega) (by omega) hn)
  by_cases h : 1048576 < n
  · have h1 : (1048576 : Int) < (n : Int) := by omega
    rw [if_pos h1] at H1
    rw [if_pos (by omega)]
    go_enter Tryd.func4, Tryd.ntmps4
    go_wp2_with fail
    refine (H1.out _).mono ?_
    rintro e Y ⟨rfl, rfl⟩
    go_wp2_with fail
    go_ret
    exact ⟨rfl, (Below.refl _ _).alloc (Nat.le_refl _) _⟩
  · have h1 : ¬ ((1048576 : Int) < (n : Int)) := by omega
    have h2 : ¬ ((1048576 : Int) - (n : Int) < 0) := by omega
    rw [if_neg h1] at H1
    by_cases h5 : 1048576 < n + body.size
    · have h4 : (1048576 : Int) - (n : Int) - (body.size : Int) < 0 := by omega
      rw [if_pos h5]
      go_enter Tryd.func4, Tryd.ntmps4
      go_wp2_with fail
      refine (H1.out _).mono ?_
      rintro e Y ⟨rfl, rfl⟩
      go_wp2_with fail
      go_ret
      exact ⟨rfl, (Below.refl _ _).alloc (Nat.le_refl _) _⟩
    · have h4 : ¬ ((1048576 : Int) - (n : Int) - (body.size : Int) < 0) := by omega
      rw [if_neg h5]
      go_enter Tryd.func4, Tryd.ntmps4
      go_wp2_with fail
      refine (H1.out _).mono ?_
      rintro e Y ⟨rfl, rfl⟩
      go_wp2_with fail
      go_ret
      exact ⟨rfl, (Below.refl _ _).alloc (Nat.le_refl _) _⟩

set_option maxRecDepth 100000 in
set_option maxHeartbeats 1600000 in
theorem eqPacket_same (op key fr dst num : Int) (v u : Value) (xs : List Int) (body : ByteArray) (hl : xs.length ≤ 100000000) (w : World) (h : layIntS.rd w [v] xs) (k : layIntS.rd w [u] xs) :
    Calls Tryd.prog 8 #[.agg #[.int .i64 op, .int .i64 key, .int .i64 fr, .int .i64 dst, .int .i64 num, v, .string body], .agg #[.int .i64 op, .int .i64 key, .int .i64 fr, .int .i64 dst, .int .i64 num, u, .string body]] w fun e w' => e = .returned (.bool true) ∧ Below w.heap.size w w' := by
  obtain ⟨va, vc, rfl⟩ := rows_form h
  obtain ⟨ua, uc, rfl⟩ := rows_form k
  have e1 : (w.alloc (.cells #[.int .i64 op, .int .i64 key, .int .i64 fr, .int .i64 dst, .int .i64 num, .slice va xs.length vc, .string body] PkT)).heap.size = w.heap.size + 1 := by simp
  have A0 := Lib.hid ((VarA.new w PkT #[.int .i64 op, .int .i64 key, .int .i64 fr, .int .i64 dst, .int .i64 num, .slice va xs.length vc, .string body]).alloc (.cells #[.int .i64 op, .int .i64 key, .int .i64 fr, .int .i64 dst, .int .i64 num, .slice ua xs.length uc, .string body] PkT))
  have A1' := VarA.new (w.alloc (.cells #[.int .i64 op, .int .i64 key, .int .i64 fr, .int .i64 dst, .int .i64 num, .slice va xs.length vc, .string body] PkT)) PkT #[.int .i64 op, .int .i64 key, .int .i64 fr, .int .i64 dst, .int .i64 num, .slice ua xs.length uc, .string body]
  rw [e1] at A1'
  have A1 := Lib.hid A1'
  have B0 := Lib.hid (((Below.refl w.heap.size w).alloc (Nat.le_refl _) (.cells #[.int .i64 op, .int .i64 key, .int .i64 fr, .int .i64 dst, .int .i64 num, .slice va xs.length vc, .string body] PkT)).alloc (by simp) (.cells #[.int .i64 op, .int .i64 key, .int .i64 fr, .int .i64 dst, .int .i64 num, .slice ua xs.length uc, .string body] PkT))
  have HL := Lib.hid h
  have KL := Lib.hid k
  clear A1' e1 h k
  go_enter Tryd.func8, Tryd.ntmps8
  go_upto_region 1 with fail
  generalize (w.alloc (.cells #[.int .i64 op, .int .i64 key, .int .i64 fr, .int .i64 dst, .int .i64 num, .slice va xs.length vc, .string body] PkT)).alloc (.cells #[.int .i64 op, .int .i64 key, .int .i64 fr, .int .i64 dst, .int .i64 num, .slice ua xs.length uc, .string body] PkT) = Y0 at *
  have a0 : Y0.cell? ⟨w.heap.size, 0, none⟩ = some (.int .i64 op) := A0.out.cell 0
  have a1 : Y0.cell? ⟨w.heap.size, 1, none⟩ = some (.int .i64 key) := A0.out.cell 1
  have a2 : Y0.cell? ⟨w.heap.size, 2, none⟩ = some (.int .i64 fr) := A0.out.cell 2
  have a3 : Y0.cell? ⟨w.heap.size, 3, none⟩ = some (.int .i64 dst) := A0.out.cell 3
  have a4 : Y0.cell? ⟨w.heap.size, 4, none⟩ = some (.int .i64 num) := A0.out.cell 4
  have a5 : Y0.cell? ⟨w.heap.size, 5, none⟩ = some (.slice va xs.length vc) := A0.out.cell 5
  have a6 : Y0.cell? ⟨w.heap.size, 6, none⟩ = some (.string body) := A0.out.cell 6
  have b0 : Y0.cell? ⟨w.heap.size + 1, 0, none⟩ = some (.int .i64 op) := A1.out.cell 0
  have b1 : Y0.cell? ⟨w.heap.size + 1, 1, none⟩ = some (.int .i64 key) := A1.out.cell 1
  have b2 : Y0.cell? ⟨w.heap.size + 1, 2, none⟩ = some (.int .i64 fr) := A1.out.cell 2
  have b3 : Y0.cell? ⟨w.heap.size + 1, 3, none⟩ = some (.int .i64 dst) := A1.out.cell 3
  have b4 : Y0.cell? ⟨w.heap.size + 1, 4, none⟩ = some (.int .i64 num) := A1.out.cell 4
  have b5 : Y0.cell? ⟨w.heap.size + 1, 5, none⟩ = some (.slice ua xs.length uc) := A1.out.cell 5
  have b6 : Y0.cell? ⟨w.heap.size + 1, 6, none⟩ = some (.string body) := A1.out.cell 6
  go_wp2_with fail
  refine (eqIntS_same _ _ xs hl _ (layIntS.below HL.out B0.out) (layIntS.below KL.out B0.out)).mono ?_
  rintro e Y1 ⟨rfl, hb⟩
  have B1 := Lib.hid (B0.out.trans (hb.mono B0.out.size))
  have a6' : Y1.cell? ⟨w.heap.size, 6, none⟩ = some (.string body) := (A0.out.next hb).cell 6
  have b6' : Y1.cell? ⟨w.heap.size + 1, 6, none⟩ = some (.string body) := (A1.out.next hb).cell 6
  clear hb a0 a1 a2 a3 a4 a5 a6 b0 b1 b2 b3 b4 b5 b6
  go_wp2_with fail
  go_ret
  exact ⟨rfl, B1.out⟩

end Go.Proofs.YtdhacjpdlmnlmaqDoor

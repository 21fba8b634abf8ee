/-
  The test package's functions over packets: laid, measured, held against each other, marked.
  A packet as an argument, opened.
  The test package's functions over packets: measured, held against each other, marked, found marked.
-/
import Derived.Test.YtdhacjpdlmnlmarDoorJ09
import Derived.Test.YtdhacjpdlmnlmarDoorJ21
namespace Go.Proofs.YtdhacjpdlmnlmarDoor
open Go.RowKit

theorem fill_next (xs : List Int) (j : Nat) (h : j < xs.length) : (xs.take j ++ List.replicate (xs.length - j) (0 : Int)).set j xs[j] = xs.take (j + 1) ++ List.replicate (xs.length - (j + 1)) 0 := by
  have hl : (xs.take j).length = j := by rw [List.length_take]; omega
  rw [List.set_append_right _ _ (by omega), hl, Nat.sub_self, show xs.length - j = (xs.length - (j + 1)) + 1 by omega, List.replicate_succ, List.set_cons_zero]
  have hta : xs.take (j + 1) = xs.take j ++ [xs[j]] := by rw [List.take_add_one, List.getElem?_eq_getElem h]; rfl
  rw [hta, List.append_assoc]
  rfl

/-- What toPacket gives. -/
def PkMade (op key fr dst num : Int) (xs : List Int) (body : ByteArray) (w : World) (e : Ending) (w' : World) : Prop :=
  ∃ (na : Option Addr) (nc : Nat) (f : List Nat), e = .returned (.agg #[.int .i64 op, .int .i64 key, .int .i64 fr, .int .i64 dst, .int .i64 num, .slice na xs.length nc, .string body]) ∧ f.Nodup ∧ layIntS.own w' w.heap.size f [.slice na xs.length nc] xs ∧ Below w.heap.size w w'

end Go.Proofs.YtdhacjpdlmnlmarDoor
namespace Go.Proofs.YtdhacjpdlmnlmarDoor
open Go.ChangeShapes Go.WideShapes Go.RowKit

def wfP (x : Int) : Prop := (Lit.int .i64 x).wf = true
def layPkA : Lay (Int × Int × Int × Int × Int × List Int × ByteArray) := .pair .int (.pair .int (.pair .int (.pair .int (.pair .int (.pair layIntS .str)))))
theorem layPkA_rd {w : World} {cs : List Value} {x : Int × Int × Int × Int × Int × List Int × ByteArray} (h : layPkA.rd w cs x) : ∃ v, cs = [.int .i64 x.1, .int .i64 x.2.1, .int .i64 x.2.2.1, .int .i64 x.2.2.2.1, .int .i64 x.2.2.2.2.1, v, .string x.2.2.2.2.2.2] ∧ layIntS.rd w [v] x.2.2.2.2.2.1 := by
  obtain ⟨c1, d1, rfl, rfl, c2, d2, rfl, rfl, c3, d3, rfl, rfl, c4, d4, rfl, rfl, c5, d5, rfl, rfl, c6, d6, rfl, ⟨v, rfl, h6⟩, rfl⟩ := h
  exact ⟨v, rfl, ⟨v, rfl, h6⟩⟩
end Go.Proofs.YtdhacjpdlmnlmarDoor
namespace Go.Proofs.YtdhacjpdlmnlmarDoor
open Go.RowKit

set_option maxRecDepth 100000 in
set_option maxHeartbeats 1600000 in
theorem eqPacket_same (op key fr dst num : Int) (v u : Value) (xs : List Int) (body : ByteArray) (hl : xs.length ≤ 100000000) (w : World) (h : layIntS.rd w [v] xs) (k : layIntS.rd w [u] xs) :
    Calls Tryd.prog 6 #[.agg #[.int .i64 op, .int .i64 key, .int .i64 fr, .int .i64 dst, .int .i64 num, v, .string body], .agg #[.int .i64 op, .int .i64 key, .int .i64 fr, .int .i64 dst, .int .i64 num, u, .string body]] w fun e w' => e = .returned (.bool true) ∧ Below w.heap.size w w' := by
  obtain ⟨va, vc, rfl⟩ := rows_form h
  obtain ⟨ua, uc, rfl⟩ := rows_form k
  have e1 : (w.alloc (.cells #[.int .i64 op, .int .i64 key, .int .i64 fr, .int .i64 dst, .int .i64 num, .slice va xs.length vc, .string body] PkT)).heap.size = w.heap.size + 1 := by simp
  have A0 := Lib.hid ((VarA.new w PkT #[.int .i64 op, .int .i64 key, .int .i64 fr, .int .i64 dst, .int .i64 num, .slice va xs.length vc, .string body]).alloc (.cells #[.int .i64 op, .int .i64 key, .int .i64 fr, .int .i64 dst, .int .i64 num, .slice ua xs.length uc, .string body] PkT))
  have A1' := VarA.new (w.alloc (.cells #[.int .i64 op, .int .i64 key, .int .i64 fr, .int .i64 dst, .int .i64 num, .slice va xs.length vc, .string body] PkT)) PkT #[.int .i64 op, .int .i64 key, .int .i64 fr, .int .i64 dst, .int .i64 num, .slice ua xs.length uc, .string body]
  rw [e1] at A1'
  have A1 := Lib.hid A1'
  have B0 := Lib.hid (((Below.refl w.heap.size w).alloc (Nat.le_refl _) (.cells #[.int .i64 op, .int .i64 key, .int .i64 fr, .int .i64 dst, .int .i64 num, .slice va xs.length vc, .string body] PkT)).alloc (by simp) (.cells #[.int .i64 op, .int .i64 key, .int .i64 fr, .int .i64 dst, .int .i64 num, .slice ua xs.length uc, .string body] PkT))
  have HL := Lib.hid h
  have KL := Lib.hid k
  clear A1' e1 h k
  go_enter Tryd.func6, Tryd.ntmps6
  go_upto_region 1 with fail
  generalize (w.alloc (.cells #[.int .i64 op, .int .i64 key, .int .i64 fr, .int .i64 dst, .int .i64 num, .slice va xs.length vc, .string body] PkT)).alloc (.cells #[.int .i64 op, .int .i64 key, .int .i64 fr, .int .i64 dst, .int .i64 num, .slice ua xs.length uc, .string body] PkT) = Y0 at *
  have a0 : Y0.cell? ⟨w.heap.size, 0, none⟩ = some (.int .i64 op) := A0.out.cell 0
  have a1 : Y0.cell? ⟨w.heap.size, 1, none⟩ = some (.int .i64 key) := A0.out.cell 1
  have a2 : Y0.cell? ⟨w.heap.size, 2, none⟩ = some (.int .i64 fr) := A0.out.cell 2
  have a3 : Y0.cell? ⟨w.heap.size, 3, none⟩ = some (.int .i64 dst) := A0.out.cell 3
  have a4 : Y0.cell? ⟨w.heap.size, 4, none⟩ = some (.int .i64 num) := A0.out.cell 4
  have a5 : Y0.cell? ⟨w.heap.size, 5, none⟩ = some (.slice va xs.length vc) := A0.out.cell 5
  have a6 : Y0.cell? ⟨w.heap.size, 6, none⟩ = some (.string body) := A0.out.cell 6
  have b0 : Y0.cell? ⟨w.heap.size + 1, 0, none⟩ = some (.int .i64 op) := A1.out.cell 0
  have b1 : Y0.cell? ⟨w.heap.size + 1, 1, none⟩ = some (.int .i64 key) := A1.out.cell 1
  have b2 : Y0.cell? ⟨w.heap.size + 1, 2, none⟩ = some (.int .i64 fr) := A1.out.cell 2
  have b3 : Y0.cell? ⟨w.heap.size + 1, 3, none⟩ = some (.int .i64 dst) := A1.out.cell 3
  have b4 : Y0.cell? ⟨w.heap.size + 1, 4, none⟩ = some (.int .i64 num) := A1.out.cell 4
  have b5 : Y0.cell? ⟨w.heap.size + 1, 5, none⟩ = some (.slice ua xs.length uc) := A1.out.cell 5
  have b6 : Y0.cell? ⟨w.heap.size + 1, 6, none⟩ = some (.string body) := A1.out.cell 6
  go_wp2_with fail
  refine (eqIntS_same _ _ xs hl _ (layIntS.below HL.out B0.out) (layIntS.below KL.out B0.out)).mono ?_
  rintro e Y1 ⟨rfl, hb⟩
  have B1 := Lib.hid (B0.out.trans (hb.mono B0.out.size))
  have a6' : Y1.cell? ⟨w.heap.size, 6, none⟩ = some (.string body) := (A0.out.next hb).cell 6
  have b6' : Y1.cell? ⟨w.heap.size + 1, 6, none⟩ = some (.string body) := (A1.out.next hb).cell 6
  clear hb a0 a1 a2 a3 a4 a5 a6 b0 b1 b2 b3 b4 b5 b6
  go_wp2_with fail
  go_ret
  exact ⟨rfl, B1.out⟩

set_option maxRecDepth 100000 in
set_option maxHeartbeats 800000 in
theorem markPacket_any (op key fr dst num : Int) (v : Value) (xs : List Int) (body : ByteArray) (b : Nat) (fp : List Nat) (k : Int) (hk0 : 0 ≤ k) (hk1 : k ≤ 1000000000) (hl : xs.length ≤ 100000000) (w : World) (hd : fp.Nodup) (ho : layIntS.own w b fp [v] xs) :
    Calls Tryd.prog 7 #[.agg #[.int .i64 op, .int .i64 key, .int .i64 fr, .int .i64 dst, .int .i64 num, v, .string body], .int .i64 k] w fun e w' => e = .returned (.int .i64 (k + (xs.length : Int))) ∧ layIntS.own w' b fp [v] (upI k xs.length) ∧ Chg fp w w' := by
  obtain ⟨va, vc, rfl⟩ := rows_form (layIntS.read ho)
  have hb0 := (Below.refl w.heap.size w).alloc (Nat.le_refl _) (.cells #[.int .i64 op, .int .i64 key, .int .i64 fr, .int .i64 dst, .int .i64 num, .slice va xs.length vc, .string body] PkT)
  have A0 := Lib.hid (VarA.new w PkT #[.int .i64 op, .int .i64 key, .int .i64 fr, .int .i64 dst, .int .i64 num, .slice va xs.length vc, .string body])
  have O0 := Lib.hid (layIntS.next ho hb0)
  have G0 := Lib.hid (Below.chg hb0 fp)
  clear ho hb0
  go_enter Tryd.func7, Tryd.ntmps7
  go_upto_region 1 with fail
  generalize w.alloc (.cells #[.int .i64 op, .int .i64 key, .int .i64 fr, .int .i64 dst, .int .i64 num, .slice va xs.length vc, .string body] PkT) = Y0 at *
  have c5 : Y0.cell? ⟨w.heap.size, 5, none⟩ = some (.slice va xs.length vc) := A0.out.cell 5
  have KM := Lib.hid (markIntS_any _ xs b fp k hk0 hk1 hl Y0 hd O0.out)
  clear O0
  go_wp2_with fail
  refine KM.out.mono ?_
  rintro e Y1 ⟨rfl, hM, hC⟩
  have M1 := Lib.hid hM
  have G1 := Lib.hid (G0.out.trans hC)
  clear hM hC c5 KM G0
  go_wp2_with fail
  go_ret
  exact ⟨rfl, M1.out, G1.out⟩

set_option maxRecDepth 100000 in
set_option maxHeartbeats 800000 in
theorem heldPacket_any (op key fr dst num : Int) (v : Value) (n : Nat) (body : ByteArray) (k : Int) (hk0 : 0 ≤ k) (hk1 : k ≤ 1000000000) (hl : n ≤ 100000000) (w : World) (h : layIntS.rd w [v] (upI k n)) :
    Calls Tryd.prog 8 #[.agg #[.int .i64 op, .int .i64 key, .int .i64 fr, .int .i64 dst, .int .i64 num, v, .string body], .int .i64 k] w fun e w' => e = .returned (.int .i64 (k + (n : Int))) ∧ Below w.heap.size w w' := by
  obtain ⟨va, vc, hv⟩ := rows_form h
  subst hv
  have hneg : ¬ (k + (n : Int) < 0) := by omega
  have hb0 := (Below.refl w.heap.size w).alloc (Nat.le_refl _) (.cells #[.int .i64 op, .int .i64 key, .int .i64 fr, .int .i64 dst, .int .i64 num, .slice va (upI k n).length vc, .string body] PkT)
  have A0 := Lib.hid (VarA.new w PkT #[.int .i64 op, .int .i64 key, .int .i64 fr, .int .i64 dst, .int .i64 num, .slice va (upI k n).length vc, .string body])
  have B0 := Lib.hid hb0
  have R0 := Lib.hid (layIntS.below h hb0)
  clear h hb0
  go_enter Tryd.func8, Tryd.ntmps8
  go_upto_region 1 with fail
  generalize w.alloc (.cells #[.int .i64 op, .int .i64 key, .int .i64 fr, .int .i64 dst, .int .i64 num, .slice va (upI k n).length vc, .string body] PkT) = Y0 at *
  generalize (upI k n).length = ln at *
  have c5 : Y0.cell? ⟨w.heap.size, 5, none⟩ = some (.slice va ln vc) := A0.out.cell 5
  have KH := Lib.hid (heldIntS_any _ n k hk0 hk1 hl Y0 R0.out)
  clear R0
  go_wp2_with fail
  refine KH.out.mono ?_
  rintro e Y1 ⟨rfl, rfl⟩
  clear c5 KH
  go_wp2_with fail
  go_ret
  exact ⟨rfl, B0.out⟩

end Go.Proofs.YtdhacjpdlmnlmarDoor

/-
  Marks of a channel whose rows may be tails.
-/
import Derived.Test.YthljmjbmmgligarJ38
import Derived.Test.YthljmjbmmgligarJ14
namespace Go.Proofs.Ythljmjbmmgligar
open Go.RowKit

set_option maxRecDepth 100000 in
set_option maxHeartbeats 3200000 in
theorem markChanT_any (x0 : Int) (x1 : Int) (x2 : Int) (v3 : Value) (r3 : List ByteArray) (v4 : Value) (r4 : List PendingD) (x5 : Int) (v6 : Value) (r6 : List EarlyD) (v7 : Value) (r7 : List Int) (v8 : Value) (r8 : List ByteArray) (b : Nat) (f3 f4 f6 f7 f8 : List Nat) (l3 : r3.length ≤ 10000000) (l4 : r4.length ≤ 10000000) (l6 : r6.length ≤ 10000000) (l7 : r7.length ≤ 10000000) (l8 : r8.length ≤ 10000000) (k : Int) (hk0 : 1 ≤ k) (hk1 : k ≤ 100000000) (w : World) (hd : (f3 ++ (f4 ++ (f6 ++ (f7 ++ f8)))).Nodup) (o3 : layStringT.own w b f3 [v3] r3) (o4 : layPendingS.own w b f4 [v4] r4) (o6 : layEarlyT.own w b f6 [v6] r6) (o7 : layIntS.own w b f7 [v7] r7) (o8 : layStringT.own w b f8 [v8] r8) :
    Calls Try.prog 11 #[.agg #[.int .i64 x0, .int .i64 x1, .int .i64 x2, v3, v4, .int .i64 x5, v6, v7, v8], .int .i64 k] w fun e w' => e = .returned (.int .i64 (k + 1 * (r3.length : Int) + 4 * (r4.length : Int) + 2 * (r6.length : Int) + 1 * (r7.length : Int) + 1 * (r8.length : Int))) ∧ (layStringT.own w' b f3 [v3] (layStringS.mark (k) r3).1 ∧ layPendingS.own w' b f4 [v4] (layPendingS.mark (k + 1 * (r3.length : Int)) r4).1 ∧ layEarlyT.own w' b f6 [v6] (layEarlyS.mark (k + 1 * (r3.length : Int) + 4 * (r4.length : Int)) r6).1 ∧ layIntS.own w' b f7 [v7] (layIntS.mark (k + 1 * (r3.length : Int) + 4 * (r4.length : Int) + 2 * (r6.length : Int)) r7).1 ∧ layStringT.own w' b f8 [v8] (layStringS.mark (k + 1 * (r3.length : Int) + 4 * (r4.length : Int) + 2 * (r6.length : Int) + 1 * (r7.length : Int)) r8).1) ∧ Chg (f3 ++ (f4 ++ (f6 ++ (f7 ++ f8)))) w w' := by
  obtain ⟨a3, p3, rfl⟩ := tail_form (e := StringT) (A := layString) o3
  obtain ⟨a4, p4, rfl⟩ := rows_form (layPendingS.read o4)
  obtain ⟨a6, p6, rfl⟩ := tail_form (e := EarlyT) (A := layEarly) o6
  obtain ⟨a7, p7, rfl⟩ := rows_form (layIntS.read o7)
  obtain ⟨a8, p8, rfl⟩ := tail_form (e := StringT) (A := layString) o8
  have O3 := Lib.hid (layStringT.next o3 ((Below.refl _ _).alloc (Nat.le_refl _) (.cells #[.int .i64 x0, .int .i64 x1, .int .i64 x2, .slice a3 r3.length p3, .slice a4 r4.length p4, .int .i64 x5, .slice a6 r6.length p6, .slice a7 r7.length p7, .slice a8 r8.length p8] ChanT)))
  have O4 := Lib.hid (layPendingS.next o4 ((Below.refl _ _).alloc (Nat.le_refl _) (.cells #[.int .i64 x0, .int .i64 x1, .int .i64 x2, .slice a3 r3.length p3, .slice a4 r4.length p4, .int .i64 x5, .slice a6 r6.length p6, .slice a7 r7.length p7, .slice a8 r8.length p8] ChanT)))
  have O6 := Lib.hid (layEarlyT.next o6 ((Below.refl _ _).alloc (Nat.le_refl _) (.cells #[.int .i64 x0, .int .i64 x1, .int .i64 x2, .slice a3 r3.length p3, .slice a4 r4.length p4, .int .i64 x5, .slice a6 r6.length p6, .slice a7 r7.length p7, .slice a8 r8.length p8] ChanT)))
  have O7 := Lib.hid (layIntS.next o7 ((Below.refl _ _).alloc (Nat.le_refl _) (.cells #[.int .i64 x0, .int .i64 x1, .int .i64 x2, .slice a3 r3.length p3, .slice a4 r4.length p4, .int .i64 x5, .slice a6 r6.length p6, .slice a7 r7.length p7, .slice a8 r8.length p8] ChanT)))
  have O8 := Lib.hid (layStringT.next o8 ((Below.refl _ _).alloc (Nat.le_refl _) (.cells #[.int .i64 x0, .int .i64 x1, .int .i64 x2, .slice a3 r3.length p3, .slice a4 r4.length p4, .int .i64 x5, .slice a6 r6.length p6, .slice a7 r7.length p7, .slice a8 r8.length p8] ChanT)))
  have A0 := Lib.hid (VarA.new w ChanT #[.int .i64 x0, .int .i64 x1, .int .i64 x2, .slice a3 r3.length p3, .slice a4 r4.length p4, .int .i64 x5, .slice a6 r6.length p6, .slice a7 r7.length p7, .slice a8 r8.length p8])
  have G0 := Lib.hid (Below.chg ((Below.refl w.heap.size w).alloc (Nat.le_refl _) (.cells #[.int .i64 x0, .int .i64 x1, .int .i64 x2, .slice a3 r3.length p3, .slice a4 r4.length p4, .int .i64 x5, .slice a6 r6.length p6, .slice a7 r7.length p7, .slice a8 r8.length p8] ChanT)) (f3 ++ (f4 ++ (f6 ++ (f7 ++ f8)))))
  have LW3 : Hid (∀ a ∈ f3, a < w.heap.size) := fun a ha => (layStringT.blocks o3 a ha).2
  have LW4 : Hid (∀ a ∈ f4, a < w.heap.size) := fun a ha => (layPendingS.blocks o4 a ha).2
  have LW6 : Hid (∀ a ∈ f6, a < w.heap.size) := fun a ha => (layEarlyT.blocks o6 a ha).2
  have LW7 : Hid (∀ a ∈ f7, a < w.heap.size) := fun a ha => (layIntS.blocks o7 a ha).2
  have LW8 : Hid (∀ a ∈ f8, a < w.heap.size) := fun a ha => (layStringT.blocks o8 a ha).2
  have nd3 := List.nodup_append.1 hd
  have N3 := Lib.hid nd3.1
  have D3_4 : Hid (∀ a ∈ f3, a ∉ f4) := fun a ha hb => nd3.2.2 a ha a (List.mem_append_left _ hb) rfl
  have D3_6 : Hid (∀ a ∈ f3, a ∉ f6) := fun a ha hb => nd3.2.2 a ha a (List.mem_append_right _ (List.mem_append_left _ hb)) rfl
  have D3_7 : Hid (∀ a ∈ f3, a ∉ f7) := fun a ha hb => nd3.2.2 a ha a (List.mem_append_right _ (List.mem_append_right _ (List.mem_append_left _ hb))) rfl
  have D3_8 : Hid (∀ a ∈ f3, a ∉ f8) := fun a ha hb => nd3.2.2 a ha a (List.mem_append_right _ (List.mem_append_right _ (List.mem_append_right _ (hb)))) rfl
  have nd4 := List.nodup_append.1 nd3.2.1
  have N4 := Lib.hid nd4.1
  have D4_6 : Hid (∀ a ∈ f4, a ∉ f6) := fun a ha hb => nd4.2.2 a ha a (List.mem_append_left _ hb) rfl
  have D4_7 : Hid (∀ a ∈ f4, a ∉ f7) := fun a ha hb => nd4.2.2 a ha a (List.mem_append_right _ (List.mem_append_left _ hb)) rfl
  have D4_8 : Hid (∀ a ∈ f4, a ∉ f8) := fun a ha hb => nd4.2.2 a ha a (List.mem_append_right _ (List.mem_append_right _ (hb))) rfl
  have nd6 := List.nodup_append.1 nd4.2.1
  have N6 := Lib.hid nd6.1
  have D6_7 : Hid (∀ a ∈ f6, a ∉ f7) := fun a ha hb => nd6.2.2 a ha a (List.mem_append_left _ hb) rfl
  have D6_8 : Hid (∀ a ∈ f6, a ∉ f8) := fun a ha hb => nd6.2.2 a ha a (List.mem_append_right _ (hb)) rfl
  have nd7 := List.nodup_append.1 nd6.2.1
  have N7 := Lib.hid nd7.1
  have D7_8 : Hid (∀ a ∈ f7, a ∉ f8) := fun a ha hb => nd7.2.2 a ha a (hb) rfl
  have N8 := Lib.hid nd7.2.1
  clear hd o3 o4 o6 o7 o8 nd3 nd4 nd6 nd7
  go_enter Try.func11, Try.ntmps11
  go_upto_region 1 with fail
  generalize w.alloc (.cells #[.int .i64 x0, .int .i64 x1, .int .i64 x2, .slice a3 r3.length p3, .slice a4 r4.length p4, .int .i64 x5, .slice a6 r6.length p6, .slice a7 r7.length p7, .slice a8 r8.length p8] ChanT) = Y0 at *
  have c3 : Y0.cell? ⟨w.heap.size, 3, none⟩ = some (.slice a3 r3.length p3) := A0.out.cell 3
  have K3 := Lib.hid (markStringT_any (.slice a3 r3.length p3) r3 b f3 k (by omega) (by omega) (by omega) Y0 N3.out O3.out)
  go_wp2_with fail
  refine (K3.out).mono ?_
  rintro e Y1 ⟨rfl, om3, hc⟩
  have M3 := Lib.hid om3
  replace O4 := Lib.hid (layPendingS.chg O4.out hc (fun a ha hb => D3_4.out a hb ha))
  replace O6 := Lib.hid (layEarlyT.chg O6.out hc (fun a ha hb => D3_6.out a hb ha))
  replace O7 := Lib.hid (layIntS.chg O7.out hc (fun a ha hb => D3_7.out a hb ha))
  replace O8 := Lib.hid (layStringT.chg O8.out hc (fun a ha hb => D3_8.out a hb ha))
  replace A0 : Hid (VarA w.heap.size ChanT #[.int .i64 x0, .int .i64 x1, .int .i64 x2, .slice a3 r3.length p3, .slice a4 r4.length p4, .int .i64 x5, .slice a6 r6.length p6, .slice a7 r7.length p7, .slice a8 r8.length p8] Y1) := ⟨by rw [hc.block _ A0.out.lt (fun e => by have := LW3.out _ e; omega)]; exact A0.out.row⟩
  replace G0 := Lib.hid (G0.out.trans (hc.sub (fun a ha => List.mem_append_left _ ha)))
  clear hc om3 c3 K3
  have c4 : Y1.cell? ⟨w.heap.size, 4, none⟩ = some (.slice a4 r4.length p4) := A0.out.cell 4
  obtain ⟨q4, hq4, q0_4, q1_4⟩ : ∃ q : Int, k + 1 * (r3.length : Int) = q ∧ 1 ≤ q ∧ q ≤ 110000000 := ⟨_, rfl, by omega, by omega⟩
  rw [hq4]
  have HQ4 := Lib.hid hq4
  clear hq4
  have K4 := Lib.hid (markPendingS_any (.slice a4 r4.length p4) r4 b f4 q4 (by omega) (by omega) (by omega) Y1 N4.out O4.out)
  go_wp2_with fail
  refine (K4.out).mono ?_
  rintro e Y2 ⟨rfl, om4, hc⟩
  have M4 := Lib.hid om4
  replace M3 := Lib.hid (layStringT.chg M3.out hc D3_4.out)
  replace O6 := Lib.hid (layEarlyT.chg O6.out hc (fun a ha hb => D4_6.out a hb ha))
  replace O7 := Lib.hid (layIntS.chg O7.out hc (fun a ha hb => D4_7.out a hb ha))
  replace O8 := Lib.hid (layStringT.chg O8.out hc (fun a ha hb => D4_8.out a hb ha))
  replace A0 : Hid (VarA w.heap.size ChanT #[.int .i64 x0, .int .i64 x1, .int .i64 x2, .slice a3 r3.length p3, .slice a4 r4.length p4, .int .i64 x5, .slice a6 r6.length p6, .slice a7 r7.length p7, .slice a8 r8.length p8] Y2) := ⟨by rw [hc.block _ A0.out.lt (fun e => by have := LW4.out _ e; omega)]; exact A0.out.row⟩
  replace G0 := Lib.hid (G0.out.trans (hc.sub (fun a ha => List.mem_append_right _ (List.mem_append_left _ ha))))
  clear hc om4 c4 K4
  have c6 : Y2.cell? ⟨w.heap.size, 6, none⟩ = some (.slice a6 r6.length p6) := A0.out.cell 6
  obtain ⟨q6, hq6, q0_6, q1_6⟩ : ∃ q : Int, q4 + 4 * (r4.length : Int) = q ∧ 1 ≤ q ∧ q ≤ 150000000 := ⟨_, rfl, by omega, by omega⟩
  rw [hq6]
  have HQ6 := Lib.hid hq6
  clear hq6
  have K6 := Lib.hid (markEarlyT_any (.slice a6 r6.length p6) r6 b f6 q6 (by omega) (by omega) (by omega) Y2 N6.out O6.out)
  go_wp2_with fail
  refine (K6.out).mono ?_
  rintro e Y3 ⟨rfl, om6, hc⟩
  have M6 := Lib.hid om6
  replace M3 := Lib.hid (layStringT.chg M3.out hc D3_6.out)
  replace M4 := Lib.hid (layPendingS.chg M4.out hc D4_6.out)
  replace O7 := Lib.hid (layIntS.chg O7.out hc (fun a ha hb => D6_7.out a hb ha))
  replace O8 := Lib.hid (layStringT.chg O8.out hc (fun a ha hb => D6_8.out a hb ha))
  replace A0 : Hid (VarA w.heap.size ChanT #[.int .i64 x0, .int .i64 x1, .int .i64 x2, .slice a3 r3.length p3, .slice a4 r4.length p4, .int .i64 x5, .slice a6 r6.length p6, .slice a7 r7.length p7, .slice a8 r8.length p8] Y3) := ⟨by rw [hc.block _ A0.out.lt (fun e => by have := LW6.out _ e; omega)]; exact A0.out.row⟩
  replace G0 := Lib.hid (G0.out.trans (hc.sub (fun a ha => List.mem_append_right _ (List.mem_append_right _ (List.mem_append_left _ ha)))))
  clear hc om6 c6 K6
  have c7 : Y3.cell? ⟨w.heap.size, 7, none⟩ = some (.slice a7 r7.length p7) := A0.out.cell 7
  obtain ⟨q7, hq7, q0_7, q1_7⟩ : ∃ q : Int, q6 + 2 * (r6.length : Int) = q ∧ 1 ≤ q ∧ q ≤ 170000000 := ⟨_, rfl, by omega, by omega⟩
  rw [hq7]
  have HQ7 := Lib.hid hq7
  clear hq7
  have K7 := Lib.hid (markIntL_any (.slice a7 r7.length p7) r7 b f7 q7 (by omega) (by omega) (by omega) Y3 N7.out O7.out)
  go_wp2_with fail
  refine (K7.out).mono ?_
  rintro e Y4 ⟨rfl, om7, hc⟩
  have M7 := Lib.hid om7
  replace M3 := Lib.hid (layStringT.chg M3.out hc D3_7.out)
  replace M4 := Lib.hid (layPendingS.chg M4.out hc D4_7.out)
  replace M6 := Lib.hid (layEarlyT.chg M6.out hc D6_7.out)
  replace O8 := Lib.hid (layStringT.chg O8.out hc (fun a ha hb => D7_8.out a hb ha))
  replace A0 : Hid (VarA w.heap.size ChanT #[.int .i64 x0, .int .i64 x1, .int .i64 x2, .slice a3 r3.length p3, .slice a4 r4.length p4, .int .i64 x5, .slice a6 r6.length p6, .slice a7 r7.length p7, .slice a8 r8.length p8] Y4) := ⟨by rw [hc.block _ A0.out.lt (fun e => by have := LW7.out _ e; omega)]; exact A0.out.row⟩
  replace G0 := Lib.hid (G0.out.trans (hc.sub (fun a ha => List.mem_append_right _ (List.mem_append_right _ (List.mem_append_right _ (List.mem_append_left _ ha))))))
  clear hc om7 c7 K7
  have c8 : Y4.cell? ⟨w.heap.size, 8, none⟩ = some (.slice a8 r8.length p8) := A0.out.cell 8
  obtain ⟨q8, hq8, q0_8, q1_8⟩ : ∃ q : Int, q7 + 1 * (r7.length : Int) = q ∧ 1 ≤ q ∧ q ≤ 180000000 := ⟨_, rfl, by omega, by omega⟩
  rw [hq8]
  have HQ8 := Lib.hid hq8
  clear hq8
  have K8 := Lib.hid (markStringT_any (.slice a8 r8.length p8) r8 b f8 q8 (by omega) (by omega) (by omega) Y4 N8.out O8.out)
  go_wp2_with fail
  refine (K8.out).mono ?_
  rintro e Y5 ⟨rfl, om8, hc⟩
  have M8 := Lib.hid om8
  replace M3 := Lib.hid (layStringT.chg M3.out hc D3_8.out)
  replace M4 := Lib.hid (layPendingS.chg M4.out hc D4_8.out)
  replace M6 := Lib.hid (layEarlyT.chg M6.out hc D6_8.out)
  replace M7 := Lib.hid (layIntS.chg M7.out hc D7_8.out)
  replace A0 : Hid (VarA w.heap.size ChanT #[.int .i64 x0, .int .i64 x1, .int .i64 x2, .slice a3 r3.length p3, .slice a4 r4.length p4, .int .i64 x5, .slice a6 r6.length p6, .slice a7 r7.length p7, .slice a8 r8.length p8] Y5) := ⟨by rw [hc.block _ A0.out.lt (fun e => by have := LW8.out _ e; omega)]; exact A0.out.row⟩
  replace G0 := Lib.hid (G0.out.trans (hc.sub (fun a ha => List.mem_append_right _ (List.mem_append_right _ (List.mem_append_right _ (List.mem_append_right _ (ha)))))))
  clear hc om8 c8 K8
  go_wp2_with fail
  go_ret
  have y4 := HQ4.out
  have y6 := HQ6.out
  have y7 := HQ7.out
  have y8 := HQ8.out
  have e4 : q4 = k + 1 * (r3.length : Int) := by omega
  rw [e4] at M4
  have e6 : q6 = k + 1 * (r3.length : Int) + 4 * (r4.length : Int) := by omega
  rw [e6] at M6
  have e7 : q7 = k + 1 * (r3.length : Int) + 4 * (r4.length : Int) + 2 * (r6.length : Int) := by omega
  rw [e7] at M7
  have e8 : q8 = k + 1 * (r3.length : Int) + 4 * (r4.length : Int) + 2 * (r6.length : Int) + 1 * (r7.length : Int) := by omega
  rw [e8] at M8
  have e9 : q8 + (r8.length : Int) = k + 1 * (r3.length : Int) + 4 * (r4.length : Int) + 2 * (r6.length : Int) + 1 * (r7.length : Int) + 1 * (r8.length : Int) := by omega
  exact ⟨ret_int e9, ⟨M3.out, M4.out, M6.out, M7.out, M8.out⟩, G0.out⟩

end Go.Proofs.Ythljmjbmmgligar

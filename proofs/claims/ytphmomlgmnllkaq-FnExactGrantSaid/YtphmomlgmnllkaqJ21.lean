/-
  Pool as it lies; the laws' own functions over it and over rows of it.
-/
import Derived.Test.YtphmomlgmnllkaqJ07
import Derived.Test.YtphmomlgmnllkaqRows
import Derived.Test.YtphmomlgmnllkaqJ18
import Derived.Test.YtphmomlgmnllkaqJ19
import Derived.Test.YtphmomlgmnllkaqJ20
import Derived.Deep.RegionHeld3
import Derived.BigQuiet
import Derived.Deep.QuietTactic
import Derived.Deep.DeepCutAuto
namespace Go.Proofs.Ytphmomlgmnllkaq
open Go.RowKit

abbrev PoolD := PrefixD × (List LeaseD) × (List FixedD)
abbrev PoolT : TypeId := 33
def layPool : Lay PoolD := Lay.pair layPrefix (Lay.pair layLeaseS layFixedS)
def layPoolS : Lay (List PoolD) := .rows PoolT layPool

theorem layPool_rd {w : World} {cs : List Value} {x : PoolD} : layPool.rd w cs x ↔ ∃ v2 v3, cs = [.int .i64 x.1.1, .int .i64 x.1.2, v2, v3] ∧ layLeaseS.rd w [v2] x.2.1 ∧ layFixedS.rd w [v3] x.2.2 := by
  constructor
  · rintro ⟨c101, d101, rfl, ⟨c100, d100, rfl, rfl, rfl⟩, ⟨c103, d103, rfl, ⟨v102, rfl, h102⟩, ⟨v104, rfl, h104⟩⟩⟩
    exact ⟨v102, v104, rfl, ⟨v102, rfl, h102⟩, ⟨v104, rfl, h104⟩⟩
  · rintro ⟨v2, v3, rfl, H2, H3⟩
    exact ⟨[_, _], [_, _], rfl, ⟨[_], [_], rfl, rfl, rfl⟩, ⟨[_], [_], rfl, H2, H3⟩⟩

theorem layPool_own {w : World} {b : Nat} {f : List Nat} {cs : List Value} {x : PoolD} : layPool.own w b f cs x ↔ ∃ v2 v3 f2 f3, cs = [.int .i64 x.1.1, .int .i64 x.1.2, v2, v3] ∧ f = f2 ++ f3 ∧ layLeaseS.own w b f2 [v2] x.2.1 ∧ layFixedS.own w b f3 [v3] x.2.2 := by
  constructor
  · rintro ⟨f101, g101, c101, d101, rfl, rfl, ⟨f100, g100, c100, d100, rfl, rfl, ⟨rfl, rfl⟩, ⟨rfl, rfl⟩⟩, ⟨f103, g103, c103, d103, rfl, rfl, ⟨v102, rfl, h102⟩, ⟨v104, rfl, h104⟩⟩⟩
    exact ⟨v102, v104, _, _, rfl, by simp, ⟨v102, rfl, h102⟩, ⟨v104, rfl, h104⟩⟩
  · rintro ⟨v2, v3, f2, f3, rfl, hf, H2, H3⟩
    have hf2 : f = (([] ++ []) ++ (f2 ++ f3)) := by simp [hf]
    rw [hf2]
    exact ⟨([] ++ []), (f2 ++ f3), [_, _], [_, _], rfl, rfl, ⟨[], [], [_], [_], rfl, rfl, ⟨rfl, rfl⟩, ⟨rfl, rfl⟩⟩, ⟨f2, f3, [_], [_], rfl, rfl, H2, H3⟩⟩

set_option maxRecDepth 100000 in
set_option maxHeartbeats 1600000 in
theorem toPool_any (x0 : Int) (x1 : Int) (v2 : Value) (r2 : List LeaseD) (v3 : Value) (r3 : List FixedD) (w : World) (h2 : layLeaseS.rd w [v2] r2) (l2 : r2.length ≤ 1048576) (h3 : layFixedS.rd w [v3] r3) (l3 : r3.length ≤ 1048576) :
    Calls Try.prog 8 #[.agg #[.int .i64 x0, .int .i64 x1, v2, v3]] w fun e w' => OutT layPool w ((x0, x1), r2, r3) e w' := by
  obtain ⟨a2, p2, rfl⟩ := rows_form h2
  obtain ⟨a3, p3, rfl⟩ := rows_form h3
  have C_toPrefix_any := Lib.hid toPrefix_any
  have C_toLeaseS_any := Lib.hid toLeaseS_any
  have C_toFixedS_any := Lib.hid toFixedS_any
  have H2 := Lib.hid h2
  have H3 := Lib.hid h3
  clear h2 h3
  have A0 := ((VarA.new w 27 #[.int .i64 x0, .int .i64 x1, .slice a2 r2.length p2, .slice a3 r3.length p3]).alloc (.cells #[.int .i64 0, .int .i64 0, .slice none 0 0, .slice none 0 0] PoolT)).alloc (.cells #[.int .i64 0, .int .i64 0, .slice none 0 0, .slice none 0 0] PoolT)
  have A1 := (VarA.new (w.alloc (.cells #[.int .i64 x0, .int .i64 x1, .slice a2 r2.length p2, .slice a3 r3.length p3] 27)) PoolT #[.int .i64 0, .int .i64 0, .slice none 0 0, .slice none 0 0]).alloc (.cells #[.int .i64 0, .int .i64 0, .slice none 0 0, .slice none 0 0] PoolT)
  have A2 := VarA.new ((w.alloc (.cells #[.int .i64 x0, .int .i64 x1, .slice a2 r2.length p2, .slice a3 r3.length p3] 27)).alloc (.cells #[.int .i64 0, .int .i64 0, .slice none 0 0, .slice none 0 0] PoolT)) PoolT #[.int .i64 0, .int .i64 0, .slice none 0 0, .slice none 0 0]
  have BY := ((((Below.refl w.heap.size w).alloc (Nat.le_refl _) (.cells #[.int .i64 x0, .int .i64 x1, .slice a2 r2.length p2, .slice a3 r3.length p3] 27)).alloc (by simp) (.cells #[.int .i64 0, .int .i64 0, .slice none 0 0, .slice none 0 0] PoolT)).alloc (by simp; omega) (.cells #[.int .i64 0, .int .i64 0, .slice none 0 0, .slice none 0 0] PoolT))
  have e1 : (w.alloc (.cells #[.int .i64 x0, .int .i64 x1, .slice a2 r2.length p2, .slice a3 r3.length p3] 27)).heap.size = w.heap.size + 1 := by simp
  have e2 : ((w.alloc (.cells #[.int .i64 x0, .int .i64 x1, .slice a2 r2.length p2, .slice a3 r3.length p3] 27)).alloc (.cells #[.int .i64 0, .int .i64 0, .slice none 0 0, .slice none 0 0] PoolT)).heap.size = w.heap.size + 1 + 1 := by simp
  rw [e1] at A1
  rw [e2] at A2
  clear e1 e2
  have HA0 := Lib.hid A0
  have HA1 := Lib.hid A1
  have HA2 := Lib.hid A2
  have HBY := Lib.hid BY
  clear A0 A1 A2 BY
  go_enter Try.func8, Try.ntmps8
  go_upto_region 2 with fail
  generalize ((w.alloc (.cells #[.int .i64 x0, .int .i64 x1, .slice a2 r2.length p2, .slice a3 r3.length p3] 27)).alloc (.cells #[.int .i64 0, .int .i64 0, .slice none 0 0, .slice none 0 0] PoolT)).alloc (.cells #[.int .i64 0, .int .i64 0, .slice none 0 0, .slice none 0 0] PoolT) = Y0 at *
  have c0 : Y0.cell? ⟨w.heap.size, 0, none⟩ = some (.int .i64 x0) := HA0.out.cell 0
  have c1 : Y0.cell? ⟨w.heap.size, 1, none⟩ = some (.int .i64 x1) := HA0.out.cell 1
  go_wp2_with fail
  refine (C_toPrefix_any.out _ _ _).mono ?_
  rintro e Y1 ⟨rfl, hb⟩
  replace HA0 := Lib.hid (HA0.out.next hb)
  replace HA1 := Lib.hid (HA1.out.next hb)
  replace HA2 := Lib.hid (HA2.out.next hb)
  replace HBY := Lib.hid (HBY.out.trans (hb.mono HBY.out.size))
  clear hb
  have q0 : Y1.cell? ⟨w.heap.size + 1 + 1, 0, none⟩ = some (.int .i64 0) := HA2.out.cell 0
  have f_0 : Y1.frozen? ⟨w.heap.size + 1 + 1, 0, none⟩ = false := HA2.out.free 0
  have q1 : Y1.cell? ⟨w.heap.size + 1 + 1, 1, none⟩ = some (.int .i64 0) := HA2.out.cell 1
  have f_1 : Y1.frozen? ⟨w.heap.size + 1 + 1, 1, none⟩ = false := HA2.out.free 1
  replace HA0 : Hid (VarA w.heap.size 27 #[.int .i64 x0, .int .i64 x1, .slice a2 r2.length p2, .slice a3 r3.length p3] (Y1.setCell ⟨w.heap.size + 1 + 1, 0, none⟩ (.int .i64 x0))) := HA0.out.off 0 (.int .i64 x0) (by omega)
  replace HA1 : Hid (VarA (w.heap.size + 1) PoolT #[.int .i64 0, .int .i64 0, .slice none 0 0, .slice none 0 0] (Y1.setCell ⟨w.heap.size + 1 + 1, 0, none⟩ (.int .i64 x0))) := HA1.out.off 0 (.int .i64 x0) (by omega)
  replace HA2 : Hid (VarA (w.heap.size + 1 + 1) PoolT #[.int .i64 x0, .int .i64 0, .slice none 0 0, .slice none 0 0] (Y1.setCell ⟨w.heap.size + 1 + 1, 0, none⟩ (.int .i64 x0))) := HA2.out.set 0 (.int .i64 x0)
  replace HBY : Hid (Below w.heap.size w (Y1.setCell ⟨w.heap.size + 1 + 1, 0, none⟩ (.int .i64 x0))) := HBY.out.trans ((Only.setCell (c := w.heap.size + 1 + 1) (w := Y1) 0 (.int .i64 x0)).below (B := w.heap.size) (by omega) HBY.out.size)
  replace HA0 : Hid (VarA w.heap.size 27 #[.int .i64 x0, .int .i64 x1, .slice a2 r2.length p2, .slice a3 r3.length p3] ((Y1.setCell ⟨w.heap.size + 1 + 1, 0, none⟩ (.int .i64 x0)).setCell ⟨w.heap.size + 1 + 1, 1, none⟩ (.int .i64 x1))) := HA0.out.off 1 (.int .i64 x1) (by omega)
  replace HA1 : Hid (VarA (w.heap.size + 1) PoolT #[.int .i64 0, .int .i64 0, .slice none 0 0, .slice none 0 0] ((Y1.setCell ⟨w.heap.size + 1 + 1, 0, none⟩ (.int .i64 x0)).setCell ⟨w.heap.size + 1 + 1, 1, none⟩ (.int .i64 x1))) := HA1.out.off 1 (.int .i64 x1) (by omega)
  replace HA2 : Hid (VarA (w.heap.size + 1 + 1) PoolT #[.int .i64 x0, .int .i64 x1, .slice none 0 0, .slice none 0 0] ((Y1.setCell ⟨w.heap.size + 1 + 1, 0, none⟩ (.int .i64 x0)).setCell ⟨w.heap.size + 1 + 1, 1, none⟩ (.int .i64 x1))) := HA2.out.set 1 (.int .i64 x1)
  replace HBY : Hid (Below w.heap.size w ((Y1.setCell ⟨w.heap.size + 1 + 1, 0, none⟩ (.int .i64 x0)).setCell ⟨w.heap.size + 1 + 1, 1, none⟩ (.int .i64 x1))) := HBY.out.trans ((Only.setCell (c := w.heap.size + 1 + 1) (w := (Y1.setCell ⟨w.heap.size + 1 + 1, 0, none⟩ (.int .i64 x0))) 1 (.int .i64 x1)).below (B := w.heap.size) (by omega) HBY.out.size)
  go_upto_region 3 with fail
  generalize ((Y1.setCell ⟨w.heap.size + 1 + 1, 0, none⟩ (.int .i64 x0)).setCell ⟨w.heap.size + 1 + 1, 1, none⟩ (.int .i64 x1)) = Y2 at *
  clear c0 q0 f_0 c1 q1 f_1
  have c2 : Y2.cell? ⟨w.heap.size, 2, none⟩ = some (.slice a2 r2.length p2) := HA0.out.cell 2
  go_wp2_with fail
  refine (C_toLeaseS_any.out _ _ l2 _ (layLeaseS.below H2.out HBY.out)).mono ?_
  rintro e Y3 ⟨n2, f2, rfl, nd2, hown, hb⟩
  obtain ⟨ao2, cp2, rfl⟩ := rows_form (layLeaseS.read hown)
  have LB2 : Hid (∀ a ∈ f2, w.heap.size + 1 + 1 < a) := fun a ha => Nat.lt_of_lt_of_le HA2.out.lt (layLeaseS.blocks hown a ha).1
  have O2 := Lib.hid (layLeaseS.lower hown HBY.out.size)
  replace HA0 := Lib.hid (HA0.out.next hb)
  replace HA1 := Lib.hid (HA1.out.next hb)
  replace HA2 := Lib.hid (HA2.out.next hb)
  replace HBY := Lib.hid (HBY.out.trans (hb.mono HBY.out.size))
  clear hb hown
  have q2 : Y3.cell? ⟨w.heap.size + 1 + 1, 2, none⟩ = some (.slice none 0 0) := HA2.out.cell 2
  have f_2 : Y3.frozen? ⟨w.heap.size + 1 + 1, 2, none⟩ = false := HA2.out.free 2
  replace HA0 : Hid (VarA w.heap.size 27 #[.int .i64 x0, .int .i64 x1, .slice a2 r2.length p2, .slice a3 r3.length p3] (Y3.setCell ⟨w.heap.size + 1 + 1, 2, none⟩ (.slice ao2 r2.length cp2))) := HA0.out.off 2 (.slice ao2 r2.length cp2) (by omega)
  replace HA1 : Hid (VarA (w.heap.size + 1) PoolT #[.int .i64 0, .int .i64 0, .slice none 0 0, .slice none 0 0] (Y3.setCell ⟨w.heap.size + 1 + 1, 2, none⟩ (.slice ao2 r2.length cp2))) := HA1.out.off 2 (.slice ao2 r2.length cp2) (by omega)
  replace HA2 : Hid (VarA (w.heap.size + 1 + 1) PoolT #[.int .i64 x0, .int .i64 x1, .slice ao2 r2.length cp2, .slice none 0 0] (Y3.setCell ⟨w.heap.size + 1 + 1, 2, none⟩ (.slice ao2 r2.length cp2))) := HA2.out.set 2 (.slice ao2 r2.length cp2)
  replace HBY : Hid (Below w.heap.size w (Y3.setCell ⟨w.heap.size + 1 + 1, 2, none⟩ (.slice ao2 r2.length cp2))) := HBY.out.trans ((Only.setCell (c := w.heap.size + 1 + 1) (w := Y3) 2 (.slice ao2 r2.length cp2)).below (B := w.heap.size) (by omega) HBY.out.size)
  replace O2 : Hid (layLeaseS.own (Y3.setCell ⟨w.heap.size + 1 + 1, 2, none⟩ (.slice ao2 r2.length cp2)) w.heap.size f2 [.slice ao2 r2.length cp2] r2) := layLeaseS.chg O2.out (Chg.cell _ _ _ _) (fun a ha => by have := LB2.out a ha; simp; omega)
  go_upto_region 4 with fail
  generalize (Y3.setCell ⟨w.heap.size + 1 + 1, 2, none⟩ (.slice ao2 r2.length cp2)) = Y4 at *
  clear c2 q2 f_2
  have c3 : Y4.cell? ⟨w.heap.size, 3, none⟩ = some (.slice a3 r3.length p3) := HA0.out.cell 3
  go_wp2_with fail
  refine (C_toFixedS_any.out _ _ l3 _ (layFixedS.below H3.out HBY.out)).mono ?_
  rintro e Y5 ⟨n3, f3, rfl, nd3, hown, hb⟩
  obtain ⟨ao3, cp3, rfl⟩ := rows_form (layFixedS.read hown)
  have LT2_3 : Hid (∀ a ∈ f2, ∀ b ∈ f3, a < b) := fun a ha b hb' => Nat.lt_of_lt_of_le (layLeaseS.blocks O2.out a ha).2 (layFixedS.blocks hown b hb').1
  have LB3 : Hid (∀ a ∈ f3, w.heap.size + 1 + 1 < a) := fun a ha => Nat.lt_of_lt_of_le HA2.out.lt (layFixedS.blocks hown a ha).1
  have O3 := Lib.hid (layFixedS.lower hown HBY.out.size)
  replace O2 := Lib.hid (layLeaseS.next O2.out hb)
  replace HA0 := Lib.hid (HA0.out.next hb)
  replace HA1 := Lib.hid (HA1.out.next hb)
  replace HA2 := Lib.hid (HA2.out.next hb)
  replace HBY := Lib.hid (HBY.out.trans (hb.mono HBY.out.size))
  clear hb hown
  have q3 : Y5.cell? ⟨w.heap.size + 1 + 1, 3, none⟩ = some (.slice none 0 0) := HA2.out.cell 3
  have f_3 : Y5.frozen? ⟨w.heap.size + 1 + 1, 3, none⟩ = false := HA2.out.free 3
  replace HA0 : Hid (VarA w.heap.size 27 #[.int .i64 x0, .int .i64 x1, .slice a2 r2.length p2, .slice a3 r3.length p3] (Y5.setCell ⟨w.heap.size + 1 + 1, 3, none⟩ (.slice ao3 r3.length cp3))) := HA0.out.off 3 (.slice ao3 r3.length cp3) (by omega)
  replace HA1 : Hid (VarA (w.heap.size + 1) PoolT #[.int .i64 0, .int .i64 0, .slice none 0 0, .slice none 0 0] (Y5.setCell ⟨w.heap.size + 1 + 1, 3, none⟩ (.slice ao3 r3.length cp3))) := HA1.out.off 3 (.slice ao3 r3.length cp3) (by omega)
  replace HA2 : Hid (VarA (w.heap.size + 1 + 1) PoolT #[.int .i64 x0, .int .i64 x1, .slice ao2 r2.length cp2, .slice ao3 r3.length cp3] (Y5.setCell ⟨w.heap.size + 1 + 1, 3, none⟩ (.slice ao3 r3.length cp3))) := HA2.out.set 3 (.slice ao3 r3.length cp3)
  replace HBY : Hid (Below w.heap.size w (Y5.setCell ⟨w.heap.size + 1 + 1, 3, none⟩ (.slice ao3 r3.length cp3))) := HBY.out.trans ((Only.setCell (c := w.heap.size + 1 + 1) (w := Y5) 3 (.slice ao3 r3.length cp3)).below (B := w.heap.size) (by omega) HBY.out.size)
  replace O2 : Hid (layLeaseS.own (Y5.setCell ⟨w.heap.size + 1 + 1, 3, none⟩ (.slice ao3 r3.length cp3)) w.heap.size f2 [.slice ao2 r2.length cp2] r2) := layLeaseS.chg O2.out (Chg.cell _ _ _ _) (fun a ha => by have := LB2.out a ha; simp; omega)
  replace O3 : Hid (layFixedS.own (Y5.setCell ⟨w.heap.size + 1 + 1, 3, none⟩ (.slice ao3 r3.length cp3)) w.heap.size f3 [.slice ao3 r3.length cp3] r3) := layFixedS.chg O3.out (Chg.cell _ _ _ _) (fun a ha => by have := LB3.out a ha; simp; omega)
  go_upto_region 5 with fail
  generalize (Y5.setCell ⟨w.heap.size + 1 + 1, 3, none⟩ (.slice ao3 r3.length cp3)) = Y6 at *
  clear c3 q3 f_3
  have c0 : Y6.cell? ⟨w.heap.size + 1 + 1, 0, none⟩ = some (.int .i64 x0) := HA2.out.cell 0
  have q0 : Y6.cell? ⟨w.heap.size + 1, 0, none⟩ = some (.int .i64 0) := HA1.out.cell 0
  have f_0 : Y6.frozen? ⟨w.heap.size + 1, 0, none⟩ = false := HA1.out.free 0
  have c1 : Y6.cell? ⟨w.heap.size + 1 + 1, 1, none⟩ = some (.int .i64 x1) := HA2.out.cell 1
  have q1 : Y6.cell? ⟨w.heap.size + 1, 1, none⟩ = some (.int .i64 0) := HA1.out.cell 1
  have f_1 : Y6.frozen? ⟨w.heap.size + 1, 1, none⟩ = false := HA1.out.free 1
  have c2 : Y6.cell? ⟨w.heap.size + 1 + 1, 2, none⟩ = some (.slice ao2 r2.length cp2) := HA2.out.cell 2
  have q2 : Y6.cell? ⟨w.heap.size + 1, 2, none⟩ = some (.slice none 0 0) := HA1.out.cell 2
  have f_2 : Y6.frozen? ⟨w.heap.size + 1, 2, none⟩ = false := HA1.out.free 2
  have c3 : Y6.cell? ⟨w.heap.size + 1 + 1, 3, none⟩ = some (.slice ao3 r3.length cp3) := HA2.out.cell 3
  have q3 : Y6.cell? ⟨w.heap.size + 1, 3, none⟩ = some (.slice none 0 0) := HA1.out.cell 3
  have f_3 : Y6.frozen? ⟨w.heap.size + 1, 3, none⟩ = false := HA1.out.free 3
  replace HA1 : Hid (VarA (w.heap.size + 1) PoolT #[.int .i64 x0, .int .i64 0, .slice none 0 0, .slice none 0 0] (Y6.setCell ⟨w.heap.size + 1, 0, none⟩ (.int .i64 x0))) := HA1.out.set 0 (.int .i64 x0)
  replace HBY : Hid (Below w.heap.size w (Y6.setCell ⟨w.heap.size + 1, 0, none⟩ (.int .i64 x0))) := HBY.out.trans ((Only.setCell (c := w.heap.size + 1) (w := Y6) 0 (.int .i64 x0)).below (B := w.heap.size) (by omega) HBY.out.size)
  replace O2 : Hid (layLeaseS.own (Y6.setCell ⟨w.heap.size + 1, 0, none⟩ (.int .i64 x0)) w.heap.size f2 [.slice ao2 r2.length cp2] r2) := layLeaseS.chg O2.out (Chg.cell _ _ _ _) (fun a ha => by have := LB2.out a ha; simp; omega)
  replace O3 : Hid (layFixedS.own (Y6.setCell ⟨w.heap.size + 1, 0, none⟩ (.int .i64 x0)) w.heap.size f3 [.slice ao3 r3.length cp3] r3) := layFixedS.chg O3.out (Chg.cell _ _ _ _) (fun a ha => by have := LB3.out a ha; simp; omega)
  replace HA1 : Hid (VarA (w.heap.size + 1) PoolT #[.int .i64 x0, .int .i64 x1, .slice none 0 0, .slice none 0 0] ((Y6.setCell ⟨w.heap.size + 1, 0, none⟩ (.int .i64 x0)).setCell ⟨w.heap.size + 1, 1, none⟩ (.int .i64 x1))) := HA1.out.set 1 (.int .i64 x1)
  replace HBY : Hid (Below w.heap.size w ((Y6.setCell ⟨w.heap.size + 1, 0, none⟩ (.int .i64 x0)).setCell ⟨w.heap.size + 1, 1, none⟩ (.int .i64 x1))) := HBY.out.trans ((Only.setCell (c := w.heap.size + 1) (w := (Y6.setCell ⟨w.heap.size + 1, 0, none⟩ (.int .i64 x0))) 1 (.int .i64 x1)).below (B := w.heap.size) (by omega) HBY.out.size)
  replace O2 : Hid (layLeaseS.own ((Y6.setCell ⟨w.heap.size + 1, 0, none⟩ (.int .i64 x0)).setCell ⟨w.heap.size + 1, 1, none⟩ (.int .i64 x1)) w.heap.size f2 [.slice ao2 r2.length cp2] r2) := layLeaseS.chg O2.out (Chg.cell _ _ _ _) (fun a ha => by have := LB2.out a ha; simp; omega)
  replace O3 : Hid (layFixedS.own ((Y6.setCell ⟨w.heap.size + 1, 0, none⟩ (.int .i64 x0)).setCell ⟨w.heap.size + 1, 1, none⟩ (.int .i64 x1)) w.heap.size f3 [.slice ao3 r3.length cp3] r3) := layFixedS.chg O3.out (Chg.cell _ _ _ _) (fun a ha => by have := LB3.out a ha; simp; omega)
  replace HA1 : Hid (VarA (w.heap.size + 1) PoolT #[.int .i64 x0, .int .i64 x1, .slice ao2 r2.length cp2, .slice none 0 0] (((Y6.setCell ⟨w.heap.size + 1, 0, none⟩ (.int .i64 x0)).setCell ⟨w.heap.size + 1, 1, none⟩ (.int .i64 x1)).setCell ⟨w.heap.size + 1, 2, none⟩ (.slice ao2 r2.length cp2))) := HA1.out.set 2 (.slice ao2 r2.length cp2)
  replace HBY : Hid (Below w.heap.size w (((Y6.setCell ⟨w.heap.size + 1, 0, none⟩ (.int .i64 x0)).setCell ⟨w.heap.size + 1, 1, none⟩ (.int .i64 x1)).setCell ⟨w.heap.size + 1, 2, none⟩ (.slice ao2 r2.length cp2))) := HBY.out.trans ((Only.setCell (c := w.heap.size + 1) (w := ((Y6.setCell ⟨w.heap.size + 1, 0, none⟩ (.int .i64 x0)).setCell ⟨w.heap.size + 1, 1, none⟩ (.int .i64 x1))) 2 (.slice ao2 r2.length cp2)).below (B := w.heap.size) (by omega) HBY.out.size)
  replace O2 : Hid (layLeaseS.own (((Y6.setCell ⟨w.heap.size + 1, 0, none⟩ (.int .i64 x0)).setCell ⟨w.heap.size + 1, 1, none⟩ (.int .i64 x1)).setCell ⟨w.heap.size + 1, 2, none⟩ (.slice ao2 r2.length cp2)) w.heap.size f2 [.slice ao2 r2.length cp2] r2) := layLeaseS.chg O2.out (Chg.cell _ _ _ _) (fun a ha => by have := LB2.out a ha; simp; omega)
  replace O3 : Hid (layFixedS.own (((Y6.setCell ⟨w.heap.size + 1, 0, none⟩ (.int .i64 x0)).setCell ⟨w.heap.size + 1, 1, none⟩ (.int .i64 x1)).setCell ⟨w.heap.size + 1, 2, none⟩ (.slice ao2 r2.length cp2)) w.heap.size f3 [.slice ao3 r3.length cp3] r3) := layFixedS.chg O3.out (Chg.cell _ _ _ _) (fun a ha => by have := LB3.out a ha; simp; omega)
  replace HA1 : Hid (VarA (w.heap.size + 1) PoolT #[.int .i64 x0, .int .i64 x1, .slice ao2 r2.length cp2, .slice ao3 r3.length cp3] ((((Y6.setCell ⟨w.heap.size + 1, 0, none⟩ (.int .i64 x0)).setCell ⟨w.heap.size + 1, 1, none⟩ (.int .i64 x1)).setCell ⟨w.heap.size + 1, 2, none⟩ (.slice ao2 r2.length cp2)).setCell ⟨w.heap.size + 1, 3, none⟩ (.slice ao3 r3.length cp3))) := HA1.out.set 3 (.slice ao3 r3.length cp3)
  replace HBY : Hid (Below w.heap.size w ((((Y6.setCell ⟨w.heap.size + 1, 0, none⟩ (.int .i64 x0)).setCell ⟨w.heap.size + 1, 1, none⟩ (.int .i64 x1)).setCell ⟨w.heap.size + 1, 2, none⟩ (.slice ao2 r2.length cp2)).setCell ⟨w.heap.size + 1, 3, none⟩ (.slice ao3 r3.length cp3))) := HBY.out.trans ((Only.setCell (c := w.heap.size + 1) (w := (((Y6.setCell ⟨w.heap.size + 1, 0, none⟩ (.int .i64 x0)).setCell ⟨w.heap.size + 1, 1, none⟩ (.int .i64 x1)).setCell ⟨w.heap.size + 1, 2, none⟩ (.slice ao2 r2.length cp2))) 3 (.slice ao3 r3.length cp3)).below (B := w.heap.size) (by omega) HBY.out.size)
  replace O2 : Hid (layLeaseS.own ((((Y6.setCell ⟨w.heap.size + 1, 0, none⟩ (.int .i64 x0)).setCell ⟨w.heap.size + 1, 1, none⟩ (.int .i64 x1)).setCell ⟨w.heap.size + 1, 2, none⟩ (.slice ao2 r2.length cp2)).setCell ⟨w.heap.size + 1, 3, none⟩ (.slice ao3 r3.length cp3)) w.heap.size f2 [.slice ao2 r2.length cp2] r2) := layLeaseS.chg O2.out (Chg.cell _ _ _ _) (fun a ha => by have := LB2.out a ha; simp; omega)
  replace O3 : Hid (layFixedS.own ((((Y6.setCell ⟨w.heap.size + 1, 0, none⟩ (.int .i64 x0)).setCell ⟨w.heap.size + 1, 1, none⟩ (.int .i64 x1)).setCell ⟨w.heap.size + 1, 2, none⟩ (.slice ao2 r2.length cp2)).setCell ⟨w.heap.size + 1, 3, none⟩ (.slice ao3 r3.length cp3)) w.heap.size f3 [.slice ao3 r3.length cp3] r3) := layFixedS.chg O3.out (Chg.cell _ _ _ _) (fun a ha => by have := LB3.out a ha; simp; omega)
  go_wp2_with fail
  have j0 := HA1.out.cell 0
  have j1 := HA1.out.cell 1
  have j2 := HA1.out.cell 2
  have j3 := HA1.out.cell 3
  refine bodyPost_ret (v := .agg #[.int .i64 x0, .int .i64 x1, .slice ao2 r2.length cp2, .slice ao3 r3.length cp3]) (by simp [results, Try.results8, go_sem, j0, j1, j2, j3]) rfl ⟨[.int .i64 x0, .int .i64 x1, .slice ao2 r2.length cp2, .slice ao3 r3.length cp3], _, rfl, nodup_two nd2 (nd3) (LT2_3.out), layPool_own.2 ⟨_, _, _, _, rfl, rfl, O2.out, O3.out⟩, HBY.out⟩

set_option maxRecDepth 100000 in
set_option maxHeartbeats 1600000 in
theorem eqPool_same (x0 : Int) (x1 : Int) (v2 u2 : Value) (r2 : List LeaseD) (v3 u3 : Value) (r3 : List FixedD) (w : World) (h2 : layLeaseS.rd w [v2] r2) (k2 : layLeaseS.rd w [u2] r2) (l2 : r2.length ≤ 100000000) (h3 : layFixedS.rd w [v3] r3) (k3 : layFixedS.rd w [u3] r3) (l3 : r3.length ≤ 100000000) :
    Calls Try.prog 10 #[.agg #[.int .i64 x0, .int .i64 x1, v2, v3], .agg #[.int .i64 x0, .int .i64 x1, u2, u3]] w fun e w' => e = .returned (.bool true) ∧ Below w.heap.size w w' := by
  have C_eqPrefix_same := Lib.hid eqPrefix_same
  have C_eqLeaseS_same := Lib.hid eqLeaseS_same
  have C_eqFixedS_same := Lib.hid eqFixedS_same
  have H2 := Lib.hid h2
  have K2 := Lib.hid k2
  have H3 := Lib.hid h3
  have K3 := Lib.hid k3
  clear h2 k2 h3 k3
  have A0 := (VarA.new w PoolT #[.int .i64 x0, .int .i64 x1, v2, v3]).alloc (.cells #[.int .i64 x0, .int .i64 x1, u2, u3] PoolT)
  have A1 := VarA.new (w.alloc (.cells #[.int .i64 x0, .int .i64 x1, v2, v3] PoolT)) PoolT #[.int .i64 x0, .int .i64 x1, u2, u3]
  have BY := ((Below.refl w.heap.size w).alloc (Nat.le_refl _) (.cells #[.int .i64 x0, .int .i64 x1, v2, v3] PoolT)).alloc (by simp) (.cells #[.int .i64 x0, .int .i64 x1, u2, u3] PoolT)
  have e1 : (w.alloc (.cells #[.int .i64 x0, .int .i64 x1, v2, v3] PoolT)).heap.size = w.heap.size + 1 := by simp
  rw [e1] at A1
  clear e1
  have HA0 := Lib.hid A0
  have HA1 := Lib.hid A1
  have HBY := Lib.hid BY
  clear A0 A1 BY
  go_enter Try.func10, Try.ntmps10
  go_upto_region 1 with fail
  generalize (w.alloc (.cells #[.int .i64 x0, .int .i64 x1, v2, v3] PoolT)).alloc (.cells #[.int .i64 x0, .int .i64 x1, u2, u3] PoolT) = Y0 at *
  have a0 : Y0.cell? ⟨w.heap.size, 0, none⟩ = some (.int .i64 x0) := HA0.out.cell 0
  have b0 : Y0.cell? ⟨w.heap.size + 1, 0, none⟩ = some (.int .i64 x0) := HA1.out.cell 0
  have a1 : Y0.cell? ⟨w.heap.size, 1, none⟩ = some (.int .i64 x1) := HA0.out.cell 1
  have b1 : Y0.cell? ⟨w.heap.size + 1, 1, none⟩ = some (.int .i64 x1) := HA1.out.cell 1
  have a2 : Y0.cell? ⟨w.heap.size, 2, none⟩ = some (v2) := HA0.out.cell 2
  have b2 : Y0.cell? ⟨w.heap.size + 1, 2, none⟩ = some (u2) := HA1.out.cell 2
  have a3 : Y0.cell? ⟨w.heap.size, 3, none⟩ = some (v3) := HA0.out.cell 3
  have b3 : Y0.cell? ⟨w.heap.size + 1, 3, none⟩ = some (u3) := HA1.out.cell 3
  go_wp2_with fail
  refine (C_eqPrefix_same.out _ _ _).mono ?_
  rintro e Y1 ⟨rfl, hb⟩
  replace HA0 := Lib.hid (HA0.out.next hb)
  replace HA1 := Lib.hid (HA1.out.next hb)
  replace HBY := Lib.hid (HBY.out.trans (hb.mono HBY.out.size))
  clear hb a0 b0 a1 b1 a2 b2 a3 b3
  have a0 : Y1.cell? ⟨w.heap.size, 0, none⟩ = some (.int .i64 x0) := HA0.out.cell 0
  have b0 : Y1.cell? ⟨w.heap.size + 1, 0, none⟩ = some (.int .i64 x0) := HA1.out.cell 0
  have a1 : Y1.cell? ⟨w.heap.size, 1, none⟩ = some (.int .i64 x1) := HA0.out.cell 1
  have b1 : Y1.cell? ⟨w.heap.size + 1, 1, none⟩ = some (.int .i64 x1) := HA1.out.cell 1
  have a2 : Y1.cell? ⟨w.heap.size, 2, none⟩ = some (v2) := HA0.out.cell 2
  have b2 : Y1.cell? ⟨w.heap.size + 1, 2, none⟩ = some (u2) := HA1.out.cell 2
  have a3 : Y1.cell? ⟨w.heap.size, 3, none⟩ = some (v3) := HA0.out.cell 3
  have b3 : Y1.cell? ⟨w.heap.size + 1, 3, none⟩ = some (u3) := HA1.out.cell 3
  go_wp2_with fail
  refine (C_eqLeaseS_same.out _ _ r2 l2 _ (layLeaseS.below H2.out HBY.out) (layLeaseS.below K2.out HBY.out)).mono ?_
  rintro e Y2 ⟨rfl, hb⟩
  replace HA0 := Lib.hid (HA0.out.next hb)
  replace HA1 := Lib.hid (HA1.out.next hb)
  replace HBY := Lib.hid (HBY.out.trans (hb.mono HBY.out.size))
  clear hb a0 b0 a1 b1 a2 b2 a3 b3
  have a0 : Y2.cell? ⟨w.heap.size, 0, none⟩ = some (.int .i64 x0) := HA0.out.cell 0
  have b0 : Y2.cell? ⟨w.heap.size + 1, 0, none⟩ = some (.int .i64 x0) := HA1.out.cell 0
  have a1 : Y2.cell? ⟨w.heap.size, 1, none⟩ = some (.int .i64 x1) := HA0.out.cell 1
  have b1 : Y2.cell? ⟨w.heap.size + 1, 1, none⟩ = some (.int .i64 x1) := HA1.out.cell 1
  have a2 : Y2.cell? ⟨w.heap.size, 2, none⟩ = some (v2) := HA0.out.cell 2
  have b2 : Y2.cell? ⟨w.heap.size + 1, 2, none⟩ = some (u2) := HA1.out.cell 2
  have a3 : Y2.cell? ⟨w.heap.size, 3, none⟩ = some (v3) := HA0.out.cell 3
  have b3 : Y2.cell? ⟨w.heap.size + 1, 3, none⟩ = some (u3) := HA1.out.cell 3
  go_wp2_with fail
  refine (C_eqFixedS_same.out _ _ r3 l3 _ (layFixedS.below H3.out HBY.out) (layFixedS.below K3.out HBY.out)).mono ?_
  rintro e Y3 ⟨rfl, hb⟩
  replace HA0 := Lib.hid (HA0.out.next hb)
  replace HA1 := Lib.hid (HA1.out.next hb)
  replace HBY := Lib.hid (HBY.out.trans (hb.mono HBY.out.size))
  clear hb a0 b0 a1 b1 a2 b2 a3 b3
  have a0 : Y3.cell? ⟨w.heap.size, 0, none⟩ = some (.int .i64 x0) := HA0.out.cell 0
  have b0 : Y3.cell? ⟨w.heap.size + 1, 0, none⟩ = some (.int .i64 x0) := HA1.out.cell 0
  have a1 : Y3.cell? ⟨w.heap.size, 1, none⟩ = some (.int .i64 x1) := HA0.out.cell 1
  have b1 : Y3.cell? ⟨w.heap.size + 1, 1, none⟩ = some (.int .i64 x1) := HA1.out.cell 1
  have a2 : Y3.cell? ⟨w.heap.size, 2, none⟩ = some (v2) := HA0.out.cell 2
  have b2 : Y3.cell? ⟨w.heap.size + 1, 2, none⟩ = some (u2) := HA1.out.cell 2
  have a3 : Y3.cell? ⟨w.heap.size, 3, none⟩ = some (v3) := HA0.out.cell 3
  have b3 : Y3.cell? ⟨w.heap.size + 1, 3, none⟩ = some (u3) := HA1.out.cell 3
  go_wp2_with fail
  go_ret
  exact ⟨rfl, HBY.out⟩

set_option maxRecDepth 100000 in
set_option maxHeartbeats 1600000 in
theorem markPool_any (x0 : Int) (x1 : Int) (v2 : Value) (r2 : List LeaseD) (v3 : Value) (r3 : List FixedD) (b : Nat) (f2 f3 : List Nat) (l2 : r2.length ≤ 10000000) (l3 : r3.length ≤ 10000000) (k : Int) (hk0 : 0 ≤ k) (hk1 : k ≤ 100000000) (w : World) (hd : (f2 ++ f3).Nodup) (o2 : layLeaseS.own w b f2 [v2] r2) (o3 : layFixedS.own w b f3 [v3] r3) :
    Calls Try.prog 11 #[.agg #[.int .i64 x0, .int .i64 x1, v2, v3], .int .i64 k] w fun e w' => e = .returned (.int .i64 (k + 3 * (r2.length : Int) + 2 * (r3.length : Int))) ∧ (layLeaseS.own w' b f2 [v2] (layLeaseS.mark (k) r2).1 ∧ layFixedS.own w' b f3 [v3] (layFixedS.mark (k + 3 * (r2.length : Int)) r3).1) ∧ Chg (f2 ++ f3) w w' := by
  have C2 := Lib.hid markLeaseS_any
  have O2 := Lib.hid (layLeaseS.next o2 ((Below.refl _ _).alloc (Nat.le_refl _) (.cells #[.int .i64 x0, .int .i64 x1, v2, v3] PoolT)))
  have C3 := Lib.hid markFixedS_any
  have O3 := Lib.hid (layFixedS.next o3 ((Below.refl _ _).alloc (Nat.le_refl _) (.cells #[.int .i64 x0, .int .i64 x1, v2, v3] PoolT)))
  have A0 := Lib.hid (VarA.new w PoolT #[.int .i64 x0, .int .i64 x1, v2, v3])
  have G0 := Lib.hid (Below.chg ((Below.refl w.heap.size w).alloc (Nat.le_refl _) (.cells #[.int .i64 x0, .int .i64 x1, v2, v3] PoolT)) (f2 ++ f3))
  have HD := Lib.hid hd
  have LW : Hid ((∀ a ∈ f2, a < w.heap.size) ∧ (∀ a ∈ f3, a < w.heap.size)) := ⟨fun a ha => (layLeaseS.blocks o2 a ha).2, fun a ha => (layFixedS.blocks o3 a ha).2⟩
  have D2_3 : Hid (∀ a ∈ f2, a ∉ f3) := fun a ha hb => by have h := HD.out; simp only [List.nodup_append] at h; grind
  clear hd o2 o3
  go_enter Try.func11, Try.ntmps11
  go_upto_region 1 with fail
  generalize w.alloc (.cells #[.int .i64 x0, .int .i64 x1, v2, v3] PoolT) = Y0 at *
  have c2 : Y0.cell? ⟨w.heap.size, 2, none⟩ = some (v2) := A0.out.cell 2
  go_wp2_with fail
  refine (C2.out v2 r2 b f2 k hk0 (by omega) (by omega) _ (by have h := HD.out; simp only [List.nodup_append] at h; grind) O2.out).mono ?_
  rintro e Y1 ⟨rfl, om2, hc⟩
  have M2 := Lib.hid om2
  replace O3 := Lib.hid (layFixedS.chg O3.out hc (fun a ha hb => D2_3.out a hb ha))
  replace A0 : Hid (VarA w.heap.size PoolT #[.int .i64 x0, .int .i64 x1, v2, v3] Y1) := ⟨by rw [hc.block _ A0.out.lt (fun e => by have := LW.out.1 _ e; omega)]; exact A0.out.row⟩
  replace G0 := Lib.hid (G0.out.trans (hc.sub (by intro a ha; simp [ha])))
  clear hc om2 c2
  have c3 : Y1.cell? ⟨w.heap.size, 3, none⟩ = some (v3) := A0.out.cell 3
  obtain ⟨q3, hq3, q0_3, q1_3⟩ : ∃ q : Int, k + 3 * (r2.length : Int) = q ∧ 0 ≤ q ∧ q ≤ 1000000000 := ⟨_, rfl, by omega, by omega⟩
  rw [hq3]
  have HQ3 := Lib.hid hq3
  clear hq3
  go_wp2_with fail
  refine (C3.out v3 r3 b f3 q3 q0_3 q1_3 (by omega) _ (by have h := HD.out; simp only [List.nodup_append] at h; grind) O3.out).mono ?_
  rintro e Y2 ⟨rfl, om3, hc⟩
  have M3 := Lib.hid om3
  replace M2 := Lib.hid (layLeaseS.chg M2.out hc D2_3.out)
  replace A0 : Hid (VarA w.heap.size PoolT #[.int .i64 x0, .int .i64 x1, v2, v3] Y2) := ⟨by rw [hc.block _ A0.out.lt (fun e => by have := LW.out.2 _ e; omega)]; exact A0.out.row⟩
  replace G0 := Lib.hid (G0.out.trans (hc.sub (by intro a ha; simp [ha])))
  clear hc om3 c3
  go_wp2_with fail
  go_ret
  refine ⟨by (rw [← HQ3.out]) <;> (congr 2 <;> omega), ⟨M2.out, by rw [HQ3.out]; exact M3.out⟩, G0.out⟩

set_option maxRecDepth 100000 in
set_option maxHeartbeats 1600000 in
theorem heldPool_any (x0 : Int) (x1 : Int) (v2 : Value) (r2 : List LeaseD) (v3 : Value) (r3 : List FixedD) (l2 : r2.length ≤ 10000000) (l3 : r3.length ≤ 10000000) (k : Int) (hk0 : 0 ≤ k) (hk1 : k ≤ 100000000) (w : World) (h2 : layLeaseS.rd w [v2] (layLeaseS.mark (k) r2).1) (h3 : layFixedS.rd w [v3] (layFixedS.mark (k + 3 * (r2.length : Int)) r3).1) :
    Calls Try.prog 12 #[.agg #[.int .i64 x0, .int .i64 x1, v2, v3], .int .i64 k] w fun e w' => e = .returned (.int .i64 (k + 3 * (r2.length : Int) + 2 * (r3.length : Int))) ∧ Below w.heap.size w w' := by
  have C2 := Lib.hid heldLeaseS_any
  have H2 := Lib.hid (layLeaseS.below h2 ((Below.refl _ _).alloc (Nat.le_refl _) (.cells #[.int .i64 x0, .int .i64 x1, v2, v3] PoolT)))
  have C3 := Lib.hid heldFixedS_any
  have H3 := Lib.hid (layFixedS.below h3 ((Below.refl _ _).alloc (Nat.le_refl _) (.cells #[.int .i64 x0, .int .i64 x1, v2, v3] PoolT)))
  have A0 := Lib.hid (VarA.new w PoolT #[.int .i64 x0, .int .i64 x1, v2, v3])
  have BY := Lib.hid ((Below.refl w.heap.size w).alloc (Nat.le_refl _) (.cells #[.int .i64 x0, .int .i64 x1, v2, v3] PoolT))
  clear h2 h3
  go_enter Try.func12, Try.ntmps12
  go_upto_region 1 with fail
  generalize w.alloc (.cells #[.int .i64 x0, .int .i64 x1, v2, v3] PoolT) = Y0 at *
  have c2 : Y0.cell? ⟨w.heap.size, 2, none⟩ = some (v2) := A0.out.cell 2
  have c3 : Y0.cell? ⟨w.heap.size, 3, none⟩ = some (v3) := A0.out.cell 3
  have P2 : ¬ (k + 3 * (r2.length : Int) < 0) := by omega
  go_wp2_with fail
  refine (C2.out v2 r2 k hk0 (by omega) (by omega) _ H2.out).mono ?_
  rintro e Y1 ⟨rfl, rfl⟩
  obtain ⟨q3, hq3, q0_3, q1_3⟩ : ∃ q : Int, k + 3 * (r2.length : Int) = q ∧ 0 ≤ q ∧ q ≤ 1000000000 := ⟨_, rfl, by omega, by omega⟩
  rw [hq3] at H3
  rw [hq3]
  have HQ3 := Lib.hid hq3
  clear hq3
  have P3 : ¬ (q3 + 2 * (r3.length : Int) < 0) := by omega
  go_wp2_with fail
  refine (C3.out v3 r3 q3 q0_3 q1_3 (by omega) _ H3.out).mono ?_
  rintro e Y2 ⟨rfl, rfl⟩
  go_wp2_with fail
  go_ret
  exact ⟨by (rw [← HQ3.out]) <;> (congr 2 <;> omega), BY.out⟩

end Go.Proofs.Ytphmomlgmnllkaq

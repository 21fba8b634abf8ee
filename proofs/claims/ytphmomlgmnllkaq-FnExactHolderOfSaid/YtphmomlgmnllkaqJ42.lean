/-
  The exact laws on PoolOk and HolderOf, out of one answer that both give.
-/
import Derived.Test.YtphmomlgmnllkaqJ22
namespace Go.Proofs.Ytphmomlgmnllkaq
open Go.RowKit

set_option maxRecDepth 100000 in
set_option maxHeartbeats 800000 in
theorem szPool_any (x0 x1 : Int) (a b : Option Addr) (n m cp dp : Nat) (hn : n ≤ 9223372036854775807) (hm : m ≤ 9223372036854775807) (w : World) :
    Calls Try.prog 6 #[.agg #[.int .i64 x0, .int .i64 x1, .slice a n cp, .slice b m dp], .int .i64 1048576] w fun e w' => e = .returned (.int .i64 (if 1048576 < n + m then -1 else 1048576 - (n : Int) - (m : Int))) ∧ Below w.heap.size w w' := by
  have H1 := Lib.hid (szLeaseS_any a n cp 1048576 (by omega) (by omega) hn)
  by_cases h : 1048576 < n
  · have h1 : (1048576 : Int) < (n : Int) := by omega
    rw [if_pos h1] at H1
    rw [if_pos (by omega)]
    go_enter Try.func6, Try.ntmps6
    go_wp2_with fail
    refine (H1.out _).mono ?_
    rintro e Y ⟨rfl, rfl⟩
    go_wp2_with fail
    go_ret
    exact ⟨rfl, (Below.refl _ _).alloc (Nat.le_refl _) _⟩
  · have h1 : ¬ ((1048576 : Int) < (n : Int)) := by omega
    have h2 : ¬ ((1048576 : Int) - (n : Int) < 0) := by omega
    rw [if_neg h1] at H1
    have H2 := Lib.hid (szFixedS_any b m dp (1048576 - (n : Int)) (by omega) (by omega) hm)
    by_cases h5 : 1048576 < n + m
    · have h3 : (1048576 : Int) - (n : Int) < (m : Int) := by omega
      rw [if_pos h3] at H2
      rw [if_pos h5]
      go_enter Try.func6, Try.ntmps6
      go_wp2_with fail
      refine (H1.out _).mono ?_
      rintro e Y ⟨rfl, rfl⟩
      go_wp2_with fail
      refine (H2.out _).mono ?_
      rintro e Y ⟨rfl, rfl⟩
      go_wp2_with fail
      go_ret
      exact ⟨rfl, (Below.refl _ _).alloc (Nat.le_refl _) _⟩
    · have h3 : ¬ ((1048576 : Int) - (n : Int) < (m : Int)) := by omega
      have h4 : ¬ ((1048576 : Int) - (n : Int) - (m : Int) < 0) := by omega
      rw [if_neg h3] at H2
      rw [if_neg h5]
      go_enter Try.func6, Try.ntmps6
      go_wp2_with fail
      refine (H1.out _).mono ?_
      rintro e Y ⟨rfl, rfl⟩
      go_wp2_with fail
      refine (H2.out _).mono ?_
      rintro e Y ⟨rfl, rfl⟩
      go_wp2_with fail
      go_ret
      exact ⟨rfl, (Below.refl _ _).alloc (Nat.le_refl _) _⟩

/-- The law's own variables: the argument's, and the one of its copy. -/
structure EP (w : World) (pa pn : Int) (va vb vx vy : Value) (gx : Nat) (ls : List Ls) (fs : List Fx) (X : World) : Prop where
  box : VarA w.heap.size 27 #[.int .i64 pa, .int .i64 pn, va, vb] X
  var : VarA gx PoolT #[.int .i64 pa, .int .i64 pn, vx, vy] X
  row : PoolR X vx vy ls fs
  below : Below w.heap.size w X
theorem EP.next {w : World} {pa pn : Int} {va vb vx vy : Value} {gx : Nat} {ls : List Ls} {fs : List Fx} {X Y : World} (h : EP w pa pn va vb vx vy gx ls fs X) (hb : Below X.heap.size X Y) : EP w pa pn va vb vx vy gx ls fs Y := ⟨h.box.next hb, h.var.next hb, h.row.next hb, h.below.trans (hb.mono h.below.size)⟩
/-- What toPool gives. -/
def PoolMade (pa pn : Int) (ls : List Ls) (fs : List Fx) (w : World) (e : Ending) (w' : World) : Prop :=
  ∃ (x y : Option Addr) (c d : Nat), e = .returned (.agg #[.int .i64 pa, .int .i64 pn, .slice x ls.length c, .slice y fs.length d]) ∧ PoolR w' (.slice x ls.length c) (.slice y fs.length d) ls fs ∧ Below w.heap.size w w'
theorem toPool_made (pa pn : Int) (lv fv : Value) (ls : List Ls) (fs : List Fx) (w : World) (h : PoolR w lv fv ls fs) (hl : ls.length ≤ 1048576) (hf : fs.length ≤ 1048576) : Calls Try.prog 8 #[.agg #[.int .i64 pa, .int .i64 pn, lv, fv]] w (PoolMade pa pn ls fs w) := by
  refine (toPool_any pa pn lv ls fv fs w h.leases hl h.fixes hf).mono ?_
  rintro e w' ⟨cs, fp, rfl, _, hown, hb⟩
  obtain ⟨v2, v3, f2, f3, rfl, _, o2, o3⟩ := layPool_own.1 hown
  obtain ⟨x, c, rfl⟩ := rows_form (layLeaseS.read o2)
  obtain ⟨y, d, rfl⟩ := rows_form (layFixedS.read o3)
  exact ⟨x, y, c, d, rfl, ⟨layLeaseS.read o2, layFixedS.read o3⟩, hb⟩

set_option maxRecDepth 100000 in
set_option maxHeartbeats 3200000 in
/-- The exact law on HolderOf, out of one answer that both give. -/
theorem lawHolderOfF (L : World → Prop) (stays : ∀ X Y, L X → Below X.heap.size X Y → L Y) (pa pn : Int) (va vb : Value) (ls : List Ls) (fs : List Fx) (x y : Int) (hl : ls.length + fs.length ≤ 1048576)
    (hI : ∀ (v u : Value) (X : World), L X → PoolR X v u ls fs → Calls Try.prog 16 #[.agg #[.int .i64 pa, .int .i64 pn, v, u], .int .i64 x] X fun e X' => e = .returned (.int .i64 y) ∧ Below X.heap.size X X')
    (hS : ∀ (v u : Value) (X : World), PoolR X v u ls fs → Calls Try.prog 15 #[.agg #[.int .i64 pa, .int .i64 pn, v, u], .int .i64 x] X fun e X' => e = .returned (.int .i64 y) ∧ Below X.heap.size X X')
    (w : World) (ha : PoolR w va vb ls fs) (ht : L w) :
    Calls Try.prog 5 #[.agg #[.int .i64 pa, .int .i64 pn, va, vb], .int .i64 x] w fun e w' => e = .returned (.bool true) ∧ Below w.heap.size w w' := by
  obtain ⟨a, cp, rfl⟩ := rows_form ha.leases
  obtain ⟨fa, fc, rfl⟩ := rows_form ha.fixes
  have HI := Lib.hid hI
  have HS := Lib.hid hS
  have HT : Hid (∀ X, Below w.heap.size w X → L X) := fun X hX => stays w X ht hX
  have TT : Hid (∀ X : World, Below w.heap.size w X → Calls Try.prog 8 #[.agg #[.int .i64 pa, .int .i64 pn, .slice a ls.length cp, .slice fa fs.length fc]] X (PoolMade pa pn ls fs X)) := fun X hX => toPool_made pa pn _ _ ls fs X (ha.next hX) (by omega) (by omega)
  have H0 := Lib.hid (szPool_any pa pn a fa ls.length fs.length cp fc (by omega) (by omega))
  rw [if_neg (by omega)] at H0
  have hneg : ¬ ((1048576 : Int) - (ls.length : Int) - (fs.length : Int) < 0) := by omega
  have A0 := Lib.hid (VarA.new w 27 #[.int .i64 pa, .int .i64 pn, .slice a ls.length cp, .slice fa fs.length fc])
  have B0 := Lib.hid ((Below.refl w.heap.size w).alloc (Nat.le_refl _) (.cells #[.int .i64 pa, .int .i64 pn, .slice a ls.length cp, .slice fa fs.length fc] 27))
  clear hI hS ha ht stays
  go_enter Try.func5, Try.ntmps5
  go_upto_region 1 with fail
  generalize w.alloc (.cells #[.int .i64 pa, .int .i64 pn, .slice a ls.length cp, .slice fa fs.length fc] 27) = Y0 at *
  have c0 : Y0.cell? ⟨w.heap.size, 0, none⟩ = some (.int .i64 pa) := A0.out.cell 0
  have c1 : Y0.cell? ⟨w.heap.size, 1, none⟩ = some (.int .i64 pn) := A0.out.cell 1
  have c2 : Y0.cell? ⟨w.heap.size, 2, none⟩ = some (.slice a ls.length cp) := A0.out.cell 2
  have c3 : Y0.cell? ⟨w.heap.size, 3, none⟩ = some (.slice fa fs.length fc) := A0.out.cell 3
  go_wp2_with fail
  refine (H0.out _).mono ?_
  rintro e Y1 ⟨rfl, hb1⟩
  replace A0 := Lib.hid (A0.out.next hb1)
  replace B0 := Lib.hid (B0.out.trans (hb1.mono B0.out.size))
  clear hb1 c0 c1 c2 c3
  have c0 : Y1.cell? ⟨w.heap.size, 0, none⟩ = some (.int .i64 pa) := A0.out.cell 0
  have c1 : Y1.cell? ⟨w.heap.size, 1, none⟩ = some (.int .i64 pn) := A0.out.cell 1
  have c2 : Y1.cell? ⟨w.heap.size, 2, none⟩ = some (.slice a ls.length cp) := A0.out.cell 2
  have c3 : Y1.cell? ⟨w.heap.size, 3, none⟩ = some (.slice fa fs.length fc) := A0.out.cell 3
  go_wp2_with fail
  refine (TT.out _ B0.out).mono ?_
  rintro e Y2 ⟨a2, b2, c2', d2', rfl, hr2, hb2⟩
  replace A0 := Lib.hid (A0.out.next hb2)
  replace B0 := Lib.hid (B0.out.trans (hb2.mono B0.out.size))
  have R2 := Lib.hid hr2
  clear hb2 c0 c1 c2 c3 hr2
  go_wp2_with fail
  refine (HS.out _ _ _ R2.out).mono ?_
  rintro e Y3 ⟨rfl, hb3⟩
  replace A0 := Lib.hid (A0.out.next hb3)
  replace B0 := Lib.hid (B0.out.trans (hb3.mono B0.out.size))
  clear hb3 R2
  have c0 : Y3.cell? ⟨w.heap.size, 0, none⟩ = some (.int .i64 pa) := A0.out.cell 0
  have c1 : Y3.cell? ⟨w.heap.size, 1, none⟩ = some (.int .i64 pn) := A0.out.cell 1
  have c2 : Y3.cell? ⟨w.heap.size, 2, none⟩ = some (.slice a ls.length cp) := A0.out.cell 2
  have c3 : Y3.cell? ⟨w.heap.size, 3, none⟩ = some (.slice fa fs.length fc) := A0.out.cell 3
  go_wp2_with fail
  refine (TT.out _ B0.out).mono ?_
  rintro e Y4 ⟨a4, b4, c4, d4, rfl, hr4, hb4⟩
  have hb5 : Below Y4.heap.size Y4 (Y4.alloc (.cells #[.int .i64 pa, .int .i64 pn, .slice a4 ls.length c4, .slice b4 fs.length d4] PoolT)) := (Below.refl _ _).alloc (Nat.le_refl _) _
  have E5 : Hid (EP w pa pn (.slice a ls.length cp) (.slice fa fs.length fc) (.slice a4 ls.length c4) (.slice b4 fs.length d4) Y4.heap.size ls fs (Y4.alloc (.cells #[.int .i64 pa, .int .i64 pn, .slice a4 ls.length c4, .slice b4 fs.length d4] PoolT))) := ⟨(A0.out.next hb4).next hb5, VarA.new Y4 _ _, hr4.next hb5, (B0.out.trans (hb4.mono B0.out.size)).trans (hb5.mono (B0.out.trans (hb4.mono B0.out.size)).size)⟩
  clear hb4 hb5 c0 c1 c2 c3 hr4 A0 B0
  go_upto_region 7 with fail
  generalize Y4.alloc (.cells #[.int .i64 pa, .int .i64 pn, .slice a4 ls.length c4, .slice b4 fs.length d4] PoolT) = Y5 at *
  generalize Y4.heap.size = gx at *
  have d0 : Y5.cell? ⟨gx, 0, none⟩ = some (.int .i64 pa) := E5.out.var.cell 0
  have d1 : Y5.cell? ⟨gx, 1, none⟩ = some (.int .i64 pn) := E5.out.var.cell 1
  have d2 : Y5.cell? ⟨gx, 2, none⟩ = some (.slice a4 ls.length c4) := E5.out.var.cell 2
  have d3 : Y5.cell? ⟨gx, 3, none⟩ = some (.slice b4 fs.length d4) := E5.out.var.cell 3
  go_wp2_with fail
  refine (HI.out _ _ _ (HT.out _ E5.out.below) E5.out.row).mono ?_
  rintro e Y6 ⟨rfl, hb6⟩
  have E6 := Lib.hid (E5.out.next hb6)
  clear hb6 d0 d1 d2 d3 E5
  have two : ∀ X, EP w pa pn (.slice a ls.length cp) (.slice fa fs.length fc) (.slice a4 ls.length c4) (.slice b4 fs.length d4) gx ls fs X → (X.cell? ⟨w.heap.size, 0, none⟩ = some (.int .i64 pa) ∧ X.cell? ⟨w.heap.size, 1, none⟩ = some (.int .i64 pn) ∧ X.cell? ⟨w.heap.size, 2, none⟩ = some (.slice a ls.length cp) ∧ X.cell? ⟨w.heap.size, 3, none⟩ = some (.slice fa fs.length fc) ∧ X.cell? ⟨gx, 0, none⟩ = some (.int .i64 pa) ∧ X.cell? ⟨gx, 1, none⟩ = some (.int .i64 pn) ∧ X.cell? ⟨gx, 2, none⟩ = some (.slice a4 ls.length c4) ∧ X.cell? ⟨gx, 3, none⟩ = some (.slice b4 fs.length d4) ∧ EP w pa pn (.slice a ls.length cp) (.slice fa fs.length fc) (.slice a4 ls.length c4) (.slice b4 fs.length d4) gx ls fs X) := fun X h => ⟨h.box.cell 0, h.box.cell 1, h.box.cell 2, h.box.cell 3, h.var.cell 0, h.var.cell 1, h.var.cell 2, h.var.cell 3, h⟩
  have K1 : Hid (∀ X, (X.cell? ⟨w.heap.size, 0, none⟩ = some (.int .i64 pa) ∧ X.cell? ⟨w.heap.size, 1, none⟩ = some (.int .i64 pn) ∧ X.cell? ⟨w.heap.size, 2, none⟩ = some (.slice a ls.length cp) ∧ X.cell? ⟨w.heap.size, 3, none⟩ = some (.slice fa fs.length fc) ∧ X.cell? ⟨gx, 0, none⟩ = some (.int .i64 pa) ∧ X.cell? ⟨gx, 1, none⟩ = some (.int .i64 pn) ∧ X.cell? ⟨gx, 2, none⟩ = some (.slice a4 ls.length c4) ∧ X.cell? ⟨gx, 3, none⟩ = some (.slice b4 fs.length d4) ∧ EP w pa pn (.slice a ls.length cp) (.slice fa fs.length fc) (.slice a4 ls.length c4) (.slice b4 fs.length d4) gx ls fs X) → Calls Try.prog 8 #[.agg #[.int .i64 pa, .int .i64 pn, .slice a ls.length cp, .slice fa fs.length fc]] X fun e Y => ∃ (a7 b7 : Option Addr) (c7 d7 : Nat), e = .returned (.agg #[.int .i64 pa, .int .i64 pn, .slice a7 ls.length c7, .slice b7 fs.length d7]) ∧ PoolR Y (.slice a7 ls.length c7) (.slice b7 fs.length d7) ls fs ∧ (Y.cell? ⟨w.heap.size, 0, none⟩ = some (.int .i64 pa) ∧ Y.cell? ⟨w.heap.size, 1, none⟩ = some (.int .i64 pn) ∧ Y.cell? ⟨w.heap.size, 2, none⟩ = some (.slice a ls.length cp) ∧ Y.cell? ⟨w.heap.size, 3, none⟩ = some (.slice fa fs.length fc) ∧ Y.cell? ⟨gx, 0, none⟩ = some (.int .i64 pa) ∧ Y.cell? ⟨gx, 1, none⟩ = some (.int .i64 pn) ∧ Y.cell? ⟨gx, 2, none⟩ = some (.slice a4 ls.length c4) ∧ Y.cell? ⟨gx, 3, none⟩ = some (.slice b4 fs.length d4) ∧ EP w pa pn (.slice a ls.length cp) (.slice fa fs.length fc) (.slice a4 ls.length c4) (.slice b4 fs.length d4) gx ls fs Y)) := fun X hX => by
    have hX2 := hX.2.2.2.2.2.2.2.2
    refine (TT.out X hX2.below).mono ?_
    rintro e Y ⟨a7, b7, c7, d7, rfl, hr, hb⟩
    exact ⟨a7, b7, c7, d7, rfl, hr, two Y (hX2.next hb)⟩
  have K2 : Hid (∀ (a7 b7 : Option Addr) (c7 d7 : Nat) (X : World), (X.cell? ⟨w.heap.size, 0, none⟩ = some (.int .i64 pa) ∧ X.cell? ⟨w.heap.size, 1, none⟩ = some (.int .i64 pn) ∧ X.cell? ⟨w.heap.size, 2, none⟩ = some (.slice a ls.length cp) ∧ X.cell? ⟨w.heap.size, 3, none⟩ = some (.slice fa fs.length fc) ∧ X.cell? ⟨gx, 0, none⟩ = some (.int .i64 pa) ∧ X.cell? ⟨gx, 1, none⟩ = some (.int .i64 pn) ∧ X.cell? ⟨gx, 2, none⟩ = some (.slice a4 ls.length c4) ∧ X.cell? ⟨gx, 3, none⟩ = some (.slice b4 fs.length d4) ∧ EP w pa pn (.slice a ls.length cp) (.slice fa fs.length fc) (.slice a4 ls.length c4) (.slice b4 fs.length d4) gx ls fs X) → PoolR X (.slice a7 ls.length c7) (.slice b7 fs.length d7) ls fs → Calls Try.prog 10 #[.agg #[.int .i64 pa, .int .i64 pn, .slice a4 ls.length c4, .slice b4 fs.length d4], .agg #[.int .i64 pa, .int .i64 pn, .slice a7 ls.length c7, .slice b7 fs.length d7]] X fun e Y => e = .returned (.bool true) ∧ (Y.cell? ⟨w.heap.size, 0, none⟩ = some (.int .i64 pa) ∧ Y.cell? ⟨w.heap.size, 1, none⟩ = some (.int .i64 pn) ∧ Y.cell? ⟨w.heap.size, 2, none⟩ = some (.slice a ls.length cp) ∧ Y.cell? ⟨w.heap.size, 3, none⟩ = some (.slice fa fs.length fc) ∧ Y.cell? ⟨gx, 0, none⟩ = some (.int .i64 pa) ∧ Y.cell? ⟨gx, 1, none⟩ = some (.int .i64 pn) ∧ Y.cell? ⟨gx, 2, none⟩ = some (.slice a4 ls.length c4) ∧ Y.cell? ⟨gx, 3, none⟩ = some (.slice b4 fs.length d4) ∧ EP w pa pn (.slice a ls.length cp) (.slice fa fs.length fc) (.slice a4 ls.length c4) (.slice b4 fs.length d4) gx ls fs Y)) := fun a7 b7 c7 d7 X hX hr => by
    have hX2 := hX.2.2.2.2.2.2.2.2
    refine (eqPool_same pa pn _ _ ls _ _ fs X hX2.row.leases hr.leases (by omega) hX2.row.fixes hr.fixes (by omega)).mono ?_
    rintro e Y ⟨rfl, hb⟩
    exact ⟨rfl, two Y (hX2.next hb)⟩
  have E7 := Lib.hid (two _ (E6.out.next (Below.refl Y6.heap.size Y6).drew))
  clear two
  go_wp2_with fail
  go_region_held3 (fun X => X.cell? ⟨w.heap.size, 0, none⟩ = some (.int .i64 pa) ∧ X.cell? ⟨w.heap.size, 1, none⟩ = some (.int .i64 pn) ∧ X.cell? ⟨w.heap.size, 2, none⟩ = some (.slice a ls.length cp) ∧ X.cell? ⟨w.heap.size, 3, none⟩ = some (.slice fa fs.length fc) ∧ X.cell? ⟨gx, 0, none⟩ = some (.int .i64 pa) ∧ X.cell? ⟨gx, 1, none⟩ = some (.int .i64 pn) ∧ X.cell? ⟨gx, 2, none⟩ = some (.slice a4 ls.length c4) ∧ X.cell? ⟨gx, 3, none⟩ = some (.slice b4 fs.length d4) ∧ EP w pa pn (.slice a ls.length cp) (.slice fa fs.length fc) (.slice a4 ls.length c4) (.slice b4 fs.length d4) gx ls fs X) (first | (with_reducible assumption) | (with_reducible exact E7.out)) (first | (go_at_call 8; refine (K1.out _ (by assumption)).mono ?_; rintro e v1 ⟨a7, b7, c7, d7, rfl, hr7, hS⟩) | (go_at_call 10; refine (K2.out a7 b7 c7 d7 _ (by assumption) hr7).mono ?_; rintro e v2 ⟨rfl, hS⟩))
  all_goals
    have HZ := Lib.hid hS.2.2.2.2.2.2.2.2.below
    clear hS
    go_wp2_with fail
    go_ret
    exact ⟨rfl, HZ.out⟩

end Go.Proofs.Ytphmomlgmnllkaq

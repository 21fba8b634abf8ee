/-
  The exact laws on TrieOk and TrieFind, out of one answer that both give.
-/
import Derived.Test.YtkfcoldjgijpcapTwigAll
namespace Go.Proofs.Ytkfcoldjgijpcap
open Go.RowKit

set_option maxRecDepth 100000 in
set_option maxHeartbeats 400000 in
theorem szTrie_any (a : Option Addr) (n cp : Nat) (hn : n ≤ 9223372036854775807) (w : World) :
    Calls Try.prog 13 #[.agg #[.slice a n cp], .int .i64 1048576] w fun e w' => e = .returned (.int .i64 (if 1048576 < n then -1 else 1048576 - (n : Int))) ∧ Below w.heap.size w w' := by
  have H1 := Lib.hid (szTwigS_any a n cp 1048576 (by omega) (by omega) hn)
  by_cases h : 1048576 < n
  · have h1 : (1048576 : Int) < (n : Int) := by omega
    rw [if_pos h1] at H1
    rw [if_pos h]
    go_enter Try.func13, Try.ntmps13
    go_wp2_with fail
    refine (H1.out _).mono ?_
    rintro e Y ⟨rfl, rfl⟩
    go_wp2_with fail
    go_ret
    exact ⟨rfl, (Below.refl _ _).alloc (Nat.le_refl _) _⟩
  · have h1 : ¬ ((1048576 : Int) < (n : Int)) := by omega
    have h2 : ¬ ((1048576 : Int) - (n : Int) < 0) := by omega
    rw [if_neg h1] at H1
    rw [if_neg h]
    go_enter Try.func13, Try.ntmps13
    go_wp2_with fail
    refine (H1.out _).mono ?_
    rintro e Y ⟨rfl, rfl⟩
    go_wp2_with fail
    go_ret
    exact ⟨rfl, (Below.refl _ _).alloc (Nat.le_refl _) _⟩

/-- The law's own variables: the argument's, and the one of its copy. -/
structure EX (w : World) (va vx : Value) (gx : Nat) (t : List TwigD) (X : World) : Prop where
  box : VarA w.heap.size 31 #[va] X
  var : VarA gx 24 #[vx] X
  row : layTwigS.rd X [vx] t
  below : Below w.heap.size w X
theorem EX.next {w : World} {va vx : Value} {gx : Nat} {t : List TwigD} {X Y : World} (h : EX w va vx gx t X) (hb : Below X.heap.size X Y) : EX w va vx gx t Y := ⟨h.box.next hb, h.var.next hb, layTwigS.below h.row hb, h.below.trans (hb.mono h.below.size)⟩
theorem EX.two {w : World} {va vx : Value} {gx : Nat} {t : List TwigD} {X : World} (h : EX w va vx gx t X) : X.cell? ⟨w.heap.size, 0, none⟩ = some va ∧ X.cell? ⟨gx, 0, none⟩ = some vx ∧ EX w va vx gx t X := ⟨h.box.cell 0, h.var.cell 0, h⟩

set_option maxRecDepth 100000 in
set_option maxHeartbeats 1600000 in
/-- The exact law on TrieOk, out of one answer that both give. -/
theorem lawTrieOkF (L : World → Prop) (stays : ∀ X Y, L X → Below X.heap.size X Y → L Y) (va : Value) (t : List TwigD) (b : Bool) (hl : t.length ≤ 1048576)
    (hI : ∀ (v : Value) (X : World), L X → layTwigS.rd X [v] t → Calls Try.prog 16 #[.agg #[v]] X fun e X' => e = .returned (.bool b) ∧ Below X.heap.size X X')
    (hS : ∀ (v : Value) (X : World), layTwigS.rd X [v] t → Calls Try.prog 14 #[.agg #[v]] X fun e X' => e = .returned (.bool b) ∧ Below X.heap.size X X')
    (w : World) (ha : layTwigS.rd w [va] t) (ht : L w) :
    Calls Try.prog 4 #[.agg #[va]] w fun e w' => e = .returned (.bool true) ∧ Below w.heap.size w w' := by
  obtain ⟨a, cp, rfl⟩ := rows_form ha
  have HI := Lib.hid hI
  have HS := Lib.hid hS
  have HT : Hid (∀ X, Below w.heap.size w X → L X) := fun X hX => stays w X ht hX
  have TT : Hid (∀ X : World, Below w.heap.size w X → Calls Try.prog 15 #[.agg #[.slice a t.length cp]] X fun e X' => OutT layTwigS X t e X') := fun X hX => toTrie_any _ t X (layTwigS.below ha hX) hl
  have H0 := Lib.hid (szTrie_any a t.length cp (by omega))
  rw [if_neg (by omega)] at H0
  have hneg : ¬ ((1048576 : Int) - (t.length : Int) < 0) := by omega
  have A0 := Lib.hid (VarA.new w 31 #[.slice a t.length cp])
  have B0 := Lib.hid ((Below.refl w.heap.size w).alloc (Nat.le_refl _) (.cells #[.slice a t.length cp] 31))
  clear hI hS ha ht stays
  go_enter Try.func4, Try.ntmps4
  go_upto_region 1 with fail
  generalize w.alloc (.cells #[.slice a t.length cp] 31) = Y0 at *
  have c0 : Y0.cell? ⟨w.heap.size, 0, none⟩ = some (.slice a t.length cp) := A0.out.cell 0
  go_wp2_with fail
  refine (H0.out _).mono ?_
  rintro e Y1 ⟨rfl, hb1⟩
  replace A0 := Lib.hid (A0.out.next hb1)
  replace B0 := Lib.hid (B0.out.trans (hb1.mono B0.out.size))
  clear hb1 c0
  have c0 : Y1.cell? ⟨w.heap.size, 0, none⟩ = some (.slice a t.length cp) := A0.out.cell 0
  go_wp2_with fail
  refine (TT.out _ B0.out).mono ?_
  rintro e Y2 ⟨cs, fp, rfl, hd, hown, hb2⟩
  obtain ⟨v2, rfl⟩ : ∃ v2, cs = [v2] := List.length_eq_one_iff.1 (layTwigS.len (layTwigS.read hown))
  replace A0 := Lib.hid (A0.out.next hb2)
  replace B0 := Lib.hid (B0.out.trans (hb2.mono B0.out.size))
  have R2 := Lib.hid (layTwigS.read hown)
  clear hb2 c0 hown hd
  go_wp2_with fail
  refine (HS.out v2 _ R2.out).mono ?_
  rintro e Y3 ⟨rfl, hb3⟩
  replace A0 := Lib.hid (A0.out.next hb3)
  replace B0 := Lib.hid (B0.out.trans (hb3.mono B0.out.size))
  clear hb3 R2
  have c0 : Y3.cell? ⟨w.heap.size, 0, none⟩ = some (.slice a t.length cp) := A0.out.cell 0
  go_wp2_with fail
  refine (TT.out _ B0.out).mono ?_
  rintro e Y4 ⟨cs, fp, rfl, hd, hown, hb4⟩
  obtain ⟨v4, rfl⟩ : ∃ v4, cs = [v4] := List.length_eq_one_iff.1 (layTwigS.len (layTwigS.read hown))
  obtain ⟨a4, c4, rfl⟩ := rows_form (layTwigS.read hown)
  have hb5 : Below Y4.heap.size Y4 (Y4.alloc (.cells #[.slice a4 t.length c4] 24)) := (Below.refl _ _).alloc (Nat.le_refl _) _
  have E5 : Hid (EX w (.slice a t.length cp) (.slice a4 t.length c4) Y4.heap.size t (Y4.alloc (.cells #[.slice a4 t.length c4] 24))) := ⟨(A0.out.next hb4).next hb5, VarA.new Y4 _ _, layTwigS.below (layTwigS.read hown) hb5, (B0.out.trans (hb4.mono B0.out.size)).trans (hb5.mono (B0.out.trans (hb4.mono B0.out.size)).size)⟩
  clear hb4 hb5 c0 hown hd A0 B0
  go_upto_region 7 with fail
  generalize Y4.alloc (.cells #[.slice a4 t.length c4] 24) = Y5 at *
  generalize Y4.heap.size = gx at *
  have c5 : Y5.cell? ⟨gx, 0, none⟩ = some (.slice a4 t.length c4) := E5.out.var.cell 0
  go_wp2_with fail
  refine (HI.out _ _ (HT.out _ E5.out.below) E5.out.row).mono ?_
  rintro e Y6 ⟨rfl, hb6⟩
  have E6 := Lib.hid (E5.out.next hb6)
  clear hb6 c5 E5
  have K1 : Hid (∀ X, (X.cell? ⟨w.heap.size, 0, none⟩ = some (.slice a t.length cp) ∧ X.cell? ⟨gx, 0, none⟩ = some (.slice a4 t.length c4) ∧ EX w (.slice a t.length cp) (.slice a4 t.length c4) gx t X) → Calls Try.prog 15 #[.agg #[.slice a t.length cp]] X fun e Y => ∃ a7 c7, e = .returned (.agg #[.slice a7 t.length c7]) ∧ layTwigS.rd Y [.slice a7 t.length c7] t ∧ (Y.cell? ⟨w.heap.size, 0, none⟩ = some (.slice a t.length cp) ∧ Y.cell? ⟨gx, 0, none⟩ = some (.slice a4 t.length c4) ∧ EX w (.slice a t.length cp) (.slice a4 t.length c4) gx t Y)) := fun X hX => by
    refine (TT.out X hX.2.2.below).mono ?_
    rintro e Y ⟨cs, fp, rfl, hd, hown, hb⟩
    obtain ⟨v7, rfl⟩ : ∃ v7, cs = [v7] := List.length_eq_one_iff.1 (layTwigS.len (layTwigS.read hown))
    obtain ⟨a7, c7, rfl⟩ := rows_form (layTwigS.read hown)
    exact ⟨a7, c7, rfl, layTwigS.read hown, (hX.2.2.next hb).two⟩
  have K2 : Hid (∀ (a7 : Option Addr) (c7 : Nat) (X : World), (X.cell? ⟨w.heap.size, 0, none⟩ = some (.slice a t.length cp) ∧ X.cell? ⟨gx, 0, none⟩ = some (.slice a4 t.length c4) ∧ EX w (.slice a t.length cp) (.slice a4 t.length c4) gx t X) → layTwigS.rd X [.slice a7 t.length c7] t → Calls Try.prog 10 #[.agg #[.slice a4 t.length c4], .agg #[.slice a7 t.length c7]] X fun e Y => e = .returned (.bool true) ∧ (Y.cell? ⟨w.heap.size, 0, none⟩ = some (.slice a t.length cp) ∧ Y.cell? ⟨gx, 0, none⟩ = some (.slice a4 t.length c4) ∧ EX w (.slice a t.length cp) (.slice a4 t.length c4) gx t Y)) := fun a7 c7 X hX hr => by
    refine (eqTrie_same _ _ t X hX.2.2.row hr (by omega)).mono ?_
    rintro e Y ⟨rfl, hb⟩
    exact ⟨rfl, (hX.2.2.next hb).two⟩
  have E7 := Lib.hid (E6.out.next (Below.refl Y6.heap.size Y6).drew).two
  go_wp2_with fail
  go_region_held3 (fun X => X.cell? ⟨w.heap.size, 0, none⟩ = some (.slice a t.length cp) ∧ X.cell? ⟨gx, 0, none⟩ = some (.slice a4 t.length c4) ∧ EX w (.slice a t.length cp) (.slice a4 t.length c4) gx t X) (first | (with_reducible assumption) | (with_reducible exact E7.out)) (first | (go_at_call 15; refine (K1.out _ (by assumption)).mono ?_; rintro e v1 ⟨a7, c7, rfl, hr7, hS⟩) | (go_at_call 10; refine (K2.out a7 c7 _ (by assumption) hr7).mono ?_; rintro e v2 ⟨rfl, hS⟩))
  all_goals
    have HZ := Lib.hid hS.2.2.below
    clear hS
    go_wp2_with fail
    go_ret
    exact ⟨rfl, HZ.out⟩


set_option maxRecDepth 100000 in
set_option maxHeartbeats 1600000 in
/-- The exact law on TrieFind, out of one answer that both give. -/
theorem lawTrieFindF (L : World → Prop) (stays : ∀ X Y, L X → Below X.heap.size X Y → L Y) (va : Value) (t : List TwigD) (x y : Int) (hl : t.length ≤ 1048576)
    (hI : ∀ (v : Value) (X : World), L X → layTwigS.rd X [v] t → Calls Try.prog 21 #[.agg #[v], .int .i64 x] X fun e X' => e = .returned (.int .i64 y) ∧ Below X.heap.size X X')
    (hS : ∀ (v : Value) (X : World), layTwigS.rd X [v] t → Calls Try.prog 20 #[.agg #[v], .int .i64 x] X fun e X' => e = .returned (.int .i64 y) ∧ Below X.heap.size X X')
    (w : World) (ha : layTwigS.rd w [va] t) (ht : L w) :
    Calls Try.prog 6 #[.agg #[va], .int .i64 x] w fun e w' => e = .returned (.bool true) ∧ Below w.heap.size w w' := by
  obtain ⟨a, cp, rfl⟩ := rows_form ha
  have HI := Lib.hid hI
  have HS := Lib.hid hS
  have HT : Hid (∀ X, Below w.heap.size w X → L X) := fun X hX => stays w X ht hX
  have TT : Hid (∀ X : World, Below w.heap.size w X → Calls Try.prog 15 #[.agg #[.slice a t.length cp]] X fun e X' => OutT layTwigS X t e X') := fun X hX => toTrie_any _ t X (layTwigS.below ha hX) hl
  have H0 := Lib.hid (szTrie_any a t.length cp (by omega))
  rw [if_neg (by omega)] at H0
  have hneg : ¬ ((1048576 : Int) - (t.length : Int) < 0) := by omega
  have A0 := Lib.hid (VarA.new w 31 #[.slice a t.length cp])
  have B0 := Lib.hid ((Below.refl w.heap.size w).alloc (Nat.le_refl _) (.cells #[.slice a t.length cp] 31))
  clear hI hS ha ht stays
  go_enter Try.func6, Try.ntmps6
  go_upto_region 1 with fail
  generalize w.alloc (.cells #[.slice a t.length cp] 31) = Y0 at *
  have c0 : Y0.cell? ⟨w.heap.size, 0, none⟩ = some (.slice a t.length cp) := A0.out.cell 0
  go_wp2_with fail
  refine (H0.out _).mono ?_
  rintro e Y1 ⟨rfl, hb1⟩
  replace A0 := Lib.hid (A0.out.next hb1)
  replace B0 := Lib.hid (B0.out.trans (hb1.mono B0.out.size))
  clear hb1 c0
  have c0 : Y1.cell? ⟨w.heap.size, 0, none⟩ = some (.slice a t.length cp) := A0.out.cell 0
  go_wp2_with fail
  refine (TT.out _ B0.out).mono ?_
  rintro e Y2 ⟨cs, fp, rfl, hd, hown, hb2⟩
  obtain ⟨v2, rfl⟩ : ∃ v2, cs = [v2] := List.length_eq_one_iff.1 (layTwigS.len (layTwigS.read hown))
  replace A0 := Lib.hid (A0.out.next hb2)
  replace B0 := Lib.hid (B0.out.trans (hb2.mono B0.out.size))
  have R2 := Lib.hid (layTwigS.read hown)
  clear hb2 c0 hown hd
  go_wp2_with fail
  refine (HS.out v2 _ R2.out).mono ?_
  rintro e Y3 ⟨rfl, hb3⟩
  replace A0 := Lib.hid (A0.out.next hb3)
  replace B0 := Lib.hid (B0.out.trans (hb3.mono B0.out.size))
  clear hb3 R2
  have c0 : Y3.cell? ⟨w.heap.size, 0, none⟩ = some (.slice a t.length cp) := A0.out.cell 0
  go_wp2_with fail
  refine (TT.out _ B0.out).mono ?_
  rintro e Y4 ⟨cs, fp, rfl, hd, hown, hb4⟩
  obtain ⟨v4, rfl⟩ : ∃ v4, cs = [v4] := List.length_eq_one_iff.1 (layTwigS.len (layTwigS.read hown))
  obtain ⟨a4, c4, rfl⟩ := rows_form (layTwigS.read hown)
  have hb5 : Below Y4.heap.size Y4 (Y4.alloc (.cells #[.slice a4 t.length c4] 24)) := (Below.refl _ _).alloc (Nat.le_refl _) _
  have E5 : Hid (EX w (.slice a t.length cp) (.slice a4 t.length c4) Y4.heap.size t (Y4.alloc (.cells #[.slice a4 t.length c4] 24))) := ⟨(A0.out.next hb4).next hb5, VarA.new Y4 _ _, layTwigS.below (layTwigS.read hown) hb5, (B0.out.trans (hb4.mono B0.out.size)).trans (hb5.mono (B0.out.trans (hb4.mono B0.out.size)).size)⟩
  clear hb4 hb5 c0 hown hd A0 B0
  go_upto_region 7 with fail
  generalize Y4.alloc (.cells #[.slice a4 t.length c4] 24) = Y5 at *
  generalize Y4.heap.size = gx at *
  have c5 : Y5.cell? ⟨gx, 0, none⟩ = some (.slice a4 t.length c4) := E5.out.var.cell 0
  go_wp2_with fail
  refine (HI.out _ _ (HT.out _ E5.out.below) E5.out.row).mono ?_
  rintro e Y6 ⟨rfl, hb6⟩
  have E6 := Lib.hid (E5.out.next hb6)
  clear hb6 c5 E5
  have K1 : Hid (∀ X, (X.cell? ⟨w.heap.size, 0, none⟩ = some (.slice a t.length cp) ∧ X.cell? ⟨gx, 0, none⟩ = some (.slice a4 t.length c4) ∧ EX w (.slice a t.length cp) (.slice a4 t.length c4) gx t X) → Calls Try.prog 15 #[.agg #[.slice a t.length cp]] X fun e Y => ∃ a7 c7, e = .returned (.agg #[.slice a7 t.length c7]) ∧ layTwigS.rd Y [.slice a7 t.length c7] t ∧ (Y.cell? ⟨w.heap.size, 0, none⟩ = some (.slice a t.length cp) ∧ Y.cell? ⟨gx, 0, none⟩ = some (.slice a4 t.length c4) ∧ EX w (.slice a t.length cp) (.slice a4 t.length c4) gx t Y)) := fun X hX => by
    refine (TT.out X hX.2.2.below).mono ?_
    rintro e Y ⟨cs, fp, rfl, hd, hown, hb⟩
    obtain ⟨v7, rfl⟩ : ∃ v7, cs = [v7] := List.length_eq_one_iff.1 (layTwigS.len (layTwigS.read hown))
    obtain ⟨a7, c7, rfl⟩ := rows_form (layTwigS.read hown)
    exact ⟨a7, c7, rfl, layTwigS.read hown, (hX.2.2.next hb).two⟩
  have K2 : Hid (∀ (a7 : Option Addr) (c7 : Nat) (X : World), (X.cell? ⟨w.heap.size, 0, none⟩ = some (.slice a t.length cp) ∧ X.cell? ⟨gx, 0, none⟩ = some (.slice a4 t.length c4) ∧ EX w (.slice a t.length cp) (.slice a4 t.length c4) gx t X) → layTwigS.rd X [.slice a7 t.length c7] t → Calls Try.prog 10 #[.agg #[.slice a4 t.length c4], .agg #[.slice a7 t.length c7]] X fun e Y => e = .returned (.bool true) ∧ (Y.cell? ⟨w.heap.size, 0, none⟩ = some (.slice a t.length cp) ∧ Y.cell? ⟨gx, 0, none⟩ = some (.slice a4 t.length c4) ∧ EX w (.slice a t.length cp) (.slice a4 t.length c4) gx t Y)) := fun a7 c7 X hX hr => by
    refine (eqTrie_same _ _ t X hX.2.2.row hr (by omega)).mono ?_
    rintro e Y ⟨rfl, hb⟩
    exact ⟨rfl, (hX.2.2.next hb).two⟩
  have E7 := Lib.hid (E6.out.next (Below.refl Y6.heap.size Y6).drew).two
  go_wp2_with fail
  go_region_held3 (fun X => X.cell? ⟨w.heap.size, 0, none⟩ = some (.slice a t.length cp) ∧ X.cell? ⟨gx, 0, none⟩ = some (.slice a4 t.length c4) ∧ EX w (.slice a t.length cp) (.slice a4 t.length c4) gx t X) (first | (with_reducible assumption) | (with_reducible exact E7.out)) (first | (go_at_call 15; refine (K1.out _ (by assumption)).mono ?_; rintro e v1 ⟨a7, c7, rfl, hr7, hS⟩) | (go_at_call 10; refine (K2.out a7 c7 _ (by assumption) hr7).mono ?_; rintro e v2 ⟨rfl, hS⟩))
  all_goals
    have HZ := Lib.hid hS.2.2.below
    clear hS
    go_wp2_with fail
    go_ret
    exact ⟨rfl, HZ.out⟩

end Go.Proofs.Ytkfcoldjgijpcap

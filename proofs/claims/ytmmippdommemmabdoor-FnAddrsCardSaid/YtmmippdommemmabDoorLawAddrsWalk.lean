/-
  The law on addresses and prefixes that come back from their texts: its walk.
-/
import Derived.Test.YtmmippdommemmabDoorLawAddrReadsWalk
import Derived.Test.YtmmippdommemmabDoorPrefEq
namespace Go.Proofs.YtmmippdommemmabDoor
open Go.RowKit

set_option maxRecDepth 100000 in
set_option maxHeartbeats 400000 in
theorem lawAddrs_big (a : Option Addr) (len cap : Nat) (h : 1048576 < len) (w : World) :
    Calls Tryd.prog 6 #[.slice a len cap] w fun e w' => e = .returned (.bool true) ∧ Below w.heap.size w w' := by
  have hd : decide (1048576 < (len : Int)) = true := decide_eq_true (by omega)
  have HB := Lib.hid (fun w => bigA_any a len cap w)
  rw [hd] at HB
  clear hd
  go_enter Tryd.func6, Tryd.ntmps6
  go_wp2_with fail
  refine (HB.out _).mono ?_
  rintro e w1 ⟨rfl, rfl⟩
  go_wp2_with fail
  go_ret
  exact ⟨rfl, Below.refl _ _⟩

/-- What the law holds in its loop: the drawn addresses in block g, the drawn prefix in block q, what was there as it was. -/
structure AV (w : World) (g q : Nat) (zs : List Int) (x n : Int) (X : World) : Prop where
  below : Below w.heap.size w X
  p : VarP q PT (.int .i64 x) (.int .i64 n) X
  gl : g < X.heap.size
  cell : ∀ j, j < 6 → X.cell? ⟨g, j, none⟩ = some (.int .i64 (zs.getD j 0))
theorem AV.next {w : World} {g q : Nat} {zs : List Int} {x n : Int} {X Y : World} (h : AV w g q zs x n X) (hb : Below X.heap.size X Y) : AV w g q zs x n Y :=
  ⟨h.below.trans (hb.mono h.below.size), h.p.next hb, Nat.lt_of_lt_of_le h.gl hb.size, fun j hj => by rw [hb.cell (p := ⟨g, j, none⟩) h.gl]; exact h.cell j hj⟩
theorem AV.alloc {w : World} {g q : Nat} {zs : List Int} {x n : Int} {X : World} (h : AV w g q zs x n X) (o : Obj) : AV w g q zs x n (X.alloc o) := h.next ((Below.refl _ X).alloc (Nat.le_refl _) o)
theorem AV.drew {w : World} {g q : Nat} {zs : List Int} {x n : Int} {X : World} (h : AV w g q zs x n X) : AV w g q zs x n X.drew := h.next ((Below.refl _ X).drew)
/-- With the cells that a round loads. -/
def AVS (w : World) (g q : Nat) (zs : List Int) (x n : Int) (i : Nat) (X : World) : Prop := X.cell? ⟨g, i, none⟩ = some (.int .i64 (zs.getD i 0)) ∧ X.cell? ⟨q, 0, none⟩ = some (.int .i64 x) ∧ X.cell? ⟨q, 1, none⟩ = some (.int .i64 n) ∧ AV w g q zs x n X
theorem AV.three {w : World} {g q : Nat} {zs : List Int} {x n : Int} {X : World} (h : AV w g q zs x n X) (i : Nat) (hi : i < 6) : X.cell? ⟨g, i, none⟩ = some (.int .i64 (zs.getD i 0)) ∧ X.cell? ⟨q, 0, none⟩ = some (.int .i64 x) ∧ X.cell? ⟨q, 1, none⟩ = some (.int .i64 n) ∧ AV w g q zs x n X := ⟨h.cell i hi, h.p.c0, h.p.c1, h⟩

theorem three_alloc {w : World} {g q : Nat} {zs : List Int} {x n z : Int} {i : Nat} {X : World} (h : X.cell? ⟨g, i, none⟩ = some (.int .i64 z) ∧ X.cell? ⟨q, 0, none⟩ = some (.int .i64 x) ∧ X.cell? ⟨q, 1, none⟩ = some (.int .i64 n) ∧ AV w g q zs x n X) (o : Obj) :
    (X.alloc o).cell? ⟨g, i, none⟩ = some (.int .i64 z) ∧ (X.alloc o).cell? ⟨q, 0, none⟩ = some (.int .i64 x) ∧ (X.alloc o).cell? ⟨q, 1, none⟩ = some (.int .i64 n) ∧ AV w g q zs x n (X.alloc o) := by
  have hb : Below X.heap.size X (X.alloc o) := (Below.refl _ X).alloc (Nat.le_refl _) o
  exact ⟨by rw [hb.cell (p := ⟨g, i, none⟩) h.2.2.2.gl]; exact h.1, by rw [hb.cell (p := ⟨q, 0, none⟩) (lt_of_block h.2.2.2.p.row)]; exact h.2.1, by rw [hb.cell (p := ⟨q, 1, none⟩) (lt_of_block h.2.2.2.p.row)]; exact h.2.2.1, h.2.2.2.alloc o⟩
theorem three_store {w : World} {g q r : Nat} {zs : List Int} {x n z : Int} {i : Nat} {X : World} (h : X.cell? ⟨g, i, none⟩ = some (.int .i64 z) ∧ X.cell? ⟨q, 0, none⟩ = some (.int .i64 x) ∧ X.cell? ⟨q, 1, none⟩ = some (.int .i64 n) ∧ AV w g q zs x n X) (hg : r ≠ g) (hq : r ≠ q) (hw : w.heap.size ≤ r) (u v : Value) :
    ((X.setCell ⟨r, 0, none⟩ u).setCell ⟨r, 1, none⟩ v).cell? ⟨g, i, none⟩ = some (.int .i64 z) ∧ ((X.setCell ⟨r, 0, none⟩ u).setCell ⟨r, 1, none⟩ v).cell? ⟨q, 0, none⟩ = some (.int .i64 x) ∧ ((X.setCell ⟨r, 0, none⟩ u).setCell ⟨r, 1, none⟩ v).cell? ⟨q, 1, none⟩ = some (.int .i64 n) ∧ AV w g q zs x n ((X.setCell ⟨r, 0, none⟩ u).setCell ⟨r, 1, none⟩ v) := by
  have ho := Only.set2 X r u v
  have hcell : ∀ (b : Nat) (j : Nat), r ≠ b → ((X.setCell ⟨r, 0, none⟩ u).setCell ⟨r, 1, none⟩ v).cell? ⟨b, j, none⟩ = X.cell? ⟨b, j, none⟩ := fun b j hb => by
    rw [World.cell?_setCell_far _ _ _ _ (by exact hb), World.cell?_setCell_far _ _ _ _ (by exact hb)]
  have hA := h.2.2.2
  refine ⟨by rw [hcell g i hg]; exact h.1, by rw [hcell q 0 hq]; exact h.2.1, by rw [hcell q 1 hq]; exact h.2.2.1, hA.below.trans (ho.below hw hA.below.size), hA.p.only ho (Ne.symm hq), ?_, fun j hj => by rw [hcell g j hg]; exact hA.cell j hj⟩
  have := hA.gl
  simpa using this
/-- With a third prefix, in block r. -/
structure RV8 (w : World) (g q : Nat) (zs : List Int) (x n : Int) (r : Nat) (f m : Int) (i : Nat) (X : World) : Prop where
  v : AV w g q zs x n X
  r : VarP r PT (.int .i64 f) (.int .i64 n) X
  c : X.cell? ⟨g, i, none⟩ = some (.int .i64 m)
theorem RV8.next {w : World} {g q : Nat} {zs : List Int} {x n : Int} {r : Nat} {f m : Int} {i : Nat} {X Y : World} (h : RV8 w g q zs x n r f m i X) (hb : Below X.heap.size X Y) : RV8 w g q zs x n r f m i Y := ⟨h.v.next hb, h.r.next hb, by rw [hb.cell (p := ⟨g, i, none⟩) h.v.gl]; exact h.c⟩
theorem RV8.five {w : World} {g q : Nat} {zs : List Int} {x n : Int} {r : Nat} {f m : Int} {i : Nat} {X : World} (h : RV8 w g q zs x n r f m i X) : X.cell? ⟨g, i, none⟩ = some (.int .i64 m) ∧ X.cell? ⟨q, 0, none⟩ = some (.int .i64 x) ∧ X.cell? ⟨q, 1, none⟩ = some (.int .i64 n) ∧ X.cell? ⟨r, 0, none⟩ = some (.int .i64 f) ∧ X.cell? ⟨r, 1, none⟩ = some (.int .i64 n) ∧ RV8 w g q zs x n r f m i X := ⟨h.c, h.v.p.c0, h.v.p.c1, h.r.c0, h.r.c1, h⟩
theorem RV8.drew {w : World} {g q : Nat} {zs : List Int} {x n : Int} {r : Nat} {f m : Int} {i : Nat} {X : World} (h : RV8 w g q zs x n r f m i X) : RV8 w g q zs x n r f m i X.drew := h.next ((Below.refl _ X).drew)
theorem dec_255 : Lib.decDigits 255 = [50, 53, 53] := by
  have a : digs 255 = digs 25 ++ [fig 5] := digs_step 255 (by omega)
  have b : digs 25 = digs 2 ++ [fig 5] := digs_step 25 (by omega)
  have c : digs 2 = digs 0 ++ [fig 2] := digs_step 2 (by omega)
  have d : digs 0 = [] := rfl
  rw [← digs_pos 255 (by omega), a, b, c, d]
  rfl
theorem max_text : addrP 4294967295 = ⟨#[50, 53, 53, 46, 50, 53, 53, 46, 50, 53, 53, 46, 50, 53, 53]⟩ := by
  have e : addrL 4294967295 = joinAt 46 [Lib.decDigits 255, Lib.decDigits 255, Lib.decDigits 255, Lib.decDigits 255] := rfl
  unfold addrP
  rw [e, dec_255, joinAt_four]
  rfl

set_option maxRecDepth 100000 in
set_option maxHeartbeats 1600000 in
theorem lawAddrsF (L : World → Prop) (F : AddrFns L) (a : Option Addr) (len cap : Nat) (w : World) (H : Src a len w) (ht : L w) :
    Calls Tryd.prog 6 #[.slice a len cap] w fun e w' => e = .returned (.bool true) ∧ Below w.heap.size w w' := by
  have hd : decide (1048576 < (len : Int)) = false := decide_eq_false (by have := H.few; omega)
  have HB := Lib.hid (fun w => bigA_any a len cap w)
  rw [hd] at HB
  have HS := Lib.hid H
  have HT : Hid (∀ X, Below w.heap.size w X → L X) := fun X hX => F.stays w X ht hX
  have FF := Lib.hid F
  clear H ht hd F
  go_enter Tryd.func6, Tryd.ntmps6
  go_wp2_with fail
  refine (HB.out _).mono ?_
  rintro e w0 ⟨rfl, rfl⟩
  go_wp2_with fail
  refine (drawAddrs_any a len cap _ HS.out).mono ?_
  rintro e w1 ⟨g, cp, zs, x, n, hzl, hzs, hok, rfl, hg, hcell, hb1⟩
  have V1 : Hid (AV w0 g w1.heap.size zs x n (w1.alloc (.cells #[.int .i64 x, .int .i64 n] PT))) := by
    have hb : Below w1.heap.size w1 (w1.alloc (.cells #[.int .i64 x, .int .i64 n] PT)) := (Below.refl _ _).alloc (Nat.le_refl _) _
    exact ⟨hb1.trans (hb.mono hb1.size), VarP.new _ _ _ _, Nat.lt_of_lt_of_le hg hb.size, fun j hj => by rw [hb.cell (p := ⟨g, j, none⟩) hg]; exact hcell j hj⟩
  have HZ := Lib.hid hzs
  have HZL := Lib.hid hzl
  have HOK := Lib.hid hok
  have HP := Lib.hid (FF.out.ptext_yes x n hok)
  have HR := Lib.hid (FF.out.pread_yes x n hok)
  have HK := Lib.hid (FF.out.pok_yes x n hok)
  obtain ⟨pt, PTX⟩ : ∃ t, Hid (t = prefP x n) := ⟨_, rfl⟩
  rw [← PTX.out] at HP HR
  clear hb1 hcell hg hzs hzl hok
  go_wp2_with fail
  refine (HP.out _ (HT.out _ V1.out.below)).mono ?_
  rintro e w2 ⟨rfl, hb2⟩
  have V2 := Lib.hid (V1.out.next hb2)
  generalize w1.heap.size = q at *
  clear hb2 V1
  go_wp2_with fail
  refine (HR.out _ (HT.out _ V2.out.below)).mono ?_
  rintro e w3 ⟨rfl, hb3⟩
  have V3 := Lib.hid (V2.out.next hb3)
  have V4 := Lib.hid (V3.out.alloc (.cells #[.int .i64 x, .int .i64 n] PT))
  have p0 := V4.out.p.c0
  have p1 := V4.out.p.c1
  have q0 := (VarP.new w3 PT (.int .i64 x) (.int .i64 n)).c0
  have q1 := (VarP.new w3 PT (.int .i64 x) (.int .i64 n)).c1
  have hps := pref_same (x : Int) (n : Int)
  clear hb3 V2
  go_wp2_with fail
  refine (HK.out _ (HT.out _ V4.out.below)).mono ?_
  rintro e w5 ⟨rfl, hb5⟩
  have V5 := Lib.hid (V4.out.next hb5)
  clear hb5 p0 p1 q0 q1 V3 V4 HP HR HK
  go_wp2_with fail
  go_loopw [9] (fun c wr => ∃ i : Nat, i ≤ 6 ∧ c = .int .i64 i ∧ AV w0 g q zs x n wr) (fun c _ => 6 - (intOf c).toNat)
  case atStart => exact ⟨0, by omega, rfl, V5.out⟩
  case round =>
    obtain ⟨i, hi6, rfl, hV⟩ := hrel
    by_cases hlt : i < 6
    · have hlt' : (i : Int) < 6 := by omega
      have hz := HZ.out (zs.getD i 0) (by rw [List.getD_eq_getElem?_getD, List.getElem?_eq_getElem (by have := HZL.out; omega)]; exact List.getElem_mem _)
      obtain ⟨m, hm, hm9⟩ : ∃ m : Nat, zs.getD i 0 = (m : Int) ∧ m ≤ 4294967295 := ⟨(zs.getD i 0).toNat, by omega, by omega⟩
      have HV := Lib.hid hV
      have hn32 : n ≤ 32 := by have := HOK.out.2.1; omega
      have ci := hV.cell i hlt
      rw [hm] at ci
      have HM := Lib.hid hm
      have HT1 := Lib.hid (FF.out.text_yes m hm9)
      have HR1 := Lib.hid (FF.out.read_yes m hm9)
      obtain ⟨at_, ATX⟩ : ∃ t, Hid (t = addrP m) := ⟨_, rfl⟩
      rw [← ATX.out] at HT1 HR1
      have ho := FF.out.of_yes m n hm9 hn32
      have hi2 := FF.out.in_yes (firstP m n : Nat) n m ⟨firstP_ok m n hm9 hn32, ⟨by omega, by omega⟩, rfl⟩
      obtain ⟨b, hbe, hi1, hi3⟩ : ∃ b : Bool, ((firstP m n : Int) == (x : Int)) = b ∧ (∀ X, L X → Calls Tryd.prog 39 #[.agg #[.int .i64 x, .int .i64 n], .int .i64 m] X fun e X' => e = .returned (.bool b) ∧ Below X.heap.size X X') ∧ (∀ X, Calls Tryd.prog 40 #[.agg #[.int .i64 x, .int .i64 n], .int .i64 m] X fun e X' => e = .returned (.bool b) ∧ Below X.heap.size X X') := by
        by_cases h : (firstP m n : Int) = (x : Int)
        · exact ⟨true, by rw [h]; simp, FF.out.in_yes x n m ⟨HOK.out, ⟨by omega, by omega⟩, h⟩, specInPrefix_yes x n m ⟨HOK.out, ⟨by omega, by omega⟩, h⟩⟩
        · exact ⟨false, by rw [beq_eq_false_iff_ne]; exact h, FF.out.in_no x n m (fun k => h k.2.2), specInPrefix_no x n m (fun k => h k.2.2)⟩
      obtain ⟨f, FE⟩ : ∃ f, Hid (f = firstP m n) := ⟨_, rfl⟩
      rw [← FE.out] at ho hi2 hbe
      have K1 : Hid (∀ X, (X.cell? ⟨g, i, none⟩ = some (.int .i64 m) ∧ X.cell? ⟨q, 0, none⟩ = some (.int .i64 x) ∧ X.cell? ⟨q, 1, none⟩ = some (.int .i64 n) ∧ AV w0 g q zs x n X) → Calls Tryd.prog 38 #[.int .i64 m, .int .i64 n] X fun e X' => e = .returned (.tuple #[.agg #[.int .i64 f, .int .i64 n], .bool true]) ∧ (X'.cell? ⟨g, i, none⟩ = some (.int .i64 m) ∧ X'.cell? ⟨q, 0, none⟩ = some (.int .i64 x) ∧ X'.cell? ⟨q, 1, none⟩ = some (.int .i64 n) ∧ AV w0 g q zs x n X') ∧ Below X.heap.size X X') := fun X hX => by
        refine (ho X (HT.out X hX.2.2.2.below)).mono ?_
        rintro e Y ⟨rfl, hb⟩
        have h := (hX.2.2.2.next hb).three i hlt
        rw [HM.out] at h
        exact ⟨rfl, h, hb⟩
      clear hV hz hm ho
      go_wp2_with fail
      refine (HT1.out _ (HT.out _ HV.out.below)).mono ?_
      rintro e w6 ⟨rfl, hb6⟩
      have V6 := Lib.hid (HV.out.next hb6)
      clear hb6 ci HV
      go_wp2_with fail
      refine (HR1.out _ (HT.out _ V6.out.below)).mono ?_
      rintro e w7 ⟨rfl, hb7⟩
      have h7 := ((V6.out.next hb7).drew).three i hlt
      rw [HM.out] at h7
      have V7 := Lib.hid h7
      clear hb7 V6 h7 HT1 HR1
      go_wp2_with fail
      have hrg : w7.heap.size ≠ g := Nat.ne_of_gt V7.out.2.2.2.gl
      have hrq : w7.heap.size ≠ q := Nat.ne_of_gt (lt_of_block V7.out.2.2.2.p.row)
      have hrw : w0.heap.size ≤ w7.heap.size := V7.out.2.2.2.below.size
      go_region_held3 (fun X => X.cell? ⟨g, i, none⟩ = some (.int .i64 m) ∧ X.cell? ⟨q, 0, none⟩ = some (.int .i64 x) ∧ X.cell? ⟨q, 1, none⟩ = some (.int .i64 n) ∧ AV w0 g q zs x n X) (first | (with_reducible assumption) | (with_reducible exact V7.out) | (with_reducible exact three_alloc (by assumption) _) | (exact three_alloc V7.out _) | (with_reducible exact three_store (by assumption) hrg hrq hrw _ _)) (first | (go_at_call 38; refine (K1.out _ (by assumption)).mono ?_; rintro e v1 ⟨rfl, hS, hb⟩; first | (have rr := ((VarP.new w7 PT (.int .i64 0) (.int .i64 0)).drew).next hb; have r0 := rr.c0; have r1 := rr.c1; have g0 := rr.free 0; have g1 := rr.free 1) | skip))
      all_goals
        first | (have R8 := Lib.hid (rr.set2 (.int .i64 f) (.int .i64 n)); have V8 := Lib.hid (three_store hS hrg hrq hrw (.int .i64 f) (.int .i64 n)); clear hS hb rr r0 r1 g0 g1 V7; generalize (v1.setCell ⟨w7.heap.size, 0, none⟩ (.int .i64 f)).setCell ⟨w7.heap.size, 1, none⟩ (.int .i64 n) = w8 at R8 V8 ⊢; generalize w7.heap.size = r at R8 ⊢) | (have R8 := Lib.hid (VarP.new v1 48 (.int .i64 f) (.int .i64 n)); have V8 := Lib.hid (three_alloc hS (.cells #[.int .i64 f, .int .i64 n] 48)); clear hS hb V7; generalize v1.alloc (.cells #[.int .i64 f, .int .i64 n] 48) = w8 at R8 V8 ⊢; generalize v1.heap.size = r at R8 ⊢)
        have h9 : RV8 w0 g q zs x n r f m i w8 := ⟨V8.out.2.2.2, R8.out, V8.out.1⟩
        have V9 := Lib.hid h9
        have heq : ∀ W, (Op.equalIn 10000 48 (.agg #[.int .i64 f, .int .i64 n]) (.agg #[.int .i64 x, .int .i64 n])).run Tryd.prog W = .ok b W := fun W => by
          rw [pref_eq, hbe]
          simp
        have K2 : Hid (∀ X, (X.cell? ⟨g, i, none⟩ = some (.int .i64 m) ∧ X.cell? ⟨q, 0, none⟩ = some (.int .i64 x) ∧ X.cell? ⟨q, 1, none⟩ = some (.int .i64 n) ∧ X.cell? ⟨r, 0, none⟩ = some (.int .i64 f) ∧ X.cell? ⟨r, 1, none⟩ = some (.int .i64 n) ∧ RV8 w0 g q zs x n r f m i X) → Calls Tryd.prog 39 #[.agg #[.int .i64 x, .int .i64 n], .int .i64 m] X fun e Y => e = .returned (.bool b) ∧ (Y.cell? ⟨g, i, none⟩ = some (.int .i64 m) ∧ Y.cell? ⟨q, 0, none⟩ = some (.int .i64 x) ∧ Y.cell? ⟨q, 1, none⟩ = some (.int .i64 n) ∧ Y.cell? ⟨r, 0, none⟩ = some (.int .i64 f) ∧ Y.cell? ⟨r, 1, none⟩ = some (.int .i64 n) ∧ RV8 w0 g q zs x n r f m i Y)) := fun X hX => (hi1 X (HT.out X hX.2.2.2.2.2.v.below)).mono (by rintro e Y ⟨rfl, hb⟩; exact ⟨rfl, (hX.2.2.2.2.2.next hb).five⟩)
        have K3 : Hid (∀ X, (X.cell? ⟨g, i, none⟩ = some (.int .i64 m) ∧ X.cell? ⟨q, 0, none⟩ = some (.int .i64 x) ∧ X.cell? ⟨q, 1, none⟩ = some (.int .i64 n) ∧ X.cell? ⟨r, 0, none⟩ = some (.int .i64 f) ∧ X.cell? ⟨r, 1, none⟩ = some (.int .i64 n) ∧ RV8 w0 g q zs x n r f m i X) → Calls Tryd.prog 39 #[.agg #[.int .i64 f, .int .i64 n], .int .i64 m] X fun e Y => e = .returned (.bool true) ∧ (Y.cell? ⟨g, i, none⟩ = some (.int .i64 m) ∧ Y.cell? ⟨q, 0, none⟩ = some (.int .i64 x) ∧ Y.cell? ⟨q, 1, none⟩ = some (.int .i64 n) ∧ Y.cell? ⟨r, 0, none⟩ = some (.int .i64 f) ∧ Y.cell? ⟨r, 1, none⟩ = some (.int .i64 n) ∧ RV8 w0 g q zs x n r f m i Y)) := fun X hX => (hi2 X (HT.out X hX.2.2.2.2.2.v.below)).mono (by rintro e Y ⟨rfl, hb⟩; exact ⟨rfl, (hX.2.2.2.2.2.next hb).five⟩)
        have K4 : Hid (∀ X, (X.cell? ⟨g, i, none⟩ = some (.int .i64 m) ∧ X.cell? ⟨q, 0, none⟩ = some (.int .i64 x) ∧ X.cell? ⟨q, 1, none⟩ = some (.int .i64 n) ∧ X.cell? ⟨r, 0, none⟩ = some (.int .i64 f) ∧ X.cell? ⟨r, 1, none⟩ = some (.int .i64 n) ∧ RV8 w0 g q zs x n r f m i X) → Calls Tryd.prog 40 #[.agg #[.int .i64 x, .int .i64 n], .int .i64 m] X fun e Y => e = .returned (.bool b) ∧ (Y.cell? ⟨g, i, none⟩ = some (.int .i64 m) ∧ Y.cell? ⟨q, 0, none⟩ = some (.int .i64 x) ∧ Y.cell? ⟨q, 1, none⟩ = some (.int .i64 n) ∧ Y.cell? ⟨r, 0, none⟩ = some (.int .i64 f) ∧ Y.cell? ⟨r, 1, none⟩ = some (.int .i64 n) ∧ RV8 w0 g q zs x n r f m i Y)) := fun X hX => (hi3 X).mono (by rintro e Y ⟨rfl, hb⟩; exact ⟨rfl, (hX.2.2.2.2.2.next hb).five⟩)
        have K5 : Hid (∀ X, (X.cell? ⟨g, i, none⟩ = some (.int .i64 m) ∧ X.cell? ⟨q, 0, none⟩ = some (.int .i64 x) ∧ X.cell? ⟨q, 1, none⟩ = some (.int .i64 n) ∧ X.cell? ⟨r, 0, none⟩ = some (.int .i64 f) ∧ X.cell? ⟨r, 1, none⟩ = some (.int .i64 n) ∧ RV8 w0 g q zs x n r f m i X) → Calls Tryd.prog 41 #[.int .i64 m] X fun e Y => e = .returned (.bool true) ∧ (Y.cell? ⟨g, i, none⟩ = some (.int .i64 m) ∧ Y.cell? ⟨q, 0, none⟩ = some (.int .i64 x) ∧ Y.cell? ⟨q, 1, none⟩ = some (.int .i64 n) ∧ Y.cell? ⟨r, 0, none⟩ = some (.int .i64 f) ∧ Y.cell? ⟨r, 1, none⟩ = some (.int .i64 n) ∧ RV8 w0 g q zs x n r f m i Y)) := fun X hX => (FF.out.ok_yes m (by omega) (by omega) X (HT.out X hX.2.2.2.2.2.v.below)).mono (by rintro e Y ⟨rfl, hb⟩; exact ⟨rfl, (hX.2.2.2.2.2.next hb).five⟩)
        clear h9 V8 R8 hi1 hi2 hi3 hbe K1
        go_wp2_with fail
        go_region_held3 (fun X => X.cell? ⟨g, i, none⟩ = some (.int .i64 m) ∧ X.cell? ⟨q, 0, none⟩ = some (.int .i64 x) ∧ X.cell? ⟨q, 1, none⟩ = some (.int .i64 n) ∧ X.cell? ⟨r, 0, none⟩ = some (.int .i64 f) ∧ X.cell? ⟨r, 1, none⟩ = some (.int .i64 n) ∧ RV8 w0 g q zs x n r f m i X) (first | (with_reducible assumption) | (with_reducible exact (RV8.drew V9.out).five)) (first | (go_at_call_of 39 (Value.agg #[Value.int IntKind.i64 (x : Int), Value.int IntKind.i64 (n : Int)]); refine (K2.out _ (by assumption)).mono ?_; rintro e v2 ⟨rfl, hS2⟩) | (go_at_call_of 39 (Value.agg #[Value.int IntKind.i64 (f : Int), Value.int IntKind.i64 (n : Int)]); refine (K3.out _ (by assumption)).mono ?_; rintro e v2 ⟨rfl, hS2⟩) | (go_at_call 40; refine (K4.out _ (by assumption)).mono ?_; rintro e v2 ⟨rfl, hS2⟩) | (go_at_call 41; refine (K5.out _ (by assumption)).mono ?_; rintro e v2 ⟨rfl, hS2⟩))
        all_goals
          have V10 := Lib.hid hS2.2.2.2.2.2.v
          clear hS2
          go_wp2_with fail
          go_roundw
          case rel => exact ⟨i + 1, by omega, by go_num, V10.out⟩
          case measure => simp [intOf]; omega
    · have hlt' : ¬ ((i : Int) < 6) := by omega
      have h1 := FF.out.text_yes 4294967295 (by omega)
      rw [max_text, show ((4294967295 : Nat) : Int) = 4294967295 from rfl] at h1
      have H1 := Lib.hid h1
      have H2 := Lib.hid (FF.out.text_no (-1) (by omega))
      have HV := Lib.hid hV
      clear h1 hV
      go_wp2_with fail
      refine (H1.out _ (HT.out _ HV.out.below)).mono ?_
      rintro e w6 ⟨rfl, hb6⟩
      have V6 := Lib.hid (HV.out.next hb6)
      clear hb6
      go_wp2_with fail
      refine (H2.out _ (HT.out _ V6.out.below)).mono ?_
      rintro e w7 ⟨rfl, hb7⟩
      have V7 := Lib.hid (V6.out.next hb7)
      clear hb7
      go_wp2_with fail
      go_ret
      exact ⟨rfl, V7.out.below⟩

end Go.Proofs.YtmmippdommemmabDoor

/-
  The test package's functions over packets: laid, measured, held against each other, marked.
-/
import Derived.Test.YthljmjbmmgligarJ10
import Derived.Test.YthljmjbmmgligarJ11
namespace Go.Proofs.Ythljmjbmmgligar
open Go.RowKit

abbrev LPkT : TypeId := 50

set_option maxRecDepth 100000 in
set_option maxHeartbeats 400000 in
theorem szIntS_any (a : Option Addr) (len cap : Nat) (left : Int) (h0 : 0 ≤ left) (h1 : left ≤ 1048576) (hl : len ≤ 9223372036854775807) (w : World) :
    Calls Try.prog 47 #[.slice a len cap, .int .i64 left] w fun e w' => e = .returned (.int .i64 (if left < len then -1 else left - (len : Int))) ∧ w' = w := by
  by_cases h : left < (len : Int)
  · have h1 : left - (len : Int) < 0 := by omega
    rw [if_pos h]
    go_enter Try.func47, Try.ntmps47
    go_wp2
    go_ret
    exact ⟨rfl, rfl⟩
  · have h1 : ¬ (left - (len : Int) < 0) := by omega
    rw [if_neg h]
    go_enter Try.func47, Try.ntmps47
    go_wp2
    go_ret
    exact ⟨rfl, rfl⟩

theorem fill_next (xs : List Int) (j : Nat) (h : j < xs.length) : (xs.take j ++ List.replicate (xs.length - j) (0 : Int)).set j xs[j] = xs.take (j + 1) ++ List.replicate (xs.length - (j + 1)) 0 := by
  have hl : (xs.take j).length = j := by rw [List.length_take]; omega
  rw [List.set_append_right _ _ (by omega), hl, Nat.sub_self, show xs.length - j = (xs.length - (j + 1)) + 1 by omega, List.replicate_succ, List.set_cons_zero]
  have hta : xs.take (j + 1) = xs.take j ++ [xs[j]] := by rw [List.take_add_one, List.getElem?_eq_getElem h]; rfl
  rw [hta, List.append_assoc]
  rfl

set_option maxRecDepth 100000 in
set_option maxHeartbeats 800000 in
theorem toIntS_any (v : Value) (xs : List Int) (hl : xs.length ≤ 1048576) (w : World) (hs : layIntS.rd w [v] xs) :
    Calls Try.prog 53 #[v] w fun e w' => OutS layIntS w xs e w' := by
  obtain ⟨i0, hi, hz0, hsz0, hby0⟩ := info_of infoInt
  obtain ⟨a, cap, rfl⟩ := rows_form hs
  have HS := Lib.hid hs
  clear hs
  go_enter Try.func53, Try.ntmps53
  go_wp2_with (at_make; refine wpList_make_full _ rfl _ _ 25 rfl w.heap.size 3 i0 (.int .i64 0) 1 Try.underlying25 hi hz0 hsz0 .i64 .i64 _ _ xs.length rfl rfl rfl rfl (by rw [hby0]; omega) (by unfold maxLen; omega) (Nat.le_refl _) ?_)
  intro w1 hown1 hg1
  have hown : layIntS.own w1 w.heap.size [w.heap.size] [.slice (some ⟨w.heap.size, 0, none⟩) xs.length xs.length] (List.replicate xs.length 0) := rows_made (cs := #[.int .i64 0]) (by rw [show xs.length * Lay.int.k = xs.length from Nat.mul_one _]; exact hown1) rfl (int_own.2 ⟨rfl, rfl⟩)
  have hbel : Below w.heap.size w w1 := below_grown hg1 (fun k h => by cases h) (Nat.le_refl _)
  clear hown1 hg1
  go_wp2_with fail
  go_loopw [4] (fun c wr => ∃ j : Nat, j ≤ xs.length ∧ c = .int .i64 j ∧ layIntS.own wr w.heap.size [w.heap.size] [.slice (some ⟨w.heap.size, 0, none⟩) xs.length xs.length] (xs.take j ++ List.replicate (xs.length - j) 0) ∧ Below w.heap.size w wr) (fun c _ => xs.length - (intOf c).toNat)
  case atStart => exact ⟨0, Nat.zero_le _, rfl, by simpa using hown, hbel⟩
  case round =>
    obtain ⟨j, hj, rfl, hown2, hb2⟩ := hrel
    have HO := Lib.hid hown2
    have HB := Lib.hid hb2
    clear hown2 hb2 hown hbel
    by_cases hlt : j < xs.length
    · have hlt' : (j : Int) < (xs.length : Int) := by omega
      have hlen : j < (xs.take j ++ List.replicate (xs.length - j) (0 : Int)).length := by rw [List.length_append, List.length_take, List.length_replicate]; omega
      obtain ⟨g, off, cap', hv, hg, hcell⟩ := ints_get (layIntS.below HS.out HB.out) j hlt
      simp only [Value.slice.injEq] at hv
      obtain ⟨rfl, -, rfl⟩ := hv
      obtain ⟨g', cap'', hv', _, _, _, hc', hf', hown3, hchg⟩ := ints_put HO.out (by simp) j hlen xs[j]
      simp only [Value.slice.injEq, Option.some.injEq, Addr.mk.injEq, and_true] at hv'
      obtain ⟨rfl, -, -⟩ := hv'
      rw [fill_next xs j hlt] at hown3
      have HP := Lib.hid hown3
      have HB3 := Lib.hid (HB.out.trans (hchg.below (b := w.heap.size) (by simp) HB.out.size))
      generalize xs[j] = x at *
      generalize (xs.take j ++ List.replicate (xs.length - j) (0 : Int))[j] = y0 at hc'
      clear hown3 hchg hlen
      go_wp2_with fail
      go_roundw
      case rel => exact ⟨j + 1, by omega, by go_num, HP.out, HB3.out⟩
      case measure => simp [intOf]; omega
    · have hlt' : ¬ ((j : Int) < (xs.length : Int)) := by omega
      have hke : j = xs.length := by omega
      have hfin : xs.take j ++ List.replicate (xs.length - j) (0 : Int) = xs := by subst hke; simp
      have HO2 := HO.out
      rw [hfin] at HO2
      have HO3 := Lib.hid HO2
      clear HO2 HO
      go_wp2_with fail
      go_ret
      exact ⟨_, _, rfl, by simp, HO3.out, HB.out⟩

/-- While a packet is laid: the argument, the result, the copy. -/
structure TP (w : World) (bs cs : Array Value) (X : World) : Prop where
  box : VarA w.heap.size LPkT bs X
  res : VarA (w.heap.size + 1) PkT #[.int .i64 0, .int .i64 0, .int .i64 0, .int .i64 0, .int .i64 0, .slice none 0 0, .string ⟨#[]⟩] X
  var : VarA (w.heap.size + 2) PkT cs X
  below : Below w.heap.size w X
theorem TP.next {w : World} {bs cs : Array Value} {X Y : World} (h : TP w bs cs X) (hb : Below X.heap.size X Y) : TP w bs cs Y := ⟨h.box.next hb, h.res.next hb, h.var.next hb, h.below.trans (hb.mono h.below.size)⟩
theorem TP.set {w : World} {bs cs : Array Value} {X : World} (h : TP w bs cs X) (j : Nat) (u : Value) : TP w bs (cs.setIfInBounds j u) (X.setCell ⟨w.heap.size + 2, j, none⟩ u) := by
  have ho : Only (w.heap.size + 2) X (X.setCell ⟨w.heap.size + 2, j, none⟩ u) := Only.setCell j u
  exact ⟨h.box.only ho (by omega), h.res.only ho (by omega), h.var.set j u, h.below.trans (only_below ho (by omega) h.below.size)⟩
/-- What toPacket gives. -/
def PkMade (op key fr dst num : Int) (xs : List Int) (body : ByteArray) (w : World) (e : Ending) (w' : World) : Prop :=
  ∃ (na : Option Addr) (nc : Nat) (f : List Nat), e = .returned (.agg #[.int .i64 op, .int .i64 key, .int .i64 fr, .int .i64 dst, .int .i64 num, .slice na xs.length nc, .string body]) ∧ f.Nodup ∧ layIntS.own w' w.heap.size f [.slice na xs.length nc] xs ∧ Below w.heap.size w w'

set_option maxRecDepth 100000 in
set_option maxHeartbeats 1600000 in
theorem toPacket_any (op key fr dst num : Int) (v : Value) (xs : List Int) (body : ByteArray) (hl : xs.length ≤ 1048576) (w : World) (h : layIntS.rd w [v] xs) :
    Calls Try.prog 26 #[.agg #[.int .i64 op, .int .i64 key, .int .i64 fr, .int .i64 dst, .int .i64 num, v, .string body]] w (PkMade op key fr dst num xs body w) := by
  obtain ⟨a, cp, rfl⟩ := rows_form h
  have HR := Lib.hid h
  have T0 : Hid (TP w #[.int .i64 op, .int .i64 key, .int .i64 fr, .int .i64 dst, .int .i64 num, .slice a xs.length cp, .string body] #[.int .i64 0, .int .i64 0, .int .i64 0, .int .i64 0, .int .i64 0, .slice none 0 0, .string ⟨#[]⟩] (((w.alloc (.cells #[.int .i64 op, .int .i64 key, .int .i64 fr, .int .i64 dst, .int .i64 num, .slice a xs.length cp, .string body] LPkT)).alloc (.cells #[.int .i64 0, .int .i64 0, .int .i64 0, .int .i64 0, .int .i64 0, .slice none 0 0, .string ⟨#[]⟩] PkT)).alloc (.cells #[.int .i64 0, .int .i64 0, .int .i64 0, .int .i64 0, .int .i64 0, .slice none 0 0, .string ⟨#[]⟩] PkT))) := by
    have e1 : (w.alloc (.cells #[.int .i64 op, .int .i64 key, .int .i64 fr, .int .i64 dst, .int .i64 num, .slice a xs.length cp, .string body] LPkT)).heap.size = w.heap.size + 1 := by simp
    have e2 : ((w.alloc (.cells #[.int .i64 op, .int .i64 key, .int .i64 fr, .int .i64 dst, .int .i64 num, .slice a xs.length cp, .string body] LPkT)).alloc (.cells #[.int .i64 0, .int .i64 0, .int .i64 0, .int .i64 0, .int .i64 0, .slice none 0 0, .string ⟨#[]⟩] PkT)).heap.size = w.heap.size + 2 := by simp
    have A1 := VarA.new (w.alloc (.cells #[.int .i64 op, .int .i64 key, .int .i64 fr, .int .i64 dst, .int .i64 num, .slice a xs.length cp, .string body] LPkT)) PkT #[.int .i64 0, .int .i64 0, .int .i64 0, .int .i64 0, .int .i64 0, .slice none 0 0, .string ⟨#[]⟩]
    have A2 := VarA.new ((w.alloc (.cells #[.int .i64 op, .int .i64 key, .int .i64 fr, .int .i64 dst, .int .i64 num, .slice a xs.length cp, .string body] LPkT)).alloc (.cells #[.int .i64 0, .int .i64 0, .int .i64 0, .int .i64 0, .int .i64 0, .slice none 0 0, .string ⟨#[]⟩] PkT)) PkT #[.int .i64 0, .int .i64 0, .int .i64 0, .int .i64 0, .int .i64 0, .slice none 0 0, .string ⟨#[]⟩]
    rw [e1] at A1
    rw [e2] at A2
    exact ⟨((VarA.new w LPkT #[.int .i64 op, .int .i64 key, .int .i64 fr, .int .i64 dst, .int .i64 num, .slice a xs.length cp, .string body]).alloc _).alloc _, A1.alloc _, A2, (((Below.refl w.heap.size w).alloc (Nat.le_refl _) _).alloc (by simp) _).alloc (by simp; omega) _⟩
  clear h
  go_enter Try.func26, Try.ntmps26
  go_upto_region 2 with fail
  generalize ((w.alloc (.cells #[.int .i64 op, .int .i64 key, .int .i64 fr, .int .i64 dst, .int .i64 num, .slice a xs.length cp, .string body] LPkT)).alloc (.cells #[.int .i64 0, .int .i64 0, .int .i64 0, .int .i64 0, .int .i64 0, .slice none 0 0, .string ⟨#[]⟩] PkT)).alloc (.cells #[.int .i64 0, .int .i64 0, .int .i64 0, .int .i64 0, .int .i64 0, .slice none 0 0, .string ⟨#[]⟩] PkT) = X0 at *
  have b0 : X0.cell? ⟨w.heap.size, 0, none⟩ = some (.int .i64 op) := T0.out.box.cell 0
  have d0 : X0.cell? ⟨w.heap.size + 2, 0, none⟩ = some (.int .i64 0) := T0.out.var.cell 0
  have f0 := T0.out.var.free 0
  have T1 : Hid (TP w #[.int .i64 op, .int .i64 key, .int .i64 fr, .int .i64 dst, .int .i64 num, .slice a xs.length cp, .string body] #[.int .i64 op, .int .i64 0, .int .i64 0, .int .i64 0, .int .i64 0, .slice none 0 0, .string ⟨#[]⟩] (X0.setCell ⟨w.heap.size + 2, 0, none⟩ (.int .i64 op))) := T0.out.set 0 (.int .i64 op)
  clear T0
  go_upto_region 3 with fail
  generalize X0.setCell ⟨w.heap.size + 2, 0, none⟩ (.int .i64 op) = X1 at *
  clear b0 d0 f0
  have b1 : X1.cell? ⟨w.heap.size, 1, none⟩ = some (.int .i64 key) := T1.out.box.cell 1
  have d1 : X1.cell? ⟨w.heap.size + 2, 1, none⟩ = some (.int .i64 0) := T1.out.var.cell 1
  have f1 := T1.out.var.free 1
  have T2 : Hid (TP w #[.int .i64 op, .int .i64 key, .int .i64 fr, .int .i64 dst, .int .i64 num, .slice a xs.length cp, .string body] #[.int .i64 op, .int .i64 key, .int .i64 0, .int .i64 0, .int .i64 0, .slice none 0 0, .string ⟨#[]⟩] (X1.setCell ⟨w.heap.size + 2, 1, none⟩ (.int .i64 key))) := T1.out.set 1 (.int .i64 key)
  clear T1
  go_upto_region 4 with fail
  generalize X1.setCell ⟨w.heap.size + 2, 1, none⟩ (.int .i64 key) = X2 at *
  clear b1 d1 f1
  have b2 : X2.cell? ⟨w.heap.size, 2, none⟩ = some (.int .i64 fr) := T2.out.box.cell 2
  have d2 : X2.cell? ⟨w.heap.size + 2, 2, none⟩ = some (.int .i64 0) := T2.out.var.cell 2
  have f2 := T2.out.var.free 2
  have T3 : Hid (TP w #[.int .i64 op, .int .i64 key, .int .i64 fr, .int .i64 dst, .int .i64 num, .slice a xs.length cp, .string body] #[.int .i64 op, .int .i64 key, .int .i64 fr, .int .i64 0, .int .i64 0, .slice none 0 0, .string ⟨#[]⟩] (X2.setCell ⟨w.heap.size + 2, 2, none⟩ (.int .i64 fr))) := T2.out.set 2 (.int .i64 fr)
  clear T2
  go_upto_region 5 with fail
  generalize X2.setCell ⟨w.heap.size + 2, 2, none⟩ (.int .i64 fr) = X3 at *
  clear b2 d2 f2
  have b3 : X3.cell? ⟨w.heap.size, 3, none⟩ = some (.int .i64 dst) := T3.out.box.cell 3
  have d3 : X3.cell? ⟨w.heap.size + 2, 3, none⟩ = some (.int .i64 0) := T3.out.var.cell 3
  have f3 := T3.out.var.free 3
  have T4 : Hid (TP w #[.int .i64 op, .int .i64 key, .int .i64 fr, .int .i64 dst, .int .i64 num, .slice a xs.length cp, .string body] #[.int .i64 op, .int .i64 key, .int .i64 fr, .int .i64 dst, .int .i64 0, .slice none 0 0, .string ⟨#[]⟩] (X3.setCell ⟨w.heap.size + 2, 3, none⟩ (.int .i64 dst))) := T3.out.set 3 (.int .i64 dst)
  clear T3
  go_upto_region 6 with fail
  generalize X3.setCell ⟨w.heap.size + 2, 3, none⟩ (.int .i64 dst) = X4 at *
  clear b3 d3 f3
  have b4 : X4.cell? ⟨w.heap.size, 4, none⟩ = some (.int .i64 num) := T4.out.box.cell 4
  have d4 : X4.cell? ⟨w.heap.size + 2, 4, none⟩ = some (.int .i64 0) := T4.out.var.cell 4
  have f4 := T4.out.var.free 4
  have T5 : Hid (TP w #[.int .i64 op, .int .i64 key, .int .i64 fr, .int .i64 dst, .int .i64 num, .slice a xs.length cp, .string body] #[.int .i64 op, .int .i64 key, .int .i64 fr, .int .i64 dst, .int .i64 num, .slice none 0 0, .string ⟨#[]⟩] (X4.setCell ⟨w.heap.size + 2, 4, none⟩ (.int .i64 num))) := T4.out.set 4 (.int .i64 num)
  clear T4
  go_upto_region 7 with fail
  generalize X4.setCell ⟨w.heap.size + 2, 4, none⟩ (.int .i64 num) = X5 at *
  clear b4 d4 f4
  have b5 : X5.cell? ⟨w.heap.size, 5, none⟩ = some (.slice a xs.length cp) := T5.out.box.cell 5
  have KT := Lib.hid (toIntS_any (.slice a xs.length cp) xs hl X5 (layIntS.below HR.out T5.out.below))
  go_wp2_with fail
  refine KT.out.mono ?_
  rintro e Y5 ⟨v', fp, rfl, hd, hown, hb⟩
  obtain ⟨na, nc, rfl⟩ := rows_form (layIntS.read hown)
  have T5b := Lib.hid (T5.out.next hb)
  have hsz : w.heap.size + 3 ≤ X5.heap.size := T5.out.var.lt
  have OW := Lib.hid hown
  have LB : Hid (∀ g ∈ fp, w.heap.size + 3 ≤ g) := fun g hg => Nat.le_trans hsz (layIntS.blocks hown g hg).1
  clear hown hb T5 b5 KT HR
  have d5 : Y5.cell? ⟨w.heap.size + 2, 5, none⟩ = some (.slice none 0 0) := T5b.out.var.cell 5
  have f5 := T5b.out.var.free 5
  have T6 : Hid (TP w #[.int .i64 op, .int .i64 key, .int .i64 fr, .int .i64 dst, .int .i64 num, .slice a xs.length cp, .string body] #[.int .i64 op, .int .i64 key, .int .i64 fr, .int .i64 dst, .int .i64 num, .slice na xs.length nc, .string ⟨#[]⟩] (Y5.setCell ⟨w.heap.size + 2, 5, none⟩ (.slice na xs.length nc))) := T5b.out.set 5 (.slice na xs.length nc)
  replace OW : Hid (layIntS.own (Y5.setCell ⟨w.heap.size + 2, 5, none⟩ (.slice na xs.length nc)) X5.heap.size fp [.slice na xs.length nc] xs) := layIntS.chg OW.out (Chg.cell _ _ _ _) (fun g hg => by have := LB.out g hg; simp; omega)
  clear T5b
  go_upto_region 8 with fail
  generalize Y5.setCell ⟨w.heap.size + 2, 5, none⟩ (.slice na xs.length nc) = X6 at *
  clear d5 f5
  have b6 : X6.cell? ⟨w.heap.size, 6, none⟩ = some (.string body) := T6.out.box.cell 6
  have d6 : X6.cell? ⟨w.heap.size + 2, 6, none⟩ = some (.string ⟨#[]⟩) := T6.out.var.cell 6
  have f6 := T6.out.var.free 6
  have T7 : Hid (TP w #[.int .i64 op, .int .i64 key, .int .i64 fr, .int .i64 dst, .int .i64 num, .slice a xs.length cp, .string body] #[.int .i64 op, .int .i64 key, .int .i64 fr, .int .i64 dst, .int .i64 num, .slice na xs.length nc, .string body] (X6.setCell ⟨w.heap.size + 2, 6, none⟩ (.string body))) := T6.out.set 6 (.string body)
  replace OW : Hid (layIntS.own (X6.setCell ⟨w.heap.size + 2, 6, none⟩ (.string body)) X5.heap.size fp [.slice na xs.length nc] xs) := layIntS.chg OW.out (Chg.cell _ _ _ _) (fun g hg => by have := LB.out g hg; simp; omega)
  clear T6
  go_upto_region 9 with fail
  generalize X6.setCell ⟨w.heap.size + 2, 6, none⟩ (.string body) = X7 at *
  clear b6 d6 f6
  have p0 : X7.cell? ⟨w.heap.size + 2, 0, none⟩ = some (.int .i64 op) := T7.out.var.cell 0
  have g0 := T7.out.res.free 0
  have q0 : X7.cell? ⟨w.heap.size + 1, 0, none⟩ = some (.int .i64 0) := T7.out.res.cell 0
  have p1 : X7.cell? ⟨w.heap.size + 2, 1, none⟩ = some (.int .i64 key) := T7.out.var.cell 1
  have g1 := T7.out.res.free 1
  have q1 : X7.cell? ⟨w.heap.size + 1, 1, none⟩ = some (.int .i64 0) := T7.out.res.cell 1
  have p2 : X7.cell? ⟨w.heap.size + 2, 2, none⟩ = some (.int .i64 fr) := T7.out.var.cell 2
  have g2 := T7.out.res.free 2
  have q2 : X7.cell? ⟨w.heap.size + 1, 2, none⟩ = some (.int .i64 0) := T7.out.res.cell 2
  have p3 : X7.cell? ⟨w.heap.size + 2, 3, none⟩ = some (.int .i64 dst) := T7.out.var.cell 3
  have g3 := T7.out.res.free 3
  have q3 : X7.cell? ⟨w.heap.size + 1, 3, none⟩ = some (.int .i64 0) := T7.out.res.cell 3
  have p4 : X7.cell? ⟨w.heap.size + 2, 4, none⟩ = some (.int .i64 num) := T7.out.var.cell 4
  have g4 := T7.out.res.free 4
  have q4 : X7.cell? ⟨w.heap.size + 1, 4, none⟩ = some (.int .i64 0) := T7.out.res.cell 4
  have p5 : X7.cell? ⟨w.heap.size + 2, 5, none⟩ = some (.slice na xs.length nc) := T7.out.var.cell 5
  have g5 := T7.out.res.free 5
  have q5 : X7.cell? ⟨w.heap.size + 1, 5, none⟩ = some (.slice none 0 0) := T7.out.res.cell 5
  have p6 : X7.cell? ⟨w.heap.size + 2, 6, none⟩ = some (.string body) := T7.out.var.cell 6
  have g6 := T7.out.res.free 6
  have q6 : X7.cell? ⟨w.heap.size + 1, 6, none⟩ = some (.string ⟨#[]⟩) := T7.out.res.cell 6
  have O7 := only_seven X7 (w.heap.size + 1) (.int .i64 op) (.int .i64 key) (.int .i64 fr) (.int .i64 dst) (.int .i64 num) (.slice na xs.length nc) (.string body)
  have hs7 := T7.out.below.size
  have FIN : Hid (PkMade op key fr dst num xs body w (.returned (.agg #[.int .i64 op, .int .i64 key, .int .i64 fr, .int .i64 dst, .int .i64 num, .slice na xs.length nc, .string body])) (((((((X7.setCell ⟨w.heap.size + 1, 0, none⟩ (.int .i64 op)).setCell ⟨w.heap.size + 1, 1, none⟩ (.int .i64 key)).setCell ⟨w.heap.size + 1, 2, none⟩ (.int .i64 fr)).setCell ⟨w.heap.size + 1, 3, none⟩ (.int .i64 dst)).setCell ⟨w.heap.size + 1, 4, none⟩ (.int .i64 num)).setCell ⟨w.heap.size + 1, 5, none⟩ (.slice na xs.length nc)).setCell ⟨w.heap.size + 1, 6, none⟩ (.string body))) :=
    ⟨na, nc, fp, rfl, hd, layIntS.lower (layIntS.chg OW.out (only_chg O7) (fun g hg => by have := LB.out g hg; simp; omega)) (by omega), T7.out.below.trans (only_below O7 (by omega) hs7)⟩
  have R7 := set_seven (p0 := .int .i64 op) (p1 := .int .i64 key) (p2 := .int .i64 fr) (p3 := .int .i64 dst) (p4 := .int .i64 num) (p5 := .slice na xs.length nc) (p6 := .string body) T7.out.res
  have j0 := R7.cell 0
  have j1 := R7.cell 1
  have j2 := R7.cell 2
  have j3 := R7.cell 3
  have j4 := R7.cell 4
  have j5 := R7.cell 5
  have j6 := R7.cell 6
  clear R7 T7 O7 OW LB
  go_wp2_with fail
  exact bodyPost_ret (v := .agg #[.int .i64 op, .int .i64 key, .int .i64 fr, .int .i64 dst, .int .i64 num, .slice na xs.length nc, .string body]) (by simp [results, Try.results26, go_sem, j0, j1, j2, j3, j4, j5, j6]) rfl FIN.out

end Go.Proofs.Ythljmjbmmgligar

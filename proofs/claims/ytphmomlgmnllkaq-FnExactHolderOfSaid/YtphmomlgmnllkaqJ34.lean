/-
  Small functions of the program's pools: who, nets, what is given, for whom one is fixed, who has one.
-/
import Derived.Test.YtphmomlgmnllkaqJ32
import Derived.Test.YtphmomlgmnllkaqJ23
import Derived.Test.YtphmomlgmnllkaqJ33
namespace Go.Proofs.Ytphmomlgmnllkaq
open Go.RowKit

theorem below_drewN {b : Nat} {w X : World} (h : Below b w X) (n : Nat) : Below b w (X.drewN n) := ⟨h.os, h.tape, h.output, h.size, h.block⟩
theorem inside_iff {pa pn a : Int} (h : PrefOk pa pn) : insideP pa pn a = true ↔ (pa + 1 ≤ a ∧ a ≤ pa + (sizeP pn.toNat : Nat) - 2) := by
  constructor
  · intro hi
    unfold insideP at hi
    rw [Bool.and_eq_true, Bool.and_eq_true, bne_iff_ne, bne_iff_ne, inB_iff] at hi
    obtain ⟨⟨⟨_, ⟨h0, h1⟩, h2⟩, h3⟩, h4⟩ := hi
    have hs := sizeP_pos pn.toNat
    have e1 : firstP a.toNat pn.toNat ≤ a.toNat ∧ a.toNat < firstP a.toNat pn.toNat + sizeP pn.toNat := by
      unfold firstP
      have := Nat.div_add_mod a.toNat (sizeP pn.toNat)
      have := Nat.mod_lt a.toNat (show 0 < sizeP pn.toNat by omega)
      rw [Nat.mul_comm] at *
      omega
    omega
  · rintro ⟨h1, h2⟩
    exact inside_of h (by omega) (by omega)

theorem isWho_yes (x : Int) (h0 : 1 ≤ x) (h1 : x ≤ 99) (w : World) : Calls Try.prog 27 #[.int .i64 x] w fun e w' => e = .returned (.bool true) ∧ w' = w := by
  go_enter Try.func27, Try.ntmps27
  go_wp2_with fail
  go_ret
  exact ⟨rfl, rfl⟩
theorem isWho_no (x : Int) (h : ¬ (1 ≤ x ∧ x ≤ 99)) (w : World) : Calls Try.prog 27 #[.int .i64 x] w fun e w' => e = .returned (.bool false) ∧ w' = w := by
  by_cases h0 : 1 ≤ x
  · have h1 : ¬ x ≤ 99 := fun h1 => h ⟨h0, h1⟩
    clear h
    go_enter Try.func27, Try.ntmps27
    go_wp2_with fail
    go_ret
    exact ⟨rfl, rfl⟩
  · clear h
    go_enter Try.func27, Try.ntmps27
    go_wp2_with fail
    go_ret
    exact ⟨rfl, rfl⟩
theorem isWho_any (x : Int) (b : Bool) (hb : b = true ↔ (1 ≤ x ∧ x ≤ 99)) (w : World) : Calls Try.prog 27 #[.int .i64 x] w fun e w' => e = .returned (.bool b) ∧ w' = w := by
  cases b with
  | true => exact isWho_yes x (hb.1 rfl).1 (hb.1 rfl).2 w
  | false => exact isWho_no x (fun h => by cases hb.2 h) w

theorem givenEnds_any (a n : Nat) (ha : a ≤ 4294967295) (hn : 24 ≤ n) (hn2 : n ≤ 30) (w : World) :
    Calls Try.prog 52 #[.agg #[.int .i64 a, .int .i64 n]] w fun e w' => e = .returned (.tuple #[.int .i64 ((a : Int) + 1), .int .i64 ((a : Int) + (sizeP n : Nat) - 2)]) ∧ Below w.heap.size w w' := by
  have A0 := Lib.hid (VarA.new w PT #[.int .i64 (a : Int), .int .i64 (n : Int)])
  have B0 := Lib.hid ((Below.refl w.heap.size w).alloc (Nat.le_refl _) (.cells #[.int .i64 (a : Int), .int .i64 (n : Int)] PT))
  obtain ⟨z, HZ⟩ : ∃ z : Nat, Hid (z = sizeP n) := ⟨_, rfl⟩
  have hz4 : z ≤ 256 := by
    rw [HZ.out]
    exact Nat.pow_le_pow_right (n := 2) (by omega) (show 32 - n ≤ 8 by omega)
  have hz : wrap64 ((2 : Int) ^ (32 - n)) = (z : Int) := by
    have e : ((2 : Int) ^ (32 - n)) = (z : Int) := by
      rw [HZ.out]
      unfold sizeP
      simp
    rw [e]
    unfold wrap64
    omega
  rw [← HZ.out]
  go_enter Try.func52, Try.ntmps52
  go_upto_region 1 with fail
  generalize w.alloc (.cells #[.int .i64 (a : Int), .int .i64 (n : Int)] PT) = X0 at *
  have c0 : X0.cell? ⟨w.heap.size, 0, none⟩ = some (.int .i64 (a : Int)) := A0.out.cell 0
  have c1 : X0.cell? ⟨w.heap.size, 1, none⟩ = some (.int .i64 (n : Int)) := A0.out.cell 1
  clear A0
  go_wp2_with fail
  go_quiet (fail)
  go_wp2_with fail
  go_ret2
  exact ⟨rfl, below_drewN B0.out _⟩

theorem canGive_any (a n : Nat) (ha : a ≤ 4294967295) (hn : 24 ≤ n) (hn2 : n ≤ 30) (x : Int) (b : Bool) (hb : b = true ↔ ((a : Int) + 1 ≤ x ∧ x ≤ (a : Int) + (sizeP n : Nat) - 2)) (w : World) :
    Calls Try.prog 62 #[.agg #[.int .i64 a, .int .i64 n], .int .i64 x] w fun e w' => e = .returned (.bool b) ∧ Below w.heap.size w w' := by
  have A0 := Lib.hid (VarA.new w PT #[.int .i64 (a : Int), .int .i64 (n : Int)])
  have B0 := Lib.hid ((Below.refl w.heap.size w).alloc (Nat.le_refl _) (.cells #[.int .i64 (a : Int), .int .i64 (n : Int)] PT))
  have HG := Lib.hid (givenEnds_any a n ha hn hn2)
  generalize (a : Int) + (sizeP n : Nat) - 2 = hi at *
  go_enter Try.func62, Try.ntmps62
  go_upto_region 1 with fail
  generalize w.alloc (.cells #[.int .i64 (a : Int), .int .i64 (n : Int)] PT) = X0 at *
  have c0 : X0.cell? ⟨w.heap.size, 0, none⟩ = some (.int .i64 (a : Int)) := A0.out.cell 0
  have c1 : X0.cell? ⟨w.heap.size, 1, none⟩ = some (.int .i64 (n : Int)) := A0.out.cell 1
  clear A0
  go_wp2_with fail
  refine (HG.out X0).mono ?_
  rintro e X1 ⟨rfl, hb1⟩
  have B1 := Lib.hid (B0.out.trans (hb1.mono B0.out.size))
  clear hb1 HG c0 c1 B0
  by_cases h1 : (a : Int) + 1 ≤ x
  · by_cases h2 : x ≤ hi
    · obtain rfl : b = true := hb.2 ⟨h1, h2⟩
      clear hb
      go_wp2_with fail
      go_ret
      exact ⟨rfl, B1.out⟩
    · obtain rfl : b = false := Bool.eq_false_iff.2 fun e => h2 (hb.1 e).2
      have d2 : decide (x ≤ hi) = false := decide_eq_false h2
      clear hb
      go_wp2_with fail
      go_ret
      exact ⟨rfl, B1.out⟩
  · obtain rfl : b = false := Bool.eq_false_iff.2 fun e => h1 (hb.1 e).1
    clear hb
    go_wp2_with fail
    go_ret
    exact ⟨rfl, B1.out⟩
/-- Whether an address may be given. -/
theorem canGive_in {pa pn : Int} (h : PrefOk pa pn) (hn : 24 ≤ pn) (hn2 : pn ≤ 30) (x : Int) (w : World) :
    Calls Try.prog 62 #[.agg #[.int .i64 pa, .int .i64 pn], .int .i64 x] w fun e w' => e = .returned (.bool (insideP pa pn x)) ∧ Below w.heap.size w w' := by
  have hi := inside_iff (a := x) h
  obtain ⟨a, n, rfl, rfl, ha, _, _⟩ := h.nats
  exact canGive_any a n ha (by omega) (by omega) x _ hi w

theorem isPoolNet_any (a n : Int) (b : Bool) (hb : b = true ↔ (PrefOk a n ∧ 24 ≤ n ∧ n ≤ 30)) (w : World) :
    Calls Try.prog 49 #[.agg #[.int .i64 a, .int .i64 n]] w fun e w' => e = .returned (.bool b) ∧ Below w.heap.size w w' := by
  have A0 := Lib.hid (VarA.new w PT #[.int .i64 a, .int .i64 n])
  have B0 := Lib.hid ((Below.refl w.heap.size w).alloc (Nat.le_refl _) (.cells #[.int .i64 a, .int .i64 n] PT))
  have HO := Lib.hid (fun b hb X => implPrefixOk_any a n b hb X)
  go_enter Try.func49, Try.ntmps49
  go_upto_region 1 with fail
  generalize w.alloc (.cells #[.int .i64 a, .int .i64 n] PT) = X0 at *
  have c0 : X0.cell? ⟨w.heap.size, 0, none⟩ = some (.int .i64 a) := A0.out.cell 0
  have c1 : X0.cell? ⟨w.heap.size, 1, none⟩ = some (.int .i64 n) := A0.out.cell 1
  by_cases hp : PrefOk a n
  · have HY := Lib.hid (HO.out true (by simp [hp]) X0)
    clear HO
    by_cases h1 : 24 ≤ n
    · by_cases h2 : n ≤ 30
      · obtain rfl : b = true := hb.2 ⟨hp, h1, h2⟩
        clear hb hp
        go_wp2_with fail
        refine HY.out.mono ?_
        rintro e X1 ⟨rfl, hb1⟩
        have B1 := Lib.hid (B0.out.trans (hb1.mono B0.out.size))
        have d1 : X1.cell? ⟨w.heap.size, 1, none⟩ = some (.int .i64 n) := (A0.out.next hb1).cell 1
        clear hb1 HY
        go_wp2_with fail
        go_ret
        exact ⟨rfl, B1.out⟩
      · obtain rfl : b = false := Bool.eq_false_iff.2 fun e => h2 (hb.1 e).2.2
        have d2 : decide (n ≤ 30) = false := decide_eq_false h2
        clear hb hp
        go_wp2_with fail
        refine HY.out.mono ?_
        rintro e X1 ⟨rfl, hb1⟩
        have B1 := Lib.hid (B0.out.trans (hb1.mono B0.out.size))
        have d1 : X1.cell? ⟨w.heap.size, 1, none⟩ = some (.int .i64 n) := (A0.out.next hb1).cell 1
        clear hb1 HY
        go_wp2_with fail
        go_ret
        exact ⟨rfl, B1.out⟩
    · obtain rfl : b = false := Bool.eq_false_iff.2 fun e => h1 (hb.1 e).2.1
      clear hb hp
      go_wp2_with fail
      refine HY.out.mono ?_
      rintro e X1 ⟨rfl, hb1⟩
      have B1 := Lib.hid (B0.out.trans (hb1.mono B0.out.size))
      have d1 : X1.cell? ⟨w.heap.size, 1, none⟩ = some (.int .i64 n) := (A0.out.next hb1).cell 1
      clear hb1 HY
      go_wp2_with fail
      go_ret
      exact ⟨rfl, B1.out⟩
  · have HY := Lib.hid (HO.out false (by simp [hp]) X0)
    obtain rfl : b = false := Bool.eq_false_iff.2 fun e => hp (hb.1 e).1
    clear hb hp HO
    go_wp2_with fail
    refine HY.out.mono ?_
    rintro e X1 ⟨rfl, hb1⟩
    have B1 := Lib.hid (B0.out.trans (hb1.mono B0.out.size))
    clear hb1 HY
    go_wp2_with fail
    go_ret
    exact ⟨rfl, B1.out⟩

set_option maxRecDepth 100000 in
set_option maxHeartbeats 800000 in
theorem implHolderOf_any (pa pn : Int) (lv fv : Value) (ls : List Ls) (fs : List Fx) (a : Int) (hl : ls.length ≤ 2000000) (w : World) (h : PoolR w lv fv ls fs) :
    Calls Try.prog 16 #[.agg #[.int .i64 pa, .int .i64 pn, lv, fv], .int .i64 a] w fun e w' => e = .returned (.int .i64 (holderP ls a)) ∧ Below w.heap.size w w' := by
  obtain ⟨la, lc, rfl⟩ := rows_form h.leases
  obtain ⟨fa, fc, rfl⟩ := rows_form h.fixes
  have A0 := Lib.hid (VarA.new w PoolT #[.int .i64 pa, .int .i64 pn, .slice la ls.length lc, .slice fa fs.length fc])
  have hB0 : Below w.heap.size w (w.alloc (.cells #[.int .i64 pa, .int .i64 pn, .slice la ls.length lc, .slice fa fs.length fc] PoolT)) := (Below.refl _ _).alloc (Nat.le_refl _) _
  have HB := Lib.hid hB0
  have HR := Lib.hid h.leases
  clear h hB0
  go_enter Try.func16, Try.ntmps16
  go_upto_region 1 with fail
  generalize w.alloc (.cells #[.int .i64 pa, .int .i64 pn, .slice la ls.length lc, .slice fa fs.length fc] PoolT) = X0 at *
  have c2 : X0.cell? ⟨w.heap.size, 2, none⟩ = some (.slice la ls.length lc) := A0.out.cell 2
  go_wp2_with fail
  go_loopw [10] (fun c wr => ∃ k : Nat, k ≤ ls.length ∧ c = .int .i64 k ∧ Hid (∀ j, j < k → ∀ x, ls[j]? = some x → x.1 ≠ a) ∧ Below w.heap.size w wr) (fun c _ => ls.length - (intOf c).toNat)
  case atStart => exact ⟨0, Nat.zero_le _, rfl, fun j hj => absurd hj (by omega), HB.out⟩
  case round =>
    obtain ⟨k, hk, rfl, HN, hB⟩ := hrel
    have HBr := Lib.hid hB
    have hsz := hB.size
    clear hB
    by_cases hlt : k < ls.length
    · have hlt' : (k : Int) < (ls.length : Int) := by omega
      have hget : ls[k]? = some ls[k] := List.getElem?_eq_getElem hlt
      obtain ⟨g, off, rfl, hg, d0, d1, d2⟩ := lease_cells (layLeaseS.below HR.out HBr.out) k _ hget
      generalize ls[k] = l at hget d0 d1 d2
      obtain ⟨l0, l1, l2⟩ := l
      have HB2 := Lib.hid (HBr.out.alloc (o := .cells #[.int .i64 l0, .int .i64 l1, .int .i64 l2] LeaseT) hsz)
      by_cases hla : l0 = a
      · have hbq : (l0 == a) = true := by rw [beq_iff_eq]; exact hla
        have HE : Hid (holderP ls a = l1) := holder_at ls a k (l0, l1, l2) hget HN.out hla
        clear hla hget
        go_wp2_with fail
        go_ret
        exact ⟨congrArg (fun z => Ending.returned (Value.int .i64 z)) HE.out.symm, HB2.out⟩
      · have hbq : (l0 == a) = false := by rw [beq_eq_false_iff_ne]; exact hla
        have HN2 : Hid (∀ j, j < k + 1 → ∀ x, ls[j]? = some x → x.1 ≠ a) := fun j hj x hx => by
          rcases Nat.lt_or_ge j k with h1 | h1
          · exact HN.out j h1 x hx
          · have : j = k := by omega
            subst this
            rw [hget] at hx
            cases hx
            exact hla
        clear hla hget
        go_wp2_with fail
        go_roundw
        case rel => exact ⟨k + 1, by omega, by go_num, HN2, HB2.out⟩
        case measure => simp [intOf]; omega
    · have hlt' : ¬ ((k : Int) < (ls.length : Int)) := by omega
      have HE : Hid (holderP ls a = 0) := holder_none ls a (fun j x hx => HN.out j (by have := (List.getElem?_eq_some_iff.1 hx).1; omega) x hx)
      go_wp2_with fail
      go_ret
      exact ⟨congrArg (fun z => Ending.returned (Value.int .i64 z)) HE.out.symm, HBr.out⟩

set_option maxRecDepth 100000 in
set_option maxHeartbeats 800000 in
theorem fixedFor_any (fv : Value) (fs : List Fx) (a : Int) (hl : fs.length ≤ 2000000) (w : World) (h : layFixedS.rd w [fv] fs) :
    Calls Try.prog 53 #[fv, .int .i64 a] w fun e w' => e = .returned (.int .i64 (fixedP fs a)) ∧ Below w.heap.size w w' := by
  obtain ⟨fa, fc, rfl⟩ := rows_form h
  have HR := Lib.hid h
  clear h
  go_enter Try.func53, Try.ntmps53
  go_wp2_with fail
  go_loopw [9] (fun c wr => ∃ k : Nat, k ≤ fs.length ∧ c = .int .i64 k ∧ Hid (∀ j, j < k → ∀ x, fs[j]? = some x → x.2 ≠ a) ∧ Below w.heap.size w wr) (fun c _ => fs.length - (intOf c).toNat)
  case atStart => exact ⟨0, Nat.zero_le _, rfl, fun j hj => absurd hj (by omega), Below.refl _ _⟩
  case round =>
    obtain ⟨k, hk, rfl, HN, hB⟩ := hrel
    have HBr := Lib.hid hB
    have hsz := hB.size
    clear hB
    by_cases hlt : k < fs.length
    · have hlt' : (k : Int) < (fs.length : Int) := by omega
      have hget : fs[k]? = some fs[k] := List.getElem?_eq_getElem hlt
      obtain ⟨g, off, rfl, hg, d0, d1⟩ := fixed_cells (layFixedS.below HR.out HBr.out) k _ hget
      generalize fs[k] = l at hget d0 d1
      obtain ⟨l0, l1⟩ := l
      have HB2 := Lib.hid (HBr.out.alloc (o := .cells #[.int .i64 l0, .int .i64 l1] FixedT) hsz)
      by_cases hla : l1 = a
      · have hbq : (l1 == a) = true := by rw [beq_iff_eq]; exact hla
        have HE : Hid (fixedP fs a = l0) := fixed_at fs a k (l0, l1) hget HN.out hla
        clear hla hget
        go_wp2_with fail
        go_ret
        exact ⟨congrArg (fun z => Ending.returned (Value.int .i64 z)) HE.out.symm, HB2.out⟩
      · have hbq : (l1 == a) = false := by rw [beq_eq_false_iff_ne]; exact hla
        have HN2 : Hid (∀ j, j < k + 1 → ∀ x, fs[j]? = some x → x.2 ≠ a) := fun j hj x hx => by
          rcases Nat.lt_or_ge j k with h1 | h1
          · exact HN.out j h1 x hx
          · have : j = k := by omega
            subst this
            rw [hget] at hx
            cases hx
            exact hla
        clear hla hget
        go_wp2_with fail
        go_roundw
        case rel => exact ⟨k + 1, by omega, by go_num, HN2, HB2.out⟩
        case measure => simp [intOf]; omega
    · have hlt' : ¬ ((k : Int) < (fs.length : Int)) := by omega
      have HE : Hid (fixedP fs a = 0) := fixed_none fs a (fun j x hx => HN.out j (by have := (List.getElem?_eq_some_iff.1 hx).1; omega) x hx)
      go_wp2_with fail
      go_ret
      exact ⟨congrArg (fun z => Ending.returned (Value.int .i64 z)) HE.out.symm, HBr.out⟩

end Go.Proofs.Ytphmomlgmnllkaq

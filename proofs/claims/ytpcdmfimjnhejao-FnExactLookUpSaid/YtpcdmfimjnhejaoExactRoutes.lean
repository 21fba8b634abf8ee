/-
  The exact laws over rows of routes, out of one answer that both give.
-/
import Derived.Test.YtpcdmfimjnhejaoRouteAll
namespace Go.Proofs.Ytpcdmfimjnhejao
open Go.RowKit

/-- The parameter's variable, and what was there ahead as it was. -/
structure AV (w : World) (t : TypeId) (cs : Array Value) (X : World) : Prop where
  v : VarA w.heap.size t cs X
  below : Below w.heap.size w X
theorem AV.next {w : World} {t : TypeId} {cs : Array Value} {X Y : World} (h : AV w t cs X) (hb : Below X.heap.size X Y) : AV w t cs Y := ⟨h.v.next hb, h.below.trans (hb.mono h.below.size)⟩
theorem AV.drew {w : World} {t : TypeId} {cs : Array Value} {X : World} (h : AV w t cs X) : AV w t cs X.drew := ⟨h.v.drew, h.below.drew⟩
theorem AV.all3 {w : World} {t : TypeId} {a b c : Value} {X : World} (h : AV w t #[a, b, c] X) : X.cell? ⟨w.heap.size, 0, none⟩ = some a ∧ X.cell? ⟨w.heap.size, 1, none⟩ = some b ∧ X.cell? ⟨w.heap.size, 2, none⟩ = some c ∧ AV w t #[a, b, c] X := ⟨h.v.cell 0, h.v.cell 1, h.v.cell 2, h⟩
theorem AV.all2 {w : World} {t : TypeId} {a b : Value} {X : World} (h : AV w t #[a, b] X) : X.cell? ⟨w.heap.size, 0, none⟩ = some a ∧ X.cell? ⟨w.heap.size, 1, none⟩ = some b ∧ AV w t #[a, b] X := ⟨h.v.cell 0, h.v.cell 1, h⟩
theorem AV.with3 {w Z : World} {t : TypeId} {a b c : Value} {X : World} (h : AV w t #[a, b, c] X) (k : Below Z.heap.size Z X) : X.cell? ⟨w.heap.size, 0, none⟩ = some a ∧ X.cell? ⟨w.heap.size, 1, none⟩ = some b ∧ X.cell? ⟨w.heap.size, 2, none⟩ = some c ∧ (AV w t #[a, b, c] X ∧ Below Z.heap.size Z X) := ⟨h.v.cell 0, h.v.cell 1, h.v.cell 2, h, k⟩
theorem AV.with2 {w Z : World} {t : TypeId} {a b : Value} {X : World} (h : AV w t #[a, b] X) (k : Below Z.heap.size Z X) : X.cell? ⟨w.heap.size, 0, none⟩ = some a ∧ X.cell? ⟨w.heap.size, 1, none⟩ = some b ∧ (AV w t #[a, b] X ∧ Below Z.heap.size Z X) := ⟨h.v.cell 0, h.v.cell 1, h, k⟩
/-- It stays where a row behind it is written. -/
theorem AV.kept {w : World} {t : TypeId} {cs : Array Value} {X Y : World} {r : Option Nat} (h : AV w t cs X) (hg : X.grownBy Y r) (hr : ∀ k, r = some k → w.heap.size + 1 ≤ k) : AV w t cs Y :=
  ⟨⟨by rw [hg.block _ h.v.lt (fun e => by have := hr _ e.symm; omega)]; exact h.v.row⟩, h.below.trans (below_grown hg (fun k e => by have := hr k e; omega) h.below.size)⟩
theorem ne_block2 {u x : Value} {n : Nat} (hu : ∀ k, u.ownBlock = some k → k < n) (hx : ∀ k, x.ownBlock = some k → n ≤ k) : x.ownBlock = none ∨ x.ownBlock ≠ u.ownBlock := by
  cases h : x.ownBlock with
  | none => exact .inl rfl
  | some k =>
    refine .inr fun e => ?_
    have h1 := hu k e.symm
    have h2 := hx k h
    omega
theorem ne_block {u x : Value} {n : Nat} (hu : ∀ k, u.ownBlock = some k → k < n) (hx : ∀ k, x.ownBlock = some k → n ≤ k) : u.ownBlock = none ∨ u.ownBlock ≠ x.ownBlock := by
  cases h : u.ownBlock with
  | none => exact .inl rfl
  | some k =>
    refine .inr fun e => ?_
    have h1 := hu k h
    have h2 := hx k e.symm
    omega

set_option maxRecDepth 100000 in
set_option maxHeartbeats 3200000 in
/-- The exact law on PutRoute, out of one answer that both give. -/
theorem lawPutRouteF (L : World → Prop) (stays : ∀ X Y, L X → Below X.heap.size X Y → L Y) (a : Option Addr) (xs : List Rt) (cap : Nat) (ra rn rt : Int) (ys : List Rt) (o : Bool) (hl : xs.length ≤ 1048576) (hy : ys.length ≤ 100000000)
    (hI : ∀ (v : Value) (X : World), L X → RowR rtRec X v xs → Calls Try.prog 15 #[v, .agg #[.int .i64 ra, .int .i64 rn, .int .i64 rt]] X fun e X' => ∃ v', e = .returned (.tuple #[v', .bool o]) ∧ OwnR rtRec X' X.heap.size RTI v' ys ∧ Below X.heap.size X X')
    (hS : ∀ (v : Value) (X : World), RowR rtRec X v xs → Calls Try.prog 13 #[v, .agg #[.int .i64 ra, .int .i64 rn, .int .i64 rt]] X fun e X' => ∃ v', e = .returned (.tuple #[v', .bool o]) ∧ OwnR rtRec X' X.heap.size RTI v' ys ∧ Below X.heap.size X X')
    (w : World) (ht : L w) (hs : SrcR rtRec w a xs) :
    Calls Try.prog 4 #[.slice a xs.length cap, .agg #[.int .i64 ra, .int .i64 rn, .int .i64 rt]] w fun e w' => e = .returned (.bool true) ∧ Below w.heap.size w w' := by
  have HT : Hid (∀ X, Below w.heap.size w X → L X) := fun X hX => stays w X ht hX
  have HSz := szRouteS_any a xs.length cap (by omega)
  rw [if_neg (by omega)] at HSz
  have H0 := Lib.hid HSz
  have hneg : ¬ ((1048576 : Int) - (xs.length : Int) < 0) := by omega
  have TS : Hid (∀ X, Below w.heap.size w X → Calls Try.prog 10 #[.slice a xs.length cap] X fun e X' => ∃ v', e = .returned v' ∧ OwnR rtRec X' X.heap.size RTI v' xs ∧ Below X.heap.size X X') := fun X hX => toRouteS_any a xs cap hl X (hs.below hX)
  have TR := Lib.hid (toRoute_any ra rn rt)
  have V0 := VarA.new w 32 #[.int .i64 ra, .int .i64 rn, .int .i64 rt]
  have B0 := (Below.refl w.heap.size w).alloc (Nat.le_refl _) (.cells #[.int .i64 ra, .int .i64 rn, .int .i64 rt] 32)
  have P0 := Lib.hid (AV.mk V0 B0)
  clear V0 B0
  have KT : Hid (∀ X, (X.cell? ⟨w.heap.size, 0, none⟩ = some (.int .i64 ra) ∧ X.cell? ⟨w.heap.size, 1, none⟩ = some (.int .i64 rn) ∧ X.cell? ⟨w.heap.size, 2, none⟩ = some (.int .i64 rt) ∧ AV w 32 #[.int .i64 ra, .int .i64 rn, .int .i64 rt] X) → Calls Try.prog 10 #[.slice a xs.length cap] X fun e Y => ∃ v', e = .returned v' ∧ RowR rtRec Y v' xs ∧ Below X.heap.size X Y ∧ (Y.cell? ⟨w.heap.size, 0, none⟩ = some (.int .i64 ra) ∧ Y.cell? ⟨w.heap.size, 1, none⟩ = some (.int .i64 rn) ∧ Y.cell? ⟨w.heap.size, 2, none⟩ = some (.int .i64 rt) ∧ AV w 32 #[.int .i64 ra, .int .i64 rn, .int .i64 rt] Y)) := fun X hX => by
    refine (TS.out X hX.2.2.2.below).mono ?_
    rintro e Y ⟨v', rfl, ho, hb⟩
    exact ⟨v', rfl, ho.row, hb, (hX.2.2.2.next hb).all3⟩
  have KR : Hid (∀ X, (X.cell? ⟨w.heap.size, 0, none⟩ = some (.int .i64 ra) ∧ X.cell? ⟨w.heap.size, 1, none⟩ = some (.int .i64 rn) ∧ X.cell? ⟨w.heap.size, 2, none⟩ = some (.int .i64 rt) ∧ AV w 32 #[.int .i64 ra, .int .i64 rn, .int .i64 rt] X) → Calls Try.prog 14 #[.agg #[.int .i64 ra, .int .i64 rn, .int .i64 rt]] X fun e Y => e = .returned (.agg #[.int .i64 ra, .int .i64 rn, .int .i64 rt]) ∧ Below X.heap.size X Y ∧ (Y.cell? ⟨w.heap.size, 0, none⟩ = some (.int .i64 ra) ∧ Y.cell? ⟨w.heap.size, 1, none⟩ = some (.int .i64 rn) ∧ Y.cell? ⟨w.heap.size, 2, none⟩ = some (.int .i64 rt) ∧ AV w 32 #[.int .i64 ra, .int .i64 rn, .int .i64 rt] Y)) := fun X hX => by
    refine (TR.out X).mono ?_
    rintro e Y ⟨rfl, hb⟩
    exact ⟨rfl, hb, (hX.2.2.2.next hb).all3⟩
  have KS : Hid (∀ (v : Value) X, (X.cell? ⟨w.heap.size, 0, none⟩ = some (.int .i64 ra) ∧ X.cell? ⟨w.heap.size, 1, none⟩ = some (.int .i64 rn) ∧ X.cell? ⟨w.heap.size, 2, none⟩ = some (.int .i64 rt) ∧ AV w 32 #[.int .i64 ra, .int .i64 rn, .int .i64 rt] X) → RowR rtRec X v xs → Calls Try.prog 13 #[v, .agg #[.int .i64 ra, .int .i64 rn, .int .i64 rt]] X fun e Y => ∃ v', e = .returned (.tuple #[v', .bool o]) ∧ (OwnR rtRec Y (w.heap.size + 1) RTI v' ys ∧ OwnR rtRec Y X.heap.size RTI v' ys) ∧ (Y.cell? ⟨w.heap.size, 0, none⟩ = some (.int .i64 ra) ∧ Y.cell? ⟨w.heap.size, 1, none⟩ = some (.int .i64 rn) ∧ Y.cell? ⟨w.heap.size, 2, none⟩ = some (.int .i64 rt) ∧ AV w 32 #[.int .i64 ra, .int .i64 rn, .int .i64 rt] Y)) := fun v X hX hr => by
    refine (hS v X hr).mono ?_
    rintro e Y ⟨v', rfl, ho, hb⟩
    exact ⟨v', rfl, ⟨ho.lower (Nat.succ_le_of_lt hX.2.2.2.v.lt), ho⟩, (hX.2.2.2.next hb).all3⟩
  have KI : Hid (∀ (v : Value) X, (X.cell? ⟨w.heap.size, 0, none⟩ = some (.int .i64 ra) ∧ X.cell? ⟨w.heap.size, 1, none⟩ = some (.int .i64 rn) ∧ X.cell? ⟨w.heap.size, 2, none⟩ = some (.int .i64 rt) ∧ AV w 32 #[.int .i64 ra, .int .i64 rn, .int .i64 rt] X) → RowR rtRec X v xs → Calls Try.prog 15 #[v, .agg #[.int .i64 ra, .int .i64 rn, .int .i64 rt]] X fun e Y => ∃ v', e = .returned (.tuple #[v', .bool o]) ∧ (OwnR rtRec Y (w.heap.size + 1) RTI v' ys ∧ OwnR rtRec Y X.heap.size RTI v' ys) ∧ Below X.heap.size X Y ∧ (Y.cell? ⟨w.heap.size, 0, none⟩ = some (.int .i64 ra) ∧ Y.cell? ⟨w.heap.size, 1, none⟩ = some (.int .i64 rn) ∧ Y.cell? ⟨w.heap.size, 2, none⟩ = some (.int .i64 rt) ∧ AV w 32 #[.int .i64 ra, .int .i64 rn, .int .i64 rt] Y)) := fun v X hX hr => by
    refine (hI v X (HT.out X hX.2.2.2.below) hr).mono ?_
    rintro e Y ⟨v', rfl, ho, hb⟩
    exact ⟨v', rfl, ⟨ho.lower (Nat.succ_le_of_lt hX.2.2.2.v.lt), ho⟩, hb, (hX.2.2.2.next hb).all3⟩
  clear hI hS ht hs stays HSz
  go_enter Try.func4, Try.ntmps4
  go_wp2_with fail
  refine (H0.out _).mono ?_
  rintro e w1 ⟨rfl, rfl⟩
  go_wp2_with fail
  go_region_held3 (fun X => (X.cell? ⟨w.heap.size, 0, none⟩ = some (.int .i64 ra) ∧ X.cell? ⟨w.heap.size, 1, none⟩ = some (.int .i64 rn) ∧ X.cell? ⟨w.heap.size, 2, none⟩ = some (.int .i64 rt) ∧ AV w 32 #[.int .i64 ra, .int .i64 rn, .int .i64 rt] X)) (first | (with_reducible assumption) | (with_reducible exact (AV.drew P0.out).all3)) (first | (go_at_call 10; refine (KT.out _ (by assumption)).mono ?_; rintro e v1 ⟨x1, rfl, hrow, hb, hS1⟩) | (go_at_call 14; refine (KR.out _ (by assumption)).mono ?_; rintro e v1 ⟨rfl, hb, hS1⟩; (first | (have hrow := RowR.below hrow hb) | skip)) | (go_at_call 13; refine (KS.out _ _ (by assumption) hrow).mono ?_; rintro e v2 ⟨u, rfl, hu, hS2⟩))
  all_goals
    have U2 := Lib.hid hu.1
    have P2 := Lib.hid hS2.2.2.2
    clear hu hS2
    go_wp2_with fail
    refine (TS.out _ P2.out.below).mono ?_
    rintro e w3 ⟨x0, rfl, hx, hb3⟩
    have hlx := hx.lt
    have hlu := U2.out.lt
    have NE1 := Lib.hid (ne_block (fun k hk => (hlu k hk).2) (fun k hk => (hlx k hk).1))
    have LX : Hid (∀ k, x0.ownBlock = some k → w.heap.size + 1 ≤ k) := fun k hk => Nat.le_trans (Nat.succ_le_of_lt P2.out.v.lt) (hlx k hk).1
    have P3 := Lib.hid (P2.out.next hb3)
    have U3 := Lib.hid (U2.out.below hb3)
    have X3 := Lib.hid hx
    have c0 := P3.out.v.cell 0
    have c1 := P3.out.v.cell 1
    have c2 := P3.out.v.cell 2
    clear hx hb3 hlu P2 U2
    go_wp2_with fail
    refine (TR.out _).mono ?_
    rintro e w4 ⟨rfl, hb4⟩
    have P4 := Lib.hid (P3.out.next hb4)
    have U4 := Lib.hid (U3.out.below hb4)
    have X4 := Lib.hid (X3.out.below hb4)
    clear hb4 P3 U3 X3 c0 c1 c2
    go_wp2_with fail
    refine (KI.out _ _ P4.out.all3 X4.out.row).mono ?_
    rintro e w5 ⟨g0, rfl, ⟨hg1, hg⟩, hb5, _⟩
    have hlg := hg.lt
    have hs4 := X4.out.lt
    have hu4 := U4.out.lt
    have NE2 := Lib.hid (ne_block2 (u := x0) (x := g0) (fun k hk => (hs4 k hk).2) (fun k hk => (hlg k hk).1))
    have NE3 := Lib.hid (ne_block (u := u) (x := g0) (fun k hk => (hu4 k hk).2) (fun k hk => (hlg k hk).1))
    have P5 := Lib.hid (P4.out.next hb5)
    have U5 := Lib.hid (U4.out.below hb5)
    have X5 := Lib.hid (X4.out.below hb5)
    have G5 := Lib.hid hg1
    clear hg hg1 hb5 hlg hs4 hu4 P4 U4 X4 hlx
    have E5 := Lib.hid (eqRouteS_same g0 u ys hy w5 G5.out.row U5.out.row)
    go_wp2_with fail
    refine (E5.out).mono ?_
    rintro e w6 ⟨rfl, hb6⟩
    have P6 := Lib.hid (P5.out.next hb6)
    have U6 := Lib.hid (U5.out.below hb6)
    have X6 := Lib.hid (X5.out.below hb6)
    have G6 := Lib.hid (G5.out.below hb6)
    clear hb6 P5 U5 X5 G5 E5
    go_wp2_with fail
    refine (TS.out _ P6.out.below).mono ?_
    rintro e w7 ⟨y0, rfl, hy0, hb7⟩
    have P7 := Lib.hid (P6.out.next hb7)
    have U7 := Lib.hid (U6.out.below hb7)
    have X7 := Lib.hid (X6.out.below hb7)
    have G7 := Lib.hid (G6.out.below hb7)
    have E7 := Lib.hid (eqRouteS_same x0 y0 xs (by omega) w7 X7.out.row hy0.row)
    clear hb7 hy0 P6 U6 X6 G6
    go_wp2_with fail
    refine (E7.out).mono ?_
    rintro e w8 ⟨rfl, hb8⟩
    have P8 := Lib.hid (P7.out.next hb8)
    have U8 := Lib.hid (U7.out.below hb8)
    have X8 := Lib.hid (X7.out.below hb8)
    have G8 := Lib.hid (G7.out.below hb8)
    clear hb8 P7 U7 X7 G7 E7
    have M8 := Lib.hid (markRouteS_any x0 xs _ 1 (by omega) (by omega) (by omega) w8 X8.out)
    go_wp2_with fail
    refine (M8.out).mono ?_
    rintro e w9 ⟨rfl, hx9, hg9⟩
    have P9 := Lib.hid (P8.out.kept hg9 LX.out)
    have U9 := Lib.hid (U8.out.kept hg9 NE1.out)
    have G9 := Lib.hid (G8.out.kept hg9 NE2.out)
    clear hg9 hx9 P8 U8 X8 G8 M8 NE1 NE2 LX
    have E9 := Lib.hid (eqRouteS_same g0 u ys hy w9 G9.out.row U9.out.row)
    have hm9 : ¬ ((1 : Int) + 3 * (xs.length : Int) < 0) := by omega
    go_wp2_with fail
    refine (E9.out).mono ?_
    rintro e w10 ⟨rfl, hb10⟩
    have P10 := Lib.hid (P9.out.next hb10)
    have U10 := Lib.hid (U9.out.below hb10)
    have G10 := Lib.hid (G9.out.below hb10)
    clear hb10 P9 U9 G9 E9 hm9
    have LG : Hid (∀ k, g0.ownBlock = some k → w.heap.size + 1 ≤ k) := fun k hk => (G10.out.lt k hk).1
    have M10 := Lib.hid (markRouteS_any g0 ys _ 1 (by omega) (by omega) hy w10 G10.out)
    go_wp2_with fail
    refine (M10.out).mono ?_
    rintro e w11 ⟨rfl, hx11, hg11⟩
    have P11 := Lib.hid (P10.out.kept hg11 LG.out)
    have U11 := Lib.hid (U10.out.kept hg11 NE3.out)
    have G11 := Lib.hid hx11
    clear hg11 hx11 P10 U10 G10 M10 NE3 LG
    have K11 := Lib.hid (heldRouteS_any g0 ys.length 1 (by omega) (by omega) hy w11 G11.out.row)
    have hm11 : ¬ ((1 : Int) + 3 * (ys.length : Int) < 0) := by omega
    go_wp2_with fail
    refine (K11.out).mono ?_
    rintro e w12 ⟨rfl, rfl⟩
    clear K11
    go_wp2_with fail
    have KT2 : Hid (∀ X, (X.cell? ⟨w.heap.size, 0, none⟩ = some (.int .i64 ra) ∧ X.cell? ⟨w.heap.size, 1, none⟩ = some (.int .i64 rn) ∧ X.cell? ⟨w.heap.size, 2, none⟩ = some (.int .i64 rt) ∧ (AV w 32 #[.int .i64 ra, .int .i64 rn, .int .i64 rt] X ∧ Below w12.heap.size w12 X)) → Calls Try.prog 10 #[.slice a xs.length cap] X fun e Y => ∃ v', e = .returned v' ∧ RowR rtRec Y v' xs ∧ Below X.heap.size X Y ∧ (Y.cell? ⟨w.heap.size, 0, none⟩ = some (.int .i64 ra) ∧ Y.cell? ⟨w.heap.size, 1, none⟩ = some (.int .i64 rn) ∧ Y.cell? ⟨w.heap.size, 2, none⟩ = some (.int .i64 rt) ∧ (AV w 32 #[.int .i64 ra, .int .i64 rn, .int .i64 rt] Y ∧ Below w12.heap.size w12 Y))) := fun X hX => by
      refine (TS.out X hX.2.2.2.1.below).mono ?_
      rintro e Y ⟨v', rfl, ho, hb⟩
      exact ⟨v', rfl, ho.row, hb, AV.with3 (hX.2.2.2.1.next hb) (hX.2.2.2.2.trans (hb.mono hX.2.2.2.2.size))⟩
    have KR2 : Hid (∀ X, (X.cell? ⟨w.heap.size, 0, none⟩ = some (.int .i64 ra) ∧ X.cell? ⟨w.heap.size, 1, none⟩ = some (.int .i64 rn) ∧ X.cell? ⟨w.heap.size, 2, none⟩ = some (.int .i64 rt) ∧ (AV w 32 #[.int .i64 ra, .int .i64 rn, .int .i64 rt] X ∧ Below w12.heap.size w12 X)) → Calls Try.prog 14 #[.agg #[.int .i64 ra, .int .i64 rn, .int .i64 rt]] X fun e Y => e = .returned (.agg #[.int .i64 ra, .int .i64 rn, .int .i64 rt]) ∧ Below X.heap.size X Y ∧ (Y.cell? ⟨w.heap.size, 0, none⟩ = some (.int .i64 ra) ∧ Y.cell? ⟨w.heap.size, 1, none⟩ = some (.int .i64 rn) ∧ Y.cell? ⟨w.heap.size, 2, none⟩ = some (.int .i64 rt) ∧ (AV w 32 #[.int .i64 ra, .int .i64 rn, .int .i64 rt] Y ∧ Below w12.heap.size w12 Y))) := fun X hX => by
      refine (TR.out X).mono ?_
      rintro e Y ⟨rfl, hb⟩
      exact ⟨rfl, hb, AV.with3 (hX.2.2.2.1.next hb) (hX.2.2.2.2.trans (hb.mono hX.2.2.2.2.size))⟩
    have KI2 : Hid (∀ (v : Value) X, (X.cell? ⟨w.heap.size, 0, none⟩ = some (.int .i64 ra) ∧ X.cell? ⟨w.heap.size, 1, none⟩ = some (.int .i64 rn) ∧ X.cell? ⟨w.heap.size, 2, none⟩ = some (.int .i64 rt) ∧ (AV w 32 #[.int .i64 ra, .int .i64 rn, .int .i64 rt] X ∧ Below w12.heap.size w12 X)) → RowR rtRec X v xs → Calls Try.prog 15 #[v, .agg #[.int .i64 ra, .int .i64 rn, .int .i64 rt]] X fun e Y => ∃ v', e = .returned (.tuple #[v', .bool o]) ∧ OwnR rtRec Y X.heap.size RTI v' ys ∧ (Y.cell? ⟨w.heap.size, 0, none⟩ = some (.int .i64 ra) ∧ Y.cell? ⟨w.heap.size, 1, none⟩ = some (.int .i64 rn) ∧ Y.cell? ⟨w.heap.size, 2, none⟩ = some (.int .i64 rt) ∧ (AV w 32 #[.int .i64 ra, .int .i64 rn, .int .i64 rt] Y ∧ Below w12.heap.size w12 Y))) := fun v X hX hr => by
      refine (KI.out v X (hX.2.2.2.1.all3) hr).mono ?_
      rintro e Y ⟨v', rfl, ho, hb, _⟩
      exact ⟨v', rfl, ho.2, AV.with3 (hX.2.2.2.1.next hb) (hX.2.2.2.2.trans (hb.mono hX.2.2.2.2.size))⟩
    go_region_held3 (fun X => (X.cell? ⟨w.heap.size, 0, none⟩ = some (.int .i64 ra) ∧ X.cell? ⟨w.heap.size, 1, none⟩ = some (.int .i64 rn) ∧ X.cell? ⟨w.heap.size, 2, none⟩ = some (.int .i64 rt) ∧ (AV w 32 #[.int .i64 ra, .int .i64 rn, .int .i64 rt] X ∧ Below w12.heap.size w12 X))) (first | (with_reducible assumption) | (with_reducible exact AV.with3 (AV.drew P11.out) (Below.drew (Below.refl _ _)))) (first | (go_at_call 10; refine (KT2.out _ (by assumption)).mono ?_; rintro e v1 ⟨x1, rfl, hrow, hb, hS1⟩) | (go_at_call 14; refine (KR2.out _ (by assumption)).mono ?_; rintro e v1 ⟨rfl, hb, hS1⟩; (first | (have hrow := RowR.below hrow hb) | skip)) | (go_at_call 15; refine (KI2.out _ _ (by assumption) hrow).mono ?_; rintro e v2 ⟨h0, rfl, hh, hS2⟩))
    all_goals
      have U13 := Lib.hid (U11.out.below hS2.2.2.2.2)
      have G13 := Lib.hid (G11.out.below hS2.2.2.2.2)
      have B13 := Lib.hid hS2.2.2.2.1.below
      have E13 := Lib.hid (eqRouteS_same h0 u ys hy _ hh.row U13.out.row)
      clear hh hS2
      go_wp2_with fail
      refine (E13.out).mono ?_
      rintro e w14 ⟨rfl, hb14⟩
      have B14 := Lib.hid (B13.out.trans (hb14.mono B13.out.size))
      have K14 := Lib.hid (heldRouteS_any g0 ys.length 1 (by omega) (by omega) hy w14 (G13.out.below hb14).row)
      clear hb14 E13 B13 U13 G13
      go_wp2_with fail
      refine (K14.out).mono ?_
      rintro e w15 ⟨rfl, rfl⟩
      go_wp2_with fail
      go_ret
      exact ⟨rfl, B14.out⟩

set_option maxRecDepth 100000 in
set_option maxHeartbeats 3200000 in
/-- The exact law on DropRoute, out of one answer that both give. -/
theorem lawDropRouteF (L : World → Prop) (stays : ∀ X Y, L X → Below X.heap.size X Y → L Y) (a : Option Addr) (xs : List Rt) (cap : Nat) (ra rn : Int) (ys : List Rt) (o : Bool) (hl : xs.length ≤ 1048576) (hy : ys.length ≤ 100000000)
    (hI : ∀ (v : Value) (X : World), L X → RowR rtRec X v xs → Calls Try.prog 20 #[v, .agg #[.int .i64 ra, .int .i64 rn]] X fun e X' => ∃ v', e = .returned (.tuple #[v', .bool o]) ∧ OwnR rtRec X' X.heap.size RTI v' ys ∧ Below X.heap.size X X')
    (hS : ∀ (v : Value) (X : World), RowR rtRec X v xs → Calls Try.prog 18 #[v, .agg #[.int .i64 ra, .int .i64 rn]] X fun e X' => ∃ v', e = .returned (.tuple #[v', .bool o]) ∧ OwnR rtRec X' X.heap.size RTI v' ys ∧ Below X.heap.size X X')
    (w : World) (ht : L w) (hs : SrcR rtRec w a xs) :
    Calls Try.prog 5 #[.slice a xs.length cap, .agg #[.int .i64 ra, .int .i64 rn]] w fun e w' => e = .returned (.bool true) ∧ Below w.heap.size w w' := by
  have HT : Hid (∀ X, Below w.heap.size w X → L X) := fun X hX => stays w X ht hX
  have HSz := szRouteS_any a xs.length cap (by omega)
  rw [if_neg (by omega)] at HSz
  have H0 := Lib.hid HSz
  have hneg : ¬ ((1048576 : Int) - (xs.length : Int) < 0) := by omega
  have TS : Hid (∀ X, Below w.heap.size w X → Calls Try.prog 10 #[.slice a xs.length cap] X fun e X' => ∃ v', e = .returned v' ∧ OwnR rtRec X' X.heap.size RTI v' xs ∧ Below X.heap.size X X') := fun X hX => toRouteS_any a xs cap hl X (hs.below hX)
  have TR := Lib.hid (toPrefR_any ra rn)
  have V0 := VarA.new w 30 #[.int .i64 ra, .int .i64 rn]
  have B0 := (Below.refl w.heap.size w).alloc (Nat.le_refl _) (.cells #[.int .i64 ra, .int .i64 rn] 30)
  have P0 := Lib.hid (AV.mk V0 B0)
  clear V0 B0
  have KT : Hid (∀ X, (X.cell? ⟨w.heap.size, 0, none⟩ = some (.int .i64 ra) ∧ X.cell? ⟨w.heap.size, 1, none⟩ = some (.int .i64 rn) ∧ AV w 30 #[.int .i64 ra, .int .i64 rn] X) → Calls Try.prog 10 #[.slice a xs.length cap] X fun e Y => ∃ v', e = .returned v' ∧ RowR rtRec Y v' xs ∧ Below X.heap.size X Y ∧ (Y.cell? ⟨w.heap.size, 0, none⟩ = some (.int .i64 ra) ∧ Y.cell? ⟨w.heap.size, 1, none⟩ = some (.int .i64 rn) ∧ AV w 30 #[.int .i64 ra, .int .i64 rn] Y)) := fun X hX => by
    refine (TS.out X hX.2.2.below).mono ?_
    rintro e Y ⟨v', rfl, ho, hb⟩
    exact ⟨v', rfl, ho.row, hb, (hX.2.2.next hb).all2⟩
  have KR : Hid (∀ X, (X.cell? ⟨w.heap.size, 0, none⟩ = some (.int .i64 ra) ∧ X.cell? ⟨w.heap.size, 1, none⟩ = some (.int .i64 rn) ∧ AV w 30 #[.int .i64 ra, .int .i64 rn] X) → Calls Try.prog 19 #[.agg #[.int .i64 ra, .int .i64 rn]] X fun e Y => e = .returned (.agg #[.int .i64 ra, .int .i64 rn]) ∧ Below X.heap.size X Y ∧ (Y.cell? ⟨w.heap.size, 0, none⟩ = some (.int .i64 ra) ∧ Y.cell? ⟨w.heap.size, 1, none⟩ = some (.int .i64 rn) ∧ AV w 30 #[.int .i64 ra, .int .i64 rn] Y)) := fun X hX => by
    refine (TR.out X).mono ?_
    rintro e Y ⟨rfl, hb⟩
    exact ⟨rfl, hb, (hX.2.2.next hb).all2⟩
  have KS : Hid (∀ (v : Value) X, (X.cell? ⟨w.heap.size, 0, none⟩ = some (.int .i64 ra) ∧ X.cell? ⟨w.heap.size, 1, none⟩ = some (.int .i64 rn) ∧ AV w 30 #[.int .i64 ra, .int .i64 rn] X) → RowR rtRec X v xs → Calls Try.prog 18 #[v, .agg #[.int .i64 ra, .int .i64 rn]] X fun e Y => ∃ v', e = .returned (.tuple #[v', .bool o]) ∧ (OwnR rtRec Y (w.heap.size + 1) RTI v' ys ∧ OwnR rtRec Y X.heap.size RTI v' ys) ∧ (Y.cell? ⟨w.heap.size, 0, none⟩ = some (.int .i64 ra) ∧ Y.cell? ⟨w.heap.size, 1, none⟩ = some (.int .i64 rn) ∧ AV w 30 #[.int .i64 ra, .int .i64 rn] Y)) := fun v X hX hr => by
    refine (hS v X hr).mono ?_
    rintro e Y ⟨v', rfl, ho, hb⟩
    exact ⟨v', rfl, ⟨ho.lower (Nat.succ_le_of_lt hX.2.2.v.lt), ho⟩, (hX.2.2.next hb).all2⟩
  have KI : Hid (∀ (v : Value) X, (X.cell? ⟨w.heap.size, 0, none⟩ = some (.int .i64 ra) ∧ X.cell? ⟨w.heap.size, 1, none⟩ = some (.int .i64 rn) ∧ AV w 30 #[.int .i64 ra, .int .i64 rn] X) → RowR rtRec X v xs → Calls Try.prog 20 #[v, .agg #[.int .i64 ra, .int .i64 rn]] X fun e Y => ∃ v', e = .returned (.tuple #[v', .bool o]) ∧ (OwnR rtRec Y (w.heap.size + 1) RTI v' ys ∧ OwnR rtRec Y X.heap.size RTI v' ys) ∧ Below X.heap.size X Y ∧ (Y.cell? ⟨w.heap.size, 0, none⟩ = some (.int .i64 ra) ∧ Y.cell? ⟨w.heap.size, 1, none⟩ = some (.int .i64 rn) ∧ AV w 30 #[.int .i64 ra, .int .i64 rn] Y)) := fun v X hX hr => by
    refine (hI v X (HT.out X hX.2.2.below) hr).mono ?_
    rintro e Y ⟨v', rfl, ho, hb⟩
    exact ⟨v', rfl, ⟨ho.lower (Nat.succ_le_of_lt hX.2.2.v.lt), ho⟩, hb, (hX.2.2.next hb).all2⟩
  clear hI hS ht hs stays HSz
  go_enter Try.func5, Try.ntmps5
  go_wp2_with fail
  refine (H0.out _).mono ?_
  rintro e w1 ⟨rfl, rfl⟩
  go_wp2_with fail
  go_region_held3 (fun X => (X.cell? ⟨w.heap.size, 0, none⟩ = some (.int .i64 ra) ∧ X.cell? ⟨w.heap.size, 1, none⟩ = some (.int .i64 rn) ∧ AV w 30 #[.int .i64 ra, .int .i64 rn] X)) (first | (with_reducible assumption) | (with_reducible exact (AV.drew P0.out).all2)) (first | (go_at_call 10; refine (KT.out _ (by assumption)).mono ?_; rintro e v1 ⟨x1, rfl, hrow, hb, hS1⟩) | (go_at_call 19; refine (KR.out _ (by assumption)).mono ?_; rintro e v1 ⟨rfl, hb, hS1⟩; (first | (have hrow := RowR.below hrow hb) | skip)) | (go_at_call 18; refine (KS.out _ _ (by assumption) hrow).mono ?_; rintro e v2 ⟨u, rfl, hu, hS2⟩))
  all_goals
    have U2 := Lib.hid hu.1
    have P2 := Lib.hid hS2.2.2
    clear hu hS2
    go_wp2_with fail
    refine (TS.out _ P2.out.below).mono ?_
    rintro e w3 ⟨x0, rfl, hx, hb3⟩
    have hlx := hx.lt
    have hlu := U2.out.lt
    have NE1 := Lib.hid (ne_block (fun k hk => (hlu k hk).2) (fun k hk => (hlx k hk).1))
    have LX : Hid (∀ k, x0.ownBlock = some k → w.heap.size + 1 ≤ k) := fun k hk => Nat.le_trans (Nat.succ_le_of_lt P2.out.v.lt) (hlx k hk).1
    have P3 := Lib.hid (P2.out.next hb3)
    have U3 := Lib.hid (U2.out.below hb3)
    have X3 := Lib.hid hx
    have c0 := P3.out.v.cell 0
    have c1 := P3.out.v.cell 1
    clear hx hb3 hlu P2 U2
    go_wp2_with fail
    refine (TR.out _).mono ?_
    rintro e w4 ⟨rfl, hb4⟩
    have P4 := Lib.hid (P3.out.next hb4)
    have U4 := Lib.hid (U3.out.below hb4)
    have X4 := Lib.hid (X3.out.below hb4)
    clear hb4 P3 U3 X3 c0 c1
    go_wp2_with fail
    refine (KI.out _ _ P4.out.all2 X4.out.row).mono ?_
    rintro e w5 ⟨g0, rfl, ⟨hg1, hg⟩, hb5, _⟩
    have hlg := hg.lt
    have hs4 := X4.out.lt
    have hu4 := U4.out.lt
    have NE2 := Lib.hid (ne_block2 (u := x0) (x := g0) (fun k hk => (hs4 k hk).2) (fun k hk => (hlg k hk).1))
    have NE3 := Lib.hid (ne_block (u := u) (x := g0) (fun k hk => (hu4 k hk).2) (fun k hk => (hlg k hk).1))
    have P5 := Lib.hid (P4.out.next hb5)
    have U5 := Lib.hid (U4.out.below hb5)
    have X5 := Lib.hid (X4.out.below hb5)
    have G5 := Lib.hid hg1
    clear hg hg1 hb5 hlg hs4 hu4 P4 U4 X4 hlx
    have E5 := Lib.hid (eqRouteS_same g0 u ys hy w5 G5.out.row U5.out.row)
    go_wp2_with fail
    refine (E5.out).mono ?_
    rintro e w6 ⟨rfl, hb6⟩
    have P6 := Lib.hid (P5.out.next hb6)
    have U6 := Lib.hid (U5.out.below hb6)
    have X6 := Lib.hid (X5.out.below hb6)
    have G6 := Lib.hid (G5.out.below hb6)
    clear hb6 P5 U5 X5 G5 E5
    go_wp2_with fail
    refine (TS.out _ P6.out.below).mono ?_
    rintro e w7 ⟨y0, rfl, hy0, hb7⟩
    have P7 := Lib.hid (P6.out.next hb7)
    have U7 := Lib.hid (U6.out.below hb7)
    have X7 := Lib.hid (X6.out.below hb7)
    have G7 := Lib.hid (G6.out.below hb7)
    have E7 := Lib.hid (eqRouteS_same x0 y0 xs (by omega) w7 X7.out.row hy0.row)
    clear hb7 hy0 P6 U6 X6 G6
    go_wp2_with fail
    refine (E7.out).mono ?_
    rintro e w8 ⟨rfl, hb8⟩
    have P8 := Lib.hid (P7.out.next hb8)
    have U8 := Lib.hid (U7.out.below hb8)
    have X8 := Lib.hid (X7.out.below hb8)
    have G8 := Lib.hid (G7.out.below hb8)
    clear hb8 P7 U7 X7 G7 E7
    have M8 := Lib.hid (markRouteS_any x0 xs _ 1 (by omega) (by omega) (by omega) w8 X8.out)
    go_wp2_with fail
    refine (M8.out).mono ?_
    rintro e w9 ⟨rfl, hx9, hg9⟩
    have P9 := Lib.hid (P8.out.kept hg9 LX.out)
    have U9 := Lib.hid (U8.out.kept hg9 NE1.out)
    have G9 := Lib.hid (G8.out.kept hg9 NE2.out)
    clear hg9 hx9 P8 U8 X8 G8 M8 NE1 NE2 LX
    have E9 := Lib.hid (eqRouteS_same g0 u ys hy w9 G9.out.row U9.out.row)
    have hm9 : ¬ ((1 : Int) + 3 * (xs.length : Int) < 0) := by omega
    go_wp2_with fail
    refine (E9.out).mono ?_
    rintro e w10 ⟨rfl, hb10⟩
    have P10 := Lib.hid (P9.out.next hb10)
    have U10 := Lib.hid (U9.out.below hb10)
    have G10 := Lib.hid (G9.out.below hb10)
    clear hb10 P9 U9 G9 E9 hm9
    have LG : Hid (∀ k, g0.ownBlock = some k → w.heap.size + 1 ≤ k) := fun k hk => (G10.out.lt k hk).1
    have M10 := Lib.hid (markRouteS_any g0 ys _ 1 (by omega) (by omega) hy w10 G10.out)
    go_wp2_with fail
    refine (M10.out).mono ?_
    rintro e w11 ⟨rfl, hx11, hg11⟩
    have P11 := Lib.hid (P10.out.kept hg11 LG.out)
    have U11 := Lib.hid (U10.out.kept hg11 NE3.out)
    have G11 := Lib.hid hx11
    clear hg11 hx11 P10 U10 G10 M10 NE3 LG
    have K11 := Lib.hid (heldRouteS_any g0 ys.length 1 (by omega) (by omega) hy w11 G11.out.row)
    have hm11 : ¬ ((1 : Int) + 3 * (ys.length : Int) < 0) := by omega
    go_wp2_with fail
    refine (K11.out).mono ?_
    rintro e w12 ⟨rfl, rfl⟩
    clear K11
    go_wp2_with fail
    have KT2 : Hid (∀ X, (X.cell? ⟨w.heap.size, 0, none⟩ = some (.int .i64 ra) ∧ X.cell? ⟨w.heap.size, 1, none⟩ = some (.int .i64 rn) ∧ (AV w 30 #[.int .i64 ra, .int .i64 rn] X ∧ Below w12.heap.size w12 X)) → Calls Try.prog 10 #[.slice a xs.length cap] X fun e Y => ∃ v', e = .returned v' ∧ RowR rtRec Y v' xs ∧ Below X.heap.size X Y ∧ (Y.cell? ⟨w.heap.size, 0, none⟩ = some (.int .i64 ra) ∧ Y.cell? ⟨w.heap.size, 1, none⟩ = some (.int .i64 rn) ∧ (AV w 30 #[.int .i64 ra, .int .i64 rn] Y ∧ Below w12.heap.size w12 Y))) := fun X hX => by
      refine (TS.out X hX.2.2.1.below).mono ?_
      rintro e Y ⟨v', rfl, ho, hb⟩
      exact ⟨v', rfl, ho.row, hb, AV.with2 (hX.2.2.1.next hb) (hX.2.2.2.trans (hb.mono hX.2.2.2.size))⟩
    have KR2 : Hid (∀ X, (X.cell? ⟨w.heap.size, 0, none⟩ = some (.int .i64 ra) ∧ X.cell? ⟨w.heap.size, 1, none⟩ = some (.int .i64 rn) ∧ (AV w 30 #[.int .i64 ra, .int .i64 rn] X ∧ Below w12.heap.size w12 X)) → Calls Try.prog 19 #[.agg #[.int .i64 ra, .int .i64 rn]] X fun e Y => e = .returned (.agg #[.int .i64 ra, .int .i64 rn]) ∧ Below X.heap.size X Y ∧ (Y.cell? ⟨w.heap.size, 0, none⟩ = some (.int .i64 ra) ∧ Y.cell? ⟨w.heap.size, 1, none⟩ = some (.int .i64 rn) ∧ (AV w 30 #[.int .i64 ra, .int .i64 rn] Y ∧ Below w12.heap.size w12 Y))) := fun X hX => by
      refine (TR.out X).mono ?_
      rintro e Y ⟨rfl, hb⟩
      exact ⟨rfl, hb, AV.with2 (hX.2.2.1.next hb) (hX.2.2.2.trans (hb.mono hX.2.2.2.size))⟩
    have KI2 : Hid (∀ (v : Value) X, (X.cell? ⟨w.heap.size, 0, none⟩ = some (.int .i64 ra) ∧ X.cell? ⟨w.heap.size, 1, none⟩ = some (.int .i64 rn) ∧ (AV w 30 #[.int .i64 ra, .int .i64 rn] X ∧ Below w12.heap.size w12 X)) → RowR rtRec X v xs → Calls Try.prog 20 #[v, .agg #[.int .i64 ra, .int .i64 rn]] X fun e Y => ∃ v', e = .returned (.tuple #[v', .bool o]) ∧ OwnR rtRec Y X.heap.size RTI v' ys ∧ (Y.cell? ⟨w.heap.size, 0, none⟩ = some (.int .i64 ra) ∧ Y.cell? ⟨w.heap.size, 1, none⟩ = some (.int .i64 rn) ∧ (AV w 30 #[.int .i64 ra, .int .i64 rn] Y ∧ Below w12.heap.size w12 Y))) := fun v X hX hr => by
      refine (KI.out v X (hX.2.2.1.all2) hr).mono ?_
      rintro e Y ⟨v', rfl, ho, hb, _⟩
      exact ⟨v', rfl, ho.2, AV.with2 (hX.2.2.1.next hb) (hX.2.2.2.trans (hb.mono hX.2.2.2.size))⟩
    go_region_held3 (fun X => (X.cell? ⟨w.heap.size, 0, none⟩ = some (.int .i64 ra) ∧ X.cell? ⟨w.heap.size, 1, none⟩ = some (.int .i64 rn) ∧ (AV w 30 #[.int .i64 ra, .int .i64 rn] X ∧ Below w12.heap.size w12 X))) (first | (with_reducible assumption) | (with_reducible exact AV.with2 (AV.drew P11.out) (Below.drew (Below.refl _ _)))) (first | (go_at_call 10; refine (KT2.out _ (by assumption)).mono ?_; rintro e v1 ⟨x1, rfl, hrow, hb, hS1⟩) | (go_at_call 19; refine (KR2.out _ (by assumption)).mono ?_; rintro e v1 ⟨rfl, hb, hS1⟩; (first | (have hrow := RowR.below hrow hb) | skip)) | (go_at_call 20; refine (KI2.out _ _ (by assumption) hrow).mono ?_; rintro e v2 ⟨h0, rfl, hh, hS2⟩))
    all_goals
      have U13 := Lib.hid (U11.out.below hS2.2.2.2)
      have G13 := Lib.hid (G11.out.below hS2.2.2.2)
      have B13 := Lib.hid hS2.2.2.1.below
      have E13 := Lib.hid (eqRouteS_same h0 u ys hy _ hh.row U13.out.row)
      clear hh hS2
      go_wp2_with fail
      refine (E13.out).mono ?_
      rintro e w14 ⟨rfl, hb14⟩
      have B14 := Lib.hid (B13.out.trans (hb14.mono B13.out.size))
      have K14 := Lib.hid (heldRouteS_any g0 ys.length 1 (by omega) (by omega) hy w14 (G13.out.below hb14).row)
      clear hb14 E13 B13 U13 G13
      go_wp2_with fail
      refine (K14.out).mono ?_
      rintro e w15 ⟨rfl, rfl⟩
      go_wp2_with fail
      go_ret
      exact ⟨rfl, B14.out⟩

set_option maxRecDepth 100000 in
set_option maxHeartbeats 3200000 in
/-- The exact law on DropTo, out of one answer that both give. -/
theorem lawDropToF (L : World → Prop) (stays : ∀ X Y, L X → Below X.heap.size X Y → L Y) (a : Option Addr) (xs : List Rt) (cap : Nat) (z : Int) (ys : List Rt) (hl : xs.length ≤ 1048576) (hy : ys.length ≤ 100000000)
    (hI : ∀ (v : Value) (X : World), L X → RowR rtRec X v xs → Calls Try.prog 24 #[v, .int .i64 z] X fun e X' => ∃ v', e = .returned (v') ∧ OwnR rtRec X' X.heap.size RTI v' ys ∧ Below X.heap.size X X')
    (hS : ∀ (v : Value) (X : World), RowR rtRec X v xs → Calls Try.prog 23 #[v, .int .i64 z] X fun e X' => ∃ v', e = .returned (v') ∧ OwnR rtRec X' X.heap.size RTI v' ys ∧ Below X.heap.size X X')
    (w : World) (ht : L w) (hs : SrcR rtRec w a xs) :
    Calls Try.prog 7 #[.slice a xs.length cap, .int .i64 z] w fun e w' => e = .returned (.bool true) ∧ Below w.heap.size w w' := by
  have HT : Hid (∀ X, Below w.heap.size w X → L X) := fun X hX => stays w X ht hX
  have HSz := szRouteS_any a xs.length cap (by omega)
  rw [if_neg (by omega)] at HSz
  have H0 := Lib.hid HSz
  have hneg : ¬ ((1048576 : Int) - (xs.length : Int) < 0) := by omega
  have TS : Hid (∀ X, Below w.heap.size w X → Calls Try.prog 10 #[.slice a xs.length cap] X fun e X' => ∃ v', e = .returned v' ∧ OwnR rtRec X' X.heap.size RTI v' xs ∧ Below X.heap.size X X') := fun X hX => toRouteS_any a xs cap hl X (hs.below hX)
  have HI := Lib.hid hI
  have HS := Lib.hid hS
  have P0 := Lib.hid (Below.refl w.heap.size w)
  clear hI hS ht hs stays HSz
  go_enter Try.func7, Try.ntmps7
  go_wp2_with fail
  refine (H0.out _).mono ?_
  rintro e w1 ⟨rfl, hw1⟩
  have hw2 := hw1.symm
  subst hw2
  go_wp2_with fail
  refine (TS.out _ P0.out).mono ?_
  rintro e v1 ⟨x1, rfl, hx1, hb1⟩
  have P1 := Lib.hid (P0.out.trans (hb1.mono P0.out.size))
  have R1 := Lib.hid hx1.row
  clear hx1 hb1
  go_wp2_with fail
  refine (HS.out _ _ R1.out).mono ?_
  rintro e v2 ⟨u, rfl, hu, hb2⟩
  have U2 := Lib.hid (hu.lower P1.out.size)
  have P2 := Lib.hid (P1.out.trans (hb2.mono P1.out.size))
  clear hu hb2 P1 R1
  go_wp2_with fail
  refine (TS.out _ P2.out).mono ?_
  rintro e w3 ⟨x0, rfl, hx, hb3⟩
  have hlx := hx.lt
  have hlu := U2.out.lt
  have NE1 := Lib.hid (ne_block (fun k hk => (hlu k hk).2) (fun k hk => (hlx k hk).1))
  have LX : Hid (∀ k, x0.ownBlock = some k → w.heap.size ≤ k) := fun k hk => Nat.le_trans P2.out.size (hlx k hk).1
  have P4 := Lib.hid (P2.out.trans (hb3.mono P2.out.size))
  have U4 := Lib.hid (U2.out.below hb3)
  have X4 := Lib.hid hx
  clear hx hb3 hlu P2 U2
  go_wp2_with fail
  refine (HI.out _ _ (HT.out _ P4.out) X4.out.row).mono ?_
  rintro e w5 ⟨g0, rfl, hg, hb5⟩
  have hlg := hg.lt
  have hs4 := X4.out.lt
  have hu4 := U4.out.lt
  have NE2 := Lib.hid (ne_block2 (u := x0) (x := g0) (fun k hk => (hs4 k hk).2) (fun k hk => (hlg k hk).1))
  have NE3 := Lib.hid (ne_block (u := u) (x := g0) (fun k hk => (hu4 k hk).2) (fun k hk => (hlg k hk).1))
  have U5 := Lib.hid (U4.out.below hb5)
  have X5 := Lib.hid (X4.out.below hb5)
  have G5 := Lib.hid (hg.lower P4.out.size)
  have P5 := Lib.hid (P4.out.trans (hb5.mono P4.out.size))
  clear hg hb5 hlg hs4 hu4 P4 U4 X4 hlx
  have E5 := Lib.hid (eqRouteS_same g0 u ys hy w5 G5.out.row U5.out.row)
  go_wp2_with fail
  refine (E5.out).mono ?_
  rintro e w6 ⟨rfl, hb6⟩
  have P6 := Lib.hid (P5.out.trans (hb6.mono P5.out.size))
  have U6 := Lib.hid (U5.out.below hb6)
  have X6 := Lib.hid (X5.out.below hb6)
  have G6 := Lib.hid (G5.out.below hb6)
  clear hb6 P5 U5 X5 G5 E5
  go_wp2_with fail
  refine (TS.out _ P6.out).mono ?_
  rintro e w7 ⟨y0, rfl, hy0, hb7⟩
  have P7 := Lib.hid (P6.out.trans (hb7.mono P6.out.size))
  have U7 := Lib.hid (U6.out.below hb7)
  have X7 := Lib.hid (X6.out.below hb7)
  have G7 := Lib.hid (G6.out.below hb7)
  have E7 := Lib.hid (eqRouteS_same x0 y0 xs (by omega) w7 X7.out.row hy0.row)
  clear hb7 hy0 P6 U6 X6 G6
  go_wp2_with fail
  refine (E7.out).mono ?_
  rintro e w8 ⟨rfl, hb8⟩
  have P8 := Lib.hid (P7.out.trans (hb8.mono P7.out.size))
  have U8 := Lib.hid (U7.out.below hb8)
  have X8 := Lib.hid (X7.out.below hb8)
  have G8 := Lib.hid (G7.out.below hb8)
  clear hb8 P7 U7 X7 G7 E7
  have M8 := Lib.hid (markRouteS_any x0 xs _ 1 (by omega) (by omega) (by omega) w8 X8.out)
  go_wp2_with fail
  refine (M8.out).mono ?_
  rintro e w9 ⟨rfl, hx9, hg9⟩
  have P9 := Lib.hid (P8.out.trans (below_grown hg9 LX.out P8.out.size))
  have U9 := Lib.hid (U8.out.kept hg9 NE1.out)
  have G9 := Lib.hid (G8.out.kept hg9 NE2.out)
  clear hg9 hx9 P8 U8 X8 G8 M8 NE1 NE2 LX
  have E9 := Lib.hid (eqRouteS_same g0 u ys hy w9 G9.out.row U9.out.row)
  have hm9 : ¬ ((1 : Int) + 3 * (xs.length : Int) < 0) := by omega
  go_wp2_with fail
  refine (E9.out).mono ?_
  rintro e w10 ⟨rfl, hb10⟩
  have P10 := Lib.hid (P9.out.trans (hb10.mono P9.out.size))
  have U10 := Lib.hid (U9.out.below hb10)
  have G10 := Lib.hid (G9.out.below hb10)
  clear hb10 P9 U9 G9 E9 hm9
  have LG : Hid (∀ k, g0.ownBlock = some k → w.heap.size ≤ k) := fun k hk => (G10.out.lt k hk).1
  have M10 := Lib.hid (markRouteS_any g0 ys _ 1 (by omega) (by omega) hy w10 G10.out)
  go_wp2_with fail
  refine (M10.out).mono ?_
  rintro e w11 ⟨rfl, hx11, hg11⟩
  have P11 := Lib.hid (P10.out.trans (below_grown hg11 LG.out P10.out.size))
  have U11 := Lib.hid (U10.out.kept hg11 NE3.out)
  have G11 := Lib.hid hx11
  clear hg11 hx11 P10 U10 G10 M10 NE3 LG
  have K11 := Lib.hid (heldRouteS_any g0 ys.length 1 (by omega) (by omega) hy w11 G11.out.row)
  have hm11 : ¬ ((1 : Int) + 3 * (ys.length : Int) < 0) := by omega
  go_wp2_with fail
  refine (K11.out).mono ?_
  rintro e w12 ⟨rfl, rfl⟩
  clear K11
  go_wp2_with fail
  refine (TS.out _ P11.out).mono ?_
  rintro e v13 ⟨x1, rfl, hx13, hb13⟩
  have P13 := Lib.hid (P11.out.trans (hb13.mono P11.out.size))
  have U13 := Lib.hid (U11.out.below hb13)
  have G13 := Lib.hid (G11.out.below hb13)
  have R13 := Lib.hid hx13.row
  clear hx13 hb13 P11 U11 G11
  go_wp2_with fail
  refine (HI.out _ _ (HT.out _ P13.out) R13.out).mono ?_
  rintro e v14 ⟨h0, rfl, hh, hb14⟩
  have P14 := Lib.hid (P13.out.trans (hb14.mono P13.out.size))
  have G14 := Lib.hid (G13.out.below hb14)
  have E14 := Lib.hid (eqRouteS_same h0 u ys hy _ hh.row (U13.out.below hb14).row)
  clear hh hb14 P13 U13 G13 R13
  go_wp2_with fail
  refine (E14.out).mono ?_
  rintro e w15 ⟨rfl, hb15⟩
  have B15 := Lib.hid (P14.out.trans (hb15.mono P14.out.size))
  have K15 := Lib.hid (heldRouteS_any g0 ys.length 1 (by omega) (by omega) hy w15 (G14.out.below hb15).row)
  clear hb15 E14 P14 G14
  go_wp2_with fail
  refine (K15.out).mono ?_
  rintro e w16 ⟨rfl, rfl⟩
  go_wp2_with fail
  go_ret
  exact ⟨rfl, B15.out⟩

set_option maxRecDepth 100000 in
set_option maxHeartbeats 3200000 in
/-- The exact law on LookUp, out of one answer that both give. -/
theorem lawLookUpF (L : World → Prop) (stays : ∀ X Y, L X → Below X.heap.size X Y → L Y) (a : Option Addr) (xs : List Rt) (cap : Nat) (z : Int) (n : Int) (hl : xs.length ≤ 1048576)
    (hI : ∀ (v : Value) (X : World), L X → RowR rtRec X v xs → Calls Try.prog 22 #[v, .int .i64 z] X fun e X' => e = .returned (.int .i64 n) ∧ Below X.heap.size X X')
    (hS : ∀ (v : Value) (X : World), RowR rtRec X v xs → Calls Try.prog 21 #[v, .int .i64 z] X fun e X' => e = .returned (.int .i64 n) ∧ Below X.heap.size X X')
    (w : World) (ht : L w) (hs : SrcR rtRec w a xs) :
    Calls Try.prog 6 #[.slice a xs.length cap, .int .i64 z] w fun e w' => e = .returned (.bool true) ∧ Below w.heap.size w w' := by
  have HT : Hid (∀ X, Below w.heap.size w X → L X) := fun X hX => stays w X ht hX
  have HSz := szRouteS_any a xs.length cap (by omega)
  rw [if_neg (by omega)] at HSz
  have H0 := Lib.hid HSz
  have hneg : ¬ ((1048576 : Int) - (xs.length : Int) < 0) := by omega
  have TS : Hid (∀ X, Below w.heap.size w X → Calls Try.prog 10 #[.slice a xs.length cap] X fun e X' => ∃ v', e = .returned v' ∧ OwnR rtRec X' X.heap.size RTI v' xs ∧ Below X.heap.size X X') := fun X hX => toRouteS_any a xs cap hl X (hs.below hX)
  have HI := Lib.hid hI
  have HS := Lib.hid hS
  have P0 := Lib.hid (Below.refl w.heap.size w)
  clear hI hS ht hs stays HSz
  go_enter Try.func6, Try.ntmps6
  go_wp2_with fail
  refine (H0.out _).mono ?_
  rintro e w1 ⟨rfl, hw1⟩
  have hw2 := hw1.symm
  subst hw2
  go_wp2_with fail
  refine (TS.out _ P0.out).mono ?_
  rintro e v1 ⟨x1, rfl, hx1, hb1⟩
  have P1 := Lib.hid (P0.out.trans (hb1.mono P0.out.size))
  have R1 := Lib.hid hx1.row
  clear hx1 hb1
  go_wp2_with fail
  refine (HS.out _ _ R1.out).mono ?_
  rintro e v2 ⟨rfl, hb2⟩
  have P2 := Lib.hid (P1.out.trans (hb2.mono P1.out.size))
  clear hb2 P1 R1
  go_wp2_with fail
  refine (TS.out _ P2.out).mono ?_
  rintro e w3 ⟨x0, rfl, hx, hb3⟩
  have P4 := Lib.hid (P2.out.trans (hb3.mono P2.out.size))
  have X4 := Lib.hid hx.row
  clear hx hb3 P2
  go_wp2_with fail
  refine (HI.out _ _ (HT.out _ P4.out) X4.out).mono ?_
  rintro e w5 ⟨rfl, hb5⟩
  have X5 := Lib.hid (X4.out.below hb5)
  have P5 := Lib.hid (P4.out.trans (hb5.mono P4.out.size))
  clear hb5 P4 X4
  go_wp2_with fail
  refine (TS.out _ P5.out).mono ?_
  rintro e w7 ⟨y0, rfl, hy0, hb7⟩
  have P7 := Lib.hid (P5.out.trans (hb7.mono P5.out.size))
  have E7 := Lib.hid (eqRouteS_same x0 y0 xs (by omega) w7 (X5.out.below hb7) hy0.row)
  clear hb7 hy0 P5 X5
  go_wp2_with fail
  refine (E7.out).mono ?_
  rintro e w8 ⟨rfl, hb8⟩
  have P8 := Lib.hid (P7.out.trans (hb8.mono P7.out.size))
  clear hb8 P7 E7
  go_wp2_with fail
  go_ret
  exact ⟨rfl, P8.out⟩

set_option maxRecDepth 100000 in
set_option maxHeartbeats 3200000 in
/-- The exact law on RoutesOk, out of one answer that both give. -/
theorem lawRoutesOkF (L : World → Prop) (stays : ∀ X Y, L X → Below X.heap.size X Y → L Y) (a : Option Addr) (xs : List Rt) (cap : Nat)  (b : Bool) (hl : xs.length ≤ 1048576)
    (hI : ∀ (v : Value) (X : World), L X → RowR rtRec X v xs → Calls Try.prog 11 #[v] X fun e X' => e = .returned (.bool b) ∧ Below X.heap.size X X')
    (hS : ∀ (v : Value) (X : World), RowR rtRec X v xs → Calls Try.prog 9 #[v] X fun e X' => e = .returned (.bool b) ∧ Below X.heap.size X X')
    (w : World) (ht : L w) (hs : SrcR rtRec w a xs) :
    Calls Try.prog 3 #[.slice a xs.length cap] w fun e w' => e = .returned (.bool true) ∧ Below w.heap.size w w' := by
  have HT : Hid (∀ X, Below w.heap.size w X → L X) := fun X hX => stays w X ht hX
  have HSz := szRouteS_any a xs.length cap (by omega)
  rw [if_neg (by omega)] at HSz
  have H0 := Lib.hid HSz
  have hneg : ¬ ((1048576 : Int) - (xs.length : Int) < 0) := by omega
  have TS : Hid (∀ X, Below w.heap.size w X → Calls Try.prog 10 #[.slice a xs.length cap] X fun e X' => ∃ v', e = .returned v' ∧ OwnR rtRec X' X.heap.size RTI v' xs ∧ Below X.heap.size X X') := fun X hX => toRouteS_any a xs cap hl X (hs.below hX)
  have HI := Lib.hid hI
  have HS := Lib.hid hS
  have P0 := Lib.hid (Below.refl w.heap.size w)
  clear hI hS ht hs stays HSz
  go_enter Try.func3, Try.ntmps3
  go_wp2_with fail
  refine (H0.out _).mono ?_
  rintro e w1 ⟨rfl, hw1⟩
  have hw2 := hw1.symm
  subst hw2
  go_wp2_with fail
  refine (TS.out _ P0.out).mono ?_
  rintro e v1 ⟨x1, rfl, hx1, hb1⟩
  have P1 := Lib.hid (P0.out.trans (hb1.mono P0.out.size))
  have R1 := Lib.hid hx1.row
  clear hx1 hb1
  go_wp2_with fail
  refine (HS.out _ _ R1.out).mono ?_
  rintro e v2 ⟨rfl, hb2⟩
  have P2 := Lib.hid (P1.out.trans (hb2.mono P1.out.size))
  clear hb2 P1 R1
  go_wp2_with fail
  refine (TS.out _ P2.out).mono ?_
  rintro e w3 ⟨x0, rfl, hx, hb3⟩
  have P4 := Lib.hid (P2.out.trans (hb3.mono P2.out.size))
  have X4 := Lib.hid hx.row
  clear hx hb3 P2
  go_wp2_with fail
  refine (HI.out _ _ (HT.out _ P4.out) X4.out).mono ?_
  rintro e w5 ⟨rfl, hb5⟩
  have X5 := Lib.hid (X4.out.below hb5)
  have P5 := Lib.hid (P4.out.trans (hb5.mono P4.out.size))
  clear hb5 P4 X4
  go_wp2_with fail
  refine (TS.out _ P5.out).mono ?_
  rintro e w7 ⟨y0, rfl, hy0, hb7⟩
  have P7 := Lib.hid (P5.out.trans (hb7.mono P5.out.size))
  have E7 := Lib.hid (eqRouteS_same x0 y0 xs (by omega) w7 (X5.out.below hb7) hy0.row)
  clear hb7 hy0 P5 X5
  go_wp2_with fail
  refine (E7.out).mono ?_
  rintro e w8 ⟨rfl, hb8⟩
  have P8 := Lib.hid (P7.out.trans (hb8.mono P7.out.size))
  clear hb8 P7 E7
  go_wp2_with fail
  go_ret
  exact ⟨rfl, P8.out⟩

set_option maxRecDepth 100000 in
set_option maxHeartbeats 3200000 in
theorem lawPutRoute_big (a : Option Addr) (len cap : Nat) (ra rn rt : Int) (h : 1048576 < len) (hl : len ≤ 9223372036854775807) (w : World) :
    Calls Try.prog 4 #[.slice a len cap, .agg #[.int .i64 ra, .int .i64 rn, .int .i64 rt]] w fun e w' => e = .returned (.bool true) ∧ Below w.heap.size w w' := by
  have HSz := szRouteS_any a len cap hl
  rw [if_pos h] at HSz
  have H0 := Lib.hid HSz
  clear HSz
  go_enter Try.func4, Try.ntmps4
  go_wp2_with fail
  refine (H0.out _).mono ?_
  rintro e w1 ⟨rfl, rfl⟩
  go_wp2_with fail
  go_ret
  exact ⟨rfl, (Below.refl _ _).alloc (Nat.le_refl _) _⟩

set_option maxRecDepth 100000 in
set_option maxHeartbeats 3200000 in
theorem lawDropRoute_big (a : Option Addr) (len cap : Nat) (ra rn : Int) (h : 1048576 < len) (hl : len ≤ 9223372036854775807) (w : World) :
    Calls Try.prog 5 #[.slice a len cap, .agg #[.int .i64 ra, .int .i64 rn]] w fun e w' => e = .returned (.bool true) ∧ Below w.heap.size w w' := by
  have HSz := szRouteS_any a len cap hl
  rw [if_pos h] at HSz
  have H0 := Lib.hid HSz
  clear HSz
  go_enter Try.func5, Try.ntmps5
  go_wp2_with fail
  refine (H0.out _).mono ?_
  rintro e w1 ⟨rfl, rfl⟩
  go_wp2_with fail
  go_ret
  exact ⟨rfl, (Below.refl _ _).alloc (Nat.le_refl _) _⟩

set_option maxRecDepth 100000 in
set_option maxHeartbeats 3200000 in
theorem lawDropTo_big (a : Option Addr) (len cap : Nat) (z : Int) (h : 1048576 < len) (hl : len ≤ 9223372036854775807) (w : World) :
    Calls Try.prog 7 #[.slice a len cap, .int .i64 z] w fun e w' => e = .returned (.bool true) ∧ Below w.heap.size w w' := by
  have HSz := szRouteS_any a len cap hl
  rw [if_pos h] at HSz
  have H0 := Lib.hid HSz
  clear HSz
  go_enter Try.func7, Try.ntmps7
  go_wp2_with fail
  refine (H0.out _).mono ?_
  rintro e w1 ⟨rfl, rfl⟩
  go_wp2_with fail
  go_ret
  exact ⟨rfl, Below.refl _ _⟩

set_option maxRecDepth 100000 in
set_option maxHeartbeats 3200000 in
theorem lawLookUp_big (a : Option Addr) (len cap : Nat) (z : Int) (h : 1048576 < len) (hl : len ≤ 9223372036854775807) (w : World) :
    Calls Try.prog 6 #[.slice a len cap, .int .i64 z] w fun e w' => e = .returned (.bool true) ∧ Below w.heap.size w w' := by
  have HSz := szRouteS_any a len cap hl
  rw [if_pos h] at HSz
  have H0 := Lib.hid HSz
  clear HSz
  go_enter Try.func6, Try.ntmps6
  go_wp2_with fail
  refine (H0.out _).mono ?_
  rintro e w1 ⟨rfl, rfl⟩
  go_wp2_with fail
  go_ret
  exact ⟨rfl, Below.refl _ _⟩

set_option maxRecDepth 100000 in
set_option maxHeartbeats 3200000 in
theorem lawRoutesOk_big (a : Option Addr) (len cap : Nat)  (h : 1048576 < len) (hl : len ≤ 9223372036854775807) (w : World) :
    Calls Try.prog 3 #[.slice a len cap] w fun e w' => e = .returned (.bool true) ∧ Below w.heap.size w w' := by
  have HSz := szRouteS_any a len cap hl
  rw [if_pos h] at HSz
  have H0 := Lib.hid HSz
  clear HSz
  go_enter Try.func3, Try.ntmps3
  go_wp2_with fail
  refine (H0.out _).mono ?_
  rintro e w1 ⟨rfl, rfl⟩
  go_wp2_with fail
  go_ret
  exact ⟨rfl, Below.refl _ _⟩


end Go.Proofs.Ytpcdmfimjnhejao

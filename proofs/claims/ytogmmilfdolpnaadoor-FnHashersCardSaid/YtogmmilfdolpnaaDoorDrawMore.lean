/-
  A hasher and a text that are drawn.
-/
import Derived.Test.YtogmmilfdolpnaaDoorDrawHasher
namespace Go.Proofs.YtogmmilfdolpnaaDoor
open Go.RowKit

/-- The result's variable, a hasher's, the cursor; of what was there nothing is written. -/
structure HY (w : World) (c : Nat) (a : Option Addr) (len cap q : Nat) (t : TypeId) (x y z : Value) (X : World) : Prop where
  res : VarT w.heap.size t (.string ⟨#[]⟩) (.string ⟨#[]⟩) (.int .i64 0) X
  h : VarT q t x y z X
  cur : Cur c a len cap X
  below : Below w.heap.size w X
  cw : w.heap.size < c
  qw : c < q
theorem HY.next {w : World} {c : Nat} {a : Option Addr} {len cap q : Nat} {t : TypeId} {x y z : Value} {X Y : World} (h : HY w c a len cap q t x y z X) (hb : Below X.heap.size X Y) : HY w c a len cap q t x y z Y :=
  ⟨h.res.next hb, h.h.next hb, h.cur.below hb, h.below.trans (hb.mono h.below.size), h.cw, h.qw⟩
theorem HY.drew {w : World} {c : Nat} {a : Option Addr} {len cap q : Nat} {t : TypeId} {x y z : Value} {X : World} (h : HY w c a len cap q t x y z X) : HY w c a len cap q t x y z X.drew := h.next ((Below.refl _ _).drew)
theorem HY.draw {w : World} {c : Nat} {a : Option Addr} {len cap q : Nat} {t : TypeId} {x y z : Value} {X Y : World} (h : HY w c a len cap q t x y z X) (hc : Cur c a len cap Y) (ho : Only c X Y) : HY w c a len cap q t x y z Y := by
  have h1 := h.cw
  have h2 := h.qw
  exact ⟨h.res.only ho (by omega), h.h.only ho (by omega), hc, h.below.trans (ho.below (by omega) h.below.size), h1, h2⟩
theorem HY.put {w : World} {c : Nat} {a : Option Addr} {len cap q : Nat} {t : TypeId} {x y z x' y' z' : Value} {X Y : World} (h : HY w c a len cap q t x y z X) (hv : VarT q t x' y' z' Y) (ho : Only q X Y) : HY w c a len cap q t x' y' z' Y := by
  have h1 := h.cw
  have h2 := h.qw
  have hs : q ≤ X.heap.size := Nat.le_of_lt (lt_of_block h.h.row)
  exact ⟨h.res.only ho (by omega), hv, h.cur.kept (ho.below (Nat.le_refl _) hs) h2, h.below.trans (ho.below (by omega) h.below.size), h1, h2⟩
theorem HY.end {w : World} {c : Nat} {a : Option Addr} {len cap q : Nat} {t : TypeId} {x y z : Value} {X : World} (h : HY w c a len cap q t x y z X) (x' y' z' : Value) :
    Below w.heap.size w (((X.setCell ⟨w.heap.size, 0, none⟩ x').setCell ⟨w.heap.size, 1, none⟩ y').setCell ⟨w.heap.size, 2, none⟩ z') :=
  h.below.trans ((Only.set3 X w.heap.size x' y' z').below (Nat.le_refl _) h.below.size)

set_option maxRecDepth 100000 in
set_option maxHeartbeats 4000000 in
theorem drawHashMore_any (a : Option Addr) (len cap : Nat) (w : World) (H : Src a len w) :
    Calls Tryd.prog 32 #[.slice a len cap] w fun e w' => ∃ (st rest : ByteArray) (n : Int) (s : ByteArray), st.size ≤ 1000 ∧ rest.size ≤ 1000 ∧ (-2000000000 ≤ n ∧ n ≤ 2000000000) ∧ s.size ≤ 200 ∧ e = .returned (.tuple #[.agg #[.string st, .string rest, .int .i64 n], .string s]) ∧ Below w.heap.size w w' := by
  have V0 := Lib.hid (VarT.new w 42 (.string ⟨#[]⟩) (.string ⟨#[]⟩) (.int .i64 0))
  have B0 := Lib.hid ((Below.refl w.heap.size w).alloc (Nat.le_refl _) (.cells #[.string ⟨#[]⟩, .string ⟨#[]⟩, .int .i64 0] 42))
  have HS := Lib.hid (H.below B0.out)
  clear H
  go_enter Tryd.func32, Tryd.ntmps32
  go_wp2_with fail
  refine (new_any a len cap _ HS.out).mono ?_
  rintro e w1 ⟨c, rfl, hc, hcur, hb⟩
  have V1 := Lib.hid (V0.out.next hb)
  have B1 := Lib.hid (B0.out.trans (hb.mono B0.out.size))
  have HC1 := Lib.hid hcur
  have hcw : w.heap.size < c := by have h2 : (w.alloc (.cells #[.string ⟨#[]⟩, .string ⟨#[]⟩, .int .i64 0] 42)).heap.size = w.heap.size + 1 := by simp
                                   omega
  clear hcur hb hc HS V0 B0
  go_wp2_with fail
  refine (hasher_any _ HC1.out).mono ?_
  rintro e w2 ⟨st, rest, n, hs1, hs2, hs3, rfl, hc2, ho2⟩
  have hcl : c < w2.heap.size := cell_size (p := ⟨c, 0, none⟩) hc2.c0
  have Y2 : Hid (HY w c a len cap w2.heap.size 42 (.string st) (.string rest) (.int .i64 n) (w2.alloc (.cells #[.string st, .string rest, .int .i64 n] 42))) :=
    ⟨(V1.out.only ho2 (by omega)).next ((Below.refl _ _).alloc (Nat.le_refl _) _), VarT.new w2 _ _ _ _, hc2.below ((Below.refl _ _).alloc (Nat.le_refl _) _), (B1.out.trans (ho2.below (by omega) B1.out.size)).alloc (Nat.le_trans B1.out.size ho2.size) _, hcw, hcl⟩
  obtain ⟨q, HQ⟩ : ∃ q, Hid (q = w2.heap.size) := ⟨_, rfl⟩
  rw [← HQ.out] at Y2
  have hq : w2.heap.size = q := HQ.out.symm
  have HSZ := Lib.hid (And.intro hs1 (And.intro hs2 hs3))
  clear hc2 ho2 V1 B1 HC1 hs1 hs2 hs3
  go_wp2_with fail
  refine (once_any 12 (by omega) (by omega) _ Y2.out.cur).mono ?_
  rintro e w3 ⟨b, rfl, hc3, ho3⟩
  have Y3 := Lib.hid (Y2.out.draw hc3 ho3)
  clear hc3 ho3 Y2
  cases b with
  | true =>
    have H5 := Lib.hid (long_any 32 (by omega) 9)
    have H6 := Lib.hid (long_any 61 (by omega) 1)
    go_wp2_with fail
    refine (H5.out _).mono ?_
    rintro e w4 ⟨l4, hl4, rfl, hb4⟩
    obtain ⟨A, hA, AA⟩ : ∃ A : ByteArray, A.size = 32 ∧ Hid (A = ⟨l4.toArray⟩) := ⟨_, by show l4.toArray.size = 32; simpa using hl4, rfl⟩
    rw [← AA.out]
    have Y4 := Lib.hid (Y3.out.next hb4)
    clear hb4 hl4 Y3
    go_wp2_with fail
    refine (H6.out _).mono ?_
    rintro e w5 ⟨l5, hl5, rfl, hb5⟩
    obtain ⟨B, hB, BB⟩ : ∃ A : ByteArray, A.size = 61 ∧ Hid (A = ⟨l5.toArray⟩) := ⟨_, by show l5.toArray.size = 61; simpa using hl5, rfl⟩
    rw [← BB.out]
    have hY5 := Y4.out.next hb5
    have g0 := hY5.h.c0
    have g1 := hY5.h.c1
    have g2 := hY5.h.c2
    have f0 := hY5.h.free 0
    have f1 := hY5.h.free 1
    have f2 := hY5.h.free 2
    have hY6 := hY5.put (hY5.h.set3 (.string A) (.string B) (.int .i64 999999997)) (Only.set3 w5 q _ _ _)
    have Y6 := Lib.hid hY6
    have c0 := hY6.h.c0
    have c1 := hY6.h.c1
    have c2 := hY6.h.c2
    have H4 := Lib.hid (hashText_any _ hY6.drew.cur)
    clear hb5 hl5 Y4 hY5 hY6
    go_wp2_with fail
    go_region_with (first | (go_at_call 55; refine (H4.out).mono ?_; rintro e x1 ⟨t, ht, rfl, hcT, hoT⟩; have hY7 := Y6.out.drew.draw hcT hoT; have d0 := hY7.h.c0; have d1 := hY7.h.c1; have d2 := hY7.h.c2; have v0 := hY7.res.c0; have v1 := hY7.res.c1; have v2 := hY7.res.c2; have b0 := hY7.res.free 0; have b1 := hY7.res.free 1; have b2 := hY7.res.free 2; have V9 := Lib.hid (hY7.res.set3 (.string A) (.string B) (.int .i64 999999997)); have E9 := Lib.hid (hY7.end (.string A) (.string B) (.int .i64 999999997)); have HT := Lib.hid ht))
    all_goals
      go_wp2_with fail
      have e0 := V9.out.c0
      have e1 := V9.out.c1
      have e2 := V9.out.c2
      exact bodyPost_ret (v := .tuple #[.agg #[.string A, .string B, .int .i64 999999997], .string t]) (by simp [results, Tryd.results32, go_sem, e0, e1, e2]) rfl ⟨_, _, _, t, by omega, by omega, by omega, HT.out, rfl, E9.out⟩
  | false =>
    have c0 := Y3.out.h.c0
    have c1 := Y3.out.h.c1
    have c2 := Y3.out.h.c2
    have H4 := Lib.hid (hashText_any _ Y3.out.drew.cur)
    go_wp2_with fail
    go_region_with (first | (go_at_call 55; refine (H4.out).mono ?_; rintro e x1 ⟨t, ht, rfl, hcT, hoT⟩; have hY7 := Y3.out.drew.draw hcT hoT; have d0 := hY7.h.c0; have d1 := hY7.h.c1; have d2 := hY7.h.c2; have v0 := hY7.res.c0; have v1 := hY7.res.c1; have v2 := hY7.res.c2; have b0 := hY7.res.free 0; have b1 := hY7.res.free 1; have b2 := hY7.res.free 2; have V9 := Lib.hid (hY7.res.set3 (.string st) (.string rest) (.int .i64 n)); have E9 := Lib.hid (hY7.end (.string st) (.string rest) (.int .i64 n)); have HT := Lib.hid ht))
    all_goals
      go_wp2_with fail
      have e0 := V9.out.c0
      have e1 := V9.out.c1
      have e2 := V9.out.c2
      exact bodyPost_ret (v := .tuple #[.agg #[.string st, .string rest, .int .i64 n], .string t]) (by simp [results, Tryd.results32, go_sem, e0, e1, e2]) rfl ⟨st, rest, n, t, HSZ.out.1, HSZ.out.2.1, HSZ.out.2.2, HT.out, rfl, E9.out⟩

end Go.Proofs.YtogmmilfdolpnaaDoor

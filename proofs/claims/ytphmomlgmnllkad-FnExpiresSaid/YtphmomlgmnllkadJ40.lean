/-
  The program's pools as contracts; a drawn pool.
-/
import Derived.Test.YtphmomlgmnllkadJ20
import Derived.Test.YtphmomlgmnllkadJ38
import Derived.Test.YtphmomlgmnllkadJ39
import Derived.Test.YtphmomlgmnllkadJ36
import Derived.Test.YtphmomlgmnllkadJ27
namespace Go.Proofs.Ytphmomlgmnllkad
open Go.RowKit

/-- Those of the law on what is over. -/
structure OverFns (L : World → Prop) : Prop where
  stays : ∀ X Y, L X → Below X.heap.size X Y → L Y
  ok : ∀ (pa pn : Int) (lv fv : Value) (ls : List Ls) (fs : List Fx), ls.length ≤ 2000000 → fs.length ≤ 2000000 → ∀ X, L X → PoolR X lv fv ls fs → Calls Try.prog 8 #[.agg #[.int .i64 pa, .int .i64 pn, lv, fv]] X fun e X' => PoolTold pa pn ls fs e ∧ Below X.heap.size X X'
  holder : ∀ (pa pn : Int) (lv fv : Value) (ls : List Ls) (fs : List Fx) (a : Int), ls.length ≤ 2000000 → ∀ X, L X → PoolR X lv fv ls fs → Calls Try.prog 10 #[.agg #[.int .i64 pa, .int .i64 pn, lv, fv], .int .i64 a] X fun e X' => e = .returned (.int .i64 (holderP ls a)) ∧ Below X.heap.size X X'
  expire : ∀ (pa pn : Int) (lv fv : Value) (ls : List Ls) (fs : List Fx) (now : Int), ls.length ≤ 100000 → fs.length ≤ 2000000 → ls.Pairwise (fun x y => x.1 < y.1) → ∀ X, L X → PoolR X lv fv ls fs → Calls Try.prog 7 #[.agg #[.int .i64 pa, .int .i64 pn, lv, fv], .int .i64 now] X fun e X' => ∃ (lu fu gv : Value), e = .returned (.tuple #[.agg #[.int .i64 pa, .int .i64 pn, lu, fu], gv]) ∧ (∃ f, layIntS.own X' X.heap.size f [gv] (goneP now ls)) ∧ PoolOut X lu fu (keptP now ls) fs X'

set_option maxRecDepth 100000 in
theorem drawPool_any (a : Option Addr) (len cap : Nat) (w : World) (H : Src a len w) :
    Calls Try.prog 5 #[.slice a len cap] w fun e w' => ∃ (pa pn : Int) (lv fv : Value) (ls : List Ls) (fs : List Fx), PoolOkP pa pn ls fs ∧ e = .returned (.agg #[.int .i64 pa, .int .i64 pn, lv, fv]) ∧ PoolOut w lv fv ls fs w' := by
  have HS := Lib.hid H
  have A0 := Lib.hid (VarA.new w PoolT #[.int .i64 0, .int .i64 0, .slice none 0 0, .slice none 0 0])
  have B0 := Lib.hid ((Below.refl w.heap.size w).alloc (Nat.le_refl _) (.cells #[.int .i64 0, .int .i64 0, .slice none 0 0, .slice none 0 0] PoolT))
  clear H
  go_enter Try.func5, Try.ntmps5
  go_upto_region 1 with fail
  generalize w.alloc (.cells #[.int .i64 0, .int .i64 0, .slice none 0 0, .slice none 0 0] PoolT) = Y0 at *
  go_wp2_with fail
  refine (new_any a len cap _ (HS.out.below B0.out)).mono ?_
  rintro e w1 ⟨c, rfl, hc, hcur, hb⟩
  have A1 := Lib.hid (A0.out.next hb)
  have B1 := Lib.hid (B0.out.trans (hb.mono B0.out.size))
  have hyc := A0.out.lt
  clear hb A0 B0
  go_wp2_with fail
  refine (pool_any _ hcur).mono ?_
  rintro e w2 ⟨pa, pn, lv, fv, ls, fs, hP, rfl, ⟨f, hl⟩, ⟨k, hf⟩, _, ho⟩
  obtain ⟨la, lc, rfl⟩ := rows_form (layLeaseS.read hl)
  obtain ⟨fa, fc, rfl⟩ := rows_form (layFixedS.read hf)
  have hs1 := B1.out.size
  have hs0 := A1.out.lt
  have B2 := Lib.hid (B1.out.trans (ho.below (B := w.heap.size) (by omega) hs1))
  have A2 := A1.out.only ho (by omega)
  have C4 := chg_four w2 w.heap.size (.int .i64 pa) (.int .i64 pn) (.slice la ls.length lc) (.slice fa fs.length fc)
  have k1 := row_off flatLease hl A2 (by decide)
  have k2 := row_off flatFixed hf A2 (by decide)
  have FIN : Hid (PoolOut w (.slice la ls.length lc) (.slice fa fs.length fc) ls fs ((((w2.setCell ⟨w.heap.size, 0, none⟩ (.int .i64 pa)).setCell ⟨w.heap.size, 1, none⟩ (.int .i64 pn)).setCell ⟨w.heap.size, 2, none⟩ (.slice la ls.length lc)).setCell ⟨w.heap.size, 3, none⟩ (.slice fa fs.length fc))) :=
    ⟨⟨f, layLeaseS.lower (layLeaseS.chg hl C4 (fun g hg hg2 => by rw [List.mem_singleton] at hg2; subst hg2; exact k1 hg)) hs1⟩, ⟨k, layFixedS.lower (layFixedS.chg hf C4 (fun g hg hg2 => by rw [List.mem_singleton] at hg2; subst hg2; exact k2 hg)) hs1⟩, B2.out.trans (C4.below (fun g hg => by rw [List.mem_singleton] at hg; omega) B2.out.size)⟩
  have R4 := set_four A2 (p := .int .i64 pa) (q := .int .i64 pn) (r := .slice la ls.length lc) (s := .slice fa fs.length fc)
  have j0 := R4.cell 0
  have j1 := R4.cell 1
  have j2 := R4.cell 2
  have j3 := R4.cell 3
  have q0 : w2.cell? ⟨w.heap.size, 0, none⟩ = some (.int .i64 0) := A2.cell 0
  have q1 : w2.cell? ⟨w.heap.size, 1, none⟩ = some (.int .i64 0) := A2.cell 1
  have q2 : w2.cell? ⟨w.heap.size, 2, none⟩ = some (.slice none 0 0) := A2.cell 2
  have q3 : w2.cell? ⟨w.heap.size, 3, none⟩ = some (.slice none 0 0) := A2.cell 3
  have g0 := A2.free 0
  have g1 := A2.free 1
  have g2 := A2.free 2
  have g3 := A2.free 3
  clear R4 A2 C4 hl hf ho k1 k2
  go_wp2_with fail
  exact bodyPost_ret (v := .agg #[.int .i64 pa, .int .i64 pn, .slice la ls.length lc, .slice fa fs.length fc]) (by simp [results, Try.results5, go_sem, j0, j1, j2, j3]) rfl ⟨pa, pn, _, _, ls, fs, hP, rfl, FIN.out⟩

end Go.Proofs.Ytphmomlgmnllkad

/-
  The given StepBoth.
  The given expansions.
  Plain mathematics of chapter 1's numbers in bytes: 'var n' is the text of a number, seven bits a byte, the lowest first; no program is spoken of here.
-/
import Derived.Test.YtpfkokjbpfaafaeDoorJ15
import Derived.Test.YtpfkokjbpfaafaeDoorJ24
import Derived.WalkKit
namespace Go.Proofs.YtpfkokjbpfaafaeDoor
open Go.RowKit

set_option maxRecDepth 100000 in
set_option maxHeartbeats 3200000 in
theorem specStepBoth_any (x0 : Int) (x1 x2 : ByteArray) (x3 : Int) (v4 : Value) (r4 : List Int) (x5 : Int) (y0 : Int) (y1 y2 : ByteArray) (y3 : Int) (u4 : Value) (s4 : List Int) (y5 : Int) (now : Int) (l1 : x1.size ≤ 1048576) (l2 : x2.size ≤ 1048576) (hl : r4.length ≤ 10000000) (hk : s4.length ≤ 10000000) (w : World) (h : layIntS.rd w [v4] r4) (k : layIntS.rd w [u4] s4) :
    Calls Tryd.prog 31 #[.agg #[.int .i64 x0, .string x1, .string x2, .int .i64 x3, v4, .int .i64 x5, .int .i64 y0, .string y1, .string y2, .int .i64 y3, u4, .int .i64 y5], .int .i64 now] w (InstallEnd x0 x1 x2 x3 r4 x5 y0 y1 y2 y3 s4 y5 (nextK x1) (nextK x2) now w) := by
  obtain ⟨a4, p4, rfl⟩ := rows_form h
  obtain ⟨b4, q4, rfl⟩ := rows_form k
  have e1 : (w.alloc (.cells #[.int .i64 x0, .string x1, .string x2, .int .i64 x3, .slice a4 r4.length p4, .int .i64 x5, .int .i64 y0, .string y1, .string y2, .int .i64 y3, .slice b4 s4.length q4, .int .i64 y5] SlotsT)).heap.size = w.heap.size + 1 := by simp
  have h2 := VarA.new (w.alloc (.cells #[.int .i64 x0, .string x1, .string x2, .int .i64 x3, .slice a4 r4.length p4, .int .i64 x5, .int .i64 y0, .string y1, .string y2, .int .i64 y3, .slice b4 s4.length q4, .int .i64 y5] SlotsT)) SlotsT #[.int .i64 0, .string ⟨#[]⟩, .string ⟨#[]⟩, .int .i64 0, .slice none 0 0, .int .i64 0, .int .i64 0, .string ⟨#[]⟩, .string ⟨#[]⟩, .int .i64 0, .slice none 0 0, .int .i64 0]
  rw [e1] at h2
  have A0 := Lib.hid ((VarA.new w SlotsT #[.int .i64 x0, .string x1, .string x2, .int .i64 x3, .slice a4 r4.length p4, .int .i64 x5, .int .i64 y0, .string y1, .string y2, .int .i64 y3, .slice b4 s4.length q4, .int .i64 y5]).alloc (.cells #[.int .i64 0, .string ⟨#[]⟩, .string ⟨#[]⟩, .int .i64 0, .slice none 0 0, .int .i64 0, .int .i64 0, .string ⟨#[]⟩, .string ⟨#[]⟩, .int .i64 0, .slice none 0 0, .int .i64 0] SlotsT))
  have A1 := Lib.hid h2
  have BY := Lib.hid (((Below.refl w.heap.size w).alloc (Nat.le_refl _) (.cells #[.int .i64 x0, .string x1, .string x2, .int .i64 x3, .slice a4 r4.length p4, .int .i64 x5, .int .i64 y0, .string y1, .string y2, .int .i64 y3, .slice b4 s4.length q4, .int .i64 y5] SlotsT)).alloc (by simp) (.cells #[.int .i64 0, .string ⟨#[]⟩, .string ⟨#[]⟩, .int .i64 0, .slice none 0 0, .int .i64 0, .int .i64 0, .string ⟨#[]⟩, .string ⟨#[]⟩, .int .i64 0, .slice none 0 0, .int .i64 0] SlotsT))
  have hz : Hid (w.heap.size + 2 ≤ ((w.alloc (.cells #[.int .i64 x0, .string x1, .string x2, .int .i64 x3, .slice a4 r4.length p4, .int .i64 x5, .int .i64 y0, .string y1, .string y2, .int .i64 y3, .slice b4 s4.length q4, .int .i64 y5] SlotsT)).alloc (.cells #[.int .i64 0, .string ⟨#[]⟩, .string ⟨#[]⟩, .int .i64 0, .slice none 0 0, .int .i64 0, .int .i64 0, .string ⟨#[]⟩, .string ⟨#[]⟩, .int .i64 0, .slice none 0 0, .int .i64 0] SlotsT)).heap.size) := Lib.hid (by simp)
  have HR := Lib.hid h
  have HK := Lib.hid k
  have HN := Lib.hid (specNextKeys_any x1 x2 (by omega) (by omega))
  clear h k h2 e1
  obtain ⟨Q, HQ⟩ : ∃ Q : Ending → World → Prop, Hid (Q = InstallEnd x0 x1 x2 x3 r4 x5 y0 y1 y2 y3 s4 y5 (nextK x1) (nextK x2) now w) := ⟨_, Lib.hid rfl⟩
  rw [← HQ.out]
  obtain ⟨na, NA⟩ : ∃ n, Hid (nextK x1 = n) := ⟨_, Lib.hid rfl⟩
  obtain ⟨nb, NB⟩ : ∃ n, Hid (nextK x2 = n) := ⟨_, Lib.hid rfl⟩
  rw [NA.out, NB.out] at HN
  go_enter Tryd.func31, Tryd.ntmps31
  go_upto_region 1 with fail
  generalize ((w.alloc (.cells #[.int .i64 x0, .string x1, .string x2, .int .i64 x3, .slice a4 r4.length p4, .int .i64 x5, .int .i64 y0, .string y1, .string y2, .int .i64 y3, .slice b4 s4.length q4, .int .i64 y5] SlotsT)).alloc (.cells #[.int .i64 0, .string ⟨#[]⟩, .string ⟨#[]⟩, .int .i64 0, .slice none 0 0, .int .i64 0, .int .i64 0, .string ⟨#[]⟩, .string ⟨#[]⟩, .int .i64 0, .slice none 0 0, .int .i64 0] SlotsT)) = Y at *
  have c0 : Y.cell? ⟨w.heap.size, 0, none⟩ = some (.int .i64 x0) := A0.out.cell 0
  have c1 : Y.cell? ⟨w.heap.size, 1, none⟩ = some (.string x1) := A0.out.cell 1
  have c2 : Y.cell? ⟨w.heap.size, 2, none⟩ = some (.string x2) := A0.out.cell 2
  have c3 : Y.cell? ⟨w.heap.size, 3, none⟩ = some (.int .i64 x3) := A0.out.cell 3
  have c4 : Y.cell? ⟨w.heap.size, 4, none⟩ = some (.slice a4 r4.length p4) := A0.out.cell 4
  have c5 : Y.cell? ⟨w.heap.size, 5, none⟩ = some (.int .i64 x5) := A0.out.cell 5
  have c6 : Y.cell? ⟨w.heap.size, 6, none⟩ = some (.int .i64 y0) := A0.out.cell 6
  have c7 : Y.cell? ⟨w.heap.size, 7, none⟩ = some (.string y1) := A0.out.cell 7
  have c8 : Y.cell? ⟨w.heap.size, 8, none⟩ = some (.string y2) := A0.out.cell 8
  have c9 : Y.cell? ⟨w.heap.size, 9, none⟩ = some (.int .i64 y3) := A0.out.cell 9
  have c10 : Y.cell? ⟨w.heap.size, 10, none⟩ = some (.slice b4 s4.length q4) := A0.out.cell 10
  have c11 : Y.cell? ⟨w.heap.size, 11, none⟩ = some (.int .i64 y5) := A0.out.cell 11
  go_wp2_with fail
  refine (HN.out Y).mono ?_
  rintro e Y1 ⟨rfl, hb⟩
  replace A0 := Lib.hid (A0.out.next hb)
  replace A1 := Lib.hid (A1.out.next hb)
  replace hz := Lib.hid (Nat.le_trans hz.out hb.size)
  replace BY := Lib.hid (BY.out.trans (hb.mono BY.out.size))
  clear hb HN c0 c1 c2 c3 c4 c5 c6 c7 c8 c9 c10 c11
  have c0 : Y1.cell? ⟨w.heap.size, 0, none⟩ = some (.int .i64 x0) := A0.out.cell 0
  have c1 : Y1.cell? ⟨w.heap.size, 1, none⟩ = some (.string x1) := A0.out.cell 1
  have c2 : Y1.cell? ⟨w.heap.size, 2, none⟩ = some (.string x2) := A0.out.cell 2
  have c3 : Y1.cell? ⟨w.heap.size, 3, none⟩ = some (.int .i64 x3) := A0.out.cell 3
  have c4 : Y1.cell? ⟨w.heap.size, 4, none⟩ = some (.slice a4 r4.length p4) := A0.out.cell 4
  have c5 : Y1.cell? ⟨w.heap.size, 5, none⟩ = some (.int .i64 x5) := A0.out.cell 5
  have c6 : Y1.cell? ⟨w.heap.size, 6, none⟩ = some (.int .i64 y0) := A0.out.cell 6
  have c7 : Y1.cell? ⟨w.heap.size, 7, none⟩ = some (.string y1) := A0.out.cell 7
  have c8 : Y1.cell? ⟨w.heap.size, 8, none⟩ = some (.string y2) := A0.out.cell 8
  have c9 : Y1.cell? ⟨w.heap.size, 9, none⟩ = some (.int .i64 y3) := A0.out.cell 9
  have c10 : Y1.cell? ⟨w.heap.size, 10, none⟩ = some (.slice b4 s4.length q4) := A0.out.cell 10
  have c11 : Y1.cell? ⟨w.heap.size, 11, none⟩ = some (.int .i64 y5) := A0.out.cell 11
  have K := Lib.hid (specInstall_any x0 x1 x2 x3 _ r4 x5 y0 y1 y2 y3 _ s4 y5 na nb now hl hk Y1 (layIntS.below HR.out BY.out) (layIntS.below HK.out BY.out))
  go_wp2_with fail
  refine (K.out).mono ?_
  rintro e Y2 ⟨z0, z1, z2, z3, t4, z5, n0, n1, n2, n3, o4, n5, ok, v5, u5, f, g, hc, rfl, hd, o1, o2, hb⟩
  obtain ⟨ma, mk, rfl⟩ := rows_form (layIntS.read o1)
  obtain ⟨la, lk, rfl⟩ := rows_form (layIntS.read o2)
  have HC := Lib.hid hc
  have ND := Lib.hid hd
  have O1 := Lib.hid o1
  have O2 := Lib.hid o2
  replace A1 := Lib.hid (A1.out.next hb)
  replace BY := Lib.hid (BY.out.trans (hb.mono BY.out.size))
  clear hb K hc hd o1 o2 A0 c0 c1 c2 c3 c4 c5 c6 c7 c8 c9 c10 c11
  have d0 : Y2.cell? ⟨w.heap.size + 1, 0, none⟩ = some (.int .i64 0) := A1.out.cell 0
  have d1 : Y2.cell? ⟨w.heap.size + 1, 1, none⟩ = some (.string ⟨#[]⟩) := A1.out.cell 1
  have d2 : Y2.cell? ⟨w.heap.size + 1, 2, none⟩ = some (.string ⟨#[]⟩) := A1.out.cell 2
  have d3 : Y2.cell? ⟨w.heap.size + 1, 3, none⟩ = some (.int .i64 0) := A1.out.cell 3
  have d4 : Y2.cell? ⟨w.heap.size + 1, 4, none⟩ = some (.slice none 0 0) := A1.out.cell 4
  have d5 : Y2.cell? ⟨w.heap.size + 1, 5, none⟩ = some (.int .i64 0) := A1.out.cell 5
  have d6 : Y2.cell? ⟨w.heap.size + 1, 6, none⟩ = some (.int .i64 0) := A1.out.cell 6
  have d7 : Y2.cell? ⟨w.heap.size + 1, 7, none⟩ = some (.string ⟨#[]⟩) := A1.out.cell 7
  have d8 : Y2.cell? ⟨w.heap.size + 1, 8, none⟩ = some (.string ⟨#[]⟩) := A1.out.cell 8
  have d9 : Y2.cell? ⟨w.heap.size + 1, 9, none⟩ = some (.int .i64 0) := A1.out.cell 9
  have d10 : Y2.cell? ⟨w.heap.size + 1, 10, none⟩ = some (.slice none 0 0) := A1.out.cell 10
  have d11 : Y2.cell? ⟨w.heap.size + 1, 11, none⟩ = some (.int .i64 0) := A1.out.cell 11
  have g0 := A1.out.free 0
  have g1 := A1.out.free 1
  have g2 := A1.out.free 2
  have g3 := A1.out.free 3
  have g4 := A1.out.free 4
  have g5 := A1.out.free 5
  have g6 := A1.out.free 6
  have g7 := A1.out.free 7
  have g8 := A1.out.free 8
  have g9 := A1.out.free 9
  have g10 := A1.out.free 10
  have g11 := A1.out.free 11
  have S1 := putBoth A1.out (.int .i64 z0) (.string z1) (.string z2) (.int .i64 z3) (.slice ma t4.length mk) (.int .i64 z5) (.int .i64 n0) (.string n1) (.string n2) (.int .i64 n3) (.slice la o4.length lk) (.int .i64 n5)
  have j0 := S1.cell 0
  have j1 := S1.cell 1
  have j2 := S1.cell 2
  have j3 := S1.cell 3
  have j4 := S1.cell 4
  have j5 := S1.cell 5
  have j6 := S1.cell 6
  have j7 := S1.cell 7
  have j8 := S1.cell 8
  have j9 := S1.cell 9
  have j10 := S1.cell 10
  have j11 := S1.cell 11
  have E : Hid (Q (.returned (.tuple #[.agg #[.int .i64 z0, .string z1, .string z2, .int .i64 z3, .slice ma t4.length mk, .int .i64 z5, .int .i64 n0, .string n1, .string n2, .int .i64 n3, .slice la o4.length lk, .int .i64 n5], .bool ok])) ((((((((((((Y2.setCell ⟨w.heap.size + 1, 0, none⟩ (.int .i64 z0)).setCell ⟨w.heap.size + 1, 1, none⟩ (.string z1)).setCell ⟨w.heap.size + 1, 2, none⟩ (.string z2)).setCell ⟨w.heap.size + 1, 3, none⟩ (.int .i64 z3)).setCell ⟨w.heap.size + 1, 4, none⟩ (.slice ma t4.length mk)).setCell ⟨w.heap.size + 1, 5, none⟩ (.int .i64 z5)).setCell ⟨w.heap.size + 1, 6, none⟩ (.int .i64 n0)).setCell ⟨w.heap.size + 1, 7, none⟩ (.string n1)).setCell ⟨w.heap.size + 1, 8, none⟩ (.string n2)).setCell ⟨w.heap.size + 1, 9, none⟩ (.int .i64 n3)).setCell ⟨w.heap.size + 1, 10, none⟩ (.slice la o4.length lk)).setCell ⟨w.heap.size + 1, 11, none⟩ (.int .i64 n5))) := by
    rw [HQ.out]
    have ho : Only (w.heap.size + 1) Y2 ((((((((((((Y2.setCell ⟨w.heap.size + 1, 0, none⟩ (.int .i64 z0)).setCell ⟨w.heap.size + 1, 1, none⟩ (.string z1)).setCell ⟨w.heap.size + 1, 2, none⟩ (.string z2)).setCell ⟨w.heap.size + 1, 3, none⟩ (.int .i64 z3)).setCell ⟨w.heap.size + 1, 4, none⟩ (.slice ma t4.length mk)).setCell ⟨w.heap.size + 1, 5, none⟩ (.int .i64 z5)).setCell ⟨w.heap.size + 1, 6, none⟩ (.int .i64 n0)).setCell ⟨w.heap.size + 1, 7, none⟩ (.string n1)).setCell ⟨w.heap.size + 1, 8, none⟩ (.string n2)).setCell ⟨w.heap.size + 1, 9, none⟩ (.int .i64 n3)).setCell ⟨w.heap.size + 1, 10, none⟩ (.slice la o4.length lk)).setCell ⟨w.heap.size + 1, 11, none⟩ (.int .i64 n5)) := (putMain_only Y2 (w.heap.size + 1) _ _ _ _ _ _).trans (putLame_only _ (w.heap.size + 1) _ _ _ _ _ _)
    have hbel : Below w.heap.size w ((((((((((((Y2.setCell ⟨w.heap.size + 1, 0, none⟩ (.int .i64 z0)).setCell ⟨w.heap.size + 1, 1, none⟩ (.string z1)).setCell ⟨w.heap.size + 1, 2, none⟩ (.string z2)).setCell ⟨w.heap.size + 1, 3, none⟩ (.int .i64 z3)).setCell ⟨w.heap.size + 1, 4, none⟩ (.slice ma t4.length mk)).setCell ⟨w.heap.size + 1, 5, none⟩ (.int .i64 z5)).setCell ⟨w.heap.size + 1, 6, none⟩ (.int .i64 n0)).setCell ⟨w.heap.size + 1, 7, none⟩ (.string n1)).setCell ⟨w.heap.size + 1, 8, none⟩ (.string n2)).setCell ⟨w.heap.size + 1, 9, none⟩ (.int .i64 n3)).setCell ⟨w.heap.size + 1, 10, none⟩ (.slice la o4.length lk)).setCell ⟨w.heap.size + 1, 11, none⟩ (.int .i64 n5)) := putBoth_below BY.out (show w.heap.size ≤ w.heap.size + 1 by omega) _ _ _ _ _ _ _ _ _ _ _ _
    have hlo := hz.out
    exact Lib.hid ⟨z0, z1, z2, z3, t4, z5, n0, n1, n2, n3, o4, n5, ok, _, _, f, g, by rw [NA.out, NB.out]; exact HC.out, rfl, ND.out, layIntS.lower (layIntS.keep O1.out (fun a ha => ho.block a (layIntS.blocks O1.out a ha).2 (by have := (layIntS.blocks O1.out a ha).1; omega))) (by omega), layIntS.lower (layIntS.keep O2.out (fun a ha => ho.block a (layIntS.blocks O2.out a ha).2 (by have := (layIntS.blocks O2.out a ha).1; omega))) (by omega), hbel⟩
  clear S1
  go_wp2_with fail
  try simp only [Exit.inBlock, Exit.then]
  exact bodyPost_ret (v := .tuple #[.agg #[.int .i64 z0, .string z1, .string z2, .int .i64 z3, .slice ma t4.length mk, .int .i64 z5, .int .i64 n0, .string n1, .string n2, .int .i64 n3, .slice la o4.length lk, .int .i64 n5], .bool ok]) (by simp [results, Tryd.results31, go_sem, j0, j1, j2, j3, j4, j5, j6, j7, j8, j9, j10, j11]) rfl E.out

end Go.Proofs.YtpfkokjbpfaafaeDoor
namespace Go.Proofs.YtpfkokjbpfaafaeDoor
open Go.RowKit

set_option maxRecDepth 100000 in
set_option maxHeartbeats 400000 in
theorem specByte_any (i : Nat) (h : i < 256) (w : World) :
    Calls Tryd.prog 80 #[.int .i64 i] w fun e w' => e = .returned (.string ⟨#[UInt8.ofNat i]⟩) ∧ Below w.heap.size w w' := by
  have h1 : (i : Int) % 256 = (i : Int) := by omega
  have h2 : (i : Int).tmod 256 = (i : Int) := by rw [Int.tmod_eq_emod_of_nonneg (by omega)]; exact h1
  have h3 : ¬ ((i : Int) < 0) := by omega
  obtain ⟨b, hb, BB⟩ : ∃ b : UInt8, (i : Int) = (b.toNat : Int) ∧ Hid (b = UInt8.ofNat i) := ⟨UInt8.ofNat i, by rw [UInt8.toNat_ofNat']; omega, rfl⟩
  have hr := run_string_one (P := Tryd.prog) w 22 9 5 Tryd.underlying22 Tryd.underlying5 Tryd.underlying9 b
  rw [← hb] at hr
  have HB := Lib.hid hb
  rw [← BB.out]
  clear hb
  go_enter Tryd.func80, Tryd.ntmps80
  go_wp2_with fail
  go_ret
  exact ⟨rfl, (Below.refl _ _).alloc (Nat.le_refl _) _⟩

/-- A text's bytes as a row of their own. -/
theorem bytes_row (w : World) (t : ByteArray) : ∃ (cp : Nat) (w' : World), (convert 9 22 (.string t)).run Tryd.prog w = .ok (.slice (some ⟨w.heap.size, 0, none⟩) t.size cp) w' ∧ w.heap.size < w'.heap.size ∧ Below w.heap.size w w' ∧
    (∀ j, j < t.size → w'.cell? ⟨w.heap.size, j, none⟩ = some (.int .u8 (t.data.toList.getD j 0).toNat)) ∧ (∀ j, j < t.size → w'.frozen? ⟨w.heap.size, j, none⟩ = false) := by
  refine ⟨_, _, Lib.run_convert_string_bytes w 9 22 5 t Tryd.underlying9 Tryd.underlying22 Tryd.underlying5, by rw [Lib.bytesWorld_size]; omega, ⟨rfl, rfl, rfl, by rw [Lib.bytesWorld_size]; omega, fun k hk => Lib.bytesWorld_at_old w _ t k hk⟩, fun j hj => Lib.bytesWorld_cell w _ t j hj, fun j hj => ?_⟩
  have h := Lib.bytesWorld_at_new w 5 t
  have hz : t.size ≤ (Lib.bytesCells w 5 t).size := by simp [Lib.bytesCells]
  unfold World.frozen?
  rw [h]
  simp
  omega

theorem OwnB.after {w w' : World} {base : Nat} {e : TypeId} {v : Value} {xs : List UInt8} (h : OwnB w base e v xs) (hb : Below w.heap.size w w') : OwnB w' base e v xs := by
  refine ⟨h.1, ?_⟩
  rcases h.2 with hn | ⟨g, cap, cur, hv, hb', hg, rest⟩
  · exact .inl hn
  · exact .inr ⟨g, cap, cur, hv, hb', by rw [hb.block g (lt_of_block hg)]; exact hg, rest⟩
/-- 'out = append(out, l...)': out a row of bytes of the call's own. -/
theorem wpList_joinB {P : Program} (w : World) {ops : Array Oper} {rest : List Oper} {o : Oper} {a : Act} {Q : Exit → Act → World → Prop} (hgd : o.guard = none) (s x : Operand) (t : TypeId)
    (ho : o.op = .call { callee := .builtin .append, args := #[s, x], argTypes := #[t, t] })
    (base : Nat) (e : TypeId) (i : TypeInfo) (ht : P.underlying t = some (.slice e)) (hi : P.info? e = some i) (hz : i.zero = some (.int .u8 0))
    (hsize : i.size = 1) (hby : i.bytes = 1) (v : Value) (xs : List UInt8) (hs : a.eval s = v) (hown : OwnB w base e v xs)
    (g m c : Nat) (l : List UInt8) (hx : a.eval x = .slice (some ⟨g, 0, none⟩) m c) (hm : l.length = m) (hc : ∀ j, j < m → w.cell? ⟨g, j, none⟩ = some (.int .u8 (l.getD j 0).toNat))
    (hlen : xs.length + m ≤ 1000000000) (hbase : base ≤ w.heap.size)
    (h : ∀ v' w', OwnB w' base e v' (xs ++ l) → Below base w w' → wpList P ops Q rest (a.put o.dst v') w') :
    wpList P ops Q (o :: rest) a w := by
  subst hm
  refine wpList_append_own w hgd s x t ho base e i (.int .u8 0) 1 1 ht hi hz hsize hby rfl (by decide) v xs.length (Lib.byteCells xs) hs hown ⟨g, 0, none⟩ l.length c (Lib.byteCells l) hx (by simp [Lib.byteCells]) (fun j u hj => ?_) (by intro u hu; simp [Lib.byteCells] at hu; obtain ⟨b, _, rfl⟩ := hu; rfl) (by unfold maxLen; omega) (by omega) hbase ?_
  · have hjl : j < l.length := by
      rcases Nat.lt_or_ge j l.length with h | h
      · exact h
      · rw [List.getElem?_eq_none (by simpa [Lib.byteCells] using h)] at hj
        cases hj
    have hadd : (⟨g, 0, none⟩ : Addr).add j = ⟨g, j, none⟩ := by unfold Addr.add; split <;> simp_all
    rw [hadd, hc j hjl, ← hj]
    simp [Lib.byteCells, hjl]
  · intro v' w' h1 h2 _
    refine h v' w' ?_ ((Below.refl base w).grown h2 hbase (fun k hk => (World.ownsRow.lt hown k hk).1))
    unfold OwnB
    rw [List.length_append, Lib.byteCells_append]
    exact h1

/-- The front of a row of one's own, read as a text. -/
theorem own_front {P : Program} (w : World) (src dst e : TypeId) (hs : P.underlying src = some (.slice e)) (he : P.underlying e = some (.int .u8)) (hd : P.underlying dst = some .string)
    {base : Nat} {v : Value} (l : List UInt8) (hown0 : OwnB w base e v l) (n : Nat) (hn : n ≤ l.length) :
    ∃ ao cap, v = .slice ao l.length cap ∧ n ≤ cap ∧ (convert src dst (.slice ao n cap)).run P w = .ok (.string ⟨(l.take n).toArray⟩) w := by
  have hown : w.ownsRow base e 1 v l.length (Lib.byteCells l) := hown0
  rcases hown.2 with ⟨rfl, h0⟩ | ⟨g, cap, cur, rfl, _, _, hnc, _, _, _⟩
  · obtain rfl : l = [] := List.length_eq_zero_iff.1 h0
    obtain rfl : n = 0 := by simpa using hn
    refine ⟨none, 0, rfl, Nat.le_refl _, ?_⟩
    rw [run_convert_bytes_string w src dst e none 0 0 hs he hd]
    rfl
  · refine ⟨_, cap, rfl, by omega, ?_⟩
    have hl : (l.take n).length = n := by rw [List.length_take]; omega
    have h := run_convert_bytes_back w src dst e ⟨g, 0, none⟩ cap (l.take n) hs he hd (fun j hj => hown.cells (g := g) rfl j _ (by
      rw [hl] at hj
      unfold Lib.byteCells
      rw [List.getElem?_map, List.getElem_take, List.getElem?_eq_getElem (by omega)]
      rfl))
    rw [hl] at h
    exact h

end Go.Proofs.YtpfkokjbpfaafaeDoor
namespace Go.Proofs.YtpfkokjbpfaafaeDoor

def varF : Nat → Nat → List UInt8
  | 0, n => [UInt8.ofNat n]
  | f + 1, n => if n ≤ 127 then [UInt8.ofNat n] else UInt8.ofNat (n % 128 + 128) :: varF f (n / 128)

def var (n : Nat) : List UInt8 := varF n n

theorem varF_fuel : ∀ (f g n : Nat), n ≤ f → n ≤ g → varF f n = varF g n
  | 0, 0, n, _, _ => rfl
  | 0, g + 1, n, h, _ => by
    have : n = 0 := by omega
    subst this
    simp [varF]
  | f + 1, 0, n, _, h => by
    have : n = 0 := by omega
    subst this
    simp [varF]
  | f + 1, g + 1, n, hf, hg => by
    by_cases h : n ≤ 127
    · simp [varF, h]
    · have h1 : n / 128 ≤ f := by omega
      have h2 : n / 128 ≤ g := by omega
      simp only [varF, if_neg h]
      rw [varF_fuel f g (n / 128) h1 h2]

theorem var_small (n : Nat) (h : n ≤ 127) : var n = [UInt8.ofNat n] := by
  unfold var
  cases n with
  | zero => rfl
  | succ n => simp only [varF, if_pos h]

theorem var_great (n : Nat) (h : 127 < n) : var n = UInt8.ofNat (n % 128 + 128) :: var (n / 128) := by
  unfold var
  obtain ⟨k, rfl⟩ : ∃ k, n = k + 1 := ⟨n - 1, by omega⟩
  have h' : ¬ k + 1 ≤ 127 := by omega
  simp only [varF, if_neg h']
  rw [varF_fuel k ((k + 1) / 128) ((k + 1) / 128) (by omega) (by omega)]

theorem varF_length : ∀ (f n : Nat), (varF f n).length ≤ f + 1
  | 0, n => by simp [varF]
  | f + 1, n => by
    by_cases h : n ≤ 127
    · simp [varF, h]
    · have := varF_length f (n / 128)
      simp only [varF, if_neg h, List.length_cons]
      omega

theorem var_length (n : Nat) : (var n).length ≤ n + 1 := varF_length n n

theorem byte_of (m : Nat) (h : m ≤ 255) : ((UInt8.ofNat m).toNat : Int) = (m : Int) := by
  have : (UInt8.ofNat m).toNat = m := by simp; omega
  omega

end Go.Proofs.YtpfkokjbpfaafaeDoor

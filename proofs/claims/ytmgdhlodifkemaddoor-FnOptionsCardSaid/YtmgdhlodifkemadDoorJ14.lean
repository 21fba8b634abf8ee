/-
  Options, right or not, drawn.
-/
import Derived.Test.YtmgdhlodifkemadDoorJ13
import Derived.Deep.RegionLaw
namespace Go.Proofs.YtmgdhlodifkemadDoor
open Go.RowKit

/-- Few ways, of few bytes. -/
def FewW (_ : Int) (ws : List ByteArray) : Prop := ws.length ≤ 5 ∧ ∀ x ∈ ws, x.size ≤ 9
theorem OptP.fewW {z : Int} {ws : List ByteArray} (h : OptP z ws) : ws.length ≤ 4 ∧ ∀ x ∈ ws, x.size ≤ 9 := ⟨h.few, fun x hx => by have := (h.way x hx).2.2; omega⟩
def oddWays : List ByteArray := [⟨#[]⟩, ⟨#[65]⟩, ⟨#[97, 49]⟩, ⟨#[97, 98, 99, 100, 101, 102, 103, 104, 105]⟩]
theorem oddWays_size : ∀ x ∈ oddWays, x.size ≤ 9 := by
  intro x hx
  simp only [oddWays, List.mem_cons, List.not_mem_nil, or_false] at hx
  rcases hx with rfl | rfl | rfl | rfl <;> decide
theorem odd_cells (X : World) : ∀ j, j < 4 → (X.alloc (.cells #[.string ⟨#[]⟩, .string ⟨#[65]⟩, .string ⟨#[97, 49]⟩, .string ⟨#[97, 98, 99, 100, 101, 102, 103, 104, 105]⟩] StringT)).cell? ⟨X.heap.size, j, none⟩ = some (.string (oddWays.getD j ⟨#[]⟩)) := by
  intro j hj
  have h4 : j = 0 ∨ j = 1 ∨ j = 2 ∨ j = 3 := by omega
  rcases h4 with rfl | rfl | rfl | rfl <;> simp [oddWays]

/-- The ways are an empty row of its own. -/
theorem DO.emptied {c : Nat} {a : Option Addr} {len cap : Nat} {w : World} {q : Nat} {z : Int} {v : Value} {ws : List ByteArray} {p : Bool} {X : World} (h : DO c a len cap w q z v ws p X) : DO c a len cap w q z (.slice (some ⟨X.heap.size, 0, none⟩) 0 0) [] p ((X.setCell ⟨q, 1, none⟩ (.slice (some ⟨X.heap.size, 0, none⟩) 0 0)).alloc (.cells #[] StringT)) := by
  obtain ⟨f, h0, hf⟩ := h.own
  have h1 := h.cl
  have h2 := h.lt
  have hc := Chg.cell X q 1 (.slice (some ⟨X.heap.size, 0, none⟩) 0 0)
  have hb : Below q X (X.setCell ⟨q, 1, none⟩ (.slice (some ⟨X.heap.size, 0, none⟩) 0 0)) := hc.below (fun g hg => by rw [List.mem_singleton] at hg; omega) (Nat.le_of_lt h.var.lt)
  have hsz : (X.setCell ⟨q, 1, none⟩ (.slice (some ⟨X.heap.size, 0, none⟩) 0 0)).heap.size = X.heap.size := by simp [World.setCell]
  have hal : Below (X.setCell ⟨q, 1, none⟩ (.slice (some ⟨X.heap.size, 0, none⟩) 0 0)).heap.size (X.setCell ⟨q, 1, none⟩ (.slice (some ⟨X.heap.size, 0, none⟩) 0 0)) ((X.setCell ⟨q, 1, none⟩ (.slice (some ⟨X.heap.size, 0, none⟩) 0 0)).alloc (.cells #[] StringT)) := (Below.refl _ _).alloc (Nat.le_refl _) _
  have hw := h.only.size
  have hl := flat_lit (e := StringT) (A := layString) (X.setCell ⟨q, 1, none⟩ (.slice (some ⟨X.heap.size, 0, none⟩) 0 0)) w.heap.size (by rw [hsz]; exact hw)
  rw [hsz] at hl
  exact ⟨(h.cur.kept hb (by omega)).below hal, (h.only.behind (hb.mono (by omega))).trans (.of_below hal), (h.res.next' hb (by omega)).next hal, (h.var.set 1 _).next hal, ⟨[X.heap.size], by simp, hl⟩, h.lt, h.cl⟩

set_option maxRecDepth 100000 in
set_option maxHeartbeats 6400000 in
theorem optAny_any {c : Nat} {a : Option Addr} {len cap : Nat} (w : World) (H : Cur c a len cap w) :
    Calls Tryd.prog 60 #[.pointer (some ⟨c, 0, none⟩)] w (DrewOpt FewW c a len cap w) := by
  have hcs : c < w.heap.size := cell_size (p := ⟨c, 0, none⟩) H.c0
  have hB0 : Below w.heap.size w (w.alloc (.cells #[.int .i64 0, .slice none 0 0, .bool false] OptionsT)) := (Below.refl _ _).alloc (Nat.le_refl _) _
  have R0 := Lib.hid (VarA.new w OptionsT #[.int .i64 0, .slice none 0 0, .bool false])
  have HC := Lib.hid (H.below hB0)
  have HO := Lib.hid (show Only c w _ from .of_below hB0)
  clear H hB0
  obtain ⟨Q, HQ⟩ : ∃ Q : Ending → World → Prop, Hid (Q = DrewOpt FewW c a len cap w) := ⟨_, Lib.hid rfl⟩
  rw [← HQ.out]
  go_enter Tryd.func60, Tryd.ntmps60
  go_upto_region 1 with fail
  generalize w.alloc (.cells #[.int .i64 0, .slice none 0 0, .bool false] OptionsT) = Y0 at *
  go_wp2_with fail
  refine (options_any _ HC.out).mono ?_
  rintro e Y2 ⟨z, b, d, ws, p, f, hP, rfl, hd, hown, hc1, ho1⟩
  have hal : Below Y2.heap.size Y2 (Y2.alloc (.cells #[.int .i64 z, .slice b ws.length d, .bool p] OptionsT)) := (Below.refl _ _).alloc (Nat.le_refl _) _
  have R2 := R0.out.only ho1 (show w.heap.size ≠ c by omega)
  have D0 : Hid (DO c a len cap w Y2.heap.size z (.slice b ws.length d) ws p (Y2.alloc (.cells #[.int .i64 z, .slice b ws.length d, .bool p] OptionsT))) := Lib.hid ⟨hc1.below hal, (HO.out.trans ho1).trans (.of_below hal), R2.next hal, VarA.new Y2 OptionsT _, ⟨f, hd, layStringS.lower (layStringS.next hown hal) HO.out.size⟩, R2.lt, hcs⟩
  have PW := Lib.hid hP.fewW
  have hwl := hP.few
  clear hc1 ho1 hal R2 HC HO R0 hown hd hP f
  go_upto_region 2 with fail
  generalize Y2.alloc (.cells #[.int .i64 z, .slice b ws.length d, .bool p] OptionsT) = Y3 at *
  generalize Y2.heap.size = q at *
  clear Y0 Y2
  go_wp2_with fail
  refine (below_any 12 (by omega) (by omega) _ D0.out.cur).mono ?_
  rintro e Z1 ⟨x, x0, x1, rfl, hc1, ho1⟩
  have D1 := Lib.hid (D0.out.step hc1 ho1)
  clear D0 hc1 ho1
  have hx4 : x = 0 ∨ x = 1 ∨ x = 2 ∨ 2 < x := by omega
  rcases hx4 with rfl | rfl | rfl | hx
  · have hqs : c < Z1.heap.size := by have := D1.out.only.size; omega
    have DX := Lib.hid (D1.out.next ((Below.refl _ _).alloc (Nat.le_refl _) (.cells #[.int .i64 19, .int .i64 20, .int .i64 60, .int .i64 61] 3)))
    go_wp2_with fail
    refine (pickInt_any Z1.heap.size 4 [19, 20, 60, 61] rfl (by omega) (by omega) (by omega) _ DX.out.cur ?_).mono ?_
    · intro j hj
      have h8 : j = 0 ∨ j = 1 ∨ j = 2 ∨ j = 3 := by omega
      rcases h8 with rfl | rfl | rfl | rfl <;> simp
    rintro e Z2 ⟨y, _, rfl, hc2, ho2⟩
    have D2 := Lib.hid (DX.out.step hc2 ho2)
    clear hc2 ho2 D1 DX
    have cj : Z2.cell? ⟨q, 0, none⟩ = some (.int .i64 z) := D2.out.var.cell 0
    have fj := D2.out.var.free 0
    have D3 := Lib.hid (D2.out.size y)
    clear D2
    go_upto_region 9 with fail
    generalize Z2.setCell ⟨q, 0, none⟩ (.int .i64 y) = Z3 at *
    clear cj fj
    have HP : Hid (FewW y (ws)) := Lib.hid ⟨by have := PW.out.1; omega, PW.out.2⟩
    have e0 : Z3.cell? ⟨q, 0, none⟩ = some (.int .i64 y) := D3.out.var.cell 0
    have e1 : Z3.cell? ⟨q, 1, none⟩ = some (.slice b (ws).length d) := D3.out.var.cell 1
    have e2 : Z3.cell? ⟨q, 2, none⟩ = some (.bool p) := D3.out.var.cell 2
    have d0 : Z3.cell? ⟨w.heap.size, 0, none⟩ = some (.int .i64 0) := D3.out.res.cell 0
    have d1 : Z3.cell? ⟨w.heap.size, 1, none⟩ = some (.slice none 0 0) := D3.out.res.cell 1
    have d2 : Z3.cell? ⟨w.heap.size, 2, none⟩ = some (.bool false) := D3.out.res.cell 2
    have f0 := D3.out.res.free 0
    have f1 := D3.out.res.free 1
    have f2 := D3.out.res.free 2
    have FIN := Lib.hid (DO.done HP.out D3.out)
    have R9 := (((D3.out.res.set 0 (.int .i64 y)).set 1 (.slice b (ws).length d)).set 2 (.bool p))
    have j0 := R9.cell 0
    have j1 := R9.cell 1
    have j2 := R9.cell 2
    clear R9
    go_wp2_with fail
    try simp only [Exit.inBlock, Exit.then]
    exact bodyPost_ret (v := .agg #[.int .i64 y, .slice b (ws).length d, .bool p]) (by simp [results, Tryd.results60, go_sem, j0, j1, j2]) rfl (by rw [HQ.out]; exact FIN.out)
  · have hqs : c < Z1.heap.size := by have := D1.out.only.size; omega
    have hal : Below Z1.heap.size Z1 (Z1.alloc (.cells #[.string ⟨#[]⟩, .string ⟨#[65]⟩, .string ⟨#[97, 49]⟩, .string ⟨#[97, 98, 99, 100, 101, 102, 103, 104, 105]⟩] StringT)) := (Below.refl _ _).alloc (Nat.le_refl _) _
    have DD := Lib.hid (D1.out.next hal).drew
    have s5 : Z1.cell? ⟨q, 1, none⟩ = some (.slice b ws.length d) := D1.out.var.cell 1
    have s7 : (Z1.alloc (.cells #[.string ⟨#[]⟩, .string ⟨#[65]⟩, .string ⟨#[97, 49]⟩, .string ⟨#[97, 98, 99, 100, 101, 102, 103, 104, 105]⟩] StringT)).cell? ⟨q, 1, none⟩ = some (.slice b ws.length d) := (D1.out.next hal).var.cell 1
    have s6 : (Z1.alloc (.cells #[.string ⟨#[]⟩, .string ⟨#[65]⟩, .string ⟨#[97, 49]⟩, .string ⟨#[97, 98, 99, 100, 101, 102, 103, 104, 105]⟩] StringT)).drew.cell? ⟨q, 1, none⟩ = some (.slice b ws.length d) := DD.out.var.cell 1
    have HOC : Hid (∀ j, j < 4 → (Z1.alloc (.cells #[.string ⟨#[]⟩, .string ⟨#[65]⟩, .string ⟨#[97, 49]⟩, .string ⟨#[97, 98, 99, 100, 101, 102, 103, 104, 105]⟩] StringT)).drew.cell? ⟨Z1.heap.size, j, none⟩ = some (.string (oddWays.getD j ⟨#[]⟩))) := Lib.hid (odd_cells Z1)
    have hxs : ws.length + 1 ≤ 1000000000 := by omega
    obtain ⟨i0, hi, hz0, hsz0, hby0⟩ := info_of infoString
    clear hal
    go_wp2_with fail
    go_region_law (first | (go_simp; refine (pickText_any Z1.heap.size 4 oddWays rfl (by omega) (by omega) (by omega) _ DD.out.cur HOC.out).mono ?_; rintro e v1 ⟨t, ht, rfl, hcz, hoz⟩; have E1 := DD.out.step hcz hoz; have hS : v1.cell? ⟨q, 1, none⟩ = some (.slice b ws.length d) := E1.var.cell 1; have E9 := E1.next ((Below.refl _ _).alloc (Nat.le_refl _) (.cells #[.string t] StringT)); have hS3 : (v1.alloc (.cells #[.string t] 9)).cell? ⟨q, 1, none⟩ = some (.slice b ws.length d) := E9.var.cell 1; obtain ⟨fp, hfp, hown⟩ := E9.own; have hws : w.heap.size ≤ _ := E9.only.size; simp only []) | (refine step_pushOne rfl (.tmp 17) (.tmp 21) 37 rfl w.heap.size StringT i0 (.string ⟨#[]⟩) 16 layString flatString Tryd.underlying37 hi hz0 hsz0 hby0 rfl (by omega) (.slice b ws.length d) fp ws (by first | rfl | simp [Act.eval, Act.put]) hown t [.string t] (layString_rd.2 rfl) ⟨v1.heap.size, 0, none⟩ (by first | rfl | simp [Act.eval, Act.put]) (lit_cells_at v1 #[.string t] StringT) hxs hws ?_; intro v' w' hw1 hw2 hw3 hw4; obtain ⟨g', cp', rfl, hfq, _, _⟩ := flat_some flatString hw1 hw2; have E2 := Lib.hid (E9.pushed (blk_dup _) hw1 hw4 hw3); have E3 := E9.grown hw4 hw3; have g5 := E3.2.2.2.free 1; have hS2 : w'.cell? ⟨q, 1, none⟩ = some (.slice b ws.length d) := E3.2.2.2.cell 1))
    all_goals
      have HT := Lib.hid (oddWays_size t ht)
      have hlr : (ws ++ [t]).length = ws.length + 1 := by simp
      have E4 := E2.out
      rw [hlr] at E4
      have D3 := Lib.hid E4
      clear hw1 hw2 hw3 hw4 hcz hoz E1 E2 E3 E4 E9 hown ht
      go_upto_region 9 with fail
      generalize w'.setCell ⟨q, 1, none⟩ (.slice (some ⟨g', 0, none⟩) (ws.length + 1) cp') = Z3 at *
      have HP : Hid (FewW z (ws ++ [t])) := Lib.hid ⟨by rw [hlr]; omega, fun x hx => (List.mem_append.1 hx).elim (PW.out.2 x) (fun h => by rw [List.mem_singleton] at h; subst h; exact HT.out)⟩
      have e0 : Z3.cell? ⟨q, 0, none⟩ = some (.int .i64 z) := D3.out.var.cell 0
      have e1 : Z3.cell? ⟨q, 1, none⟩ = some (.slice (some ⟨g', 0, none⟩) (ws.length + 1) cp') := D3.out.var.cell 1
      have e2 : Z3.cell? ⟨q, 2, none⟩ = some (.bool p) := D3.out.var.cell 2
      have d0 : Z3.cell? ⟨w.heap.size, 0, none⟩ = some (.int .i64 0) := D3.out.res.cell 0
      have d1 : Z3.cell? ⟨w.heap.size, 1, none⟩ = some (.slice none 0 0) := D3.out.res.cell 1
      have d2 : Z3.cell? ⟨w.heap.size, 2, none⟩ = some (.bool false) := D3.out.res.cell 2
      have f0 := D3.out.res.free 0
      have f1 := D3.out.res.free 1
      have f2 := D3.out.res.free 2
      have FIN := Lib.hid (show DrewOpt FewW c a len cap w _ _ from by have h := DO.done HP.out (show DO c a len cap w q z (.slice (some ⟨g', 0, none⟩) (ws ++ [t]).length cp') (ws ++ [t]) p Z3 by rw [hlr]; exact D3.out); rw [hlr] at h; exact h)
      have R9 := (((D3.out.res.set 0 (.int .i64 z)).set 1 (.slice (some ⟨g', 0, none⟩) (ws.length + 1) cp')).set 2 (.bool p))
      have j0 := R9.cell 0
      have j1 := R9.cell 1
      have j2 := R9.cell 2
      clear R9
      go_wp2_with fail
      try simp only [Exit.inBlock, Exit.then]
      exact bodyPost_ret (v := .agg #[.int .i64 z, .slice (some ⟨g', 0, none⟩) (ws.length + 1) cp', .bool p]) (by simp [results, Tryd.results60, go_sem, j0, j1, j2]) rfl (by rw [HQ.out]; exact FIN.out)
  · have hsv : (Z1.setCell ⟨q, 1, none⟩ (.slice (some ⟨Z1.heap.size, 0, none⟩) 0 0)).heap.size = Z1.heap.size := by simp [World.setCell]
    have cj : Z1.cell? ⟨q, 1, none⟩ = some (.slice b ws.length d) := D1.out.var.cell 1
    have fj := D1.out.var.free 1
    have hq := D1.out.var.lt
    have D3 : Hid (DO c a len cap w q z (.slice (some ⟨Z1.heap.size, 0, none⟩) 0 0) [] p ((Z1.setCell ⟨q, 1, none⟩ (.slice (some ⟨Z1.heap.size, 0, none⟩) 0 0)).alloc (.cells #[] StringT))) := Lib.hid (D1.out.emptied)
    go_upto_region 9 with fail
    generalize (Z1.setCell ⟨q, 1, none⟩ (.slice (some ⟨Z1.heap.size, 0, none⟩) 0 0)).alloc (.cells #[] StringT) = Z3 at *
    generalize Z1.heap.size = zz at *
    clear cj fj hsv D1 hq
    have HP : Hid (FewW z (([] : List ByteArray))) := Lib.hid ⟨by simp, by simp⟩
    have e0 : Z3.cell? ⟨q, 0, none⟩ = some (.int .i64 z) := D3.out.var.cell 0
    have e1 : Z3.cell? ⟨q, 1, none⟩ = some (.slice (some ⟨zz, 0, none⟩) 0 0) := D3.out.var.cell 1
    have e2 : Z3.cell? ⟨q, 2, none⟩ = some (.bool p) := D3.out.var.cell 2
    have d0 : Z3.cell? ⟨w.heap.size, 0, none⟩ = some (.int .i64 0) := D3.out.res.cell 0
    have d1 : Z3.cell? ⟨w.heap.size, 1, none⟩ = some (.slice none 0 0) := D3.out.res.cell 1
    have d2 : Z3.cell? ⟨w.heap.size, 2, none⟩ = some (.bool false) := D3.out.res.cell 2
    have f0 := D3.out.res.free 0
    have f1 := D3.out.res.free 1
    have f2 := D3.out.res.free 2
    have FIN := Lib.hid (DO.done HP.out D3.out)
    have R9 := (((D3.out.res.set 0 (.int .i64 z)).set 1 (.slice (some ⟨zz, 0, none⟩) 0 0)).set 2 (.bool p))
    have j0 := R9.cell 0
    have j1 := R9.cell 1
    have j2 := R9.cell 2
    clear R9
    go_wp2_with fail
    try simp only [Exit.inBlock, Exit.then]
    exact bodyPost_ret (v := .agg #[.int .i64 z, .slice (some ⟨zz, 0, none⟩) 0 0, .bool p]) (by simp [results, Tryd.results60, go_sem, j0, j1, j2]) rfl (by rw [HQ.out]; exact FIN.out)
  · have n0 : (x == 0) = false := by rw [beq_eq_false_iff_ne]; omega
    have n1 : (x == 1) = false := by rw [beq_eq_false_iff_ne]; omega
    have n2 : (x == 2) = false := by rw [beq_eq_false_iff_ne]; omega
    have HP : Hid (FewW z (ws)) := Lib.hid ⟨by have := PW.out.1; omega, PW.out.2⟩
    have e0 : Z1.cell? ⟨q, 0, none⟩ = some (.int .i64 z) := D1.out.var.cell 0
    have e1 : Z1.cell? ⟨q, 1, none⟩ = some (.slice b (ws).length d) := D1.out.var.cell 1
    have e2 : Z1.cell? ⟨q, 2, none⟩ = some (.bool p) := D1.out.var.cell 2
    have d0 : Z1.cell? ⟨w.heap.size, 0, none⟩ = some (.int .i64 0) := D1.out.res.cell 0
    have d1 : Z1.cell? ⟨w.heap.size, 1, none⟩ = some (.slice none 0 0) := D1.out.res.cell 1
    have d2 : Z1.cell? ⟨w.heap.size, 2, none⟩ = some (.bool false) := D1.out.res.cell 2
    have f0 := D1.out.res.free 0
    have f1 := D1.out.res.free 1
    have f2 := D1.out.res.free 2
    have FIN := Lib.hid (DO.done HP.out D1.out)
    have R9 := (((D1.out.res.set 0 (.int .i64 z)).set 1 (.slice b (ws).length d)).set 2 (.bool p))
    have j0 := R9.cell 0
    have j1 := R9.cell 1
    have j2 := R9.cell 2
    clear R9
    go_wp2_with fail
    try simp only [Exit.inBlock, Exit.then]
    exact bodyPost_ret (v := .agg #[.int .i64 z, .slice b (ws).length d, .bool p]) (by simp [results, Tryd.results60, go_sem, j0, j1, j2]) rfl (by rw [HQ.out]; exact FIN.out)

end Go.Proofs.YtmgdhlodifkemadDoor

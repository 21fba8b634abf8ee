/-
  A drawn packet.
-/
import Derived.Test.YtdhacjpdlmnlmadDoorJ17
import Derived.Test.YtdhacjpdlmnlmadDoorJ15
namespace Go.Proofs.YtdhacjpdlmnlmadDoor
open Go.RowKit

/-- The cursor, the result, the packet in its variable, its row. -/
structure DK (c : Nat) (a : Option Addr) (len cap : Nat) (w : World) (q : Nat) (cs : Array Value) (v : Value) (xs : List Int) (X : World) : Prop where
  cur : Cur c a len cap X
  only : Only c w X
  res : VarA w.heap.size PkT #[.int .i64 0, .int .i64 0, .int .i64 0, .int .i64 0, .int .i64 0, .slice none 0 0, .string ⟨#[]⟩] X
  var : VarA q PkT cs X
  own : ∃ f, layIntS.own X (q + 1) f [v] xs
  lt : w.heap.size < q
  cl : c < w.heap.size
section
variable {c : Nat} {a : Option Addr} {len cap : Nat} {w : World} {q : Nat} {cs : Array Value} {v : Value} {xs : List Int} {X Y : World}
theorem DK.next (h : DK c a len cap w q cs v xs X) (hb : Below X.heap.size X Y) : DK c a len cap w q cs v xs Y :=
  ⟨h.cur.below hb, h.only.trans (.of_below hb), h.res.next hb, h.var.next hb, h.own.imp fun _ hf => layIntS.next hf hb, h.lt, h.cl⟩
theorem DK.drew (h : DK c a len cap w q cs v xs X) : DK c a len cap w q cs v xs X.drew := h.next ((Below.refl _ X).drew)
theorem DK.alloc (h : DK c a len cap w q cs v xs X) (o : Obj) : DK c a len cap w q cs v xs (X.alloc o) := h.next ((Below.refl _ X).alloc (Nat.le_refl _) o)
/-- The cursor goes on. -/
theorem DK.step (h : DK c a len cap w q cs v xs X) (hc : Cur c a len cap Y) (ho : Only c X Y) : DK c a len cap w q cs v xs Y := by
  have h1 := h.cl
  have h2 := h.lt
  exact ⟨hc, h.only.trans ho, h.res.only ho (by omega), h.var.only ho (by omega), h.own.imp fun _ hf => lay_only layIntS hf ho (by omega), h.lt, h.cl⟩
/-- One of the packet's cells is written. -/
theorem DK.set (h : DK c a len cap w q cs v xs X) (j : Nat) (u : Value) : DK c a len cap w q (cs.setIfInBounds j u) v xs (X.setCell ⟨q, j, none⟩ u) := by
  have h1 := h.cl
  have h2 := h.lt
  have ho : Only q X (X.setCell ⟨q, j, none⟩ u) := Only.setCell j u
  have hb : Below q X (X.setCell ⟨q, j, none⟩ u) := only_below ho (Nat.le_refl _) (Nat.le_of_lt h.var.lt)
  exact ⟨h.cur.kept hb (by omega), h.only.behind (hb.mono (by omega)), h.res.only ho (by omega), h.var.set j u, h.own.imp fun _ hf => lay_only layIntS hf ho (by omega), h.lt, h.cl⟩
/-- The row has grown. -/
theorem DK.grown (h : DK c a len cap w q cs v xs X) {v' : Value} {ys : List Int} (hown : ∃ f, layIntS.own Y (q + 1) f [v'] ys) (hb : Below (q + 1) X Y) : DK c a len cap w q cs v' ys Y := by
  have h1 := h.cl
  have h2 := h.lt
  exact ⟨h.cur.kept hb (by omega), h.only.behind (hb.mono (by omega)), h.res.keep hb (by omega), h.var.keep hb (by omega), hown, h.lt, h.cl⟩
theorem DK.read (h : DK c a len cap w q cs v xs X) : layIntS.rd X [v] xs := by
  obtain ⟨f, hf⟩ := h.own
  exact layIntS.read hf
end
/-- How a drawn packet ends. -/
def DrewPk (m : Nat) (c : Nat) (a : Option Addr) (len cap : Nat) (w : World) (e : Ending) (w' : World) : Prop :=
  ∃ (op key fr dst num : Int) (v : Value) (xs : List Int) (body : ByteArray), xs.length ≤ m ∧ body.size ≤ 200 ∧ e = .returned (.agg #[.int .i64 op, .int .i64 key, .int .i64 fr, .int .i64 dst, .int .i64 num, v, .string body]) ∧ (∃ f, layIntS.own w' w.heap.size f [v] xs) ∧ Cur c a len cap w' ∧ Only c w w'
theorem DK.done {c : Nat} {a : Option Addr} {len cap : Nat} {w : World} {q : Nat} {op key fr dst num : Int} {v : Value} {xs : List Int} {body : ByteArray} {X : World} {cs : Array Value} (h : DK c a len cap w q cs v xs X) (m : Nat) (hm : xs.length ≤ m) (hb : body.size ≤ 200) :
    DrewPk m c a len cap w (.returned (.agg #[.int .i64 op, .int .i64 key, .int .i64 fr, .int .i64 dst, .int .i64 num, v, .string body])) (((((((X.setCell ⟨w.heap.size, 0, none⟩ (.int .i64 op)).setCell ⟨w.heap.size, 1, none⟩ (.int .i64 key)).setCell ⟨w.heap.size, 2, none⟩ (.int .i64 fr)).setCell ⟨w.heap.size, 3, none⟩ (.int .i64 dst)).setCell ⟨w.heap.size, 4, none⟩ (.int .i64 num)).setCell ⟨w.heap.size, 5, none⟩ v).setCell ⟨w.heap.size, 6, none⟩ (.string body)) := by
  have h1 := h.cl
  have h2 := h.lt
  have O7 := only_seven X w.heap.size (.int .i64 op) (.int .i64 key) (.int .i64 fr) (.int .i64 dst) (.int .i64 num) v (.string body)
  have hb7 := only_below O7 (Nat.le_refl _) h.only.size
  exact ⟨op, key, fr, dst, num, v, xs, body, hm, hb, rfl, own_seven _ _ _ _ _ _ _ h.own (by omega) (by omega), h.cur.kept hb7 (by omega), h.only.behind hb7⟩

set_option maxRecDepth 100000 in
set_option maxHeartbeats 3200000 in
theorem packet_any {c : Nat} {a : Option Addr} {len cap : Nat} (w : World) (H : Cur c a len cap w) :
    Calls Tryd.prog 35 #[.pointer (some ⟨c, 0, none⟩)] w (DrewPk 3 c a len cap w) := by
  have hcs : c < w.heap.size := cell_size (p := ⟨c, 0, none⟩) H.c0
  have hB0 : Below w.heap.size w (w.alloc (.cells #[.int .i64 0, .int .i64 0, .int .i64 0, .int .i64 0, .int .i64 0, .slice none 0 0, .string ⟨#[]⟩] PkT)) := (Below.refl _ _).alloc (Nat.le_refl _) _
  have R0 := Lib.hid (VarA.new w PkT #[.int .i64 0, .int .i64 0, .int .i64 0, .int .i64 0, .int .i64 0, .slice none 0 0, .string ⟨#[]⟩])
  have C0 := Lib.hid (H.below hB0)
  have O0 := Lib.hid (show Only c w _ from .of_below hB0)
  obtain ⟨i0, hi, hz0, hsz0, hby0⟩ := info_of infoInt
  clear H hB0
  go_enter Tryd.func35, Tryd.ntmps35
  go_upto_region 1 with fail
  generalize w.alloc (.cells #[.int .i64 0, .int .i64 0, .int .i64 0, .int .i64 0, .int .i64 0, .slice none 0 0, .string ⟨#[]⟩] PkT) = Y0 at *
  go_wp2_with fail
  refine (below_any 3 (by omega) (by omega) _ C0.out).mono ?_
  rintro e Y1 ⟨x1, x10, x11, rfl, hc1, ho1⟩
  have C1 := Lib.hid hc1
  have O1 := Lib.hid (O0.out.trans ho1)
  have R1 := Lib.hid (R0.out.only ho1 (by omega))
  clear hc1 ho1 C0 O0 R0
  go_wp2_with fail
  refine (below_any 3 (by omega) (by omega) _ C1.out).mono ?_
  rintro e Y2 ⟨x2, x20, x21, rfl, hc2, ho2⟩
  have C2 := Lib.hid hc2
  have O2 := Lib.hid (O1.out.trans ho2)
  have R2 := Lib.hid (R1.out.only ho2 (by omega))
  clear hc2 ho2 C1 O1 R1
  go_wp2_with fail
  refine (below_any 3 (by omega) (by omega) _ C2.out).mono ?_
  rintro e Y3 ⟨x3, x30, x31, rfl, hc3, ho3⟩
  have C3 := Lib.hid hc3
  have O3 := Lib.hid (O2.out.trans ho3)
  have R3 := Lib.hid (R2.out.only ho3 (by omega))
  clear hc3 ho3 C2 O2 R2
  go_wp2_with fail
  refine (below_any 9 (by omega) (by omega) _ C3.out).mono ?_
  rintro e Y4 ⟨x4, x40, x41, rfl, hc4, ho4⟩
  have C4 := Lib.hid hc4
  have O4 := Lib.hid (O3.out.trans ho4)
  have R4 := Lib.hid (R3.out.only ho4 (by omega))
  clear hc4 ho4 C3 O3 R3
  go_upto_region 2 with fail
  have D0 : Hid (DK c a len cap w Y4.heap.size #[.int .i64 (1 + x1), .int .i64 0, .int .i64 (1 + x2), .int .i64 (1 + x3), .int .i64 x4, .slice none 0 0, .string ⟨#[]⟩] (.slice none 0 0) [] (Y4.alloc (.cells #[.int .i64 (1 + x1), .int .i64 0, .int .i64 (1 + x2), .int .i64 (1 + x3), .int .i64 x4, .slice none 0 0, .string ⟨#[]⟩] PkT))) := by
    have hb : Below Y4.heap.size Y4 (Y4.alloc (.cells #[.int .i64 (1 + x1), .int .i64 0, .int .i64 (1 + x2), .int .i64 (1 + x3), .int .i64 x4, .slice none 0 0, .string ⟨#[]⟩] PkT)) := (Below.refl _ _).alloc (Nat.le_refl _) _
    exact ⟨C4.out.below hb, O4.out.trans (.of_below hb), R4.out.next hb, VarA.new _ _ _, ⟨[], _, rfl, .inl ⟨rfl, rfl, rfl⟩⟩, R4.out.lt, hcs⟩
  clear C4 O4 R4
  generalize Y4.alloc (.cells #[.int .i64 (1 + x1), .int .i64 0, .int .i64 (1 + x2), .int .i64 (1 + x3), .int .i64 x4, .slice none 0 0, .string ⟨#[]⟩] PkT) = Z0 at *
  generalize Y4.heap.size = q at *
  generalize 1 + x1 = op at *
  generalize 1 + x2 = fr at *
  generalize 1 + x3 = dst at *
  generalize x4 = num at *
  have p0 : Z0.cell? ⟨q, 0, none⟩ = some (.int .i64 op) := D0.out.var.cell 0
  go_upto_if 19 with fail
  go_cut [19] (fun _ wx => ∃ (num : Int) (body : ByteArray), body.size ≤ 8 ∧ DK c a len cap w q #[.int .i64 op, .int .i64 0, .int .i64 fr, .int .i64 dst, .int .i64 num, .slice none 0 0, .string body] (.slice none 0 0) [] wx)
  case first =>
    by_cases hop : op = 2
    · have hbq : (op == 2) = true := by rw [beq_iff_eq]; exact hop
      have c4 : Z0.cell? ⟨q, 4, none⟩ = some (.int .i64 num) := D0.out.var.cell 4
      have f4 := D0.out.var.free 4
      have D1 := Lib.hid (D0.out.set 4 (.int .i64 0))
      clear hop
      go_wp2_with fail
      go_meet
      exact ⟨0, ⟨#[]⟩, by show 0 ≤ _; omega, D1.out⟩
    · have hbq : (op == 2) = false := by rw [beq_eq_false_iff_ne]; exact hop
      clear hop
      go_wp2_with fail
      refine (below_any 9 (by omega) (by omega) _ D0.out.cur).mono ?_
      rintro e Z1 ⟨y, y0, y1, rfl, hc1, ho1⟩
      have D1 := Lib.hid (D0.out.step hc1 ho1)
      clear hc1 ho1 D0
      obtain ⟨n, rfl⟩ : ∃ n : Nat, y = (n : Int) := ⟨y.toNat, by omega⟩
      go_wp2_with fail
      refine (text_any n (by omega) _ D1.out.cur).mono ?_
      rintro e Z2 ⟨l, hl, rfl, hc2, ho2⟩
      have D2 := Lib.hid (D1.out.step hc2 ho2)
      clear hc2 ho2 D1
      have hls : (⟨l.toArray⟩ : ByteArray).size ≤ 8 := by show l.length ≤ 8; omega
      generalize (⟨l.toArray⟩ : ByteArray) = body at *
      have c6 : Z2.cell? ⟨q, 6, none⟩ = some (.string ⟨#[]⟩) := D2.out.var.cell 6
      have f6 := D2.out.var.free 6
      have D3 := Lib.hid (D2.out.set 6 (.string body))
      clear D2
      go_wp2_with fail
      go_meet
      exact ⟨num, body, hls, D3.out⟩
  case rest =>
    obtain ⟨num, body, hbs, hD⟩ := hcut
    generalize wc = Z3 at *
    clear D0 p0
    have D3 := Lib.hid hD
    clear hD
    have p0 : Z3.cell? ⟨q, 0, none⟩ = some (.int .i64 op) := D3.out.var.cell 0
    go_upto_if 28 with fail
    go_cut [28] (fun _ wx => ∃ (key : Int) (va : Option Addr) (vc : Nat) (xs : List Int), xs.length ≤ 3 ∧ DK c a len cap w q #[.int .i64 op, .int .i64 key, .int .i64 fr, .int .i64 dst, .int .i64 num, .slice va xs.length vc, .string body] (.slice va xs.length vc) xs wx)
    case first =>
      generalize (op != 3) = bb
      cases bb
      · go_wp2_with fail
        refine (below_any 8 (by omega) (by omega) _ D3.out.cur).mono ?_
        rintro e Z4 ⟨y, y0, y1, rfl, hc1, ho1⟩
        have D4 := Lib.hid (D3.out.step hc1 ho1)
        clear hc1 ho1 D3
        have c1 : Z4.cell? ⟨q, 1, none⟩ = some (.int .i64 0) := D4.out.var.cell 1
        have f1 := D4.out.var.free 1
        have D5 := Lib.hid (D4.out.set 1 (.int .i64 y))
        clear D4
        go_wp2_with fail
        go_meet
        exact ⟨y, none, 0, [], by simp, D5.out⟩
      · clear p0
        go_wp2_with fail
        go_loopw [4] (fun i wr => ∃ (k : Nat) (va : Option Addr) (vc : Nat) (xs : List Int), k ≤ 3 ∧ i = .int .i64 k ∧ Hid (xs.length = k) ∧ DK c a len cap w q #[.int .i64 op, .int .i64 0, .int .i64 fr, .int .i64 dst, .int .i64 num, .slice va xs.length vc, .string body] (.slice va xs.length vc) xs wr) (fun i _ => 4 - (intOf i).toNat)
        case atStart => exact ⟨0, none, 0, [], by omega, rfl, rfl, D3.out⟩
        case round =>
          obtain ⟨k, va, vc, xs, hk, rfl, HXL, hD⟩ := hrel
          have D4 := Lib.hid hD
          clear hD D3
          have hx3 : xs.length ≤ 3 := by have := HXL.out; omega
          go_wp2_with fail
          refine (below_any 4 (by omega) (by omega) _ D4.out.cur).mono ?_
          rintro e Z5 ⟨y, y0, y1, rfl, hc1, ho1⟩
          have D5 := Lib.hid (D4.out.step hc1 ho1)
          clear hc1 ho1 D4
          by_cases hlt : (k : Int) < y
          · have DD := Lib.hid D5.out.drew
            have s5 : Z5.cell? ⟨q, 5, none⟩ = some (.slice va xs.length vc) := D5.out.var.cell 5
            have s6 : Z5.drew.cell? ⟨q, 5, none⟩ = some (.slice va xs.length vc) := DD.out.var.cell 5
            have hxs : xs.length + 1 ≤ 1000000000 := by omega
            go_wp2_with fail
            go_region_law (first | (go_simp; refine (below_any 9 (by omega) (by omega) _ DD.out.cur).mono ?_; rintro e v1 ⟨z, z0, z1, rfl, hcz, hoz⟩; have E1 := DD.out.step hcz hoz; have hS : v1.cell? ⟨q, 5, none⟩ = some (.slice va xs.length vc) := E1.var.cell 5; have hwz : IntKind.i64.wrap (1 + z) = 1 + z := (by rw [IntKind.wrap_i64]; omega); have hS3 : (v1.alloc (.cells #[.int .i64 (1 + z)] 3)).cell? ⟨q, 5, none⟩ = some (.slice va xs.length vc) := (E1.alloc (.cells #[.int .i64 (1 + z)] 3)).var.cell 5; obtain ⟨fp, hown⟩ := (E1.alloc (.cells #[.int .i64 (1 + z)] 3)).own; have hws := (E1.alloc (.cells #[.int .i64 (1 + z)] 3)).var.lt; simp only []) | (refine step_pushOne rfl (.tmp 36) (.tmp 40) 24 rfl (q + 1) 3 i0 (.int .i64 0) 8 Lay.int flatIntP Tryd.underlying24 hi hz0 hsz0 hby0 rfl (by omega) (.slice va xs.length vc) fp xs (by first | rfl | simp [Act.eval, Act.put]) hown (1 + z) [.int .i64 (1 + z)] (int_rd.2 rfl) ⟨v1.heap.size, 0, none⟩ (by first | rfl | simp [Act.eval, Act.put]) (lit_cells_at v1 #[.int .i64 (1 + z)] 3) hxs hws ?_; intro v' w' hw1 hw2 hw3 hw4; obtain ⟨g', cp', rfl, hfq, _, _⟩ := flat_some flatIntP hw1 hw2; have E2 := Lib.hid (DK.grown (E1.alloc (.cells #[.int .i64 (1 + z)] 3)) ⟨_, hw1⟩ hw3); have g5 := E2.out.var.free 5; have hS2 : w'.cell? ⟨q, 5, none⟩ = some (.slice va xs.length vc) := E2.out.var.cell 5))
            all_goals
              have E3 := Lib.hid (E2.out.set 5 (.slice (some ⟨g', 0, none⟩) (xs ++ [1 + z]).length cp'))
              have hlr : (xs ++ [1 + z]).length = xs.length + 1 := by simp
              have HXL2 : Hid ((xs ++ [1 + z]).length = k + 1) := by show _ = _; rw [hlr, HXL.out]
              have hk3 : k + 1 ≤ 3 := by omega
              rw [hlr] at E3
              clear hw1 hw2 hw3 hw4 hcz hoz E1 E2 hown
              go_wp2_with fail
              go_roundw
              case rel => exact ⟨k + 1, some ⟨g', 0, none⟩, cp', xs ++ [1 + z], hk3, by go_num, HXL2, by rw [hlr]; exact E3.out⟩
              case measure => simp [intOf]; omega
          · go_wp2_with fail
            go_meet
            exact ⟨0, va, vc, xs, hx3, D5.out⟩
    case rest =>
      obtain ⟨key, va, vc, xs, hx3, hD⟩ := hcut
      generalize wc = Z6 at *
      have D6 := Lib.hid hD
      clear hD D3 p0
      have FIN := Lib.hid (D6.out.done (op := op) (key := key) (fr := fr) (dst := dst) (num := num) 3 hx3 (show body.size ≤ 200 by omega))
      have p0 : Z6.cell? ⟨q, 0, none⟩ = some (.int .i64 op) := D6.out.var.cell 0
      have p1 : Z6.cell? ⟨q, 1, none⟩ = some (.int .i64 key) := D6.out.var.cell 1
      have p2 : Z6.cell? ⟨q, 2, none⟩ = some (.int .i64 fr) := D6.out.var.cell 2
      have p3 : Z6.cell? ⟨q, 3, none⟩ = some (.int .i64 dst) := D6.out.var.cell 3
      have p4 : Z6.cell? ⟨q, 4, none⟩ = some (.int .i64 num) := D6.out.var.cell 4
      have p5 : Z6.cell? ⟨q, 5, none⟩ = some (.slice va xs.length vc) := D6.out.var.cell 5
      have p6 : Z6.cell? ⟨q, 6, none⟩ = some (.string body) := D6.out.var.cell 6
      have g0 := D6.out.res.free 0
      have g1 := D6.out.res.free 1
      have g2 := D6.out.res.free 2
      have g3 := D6.out.res.free 3
      have g4 := D6.out.res.free 4
      have g5 := D6.out.res.free 5
      have g6 := D6.out.res.free 6
      have q0 : Z6.cell? ⟨w.heap.size, 0, none⟩ = some (.int .i64 0) := D6.out.res.cell 0
      have q1 : Z6.cell? ⟨w.heap.size, 1, none⟩ = some (.int .i64 0) := D6.out.res.cell 1
      have q2 : Z6.cell? ⟨w.heap.size, 2, none⟩ = some (.int .i64 0) := D6.out.res.cell 2
      have q3 : Z6.cell? ⟨w.heap.size, 3, none⟩ = some (.int .i64 0) := D6.out.res.cell 3
      have q4 : Z6.cell? ⟨w.heap.size, 4, none⟩ = some (.int .i64 0) := D6.out.res.cell 4
      have q5 : Z6.cell? ⟨w.heap.size, 5, none⟩ = some (.slice none 0 0) := D6.out.res.cell 5
      have q6 : Z6.cell? ⟨w.heap.size, 6, none⟩ = some (.string ⟨#[]⟩) := D6.out.res.cell 6
      have R7 := set_seven (p0 := .int .i64 op) (p1 := .int .i64 key) (p2 := .int .i64 fr) (p3 := .int .i64 dst) (p4 := .int .i64 num) (p5 := .slice va xs.length vc) (p6 := .string body) D6.out.res
      have j0 := R7.cell 0
      have j1 := R7.cell 1
      have j2 := R7.cell 2
      have j3 := R7.cell 3
      have j4 := R7.cell 4
      have j5 := R7.cell 5
      have j6 := R7.cell 6
      clear R7 D6
      go_wp2_with fail
      exact bodyPost_ret (v := .agg #[.int .i64 op, .int .i64 key, .int .i64 fr, .int .i64 dst, .int .i64 num, .slice va xs.length vc, .string body]) (by simp [results, Tryd.results35, go_sem, j0, j1, j2, j3, j4, j5, j6]) rfl FIN.out

end Go.Proofs.YtdhacjpdlmnlmadDoor

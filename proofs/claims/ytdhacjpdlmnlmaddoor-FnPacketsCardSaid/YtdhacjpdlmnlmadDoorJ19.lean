/-
  A drawn packet, right or not.
-/
import Derived.Test.YtdhacjpdlmnlmadDoorJ18
namespace Go.Proofs.YtdhacjpdlmnlmadDoor
open Go.RowKit

theorem own_offI {X : World} {T : TypeId} {b G : Nat} {f : List Nat} {v : Value} {xs : List Int} {cs : Array Value} (h : layIntS.own X b f [v] xs) (hv : VarA G T cs X) (hT : T ≠ 3) : G ∉ f := by
  obtain ⟨us, ho, _, rfl⟩ := flat_inv flatIntP h
  intro hg
  rcases ho.2 with ⟨rfl, _⟩ | ⟨g', cap, cur, rfl, _, hb, _⟩
  · simp [blk, Value.ownBlock] at hg
  · have : G = g' := by simpa [blk, Value.ownBlock] using hg
    subst this
    rw [hv.row] at hb
    injection hb with hb
    injection hb with _ hb
    exact hT hb

theorem own_slice {X : World} {b : Nat} {f : List Nat} {v : Value} {xs : List Int} (h : layIntS.own X b f [v] xs) : ∃ (va : Option Addr) (vc : Nat), v = .slice va xs.length vc := by
  obtain ⟨u, hu, h⟩ := h
  injection hu with hu
  subst hu
  rcases h with ⟨rfl, rfl, _⟩ | ⟨g, cap, us, fq, rfl, _⟩
  · exact ⟨none, 0, rfl⟩
  · exact ⟨some ⟨g, 0, none⟩, cap, rfl⟩

/-- The cursor, the result, the packet in its variable, its row, which may lie ahead of it. -/
structure DA (c : Nat) (a : Option Addr) (len cap : Nat) (w : World) (q : Nat) (cs : Array Value) (v : Value) (xs : List Int) (X : World) : Prop where
  cur : Cur c a len cap X
  only : Only c w X
  res : VarA w.heap.size PkT #[.int .i64 0, .int .i64 0, .int .i64 0, .int .i64 0, .int .i64 0, .slice none 0 0, .string ⟨#[]⟩] X
  var : VarA q PkT cs X
  own : ∃ f, layIntS.own X (w.heap.size + 1) f [v] xs
  lt : w.heap.size < q
  cl : c < w.heap.size
section
variable {c : Nat} {a : Option Addr} {len cap : Nat} {w : World} {q : Nat} {cs : Array Value} {v : Value} {xs : List Int} {X Y : World}
theorem DA.next (h : DA c a len cap w q cs v xs X) (hb : Below X.heap.size X Y) : DA c a len cap w q cs v xs Y :=
  ⟨h.cur.below hb, h.only.trans (.of_below hb), h.res.next hb, h.var.next hb, h.own.imp fun _ hf => layIntS.next hf hb, h.lt, h.cl⟩
theorem DA.drew (h : DA c a len cap w q cs v xs X) : DA c a len cap w q cs v xs X.drew := h.next ((Below.refl _ X).drew)
theorem DA.alloc (h : DA c a len cap w q cs v xs X) (o : Obj) : DA c a len cap w q cs v xs (X.alloc o) := h.next ((Below.refl _ X).alloc (Nat.le_refl _) o)
theorem DA.step (h : DA c a len cap w q cs v xs X) (hc : Cur c a len cap Y) (ho : Only c X Y) : DA c a len cap w q cs v xs Y := by
  have h1 := h.cl
  have h2 := h.lt
  exact ⟨hc, h.only.trans ho, h.res.only ho (by omega), h.var.only ho (by omega), h.own.imp fun _ hf => lay_only layIntS hf ho (by omega), h.lt, h.cl⟩
theorem DA.set (h : DA c a len cap w q cs v xs X) (j : Nat) (u : Value) : DA c a len cap w q (cs.setIfInBounds j u) v xs (X.setCell ⟨q, j, none⟩ u) := by
  have h1 := h.cl
  have h2 := h.lt
  have ho : Only q X (X.setCell ⟨q, j, none⟩ u) := Only.setCell j u
  have hb : Below q X (X.setCell ⟨q, j, none⟩ u) := only_below ho (Nat.le_refl _) (Nat.le_of_lt h.var.lt)
  obtain ⟨f, hf⟩ := h.own
  have hn := own_offI hf h.var (by decide)
  exact ⟨h.cur.kept hb (by omega), h.only.behind (hb.mono (by omega)), h.res.only ho (by omega), h.var.set j u, ⟨f, layIntS.chg hf (only_chg ho) (fun g hg hg2 => by rw [List.mem_singleton] at hg2; subst hg2; exact hn hg)⟩, h.lt, h.cl⟩
/-- The row has grown. -/
theorem DA.grown (h : DA c a len cap w q cs v xs X) {v' : Value} {ys : List Int} (hown : ∃ f, layIntS.own Y (w.heap.size + 1) f [v'] ys) (hb : Below (w.heap.size + 1) X Y) (hg : X.grownBy Y v.ownBlock) : DA c a len cap w q cs v' ys Y := by
  have h1 := h.cl
  have h2 := h.lt
  obtain ⟨f, hf⟩ := h.own
  have hn := own_offI hf h.var (by decide)
  have hv : VarA q PkT cs Y := by
    refine ⟨?_⟩
    obtain ⟨us, ho, _, rfl⟩ := flat_inv flatIntP hf
    rw [hg.block q h.var.lt (fun e => hn (by unfold blk; rw [← e]; simp))]
    exact h.var.row
  exact ⟨h.cur.kept hb (by omega), h.only.behind (hb.mono (by omega)), h.res.keep hb (by omega), hv, hown, h.lt, h.cl⟩
theorem DA.done {op key fr dst num : Int} {body : ByteArray} (h : DA c a len cap w q cs v xs X) (m : Nat) (hm : xs.length ≤ m) (hb : body.size ≤ 200) :
    DrewPk m c a len cap w (.returned (.agg #[.int .i64 op, .int .i64 key, .int .i64 fr, .int .i64 dst, .int .i64 num, v, .string body])) (((((((X.setCell ⟨w.heap.size, 0, none⟩ (.int .i64 op)).setCell ⟨w.heap.size, 1, none⟩ (.int .i64 key)).setCell ⟨w.heap.size, 2, none⟩ (.int .i64 fr)).setCell ⟨w.heap.size, 3, none⟩ (.int .i64 dst)).setCell ⟨w.heap.size, 4, none⟩ (.int .i64 num)).setCell ⟨w.heap.size, 5, none⟩ v).setCell ⟨w.heap.size, 6, none⟩ (.string body)) := by
  have h1 := h.cl
  have h2 := h.lt
  have O7 := only_seven X w.heap.size (.int .i64 op) (.int .i64 key) (.int .i64 fr) (.int .i64 dst) (.int .i64 num) v (.string body)
  have hb7 := only_below O7 (Nat.le_refl _) h.only.size
  exact ⟨op, key, fr, dst, num, v, xs, body, hm, hb, rfl, own_seven _ _ _ _ _ _ _ h.own (by omega) (by omega), h.cur.kept hb7 (by omega), h.only.behind hb7⟩
end

set_option maxRecDepth 100000 in
set_option maxHeartbeats 3200000 in
theorem anyPacket_any {c : Nat} {a : Option Addr} {len cap : Nat} (w : World) (H : Cur c a len cap w) :
    Calls Tryd.prog 15 #[.pointer (some ⟨c, 0, none⟩)] w (DrewPk 4 c a len cap w) := by
  have hcs : c < w.heap.size := cell_size (p := ⟨c, 0, none⟩) H.c0
  have hB0 : Below w.heap.size w (w.alloc (.cells #[.int .i64 0, .int .i64 0, .int .i64 0, .int .i64 0, .int .i64 0, .slice none 0 0, .string ⟨#[]⟩] PkT)) := (Below.refl _ _).alloc (Nat.le_refl _) _
  have R0 := Lib.hid (VarA.new w PkT #[.int .i64 0, .int .i64 0, .int .i64 0, .int .i64 0, .int .i64 0, .slice none 0 0, .string ⟨#[]⟩])
  have C0 := Lib.hid (H.below hB0)
  have O0 := Lib.hid (show Only c w _ from .of_below hB0)
  have S0 : Hid ((w.alloc (.cells #[.int .i64 0, .int .i64 0, .int .i64 0, .int .i64 0, .int .i64 0, .slice none 0 0, .string ⟨#[]⟩] PkT)).heap.size = w.heap.size + 1) := by show _ = _; simp
  obtain ⟨i0, hi, hz0, hsz0, hby0⟩ := info_of infoInt
  clear H hB0
  go_enter Tryd.func15, Tryd.ntmps15
  go_upto_region 1 with fail
  generalize w.alloc (.cells #[.int .i64 0, .int .i64 0, .int .i64 0, .int .i64 0, .int .i64 0, .slice none 0 0, .string ⟨#[]⟩] PkT) = Y0 at *
  go_wp2_with fail
  refine (packet_any _ C0.out).mono ?_
  rintro e Y1 ⟨op, key, fr, dst, num, v, xs, body, hx, hbs, rfl, hown, hc1, ho1⟩
  rw [S0.out] at hown
  obtain ⟨va, vc, rfl⟩ : ∃ (va : Option Addr) (vc : Nat), v = .slice va xs.length vc := own_slice hown.choose_spec
  have D0 : Hid (DA c a len cap w Y1.heap.size #[.int .i64 op, .int .i64 key, .int .i64 fr, .int .i64 dst, .int .i64 num, .slice va xs.length vc, .string body] (.slice va xs.length vc) xs (Y1.alloc (.cells #[.int .i64 op, .int .i64 key, .int .i64 fr, .int .i64 dst, .int .i64 num, .slice va xs.length vc, .string body] PkT))) := by
    have hb : Below Y1.heap.size Y1 (Y1.alloc (.cells #[.int .i64 op, .int .i64 key, .int .i64 fr, .int .i64 dst, .int .i64 num, .slice va xs.length vc, .string body] PkT)) := (Below.refl _ _).alloc (Nat.le_refl _) _
    have hR1 := R0.out.only ho1 (by omega)
    exact ⟨hc1.below hb, (O0.out.trans ho1).trans (.of_below hb), hR1.next hb, VarA.new _ _ _, hown.imp fun _ hf => layIntS.next hf hb, hR1.lt, hcs⟩
  clear hc1 ho1 hown C0 O0 R0 S0
  go_upto_region 2 with fail
  generalize Y1.alloc (.cells #[.int .i64 op, .int .i64 key, .int .i64 fr, .int .i64 dst, .int .i64 num, .slice va xs.length vc, .string body] PkT) = Z0 at *
  generalize Y1.heap.size = q at *
  go_wp2_with fail
  refine (below_any 20 (by omega) (by omega) _ D0.out.cur).mono ?_
  rintro e Z1 ⟨y, y0, y1, rfl, hc1, ho1⟩
  have D1 := Lib.hid (D0.out.step hc1 ho1)
  clear hc1 ho1 D0
  go_upto_block 0 with fail
  go_cut [7] (fun _ wx => ∃ (op key fr dst num : Int) (va : Option Addr) (vc : Nat) (xs : List Int) (body : ByteArray), xs.length ≤ 4 ∧ body.size ≤ 200 ∧ DA c a len cap w q #[.int .i64 op, .int .i64 key, .int .i64 fr, .int .i64 dst, .int .i64 num, .slice va xs.length vc, .string body] (.slice va xs.length vc) xs wx)
  case first =>
    have h7 : y = 0 ∨ y = 1 ∨ y = 2 ∨ y = 3 ∨ y = 4 ∨ y = 5 ∨ 6 ≤ y := by omega
    rcases h7 with rfl | rfl | rfl | rfl | rfl | rfl | h6
    · have hqs : c < Z1.heap.size := by have := D1.out.cl; have := D1.out.only.size; omega
      have DX := Lib.hid (D1.out.alloc (.cells #[.int .i64 0, .int .i64 2, .int .i64 3, .int .i64 4] 3))
      go_wp2_with fail
      refine (pickInt_any Z1.heap.size 4 [0, 2, 3, 4] rfl (by omega) (by omega) (by omega) _ DX.out.cur ?_).mono ?_
      · intro j hj
        have h8 : j = 0 ∨ j = 1 ∨ j = 2 ∨ j = 3 := by omega
        rcases h8 with rfl | rfl | rfl | rfl <;> simp
      rintro e Z2 ⟨x, _, rfl, hc2, ho2⟩
      have D2 := Lib.hid (DX.out.step hc2 ho2)
      clear hc2 ho2 D1 DX
      have cj : Z2.cell? ⟨q, 0, none⟩ = some (.int .i64 op) := D2.out.var.cell 0
      have fj := D2.out.var.free 0
      have D3 := Lib.hid (D2.out.set 0 (.int .i64 x))
      clear D2
      go_wp2_with fail
      go_meet
      exact ⟨x, key, fr, dst, num, va, vc, xs, body, by omega, hbs, D3.out⟩
    · have hqs : c < Z1.heap.size := by have := D1.out.cl; have := D1.out.only.size; omega
      have DX := Lib.hid (D1.out.alloc (.cells #[.int .i64 (-1), .int .i64 7, .int .i64 8] 3))
      go_wp2_with fail
      refine (pickInt_any Z1.heap.size 3 [-1, 7, 8] rfl (by omega) (by omega) (by omega) _ DX.out.cur ?_).mono ?_
      · intro j hj
        have h8 : j = 0 ∨ j = 1 ∨ j = 2 := by omega
        rcases h8 with rfl | rfl | rfl <;> simp
      rintro e Z2 ⟨x, _, rfl, hc2, ho2⟩
      have D2 := Lib.hid (DX.out.step hc2 ho2)
      clear hc2 ho2 D1 DX
      have cj : Z2.cell? ⟨q, 1, none⟩ = some (.int .i64 key) := D2.out.var.cell 1
      have fj := D2.out.var.free 1
      have D3 := Lib.hid (D2.out.set 1 (.int .i64 x))
      clear D2
      go_wp2_with fail
      go_meet
      exact ⟨op, x, fr, dst, num, va, vc, xs, body, by omega, hbs, D3.out⟩
    · have hqs : c < Z1.heap.size := by have := D1.out.cl; have := D1.out.only.size; omega
      have DX := Lib.hid (D1.out.alloc (.cells #[.int .i64 0, .int .i64 99, .int .i64 100] 3))
      go_wp2_with fail
      refine (pickInt_any Z1.heap.size 3 [0, 99, 100] rfl (by omega) (by omega) (by omega) _ DX.out.cur ?_).mono ?_
      · intro j hj
        have h8 : j = 0 ∨ j = 1 ∨ j = 2 := by omega
        rcases h8 with rfl | rfl | rfl <;> simp
      rintro e Z2 ⟨x, _, rfl, hc2, ho2⟩
      have D2 := Lib.hid (DX.out.step hc2 ho2)
      clear hc2 ho2 D1 DX
      have cj : Z2.cell? ⟨q, 2, none⟩ = some (.int .i64 fr) := D2.out.var.cell 2
      have fj := D2.out.var.free 2
      have D3 := Lib.hid (D2.out.set 2 (.int .i64 x))
      clear D2
      go_wp2_with fail
      go_meet
      exact ⟨op, key, x, dst, num, va, vc, xs, body, by omega, hbs, D3.out⟩
    · have hqs : c < Z1.heap.size := by have := D1.out.cl; have := D1.out.only.size; omega
      have DX := Lib.hid (D1.out.alloc (.cells #[.int .i64 (-1), .int .i64 1000000000, .int .i64 1000000001] 3))
      go_wp2_with fail
      refine (pickInt_any Z1.heap.size 3 [-1, 1000000000, 1000000001] rfl (by omega) (by omega) (by omega) _ DX.out.cur ?_).mono ?_
      · intro j hj
        have h8 : j = 0 ∨ j = 1 ∨ j = 2 := by omega
        rcases h8 with rfl | rfl | rfl <;> simp
      rintro e Z2 ⟨x, _, rfl, hc2, ho2⟩
      have D2 := Lib.hid (DX.out.step hc2 ho2)
      clear hc2 ho2 D1 DX
      have cj : Z2.cell? ⟨q, 4, none⟩ = some (.int .i64 num) := D2.out.var.cell 4
      have fj := D2.out.var.free 4
      have D3 := Lib.hid (D2.out.set 4 (.int .i64 x))
      clear D2
      go_wp2_with fail
      go_meet
      exact ⟨op, key, fr, dst, x, va, vc, xs, body, by omega, hbs, D3.out⟩
    · have DD := Lib.hid D1.out.drew
      have s5 : Z1.cell? ⟨q, 5, none⟩ = some (.slice va xs.length vc) := D1.out.var.cell 5
      have s6 : Z1.drew.cell? ⟨q, 5, none⟩ = some (.slice va xs.length vc) := DD.out.var.cell 5
      have hxs : xs.length + 1 ≤ 1000000000 := by omega
      go_wp2_with fail
      go_region_law (first | (go_simp; refine (below_any 3 (by omega) (by omega) _ DD.out.cur).mono ?_; rintro e v1 ⟨z, z0, z1, rfl, hcz, hoz⟩; have E1 := DD.out.step hcz hoz; have hS : v1.cell? ⟨q, 5, none⟩ = some (.slice va xs.length vc) := E1.var.cell 5; have hS3 : (v1.alloc (.cells #[.int .i64 z] 3)).cell? ⟨q, 5, none⟩ = some (.slice va xs.length vc) := (E1.alloc (.cells #[.int .i64 z] 3)).var.cell 5; obtain ⟨fp, hown⟩ := (E1.alloc (.cells #[.int .i64 z] 3)).own; have hws : w.heap.size + 1 ≤ _ := (E1.alloc (.cells #[.int .i64 z] 3)).res.lt; simp only []) | (refine step_pushOne rfl (.tmp 35) (.tmp 38) 24 rfl (w.heap.size + 1) 3 i0 (.int .i64 0) 8 Lay.int flatIntP Tryd.underlying24 hi hz0 hsz0 hby0 rfl (by omega) (.slice va xs.length vc) fp xs (by first | rfl | simp [Act.eval, Act.put]) hown z [.int .i64 z] (int_rd.2 rfl) ⟨v1.heap.size, 0, none⟩ (by first | rfl | simp [Act.eval, Act.put]) (lit_cells_at v1 #[.int .i64 z] 3) hxs hws ?_; intro v' w' hw1 hw2 hw3 hw4; obtain ⟨g', cp', rfl, hfq, _, _⟩ := flat_some flatIntP hw1 hw2; have E2 := Lib.hid (DA.grown (E1.alloc (.cells #[.int .i64 z] 3)) ⟨_, hw1⟩ hw3 hw4); have g5 := E2.out.var.free 5; have hS2 : w'.cell? ⟨q, 5, none⟩ = some (.slice va xs.length vc) := E2.out.var.cell 5))
      all_goals
        have E3 := Lib.hid (E2.out.set 5 (.slice (some ⟨g', 0, none⟩) (xs ++ [z]).length cp'))
        have hlr : (xs ++ [z]).length = xs.length + 1 := by simp
        rw [hlr] at E3
        clear hw1 hw2 hw3 hw4 hcz hoz E1 E2 hown
        go_wp2_with fail
        go_meet
        exact ⟨op, key, fr, dst, num, some ⟨g', 0, none⟩, cp', xs ++ [z], body, by rw [hlr]; omega, hbs, by rw [hlr]; exact E3.out⟩
    · go_wp2_with fail
      refine (below_any 2 (by omega) (by omega) _ D1.out.cur).mono ?_
      rintro e Z2 ⟨z, z0, z1, rfl, hc2, ho2⟩
      have D2 := Lib.hid (D1.out.step hc2 ho2)
      clear hc2 ho2 D1
      obtain ⟨n, hn, hn2⟩ : ∃ n : Nat, 120 + z = (n : Int) ∧ n ≤ 121 := ⟨(120 + z).toNat, by omega, by omega⟩
      have H5 : Hid (∀ X, Calls Tryd.prog 37 #[.int .i64 n, .int .u8 65] X fun e w' => ∃ l : List UInt8, l.length = n ∧ e = .returned (.string ⟨l.toArray⟩) ∧ Below X.heap.size X w') := long_any n (by omega) 65
      go_wp2_with fail
      refine (H5.out _).mono ?_
      rintro e Z3 ⟨l, hl, rfl, hb5⟩
      have D3 := Lib.hid (D2.out.next hb5)
      clear hb5 D2 H5
      have hls : (⟨l.toArray⟩ : ByteArray).size ≤ 200 := by show l.length ≤ 200; omega
      generalize (⟨l.toArray⟩ : ByteArray) = body2 at *
      have cj : Z3.cell? ⟨q, 6, none⟩ = some (.string body) := D3.out.var.cell 6
      have fj := D3.out.var.free 6
      have D4 := Lib.hid (D3.out.set 6 (.string body2))
      clear D3
      go_wp2_with fail
      go_meet
      exact ⟨op, key, fr, dst, num, va, vc, xs, body2, by omega, hls, D4.out⟩
    · have b0 : (y == 0) = false := by rw [beq_eq_false_iff_ne]; omega
      have b1 : (y == 1) = false := by rw [beq_eq_false_iff_ne]; omega
      have b2 : (y == 2) = false := by rw [beq_eq_false_iff_ne]; omega
      have b3 : (y == 3) = false := by rw [beq_eq_false_iff_ne]; omega
      have b4 : (y == 4) = false := by rw [beq_eq_false_iff_ne]; omega
      have b5 : (y == 5) = false := by rw [beq_eq_false_iff_ne]; omega
      go_wp2_with fail
      go_meet
      exact ⟨op, key, fr, dst, num, va, vc, xs, body, by omega, hbs, D1.out⟩
  case rest =>
    obtain ⟨op, key, fr, dst, num, va, vc, xs, body, hx4, hb2, hD⟩ := hcut
    generalize wc = Z6 at *
    have D6 := Lib.hid hD
    clear hD D1
    have FIN := Lib.hid (D6.out.done (op := op) (key := key) (fr := fr) (dst := dst) (num := num) 4 hx4 hb2)
    have p0 : Z6.cell? ⟨q, 0, none⟩ = some (.int .i64 op) := D6.out.var.cell 0
    have p1 : Z6.cell? ⟨q, 1, none⟩ = some (.int .i64 key) := D6.out.var.cell 1
    have p2 : Z6.cell? ⟨q, 2, none⟩ = some (.int .i64 fr) := D6.out.var.cell 2
    have p3 : Z6.cell? ⟨q, 3, none⟩ = some (.int .i64 dst) := D6.out.var.cell 3
    have p4 : Z6.cell? ⟨q, 4, none⟩ = some (.int .i64 num) := D6.out.var.cell 4
    have p5 : Z6.cell? ⟨q, 5, none⟩ = some (.slice va xs.length vc) := D6.out.var.cell 5
    have p6 : Z6.cell? ⟨q, 6, none⟩ = some (.string body) := D6.out.var.cell 6
    have g0 := D6.out.res.free 0
    have g1 := D6.out.res.free 1
    have g2 := D6.out.res.free 2
    have g3 := D6.out.res.free 3
    have g4 := D6.out.res.free 4
    have g5 := D6.out.res.free 5
    have g6 := D6.out.res.free 6
    have q0 : Z6.cell? ⟨w.heap.size, 0, none⟩ = some (.int .i64 0) := D6.out.res.cell 0
    have q1 : Z6.cell? ⟨w.heap.size, 1, none⟩ = some (.int .i64 0) := D6.out.res.cell 1
    have q2 : Z6.cell? ⟨w.heap.size, 2, none⟩ = some (.int .i64 0) := D6.out.res.cell 2
    have q3 : Z6.cell? ⟨w.heap.size, 3, none⟩ = some (.int .i64 0) := D6.out.res.cell 3
    have q4 : Z6.cell? ⟨w.heap.size, 4, none⟩ = some (.int .i64 0) := D6.out.res.cell 4
    have q5 : Z6.cell? ⟨w.heap.size, 5, none⟩ = some (.slice none 0 0) := D6.out.res.cell 5
    have q6 : Z6.cell? ⟨w.heap.size, 6, none⟩ = some (.string ⟨#[]⟩) := D6.out.res.cell 6
    have R7 := set_seven (p0 := .int .i64 op) (p1 := .int .i64 key) (p2 := .int .i64 fr) (p3 := .int .i64 dst) (p4 := .int .i64 num) (p5 := .slice va xs.length vc) (p6 := .string body) D6.out.res
    have j0 := R7.cell 0
    have j1 := R7.cell 1
    have j2 := R7.cell 2
    have j3 := R7.cell 3
    have j4 := R7.cell 4
    have j5 := R7.cell 5
    have j6 := R7.cell 6
    clear R7 D6
    go_wp2_with fail
    exact bodyPost_ret (v := .agg #[.int .i64 op, .int .i64 key, .int .i64 fr, .int .i64 dst, .int .i64 num, .slice va xs.length vc, .string body]) (by simp [results, Tryd.results15, go_sem, j0, j1, j2, j3, j4, j5, j6]) rfl FIN.out

end Go.Proofs.YtdhacjpdlmnlmadDoor

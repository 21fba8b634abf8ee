/-
  Shelves that are drawn.
-/
import Derived.Test.YthiicpbedgcmlaaJ29
import Derived.Test.YthiicpbedgcmlaaJ31
import Derived.Test.YthiicpbedgcmlaaJ14
import Derived.Test.YthiicpbedgcmlaaJ10
import Derived.Test.YthiicpbedgcmlaaJ09
import Derived.Test.YthiicpbedgcmlaaJ05
namespace Go.Proofs.Ythiicpbedgcmlaa
open Go.RowKit

/-- The cursor, the result, the shelf in its variable. -/
structure SD (c : Nat) (a : Option Addr) (len cap : Nat) (w : World) (q : Nat) (v : Value) (xs : List HeldD) (X : World) : Prop where
  cur : Cur c a len cap X
  only : Only c w X
  res : VarA w.heap.size ShelfT #[.slice none 0 0] X
  var : VarA q ShelfT #[v] X
  own : ∃ b f, layHeldC.own X b f [v] xs ∧ q < b
  lt : w.heap.size < q
  cl : c < w.heap.size
/-- The parts of a text, of later blocks. -/
structure SL (q : Nat) (l : Value) (parts : List ByteArray) (X : World) : Prop where
  own : ∃ b f, layStringS.own X b f [l] parts ∧ q < b
section
variable {c : Nat} {a : Option Addr} {len cap : Nat} {w : World} {q : Nat} {v l : Value} {xs : List HeldD} {parts : List ByteArray} {X Y : World}
theorem SD.next (h : SD c a len cap w q v xs X) (hb : Below X.heap.size X Y) : SD c a len cap w q v xs Y := by
  obtain ⟨b, f, h1, h2⟩ := h.own
  exact ⟨h.cur.below hb, h.only.trans (.of_below hb), h.res.next hb, h.var.next hb, ⟨b, f, layHeldC.next h1 hb, h2⟩, h.lt, h.cl⟩
theorem SD.drew (h : SD c a len cap w q v xs X) : SD c a len cap w q v xs X.drew := h.next (Below.refl _ X).drew
theorem SD.step (h : SD c a len cap w q v xs X) (hc : Cur c a len cap Y) (ho : Only c X Y) : SD c a len cap w q v xs Y := by
  obtain ⟨b, f, h1, h2⟩ := h.own
  have k1 := h.cl
  have k2 := h.lt
  exact ⟨hc, h.only.trans ho, h.res.only ho (by omega), h.var.only ho (by omega), ⟨b, f, layHeldC.keep h1 (fun g hg => ho.block g (layHeldC.blocks h1 g hg).2 (by have := (layHeldC.blocks h1 g hg).1; omega)), h2⟩, h.lt, h.cl⟩
theorem SD.held (h : SD c a len cap w q v xs X) : layHeldS.rd X [v] xs := by
  obtain ⟨b, f, h1, _⟩ := h.own
  exact layHeldC.read h1
/-- Another shelf is put into the variable. -/
theorem SD.put (h : SD c a len cap w q v xs X) {u : Value} {ys : List HeldD} {b : Nat} {f : List Nat} (ho : layHeldC.own X b f [u] ys) (hq : q < b) : SD c a len cap w q u ys (X.setCell ⟨q, 0, none⟩ u) := by
  have k1 := h.cl
  have k2 := h.lt
  have hb : Below q X (X.setCell ⟨q, 0, none⟩ u) := (Only.setCell (c := q) (w := X) 0 u).below (Nat.le_refl _) (Nat.le_of_lt h.var.lt)
  exact ⟨h.cur.kept hb (by omega), h.only.behind (hb.mono (by omega)), h.res.only (Only.setCell (c := q) (w := X) 0 u) (by omega), h.var.set 0 u, ⟨b, f, layHeldC.keep ho (fun g hg => (Only.setCell (c := q) (w := X) 0 u).block g (layHeldC.blocks ho g hg).2 (by have := (layHeldC.blocks ho g hg).1; omega)), hq⟩, h.lt, h.cl⟩
theorem SL.next (h : SL q l parts X) (hb : Below X.heap.size X Y) : SL q l parts Y := by
  obtain ⟨b, f, h1, h2⟩ := h.own
  exact ⟨b, f, layStringS.next h1 hb, h2⟩
theorem SL.step (h : SL q l parts X) (hc : c < q) (ho : Only c X Y) : SL q l parts Y := by
  obtain ⟨b, f, h1, h2⟩ := h.own
  exact ⟨b, f, layStringS.keep h1 (fun g hg => ho.block g (layStringS.blocks h1 g hg).2 (by have := (layStringS.blocks h1 g hg).1; omega)), h2⟩
theorem SL.rd (h : SL q l parts X) : layStringS.rd X [l] parts := by
  obtain ⟨b, f, h1, _⟩ := h.own
  exact layStringS.read h1
theorem SL.put (h : SL q l parts X) (u : Value) : SL q l parts (X.setCell ⟨q, 0, none⟩ u) := by
  obtain ⟨b, f, h1, h2⟩ := h.own
  exact ⟨b, f, layStringS.keep h1 (fun g hg => (Only.setCell (c := q) (w := X) 0 u).block g (layStringS.blocks h1 g hg).2 (by have := (layStringS.blocks h1 g hg).1; omega)), h2⟩
theorem shelf_put {u : Value} {ys : List HeldD} (h : Hid (SD c a len cap w q v xs X)) (ho : Hid (∃ b f, layHeldC.own X b f [u] ys ∧ q < b)) : Hid (SD c a len cap w q u ys (X.setCell ⟨q, 0, none⟩ u)) := by
  obtain ⟨b, f, h1, h2⟩ := ho.out
  exact Lib.hid (h.out.put h1 h2)
theorem parts_cell {g og n gk id size : Nat} {s : ByteArray} (h : SL q (.slice (some ⟨g, og, none⟩) n gk) (partsP id n size s n) X) {j : Nat} (hj : j < n) : X.cell? ⟨g, og + j, none⟩ = some (.string (partP id n size s j)) := by
  have hg : (partsP id n size s n)[j]? = some (partP id n size s j) := by
    unfold partsP
    rw [List.getElem?_map, List.getElem?_range hj]
    rfl
  obtain ⟨g', og', cs, he, _, hr, hc⟩ := rows_elem h.rd j _ hg
  obtain ⟨rfl, rfl⟩ : g = g' ∧ og = og' := by simpa using he
  rw [layString_rd] at hr
  subst hr
  have h1 : X.cell? ⟨g, og + j * 1, none⟩ = some (.string (partP id n size s j)) := hc 0 _ rfl
  rw [Nat.mul_one] at h1
  exact h1
end
theorem held_few {xs : List HeldD} (h : ShelfP xs) : xs.length ≤ 10000000 ∧ ∀ x ∈ xs, x.2.2.2.1.length ≤ 10000000 ∧ x.2.2.2.2.1.length ≤ 10000000 := by
  refine ⟨by have := h.1; omega, fun x hx => ?_⟩
  obtain ⟨⟨_, _, h3, h4, h5, _⟩, _⟩ := h.2.1 x hx
  omega

set_option maxRecDepth 100000 in
set_option maxHeartbeats 6400000 in
theorem l20Shelf_any {c : Nat} {a : Option Addr} {len cap : Nat} (w : World) (H : Cur c a len cap w) :
    Calls Try.prog 11 #[.pointer (some ⟨c, 0, none⟩)] w fun e w' => ∃ (va : Option Addr) (mv vk : Nat) (xs : List HeldD) (b : Nat) (f : List Nat), ShelfP xs ∧ e = .returned (.agg #[.slice va mv vk]) ∧ layHeldC.own w' b f [.slice va mv vk] xs ∧ c < b ∧ Cur c a len cap w' ∧ Only c w w' := by
  obtain ⟨Q, HQ⟩ : ∃ Q : Ending → World → Prop, Hid (Q = fun e w' => ∃ (va : Option Addr) (mv vk : Nat) (xs : List HeldD) (b : Nat) (f : List Nat), ShelfP xs ∧ e = .returned (.agg #[.slice va mv vk]) ∧ layHeldC.own w' b f [.slice va mv vk] xs ∧ c < b ∧ Cur c a len cap w' ∧ Only c w w') := ⟨_, Lib.hid rfl⟩
  rw [← HQ.out]
  have hcs : c < w.heap.size := cell_size (p := ⟨c, 0, none⟩) H.c0
  have hb1 : Below w.heap.size w (w.alloc (.cells #[.slice none 0 0] ShelfT)) := (Below.refl _ _).alloc (Nat.le_refl _) _
  have e1 : (w.alloc (.cells #[.slice none 0 0] ShelfT)).heap.size = w.heap.size + 1 := by simp
  have hb2 : Below w.heap.size w ((w.alloc (.cells #[.slice none 0 0] ShelfT)).alloc (.cells #[.slice none 0 0] ShelfT)) := hb1.alloc (by omega) _
  have hv := VarA.new (w.alloc (.cells #[.slice none 0 0] ShelfT)) ShelfT #[.slice none 0 0]
  rw [e1] at hv
  have D0 : Hid (SD c a len cap w (w.heap.size + 1) (.slice none 0 0) [] ((w.alloc (.cells #[.slice none 0 0] ShelfT)).alloc (.cells #[.slice none 0 0] ShelfT))) :=
    Lib.hid ⟨H.below hb2, .of_below hb2, (VarA.new w ShelfT #[.slice none 0 0]).alloc _, hv, ⟨w.heap.size + 2, [], room_of (none_rows _ _), by omega⟩, by omega, hcs⟩
  clear H hb1 hb2 hv e1
  go_enter Try.func11, Try.ntmps11
  go_upto_region 2 with fail
  generalize (w.alloc (.cells #[.slice none 0 0] ShelfT)).alloc (.cells #[.slice none 0 0] ShelfT) = Y0 at *
  obtain ⟨q, hq⟩ : ∃ q, q = w.heap.size + 1 := ⟨_, rfl⟩
  rw [← hq] at D0
  try simp only [← hq]
  clear hq
  go_wp2_with fail
  go_loopw [4] (fun i wr => ∃ (k : Nat) (va : Option Addr) (mv vk : Nat) (xs : List HeldD), k ≤ 8 ∧ i = .int .i64 k ∧ Hid (ShelfP xs ∧ SD c a len cap w q (.slice va mv vk) xs wr)) (fun i _ => 9 - (intOf i).toNat)
  case atStart => exact ⟨0, _, _, _, [], by omega, rfl, Lib.hid ⟨⟨by simp, by simp, List.Pairwise.nil⟩, D0.out⟩⟩
  case round =>
    obtain ⟨k, va, mv, vk, xs, hk, rfl, HD⟩ := hrel
    clear D0
    have HP := Lib.hid HD.out.1
    have D1 := Lib.hid HD.out.2
    clear HD
    go_wp2_with fail
    refine (below_any 9 (by omega) (by omega) _ D1.out.cur).mono ?_
    rintro e w1 ⟨y, y0, y1, rfl, hc1, ho1⟩
    have D2 := Lib.hid (D1.out.step hc1 ho1)
    clear D1 hc1 ho1
    by_cases hlt : (k : Int) < y
    · have hk7 : k ≤ 7 := by omega
      have hwk : IntKind.i64.wrap ((k : Int) + 1) = (k : Int) + 1 := by rw [IntKind.wrap_i64]; omega
      go_wp2_with fail
      refine (below_any 3 (by omega) (by omega) _ D2.out.cur).mono ?_
      rintro e w2 ⟨id, id0, id1, rfl, hc1, ho1⟩
      have D3 := Lib.hid (D2.out.step hc1 ho1)
      clear D2 hc1 ho1
      go_wp2_with fail
      refine (l20Long_any _ D3.out.cur).mono ?_
      rintro e w3 ⟨s, hs, rfl, hc1, ho1⟩
      have D4 := Lib.hid (D3.out.step hc1 ho1)
      clear D3 hc1 ho1
      go_wp2_with fail
      refine (below_any 20 (by omega) (by omega) _ D4.out.cur).mono ?_
      rintro e w4 ⟨sz, sz0, sz1, rfl, hc1, ho1⟩
      have D5 := Lib.hid (D4.out.step hc1 ho1)
      clear D4 hc1 ho1
      obtain ⟨id, rfl⟩ := Int.eq_ofNat_of_zero_le id0
      obtain ⟨size, hsize⟩ := Int.eq_ofNat_of_zero_le (show 0 ≤ 20 + sz by omega)
      have h20 : 20 ≤ size := by omega
      have h39 : size ≤ 39 := by omega
      obtain ⟨n, HN⟩ : ∃ n, Hid (countP s.size size = n) := ⟨_, Lib.hid rfl⟩
      have hnn := count_few (n := s.size) (size := size) (by omega) h20
      rw [HN.out] at hnn
      have hsplit : SplitIs (id : Int) s (size : Int) (partsP id n size s n) true := by
        refine .inl ⟨rfl, ⟨by omega, by omega, by omega⟩, ?_⟩
        rw [Int.toNat_natCast, Int.toNat_natCast, HN.out]
      have hlen := partsP_length id n size s n
      have K2 := Lib.hid (fun X => specPieces_any id s size _ true hsplit (by omega) X)
      have hwz : IntKind.i64.wrap (20 + sz) = (size : Int) := by rw [IntKind.wrap_i64]; omega
      clear hsplit HN y0 y1 sz0 sz1 id0 id1 hsize
      go_wp2_with fail
      refine (K2.out _).mono ?_
      rintro e w5 ⟨v1, f1, rfl, _, o1, hb⟩
      have hql := D5.out.var.lt
      have D6 := Lib.hid (D5.out.next hb)
      obtain ⟨ga, gk, hv1⟩ := rows_form (layStringS.read o1)
      rw [hlen] at hv1
      subst hv1
      obtain ⟨g, og, hga⟩ : ∃ g og, ga = some ⟨g, og, none⟩ := by
        have hg : (partsP id n size s n)[0]? = some (partP id n size s 0) := by
          unfold partsP
          rw [List.getElem?_map, List.getElem?_range (by omega)]
          rfl
        obtain ⟨g, og, cs, he, _, _, _⟩ := rows_elem (layStringS.read o1) 0 _ hg
        exact ⟨g, og, he⟩
      subst hga
      have L6 : Hid (SL q (.slice (some ⟨g, og, none⟩) n gk) (partsP id n size s n) w5) := Lib.hid ⟨_, _, o1, hql⟩
      clear o1 hb K2 D5 hql hlen
      go_upto_region 7 with fail
      have HSZ := Lib.hid (fun j : Nat => part_size (id := id) (count := n) (s := s) (i := j) (show size ≤ 120 by omega))
      have hn1 : (1 : Int) ≤ (n : Int) := by omega
      have hn15 : (n : Int) ≤ 15 := by omega
      clear hnn hs
      have rr : Hid (SD c a len cap w q (.slice va mv vk) xs w5.drew) := Lib.hid D6.out.drew
      have E0 : Hid (SL q (.slice (some ⟨g, og, none⟩) n gk) (partsP id n size s n) w5.drew) := Lib.hid (L6.out.next (Below.refl _ w5).drew)
      clear D6 L6
      go_wp2_with fail
      refine wp_region_held_drew (S := fun X => Hid (SL q (.slice (some ⟨g, og, none⟩) n gk) (partsP id n size s n) X)) (by kernel_rfl) E0 (fun hHeld => ?_)
      clear E0
      generalize w5.drew = X0 at *
      refine wpAnyH_take (i := 1) (v := ?_) rfl (by kernel_rfl) (by kernel_rfl) (by kernel_rfl) (fun _ _ _ h => h) (Or.inl ⟨by kernel_rfl, ?_⟩) hHeld ?_
      rotate_left
      · intro X hX
        first | (go_simp; done) | (go_simp; with_reducible rfl)
      try simp only [Act.put, List.getElem_toArray, List.getElem_cons_succ, List.getElem_cons_zero, List.setIfInBounds_toArray, List.set_cons_zero, List.set_cons_succ]
      refine wpAnyH_take (i := 4) (v := ?_) rfl (by kernel_rfl) (by kernel_rfl) (by kernel_rfl) (fun _ _ _ h => h) (Or.inl ⟨by kernel_rfl, ?_⟩) hHeld ?_
      rotate_left
      · intro X hX
        first | (go_simp; done) | (go_simp; with_reducible rfl)
      try simp only [Act.put, List.getElem_toArray, List.getElem_cons_succ, List.getElem_cons_zero, List.setIfInBounds_toArray, List.set_cons_zero, List.set_cons_succ]
      refine wpAnyH_take (i := 5) (v := ?_) rfl (by kernel_rfl) (by kernel_rfl) (by kernel_rfl) (fun _ _ _ h => h) (Or.inl ⟨by kernel_rfl, ?_⟩) hHeld ?_
      rotate_left
      · intro X hX
        first | (go_simp; done) | (go_simp; with_reducible rfl)
      try simp only [Act.put, List.getElem_toArray, List.getElem_cons_succ, List.getElem_cons_zero, List.setIfInBounds_toArray, List.set_cons_zero, List.set_cons_succ]
      refine wpAnyH_take (i := 6) (v := ?_) rfl (by kernel_rfl) (by kernel_rfl) (by kernel_rfl) (fun _ _ _ h => h) (Or.inl ⟨by kernel_rfl, ?_⟩) hHeld ?_
      rotate_left
      · intro X hX
        first | (go_simp; done) | (go_simp; with_reducible rfl)
      try simp only [Act.put, List.getElem_toArray, List.getElem_cons_succ, List.getElem_cons_zero, List.setIfInBounds_toArray, List.set_cons_zero, List.set_cons_succ]
      refine wpAnyH_take (i := 7) (v := ?_) rfl (by kernel_rfl) (by kernel_rfl) (by kernel_rfl) (fun _ _ _ h => h) (Or.inl ⟨by kernel_rfl, ?_⟩) hHeld ?_
      rotate_left
      · intro X hX
        first | (go_simp; done) | (go_simp; with_reducible rfl)
      try simp only [Act.put, List.getElem_toArray, List.getElem_cons_succ, List.getElem_cons_zero, List.setIfInBounds_toArray, List.set_cons_zero, List.set_cons_succ]
      refine wpAnyH_take (i := 11) (v := ?_) rfl (by kernel_rfl) (by kernel_rfl) (by kernel_rfl) (fun _ _ _ h => h) (Or.inl ⟨by kernel_rfl, ?_⟩) hHeld ?_
      rotate_left
      · intro X hX
        first | (go_simp; done) | (go_simp; with_reducible rfl)
      try simp only [Act.put, List.getElem_toArray, List.getElem_cons_succ, List.getElem_cons_zero, List.setIfInBounds_toArray, List.set_cons_zero, List.set_cons_succ]
      refine wpAnyH_ready (rs := [0, 2]) (by kernel_rfl) (by simp) ?_
      refine AllReadyH.cons rfl (fun K hK => ?_) (AllReadyH.cons rfl (fun K hK => ?_) AllReadyH.nil)
      · have r0_ := rr.out.var.cell 0
        go_simp
        refine hK.out _ _ hHeld (fun hHeld => ?_)
        clear hK K r0_
        try simp only [Act.put, List.getElem_toArray, List.getElem_cons_succ, List.getElem_cons_zero, List.setIfInBounds_toArray, List.set_cons_zero, List.set_cons_succ]
        refine wpAnyH_ready (rs := [2]) (by kernel_rfl) (by simp) ?_
        refine AllReadyH.cons rfl (fun K hK => ?_) AllReadyH.nil
        go_simp
        go_wp2_with (go_at_call 13; refine (below_any 2 (by omega) (by omega) X0 rr.out.cur).mono ?_; rintro e X2 ⟨z1, z10, z11, rfl, hc1, ho1⟩; have hS : Hid (SL q (.slice (some ⟨g, og, none⟩) n gk) (partsP id n size s n) X2) := Lib.hid (hHeld.out.step (by have := rr.out.cl; have := rr.out.lt; omega) ho1); replace rr : Hid (SD c a len cap w q (.slice va mv vk) xs X2) := Lib.hid (rr.out.step hc1 ho1); clear hc1 ho1)
        refine hK.out _ _ hS (fun hHeld => ?_)
        clear hK K hS
        have hw1 : IntKind.i64.wrap (1 + z1) = 1 + z1 := by rw [IntKind.wrap_i64]; omega
        try simp only [Act.put, List.getElem_toArray, List.getElem_cons_succ, List.getElem_cons_zero, List.setIfInBounds_toArray, List.set_cons_zero, List.set_cons_succ]
        refine wpAnyH_take (i := 3) (v := ?_) rfl (by kernel_rfl) (by kernel_rfl) (by kernel_rfl) (fun _ _ _ h => h) (Or.inl ⟨by kernel_rfl, ?_⟩) hHeld ?_
        rotate_left
        · intro X hX
          first | (go_simp; done) | (go_simp; with_reducible rfl)
        try simp only [Act.put, List.getElem_toArray, List.getElem_cons_succ, List.getElem_cons_zero, List.setIfInBounds_toArray, List.set_cons_zero, List.set_cons_succ]
        refine wpAnyH_ready (rs := [8]) (by kernel_rfl) (by simp) ?_
        refine AllReadyH.cons rfl (fun K hK => ?_) AllReadyH.nil
        go_simp
        go_wp2_with (go_at_call 13; refine (below_any (n : Int) (by omega) (by omega) X2 rr.out.cur).mono ?_; rintro e X3 ⟨z2, z20, z21, rfl, hc1, ho1⟩; have hS : Hid (SL q (.slice (some ⟨g, og, none⟩) n gk) (partsP id n size s n) X3) := Lib.hid (hHeld.out.step (by have := rr.out.cl; have := rr.out.lt; omega) ho1); replace rr : Hid (SD c a len cap w q (.slice va mv vk) xs X3) := Lib.hid (rr.out.step hc1 ho1); clear hc1 ho1)
        refine hK.out _ _ hS (fun hHeld => ?_)
        clear hK K hS
        obtain ⟨j, rfl⟩ := Int.eq_ofNat_of_zero_le z20
        have hjn : j < n := by omega
        have hj0 : (0 : Int) ≤ (j : Int) := by omega
        have hjl : (j : Int) < (n : Int) := by omega
        have hwj : IntKind.i64.wrap (j : Int) = (j : Int) := by rw [IntKind.wrap_i64]; omega
        try simp only [Act.put, List.getElem_toArray, List.getElem_cons_succ, List.getElem_cons_zero, List.setIfInBounds_toArray, List.set_cons_zero, List.set_cons_succ]
        refine wpAnyH_take (i := 9) (v := ?_) rfl (by kernel_rfl) (by kernel_rfl) (by kernel_rfl) (fun _ _ _ h => h) (Or.inl ⟨by kernel_rfl, ?_⟩) hHeld ?_
        rotate_left
        · intro X hX
          first | (go_simp; done) | (go_simp; with_reducible rfl)
        try simp only [Act.put, List.getElem_toArray, List.getElem_cons_succ, List.getElem_cons_zero, List.setIfInBounds_toArray, List.set_cons_zero, List.set_cons_succ]
        refine wpAnyH_take (i := 10) (v := ?_) rfl (by kernel_rfl) (by kernel_rfl) (by kernel_rfl) (fun _ _ _ h => h) (Or.inl ⟨by kernel_rfl, ?_⟩) hHeld ?_
        rotate_left
        · intro X hX
          have y1 := parts_cell hX.out hjn
          first | (go_simp; done) | (go_simp; with_reducible rfl)
        try simp only [Act.put, List.getElem_toArray, List.getElem_cons_succ, List.getElem_cons_zero, List.setIfInBounds_toArray, List.set_cons_zero, List.set_cons_succ]
        refine wpAnyH_ready (rs := [12]) (by kernel_rfl) (by simp) ?_
        refine AllReadyH.cons rfl (fun K hK => ?_) AllReadyH.nil
        go_simp
        go_wp2_with (go_at_call 13; refine (below_any 20 (by omega) (by omega) X3 rr.out.cur).mono ?_; rintro e X4 ⟨z3, z30, z31, rfl, hc1, ho1⟩; have hS : Hid (SL q (.slice (some ⟨g, og, none⟩) n gk) (partsP id n size s n) X4) := Lib.hid (hHeld.out.step (by have := rr.out.cl; have := rr.out.lt; omega) ho1); replace rr : Hid (SD c a len cap w q (.slice va mv vk) xs X4) := Lib.hid (rr.out.step hc1 ho1); clear hc1 ho1)
        refine hK.out _ _ hS (fun hHeld => ?_)
        clear hK K hS
        try simp only [Act.put, List.getElem_toArray, List.getElem_cons_succ, List.getElem_cons_zero, List.setIfInBounds_toArray, List.set_cons_zero, List.set_cons_succ]
        refine wpAnyH_ready (rs := [13]) (by kernel_rfl) (by simp) ?_
        refine AllReadyH.cons rfl (fun K hK => ?_) AllReadyH.nil
        obtain ⟨ys, wh, dn, hadd⟩ := add_is xs (1 + z1) (partP id n size s j) z3
        have hfew := held_few HP.out
        have KA := Lib.hid (specAddPart_any (.slice va mv vk) xs (1 + z1) (partP id n size s j) z3 ys wh dn hadd hfew.1 hfew.2 (by have := HSZ.out j; omega) X4 rr.out.held)
        have HY := Lib.hid (add_right HP.out hadd)
        clear hadd hfew
        go_simp
        go_wp2_with (go_at_call 7; refine (KA.out).mono ?_; rintro e X5 ⟨v', fp, rfl, _, hown, hb0⟩; have hS : Hid (SL q (.slice (some ⟨g, og, none⟩) n gk) (partsP id n size s n) X5) := Lib.hid (hHeld.out.next hb0); have hqX : q < X4.heap.size := rr.out.var.lt; obtain ⟨ua, uk, hu⟩ := rows_form (e := HeldT) (A := layHeld) (layHeldC.read hown); obtain ⟨um, hum⟩ : ∃ um, um = ys.length := ⟨_, rfl⟩; rw [← hum] at hu; subst hu; have OWN : Hid (∃ b f, layHeldC.own X5 b f [.slice ua um uk] ys ∧ q < b) := Lib.hid ⟨_, _, hown, hqX⟩; replace rr : Hid (SD c a len cap w q (.slice va mv vk) xs X5) := Lib.hid (rr.out.next hb0); clear hb0 hown hqX hum)
        refine hK.out _ _ hS (fun hHeld => ?_)
        clear hK K hS KA
        try simp only [Act.put, List.getElem_toArray, List.getElem_cons_succ, List.getElem_cons_zero, List.setIfInBounds_toArray, List.set_cons_zero, List.set_cons_succ]
        refine wpAnyH_take (i := 14) (v := ?_) rfl (by kernel_rfl) (by kernel_rfl) (by kernel_rfl) (fun _ _ _ h => h) (Or.inl ⟨by kernel_rfl, ?_⟩) hHeld ?_
        rotate_left
        · intro X hX
          first | (go_simp; done) | (go_simp; with_reducible rfl)
        try simp only [Act.put, List.getElem_toArray, List.getElem_cons_succ, List.getElem_cons_zero, List.setIfInBounds_toArray, List.set_cons_zero, List.set_cons_succ]
        refine wpAnyH_take (i := 15) (v := ?_) rfl (by kernel_rfl) (by kernel_rfl) (by kernel_rfl) (fun _ _ _ h => h) (Or.inl ⟨by kernel_rfl, ?_⟩) hHeld ?_
        rotate_left
        · intro X hX
          first | (go_simp; done) | (go_simp; with_reducible rfl)
        try simp only [Act.put, List.getElem_toArray, List.getElem_cons_succ, List.getElem_cons_zero, List.setIfInBounds_toArray, List.set_cons_zero, List.set_cons_succ]
        refine wpAnyH_take (i := 16) (v := ?_) rfl (by kernel_rfl) (by kernel_rfl) (by kernel_rfl) (fun _ _ _ h => h) (Or.inl ⟨by kernel_rfl, ?_⟩) hHeld ?_
        rotate_left
        · intro X hX
          first | (go_simp; done) | (go_simp; with_reducible rfl)
        try simp only [Act.put, List.getElem_toArray, List.getElem_cons_succ, List.getElem_cons_zero, List.setIfInBounds_toArray, List.set_cons_zero, List.set_cons_succ]
        refine wpAnyH_take (i := 17) (v := ?_) rfl (by kernel_rfl) (by kernel_rfl) (by kernel_rfl) (fun _ _ _ h => h) (Or.inl ⟨by kernel_rfl, ?_⟩) hHeld ?_
        rotate_left
        · intro X hX
          first | (go_simp; done) | (go_simp; with_reducible rfl)
        try simp only [Act.put, List.getElem_toArray, List.getElem_cons_succ, List.getElem_cons_zero, List.setIfInBounds_toArray, List.set_cons_zero, List.set_cons_succ]
        refine wpAnyH_ready (rs := [18]) (by kernel_rfl) (by simp) ?_
        refine AllReadyH.cons rfl (fun K hK => ?_) AllReadyH.nil
        have r0_ := rr.out.var.cell 0
        have g0_ := rr.out.var.free 0
        go_simp
        have DE : Hid (SD c a len cap w q (.slice ua um uk) ys (X5.setCell ⟨q, 0, none⟩ (.slice ua um uk))) := shelf_put rr OWN
        have hS : Hid (SL q (.slice (some ⟨g, og, none⟩) n gk) (partsP id n size s n) (X5.setCell ⟨q, 0, none⟩ (.slice ua um uk))) := Lib.hid (hHeld.out.put _)
        refine hK.out _ _ hS (fun hHeld => ?_)
        clear hK K hS r0_ g0_ rr OWN
        generalize (X5.setCell ⟨q, 0, none⟩ (.slice ua um uk)) = X6 at *
        try simp only [Act.put, List.getElem_toArray, List.getElem_cons_succ, List.getElem_cons_zero, List.setIfInBounds_toArray, List.set_cons_zero, List.set_cons_succ]
        refine wpAnyH_done (by kernel_rfl) ?_ _
        clear hHeld
        go_wp2_with fail
        go_roundw
        case rel => exact ⟨k + 1, ua, um, uk, ys, by omega, by go_num, Lib.hid ⟨HY.out, DE.out⟩⟩
        case measure => simp [intOf]; omega
      · go_simp
        go_wp2_with (go_at_call 13; refine (below_any 2 (by omega) (by omega) X0 rr.out.cur).mono ?_; rintro e X1 ⟨z1, z10, z11, rfl, hc1, ho1⟩; have hS : Hid (SL q (.slice (some ⟨g, og, none⟩) n gk) (partsP id n size s n) X1) := Lib.hid (hHeld.out.step (by have := rr.out.cl; have := rr.out.lt; omega) ho1); replace rr : Hid (SD c a len cap w q (.slice va mv vk) xs X1) := Lib.hid (rr.out.step hc1 ho1); clear hc1 ho1)
        refine hK.out _ _ hS (fun hHeld => ?_)
        clear hK K hS
        have hw1 : IntKind.i64.wrap (1 + z1) = 1 + z1 := by rw [IntKind.wrap_i64]; omega
        try simp only [Act.put, List.getElem_toArray, List.getElem_cons_succ, List.getElem_cons_zero, List.setIfInBounds_toArray, List.set_cons_zero, List.set_cons_succ]
        refine wpAnyH_take (i := 3) (v := ?_) rfl (by kernel_rfl) (by kernel_rfl) (by kernel_rfl) (fun _ _ _ h => h) (Or.inl ⟨by kernel_rfl, ?_⟩) hHeld ?_
        rotate_left
        · intro X hX
          first | (go_simp; done) | (go_simp; with_reducible rfl)
        try simp only [Act.put, List.getElem_toArray, List.getElem_cons_succ, List.getElem_cons_zero, List.setIfInBounds_toArray, List.set_cons_zero, List.set_cons_succ]
        refine wpAnyH_ready (rs := [0, 8]) (by kernel_rfl) (by simp) ?_
        refine AllReadyH.cons rfl (fun K hK => ?_) (AllReadyH.cons rfl (fun K hK => ?_) AllReadyH.nil)
        · have r0_ := rr.out.var.cell 0
          go_simp
          refine hK.out _ _ hHeld (fun hHeld => ?_)
          clear hK K r0_
          try simp only [Act.put, List.getElem_toArray, List.getElem_cons_succ, List.getElem_cons_zero, List.setIfInBounds_toArray, List.set_cons_zero, List.set_cons_succ]
          refine wpAnyH_ready (rs := [8]) (by kernel_rfl) (by simp) ?_
          refine AllReadyH.cons rfl (fun K hK => ?_) AllReadyH.nil
          go_simp
          go_wp2_with (go_at_call 13; refine (below_any (n : Int) (by omega) (by omega) X1 rr.out.cur).mono ?_; rintro e X3 ⟨z2, z20, z21, rfl, hc1, ho1⟩; have hS : Hid (SL q (.slice (some ⟨g, og, none⟩) n gk) (partsP id n size s n) X3) := Lib.hid (hHeld.out.step (by have := rr.out.cl; have := rr.out.lt; omega) ho1); replace rr : Hid (SD c a len cap w q (.slice va mv vk) xs X3) := Lib.hid (rr.out.step hc1 ho1); clear hc1 ho1)
          refine hK.out _ _ hS (fun hHeld => ?_)
          clear hK K hS
          obtain ⟨j, rfl⟩ := Int.eq_ofNat_of_zero_le z20
          have hjn : j < n := by omega
          have hj0 : (0 : Int) ≤ (j : Int) := by omega
          have hjl : (j : Int) < (n : Int) := by omega
          have hwj : IntKind.i64.wrap (j : Int) = (j : Int) := by rw [IntKind.wrap_i64]; omega
          try simp only [Act.put, List.getElem_toArray, List.getElem_cons_succ, List.getElem_cons_zero, List.setIfInBounds_toArray, List.set_cons_zero, List.set_cons_succ]
          refine wpAnyH_take (i := 9) (v := ?_) rfl (by kernel_rfl) (by kernel_rfl) (by kernel_rfl) (fun _ _ _ h => h) (Or.inl ⟨by kernel_rfl, ?_⟩) hHeld ?_
          rotate_left
          · intro X hX
            first | (go_simp; done) | (go_simp; with_reducible rfl)
          try simp only [Act.put, List.getElem_toArray, List.getElem_cons_succ, List.getElem_cons_zero, List.setIfInBounds_toArray, List.set_cons_zero, List.set_cons_succ]
          refine wpAnyH_take (i := 10) (v := ?_) rfl (by kernel_rfl) (by kernel_rfl) (by kernel_rfl) (fun _ _ _ h => h) (Or.inl ⟨by kernel_rfl, ?_⟩) hHeld ?_
          rotate_left
          · intro X hX
            have y1 := parts_cell hX.out hjn
            first | (go_simp; done) | (go_simp; with_reducible rfl)
          try simp only [Act.put, List.getElem_toArray, List.getElem_cons_succ, List.getElem_cons_zero, List.setIfInBounds_toArray, List.set_cons_zero, List.set_cons_succ]
          refine wpAnyH_ready (rs := [12]) (by kernel_rfl) (by simp) ?_
          refine AllReadyH.cons rfl (fun K hK => ?_) AllReadyH.nil
          go_simp
          go_wp2_with (go_at_call 13; refine (below_any 20 (by omega) (by omega) X3 rr.out.cur).mono ?_; rintro e X4 ⟨z3, z30, z31, rfl, hc1, ho1⟩; have hS : Hid (SL q (.slice (some ⟨g, og, none⟩) n gk) (partsP id n size s n) X4) := Lib.hid (hHeld.out.step (by have := rr.out.cl; have := rr.out.lt; omega) ho1); replace rr : Hid (SD c a len cap w q (.slice va mv vk) xs X4) := Lib.hid (rr.out.step hc1 ho1); clear hc1 ho1)
          refine hK.out _ _ hS (fun hHeld => ?_)
          clear hK K hS
          try simp only [Act.put, List.getElem_toArray, List.getElem_cons_succ, List.getElem_cons_zero, List.setIfInBounds_toArray, List.set_cons_zero, List.set_cons_succ]
          refine wpAnyH_ready (rs := [13]) (by kernel_rfl) (by simp) ?_
          refine AllReadyH.cons rfl (fun K hK => ?_) AllReadyH.nil
          obtain ⟨ys, wh, dn, hadd⟩ := add_is xs (1 + z1) (partP id n size s j) z3
          have hfew := held_few HP.out
          have KA := Lib.hid (specAddPart_any (.slice va mv vk) xs (1 + z1) (partP id n size s j) z3 ys wh dn hadd hfew.1 hfew.2 (by have := HSZ.out j; omega) X4 rr.out.held)
          have HY := Lib.hid (add_right HP.out hadd)
          clear hadd hfew
          go_simp
          go_wp2_with (go_at_call 7; refine (KA.out).mono ?_; rintro e X5 ⟨v', fp, rfl, _, hown, hb0⟩; have hS : Hid (SL q (.slice (some ⟨g, og, none⟩) n gk) (partsP id n size s n) X5) := Lib.hid (hHeld.out.next hb0); have hqX : q < X4.heap.size := rr.out.var.lt; obtain ⟨ua, uk, hu⟩ := rows_form (e := HeldT) (A := layHeld) (layHeldC.read hown); obtain ⟨um, hum⟩ : ∃ um, um = ys.length := ⟨_, rfl⟩; rw [← hum] at hu; subst hu; have OWN : Hid (∃ b f, layHeldC.own X5 b f [.slice ua um uk] ys ∧ q < b) := Lib.hid ⟨_, _, hown, hqX⟩; replace rr : Hid (SD c a len cap w q (.slice va mv vk) xs X5) := Lib.hid (rr.out.next hb0); clear hb0 hown hqX hum)
          refine hK.out _ _ hS (fun hHeld => ?_)
          clear hK K hS KA
          try simp only [Act.put, List.getElem_toArray, List.getElem_cons_succ, List.getElem_cons_zero, List.setIfInBounds_toArray, List.set_cons_zero, List.set_cons_succ]
          refine wpAnyH_take (i := 14) (v := ?_) rfl (by kernel_rfl) (by kernel_rfl) (by kernel_rfl) (fun _ _ _ h => h) (Or.inl ⟨by kernel_rfl, ?_⟩) hHeld ?_
          rotate_left
          · intro X hX
            first | (go_simp; done) | (go_simp; with_reducible rfl)
          try simp only [Act.put, List.getElem_toArray, List.getElem_cons_succ, List.getElem_cons_zero, List.setIfInBounds_toArray, List.set_cons_zero, List.set_cons_succ]
          refine wpAnyH_take (i := 15) (v := ?_) rfl (by kernel_rfl) (by kernel_rfl) (by kernel_rfl) (fun _ _ _ h => h) (Or.inl ⟨by kernel_rfl, ?_⟩) hHeld ?_
          rotate_left
          · intro X hX
            first | (go_simp; done) | (go_simp; with_reducible rfl)
          try simp only [Act.put, List.getElem_toArray, List.getElem_cons_succ, List.getElem_cons_zero, List.setIfInBounds_toArray, List.set_cons_zero, List.set_cons_succ]
          refine wpAnyH_take (i := 16) (v := ?_) rfl (by kernel_rfl) (by kernel_rfl) (by kernel_rfl) (fun _ _ _ h => h) (Or.inl ⟨by kernel_rfl, ?_⟩) hHeld ?_
          rotate_left
          · intro X hX
            first | (go_simp; done) | (go_simp; with_reducible rfl)
          try simp only [Act.put, List.getElem_toArray, List.getElem_cons_succ, List.getElem_cons_zero, List.setIfInBounds_toArray, List.set_cons_zero, List.set_cons_succ]
          refine wpAnyH_take (i := 17) (v := ?_) rfl (by kernel_rfl) (by kernel_rfl) (by kernel_rfl) (fun _ _ _ h => h) (Or.inl ⟨by kernel_rfl, ?_⟩) hHeld ?_
          rotate_left
          · intro X hX
            first | (go_simp; done) | (go_simp; with_reducible rfl)
          try simp only [Act.put, List.getElem_toArray, List.getElem_cons_succ, List.getElem_cons_zero, List.setIfInBounds_toArray, List.set_cons_zero, List.set_cons_succ]
          refine wpAnyH_ready (rs := [18]) (by kernel_rfl) (by simp) ?_
          refine AllReadyH.cons rfl (fun K hK => ?_) AllReadyH.nil
          have r0_ := rr.out.var.cell 0
          have g0_ := rr.out.var.free 0
          go_simp
          have DE : Hid (SD c a len cap w q (.slice ua um uk) ys (X5.setCell ⟨q, 0, none⟩ (.slice ua um uk))) := shelf_put rr OWN
          have hS : Hid (SL q (.slice (some ⟨g, og, none⟩) n gk) (partsP id n size s n) (X5.setCell ⟨q, 0, none⟩ (.slice ua um uk))) := Lib.hid (hHeld.out.put _)
          refine hK.out _ _ hS (fun hHeld => ?_)
          clear hK K hS r0_ g0_ rr OWN
          generalize (X5.setCell ⟨q, 0, none⟩ (.slice ua um uk)) = X6 at *
          try simp only [Act.put, List.getElem_toArray, List.getElem_cons_succ, List.getElem_cons_zero, List.setIfInBounds_toArray, List.set_cons_zero, List.set_cons_succ]
          refine wpAnyH_done (by kernel_rfl) ?_ _
          clear hHeld
          go_wp2_with fail
          go_roundw
          case rel => exact ⟨k + 1, ua, um, uk, ys, by omega, by go_num, Lib.hid ⟨HY.out, DE.out⟩⟩
          case measure => simp [intOf]; omega
        · go_simp
          go_wp2_with (go_at_call 13; refine (below_any (n : Int) (by omega) (by omega) X1 rr.out.cur).mono ?_; rintro e X2 ⟨z2, z20, z21, rfl, hc1, ho1⟩; have hS : Hid (SL q (.slice (some ⟨g, og, none⟩) n gk) (partsP id n size s n) X2) := Lib.hid (hHeld.out.step (by have := rr.out.cl; have := rr.out.lt; omega) ho1); replace rr : Hid (SD c a len cap w q (.slice va mv vk) xs X2) := Lib.hid (rr.out.step hc1 ho1); clear hc1 ho1)
          refine hK.out _ _ hS (fun hHeld => ?_)
          clear hK K hS
          obtain ⟨j, rfl⟩ := Int.eq_ofNat_of_zero_le z20
          have hjn : j < n := by omega
          have hj0 : (0 : Int) ≤ (j : Int) := by omega
          have hjl : (j : Int) < (n : Int) := by omega
          have hwj : IntKind.i64.wrap (j : Int) = (j : Int) := by rw [IntKind.wrap_i64]; omega
          try simp only [Act.put, List.getElem_toArray, List.getElem_cons_succ, List.getElem_cons_zero, List.setIfInBounds_toArray, List.set_cons_zero, List.set_cons_succ]
          refine wpAnyH_take (i := 9) (v := ?_) rfl (by kernel_rfl) (by kernel_rfl) (by kernel_rfl) (fun _ _ _ h => h) (Or.inl ⟨by kernel_rfl, ?_⟩) hHeld ?_
          rotate_left
          · intro X hX
            first | (go_simp; done) | (go_simp; with_reducible rfl)
          try simp only [Act.put, List.getElem_toArray, List.getElem_cons_succ, List.getElem_cons_zero, List.setIfInBounds_toArray, List.set_cons_zero, List.set_cons_succ]
          refine wpAnyH_take (i := 10) (v := ?_) rfl (by kernel_rfl) (by kernel_rfl) (by kernel_rfl) (fun _ _ _ h => h) (Or.inl ⟨by kernel_rfl, ?_⟩) hHeld ?_
          rotate_left
          · intro X hX
            have y1 := parts_cell hX.out hjn
            first | (go_simp; done) | (go_simp; with_reducible rfl)
          try simp only [Act.put, List.getElem_toArray, List.getElem_cons_succ, List.getElem_cons_zero, List.setIfInBounds_toArray, List.set_cons_zero, List.set_cons_succ]
          refine wpAnyH_ready (rs := [0, 12]) (by kernel_rfl) (by simp) ?_
          refine AllReadyH.cons rfl (fun K hK => ?_) (AllReadyH.cons rfl (fun K hK => ?_) AllReadyH.nil)
          · have r0_ := rr.out.var.cell 0
            go_simp
            refine hK.out _ _ hHeld (fun hHeld => ?_)
            clear hK K r0_
            try simp only [Act.put, List.getElem_toArray, List.getElem_cons_succ, List.getElem_cons_zero, List.setIfInBounds_toArray, List.set_cons_zero, List.set_cons_succ]
            refine wpAnyH_ready (rs := [12]) (by kernel_rfl) (by simp) ?_
            refine AllReadyH.cons rfl (fun K hK => ?_) AllReadyH.nil
            go_simp
            go_wp2_with (go_at_call 13; refine (below_any 20 (by omega) (by omega) X2 rr.out.cur).mono ?_; rintro e X4 ⟨z3, z30, z31, rfl, hc1, ho1⟩; have hS : Hid (SL q (.slice (some ⟨g, og, none⟩) n gk) (partsP id n size s n) X4) := Lib.hid (hHeld.out.step (by have := rr.out.cl; have := rr.out.lt; omega) ho1); replace rr : Hid (SD c a len cap w q (.slice va mv vk) xs X4) := Lib.hid (rr.out.step hc1 ho1); clear hc1 ho1)
            refine hK.out _ _ hS (fun hHeld => ?_)
            clear hK K hS
            try simp only [Act.put, List.getElem_toArray, List.getElem_cons_succ, List.getElem_cons_zero, List.setIfInBounds_toArray, List.set_cons_zero, List.set_cons_succ]
            refine wpAnyH_ready (rs := [13]) (by kernel_rfl) (by simp) ?_
            refine AllReadyH.cons rfl (fun K hK => ?_) AllReadyH.nil
            obtain ⟨ys, wh, dn, hadd⟩ := add_is xs (1 + z1) (partP id n size s j) z3
            have hfew := held_few HP.out
            have KA := Lib.hid (specAddPart_any (.slice va mv vk) xs (1 + z1) (partP id n size s j) z3 ys wh dn hadd hfew.1 hfew.2 (by have := HSZ.out j; omega) X4 rr.out.held)
            have HY := Lib.hid (add_right HP.out hadd)
            clear hadd hfew
            go_simp
            go_wp2_with (go_at_call 7; refine (KA.out).mono ?_; rintro e X5 ⟨v', fp, rfl, _, hown, hb0⟩; have hS : Hid (SL q (.slice (some ⟨g, og, none⟩) n gk) (partsP id n size s n) X5) := Lib.hid (hHeld.out.next hb0); have hqX : q < X4.heap.size := rr.out.var.lt; obtain ⟨ua, uk, hu⟩ := rows_form (e := HeldT) (A := layHeld) (layHeldC.read hown); obtain ⟨um, hum⟩ : ∃ um, um = ys.length := ⟨_, rfl⟩; rw [← hum] at hu; subst hu; have OWN : Hid (∃ b f, layHeldC.own X5 b f [.slice ua um uk] ys ∧ q < b) := Lib.hid ⟨_, _, hown, hqX⟩; replace rr : Hid (SD c a len cap w q (.slice va mv vk) xs X5) := Lib.hid (rr.out.next hb0); clear hb0 hown hqX hum)
            refine hK.out _ _ hS (fun hHeld => ?_)
            clear hK K hS KA
            try simp only [Act.put, List.getElem_toArray, List.getElem_cons_succ, List.getElem_cons_zero, List.setIfInBounds_toArray, List.set_cons_zero, List.set_cons_succ]
            refine wpAnyH_take (i := 14) (v := ?_) rfl (by kernel_rfl) (by kernel_rfl) (by kernel_rfl) (fun _ _ _ h => h) (Or.inl ⟨by kernel_rfl, ?_⟩) hHeld ?_
            rotate_left
            · intro X hX
              first | (go_simp; done) | (go_simp; with_reducible rfl)
            try simp only [Act.put, List.getElem_toArray, List.getElem_cons_succ, List.getElem_cons_zero, List.setIfInBounds_toArray, List.set_cons_zero, List.set_cons_succ]
            refine wpAnyH_take (i := 15) (v := ?_) rfl (by kernel_rfl) (by kernel_rfl) (by kernel_rfl) (fun _ _ _ h => h) (Or.inl ⟨by kernel_rfl, ?_⟩) hHeld ?_
            rotate_left
            · intro X hX
              first | (go_simp; done) | (go_simp; with_reducible rfl)
            try simp only [Act.put, List.getElem_toArray, List.getElem_cons_succ, List.getElem_cons_zero, List.setIfInBounds_toArray, List.set_cons_zero, List.set_cons_succ]
            refine wpAnyH_take (i := 16) (v := ?_) rfl (by kernel_rfl) (by kernel_rfl) (by kernel_rfl) (fun _ _ _ h => h) (Or.inl ⟨by kernel_rfl, ?_⟩) hHeld ?_
            rotate_left
            · intro X hX
              first | (go_simp; done) | (go_simp; with_reducible rfl)
            try simp only [Act.put, List.getElem_toArray, List.getElem_cons_succ, List.getElem_cons_zero, List.setIfInBounds_toArray, List.set_cons_zero, List.set_cons_succ]
            refine wpAnyH_take (i := 17) (v := ?_) rfl (by kernel_rfl) (by kernel_rfl) (by kernel_rfl) (fun _ _ _ h => h) (Or.inl ⟨by kernel_rfl, ?_⟩) hHeld ?_
            rotate_left
            · intro X hX
              first | (go_simp; done) | (go_simp; with_reducible rfl)
            try simp only [Act.put, List.getElem_toArray, List.getElem_cons_succ, List.getElem_cons_zero, List.setIfInBounds_toArray, List.set_cons_zero, List.set_cons_succ]
            refine wpAnyH_ready (rs := [18]) (by kernel_rfl) (by simp) ?_
            refine AllReadyH.cons rfl (fun K hK => ?_) AllReadyH.nil
            have r0_ := rr.out.var.cell 0
            have g0_ := rr.out.var.free 0
            go_simp
            have DE : Hid (SD c a len cap w q (.slice ua um uk) ys (X5.setCell ⟨q, 0, none⟩ (.slice ua um uk))) := shelf_put rr OWN
            have hS : Hid (SL q (.slice (some ⟨g, og, none⟩) n gk) (partsP id n size s n) (X5.setCell ⟨q, 0, none⟩ (.slice ua um uk))) := Lib.hid (hHeld.out.put _)
            refine hK.out _ _ hS (fun hHeld => ?_)
            clear hK K hS r0_ g0_ rr OWN
            generalize (X5.setCell ⟨q, 0, none⟩ (.slice ua um uk)) = X6 at *
            try simp only [Act.put, List.getElem_toArray, List.getElem_cons_succ, List.getElem_cons_zero, List.setIfInBounds_toArray, List.set_cons_zero, List.set_cons_succ]
            refine wpAnyH_done (by kernel_rfl) ?_ _
            clear hHeld
            go_wp2_with fail
            go_roundw
            case rel => exact ⟨k + 1, ua, um, uk, ys, by omega, by go_num, Lib.hid ⟨HY.out, DE.out⟩⟩
            case measure => simp [intOf]; omega
          · go_simp
            go_wp2_with (go_at_call 13; refine (below_any 20 (by omega) (by omega) X2 rr.out.cur).mono ?_; rintro e X3 ⟨z3, z30, z31, rfl, hc1, ho1⟩; have hS : Hid (SL q (.slice (some ⟨g, og, none⟩) n gk) (partsP id n size s n) X3) := Lib.hid (hHeld.out.step (by have := rr.out.cl; have := rr.out.lt; omega) ho1); replace rr : Hid (SD c a len cap w q (.slice va mv vk) xs X3) := Lib.hid (rr.out.step hc1 ho1); clear hc1 ho1)
            refine hK.out _ _ hS (fun hHeld => ?_)
            clear hK K hS
            try simp only [Act.put, List.getElem_toArray, List.getElem_cons_succ, List.getElem_cons_zero, List.setIfInBounds_toArray, List.set_cons_zero, List.set_cons_succ]
            refine wpAnyH_ready (rs := [0]) (by kernel_rfl) (by simp) ?_
            refine AllReadyH.cons rfl (fun K hK => ?_) AllReadyH.nil
            have r0_ := rr.out.var.cell 0
            go_simp
            refine hK.out _ _ hHeld (fun hHeld => ?_)
            clear hK K r0_
            try simp only [Act.put, List.getElem_toArray, List.getElem_cons_succ, List.getElem_cons_zero, List.setIfInBounds_toArray, List.set_cons_zero, List.set_cons_succ]
            refine wpAnyH_ready (rs := [13]) (by kernel_rfl) (by simp) ?_
            refine AllReadyH.cons rfl (fun K hK => ?_) AllReadyH.nil
            obtain ⟨ys, wh, dn, hadd⟩ := add_is xs (1 + z1) (partP id n size s j) z3
            have hfew := held_few HP.out
            have KA := Lib.hid (specAddPart_any (.slice va mv vk) xs (1 + z1) (partP id n size s j) z3 ys wh dn hadd hfew.1 hfew.2 (by have := HSZ.out j; omega) X3 rr.out.held)
            have HY := Lib.hid (add_right HP.out hadd)
            clear hadd hfew
            go_simp
            go_wp2_with (go_at_call 7; refine (KA.out).mono ?_; rintro e X5 ⟨v', fp, rfl, _, hown, hb0⟩; have hS : Hid (SL q (.slice (some ⟨g, og, none⟩) n gk) (partsP id n size s n) X5) := Lib.hid (hHeld.out.next hb0); have hqX : q < X3.heap.size := rr.out.var.lt; obtain ⟨ua, uk, hu⟩ := rows_form (e := HeldT) (A := layHeld) (layHeldC.read hown); obtain ⟨um, hum⟩ : ∃ um, um = ys.length := ⟨_, rfl⟩; rw [← hum] at hu; subst hu; have OWN : Hid (∃ b f, layHeldC.own X5 b f [.slice ua um uk] ys ∧ q < b) := Lib.hid ⟨_, _, hown, hqX⟩; replace rr : Hid (SD c a len cap w q (.slice va mv vk) xs X5) := Lib.hid (rr.out.next hb0); clear hb0 hown hqX hum)
            refine hK.out _ _ hS (fun hHeld => ?_)
            clear hK K hS KA
            try simp only [Act.put, List.getElem_toArray, List.getElem_cons_succ, List.getElem_cons_zero, List.setIfInBounds_toArray, List.set_cons_zero, List.set_cons_succ]
            refine wpAnyH_take (i := 14) (v := ?_) rfl (by kernel_rfl) (by kernel_rfl) (by kernel_rfl) (fun _ _ _ h => h) (Or.inl ⟨by kernel_rfl, ?_⟩) hHeld ?_
            rotate_left
            · intro X hX
              first | (go_simp; done) | (go_simp; with_reducible rfl)
            try simp only [Act.put, List.getElem_toArray, List.getElem_cons_succ, List.getElem_cons_zero, List.setIfInBounds_toArray, List.set_cons_zero, List.set_cons_succ]
            refine wpAnyH_take (i := 15) (v := ?_) rfl (by kernel_rfl) (by kernel_rfl) (by kernel_rfl) (fun _ _ _ h => h) (Or.inl ⟨by kernel_rfl, ?_⟩) hHeld ?_
            rotate_left
            · intro X hX
              first | (go_simp; done) | (go_simp; with_reducible rfl)
            try simp only [Act.put, List.getElem_toArray, List.getElem_cons_succ, List.getElem_cons_zero, List.setIfInBounds_toArray, List.set_cons_zero, List.set_cons_succ]
            refine wpAnyH_take (i := 16) (v := ?_) rfl (by kernel_rfl) (by kernel_rfl) (by kernel_rfl) (fun _ _ _ h => h) (Or.inl ⟨by kernel_rfl, ?_⟩) hHeld ?_
            rotate_left
            · intro X hX
              first | (go_simp; done) | (go_simp; with_reducible rfl)
            try simp only [Act.put, List.getElem_toArray, List.getElem_cons_succ, List.getElem_cons_zero, List.setIfInBounds_toArray, List.set_cons_zero, List.set_cons_succ]
            refine wpAnyH_take (i := 17) (v := ?_) rfl (by kernel_rfl) (by kernel_rfl) (by kernel_rfl) (fun _ _ _ h => h) (Or.inl ⟨by kernel_rfl, ?_⟩) hHeld ?_
            rotate_left
            · intro X hX
              first | (go_simp; done) | (go_simp; with_reducible rfl)
            try simp only [Act.put, List.getElem_toArray, List.getElem_cons_succ, List.getElem_cons_zero, List.setIfInBounds_toArray, List.set_cons_zero, List.set_cons_succ]
            refine wpAnyH_ready (rs := [18]) (by kernel_rfl) (by simp) ?_
            refine AllReadyH.cons rfl (fun K hK => ?_) AllReadyH.nil
            have r0_ := rr.out.var.cell 0
            have g0_ := rr.out.var.free 0
            go_simp
            have DE : Hid (SD c a len cap w q (.slice ua um uk) ys (X5.setCell ⟨q, 0, none⟩ (.slice ua um uk))) := shelf_put rr OWN
            have hS : Hid (SL q (.slice (some ⟨g, og, none⟩) n gk) (partsP id n size s n) (X5.setCell ⟨q, 0, none⟩ (.slice ua um uk))) := Lib.hid (hHeld.out.put _)
            refine hK.out _ _ hS (fun hHeld => ?_)
            clear hK K hS r0_ g0_ rr OWN
            generalize (X5.setCell ⟨q, 0, none⟩ (.slice ua um uk)) = X6 at *
            try simp only [Act.put, List.getElem_toArray, List.getElem_cons_succ, List.getElem_cons_zero, List.setIfInBounds_toArray, List.set_cons_zero, List.set_cons_succ]
            refine wpAnyH_done (by kernel_rfl) ?_ _
            clear hHeld
            go_wp2_with fail
            go_roundw
            case rel => exact ⟨k + 1, ua, um, uk, ys, by omega, by go_num, Lib.hid ⟨HY.out, DE.out⟩⟩
            case measure => simp [intOf]; omega
    · have c0 : w1.cell? ⟨q, 0, none⟩ = some (.slice va mv vk) := D2.out.var.cell 0
      have r0 : w1.cell? ⟨w.heap.size, 0, none⟩ = some (.slice none 0 0) := D2.out.res.cell 0
      have fr := D2.out.res.free 0
      have n0 := (D2.out.res.set 0 (.slice va mv vk)).cell 0
      have E : Hid (Q (.returned (.agg #[.slice va mv vk])) (w1.setCell ⟨w.heap.size, 0, none⟩ (.slice va mv vk))) := Lib.hid (by
        rw [HQ.out]
        obtain ⟨b, f, ho, hqb⟩ := D2.out.own
        have k1 := D2.out.cl
        have k2 := D2.out.lt
        have hS := Only.setCell (c := w.heap.size) (w := w1) 0 (.slice va mv vk)
        have hb : Below w.heap.size w1 (w1.setCell ⟨w.heap.size, 0, none⟩ (.slice va mv vk)) := hS.below (Nat.le_refl _) (Nat.le_of_lt D2.out.res.lt)
        exact ⟨va, mv, vk, xs, b, f, HP.out, rfl, layHeldC.keep ho (fun g hg => hS.block g (layHeldC.blocks ho g hg).2 (by have := (layHeldC.blocks ho g hg).1; omega)), by omega, D2.out.cur.kept hb k1, D2.out.only.behind hb⟩)
      clear D2 HP
      go_wp2_with fail
      exact bodyPost_ret (v := .agg #[.slice va mv vk]) (by simp [results, Try.results11, go_sem, n0]) rfl E.out

/-- What is drawn, but for the cursor and the result. -/
structure SM (c : Nat) (w : World) (q : Nat) (v : Value) (xs : List HeldD) (l : Value) (parts : List ByteArray) (X : World) : Prop where
  below : Below w.heap.size w X
  var : VarA q ShelfT #[v] X
  own : ∃ b f, layHeldC.own X b f [v] xs ∧ c < b
  list : SL q l parts X
  lt : w.heap.size < c ∧ c < q
section
variable {c : Nat} {w : World} {q : Nat} {v l : Value} {xs : List HeldD} {parts : List ByteArray} {X Y : World}
theorem SM.next (h : SM c w q v xs l parts X) (hb : Below X.heap.size X Y) : SM c w q v xs l parts Y := by
  obtain ⟨b, f, h1, h2⟩ := h.own
  exact ⟨h.below.trans (hb.mono h.below.size), h.var.next hb, ⟨b, f, layHeldC.next h1 hb, h2⟩, h.list.next hb, h.lt⟩
theorem SM.step {d : Nat} (h : SM c w q v xs l parts X) (hd : w.heap.size ≤ d ∧ d ≤ c) (ho : Only d X Y) : SM c w q v xs l parts Y := by
  obtain ⟨b, f, h1, h2⟩ := h.own
  have k := h.lt
  exact ⟨h.below.trans (ho.below hd.1 h.below.size), h.var.only ho (by omega), ⟨b, f, layHeldC.keep h1 (fun g hg => ho.block g (layHeldC.blocks h1 g hg).2 (by have := (layHeldC.blocks h1 g hg).1; omega)), h2⟩, h.list.step (by omega) ho, h.lt⟩
theorem SM.held (h : SM c w q v xs l parts X) : layHeldS.rd X [v] xs := by
  obtain ⟨b, f, h1, _⟩ := h.own
  exact layHeldC.read h1
end

set_option maxRecDepth 100000 in
set_option maxHeartbeats 6400000 in
theorem drawShelf_any (a : Option Addr) (len cap : Nat) (w : World) (H : Src a len w) :
    Calls Try.prog 5 #[.slice a len cap] w fun e w' => ∃ (va : Option Addr) (mv vk : Nat) (xs : List HeldD) (t : ByteArray) (now : Int), ShelfP xs ∧ t.size ≤ 200 ∧ (0 ≤ now ∧ now ≤ 29) ∧ e = .returned (.tuple #[.agg #[.slice va mv vk], .string t, .int .i64 now]) ∧ layHeldS.rd w' [.slice va mv vk] xs ∧ Below w.heap.size w w' := by
  obtain ⟨Q, HQ⟩ : ∃ Q : Ending → World → Prop, Hid (Q = fun e w' => ∃ (va : Option Addr) (mv vk : Nat) (xs : List HeldD) (t : ByteArray) (now : Int), ShelfP xs ∧ t.size ≤ 200 ∧ (0 ≤ now ∧ now ≤ 29) ∧ e = .returned (.tuple #[.agg #[.slice va mv vk], .string t, .int .i64 now]) ∧ layHeldS.rd w' [.slice va mv vk] xs ∧ Below w.heap.size w w') := ⟨_, Lib.hid rfl⟩
  rw [← HQ.out]
  have hb1 : Below w.heap.size w (w.alloc (.cells #[.slice none 0 0] ShelfT)) := (Below.refl _ _).alloc (Nat.le_refl _) _
  have e1 : (w.alloc (.cells #[.slice none 0 0] ShelfT)).heap.size = w.heap.size + 1 := by simp
  have rr := Lib.hid (VarA.new w ShelfT #[.slice none 0 0])
  have HS := Lib.hid (H.below hb1)
  have B0 := Lib.hid hb1
  clear H hb1
  go_enter Try.func5, Try.ntmps5
  go_upto_region 1 with fail
  generalize w.alloc (.cells #[.slice none 0 0] ShelfT) = Y0 at *
  go_wp2_with fail
  refine (new_any a len cap _ HS.out).mono ?_
  rintro e w1 ⟨c, rfl, hcl, hcur, hb⟩
  have hwc : w.heap.size < c := by omega
  have HC := Lib.hid hcur
  have B1 := Lib.hid (B0.out.trans (hb.mono B0.out.size))
  have R1 := Lib.hid (rr.out.next hb)
  have hcs : c < w1.heap.size := cell_size (p := ⟨c, 0, none⟩) hcur.c0
  clear hcur hb rr B0 HS hcl e1
  go_wp2_with fail
  refine (l20Shelf_any _ HC.out).mono ?_
  rintro e w2 ⟨va, mv, vk, xs, b, f, hP, rfl, hown, hcb, hcur, ho⟩
  have HP := Lib.hid hP
  have OW := Lib.hid hown
  have ho2 := ho
  replace HC := Lib.hid hcur
  have B2 := Lib.hid (B1.out.trans (ho2.below (by omega) B1.out.size))
  have R2 := Lib.hid (R1.out.only ho2 (by omega))
  have hcq : c < w2.heap.size := cell_size (p := ⟨c, 0, none⟩) hcur.c0
  clear hcur ho ho2 hown hP B1 R1 hcs
  go_upto_region 3 with fail
  have hal : Below w2.heap.size w2 (w2.alloc (.cells #[.slice va mv vk] ShelfT)) := (Below.refl _ _).alloc (Nat.le_refl _) _
  have V3 := Lib.hid (VarA.new w2 ShelfT #[.slice va mv vk])
  replace HC := Lib.hid (HC.out.below hal)
  replace OW := Lib.hid (layHeldC.next OW.out hal)
  have B3 := Lib.hid (B2.out.trans (hal.mono B2.out.size))
  have R3 := Lib.hid (R2.out.next hal)
  clear hal B2 R2
  generalize w2.alloc (.cells #[.slice va mv vk] ShelfT) = w3 at *
  generalize w2.heap.size = q at *
  have D3 : Hid (Below w.heap.size w w3 ∧ VarA q ShelfT #[.slice va mv vk] w3 ∧ (∃ b f, layHeldC.own w3 b f [.slice va mv vk] xs ∧ c < b) ∧ VarA w.heap.size ShelfT #[.slice none 0 0] w3) := Lib.hid ⟨B3.out, V3.out, ⟨_, _, OW.out, hcb⟩, R3.out⟩
  have DS : Hid (∀ X Y : World, (Below w.heap.size w X ∧ VarA q ShelfT #[.slice va mv vk] X ∧ (∃ b f, layHeldC.own X b f [.slice va mv vk] xs ∧ c < b) ∧ VarA w.heap.size ShelfT #[.slice none 0 0] X) → Only c X Y → (Below w.heap.size w Y ∧ VarA q ShelfT #[.slice va mv vk] Y ∧ (∃ b f, layHeldC.own Y b f [.slice va mv vk] xs ∧ c < b) ∧ VarA w.heap.size ShelfT #[.slice none 0 0] Y)) := Lib.hid (by
    rintro X Y ⟨h1, h2, ⟨b, f, h3, h4⟩, h5⟩ ho
    exact ⟨h1.trans (ho.below (by omega) h1.size), h2.only ho (by omega), ⟨b, f, layHeldC.keep h3 (fun g hg => ho.block g (layHeldC.blocks h3 g hg).2 (by have := (layHeldC.blocks h3 g hg).1; omega)), h4⟩, h5.only ho (by omega)⟩)
  clear OW B3 V3 R3 hcb
  go_wp2_with fail
  refine (below_any 3 (by omega) (by omega) _ HC.out).mono ?_
  rintro e w4 ⟨id, id0, id1, rfl, hcur, ho⟩
  replace HC := Lib.hid hcur
  replace D3 := Lib.hid (DS.out _ _ D3.out ho)
  clear hcur ho
  go_wp2_with fail
  refine (l20Long_any _ HC.out).mono ?_
  rintro e w5 ⟨s, hs, rfl, hcur, ho⟩
  replace HC := Lib.hid hcur
  replace D3 := Lib.hid (DS.out _ _ D3.out ho)
  clear hcur ho
  go_wp2_with fail
  refine (below_any 20 (by omega) (by omega) _ HC.out).mono ?_
  rintro e w6 ⟨sz, sz0, sz1, rfl, hcur, ho⟩
  replace HC := Lib.hid hcur
  replace D3 := Lib.hid (DS.out _ _ D3.out ho)
  clear hcur ho DS
  obtain ⟨id, rfl⟩ := Int.eq_ofNat_of_zero_le id0
  obtain ⟨size, hsize⟩ := Int.eq_ofNat_of_zero_le (show 0 ≤ 20 + sz by omega)
  have h20 : 20 ≤ size := by omega
  have h39 : size ≤ 39 := by omega
  obtain ⟨n, HN⟩ : ∃ n, Hid (countP s.size size = n) := ⟨_, Lib.hid rfl⟩
  have hnn := count_few (n := s.size) (size := size) (by omega) h20
  rw [HN.out] at hnn
  have hsplit : SplitIs (id : Int) s (size : Int) (partsP id n size s n) true := by
    refine .inl ⟨rfl, ⟨by omega, by omega, by omega⟩, ?_⟩
    rw [Int.toNat_natCast, Int.toNat_natCast, HN.out]
  have hlen := partsP_length id n size s n
  have K2 := Lib.hid (fun X => specPieces_any id s size _ true hsplit (by omega) X)
  have hwz : IntKind.i64.wrap (20 + sz) = (size : Int) := by rw [IntKind.wrap_i64]; omega
  clear hsplit HN sz0 sz1 id0 id1 hsize
  go_wp2_with fail
  refine (K2.out _).mono ?_
  rintro e w7 ⟨v1, f1, rfl, _, o1, hb⟩
  have hql := D3.out.2.1.lt
  obtain ⟨ga, gk, hv1⟩ := rows_form (layStringS.read o1)
  rw [hlen] at hv1
  subst hv1
  obtain ⟨g, og, hga⟩ : ∃ g og, ga = some ⟨g, og, none⟩ := by
    have hg : (partsP id n size s n)[0]? = some (partP id n size s 0) := by
      unfold partsP
      rw [List.getElem?_map, List.getElem?_range (by omega)]
      rfl
    obtain ⟨g, og, cs, he, _, _, _⟩ := rows_elem (layStringS.read o1) 0 _ hg
    exact ⟨g, og, he⟩
  subst hga
  have M7 : Hid (SM c w q (.slice va mv vk) xs (.slice (some ⟨g, og, none⟩) n gk) (partsP id n size s n) w7) := Lib.hid (by
    obtain ⟨h1, h2, ⟨b, f, h3, h4⟩, h5⟩ := D3.out
    exact ⟨h1.trans (hb.mono h1.size), h2.next hb, ⟨b, f, layHeldC.next h3 hb, h4⟩, ⟨_, _, o1, hql⟩, hwc, hcq⟩)
  have rr := Lib.hid (D3.out.2.2.2.next hb)
  replace HC := Lib.hid (HC.out.below hb)
  clear o1 hb K2 D3 hql hlen
  have HSZ := Lib.hid (fun j : Nat => part_size (id := id) (count := n) (s := s) (i := j) (show size ≤ 120 by omega))
  have hn1 : (1 : Int) ≤ (n : Int) := by omega
  have hn15 : (n : Int) ≤ 15 := by omega
  clear hnn hs
  go_upto_region 6 with fail
  have E0 : Hid (SM c w q (.slice va mv vk) xs (.slice (some ⟨g, og, none⟩) n gk) (partsP id n size s n) w7.drew) := Lib.hid (M7.out.next (Below.refl _ w7).drew)
  replace rr := Lib.hid (rr.out.drew)
  replace HC : Hid (Cur c a len cap w7.drew) := Lib.hid (HC.out.below (Below.refl _ w7).drew)
  clear M7
  go_wp2_with fail
  refine wp_region_held_drew (S := fun X => Hid (SM c w q (.slice va mv vk) xs (.slice (some ⟨g, og, none⟩) n gk) (partsP id n size s n) X)) (by kernel_rfl) E0 (fun hHeld => ?_)
  clear E0
  generalize w7.drew = X0 at *
  refine wpAnyH_take (i := 0) (v := ?_) rfl (by kernel_rfl) (by kernel_rfl) (by kernel_rfl) (fun _ _ _ h => h) (Or.inl ⟨by kernel_rfl, ?_⟩) hHeld ?_
  rotate_left
  · intro X hX
    have y0 := hX.out.var.cell 0
    first | (go_simp; done) | (go_simp; with_reducible rfl)
  try simp only [Act.put, List.getElem_toArray, List.getElem_cons_zero, List.setIfInBounds_toArray, List.set_cons_zero, List.set_cons_succ]
  refine wpAnyH_take (i := 1) (v := ?_) rfl (by kernel_rfl) (by kernel_rfl) (by kernel_rfl) (fun _ _ _ h => h) (Or.inl ⟨by kernel_rfl, ?_⟩) hHeld ?_
  rotate_left
  · intro X hX
    first | (go_simp; done) | (go_simp; with_reducible rfl)
  try simp only [Act.put, List.getElem_toArray, List.getElem_cons_succ, List.getElem_cons_zero, List.setIfInBounds_toArray, List.set_cons_zero, List.set_cons_succ]
  refine wpAnyH_take (i := 2) (v := ?_) rfl (by kernel_rfl) (by kernel_rfl) (by kernel_rfl) (fun _ _ _ h => h) (Or.inl ⟨by kernel_rfl, ?_⟩) hHeld ?_
  rotate_left
  · intro X hX
    first | (go_simp; done) | (go_simp; with_reducible rfl)
  try simp only [Act.put, List.getElem_toArray, List.getElem_cons_succ, List.getElem_cons_zero, List.setIfInBounds_toArray, List.set_cons_zero, List.set_cons_succ]
  refine wpAnyH_take (i := 3) (v := ?_) rfl (by kernel_rfl) (by kernel_rfl) (by kernel_rfl) (fun _ _ _ h => h) (Or.inl ⟨by kernel_rfl, ?_⟩) hHeld ?_
  rotate_left
  · intro X hX
    first | (go_simp; done) | (go_simp; with_reducible rfl)
  try simp only [Act.put, List.getElem_toArray, List.getElem_cons_succ, List.getElem_cons_zero, List.setIfInBounds_toArray, List.set_cons_zero, List.set_cons_succ]
  refine wpAnyH_take (i := 4) (v := ?_) rfl (by kernel_rfl) (by kernel_rfl) (by kernel_rfl) (fun _ _ _ h => h) (Or.inl ⟨by kernel_rfl, ?_⟩) hHeld ?_
  rotate_left
  · intro X hX
    first | (go_simp; done) | (go_simp; with_reducible rfl)
  try simp only [Act.put, List.getElem_toArray, List.getElem_cons_succ, List.getElem_cons_zero, List.setIfInBounds_toArray, List.set_cons_zero, List.set_cons_succ]
  refine wpAnyH_take (i := 8) (v := ?_) rfl (by kernel_rfl) (by kernel_rfl) (by kernel_rfl) (fun _ _ _ h => h) (Or.inl ⟨by kernel_rfl, ?_⟩) hHeld ?_
  rotate_left
  · intro X hX
    first | (go_simp; done) | (go_simp; with_reducible rfl)
  try simp only [Act.put, List.getElem_toArray, List.getElem_cons_succ, List.getElem_cons_zero, List.setIfInBounds_toArray, List.set_cons_zero, List.set_cons_succ]
  refine wpAnyH_ready (rs := [5]) (by kernel_rfl) (by simp) ?_
  refine AllReadyH.cons rfl (fun K hK => ?_) AllReadyH.nil
  go_simp
  go_wp2_with (go_at_call 13; refine (below_any (n : Int) (by omega) (by omega) X0 HC.out).mono ?_; rintro e X1 ⟨z2, z20, z21, rfl, hc1, ho1⟩; have hS : Hid (SM c w q (.slice va mv vk) xs (.slice (some ⟨g, og, none⟩) n gk) (partsP id n size s n) X1) := Lib.hid (hHeld.out.step (d := c) (by omega) ho1); replace rr : Hid (VarA w.heap.size ShelfT #[.slice none 0 0] X1) := Lib.hid (rr.out.only ho1 (by omega)); replace HC := Lib.hid hc1; clear hc1 ho1)
  refine hK.out _ _ hS (fun hHeld => ?_)
  clear hK K hS
  obtain ⟨j, rfl⟩ := Int.eq_ofNat_of_zero_le z20
  have hjn : j < n := by omega
  have hj0 : (0 : Int) ≤ (j : Int) := by omega
  have hjl : (j : Int) < (n : Int) := by omega
  have hwj : IntKind.i64.wrap (j : Int) = (j : Int) := by rw [IntKind.wrap_i64]; omega
  try simp only [Act.put, List.getElem_toArray, List.getElem_cons_succ, List.getElem_cons_zero, List.setIfInBounds_toArray, List.set_cons_zero, List.set_cons_succ]
  refine wpAnyH_take (i := 6) (v := ?_) rfl (by kernel_rfl) (by kernel_rfl) (by kernel_rfl) (fun _ _ _ h => h) (Or.inl ⟨by kernel_rfl, ?_⟩) hHeld ?_
  rotate_left
  · intro X hX
    first | (go_simp; done) | (go_simp; with_reducible rfl)
  try simp only [Act.put, List.getElem_toArray, List.getElem_cons_succ, List.getElem_cons_zero, List.setIfInBounds_toArray, List.set_cons_zero, List.set_cons_succ]
  refine wpAnyH_take (i := 7) (v := ?_) rfl (by kernel_rfl) (by kernel_rfl) (by kernel_rfl) (fun _ _ _ h => h) (Or.inl ⟨by kernel_rfl, ?_⟩) hHeld ?_
  rotate_left
  · intro X hX
    have y1 := parts_cell hX.out.list hjn
    first | (go_simp; done) | (go_simp; with_reducible rfl)
  try simp only [Act.put, List.getElem_toArray, List.getElem_cons_succ, List.getElem_cons_zero, List.setIfInBounds_toArray, List.set_cons_zero, List.set_cons_succ]
  refine wpAnyH_ready (rs := [9]) (by kernel_rfl) (by simp) ?_
  refine AllReadyH.cons rfl (fun K hK => ?_) AllReadyH.nil
  go_simp
  go_wp2_with (go_at_call 13; refine (below_any 30 (by omega) (by omega) X1 HC.out).mono ?_; rintro e X2 ⟨z3, z30, z31, rfl, hc1, ho1⟩; have hS : Hid (SM c w q (.slice va mv vk) xs (.slice (some ⟨g, og, none⟩) n gk) (partsP id n size s n) X2) := Lib.hid (hHeld.out.step (d := c) (by omega) ho1); replace rr : Hid (VarA w.heap.size ShelfT #[.slice none 0 0] X2) := Lib.hid (rr.out.only ho1 (by omega)); replace HC := Lib.hid hc1; clear hc1 ho1)
  refine hK.out _ _ hS (fun hHeld => ?_)
  clear hK K hS
  try simp only [Act.put, List.getElem_toArray, List.getElem_cons_succ, List.getElem_cons_zero, List.setIfInBounds_toArray, List.set_cons_zero, List.set_cons_succ]
  refine wpAnyH_ready (rs := [10]) (by kernel_rfl) (by simp) ?_
  refine AllReadyH.cons rfl (fun K hK => ?_) AllReadyH.nil
  have r0_ := rr.out.cell 0
  have g0_ := rr.out.free 0
  go_simp
  have RN := Lib.hid (rr.out.set 0 (.slice va mv vk))
  have hS : Hid (SM c w q (.slice va mv vk) xs (.slice (some ⟨g, og, none⟩) n gk) (partsP id n size s n) (X2.setCell ⟨w.heap.size, 0, none⟩ (.slice va mv vk))) := Lib.hid (hHeld.out.step (d := w.heap.size) (by omega) (Only.setCell 0 _))
  refine hK.out _ _ hS (fun hHeld => ?_)
  clear hK K hS r0_ g0_ rr HC
  generalize (X2.setCell ⟨w.heap.size, 0, none⟩ (.slice va mv vk)) = X3 at *
  try simp only [Act.put, List.getElem_toArray, List.getElem_cons_succ, List.getElem_cons_zero, List.setIfInBounds_toArray, List.set_cons_zero, List.set_cons_succ]
  refine wpAnyH_take (i := 11) (v := ?_) rfl (by kernel_rfl) (by kernel_rfl) (by kernel_rfl) (fun _ _ _ h => h) (Or.inl ⟨by kernel_rfl, ?_⟩) hHeld ?_
  rotate_left
  · intro X hX
    first | (go_simp; done) | (go_simp; with_reducible rfl)
  try simp only [Act.put, List.getElem_toArray, List.getElem_cons_succ, List.getElem_cons_zero, List.setIfInBounds_toArray, List.set_cons_zero, List.set_cons_succ]
  refine wpAnyH_take (i := 12) (v := ?_) rfl (by kernel_rfl) (by kernel_rfl) (by kernel_rfl) (fun _ _ _ h => h) (Or.inl ⟨by kernel_rfl, ?_⟩) hHeld ?_
  rotate_left
  · intro X hX
    first | (go_simp; done) | (go_simp; with_reducible rfl)
  try simp only [Act.put, List.getElem_toArray, List.getElem_cons_succ, List.getElem_cons_zero, List.setIfInBounds_toArray, List.set_cons_zero, List.set_cons_succ]
  refine wpAnyH_done (by kernel_rfl) ?_ _
  have j0 := RN.out.cell 0
  have E : Hid (Q (.returned (.tuple #[.agg #[.slice va mv vk], .string (partP id n size s j), .int .i64 z3])) X3) := Lib.hid (by
    rw [HQ.out]
    exact ⟨va, mv, vk, xs, _, z3, HP.out, by have := HSZ.out j; omega, ⟨z30, by omega⟩, rfl, hHeld.out.held, hHeld.out.below⟩)
  clear hHeld
  go_wp2_with fail
  try simp only [Exit.inBlock, Exit.then]
  exact bodyPost_ret (v := .tuple #[.agg #[.slice va mv vk], .string (partP id n size s j), .int .i64 z3]) (by simp [results, Try.results5, go_sem, j0]) rfl E.out

end Go.Proofs.Ythiicpbedgcmlaa

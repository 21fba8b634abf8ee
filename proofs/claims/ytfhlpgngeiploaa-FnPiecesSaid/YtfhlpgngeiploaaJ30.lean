/-
  The law on pieces, out of the program's contracts.
-/
import Derived.Test.YtfhlpgngeiploaaJ15
import Derived.Test.YtfhlpgngeiploaaJ28
import Derived.Test.YtfhlpgngeiploaaJ09
import Derived.Test.YtfhlpgngeiploaaJ29
import Derived.Test.YtfhlpgngeiploaaJ11
namespace Go.Proofs.Ytfhlpgngeiploaa
open Go.RowKit

set_option maxRecDepth 100000 in
theorem bigP_any (a : Option Addr) (len cap : Nat) (w : World) :
    Calls Try.prog 7 #[.slice a len cap] w fun e w' => e = .returned (.bool (decide (1048576 < (len : Int)))) ∧ w' = w := by
  go_enter Try.func7, Try.ntmps7
  go_wp2
  go_ret
  exact ⟨rfl, rfl⟩

theorem partsP_get (id n size : Nat) (s : ByteArray) {i : Nat} (hi : i < n) : (partsP id n size s n)[i]? = some (partP id n size s i) := by
  unfold partsP
  rw [List.getElem?_map, List.getElem?_range hi]
  rfl

/-- The pieces, the shelf in its variable. -/
structure PcS (w : World) (l : Value) (parts : List ByteArray) (v : Value) (xs : List HeldD) (q : Nat) (X : World) : Prop where
  list : ∃ b f, layStringS.own X b f [l] parts ∧ ∀ a ∈ f, a < q
  shelf : ∃ b f, layHeldC.own X b f [v] xs ∧ q < b
  var : VarA q ShelfT #[v] X
  below : Below w.heap.size w X
  wq : w.heap.size ≤ q
theorem PcS.next {w : World} {l : Value} {parts : List ByteArray} {v : Value} {xs : List HeldD} {q : Nat} {X Y : World} (h : PcS w l parts v xs q X) (hb : Below X.heap.size X Y) : PcS w l parts v xs q Y := by
  obtain ⟨b, f, h1, h2⟩ := h.list
  obtain ⟨c, g, h3, h4⟩ := h.shelf
  exact ⟨⟨b, f, layStringS.next h1 hb, h2⟩, ⟨c, g, layHeldC.next h3 hb, h4⟩, h.var.next hb, h.below.trans (hb.mono h.below.size), h.wq⟩
theorem PcS.rd {w : World} {l : Value} {parts : List ByteArray} {v : Value} {xs : List HeldD} {q : Nat} {X : World} (h : PcS w l parts v xs q X) : layStringS.rd X [l] parts := by
  obtain ⟨b, f, h1, _⟩ := h.list
  exact layStringS.read h1
theorem PcS.held {w : World} {l : Value} {parts : List ByteArray} {v : Value} {xs : List HeldD} {q : Nat} {X : World} (h : PcS w l parts v xs q X) : layHeldS.rd X [v] xs := by
  obtain ⟨b, f, h1, _⟩ := h.shelf
  exact layHeldC.read h1
theorem held_set {X : World} {b G : Nat} {f : List Nat} {v : Value} {ys : List HeldD} (h : layHeldC.own X b f [v] ys) (hG : G < b) (u : Value) : layHeldC.own (X.setCell ⟨G, 0, none⟩ u) b f [v] ys :=
  layHeldC.keep h (fun g hg => (Only.setCell (c := G) (w := X) 0 u).block g (layHeldC.blocks h g hg).2 (by have := (layHeldC.blocks h g hg).1; omega))
theorem PcS.set {w : World} {l : Value} {parts : List ByteArray} {v u : Value} {xs ys : List HeldD} {q b : Nat} {f : List Nat} {X : World} (h : PcS w l parts v xs q X) (ho : layHeldC.own X b f [u] ys) (hq : q < b) : PcS w l parts u ys q (X.setCell ⟨q, 0, none⟩ u) := by
  obtain ⟨c, g, h1, h2⟩ := h.list
  refine ⟨⟨c, g, layStringS.keep h1 (fun a ha => (Only.setCell (c := q) (w := X) 0 u).block a (layStringS.blocks h1 a ha).2 (by have := h2 a ha; omega)), h2⟩, ⟨b, f, held_set ho hq u, hq⟩, h.var.set 0 u, ?_, h.wq⟩
  exact h.below.trans ((Only.setCell (c := q) (w := X) 0 u).below h.wq h.below.size)
theorem held_set1 {V X : World} {o : Obj} {f : List Nat} {v : Value} {ys : List HeldD} (h : layHeldC.own X (V.alloc o).drew.heap.size f [v] ys) (u : Value) : layHeldC.own (X.setCell ⟨V.heap.size, 0, none⟩ u) (V.alloc o).drew.heap.size f [v] ys :=
  held_set h (by show V.heap.size < (V.alloc o).heap.size; simp) u
theorem held_set2 {V X : World} {o : Obj} {f : List Nat} {v : Value} {ys : List HeldD} (h : layHeldC.own X (V.drew.alloc o).heap.size f [v] ys) (u : Value) : layHeldC.own (X.setCell ⟨V.heap.size, 0, none⟩ u) (V.drew.alloc o).heap.size f [v] ys :=
  held_set h (by show V.drew.heap.size < (V.drew.alloc o).heap.size; simp) u

/-- With the cell of a piece. -/
structure PcG (w : World) (l : Value) (parts : List ByteArray) (v : Value) (xs : List HeldD) (q g o : Nat) (pt : ByteArray) (X : World) : Prop where
  ps : PcS w l parts v xs q X
  c0 : X.cell? ⟨g, o, none⟩ = some (.string pt)
section
variable {w : World} {l : Value} {parts : List ByteArray} {v : Value} {xs : List HeldD} {q g o : Nat} {pt : ByteArray} {X Y : World}
theorem PcG.next (h : PcG w l parts v xs q g o pt X) (hb : Below X.heap.size X Y) : PcG w l parts v xs q g o pt Y :=
  ⟨h.ps.next hb, by rw [hb.cell (p := ⟨g, o, none⟩) (World.block_lt_of_cell? _ _ h.c0)]; exact h.c0⟩
theorem PcG.alloc (h : PcG w l parts v xs q g o pt X) (b : Obj) : PcG w l parts v xs q g o pt (X.alloc b) := h.next ((Below.refl _ _).alloc (Nat.le_refl _) b)
theorem PcG.drew (h : PcG w l parts v xs q g o pt X) : PcG w l parts v xs q g o pt X.drew := h.next (Below.refl _ X).drew
theorem PcG.set2 (h : PcG w l parts v xs q g o pt X) {cs : Array Value} {t : TypeId} (hb : Below (X.alloc (.cells cs t)).drew.heap.size (X.alloc (.cells cs t)).drew Y) (u : Value) : PcG w l parts v xs q g o pt (Y.setCell ⟨X.heap.size, 0, none⟩ u) := by
  have k : Below X.heap.size X (X.alloc (.cells cs t)).drew := ((Below.refl _ X).alloc (Nat.le_refl _) _).drew
  exact h.next ((k.trans (hb.mono k.size)).setCell (p := ⟨X.heap.size, 0, none⟩) (Nat.le_refl _) u)
theorem PcG.set3 (h : PcG w l parts v xs q g o pt X) {cs : Array Value} {t : TypeId} (hb : Below (X.drew.alloc (.cells cs t)).heap.size (X.drew.alloc (.cells cs t)) Y) (u : Value) : PcG w l parts v xs q g o pt (Y.setCell ⟨X.heap.size, 0, none⟩ u) := by
  have k : Below X.heap.size X (X.drew.alloc (.cells cs t)) := (Below.refl _ X).drew.alloc (Nat.le_refl _) _
  exact h.next ((k.trans (hb.mono k.size)).setCell (p := ⟨X.heap.size, 0, none⟩) (Nat.le_refl _) u)
theorem PcG.two (h : PcG w l parts v xs q g o pt X) : X.cell? ⟨q, 0, none⟩ = some v ∧ X.cell? ⟨g, o, none⟩ = some (.string pt) ∧ PcG w l parts v xs q g o pt X := ⟨h.ps.var.cell 0, h.c0, h⟩
end
theorem size1 (V : World) (o : Obj) : V.heap.size ≤ (V.alloc o).drew.heap.size := by
  show V.heap.size ≤ (V.alloc o).heap.size
  simp
theorem size2 (V : World) (o : Obj) : V.heap.size ≤ (V.drew.alloc o).heap.size := by
  show V.drew.heap.size ≤ (V.drew.alloc o).heap.size
  simp
theorem newVar1 {V Y : World} {cs : Array Value} {t : TypeId} (hb : Below (V.alloc (.cells cs t)).drew.heap.size (V.alloc (.cells cs t)).drew Y) : VarA V.heap.size t cs Y := ((VarA.new V t cs).next (Below.refl _ _).drew).next hb
theorem newVar2 {V Y : World} {cs : Array Value} {t : TypeId} (hb : Below (V.drew.alloc (.cells cs t)).heap.size (V.drew.alloc (.cells cs t)) Y) : VarA V.heap.size t cs Y := (VarA.new V.drew t cs).next hb

set_option maxRecDepth 100000 in
set_option maxHeartbeats 6400000 in
theorem lawPiecesF (F0 : PieceFns) (sa : Option Addr) (len cap : Nat) (w : World) (H : Src sa len w) :
    Calls Try.prog 3 #[.slice sa len cap] w fun e w' => e = .returned (.bool true) ∧ Below w.heap.size w w' := by
  have hd : decide (1048576 < (len : Int)) = false := decide_eq_false (by have := H.few; omega)
  have HBG := Lib.hid (fun w => bigP_any sa len cap w)
  rw [hd] at HBG
  have HS := Lib.hid H
  have F := Lib.hid F0
  clear H hd F0
  go_enter Try.func3, Try.ntmps3
  go_wp2_with fail
  refine (HBG.out _).mono ?_
  rintro e w0 ⟨rfl, hw⟩
  rw [hw]
  clear hw w0 HBG
  go_wp2_with fail
  refine (drawLong_any sa len cap w HS.out).mono ?_
  rintro e w1 ⟨s, x, k, ⟨hs, hx, hk⟩, rfl, hb⟩
  obtain ⟨id, rfl⟩ := Int.eq_ofNat_of_zero_le hx.1
  obtain ⟨size, rfl⟩ := Int.eq_ofNat_of_zero_le (show 0 ≤ k by omega)
  obtain ⟨n, HN⟩ : ∃ n, Hid (countP s.size size = n) := ⟨_, Lib.hid rfl⟩
  have hnn := count_few (n := s.size) (size := size) (by omega) (by omega)
  have hwhole := (count_end (n := s.size) (size := size) (by omega)).1
  rw [HN.out] at hnn hwhole
  obtain ⟨ok, HOK⟩ : ∃ ok : Bool, Hid (ok = true) := ⟨true, Lib.hid rfl⟩
  have hbb : (ok != ok) = false := by cases ok <;> rfl
  have HNOT : Hid ((!ok) = false) := Lib.hid (by rw [HOK.out]; rfl)
  have hsplit : SplitIs (id : Int) s (size : Int) (partsP id n size s n) ok := by
    refine .inl ⟨HOK.out, ⟨by omega, by omega, by omega⟩, ?_⟩
    rw [Int.toNat_natCast, Int.toNat_natCast, HN.out]
  have hlen := partsP_length id n size s n
  have LL := Lib.hid hlen
  have B := Lib.hid hb
  have K1 := Lib.hid (F.out.split id s size _ ok hsplit (by omega) w1)
  have K2 := Lib.hid (fun X => specPieces_any id s size _ ok hsplit (by omega) X)
  clear hb hsplit HN hlen
  have AR := Lib.hid (And.intro hs (And.intro hx (And.intro hk (And.intro hnn hwhole))))
  have hn15 : (n : Int) ≤ 15 := by omega
  clear hs hx hk hnn hwhole
  go_wp2_with fail
  refine (K1.out).mono ?_
  rintro e w2 ⟨v1, f1, rfl, _, o1, hb⟩
  have R1 := Lib.hid o1
  replace B := Lib.hid (B.out.trans (hb.mono B.out.size))
  clear o1 hb K1
  go_wp2_with fail
  refine (K2.out w2).mono ?_
  rintro e w3 ⟨v2, f2, rfl, _, o2, hb⟩
  have R2 := Lib.hid (layStringS.read o2)
  replace R1 := Lib.hid (layStringS.next R1.out hb)
  replace B := Lib.hid (B.out.trans (hb.mono B.out.size))
  clear o2 hb K2
  have K := Lib.hid (sameTexts_same _ _ _ (by rw [LL.out]; have := AR.out.2.2.2.1; omega) w3 (layStringS.read R1.out) R2.out)
  obtain ⟨ga, gk, hv1⟩ := rows_form (layStringS.read R1.out)
  rw [LL.out] at hv1
  subst hv1
  go_wp2_with fail
  refine (K.out).mono ?_
  rintro e w4 ⟨rfl, hb⟩
  replace R1 := Lib.hid (layStringS.next R1.out hb)
  replace B := Lib.hid (B.out.trans (hb.mono B.out.size))
  clear hb K R2
  go_upto_region 8 with fail
  have hnot := HNOT.out
  go_upto_region 10 with fail
  go_wp2_with fail
  refine (drawPlaces_any sa len cap w4 (HS.out.below B.out)).mono ?_
  rintro e w5 ⟨gz, cz, zs, hzl, hz, rfl, hgl, hzc, hb⟩
  have hz0 := hz _ (List.getElem_mem (l := zs) (n := 0) (by omega))
  have z0 := hzc 0 (by omega)
  rw [List.getD_eq_getElem?_getD, List.getElem?_eq_getElem (by omega)] at z0
  simp only [Option.getD_some] at z0
  generalize (zs[0]'(by omega)) = zn at *
  obtain ⟨turn, rfl⟩ := Int.eq_ofNat_of_zero_le hz0.1
  replace R1 := Lib.hid (layStringS.next R1.out hb)
  replace B := Lib.hid (B.out.trans (hb.mono B.out.size))
  clear hb hzc hz hzl HS
  go_upto_region 11 with fail
  have BQ := B.out.size
  have FQ := Lib.hid (fun a ha => (layStringS.blocks R1.out a ha).2)
  have V := Lib.hid (VarA.new w5 ShelfT #[.slice none 0 0])
  replace R1 := Lib.hid (layStringS.next R1.out ((Below.refl _ _).alloc (Nat.le_refl _) (.cells #[.slice none 0 0] ShelfT)))
  replace B := Lib.hid (B.out.alloc B.out.size (.cells #[.slice none 0 0] ShelfT))
  clear z0 hgl
  go_upto_region 12 with fail
  have WQ : Hid (w.heap.size ≤ w5.heap.size) := Lib.hid BQ
  generalize w5.alloc (.cells #[.slice none 0 0] ShelfT) = w6 at *
  generalize w5.heap.size = q at *
  go_wp2_with fail
  go_loopw [12] (fun c wr => ∃ i : Nat, i ≤ n ∧ c = .int .i64 i ∧ Hid (layStringS.own wr w1.heap.size f1 [.slice ga n gk] (partsP id n size s n) ∧ VarA q ShelfT #[.slice none 0 0] wr ∧ Below w.heap.size w wr)) (fun c _ => n - (intOf c).toNat)
  case atStart => exact ⟨0, Nat.zero_le _, rfl, Lib.hid ⟨R1.out, V.out, B.out⟩⟩
  case round =>
    obtain ⟨i, hi, rfl, hI⟩ := hrel
    clear R1 V B
    by_cases hlt : i < n
    · have hlt' : (i : Int) < (n : Int) := by omega
      obtain ⟨g, og, cs, rfl, hg, hr, hc⟩ := rows_elem (layStringS.read hI.out.1) i _ (partsP_get id n size s hlt)
      rw [layString_rd] at hr
      subst hr
      have c0 : wr.cell? ⟨g, og + i * 1, none⟩ = some (.string (partP id n size s i)) := hc 0 _ rfl
      rw [Nat.mul_one] at c0
      clear hc
      have KR := Lib.hid (F.out.read (partP id n size s i) id i n _ true (part_read (size := size) (s := s) (by have := AR.out.2.1; omega) (by omega) hlt) (by have := part_size (id := id) (count := n) (s := s) (i := i) (show size ≤ 120 by have := AR.out.2.2.1; omega); omega) wr)
      have n1 : ((id : Int) != (id : Int)) = false := by simp
      have n2 : ((i : Int) != (i : Int)) = false := by simp
      have n3 : ((n : Int) != (n : Int)) = false := by simp
      generalize partP id n size s i = pt at *
      generalize s.extract (i * size) (min ((i + 1) * size) s.size) = pr at *
      go_wp2_with fail
      refine (KR.out).mono ?_
      rintro e wy ⟨rfl, hb⟩
      replace hI := Lib.hid (And.intro (layStringS.next hI.out.1 hb) (And.intro (hI.out.2.1.next hb) (hI.out.2.2.trans (hb.mono hI.out.2.2.size))))
      clear hb c0 KR
      go_wp2_with fail
      go_roundw
      case rel => exact ⟨i + 1, by omega, by go_num, hI⟩
      case measure => simp [intOf]; omega
    · have hlt' : ¬ ((i : Int) < (n : Int)) := by omega
      go_upto_region 18 with fail
      have PS0 : Hid (PcS w (.slice ga n gk) (partsP id n size s n) (.slice none 0 0) (shelfK id n turn size s 0) q wr) := Lib.hid ⟨⟨_, _, hI.out.1, FQ.out⟩, ⟨q + 1, [], room_of (none_rows wr (q + 1)), by omega⟩, hI.out.2.1, hI.out.2.2, WQ.out⟩
      have hid : id < 256 := by have := AR.out.2.1; omega
      have hs20 : 20 ≤ size := by have := AR.out.2.2.1; omega
      have hs120 : size ≤ 120 := by have := AR.out.2.2.1; omega
      have hn1 : 1 ≤ n := AR.out.2.2.2.1.1
      have hn2 : n ≤ 15 := AR.out.2.2.2.1.2
      have HW := Lib.hid AR.out.2.2.2.2
      have HR := Lib.hid (shelf_right (turn := turn) hid hs20 hs120 hn1 hn2 HW.out)
      clear hI
      go_wp2_with fail
      go_loopw [18] (fun c wr => ∃ (k : Nat) (v : Value), k ≤ n ∧ c = .int .i64 k ∧ Hid (PcS w (.slice ga n gk) (partsP id n size s n) v (shelfK id n turn size s k) q wr)) (fun c _ => n - (intOf c).toNat)
      case atStart => exact ⟨0, _, Nat.zero_le _, rfl, PS0⟩
      case round =>
        obtain ⟨k, v, hk, rfl, PS⟩ := hrel
        clear PS0
        by_cases hlk : k < n
        · have hlk' : (k : Int) < (n : Int) := by omega
          have hadd := piece_go (turn := turn) hid hs20 hs120 hn1 hn2 HW.out k hlk (HR.out k (by omega))
          have hfit := right_fits (HR.out k (by omega))
          have hfit2 := right_fits (HR.out (k + 1) (by omega))
          have hj : turnN n turn k < n := turn_lt (by omega)
          obtain ⟨g, og, cs, rfl, hg, hr, hc⟩ := rows_elem PS.out.rd (turnN n turn k) _ (partsP_get id n size s hj)
          rw [layString_rd] at hr
          subst hr
          have jm : ((k : Int) + (turn : Int)).tmod (n : Int) = ((turnN n turn k : Nat) : Int) := by
            rw [Int.tmod_eq_emod_of_nonneg (by omega), ← Int.natCast_add, ← Int.natCast_emod]
            rfl
          have KA := Lib.hid (F.out.add v _ 4 _ 5 _ _ _ hadd hfit.1 hfit.2 (by have := part_size (id := id) (count := n) (s := s) (i := turnN n turn k) hs120; omega))
          have KO := Lib.hid (fun u X => F.out.ok u (shelfK id n turn size s (k + 1)) true ⟨fun _ => HR.out (k + 1) (by omega), fun _ => rfl⟩ hfit2.1 hfit2.2 X)
          have HDN : Hid ((decide (k + 1 = n)) = true ↔ k + 1 = n) := Lib.hid (by simp)
          have HWH : Hid (k + 1 = n → (if k + 1 = n then s else ⟨#[]⟩) = s) := Lib.hid (fun h => if_pos h)
          generalize decide (k + 1 = n) = dn at *
          generalize (if k + 1 = n then s else ⟨#[]⟩) = wh at *
          obtain ⟨ys, HY⟩ : ∃ ys, Hid (shelfK id n turn size s (k + 1) = ys) := ⟨_, Lib.hid rfl⟩
          rw [HY.out] at KA KO
          generalize shelfK id n turn size s k = xs at *
          have c0 : wr.cell? ⟨g, og + turnN n turn k * 1, none⟩ = some (.string (partP id n size s (turnN n turn k))) := hc 0 _ rfl
          rw [Nat.mul_one] at c0
          generalize partP id n size s (turnN n turn k) = pt at *
          generalize turnN n turn k = j at *
          have hj' : (j : Int) < (n : Int) := by omega
          have hnz : ¬ ((n : Int) = 0) := by omega
          have q0 : wr.cell? ⟨q, 0, none⟩ = some v := PS.out.var.cell 0
          clear hc hadd hfit hfit2
          have E0 : Hid (PcG w (.slice (some ⟨g, og, none⟩) n gk) (partsP id n size s n) v xs q g (og + j) pt wr) := Lib.hid ⟨PS.out, c0⟩
          have K1 : Hid (∀ X, (X.cell? ⟨q, 0, none⟩ = some v ∧ X.cell? ⟨g, og + j, none⟩ = some (.string pt) ∧ PcG w (.slice (some ⟨g, og, none⟩) n gk) (partsP id n size s n) v xs q g (og + j) pt X) → Calls Try.prog 14 #[.agg #[v], .int .i64 4, .string pt, .int .i64 5] X fun e Y => ∃ va mv vk fp, e = .returned (.tuple #[.agg #[.slice va mv vk], .string wh, .bool dn]) ∧ layHeldC.own Y X.heap.size fp [.slice va mv vk] ys ∧ (Y.cell? ⟨q, 0, none⟩ = some v ∧ Y.cell? ⟨g, og + j, none⟩ = some (.string pt) ∧ PcG w (.slice (some ⟨g, og, none⟩) n gk) (partsP id n size s n) v xs q g (og + j) pt Y) ∧ Below X.heap.size X Y) := Lib.hid (fun X hX => by
            refine (KA.out X hX.2.2.ps.held).mono ?_
            rintro e Y ⟨v', fp, rfl, _, ho, hb⟩
            obtain ⟨va, vk, rfl⟩ := rows_form (e := HeldT) (A := layHeld) (layHeldC.read ho)
            exact ⟨va, _, vk, fp, rfl, ho, (hX.2.2.next hb).two, hb⟩)
          clear KA
          have hwr : IntKind.i64.wrap ((k : Int) + (turn : Int)) = (k : Int) + (turn : Int) := by
            rw [IntKind.wrap_i64]
            omega
          have hwj : IntKind.i64.wrap (j : Int) = (j : Int) := by
            rw [IntKind.wrap_i64]
            omega
          have hj0 : (0 : Int) ≤ (j : Int) := by omega
          have hnz2 : ¬ n = 0 := by omega
          go_upto_region 21 with fail
          go_cut [19, 20, 21] (fun y z u wx => ∃ (G : Nat) (va : Option Addr) (mv vk : Nat), y = .pointer (some ⟨G, 0, none⟩) ∧ z = .string wh ∧ u = .bool dn ∧ Hid (VarA G ShelfT #[.slice va mv vk] wx ∧ (∃ b f, layHeldC.own wx b f [.slice va mv vk] ys ∧ q < b) ∧ G ≠ q ∧ PcS w (.slice (some ⟨g, og, none⟩) n gk) (partsP id n size s n) v xs q wx))
          case first =>
            go_region_held3 (fun X => X.cell? ⟨q, 0, none⟩ = some v ∧ X.cell? ⟨g, og + j, none⟩ = some (.string pt) ∧ PcG w (.slice (some ⟨g, og, none⟩) n gk) (partsP id n size s n) v xs q g (og + j) pt X) (first | (with_reducible assumption) | (with_reducible exact (PcG.drew E0.out).two) | (with_reducible exact (PcG.alloc (by assumption) _).two) | (with_reducible exact (PcG.alloc (PcG.drew E0.out) _).two) | (with_reducible exact (PcG.drew (PcG.alloc E0.out _)).two)) (first | (go_at_call 14; refine (K1.out _ (by assumption)).mono ?_; rintro e x3 ⟨va, mv, vk, fp, rfl, hh, hS, hb⟩; have hT := hS.2.2; have hN := VarA.new x3 ShelfT #[.slice none 0 0]; have n0 := hN.cell 0; have fn0 := hN.free 0; first | ((with_reducible have hV := newVar1 hb); have g0 := hV.cell 0; have f0 := hV.free 0; have hS5 := (PcG.set2 E0.out hb (.slice va mv vk)).two; have hh5 := held_set1 hh (.slice va mv vk)) | ((with_reducible have hV := newVar2 hb); have g0 := hV.cell 0; have f0 := hV.free 0; have hS5 := (PcG.set3 E0.out hb (.slice va mv vk)).two; have hh5 := held_set2 hh (.slice va mv vk)) | skip))
            · clear hS
              go_wp2_with fail
              go_meet
              exact ⟨x3.heap.size, va, mv, vk, rfl, rfl, rfl, Lib.hid ⟨VarA.new x3 ShelfT _, ⟨_, _, layHeldC.next hh ((Below.refl _ _).alloc (Nat.le_refl _) _), E0.out.ps.var.lt⟩, by have := hT.ps.var.lt; omega, (hT.alloc _).ps⟩⟩
            · clear hS
              go_wp2_with fail
              go_meet
              exact ⟨wr.heap.size, va, mv, vk, rfl, rfl, rfl, Lib.hid ⟨hV.set 0 _, ⟨_, _, hh5, Nat.lt_of_lt_of_le E0.out.ps.var.lt (by first | exact size1 _ _ | exact size2 _ _)⟩, by have := E0.out.ps.var.lt; omega, hS5.2.2.ps⟩⟩
          case rest =>
            obtain ⟨G, va, mv, vk, rfl, rfl, rfl, hc⟩ := hcut
            have HCV := Lib.hid hc.out
            clear hc E0 K1 q0 c0 PS
            have G0 : wc.cell? ⟨G, 0, none⟩ = some (.slice va mv vk) := HCV.out.1.cell 0
            obtain ⟨b, f, ho, hqb⟩ := HCV.out.2.1
            have K2 := Lib.hid (KO.out (.slice va mv vk) wc (layHeldC.read ho))
            have hwk : IntKind.i64.wrap ((k : Int) + 1) = (k : Int) + 1 := by
              rw [IntKind.wrap_i64]
              omega
            have HO := Lib.hid ho
            clear ho KO
            by_cases hlast : k + 1 = n
            · obtain rfl : dn = true := HDN.out.2 hlast
              obtain rfl : wh = s := HWH.out hlast
              have hkn : (k : Int) + 1 = (n : Int) := by omega
              have hss : (wh.toList != wh.toList) = false := by simp
              go_wp2_with fail
              refine (K2.out).mono ?_
              rintro e wy ⟨rfl, hb⟩
              have V3 := Lib.hid (HCV.out.1.next hb)
              have P3 := Lib.hid (HCV.out.2.2.2.next hb)
              replace HO := Lib.hid (layHeldC.next HO.out hb)
              have G1 : wy.cell? ⟨G, 0, none⟩ = some (.slice va mv vk) := V3.out.cell 0
              have q1 : wy.cell? ⟨q, 0, none⟩ = some v := P3.out.var.cell 0
              have fq := P3.out.var.free 0
              clear hb K2 G0
              go_wp2_with fail
              go_roundw
              case rel => exact ⟨k + 1, _, by omega, by go_num, by rw [HY.out]; exact Lib.hid (P3.out.set HO.out hqb)⟩
              case measure => simp [intOf]; omega
            · obtain rfl : dn = false := by
                cases dn with
                | false => rfl
                | true => exact absurd (HDN.out.1 rfl) hlast
              have hkn : ¬ ((k : Int) + 1 = (n : Int)) := by omega
              go_wp2_with fail
              refine (K2.out).mono ?_
              rintro e wy ⟨rfl, hb⟩
              have V3 := Lib.hid (HCV.out.1.next hb)
              have P3 := Lib.hid (HCV.out.2.2.2.next hb)
              replace HO := Lib.hid (layHeldC.next HO.out hb)
              have G1 : wy.cell? ⟨G, 0, none⟩ = some (.slice va mv vk) := V3.out.cell 0
              have q1 : wy.cell? ⟨q, 0, none⟩ = some v := P3.out.var.cell 0
              have fq := P3.out.var.free 0
              clear hb K2 G0
              go_wp2_with fail
              go_roundw
              case rel => exact ⟨k + 1, _, by omega, by go_num, by rw [HY.out]; exact Lib.hid (P3.out.set HO.out hqb)⟩
              case measure => simp [intOf]; omega
        · have hlk' : ¬ ((k : Int) < (n : Int)) := by omega
          obtain rfl : k = n := by omega
          have e0 : shelfK id k turn size s k = [] := by unfold shelfK; rw [if_pos (.inr rfl)]
          rw [e0] at PS
          obtain ⟨va, vk, rfl⟩ := rows_form PS.out.held
          have q0 : wr.cell? ⟨q, 0, none⟩ = some (.slice va 0 vk) := PS.out.var.cell 0
          have hbe := PS.out.below
          go_wp2_with fail
          go_ret
          exact ⟨rfl, hbe⟩

end Go.Proofs.Ytfhlpgngeiploaa

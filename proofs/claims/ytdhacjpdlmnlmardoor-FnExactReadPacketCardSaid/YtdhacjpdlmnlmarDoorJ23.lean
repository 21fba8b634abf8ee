/-
  The exact law on ReadPacket, out of one answer that both give.
  The exact law on ReadPacket, at every argument.
-/
import Derived.Test.YtdhacjpdlmnlmarDoorJ22
import Derived.Test.YtdhacjpdlmnlmarDoorJ20
import Derived.Test.YtdhacjpdlmnlmarDoorJ21
namespace Go.Proofs.YtdhacjpdlmnlmarDoor
open Go.RowKit

theorem own_nodupI {X : World} {b : Nat} {f : List Nat} {v : Value} {xs : List Int} (h : layIntS.own X b f [v] xs) : f.Nodup := by
  obtain ⟨us, _, _, rfl⟩ := flat_inv flatIntP h
  unfold blk
  cases v.ownBlock <;> simp

/-- One packet and one Bool, its row of its own. -/
def PkGives (op key fr dst num : Int) (xs : List Int) (body : ByteArray) (b : Bool) (w : World) (e : Ending) (w' : World) : Prop :=
  ∃ (na : Option Addr) (nc : Nat) (f : List Nat), e = .returned (.tuple #[.agg #[.int .i64 op, .int .i64 key, .int .i64 fr, .int .i64 dst, .int .i64 num, .slice na xs.length nc, .string body], .bool b]) ∧ layIntS.own w' w.heap.size f [.slice na xs.length nc] xs ∧ Below w.heap.size w w'

/-- The law's own variables: what is wanted, and what the program gave. -/
structure RS (w : World) (us cs : Array Value) (vu vx : Value) (gu gx : Nat) (fu fx : List Nat) (xs ys : List Int) (X : World) : Prop where
  uvar : VarA gu PkT us X
  urow : layIntS.own X w.heap.size fu [vu] xs
  xvar : VarA gx PkT cs X
  xrow : layIntS.own X w.heap.size fx [vx] ys
  below : Below w.heap.size w X
theorem RS.next {w : World} {us cs : Array Value} {vu vx : Value} {gu gx : Nat} {fu fx : List Nat} {xs ys : List Int} {X Y : World} (h : RS w us cs vu vx gu gx fu fx xs ys X) (hb : Below X.heap.size X Y) : RS w us cs vu vx gu gx fu fx xs ys Y :=
  ⟨h.uvar.next hb, layIntS.next h.urow hb, h.xvar.next hb, layIntS.next h.xrow hb, h.below.trans (hb.mono h.below.size)⟩
theorem RS.mark {w : World} {us cs : Array Value} {vu vx : Value} {gu gx : Nat} {fu fx : List Nat} {xs ys zs : List Int} {X Y : World} (h : RS w us cs vu vx gu gx fu fx xs ys X) (ho : layIntS.own Y w.heap.size fx [vx] zs) (hc : Chg fx X Y) (h1 : gu ∉ fx) (h2 : gx ∉ fx) (h3 : ∀ g ∈ fu, g ∉ fx) : RS w us cs vu vx gu gx fu fx xs zs Y :=
  ⟨⟨(hc.block gu h.uvar.lt h1).trans h.uvar.row⟩, layIntS.chg h.urow hc h3, ⟨(hc.block gx h.xvar.lt h2).trans h.xvar.row⟩, ho, h.below.trans (hc.below (fun g hg => (layIntS.blocks h.xrow g hg).1) h.below.size)⟩

set_option maxRecDepth 100000 in
set_option maxHeartbeats 400000 in
theorem lawReadPacket_big (t : ByteArray) (ht : 1048576 < t.size) (w : World) :
    Calls Tryd.prog 3 #[.string t] w fun e w' => e = .returned (.bool true) ∧ Below w.heap.size w w' := by
  have h1 : (1048576 : Int) < (t.size : Int) := by omega
  go_enter Tryd.func3, Tryd.ntmps3
  go_wp2_with fail
  go_ret
  exact ⟨rfl, Below.refl _ _⟩

set_option maxRecDepth 100000 in
set_option maxHeartbeats 3200000 in
theorem lawReadPacketF (L : World → Prop) (stays : ∀ X Y, L X → Below X.heap.size X Y → L Y) (t : ByteArray) (hts : t.size ≤ 1048576) (op key fr dst num : Int) (xs : List Int) (body : ByteArray) (b : Bool) (hl : xs.length ≤ 100)
    (hI : ∀ X : World, L X → Calls Tryd.prog 5 #[.string t] X (PkGives op key fr dst num xs body b X))
    (hS : ∀ X : World, Calls Tryd.prog 4 #[.string t] X (PkGives op key fr dst num xs body b X))
    (w : World) (ht : L w) :
    Calls Tryd.prog 3 #[.string t] w fun e w' => e = .returned (.bool true) ∧ Below w.heap.size w w' := by
  have h1 : ¬ ((1048576 : Int) < (t.size : Int)) := by omega
  have HI := Lib.hid hI
  have HS := Lib.hid hS
  have HT : Hid (∀ X, Below w.heap.size w X → L X) := fun X hX => stays w X ht hX
  have hneg : ¬ ((1 : Int) + (xs.length : Int) < 0) := by omega
  clear hI hS ht stays
  go_enter Tryd.func3, Tryd.ntmps3
  go_wp2_with fail
  refine (HS.out _).mono ?_
  rintro e Y1 ⟨ua, uc, fu, rfl, hu, hb1⟩
  have hba := (Below.refl Y1.heap.size Y1).alloc (Nat.le_refl _) (.cells #[.int .i64 op, .int .i64 key, .int .i64 fr, .int .i64 dst, .int .i64 num, .slice ua xs.length uc, .string body] PkT)
  have UV := Lib.hid (VarA.new Y1 PkT #[.int .i64 op, .int .i64 key, .int .i64 fr, .int .i64 dst, .int .i64 num, .slice ua xs.length uc, .string body])
  have UR := Lib.hid (layIntS.next hu hba)
  have UL : Hid (∀ g ∈ fu, g < Y1.heap.size) := fun g hg => (layIntS.blocks hu g hg).2
  have B1 := Lib.hid (hb1.trans (hba.mono hb1.size))
  clear hu hb1 hba
  go_upto_region 4 with fail
  generalize Y1.alloc (.cells #[.int .i64 op, .int .i64 key, .int .i64 fr, .int .i64 dst, .int .i64 num, .slice ua xs.length uc, .string body] PkT) = Z1 at *
  generalize Y1.heap.size = gu at *
  go_wp2_with fail
  refine (HI.out _ (HT.out _ B1.out)).mono ?_
  rintro e Y2 ⟨xa, xc, fx, rfl, hx, hb2⟩
  have hba := (Below.refl Y2.heap.size Y2).alloc (Nat.le_refl _) (.cells #[.int .i64 op, .int .i64 key, .int .i64 fr, .int .i64 dst, .int .i64 num, .slice xa xs.length xc, .string body] PkT)
  have hb2' := hb2.trans (hba.mono hb2.size)
  have hul := UV.out.lt
  have XL : Hid (∀ g ∈ fx, Z1.heap.size ≤ g ∧ g < Y2.heap.size) := fun g hg => layIntS.blocks hx g hg
  have R2 : Hid (RS w #[.int .i64 op, .int .i64 key, .int .i64 fr, .int .i64 dst, .int .i64 num, .slice ua xs.length uc, .string body] #[.int .i64 op, .int .i64 key, .int .i64 fr, .int .i64 dst, .int .i64 num, .slice xa xs.length xc, .string body] (.slice ua xs.length uc) (.slice xa xs.length xc) gu Y2.heap.size fu fx xs xs (Y2.alloc (.cells #[.int .i64 op, .int .i64 key, .int .i64 fr, .int .i64 dst, .int .i64 num, .slice xa xs.length xc, .string body] PkT))) := ⟨UV.out.next hb2', layIntS.next UR.out hb2', VarA.new _ _ _, layIntS.lower (layIntS.next hx hba) B1.out.size, B1.out.trans (hb2'.mono B1.out.size)⟩
  have N1 : Hid (gu ∉ fx) := fun h => by have := (XL.out _ h).1; omega
  have N2 : Hid (Y2.heap.size ∉ fx) := fun h => by have := (XL.out _ h).2; omega
  have N3 : Hid (∀ g ∈ fu, g ∉ fx) := fun g hg h => by have := (XL.out _ h).1; have := UL.out g hg; omega
  have ND := Lib.hid (own_nodupI hx)
  clear hx hb2 hba hb2' XL UL UV UR B1 hul
  go_upto_region 5 with fail
  generalize Y2.alloc (.cells #[.int .i64 op, .int .i64 key, .int .i64 fr, .int .i64 dst, .int .i64 num, .slice xa xs.length xc, .string body] PkT) = Z2 at *
  generalize Y2.heap.size = gx at *
  have u0 : Z2.cell? ⟨gu, 0, none⟩ = some (.int .i64 op) := R2.out.uvar.cell 0
  have u1 : Z2.cell? ⟨gu, 1, none⟩ = some (.int .i64 key) := R2.out.uvar.cell 1
  have u2 : Z2.cell? ⟨gu, 2, none⟩ = some (.int .i64 fr) := R2.out.uvar.cell 2
  have u3 : Z2.cell? ⟨gu, 3, none⟩ = some (.int .i64 dst) := R2.out.uvar.cell 3
  have u4 : Z2.cell? ⟨gu, 4, none⟩ = some (.int .i64 num) := R2.out.uvar.cell 4
  have u5 : Z2.cell? ⟨gu, 5, none⟩ = some (.slice ua xs.length uc) := R2.out.uvar.cell 5
  have u6 : Z2.cell? ⟨gu, 6, none⟩ = some (.string body) := R2.out.uvar.cell 6
  have c0 : Z2.cell? ⟨gx, 0, none⟩ = some (.int .i64 op) := R2.out.xvar.cell 0
  have c1 : Z2.cell? ⟨gx, 1, none⟩ = some (.int .i64 key) := R2.out.xvar.cell 1
  have c2 : Z2.cell? ⟨gx, 2, none⟩ = some (.int .i64 fr) := R2.out.xvar.cell 2
  have c3 : Z2.cell? ⟨gx, 3, none⟩ = some (.int .i64 dst) := R2.out.xvar.cell 3
  have c4 : Z2.cell? ⟨gx, 4, none⟩ = some (.int .i64 num) := R2.out.xvar.cell 4
  have c5 : Z2.cell? ⟨gx, 5, none⟩ = some (.slice xa xs.length xc) := R2.out.xvar.cell 5
  have c6 : Z2.cell? ⟨gx, 6, none⟩ = some (.string body) := R2.out.xvar.cell 6
  go_wp2_with fail
  refine (eqPacket_same op key fr dst num _ _ xs body (by omega) _ (layIntS.read R2.out.xrow) (layIntS.read R2.out.urow)).mono ?_
  rintro e Y3 ⟨rfl, hb3⟩
  have R3 := Lib.hid (R2.out.next hb3)
  clear hb3 R2 u0 u1 u2 u3 u4 u5 u6 c0 c1 c2 c3 c4 c5 c6
  have c0 : Y3.cell? ⟨gx, 0, none⟩ = some (.int .i64 op) := R3.out.xvar.cell 0
  have c1 : Y3.cell? ⟨gx, 1, none⟩ = some (.int .i64 key) := R3.out.xvar.cell 1
  have c2 : Y3.cell? ⟨gx, 2, none⟩ = some (.int .i64 fr) := R3.out.xvar.cell 2
  have c3 : Y3.cell? ⟨gx, 3, none⟩ = some (.int .i64 dst) := R3.out.xvar.cell 3
  have c4 : Y3.cell? ⟨gx, 4, none⟩ = some (.int .i64 num) := R3.out.xvar.cell 4
  have c5 : Y3.cell? ⟨gx, 5, none⟩ = some (.slice xa xs.length xc) := R3.out.xvar.cell 5
  have c6 : Y3.cell? ⟨gx, 6, none⟩ = some (.string body) := R3.out.xvar.cell 6
  have KM := Lib.hid (markPacket_any op key fr dst num (.slice xa xs.length xc) xs body w.heap.size fx 1 (by omega) (by omega) (by omega) Y3 ND.out R3.out.xrow)
  go_wp2_with fail
  refine KM.out.mono ?_
  rintro e Y4 ⟨rfl, hM, hC⟩
  have R4 := Lib.hid (R3.out.mark hM hC N1.out N2.out N3.out)
  clear hM hC R3 KM c0 c1 c2 c3 c4 c5 c6
  have c0 : Y4.cell? ⟨gx, 0, none⟩ = some (.int .i64 op) := R4.out.xvar.cell 0
  have c1 : Y4.cell? ⟨gx, 1, none⟩ = some (.int .i64 key) := R4.out.xvar.cell 1
  have c2 : Y4.cell? ⟨gx, 2, none⟩ = some (.int .i64 fr) := R4.out.xvar.cell 2
  have c3 : Y4.cell? ⟨gx, 3, none⟩ = some (.int .i64 dst) := R4.out.xvar.cell 3
  have c4 : Y4.cell? ⟨gx, 4, none⟩ = some (.int .i64 num) := R4.out.xvar.cell 4
  have c5 : Y4.cell? ⟨gx, 5, none⟩ = some (.slice xa xs.length xc) := R4.out.xvar.cell 5
  have c6 : Y4.cell? ⟨gx, 6, none⟩ = some (.string body) := R4.out.xvar.cell 6
  go_wp2_with fail
  refine (heldPacket_any op key fr dst num _ xs.length body 1 (by omega) (by omega) (by omega) _ (layIntS.read R4.out.xrow)).mono ?_
  rintro e Y5 ⟨rfl, hb5⟩
  have R5 := Lib.hid (R4.out.next hb5)
  clear hb5 R4 c0 c1 c2 c3 c4 c5 c6
  go_wp2_with fail
  refine (HI.out _ (HT.out _ R5.out.below)).mono ?_
  rintro e Y6 ⟨ya, yc, fy, rfl, hy, hb6⟩
  have hba := (Below.refl Y6.heap.size Y6).alloc (Nat.le_refl _) (.cells #[.int .i64 op, .int .i64 key, .int .i64 fr, .int .i64 dst, .int .i64 num, .slice ya xs.length yc, .string body] PkT)
  have hb6' := hb6.trans (hba.mono hb6.size)
  have R6 := Lib.hid (R5.out.next hb6')
  have YV := Lib.hid (VarA.new Y6 PkT #[.int .i64 op, .int .i64 key, .int .i64 fr, .int .i64 dst, .int .i64 num, .slice ya xs.length yc, .string body])
  have YR := Lib.hid (layIntS.below (layIntS.read hy) hba)
  clear hy hb6 hb6' hba R5
  go_upto_region 16 with fail
  generalize Y6.alloc (.cells #[.int .i64 op, .int .i64 key, .int .i64 fr, .int .i64 dst, .int .i64 num, .slice ya xs.length yc, .string body] PkT) = Z6 at *
  generalize Y6.heap.size = gy at *
  have u0 : Z6.cell? ⟨gu, 0, none⟩ = some (.int .i64 op) := R6.out.uvar.cell 0
  have u1 : Z6.cell? ⟨gu, 1, none⟩ = some (.int .i64 key) := R6.out.uvar.cell 1
  have u2 : Z6.cell? ⟨gu, 2, none⟩ = some (.int .i64 fr) := R6.out.uvar.cell 2
  have u3 : Z6.cell? ⟨gu, 3, none⟩ = some (.int .i64 dst) := R6.out.uvar.cell 3
  have u4 : Z6.cell? ⟨gu, 4, none⟩ = some (.int .i64 num) := R6.out.uvar.cell 4
  have u5 : Z6.cell? ⟨gu, 5, none⟩ = some (.slice ua xs.length uc) := R6.out.uvar.cell 5
  have u6 : Z6.cell? ⟨gu, 6, none⟩ = some (.string body) := R6.out.uvar.cell 6
  have c0 : Z6.cell? ⟨gy, 0, none⟩ = some (.int .i64 op) := YV.out.cell 0
  have c1 : Z6.cell? ⟨gy, 1, none⟩ = some (.int .i64 key) := YV.out.cell 1
  have c2 : Z6.cell? ⟨gy, 2, none⟩ = some (.int .i64 fr) := YV.out.cell 2
  have c3 : Z6.cell? ⟨gy, 3, none⟩ = some (.int .i64 dst) := YV.out.cell 3
  have c4 : Z6.cell? ⟨gy, 4, none⟩ = some (.int .i64 num) := YV.out.cell 4
  have c5 : Z6.cell? ⟨gy, 5, none⟩ = some (.slice ya xs.length yc) := YV.out.cell 5
  have c6 : Z6.cell? ⟨gy, 6, none⟩ = some (.string body) := YV.out.cell 6
  go_wp2_with fail
  refine (eqPacket_same op key fr dst num _ _ xs body (by omega) _ YR.out (layIntS.read R6.out.urow)).mono ?_
  rintro e Y7 ⟨rfl, hb7⟩
  have R7 := Lib.hid (R6.out.next hb7)
  clear hb7 R6 YV YR u0 u1 u2 u3 u4 u5 u6 c0 c1 c2 c3 c4 c5 c6
  have c0 : Y7.cell? ⟨gx, 0, none⟩ = some (.int .i64 op) := R7.out.xvar.cell 0
  have c1 : Y7.cell? ⟨gx, 1, none⟩ = some (.int .i64 key) := R7.out.xvar.cell 1
  have c2 : Y7.cell? ⟨gx, 2, none⟩ = some (.int .i64 fr) := R7.out.xvar.cell 2
  have c3 : Y7.cell? ⟨gx, 3, none⟩ = some (.int .i64 dst) := R7.out.xvar.cell 3
  have c4 : Y7.cell? ⟨gx, 4, none⟩ = some (.int .i64 num) := R7.out.xvar.cell 4
  have c5 : Y7.cell? ⟨gx, 5, none⟩ = some (.slice xa xs.length xc) := R7.out.xvar.cell 5
  have c6 : Y7.cell? ⟨gx, 6, none⟩ = some (.string body) := R7.out.xvar.cell 6
  go_wp2_with fail
  refine (heldPacket_any op key fr dst num _ xs.length body 1 (by omega) (by omega) (by omega) _ (layIntS.read R7.out.xrow)).mono ?_
  rintro e Y8 ⟨rfl, hb8⟩
  have R8 := Lib.hid (R7.out.next hb8)
  clear hb8 R7 c0 c1 c2 c3 c4 c5 c6
  go_wp2_with fail
  go_ret
  exact ⟨rfl, R8.out.below⟩

end Go.Proofs.YtdhacjpdlmnlmarDoor
namespace Go.Proofs.YtdhacjpdlmnlmarDoor
open Go.RowKit

theorem PkBack.gives {p : PI} {w : World} {e : Ending} {w' : World} (h : PkBack p w e w') : PkGives p.op p.key p.fr p.dst p.num p.acks p.body true w e w' := h
theorem PkNone.gives {w : World} {e : Ending} {w' : World} (h : PkNone w e w') : PkGives 0 0 0 0 0 [] ⟨#[]⟩ false w e w' := ⟨none, 0, [], h.1, ⟨_, rfl, .inl ⟨rfl, rfl, rfl⟩⟩, h.2⟩
theorem lawReadPacketA (t : ByteArray) (w : World) (ht : Laid w) :
    Calls Tryd.prog 3 #[.string t] w fun e w' => e = .returned (.bool true) ∧ Below w.heap.size w w' := by
  by_cases hs : t.size ≤ 1048576
  · by_cases hq : ∃ q : PI, q.says t
    · obtain ⟨q, hq⟩ := hq
      exact lawReadPacketF Laid (fun _ _ h hb => h.stays hb (Nat.le_refl _)) t hs q.op q.key q.fr q.dst q.num q.acks q.body true (by have := hq.1.2.2.2.2.2.1; omega) (fun X hX => (implReadPacket_any t hs X hX).mono fun _ _ h => (h.back hq).gives) (fun X => (specReadPacket_any t hs X).mono fun _ _ h => (h.back hq).gives) w ht
    · have hn : ∀ q : PI, ¬ q.says t := fun q h => hq ⟨q, h⟩
      exact lawReadPacketF Laid (fun _ _ h hb => h.stays hb (Nat.le_refl _)) t hs 0 0 0 0 0 [] ⟨#[]⟩ false (by simp) (fun X hX => (implReadPacket_any t hs X hX).mono fun _ _ h => (h.none hn).gives) (fun X => (specReadPacket_any t hs X).mono fun _ _ h => (h.none hn).gives) w ht
  · exact lawReadPacket_big t (by omega) w


end Go.Proofs.YtdhacjpdlmnlmarDoor

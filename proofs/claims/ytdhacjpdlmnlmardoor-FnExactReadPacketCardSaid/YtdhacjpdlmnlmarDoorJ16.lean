/-
  The given PacketText.
-/
import Derived.Test.YtdhacjpdlmnlmarDoorJ08
import Derived.Test.YtdhacjpdlmnlmarDoorJ04
import Derived.Test.YtdhacjpdlmnlmarDoorJ01
import Derived.Test.YtdhacjpdlmnlmarDoorJ13
import Derived.Test.YtdhacjpdlmnlmarDoorJ15
import Derived.Deep.RegionHeld3
namespace Go.Proofs.YtdhacjpdlmnlmarDoor
open Go.RowKit

/-- A packet of ints, in plain words. -/
def pkOf (op key fr dst num : Int) (acks : List Int) (body : ByteArray) : Pk := ⟨op.toNat, key.toNat, fr.toNat, dst.toNat, num.toNat, acks.map Int.toNat, body.data.toList⟩
theorem PkOkP.fits {op key fr dst num : Int} {acks : List Int} {body : ByteArray} (h : PkOkP op key fr dst num acks body) : PkFits (pkOf op key fr dst num acks body) := by
  obtain ⟨h1, h2, h3, h4, h5, h6, h7, h8, _⟩ := h
  refine ⟨by show op.toNat ≤ 31; omega, by show key.toNat ≤ 7; omega, by show fr.toNat ≤ 255; omega, by show dst.toNat ≤ 255; omega, by show num.toNat ≤ _; omega, by show (acks.map Int.toNat).length ≤ _; rw [List.length_map]; omega, fun x hx => ?_⟩
  obtain ⟨y, hy, rfl⟩ := List.mem_map.1 hx
  have := (h8 y hy).1
  omega
theorem var_five (n : Nat) (h : n ≤ 1000000000) : (var n).length ≤ 5 := var_len 4 n (by omega)
theorem acks_bytes : ∀ (xs : List Nat), (∀ x ∈ xs, x ≤ 1000000000) → (xs.flatMap var).length ≤ 5 * xs.length
  | [], _ => by simp
  | x :: xs, h => by
    have h1 := var_five x (h x (by simp))
    have h2 := acks_bytes xs (fun y hy => h y (by simp [hy]))
    rw [List.flatMap_cons, List.length_append, List.length_cons]
    omega
/-- The packet's variable, and what lies below. -/
structure PKV (w : World) (op key fr dst num : Int) (v : Value) (body : ByteArray) (X : World) : Prop where
  var : VarA w.heap.size PkT #[.int .i64 op, .int .i64 key, .int .i64 fr, .int .i64 dst, .int .i64 num, v, .string body] X
  below : Below w.heap.size w X
theorem PKV.next {w : World} {op key fr dst num : Int} {v : Value} {body : ByteArray} {X Y : World} (h : PKV w op key fr dst num v body X) (hb : Below X.heap.size X Y) : PKV w op key fr dst num v body Y := ⟨h.var.next hb, h.below.trans (hb.mono h.below.size)⟩

set_option maxRecDepth 100000 in
set_option maxHeartbeats 800000 in
theorem specPacketText_no (op key fr dst num : Int) (v : Value) (acks : List Int) (body : ByteArray) (hl : acks.length ≤ 100000000) (hb : body.size ≤ 100000000) (w : World) (h : layIntS.rd w [v] acks) (hn : ¬ PkOkP op key fr dst num acks body) :
    Calls Tryd.prog 12 #[.agg #[.int .i64 op, .int .i64 key, .int .i64 fr, .int .i64 dst, .int .i64 num, v, .string body]] w fun e w' => e = .returned (.tuple #[.string ⟨#[]⟩, .bool false]) ∧ Below w.heap.size w w' := by
  obtain ⟨ao, cp, rfl⟩ := rows_form h
  have P0 : Hid (PKV w op key fr dst num (.slice ao acks.length cp) body (w.alloc (.cells #[.int .i64 op, .int .i64 key, .int .i64 fr, .int .i64 dst, .int .i64 num, .slice ao acks.length cp, .string body] PkT))) := ⟨VarA.new w PkT _, (Below.refl w.heap.size w).alloc (Nat.le_refl _) _⟩
  have K := Lib.hid (specPacketOk_any op key fr dst num _ acks body hl hb _ (layIntS.below h P0.out.below))
  clear h
  go_enter Tryd.func12, Tryd.ntmps12
  go_upto_region 1 with fail
  generalize w.alloc (.cells #[.int .i64 op, .int .i64 key, .int .i64 fr, .int .i64 dst, .int .i64 num, .slice ao acks.length cp, .string body] PkT) = Y at *
  have c0 : Y.cell? ⟨w.heap.size, 0, none⟩ = some (.int .i64 op) := P0.out.var.cell 0
  have c1 : Y.cell? ⟨w.heap.size, 1, none⟩ = some (.int .i64 key) := P0.out.var.cell 1
  have c2 : Y.cell? ⟨w.heap.size, 2, none⟩ = some (.int .i64 fr) := P0.out.var.cell 2
  have c3 : Y.cell? ⟨w.heap.size, 3, none⟩ = some (.int .i64 dst) := P0.out.var.cell 3
  have c4 : Y.cell? ⟨w.heap.size, 4, none⟩ = some (.int .i64 num) := P0.out.var.cell 4
  have c5 : Y.cell? ⟨w.heap.size, 5, none⟩ = some (.slice ao acks.length cp) := P0.out.var.cell 5
  have c6 : Y.cell? ⟨w.heap.size, 6, none⟩ = some (.string body) := P0.out.var.cell 6
  go_wp2_with fail
  refine (K.out).mono ?_
  rintro e Z ⟨⟨hy, _⟩ | ⟨_, rfl⟩, hbz⟩
  · exact absurd hy hn
  have BZ := Lib.hid (P0.out.next hbz).below
  clear hbz K
  go_wp2_with fail
  go_ret2
  exact ⟨rfl, BZ.out⟩

set_option maxRecDepth 100000 in
set_option maxHeartbeats 3200000 in
theorem specPacketText_yes (op key fr dst num : Int) (v : Value) (acks : List Int) (body : ByteArray) (w : World) (h : layIntS.rd w [v] acks) (hy : PkOkP op key fr dst num acks body) :
    Calls Tryd.prog 12 #[.agg #[.int .i64 op, .int .i64 key, .int .i64 fr, .int .i64 dst, .int .i64 num, v, .string body]] w fun e w' => e = .returned (.tuple #[.string ⟨(sealedOf (pkB (pkOf op key fr dst num acks body))).toArray⟩, .bool true]) ∧ Below w.heap.size w w' := by
  obtain ⟨ao, cp, rfl⟩ := rows_form h
  have HY := Lib.hid hy
  have HR := Lib.hid h
  have P0 : Hid (PKV w op key fr dst num (.slice ao acks.length cp) body (w.alloc (.cells #[.int .i64 op, .int .i64 key, .int .i64 fr, .int .i64 dst, .int .i64 num, .slice ao acks.length cp, .string body] PkT))) := ⟨VarA.new w PkT _, (Below.refl w.heap.size w).alloc (Nat.le_refl _) _⟩
  have hac : acks.length ≤ 4 := hy.2.2.2.2.2.1
  have hbo : body.size ≤ 120 := hy.2.2.2.2.2.2.1
  have K := Lib.hid (specPacketOk_any op key fr dst num _ acks body (by omega) (by omega) _ (layIntS.below h P0.out.below))
  obtain ⟨hop, hkey, hfr, hdst, hnum, -⟩ := hy
  clear h
  go_enter Tryd.func12, Tryd.ntmps12
  go_upto_region 1 with fail
  generalize w.alloc (.cells #[.int .i64 op, .int .i64 key, .int .i64 fr, .int .i64 dst, .int .i64 num, .slice ao acks.length cp, .string body] PkT) = Y at *
  have c0 : Y.cell? ⟨w.heap.size, 0, none⟩ = some (.int .i64 op) := P0.out.var.cell 0
  have c1 : Y.cell? ⟨w.heap.size, 1, none⟩ = some (.int .i64 key) := P0.out.var.cell 1
  have c2 : Y.cell? ⟨w.heap.size, 2, none⟩ = some (.int .i64 fr) := P0.out.var.cell 2
  have c3 : Y.cell? ⟨w.heap.size, 3, none⟩ = some (.int .i64 dst) := P0.out.var.cell 3
  have c4 : Y.cell? ⟨w.heap.size, 4, none⟩ = some (.int .i64 num) := P0.out.var.cell 4
  have c5 : Y.cell? ⟨w.heap.size, 5, none⟩ = some (.slice ao acks.length cp) := P0.out.var.cell 5
  have c6 : Y.cell? ⟨w.heap.size, 6, none⟩ = some (.string body) := P0.out.var.cell 6
  go_wp2_with fail
  refine (K.out).mono ?_
  rintro e Z ⟨⟨_, rfl⟩ | ⟨hn, _⟩, hbz⟩
  rotate_left
  · exact absurd HY.out hn
  have P1 := Lib.hid (P0.out.next hbz)
  clear hbz K P0 c0 c1 c2 c3 c4 c5 c6
  have S0 : Hid (∀ X, PKV w op key fr dst num (.slice ao acks.length cp) body X → (X.cell? ⟨w.heap.size, 0, none⟩ = some (.int .i64 op) ∧ X.cell? ⟨w.heap.size, 1, none⟩ = some (.int .i64 key) ∧ X.cell? ⟨w.heap.size, 2, none⟩ = some (.int .i64 fr) ∧ X.cell? ⟨w.heap.size, 3, none⟩ = some (.int .i64 dst) ∧ X.cell? ⟨w.heap.size, 4, none⟩ = some (.int .i64 num) ∧ X.cell? ⟨w.heap.size, 5, none⟩ = some (.slice ao acks.length cp) ∧ PKV w op key fr dst num (.slice ao acks.length cp) body X)) := fun X h => ⟨h.var.cell 0, h.var.cell 1, h.var.cell 2, h.var.cell 3, h.var.cell 4, h.var.cell 5, h⟩
  have S1 : Hid (Z.drew.cell? ⟨w.heap.size, 0, none⟩ = some (.int .i64 op) ∧ Z.drew.cell? ⟨w.heap.size, 1, none⟩ = some (.int .i64 key) ∧ Z.drew.cell? ⟨w.heap.size, 2, none⟩ = some (.int .i64 fr) ∧ Z.drew.cell? ⟨w.heap.size, 3, none⟩ = some (.int .i64 dst) ∧ Z.drew.cell? ⟨w.heap.size, 4, none⟩ = some (.int .i64 num) ∧ Z.drew.cell? ⟨w.heap.size, 5, none⟩ = some (.slice ao acks.length cp) ∧ PKV w op key fr dst num (.slice ao acks.length cp) body Z.drew) := S0.out _ (P1.out.next ((Below.refl _ _).drew))
  have hm1 : IntKind.i64.wrap (8 * op) = 8 * op := by rw [IntKind.wrap_i64]; omega
  have hm2 : IntKind.i64.wrap (8 * op + key) = 8 * op + key := by rw [IntKind.wrap_i64]; omega
  have KB : Hid (∀ (z : Int), (0 ≤ z ∧ z ≤ 255) → ∀ X, (X.cell? ⟨w.heap.size, 0, none⟩ = some (.int .i64 op) ∧ X.cell? ⟨w.heap.size, 1, none⟩ = some (.int .i64 key) ∧ X.cell? ⟨w.heap.size, 2, none⟩ = some (.int .i64 fr) ∧ X.cell? ⟨w.heap.size, 3, none⟩ = some (.int .i64 dst) ∧ X.cell? ⟨w.heap.size, 4, none⟩ = some (.int .i64 num) ∧ X.cell? ⟨w.heap.size, 5, none⟩ = some (.slice ao acks.length cp) ∧ PKV w op key fr dst num (.slice ao acks.length cp) body X) → Calls Tryd.prog 24 #[.int .i64 z] X fun e Y => e = .returned (.string ⟨#[UInt8.ofNat z.toNat]⟩) ∧ (Y.cell? ⟨w.heap.size, 0, none⟩ = some (.int .i64 op) ∧ Y.cell? ⟨w.heap.size, 1, none⟩ = some (.int .i64 key) ∧ Y.cell? ⟨w.heap.size, 2, none⟩ = some (.int .i64 fr) ∧ Y.cell? ⟨w.heap.size, 3, none⟩ = some (.int .i64 dst) ∧ Y.cell? ⟨w.heap.size, 4, none⟩ = some (.int .i64 num) ∧ Y.cell? ⟨w.heap.size, 5, none⟩ = some (.slice ao acks.length cp) ∧ PKV w op key fr dst num (.slice ao acks.length cp) body Y)) := fun z hz X hX => by
    obtain ⟨m, rfl⟩ := Int.eq_ofNat_of_zero_le hz.1
    refine (specByteP_any m (by omega) X).mono ?_
    rintro e Y ⟨rfl, hb⟩
    exact ⟨rfl, S0.out _ (hX.2.2.2.2.2.2.next hb)⟩
  have KV : Hid (∀ (z : Int), (0 ≤ z ∧ z ≤ 1000000000) → ∀ X, (X.cell? ⟨w.heap.size, 0, none⟩ = some (.int .i64 op) ∧ X.cell? ⟨w.heap.size, 1, none⟩ = some (.int .i64 key) ∧ X.cell? ⟨w.heap.size, 2, none⟩ = some (.int .i64 fr) ∧ X.cell? ⟨w.heap.size, 3, none⟩ = some (.int .i64 dst) ∧ X.cell? ⟨w.heap.size, 4, none⟩ = some (.int .i64 num) ∧ X.cell? ⟨w.heap.size, 5, none⟩ = some (.slice ao acks.length cp) ∧ PKV w op key fr dst num (.slice ao acks.length cp) body X) → Calls Tryd.prog 25 #[.int .i64 z] X fun e Y => e = .returned (.string ⟨(Go.Proofs.YtdhacjpdlmnlmarDoor.var z.toNat).toArray⟩) ∧ (Y.cell? ⟨w.heap.size, 0, none⟩ = some (.int .i64 op) ∧ Y.cell? ⟨w.heap.size, 1, none⟩ = some (.int .i64 key) ∧ Y.cell? ⟨w.heap.size, 2, none⟩ = some (.int .i64 fr) ∧ Y.cell? ⟨w.heap.size, 3, none⟩ = some (.int .i64 dst) ∧ Y.cell? ⟨w.heap.size, 4, none⟩ = some (.int .i64 num) ∧ Y.cell? ⟨w.heap.size, 5, none⟩ = some (.slice ao acks.length cp) ∧ PKV w op key fr dst num (.slice ao acks.length cp) body Y)) := fun z hz X hX => by
    refine (l01Var_int z hz.1 hz.2 X).mono ?_
    rintro e Y ⟨rfl, hb⟩
    exact ⟨rfl, S0.out _ (hX.2.2.2.2.2.2.next hb)⟩
  obtain ⟨s1, HS1⟩ : ∃ s : ByteArray, Hid (s = ⟨#[UInt8.ofNat (8 * op + key).toNat]⟩) := ⟨_, rfl⟩
  obtain ⟨s2, HS2⟩ : ∃ s : ByteArray, Hid (s = ⟨#[UInt8.ofNat fr.toNat]⟩) := ⟨_, rfl⟩
  obtain ⟨s3, HS3⟩ : ∃ s : ByteArray, Hid (s = ⟨#[UInt8.ofNat dst.toNat]⟩) := ⟨_, rfl⟩
  obtain ⟨s4, HS4⟩ : ∃ s : ByteArray, Hid (s = ⟨(Go.Proofs.YtdhacjpdlmnlmarDoor.var num.toNat).toArray⟩) := ⟨_, rfl⟩
  obtain ⟨s5, HS5⟩ : ∃ s : ByteArray, Hid (s = ⟨(Go.Proofs.YtdhacjpdlmnlmarDoor.var acks.length).toArray⟩) := ⟨_, rfl⟩
  have z1 : s1.size ≤ 5 := by rw [HS1.out]; show 1 ≤ 5; omega
  have z2 : s2.size ≤ 5 := by rw [HS2.out]; show 1 ≤ 5; omega
  have z3 : s3.size ≤ 5 := by rw [HS3.out]; show 1 ≤ 5; omega
  have z4 : s4.size ≤ 5 := by rw [HS4.out]; have := var_five num.toNat (by omega); show (Go.Proofs.YtdhacjpdlmnlmarDoor.var num.toNat).toArray.size ≤ 5; simpa using this
  have z5 : s5.size ≤ 5 := by rw [HS5.out]; have := var_five acks.length (by omega); show (Go.Proofs.YtdhacjpdlmnlmarDoor.var acks.length).toArray.size ≤ 5; simpa using this
  have f2 : ¬ (9223372036854775807 < s1.size + s2.size) := by omega
  have f3 : ¬ (9223372036854775807 < s1.size + s2.size + s3.size) := by omega
  have f4 : ¬ (9223372036854775807 < s1.size + s2.size + s3.size + s4.size) := by omega
  have f5 : ¬ (9223372036854775807 < s1.size + s2.size + s3.size + s4.size + s5.size) := by omega
  have E1 : Hid (∀ z : Int, z = 8 * op + key → ∀ X, (X.cell? ⟨w.heap.size, 0, none⟩ = some (.int .i64 op) ∧ X.cell? ⟨w.heap.size, 1, none⟩ = some (.int .i64 key) ∧ X.cell? ⟨w.heap.size, 2, none⟩ = some (.int .i64 fr) ∧ X.cell? ⟨w.heap.size, 3, none⟩ = some (.int .i64 dst) ∧ X.cell? ⟨w.heap.size, 4, none⟩ = some (.int .i64 num) ∧ X.cell? ⟨w.heap.size, 5, none⟩ = some (.slice ao acks.length cp) ∧ PKV w op key fr dst num (.slice ao acks.length cp) body X) → Calls Tryd.prog 24 #[.int .i64 z] X fun e Y => e = .returned (.string s1) ∧ (Y.cell? ⟨w.heap.size, 0, none⟩ = some (.int .i64 op) ∧ Y.cell? ⟨w.heap.size, 1, none⟩ = some (.int .i64 key) ∧ Y.cell? ⟨w.heap.size, 2, none⟩ = some (.int .i64 fr) ∧ Y.cell? ⟨w.heap.size, 3, none⟩ = some (.int .i64 dst) ∧ Y.cell? ⟨w.heap.size, 4, none⟩ = some (.int .i64 num) ∧ Y.cell? ⟨w.heap.size, 5, none⟩ = some (.slice ao acks.length cp) ∧ PKV w op key fr dst num (.slice ao acks.length cp) body Y)) := fun z hz X hX => by
    subst hz
    rw [HS1.out]
    exact KB.out _ ⟨by omega, by omega⟩ X hX
  have E2 : Hid (∀ X, (X.cell? ⟨w.heap.size, 0, none⟩ = some (.int .i64 op) ∧ X.cell? ⟨w.heap.size, 1, none⟩ = some (.int .i64 key) ∧ X.cell? ⟨w.heap.size, 2, none⟩ = some (.int .i64 fr) ∧ X.cell? ⟨w.heap.size, 3, none⟩ = some (.int .i64 dst) ∧ X.cell? ⟨w.heap.size, 4, none⟩ = some (.int .i64 num) ∧ X.cell? ⟨w.heap.size, 5, none⟩ = some (.slice ao acks.length cp) ∧ PKV w op key fr dst num (.slice ao acks.length cp) body X) → Calls Tryd.prog 24 #[.int .i64 fr] X fun e Y => e = .returned (.string s2) ∧ (Y.cell? ⟨w.heap.size, 0, none⟩ = some (.int .i64 op) ∧ Y.cell? ⟨w.heap.size, 1, none⟩ = some (.int .i64 key) ∧ Y.cell? ⟨w.heap.size, 2, none⟩ = some (.int .i64 fr) ∧ Y.cell? ⟨w.heap.size, 3, none⟩ = some (.int .i64 dst) ∧ Y.cell? ⟨w.heap.size, 4, none⟩ = some (.int .i64 num) ∧ Y.cell? ⟨w.heap.size, 5, none⟩ = some (.slice ao acks.length cp) ∧ PKV w op key fr dst num (.slice ao acks.length cp) body Y)) := fun X hX => by rw [HS2.out]; exact KB.out _ ⟨by omega, by omega⟩ X hX
  have E3 : Hid (∀ X, (X.cell? ⟨w.heap.size, 0, none⟩ = some (.int .i64 op) ∧ X.cell? ⟨w.heap.size, 1, none⟩ = some (.int .i64 key) ∧ X.cell? ⟨w.heap.size, 2, none⟩ = some (.int .i64 fr) ∧ X.cell? ⟨w.heap.size, 3, none⟩ = some (.int .i64 dst) ∧ X.cell? ⟨w.heap.size, 4, none⟩ = some (.int .i64 num) ∧ X.cell? ⟨w.heap.size, 5, none⟩ = some (.slice ao acks.length cp) ∧ PKV w op key fr dst num (.slice ao acks.length cp) body X) → Calls Tryd.prog 24 #[.int .i64 dst] X fun e Y => e = .returned (.string s3) ∧ (Y.cell? ⟨w.heap.size, 0, none⟩ = some (.int .i64 op) ∧ Y.cell? ⟨w.heap.size, 1, none⟩ = some (.int .i64 key) ∧ Y.cell? ⟨w.heap.size, 2, none⟩ = some (.int .i64 fr) ∧ Y.cell? ⟨w.heap.size, 3, none⟩ = some (.int .i64 dst) ∧ Y.cell? ⟨w.heap.size, 4, none⟩ = some (.int .i64 num) ∧ Y.cell? ⟨w.heap.size, 5, none⟩ = some (.slice ao acks.length cp) ∧ PKV w op key fr dst num (.slice ao acks.length cp) body Y)) := fun X hX => by rw [HS3.out]; exact KB.out _ ⟨by omega, by omega⟩ X hX
  have E4 : Hid (∀ X, (X.cell? ⟨w.heap.size, 0, none⟩ = some (.int .i64 op) ∧ X.cell? ⟨w.heap.size, 1, none⟩ = some (.int .i64 key) ∧ X.cell? ⟨w.heap.size, 2, none⟩ = some (.int .i64 fr) ∧ X.cell? ⟨w.heap.size, 3, none⟩ = some (.int .i64 dst) ∧ X.cell? ⟨w.heap.size, 4, none⟩ = some (.int .i64 num) ∧ X.cell? ⟨w.heap.size, 5, none⟩ = some (.slice ao acks.length cp) ∧ PKV w op key fr dst num (.slice ao acks.length cp) body X) → Calls Tryd.prog 25 #[.int .i64 num] X fun e Y => e = .returned (.string s4) ∧ (Y.cell? ⟨w.heap.size, 0, none⟩ = some (.int .i64 op) ∧ Y.cell? ⟨w.heap.size, 1, none⟩ = some (.int .i64 key) ∧ Y.cell? ⟨w.heap.size, 2, none⟩ = some (.int .i64 fr) ∧ Y.cell? ⟨w.heap.size, 3, none⟩ = some (.int .i64 dst) ∧ Y.cell? ⟨w.heap.size, 4, none⟩ = some (.int .i64 num) ∧ Y.cell? ⟨w.heap.size, 5, none⟩ = some (.slice ao acks.length cp) ∧ PKV w op key fr dst num (.slice ao acks.length cp) body Y)) := fun X hX => by rw [HS4.out]; exact KV.out _ ⟨by omega, by omega⟩ X hX
  have E5 : Hid (∀ X, (X.cell? ⟨w.heap.size, 0, none⟩ = some (.int .i64 op) ∧ X.cell? ⟨w.heap.size, 1, none⟩ = some (.int .i64 key) ∧ X.cell? ⟨w.heap.size, 2, none⟩ = some (.int .i64 fr) ∧ X.cell? ⟨w.heap.size, 3, none⟩ = some (.int .i64 dst) ∧ X.cell? ⟨w.heap.size, 4, none⟩ = some (.int .i64 num) ∧ X.cell? ⟨w.heap.size, 5, none⟩ = some (.slice ao acks.length cp) ∧ PKV w op key fr dst num (.slice ao acks.length cp) body X) → Calls Tryd.prog 25 #[.int .i64 (acks.length : Int)] X fun e Y => e = .returned (.string s5) ∧ (Y.cell? ⟨w.heap.size, 0, none⟩ = some (.int .i64 op) ∧ Y.cell? ⟨w.heap.size, 1, none⟩ = some (.int .i64 key) ∧ Y.cell? ⟨w.heap.size, 2, none⟩ = some (.int .i64 fr) ∧ Y.cell? ⟨w.heap.size, 3, none⟩ = some (.int .i64 dst) ∧ Y.cell? ⟨w.heap.size, 4, none⟩ = some (.int .i64 num) ∧ Y.cell? ⟨w.heap.size, 5, none⟩ = some (.slice ao acks.length cp) ∧ PKV w op key fr dst num (.slice ao acks.length cp) body Y)) := fun X hX => by rw [HS5.out]; exact KV.out _ ⟨by omega, by omega⟩ X hX
  go_wp2_with fail
  go_cut [4] (fun v wx => v = .string (s1 ++ s2 ++ s3 ++ s4 ++ s5) ∧ Hid (PKV w op key fr dst num (.slice ao acks.length cp) body wx))
  case first =>
    go_region_held3 (fun X => X.cell? ⟨w.heap.size, 0, none⟩ = some (.int .i64 op) ∧ X.cell? ⟨w.heap.size, 1, none⟩ = some (.int .i64 key) ∧ X.cell? ⟨w.heap.size, 2, none⟩ = some (.int .i64 fr) ∧ X.cell? ⟨w.heap.size, 3, none⟩ = some (.int .i64 dst) ∧ X.cell? ⟨w.heap.size, 4, none⟩ = some (.int .i64 num) ∧ X.cell? ⟨w.heap.size, 5, none⟩ = some (.slice ao acks.length cp) ∧ PKV w op key fr dst num (.slice ao acks.length cp) body X) (first | (with_reducible assumption) | (with_reducible exact S1.out)) (first | (go_at_call_of 24 (Value.int IntKind.i64 fr); refine (E2.out _ (by assumption)).mono ?_; rintro e v1 ⟨rfl, hS⟩) | (go_at_call_of 24 (Value.int IntKind.i64 dst); refine (E3.out _ (by assumption)).mono ?_; rintro e v1 ⟨rfl, hS⟩) | (go_at_call 24; refine (E1.out _ (by first | rfl | (simp only [IntKind.wrap_i64]; omega)) _ (by assumption)).mono ?_; rintro e v1 ⟨rfl, hS⟩) | (go_at_call_of 25 (Value.int IntKind.i64 num); refine (E4.out _ (by assumption)).mono ?_; rintro e v1 ⟨rfl, hS⟩) | (go_at_call 25; refine (E5.out _ (by assumption)).mono ?_; rintro e v1 ⟨rfl, hS⟩))
    all_goals
      go_wp2_with fail
      go_meet
      exact ⟨rfl, Lib.hid hS.2.2.2.2.2.2⟩
  case rest =>
    obtain ⟨rfl, PC⟩ := hcut
    generalize wc = V at *
    have HFIT : Hid (∀ x ∈ acks.map Int.toNat, x ≤ 1000000000) := HY.out.fits.acks
    have HST : Hid ((s1 ++ s2 ++ s3 ++ s4 ++ s5).data.toList = UInt8.ofNat (8 * op.toNat + key.toNat) :: UInt8.ofNat fr.toNat :: UInt8.ofNat dst.toNat :: (Go.Proofs.YtdhacjpdlmnlmarDoor.var num.toNat ++ Go.Proofs.YtdhacjpdlmnlmarDoor.var acks.length)) := by
      have e : (8 * op + key).toNat = 8 * op.toNat + key.toNat := by omega
      show _ = _
      rw [HS1.out, HS2.out, HS3.out, HS4.out, HS5.out, e]
      simp
    have hsz : (s1 ++ s2 ++ s3 ++ s4 ++ s5).size ≤ 25 := by simp only [ByteArray.size_append]; omega
    clear E1 E2 E3 E4 E5 KB KV S0 S1 P1 f2 f3 f4 f5 z1 z2 z3 z4 z5 HS1 HS2 HS3 HS4 HS5 hm1 hm2
    generalize s1 ++ s2 ++ s3 ++ s4 ++ s5 = st at *
    go_wp2_with fail
    go_loopw [4, 5] (fun t c wr => ∃ (j : Nat) (s : ByteArray), j ≤ acks.length ∧ t = .string s ∧ c = .int .i64 j ∧ Hid (s.data.toList = st.data.toList ++ ((acks.take j).map Int.toNat).flatMap Go.Proofs.YtdhacjpdlmnlmarDoor.var) ∧ PKV w op key fr dst num (.slice ao acks.length cp) body wr) (fun _ c _ => acks.length - (intOf c).toNat)
    case atStart => exact ⟨0, st, Nat.zero_le _, rfl, rfl, by show _ = _; simp, PC.out⟩
    case round =>
      obtain ⟨j, s, hj, rfl, rfl, HSJ, hP⟩ := hrel
      have HP := Lib.hid hP
      clear hP PC
      have hss : s.size ≤ 45 := by
        have h1 : s.data.toList.length = s.size := by simp
        have h2 := acks_bytes ((acks.take j).map Int.toNat) (fun x hx => HFIT.out x (List.map_subset _ (List.take_subset j acks) hx))
        have h3 : st.data.toList.length = st.size := by simp
        rw [HSJ.out, List.length_append, h3] at h1
        rw [List.length_map, List.length_take] at h2
        omega
      have c5 : wr.cell? ⟨w.heap.size, 5, none⟩ = some (.slice ao acks.length cp) := HP.out.var.cell 5
      by_cases hlt : j < acks.length
      · have hlt' : (j : Int) < (acks.length : Int) := by omega
        obtain ⟨g, off, cap, hv, hg, hcell⟩ := ints_get (layIntS.below HR.out HP.out.below) j hlt
        simp only [Value.slice.injEq] at hv
        obtain ⟨rfl, -, rfl⟩ := hv
        have hx := HY.out.2.2.2.2.2.2.2.1 _ (List.getElem_mem hlt)
        have htk : (acks.take (j + 1)).map Int.toNat = (acks.take j).map Int.toNat ++ [acks[j].toNat] := by rw [List.take_add_one, List.getElem?_eq_getElem hlt, List.map_append]; rfl
        have HTK := Lib.hid htk
        clear htk
        generalize acks[j] = x at hcell hx HTK
        have hxr := hx.1
        have K := Lib.hid (l01Var_int x (by omega) (by omega))
        have z6 := var_five x.toNat (by omega)
        obtain ⟨sx, HSX⟩ : ∃ s : ByteArray, Hid (s = ⟨(Go.Proofs.YtdhacjpdlmnlmarDoor.var x.toNat).toArray⟩) := ⟨_, rfl⟩
        rw [← HSX.out] at K
        have z7 : sx.size ≤ 5 := by rw [HSX.out]; show (Go.Proofs.YtdhacjpdlmnlmarDoor.var x.toNat).toArray.size ≤ 5; simpa using z6
        have f6 : ¬ (9223372036854775807 < s.size + sx.size) := by omega
        clear z6 hx
        go_wp2_with fail
        refine (K.out _).mono ?_
        rintro e Z2 ⟨rfl, hb2⟩
        have HP2 := Lib.hid (HP.out.next hb2)
        clear hb2 K HP
        go_wp2_with fail
        go_roundw
        case rel => exact ⟨j + 1, s ++ sx, by omega, rfl, by go_num, by show _ = _; rw [HTK.out, HSX.out, List.flatMap_append, ByteArray.data_append, Array.toList_append, HSJ.out]; simp, HP2.out⟩
        case measure => simp [intOf]; omega
      · have hlt' : ¬ ((j : Int) < (acks.length : Int)) := by omega
        have hje : j = acks.length := by omega
        subst hje
        have c6 : wr.cell? ⟨w.heap.size, 6, none⟩ = some (.string body) := HP.out.var.cell 6
        have HE : Hid ((s ++ body).data.toList = pkB (pkOf op key fr dst num acks body)) := by
          show _ = _
          rw [ByteArray.data_append, Array.toList_append, HSJ.out, HST.out, List.take_length]
          unfold pkB pkOf
          simp
        have f7 : ¬ (9223372036854775807 < s.size + body.size) := by omega
        have K := Lib.hid (specSealed_yes (s ++ body) (by simp only [ByteArray.size_append]; omega))
        rw [HE.out] at K
        go_wp2_with fail
        refine (K.out _).mono ?_
        rintro e Z2 ⟨rfl, hb2⟩
        have BZ := Lib.hid (HP.out.next hb2).below
        clear hb2 K
        go_wp2_with fail
        go_ret2
        exact ⟨rfl, BZ.out⟩

end Go.Proofs.YtdhacjpdlmnlmarDoor

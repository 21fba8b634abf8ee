/-
  The program's PacketText.
-/
import Derived.Test.YtdhacjpdlmnlmaqDoorJ12
import Derived.Test.YtdhacjpdlmnlmaqDoorJ13
import Derived.Test.YtdhacjpdlmnlmaqDoorJ14
import Derived.Test.YtdhacjpdlmnlmaqDoorJ09
import Derived.Test.YtdhacjpdlmnlmaqDoorJ10
namespace Go.Proofs.YtdhacjpdlmnlmaqDoor
open Go.RowKit

set_option maxRecDepth 100000 in
set_option maxHeartbeats 800000 in
theorem implPacketText_no (op key fr dst num : Int) (v : Value) (acks : List Int) (body : ByteArray) (hl : acks.length ≤ 100000000) (hb : body.size ≤ 100000000) (w : World) (h : layIntS.rd w [v] acks) (hn : ¬ PkOkP op key fr dst num acks body) :
    Calls Tryd.prog 7 #[.agg #[.int .i64 op, .int .i64 key, .int .i64 fr, .int .i64 dst, .int .i64 num, v, .string body]] w fun e w' => e = .returned (.tuple #[.string ⟨#[]⟩, .bool false]) ∧ Below w.heap.size w w' := by
  obtain ⟨ao, cp, rfl⟩ := rows_form h
  have P0 : Hid (PKV w op key fr dst num (.slice ao acks.length cp) body (w.alloc (.cells #[.int .i64 op, .int .i64 key, .int .i64 fr, .int .i64 dst, .int .i64 num, .slice ao acks.length cp, .string body] PkT))) := ⟨VarA.new w PkT _, (Below.refl w.heap.size w).alloc (Nat.le_refl _) _⟩
  have K := Lib.hid (implPacketOk_bool op key fr dst num _ acks body false ⟨fun e => (by cases e), fun e => absurd e hn⟩ hl hb _ (layIntS.below h P0.out.below))
  clear h
  go_enter Tryd.func7, Tryd.ntmps7
  go_upto_region 1 with fail
  generalize w.alloc (.cells #[.int .i64 op, .int .i64 key, .int .i64 fr, .int .i64 dst, .int .i64 num, .slice ao acks.length cp, .string body] PkT) = Y at *
  have c0 : Y.cell? ⟨w.heap.size, 0, none⟩ = some (.int .i64 op) := P0.out.var.cell 0
  have c1 : Y.cell? ⟨w.heap.size, 1, none⟩ = some (.int .i64 key) := P0.out.var.cell 1
  have c2 : Y.cell? ⟨w.heap.size, 2, none⟩ = some (.int .i64 fr) := P0.out.var.cell 2
  have c3 : Y.cell? ⟨w.heap.size, 3, none⟩ = some (.int .i64 dst) := P0.out.var.cell 3
  have c4 : Y.cell? ⟨w.heap.size, 4, none⟩ = some (.int .i64 num) := P0.out.var.cell 4
  have c5 : Y.cell? ⟨w.heap.size, 5, none⟩ = some (.slice ao acks.length cp) := P0.out.var.cell 5
  have c6 : Y.cell? ⟨w.heap.size, 6, none⟩ = some (.string body) := P0.out.var.cell 6
  go_wp2_with fail
  refine (K.out).mono ?_
  rintro e Z ⟨rfl, hbz⟩
  have BZ := Lib.hid (P0.out.next hbz).below
  clear hbz K
  go_wp2_with fail
  go_ret2
  exact ⟨rfl, BZ.out⟩

/-- Three bytes laid as one row, read as a text. -/
theorem three_read (a b c : Int) (ha : 0 ≤ a ∧ a ≤ 255) (hb : 0 ≤ b ∧ b ≤ 255) (hc : 0 ≤ c ∧ c ≤ 255) (w : World) : (convert 37 9 (Value.slice (some ⟨w.heap.size, 0, none⟩) 3 3)).run Tryd.prog
    (w.alloc (.cells #[.int .u8 a, .int .u8 b, .int .u8 c] 5)) = .ok (.string ⟨#[UInt8.ofNat a.toNat, UInt8.ofNat b.toNat, UInt8.ofNat c.toNat]⟩) (w.alloc (.cells #[.int .u8 a, .int .u8 b, .int .u8 c] 5)) := by
  have e1 : a = (((UInt8.ofNat a.toNat).toNat : Nat) : Int) := by rw [UInt8.toNat_ofNat']; omega
  have e2 : b = (((UInt8.ofNat b.toNat).toNat : Nat) : Int) := by rw [UInt8.toNat_ofNat']; omega
  have e3 : c = (((UInt8.ofNat c.toNat).toNat : Nat) : Int) := by rw [UInt8.toNat_ofNat']; omega
  have h := World.ownsRow_lit (base := w.heap.size) (e := 5) (size := 1) w #[.int .u8 a, .int .u8 b, .int .u8 c] 3 (Nat.le_refl _) (by decide) rfl
  have hown : OwnB (w.alloc (.cells #[.int .u8 a, .int .u8 b, .int .u8 c] 5)) w.heap.size 5 (Value.slice (some ⟨w.heap.size, 0, none⟩) 3 3) [UInt8.ofNat a.toNat, UInt8.ofNat b.toNat, UInt8.ofNat c.toNat] := by
    unfold OwnB
    simp only [Lib.byteCells, List.map_cons, List.map_nil, ← e1, ← e2, ← e3]
    exact h
  exact run_string_own _ 37 9 5 Tryd.underlying37 Tryd.underlying5 Tryd.underlying9 _ hown

/-- Two numbers written out as a row. -/
theorem lit_two (W : World) (a b : Int) : layIntS.rd (W.alloc (.cells #[.int .i64 a, .int .i64 b] 3)) [.slice (some ⟨W.heap.size, 0, none⟩) 2 2] [a, b] :=
  layIntS.read (flat_own (xs := [a, b]) flatIntP (World.ownsRow_lit (base := W.heap.size) (e := 3) (size := 1) W #[.int .i64 a, .int .i64 b] 2 (Nat.le_refl _) (by decide) rfl) ⟨[_], [_], rfl, rfl, [_], [], rfl, rfl, rfl⟩)

/-- The packet's variable, what lies below, and the table. -/
structure PKL (w : World) (op key fr dst num : Int) (v : Value) (body : ByteArray) (X : World) : Prop where
  pk : PKV w op key fr dst num v body X
  laid : Laid X
theorem PKL.next {w : World} {op key fr dst num : Int} {v : Value} {body : ByteArray} {X Y : World} (h : PKL w op key fr dst num v body X) (hb : Below X.heap.size X Y) : PKL w op key fr dst num v body Y := ⟨h.pk.next hb, h.laid.stays hb (Nat.le_refl _)⟩

set_option maxRecDepth 100000 in
set_option maxHeartbeats 3200000 in
theorem implPacketText_yes (G : StrGives) (op key fr dst num : Int) (v : Value) (acks : List Int) (body : ByteArray) (w : World) (h : layIntS.rd w [v] acks) (hL : Laid w) (hy : PkOkP op key fr dst num acks body) :
    Calls Tryd.prog 7 #[.agg #[.int .i64 op, .int .i64 key, .int .i64 fr, .int .i64 dst, .int .i64 num, v, .string body]] w fun e w' => e = .returned (.tuple #[.string ⟨(sealedOf (pkB (pkOf op key fr dst num acks body))).toArray⟩, .bool true]) ∧ Below w.heap.size w w' := by
  obtain ⟨ao, cp, rfl⟩ := rows_form h
  obtain ⟨sx, HSX⟩ : ∃ s : ByteArray, Hid (s = ⟨(sealedOf (pkB (pkOf op key fr dst num acks body))).toArray⟩) := ⟨_, rfl⟩
  rw [← HSX.out]
  have HY := Lib.hid hy
  have HR := Lib.hid h
  have HG := Lib.hid G
  have P0 : Hid (PKL w op key fr dst num (.slice ao acks.length cp) body (w.alloc (.cells #[.int .i64 op, .int .i64 key, .int .i64 fr, .int .i64 dst, .int .i64 num, .slice ao acks.length cp, .string body] PkT))) := ⟨⟨VarA.new w PkT _, (Below.refl w.heap.size w).alloc (Nat.le_refl _) _⟩, hL.stays ((Below.refl w.heap.size w).alloc (Nat.le_refl _) _) (Nat.le_refl _)⟩
  have hac : acks.length ≤ 4 := hy.2.2.2.2.2.1
  have hbo : body.size ≤ 120 := hy.2.2.2.2.2.2.1
  have K := Lib.hid (implPacketOk_bool op key fr dst num _ acks body true ⟨fun _ => hy, fun _ => rfl⟩ (by omega) (by omega) _ (layIntS.below h P0.out.pk.below))
  obtain ⟨hop, hkey, hfr, hdst, hnum, -⟩ := hy
  clear h hL G
  go_enter Tryd.func7, Tryd.ntmps7
  go_upto_region 1 with fail
  generalize w.alloc (.cells #[.int .i64 op, .int .i64 key, .int .i64 fr, .int .i64 dst, .int .i64 num, .slice ao acks.length cp, .string body] PkT) = Y at *
  have c0 : Y.cell? ⟨w.heap.size, 0, none⟩ = some (.int .i64 op) := P0.out.pk.var.cell 0
  have c1 : Y.cell? ⟨w.heap.size, 1, none⟩ = some (.int .i64 key) := P0.out.pk.var.cell 1
  have c2 : Y.cell? ⟨w.heap.size, 2, none⟩ = some (.int .i64 fr) := P0.out.pk.var.cell 2
  have c3 : Y.cell? ⟨w.heap.size, 3, none⟩ = some (.int .i64 dst) := P0.out.pk.var.cell 3
  have c4 : Y.cell? ⟨w.heap.size, 4, none⟩ = some (.int .i64 num) := P0.out.pk.var.cell 4
  have c5 : Y.cell? ⟨w.heap.size, 5, none⟩ = some (.slice ao acks.length cp) := P0.out.pk.var.cell 5
  have c6 : Y.cell? ⟨w.heap.size, 6, none⟩ = some (.string body) := P0.out.pk.var.cell 6
  go_wp2_with fail
  refine (K.out).mono ?_
  rintro e Z ⟨rfl, hbz⟩
  have P1 := Lib.hid (P0.out.next hbz)
  clear hbz K P0 c0 c1 c2 c3 c4 c5 c6
  have c0 : Z.cell? ⟨w.heap.size, 0, none⟩ = some (.int .i64 op) := P1.out.pk.var.cell 0
  have c1 : Z.cell? ⟨w.heap.size, 1, none⟩ = some (.int .i64 key) := P1.out.pk.var.cell 1
  have c2 : Z.cell? ⟨w.heap.size, 2, none⟩ = some (.int .i64 fr) := P1.out.pk.var.cell 2
  have c3 : Z.cell? ⟨w.heap.size, 3, none⟩ = some (.int .i64 dst) := P1.out.pk.var.cell 3
  have hrd := three_read (op * 8 + key) fr dst (by omega) (by omega) (by omega) Z
  obtain ⟨hd, HD⟩ : ∃ s : ByteArray, Hid (s = ⟨#[UInt8.ofNat (op * 8 + key).toNat, UInt8.ofNat fr.toNat, UInt8.ofNat dst.toNat]⟩) := ⟨_, rfl⟩
  rw [← HD.out] at hrd
  have P2 := Lib.hid (P1.out.next ((Below.refl _ _).alloc (Nat.le_refl _) (.cells #[.int .u8 (op * 8 + key), .int .u8 fr, .int .u8 dst] 5)))
  go_upto_region 4 with fail
  clear c0 c1 c2 c3 hrd P1
  generalize Z.alloc (.cells #[.int .u8 (op * 8 + key), .int .u8 fr, .int .u8 dst] 5) = V at *
  have S0 : Hid (∀ X, PKL w op key fr dst num (.slice ao acks.length cp) body X → (X.cell? ⟨w.heap.size, 4, none⟩ = some (.int .i64 num) ∧ X.cell? ⟨w.heap.size, 5, none⟩ = some (.slice ao acks.length cp) ∧ X.cell? ⟨w.heap.size, 6, none⟩ = some (.string body) ∧ PKL w op key fr dst num (.slice ao acks.length cp) body X)) := fun X h => ⟨h.pk.var.cell 4, h.pk.var.cell 5, h.pk.var.cell 6, h⟩
  have S1 : Hid (V.drew.cell? ⟨w.heap.size, 4, none⟩ = some (.int .i64 num) ∧ V.drew.cell? ⟨w.heap.size, 5, none⟩ = some (.slice ao acks.length cp) ∧ V.drew.cell? ⟨w.heap.size, 6, none⟩ = some (.string body) ∧ PKL w op key fr dst num (.slice ao acks.length cp) body V.drew) := S0.out _ (P2.out.next ((Below.refl _ _).drew))
  have S2 : Hid ((V.alloc (.cells #[.int .i64 num, .int .i64 (acks.length : Int)] 3)).drew.cell? ⟨w.heap.size, 4, none⟩ = some (.int .i64 num) ∧ (V.alloc (.cells #[.int .i64 num, .int .i64 (acks.length : Int)] 3)).drew.cell? ⟨w.heap.size, 5, none⟩ = some (.slice ao acks.length cp) ∧ (V.alloc (.cells #[.int .i64 num, .int .i64 (acks.length : Int)] 3)).drew.cell? ⟨w.heap.size, 6, none⟩ = some (.string body) ∧ PKL w op key fr dst num (.slice ao acks.length cp) body (V.alloc (.cells #[.int .i64 num, .int .i64 (acks.length : Int)] 3)).drew) := S0.out _ (P2.out.next (((Below.refl _ _).alloc (Nat.le_refl _) _).drew))
  obtain ⟨s1, HS1⟩ : ∃ s : ByteArray, Hid (s = ⟨(varsB [num, (acks.length : Int)]).toArray⟩) := ⟨_, rfl⟩
  obtain ⟨s2, HS2⟩ : ∃ s : ByteArray, Hid (s = ⟨(varsB acks).toArray⟩) := ⟨_, rfl⟩
  have h8 : ∀ x ∈ acks, 0 ≤ x ∧ x ≤ 1000000000 := fun x hx => by
    have := (HY.out.2.2.2.2.2.2.2.1 x hx).1
    omega
  have h9 : ∀ x ∈ [num, (acks.length : Int)], 0 ≤ x ∧ x ≤ 1000000000 := fun x hx => by
    simp only [List.mem_cons, List.not_mem_nil, or_false] at hx
    rcases hx with rfl | rfl <;> omega
  have z1 : s1.size ≤ 10 := by rw [HS1.out]; have := varsB_few _ h9; show (varsB [num, (acks.length : Int)]).toArray.size ≤ 10; simpa using this
  have z2 : s2.size ≤ 20 := by rw [HS2.out]; have := varsB_few _ h8; show (varsB acks).toArray.size ≤ 20; rw [List.size_toArray]; omega
  have z0 : hd.size = 3 := by rw [HD.out]; rfl
  have hj : Hid ((hd ++ s1 ++ s2 ++ body).data.toList = pkB (pkOf op key fr dst num acks body)) := by
    have e : (op * 8 + key).toNat = 8 * op.toNat + key.toNat := by omega
    show _ = _
    rw [HD.out, HS1.out, HS2.out, e]
    unfold pkB pkOf varsB
    simp
  have f1 : ¬ (9223372036854775807 < hd.size + s1.size) := by omega
  have f2 : ¬ (9223372036854775807 < hd.size + s1.size + s2.size) := by omega
  have f3 : ¬ (9223372036854775807 < hd.size + s1.size + s2.size + body.size) := by omega
  have KA : Hid (∀ X, (X.cell? ⟨w.heap.size, 4, none⟩ = some (.int .i64 num) ∧ X.cell? ⟨w.heap.size, 5, none⟩ = some (.slice ao acks.length cp) ∧ X.cell? ⟨w.heap.size, 6, none⟩ = some (.string body) ∧ PKL w op key fr dst num (.slice ao acks.length cp) body X) → Calls Tryd.prog 17 #[.slice ao acks.length cp] X fun e Y => e = .returned (.string s2) ∧ (Y.cell? ⟨w.heap.size, 4, none⟩ = some (.int .i64 num) ∧ Y.cell? ⟨w.heap.size, 5, none⟩ = some (.slice ao acks.length cp) ∧ Y.cell? ⟨w.heap.size, 6, none⟩ = some (.string body) ∧ PKL w op key fr dst num (.slice ao acks.length cp) body Y)) := fun X hX => by
    refine (varTexts_any HG.out acks _ h8 (by omega) X (layIntS.below HR.out hX.2.2.2.pk.below)).mono ?_
    rintro e Y ⟨rfl, hb⟩
    rw [HS2.out]
    exact ⟨rfl, S0.out _ (hX.2.2.2.next hb)⟩
  have KN : Hid (∀ X v, layIntS.rd X [v] [num, (acks.length : Int)] → (X.cell? ⟨w.heap.size, 4, none⟩ = some (.int .i64 num) ∧ X.cell? ⟨w.heap.size, 5, none⟩ = some (.slice ao acks.length cp) ∧ X.cell? ⟨w.heap.size, 6, none⟩ = some (.string body) ∧ PKL w op key fr dst num (.slice ao acks.length cp) body X) → Calls Tryd.prog 17 #[v] X fun e Y => e = .returned (.string s1) ∧ (Y.cell? ⟨w.heap.size, 4, none⟩ = some (.int .i64 num) ∧ Y.cell? ⟨w.heap.size, 5, none⟩ = some (.slice ao acks.length cp) ∧ Y.cell? ⟨w.heap.size, 6, none⟩ = some (.string body) ∧ PKL w op key fr dst num (.slice ao acks.length cp) body Y)) := fun X v hv hX => by
    refine (varTexts_any HG.out _ v h9 (by simp) X hv).mono ?_
    rintro e Y ⟨rfl, hb⟩
    rw [HS1.out]
    exact ⟨rfl, S0.out _ (hX.2.2.2.next hb)⟩
  have KS : Hid (∀ X, (X.cell? ⟨w.heap.size, 4, none⟩ = some (.int .i64 num) ∧ X.cell? ⟨w.heap.size, 5, none⟩ = some (.slice ao acks.length cp) ∧ X.cell? ⟨w.heap.size, 6, none⟩ = some (.string body) ∧ PKL w op key fr dst num (.slice ao acks.length cp) body X) → Calls Tryd.prog 16 #[.string (hd ++ s1 ++ s2 ++ body)] X fun e Y => e = .returned (.tuple #[.string sx, .bool true]) ∧ (Y.cell? ⟨w.heap.size, 4, none⟩ = some (.int .i64 num) ∧ Y.cell? ⟨w.heap.size, 5, none⟩ = some (.slice ao acks.length cp) ∧ Y.cell? ⟨w.heap.size, 6, none⟩ = some (.string body) ∧ PKL w op key fr dst num (.slice ao acks.length cp) body Y)) := fun X hX => by
    refine (implSealed_yes (hd ++ s1 ++ s2 ++ body) (by simp only [ByteArray.size_append]; omega) X hX.2.2.2.laid).mono ?_
    rintro e Y ⟨rfl, hb⟩
    rw [HSX.out, hj.out]
    exact ⟨rfl, S0.out _ (hX.2.2.2.next hb)⟩
  have R1 : Hid (layIntS.rd (V.alloc (.cells #[.int .i64 num, .int .i64 (acks.length : Int)] 3)).drew [.slice (some ⟨V.heap.size, 0, none⟩) 2 2] [num, (acks.length : Int)]) := layIntS.below (lit_two V num (acks.length : Int)) ((Below.refl _ _).drew)
  clear z0 z1 z2 h8 h9 hop hkey hfr hdst hnum
  go_region_held3 (fun X => X.cell? ⟨w.heap.size, 4, none⟩ = some (.int .i64 num) ∧ X.cell? ⟨w.heap.size, 5, none⟩ = some (.slice ao acks.length cp) ∧ X.cell? ⟨w.heap.size, 6, none⟩ = some (.string body) ∧ PKL w op key fr dst num (.slice ao acks.length cp) body X) (first | (with_reducible assumption) | (with_reducible exact S1.out) | (with_reducible exact S2.out)) (first | (go_at_call_of 17 (Value.slice ao acks.length cp); refine (KA.out _ (by assumption)).mono ?_; rintro e v1 ⟨rfl, hS⟩) | (go_at_call 17; refine (KN.out _ _ R1.out (by first | assumption | exact S2.out)).mono ?_; rintro e v1 ⟨rfl, hS⟩) | (go_at_call 16; refine (KS.out _ (by assumption)).mono ?_; rintro e v1 ⟨rfl, hS⟩))
  all_goals
    go_wp2_with fail
    go_ret2
    exact ⟨rfl, hS.2.2.2.pk.below⟩

end Go.Proofs.YtdhacjpdlmnlmaqDoor

/-
  Who somebody is: the program's isWho.
  The program's PacketOk.
-/
import Derived.Test.YtoaifgblbfdncabGreatDoorJ01
import Derived.Test.YtoaifgblbfdncabGreatDoorRows
import Derived.Deep.DeepCutAuto
import Derived.Test.YtoaifgblbfdncabGreatDoorJ22
namespace Go.Proofs.YtoaifgblbfdncabGreatDoor
open Go.RowKit

theorem isWho_yes (x : Int) (h0 : 1 ≤ x) (h1 : x ≤ 99) (w : World) : Calls Tryz.prog 44 #[.int .i64 x] w fun e w' => e = .returned (.bool true) ∧ w' = w := by
  go_enter Tryz.func44, Tryz.ntmps44
  go_wp2_with fail
  go_ret
  exact ⟨rfl, rfl⟩
theorem isWho_no (x : Int) (h : ¬ (1 ≤ x ∧ x ≤ 99)) (w : World) : Calls Tryz.prog 44 #[.int .i64 x] w fun e w' => e = .returned (.bool false) ∧ w' = w := by
  by_cases h0 : 1 ≤ x
  · have h1 : ¬ x ≤ 99 := fun h1 => h ⟨h0, h1⟩
    clear h
    go_enter Tryz.func44, Tryz.ntmps44
    go_wp2_with fail
    go_ret
    exact ⟨rfl, rfl⟩
  · clear h
    go_enter Tryz.func44, Tryz.ntmps44
    go_wp2_with fail
    go_ret
    exact ⟨rfl, rfl⟩
end Go.Proofs.YtoaifgblbfdncabGreatDoor
namespace Go.Proofs.YtoaifgblbfdncabGreatDoor
open Go.RowKit

/-- Acks that OpControl and OpAck may have. -/
def AcksOk (acks : List Int) : Prop := acks.length ≤ 4 ∧ ∀ x ∈ acks, 1 ≤ x ∧ x ≤ 1000000000
/-- What is right of an Op. -/
def OfOp (op num : Int) (acks : List Int) (body : ByteArray) : Prop := (op = 2 ∧ num = 0 ∧ body = ⟨#[]⟩ ∧ AcksOk acks) ∨ (op = 1 ∧ AcksOk acks) ∨ (op = 3 ∧ acks = [])
theorem pkOk_iff {op key fr dst num : Int} {acks : List Int} {body : ByteArray} : PkOkP op key fr dst num acks body ↔ ((0 ≤ key ∧ key ≤ 7) ∧ (1 ≤ fr ∧ fr ≤ 99) ∧ (1 ≤ dst ∧ dst ≤ 99) ∧ (0 ≤ num ∧ num ≤ 1000000000) ∧ body.size ≤ 120 ∧ OfOp op num acks body) := by
  constructor
  · rintro ⟨h1, h2, h3, h4, h5, h6, h7, h8, h9⟩
    refine ⟨h2, h3, h4, h5, h7, ?_⟩
    have ha : AcksOk acks := ⟨h6, fun x hx => (h8 x hx).1⟩
    by_cases e2 : op = 2
    · rcases h9 with h9 | h9
      · exact absurd e2 h9
      · exact .inl ⟨e2, h9.2, h9.1, ha⟩
    by_cases e1 : op = 1
    · exact .inr (.inl ⟨e1, ha⟩)
    have e3 : op = 3 := by omega
    refine .inr (.inr ⟨e3, ?_⟩)
    cases acks with
    | nil => rfl
    | cons x xs => exact absurd e3 (h8 x (by simp)).2
  · rintro ⟨h2, h3, h4, h5, h7, h | h | h⟩
    · exact ⟨by omega, h2, h3, h4, h5, h.2.2.2.1, h7, fun x hx => ⟨h.2.2.2.2 x hx, by omega⟩, .inr ⟨h.2.2.1, h.2.1⟩⟩
    · exact ⟨by omega, h2, h3, h4, h5, h.2.1, h7, fun x hx => ⟨h.2.2 x hx, by omega⟩, .inl (by omega)⟩
    · refine ⟨by omega, h2, h3, h4, h5, by rw [h.2]; simp, h7, fun x hx => ?_, .inl (by omega)⟩
      rw [h.2] at hx
      cases hx

set_option maxRecDepth 100000 in
set_option maxHeartbeats 800000 in
theorem areAcksRight_any (acks : List Int) (v : Value) (b : Bool) (hb : b = true ↔ AcksOk acks) (hl : acks.length ≤ 100000000) (w : World) (h : layIntS.rd w [v] acks) :
    Calls Tryz.prog 61 #[v] w fun e w' => e = .returned (.bool b) ∧ w' = w := by
  obtain ⟨ao, cp, rfl⟩ := rows_form h
  have HR := Lib.hid h
  have HB := Lib.hid hb
  clear h hb
  by_cases hac : acks.length ≤ 4
  · have hac' : ¬ ((4 : Int) < (acks.length : Int)) := by omega
    go_enter Tryz.func61, Tryz.ntmps61
    go_wp2_with fail
    go_loop [10] (fun c => ∃ j : Nat, j ≤ acks.length ∧ c = .int .i64 j ∧ ∀ i, (hi : i < acks.length) → i < j → (1 ≤ acks[i] ∧ acks[i] ≤ 1000000000)) (fun c => acks.length - (intOf c).toNat)
    case atStart => exact ⟨0, Nat.zero_le _, rfl, fun i _ h => absurd h (by omega)⟩
    case round =>
      obtain ⟨j, hj, rfl, hall⟩ := hrel
      have HA := Lib.hid hall
      clear hall
      by_cases hlt : j < acks.length
      · have hlt' : (j : Int) < (acks.length : Int) := by omega
        obtain ⟨g, off, cap, hv, hg, hcell⟩ := ints_get HR.out j hlt
        simp only [Value.slice.injEq] at hv
        obtain ⟨rfl, -, rfl⟩ := hv
        have HX : Hid (¬ (1 ≤ acks[j] ∧ acks[j] ≤ 1000000000) → b = false) := fun h => by
          cases b with
          | false => rfl
          | true => exact absurd ((HB.out.1 rfl).2 _ (List.getElem_mem hlt)) h
        have HNX : Hid ((1 ≤ acks[j] ∧ acks[j] ≤ 1000000000) → ∀ i, (hi : i < acks.length) → i < j + 1 → (1 ≤ acks[i] ∧ acks[i] ≤ 1000000000)) := fun hx i hi h => by
          rcases Nat.lt_or_ge i j with h2 | h2
          · exact HA.out i hi h2
          · have : i = j := by omega
            subst this
            exact hx
        generalize acks[j] = x at hcell HX HNX
        by_cases hx1 : 1 ≤ x
        · by_cases hx2 : x ≤ 1000000000
          · have HJ := Lib.hid (HNX.out ⟨hx1, hx2⟩)
            have k1 : ¬ (x < 1) := by omega
            have k2 : ¬ (1000000000 < x) := by omega
            go_wp2_with fail
            go_round
            case rel => exact ⟨j + 1, by omega, by go_num, HJ.out⟩
            case measure => simp [intOf]; omega
          · obtain rfl := HX.out (fun h => hx2 h.2)
            have k1 : ¬ (x < 1) := by omega
            have k2 : 1000000000 < x := by omega
            go_wp2_with fail
            go_ret
            exact ⟨rfl, rfl⟩
        · obtain rfl := HX.out (fun h => hx1 h.1)
          have k1 : x < 1 := by omega
          go_wp2_with fail
          go_ret
          exact ⟨rfl, rfl⟩
      · have hlt' : ¬ ((j : Int) < (acks.length : Int)) := by omega
        obtain rfl : b = true := HB.out.2 ⟨hac, fun x hx => by
          obtain ⟨i, hi, rfl⟩ := List.getElem_of_mem hx
          exact HA.out i hi (by omega)⟩
        go_wp2_with fail
        go_ret
        exact ⟨rfl, rfl⟩
  · have hac' : (4 : Int) < (acks.length : Int) := by omega
    obtain rfl : b = false := by
      cases b with
      | false => rfl
      | true => exact absurd (HB.out.1 rfl).1 hac
    go_enter Tryz.func61, Tryz.ntmps61
    go_wp2_with fail
    go_ret
    exact ⟨rfl, rfl⟩

set_option maxRecDepth 100000 in
set_option maxHeartbeats 1600000 in
theorem isRightOfOp_any (op key fr dst num : Int) (v : Value) (acks : List Int) (body : ByteArray) (b : Bool) (hb : b = true ↔ OfOp op num acks body) (hl : acks.length ≤ 100000000) (w : World) (h : layIntS.rd w [v] acks) :
    Calls Tryz.prog 45 #[.agg #[.int .i64 op, .int .i64 key, .int .i64 fr, .int .i64 dst, .int .i64 num, v, .string body]] w fun e w' => e = .returned (.bool b) ∧ Below w.heap.size w w' := by
  have HB := Lib.hid hb
  clear hb
  obtain ⟨ao, cp, rfl⟩ := rows_form h
  have HR := Lib.hid h
  have A0 := Lib.hid (VarA.new w PkT #[.int .i64 op, .int .i64 key, .int .i64 fr, .int .i64 dst, .int .i64 num, .slice ao acks.length cp, .string body])
  have B0 := Lib.hid ((Below.refl w.heap.size w).alloc (Nat.le_refl _) (.cells #[.int .i64 op, .int .i64 key, .int .i64 fr, .int .i64 dst, .int .i64 num, .slice ao acks.length cp, .string body] PkT))
  clear h
  go_enter Tryz.func45, Tryz.ntmps45
  go_upto_region 1 with fail
  generalize w.alloc (.cells #[.int .i64 op, .int .i64 key, .int .i64 fr, .int .i64 dst, .int .i64 num, .slice ao acks.length cp, .string body] PkT) = Y at *
  have c0 : Y.cell? ⟨w.heap.size, 0, none⟩ = some (.int .i64 op) := A0.out.cell 0
  have c1 : Y.cell? ⟨w.heap.size, 1, none⟩ = some (.int .i64 key) := A0.out.cell 1
  have c2 : Y.cell? ⟨w.heap.size, 2, none⟩ = some (.int .i64 fr) := A0.out.cell 2
  have c3 : Y.cell? ⟨w.heap.size, 3, none⟩ = some (.int .i64 dst) := A0.out.cell 3
  have c4 : Y.cell? ⟨w.heap.size, 4, none⟩ = some (.int .i64 num) := A0.out.cell 4
  have c5 : Y.cell? ⟨w.heap.size, 5, none⟩ = some (.slice ao acks.length cp) := A0.out.cell 5
  have c6 : Y.cell? ⟨w.heap.size, 6, none⟩ = some (.string body) := A0.out.cell 6
  have K : Hid (∀ c : Bool, (c = true ↔ AcksOk acks) → Calls Tryz.prog 61 #[.slice ao acks.length cp] Y fun e w' => e = .returned (.bool c) ∧ w' = Y) := fun c hc => areAcksRight_any acks _ c hc hl Y (layIntS.below HR.out B0.out)
  by_cases e2 : op = 2
  · have f2 : (op == 2) = true := by rw [beq_iff_eq]; exact e2
    have f1 : (op == 1) = false := by rw [beq_eq_false_iff_ne]; omega
    have f3 : (op == 3) = false := by rw [beq_eq_false_iff_ne]; omega
    by_cases hnz : num = 0
    · have n0 : (num != 0) = false := by rw [hnz]; rfl
      by_cases hbe : body = ⟨#[]⟩
      · have K2 := Lib.hid (K.out b (HB.out.trans ⟨fun h => by
          rcases h with h | h | h
          · exact h.2.2.2
          · exact h.2
          · omega, fun h => .inl ⟨e2, hnz, hbe, h⟩⟩))
        subst hbe
        clear e2 hnz
        go_wp2_with fail
        refine (K2.out).mono ?_
        rintro e Z ⟨rfl, hw⟩
        rw [hw]
        clear hw
        go_wp2_with fail
        go_ret
        exact ⟨rfl, B0.out⟩
      · obtain rfl : b = false := by
          cases b with
          | false => rfl
          | true =>
            rcases HB.out.1 rfl with h | h | h
            · exact absurd h.2.2.1 hbe
            · omega
            · omega
        have hbt : body.toList.isEmpty = false := by
          rw [Bool.eq_false_iff, ne_eq, List.isEmpty_iff]
          exact fun e => hbe (by rw [ByteArray.toList_eq] at e; exact ByteArray.ext (Array.ext' e))
        clear e2 hnz
        go_wp2_with fail
        go_ret
        exact ⟨rfl, B0.out⟩
    · have n0 : (num != 0) = true := by rw [bne_iff_ne]; exact hnz
      obtain rfl : b = false := by
        cases b with
        | false => rfl
        | true =>
          rcases HB.out.1 rfl with h | h | h
          · exact absurd h.2.1 hnz
          · omega
          · omega
      clear e2
      go_wp2_with fail
      go_ret
      exact ⟨rfl, B0.out⟩
  have f2 : (op == 2) = false := by rw [beq_eq_false_iff_ne]; exact e2
  by_cases e1 : op = 1
  · have f1 : (op == 1) = true := by rw [beq_iff_eq]; exact e1
    have f3 : (op == 3) = false := by rw [beq_eq_false_iff_ne]; omega
    have K2 := Lib.hid (K.out b (HB.out.trans ⟨fun h => by
      rcases h with h | h | h
      · omega
      · exact h.2
      · omega, fun h => .inr (.inl ⟨e1, h⟩)⟩))
    clear e1 e2
    go_wp2_with fail
    refine (K2.out).mono ?_
    rintro e Z ⟨rfl, hw⟩
    rw [hw]
    clear hw
    go_wp2_with fail
    go_ret
    exact ⟨rfl, B0.out⟩
  have f1 : (op == 1) = false := by rw [beq_eq_false_iff_ne]; exact e1
  by_cases e3 : op = 3
  · have f3 : (op == 3) = true := by rw [beq_iff_eq]; exact e3
    obtain rfl : b = ((acks.length : Int) == 0) := by
      rw [Bool.eq_iff_iff, beq_iff_eq, HB.out]
      constructor
      · rintro (h | h | h)
        · omega
        · omega
        · rw [h.2]; rfl
      · intro h
        exact .inr (.inr ⟨e3, List.eq_nil_of_length_eq_zero (by omega)⟩)
    clear e1 e2 e3
    go_wp2_with fail
    go_ret
    exact ⟨rfl, B0.out⟩
  have f3 : (op == 3) = false := by rw [beq_eq_false_iff_ne]; exact e3
  obtain rfl : b = false := by
    cases b with
    | false => rfl
    | true =>
      rcases HB.out.1 rfl with h | h | h
      · omega
      · omega
      · omega
  clear e1 e2 e3
  go_wp2_with fail
  go_ret
  exact ⟨rfl, B0.out⟩

set_option maxRecDepth 100000 in
set_option maxHeartbeats 3200000 in
theorem implPacketOk_bool (op key fr dst num : Int) (v : Value) (acks : List Int) (body : ByteArray) (b : Bool) (hb : b = true ↔ PkOkP op key fr dst num acks body) (hl : acks.length ≤ 100000000) (hs : body.size ≤ 100000000) (w : World) (h : layIntS.rd w [v] acks) :
    Calls Tryz.prog 26 #[.agg #[.int .i64 op, .int .i64 key, .int .i64 fr, .int .i64 dst, .int .i64 num, v, .string body]] w fun e w' => e = .returned (.bool b) ∧ Below w.heap.size w w' := by
  have HB := Lib.hid (hb.trans pkOk_iff)
  have HN : Hid (¬ ((0 ≤ key ∧ key ≤ 7) ∧ (1 ≤ fr ∧ fr ≤ 99) ∧ (1 ≤ dst ∧ dst ≤ 99) ∧ (0 ≤ num ∧ num ≤ 1000000000) ∧ body.size ≤ 120) → b = false) := fun h => by
    cases b with
    | false => rfl
    | true =>
      obtain ⟨h1, h2, h3, h4, h5, _⟩ := HB.out.1 rfl
      exact absurd ⟨h1, h2, h3, h4, h5⟩ h
  clear hb
  obtain ⟨ao, cp, rfl⟩ := rows_form h
  have HR := Lib.hid h
  have A0 := Lib.hid (VarA.new w PkT #[.int .i64 op, .int .i64 key, .int .i64 fr, .int .i64 dst, .int .i64 num, .slice ao acks.length cp, .string body])
  have B0 := Lib.hid ((Below.refl w.heap.size w).alloc (Nat.le_refl _) (.cells #[.int .i64 op, .int .i64 key, .int .i64 fr, .int .i64 dst, .int .i64 num, .slice ao acks.length cp, .string body] PkT))
  clear h
  go_enter Tryz.func26, Tryz.ntmps26
  go_upto_region 1 with fail
  generalize w.alloc (.cells #[.int .i64 op, .int .i64 key, .int .i64 fr, .int .i64 dst, .int .i64 num, .slice ao acks.length cp, .string body] PkT) = Y at *
  have c0 : Y.cell? ⟨w.heap.size, 0, none⟩ = some (.int .i64 op) := A0.out.cell 0
  have c1 : Y.cell? ⟨w.heap.size, 1, none⟩ = some (.int .i64 key) := A0.out.cell 1
  have c2 : Y.cell? ⟨w.heap.size, 2, none⟩ = some (.int .i64 fr) := A0.out.cell 2
  have c3 : Y.cell? ⟨w.heap.size, 3, none⟩ = some (.int .i64 dst) := A0.out.cell 3
  have c4 : Y.cell? ⟨w.heap.size, 4, none⟩ = some (.int .i64 num) := A0.out.cell 4
  have c5 : Y.cell? ⟨w.heap.size, 5, none⟩ = some (.slice ao acks.length cp) := A0.out.cell 5
  have c6 : Y.cell? ⟨w.heap.size, 6, none⟩ = some (.string body) := A0.out.cell 6
  by_cases k0 : 0 ≤ key
  rotate_left
  · obtain rfl := HN.out (by omega)
    go_wp2_with fail
    go_ret
    exact ⟨rfl, B0.out⟩
  by_cases k1 : key < 8
  rotate_left
  · obtain rfl := HN.out (by omega)
    go_wp2_with fail
    go_ret
    exact ⟨rfl, B0.out⟩
  by_cases hfr : 1 ≤ fr ∧ fr ≤ 99
  rotate_left
  · obtain rfl := HN.out (fun h => hfr h.2.1)
    have K := Lib.hid (isWho_no fr hfr Y)
    go_wp2_with fail
    refine (K.out).mono ?_
    rintro e Z ⟨rfl, hw⟩
    rw [hw]
    clear hw K
    clear Z
    go_wp2_with fail
    go_ret
    exact ⟨rfl, B0.out⟩
  have K := Lib.hid (isWho_yes fr hfr.1 hfr.2 Y)
  go_wp2_with fail
  refine (K.out).mono ?_
  rintro e Z ⟨rfl, hw⟩
  rw [hw]
  clear hw K
  clear Z
  by_cases hdst : 1 ≤ dst ∧ dst ≤ 99
  rotate_left
  · obtain rfl := HN.out (fun h => hdst h.2.2.1)
    have K := Lib.hid (isWho_no dst hdst Y)
    go_wp2_with fail
    refine (K.out).mono ?_
    rintro e Z ⟨rfl, hw⟩
    rw [hw]
    clear hw K
    clear Z
    go_wp2_with fail
    go_ret
    exact ⟨rfl, B0.out⟩
  have K := Lib.hid (isWho_yes dst hdst.1 hdst.2 Y)
  go_wp2_with fail
  refine (K.out).mono ?_
  rintro e Z ⟨rfl, hw⟩
  rw [hw]
  clear hw K
  clear Z
  by_cases n0 : 0 ≤ num
  rotate_left
  · obtain rfl := HN.out (by omega)
    go_wp2_with fail
    go_ret
    exact ⟨rfl, B0.out⟩
  by_cases n1 : num ≤ 1000000000
  rotate_left
  · obtain rfl := HN.out (by omega)
    go_wp2_with fail
    go_ret
    exact ⟨rfl, B0.out⟩
  by_cases hbo : body.size ≤ 120
  rotate_left
  · have hbo' : ¬ ((body.size : Int) ≤ 120) := by omega
    obtain rfl := HN.out (by omega)
    go_wp2_with fail
    go_ret
    exact ⟨rfl, B0.out⟩
  have hbo' : (body.size : Int) ≤ 120 := by omega
  have K := Lib.hid (isRightOfOp_any op key fr dst num _ acks body b (HB.out.trans ⟨fun h => h.2.2.2.2.2, fun h => ⟨⟨k0, by omega⟩, hfr, hdst, ⟨n0, n1⟩, hbo, h⟩⟩) hl Y (layIntS.below HR.out B0.out))
  go_wp2_with fail
  refine (K.out).mono ?_
  rintro e Z ⟨rfl, hbz⟩
  have BZ := Lib.hid (B0.out.trans (hbz.mono B0.out.size))
  clear hbz K
  go_wp2_with fail
  go_ret
  exact ⟨rfl, BZ.out⟩

theorem implPacketOk_any (op key fr dst num : Int) (v : Value) (acks : List Int) (body : ByteArray) (hl : acks.length ≤ 100000000) (hb : body.size ≤ 100000000) (w : World) (h : layIntS.rd w [v] acks) :
    Calls Tryz.prog 26 #[.agg #[.int .i64 op, .int .i64 key, .int .i64 fr, .int .i64 dst, .int .i64 num, v, .string body]] w fun e w' => PkTold op key fr dst num acks body e ∧ Below w.heap.size w w' := by
  by_cases hy : PkOkP op key fr dst num acks body
  · exact (implPacketOk_bool op key fr dst num v acks body true ⟨fun _ => hy, fun _ => rfl⟩ hl hb w h).mono fun e w' k => ⟨.inl ⟨hy, k.1⟩, k.2⟩
  · exact (implPacketOk_bool op key fr dst num v acks body false ⟨fun e => (by cases e), fun e => absurd e hy⟩ hl hb w h).mono fun e w' k => ⟨.inr ⟨hy, k.1⟩, k.2⟩

end Go.Proofs.YtoaifgblbfdncabGreatDoor

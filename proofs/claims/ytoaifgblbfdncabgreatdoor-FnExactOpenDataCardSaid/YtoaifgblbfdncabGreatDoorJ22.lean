/-
  The given PacketOk.
  Slots that are drawn stay right, in plain words; no program is spoken of here.
  The front and the back of two texts; no program is spoken of here.
  The front and the back of two texts, beside masks; no program is spoken of here.
  Data that is opened, in plain words: by the main keys, by the lame ones, or not.
-/
import Derived.Test.YtoaifgblbfdncabGreatDoorJ12
import Derived.Test.YtoaifgblbfdncabGreatDoorJ14
import Derived.Test.YtoaifgblbfdncabGreatDoorJ06
import Derived.Deep.DeepCutAuto
import Derived.Test.YtoaifgblbfdncabGreatDoorJ20
import Derived.Test.YtoaifgblbfdncabGreatDoorRows
import Derived.Test.YtoaifgblbfdncabGreatDoorJ10
import Derived.Test.YtoaifgblbfdncabGreatDoorJ21
namespace Go.Proofs.YtoaifgblbfdncabGreatDoor
open Go.RowKit

abbrev PkT : TypeId := 37
/-- A right packet. -/
def PkOkP (op key fr dst num : Int) (acks : List Int) (body : ByteArray) : Prop :=
  (1 ≤ op ∧ op ≤ 3) ∧ (0 ≤ key ∧ key ≤ 7) ∧ (1 ≤ fr ∧ fr ≤ 99) ∧ (1 ≤ dst ∧ dst ≤ 99) ∧ (0 ≤ num ∧ num ≤ 1000000000) ∧ acks.length ≤ 4 ∧ body.size ≤ 120 ∧ (∀ x ∈ acks, (1 ≤ x ∧ x ≤ 1000000000) ∧ op ≠ 3) ∧ (op ≠ 2 ∨ (body = ⟨#[]⟩ ∧ num = 0))
def PkTold (op key fr dst num : Int) (acks : List Int) (body : ByteArray) (e : Ending) : Prop := (PkOkP op key fr dst num acks body ∧ e = .returned (.bool true)) ∨ (¬ PkOkP op key fr dst num acks body ∧ e = .returned (.bool false))

set_option maxRecDepth 100000 in
set_option maxHeartbeats 3200000 in
theorem specPacketOk_any (op key fr dst num : Int) (v : Value) (acks : List Int) (body : ByteArray) (hl : acks.length ≤ 100000000) (hb : body.size ≤ 100000000) (w : World) (h : layIntS.rd w [v] acks) :
    Calls Tryz.prog 19 #[.agg #[.int .i64 op, .int .i64 key, .int .i64 fr, .int .i64 dst, .int .i64 num, v, .string body]] w fun e w' => PkTold op key fr dst num acks body e ∧ Below w.heap.size w w' := by
  obtain ⟨ao, cp, rfl⟩ := rows_form h
  have HR := Lib.hid h
  have A0 := Lib.hid (VarA.new w PkT #[.int .i64 op, .int .i64 key, .int .i64 fr, .int .i64 dst, .int .i64 num, .slice ao acks.length cp, .string body])
  have B0 := Lib.hid ((Below.refl w.heap.size w).alloc (Nat.le_refl _) (.cells #[.int .i64 op, .int .i64 key, .int .i64 fr, .int .i64 dst, .int .i64 num, .slice ao acks.length cp, .string body] PkT))
  clear h
  go_enter Tryz.func19, Tryz.ntmps19
  go_upto_region 1 with fail
  generalize w.alloc (.cells #[.int .i64 op, .int .i64 key, .int .i64 fr, .int .i64 dst, .int .i64 num, .slice ao acks.length cp, .string body] PkT) = Y at *
  have c0 : Y.cell? ⟨w.heap.size, 0, none⟩ = some (.int .i64 op) := A0.out.cell 0
  have c1 : Y.cell? ⟨w.heap.size, 1, none⟩ = some (.int .i64 key) := A0.out.cell 1
  have c2 : Y.cell? ⟨w.heap.size, 2, none⟩ = some (.int .i64 fr) := A0.out.cell 2
  have c3 : Y.cell? ⟨w.heap.size, 3, none⟩ = some (.int .i64 dst) := A0.out.cell 3
  have c4 : Y.cell? ⟨w.heap.size, 4, none⟩ = some (.int .i64 num) := A0.out.cell 4
  have c5 : Y.cell? ⟨w.heap.size, 5, none⟩ = some (.slice ao acks.length cp) := A0.out.cell 5
  have c6 : Y.cell? ⟨w.heap.size, 6, none⟩ = some (.string body) := A0.out.cell 6
  by_cases hop : 1 ≤ op ∧ op ≤ 3
  · have K := Lib.hid (inRange_yes op 1 3 hop.1 hop.2)
    go_wp2_with fail
    refine (K.out _).mono ?_
    rintro e Z0 ⟨rfl, hw⟩
    rw [hw]
    clear hw K
    clear Z0
    by_cases hkey : 0 ≤ key ∧ key ≤ 7
    · have K := Lib.hid (inRange_yes key 0 7 hkey.1 hkey.2)
      go_wp2_with fail
      refine (K.out _).mono ?_
      rintro e Z1 ⟨rfl, hw⟩
      rw [hw]
      clear hw K
      clear Z1
      by_cases hfr : 1 ≤ fr ∧ fr ≤ 99
      · have K := Lib.hid (inRange_yes fr 1 99 hfr.1 hfr.2)
        go_wp2_with fail
        refine (K.out _).mono ?_
        rintro e Z2 ⟨rfl, hw⟩
        rw [hw]
        clear hw K
        clear Z2
        by_cases hdst : 1 ≤ dst ∧ dst ≤ 99
        · have K := Lib.hid (inRange_yes dst 1 99 hdst.1 hdst.2)
          go_wp2_with fail
          refine (K.out _).mono ?_
          rintro e Z3 ⟨rfl, hw⟩
          rw [hw]
          clear hw K
          clear Z3
          by_cases hnum : 0 ≤ num ∧ num ≤ 1000000000
          · have K := Lib.hid (inRange_yes num 0 1000000000 hnum.1 hnum.2)
            go_wp2_with fail
            refine (K.out _).mono ?_
            rintro e Z4 ⟨rfl, hw⟩
            rw [hw]
            clear hw K
            clear Z4
            by_cases hac : acks.length ≤ 4
            · have hac' : ¬ ((4 : Int) < (acks.length : Int)) := by omega
              by_cases hbo : body.size ≤ 120
              · have hbo' : ¬ ((120 : Int) < (body.size : Int)) := by omega
                go_wp2_with fail
                go_loop [3] (fun c => ∃ j : Nat, j ≤ acks.length ∧ c = .int .i64 j ∧ ∀ i, (hi : i < acks.length) → i < j → (1 ≤ acks[i] ∧ acks[i] ≤ 1000000000) ∧ op ≠ 3) (fun c => acks.length - (intOf c).toNat)
                case atStart => exact ⟨0, Nat.zero_le _, rfl, fun i _ h => absurd h (by omega)⟩
                case round =>
                  obtain ⟨j, hj, rfl, hall⟩ := hrel
                  have HA := Lib.hid hall
                  clear hall
                  by_cases hlt : j < acks.length
                  · have hlt' : (j : Int) < (acks.length : Int) := by omega
                    obtain ⟨g, off, cap, hv, hg, hcell⟩ := ints_get (layIntS.below HR.out B0.out) j hlt
                    simp only [Value.slice.injEq] at hv
                    obtain ⟨rfl, -, rfl⟩ := hv
                    have HX : Hid (¬ ((1 ≤ acks[j] ∧ acks[j] ≤ 1000000000) ∧ op ≠ 3) → ¬ PkOkP op key fr dst num acks body) := fun h hk => h (hk.2.2.2.2.2.2.2.1 _ (List.getElem_mem hlt))
                    have HNX : Hid (((1 ≤ acks[j] ∧ acks[j] ≤ 1000000000) ∧ op ≠ 3) → ∀ i, (hi : i < acks.length) → i < j + 1 → (1 ≤ acks[i] ∧ acks[i] ≤ 1000000000) ∧ op ≠ 3) := fun hx i hi h => by
                      rcases Nat.lt_or_ge i j with h2 | h2
                      · exact HA.out i hi h2
                      · have : i = j := by omega
                        subst this
                        exact hx
                    generalize acks[j] = x at hcell HX HNX
                    by_cases hx : 1 ≤ x ∧ x ≤ 1000000000
                    · have K := Lib.hid (inRange_yes x 1 1000000000 hx.1 hx.2)
                      by_cases h3 : op = 3
                      · have HN := Lib.hid (HX.out (fun h => h.2 h3))
                        have h3' : (op == 3) = true := by rw [beq_iff_eq]; exact h3
                        clear h3
                        go_wp2_with fail
                        refine (K.out _).mono ?_
                        rintro e Z ⟨rfl, hw⟩
                        rw [hw]
                        clear hw
                        go_wp2_with fail
                        go_ret
                        exact ⟨.inr ⟨HN.out, rfl⟩, B0.out⟩
                      · have h3' : (op == 3) = false := by rw [beq_eq_false_iff_ne]; exact h3
                        have HJ := Lib.hid (HNX.out ⟨hx, h3⟩)
                        clear h3
                        go_wp2_with fail
                        refine (K.out _).mono ?_
                        rintro e Z ⟨rfl, hw⟩
                        rw [hw]
                        clear hw
                        go_wp2_with fail
                        go_round
                        case rel => exact ⟨j + 1, by omega, by go_num, HJ.out⟩
                        case measure => simp [intOf]; omega
                    · have K := Lib.hid (inRange_no x 1 1000000000 (by omega))
                      have HN := Lib.hid (HX.out (fun h => hx h.1))
                      go_wp2_with fail
                      refine (K.out _).mono ?_
                      rintro e Z ⟨rfl, hw⟩
                      rw [hw]
                      clear hw
                      go_wp2_with fail
                      go_ret
                      exact ⟨.inr ⟨HN.out, rfl⟩, B0.out⟩
                  · have hlt' : ¬ ((j : Int) < (acks.length : Int)) := by omega
                    have HALL : Hid (∀ x ∈ acks, (1 ≤ x ∧ x ≤ 1000000000) ∧ op ≠ 3) := fun x hx => by
                      obtain ⟨i, hi, rfl⟩ := List.getElem_of_mem hx
                      exact HA.out i hi (by omega)
                    by_cases h2 : op = 2
                    · have h2' : (op != 2) = false := by rw [h2]; rfl
                      by_cases hbe : body = ⟨#[]⟩
                      · subst hbe
                        by_cases hnz : num = 0
                        · have HY : Hid (PkOkP op key fr dst num acks ⟨#[]⟩) := ⟨hop, hkey, hfr, hdst, hnum, hac, hbo, HALL.out, .inr ⟨rfl, hnz⟩⟩
                          have hnz' : (num == 0) = true := by rw [beq_iff_eq]; exact hnz
                          clear h2 hnz
                          go_wp2_with fail
                          go_ret
                          exact ⟨.inl ⟨HY.out, rfl⟩, B0.out⟩
                        · have HN : Hid (¬ PkOkP op key fr dst num acks ⟨#[]⟩) := fun h => by
                            rcases h.2.2.2.2.2.2.2.2 with h4 | h4
                            · exact h4 h2
                            · exact hnz h4.2
                          have hnz' : (num == 0) = false := by rw [beq_eq_false_iff_ne]; exact hnz
                          clear h2 hnz
                          go_wp2_with fail
                          go_ret
                          exact ⟨.inr ⟨HN.out, rfl⟩, B0.out⟩
                      · have HN : Hid (¬ PkOkP op key fr dst num acks body) := fun h => by
                          rcases h.2.2.2.2.2.2.2.2 with h4 | h4
                          · exact h4 h2
                          · exact hbe h4.1
                        have hbt : ¬ (body.toList = []) := fun e => hbe (by rw [ByteArray.toList_eq] at e; exact ByteArray.ext (Array.ext' e))
                        clear h2
                        go_wp2_with fail
                        go_ret
                        exact ⟨.inr ⟨HN.out, rfl⟩, B0.out⟩
                    · have h2' : (op != 2) = true := by rw [bne_iff_ne]; exact h2
                      have HY : Hid (PkOkP op key fr dst num acks body) := ⟨hop, hkey, hfr, hdst, hnum, hac, hbo, HALL.out, .inl h2⟩
                      clear h2
                      go_wp2_with fail
                      go_ret
                      exact ⟨.inl ⟨HY.out, rfl⟩, B0.out⟩
              · have hbo' : (120 : Int) < (body.size : Int) := by omega
                have HN : Hid (¬ PkOkP op key fr dst num acks body) := fun h => hbo h.2.2.2.2.2.2.1
                go_wp2_with fail
                go_ret
                exact ⟨.inr ⟨HN.out, rfl⟩, B0.out⟩
            · have hac' : (4 : Int) < (acks.length : Int) := by omega
              have HN : Hid (¬ PkOkP op key fr dst num acks body) := fun h => hac h.2.2.2.2.2.1
              go_wp2_with fail
              go_ret
              exact ⟨.inr ⟨HN.out, rfl⟩, B0.out⟩
          · have K := Lib.hid (inRange_no num 0 1000000000 (by omega))
            have HN : Hid (¬ PkOkP op key fr dst num acks body) := fun h => hnum h.2.2.2.2.1
            go_wp2_with fail
            refine (K.out _).mono ?_
            rintro e Z ⟨rfl, hw⟩
            rw [hw]
            clear hw K
            go_wp2_with fail
            go_ret
            exact ⟨.inr ⟨HN.out, rfl⟩, B0.out⟩
        · have K := Lib.hid (inRange_no dst 1 99 (by omega))
          have HN : Hid (¬ PkOkP op key fr dst num acks body) := fun h => hdst h.2.2.2.1
          go_wp2_with fail
          refine (K.out _).mono ?_
          rintro e Z ⟨rfl, hw⟩
          rw [hw]
          clear hw K
          go_wp2_with fail
          go_ret
          exact ⟨.inr ⟨HN.out, rfl⟩, B0.out⟩
      · have K := Lib.hid (inRange_no fr 1 99 (by omega))
        have HN : Hid (¬ PkOkP op key fr dst num acks body) := fun h => hfr h.2.2.1
        go_wp2_with fail
        refine (K.out _).mono ?_
        rintro e Z ⟨rfl, hw⟩
        rw [hw]
        clear hw K
        go_wp2_with fail
        go_ret
        exact ⟨.inr ⟨HN.out, rfl⟩, B0.out⟩
    · have K := Lib.hid (inRange_no key 0 7 (by omega))
      have HN : Hid (¬ PkOkP op key fr dst num acks body) := fun h => hkey h.2.1
      go_wp2_with fail
      refine (K.out _).mono ?_
      rintro e Z ⟨rfl, hw⟩
      rw [hw]
      clear hw K
      go_wp2_with fail
      go_ret
      exact ⟨.inr ⟨HN.out, rfl⟩, B0.out⟩
  · have K := Lib.hid (inRange_no op 1 3 (by omega))
    have HN : Hid (¬ PkOkP op key fr dst num acks body) := fun h => hop h.1
    go_wp2_with fail
    refine (K.out _).mono ?_
    rintro e Z ⟨rfl, hw⟩
    rw [hw]
    clear hw K
    go_wp2_with fail
    go_ret
    exact ⟨.inr ⟨HN.out, rfl⟩, B0.out⟩

end Go.Proofs.YtoaifgblbfdncabGreatDoor
namespace Go.Proofs.YtoaifgblbfdncabGreatDoor

/-- Right slots, the main ones keys, of an epoch at most m. -/
structure Good12 (m : Int) (x0 : Int) (x1 x2 : ByteArray) (x3 : Int) (r4 : List Int) (x5 : Int) (y0 : Int) (y1 y2 : ByteArray) (y3 : Int) (s4 : List Int) (y5 : Int) : Prop where
  p : SlotsP x0 x1 x2 x3 r4 x5 y0 y1 y2 y3 s4 y5
  k : KeysP x0 x1 x2 x3 r4 x5
  le : x0 ≤ m
section
variable {m x0 : Int} {x1 x2 : ByteArray} {x3 : Int} {r4 : List Int} {x5 y0 : Int} {y1 y2 : ByteArray} {y3 : Int} {s4 : List Int} {y5 : Int}
theorem Good12.mono {n : Int} (h : Good12 m x0 x1 x2 x3 r4 x5 y0 y1 y2 y3 s4 y5) (hn : m ≤ n) : Good12 n x0 x1 x2 x3 r4 x5 y0 y1 y2 y3 s4 y5 := ⟨h.p, h.k, Int.le_trans h.le hn⟩
end

end Go.Proofs.YtoaifgblbfdncabGreatDoor
namespace Go.Proofs.YtoaifgblbfdncabGreatDoor

end Go.Proofs.YtoaifgblbfdncabGreatDoor
namespace Go.Proofs.YtoaifgblbfdncabGreatDoor

end Go.Proofs.YtoaifgblbfdncabGreatDoor
namespace Go.Proofs.YtoaifgblbfdncabGreatDoor
open Go.RowKit

/-- The main keys are asked. -/
def MainP (x0 : Int) (x1 x2 : ByteArray) (x3 : Int) (r4 : List Int) (x5 : Int) (y0 : Int) (y1 y2 : ByteArray) (y3 : Int) (s4 : List Int) (y5 : Int) (op key fr dst num : Int) (acks : List Int) (body : ByteArray) : Prop :=
  SlotsP x0 x1 x2 x3 r4 x5 y0 y1 y2 y3 s4 y5 ∧ PkOkP op key fr dst num acks body ∧ op = 3 ∧ ¬ NoneP x0 x1 x2 x3 r4 x5 ∧ x0 % 8 = key
/-- The lame ones are asked. -/
def LameP (x0 : Int) (x1 x2 : ByteArray) (x3 : Int) (r4 : List Int) (x5 : Int) (y0 : Int) (y1 y2 : ByteArray) (y3 : Int) (s4 : List Int) (y5 : Int) (op key fr dst num : Int) (acks : List Int) (body : ByteArray) (now : Int) : Prop :=
  SlotsP x0 x1 x2 x3 r4 x5 y0 y1 y2 y3 s4 y5 ∧ PkOkP op key fr dst num acks body ∧ op = 3 ∧ ¬ (¬ NoneP x0 x1 x2 x3 r4 x5 ∧ x0 % 8 = key) ∧ ¬ NoneP y0 y1 y2 y3 s4 y5 ∧ now < y5 ∧ y0 % 8 = key
/-- What OpenData tells: the numbers seen of both, the text, and whether. -/
def OpenD (x0 : Int) (x1 x2 : ByteArray) (x3 : Int) (r4 : List Int) (x5 : Int) (y0 : Int) (y1 y2 : ByteArray) (y3 : Int) (s4 : List Int) (y5 : Int) (op key fr dst num : Int) (acks : List Int) (body : ByteArray) (now : Int) (r5 s5 : List Int) (t : ByteArray) (ok : Bool) : Prop :=
  (MainP x0 x1 x2 x3 r4 x5 y0 y1 y2 y3 s4 y5 op key fr dst num acks body ∧ OpensP x2 r4 num body r5 t ok ∧ s5 = s4) ∨
  (LameP x0 x1 x2 x3 r4 x5 y0 y1 y2 y3 s4 y5 op key fr dst num acks body now ∧ OpensP y2 s4 num body s5 t ok ∧ r5 = r4) ∨
  (¬ MainP x0 x1 x2 x3 r4 x5 y0 y1 y2 y3 s4 y5 op key fr dst num acks body ∧ ¬ LameP x0 x1 x2 x3 r4 x5 y0 y1 y2 y3 s4 y5 op key fr dst num acks body now ∧ r5 = r4 ∧ s5 = s4 ∧ t = ⟨#[]⟩ ∧ ok = false)
theorem openD_is (x0 : Int) (x1 x2 : ByteArray) (x3 : Int) (r4 : List Int) (x5 : Int) (y0 : Int) (y1 y2 : ByteArray) (y3 : Int) (s4 : List Int) (y5 : Int) (op key fr dst num : Int) (acks : List Int) (body : ByteArray) (now : Int) : ∃ r5 s5 t ok, OpenD x0 x1 x2 x3 r4 x5 y0 y1 y2 y3 s4 y5 op key fr dst num acks body now r5 s5 t ok := by
  by_cases h : MainP x0 x1 x2 x3 r4 x5 y0 y1 y2 y3 s4 y5 op key fr dst num acks body
  · obtain ⟨r5, t, ok, k⟩ := opens_is x2 r4 num body
    exact ⟨r5, s4, t, ok, .inl ⟨h, k, rfl⟩⟩
  · by_cases h2 : LameP x0 x1 x2 x3 r4 x5 y0 y1 y2 y3 s4 y5 op key fr dst num acks body now
    · obtain ⟨s5, t, ok, k⟩ := opens_is y2 s4 num body
      exact ⟨r4, s5, t, ok, .inr (.inl ⟨h2, k, rfl⟩)⟩
    · exact ⟨r4, s4, _, _, .inr (.inr ⟨h, h2, rfl, rfl, rfl, rfl⟩)⟩
/-- Slots and a text are handed back. -/
def OpenEnd (x0 : Int) (x1 x2 : ByteArray) (x3 : Int) (x5 : Int) (y0 : Int) (y1 y2 : ByteArray) (y3 : Int) (y5 : Int) (r5 s5 : List Int) (t : ByteArray) (ok : Bool) (w : World) (e : Ending) (w' : World) : Prop :=
  ∃ (v u : Value) (f g : List Nat), e = .returned (.tuple #[.agg #[.int .i64 x0, .string x1, .string x2, .int .i64 x3, v, .int .i64 x5, .int .i64 y0, .string y1, .string y2, .int .i64 y3, u, .int .i64 y5], .string t, .bool ok]) ∧ (f ++ g).Nodup ∧ layIntS.own w' w.heap.size f [v] r5 ∧ layIntS.own w' w.heap.size g [u] s5 ∧ Below w.heap.size w w'
end Go.Proofs.YtoaifgblbfdncabGreatDoor

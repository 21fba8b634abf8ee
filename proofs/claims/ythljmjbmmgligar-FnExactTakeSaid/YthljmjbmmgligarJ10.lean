/-
  Rows of ints of the call's own; no program is spoken of here.
  The given test of a range, by what it answers.
  The given PacketOk.
  A packet in a variable of seven cells, and its row.
-/
import Derived.Test.YthljmjbmmgligarJ04
import Derived.Test.YthljmjbmmgligarRows
import Derived.Test.YthljmjbmmgligarJ01
import Derived.Test.YthljmjbmmgligarJ03
import Derived.Deep.DeepCutAuto
import Derived.Test.YthljmjbmmgligarJ05
namespace Go.Proofs.Ythljmjbmmgligar
open Go.RowKit

def layIntS : Lay (List Int) := .rows 3 .int
theorem int_own {w : World} {b : Nat} {f : List Nat} {cs : List Value} {x : Int} : Lay.int.own w b f cs x ↔ f = [] ∧ cs = [.int .i64 x] := Iff.rfl
theorem int_rd {w : World} {cs : List Value} {x : Int} : Lay.int.rd w cs x ↔ cs = [.int .i64 x] := Iff.rfl
theorem zeroInt_none (w : World) (b : Nat) (f : List Nat) (c : List Value) (h : Lay.int.own w b f c 0) : f = [] := h.1
theorem infoInt : (Try.prog.info? 3).map (fun i => (i.zero, i.size, i.bytes)) = some (some (.int .i64 0), 1, 8) := by kernel_rfl
/-- One number of a row that can be read. -/
theorem ints_get {w : World} {v : Value} {xs : List Int} (h : layIntS.rd w [v] xs) (m : Nat) (hm : m < xs.length) : ∃ g off cap, v = .slice (some ⟨g, off, none⟩) xs.length cap ∧ g < w.heap.size ∧ w.cell? ⟨g, off + m, none⟩ = some (.int .i64 xs[m]) := by
  obtain ⟨a, cap, rfl⟩ := rows_form h
  obtain ⟨g, off, c, rfl, hg, hr, hc⟩ := rows_elem h m _ (List.getElem?_eq_getElem hm)
  rw [int_rd] at hr
  subst hr
  refine ⟨g, off, cap, rfl, hg, ?_⟩
  have := hc 0 _ rfl
  rw [show Lay.int.k = 1 from rfl, Nat.mul_one] at this
  exact this
/-- One number of a row is read and written. -/
theorem ints_put {w : World} {b : Nat} {fp : List Nat} {v : Value} {xs : List Int} (h : layIntS.own w b fp [v] xs) (hd : fp.Nodup) (m : Nat) (hm : m < xs.length) (y : Int) :
    ∃ g cap, v = .slice (some ⟨g, 0, none⟩) xs.length cap ∧ b ≤ g ∧ g < w.heap.size ∧ g ∈ fp ∧ w.cell? ⟨g, m, none⟩ = some (.int .i64 xs[m]) ∧ w.frozen? ⟨g, m, none⟩ = false ∧
      layIntS.own (w.setCell ⟨g, m, none⟩ (.int .i64 y)) b fp [v] (xs.set m y) ∧ Chg fp w (w.setCell ⟨g, m, none⟩ (.int .i64 y)) := by
  have e : xs = xs.take m ++ xs[m] :: xs.drop (m + 1) := by rw [List.getElem_cons_drop, List.take_append_drop]
  have es : xs.set m y = xs.take m ++ y :: xs.drop (m + 1) := by rw [List.set_eq_take_append_cons_drop, if_pos hm]
  have hl : (xs.take m ++ xs[m] :: xs.drop (m + 1)).length = xs.length := by rw [← e]
  have h2 := h
  rw [e] at h2
  obtain ⟨g, cap, f1, f2, f3, u1, c, u3, hv, rfl, Z⟩ := rows_open h2 hd
  rw [hl] at hv
  obtain ⟨rfl, rfl⟩ := int_own.1 Z.mid
  have hml : (xs.take m).length = m := by rw [List.length_take]; omega
  have hc := Z.cell 0 _ rfl
  rw [show Lay.int.k = 1 from rfl, Nat.mul_one, hml] at hc
  have hs := Z.store [.int .i64 y] 0 (by simp) [] y (int_own.2 ⟨rfl, rfl⟩) Z.dup
  rw [show Lay.int.k = 1 from rfl, Nat.mul_one, hml] at hs
  refine ⟨g, cap, hv, Z.lt.1, Z.lt.2, by simp, hc.1, hc.2, ?_, hs.2.sub (by simp)⟩
  have h3 := hs.1.shut
  have e4 : (xs.take m ++ y :: xs.drop (m + 1)).length = xs.length := by rw [← es, List.length_set]
  rw [e4] at h3
  rw [es, hv]
  exact h3

end Go.Proofs.Ythljmjbmmgligar
namespace Go.Proofs.Ythljmjbmmgligar
open Go.RowKit

theorem inRange_yes (x a b : Int) (h0 : a ≤ x) (h1 : x ≤ b) (w : World) :
    Calls Try.prog 30 #[.int .i64 x, .int .i64 a, .int .i64 b] w fun e w' => e = .returned (.bool true) ∧ w' = w := by
  go_enter Try.func30, Try.ntmps30
  go_wp2
  go_ret
  exact ⟨rfl, rfl⟩

theorem inRange_no (x a b : Int) (h : x < a ∨ b < x) (w : World) :
    Calls Try.prog 30 #[.int .i64 x, .int .i64 a, .int .i64 b] w fun e w' => e = .returned (.bool false) ∧ w' = w := by
  by_cases hx : x < a
  · go_enter Try.func30, Try.ntmps30
    go_wp2
    go_ret
    exact ⟨rfl, rfl⟩
  · have h0 : a ≤ x := by omega
    have h1 : decide (x ≤ b) = false := decide_eq_false (by omega)
    clear h hx
    go_enter Try.func30, Try.ntmps30
    go_wp2
    go_ret
    exact ⟨rfl, rfl⟩

end Go.Proofs.Ythljmjbmmgligar
namespace Go.Proofs.Ythljmjbmmgligar
open Go.RowKit

abbrev PkT : TypeId := 53
/-- A right packet. -/
def PkOkP (op key fr dst num : Int) (acks : List Int) (body : ByteArray) : Prop :=
  (1 ≤ op ∧ op ≤ 3) ∧ (0 ≤ key ∧ key ≤ 7) ∧ (1 ≤ fr ∧ fr ≤ 99) ∧ (1 ≤ dst ∧ dst ≤ 99) ∧ (0 ≤ num ∧ num ≤ 1000000000) ∧ acks.length ≤ 4 ∧ body.size ≤ 120 ∧ (∀ x ∈ acks, (1 ≤ x ∧ x ≤ 1000000000) ∧ op ≠ 3) ∧ (op ≠ 2 ∨ (body = ⟨#[]⟩ ∧ num = 0))
def PkTold (op key fr dst num : Int) (acks : List Int) (body : ByteArray) (e : Ending) : Prop := (PkOkP op key fr dst num acks body ∧ e = .returned (.bool true)) ∨ (¬ PkOkP op key fr dst num acks body ∧ e = .returned (.bool false))

set_option maxRecDepth 100000 in
set_option maxHeartbeats 3200000 in
theorem specPacketOk_any (op key fr dst num : Int) (v : Value) (acks : List Int) (body : ByteArray) (hl : acks.length ≤ 100000000) (hb : body.size ≤ 100000000) (w : World) (h : layIntS.rd w [v] acks) :
    Calls Try.prog 66 #[.agg #[.int .i64 op, .int .i64 key, .int .i64 fr, .int .i64 dst, .int .i64 num, v, .string body]] w fun e w' => PkTold op key fr dst num acks body e ∧ Below w.heap.size w w' := by
  obtain ⟨ao, cp, rfl⟩ := rows_form h
  have HR := Lib.hid h
  have A0 := Lib.hid (VarA.new w PkT #[.int .i64 op, .int .i64 key, .int .i64 fr, .int .i64 dst, .int .i64 num, .slice ao acks.length cp, .string body])
  have B0 := Lib.hid ((Below.refl w.heap.size w).alloc (Nat.le_refl _) (.cells #[.int .i64 op, .int .i64 key, .int .i64 fr, .int .i64 dst, .int .i64 num, .slice ao acks.length cp, .string body] PkT))
  clear h
  go_enter Try.func66, Try.ntmps66
  go_upto_region 1 with fail
  generalize w.alloc (.cells #[.int .i64 op, .int .i64 key, .int .i64 fr, .int .i64 dst, .int .i64 num, .slice ao acks.length cp, .string body] PkT) = Y at *
  have c0 : Y.cell? ⟨w.heap.size, 0, none⟩ = some (.int .i64 op) := A0.out.cell 0
  have c1 : Y.cell? ⟨w.heap.size, 1, none⟩ = some (.int .i64 key) := A0.out.cell 1
  have c2 : Y.cell? ⟨w.heap.size, 2, none⟩ = some (.int .i64 fr) := A0.out.cell 2
  have c3 : Y.cell? ⟨w.heap.size, 3, none⟩ = some (.int .i64 dst) := A0.out.cell 3
  have c4 : Y.cell? ⟨w.heap.size, 4, none⟩ = some (.int .i64 num) := A0.out.cell 4
  have c5 : Y.cell? ⟨w.heap.size, 5, none⟩ = some (.slice ao acks.length cp) := A0.out.cell 5
  have c6 : Y.cell? ⟨w.heap.size, 6, none⟩ = some (.string body) := A0.out.cell 6
  by_cases hop : 1 ≤ op ∧ op ≤ 3
  · have K := Lib.hid (inRange_yes op 1 3 hop.1 hop.2)
    go_wp2_with fail
    refine (K.out _).mono ?_
    rintro e Z0 ⟨rfl, hw⟩
    rw [hw]
    clear hw K
    clear Z0
    by_cases hkey : 0 ≤ key ∧ key ≤ 7
    · have K := Lib.hid (inRange_yes key 0 7 hkey.1 hkey.2)
      go_wp2_with fail
      refine (K.out _).mono ?_
      rintro e Z1 ⟨rfl, hw⟩
      rw [hw]
      clear hw K
      clear Z1
      by_cases hfr : 1 ≤ fr ∧ fr ≤ 99
      · have K := Lib.hid (inRange_yes fr 1 99 hfr.1 hfr.2)
        go_wp2_with fail
        refine (K.out _).mono ?_
        rintro e Z2 ⟨rfl, hw⟩
        rw [hw]
        clear hw K
        clear Z2
        by_cases hdst : 1 ≤ dst ∧ dst ≤ 99
        · have K := Lib.hid (inRange_yes dst 1 99 hdst.1 hdst.2)
          go_wp2_with fail
          refine (K.out _).mono ?_
          rintro e Z3 ⟨rfl, hw⟩
          rw [hw]
          clear hw K
          clear Z3
          by_cases hnum : 0 ≤ num ∧ num ≤ 1000000000
          · have K := Lib.hid (inRange_yes num 0 1000000000 hnum.1 hnum.2)
            go_wp2_with fail
            refine (K.out _).mono ?_
            rintro e Z4 ⟨rfl, hw⟩
            rw [hw]
            clear hw K
            clear Z4
            by_cases hac : acks.length ≤ 4
            · have hac' : ¬ ((4 : Int) < (acks.length : Int)) := by omega
              by_cases hbo : body.size ≤ 120
              · have hbo' : ¬ ((120 : Int) < (body.size : Int)) := by omega
                go_wp2_with fail
                go_loop [3] (fun c => ∃ j : Nat, j ≤ acks.length ∧ c = .int .i64 j ∧ ∀ i, (hi : i < acks.length) → i < j → (1 ≤ acks[i] ∧ acks[i] ≤ 1000000000) ∧ op ≠ 3) (fun c => acks.length - (intOf c).toNat)
                case atStart => exact ⟨0, Nat.zero_le _, rfl, fun i _ h => absurd h (by omega)⟩
                case round =>
                  obtain ⟨j, hj, rfl, hall⟩ := hrel
                  have HA := Lib.hid hall
                  clear hall
                  by_cases hlt : j < acks.length
                  · have hlt' : (j : Int) < (acks.length : Int) := by omega
                    obtain ⟨g, off, cap, hv, hg, hcell⟩ := ints_get (layIntS.below HR.out B0.out) j hlt
                    simp only [Value.slice.injEq] at hv
                    obtain ⟨rfl, -, rfl⟩ := hv
                    have HX : Hid (¬ ((1 ≤ acks[j] ∧ acks[j] ≤ 1000000000) ∧ op ≠ 3) → ¬ PkOkP op key fr dst num acks body) := fun h hk => h (hk.2.2.2.2.2.2.2.1 _ (List.getElem_mem hlt))
                    have HNX : Hid (((1 ≤ acks[j] ∧ acks[j] ≤ 1000000000) ∧ op ≠ 3) → ∀ i, (hi : i < acks.length) → i < j + 1 → (1 ≤ acks[i] ∧ acks[i] ≤ 1000000000) ∧ op ≠ 3) := fun hx i hi h => by
                      rcases Nat.lt_or_ge i j with h2 | h2
                      · exact HA.out i hi h2
                      · have : i = j := by omega
                        subst this
                        exact hx
                    generalize acks[j] = x at hcell HX HNX
                    by_cases hx : 1 ≤ x ∧ x ≤ 1000000000
                    · have K := Lib.hid (inRange_yes x 1 1000000000 hx.1 hx.2)
                      by_cases h3 : op = 3
                      · have HN := Lib.hid (HX.out (fun h => h.2 h3))
                        have h3' : (op == 3) = true := by rw [beq_iff_eq]; exact h3
                        clear h3
                        go_wp2_with fail
                        refine (K.out _).mono ?_
                        rintro e Z ⟨rfl, hw⟩
                        rw [hw]
                        clear hw
                        go_wp2_with fail
                        go_ret
                        exact ⟨.inr ⟨HN.out, rfl⟩, B0.out⟩
                      · have h3' : (op == 3) = false := by rw [beq_eq_false_iff_ne]; exact h3
                        have HJ := Lib.hid (HNX.out ⟨hx, h3⟩)
                        clear h3
                        go_wp2_with fail
                        refine (K.out _).mono ?_
                        rintro e Z ⟨rfl, hw⟩
                        rw [hw]
                        clear hw
                        go_wp2_with fail
                        go_round
                        case rel => exact ⟨j + 1, by omega, by go_num, HJ.out⟩
                        case measure => simp [intOf]; omega
                    · have K := Lib.hid (inRange_no x 1 1000000000 (by omega))
                      have HN := Lib.hid (HX.out (fun h => hx h.1))
                      go_wp2_with fail
                      refine (K.out _).mono ?_
                      rintro e Z ⟨rfl, hw⟩
                      rw [hw]
                      clear hw
                      go_wp2_with fail
                      go_ret
                      exact ⟨.inr ⟨HN.out, rfl⟩, B0.out⟩
                  · have hlt' : ¬ ((j : Int) < (acks.length : Int)) := by omega
                    have HALL : Hid (∀ x ∈ acks, (1 ≤ x ∧ x ≤ 1000000000) ∧ op ≠ 3) := fun x hx => by
                      obtain ⟨i, hi, rfl⟩ := List.getElem_of_mem hx
                      exact HA.out i hi (by omega)
                    by_cases h2 : op = 2
                    · have h2' : (op != 2) = false := by rw [h2]; rfl
                      by_cases hbe : body = ⟨#[]⟩
                      · subst hbe
                        by_cases hnz : num = 0
                        · have HY : Hid (PkOkP op key fr dst num acks ⟨#[]⟩) := ⟨hop, hkey, hfr, hdst, hnum, hac, hbo, HALL.out, .inr ⟨rfl, hnz⟩⟩
                          have hnz' : (num == 0) = true := by rw [beq_iff_eq]; exact hnz
                          clear h2 hnz
                          go_wp2_with fail
                          go_ret
                          exact ⟨.inl ⟨HY.out, rfl⟩, B0.out⟩
                        · have HN : Hid (¬ PkOkP op key fr dst num acks ⟨#[]⟩) := fun h => by
                            rcases h.2.2.2.2.2.2.2.2 with h4 | h4
                            · exact h4 h2
                            · exact hnz h4.2
                          have hnz' : (num == 0) = false := by rw [beq_eq_false_iff_ne]; exact hnz
                          clear h2 hnz
                          go_wp2_with fail
                          go_ret
                          exact ⟨.inr ⟨HN.out, rfl⟩, B0.out⟩
                      · have HN : Hid (¬ PkOkP op key fr dst num acks body) := fun h => by
                          rcases h.2.2.2.2.2.2.2.2 with h4 | h4
                          · exact h4 h2
                          · exact hbe h4.1
                        have hbt : ¬ (body.toList = []) := fun e => hbe (by rw [ByteArray.toList_eq] at e; exact ByteArray.ext (Array.ext' e))
                        clear h2
                        go_wp2_with fail
                        go_ret
                        exact ⟨.inr ⟨HN.out, rfl⟩, B0.out⟩
                    · have h2' : (op != 2) = true := by rw [bne_iff_ne]; exact h2
                      have HY : Hid (PkOkP op key fr dst num acks body) := ⟨hop, hkey, hfr, hdst, hnum, hac, hbo, HALL.out, .inl h2⟩
                      clear h2
                      go_wp2_with fail
                      go_ret
                      exact ⟨.inl ⟨HY.out, rfl⟩, B0.out⟩
              · have hbo' : (120 : Int) < (body.size : Int) := by omega
                have HN : Hid (¬ PkOkP op key fr dst num acks body) := fun h => hbo h.2.2.2.2.2.2.1
                go_wp2_with fail
                go_ret
                exact ⟨.inr ⟨HN.out, rfl⟩, B0.out⟩
            · have hac' : (4 : Int) < (acks.length : Int) := by omega
              have HN : Hid (¬ PkOkP op key fr dst num acks body) := fun h => hac h.2.2.2.2.2.1
              go_wp2_with fail
              go_ret
              exact ⟨.inr ⟨HN.out, rfl⟩, B0.out⟩
          · have K := Lib.hid (inRange_no num 0 1000000000 (by omega))
            have HN : Hid (¬ PkOkP op key fr dst num acks body) := fun h => hnum h.2.2.2.2.1
            go_wp2_with fail
            refine (K.out _).mono ?_
            rintro e Z ⟨rfl, hw⟩
            rw [hw]
            clear hw K
            go_wp2_with fail
            go_ret
            exact ⟨.inr ⟨HN.out, rfl⟩, B0.out⟩
        · have K := Lib.hid (inRange_no dst 1 99 (by omega))
          have HN : Hid (¬ PkOkP op key fr dst num acks body) := fun h => hdst h.2.2.2.1
          go_wp2_with fail
          refine (K.out _).mono ?_
          rintro e Z ⟨rfl, hw⟩
          rw [hw]
          clear hw K
          go_wp2_with fail
          go_ret
          exact ⟨.inr ⟨HN.out, rfl⟩, B0.out⟩
      · have K := Lib.hid (inRange_no fr 1 99 (by omega))
        have HN : Hid (¬ PkOkP op key fr dst num acks body) := fun h => hfr h.2.2.1
        go_wp2_with fail
        refine (K.out _).mono ?_
        rintro e Z ⟨rfl, hw⟩
        rw [hw]
        clear hw K
        go_wp2_with fail
        go_ret
        exact ⟨.inr ⟨HN.out, rfl⟩, B0.out⟩
    · have K := Lib.hid (inRange_no key 0 7 (by omega))
      have HN : Hid (¬ PkOkP op key fr dst num acks body) := fun h => hkey h.2.1
      go_wp2_with fail
      refine (K.out _).mono ?_
      rintro e Z ⟨rfl, hw⟩
      rw [hw]
      clear hw K
      go_wp2_with fail
      go_ret
      exact ⟨.inr ⟨HN.out, rfl⟩, B0.out⟩
  · have K := Lib.hid (inRange_no op 1 3 (by omega))
    have HN : Hid (¬ PkOkP op key fr dst num acks body) := fun h => hop h.1
    go_wp2_with fail
    refine (K.out _).mono ?_
    rintro e Z ⟨rfl, hw⟩
    rw [hw]
    clear hw K
    go_wp2_with fail
    go_ret
    exact ⟨.inr ⟨HN.out, rfl⟩, B0.out⟩

end Go.Proofs.Ythljmjbmmgligar
namespace Go.Proofs.Ythljmjbmmgligar
open Go.RowKit

theorem flatIntP : Flat Lay.int := ⟨fun _ _ _ _ h => int_own.2 ⟨rfl, int_rd.1 h⟩, fun _ _ _ _ _ h => (int_own.1 h).1, fun _ _ _ _ h => int_rd.2 (int_rd.1 h)⟩
theorem VarA.keep {r : Nat} {t : TypeId} {cs : Array Value} {X Y : World} {b : Nat} (h : VarA r t cs X) (hb : Below b X Y) (hr : r < b) : VarA r t cs Y := ⟨(hb.block r hr).trans h.row⟩
theorem only_chg {c : Nat} {X Y : World} (h : Only c X Y) : Chg [c] X Y := ⟨h.os, h.tape, h.output, h.size, fun g hg hn => h.block g hg (fun e => hn (List.mem_singleton.2 e))⟩
theorem only_below {c b : Nat} {X Y : World} (h : Only c X Y) (hb : b ≤ c) (hs : b ≤ X.heap.size) : Below b X Y := (only_chg h).below (fun g hg => by rw [List.mem_singleton] at hg; omega) hs
theorem lay_only {α : Type} (A : Lay α) {X Y : World} {b c : Nat} {f : List Nat} {cs : List Value} {x : α} (h : A.own X b f cs x) (ho : Only c X Y) (hc : c < b) : A.own Y b f cs x :=
  A.chg h (only_chg ho) (fun g hg hg2 => by rw [List.mem_singleton] at hg2; have := (A.blocks h g hg).1; omega)

theorem own_low {X : World} {b b' : Nat} {f : List Nat} {v : Value} {xs : List Int} (h : layIntS.own X b f [v] xs) (hb : b' ≤ b) : layIntS.own X b' f [v] xs := by
  obtain ⟨us, h1, h2, rfl⟩ := flat_inv flatIntP h
  refine flat_own flatIntP ?_ h2
  rcases h1 with ⟨h1, h3 | ⟨g, cap, cur, e1, e2, e3⟩⟩
  · exact ⟨h1, .inl h3⟩
  · exact ⟨h1, .inr ⟨g, cap, cur, e1, by omega, e3⟩⟩
theorem set_seven {X : World} {G : Nat} {a b c d e f g p0 p1 p2 p3 p4 p5 p6 : Value} (h : VarA G PkT #[a, b, c, d, e, f, g] X) : VarA G PkT #[p0, p1, p2, p3, p4, p5, p6] (((((((X.setCell ⟨G, 0, none⟩ p0).setCell ⟨G, 1, none⟩ p1).setCell ⟨G, 2, none⟩ p2).setCell ⟨G, 3, none⟩ p3).setCell ⟨G, 4, none⟩ p4).setCell ⟨G, 5, none⟩ p5).setCell ⟨G, 6, none⟩ p6) := by
  have h0 : VarA G PkT #[p0, b, c, d, e, f, g] _ := h.set 0 p0
  have h1 : VarA G PkT #[p0, p1, c, d, e, f, g] _ := h0.set 1 p1
  have h2 : VarA G PkT #[p0, p1, p2, d, e, f, g] _ := h1.set 2 p2
  have h3 : VarA G PkT #[p0, p1, p2, p3, e, f, g] _ := h2.set 3 p3
  have h4 : VarA G PkT #[p0, p1, p2, p3, p4, f, g] _ := h3.set 4 p4
  have h5 : VarA G PkT #[p0, p1, p2, p3, p4, p5, g] _ := h4.set 5 p5
  exact h5.set 6 p6
theorem only_seven (X : World) (G : Nat) (p0 p1 p2 p3 p4 p5 p6 : Value) : Only G X (((((((X.setCell ⟨G, 0, none⟩ p0).setCell ⟨G, 1, none⟩ p1).setCell ⟨G, 2, none⟩ p2).setCell ⟨G, 3, none⟩ p3).setCell ⟨G, 4, none⟩ p4).setCell ⟨G, 5, none⟩ p5).setCell ⟨G, 6, none⟩ p6) :=
  ((((((Only.setCell 0 p0).trans (Only.setCell 1 p1)).trans (Only.setCell 2 p2)).trans (Only.setCell 3 p3)).trans (Only.setCell 4 p4)).trans (Only.setCell 5 p5)).trans (Only.setCell 6 p6)

theorem own_seven {Z : World} {G q b : Nat} {v : Value} {xs : List Int} (p0 p1 p2 p3 p4 p5 p6 : Value) (h : ∃ f, layIntS.own Z q f [v] xs) (hG : G < q) (hb : b ≤ q) : ∃ f, layIntS.own (((((((Z.setCell ⟨G, 0, none⟩ p0).setCell ⟨G, 1, none⟩ p1).setCell ⟨G, 2, none⟩ p2).setCell ⟨G, 3, none⟩ p3).setCell ⟨G, 4, none⟩ p4).setCell ⟨G, 5, none⟩ p5).setCell ⟨G, 6, none⟩ p6) b f [v] xs := by
  obtain ⟨f, hf⟩ := h
  exact ⟨f, own_low (lay_only layIntS hf (only_seven Z G p0 p1 p2 p3 p4 p5 p6) hG) hb⟩


end Go.Proofs.Ythljmjbmmgligar

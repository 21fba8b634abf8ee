/-
  The program's OptionsOk, and what it calls.
  The given OptionsOk.
-/
import Derived.Test.YtmgdhlodifkematDoorJ17
import Derived.Test.YtmgdhlodifkematDoorJ16
import Derived.Deep.CutBlock
namespace Go.Proofs.YtmgdhlodifkematDoor
open Go.RowKit

theorem isWayByte_any (x : UInt8) (b : Bool) (hb : b = true ↔ SignW x) (w : World) :
    Calls Tryd.prog 66 #[.int .u8 x.toNat] w fun e w' => e = .returned (.bool b) ∧ w' = w := by
  have HF : ¬ SignW x → b = false := fun h => by
    cases b with
    | false => rfl
    | true => exact absurd (hb.1 rfl) h
  go_enter Tryd.func66, Tryd.ntmps66
  rcases sign_facts x.toNat with h | h | h | h | h
  · obtain rfl := HF (by unfold SignW; omega)
    have k1 : decide (97 ≤ (x.toNat : Int)) = false := decide_eq_false (by omega)
    have k2 : decide (48 ≤ (x.toNat : Int)) = false := decide_eq_false (by omega)
    clear hb HF h
    go_wp2_with fail
    go_ret
    exact ⟨rfl, rfl⟩
  · obtain rfl := hb.2 (by unfold SignW; omega)
    have k1 : decide (97 ≤ (x.toNat : Int)) = false := decide_eq_false (by omega)
    have k2 : decide (48 ≤ (x.toNat : Int)) = true := decide_eq_true (by omega)
    have k3 : decide ((x.toNat : Int) ≤ 57) = true := decide_eq_true (by omega)
    clear hb HF h
    go_wp2_with fail
    go_ret
    exact ⟨rfl, rfl⟩
  · obtain rfl := HF (by unfold SignW; omega)
    have k1 : decide (97 ≤ (x.toNat : Int)) = false := decide_eq_false (by omega)
    have k2 : decide (48 ≤ (x.toNat : Int)) = true := decide_eq_true (by omega)
    have k3 : decide ((x.toNat : Int) ≤ 57) = false := decide_eq_false (by omega)
    clear hb HF h
    go_wp2_with fail
    go_ret
    exact ⟨rfl, rfl⟩
  · obtain rfl := hb.2 (by unfold SignW; omega)
    have k1 : decide (97 ≤ (x.toNat : Int)) = true := decide_eq_true (by omega)
    have k2 : decide ((x.toNat : Int) ≤ 122) = true := decide_eq_true (by omega)
    clear hb HF h
    go_wp2_with fail
    go_ret
    exact ⟨rfl, rfl⟩
  · obtain rfl := HF (by unfold SignW; omega)
    have k1 : decide (97 ≤ (x.toNat : Int)) = true := decide_eq_true (by omega)
    have k2 : decide ((x.toNat : Int) ≤ 122) = false := decide_eq_false (by omega)
    have k3 : decide (48 ≤ (x.toNat : Int)) = true := decide_eq_true (by omega)
    have k4 : decide ((x.toNat : Int) ≤ 57) = false := decide_eq_false (by omega)
    clear hb HF h
    go_wp2_with fail
    go_ret
    exact ⟨rfl, rfl⟩

set_option maxRecDepth 100000 in
set_option maxHeartbeats 1600000 in
theorem isWay_any (s : ByteArray) (b : Bool) (hb : b = true ↔ WayP s) (hs : s.size ≤ 100000000) (w : World) :
    Calls Tryd.prog 55 #[.string s] w fun e w' => e = .returned (.bool b) ∧ w' = w := by
  have HB := Lib.hid hb
  have HF : Hid (¬ WayP s → b = false) := Lib.hid (fun h => by
    cases b with
    | false => rfl
    | true => exact absurd (hb.1 rfl) h)
  have hl : s.data.toList.length = s.size := by simp
  have HL := Lib.hid hl
  have HW := Lib.hid isWayByte_any
  have hl2 : s.toList.length = s.size := by rw [ByteArray.toList_eq]; exact hl
  clear hb hl
  go_enter Tryd.func55, Tryd.ntmps55
  by_cases h0 : s.size = 0
  · obtain rfl := HF.out (fun h => by have := h.2.1; omega)
    have q : s.toList.isEmpty = true := by rw [List.isEmpty_iff_length_eq_zero, hl2]; exact h0
    clear hl2
    go_wp2_with fail
    go_ret
    exact ⟨rfl, rfl⟩
  have q : s.toList.isEmpty = false := by
    rw [Bool.eq_false_iff, ne_eq, List.isEmpty_iff_length_eq_zero, hl2]; exact h0
  clear hl2
  by_cases h8 : 8 < s.size
  · obtain rfl := HF.out (fun h => by have := h.2.2; omega)
    have h8' : (8 : Int) < (s.size : Int) := by omega
    go_wp2_with fail
    go_ret
    exact ⟨rfl, rfl⟩
  have h8' : ¬ ((8 : Int) < (s.size : Int)) := by omega
  go_wp2_with fail
  go_loop [13] (fun c => ∃ j : Nat, j ≤ s.size ∧ c = .int .i64 j ∧ Hid (∀ i, (hi : i < s.size) → i < j → SignW s[i])) (fun c => s.size - (intOf c).toNat)
  case atStart => exact ⟨0, Nat.zero_le _, rfl, fun i _ h => absurd h (by omega)⟩
  case round =>
    obtain ⟨j, hj, rfl, HA⟩ := hrel
    by_cases hlt : j < s.size
    · have hlt' : (j : Int) < (s.size : Int) := by omega
      have HX : Hid (¬ SignW s[j] → b = false) := Lib.hid (fun h => HF.out fun hw => h (hw.1 _ (by rw [show s[j] = s.data.toList[j]'(by rw [HL.out]; exact hlt) from rfl]; exact List.getElem_mem _)))
      have HNX : Hid (SignW s[j] → ∀ i, (hi : i < s.size) → i < j + 1 → SignW s[i]) := Lib.hid (fun hx i hi h => by
        rcases Nat.lt_or_ge i j with h2 | h2
        · exact HA.out i hi h2
        · have : i = j := by omega
          subst this
          exact hx)
      generalize hc : s[j] = x at HX HNX
      have HC := Lib.hid hc
      by_cases hx : SignW x
      · have K := Lib.hid (HW.out x true ⟨fun _ => hx, fun _ => rfl⟩ w)
        have HJ := Lib.hid (HNX.out hx)
        clear HX HNX hx
        go_wp2_with fail
        refine (K.out).mono ?_
        rintro e Z9 ⟨rfl, rfl⟩
        go_wp2_with fail
        go_round
        case rel => exact ⟨j + 1, by omega, by go_num, HJ⟩
        case measure => simp [intOf]; omega
      · have K := Lib.hid (HW.out x false ⟨fun e => (by cases e), fun e => absurd e hx⟩ w)
        obtain rfl := HX.out hx
        clear HX HNX hx
        go_wp2_with fail
        refine (K.out).mono ?_
        rintro e Z9 ⟨rfl, rfl⟩
        go_wp2_with fail
        go_ret
        exact ⟨rfl, rfl⟩
    · have hlt' : ¬ ((j : Int) < (s.size : Int)) := by omega
      obtain rfl : b = true := HB.out.2 ⟨fun x hx => by
        obtain ⟨i, hi, rfl⟩ := List.getElem_of_mem hx
        rw [HL.out] at hi
        exact HA.out i hi (by omega), by omega, by omega⟩
      go_wp2_with fail
      go_ret
      exact ⟨rfl, rfl⟩

set_option maxRecDepth 100000 in
set_option maxHeartbeats 1600000 in
theorem areWaysRight_any (v : Value) (ws : List ByteArray) (b : Bool) (hb : b = true ↔ WaysTo ws ws.length ∧ 1 ≤ ws.length ∧ ws.length ≤ 4) (hl : ws.length ≤ 100000000) (hx : ∀ x ∈ ws, x.size ≤ 100000000) (w : World) (h : layStringS.rd w [v] ws) :
    Calls Tryd.prog 44 #[v] w fun e w' => e = .returned (.bool b) ∧ w' = w := by
  obtain ⟨ao, cp, rfl⟩ := rows_form h
  have HR := Lib.hid h
  have HB := Lib.hid hb
  have HF : Hid (¬ (WaysTo ws ws.length ∧ 1 ≤ ws.length ∧ ws.length ≤ 4) → b = false) := Lib.hid (fun h => by
    cases b with
    | false => rfl
    | true => exact absurd (hb.1 rfl) h)
  have HZ := Lib.hid hx
  have HW := Lib.hid isWay_any
  have HC := Lib.hid containsText_any
  clear h hb hx
  go_enter Tryd.func44, Tryd.ntmps44
  by_cases h0 : ws.length = 0
  · obtain rfl := HF.out (fun h => by have := h.2.1; omega)
    have q : ((ws.length : Int) == 0) = true := by rw [beq_iff_eq]; omega
    go_wp2_with fail
    go_ret
    exact ⟨rfl, rfl⟩
  have q : ((ws.length : Int) == 0) = false := by rw [beq_eq_false_iff_ne]; omega
  by_cases h4 : 4 < ws.length
  · obtain rfl := HF.out (fun h => by have := h.2.2; omega)
    have h4' : (4 : Int) < (ws.length : Int) := by omega
    go_wp2_with fail
    go_ret
    exact ⟨rfl, rfl⟩
  have h4' : ¬ ((4 : Int) < (ws.length : Int)) := by omega
  go_wp2_with fail
  go_loop [15] (fun c => ∃ j : Nat, j ≤ ws.length ∧ c = .int .i64 j ∧ Hid (WaysTo ws j)) (fun c => ws.length - (intOf c).toNat)
  case atStart => exact ⟨0, Nat.zero_le _, rfl, Lib.hid fun i _ h => absurd h (by omega)⟩
  case round =>
    obtain ⟨j, hj, rfl, HA⟩ := hrel
    by_cases hlt : j < ws.length
    · have hlt' : (j : Int) < (ws.length : Int) := by omega
      have HX : Hid (¬ (WayP ws[j] ∧ ws[j] ∉ ws.take j) → b = false) := Lib.hid (fun h => HF.out fun hw => h (hw.1 j hlt hlt))
      have HNX : Hid (WayP ws[j] ∧ ws[j] ∉ ws.take j → WaysTo ws (j + 1)) := Lib.hid (fun hx => ways_next hlt HA.out hx.1 hx.2)
      have hsz : ws[j].size ≤ 100000000 := HZ.out _ (List.getElem_mem hlt)
      have hlc : j ≤ cp := by
        have := rows_room HR.out
        omega
      obtain ⟨g, off, cs, rfl, hg, hr, hc⟩ := rows_elem HR.out j _ (List.getElem?_eq_getElem hlt)
      have HT := Lib.hid (rows_take HR.out j (by omega))
      have htl : (ws.take j).length = j := by rw [List.length_take]; omega
      generalize ws[j] = y at hr HX HNX hsz
      rw [layString_rd] at hr
      subst hr
      have c0 : w.cell? ⟨g, off + j, none⟩ = some (.string y) := (by have h9 := hc 0 _ rfl; rw [str_k] at h9; exact h9)
      clear hc
      by_cases hw : WayP y
      rotate_left
      · obtain rfl := HX.out (fun h => hw h.1)
        have K := Lib.hid (HW.out y false ⟨fun e => (by cases e), fun e => absurd e hw⟩ hsz w)
        clear HX HNX hw hsz htl
        go_wp2_with fail
        refine (K.out).mono ?_
        rintro e Z9 ⟨rfl, rfl⟩
        go_wp2_with fail
        go_ret
        exact ⟨rfl, rfl⟩
      have K := Lib.hid (HW.out y true ⟨fun _ => hw, fun _ => rfl⟩ hsz w)
      by_cases hm : y ∈ ws.take j
      · obtain rfl := HX.out (fun h => h.2 hm)
        have K2 := Lib.hid (HC.out (ws.take j) y (.slice (some ⟨g, off, none⟩) j cp) true ⟨fun _ => hm, fun _ => rfl⟩ (by omega) w HT.out)
        clear HX HNX hw hsz htl hm
        go_wp2_with fail
        refine (K.out).mono ?_
        rintro e Z9 ⟨rfl, rfl⟩
        go_wp2_with fail
        refine (K2.out).mono ?_
        rintro e Z9 ⟨rfl, rfl⟩
        go_wp2_with fail
        go_ret
        exact ⟨rfl, rfl⟩
      · have HJ := Lib.hid (HNX.out ⟨hw, hm⟩)
        have K2 := Lib.hid (HC.out (ws.take j) y (.slice (some ⟨g, off, none⟩) j cp) false ⟨fun e => (by cases e), fun e => absurd e hm⟩ (by omega) w HT.out)
        clear HX HNX hw hsz htl hm
        go_wp2_with fail
        refine (K.out).mono ?_
        rintro e Z9 ⟨rfl, rfl⟩
        go_wp2_with fail
        refine (K2.out).mono ?_
        rintro e Z9 ⟨rfl, rfl⟩
        go_wp2_with fail
        go_round
        case rel => exact ⟨j + 1, by omega, by go_num, HJ⟩
        case measure => simp [intOf]; omega
    · have hlt' : ¬ ((j : Int) < (ws.length : Int)) := by omega
      have hje : j = ws.length := by omega
      subst hje
      obtain rfl : b = true := HB.out.2 ⟨HA.out, by omega, by omega⟩
      go_wp2_with fail
      go_ret
      exact ⟨rfl, rfl⟩

set_option maxRecDepth 100000 in
set_option maxHeartbeats 1600000 in
theorem implOptionsOk_bool (z : Int) (v1 : Value) (ws : List ByteArray) (p : Bool) (b : Bool) (hb : b = true ↔ OptP z ws) (hl : ws.length ≤ 100000000) (hx : ∀ x ∈ ws, x.size ≤ 100000000) (w : World) (h : layStringS.rd w [v1] ws) :
    Calls Tryd.prog 27 #[.agg #[.int .i64 z, v1, .bool p]] w fun e w' => e = .returned (.bool b) ∧ Below w.heap.size w w' := by
  rw [optP_iff] at hb
  obtain ⟨a1, k1, rfl⟩ := rows_form h
  have A0 := Lib.hid (VarA.new w OptionsT #[.int .i64 z, .slice a1 ws.length k1, .bool p])
  have B0 := Lib.hid ((Below.refl w.heap.size w).alloc (Nat.le_refl _) (.cells #[.int .i64 z, .slice a1 ws.length k1, .bool p] OptionsT))
  have HR := Lib.hid (layStringS.below h B0.out)
  have HB := Lib.hid hb
  have HZ := Lib.hid hx
  have HF : Hid (¬ (20 ≤ z ∧ z ≤ 60) → b = false) := Lib.hid (fun h => by
    cases b with
    | false => rfl
    | true => exact absurd (hb.1 rfl).2.1 h)
  clear h hb hx
  go_enter Tryd.func27, Tryd.ntmps27
  go_upto_region 1 with fail
  generalize w.alloc (.cells #[.int .i64 z, .slice a1 ws.length k1, .bool p] OptionsT) = Y at *
  have c0 : Y.cell? ⟨w.heap.size, 0, none⟩ = some (.int .i64 z) := A0.out.cell 0
  have c1 : Y.cell? ⟨w.heap.size, 1, none⟩ = some (.slice a1 ws.length k1) := A0.out.cell 1
  by_cases h1 : 20 ≤ z
  rotate_left
  · obtain rfl := HF.out (fun h => h1 h.1)
    have q : decide (20 ≤ z) = false := decide_eq_false h1
    go_wp2_with fail
    go_ret
    exact ⟨rfl, B0.out⟩
  have q1 : decide (20 ≤ z) = true := decide_eq_true h1
  by_cases h2 : z ≤ 60
  rotate_left
  · obtain rfl := HF.out (fun h => h2 h.2)
    have q : decide (z ≤ 60) = false := decide_eq_false h2
    clear h1
    go_wp2_with fail
    go_ret
    exact ⟨rfl, B0.out⟩
  have q2 : decide (z ≤ 60) = true := decide_eq_true h2
  have K := Lib.hid (areWaysRight_any (.slice a1 ws.length k1) ws b ⟨fun e => ⟨(HB.out.1 e).1, by have := (HB.out.1 e).2.2; omega, by have := (HB.out.1 e).2.2; omega⟩, fun e => HB.out.2 ⟨e.1, ⟨h1, h2⟩, by have := e.2; omega⟩⟩ hl HZ.out Y HR.out)
  clear h1 h2 HB HF
  go_wp2_with fail
  refine (K.out).mono ?_
  rintro e Z9 ⟨rfl, rfl⟩
  go_wp2_with fail
  go_ret
  exact ⟨rfl, B0.out⟩

end Go.Proofs.YtmgdhlodifkematDoor
namespace Go.Proofs.YtmgdhlodifkematDoor
open Go.RowKit

set_option maxRecDepth 100000 in
set_option maxHeartbeats 3200000 in
theorem specOptionsOk_bool (z : Int) (v1 : Value) (ws : List ByteArray) (p : Bool) (b : Bool) (hb : b = true ↔ OptP z ws) (hl : ws.length ≤ 100000000) (hx : ∀ x ∈ ws, x.size ≤ 100000000) (w : World) (h : layStringS.rd w [v1] ws) :
    Calls Tryd.prog 20 #[.agg #[.int .i64 z, v1, .bool p]] w fun e w' => e = .returned (.bool b) ∧ Below w.heap.size w w' := by
  obtain ⟨ao, cp, rfl⟩ := rows_form h
  have hcap := rows_room h
  have HB := Lib.hid (hb.trans optP_iff)
  have HXS := Lib.hid hx
  have A0 := Lib.hid (VarA.new w OptionsT #[.int .i64 z, .slice ao ws.length cp, .bool p])
  have B0 := Lib.hid ((Below.refl w.heap.size w).alloc (Nat.le_refl _) (.cells #[.int .i64 z, .slice ao ws.length cp, .bool p] OptionsT))
  have HR := Lib.hid (layStringS.below h B0.out)
  clear hb h hx
  go_enter Tryd.func20, Tryd.ntmps20
  go_upto_region 1 with fail
  generalize w.alloc (.cells #[.int .i64 z, .slice ao ws.length cp, .bool p] OptionsT) = Y at *
  go_wp2_with fail
  go_loopw [3] (fun c wr => ∃ j : Nat, j ≤ ws.length ∧ c = .int .i64 j ∧ Hid (WaysTo ws j) ∧ VarA w.heap.size OptionsT #[.int .i64 z, .slice ao ws.length cp, .bool p] wr ∧ layStringS.rd wr [.slice ao ws.length cp] ws ∧ Below w.heap.size w wr) (fun c _ => ws.length - (intOf c).toNat)
  case atStart => exact ⟨0, Nat.zero_le _, rfl, fun i _ h => absurd h (by omega), A0.out, HR.out, B0.out⟩
  case round =>
    clear HR A0 B0
    obtain ⟨j, hj, rfl, HA, ha, hr0, hb0⟩ := hrel
    have A0 := Lib.hid ha
    have HR := Lib.hid hr0
    have B0 := Lib.hid hb0
    have c0 : wr.cell? ⟨w.heap.size, 0, none⟩ = some (.int .i64 z) := A0.out.cell 0
    have c1 : wr.cell? ⟨w.heap.size, 1, none⟩ = some (.slice ao ws.length cp) := A0.out.cell 1
    clear ha hr0 hb0
    by_cases hlt : j < ws.length
    · have hlt' : (j : Int) < (ws.length : Int) := by omega
      have hjc : (j : Int) ≤ (cp : Int) := by omega
      have HT := Lib.hid (rows_take HR.out j hj)
      have hs := HXS.out _ (List.getElem_mem hlt)
      have HX : Hid (¬ (WayP ws[j] ∧ ws[j] ∉ ws.take j) → b = false) := fun h => by
        cases b with
        | false => rfl
        | true => exact absurd ((HB.out.1 rfl).1 j hlt hlt) h
      have HNX : Hid (WayP ws[j] → ws[j] ∉ ws.take j → WaysTo ws (j + 1)) := fun h1 h2 => ways_next hlt HA.out h1 h2
      obtain ⟨g, off, cs, rfl, hg, hr, hc⟩ := rows_elem HR.out j _ (List.getElem?_eq_getElem hlt)
      have htl : (ws.take j).length = j := by rw [List.length_take]; omega
      generalize ws[j] = x at hr HX HNX hs
      rw [layString_rd] at hr
      subst hr
      have c3 : wr.cell? ⟨g, off + j, none⟩ = some (.string x) := (by have h9 := hc 0 _ rfl; rw [str_k] at h9; exact h9)
      clear hc
      by_cases hway : WayP x
      · have K1 := Lib.hid (specWay_any x true ⟨fun _ => hway, fun _ => rfl⟩ hs)
        by_cases hin : x ∈ ws.take j
        · obtain rfl := HX.out (fun h => h.2 hin)
          have K2 : Hid (∀ n : Nat, Calls Tryd.prog 33 #[.slice (some ⟨g, off, none⟩) j cp, .string x] (wr.drewN n) fun e w' => e = .returned (.bool true) ∧ w' = wr.drewN n) := Lib.hid (fun n => specHas_any (ws.take j) x _ true ⟨fun _ => hin, fun _ => rfl⟩ (by omega) _ (layStringS.below HT.out (below_drewN (Below.refl _ _) n)))
          clear hin hway htl
          go_wp2_with fail
          go_quiet (first | (go_at_call 32; exact Calls.quiet_of_same (K1.out _)) | (go_at_call 33; exact Calls.quiet_of_same (K2.out _)))
          go_wp2_with fail
          go_ret
          exact ⟨rfl, below_drewN B0.out _⟩
        · have HJ := Lib.hid (HNX.out hway hin)
          have K2 : Hid (∀ n : Nat, Calls Tryd.prog 33 #[.slice (some ⟨g, off, none⟩) j cp, .string x] (wr.drewN n) fun e w' => e = .returned (.bool false) ∧ w' = wr.drewN n) := Lib.hid (fun n => specHas_any (ws.take j) x _ false ⟨fun e => (by cases e), fun e => absurd e hin⟩ (by omega) _ (layStringS.below HT.out (below_drewN (Below.refl _ _) n)))
          clear hin hway htl
          go_wp2_with fail
          go_quiet (first | (go_at_call 32; exact Calls.quiet_of_same (K1.out _)) | (go_at_call 33; exact Calls.quiet_of_same (K2.out _)))
          go_wp2_with fail
          go_roundw
          case rel => exact ⟨j + 1, by omega, by go_num, HJ, A0.out.next (below_drewN (Below.refl _ _) _), layStringS.below HR.out (below_drewN (Below.refl _ _) _), below_drewN B0.out _⟩
          case measure => simp [intOf]; omega
      · obtain rfl := HX.out (fun h => hway h.1)
        have K1 := Lib.hid (specWay_any x false ⟨fun e => (by cases e), fun e => absurd e hway⟩ hs)
        clear hway htl
        go_wp2_with fail
        go_quiet (first | (go_at_call 32; exact Calls.quiet_of_same (K1.out _)))
        go_wp2_with fail
        go_ret
        exact ⟨rfl, below_drewN B0.out _⟩
    · have hlt' : ¬ ((j : Int) < (ws.length : Int)) := by omega
      have hje : j = ws.length := by omega
      have HALL := HA.out
      rw [hje] at HALL
      replace HA := Lib.hid HALL
      clear HALL
      by_cases hz : 20 ≤ z ∧ z ≤ 60
      · have K := Lib.hid (inRange_yes z 20 60 hz.1 hz.2 wr)
        go_wp2_with fail
        refine (K.out).mono ?_
        rintro e Z9 ⟨rfl, hw⟩
        rw [hw]
        clear hw K Z9
        by_cases hn : 1 ≤ (ws.length : Int) ∧ (ws.length : Int) ≤ 4
        · obtain rfl : b = true := HB.out.2 ⟨HA.out, hz, hn⟩
          have K := Lib.hid (inRange_yes (ws.length : Int) 1 4 hn.1 hn.2 wr)
          go_wp2_with fail
          refine (K.out).mono ?_
          rintro e Z9 ⟨rfl, hw⟩
          rw [hw]
          clear hw K Z9
          go_wp2_with fail
          go_ret
          exact ⟨rfl, B0.out⟩
        · obtain rfl : b = false := by
            cases b with
            | false => rfl
            | true => exact absurd (HB.out.1 rfl).2.2 hn
          have K := Lib.hid (inRange_no (ws.length : Int) 1 4 (by omega) wr)
          go_wp2_with fail
          refine (K.out).mono ?_
          rintro e Z9 ⟨rfl, hw⟩
          rw [hw]
          clear hw K Z9
          go_wp2_with fail
          go_ret
          exact ⟨rfl, B0.out⟩
      · obtain rfl : b = false := by
          cases b with
          | false => rfl
          | true => exact absurd (HB.out.1 rfl).2.1 hz
        have K := Lib.hid (inRange_no z 20 60 (by omega) wr)
        go_wp2_with fail
        refine (K.out).mono ?_
        rintro e Z9 ⟨rfl, hw⟩
        rw [hw]
        clear hw K Z9
        go_wp2_with fail
        go_ret
        exact ⟨rfl, B0.out⟩

end Go.Proofs.YtmgdhlodifkematDoor

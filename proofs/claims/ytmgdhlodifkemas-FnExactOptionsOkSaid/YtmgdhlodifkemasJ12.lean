/-
  The program's OptionsOk, and what it calls.
  What is changed, by ranges of blocks; no program is spoken of here.
  Options in variables of their own, with rows of their own, by ranges of blocks: for the exact laws.
-/
import Derived.Test.YtmgdhlodifkemasJ11
import Derived.Test.YtmgdhlodifkemasJ08
import Derived.Test.YtmgdhlodifkemasJ10
namespace Go.Proofs.Ytmgdhlodifkemas
open Go.RowKit

theorem isWayByte_any (x : UInt8) (b : Bool) (hb : b = true ↔ SignW x) (w : World) :
    Calls Try.prog 26 #[.int .u8 x.toNat] w fun e w' => e = .returned (.bool b) ∧ w' = w := by
  have HF : ¬ SignW x → b = false := fun h => by
    cases b with
    | false => rfl
    | true => exact absurd (hb.1 rfl) h
  go_enter Try.func26, Try.ntmps26
  rcases sign_facts x.toNat with h | h | h | h | h
  · obtain rfl := HF (by unfold SignW; omega)
    have k1 : decide (97 ≤ (x.toNat : Int)) = false := decide_eq_false (by omega)
    have k2 : decide (48 ≤ (x.toNat : Int)) = false := decide_eq_false (by omega)
    clear hb HF h
    go_wp2_with fail
    go_ret
    exact ⟨rfl, rfl⟩
  · obtain rfl := hb.2 (by unfold SignW; omega)
    have k1 : decide (97 ≤ (x.toNat : Int)) = false := decide_eq_false (by omega)
    have k2 : decide (48 ≤ (x.toNat : Int)) = true := decide_eq_true (by omega)
    have k3 : decide ((x.toNat : Int) ≤ 57) = true := decide_eq_true (by omega)
    clear hb HF h
    go_wp2_with fail
    go_ret
    exact ⟨rfl, rfl⟩
  · obtain rfl := HF (by unfold SignW; omega)
    have k1 : decide (97 ≤ (x.toNat : Int)) = false := decide_eq_false (by omega)
    have k2 : decide (48 ≤ (x.toNat : Int)) = true := decide_eq_true (by omega)
    have k3 : decide ((x.toNat : Int) ≤ 57) = false := decide_eq_false (by omega)
    clear hb HF h
    go_wp2_with fail
    go_ret
    exact ⟨rfl, rfl⟩
  · obtain rfl := hb.2 (by unfold SignW; omega)
    have k1 : decide (97 ≤ (x.toNat : Int)) = true := decide_eq_true (by omega)
    have k2 : decide ((x.toNat : Int) ≤ 122) = true := decide_eq_true (by omega)
    clear hb HF h
    go_wp2_with fail
    go_ret
    exact ⟨rfl, rfl⟩
  · obtain rfl := HF (by unfold SignW; omega)
    have k1 : decide (97 ≤ (x.toNat : Int)) = true := decide_eq_true (by omega)
    have k2 : decide ((x.toNat : Int) ≤ 122) = false := decide_eq_false (by omega)
    have k3 : decide (48 ≤ (x.toNat : Int)) = true := decide_eq_true (by omega)
    have k4 : decide ((x.toNat : Int) ≤ 57) = false := decide_eq_false (by omega)
    clear hb HF h
    go_wp2_with fail
    go_ret
    exact ⟨rfl, rfl⟩

set_option maxRecDepth 100000 in
set_option maxHeartbeats 1600000 in
theorem isWay_any (s : ByteArray) (b : Bool) (hb : b = true ↔ WayP s) (hs : s.size ≤ 100000000) (w : World) :
    Calls Try.prog 24 #[.string s] w fun e w' => e = .returned (.bool b) ∧ w' = w := by
  have HB := Lib.hid hb
  have HF : Hid (¬ WayP s → b = false) := Lib.hid (fun h => by
    cases b with
    | false => rfl
    | true => exact absurd (hb.1 rfl) h)
  have hl : s.data.toList.length = s.size := by simp
  have HL := Lib.hid hl
  have HW := Lib.hid isWayByte_any
  have hl2 : s.toList.length = s.size := by rw [ByteArray.toList_eq]; exact hl
  clear hb hl
  go_enter Try.func24, Try.ntmps24
  by_cases h0 : s.size = 0
  · obtain rfl := HF.out (fun h => by have := h.2.1; omega)
    have q : s.toList.isEmpty = true := by rw [List.isEmpty_iff_length_eq_zero, hl2]; exact h0
    clear hl2
    go_wp2_with fail
    go_ret
    exact ⟨rfl, rfl⟩
  have q : s.toList.isEmpty = false := by
    rw [Bool.eq_false_iff, ne_eq, List.isEmpty_iff_length_eq_zero, hl2]; exact h0
  clear hl2
  by_cases h8 : 8 < s.size
  · obtain rfl := HF.out (fun h => by have := h.2.2; omega)
    have h8' : (8 : Int) < (s.size : Int) := by omega
    go_wp2_with fail
    go_ret
    exact ⟨rfl, rfl⟩
  have h8' : ¬ ((8 : Int) < (s.size : Int)) := by omega
  go_wp2_with fail
  go_loop [13] (fun c => ∃ j : Nat, j ≤ s.size ∧ c = .int .i64 j ∧ Hid (∀ i, (hi : i < s.size) → i < j → SignW s[i])) (fun c => s.size - (intOf c).toNat)
  case atStart => exact ⟨0, Nat.zero_le _, rfl, fun i _ h => absurd h (by omega)⟩
  case round =>
    obtain ⟨j, hj, rfl, HA⟩ := hrel
    by_cases hlt : j < s.size
    · have hlt' : (j : Int) < (s.size : Int) := by omega
      have HX : Hid (¬ SignW s[j] → b = false) := Lib.hid (fun h => HF.out fun hw => h (hw.1 _ (by rw [show s[j] = s.data.toList[j]'(by rw [HL.out]; exact hlt) from rfl]; exact List.getElem_mem _)))
      have HNX : Hid (SignW s[j] → ∀ i, (hi : i < s.size) → i < j + 1 → SignW s[i]) := Lib.hid (fun hx i hi h => by
        rcases Nat.lt_or_ge i j with h2 | h2
        · exact HA.out i hi h2
        · have : i = j := by omega
          subst this
          exact hx)
      generalize hc : s[j] = x at HX HNX
      have HC := Lib.hid hc
      by_cases hx : SignW x
      · have K := Lib.hid (HW.out x true ⟨fun _ => hx, fun _ => rfl⟩ w)
        have HJ := Lib.hid (HNX.out hx)
        clear HX HNX hx
        go_wp2_with fail
        refine (K.out).mono ?_
        rintro e Z9 ⟨rfl, rfl⟩
        go_wp2_with fail
        go_round
        case rel => exact ⟨j + 1, by omega, by go_num, HJ⟩
        case measure => simp [intOf]; omega
      · have K := Lib.hid (HW.out x false ⟨fun e => (by cases e), fun e => absurd e hx⟩ w)
        obtain rfl := HX.out hx
        clear HX HNX hx
        go_wp2_with fail
        refine (K.out).mono ?_
        rintro e Z9 ⟨rfl, rfl⟩
        go_wp2_with fail
        go_ret
        exact ⟨rfl, rfl⟩
    · have hlt' : ¬ ((j : Int) < (s.size : Int)) := by omega
      obtain rfl : b = true := HB.out.2 ⟨fun x hx => by
        obtain ⟨i, hi, rfl⟩ := List.getElem_of_mem hx
        rw [HL.out] at hi
        exact HA.out i hi (by omega), by omega, by omega⟩
      go_wp2_with fail
      go_ret
      exact ⟨rfl, rfl⟩

set_option maxRecDepth 100000 in
set_option maxHeartbeats 1600000 in
theorem areWaysRight_any (v : Value) (ws : List ByteArray) (b : Bool) (hb : b = true ↔ WaysTo ws ws.length ∧ 1 ≤ ws.length ∧ ws.length ≤ 4) (hl : ws.length ≤ 100000000) (hx : ∀ x ∈ ws, x.size ≤ 100000000) (w : World) (h : layStringS.rd w [v] ws) :
    Calls Try.prog 23 #[v] w fun e w' => e = .returned (.bool b) ∧ w' = w := by
  obtain ⟨ao, cp, rfl⟩ := rows_form h
  have HR := Lib.hid h
  have HB := Lib.hid hb
  have HF : Hid (¬ (WaysTo ws ws.length ∧ 1 ≤ ws.length ∧ ws.length ≤ 4) → b = false) := Lib.hid (fun h => by
    cases b with
    | false => rfl
    | true => exact absurd (hb.1 rfl) h)
  have HZ := Lib.hid hx
  have HW := Lib.hid isWay_any
  have HC := Lib.hid containsText_any
  clear h hb hx
  go_enter Try.func23, Try.ntmps23
  by_cases h0 : ws.length = 0
  · obtain rfl := HF.out (fun h => by have := h.2.1; omega)
    have q : ((ws.length : Int) == 0) = true := by rw [beq_iff_eq]; omega
    go_wp2_with fail
    go_ret
    exact ⟨rfl, rfl⟩
  have q : ((ws.length : Int) == 0) = false := by rw [beq_eq_false_iff_ne]; omega
  by_cases h4 : 4 < ws.length
  · obtain rfl := HF.out (fun h => by have := h.2.2; omega)
    have h4' : (4 : Int) < (ws.length : Int) := by omega
    go_wp2_with fail
    go_ret
    exact ⟨rfl, rfl⟩
  have h4' : ¬ ((4 : Int) < (ws.length : Int)) := by omega
  go_wp2_with fail
  go_loop [15] (fun c => ∃ j : Nat, j ≤ ws.length ∧ c = .int .i64 j ∧ Hid (WaysTo ws j)) (fun c => ws.length - (intOf c).toNat)
  case atStart => exact ⟨0, Nat.zero_le _, rfl, Lib.hid fun i _ h => absurd h (by omega)⟩
  case round =>
    obtain ⟨j, hj, rfl, HA⟩ := hrel
    by_cases hlt : j < ws.length
    · have hlt' : (j : Int) < (ws.length : Int) := by omega
      have HX : Hid (¬ (WayP ws[j] ∧ ws[j] ∉ ws.take j) → b = false) := Lib.hid (fun h => HF.out fun hw => h (hw.1 j hlt hlt))
      have HNX : Hid (WayP ws[j] ∧ ws[j] ∉ ws.take j → WaysTo ws (j + 1)) := Lib.hid (fun hx => ways_next hlt HA.out hx.1 hx.2)
      have hsz : ws[j].size ≤ 100000000 := HZ.out _ (List.getElem_mem hlt)
      have hlc : j ≤ cp := by
        have := rows_room HR.out
        omega
      obtain ⟨g, off, cs, rfl, hg, hr, hc⟩ := rows_elem HR.out j _ (List.getElem?_eq_getElem hlt)
      have HT := Lib.hid (rows_take HR.out j (by omega))
      have htl : (ws.take j).length = j := by rw [List.length_take]; omega
      generalize ws[j] = y at hr HX HNX hsz
      rw [layString_rd] at hr
      subst hr
      have c0 : w.cell? ⟨g, off + j, none⟩ = some (.string y) := (by have h9 := hc 0 _ rfl; rw [str_k] at h9; exact h9)
      clear hc
      by_cases hw : WayP y
      rotate_left
      · obtain rfl := HX.out (fun h => hw h.1)
        have K := Lib.hid (HW.out y false ⟨fun e => (by cases e), fun e => absurd e hw⟩ hsz w)
        clear HX HNX hw hsz htl
        go_wp2_with fail
        refine (K.out).mono ?_
        rintro e Z9 ⟨rfl, rfl⟩
        go_wp2_with fail
        go_ret
        exact ⟨rfl, rfl⟩
      have K := Lib.hid (HW.out y true ⟨fun _ => hw, fun _ => rfl⟩ hsz w)
      by_cases hm : y ∈ ws.take j
      · obtain rfl := HX.out (fun h => h.2 hm)
        have K2 := Lib.hid (HC.out (ws.take j) y (.slice (some ⟨g, off, none⟩) j cp) true ⟨fun _ => hm, fun _ => rfl⟩ (by omega) w HT.out)
        clear HX HNX hw hsz htl hm
        go_wp2_with fail
        refine (K.out).mono ?_
        rintro e Z9 ⟨rfl, rfl⟩
        go_wp2_with fail
        refine (K2.out).mono ?_
        rintro e Z9 ⟨rfl, rfl⟩
        go_wp2_with fail
        go_ret
        exact ⟨rfl, rfl⟩
      · have HJ := Lib.hid (HNX.out ⟨hw, hm⟩)
        have K2 := Lib.hid (HC.out (ws.take j) y (.slice (some ⟨g, off, none⟩) j cp) false ⟨fun e => (by cases e), fun e => absurd e hm⟩ (by omega) w HT.out)
        clear HX HNX hw hsz htl hm
        go_wp2_with fail
        refine (K.out).mono ?_
        rintro e Z9 ⟨rfl, rfl⟩
        go_wp2_with fail
        refine (K2.out).mono ?_
        rintro e Z9 ⟨rfl, rfl⟩
        go_wp2_with fail
        go_round
        case rel => exact ⟨j + 1, by omega, by go_num, HJ⟩
        case measure => simp [intOf]; omega
    · have hlt' : ¬ ((j : Int) < (ws.length : Int)) := by omega
      have hje : j = ws.length := by omega
      subst hje
      obtain rfl : b = true := HB.out.2 ⟨HA.out, by omega, by omega⟩
      go_wp2_with fail
      go_ret
      exact ⟨rfl, rfl⟩

set_option maxRecDepth 100000 in
set_option maxHeartbeats 1600000 in
theorem implOptionsOk_bool (z : Int) (v1 : Value) (ws : List ByteArray) (p : Bool) (b : Bool) (hb : b = true ↔ OptP z ws) (hl : ws.length ≤ 100000000) (hx : ∀ x ∈ ws, x.size ≤ 100000000) (w : World) (h : layStringS.rd w [v1] ws) :
    Calls Try.prog 17 #[.agg #[.int .i64 z, v1, .bool p]] w fun e w' => e = .returned (.bool b) ∧ Below w.heap.size w w' := by
  rw [optP_iff] at hb
  obtain ⟨a1, k1, rfl⟩ := rows_form h
  have A0 := Lib.hid (VarA.new w OptionsT #[.int .i64 z, .slice a1 ws.length k1, .bool p])
  have B0 := Lib.hid ((Below.refl w.heap.size w).alloc (Nat.le_refl _) (.cells #[.int .i64 z, .slice a1 ws.length k1, .bool p] OptionsT))
  have HR := Lib.hid (layStringS.below h B0.out)
  have HB := Lib.hid hb
  have HZ := Lib.hid hx
  have HF : Hid (¬ (20 ≤ z ∧ z ≤ 60) → b = false) := Lib.hid (fun h => by
    cases b with
    | false => rfl
    | true => exact absurd (hb.1 rfl).2.1 h)
  clear h hb hx
  go_enter Try.func17, Try.ntmps17
  go_upto_region 1 with fail
  generalize w.alloc (.cells #[.int .i64 z, .slice a1 ws.length k1, .bool p] OptionsT) = Y at *
  have c0 : Y.cell? ⟨w.heap.size, 0, none⟩ = some (.int .i64 z) := A0.out.cell 0
  have c1 : Y.cell? ⟨w.heap.size, 1, none⟩ = some (.slice a1 ws.length k1) := A0.out.cell 1
  by_cases h1 : 20 ≤ z
  rotate_left
  · obtain rfl := HF.out (fun h => h1 h.1)
    have q : decide (20 ≤ z) = false := decide_eq_false h1
    go_wp2_with fail
    go_ret
    exact ⟨rfl, B0.out⟩
  have q1 : decide (20 ≤ z) = true := decide_eq_true h1
  by_cases h2 : z ≤ 60
  rotate_left
  · obtain rfl := HF.out (fun h => h2 h.2)
    have q : decide (z ≤ 60) = false := decide_eq_false h2
    clear h1
    go_wp2_with fail
    go_ret
    exact ⟨rfl, B0.out⟩
  have q2 : decide (z ≤ 60) = true := decide_eq_true h2
  have K := Lib.hid (areWaysRight_any (.slice a1 ws.length k1) ws b ⟨fun e => ⟨(HB.out.1 e).1, by have := (HB.out.1 e).2.2; omega, by have := (HB.out.1 e).2.2; omega⟩, fun e => HB.out.2 ⟨e.1, ⟨h1, h2⟩, by have := e.2; omega⟩⟩ hl HZ.out Y HR.out)
  clear h1 h2 HB HF
  go_wp2_with fail
  refine (K.out).mono ?_
  rintro e Z9 ⟨rfl, rfl⟩
  go_wp2_with fail
  go_ret
  exact ⟨rfl, B0.out⟩

end Go.Proofs.Ytmgdhlodifkemas
namespace Go.Proofs.Ytmgdhlodifkemas
open Go.RowKit

/-- Blocks from lo on, below hi, alone are changed; new ones may be there. -/
structure Rng (lo hi : Nat) (X Y : World) : Prop where
  os : Y.os = X.os
  tape : Y.tape = X.tape
  output : Y.output = X.output
  size : X.heap.size ≤ Y.heap.size
  block : ∀ g, g < X.heap.size → (g < lo ∨ hi ≤ g) → Y.heap[g]? = X.heap[g]?
theorem Chg.rng {fp : List Nat} {X Y : World} {lo hi : Nat} (h : Chg fp X Y) (hf : ∀ g ∈ fp, lo ≤ g ∧ g < hi) : Rng lo hi X Y := ⟨h.os, h.tape, h.output, h.size, fun g hg ho => h.block g hg (fun hm => by have := hf g hm; omega)⟩
theorem Rng.below {X Y : World} {lo hi b : Nat} (h : Rng lo hi X Y) (hb : b ≤ lo) (hs : b ≤ X.heap.size) : Below b X Y := ⟨h.os, h.tape, h.output, h.size, fun g hg => h.block g (by omega) (.inl (by omega))⟩
theorem VarA.rng {r : Nat} {t : TypeId} {cs : Array Value} {X Y : World} {lo hi : Nat} (h : VarA r t cs X) (hr : Rng lo hi X Y) (ho : r < lo ∨ hi ≤ r) : VarA r t cs Y := ⟨(hr.block r h.lt ho).trans h.row⟩
theorem Lay.rng {α : Type} (A : Lay α) {X Y : World} {b lo hi : Nat} {f : List Nat} {cs : List Value} {x : α} (h : A.own X b f cs x) (hr : Rng lo hi X Y) (hf : ∀ g ∈ f, g < lo ∨ hi ≤ g) : A.own Y b f cs x := A.keep h (fun g hg => hr.block g (A.blocks h g hg).2 (hf g hg))

end Go.Proofs.Ytmgdhlodifkemas
namespace Go.Proofs.Ytmgdhlodifkemas
open Go.RowKit

abbrev LOpT : TypeId := 33
/-- Options in their variable, whose row lies in blocks from lo on, below hi. -/
structure OV (lo hi G : Nat) (z : Int) (v : Value) (ws : List ByteArray) (p : Bool) (X : World) : Prop where
  var : VarA G OptionsT #[.int .i64 z, v, .bool p] X
  co : ∃ f : List Nat, f.Nodup ∧ layStringS.own X lo f [v] ws ∧ ∀ g ∈ f, g < hi
  gh : hi ≤ G
/-- Options as an answer, of the call's own. -/
def OptVal (z : Int) (ws : List ByteArray) (p : Bool) (X : World) (v : Value) (Y : World) : Prop := ∃ (a : Option Addr) (c : Nat) (f : List Nat), v = .agg #[.int .i64 z, .slice a ws.length c, .bool p] ∧ f.Nodup ∧ layStringS.own Y X.heap.size f [.slice a ws.length c] ws ∧ Below X.heap.size X Y
section
variable {lo hi G : Nat} {z : Int} {v : Value} {ws : List ByteArray} {p : Bool} {X Y : World}
theorem OV.next (h : OV lo hi G z v ws p X) (hb : Below X.heap.size X Y) : OV lo hi G z v ws p Y := by
  obtain ⟨f, h0, h1, h2⟩ := h.co
  exact ⟨h.var.next hb, ⟨f, h0, layStringS.next h1 hb, h2⟩, h.gh⟩
theorem OV.apart (h : OV lo hi G z v ws p X) {a b : Nat} (hr : Rng a b X Y) (ho : hi ≤ a ∨ b ≤ lo) (hG : G < a ∨ b ≤ G) : OV lo hi G z v ws p Y := by
  obtain ⟨f, h0, h1, h2⟩ := h.co
  refine ⟨h.var.rng hr hG, ⟨f, h0, layStringS.rng h1 hr (fun g hg => ?_), h2⟩, h.gh⟩
  have := (layStringS.blocks h1 g hg).1
  have := h2 g hg
  omega
theorem OV.new {w : World} {f : List Nat} (hd : f.Nodup) (h : layStringS.own X w.heap.size f [v] ws) : OV w.heap.size X.heap.size X.heap.size z v ws p (X.alloc (.cells #[.int .i64 z, v, .bool p] OptionsT)) :=
  ⟨VarA.new X OptionsT _, ⟨f, hd, layStringS.next h ((Below.refl _ _).alloc (Nat.le_refl _) _), fun g hg => (layStringS.blocks h g hg).2⟩, Nat.le_refl _⟩
theorem OV.rd (h : OV lo hi G z v ws p X) : layStringS.rd X [v] ws := by
  obtain ⟨f, h0, h1, h2⟩ := h.co
  exact layStringS.read h1
theorem opt_to (h : layStringS.rd X [v] ws) (hf : ws.length ≤ 1048576) :
    Calls Try.prog 16 #[.agg #[.int .i64 z, v, .bool p]] X fun e Y => ∃ u, e = .returned u ∧ OptVal z ws p X u Y := by
  refine (toOptions_any z v ws p X h hf).mono ?_
  rintro e Y ⟨cs, fp, rfl, hd, hown, hb⟩
  obtain ⟨u1, f1, rfl, rfl, o1⟩ := layOptions_own.1 hown
  obtain ⟨a, c, rfl⟩ := rows_form (layStringS.read o1)
  exact ⟨_, rfl, a, c, _, rfl, hd, o1, hb⟩
theorem opt_eq {u : Value} (h : layStringS.rd X [v] ws) (k : layStringS.rd X [u] ws) (hf : ws.length ≤ 10000000) :
    Calls Try.prog 18 #[.agg #[.int .i64 z, v, .bool p], .agg #[.int .i64 z, u, .bool p]] X fun e Y => e = .returned (.bool true) ∧ Below X.heap.size X Y :=
  eqOptions_same z v u ws p X h k (by omega)
end

end Go.Proofs.Ytmgdhlodifkemas

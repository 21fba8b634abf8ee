/-
  The program's ReadDecimal by what it answers at every text; and that both answer one value.
  The program's ReadDecimal by its answer.
  What the library's splitting wants of the worlds: its tables, and its bound on short texts whatever it is.
  slices.Index and slices.Contains at texts.
-/
import Derived.Test.YtmgdhlodifkematDoorJ15
import Derived.Test.YtmgdhlodifkematDoorJ10
import Derived.Test.YtmgdhlodifkematDoorJ03
import Derived.Shelf.LaysM
import Derived.Test.YtmgdhlodifkematDoorJ08
namespace Go.Proofs.YtmgdhlodifkematDoor
open Go.RowKit

theorem not_empty (s : ByteArray) (h : 0 < s.size) : s.toList.isEmpty = false := by
  have h2 : s.data.toList.length = s.size := by simp
  rw [ByteArray.toList_eq, List.isEmpty_eq_false_iff]
  intro e
  rw [e] at h2
  simp at h2
  omega

set_option maxHeartbeats 400000 in
theorem implReadDec_long (s : ByteArray) (h : 10 < s.size) (w : World) :
    Calls Tryd.prog 23 #[.string s] w fun e w' => e = .returned (.tuple #[.int .i64 0, .bool false]) ∧ Below w.heap.size w w' := by
  have h0 := not_empty s (by omega)
  have h1 : decide (10 < (s.size : Int)) = true := decide_eq_true (by omega)
  go_enter Tryd.func23, Tryd.ntmps23
  go_wp2
  go_ret2
  exact ⟨rfl, Below.refl _ _⟩

set_option maxHeartbeats 400000 in
theorem implReadDec_empty (s : ByteArray) (h : s.size = 0) (w : World) :
    Calls Tryd.prog 23 #[.string s] w fun e w' => e = .returned (.tuple #[.int .i64 0, .bool false]) ∧ Below w.heap.size w w' := by
  have h0 : s.toList.isEmpty = true := by
    rw [ByteArray.toList_eq, List.isEmpty_iff]
    exact List.length_eq_zero_iff.1 (by simpa using h)
  clear h
  go_enter Tryd.func23, Tryd.ntmps23
  go_wp2
  go_ret2
  exact ⟨rfl, Below.refl _ _⟩

set_option maxHeartbeats 400000 in
theorem implReadDec_nought (s : ByteArray) (h : 1 < s.size) (hs : s.size ≤ 10) (hz : s[0].toNat = 48) (w : World) :
    Calls Tryd.prog 23 #[.string s] w fun e w' => e = .returned (.tuple #[.int .i64 0, .bool false]) ∧ Below w.heap.size w w' := by
  have h0 := not_empty s (by omega)
  have h1 : decide (10 < (s.size : Int)) = false := decide_eq_false (by omega)
  have h2 : decide (1 < (s.size : Int)) = true := decide_eq_true (by omega)
  have h3 : ((s[0].toNat : Int) == 48) = true := by rw [beq_iff_eq]; omega
  have h4 : 0 < (s.size : Int) := by omega
  clear hz
  go_enter Tryd.func23, Tryd.ntmps23
  go_wp2
  go_ret2
  exact ⟨rfl, Below.refl _ _⟩

/-- What stands behind the first test. -/
def Led (s : ByteArray) : Prop := s.size = 1 ∨ ∃ h : 1 < s.size, (s[0]'(by omega)).toNat ≠ 48

set_option maxRecDepth 100000 in
set_option maxHeartbeats 400000 in
theorem implReadDec_main (s : ByteArray) (hs : s.size ≤ 10) (hs0 : 0 < s.size) (hd : Led s) (qs : List Nat) (tail : List UInt8) (h1 : ∀ q ∈ qs, q < 10) (h2 : s.data.toList = qs.map fig ++ tail)
    (h3 : ∀ x r, tail = x :: r → ∀ q, q < 10 → fig q ≠ x) (w : World) :
    Calls Tryd.prog 23 #[.string s] w fun e w' => ((tail = [] ∧ valD qs ≤ 1000000000 ∧ e = .returned (.tuple #[.int .i64 (valD qs : Nat), .bool true])) ∨
      (¬ (tail = [] ∧ valD qs ≤ 1000000000) ∧ e = .returned (.tuple #[.int .i64 0, .bool false]))) ∧ Below w.heap.size w w' := by
  have g0 := not_empty s hs0
  have g1 : decide (10 < (s.size : Int)) = false := decide_eq_false (by omega)
  have hlen : s.size = qs.length + tail.length := by
    have := congrArg List.length h2
    simpa using this
  have hql : qs.length ≤ 10 := by omega
  have HT : Hid (∀ i, valD (qs.take i) < 10000000000) := fun i => valD_lt _ (fun q hq => h1 q (List.mem_of_mem_take hq)) (by simp; omega)
  have HC := Lib.hid (fun w => worthsOf_any s (by omega) 10 (by omega) qs tail h1 h2 h3 w)
  have H1 := Lib.hid h1
  clear h1 h2 h3 hlen
  have hgo : (decide (1 < (s.size : Int)) = false) ∨ (decide (1 < (s.size : Int)) = true ∧ ((s[0].toNat : Int) == 48) = false) := by
    rcases hd with h | ⟨h, hz⟩
    · left; exact decide_eq_false (by omega)
    · right; exact ⟨decide_eq_true (by omega), by rw [beq_eq_false_iff_ne]; omega⟩
  clear hd
  have hpos : 0 < (s.size : Int) := by omega
  rcases hgo with g2 | ⟨g2, g3⟩
  all_goals
    go_enter Tryd.func23, Tryd.ntmps23
    go_wp2_with fail
    refine (HC.out _).mono ?_
    rintro e w1 ⟨h | h, hb1⟩
    · obtain ⟨ht, v, rfl, hown⟩ := h
      obtain ⟨ao, cap, rfl, hcell⟩ := worths_form (fun q hq => Nat.lt_trans (H1.out q hq) (by omega)) hown
      have HCELL := Lib.hid hcell
      have HTT := Lib.hid ht
      clear hown hcell ht
      go_wp2
      go_loop [6, 8, 35] (fun n d c => ∃ i v : Nat, i ≤ qs.length ∧ c = .int .i64 i ∧ Hid (v = valD (qs.take i)) ∧ n = .int .i64 v) (fun _ _ c => qs.length - (intOf c).toNat)
      case atStart => exact ⟨0, 0, Nat.zero_le _, rfl, rfl, rfl⟩
      case round =>
        obtain ⟨i, v, hiq, rfl, HV, rfl⟩ := hrel
        have hvb : v < 10000000000 := by rw [HV.out]; exact HT.out i
        by_cases hlt : i < qs.length
        · obtain ⟨g, rfl, hg, hcc⟩ := HCELL.out (by omega)
          have hc0 := (hcc i hlt).1
          have hx := (hcc i hlt).2
          have HN := Lib.hid (valD_take qs i hlt)
          clear hcc
          generalize qs.getD i 0 = x at *
          go_wp2
          go_round
          case rel => exact ⟨i + 1, 10 * v + x, by omega, by go_num, by show _ = _; rw [HN.out, ← HV.out], int_eq (by omega)⟩
          case measure => simp [intOf]; omega
        · have HVV : Hid (v = valD qs) := by
            show v = valD qs
            rw [HV.out, List.take_of_length_le (by omega)]
          by_cases hbig : 1000000000 < (v : Int)
          · go_wp2
            go_ret2
            exact ⟨.inr ⟨fun h => by have := HVV.out; omega, rfl⟩, hb1⟩
          · go_wp2
            go_ret2
            exact ⟨.inl ⟨HTT.out, by rw [← HVV.out]; omega, ret_ib (by rw [← HVV.out]) rfl⟩, hb1⟩
    · obtain ⟨ht, rfl⟩ := h
      go_wp2
      go_ret2
      exact ⟨.inr ⟨fun h => ht h.1, rfl⟩, hb1⟩

theorem H0 (s : ByteArray) (qs : List Nat) (tail : List UInt8) (h1 : ∀ q ∈ qs, q < 10) (h2 : s.data.toList = qs.map fig ++ tail) (hp : 0 < s.size) (hq : 0 < qs.length) : (s[0]'hp).toNat = 48 + qs.getD 0 0 := by
  rw [byte_at s 0 hp _ (by rw [h2]; exact at_fig qs tail 0 hq)]
  refine digit_toNat _ (h1 _ ?_)
  rw [List.getD_eq_getElem?_getD, List.getElem?_eq_getElem hq]
  exact List.getElem_mem hq

/-- One value for both. -/
theorem readDec_both (s : ByteArray) : ∃ (n : Int) (b : Bool),
    (∀ w, Calls Tryd.prog 10 #[.string s] w fun e w' => e = .returned (.tuple #[.int .i64 n, .bool b]) ∧ Below w.heap.size w w') ∧
    (∀ w, Calls Tryd.prog 23 #[.string s] w fun e w' => e = .returned (.tuple #[.int .i64 n, .bool b]) ∧ Below w.heap.size w w') := by
  by_cases hs : 10 < s.size
  · exact ⟨_, _, fun w => specReadDec_long s hs w, fun w => implReadDec_long s hs w⟩
  · have hs' : s.size ≤ 10 := by omega
    obtain ⟨qs, tail, a1, a2, a3⟩ := figured 10 s.data.toList
    have hlen : s.size = qs.length + tail.length := by
      have := congrArg List.length a2
      simpa using this
    -- the given one, where its condition fails
    have hno : ¬ (tail = [] ∧ valD qs ≤ 1000000000 ∧ Lib.decDigits (valD qs) = qs.map fig) →
        ∀ w, Calls Tryd.prog 10 #[.string s] w fun e w' => e = .returned (.tuple #[.int .i64 0, .bool false]) ∧ Below w.heap.size w w' := by
      intro hn w
      refine (specReadDec_any s hs' qs tail a1 a2 a3 w).mono ?_
      rintro e w' ⟨h | h, hb⟩
      · exact absurd ⟨h.1, h.2.1, h.2.2.1⟩ hn
      · exact ⟨h.2, hb⟩
    by_cases h0 : s.size = 0
    · refine ⟨_, _, hno ?_, fun w => implReadDec_empty s h0 w⟩
      intro h
      have hq : qs = [] := List.length_eq_zero_iff.1 (by omega)
      have h2 := h.2.2
      rw [hq] at h2
      have h3 := congrArg List.length h2
      have e : valD [] = 0 := rfl
      rw [e, Lib.decDigits_one (by omega)] at h3
      simp at h3
    · have hp : 0 < s.size := by omega
      by_cases hz : ∃ h : 1 < s.size, (s[0]'(by omega)).toNat = 48
      · obtain ⟨hz1, hz2⟩ := hz
        refine ⟨_, _, hno ?_, fun w => implReadDec_nought s hz1 hs' hz2 w⟩
        intro h
        have hq : 1 < qs.length := by rw [h.1] at hlen; simp at hlen; omega
        have hne : qs ≠ [] := fun e => by rw [e] at hq; simp at hq
        have h5 := H0 s qs tail a1 a2 hp (by omega)
        rcases (dec_iff qs a1 hne).1 h.2.2 with h6 | h6
        · omega
        · rw [h5] at hz2
          omega
      · have hled : Led s := by
          by_cases h1 : s.size = 1
          · exact .inl h1
          · exact .inr ⟨by omega, fun e => hz ⟨by omega, e⟩⟩
        by_cases hc : tail = [] ∧ valD qs ≤ 1000000000
        · have hq : 0 < qs.length := by rw [hc.1] at hlen; simp at hlen; omega
          have hne : qs ≠ [] := fun e => by rw [e] at hq; simp at hq
          have hd : Lib.decDigits (valD qs) = qs.map fig := by
            refine (dec_iff qs a1 hne).2 ?_
            have hql : s.size = qs.length := by rw [hc.1] at hlen; simpa using hlen
            rcases hled with h1 | ⟨h1, h2⟩
            · left; omega
            · right
              rw [H0 s qs tail a1 a2 hp hq] at h2
              omega
          refine ⟨(valD qs : Nat), true, fun w => ?_, fun w => ?_⟩
          · refine (specReadDec_any s hs' qs tail a1 a2 a3 w).mono ?_
            rintro e w' ⟨h | h, hb⟩
            · exact ⟨h.2.2.2, hb⟩
            · exact absurd ⟨hc.1, hc.2, hd⟩ h.1
          · refine (implReadDec_main s hs' hp hled qs tail a1 a2 a3 w).mono ?_
            rintro e w' ⟨h | h, hb⟩
            · exact ⟨h.2.2, hb⟩
            · exact absurd hc h.1
        · refine ⟨0, false, hno (fun h => hc ⟨h.1, h.2.1⟩), fun w => ?_⟩
          refine (implReadDec_main s hs' hp hled qs tail a1 a2 a3 w).mono ?_
          rintro e w' ⟨h | h, hb⟩
          · exact absurd ⟨h.1, h.2.1⟩ hc
          · exact ⟨h.2, hb⟩

end Go.Proofs.YtmgdhlodifkematDoor
namespace Go.Proofs.YtmgdhlodifkematDoor
open Go.RowKit

theorem implReadDec_yes (m : Nat) (hm : m ≤ 1000000000) (s : ByteArray) (he : s.data.toList = Lib.decDigits m) (w : World) :
    Calls Tryd.prog 23 #[.string s] w fun e w' => e = .returned (.tuple #[.int .i64 m, .bool true]) ∧ Below w.heap.size w w' := by
  obtain ⟨qs, h1, h2, h3, h4⟩ := dec_back m m (Nat.le_refl _)
  have hl := dec_length 10 m (by omega) (by omega)
  have hq : 0 < qs.length := List.length_pos_iff.2 h2
  have hsl : s.data.toList.length = s.size := by simp
  have hs : s.size = qs.length := by rw [← hsl, he, h3]; simp
  have hs2 : s.size ≤ 10 := by rw [← hsl, he]; exact hl
  have ha : s.data.toList = qs.map fig ++ [] := by rw [he, h3]; simp
  have hd : qs.length = 1 ∨ qs.getD 0 0 ≠ 0 := (dec_iff qs h1 h2).1 (by rw [h4]; exact h3)
  have hled : Led s := by
    by_cases h6 : qs.length = 1
    · exact .inl (by omega)
    · have hd2 : qs.getD 0 0 ≠ 0 := hd.resolve_left h6
      refine .inr ⟨by omega, ?_⟩
      rw [H0 _ qs [] h1 ha (by omega) hq]
      omega
  refine (implReadDec_main s hs2 (by omega) hled qs [] h1 ha (by simp) w).mono ?_
  rintro e w' ⟨h5 | h5, hb⟩
  · rw [h4] at h5
    exact ⟨h5.2.2, hb⟩
  · exact absurd ⟨rfl, by omega⟩ h5.1
theorem implReadDec_no (s : ByteArray) (h : ∀ m, m ≤ 1000000000 → s.data.toList ≠ Lib.decDigits m) (w : World) :
    Calls Tryd.prog 23 #[.string s] w fun e w' => e = .returned (.tuple #[.int .i64 0, .bool false]) ∧ Below w.heap.size w w' := by
  by_cases hs : 10 < s.size
  · exact implReadDec_long s hs w
  · by_cases h0 : s.size = 0
    · exact implReadDec_empty s h0 w
    · have hp : 0 < s.size := by omega
      by_cases hz : ∃ h : 1 < s.size, (s[0]'(by omega)).toNat = 48
      · obtain ⟨hz1, hz2⟩ := hz
        exact implReadDec_nought s hz1 (by omega) hz2 w
      · obtain ⟨qs, tail, a1, a2, a3⟩ := figured 10 s.data.toList
        have hlen : s.size = qs.length + tail.length := by
          have := congrArg List.length a2
          simpa using this
        have hled : Led s := by
          by_cases h1 : s.size = 1
          · exact .inl h1
          · exact .inr ⟨by omega, fun e => hz ⟨by omega, e⟩⟩
        refine (implReadDec_main s (by omega) hp hled qs tail a1 a2 a3 w).mono ?_
        rintro e w' ⟨h5 | h5, hb⟩
        · exfalso
          have hq : 0 < qs.length := by rw [h5.1] at hlen; simp at hlen; omega
          have hne : qs ≠ [] := fun e => by rw [e] at hq; simp at hq
          have hd : Lib.decDigits (valD qs) = qs.map fig := by
            refine (dec_iff qs a1 hne).2 ?_
            have hql : s.size = qs.length := by rw [h5.1] at hlen; simpa using hlen
            rcases hled with h1 | ⟨h1, h2⟩
            · left; omega
            · right
              rw [H0 s qs tail a1 a2 hp hq] at h2
              omega
          exact h _ h5.2.1 (by rw [a2, h5.1, List.append_nil, hd])
        · exact ⟨h5.2, hb⟩
/-- A text's number, or none. -/
theorem implReadDec_all (p : List UInt8) : ∃ (n : Nat) (b : Bool), n ≤ 1000000000 ∧ (∀ w, Calls Tryd.prog 23 #[.string ⟨p.toArray⟩] w fun e w' => e = .returned (.tuple #[.int .i64 n, .bool b]) ∧ Below w.heap.size w w') ∧
    ((b = true ∧ Lib.decDigits n = p) ∨ (b = false ∧ n = 0 ∧ ∀ m, m ≤ 1000000000 → Lib.decDigits m ≠ p)) := by
  by_cases h : ∃ m, m ≤ 1000000000 ∧ Lib.decDigits m = p
  · obtain ⟨m, hm, hp⟩ := h
    exact ⟨m, true, hm, fun w => implReadDec_yes m hm _ (by rw [hp]) w, .inl ⟨rfl, hp⟩⟩
  · exact ⟨0, false, by omega, fun w => implReadDec_no _ (fun m hm e => h ⟨m, hm, e.symm⟩) w, .inr ⟨rfl, rfl, fun m hm e => h ⟨m, hm, e⟩⟩⟩

end Go.Proofs.YtmgdhlodifkematDoor
namespace Go.Proofs.YtmgdhlodifkematDoor
open Go.RowKit

/-- The table of powers of ten lies as it is laid, and the bound is a number. -/
structure LaidA (w : World) : Prop where
  tab : LaidT w
  max : ∃ m : Int, w.cell? ⟨0, 0, none⟩ = some (.int .i64 m)
theorem LaidA.all : ∀ X Y : World, LaidA X → Below X.heap.size X Y → LaidA Y := fun X Y h hb => ⟨h.tab.stays hb, by
  obtain ⟨m, hm⟩ := h.max
  exact ⟨m, by rw [hb.cell (p := ⟨0, 0, none⟩) (World.block_lt_of_cell? _ _ hm)]; exact hm⟩⟩
theorem max_of {w : World} (h : w.ShapedOpen Tryd.prog) : ∃ m : Int, w.cell? ⟨0, 0, none⟩ = some (.int .i64 m) :=
  Go.Proofs.cell_of_shapedOpen_int (zero := #[.int .i64 0]) (t := 3) h (of_decide_eq_true (by kernel_rfl)) (by kernel_rfl) rfl (by kernel_rfl) (by kernel_rfl) Tryd.underlying3
theorem cells_part (ps : List ByteArray) (N j : Nat) (x : ByteArray) (h : ps[j]? = some x) : (Lib.cellsOf ps N)[j]? = some (.string x) := by
  have hj : j < ps.length := by
    rcases Nat.lt_or_ge j ps.length with h1 | h1
    · exact h1
    · rw [List.getElem?_eq_none h1] at h
      cases h
  unfold Lib.cellsOf
  rw [List.getElem?_toArray, List.getElem?_append_left (by simpa using hj), List.getElem?_map, h]
  rfl

end Go.Proofs.YtmgdhlodifkematDoor
namespace Go.Proofs.YtmgdhlodifkematDoor
open Go.RowKit

theorem texts_ne {a b : ByteArray} (h : ¬ a = b) : (a.toList == b.toList) = false := by
  rw [beq_eq_false_iff_ne]
  intro e
  refine h ?_
  rw [ByteArray.toList_eq, ByteArray.toList_eq] at e
  exact ByteArray.ext (Array.toList_inj.1 e)

set_option maxRecDepth 100000 in
set_option maxHeartbeats 800000 in
theorem indexText_any (xs : List ByteArray) (x : ByteArray) (v : Value) (hl : xs.length ≤ 100000000) (w : World) (h : layStringS.rd w [v] xs) :
    Calls Tryd.prog 67 #[v, .string x] w fun e w' => ((x ∈ xs ∧ ∃ j : Nat, e = .returned (.int .i64 j)) ∨ (x ∉ xs ∧ e = .returned (.int .i64 (-1)))) ∧ w' = w := by
  obtain ⟨ao, cp, rfl⟩ := rows_form h
  have HR := Lib.hid h
  clear h
  go_enter Tryd.func67, Tryd.ntmps67
  go_wp2_with fail
  go_loop [8] (fun c => ∃ j : Nat, j ≤ xs.length ∧ c = .int .i64 j ∧ Hid (∀ i, (hi : i < xs.length) → i < j → xs[i] ≠ x)) (fun c => xs.length - (intOf c).toNat)
  case atStart => exact ⟨0, Nat.zero_le _, rfl, fun i _ h => absurd h (by omega)⟩
  case round =>
    obtain ⟨j, hj, rfl, HA⟩ := hrel
    by_cases hlt : j < xs.length
    · have hlt' : (j : Int) < (xs.length : Int) := by omega
      have HM : Hid (xs[j] = x → x ∈ xs) := Lib.hid (fun h => h ▸ List.getElem_mem hlt)
      have HNX : Hid (xs[j] ≠ x → ∀ i, (hi : i < xs.length) → i < j + 1 → xs[i] ≠ x) := Lib.hid (fun hx i hi h => by
        rcases Nat.lt_or_ge i j with h2 | h2
        · exact HA.out i hi h2
        · have : i = j := by omega
          subst this
          exact hx)
      obtain ⟨g, off, cs, rfl, hg, hr, hc⟩ := rows_elem HR.out j _ (List.getElem?_eq_getElem hlt)
      generalize xs[j] = y at hr HM HNX
      rw [layString_rd] at hr
      subst hr
      have c0 : w.cell? ⟨g, off + j, none⟩ = some (.string y) := (by have h9 := hc 0 _ rfl; rw [str_k] at h9; exact h9)
      clear hc
      by_cases hx : x = y
      · have hq : (x.toList == y.toList) = true := by rw [hx]; simp
        have HE := Lib.hid (HM.out hx.symm)
        clear hx HM HNX
        go_wp2_with fail
        go_ret
        exact ⟨.inl ⟨HE.out, j, rfl⟩, rfl⟩
      · have hq : (x.toList == y.toList) = false := texts_ne hx
        have HJ := Lib.hid (HNX.out (fun e => hx e.symm))
        clear hx HM HNX
        go_wp2_with fail
        go_round
        case rel => exact ⟨j + 1, by omega, by go_num, HJ⟩
        case measure => simp [intOf]; omega
    · have hlt' : ¬ ((j : Int) < (xs.length : Int)) := by omega
      have HE : Hid (x ∉ xs) := Lib.hid (fun hx => by
        obtain ⟨i, hi, e⟩ := List.getElem_of_mem hx
        exact HA.out i hi (by omega) e)
      go_wp2_with fail
      go_ret
      exact ⟨.inr ⟨HE.out, rfl⟩, rfl⟩

theorem containsText_any (xs : List ByteArray) (x : ByteArray) (v : Value) (b : Bool) (hb : b = true ↔ x ∈ xs) (hl : xs.length ≤ 100000000) (w : World) (h : layStringS.rd w [v] xs) :
    Calls Tryd.prog 56 #[v, .string x] w fun e w' => e = .returned (.bool b) ∧ w' = w := by
  have HI := Lib.hid (indexText_any xs x v hl w h)
  clear h
  go_enter Tryd.func56, Tryd.ntmps56
  go_wp2_with fail
  refine HI.out.mono ?_
  rintro e w1 ⟨hE, hw⟩
  have hw' := hw.symm
  subst hw'
  clear hw HI
  rcases hE with ⟨h1, j, rfl⟩ | ⟨h1, rfl⟩
  · obtain rfl : b = true := hb.2 h1
    have hj : (0 : Int) ≤ (j : Int) := by omega
    clear h1 hb
    go_wp2_with fail
    go_ret
    exact ⟨rfl, rfl⟩
  · obtain rfl : b = false := Bool.eq_false_iff.2 fun e => h1 (hb.1 e)
    clear h1 hb
    go_wp2_with fail
    go_ret
    exact ⟨rfl, rfl⟩

end Go.Proofs.YtmgdhlodifkematDoor

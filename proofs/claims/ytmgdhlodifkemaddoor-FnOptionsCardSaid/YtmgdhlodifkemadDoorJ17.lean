/-
  The given ReadDecimal by what it answers at every text.
  The given ReadDecimal by its answer; the given ReadAddr.
  The given AddrOk and AddrText; how many addresses a prefix has.
-/
import Derived.Test.YtmgdhlodifkemadDoorJ02
import Derived.Test.YtmgdhlodifkemadDoorJ05
import Derived.Test.YtmgdhlodifkemadDoorJ16
import Derived.Test.YtmgdhlodifkemadDoorJ12
namespace Go.Proofs.YtmgdhlodifkemadDoor
open Go.RowKit

set_option maxHeartbeats 400000 in
theorem specReadDec_long (s : ByteArray) (h : 10 < s.size) (w : World) :
    Calls Tryd.prog 63 #[.string s] w fun e w' => e = .returned (.tuple #[.int .i64 0, .bool false]) ∧ Below w.heap.size w w' := by
  have h1 : 10 < (s.size : Int) := by omega
  go_enter Tryd.func63, Tryd.ntmps63
  go_wp2
  go_ret2
  exact ⟨rfl, Below.refl _ _⟩

set_option maxRecDepth 100000 in
set_option maxHeartbeats 400000 in
theorem specReadDec_any (s : ByteArray) (hs : s.size ≤ 10) (qs : List Nat) (tail : List UInt8) (h1 : ∀ q ∈ qs, q < 10) (h2 : s.data.toList = qs.map fig ++ tail)
    (h3 : ∀ x r, tail = x :: r → ∀ q, q < 10 → fig q ≠ x) (w : World) :
    Calls Tryd.prog 63 #[.string s] w fun e w' => ((tail = [] ∧ valD qs ≤ 1000000000 ∧ Lib.decDigits (valD qs) = qs.map fig ∧ e = .returned (.tuple #[.int .i64 (valD qs : Nat), .bool true])) ∨
      (¬ (tail = [] ∧ valD qs ≤ 1000000000 ∧ Lib.decDigits (valD qs) = qs.map fig) ∧ e = .returned (.tuple #[.int .i64 0, .bool false]))) ∧ Below w.heap.size w w' := by
  have hlen : s.size = qs.length + tail.length := by
    have := congrArg List.length h2
    simpa using this
  have g1 : ¬ 10 < (s.size : Int) := by omega
  have hql : qs.length ≤ 10 := by omega
  have HT : Hid (∀ i, valD (qs.take i) < 10000000000) := fun i => valD_lt _ (fun q hq => h1 q (List.mem_of_mem_take hq)) (by simp; omega)
  have H1 := Lib.hid h1
  have H2 := Lib.hid h2
  have H3 := Lib.hid h3
  have HL := Lib.hid hlen
  clear h1 h2 h3 hlen
  go_enter Tryd.func63, Tryd.ntmps63
  go_wp2
  go_loop [4, 5] (fun n c => ∃ i v : Nat, i ≤ qs.length ∧ i ≤ s.size ∧ c = .int .i64 i ∧ Hid (v = valD (qs.take i)) ∧ n = .int .i64 v) (fun _ c => s.size - (intOf c).toNat)
  case atStart => exact ⟨0, 0, Nat.zero_le _, Nat.zero_le _, rfl, rfl, rfl⟩
  case round =>
    obtain ⟨i, v, hiq, his, rfl, HV, rfl⟩ := hrel
    have hvb : v < 10000000000 := by rw [HV.out]; exact HT.out i
    by_cases hlt : i < s.size
    · by_cases hin : i < qs.length
      · obtain ⟨q, hq, HQ⟩ : ∃ q : Nat, q < 10 ∧ Hid (q = qs.getD i 0) := ⟨_, H1.out _ (by rw [List.getD_eq_getElem?_getD, List.getElem?_eq_getElem hin]; exact List.getElem_mem hin), rfl⟩
        have hb : s[i].toNat = 48 + q := by
          rw [byte_at s i hlt _ (by rw [H2.out]; exact at_fig qs tail i hin), ← HQ.out]
          exact digit_toNat q hq
        have HB := Lib.hid hb
        have hb1 : 48 ≤ (s[i].toNat : Int) := by omega
        have hb2 : (s[i].toNat : Int) ≤ 57 := by omega
        have gb1 : decide ((s[i].toNat : Int) < 48) = false := decide_eq_false (by omega)
        have gb2 : decide ((57 : Int) < (s[i].toNat : Int)) = false := decide_eq_false (by omega)
        have HN := Lib.hid (valD_take qs i hin)
        clear hb
        go_wp2
        go_round
        case rel => exact ⟨i + 1, 10 * v + q, by omega, by omega, by go_num, by show _ = _; rw [HN.out, ← HV.out, ← HQ.out], int_eq (by have := HB.out; omega)⟩
        case measure => simp [intOf]; omega
      · have hi2 : i = qs.length := by omega
        have HT2 : Hid (tail ≠ []) := by
          intro ht
          have hk := HL.out
          rw [ht] at hk
          simp at hk
          omega
        have hx : s[i].toNat < 48 ∨ 57 < s[i].toNat := by
          cases ht : tail with
          | nil => exact absurd ht HT2.out
          | cons x r =>
            rw [byte_at s i hlt x (by rw [H2.out, ht, hi2]; exact at_tail qs x r)]
            exact no_digit x (H3.out x r ht)
        clear hi2
        by_cases hx1 : s[i].toNat < 48
        · have gb1 : decide ((s[i].toNat : Int) < 48) = true := decide_eq_true (by omega)
          clear hx hx1
          go_wp2
          go_ret2
          exact ⟨.inr ⟨by first | exact (fun h => absurd h.1 HT2.out) | exact (fun h => absurd h HT2.out), rfl⟩, Below.refl _ _⟩
        · have gb1 : decide ((s[i].toNat : Int) < 48) = false := decide_eq_false (by omega)
          have gb2 : decide ((57 : Int) < (s[i].toNat : Int)) = true := decide_eq_true (by omega)
          clear hx hx1
          go_wp2
          go_ret2
          exact ⟨.inr ⟨by first | exact (fun h => absurd h.1 HT2.out) | exact (fun h => absurd h HT2.out), rfl⟩, Below.refl _ _⟩
    · have hk := HL.out
      have HE : Hid (tail = []) := List.length_eq_zero_iff.1 (by omega)
      have HVV : Hid (v = valD qs) := by
        show v = valD qs
        rw [HV.out, List.take_of_length_le (by omega)]
      have HSL : Hid (s.toList = qs.map fig) := by
        show s.toList = _
        rw [ByteArray.toList_eq, H2.out, HE.out, List.append_nil]
      clear hk
      by_cases hbig : 1000000000 < (v : Int)
      · have gb : decide (1000000000 < (v : Int)) = true := decide_eq_true hbig
        go_wp2
        go_ret2
        exact ⟨.inr ⟨fun h => by have := HVV.out; omega, rfl⟩, Below.refl _ _⟩
      · have gb : decide (1000000000 < (v : Int)) = false := decide_eq_false hbig
        have HC := Lib.hid (fun w => specDecimal_any (v : Int) (by omega) (by omega) w)
        rw [Lib.itoa_nonneg] at HC
        by_cases heq : Lib.decDigits v = s.toList
        · have gq : (Lib.decDigits v == s.toList) = true := by rw [beq_iff_eq]; exact heq
          have HQ := Lib.hid heq
          clear heq
          go_wp2_with fail
          refine (HC.out _).mono ?_
          rintro e w1 ⟨rfl, hb1⟩
          go_wp2
          go_ret2
          exact ⟨.inl ⟨HE.out, by rw [← HVV.out]; omega, by rw [← HVV.out, HQ.out, HSL.out], ret_ib (by rw [← HVV.out]) rfl⟩, hb1⟩
        · have gq : (Lib.decDigits v == s.toList) = false := by rw [beq_eq_false_iff_ne]; exact heq
          have HQ := Lib.hid heq
          clear heq
          go_wp2_with fail
          refine (HC.out _).mono ?_
          rintro e w1 ⟨rfl, hb1⟩
          go_wp2
          go_ret2
          refine ⟨.inr ⟨fun h => ?_, rfl⟩, hb1⟩
          rw [← HVV.out, ← HSL.out] at h
          exact HQ.out h.2.2

end Go.Proofs.YtmgdhlodifkemadDoor
namespace Go.Proofs.YtmgdhlodifkemadDoor
open Go.RowKit

theorem specReadDec_yes (m : Nat) (hm : m ≤ 1000000000) (s : ByteArray) (h : s.data.toList = Lib.decDigits m) (w : World) :
    Calls Tryd.prog 63 #[.string s] w fun e w' => e = .returned (.tuple #[.int .i64 m, .bool true]) ∧ Below w.heap.size w w' := by
  obtain ⟨qs, h1, h2, h3, h4⟩ := dec_back m m (Nat.le_refl _)
  have hl := dec_length 10 m (by omega) (by omega)
  have hs : s.size ≤ 10 := by
    have e : s.data.toList.length = s.size := by simp
    rw [← e, h]
    exact hl
  refine (specReadDec_any s hs qs [] h1 (by rw [h, h3]; simp) (by simp) w).mono ?_
  rintro e w' ⟨h5 | h5, hb⟩
  · rw [h4] at h5
    exact ⟨h5.2.2.2, hb⟩
  · rw [h4] at h5
    exact absurd ⟨rfl, hm, h3⟩ h5.1
theorem specReadDec_no (s : ByteArray) (h : ∀ m, m ≤ 1000000000 → s.data.toList ≠ Lib.decDigits m) (w : World) :
    Calls Tryd.prog 63 #[.string s] w fun e w' => e = .returned (.tuple #[.int .i64 0, .bool false]) ∧ Below w.heap.size w w' := by
  by_cases hs : 10 < s.size
  · exact specReadDec_long s hs w
  · obtain ⟨qs, tail, a1, a2, a3⟩ := figured 10 s.data.toList
    refine (specReadDec_any s (by omega) qs tail a1 a2 a3 w).mono ?_
    rintro e w' ⟨h5 | h5, hb⟩
    · exact absurd (by rw [a2, h5.1, List.append_nil, h5.2.2.1]) (h _ h5.2.1)
    · exact ⟨h5.2, hb⟩
/-- One part of an address: a number of one byte, or none. -/
theorem specReadDec_part (p : List UInt8) : ∃ (n : Nat) (b : Bool), n ≤ 1000000000 ∧ (∀ w, Calls Tryd.prog 63 #[.string ⟨p.toArray⟩] w fun e w' => e = .returned (.tuple #[.int .i64 n, .bool b]) ∧ Below w.heap.size w w') ∧
    ((b = true ∧ n < 256 ∧ Lib.decDigits n = p) ∨ ((b = true ∧ 255 < n ∨ b = false) ∧ ∀ m, m < 256 → Lib.decDigits m ≠ p)) := by
  by_cases h : ∃ m, m ≤ 1000000000 ∧ Lib.decDigits m = p
  · obtain ⟨m, hm, hp⟩ := h
    refine ⟨m, true, hm, fun w => specReadDec_yes m hm _ (by rw [hp]) w, ?_⟩
    by_cases h2 : m < 256
    · exact .inl ⟨rfl, h2, hp⟩
    · refine .inr ⟨.inl ⟨rfl, by omega⟩, fun k hk e => ?_⟩
      have := dec_inj k m (e.trans hp.symm)
      omega
  · exact ⟨0, false, by omega, fun w => specReadDec_no _ (fun m hm e => h ⟨m, hm, e.symm⟩) w, .inr ⟨.inr rfl, fun m hm e => h ⟨m, by omega, e⟩⟩⟩

/-- What numbers read so far make. -/
def byteVal (ns : List Nat) : Nat := ns.foldl (fun o n => 256 * o + n) 0
theorem byteVal_snoc (ns : List Nat) (n : Nat) : byteVal (ns ++ [n]) = 256 * byteVal ns + n := by simp [byteVal]
theorem byteVal_next (v n k : Nat) (hv : v < 256 ^ k) (hn : n < 256) : 256 * v + n < 256 ^ (k + 1) := by
  rw [Nat.pow_succ]
  omega
theorem four_of (ns : List Nat) (h : ns.length = 4) : ∃ a b c d, ns = [a, b, c, d] := by
  match ns, h with
  | [a, b, c, d], _ => exact ⟨a, b, c, d, rfl⟩
/-- A part that is no number of one byte: the text is no address. -/
theorem no_addr (l : List UInt8) (ps : List (List UInt8)) (hc : cutAt 46 [] l = ps) (i : Nat) (hi : i < 4) (h : ∀ m, m < 256 → Lib.decDigits m ≠ ps.getD i []) (a : Nat) (ha : a ≤ 4294967295) : l ≠ addrL a := by
  intro e
  rw [e, cut_addr] at hc
  subst hc
  match i, hi with
  | 0, _ => exact h _ (by omega) rfl
  | 1, _ => exact h _ (by omega) rfl
  | 2, _ => exact h _ (by omega) rfl
  | 3, _ => exact h _ (by omega) rfl
theorem no_addr_count (l : List UInt8) (h : (cutAt 46 [] l).length ≠ 4) (a : Nat) : l ≠ addrL a := by
  intro e
  rw [e, cut_addr] at h
  exact h rfl
theorem yes_addr (l : List UInt8) (ns : List Nat) (h4 : ns.length = 4) (hn : ∀ n ∈ ns, n < 256) (hm : ns.map Lib.decDigits = cutAt 46 [] l) : l = addrL (byteVal ns) ∧ byteVal ns ≤ 4294967295 := by
  obtain ⟨a, b, c, d, rfl⟩ := four_of ns h4
  obtain ⟨x, hx, hl, he⟩ := addr_parts l _ _ _ _ hm.symm a b c d (hn a (by simp)) (hn b (by simp)) (hn c (by simp)) (hn d (by simp)) rfl rfl rfl rfl
  have e : byteVal [a, b, c, d] = x := by
    rw [he]
    simp [byteVal]
  rw [e]
  exact ⟨hl, hx⟩
/-- How reading an address ends. -/
def AddrEnd (s : ByteArray) (e : Ending) : Prop :=
  (∃ a, a ≤ 4294967295 ∧ s.data.toList = addrL a ∧ e = .returned (.tuple #[.int .i64 (a : Nat), .bool true])) ∨ ((∀ a, a ≤ 4294967295 → s.data.toList ≠ addrL a) ∧ e = .returned (.tuple #[.int .i64 0, .bool false]))

end Go.Proofs.YtmgdhlodifkemadDoor
namespace Go.Proofs.YtmgdhlodifkemadDoor
open Go.RowKit

theorem specDecimal_nat (n : Nat) (h : n ≤ 1000000000) (w : World) :
    Calls Tryd.prog 93 #[.int .i64 n] w fun e w' => e = .returned (.string ⟨(Lib.decDigits n).toArray⟩) ∧ Below w.heap.size w w' := by
  have := specDecimal_any (n : Int) (by omega) (by omega) w
  rw [Lib.itoa_nonneg] at this
  exact this

theorem dec_few (n : Nat) (h : n < 1000) : (⟨(Lib.decDigits n).toArray⟩ : ByteArray).size ≤ 3 := by
  show (Lib.decDigits n).toArray.size ≤ 3
  rw [List.size_toArray]
  exact dec_length 3 n (by omega) (by omega)
theorem addr_texts (a : Nat) : addrP a = (⟨(Lib.decDigits (a / 16777216)).toArray⟩ : ByteArray) ++ ⟨#[46]⟩ ++ ⟨(Lib.decDigits (a / 65536 % 256)).toArray⟩ ++ ⟨#[46]⟩ ++ ⟨(Lib.decDigits (a / 256 % 256)).toArray⟩ ++ ⟨#[46]⟩ ++ ⟨(Lib.decDigits (a % 256)).toArray⟩ := by
  unfold addrP addrL
  rw [joinAt_four]
  apply ByteArray.ext
  apply Array.ext'
  simp

end Go.Proofs.YtmgdhlodifkemadDoor

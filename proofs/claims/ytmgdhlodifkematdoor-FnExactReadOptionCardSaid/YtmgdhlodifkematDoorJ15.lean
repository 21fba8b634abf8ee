/-
  Options as functions, with where they hold what they set; a row of them that grows.
  The given ReadDecimal by what it answers at every text.
  The program's helper that tells what each figure is worth, at every text of at most 1048576 bytes and every base up to 16.
-/
import Derived.Test.YtmgdhlodifkematDoorJ14
import Derived.Test.YtmgdhlodifkematDoorJ02
import Derived.Test.YtmgdhlodifkematDoorJ09
import Derived.Test.YtmgdhlodifkematDoorRows
import Derived.Test.YtmgdhlodifkematDoorJ01
import Derived.BigQuiet
import Derived.Deep.QuietTactic
import Derived.Deep.LoopGhost
import Derived.Deep.DeepCutAuto
namespace Go.Proofs.YtmgdhlodifkematDoor
open Go.RowKit

/-- What a function sets, in memory of its own. -/
def CloV (X : World) (c : Value) : Sets → Prop
  | .size n => ∃ q, c = cloV 40 q ∧ VarA q 3 #[.int .i64 n] X
  | .ways ws => ∃ q v b f, c = cloV 41 q ∧ VarA q 22 #[v] X ∧ layStringS.own X b f [v] ws
  | .pieces b => ∃ q, c = cloV 43 q ∧ VarA q 4 #[.bool b] X
theorem CloV.clo {X : World} {c : Value} {st : Sets} (h : CloV X c st) : Clo X c st := by
  cases st with
  | size n =>
    obtain ⟨q, rfl, hq⟩ := h
    exact ⟨q, rfl, hq.cell 0⟩
  | ways ws =>
    obtain ⟨q, v, b, f, rfl, hq, hr⟩ := h
    exact ⟨q, v, rfl, hq.cell 0, layStringS.read hr⟩
  | pieces b =>
    obtain ⟨q, rfl, hq⟩ := h
    exact ⟨q, rfl, hq.cell 0⟩
theorem CloV.below {X Y : World} {c : Value} {st : Sets} (h : CloV X c st) (hb : Below X.heap.size X Y) : CloV Y c st := by
  cases st with
  | size n =>
    obtain ⟨q, rfl, hq⟩ := h
    exact ⟨q, rfl, hq.next hb⟩
  | ways ws =>
    obtain ⟨q, v, b, f, rfl, hq, hr⟩ := h
    exact ⟨q, v, b, f, rfl, hq.next hb, layStringS.next hr hb⟩
  | pieces b =>
    obtain ⟨q, rfl, hq⟩ := h
    exact ⟨q, rfl, hq.next hb⟩
theorem VarA.chg {r : Nat} {t : TypeId} {cs : Array Value} {X Y : World} {fp : List Nat} (h : VarA r t cs X) (hc : Chg fp X Y) (hr : r ∉ fp) : VarA r t cs Y := ⟨(hc.block r h.lt hr).trans h.row⟩
/-- The row of functions grows: what they hold stays. -/
theorem CloV.chg {X Y : World} {c : Value} {st : Sets} {b : Nat} {f : List Nat} {v : Value} {vs : List Value} (h : CloV X c st) (ho : layRawS.own X b f [v] vs) (hc : Chg f X Y) : CloV Y c st := by
  cases st with
  | size n =>
    obtain ⟨q, rfl, hq⟩ := h
    exact ⟨q, rfl, hq.chg hc (row_off flatRaw ho hq (by decide))⟩
  | ways ws =>
    obtain ⟨q, u, b2, f2, rfl, hq, hr⟩ := h
    exact ⟨q, u, b2, f2, rfl, hq.chg hc (row_off flatRaw ho hq (by decide)), layStringS.keep hr (fun g hg => hc.block g (layStringS.blocks hr g hg).2 (rows_off flatString flatRaw hr ho (by decide) g hg))⟩
  | pieces b2 =>
    obtain ⟨q, rfl, hq⟩ := h
    exact ⟨q, rfl, hq.chg hc (row_off flatRaw ho hq (by decide))⟩
theorem CloV.one {X : World} {c : Value} {st : Sets} (h : CloV X c st) : c.oneCell' = true := h.clo.one
/-- A function that sets this is handed back. -/
def SetEndV (st : Sets) (X : World) (e : Ending) (Y : World) : Prop := ∃ c, e = .returned c ∧ CloV Y c st ∧ Below X.heap.size X Y

theorem withSize_own (n : Int) (w : World) : Calls Tryd.prog 24 #[.int .i64 n] w (SetEndV (.size n) w) := by
  have A0 := Lib.hid (VarA.new w 3 #[.int .i64 n])
  have B0 := Lib.hid ((Below.refl w.heap.size w).alloc (Nat.le_refl _) (.cells #[.int .i64 n] 3))
  go_enter Tryd.func24, Tryd.ntmps24
  go_wp2_with fail
  go_ret
  exact ⟨_, rfl, ⟨_, rfl, A0.out⟩, B0.out⟩
theorem withPieces_own (b : Bool) (w : World) : Calls Tryd.prog 26 #[.bool b] w (SetEndV (.pieces b) w) := by
  have A0 := Lib.hid (VarA.new w 4 #[.bool b])
  have B0 := Lib.hid ((Below.refl w.heap.size w).alloc (Nat.le_refl _) (.cells #[.bool b] 4))
  go_enter Tryd.func26, Tryd.ntmps26
  go_wp2_with fail
  go_ret
  exact ⟨_, rfl, ⟨_, rfl, A0.out⟩, B0.out⟩
theorem withWays_own (v : Value) (ws : List ByteArray) (b : Nat) (f : List Nat) (w : World) (h : layStringS.own w b f [v] ws) : Calls Tryd.prog 25 #[v] w (SetEndV (.ways ws) w) := by
  obtain ⟨a, k, rfl⟩ := rows_form (layStringS.read h)
  have A0 := Lib.hid (VarA.new w 22 #[.slice a ws.length k])
  have B0 := Lib.hid ((Below.refl w.heap.size w).alloc (Nat.le_refl _) (.cells #[.slice a ws.length k] 22))
  have HR := Lib.hid (layStringS.next h B0.out)
  clear h
  go_enter Tryd.func25, Tryd.ntmps25
  go_wp2_with fail
  go_ret
  exact ⟨_, rfl, ⟨_, _, _, _, rfl, A0.out, HR.out⟩, B0.out⟩

end Go.Proofs.YtmgdhlodifkematDoor
namespace Go.Proofs.YtmgdhlodifkematDoor
open Go.RowKit

set_option maxHeartbeats 400000 in
theorem specReadDec_long (s : ByteArray) (h : 10 < s.size) (w : World) :
    Calls Tryd.prog 10 #[.string s] w fun e w' => e = .returned (.tuple #[.int .i64 0, .bool false]) ∧ Below w.heap.size w w' := by
  have h1 : 10 < (s.size : Int) := by omega
  go_enter Tryd.func10, Tryd.ntmps10
  go_wp2
  go_ret2
  exact ⟨rfl, Below.refl _ _⟩

set_option maxRecDepth 100000 in
set_option maxHeartbeats 400000 in
theorem specReadDec_any (s : ByteArray) (hs : s.size ≤ 10) (qs : List Nat) (tail : List UInt8) (h1 : ∀ q ∈ qs, q < 10) (h2 : s.data.toList = qs.map fig ++ tail)
    (h3 : ∀ x r, tail = x :: r → ∀ q, q < 10 → fig q ≠ x) (w : World) :
    Calls Tryd.prog 10 #[.string s] w fun e w' => ((tail = [] ∧ valD qs ≤ 1000000000 ∧ Lib.decDigits (valD qs) = qs.map fig ∧ e = .returned (.tuple #[.int .i64 (valD qs : Nat), .bool true])) ∨
      (¬ (tail = [] ∧ valD qs ≤ 1000000000 ∧ Lib.decDigits (valD qs) = qs.map fig) ∧ e = .returned (.tuple #[.int .i64 0, .bool false]))) ∧ Below w.heap.size w w' := by
  have hlen : s.size = qs.length + tail.length := by
    have := congrArg List.length h2
    simpa using this
  have g1 : ¬ 10 < (s.size : Int) := by omega
  have hql : qs.length ≤ 10 := by omega
  have HT : Hid (∀ i, valD (qs.take i) < 10000000000) := fun i => valD_lt _ (fun q hq => h1 q (List.mem_of_mem_take hq)) (by simp; omega)
  have H1 := Lib.hid h1
  have H2 := Lib.hid h2
  have H3 := Lib.hid h3
  have HL := Lib.hid hlen
  clear h1 h2 h3 hlen
  go_enter Tryd.func10, Tryd.ntmps10
  go_wp2
  go_loop [4, 5] (fun n c => ∃ i v : Nat, i ≤ qs.length ∧ i ≤ s.size ∧ c = .int .i64 i ∧ Hid (v = valD (qs.take i)) ∧ n = .int .i64 v) (fun _ c => s.size - (intOf c).toNat)
  case atStart => exact ⟨0, 0, Nat.zero_le _, Nat.zero_le _, rfl, rfl, rfl⟩
  case round =>
    obtain ⟨i, v, hiq, his, rfl, HV, rfl⟩ := hrel
    have hvb : v < 10000000000 := by rw [HV.out]; exact HT.out i
    by_cases hlt : i < s.size
    · by_cases hin : i < qs.length
      · obtain ⟨q, hq, HQ⟩ : ∃ q : Nat, q < 10 ∧ Hid (q = qs.getD i 0) := ⟨_, H1.out _ (by rw [List.getD_eq_getElem?_getD, List.getElem?_eq_getElem hin]; exact List.getElem_mem hin), rfl⟩
        have hb : s[i].toNat = 48 + q := by
          rw [byte_at s i hlt _ (by rw [H2.out]; exact at_fig qs tail i hin), ← HQ.out]
          exact digit_toNat q hq
        have HB := Lib.hid hb
        have hb1 : 48 ≤ (s[i].toNat : Int) := by omega
        have hb2 : (s[i].toNat : Int) ≤ 57 := by omega
        have gb1 : decide ((s[i].toNat : Int) < 48) = false := decide_eq_false (by omega)
        have gb2 : decide ((57 : Int) < (s[i].toNat : Int)) = false := decide_eq_false (by omega)
        have HN := Lib.hid (valD_take qs i hin)
        clear hb
        go_wp2
        go_round
        case rel => exact ⟨i + 1, 10 * v + q, by omega, by omega, by go_num, by show _ = _; rw [HN.out, ← HV.out, ← HQ.out], int_eq (by have := HB.out; omega)⟩
        case measure => simp [intOf]; omega
      · have hi2 : i = qs.length := by omega
        have HT2 : Hid (tail ≠ []) := by
          intro ht
          have hk := HL.out
          rw [ht] at hk
          simp at hk
          omega
        have hx : s[i].toNat < 48 ∨ 57 < s[i].toNat := by
          cases ht : tail with
          | nil => exact absurd ht HT2.out
          | cons x r =>
            rw [byte_at s i hlt x (by rw [H2.out, ht, hi2]; exact at_tail qs x r)]
            exact no_digit x (H3.out x r ht)
        clear hi2
        by_cases hx1 : s[i].toNat < 48
        · have gb1 : decide ((s[i].toNat : Int) < 48) = true := decide_eq_true (by omega)
          clear hx hx1
          go_wp2
          go_ret2
          exact ⟨.inr ⟨by first | exact (fun h => absurd h.1 HT2.out) | exact (fun h => absurd h HT2.out), rfl⟩, Below.refl _ _⟩
        · have gb1 : decide ((s[i].toNat : Int) < 48) = false := decide_eq_false (by omega)
          have gb2 : decide ((57 : Int) < (s[i].toNat : Int)) = true := decide_eq_true (by omega)
          clear hx hx1
          go_wp2
          go_ret2
          exact ⟨.inr ⟨by first | exact (fun h => absurd h.1 HT2.out) | exact (fun h => absurd h HT2.out), rfl⟩, Below.refl _ _⟩
    · have hk := HL.out
      have HE : Hid (tail = []) := List.length_eq_zero_iff.1 (by omega)
      have HVV : Hid (v = valD qs) := by
        show v = valD qs
        rw [HV.out, List.take_of_length_le (by omega)]
      have HSL : Hid (s.toList = qs.map fig) := by
        show s.toList = _
        rw [ByteArray.toList_eq, H2.out, HE.out, List.append_nil]
      clear hk
      by_cases hbig : 1000000000 < (v : Int)
      · have gb : decide (1000000000 < (v : Int)) = true := decide_eq_true hbig
        go_wp2
        go_ret2
        exact ⟨.inr ⟨fun h => by have := HVV.out; omega, rfl⟩, Below.refl _ _⟩
      · have gb : decide (1000000000 < (v : Int)) = false := decide_eq_false hbig
        have HC := Lib.hid (fun w => specDecimal_any (v : Int) (by omega) (by omega) w)
        rw [Lib.itoa_nonneg] at HC
        by_cases heq : Lib.decDigits v = s.toList
        · have gq : (Lib.decDigits v == s.toList) = true := by rw [beq_iff_eq]; exact heq
          have HQ := Lib.hid heq
          clear heq
          go_wp2_with fail
          refine (HC.out _).mono ?_
          rintro e w1 ⟨rfl, hb1⟩
          go_wp2
          go_ret2
          exact ⟨.inl ⟨HE.out, by rw [← HVV.out]; omega, by rw [← HVV.out, HQ.out, HSL.out], ret_ib (by rw [← HVV.out]) rfl⟩, hb1⟩
        · have gq : (Lib.decDigits v == s.toList) = false := by rw [beq_eq_false_iff_ne]; exact heq
          have HQ := Lib.hid heq
          clear heq
          go_wp2_with fail
          refine (HC.out _).mono ?_
          rintro e w1 ⟨rfl, hb1⟩
          go_wp2
          go_ret2
          refine ⟨.inr ⟨fun h => ?_, rfl⟩, hb1⟩
          rw [← HVV.out, ← HSL.out] at h
          exact HQ.out h.2.2

end Go.Proofs.YtmgdhlodifkematDoor
namespace Go.Proofs.YtmgdhlodifkematDoor
open Go.RowKit

theorem infoByteW : (Tryd.prog.info? 5).map (fun i => (i.zero, i.size, i.bytes)) = some (some (.int .u8 0), 1, 1) := by kernel_rfl

set_option maxRecDepth 100000 in
set_option maxHeartbeats 800000 in
theorem worthsOf_any (s : ByteArray) (hs : s.size ≤ 1048576) (base : Nat) (hb : base ≤ 16) (qs : List Nat) (tail : List UInt8) (h1 : ∀ q ∈ qs, q < base) (h2 : s.data.toList = qs.map fig ++ tail)
    (h3 : ∀ x r, tail = x :: r → ∀ q, q < base → fig q ≠ x) (w : World) :
    Calls Tryd.prog 39 #[.string s, .int .i64 base] w fun e w' => ((tail = [] ∧ ∃ v, e = .returned (.tuple #[v, .bool true]) ∧ OwnB w' w.heap.size 5 v (bytesOf qs)) ∨
      (tail ≠ [] ∧ e = .returned (.tuple #[.slice none 0 0, .bool false]))) ∧ Below w.heap.size w w' := by
  obtain ⟨i0, hi, hz0, hz1, hz2⟩ := info_parts infoByteW
  have hlen : s.size = qs.length + tail.length := by
    have := congrArg List.length h2
    simpa using this
  have H1 := Lib.hid h1
  have H2 := Lib.hid h2
  have H3 := Lib.hid h3
  have HL := Lib.hid hlen
  clear h1 h2 h3 hlen
  go_enter Tryd.func39, Tryd.ntmps39
  go_wp2
  go_step3
  go_wp2_with (at_make; refine wpList_makeB _ rfl _ _ 53 rfl w.heap.size 5 i0 Tryd.underlying53 hi hz0 hz1 hz2 _ s.size rfl rfl rfl (by omega) (Nat.le_refl _) ?_)
  intro v0 w0 hown0 hnx0
  go_wp2
  go_step3
  go_wp2
  go_loopg [6, 14] s.size (fun g v c wr => ∃ k : Nat, k + g = s.size ∧ k ≤ qs.length ∧ c = .int .i64 k ∧ OwnB wr w.heap.size 5 v (bytesOf (qs.take k)) ∧ Below w.heap.size w wr)
  case atStart => exact ⟨0, by omega, by omega, rfl, hown0, hnx0⟩
  case round =>
    clear hown0 hnx0
    obtain ⟨k, hkg, hkq, rfl, hown, hnx⟩ := hrel
    have hsz := hnx.size
    cases gk with
    | zero =>
      have hkz : ¬ ((k : Int) < (s.size : Int)) := by omega
      go_wp2
      go_ret2
      have hk := HL.out
      have ht : tail = [] := List.length_eq_zero_iff.1 (by omega)
      refine ⟨.inl ⟨ht, _, rfl, ?_⟩, hnx⟩
      rw [List.take_of_length_le (by omega)] at hown
      exact hown
    | succ g =>
      have hkz : (k : Int) < (s.size : Int) := by omega
      go_wp2
      go_loopg [6, 18] base (fun g2 v c wy => ∃ j : Nat, j + g2 = base ∧ (k < qs.length → j ≤ qs.getD k 0) ∧ c = .int .i64 j ∧ OwnB wy w.heap.size 5 v (bytesOf (qs.take k)) ∧ Below w.heap.size w wy)
      case atStart => exact ⟨0, by omega, fun _ => Nat.zero_le _, rfl, hown, hnx⟩
      case round =>
        clear hown hnx hsz
        obtain ⟨j, hjg, hjq, rfl, hown, hnx⟩ := hrel
        have hsz := hnx.size
        cases gk with
        | zero =>
          have hjz : ¬ ((j : Int) < (base : Int)) := by omega
          have HJQ := Lib.hid hjq
          clear hjq
          go_wp2
          go_ret2
          refine ⟨.inr ⟨fun ht => ?_, rfl⟩, hnx⟩
          have hk := HL.out
          rw [ht] at hk
          have hkl : k < qs.length := by simp at hk; omega
          have h4 := HJQ.out hkl
          have h5 := H1.out (qs.getD k 0) (by rw [List.getD_eq_getElem?_getD, List.getElem?_eq_getElem hkl]; exact List.getElem_mem hkl)
          omega
        | succ g2 =>
          have hjz : (j : Int) < (base : Int) := by omega
          have HJQ := Lib.hid hjq
          clear hjq
          have hj16 : (j : Int) < 16 := by omega
          have hkl : k < s.size := by omega
          go_upto_region 8 with fail
          go_cut [26] (fun t wx => ∃ b : Bool, Hid (b = decide (s[k] = fig j)) ∧ t = .bool b ∧ OwnB wx w.heap.size 5 u6 (bytesOf (qs.take k)) ∧ Below w.heap.size w wx)
          case first =>
            go_quiet (fail)
            go_wp2_with fail
            go_meet
            refine ⟨_, ?_, rfl, OwnB.drewN hown _, below_drewN hnx _⟩
            show _ = _
            rw [figs_int j hj16]
            exact eq_dec _ _
          case rest =>
            clear hown hnx hsz
            obtain ⟨b, HD, rfl, hown, hnx⟩ := hcut
            have hsz := hnx.size
            have hlen : (bytesOf (qs.take k)).length ≤ 1048576 := by rw [bytesOf_length, List.length_take]; omega
            by_cases hit : s[k] = fig j
            · obtain rfl : b = true := by rw [HD.out, decide_eq_true hit]
              have hkq2 : k < qs.length ∧ j = qs.getD k 0 := by
                by_cases hkl2 : k < qs.length
                · refine ⟨hkl2, ?_⟩
                  have e := byte_at s k hkl _ (by rw [H2.out]; exact at_fig qs tail k hkl2)
                  rw [e] at hit
                  have h5 := H1.out (qs.getD k 0) (by rw [List.getD_eq_getElem?_getD, List.getElem?_eq_getElem hkl2]; exact List.getElem_mem hkl2)
                  exact (fig_inj _ _ (by omega) (by omega) hit).symm
                · exfalso
                  have hk2 := HL.out
                  have hkq3 : k = qs.length := by omega
                  cases ht : tail with
                  | nil => rw [ht] at hk2; simp at hk2; omega
                  | cons x r =>
                    have e := byte_at s k hkl x (by rw [H2.out, ht, hkq3]; exact at_tail qs x r)
                    exact H3.out x r ht j (by omega) (by rw [← e, hit])
              have HK := Lib.hid hkq2
              have HI := Lib.hid hit
              clear hit hkq2
              go_wp2_with (at_builtin; refine wpList_push _ rfl _ _ 53 rfl w.heap.size 5 i0 Tryd.underlying53 hi hz0 hz1 hz2 _ _ rfl hown (UInt8.ofNat j) _ rfl (ofNat_int j (by omega)) (by omega) hsz ?_)
              intro v' w1 hown1 hnx1
              go_wp2
              go_roundg g
              case measure => omega
              case rel => exact ⟨k + 1, by omega, by have := HK.out; omega, by go_num, by rw [bytesOf_snoc qs k HK.out.1, ← HK.out.2]; exact hown1, hnx.trans hnx1⟩
            · obtain rfl : b = false := by rw [HD.out, decide_eq_false hit]
              have HS : Hid (k < qs.length → j + 1 ≤ qs.getD k 0) := by
                intro hkl2
                have h4 := HJQ.out hkl2
                have e := byte_at s k hkl _ (by rw [H2.out]; exact at_fig qs tail k hkl2)
                rw [e] at hit
                have : j ≠ qs.getD k 0 := fun e2 => hit (by rw [e2])
                omega
              clear hit
              go_wp2
              go_roundg g2
              case measure => omega
              case rel => exact ⟨j + 1, by omega, HS.out, by go_num, hown, hnx⟩

/-- The value of the worths, and its cells. -/
theorem worths_form {w : World} {base : Nat} {v : Value} {qs : List Nat} (hq : ∀ q ∈ qs, q < 16) (h : OwnB w base 5 v (bytesOf qs)) : ∃ ao cap, v = .slice ao qs.length cap ∧
    (0 < qs.length → ∃ g, ao = some ⟨g, 0, none⟩ ∧ g < w.heap.size ∧ ∀ j, j < qs.length → w.cell? ⟨g, j, none⟩ = some (.int .u8 ((qs.getD j 0 : Nat) : Int)) ∧ qs.getD j 0 < 16) := by
  obtain ⟨ao, cap, hv, hc⟩ := h.form
  rw [bytesOf_length] at hv hc
  refine ⟨ao, cap, hv, fun hp => ?_⟩
  obtain ⟨g, h1, h2, h3⟩ := hc hp
  refine ⟨g, h1, h2, fun j hj => ?_⟩
  have hm : qs.getD j 0 < 16 := by
    rw [List.getD_eq_getElem?_getD, List.getElem?_eq_getElem hj]
    exact hq _ (List.getElem_mem hj)
  refine ⟨?_, hm⟩
  rw [h3 j hj]
  have e : (bytesOf qs).getD j 0 = UInt8.ofNat (qs.getD j 0) := by simp [bytesOf, hj]
  rw [e, ← ofNat_int _ (by omega)]

end Go.Proofs.YtmgdhlodifkematDoor

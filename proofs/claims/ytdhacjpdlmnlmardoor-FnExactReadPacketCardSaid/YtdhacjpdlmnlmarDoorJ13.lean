/-
  The given reader of packets: one byte, one number.
  The given l05Byte: one byte as a text.
-/
import Derived.Test.YtdhacjpdlmnlmarDoorJ06
import Derived.Test.YtdhacjpdlmnlmarDoorJ04
import Derived.Test.YtdhacjpdlmnlmarDoorJ12
import Derived.Deep.RegionHeld3
import Derived.BigQuiet
import Derived.Deep.QuietTactic
import Derived.Deep.DeepCutAuto
import Derived.Test.YtdhacjpdlmnlmarDoorJ01
import Derived.Test.YtdhacjpdlmnlmarDoorRows
namespace Go.Proofs.YtdhacjpdlmnlmarDoor
open Go.RowKit

/-- ReadVar in plain words: the number that the bytes from a on begin with, and the place behind it. -/
theorem specReadVar_read (s : ByteArray) (hs : s.size ≤ 1048576) (a : Nat) (ha : a ≤ s.size) (w : World) :
    Calls Tryd.prog 22 #[.string s, .int .i64 a] w fun e w' => ((∃ n q : Nat, readV (s.data.toList.drop a) = some (n, s.data.toList.drop q) ∧ a ≤ q ∧ q ≤ s.size ∧ n ≤ 1000000000 ∧ e = .returned (.tuple #[.int .i64 (n : Nat), .int .i64 (q : Nat), .bool true])) ∨ (readV (s.data.toList.drop a) = none ∧ e = .returned (.tuple #[.int .i64 0, .int .i64 0, .bool false]))) ∧ Below w.heap.size w w' := by
  cases hk : low 5 (s.data.toList.drop a) with
  | none =>
    refine (specReadVar_none s hs a ha hk w).mono ?_
    rintro e w' ⟨rfl, hb⟩
    exact ⟨.inr ⟨by unfold readV; rw [hk], rfl⟩, hb⟩
  | some k =>
    refine (specReadVar_some s hs a ha k hk w).mono ?_
    have hsh := short_iff 5 (s.data.toList.drop a) k hk
    have hlt := (low_some 5 _ k hk).2.1
    rw [List.length_drop] at hlt
    have hsz : s.data.toList.length = s.size := by simp
    rintro e w' ⟨⟨h1, h2, rfl⟩ | ⟨h1, rfl⟩, hb⟩
    · refine ⟨.inl ⟨_, a + k + 1, ?_, by omega, by omega, h1, rfl⟩, hb⟩
      unfold readV
      rw [hk]
      simp only []
      rw [if_pos ⟨h1, hsh.1 h2⟩, List.drop_drop]
      rfl
    · refine ⟨.inr ⟨?_, rfl⟩, hb⟩
      unfold readV
      rw [hk]
      simp only []
      rw [if_neg (fun h => h1 ⟨h.1, hsh.2 h.2⟩)]

abbrev CuT : TypeId := 34

set_option maxRecDepth 100000 in
set_option maxHeartbeats 800000 in
theorem one_any (c : Nat) (s : ByteArray) (a : Nat) (b : Bool) (ha : a ≤ s.size) (hs : s.size ≤ 1048576) (w : World) (H : VarA c CuT #[.string s, .int .i64 (a : Int), .bool b] w) :
    Calls Tryd.prog 10 #[.pointer (some ⟨c, 0, none⟩)] w fun e w' => ∃ (r a' : Nat) (b' : Bool), r ≤ 255 ∧ a' ≤ s.size ∧ e = .returned (.int .i64 (r : Nat)) ∧ VarA c CuT #[.string s, .int .i64 (a' : Int), .bool b'] w' ∧ Only c w w' ∧ (b = false → ∀ h : a < s.size, r = s[a].toNat ∧ a' = a + 1 ∧ b' = false) := by
  have c0 : w.cell? ⟨c, 0, none⟩ = some (.string s) := H.cell 0
  have c1 : w.cell? ⟨c, 1, none⟩ = some (.int .i64 (a : Int)) := H.cell 1
  have c2 : w.cell? ⟨c, 2, none⟩ = some (.bool b) := H.cell 2
  have g1 := H.free 1
  have g2 := H.free 2
  have HV := Lib.hid H
  clear H
  cases b with
  | true =>
    go_enter Tryd.func10, Tryd.ntmps10
    go_wp2_with fail
    go_quiet (fail)
    go_wp2_with fail
    go_ret
    exact ⟨0, a, true, by omega, ha, rfl, (HV.out.next (below_drewN (Below.refl _ w) _)).set 2 _, (Only.of_below (below_drewN (Below.refl _ w) _)).trans (Only.setCell _ _), fun h => by cases h⟩
  | false =>
    by_cases hlt : a < s.size
    · have hge : ¬ ((s.size : Int) ≤ (a : Int)) := by omega
      have ha0 : (0 : Int) ≤ (a : Int) := by omega
      have ha1 : (a : Int) < (s.size : Int) := by omega
      go_enter Tryd.func10, Tryd.ntmps10
      go_wp2_with fail
      go_quiet (fail)
      have B1 := below_drewN (Below.refl w.heap.size w) nq
      have V1 := HV.out.next B1
      have O1 : Only c w (w.drewN nq) := Only.of_below B1
      generalize w.drewN nq = w1 at *
      have d1 : w1.cell? ⟨c, 1, none⟩ = some (.int .i64 (a : Int)) := V1.cell 1
      have e1 : w1.frozen? ⟨c, 1, none⟩ = false := V1.free 1
      have V2 := Lib.hid (V1.set 1 (.int .i64 ((a : Int) + 1)))
      have O2 := Lib.hid (O1.trans (Only.setCell (c := c) (w := w1) 1 (.int .i64 ((a : Int) + 1))))
      clear V1 O1 B1 HV
      go_upto_region 5 with fail
      generalize w1.setCell ⟨c, 1, none⟩ (.int .i64 ((a : Int) + 1)) = w2 at *
      have k0 : w2.cell? ⟨c, 0, none⟩ = some (.string s) := V2.out.cell 0
      have k1 : w2.cell? ⟨c, 1, none⟩ = some (.int .i64 ((a : Int) + 1)) := V2.out.cell 1
      go_wp2_with fail
      go_quiet (fail)
      go_wp2_with fail
      go_ret
      refine ⟨s[a].toNat, a + 1, false, by have := s[a].toNat_lt; omega, by omega, ?_, ?_, O2.out.trans (Only.of_below (below_drewN (Below.refl _ w2) _)), fun _ _ => ⟨rfl, rfl, rfl⟩⟩
      · have hwr : wrap64 ((s[a].toNat : Nat) : Int) = ((s[a].toNat : Nat) : Int) := by
          have := s[a].toNat_lt
          unfold wrap64; omega
        exact congrArg (fun z => Ending.returned (Value.int IntKind.i64 z)) hwr
      · exact V2.out.next (below_drewN (Below.refl _ w2) _)
    · have hge : (s.size : Int) ≤ (a : Int) := by omega
      go_enter Tryd.func10, Tryd.ntmps10
      go_wp2_with fail
      go_quiet (fail)
      have B1 := below_drewN (Below.refl w.heap.size w) nq
      have V1 := HV.out.next B1
      have O1 : Only c w (w.drewN nq) := Only.of_below B1
      generalize w.drewN nq = w1 at *
      have d2 : w1.cell? ⟨c, 2, none⟩ = some (.bool false) := V1.cell 2
      have e2 : w1.frozen? ⟨c, 2, none⟩ = false := V1.free 2
      go_wp2_with fail
      go_ret
      exact ⟨0, a, true, by omega, ha, rfl, V1.set 2 _, O1.trans (Only.setCell _ _), fun _ h => absurd h hlt⟩

/-- What the reader of a number leaves. -/
def VarEnd (c : Nat) (s : ByteArray) (a : Nat) (b : Bool) (w : World) (e : Ending) (w' : World) : Prop := ∃ (r a' : Nat) (b' : Bool), r ≤ 1000000000 ∧ a' ≤ s.size ∧ e = .returned (.int .i64 (r : Nat)) ∧ VarA c CuT #[.string s, .int .i64 (a' : Int), .bool b'] w' ∧ Only c w w' ∧ (b = false → ∀ n t, readV (s.data.toList.drop a) = some (n, t) → r = n ∧ t = s.data.toList.drop a' ∧ b' = false)
theorem VarEnd.of {c : Nat} {s : ByteArray} {a : Nat} {b : Bool} {w w' : World} {e : Ending} (r a' : Nat) (b' : Bool) (h1 : r ≤ 1000000000) (h2 : a' ≤ s.size) (h3 : e = .returned (.int .i64 (r : Nat))) (h4 : VarA c CuT #[.string s, .int .i64 (a' : Int), .bool b'] w') (h5 : Only c w w') (h6 : b = false → ∀ n t, readV (s.data.toList.drop a) = some (n, t) → r = n ∧ t = s.data.toList.drop a' ∧ b' = false) : VarEnd c s a b w e w' := ⟨r, a', b', h1, h2, h3, h4, h5, h6⟩

set_option maxRecDepth 100000 in
set_option maxHeartbeats 800000 in
theorem varc_any (c : Nat) (s : ByteArray) (a : Nat) (b : Bool) (ha : a ≤ s.size) (hs : s.size ≤ 1048576) (w : World) (H : VarA c CuT #[.string s, .int .i64 (a : Int), .bool b] w) :
    Calls Tryd.prog 11 #[.pointer (some ⟨c, 0, none⟩)] w (VarEnd c s a b w) := by
  let Q : World → Prop := fun X => X.cell? ⟨c, 0, none⟩ = some (.string s) ∧ X.cell? ⟨c, 1, none⟩ = some (.int .i64 (a : Int)) ∧ VarA c CuT #[.string s, .int .i64 (a : Int), .bool b] X ∧ Only c w X
  have Q0 : Hid (∀ X, VarA c CuT #[.string s, .int .i64 (a : Int), .bool b] X → Only c w X → Q X) := Lib.hid fun X h1 h2 => ⟨h1.cell 0, h1.cell 1, h1, h2⟩
  have KD : Hid (∀ X, Q X → Calls Tryd.prog 22 #[.string s, .int .i64 a] X fun e w' => ∃ (n q : Nat) (ok : Bool), e = .returned (.tuple #[.int .i64 (n : Nat), .int .i64 (q : Nat), .bool ok]) ∧ (n ≤ 1000000000 ∧ q ≤ s.size ∧ (ok = true → readV (s.data.toList.drop a) = some (n, s.data.toList.drop q)) ∧ (ok = false → readV (s.data.toList.drop a) = none)) ∧ Q w') := Lib.hid fun X hX => by
    refine (specReadVar_read s hs a ha X).mono ?_
    rintro e w' ⟨h, hb⟩
    have hq : Q w' := Q0.out _ (hX.2.2.1.next hb) (hX.2.2.2.trans (Only.of_below hb))
    rcases h with ⟨n, q, h1, h2, h3, h4, rfl⟩ | ⟨h1, rfl⟩
    · exact ⟨n, q, true, rfl, ⟨h4, h3, fun _ => h1, fun h => (by cases h)⟩, hq⟩
    · exact ⟨0, 0, false, rfl, ⟨by omega, by omega, fun h => (by cases h), fun _ => h1⟩, hq⟩
  have QD := Lib.hid (Q0.out w.drew H.drew (Only.of_below ((Below.refl w.heap.size w).drew)))
  have c0 : w.cell? ⟨c, 0, none⟩ = some (.string s) := H.cell 0
  have c1 : w.cell? ⟨c, 1, none⟩ = some (.int .i64 (a : Int)) := H.cell 1
  clear H Q0
  go_enter Tryd.func11, Tryd.ntmps11
  go_wp2_with fail
  go_cut [3, 4, 5] (fun x y z wx => ∃ (n q : Nat) (ok : Bool), x = .int .i64 (n : Nat) ∧ y = .int .i64 (q : Nat) ∧ z = .bool ok ∧ Hid (n ≤ 1000000000 ∧ q ≤ s.size ∧ (ok = true → readV (s.data.toList.drop a) = some (n, s.data.toList.drop q)) ∧ (ok = false → readV (s.data.toList.drop a) = none)) ∧ Hid (VarA c CuT #[.string s, .int .i64 (a : Int), .bool b] wx ∧ Only c w wx))
  case first =>
    go_region_held3 (fun X => X.cell? ⟨c, 0, none⟩ = some (.string s) ∧ X.cell? ⟨c, 1, none⟩ = some (.int .i64 (a : Int)) ∧ VarA c CuT #[.string s, .int .i64 (a : Int), .bool b] X ∧ Only c w X) (first | (with_reducible assumption) | (exact QD.out)) (first | (go_at_call 22; refine (KD.out _ (by assumption)).mono ?_; rintro e v1 ⟨n, q, ok, rfl, hf, hS⟩))
    all_goals
      go_wp2_with fail
      go_meet
      exact ⟨n, q, ok, rfl, rfl, rfl, Lib.hid hf, Lib.hid ⟨hS.2.2.1, hS.2.2.2⟩⟩
  case rest =>
    obtain ⟨n, q, ok, rfl, rfl, rfl, hf, hV⟩ := hcut
    generalize wc = wx at *
    clear c0 c1 KD QD
    have d2 : wx.cell? ⟨c, 2, none⟩ = some (.bool b) := hV.out.1.cell 2
    have e1 : wx.frozen? ⟨c, 1, none⟩ = false := hV.out.1.free 1
    have e2 : wx.frozen? ⟨c, 2, none⟩ = false := hV.out.1.free 2
    have d1 : wx.cell? ⟨c, 1, none⟩ = some (.int .i64 (a : Int)) := hV.out.1.cell 1
    have HF : Hid ((ok = false → readV (s.data.toList.drop a) = none) ∧ (ok = true → readV (s.data.toList.drop a) = some (n, s.data.toList.drop q)) ∧ n ≤ 1000000000 ∧ q ≤ s.size) := Lib.hid ⟨hf.out.2.2.2, hf.out.2.2.1, hf.out.1, hf.out.2.1⟩
    clear hf
    obtain ⟨R, HR⟩ : ∃ R : Bool → Prop, Hid (R = fun ok => (ok = false → readV (s.data.toList.drop a) = none) ∧ (ok = true → readV (s.data.toList.drop a) = some (n, s.data.toList.drop q)) ∧ n ≤ 1000000000 ∧ q ≤ s.size) := ⟨_, Lib.hid rfl⟩
    have hR : R ok := by rw [HR.out]; exact HF.out
    clear HF
    cases b <;> cases ok
    · go_wp2_with fail
      go_ret
      exact VarEnd.of 0 a true (by omega) ha rfl (hV.out.1.set 2 _) (hV.out.2.trans (Only.setCell _ _)) (fun _ n t h => by rw [HR.out] at hR; rw [hR.1 rfl] at h; cases h)
    · go_wp2_with fail
      go_ret
      rw [HR.out] at hR
      exact VarEnd.of n q false hR.2.2.1 hR.2.2.2 rfl (hV.out.1.set 1 _) (hV.out.2.trans (Only.setCell _ _)) (fun _ n' t h => by
        rw [hR.2.1 rfl] at h
        cases h
        exact ⟨rfl, rfl, rfl⟩)
    · go_wp2_with fail
      go_ret
      exact VarEnd.of 0 a true (by omega) ha rfl (hV.out.1.set 2 _) (hV.out.2.trans (Only.setCell _ _)) (fun h => by cases h)
    · go_wp2_with fail
      go_ret
      exact VarEnd.of 0 a true (by omega) ha rfl (hV.out.1.set 2 _) (hV.out.2.trans (Only.setCell _ _)) (fun h => by cases h)

end Go.Proofs.YtdhacjpdlmnlmarDoor
namespace Go.Proofs.YtdhacjpdlmnlmarDoor
open Go.RowKit

set_option maxRecDepth 100000 in
set_option maxHeartbeats 400000 in
theorem specByteP_any (i : Nat) (h : i < 256) (w : World) :
    Calls Tryd.prog 24 #[.int .i64 i] w fun e w' => e = .returned (.string ⟨#[UInt8.ofNat i]⟩) ∧ Below w.heap.size w w' := by
  have h1 : (i : Int) % 256 = (i : Int) := by omega
  have h2 : (i : Int).tmod 256 = (i : Int) := by rw [Int.tmod_eq_emod_of_nonneg (by omega)]; exact h1
  have h3 : ¬ ((i : Int) < 0) := by omega
  obtain ⟨b, hb, BB⟩ : ∃ b : UInt8, (i : Int) = (b.toNat : Int) ∧ Hid (b = UInt8.ofNat i) := ⟨UInt8.ofNat i, by rw [UInt8.toNat_ofNat']; omega, rfl⟩
  have hr := run_string_one (P := Tryd.prog) w 53 9 5 Tryd.underlying53 Tryd.underlying5 Tryd.underlying9 b
  rw [← hb] at hr
  have HB := Lib.hid hb
  rw [← BB.out]
  clear hb
  go_enter Tryd.func24, Tryd.ntmps24
  go_wp2_with fail
  go_ret
  exact ⟨rfl, (Below.refl _ _).alloc (Nat.le_refl _) _⟩

end Go.Proofs.YtdhacjpdlmnlmarDoor

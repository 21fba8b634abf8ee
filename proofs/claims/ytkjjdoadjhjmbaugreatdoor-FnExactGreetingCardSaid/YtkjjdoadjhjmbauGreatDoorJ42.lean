/-
  The test package's functions over rows of ints: held against each other, marked, found marked.
  A row of ints laid anew.
  The exact law on Greeting, out of one answer that both give.
-/
import Derived.Test.YtkjjdoadjhjmbauGreatDoorJ32
import Derived.Test.YtkjjdoadjhjmbauGreatDoorJ06
import Derived.BigQuiet
import Derived.Deep.QuietTactic
import Derived.Test.YtkjjdoadjhjmbauGreatDoorJ34
import Derived.Test.YtkjjdoadjhjmbauGreatDoorJ29
namespace Go.Proofs.YtkjjdoadjhjmbauGreatDoor
open Go.RowKit

/-- The numbers from k on. -/
def upI (k : Int) (n : Nat) : List Int := (List.range n).map fun (j : Nat) => k + (j : Int)
theorem upI_length (k : Int) (n : Nat) : (upI k n).length = n := by simp [upI]
theorem upI_get (k : Int) (n j : Nat) (h : j < (upI k n).length) : (upI k n)[j] = k + (j : Int) := by simp [upI]
/-- The first j of a list are marked. -/
def partI (k : Int) (xs : List Int) (j : Nat) : List Int := upI k j ++ xs.drop j
theorem partI_length (k : Int) (xs : List Int) (j : Nat) (h : j ≤ xs.length) : (partI k xs j).length = xs.length := by
  unfold partI
  rw [List.length_append, upI_length, List.length_drop]
  omega
theorem partI_next (k : Int) (xs : List Int) (j : Nat) (h : j < xs.length) : (partI k xs j).set j (k + (j : Int)) = partI k xs (j + 1) := by
  unfold partI
  have e : upI k (j + 1) = upI k j ++ [k + (j : Int)] := by simp [upI, List.range_succ]
  have hl : (upI k j).length = j := upI_length k j
  rw [e, List.set_append_right _ _ (by omega), hl, Nat.sub_self, List.append_assoc]
  congr 1
  rw [← List.getElem_cons_drop h]
  rfl

set_option maxRecDepth 100000 in
set_option maxHeartbeats 800000 in
theorem markIntS_any (v : Value) (xs : List Int) (b : Nat) (fp : List Nat) (k : Int) (hk0 : 0 ≤ k) (hk1 : k ≤ 1000000000) (hl : xs.length ≤ 100000000) (w : World) (hd : fp.Nodup) (ho : layIntS.own w b fp [v] xs) :
    Calls Tryz.prog 19 #[v, .int .i64 k] w fun e w' => e = .returned (.int .i64 (k + (xs.length : Int))) ∧ layIntS.own w' b fp [v] (upI k xs.length) ∧ Chg fp w w' := by
  obtain ⟨ao, cp, rfl⟩ := rows_form (layIntS.read ho)
  have HO := Lib.hid ho
  clear ho
  go_enter Tryz.func19, Tryz.ntmps19
  go_wp2_with fail
  go_loopw [1, 5] (fun q c wr => ∃ j : Nat, j ≤ xs.length ∧ q = .int .i64 (k + (j : Int)) ∧ c = .int .i64 j ∧ layIntS.own wr b fp [.slice ao xs.length cp] (partI k xs j) ∧ Chg fp w wr) (fun _ c _ => xs.length - (intOf c).toNat)
  case atStart => exact ⟨0, Nat.zero_le _, by simp, rfl, HO.out, Chg.refl _ _⟩
  case round =>
    obtain ⟨j, hj, rfl, rfl, hO, hC⟩ := hrel
    clear HO
    by_cases hlt : j < xs.length
    · have hlt' : (j : Int) < (xs.length : Int) := by omega
      obtain ⟨g, cap, hv, hbg, hgl, hin, hcell, hfree, hown, hchg⟩ := ints_put hO hd j (by rw [partI_length k xs j (by omega)]; exact hlt) (k + (j : Int))
      simp only [Value.slice.injEq] at hv
      obtain ⟨rfl, -, rfl⟩ := hv
      rw [partI_next k xs j hlt] at hown
      have HN := Lib.hid hown
      have HC := Lib.hid (hC.trans hchg)
      generalize (partI k xs j)[j]'(by rw [partI_length k xs j (by omega)]; exact hlt) = old at hcell
      clear hown hchg hO hC
      go_wp2_with fail
      go_roundw
      case rel => exact ⟨j + 1, hlt, by push_cast; rw [← Int.add_assoc], by go_num, HN.out, HC.out⟩
      case measure => simp [intOf]; omega
    · have hlt' : ¬ ((j : Int) < (xs.length : Int)) := by omega
      have hje : j = xs.length := by omega
      subst hje
      have e : partI k xs xs.length = upI k xs.length := by unfold partI; rw [List.drop_length, List.append_nil]
      rw [e] at hO
      go_wp2_with fail
      go_ret
      exact ⟨rfl, hO, hC⟩

set_option maxRecDepth 100000 in
set_option maxHeartbeats 800000 in
theorem eqIntS_same (v u : Value) (xs : List Int) (hl : xs.length ≤ 100000000) (w : World) (hv : layIntS.rd w [v] xs) (hu : layIntS.rd w [u] xs) :
    Calls Tryz.prog 17 #[v, u] w fun e w' => e = .returned (.bool true) ∧ Below w.heap.size w w' := by
  obtain ⟨ao, cp, rfl⟩ := rows_form hv
  obtain ⟨bo, dp, rfl⟩ := rows_form hu
  have HV := Lib.hid hv
  have HU := Lib.hid hu
  clear hv hu
  go_enter Tryz.func17, Tryz.ntmps17
  go_wp2_with fail
  go_loopw [5] (fun c wr => ∃ j : Nat, j ≤ xs.length ∧ c = .int .i64 j ∧ Below w.heap.size w wr) (fun c _ => xs.length - (intOf c).toNat)
  case atStart => exact ⟨0, Nat.zero_le _, rfl, Below.refl _ _⟩
  case round =>
    obtain ⟨j, hj, rfl, hb⟩ := hrel
    have HB := Lib.hid hb
    by_cases hlt : j < xs.length
    · have hlt' : (j : Int) < (xs.length : Int) := by omega
      obtain ⟨g, off, cap, hv, hg, hcell⟩ := ints_get (layIntS.below HV.out hb) j hlt
      simp only [Value.slice.injEq] at hv
      obtain ⟨rfl, -, rfl⟩ := hv
      obtain ⟨g2, off2, cap2, hv2, hg2, hcell2⟩ := ints_get (layIntS.below HU.out hb) j hlt
      simp only [Value.slice.injEq] at hv2
      obtain ⟨rfl, -, rfl⟩ := hv2
      generalize xs[j] = x at hcell hcell2
      clear hb
      go_wp2_with fail
      go_quiet (fail)
      go_wp2_with fail
      go_roundw
      case rel => exact ⟨j + 1, by omega, by go_num, below_drewN HB.out _⟩
      case measure => simp [intOf]; omega
    · have hlt' : ¬ ((j : Int) < (xs.length : Int)) := by omega
      go_wp2_with fail
      go_ret
      exact ⟨rfl, hb⟩

end Go.Proofs.YtkjjdoadjhjmbauGreatDoor
namespace Go.Proofs.YtkjjdoadjhjmbauGreatDoor
open Go.RowKit

theorem fill_next (xs : List Int) (j : Nat) (h : j < xs.length) : (xs.take j ++ List.replicate (xs.length - j) (0 : Int)).set j xs[j] = xs.take (j + 1) ++ List.replicate (xs.length - (j + 1)) 0 := by
  have hl : (xs.take j).length = j := by rw [List.length_take]; omega
  rw [List.set_append_right _ _ (by omega), hl, Nat.sub_self, show xs.length - j = (xs.length - (j + 1)) + 1 by omega, List.replicate_succ, List.set_cons_zero]
  have hta : xs.take (j + 1) = xs.take j ++ [xs[j]] := by rw [List.take_add_one, List.getElem?_eq_getElem h]; rfl
  rw [hta, List.append_assoc]
  rfl

set_option maxRecDepth 100000 in
set_option maxHeartbeats 800000 in
theorem toIntS_any (v : Value) (xs : List Int) (hl : xs.length ≤ 1048576) (w : World) (hs : layIntS.rd w [v] xs) :
    Calls Tryz.prog 13 #[v] w fun e w' => OutS layIntS w xs e w' := by
  obtain ⟨i0, hi, hz0, hsz0, hby0⟩ := info_of infoInt
  obtain ⟨a, cap, rfl⟩ := rows_form hs
  have HS := Lib.hid hs
  clear hs
  go_enter Tryz.func13, Tryz.ntmps13
  go_wp2_with (at_make; refine wpList_make_full _ rfl _ _ 32 rfl w.heap.size 3 i0 (.int .i64 0) 1 Tryz.underlying32 hi hz0 hsz0 .i64 .i64 _ _ xs.length rfl rfl rfl rfl (by rw [hby0]; omega) (by unfold maxLen; omega) (Nat.le_refl _) ?_)
  intro w1 hown1 hg1
  have hown : layIntS.own w1 w.heap.size [w.heap.size] [.slice (some ⟨w.heap.size, 0, none⟩) xs.length xs.length] (List.replicate xs.length 0) := rows_made (cs := #[.int .i64 0]) (by rw [show xs.length * Lay.int.k = xs.length from Nat.mul_one _]; exact hown1) rfl (int_own.2 ⟨rfl, rfl⟩)
  have hbel : Below w.heap.size w w1 := below_grown hg1 (fun k h => by cases h) (Nat.le_refl _)
  clear hown1 hg1
  go_wp2_with fail
  go_loopw [4] (fun c wr => ∃ j : Nat, j ≤ xs.length ∧ c = .int .i64 j ∧ layIntS.own wr w.heap.size [w.heap.size] [.slice (some ⟨w.heap.size, 0, none⟩) xs.length xs.length] (xs.take j ++ List.replicate (xs.length - j) 0) ∧ Below w.heap.size w wr) (fun c _ => xs.length - (intOf c).toNat)
  case atStart => exact ⟨0, Nat.zero_le _, rfl, by simpa using hown, hbel⟩
  case round =>
    obtain ⟨j, hj, rfl, hown2, hb2⟩ := hrel
    have HO := Lib.hid hown2
    have HB := Lib.hid hb2
    clear hown2 hb2 hown hbel
    by_cases hlt : j < xs.length
    · have hlt' : (j : Int) < (xs.length : Int) := by omega
      have hlen : j < (xs.take j ++ List.replicate (xs.length - j) (0 : Int)).length := by rw [List.length_append, List.length_take, List.length_replicate]; omega
      obtain ⟨g, off, cap', hv, hg, hcell⟩ := ints_get (layIntS.below HS.out HB.out) j hlt
      simp only [Value.slice.injEq] at hv
      obtain ⟨rfl, -, rfl⟩ := hv
      obtain ⟨g', cap'', hv', _, _, _, hc', hf', hown3, hchg⟩ := ints_put HO.out (by simp) j hlen xs[j]
      simp only [Value.slice.injEq, Option.some.injEq, Addr.mk.injEq, and_true] at hv'
      obtain ⟨rfl, -, -⟩ := hv'
      rw [fill_next xs j hlt] at hown3
      have HP := Lib.hid hown3
      have HB3 := Lib.hid (HB.out.trans (hchg.below (b := w.heap.size) (by simp) HB.out.size))
      generalize xs[j] = x at *
      generalize (xs.take j ++ List.replicate (xs.length - j) (0 : Int))[j] = y0 at hc'
      clear hown3 hchg hlen
      go_wp2_with fail
      go_roundw
      case rel => exact ⟨j + 1, by omega, by go_num, HP.out, HB3.out⟩
      case measure => simp [intOf]; omega
    · have hlt' : ¬ ((j : Int) < (xs.length : Int)) := by omega
      have hke : j = xs.length := by omega
      have hfin : xs.take j ++ List.replicate (xs.length - j) (0 : Int) = xs := by subst hke; simp
      have HO2 := HO.out
      rw [hfin] at HO2
      have HO3 := Lib.hid HO2
      clear HO2 HO
      go_wp2_with fail
      go_ret
      exact ⟨_, _, rfl, by simp, HO3.out, HB.out⟩

end Go.Proofs.YtkjjdoadjhjmbauGreatDoor
namespace Go.Proofs.YtkjjdoadjhjmbauGreatDoor
open Go.RowKit

set_option maxRecDepth 100000 in
set_option maxHeartbeats 400000 in
theorem lawGreeting_big (va : Value) (ab : Option Addr) (n cb : Nat) (h : 1048576 < n) (w : World) :
    Calls Tryz.prog 4 #[va, .slice ab n cb] w fun e w' => e = .returned (.bool true) ∧ Below w.heap.size w w' := by
  have h2 : (1048576 : Int) < (n : Int) := by omega
  go_enter Tryz.func4, Tryz.ntmps4
  go_wp2_with fail
  go_ret
  exact ⟨rfl, Below.refl _ _⟩
theorem chg_off {X Y : World} {f : List Nat} {b : Nat} (hc : Chg f X Y) (hf : ∀ g ∈ f, b ≤ g) (hs : b ≤ X.heap.size) : Below b X Y := hc.below hf hs
set_option maxRecDepth 100000 in
set_option maxHeartbeats 6400000 in
/-- The exact law on Greeting, out of one answer that both give. -/
theorem lawGreetingF (L : World → Prop) (stays : ∀ X Y, L X → Below X.heap.size X Y → L Y) (va vb : Value) (ps : List ByteArray) (es : List Int) (ka : RoomString ps) (hel : es.length ≤ 1048576) (xs : List GrD) (ok : Bool) (hxl : xs.length ≤ 10)
    (hI : FitsString ps → ∀ (u v : Value) (X : World), L X → layStringS.rd X [u] ps → layIntS.rd X [v] es → Calls Tryz.prog 14 #[u, v] X fun e Y => GreetRet xs ok X e Y)
    (hS : FitsString ps → ∀ (u v : Value) (X : World), layStringS.rd X [u] ps → layIntS.rd X [v] es → Calls Tryz.prog 11 #[u, v] X fun e Y => GreetRet xs ok X e Y)
    (w : World) (ht : L w) (ha : layStringS.rd w [va] ps) (hb : layIntS.rd w [vb] es) :
    Calls Tryz.prog 4 #[va, vb] w fun e w' => e = .returned (.bool true) ∧ Below w.heap.size w w' := by
  obtain ⟨aa, ca, rfl⟩ := rows_form ha
  obtain ⟨ab, cb, rfl⟩ := rows_form hb
  have HA := Lib.hid ha
  have HB := Lib.hid hb
  have HI0 := Lib.hid hI
  have HS0 := Lib.hid hS
  have LL : Hid (∀ X, Below w.heap.size w X → L X) := Lib.hid (fun X h => stays w X ht h)
  have hel2 : ¬ ((1048576 : Int) < (es.length : Int)) := by omega
  clear hI hS ha hb ht stays
  have KZ := Lib.hid (szStringS_any _ ps 1048576 (by omega) (by omega) ka w HA.out)
  go_enter Tryz.func4, Tryz.ntmps4
  go_wp2_with fail
  refine (KZ.out).mono ?_
  rintro e Y1 ⟨⟨z, rfl, hz⟩, hb⟩
  have B := Lib.hid hb
  clear hb KZ
  rcases hz with rfl | ⟨hz0, hz1, hfa⟩
  · go_wp2_with fail
    go_ret
    exact ⟨rfl, B.out⟩
  have hz2 : ¬ (z < 0) := by omega
  have FA := Lib.hid hfa
  have HI := Lib.hid (HI0.out hfa)
  have HS := Lib.hid (HS0.out hfa)
  have TA : Hid (∀ X, Below w.heap.size w X → Calls Tryz.prog 12 #[.slice aa ps.length ca] X fun e Y => OutS layStringS X ps e Y) := Lib.hid (fun X hX => toStringS_any _ ps FA.out.1 X (layStringS.below HA.out hX))
  have TB : Hid (∀ X, Below w.heap.size w X → Calls Tryz.prog 13 #[.slice ab es.length cb] X fun e Y => OutS layIntS X es e Y) := Lib.hid (fun X hX => toIntS_any _ es hel X (layIntS.below HB.out hX))
  have hpl : ps.length ≤ 1048576 := FA.out.1
  clear hfa hz0 hz1 HI0 HS0
  go_wp2_with fail
  refine (TA.out _ B.out).mono ?_
  rintro e Y2 ⟨v_1, f_1, rfl, d_1, o_1, hb⟩
  obtain ⟨a_1, c_1, rfl⟩ := rows_form (layStringS.read o_1)
  have O1 := Lib.hid o_1
  have D1 := Lib.hid d_1
  have U1 := Lib.hid (fun g hg => layStringS.blocks o_1 g hg)
  have S1 := hb.size
  replace B := Lib.hid (B.out.trans (hb.mono B.out.size))
  clear hb o_1 d_1
  go_wp2_with fail
  refine (TB.out _ B.out).mono ?_
  rintro e Y3 ⟨v_2, f_2, rfl, d_2, o_2, hb⟩
  obtain ⟨a_2, c_2, rfl⟩ := rows_form (layIntS.read o_2)
  have O2 := Lib.hid o_2
  have D2 := Lib.hid d_2
  have U2 := Lib.hid (fun g hg => layIntS.blocks o_2 g hg)
  have S2 := hb.size
  replace O1 := Lib.hid (layStringS.next O1.out hb)
  replace B := Lib.hid (B.out.trans (hb.mono B.out.size))
  clear hb o_2 d_2
  go_wp2_with fail
  refine (HS.out _ _ _ (layStringS.read O1.out) (layIntS.read O2.out)).mono ?_
  rintro e Y4 ⟨v_w, f_w, rfl, d_w, o_w, hb⟩
  obtain ⟨a_w, c_w, rfl⟩ := rows_form (layGreeterS.read o_w)
  have Ow := Lib.hid o_w
  have Dw := Lib.hid d_w
  have Uw := Lib.hid (fun g hg => layGreeterS.blocks o_w g hg)
  have Sw := hb.size
  replace B := Lib.hid (B.out.trans (hb.mono B.out.size))
  clear hb o_w d_w
  have SB := B.out.size
  clear O1 O2 D1 D2 U1 U2 S1 S2 Dw HS
  go_wp2_with fail
  refine (TA.out _ B.out).mono ?_
  rintro e Y5 ⟨v_3, f_3, rfl, d_3, o_3, hb⟩
  obtain ⟨a_3, c_3, rfl⟩ := rows_form (layStringS.read o_3)
  have O3 := Lib.hid o_3
  have D3 := Lib.hid d_3
  have U3 := Lib.hid (fun g hg => layStringS.blocks o_3 g hg)
  have S3 := hb.size
  replace Ow := Lib.hid (layGreeterS.next Ow.out hb)
  replace B := Lib.hid (B.out.trans (hb.mono B.out.size))
  clear hb o_3 d_3
  go_wp2_with fail
  refine (TB.out _ B.out).mono ?_
  rintro e Y6 ⟨v_4, f_4, rfl, d_4, o_4, hb⟩
  obtain ⟨a_4, c_4, rfl⟩ := rows_form (layIntS.read o_4)
  have O4 := Lib.hid o_4
  have D4 := Lib.hid d_4
  have U4 := Lib.hid (fun g hg => layIntS.blocks o_4 g hg)
  have S4 := hb.size
  replace Ow := Lib.hid (layGreeterS.next Ow.out hb)
  replace O3 := Lib.hid (layStringS.next O3.out hb)
  replace B := Lib.hid (B.out.trans (hb.mono B.out.size))
  clear hb o_4 d_4
  go_wp2_with fail
  refine (HI.out _ _ _ (LL.out _ B.out) (layStringS.read O3.out) (layIntS.read O4.out)).mono ?_
  rintro e Y7 ⟨v_g, f_g, rfl, d_g, o_g, hb⟩
  obtain ⟨a_g, c_g, rfl⟩ := rows_form (layGreeterS.read o_g)
  have Og := Lib.hid o_g
  have Dg := Lib.hid d_g
  have Ug := Lib.hid (fun g hg => layGreeterS.blocks o_g g hg)
  have Sg := hb.size
  replace Ow := Lib.hid (layGreeterS.next Ow.out hb)
  replace O3 := Lib.hid (layStringS.next O3.out hb)
  replace O4 := Lib.hid (layIntS.next O4.out hb)
  replace B := Lib.hid (B.out.trans (hb.mono B.out.size))
  clear hb o_g d_g
  have hok : (ok != ok) = false := by cases ok <;> rfl
  have KE : Hid (∀ (v u : Value) (X : World), layGreeterS.rd X [v] xs → layGreeterS.rd X [u] xs → Calls Tryz.prog 15 #[v, u] X fun e w' => e = .returned (.bool true) ∧ Below X.heap.size X w') := Lib.hid (fun v u X h1 h2 => eqGreeterS_same v u xs (by omega) X h1 h2)
  go_wp2_with fail
  refine (KE.out _ _ _ (layGreeterS.read Og.out) (layGreeterS.read Ow.out)).mono ?_
  rintro e Y8 ⟨rfl, hb⟩
  replace Ow := Lib.hid (layGreeterS.next Ow.out hb)
  replace O3 := Lib.hid (layStringS.next O3.out hb)
  replace O4 := Lib.hid (layIntS.next O4.out hb)
  replace Og := Lib.hid (layGreeterS.next Og.out hb)
  replace B := Lib.hid (B.out.trans (hb.mono B.out.size))
  clear hb
  go_wp2_with fail
  refine (TA.out _ B.out).mono ?_
  rintro e Y9 ⟨v_5, f_5, rfl, d_5, o_5, hb⟩
  obtain ⟨a_5, c_5, rfl⟩ := rows_form (layStringS.read o_5)
  have O5 := Lib.hid o_5
  have D5 := Lib.hid d_5
  have U5 := Lib.hid (fun g hg => layStringS.blocks o_5 g hg)
  have S5 := hb.size
  replace Ow := Lib.hid (layGreeterS.next Ow.out hb)
  replace O3 := Lib.hid (layStringS.next O3.out hb)
  replace O4 := Lib.hid (layIntS.next O4.out hb)
  replace Og := Lib.hid (layGreeterS.next Og.out hb)
  replace B := Lib.hid (B.out.trans (hb.mono B.out.size))
  clear hb o_5 d_5
  go_wp2_with fail
  refine (eqStringS_same _ _ ps (by omega) _ (layStringS.read O3.out) (layStringS.read O5.out)).mono ?_
  rintro e Z1 ⟨rfl, hb⟩
  replace Ow := Lib.hid (layGreeterS.next Ow.out hb)
  replace O3 := Lib.hid (layStringS.next O3.out hb)
  replace O4 := Lib.hid (layIntS.next O4.out hb)
  replace Og := Lib.hid (layGreeterS.next Og.out hb)
  replace B := Lib.hid (B.out.trans (hb.mono B.out.size))
  clear hb
  clear O5 D5 U5
  go_wp2_with fail
  refine (TB.out _ B.out).mono ?_
  rintro e Z2 ⟨v_6, f_6, rfl, d_6, o_6, hb⟩
  obtain ⟨a_6, c_6, rfl⟩ := rows_form (layIntS.read o_6)
  have O6 := Lib.hid o_6
  have D6 := Lib.hid d_6
  have U6 := Lib.hid (fun g hg => layIntS.blocks o_6 g hg)
  have S6 := hb.size
  replace Ow := Lib.hid (layGreeterS.next Ow.out hb)
  replace O3 := Lib.hid (layStringS.next O3.out hb)
  replace O4 := Lib.hid (layIntS.next O4.out hb)
  replace Og := Lib.hid (layGreeterS.next Og.out hb)
  replace B := Lib.hid (B.out.trans (hb.mono B.out.size))
  clear hb o_6 d_6
  go_wp2_with fail
  refine (eqIntS_same _ _ es (by omega) _ (layIntS.read O4.out) (layIntS.read O6.out)).mono ?_
  rintro e Z3 ⟨rfl, hb⟩
  replace Ow := Lib.hid (layGreeterS.next Ow.out hb)
  replace O3 := Lib.hid (layStringS.next O3.out hb)
  replace O4 := Lib.hid (layIntS.next O4.out hb)
  replace Og := Lib.hid (layGreeterS.next Og.out hb)
  replace B := Lib.hid (B.out.trans (hb.mono B.out.size))
  clear hb
  clear O6 D6 U6
  have n3 : ∀ g ∈ f_3, g ∉ f_w := fun g h1 h2 => by have := U3.out g h1; have := Uw.out g h2; omega
  have n4 : ∀ g ∈ f_4, g ∉ f_3 := fun g h1 h2 => by have := U4.out g h1; have := U3.out g h2; omega
  have n5 : ∀ g ∈ f_4, g ∉ f_w := fun g h1 h2 => by have := U4.out g h1; have := Uw.out g h2; omega
  have n6 : ∀ g ∈ f_g, g ∉ f_3 := fun g h1 h2 => by have := Ug.out g h1; have := U3.out g h2; omega
  have n7 : ∀ g ∈ f_g, g ∉ f_4 := fun g h1 h2 => by have := Ug.out g h1; have := U4.out g h2; omega
  have n8 : ∀ g ∈ f_g, g ∉ f_w := fun g h1 h2 => by have := Ug.out g h1; have := Uw.out g h2; omega
  have N := Lib.hid (And.intro n3 (And.intro n4 (And.intro n5 (And.intro n6 (And.intro n7 n8)))))
  have L3 : Hid (∀ g ∈ f_3, w.heap.size ≤ g) := Lib.hid (fun g h => by have := U3.out g h; omega)
  have L4 : Hid (∀ g ∈ f_4, w.heap.size ≤ g) := Lib.hid (fun g h => by have := U4.out g h; omega)
  have LG : Hid (∀ g ∈ f_g, w.heap.size ≤ g) := Lib.hid (fun g h => by have := Ug.out g h; omega)
  clear n3 n4 n5 n6 n7 n8 U3 U4 Uw Ug S3 S4 S5 S6 Sw Sg SB
  have KM := Lib.hid (markStringS_any _ ps _ f_3 1 (by omega) (by omega) (by omega) _ D3.out O3.out)
  go_wp2_with fail
  refine (KM.out).mono ?_
  rintro e Z4 ⟨rfl, hown, hchg⟩
  replace Ow := Lib.hid (layGreeterS.chg Ow.out hchg (fun g h1 h2 => N.out.1 g h2 h1))
  replace O4 := Lib.hid (layIntS.chg O4.out hchg N.out.2.1)
  replace Og := Lib.hid (layGreeterS.chg Og.out hchg N.out.2.2.2.1)
  replace B := Lib.hid (B.out.trans (hchg.below L3.out B.out.size))
  clear hown hchg KM O3 D3
  obtain ⟨k1, hk1, k10, k11⟩ : ∃ k : Int, 1 + 1 * (ps.length : Int) = k ∧ 1 ≤ k ∧ k ≤ 2000000 := ⟨_, rfl, by omega, by omega⟩
  rw [hk1]
  clear hk1
  have KM := Lib.hid (markIntS_any _ es _ f_4 k1 (by omega) (by omega) (by omega) _ D4.out O4.out)
  go_wp2_with fail
  refine (KM.out).mono ?_
  rintro e Z5 ⟨rfl, hown, hchg⟩
  replace Ow := Lib.hid (layGreeterS.chg Ow.out hchg (fun g h1 h2 => N.out.2.2.1 g h2 h1))
  replace Og := Lib.hid (layGreeterS.chg Og.out hchg N.out.2.2.2.2.1)
  replace B := Lib.hid (B.out.trans (hchg.below L4.out B.out.size))
  clear hown hchg KM O4 D4
  obtain ⟨k2, hk2, k20⟩ : ∃ k : Int, k1 + (es.length : Int) = k ∧ ¬ (k < 0) := ⟨_, rfl, by omega⟩
  rw [hk2]
  clear hk2 k10 k11
  go_wp2_with fail
  refine (KE.out _ _ _ (layGreeterS.read Og.out) (layGreeterS.read Ow.out)).mono ?_
  rintro e Z6 ⟨rfl, hb⟩
  replace Ow := Lib.hid (layGreeterS.next Ow.out hb)
  replace Og := Lib.hid (layGreeterS.next Og.out hb)
  replace B := Lib.hid (B.out.trans (hb.mono B.out.size))
  clear hb
  have KM := Lib.hid (markGreeterS_any _ xs _ f_g 1 (by omega) (by omega) (by omega) _ Dg.out Og.out)
  go_wp2_with fail
  refine (KM.out).mono ?_
  rintro e Z7 ⟨rfl, hown, hchg⟩
  replace Ow := Lib.hid (layGreeterS.chg Ow.out hchg (fun g h1 h2 => N.out.2.2.2.2.2 g h2 h1))
  have Og2 := Lib.hid hown
  replace B := Lib.hid (B.out.trans (hchg.below LG.out B.out.size))
  clear hown hchg KM Og
  have KH : Hid (∀ X, layGreeterS.rd X [.slice a_g xs.length c_g] (layGreeterS.mark 1 xs).1 → Calls Tryz.prog 21 #[.slice a_g xs.length c_g, .int .i64 1] X fun e w' => e = .returned (.int .i64 (1 + 7 * (xs.length : Int))) ∧ Below X.heap.size X w') := Lib.hid (fun X h => heldGreeterS_any _ xs 1 (by omega) (by omega) (by omega) X h)
  generalize (layGreeterS.mark 1 xs).1 = ms at *
  obtain ⟨m, hm, hm0⟩ : ∃ m : Int, 1 + 7 * (xs.length : Int) = m ∧ ¬ (m < 0) := ⟨_, rfl, by omega⟩
  have hmm : (m != m) = false := by simp
  rw [hm] at KH ⊢
  clear hm
  go_wp2_with fail
  refine (KH.out _ (layGreeterS.read Og2.out)).mono ?_
  rintro e Z8 ⟨rfl, hb⟩
  replace Og2 := Lib.hid (layGreeterS.next Og2.out hb)
  replace Ow := Lib.hid (layGreeterS.next Ow.out hb)
  replace B := Lib.hid (B.out.trans (hb.mono B.out.size))
  clear hb
  go_wp2_with fail
  refine (TA.out _ B.out).mono ?_
  rintro e Z9 ⟨v_7, f_7, rfl, d_7, o_7, hb⟩
  obtain ⟨a_7, c_7, rfl⟩ := rows_form (layStringS.read o_7)
  have O7 := Lib.hid o_7
  have D7 := Lib.hid d_7
  have U7 := Lib.hid (fun g hg => layStringS.blocks o_7 g hg)
  have S7 := hb.size
  replace Ow := Lib.hid (layGreeterS.next Ow.out hb)
  replace Og2 := Lib.hid (layGreeterS.next Og2.out hb)
  replace B := Lib.hid (B.out.trans (hb.mono B.out.size))
  clear hb o_7 d_7
  go_wp2_with fail
  refine (TB.out _ B.out).mono ?_
  rintro e V1 ⟨v_8, f_8, rfl, d_8, o_8, hb⟩
  obtain ⟨a_8, c_8, rfl⟩ := rows_form (layIntS.read o_8)
  have O8 := Lib.hid o_8
  have D8 := Lib.hid d_8
  have U8 := Lib.hid (fun g hg => layIntS.blocks o_8 g hg)
  have S8 := hb.size
  replace Ow := Lib.hid (layGreeterS.next Ow.out hb)
  replace Og2 := Lib.hid (layGreeterS.next Og2.out hb)
  replace O7 := Lib.hid (layStringS.next O7.out hb)
  replace B := Lib.hid (B.out.trans (hb.mono B.out.size))
  clear hb o_8 d_8
  go_wp2_with fail
  refine (HI.out _ _ _ (LL.out _ B.out) (layStringS.read O7.out) (layIntS.read O8.out)).mono ?_
  rintro e V2 ⟨v_h, f_h, rfl, d_h, o_h, hb⟩
  obtain ⟨a_h, c_h, rfl⟩ := rows_form (layGreeterS.read o_h)
  have Oh := Lib.hid o_h
  have Dh := Lib.hid d_h
  have Uh := Lib.hid (fun g hg => layGreeterS.blocks o_h g hg)
  have Sh := hb.size
  replace Ow := Lib.hid (layGreeterS.next Ow.out hb)
  replace Og2 := Lib.hid (layGreeterS.next Og2.out hb)
  replace B := Lib.hid (B.out.trans (hb.mono B.out.size))
  clear hb o_h d_h
  go_wp2_with fail
  refine (KE.out _ _ _ (layGreeterS.read Oh.out) (layGreeterS.read Ow.out)).mono ?_
  rintro e V3 ⟨rfl, hb⟩
  replace Og2 := Lib.hid (layGreeterS.next Og2.out hb)
  replace B := Lib.hid (B.out.trans (hb.mono B.out.size))
  clear hb
  go_wp2_with fail
  refine (KH.out _ (layGreeterS.read Og2.out)).mono ?_
  rintro e V4 ⟨rfl, hb⟩
  replace B := Lib.hid (B.out.trans (hb.mono B.out.size))
  clear hb
  go_wp2_with fail
  go_ret
  exact ⟨rfl, B.out⟩

end Go.Proofs.YtkjjdoadjhjmbauGreatDoor

/-
  The program's dropSent and owe.
  cmp.Compare and cmp.Or of whole numbers.
-/
import Derived.Test.YthljmjbmmgligarJ33
import Derived.Test.YthljmjbmmgligarJ01
import Derived.Test.YthljmjbmmgligarRows
import Derived.Test.YthljmjbmmgligarJ02
import Derived.Deep.RegionHeld3
import Derived.BigQuiet
import Derived.Deep.QuietTactic
namespace Go.Proofs.Ythljmjbmmgligar
open Go.RowKit

def DropSentEnd (lo G : Nat) (me peer next got : Int) (v3 v6 v7 v8 : Value) (f3 f6 f7 f8 : List Nat) (a4 k4 n4 : Nat) (qs : List ByteArray) (ss : List PendingD) (es : List EarlyD) (os : List Int) (xs : List ByteArray) (w : World) (e : Ending) (w' : World) : Prop :=
  e = .returned (.tuple #[]) ∧ VarA G ChanT #[.int .i64 me, .int .i64 peer, .int .i64 next, v3, .slice (some ⟨a4, 0, none⟩) n4 k4, .int .i64 got, v6, v7, v8] w' ∧ CO lo v3 (.slice (some ⟨a4, 0, none⟩) n4 k4) v6 v7 v8 f3 [a4] f6 f7 f8 qs ss es os xs w' ∧ Below lo w w'
def OweEnd (lo G : Nat) (me peer next got : Int) (v3 v4 v6 v8 : Value) (f3 f4 f6 f8 : List Nat) (qs : List ByteArray) (ss : List PendingD) (es : List EarlyD) (os : List Int) (xs : List ByteArray) (w : World) (e : Ending) (w' : World) : Prop :=
  e = .returned (.tuple #[]) ∧ ∃ u7 h7, VarA G ChanT #[.int .i64 me, .int .i64 peer, .int .i64 next, v3, v4, .int .i64 got, v6, u7, v8] w' ∧ CO lo v3 v4 v6 u7 v8 f3 f4 f6 h7 f8 qs ss es os xs w' ∧ Below lo w w'

set_option maxRecDepth 100000 in
set_option maxHeartbeats 1600000 in
theorem dropSent_any (lo G : Nat) (me peer next got : Int) (v3 v6 v7 v8 : Value) (f3 f6 f7 f8 : List Nat) (a4 k4 : Nat) (qs : List ByteArray) (ss : List PendingD) (es : List EarlyD) (os : List Int) (xs : List ByteArray) (ls : ss.length ≤ 100000000) (w0 : World) (pa : Option Addr) (an pc : Nat) (acks : List Int) (la : acks.length ≤ 100000000) (w : World)
    (hv : VarA G ChanT #[.int .i64 me, .int .i64 peer, .int .i64 next, v3, .slice (some ⟨a4, 0, none⟩) ss.length k4, .int .i64 got, v6, v7, v8] w) (hco : CO lo v3 (.slice (some ⟨a4, 0, none⟩) ss.length k4) v6 v7 v8 f3 [a4] f6 f7 f8 qs ss es os xs w) (hlg : lo ≤ G) (hacks : layIntS.rd w0 [.slice pa an pc] acks) (hb0 : Below w0.heap.size w0 w) (hlo : w0.heap.size ≤ lo) (hlw : lo ≤ w.heap.size) :
    Calls Try.prog 70 #[.pointer (some ⟨G, 0, none⟩), .slice pa an pc] w (DropSentEnd lo G me peer next got v3 v6 v7 v8 f3 f6 f7 f8 a4 k4 (takeAcks acks ss).length qs (takeAcks acks ss) es os xs w) := by
  obtain ⟨n4, HN4⟩ : ∃ n : Nat, Hid (n = (takeAcks acks ss).length) := ⟨_, Lib.hid rfl⟩
  rw [← HN4.out]
  have hal : Below w.heap.size w (w.alloc (.cells #[.slice pa an pc] 25)) := (Below.refl _ _).alloc (Nat.le_refl _) _
  have HV := Lib.hid (hv.next hal)
  have HCO := Lib.hid (hco.next hal)
  have HQ : Hid (AcksAt w0 w.heap.size pa an pc acks (w.alloc (.cells #[.slice pa an pc] 25))) := Lib.hid ⟨hacks, hb0.trans (hal.mono hb0.size), VarA.new w _ _⟩
  have HAL := Lib.hid hal
  have hG := hv.lt
  clear hv hco hacks hb0 hal
  go_enter Try.func70, Try.ntmps70
  go_upto_region 1 with fail
  generalize w.alloc (.cells #[.slice pa an pc] 25) = X0 at *
  have c4 : X0.cell? ⟨G, 4, none⟩ = some (.slice (some ⟨a4, 0, none⟩) ss.length k4) := HV.out.cell 4
  have K := Lib.hid (deleteFunc_any lo a4 k4 ss ls w0 w.heap.size pa an pc acks la X0 hlo HCO.out.s HQ.out)
  unfold DeleteEnd at K
  rw [← HN4.out] at K
  go_wp2_with fail
  refine (K.out).mono ?_
  rintro e w1 ⟨rfl, hown, hcg⟩
  have hG4 : G ∉ [a4] := fun hm => row_off flatPending HCO.out.s HV.out (by decide) hm
  have V1 : VarA G ChanT #[.int .i64 me, .int .i64 peer, .int .i64 next, v3, .slice (some ⟨a4, 0, none⟩) ss.length k4, .int .i64 got, v6, v7, v8] w1 := ⟨(hcg.block G HV.out.lt hG4).trans HV.out.row⟩
  have C1 : Hid (CO lo v3 (.slice (some ⟨a4, 0, none⟩) n4 k4) v6 v7 v8 f3 [a4] f6 f7 f8 qs (takeAcks acks ss) es os xs w1) := Lib.hid ⟨layStringS.chg HCO.out.q hcg (fun g hg hm => rows_off flatString flatPending HCO.out.q HCO.out.s (by decide) g hg hm), hown, layEarlyS.chg HCO.out.e hcg (fun g hg hm => rows_off flatEarly flatPending HCO.out.e HCO.out.s (by decide) g hg hm), layIntS.chg HCO.out.o hcg (fun g hg hm => rows_off flatIntP flatPending HCO.out.o HCO.out.s (by decide) g hg hm), layStringS.chg HCO.out.x hcg (fun g hg hm => rows_off flatString flatPending HCO.out.x HCO.out.s (by decide) g hg hm), HCO.out.ap⟩
  have la4 := (layPendingS.blocks HCO.out.s a4 (by simp)).1
  have B1 : Below lo w w1 := (HAL.out.mono hlw).trans (hcg.below (fun g hg => by rw [List.mem_singleton] at hg; omega) (Nat.le_trans hlw HAL.out.size))
  have O4 : Only G w1 (w1.setCell ⟨G, 4, none⟩ (.slice (some ⟨a4, 0, none⟩) n4 k4)) := Only.setCell 4 _
  have V2 : Hid (VarA G ChanT #[.int .i64 me, .int .i64 peer, .int .i64 next, v3, .slice (some ⟨a4, 0, none⟩) n4 k4, .int .i64 got, v6, v7, v8] (w1.setCell ⟨G, 4, none⟩ (.slice (some ⟨a4, 0, none⟩) n4 k4))) := Lib.hid (V1.set 4 _)
  have C2 := Lib.hid (C1.out.only O4 V1 (by decide) (by decide) (by decide) (by decide))
  have B2 := Lib.hid (B1.trans (only_below O4 hlg (Nat.le_trans hlw B1.size)))
  have d4 : w1.cell? ⟨G, 4, none⟩ = some (.slice (some ⟨a4, 0, none⟩) ss.length k4) := V1.cell 4
  have z4 := V1.free 4
  clear hown hcg V1 C1 B1 O4 K
  go_wp2_with fail
  exact bodyPost_end (results_none rfl _ _ _) rfl ⟨rfl, V2.out, C2.out, B2.out⟩

set_option maxRecDepth 100000 in
set_option maxHeartbeats 1600000 in
theorem owe_any (lo G : Nat) (me peer next got : Int) (num : Int) (v3 v4 v6 v7 v8 : Value) (f3 f4 f6 f7 f8 : List Nat) (qs : List ByteArray) (ss : List PendingD) (es : List EarlyD) (os : List Int) (xs : List ByteArray) (lo7 : os.length ≤ 1000000) (w : World)
    (hv : VarA G ChanT #[.int .i64 me, .int .i64 peer, .int .i64 next, v3, v4, .int .i64 got, v6, v7, v8] w) (hco : CO lo v3 v4 v6 v7 v8 f3 f4 f6 f7 f8 qs ss es os xs w) (hlg : lo ≤ G) (hlw : lo ≤ w.heap.size) :
    Calls Try.prog 71 #[.pointer (some ⟨G, 0, none⟩), .int .i64 num] w (OweEnd lo G me peer next got v3 v4 v6 v8 f3 f4 f6 f8 qs ss es (takeOwed num os) xs w) := by
  obtain ⟨oa, oc, rfl⟩ := rows_form (layIntS.read hco.o)
  obtain ⟨i0, hi0, hz0, hsz0, hby0⟩ := info_of infoInt
  have HV := Lib.hid hv
  have HCO := Lib.hid hco
  clear hv hco
  have c7 : w.cell? ⟨G, 7, none⟩ = some (.slice oa os.length oc) := HV.out.cell 7
  have hsame : ¬ (os.length < 4 ∧ num ∉ os) → Hid (∃ u7 h7, VarA G ChanT #[.int .i64 me, .int .i64 peer, .int .i64 next, v3, v4, .int .i64 got, v6, u7, v8] w ∧ CO lo v3 v4 v6 u7 v8 f3 f4 f6 h7 f8 qs ss es (takeOwed num os) xs w ∧ Below lo w w) := fun hn => Lib.hid (by
    unfold takeOwed
    rw [if_neg hn]
    exact ⟨_, _, HV.out, HCO.out, Below.refl _ _⟩)
  by_cases hlen : os.length < 4
  case neg =>
    have h1 : ¬ ((os.length : Int) < 4) := by omega
    have HE := hsame (fun h => hlen h.1)
    clear hsame
    go_enter Try.func71, Try.ntmps71
    go_wp2_with fail
    exact bodyPost_end (results_none rfl _ _ _) rfl ⟨rfl, HE.out⟩
  have h1 : (os.length : Int) < 4 := by omega
  obtain ⟨bb, HBB⟩ : ∃ c : Bool, Hid (c = true ↔ num ∈ os) := ⟨decide _, Lib.hid decide_eq_true_iff⟩
  have K := Lib.hid (containsInt_any os num _ bb HBB.out (by omega) w (layIntS.read HCO.out.o))
  cases bb with
  | true =>
    have HE := hsame (fun h => h.2 (HBB.out.1 rfl))
    clear hsame
    go_enter Try.func71, Try.ntmps71
    go_wp2_with fail
    refine (K.out).mono ?_
    rintro e X1 ⟨rfl, hw⟩
    have hw' := hw.symm
    subst hw'
    clear hw
    go_wp2_with fail
    exact bodyPost_end (results_none rfl _ _ _) rfl ⟨rfl, HE.out⟩
  | false =>
    have hnot : num ∉ os := fun h => by cases HBB.out.2 h
    have HT : Hid (takeOwed num os = os ++ [num]) := Lib.hid (by unfold takeOwed; rw [if_pos ⟨hlen, hnot⟩])
    clear hsame hnot
    rw [HT.out]
    go_enter Try.func71, Try.ntmps71
    go_wp2_with fail
    refine (K.out).mono ?_
    rintro e X1 ⟨rfl, hw⟩
    have hw' := hw.symm
    subst hw'
    clear hw
    go_wp2_with (at_builtin; refine wpList_pushT w rfl _ _ 25 rfl lo 3 i0 _ 8 Lay.int flatIntP Try.underlying25 hi0 hz0 hsz0 hby0 rfl (by omega) (.slice oa os.length oc) f7 os (by rfl) HCO.out.o num #[.int .i64 num] rfl (by rfl) (by omega) hlw ?_; intro v1 w1 hown1 hnn1 htl1 hgr1 hbe1; obtain ⟨a9, k9, rfl, hblk, hg1b, hg1l⟩ := flat_some flatIntP hown1 hnn1; rw [hblk] at hown1; obtain ⟨l9, HL9⟩ : ∃ l : Nat, Hid (l = (os ++ [num]).length) := ⟨_, Lib.hid rfl⟩; rw [← HL9.out] at hown1; rw [← HL9.out]; have hchg := Chg.grown hgr1 f7 (fun k hk => by obtain ⟨us, _, _, rfl⟩ := flat_inv flatIntP HCO.out.o; simp [blk, hk]); have hvr : VarA G ChanT #[.int .i64 me, .int .i64 peer, .int .i64 next, v3, v4, .int .i64 got, v6, .slice oa os.length oc, v8] w1 := ⟨by rw [hchg.block G HV.out.lt (fun hm => row_off flatIntP HCO.out.o HV.out (by decide) hm)]; exact HV.out.row⟩; have f9 : w1.cell? ⟨G, 7, none⟩ = some (.slice oa os.length oc) := hvr.cell 7; have u9 := hvr.free 7)
    have C1 : Hid (CO lo v3 v4 v6 (.slice (some ⟨a9, 0, none⟩) l9 k9) v8 f3 f4 f6 [a9] f8 qs ss es (os ++ [num]) xs w1) := Lib.hid ⟨layStringS.chg HCO.out.q hchg (fun g hg hm => rows_off flatString flatIntP HCO.out.q HCO.out.o (by decide) g hg hm), layPendingS.chg HCO.out.s hchg (fun g hg hm => rows_off flatPending flatIntP HCO.out.s HCO.out.o (by decide) g hg hm), layEarlyS.chg HCO.out.e hchg (fun g hg hm => rows_off flatEarly flatIntP HCO.out.e HCO.out.o (by decide) g hg hm), hown1, layStringS.chg HCO.out.x hchg (fun g hg hm => rows_off flatString flatIntP HCO.out.x HCO.out.o (by decide) g hg hm), HCO.out.ap⟩
    have O7 : Only G w1 (w1.setCell ⟨G, 7, none⟩ (.slice (some ⟨a9, 0, none⟩) l9 k9)) := Only.setCell 7 _
    have V2 : Hid (VarA G ChanT #[.int .i64 me, .int .i64 peer, .int .i64 next, v3, v4, .int .i64 got, v6, .slice (some ⟨a9, 0, none⟩) l9 k9, v8] (w1.setCell ⟨G, 7, none⟩ (.slice (some ⟨a9, 0, none⟩) l9 k9))) := Lib.hid (hvr.set 7 _)
    have C2 := Lib.hid (C1.out.only O7 hvr (by decide) (by decide) (by decide) (by decide))
    have B2 := Lib.hid (hbe1.trans (only_below O7 hlg (Nat.le_trans hlw hbe1.size)))
    clear hown1 hnn1 htl1 hgr1 hbe1 hblk hchg hvr C1 O7
    go_wp2_with fail
    exact bodyPost_end (results_none rfl _ _ _) rfl ⟨rfl, _, _, V2.out, C2.out, B2.out⟩

end Go.Proofs.Ythljmjbmmgligar
namespace Go.Proofs.Ythljmjbmmgligar
open Go.RowKit

/-- What cmp.Compare answers. -/
def cmpI (x y : Int) : Int := if x < y then -1 else if y < x then 1 else 0
/-- What cmp.Or answers of two. -/
def orI (x y : Int) : Int := if x = 0 then y else x

theorem isNaN_any (x : Int) (w : World) : Calls Try.prog 100 #[.int .i64 x] w fun e w' => e = .returned (.bool false) ∧ w' = w := by
  have h : (x != x) = false := by rw [bne_eq_false_iff_eq]
  go_enter Try.func100, Try.ntmps100
  go_wp2_with fail
  go_ret
  exact ⟨rfl, rfl⟩

theorem compare_any (x y : Int) (w : World) : Calls Try.prog 95 #[.int .i64 x, .int .i64 y] w fun e w' => e = .returned (.int .i64 (cmpI x y)) ∧ w' = w := by
  by_cases h1 : x < y
  · have h : cmpI x y = -1 := if_pos h1
    rw [h]
    clear h
    go_enter Try.func95, Try.ntmps95
    go_wp2_with (go_at_call 100; refine (isNaN_any _ _).mono ?_; rintro e w' ⟨rfl, hw⟩; rw [hw])
    go_ret
    exact ⟨rfl, rfl⟩
  · by_cases h2 : y < x
    · have h : cmpI x y = 1 := by rw [cmpI, if_neg h1, if_pos h2]
      rw [h]
      clear h
      go_enter Try.func95, Try.ntmps95
      go_wp2_with (go_at_call 100; refine (isNaN_any _ _).mono ?_; rintro e w' ⟨rfl, hw⟩; rw [hw])
      go_ret
      exact ⟨rfl, rfl⟩
    · have h : cmpI x y = 0 := by rw [cmpI, if_neg h1, if_neg h2]
      rw [h]
      clear h
      go_enter Try.func95, Try.ntmps95
      go_wp2_with (go_at_call 100; refine (isNaN_any _ _).mono ?_; rintro e w' ⟨rfl, hw⟩; rw [hw])
      go_ret
      exact ⟨rfl, rfl⟩

theorem pair_new0 (X : World) (g : Nat) (hg : g = X.heap.size) (u0 u1 : Value) (t : TypeId) : (X.alloc (.cells #[u0, u1] t)).drew.cell? ⟨g, 0, none⟩ = some u0 := by
  subst hg
  exact cell_of_row _ _ 0 _ _ (0, 0) (heap_alloc_new X _)
theorem pair_new1 (X : World) (g : Nat) (hg : g = X.heap.size) (u0 u1 : Value) (t : TypeId) : (X.alloc (.cells #[u0, u1] t)).drew.cell? ⟨g, 1, none⟩ = some u1 := by
  subst hg
  exact cell_of_row _ _ 1 _ _ (0, 0) (heap_alloc_new X _)

end Go.Proofs.Ythljmjbmmgligar

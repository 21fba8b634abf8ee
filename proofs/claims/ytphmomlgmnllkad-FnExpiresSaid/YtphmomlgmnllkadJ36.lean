/-
  The program's pools.
  What the laws on leases ask, in plain words; no program is spoken of here.
  Pools as they are drawn are right; no program is spoken of here.
  A byte that is drawn: it lies in 0 .. 255, the cursor stays one, and no other block is written.
  A number below another one, and a choice, drawn.
  A cursor laid over bytes.
-/
import Derived.Test.YtphmomlgmnllkadJ34
import Derived.Test.YtphmomlgmnllkadJ35
import Derived.Test.YtphmomlgmnllkadJ28
import Derived.Test.YtphmomlgmnllkadRows
import Derived.Test.YtphmomlgmnllkadJ03
import Derived.Test.YtphmomlgmnllkadJ01
import Derived.Deep.QuietTactic
namespace Go.Proofs.Ytphmomlgmnllkad

end Go.Proofs.Ytphmomlgmnllkad
namespace Go.Proofs.Ytphmomlgmnllkad

/-- There is one answer. -/
theorem GrTold.one {pa pn : Int} {ls rs qs : List Ls} {fs : List Fx} {who now a c : Int} {b d : Bool} (h : GrTold pa pn ls fs who now rs a b) (k : GrTold pa pn ls fs who now qs c d) : rs = qs ∧ a = c ∧ b = d := by
  have clash : ∀ {n : Nat} {l : Ls}, ls[n]? = some l → l.2.1 = who → NoOne ls who → False := fun hn e hw => hw _ _ hn e
  rcases h with ⟨rfl, rfl, rfl, h4⟩ | ⟨rfl, hg, n, l, hn, e, hf, rfl, rfl⟩ | ⟨rfl, hg, hw, h6, hz, rfl, rfl⟩
  · rcases k with ⟨rfl, rfl, rfl, _⟩ | ⟨rfl, kg, m, x, hm, ex, _⟩ | ⟨rfl, kg, kw, k6, kz, _⟩
    · exact ⟨rfl, rfl, rfl⟩
    · rcases h4 with h4 | h4
      · exact absurd kg h4
      · exact (clash hm ex h4.1).elim
    · rcases h4 with h4 | ⟨_, h4 | h4⟩
      · exact absurd kg h4
      · exact absurd h4 k6
      · exact absurd h4 kz
  · rcases k with ⟨rfl, rfl, rfl, k4⟩ | ⟨rfl, kg, m, x, hm, ex, kf, rfl, rfl⟩ | ⟨rfl, kg, kw, _⟩
    · rcases k4 with k4 | k4
      · exact absurd hg k4
      · exact (clash hn e k4.1).elim
    · have : n = m := by
        rcases Nat.lt_trichotomy n m with h1 | h1 | h1
        · exact absurd e (kf n h1 l hn)
        · exact h1
        · exact absurd ex (hf m h1 x hm)
      subst this
      rw [hn] at hm
      cases hm
      exact ⟨rfl, rfl, rfl⟩
    · exact (clash hn e kw).elim
  · rcases k with ⟨rfl, rfl, rfl, k4⟩ | ⟨rfl, kg, m, x, hm, ex, _⟩ | ⟨rfl, _, _, _, _, rfl, rfl⟩
    · rcases k4 with k4 | ⟨_, k4 | k4⟩
      · exact absurd hg k4
      · exact absurd k4 h6
      · exact absurd k4 hz
    · exact (clash hm ex hw).elim
    · exact ⟨rfl, rfl, rfl⟩
theorem RelTold.one {pa pn : Int} {ls rs qs : List Ls} {fs : List Fx} {who : Int} {b d : Bool} (h : RelTold pa pn ls fs who rs b) (k : RelTold pa pn ls fs who qs d) : rs = qs ∧ b = d := by
  rcases h with ⟨rfl, h1, rfl⟩ | ⟨rfl, rfl, h1⟩ <;> rcases k with ⟨rfl, k1, rfl⟩ | ⟨rfl, rfl, k1⟩
  · exact ⟨rfl, rfl⟩
  · exact absurd h1 k1
  · exact absurd k1 h1
  · exact ⟨rfl, rfl⟩

/-- Not granted: nothing is changed. -/
theorem GrTold.same {pa pn : Int} {ls rs : List Ls} {fs : List Fx} {who now a : Int} (h : GrTold pa pn ls fs who now rs a false) : rs = ls := by
  rcases h with ⟨_, _, rfl, _⟩ | ⟨h, _⟩ | ⟨h, _⟩
  · rfl
  · cases h
  · cases h
/-- Granted: who asks has the address. -/
theorem GrTold.has {pa pn : Int} {ls rs : List Ls} {fs : List Fx} {who now a : Int} (h : GrTold pa pn ls fs who now rs a true) (hp : PoolOkP pa pn ls fs) : ∃ l ∈ rs, l.1 = a ∧ l.2.1 = who ∧ l.2.2 = now + 20 := by
  rcases h with ⟨h, _⟩ | ⟨_, hg, n, l, hn, e, hf, rfl, rfl⟩ | ⟨_, hg, hw, h6, hz, rfl, rfl⟩
  · cases h
  · exact ⟨(l.1, l.2.1, now + 20), List.mem_iff_getElem?.2 ⟨n, by rw [List.getElem?_set_self (List.getElem?_eq_some_iff.1 hn).1]⟩, rfl, e, rfl⟩
  · exact ⟨(freeP pa pn ls fs who, who, now + 20), (mem_with (free_right hp hw hz).2.2 _).2 (.inl rfl), rfl, rfl, rfl⟩
/-- All others keep theirs. -/
theorem GrTold.others {pa pn : Int} {ls rs : List Ls} {fs : List Fx} {who now a : Int} {b : Bool} (h : GrTold pa pn ls fs who now rs a b) (hp : PoolOkP pa pn ls fs) (l : Ls) (hl : l ∈ ls) (hw : l.2.1 ≠ who) : holderP rs l.1 = l.2.1 := by
  refine holder_mem (h.right hp).leases l ?_
  rcases h with ⟨_, _, rfl, _⟩ | ⟨_, hg, n, x, hn, e, hf, rfl, rfl⟩ | ⟨_, hg, hw2, h6, hz, rfl, rfl⟩
  · exact hl
  · rw [renew_eq hp.leases n x _ hn]
    exact List.mem_map.2 ⟨l, hl, by rw [renewL, if_neg (by rw [e]; exact hw)]⟩
  · exact (mem_with (free_right hp hw2 hz).2.2 l).2 (.inr hl)
/-- The address is within. -/
theorem GrTold.inside {pa pn : Int} {ls rs : List Ls} {fs : List Fx} {who now a : Int} (h : GrTold pa pn ls fs who now rs a true) (hp : PoolOkP pa pn ls fs) : insideP pa pn a = true := by
  obtain ⟨l, hl, rfl, _⟩ := h.has hp
  exact ((h.right hp).leases.1 l hl).1
/-- Asked again: the same. -/
theorem GrTold.again {pa pn : Int} {ls rs : List Ls} {fs : List Fx} {who now c : Int} {b : Bool} (h : GrTold pa pn ls fs who now rs c b) (hp : PoolOkP pa pn ls fs) (hg : (1 ≤ who ∧ who ≤ 99) ∧ (0 ≤ now ∧ now ≤ 999999980)) (l : Ls) (hl : l ∈ ls) (e : l.2.1 = who) : b = true ∧ c = l.1 := by
  have hno : ¬ NoOne ls who := fun hw => by
    obtain ⟨j, hj⟩ := List.mem_iff_getElem?.1 hl
    exact hw j l hj e
  rcases h with ⟨_, _, rfl, h4⟩ | ⟨rfl, _, n, x, hn, ex, hf, rfl, rfl⟩ | ⟨_, _, hw2, _⟩
  · rcases h4 with h4 | h4
    · exact absurd ⟨hp, hg.1, hg.2⟩ h4
    · exact absurd h4.1 hno
  · exact ⟨rfl, by rw [one_who hp.leases x l (List.mem_of_getElem? hn) hl (ex.trans e.symm)]⟩
  · exact absurd hw2 hno
/-- Released: it is free. -/
theorem RelTold.free {pa pn : Int} {ls rs : List Ls} {fs : List Fx} {who : Int} {b : Bool} (h : RelTold pa pn ls fs who rs b) (hp : PoolOkP pa pn ls fs) (l : Ls) (hl : l ∈ ls) (e : l.2.1 = who) : b = true ∧ holderP rs l.1 = 0 := by
  have hlt : (ls.filter fun l => l.2.1 != who).length ≠ ls.length := fun h1 => by
    have h2 := List.length_filter_eq_length_iff.1 h1 l hl
    rw [bne_iff_ne] at h2
    exact h2 e
  rcases h with ⟨rfl, _, rfl⟩ | ⟨_, _, h3⟩
  · refine ⟨rfl, holder_not fun x hx ex => ?_⟩
    obtain ⟨h4, h5⟩ := List.mem_filter.1 hx
    have := one_addr hp.leases x l h4 hl ex
    subst this
    rw [bne_iff_ne] at h5
    exact h5 e
  · exact absurd ⟨hp, hlt⟩ h3

end Go.Proofs.Ytphmomlgmnllkad
namespace Go.Proofs.Ytphmomlgmnllkad

/-- Fixed ones that are right, by pairs. -/
def FixesR (pa pn : Int) (fs : List Fx) : Prop := (∀ f ∈ fs, (1 ≤ f.1 ∧ f.1 ≤ 99) ∧ insideP pa pn f.2 = true) ∧ fs.Pairwise (fun x y => x.1 < y.1) ∧ fs.Pairwise (fun x y => x.2 ≠ y.2)
theorem fixes_ok {pa pn : Int} {fs : List Fx} (h : FixesR pa pn fs) (i : Nat) (f : Fx) (hf : fs[i]? = some f) : FixOk pa pn fs i f :=
  ⟨(h.1 f (List.mem_of_getElem? hf)).1, (h.1 f (List.mem_of_getElem? hf)).2, fun g hi hg => at_of_pair _ _ h.2.1 i (i - 1) g f (by omega) hg hf, fixed_at fs f.2 i f hf (fun j hj x hx => at_of_pair _ _ h.2.2 i j x f hj hx hf) rfl⟩
theorem fixes_nil (pa pn : Int) : FixesR pa pn [] := ⟨fun f h => absurd h (by simp), List.Pairwise.nil, List.Pairwise.nil⟩
theorem fixed_zero {pa pn : Int} {fs : List Fx} (h : FixesR pa pn fs) {a : Int} (hz : fixedP fs a = 0) : ∀ f ∈ fs, f.2 ≠ a := by
  intro f hf e
  obtain ⟨i, hi⟩ := List.mem_iff_getElem?.1 hf
  have h1 := (fixes_ok h i f hi).2.2.2
  rw [e, hz] at h1
  have := (h.1 f hf).1
  omega
theorem FixesR.push {pa pn : Int} {fs : List Fx} (h : FixesR pa pn fs) {who a : Int} (hw : 1 ≤ who ∧ who ≤ 99) (hup : ∀ f ∈ fs, f.1 < who) (hi : insideP pa pn a = true) (hz : fixedP fs a = 0) : FixesR pa pn (fs ++ [(who, a)]) := by
  refine ⟨fun f hf => ?_, ?_, ?_⟩
  · rcases List.mem_append.1 hf with h1 | h1
    · exact h.1 f h1
    · rw [List.mem_singleton] at h1
      subst h1
      exact ⟨hw, hi⟩
  · rw [List.pairwise_append]
    refine ⟨h.2.1, List.pairwise_singleton _ _, fun x hx y hy => ?_⟩
    rw [List.mem_singleton] at hy
    subst hy
    exact hup x hx
  · rw [List.pairwise_append]
    refine ⟨h.2.2, List.pairwise_singleton _ _, fun x hx y hy => ?_⟩
    rw [List.mem_singleton] at hy
    subst hy
    exact fixed_zero h hz x hx
/-- A pool without leases. -/
theorem pool_new {pa pn : Int} {fs : List Fx} (hp : PrefOk pa pn) (h1 : 24 ≤ pn) (h2 : pn ≤ 30) (h : FixesR pa pn fs) (hl : fs.length ≤ 4) : PoolOkP pa pn [] fs :=
  ⟨⟨hp, h1, h2, by simp, hl⟩, fun i f hf => fixes_ok h i f hf, fun i l hl => by simp at hl⟩
/-- The net that is drawn. -/
theorem net_drawn (n : Nat) (h : n = 24 ∨ n = 28 ∨ n = 29 ∨ n = 30) : PrefOk 167772160 n ∧ 24 ≤ (n : Int) ∧ (n : Int) ≤ 30 := by
  rcases h with rfl | rfl | rfl | rfl <;> exact ⟨⟨⟨by decide, by decide⟩, ⟨by decide, by decide⟩, by decide⟩, by decide, by decide⟩

end Go.Proofs.Ytphmomlgmnllkad
namespace Go.Proofs.Ytphmomlgmnllkad
open Go.RowKit

set_option maxRecDepth 100000 in
theorem byte_out (c len cap i : Nat) (a : Option Addr) (h : Int) (w : World) (hi : ¬ i < len)
    (c0 : w.cell? ⟨c, 0, none⟩ = some (.slice a len cap)) (c1 : w.cell? ⟨c, 1, none⟩ = some (.int .i64 i)) (c2 : w.cell? ⟨c, 2, none⟩ = some (.int .i64 h))
    (f2 : w.frozen? ⟨c, 2, none⟩ = false) :
    Calls Try.prog 14 #[.pointer (some ⟨c, 0, none⟩)] w fun e w' => ∃ x h' : Int, ∃ n m : Nat, 0 ≤ x ∧ x ≤ 255 ∧ e = .returned (.int .i64 x) ∧ w' = ((w.setCell ⟨c, 2, none⟩ (.int .i64 h')).drewN n).drewN m := by
  go_enter Try.func14, Try.ntmps14
  go_wp2
  go_quiet (fail)
  go_wp2
  go_quiet (fail)
  go_wp2
  go_ret
  exact ⟨_, _, _, _, (and_mask _ 255 (by decide)).1, (and_mask _ 255 (by decide)).2, rfl, rfl⟩

set_option maxRecDepth 100000 in
theorem byte_in (c len cap i b off : Nat) (h z : Int) (w : World) (hi : i < len) (hlen : len ≤ 1048576) (hbc : b < c) (_ : 0 ≤ z) (_ : z ≤ 255)
    (c0 : w.cell? ⟨c, 0, none⟩ = some (.slice (some ⟨b, off, none⟩) len cap)) (c1 : w.cell? ⟨c, 1, none⟩ = some (.int .i64 i)) (c2 : w.cell? ⟨c, 2, none⟩ = some (.int .i64 h))
    (hz : w.cell? ⟨b, off + i, none⟩ = some (.int .u8 z)) (f1 : w.frozen? ⟨c, 1, none⟩ = false) (f2 : w.frozen? ⟨c, 2, none⟩ = false) :
    Calls Try.prog 14 #[.pointer (some ⟨c, 0, none⟩)] w fun e w' => ∃ x h' : Int, ∃ n : Nat, 0 ≤ x ∧ x ≤ 255 ∧ e = .returned (.int .i64 x) ∧ w' = ((w.setCell ⟨c, 2, none⟩ (.int .i64 h')).drewN n).setCell ⟨c, 1, none⟩ (.int .i64 ((i : Int) + 1)) := by
  have hne : b ≠ c := by omega
  go_enter Try.func14, Try.ntmps14
  go_wp2
  go_quiet (fail)
  go_wp2
  go_quiet (fail)
  go_wp2
  go_quiet (fail)
  go_wp2
  go_ret
  exact ⟨_, _, _, (and_mask _ 255 (by decide)).1, (and_mask _ 255 (by decide)).2, rfl, rfl⟩

theorem byte_any {c : Nat} {a : Option Addr} {len cap : Nat} (w : World) (H : Cur c a len cap w) :
    Calls Try.prog 14 #[.pointer (some ⟨c, 0, none⟩)] w (DrewInt 255 c a len cap w) := by
  obtain ⟨i, hi, c1⟩ := H.c1
  obtain ⟨h, c2⟩ := H.c2
  have c0 := H.c0
  have f1 := H.f1
  have f2 := H.f2
  rcases Nat.lt_or_ge i len with hlt | hge
  · obtain ⟨b, off, z, rfl, hbc, hz, hz0, hz1⟩ := H.bytes i hlt
    refine (byte_in c len cap i b off h z w hlt H.few hbc hz0 hz1 c0 c1 c2 hz f1 f2).mono ?_
    rintro e w' ⟨x, h', n, x0, x1, rfl, rfl⟩
    have ho : Only c w (((w.setCell ⟨c, 2, none⟩ (.int .i64 h')).drewN n).setCell ⟨c, 1, none⟩ (.int .i64 ((i : Int) + 1))) := ((Only.setCell 2 _).drewN n).trans (.setCell 1 _)
    refine ⟨x, x0, x1, rfl, H.turn ho ?_ ⟨i + 1, hlt, ?_⟩ ⟨h', ?_⟩ ?_ ?_, ho⟩
    · rw [set_off _ _ _ _ _ (by decide), World.cell?_drewN, set_off _ _ _ _ _ (by decide)]
      exact c0
    · exact set_on _ _ _ (.int .i64 i) _ (by rw [World.cell?_drewN, set_off _ _ _ _ _ (by decide)]; exact c1)
    · rw [set_off _ _ _ _ _ (by decide), World.cell?_drewN, set_on _ _ _ _ _ c2]
    · simp [f1]
    · simp [f2]
  · refine (byte_out c len cap i a h w (by omega) c0 c1 c2 f2).mono ?_
    rintro e w' ⟨x, h', n, m, x0, x1, rfl, rfl⟩
    have ho : Only c w (((w.setCell ⟨c, 2, none⟩ (.int .i64 h')).drewN n).drewN m) := ((Only.setCell 2 _).drewN n).drewN m
    refine ⟨x, x0, x1, rfl, H.turn ho ?_ ⟨i, hi, ?_⟩ ⟨h', ?_⟩ ?_ ?_, ho⟩
    · rw [World.cell?_drewN, World.cell?_drewN, set_off _ _ _ _ _ (by decide)]
      exact c0
    · rw [World.cell?_drewN, World.cell?_drewN, set_off _ _ _ _ _ (by decide)]
      exact c1
    · rw [World.cell?_drewN, World.cell?_drewN, set_on _ _ _ _ _ c2]
    · simp [f1]
    · simp [f2]

end Go.Proofs.Ytphmomlgmnllkad
namespace Go.Proofs.Ytphmomlgmnllkad
open Go.RowKit

set_option maxRecDepth 100000 in
set_option maxHeartbeats 400000 in
theorem below_few {c : Nat} {a : Option Addr} {len cap : Nat} (n : Int) (h0 : 0 < n) (h1 : n ≤ 256) (w : World) (H : Cur c a len cap w) :
    Calls Try.prog 15 #[.pointer (some ⟨c, 0, none⟩), .int .i64 n] w (DrewInt (n - 1) c a len cap w) := by
  have HC := Lib.hid H
  clear H
  go_enter Try.func15, Try.ntmps15
  go_wp2_with fail
  refine (byte_any _ HC.out).mono ?_
  rintro e w1 ⟨x, x0, x1, rfl, hc, ho⟩
  have HC1 := Lib.hid hc
  have HO := Lib.hid ho
  clear hc ho
  go_wp2
  go_ret
  exact ⟨_, Int.emod_nonneg _ (by omega), by have := Int.emod_lt_of_pos x h0; omega, rfl, HC1.out, HO.out⟩

set_option maxRecDepth 100000 in
set_option maxHeartbeats 400000 in
theorem below_many {c : Nat} {a : Option Addr} {len cap : Nat} (n : Int) (h0 : 256 < n) (h1 : n ≤ 9223372036854775807) (w : World) (H : Cur c a len cap w) :
    Calls Try.prog 15 #[.pointer (some ⟨c, 0, none⟩), .int .i64 n] w (DrewInt (n - 1) c a len cap w) := by
  have HC := Lib.hid H
  clear H
  go_enter Try.func15, Try.ntmps15
  go_wp2_with fail
  refine (byte_any _ HC.out).mono ?_
  rintro e w1 ⟨x, x0, x1, rfl, hc, ho⟩
  have HC1 := Lib.hid hc
  have HO1 := Lib.hid ho
  clear hc ho
  go_wp2_with fail
  refine (byte_any _ HC1.out).mono ?_
  rintro e w2 ⟨y, y0, y1, rfl, hc, ho⟩
  have HC2 := Lib.hid hc
  have HO2 := Lib.hid ho
  clear hc ho
  go_wp2_with fail
  refine (byte_any _ HC2.out).mono ?_
  rintro e w3 ⟨z, z0, z1, rfl, hc, ho⟩
  have HC3 := Lib.hid hc
  have HO3 := Lib.hid ho
  clear hc ho
  go_wp2_with fail
  refine (byte_any _ HC3.out).mono ?_
  rintro e w4 ⟨u, u0, u1, rfl, hc, ho⟩
  have HC4 := Lib.hid hc
  have HO4 := Lib.hid ho
  clear hc ho
  go_wp2
  go_ret
  refine ⟨_, ?_, ?_, rfl, HC4.out, ((HO1.out.trans HO2.out).trans HO3.out).trans HO4.out⟩
  · exact Int.emod_nonneg _ (by omega)
  · have := Int.emod_lt_of_pos (x * 16777216 + y * 65536 + z * 256 + u) (show 0 < n by omega)
    omega

theorem below_any {c : Nat} {a : Option Addr} {len cap : Nat} (n : Int) (h0 : 0 < n) (h1 : n ≤ 9223372036854775807) (w : World) (H : Cur c a len cap w) :
    Calls Try.prog 15 #[.pointer (some ⟨c, 0, none⟩), .int .i64 n] w (DrewInt (n - 1) c a len cap w) := by
  rcases Int.lt_or_le 256 n with h | h
  · exact below_many n h h1 w H
  · exact below_few n h0 h w H

set_option maxRecDepth 100000 in
theorem once_any {c : Nat} {a : Option Addr} {len cap : Nat} (n : Int) (h0 : 0 < n) (h1 : n ≤ 9223372036854775807) (w : World) (H : Cur c a len cap w) :
    Calls Try.prog 26 #[.pointer (some ⟨c, 0, none⟩), .int .i64 n] w fun e w' => ∃ b : Bool, e = .returned (.bool b) ∧ Cur c a len cap w' ∧ Only c w w' := by
  have HC := Lib.hid H
  clear H
  go_enter Try.func26, Try.ntmps26
  go_wp2_with fail
  refine (below_any n h0 h1 _ HC.out).mono ?_
  rintro e w1 ⟨x, -, -, rfl, hc, ho⟩
  have HC1 := Lib.hid hc
  have HO1 := Lib.hid ho
  clear hc ho
  go_wp2_with fail
  go_ret
  exact ⟨_, rfl, HC1.out, HO1.out⟩

end Go.Proofs.Ytphmomlgmnllkad
namespace Go.Proofs.Ytphmomlgmnllkad
open Go.RowKit

/-- How a cursor's making ends. -/
def DrewCur (a : Option Addr) (len cap : Nat) (w : World) (e : Ending) (w' : World) : Prop :=
  ∃ c : Nat, e = .returned (.pointer (some ⟨c, 0, none⟩)) ∧ w.heap.size ≤ c ∧ Cur c a len cap w' ∧ Below w.heap.size w w'

theorem drewCur_alloc (a : Option Addr) (len cap : Nat) (z : Int) (t : TypeId) (w : World) (H : Src a len w) :
    DrewCur a len cap w (.returned (.pointer (some ⟨w.heap.size, 0, none⟩))) (w.alloc (.cells #[.slice a len cap, .int .i64 0, .int .i64 z] t)) := by
  refine ⟨w.heap.size, rfl, Nat.le_refl _, ⟨H.few, by simp, ⟨0, Nat.zero_le _, by simp⟩, ⟨z, by simp⟩, by simp, by simp, fun j hj => ?_⟩, (Below.refl _ _).alloc (Nat.le_refl _) _⟩
  obtain ⟨b, off, x, ha, hs, hx, x0, x1⟩ := H.bytes j hj
  have hb := (Below.refl w.heap.size w).alloc (Nat.le_refl _) (.cells #[.slice a len cap, .int .i64 0, .int .i64 z] t)
  exact ⟨b, off, x, ha, hs, by rw [hb.cell (p := ⟨b, off + j, none⟩) hs]; exact hx, x0, x1⟩

set_option maxRecDepth 100000 in
set_option maxHeartbeats 800000 in
theorem new_any (a : Option Addr) (len cap : Nat) (w : World) (H : Src a len w) :
    Calls Try.prog 13 #[.slice a len cap] w (DrewCur a len cap w) := by
  have hlen := H.few
  have HS := Lib.hid H
  clear H
  go_enter Try.func13, Try.ntmps13
  go_wp2
  go_loopw [3, 4] (fun h i wr => ∃ k : Nat, ∃ z : Int, k ≤ len ∧ i = .int .i64 k ∧ h = .int .i64 z ∧ wr = w) (fun _ i _ => len - (intOf i).toNat)
  case atStart => exact ⟨0, _, Nat.zero_le _, rfl, rfl, rfl⟩
  case round =>
    obtain ⟨k, z, hk, rfl, rfl, rfl⟩ := hrel
    by_cases hlt : k < len
    · obtain ⟨b, off, x, rfl, hb, hx, x0, x1⟩ := HS.out.bytes k hlt
      have hlt2 : (k : Int) < (len : Int) := by omega
      by_cases h4 : (k : Int) < 4000
      · go_wp2
        go_roundw
        case rel => exact ⟨k + 1, _, by omega, by go_num, rfl, trivial⟩
        case measure => simp [intOf]; omega
      · go_wp2
        go_ret
        exact drewCur_alloc _ _ _ _ _ _ HS.out
    · go_wp2
      go_ret
      exact drewCur_alloc _ _ _ _ _ _ HS.out

end Go.Proofs.Ytphmomlgmnllkad

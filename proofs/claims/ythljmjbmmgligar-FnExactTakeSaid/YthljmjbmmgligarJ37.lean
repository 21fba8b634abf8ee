/-
  The program's keepEarly.
  Rows of flat data of the call's own, or the tail of one behind a slice that was moved on; no program is spoken of here.
-/
import Derived.Test.YthljmjbmmgligarJ35
import Derived.Test.YthljmjbmmgligarJ36
import Derived.Test.YthljmjbmmgligarJ28
import Derived.Test.YthljmjbmmgligarJ24
import Derived.Deep.RegionLaw
import Derived.Test.YthljmjbmmgligarJ05
namespace Go.Proofs.Ythljmjbmmgligar
open Go.RowKit

/-- What came early, with one more where it belongs. -/
def keptE (got num : Int) (body : ByteArray) (es : List EarlyD) : List EarlyD := if got < num ∧ ∀ e ∈ es, e.1 ≠ num then putE num body es else es
theorem filter_all (p : EarlyD → Bool) (l : List EarlyD) (h : ∀ x ∈ l, p x = true) : l.filter p = l := List.filter_eq_self.2 h
theorem filter_no (p : EarlyD → Bool) (l : List EarlyD) (h : ∀ x ∈ l, p x = false) : l.filter p = [] := List.filter_eq_nil_iff.2 (fun x hx => by rw [h x hx]; decide)
theorem place_there {num : Int} {es : List EarlyD} {i : Nat} {b : Bool} (h : PlaceE num es i b) (ha : es.Pairwise (fun a b => a.1 < b.1)) : b = true ↔ ∃ e ∈ es, e.1 = num := by
  rw [h.there]
  constructor
  · rintro ⟨x, hx, e⟩
    exact ⟨x, List.mem_of_getElem? hx, e⟩
  · rintro ⟨x, hx, e⟩
    obtain ⟨k, hk⟩ := List.getElem?_of_mem hx
    rcases Nat.lt_trichotomy k i with h1 | h1 | h1
    · have := h.less k x h1 hk
      omega
    · exact ⟨x, by rw [← h1]; exact hk, e⟩
    · obtain ⟨y, hy⟩ : ∃ y, es[i]? = some y := ⟨_, List.getElem?_eq_getElem (Nat.lt_trans h1 (List.getElem?_eq_some_iff.1 hk).1)⟩
      have h2 := asc_lt ha h1 hy hk
      have h3 := h.more i y (Nat.le_refl _) hy
      omega
theorem place_put {num : Int} {body : ByteArray} {es : List EarlyD} {i : Nat} {b : Bool} (h : PlaceE num es i b) (hn : ∀ e ∈ es, e.1 ≠ num) : es.take i ++ (num, body) :: es.drop i = putE num body es := by
  have hl : ∀ x ∈ es.take i, x.1 < num := fun x hx => by
    obtain ⟨k, hk⟩ := List.getElem?_of_mem hx
    rw [List.getElem?_take] at hk
    split at hk
    · exact h.less k x ‹_› hk
    · cases hk
  have hm : ∀ x ∈ es.drop i, num < x.1 := fun x hx => by
    have h2 := hn x (List.mem_of_mem_drop hx)
    obtain ⟨k, hk⟩ := List.getElem?_of_mem hx
    rw [List.getElem?_drop] at hk
    have := h.more (i + k) x (by omega) hk
    omega
  unfold putE
  have e1 : es.filter (fun e => decide (e.1 < num)) = es.take i := by
    have e : es.filter (fun e => decide (e.1 < num)) = (es.take i).filter (fun e => decide (e.1 < num)) ++ (es.drop i).filter (fun e => decide (e.1 < num)) := by rw [← List.filter_append, List.take_append_drop]
    rw [e, filter_all _ (es.take i) (fun x hx => by simpa using hl x hx), filter_no _ (es.drop i) (fun x hx => by have := hm x hx; simp; omega), List.append_nil]
  have e2 : es.filter (fun e => decide (num < e.1)) = es.drop i := by
    have e : es.filter (fun e => decide (num < e.1)) = (es.take i).filter (fun e => decide (num < e.1)) ++ (es.drop i).filter (fun e => decide (num < e.1)) := by rw [← List.filter_append, List.take_append_drop]
    rw [e, filter_no _ (es.take i) (fun x hx => by have := hl x hx; simp; omega), filter_all _ (es.drop i) (fun x hx => by simpa using hm x hx), List.nil_append]
  rw [e1, e2]
def KeepEnd (lo G : Nat) (me peer next got : Int) (v3 v4 v7 v8 : Value) (f3 f4 f7 f8 : List Nat) (qs : List ByteArray) (ss : List PendingD) (es : List EarlyD) (os : List Int) (xs : List ByteArray) (w : World) (e : Ending) (w' : World) : Prop :=
  e = .returned (.tuple #[]) ∧ ∃ a9 k9 : Nat, VarA G ChanT #[.int .i64 me, .int .i64 peer, .int .i64 next, v3, v4, .int .i64 got, .slice (some ⟨a9, 0, none⟩) es.length k9, v7, v8] w' ∧ CO lo v3 v4 (.slice (some ⟨a9, 0, none⟩) es.length k9) v7 v8 f3 f4 [a9] f7 f8 qs ss es os xs w' ∧ Below lo w w'

set_option maxRecDepth 100000 in
set_option maxHeartbeats 3200000 in
theorem keepEarly_any (HG : CloneGives) (lo G : Nat) (me peer next got : Int) (num : Int) (body : ByteArray) (hbs : body.size ≤ 1048576) (v3 v4 v7 v8 : Value) (f3 f4 f7 f8 : List Nat) (a6 k6 : Nat) (qs : List ByteArray) (ss : List PendingD) (es : List EarlyD) (os : List Int) (xs : List ByteArray) (le : es.length ≤ 1000000) (hasc : es.Pairwise (fun a b => a.1 < b.1)) (w : World)
    (hv : VarA G ChanT #[.int .i64 me, .int .i64 peer, .int .i64 next, v3, v4, .int .i64 got, .slice (some ⟨a6, 0, none⟩) es.length k6, v7, v8] w) (hco : CO lo v3 v4 (.slice (some ⟨a6, 0, none⟩) es.length k6) v7 v8 f3 f4 [a6] f7 f8 qs ss es os xs w) (hlg : lo ≤ G) (hlw : lo ≤ w.heap.size) :
    Calls Try.prog 72 #[.pointer (some ⟨G, 0, none⟩), .int .i64 num, .string body] w (KeepEnd lo G me peer next got v3 v4 v7 v8 f3 f4 f7 f8 qs ss (keptE got num body es) os xs w) := by
  have HV := Lib.hid hv
  have HCO := Lib.hid hco
  have HA := Lib.hid hasc
  have HC := Lib.hid HG
  have KS := Lib.hid (search_any num es _ (by omega) hasc w (layEarlyS.read hco.e))
  have c6 : w.cell? ⟨G, 6, none⟩ = some (.slice (some ⟨a6, 0, none⟩) es.length k6) := hv.cell 6
  clear hv hco hasc HG
  obtain ⟨Q, HQQ⟩ : ∃ Q : Ending → World → Prop, Hid (Q = KeepEnd lo G me peer next got v3 v4 v7 v8 f3 f4 f7 f8 qs ss (keptE got num body es) os xs w) := ⟨_, Lib.hid rfl⟩
  rw [← HQQ.out]
  go_enter Try.func72, Try.ntmps72
  go_wp2_with fail
  refine (KS.out).mono ?_
  rintro e w1 ⟨i, b, rfl, hpl, hb1⟩
  have HP := Lib.hid hpl
  have V1 := Lib.hid (HV.out.next hb1)
  have C1 := Lib.hid (HCO.out.next hb1)
  have B1 := Lib.hid (hb1.mono hlw)
  have hlw1 : lo ≤ w1.heap.size := Nat.le_trans hlw hb1.size
  clear hpl hb1 KS HV HCO c6
  have d5 : w1.cell? ⟨G, 5, none⟩ = some (.int .i64 got) := V1.out.cell 5
  have hsame : ¬ (got < num ∧ ∀ e ∈ es, e.1 ≠ num) → Hid (Q (.returned (.tuple #[])) w1) := fun hn => Lib.hid (by
    rw [HQQ.out]
    unfold keptE
    rw [if_neg hn]
    exact ⟨rfl, a6, k6, V1.out, C1.out, B1.out⟩)
  by_cases hgn : got < num
  case neg =>
    have h1 : ¬ (got < num) := hgn
    have HE := hsame (fun h => hgn h.1)
    clear hsame
    go_wp2_with fail
    exact bodyPost_end (results_none rfl _ _ _) rfl HE.out
  cases b with
  | true =>
    have HE := hsame (fun h => by obtain ⟨x, hx, e⟩ := (place_there HP.out HA.out).1 rfl; exact h.2 x hx e)
    clear hsame
    go_wp2_with fail
    exact bodyPost_end (results_none rfl _ _ _) rfl HE.out
  | false =>
    have hnone : ∀ e ∈ es, e.1 ≠ num := fun e he h => by cases (place_there HP.out HA.out).2 ⟨e, he, h⟩
    have HK : Hid (keptE got num body es = es.take i ++ (num, body) :: es.drop i) := Lib.hid (by unfold keptE; rw [if_pos ⟨hgn, hnone⟩, place_put HP.out hnone])
    clear hsame hnone
    have hil := HP.out.le
    have KC := Lib.hid (HC.out body w1.drew hbs)
    have d6 : w1.cell? ⟨G, 6, none⟩ = some (.slice (some ⟨a6, 0, none⟩) es.length k6) := V1.out.cell 6
    have d6' : w1.drew.cell? ⟨G, 6, none⟩ = some (.slice (some ⟨a6, 0, none⟩) es.length k6) := V1.out.drew.cell 6
    have ha6 := (layEarlyS.blocks C1.out.e a6 (by simp)).2
    go_upto_region 2 with fail
    go_wp2_with fail
    go_region_law (first | (go_simp; refine (KC.out).mono ?_; rintro e v1 ⟨rfl, hb0⟩; have hb2 : Below w1.heap.size w1 v1 := (Below.refl _ _).drew.trans hb0; have hb3 : Below w1.heap.size w1 (v1.alloc (.cells #[.int .i64 num, .string body] EarlyT)) := hb2.trans (((Below.refl _ _).alloc (Nat.le_refl _) _).mono hb2.size); have x6 : v1.cell? ⟨G, 6, none⟩ = some (.slice (some ⟨a6, 0, none⟩) es.length k6) := (V1.out.next hb2).cell 6; have V3 := Lib.hid (V1.out.next hb3); have C3 := Lib.hid (C1.out.next hb3); have y6 : (v1.alloc (.cells #[.int .i64 num, .string body] 72)).cell? ⟨G, 6, none⟩ = some (.slice (some ⟨a6, 0, none⟩) es.length k6) := V3.out.cell 6; have hs1 := hb2.size; have hs2 := hb3.size; have KI := Lib.hid (insert_any lo a6 k6 es le i hil (num, body) v1.heap.size (v1.alloc (.cells #[.int .i64 num, .string body] EarlyT)) (Nat.le_trans hlw1 hs2) C3.out.e (VarA.new v1 EarlyT _) (by omega))) | (go_simp; refine (KI.out).mono ?_; rintro e w2 ⟨a9, k9, rfl, hown, hcg⟩; have V4 : VarA G ChanT #[.int .i64 me, .int .i64 peer, .int .i64 next, v3, v4, .int .i64 got, .slice (some ⟨a6, 0, none⟩) es.length k6, v7, v8] w2 := ⟨(hcg.block G V3.out.lt (fun hm => row_off flatEarly C3.out.e V3.out (by decide) hm)).trans V3.out.row⟩; have z6 : w2.cell? ⟨G, 6, none⟩ = some (.slice (some ⟨a6, 0, none⟩) es.length k6) := V4.cell 6; have u6 := V4.free 6))
    all_goals
      have C4 : CO lo v3 v4 (.slice (some ⟨a9, 0, none⟩) (es.length + 1) k9) v7 v8 f3 f4 [a9] f7 f8 qs ss (es.take i ++ (num, body) :: es.drop i) os xs w2 := ⟨layStringS.chg C3.out.q hcg (fun g hg hm => rows_off flatString flatEarly C3.out.q C3.out.e (by decide) g hg hm), layPendingS.chg C3.out.s hcg (fun g hg hm => rows_off flatPending flatEarly C3.out.s C3.out.e (by decide) g hg hm), hown, layIntS.chg C3.out.o hcg (fun g hg hm => rows_off flatIntP flatEarly C3.out.o C3.out.e (by decide) g hg hm), layStringS.chg C3.out.x hcg (fun g hg hm => rows_off flatString flatEarly C3.out.x C3.out.e (by decide) g hg hm), C3.out.ap⟩
      have la6 := (layEarlyS.blocks C3.out.e a6 (by simp)).1
      have B4 : Below lo w w2 := B1.out.trans ((hb3.mono hlw1).trans (hcg.below (fun g hg => by rw [List.mem_singleton] at hg; omega) (Nat.le_trans hlw1 hs2)))
      have O6 : Only G w2 (w2.setCell ⟨G, 6, none⟩ (.slice (some ⟨a9, 0, none⟩) (es.length + 1) k9)) := Only.setCell 6 _
      have V5 : VarA G ChanT #[.int .i64 me, .int .i64 peer, .int .i64 next, v3, v4, .int .i64 got, .slice (some ⟨a9, 0, none⟩) (es.length + 1) k9, v7, v8] (w2.setCell ⟨G, 6, none⟩ (.slice (some ⟨a9, 0, none⟩) (es.length + 1) k9)) := V4.set 6 _
      have HE : Hid (Q (.returned (.tuple #[])) (w2.setCell ⟨G, 6, none⟩ (.slice (some ⟨a9, 0, none⟩) (es.length + 1) k9))) := Lib.hid (by
        rw [HQQ.out, HK.out]
        refine ⟨rfl, a9, k9, ?_, ?_, B4.trans (only_below O6 hlg (Nat.le_trans hlw B4.size))⟩
        · rw [insert_len es i (num, body) hil]
          exact V5
        · rw [insert_len es i (num, body) hil]
          exact C4.only O6 V4 (by decide) (by decide) (by decide) (by decide))
      clear hown hcg V4 C4 B4 O6 V5
      go_wp2_with fail
      exact bodyPost_end (results_none rfl _ _ _) rfl HE.out

end Go.Proofs.Ythljmjbmmgligar
namespace Go.Proofs.Ythljmjbmmgligar
open Go.RowKit

section
variable {α : Type}

/-- A tail of a row can be read. -/
theorem tail_rd {e : TypeId} {A : Lay α} {w : World} {g n cap c2 : Nat} {pre xs : List α} (hc : xs.length ≤ c2) (h : (Lay.rows e A).rd w [.slice (some ⟨g, 0, none⟩) n cap] (pre ++ xs)) (hne : pre ++ xs ≠ []) : (Lay.rows e A).rd w [.slice (some ⟨g, pre.length * A.k, none⟩) xs.length c2] xs := by
  obtain ⟨v, hv, h⟩ := h
  simp only [List.cons.injEq, and_true] at hv
  subst hv
  rcases h with ⟨h, _⟩ | ⟨g', off, cap', us, hv, _, hg, hcell, hr⟩
  · exact absurd h hne
  · simp only [Value.slice.injEq, Option.some.injEq, Addr.mk.injEq, and_true] at hv
    obtain ⟨⟨rfl, rfl⟩, _, rfl⟩ := hv
    obtain ⟨u1, u2, rfl, h1, h2⟩ := rdAll_append A hr
    refine ⟨_, rfl, .inr ⟨g, pre.length * A.k, c2, u2, rfl, hc, hg, fun i u hu => ?_, h2⟩⟩
    have hl := rdAll_len A h1
    have h3 := hcell (u1.length + i) u (by rw [List.getElem?_append_right (by omega), Nat.add_sub_cancel_left]; exact hu)
    rw [Nat.zero_add, hl] at h3
    exact h3
/-- A row, or a tail of one. -/
def Lay.tail (e : TypeId) (A : Lay α) : Lay (List α) where
  k := 1
  rd := (Lay.rows e A).rd
  own := fun w b fp cs xs => (Lay.rows e A).own w b fp cs xs ∨ (∃ (g cap c2 : Nat) (pre : List α), cs = [.slice (some ⟨g, pre.length * A.k, none⟩) xs.length c2] ∧ xs.length ≤ c2 ∧ pre ++ xs ≠ [] ∧ fp = [g] ∧ (Lay.rows e A).own w b [g] [.slice (some ⟨g, 0, none⟩) (pre ++ xs).length cap] (pre ++ xs)) ∨ (xs = [] ∧ fp = [] ∧ ∃ a c, cs = [.slice a 0 c] ∧ (a = none → c = 0))
  mark := (Lay.rows e A).mark
  pos := by decide
  len := (Lay.rows e A).len
  one := (Lay.rows e A).one
  below := (Lay.rows e A).below
  read := by
    rintro w b fp cs x (h | ⟨g, cap, c2, pre, rfl, hc, hn, rfl, h⟩ | ⟨rfl, rfl, a, c, rfl, hc⟩)
    · exact (Lay.rows e A).read h
    · exact tail_rd hc ((Lay.rows e A).read h) hn
    · exact ⟨_, rfl, .inl ⟨rfl, a, c, rfl, hc⟩⟩
  blocks := by
    rintro w b fp cs x (h | ⟨g, cap, c2, pre, rfl, hc, hn, rfl, h⟩ | ⟨rfl, rfl, _⟩)
    · exact (Lay.rows e A).blocks h
    · exact (Lay.rows e A).blocks h
    · exact fun g hg => by cases hg
  keep := by
    rintro w w' b fp cs x (h | ⟨g, cap, c2, pre, rfl, hc, hn, rfl, h⟩ | h) hk
    · exact .inl ((Lay.rows e A).keep h hk)
    · exact .inr (.inl ⟨g, cap, c2, pre, rfl, hc, hn, rfl, (Lay.rows e A).keep h hk⟩)
    · exact .inr (.inr h)
  lower := by
    rintro w b b' fp cs x (h | ⟨g, cap, c2, pre, rfl, hc, hn, rfl, h⟩ | h) hb
    · exact .inl ((Lay.rows e A).lower h hb)
    · exact .inr (.inl ⟨g, cap, c2, pre, rfl, hc, hn, rfl, (Lay.rows e A).lower h hb⟩)
    · exact .inr (.inr h)
theorem tail_form {e : TypeId} {A : Lay α} {w : World} {b : Nat} {f : List Nat} {v : Value} {xs : List α} (h : (Lay.tail e A).own w b f [v] xs) : ∃ a cap, v = .slice a xs.length cap := rows_form (e := e) (A := A) ((Lay.tail e A).read h)
theorem tail_of {e : TypeId} {A : Lay α} {w : World} {b : Nat} {f : List Nat} {cs : List Value} {xs : List α} (h : (Lay.rows e A).own w b f cs xs) : (Lay.tail e A).own w b f cs xs := .inl h
theorem set_mid (pre M Y : List α) (x y : α) : (pre ++ (M ++ x :: Y)).set (pre.length + M.length) y = pre ++ (M ++ y :: Y) := by
  rw [List.set_append_right _ _ (by omega), Nat.add_sub_cancel_left, List.set_append_right _ _ (Nat.le_refl _), Nat.sub_self]
  rfl
theorem get_mid (pre M Y : List α) (x : α) : (pre ++ (M ++ x :: Y))[pre.length + M.length]? = some x := by
  rw [List.getElem?_append_right (by omega), Nat.add_sub_cancel_left, List.getElem?_append_right (Nat.le_refl _), Nat.sub_self]
  rfl
/-- The blocks of a row, or of a tail of one: of the elements' type, all unlike. -/
theorem tail_block {e : TypeId} {A : Lay α} (hf : Flat A) {w : World} {b : Nat} {f : List Nat} {v : Value} {xs : List α} (h : (Lay.tail e A).own w b f [v] xs) : f.Nodup ∧ ∀ g ∈ f, ∃ cur, w.heap[g]? = some (.cells cur e (0, 0)) := by
  have key : ∀ {f : List Nat} {v : Value} {xs : List α}, (Lay.rows e A).own w b f [v] xs → f.Nodup ∧ ∀ g ∈ f, ∃ cur, w.heap[g]? = some (.cells cur e (0, 0)) := by
    intro f v xs h
    obtain ⟨us, h1, _, rfl⟩ := flat_inv hf h
    refine ⟨blk_dup v, fun g hg => ?_⟩
    rcases h1.2 with ⟨rfl, _⟩ | ⟨g', cap, cur, rfl, _, hh, _⟩
    · simp [blk, Value.ownBlock] at hg
    · simp [blk, Value.ownBlock] at hg
      subst hg
      exact ⟨cur, hh⟩
  rcases h with h | ⟨g, cap, c2, pre, _, _, _, rfl, h⟩ | ⟨_, rfl, _⟩
  · exact key h
  · exact key h
  · exact ⟨List.nodup_nil, fun g hg => by cases hg⟩
theorem tail_off {β : Type} {e e' : TypeId} {A : Lay α} {B : Lay β} (hf : Flat A) (hg : Flat B) {w : World} {b b' : Nat} {f f' : List Nat} {v v' : Value} {xs : List α} {ys : List β} (h : (Lay.tail e A).own w b f [v] xs) (h' : (Lay.tail e' B).own w b' f' [v'] ys) (hne : e ≠ e') : ∀ g ∈ f, g ∉ f' := fun g h1 h2 => by
  obtain ⟨c1, k1⟩ := (tail_block hf h).2 g h1
  obtain ⟨c2, k2⟩ := (tail_block hg h').2 g h2
  rw [k1] at k2
  simp only [Option.some.injEq, Obj.cells.injEq] at k2
  exact hne k2.2.1
end
end Go.Proofs.Ythljmjbmmgligar

/-
  The exact laws on NoteSeen and TakeAll, out of one answer that both give.
  Data that come as arguments, opened by their types: whatever is read of them lies as the lays say; no program is spoken of here.
  Rows of ints as arguments, opened.
-/
import Derived.Test.YtogninaejehinavJ13
import Derived.Test.YtogninaejehinavJ07
import Derived.ChangeSame
import Derived.ChangeMaps
import Derived.Deep.Slices
import Derived.Test.YtogninaejehinavJ08
import Derived.Test.YtogninaejehinavJ01
import Derived.OpenShut
namespace Go.Proofs.Ytogninaejehinav
open Go.RowKit

/-- A row of ints of its own, in blocks from lo on, below hi. -/
def IV (lo hi : Nat) (v : Value) (xs : List Int) (X : World) : Prop := ∃ f : List Nat, f.Nodup ∧ layIntS.own X lo f [v] xs ∧ ∀ g ∈ f, g < hi
section
variable {lo hi : Nat} {v : Value} {xs : List Int} {X Y : World}
theorem IV.rd (h : IV lo hi v xs X) : layIntS.rd X [v] xs := by
  obtain ⟨f, _, h, _⟩ := h
  exact layIntS.read h
theorem IV.next (h : IV lo hi v xs X) (hb : Below X.heap.size X Y) : IV lo hi v xs Y := by
  obtain ⟨f, hd, h, hh⟩ := h
  exact ⟨f, hd, layIntS.next h hb, hh⟩
theorem IV.away (h : IV lo hi v xs X) {a b : Nat} (hc : ∃ f : List Nat, (∀ g ∈ f, a ≤ g ∧ g < b) ∧ Chg f X Y) (ho : b ≤ lo ∨ hi ≤ a) : IV lo hi v xs Y := by
  obtain ⟨f, hd, h, hh⟩ := h
  obtain ⟨f2, h2, hc⟩ := hc
  refine ⟨f, hd, layIntS.chg h hc (fun g hg hm => ?_), hh⟩
  have h3 := (layIntS.blocks h g hg).1
  have h4 := hh g hg
  have h5 := h2 g hm
  omega
theorem IV.new {f : List Nat} {W : World} (hd : f.Nodup) (h : layIntS.own X W.heap.size f [v] xs) : IV W.heap.size X.heap.size v xs X := ⟨f, hd, h, fun g hg => (layIntS.blocks h g hg).2⟩
theorem IV.mark (h : IV lo hi v xs X) (hl : xs.length ≤ 100000000) : Calls Try.prog 22 #[v, .int .i64 1] X fun e Y => e = .returned (.int .i64 (1 + (xs.length : Int))) ∧ IV lo hi v (upI 1 xs.length) Y ∧ ∃ f : List Nat, (∀ g ∈ f, lo ≤ g ∧ g < hi) ∧ Chg f X Y := by
  obtain ⟨f, hd, h, hh⟩ := h
  refine (markIntS_any v xs lo f 1 (by omega) (by omega) hl X hd h).mono ?_
  rintro e Y ⟨rfl, h1, h2⟩
  exact ⟨rfl, ⟨f, hd, h1, hh⟩, f, fun g hg => ⟨(layIntS.blocks h g hg).1, hh g hg⟩, h2⟩
theorem IV.held {n : Nat} (h : IV lo hi v (upI 1 n) X) (hl : n ≤ 100000000) : Calls Try.prog 23 #[v, .int .i64 1] X fun e Y => e = .returned (.int .i64 (1 + (n : Int))) ∧ Y = X :=
  heldIntS_any v n 1 (by omega) (by omega) hl X h.rd
end
theorem chg_below {W X Y : World} {a b : Nat} (hb : Below W.heap.size W X) (hc : ∃ f : List Nat, (∀ g ∈ f, a ≤ g ∧ g < b) ∧ Chg f X Y) (ha : W.heap.size ≤ a) : Below W.heap.size W Y := by
  obtain ⟨f, h1, h2⟩ := hc
  exact hb.trans (h2.below (fun g hg => by have := h1 g hg; omega) hb.size)

set_option maxRecDepth 100000 in
set_option maxHeartbeats 3200000 in
theorem lawNoteSeenF (va : Value) (xs : List Int) (n : Int) (r : List Int) (hr : xs.length ≤ 1048576 → r.length ≤ 10000000) (hI : xs.length ≤ 1048576 → ∀ (u : Value) (X : World), layIntS.rd X [u] xs → Calls Try.prog 21 #[u, .int .i64 n] X fun e Y => OutS layIntS X r e Y) (hS : xs.length ≤ 1048576 → ∀ (u : Value) (X : World), layIntS.rd X [u] xs → Calls Try.prog 20 #[u, .int .i64 n] X fun e Y => OutS layIntS X r e Y) (w : World) (ha : layIntS.rd w [va] xs) :
    Calls Try.prog 6 #[va, .int .i64 n] w fun e w' => e = .returned (.bool true) ∧ Below w.heap.size w w' := by
  obtain ⟨aa, ca, rfl⟩ := rows_form ha
  have HA := Lib.hid ha
  have HI0 := Lib.hid hI
  have HS0 := Lib.hid hS
  clear hI hS ha
  go_enter Try.func6, Try.ntmps6
  by_cases hbig : xs.length ≤ 1048576
  rotate_left
  · have hbi : (1048576 : Int) < (xs.length : Int) := by omega
    go_wp2_with fail
    go_ret
    exact ⟨rfl, Below.refl _ _⟩
  have hbi : ¬ ((1048576 : Int) < (xs.length : Int)) := by omega
  have hrl := hr hbig
  have HI := Lib.hid (HI0.out hbig)
  have HS := Lib.hid (HS0.out hbig)
  have TA : Hid (∀ X, Below w.heap.size w X → Calls Try.prog 15 #[.slice aa xs.length ca] X fun e Y => OutS layIntS X xs e Y) := Lib.hid (fun X hX => toIntS_any _ xs hbig X (layIntS.below HA.out hX))
  clear HI0 HS0 hr
  go_wp2_with fail
  refine (TA.out _ (Below.refl _ _)).mono ?_
  rintro e Y1 ⟨v_, f_, rfl, hd_, o_, hb_⟩
  obtain ⟨aT1, cT1, rfl⟩ := rows_form (layIntS.read o_)
  have hb := Lib.hid hb_
  have T1 := Lib.hid (IV.new hd_ o_)
  have zT1 : w.heap.size ≤ Y1.heap.size := hb.out.size
  have B := Lib.hid hb.out
  clear hb hb_ o_ hd_ f_
  go_wp2_with fail
  refine (HS.out _ _ T1.out.rd).mono ?_
  rintro e Y2 ⟨v_, f_, rfl, hd_, o_, hb_⟩
  obtain ⟨aU, cU, rfl⟩ := rows_form (layIntS.read o_)
  have hb := Lib.hid hb_
  replace T1 := Lib.hid (T1.out.next hb.out)
  have U := Lib.hid (IV.new hd_ o_)
  have zU : Y1.heap.size ≤ Y2.heap.size := hb.out.size
  replace B := Lib.hid (B.out.trans (hb.out.mono B.out.size))
  clear hb hb_ o_ hd_ f_
  clear T1
  go_wp2_with fail
  refine (TA.out _ B.out).mono ?_
  rintro e Y3 ⟨v_, f_, rfl, hd_, o_, hb_⟩
  obtain ⟨aV, cV, rfl⟩ := rows_form (layIntS.read o_)
  have hb := Lib.hid hb_
  replace U := Lib.hid (U.out.next hb.out)
  have V := Lib.hid (IV.new hd_ o_)
  have zV : Y2.heap.size ≤ Y3.heap.size := hb.out.size
  replace B := Lib.hid (B.out.trans (hb.out.mono B.out.size))
  clear hb hb_ o_ hd_ f_
  go_wp2_with fail
  refine (HI.out _ _ V.out.rd).mono ?_
  rintro e Y4 ⟨v_, f_, rfl, hd_, o_, hb_⟩
  obtain ⟨aG, cG, rfl⟩ := rows_form (layIntS.read o_)
  have hb := Lib.hid hb_
  replace U := Lib.hid (U.out.next hb.out)
  replace V := Lib.hid (V.out.next hb.out)
  have G := Lib.hid (IV.new hd_ o_)
  have zG : Y3.heap.size ≤ Y4.heap.size := hb.out.size
  replace B := Lib.hid (B.out.trans (hb.out.mono B.out.size))
  clear hb hb_ o_ hd_ f_
  go_wp2_with fail
  refine (eqIntS_same _ _ r (by omega) _ G.out.rd U.out.rd).mono ?_
  rintro e Y5 ⟨rfl, hb_⟩
  have hb := Lib.hid hb_
  replace U := Lib.hid (U.out.next hb.out)
  replace V := Lib.hid (V.out.next hb.out)
  replace G := Lib.hid (G.out.next hb.out)
  have zY5 : Y4.heap.size ≤ Y5.heap.size := hb.out.size
  replace B := Lib.hid (B.out.trans (hb.out.mono B.out.size))
  clear hb hb_
  go_wp2_with fail
  refine (TA.out _ B.out).mono ?_
  rintro e Y6 ⟨v_, f_, rfl, hd_, o_, hb_⟩
  obtain ⟨aT2, cT2, rfl⟩ := rows_form (layIntS.read o_)
  have hb := Lib.hid hb_
  replace U := Lib.hid (U.out.next hb.out)
  replace V := Lib.hid (V.out.next hb.out)
  replace G := Lib.hid (G.out.next hb.out)
  have T2 := Lib.hid (IV.new hd_ o_)
  have zT2 : Y5.heap.size ≤ Y6.heap.size := hb.out.size
  replace B := Lib.hid (B.out.trans (hb.out.mono B.out.size))
  clear hb hb_ o_ hd_ f_
  go_wp2_with fail
  refine (eqIntS_same _ _ xs (by omega) _ V.out.rd T2.out.rd).mono ?_
  rintro e Y7 ⟨rfl, hb_⟩
  have hb := Lib.hid hb_
  replace U := Lib.hid (U.out.next hb.out)
  replace V := Lib.hid (V.out.next hb.out)
  replace G := Lib.hid (G.out.next hb.out)
  replace T2 := Lib.hid (T2.out.next hb.out)
  have zY7 : Y6.heap.size ≤ Y7.heap.size := hb.out.size
  replace B := Lib.hid (B.out.trans (hb.out.mono B.out.size))
  clear hb hb_
  clear T2
  go_wp2_with fail
  refine (V.out.mark (by omega)).mono ?_
  rintro e Y8 ⟨rfl, -, hc⟩
  have zY8 : Y7.heap.size ≤ Y8.heap.size := by obtain ⟨_, _, h⟩ := hc; exact h.size
  replace U := Lib.hid (U.out.away hc (.inr (by omega)))
  replace G := Lib.hid (G.out.away hc (.inl (by omega)))
  replace B := Lib.hid (chg_below B.out hc (by omega))
  clear hc V
  have hk1 : ¬ ((1 + (xs.length : Int)) < 0) := by omega
  go_wp2_with fail
  refine (eqIntS_same _ _ r (by omega) _ G.out.rd U.out.rd).mono ?_
  rintro e Y9 ⟨rfl, hb_⟩
  have hb := Lib.hid hb_
  replace U := Lib.hid (U.out.next hb.out)
  replace G := Lib.hid (G.out.next hb.out)
  have zY9 : Y8.heap.size ≤ Y9.heap.size := hb.out.size
  replace B := Lib.hid (B.out.trans (hb.out.mono B.out.size))
  clear hb hb_
  go_wp2_with fail
  refine (G.out.mark (by omega)).mono ?_
  rintro e Y10 ⟨rfl, hm, hc⟩
  have zY10 : Y9.heap.size ≤ Y10.heap.size := by obtain ⟨_, _, h⟩ := hc; exact h.size
  replace U := Lib.hid (U.out.away hc (.inr (by omega)))
  replace G := Lib.hid hm
  replace B := Lib.hid (chg_below B.out hc (by omega))
  clear hc hm
  have hk2 : ¬ ((1 + (r.length : Int)) < 0) := by omega
  go_wp2_with fail
  refine (G.out.held (by omega)).mono ?_
  rintro e Z9 ⟨rfl, hz9⟩
  rw [hz9]
  clear hz9 Z9
  go_wp2_with fail
  refine (TA.out _ B.out).mono ?_
  rintro e Y11 ⟨v_, f_, rfl, hd_, o_, hb_⟩
  obtain ⟨aT3, cT3, rfl⟩ := rows_form (layIntS.read o_)
  have hb := Lib.hid hb_
  replace U := Lib.hid (U.out.next hb.out)
  replace G := Lib.hid (G.out.next hb.out)
  have T3 := Lib.hid (IV.new hd_ o_)
  have zT3 : Y10.heap.size ≤ Y11.heap.size := hb.out.size
  replace B := Lib.hid (B.out.trans (hb.out.mono B.out.size))
  clear hb hb_ o_ hd_ f_
  go_wp2_with fail
  refine (HI.out _ _ T3.out.rd).mono ?_
  rintro e Y12 ⟨v_, f_, rfl, hd_, o_, hb_⟩
  obtain ⟨aH, cH, rfl⟩ := rows_form (layIntS.read o_)
  have hb := Lib.hid hb_
  replace U := Lib.hid (U.out.next hb.out)
  replace G := Lib.hid (G.out.next hb.out)
  replace T3 := Lib.hid (T3.out.next hb.out)
  have H := Lib.hid (IV.new hd_ o_)
  have zH : Y11.heap.size ≤ Y12.heap.size := hb.out.size
  replace B := Lib.hid (B.out.trans (hb.out.mono B.out.size))
  clear hb hb_ o_ hd_ f_
  clear T3
  go_wp2_with fail
  refine (eqIntS_same _ _ r (by omega) _ H.out.rd U.out.rd).mono ?_
  rintro e Y13 ⟨rfl, hb_⟩
  have hb := Lib.hid hb_
  replace U := Lib.hid (U.out.next hb.out)
  replace G := Lib.hid (G.out.next hb.out)
  replace H := Lib.hid (H.out.next hb.out)
  have zY13 : Y12.heap.size ≤ Y13.heap.size := hb.out.size
  replace B := Lib.hid (B.out.trans (hb.out.mono B.out.size))
  clear hb hb_
  go_wp2_with fail
  refine (G.out.held (by omega)).mono ?_
  rintro e Z9 ⟨rfl, hz9⟩
  rw [hz9]
  clear hz9 Z9
  go_wp2_with fail
  go_ret
  exact ⟨rfl, B.out⟩

end Go.Proofs.Ytogninaejehinav
namespace Go.Proofs.Ytogninaejehinav
open Go.ChangeShapes Go.WideShapes Go.RowKit

section
variable {H : Type} (enc : TypeId × Value → H) (P : Program) (W : World)

/-- What is read at type t lies as A says, and G holds of it. -/
def Opens {α : Type} (A : Lay α) (t : TypeId) (G : α → Prop) : Prop := ∀ fuel cs d, DataW.trod enc P W 0 (fun _ => true) true fuel t cs = some d → ∃ x, A.rd W cs x ∧ G x
/-- The same of fields from a place on. -/
def OpensF {α : Type} (off : Nat) (fs : List Field) (A : Lay α) (G : α → Prop) : Prop :=
  ∀ cs : List Value, cs.length = off + A.k → (∀ f ∈ fs, ∃ n d, DataW.trod enc P W 0 (fun _ => true) true n f.type ((cs.drop f.offset).take (P.cellsOf f.type)) = some d) → ∃ x, A.rd W (cs.drop off) x ∧ G x

variable {enc P W}

theorem Opens.int {t : TypeId} (ht : P.underlying t = some (.int .i64)) : Opens enc P W Lay.int t (fun x => (Lit.int .i64 x).wf = true) := by
  intro fuel cs d h
  obtain ⟨a, e0, _, hw⟩ := DataW.trod_int ht h
  exact ⟨a, e0, hw⟩

theorem Opens.str {t : TypeId} (ht : P.underlying t = some .string) : Opens enc P W Lay.str t (fun x => x.size ≤ maxLen) := by
  intro fuel cs d h
  obtain ⟨a, e0, _, hw⟩ := DataW.trod_string ht h
  exact ⟨a, e0, hw⟩
theorem Opens.bool {t : TypeId} (ht : P.underlying t = some .bool) : Opens enc P W Lay.bool t (fun _ => True) := by
  intro fuel cs d h
  obtain ⟨a, e0, _⟩ := DataW.trod_bool ht h
  exact ⟨a, e0, trivial⟩

theorem OpensF.last {α : Type} {A : Lay α} {G : α → Prop} {off : Nat} {f : Field} (ho : f.offset = off) (hk : P.cellsOf f.type = A.k) (h : Opens enc P W A f.type G) : OpensF enc P W off [f] A G := by
  intro cs hl hf
  obtain ⟨n, d, hd⟩ := hf f List.mem_cons_self
  rw [ho, hk, List.take_of_length_le (by rw [List.length_drop]; omega)] at hd
  exact h n _ d hd
theorem OpensF.cons {α β : Type} {A : Lay α} {B : Lay β} {G : α → Prop} {K : β → Prop} {off : Nat} {f : Field} {fs : List Field} (ho : f.offset = off) (hk : P.cellsOf f.type = A.k) (h : Opens enc P W A f.type G) (hr : OpensF enc P W (off + A.k) fs B K) :
    OpensF enc P W off (f :: fs) (Lay.pair A B) (fun x => G x.1 ∧ K x.2) := by
  intro cs hl hf
  have hl' : cs.length = off + (A.k + B.k) := hl
  obtain ⟨n, d, hd⟩ := hf f List.mem_cons_self
  rw [ho, hk] at hd
  obtain ⟨x, hx, gx⟩ := h n _ d hd
  obtain ⟨y, hy, gy⟩ := hr cs (by omega) (fun f' hf' => hf f' (List.mem_cons_of_mem _ hf'))
  refine ⟨(x, y), ⟨_, _, ?_, hx, hy⟩, gx, gy⟩
  rw [← List.drop_drop, List.take_append_drop]
theorem Opens.struct {α : Type} {A : Lay α} {G : α → Prop} {t : TypeId} {fs : Array Field} (ht : P.underlying t = some (.struct fs)) (hk : P.cellsOf t = A.k) (h : OpensF enc P W 0 fs.toList A G) : Opens enc P W A t G := by
  intro fuel cs d hd
  obtain ⟨xs, n, _, _, hl, hlen, hp⟩ := DataW.trod_struct ht hd
  obtain ⟨x, hx, gx⟩ := h cs (by omega) (fun f hf => by
    obtain ⟨j, hj, e⟩ := List.getElem_of_mem hf
    have hj' : j < fs.size := by simpa using hj
    have := hp j f (by rw [Array.getElem?_eq_getElem hj']; simp at e; rw [e])
    exact ⟨n, xs[j]'(by omega), by rw [this, List.getElem?_eq_getElem (by omega)]⟩)
  exact ⟨x, by simpa using hx, gx⟩

theorem rows_build {α : Type} {A : Lay α} {g : Nat} : ∀ (n o : Nat) (f : Nat → List Value × α), (∀ i, i < n → A.rd W (f i).1 (f i).2 ∧ ∀ t u, (f i).1[t]? = some u → W.cell? ⟨g, o + (i * A.k + t), none⟩ = some u) →
    ∃ us, rdAll A W us ((List.range n).map fun i => (f i).2) ∧ ∀ i u, us[i]? = some u → W.cell? ⟨g, o + i, none⟩ = some u
  | 0, o, f, _ => ⟨[], rfl, fun i u h => by simp at h⟩
  | n + 1, o, f, h => by
    obtain ⟨us, h1, h2⟩ := rows_build n (o + A.k) (fun i => f (i + 1)) (fun i hi => by
      obtain ⟨q1, q2⟩ := h (i + 1) (by omega)
      refine ⟨q1, fun t u hu => ?_⟩
      have := q2 t u hu
      rw [show o + A.k + (i * A.k + t) = o + ((i + 1) * A.k + t) by rw [Nat.succ_mul]; omega]
      exact this)
    obtain ⟨q1, q2⟩ := h 0 (by omega)
    have hl := A.len q1
    refine ⟨(f 0).1 ++ us, ?_, fun i u hu => ?_⟩
    · rw [List.range_succ_eq_map, List.map_cons, List.map_map]
      exact ⟨_, _, rfl, q1, h1⟩
    · by_cases hi : i < A.k
      · rw [List.getElem?_append_left (by omega)] at hu
        have := q2 i u hu
        rwa [Nat.zero_mul, Nat.zero_add] at this
      · rw [List.getElem?_append_right (by omega), hl] at hu
        have := h2 (i - A.k) u hu
        rwa [show o + A.k + (i - A.k) = o + i by omega] at this

theorem Opens.rows {α : Type} {A : Lay α} {G : α → Prop} {t e' : TypeId} (e : TypeId) (ht : P.underlying t = some (.slice e')) (hk : P.cellsOf e' = A.k) (h : Opens enc P W A e' G) : Opens enc P W (Lay.rows e A) t (fun xs => xs.length ≤ maxLen ∧ ∀ x ∈ xs, G x) := by
  intro fuel cs d hd
  have hpos := A.pos
  rcases Deep.open_slice ht hd with ⟨rfl, _⟩ | ⟨a, len, cap, m, n, D, Pl, rfl, _, hl, hcm, hmm, _, hx⟩
  · exact ⟨[], ⟨_, rfl, .inl ⟨rfl, none, 0, rfl, fun _ => rfl⟩⟩, by simp, by simp⟩
  · have hlm : len ≤ m := by rw [hmm]; split <;> omega
    have each : ∀ i, i < len → ∃ q : List Value × α, (A.rd W q.1 q.2 ∧ ∀ s u, q.1[s]? = some u → W.cell? (a.add (i * A.k + s)) = some u) ∧ G q.2 := by
      intro i hi
      obtain ⟨cs', h1, h2⟩ := hx i (by omega)
      rw [hk] at h1
      obtain ⟨_, hlen, hcell⟩ := World.cells?_some h1
      obtain ⟨x, hxr, hg⟩ := h n cs' _ h2
      refine ⟨(cs', x), ⟨hxr, fun s u hu => ?_⟩, hg⟩
      have hs : s < A.k := by
        have k1 : s < cs'.length := (List.getElem?_eq_some_iff.1 hu).1
        have k2 : cs'.length = A.k := A.len hxr
        omega
      have := hcell s (by omega)
      rw [Deep.add_add] at this
      rw [this]
      exact hu
    by_cases h0 : len = 0
    · subst h0
      exact ⟨[], ⟨_, rfl, .inl ⟨rfl, some a, cap, rfl, fun h => by cases h⟩⟩, by simp, by simp⟩
    · haveI : Inhabited (List Value × α) := ⟨Classical.choose (each 0 (by omega))⟩
      obtain ⟨f, hq⟩ := Deep.choose_lt (α := List Value × α) each
      obtain ⟨b, off, spot⟩ := a
      obtain ⟨⟨r0, c0⟩, _⟩ := hq 0 (by omega)
      obtain ⟨u0, hu0⟩ : ∃ u, (f 0).1[0]? = some u := ⟨(f 0).1[0]'(by rw [A.len r0]; exact hpos), List.getElem?_eq_getElem _⟩
      have hc0 := c0 0 u0 hu0
      have hspot : spot = none := by simpa [Addr.add] using World.cell?_spot hc0
      subst hspot
      have hlt : b < W.heap.size := by
        have := World.block_lt_of_cell? W _ hc0
        simpa [Addr.add] using this
      obtain ⟨us, h1, h2⟩ := rows_build (g := b) len off f (fun i hi => by
        obtain ⟨⟨q1, q2⟩, _⟩ := hq i hi
        refine ⟨q1, fun s u hu => ?_⟩
        have := q2 s u hu
        rwa [add_plain] at this)
      refine ⟨(List.range len).map fun i => (f i).2, ⟨_, rfl, .inr ⟨b, off, cap, us, ?_, by simp; omega, hlt, h2, h1⟩⟩, ?_, fun x hx => ?_⟩
      · simp
      · simp
        omega
      · obtain ⟨i, hi, rfl⟩ := List.mem_map.1 hx
        exact (hq i (List.mem_range.1 hi)).2

/-- A struct as an argument. -/
theorem Opens.agg {α : Type} {A : Lay α} {G : α → Prop} {t : TypeId} {fs : Array Field} {r : Reach} {base : Nat} {v : Value} {d : DataW H} {p : List MemPlace} (h : Opens enc P W A t G) (ht : P.underlying t = some (.struct fs)) (hok : Value.okWide P W r base t v)
    (hd : DataW.Trod enc P W 0 (fun _ => true) true t v d p) : ∃ cs x, v = .agg cs.toArray ∧ A.rd W cs x ∧ G x := by
  obtain ⟨cs, rfl, _⟩ := okWide_struct ht hok
  obtain ⟨fuel, hf⟩ := hd
  obtain ⟨x, hx, hg⟩ := h fuel _ _ hf
  exact ⟨cs.toList, x, by simp, by simpa [Value.cells] using hx, hg⟩
/-- A slice as an argument. -/
theorem Opens.slice {α : Type} {A : Lay α} {G : α → Prop} {t e : TypeId} {r : Reach} {base : Nat} {v : Value} {d : DataW H} {p : List MemPlace} (h : Opens enc P W A t G) (ht : P.underlying t = some (.slice e)) (hok : Value.okWide P W r base t v)
    (hd : DataW.Trod enc P W 0 (fun _ => true) true t v d p) : ∃ x, A.rd W [v] x ∧ G x := by
  obtain ⟨a0, len0, cap0, rfl⟩ := okWide_slice ht hok
  obtain ⟨fuel, hf⟩ := hd
  obtain ⟨x, hx, hg⟩ := h fuel _ _ hf
  exact ⟨x, by simpa [Value.cells] using hx, hg⟩

end
end Go.Proofs.Ytogninaejehinav
namespace Go.Proofs.Ytogninaejehinav
open Go.ChangeShapes Go.WideShapes Go.RowKit

set_option maxRecDepth 100000 in
theorem open_row {H : Type} {enc : TypeId × Value → H} {W : World} {r : Reach} {base : Nat} {v : Value} {d : DataW H} {p : List MemPlace} (hok : Value.okWide Try.prog W r base 22 v) (h : DataW.Trod enc Try.prog W 0 (fun _ => true) true 22 v d p) :
    ∃ (xs : List Int), layIntS.rd W [v] xs ∧ xs.length ≤ 9223372036854775807 ∧ ∀ x ∈ xs, IntZ x := by
  obtain ⟨x, hx, hg⟩ := Opens.slice (Opens.rows (A := Lay.int) 3 Try.underlying22 (by kernel_rfl) (Opens.int (enc := enc) (W := W) Try.underlying3)) Try.underlying22 hok h
  have hm : maxLen ≤ 9223372036854775807 := by unfold maxLen; omega
  exact ⟨x, hx, Nat.le_trans hg.1 hm, fun z hz => bounds_i64 (hg.2 z hz)⟩

end Go.Proofs.Ytogninaejehinav

/-
  slices.Index and slices.Contains at ints.
  Rows of flat data as blocks: cut short, cleared, copied into; no program is spoken of here.
-/
import Derived.Test.YthljmjbmmgligarJ13
import Derived.Test.YthljmjbmmgligarJ05
import Derived.Laws.CopyOwn
namespace Go.Proofs.Ythljmjbmmgligar
open Go.RowKit

set_option maxRecDepth 100000 in
set_option maxHeartbeats 800000 in
theorem indexInt_any (xs : List Int) (x : Int) (v : Value) (hl : xs.length ≤ 100000000) (w : World) (h : layIntS.rd w [v] xs) :
    Calls Try.prog 99 #[v, .int .i64 x] w fun e w' => ((x ∈ xs ∧ ∃ j : Nat, e = .returned (.int .i64 j)) ∨ (x ∉ xs ∧ e = .returned (.int .i64 (-1)))) ∧ w' = w := by
  obtain ⟨ao, cp, rfl⟩ := rows_form h
  have HR := Lib.hid h
  clear h
  go_enter Try.func99, Try.ntmps99
  go_wp2_with fail
  go_loop [8] (fun c => ∃ j : Nat, j ≤ xs.length ∧ c = .int .i64 j ∧ Hid (∀ i, (hi : i < xs.length) → i < j → xs[i] ≠ x)) (fun c => xs.length - (intOf c).toNat)
  case atStart => exact ⟨0, Nat.zero_le _, rfl, fun i _ h => absurd h (by omega)⟩
  case round =>
    obtain ⟨j, hj, rfl, HA⟩ := hrel
    by_cases hlt : j < xs.length
    · have hlt' : (j : Int) < (xs.length : Int) := by omega
      have HM : Hid (xs[j] = x → x ∈ xs) := Lib.hid (fun h => h ▸ List.getElem_mem hlt)
      have HNX : Hid (xs[j] ≠ x → ∀ i, (hi : i < xs.length) → i < j + 1 → xs[i] ≠ x) := Lib.hid (fun hx i hi h => by
        rcases Nat.lt_or_ge i j with h2 | h2
        · exact HA.out i hi h2
        · have : i = j := by omega
          subst this
          exact hx)
      obtain ⟨g, off, cs, rfl, hg, hr, hc⟩ := rows_elem HR.out j _ (List.getElem?_eq_getElem hlt)
      generalize xs[j] = y at hr HM HNX
      have hr' : cs = [.int .i64 y] := hr
      subst hr'
      have c0 : w.cell? ⟨g, off + j, none⟩ = some (.int .i64 y) := (by have h9 := hc 0 _ rfl; rw [show j * Lay.int.k = j from Nat.mul_one j] at h9; exact h9)
      clear hc
      by_cases hx : x = y
      · have hq : (x == y) = true := by rw [beq_iff_eq]; exact hx
        have HE := Lib.hid (HM.out hx.symm)
        clear hx HM HNX
        go_wp2_with fail
        go_ret
        exact ⟨.inl ⟨HE.out, j, rfl⟩, rfl⟩
      · have hq : (x == y) = false := by rw [beq_eq_false_iff_ne]; exact hx
        have HJ := Lib.hid (HNX.out (fun e => hx e.symm))
        clear hx HM HNX
        go_wp2_with fail
        go_round
        case rel => exact ⟨j + 1, by omega, by go_num, HJ⟩
        case measure => simp [intOf]; omega
    · have hlt' : ¬ ((j : Int) < (xs.length : Int)) := by omega
      have HE : Hid (x ∉ xs) := Lib.hid (fun hx => by
        obtain ⟨i, hi, e⟩ := List.getElem_of_mem hx
        exact HA.out i hi (by omega) e)
      go_wp2_with fail
      go_ret
      exact ⟨.inr ⟨HE.out, rfl⟩, rfl⟩

theorem containsInt_any (xs : List Int) (x : Int) (v : Value) (b : Bool) (hb : b = true ↔ x ∈ xs) (hl : xs.length ≤ 100000000) (w : World) (h : layIntS.rd w [v] xs) :
    Calls Try.prog 92 #[v, .int .i64 x] w fun e w' => e = .returned (.bool b) ∧ w' = w := by
  have HI := Lib.hid (indexInt_any xs x v hl w h)
  clear h
  go_enter Try.func92, Try.ntmps92
  go_wp2_with fail
  refine HI.out.mono ?_
  rintro e w1 ⟨hE, hw⟩
  have hw' := hw.symm
  subst hw'
  clear hw HI
  rcases hE with ⟨h1, j, rfl⟩ | ⟨h1, rfl⟩
  · obtain rfl : b = true := hb.2 h1
    have hj : (0 : Int) ≤ (j : Int) := by omega
    clear h1 hb
    go_wp2_with fail
    go_ret
    exact ⟨rfl, rfl⟩
  · obtain rfl : b = false := Bool.eq_false_iff.2 fun e => h1 (hb.1 e)
    clear h1 hb
    go_wp2_with fail
    go_ret
    exact ⟨rfl, rfl⟩

end Go.Proofs.Ythljmjbmmgligar
namespace Go.Proofs.Ythljmjbmmgligar
open Go.RowKit

section
variable {α : Type}

/-- The block of a row of the call's own. -/
structure RowK (e : TypeId) (A : Lay α) (w : World) (b g cap : Nat) (cur : List Value) (xs : List α) : Prop where
  low : b ≤ g
  heap : w.heap[g]? = some (.cells cur.toArray e (0, 0))
  room : xs.length ≤ cap
  max : cap ≤ maxLen
  size : cur.length = cap * A.k
  rd : rdAll A w (cur.take (xs.length * A.k)) xs
theorem RowK.of {e : TypeId} {A : Lay α} (hf : Flat A) {w : World} {b g n cap : Nat} {f : List Nat} {xs : List α} (h : (Lay.rows e A).own w b f [.slice (some ⟨g, 0, none⟩) n cap] xs) : ∃ cur, RowK e A w b g cap cur xs := by
  obtain ⟨us, h1, h2, _⟩ := flat_inv hf h
  rcases h1.2 with ⟨hv, _⟩ | ⟨g', cap', cur, hv, hb, hh, hc, hm, hs, ht⟩
  · cases hv
  · simp only [Value.slice.injEq, Option.some.injEq, Addr.mk.injEq, and_true] at hv
    obtain ⟨rfl, _, rfl⟩ := hv
    refine ⟨cur.toList, hb, by simpa using hh, hc, hm, by simpa using hs, ?_⟩
    rw [ht]
    exact h2
theorem RowK.own {e : TypeId} {A : Lay α} (hf : Flat A) {w : World} {b g cap : Nat} {cur : List Value} {xs : List α} (h : RowK e A w b g cap cur xs) : (Lay.rows e A).own w b [g] [.slice (some ⟨g, 0, none⟩) xs.length cap] xs := by
  have h1 : w.ownsRow b e A.k (.slice (some ⟨g, 0, none⟩) xs.length cap) xs.length (cur.take (xs.length * A.k)) := by
    refine ⟨rdAll_len A h.rd, .inr ⟨g, cap, cur.toArray, rfl, h.low, h.heap, h.room, h.max, by simpa using h.size, by simp⟩⟩
  exact flat_own hf h1 h.rd
theorem rdAll_take (A : Lay α) {w : World} {us : List Value} {xs : List α} (h : rdAll A w us xs) (k : Nat) : rdAll A w (us.take (k * A.k)) (xs.take k) := by
  have e : xs = xs.take k ++ xs.drop k := (List.take_append_drop k xs).symm
  rw [e] at h
  obtain ⟨u1, u2, rfl, h1, h2⟩ := rdAll_append A h
  have hl := rdAll_len A h1
  by_cases hk : k ≤ xs.length
  · rw [List.length_take, Nat.min_eq_left hk] at hl
    rw [← hl, List.take_left]
    exact h1
  · have hd : xs.drop k = [] := List.drop_eq_nil_of_le (by omega)
    rw [hd] at h2
    obtain rfl : u2 = [] := h2
    rw [List.append_nil, List.take_of_length_le (by rw [hl, List.length_take]; exact Nat.mul_le_mul_right _ (Nat.min_le_left _ _))]
    exact h1
/-- A row cut short; what lies behind it may be anything. -/
theorem RowK.cut {e : TypeId} {A : Lay α} {w w' : World} {b g cap : Nat} {cur cur' : List Value} {xs : List α} (hf : Flat A) (h : RowK e A w b g cap cur xs) (k : Nat) (hk : k ≤ xs.length) (hh : w'.heap[g]? = some (.cells cur'.toArray e (0, 0))) (hl : cur'.length = cur.length) (ht : cur'.take (k * A.k) = cur.take (k * A.k)) :
    RowK e A w' b g cap cur' (xs.take k) := by
  have hkl : (xs.take k).length = k := by rw [List.length_take]; omega
  refine ⟨h.low, hh, by rw [hkl]; exact Nat.le_trans hk h.room, h.max, hl.trans h.size, ?_⟩
  rw [hkl, ht]
  have h1 := rdAll_take A h.rd k
  rw [List.take_take, Nat.min_eq_left (Nat.mul_le_mul_right _ hk)] at h1
  exact hf.all h1
theorem chg_setRow {w : World} {g : Nat} {cs : Array Value} : Chg [g] w (w.setRow g cs) := ⟨rfl, rfl, rfl, by simp [World.setRow], fun k _ hn => setRow_other w g k cs (fun e => hn (by simp [e]))⟩

theorem zero_cells (cs : Array Value) (hk : 0 < cs.size) (n : Nat) : (Builtin.zeroCells cs n).toList.length = n * cs.size ∧ ∀ v ∈ (Builtin.zeroCells cs n).toList, v ∈ cs := by
  refine ⟨by simp [Builtin.zeroCells], fun v hv => ?_⟩
  simp [Builtin.zeroCells] at hv
  obtain ⟨i, hi, rfl⟩ := hv
  rw [Array.getElem!_eq_getD, Array.getD_eq_getD_getElem?, Array.getElem?_eq_getElem (Nat.mod_lt _ hk)]
  simp
/-- 'clear(s)' of a tail of a row. -/
theorem run_clear_tail {P : Program} (w : World) (t ty e : TypeId) (z : Value) (ht : P.underlying t = some (.slice e)) (hz : ∀ w, (zeroValue e).run P w = .ok z w) (h1 : ∀ v ∈ z.cells, v.oneCell' = true) (hp : 0 < z.cells.size)
    (g o n c : Nat) (hn : 0 < n) (cur : List Value) (hg : w.heap[g]? = some (.cells cur.toArray e (0, 0))) (hfit : o + n * z.cells.size ≤ cur.length) :
    ∃ cs : List Value, cs.length = n * z.cells.size ∧ (Builtin.clear_ #[t] ty #[.slice (some ⟨g, o, none⟩) n c]).run P w = .ok (.tuple #[]) (w.setRow g (cur.take o ++ cs ++ cur.drop (o + cs.length)).toArray) := by
  obtain ⟨hl, hm⟩ := zero_cells z.cells hp n
  refine ⟨(Builtin.zeroCells z.cells n).toList, hl, ?_⟩
  have hst := run_storeCells_at P g o e (Builtin.zeroCells z.cells n).toList 0 cur.toArray w hg (by rw [hl]; simpa using hfit) (fun v hv => h1 v (hm v hv))
  obtain ⟨m, rfl⟩ : ∃ m, n = m + 1 := ⟨n - 1, by omega⟩
  simp [Builtin.clear_, run_underlying ht, hz, hst]
/-- 'clear(s[k:])': s a row of the call's own; its first k stay. -/
theorem run_clearF {P : Program} (w : World) (t ty : TypeId) (e : TypeId) (z : Value) (A : Lay α) (hf : Flat A) (ht : P.underlying t = some (.slice e)) (hz : ∀ w, (zeroValue e).run P w = .ok z w) (h1 : ∀ v ∈ z.cells, v.oneCell' = true) (hzs : z.cells.size = A.k)
    (b g cap : Nat) (xs : List α) (hown : (Lay.rows e A).own w b [g] [.slice (some ⟨g, 0, none⟩) xs.length cap] xs) (k : Nat) (hk : k ≤ xs.length) (p : Option Addr) (c : Nat) (hp : k < xs.length → p = some ⟨g, k * A.k, none⟩) :
    ∃ w', (Builtin.clear_ #[t] ty #[.slice p (xs.length - k) c]).run P w = .ok (.tuple #[]) w' ∧ (Lay.rows e A).own w' b [g] [.slice (some ⟨g, 0, none⟩) k cap] (xs.take k) ∧ Chg [g] w w' := by
  obtain ⟨cur, R⟩ := RowK.of hf hown
  have hkl : (xs.take k).length = k := by rw [List.length_take]; omega
  by_cases hlt : k < xs.length
  · obtain rfl := hp hlt
    have hpos := A.pos
    have hkk : (xs.length - k) * A.k = xs.length * A.k - k * A.k := Nat.sub_mul _ _ _
    have hk1 : k * A.k ≤ xs.length * A.k := Nat.mul_le_mul_right _ hk
    have hk2 : xs.length * A.k ≤ cap * A.k := Nat.mul_le_mul_right _ R.room
    obtain ⟨cs, hcl, hrun⟩ := run_clear_tail (P := P) w t ty e z ht hz h1 (by omega) g (k * A.k) (xs.length - k) c (by omega) cur R.heap (by rw [hzs, R.size]; omega)
    rw [hzs] at hcl
    refine ⟨_, hrun, ?_, chg_setRow⟩
    have hsz := R.size
    have h2 := RowK.own hf (R.cut (w' := w.setRow g (cur.take (k * A.k) ++ cs ++ cur.drop (k * A.k + cs.length)).toArray) hf k hk (setRow_heap w g _ _ e _ R.heap) (by simp; omega) (by rw [List.append_assoc, List.take_left' (by simp; omega)]))
    rw [hkl] at h2
    exact h2
  · obtain rfl : k = xs.length := by omega
    refine ⟨w, ?_, ?_, Chg.refl _ _⟩
    · rw [Nat.sub_self]
      cases p <;> simp [Builtin.clear_, run_underlying ht]
    · rw [List.take_length]
      exact hown

end
end Go.Proofs.Ythljmjbmmgligar

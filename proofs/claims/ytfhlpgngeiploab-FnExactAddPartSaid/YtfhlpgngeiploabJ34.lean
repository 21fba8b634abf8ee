/-
  Rows of structs seen as rows of their cells; no program is spoken of here.
  A row of the call's own, seen as the cells of its elements, each with its own blocks; no program is spoken of here.
  Slices of rows, as they are read; no program is spoken of here.
  The given l20All: whether all parts are there.
-/
import Derived.Test.YtfhlpgngeiploabJ04
import Derived.Test.YtfhlpgngeiploabJ23
import Derived.Test.YtfhlpgngeiploabJ13
namespace Go.Proofs.Ytfhlpgngeiploab
open Go.RowKit

/-- Some cells as they are. -/
def layCells (k : Nat) (hk : 0 < k) : Lay (List Value) where
  k := k
  rd := fun _ cs x => cs = x ∧ x.length = k ∧ ∀ u ∈ x, u.oneCell' = true
  own := fun _ _ fp cs x => fp = [] ∧ cs = x ∧ x.length = k ∧ ∀ u ∈ x, u.oneCell' = true
  mark := fun k x => (x, k)
  pos := hk
  len := fun h => by rw [h.1]; exact h.2.1
  one := fun h u hu => by rw [h.1] at hu; exact h.2.2 u hu
  below := fun h _ => h
  read := fun h => h.2
  blocks := fun h g hg => by rw [h.1] at hg; cases hg
  keep := fun h _ => h
  lower := fun h _ => h
theorem flatCells (k : Nat) (hk : 0 < k) : Flat (layCells k hk) := ⟨fun _ _ _ _ h => ⟨rfl, h⟩, fun _ _ _ _ _ h => h.1, fun _ _ _ _ h => h⟩
variable {α : Type}
theorem raw_rdAll (A : Lay α) {w w0 : World} : ∀ {us : List Value} {zs : List (List Value × α)}, rdAll (layCells A.k A.pos) w0 us (zs.map (·.1)) → (∀ z ∈ zs, A.rd w z.1 z.2) → rdAll A w us (zs.map (·.2))
  | us, [], h, _ => h
  | us, z :: zs, h, hz => by
    obtain ⟨c, us', rfl, ⟨rfl, _, _⟩, h2⟩ := h
    exact ⟨z.1, us', rfl, hz z List.mem_cons_self, raw_rdAll A h2 (fun q hq => hz q (List.mem_cons_of_mem _ hq))⟩
/-- A row of cells whose elements can be read. -/
theorem raw_rows {e : TypeId} {A : Lay α} {w : World} {v : Value} {zs : List (List Value × α)} (h : (Lay.rows e (layCells A.k A.pos)).rd w [v] (zs.map (·.1))) (hz : ∀ z ∈ zs, A.rd w z.1 z.2) : (Lay.rows e A).rd w [v] (zs.map (·.2)) := by
  obtain ⟨v', hv, h⟩ := h
  obtain rfl : v = v' := by simpa using hv
  rcases h with ⟨h0, h⟩ | ⟨g, off, cap, us, h1, h2, h3, h4, h5⟩
  · have e : zs = [] := by cases zs with
      | nil => rfl
      | cons _ _ => simp at h0
    subst e
    exact ⟨_, rfl, .inl ⟨rfl, h⟩⟩
  · refine ⟨_, rfl, .inr ⟨g, off, cap, us, ?_, ?_, h3, h4, raw_rdAll A h5 hz⟩⟩
    · rw [h1, List.length_map, List.length_map]
    · rw [List.length_map] at h2 ⊢
      exact h2

end Go.Proofs.Ytfhlpgngeiploab
namespace Go.Proofs.Ytfhlpgngeiploab
open Go.RowKit

section
variable {α : Type}
theorem ownAll_raw (A : Lay α) {w : World} {b : Nat} : ∀ {f : List Nat} {us : List Value} {xs : List α}, ownAll A w b f us xs → f.Nodup → ∃ zs : List (List Value × α × List Nat), xs = zs.map (·.2.1) ∧ (∀ w', rdAll (layCells A.k A.pos) w' us (zs.map (·.1))) ∧ (∀ z ∈ zs, A.own w b z.2.2 z.1 z.2.1 ∧ z.2.2.Nodup ∧ ∀ k ∈ z.2.2, k ∈ f) ∧ zs.Pairwise (fun y z => ∀ k ∈ y.2.2, k ∉ z.2.2)
  | f, us, [], h, _ => ⟨[], rfl, fun _ => h.2, (fun z hz => by cases hz), List.Pairwise.nil⟩
  | f, us, x :: xs, h, hd => by
    obtain ⟨f1, f2, c, us', rfl, rfl, h1, h2⟩ := h
    have hd2 := List.nodup_append.1 hd
    obtain ⟨zs, rfl, k1, k2, k3⟩ := ownAll_raw A h2 hd2.2.1
    have hr := A.read h1
    refine ⟨(c, x, f1) :: zs, rfl, fun w' => ⟨c, us', rfl, ⟨rfl, A.len hr, A.one hr⟩, k1 w'⟩, fun z hz => ?_, List.pairwise_cons.2 ⟨fun z hz k hk hm => hd2.2.2 k hk k ((k2 z hz).2.2 k hm) rfl, k3⟩⟩
    rcases List.mem_cons.1 hz with rfl | hz
    · exact ⟨h1, hd2.1, fun k hk => by simp [hk]⟩
    · exact ⟨(k2 z hz).1, (k2 z hz).2.1, fun k hk => by simp [(k2 z hz).2.2 k hk]⟩
theorem own_raw {e : TypeId} {A : Lay α} {w : World} {b : Nat} {fp : List Nat} {v : Value} {xs : List α} (h : (Lay.rows e A).own w b fp [v] xs) (hd : fp.Nodup) :
    ∃ zs : List (List Value × α × List Nat), xs = zs.map (·.2.1) ∧ (∀ w', (∀ g ∈ fp, w'.heap[g]? = w.heap[g]?) → (Lay.rows e (layCells A.k A.pos)).rd w' [v] (zs.map (·.1))) ∧ (∀ z ∈ zs, A.own w b z.2.2 z.1 z.2.1 ∧ z.2.2.Nodup ∧ ∀ k ∈ z.2.2, k ∈ fp) ∧ zs.Pairwise (fun y z => ∀ k ∈ y.2.2, k ∉ z.2.2) := by
  have hrd0 := (Lay.rows e A).read h
  obtain ⟨v', hv, h⟩ := h
  obtain rfl : v = v' := by simpa using hv
  rcases h with ⟨rfl, rfl, rfl⟩ | ⟨g, cap, us, fq, rfl, rfl, hrow, hall⟩
  · exact ⟨[], rfl, fun w' _ => ⟨_, rfl, .inl ⟨rfl, none, 0, rfl, fun _ => rfl⟩⟩, (fun z hz => by cases hz), List.Pairwise.nil⟩
  · obtain ⟨zs, hx, k1, k2, k3⟩ := ownAll_raw A hall (List.nodup_cons.1 hd).2
    have hn : xs.length = zs.length := by rw [hx, List.length_map]
    have hcell := hrow.cells (g := g) rfl
    have hb := ownsRow_block hrow
    have hcap : xs.length ≤ cap := by
      rcases hrow.2 with ⟨hv, _⟩ | ⟨g', cap', cur, hv, _, _, hc, _⟩
      · cases hv
      · simp only [Value.slice.injEq] at hv
        obtain ⟨-, -, rfl⟩ := hv
        exact hc
    refine ⟨zs, hx, fun w' hk => ?_, fun z hz => ⟨(k2 z hz).1, (k2 z hz).2.1, fun k hk => by simp [(k2 z hz).2.2 k hk]⟩, k3⟩
    have hg := hk g (by simp)
    refine ⟨_, rfl, .inr ⟨g, 0, cap, us, by rw [List.length_map, ← hn], by rw [List.length_map, ← hn]; exact hcap, ?_, fun i u hu => ?_, k1 w'⟩⟩
    · have h9 : w.heap[g]? = some (w.heap[g]'hb.2.1) := Array.getElem?_eq_getElem hb.2.1
      rw [h9] at hg
      exact (Array.getElem?_eq_some_iff.1 hg).1
    · have h9 := hcell i u hu
      rw [add_in, Nat.zero_add] at h9
      rw [Nat.zero_add]
      exact (World.cell?_of_block (by exact hg)).trans h9
end

end Go.Proofs.Ytfhlpgngeiploab
namespace Go.Proofs.Ytfhlpgngeiploab
open Go.RowKit

section
variable {α : Type}
theorem rd_take {e : TypeId} {A : Lay α} {w : World} {a : Option Addr} {c : Nat} {xs : List α} (h : (Lay.rows e A).rd w [.slice a xs.length c] xs) (i : Nat) (hi : i ≤ xs.length) : (Lay.rows e A).rd w [.slice a i c] (xs.take i) := by
  obtain ⟨v, hv, h⟩ := h
  simp only [List.cons.injEq, and_true] at hv
  subst hv
  rcases h with ⟨rfl, a', c', hv, h⟩ | ⟨g, off, cap, us, hv, hc, hg, hcell, hr⟩
  · simp only [Value.slice.injEq] at hv
    obtain ⟨rfl, -, rfl⟩ := hv
    obtain rfl : i = 0 := by simpa using hi
    exact ⟨_, rfl, .inl ⟨rfl, _, _, rfl, h⟩⟩
  · simp only [Value.slice.injEq, true_and] at hv
    obtain ⟨rfl, rfl⟩ := hv
    have e : xs = xs.take i ++ xs.drop i := (List.take_append_drop i xs).symm
    rw [e] at hr
    obtain ⟨u1, u2, rfl, h1, h2⟩ := rdAll_append A hr
    have hl : (xs.take i).length = i := by rw [List.length_take]; omega
    refine ⟨_, rfl, .inr ⟨g, off, c, u1, by rw [hl], by rw [hl]; omega, hg, fun j u hu => hcell j u (by rw [List.getElem?_append_left (List.getElem?_eq_some_iff.1 hu).1]; exact hu), h1⟩⟩
theorem rd_drop {e : TypeId} {A : Lay α} {w : World} {g c : Nat} {xs : List α} (h : (Lay.rows e A).rd w [.slice (some ⟨g, 0, none⟩) xs.length c] xs) (i : Nat) (hi : i ≤ xs.length) : (Lay.rows e A).rd w [.slice (some ⟨g, i * A.k, none⟩) (xs.length - i) (c - i)] (xs.drop i) := by
  obtain ⟨v, hv, h⟩ := h
  simp only [List.cons.injEq, and_true] at hv
  subst hv
  rcases h with ⟨rfl, a', c', hv, h⟩ | ⟨g', off, cap, us, hv, hc, hg, hcell, hr⟩
  · obtain rfl : i = 0 := by simpa using hi
    exact ⟨_, rfl, .inl ⟨rfl, some ⟨g, 0 * A.k, none⟩, c - 0, rfl, fun e => by cases e⟩⟩
  · simp only [Value.slice.injEq, true_and, Option.some.injEq, Addr.mk.injEq, and_true] at hv
    obtain ⟨⟨rfl, rfl⟩, rfl⟩ := hv
    have e : xs = xs.take i ++ xs.drop i := (List.take_append_drop i xs).symm
    rw [e] at hr
    obtain ⟨u1, u2, rfl, h1, h2⟩ := rdAll_append A hr
    have hl : (xs.take i).length = i := by rw [List.length_take]; omega
    have hl2 : (xs.drop i).length = xs.length - i := List.length_drop
    have hu1 := rdAll_len A h1
    rw [hl] at hu1
    refine ⟨_, rfl, .inr ⟨g, i * A.k, c - i, u2, by rw [hl2], by rw [hl2]; omega, hg, fun j u hu => ?_, h2⟩⟩
    have h9 := hcell (u1.length + j) u (by rw [List.getElem?_append_right (by omega), Nat.add_sub_cancel_left]; exact hu)
    rw [Nat.zero_add, hu1] at h9
    exact h9
theorem rd_none {e : TypeId} {A : Lay α} {w : World} {g : Nat} : (Lay.rows e A).rd w [.slice (some ⟨g, 0, none⟩) 0 0] [] := ⟨_, rfl, .inl ⟨rfl, _, _, rfl, fun e => by cases e⟩⟩
end

end Go.Proofs.Ytfhlpgngeiploab
namespace Go.Proofs.Ytfhlpgngeiploab
open Go.RowKit

set_option maxRecDepth 100000 in
set_option maxHeartbeats 1600000 in
theorem specAll_bool (x0 x1 x2 : Int) (v3 v4 : Value) (r4 : List Bool) (x5 : Int) (b : Bool) (hb : b = true ↔ false ∉ r4) (hl : r4.length ≤ 100000000) (w : World) (h : layBoolS.rd w [v4] r4) :
    Calls Try.prog 26 #[.agg #[.int .i64 x0, .int .i64 x1, .int .i64 x2, v3, v4, .int .i64 x5]] w fun e w' => e = .returned (.bool b) ∧ Below w.heap.size w w' := by
  obtain ⟨a4, p4, rfl⟩ := rows_form h
  have A0 := Lib.hid (VarA.new w HeldT #[.int .i64 x0, .int .i64 x1, .int .i64 x2, v3, .slice a4 r4.length p4, .int .i64 x5])
  have B0 := Lib.hid ((Below.refl w.heap.size w).alloc (Nat.le_refl _) (.cells #[.int .i64 x0, .int .i64 x1, .int .i64 x2, v3, .slice a4 r4.length p4, .int .i64 x5] HeldT))
  have H4 := Lib.hid h
  have HB := Lib.hid hb
  clear h hb
  go_enter Try.func26, Try.ntmps26
  go_upto_region 1 with fail
  generalize w.alloc (.cells #[.int .i64 x0, .int .i64 x1, .int .i64 x2, v3, .slice a4 r4.length p4, .int .i64 x5] HeldT) = Y at *
  have c4 : Y.cell? ⟨w.heap.size, 4, none⟩ = some (.slice a4 r4.length p4) := A0.out.cell 4
  go_wp2_with fail
  go_loop [3] (fun c => ∃ j : Nat, j ≤ r4.length ∧ c = .int .i64 j ∧ Hid (false ∉ r4.take j)) (fun c => r4.length - (intOf c).toNat)
  case atStart => exact ⟨0, Nat.zero_le _, rfl, Lib.hid (by simp)⟩
  case round =>
    obtain ⟨j, hj, rfl, HP⟩ := hrel
    by_cases hlt : j < r4.length
    rotate_left
    · have hlt' : ¬ ((j : Int) < (r4.length : Int)) := by omega
      obtain rfl : j = r4.length := by omega
      have h9 := HP.out
      rw [List.take_length] at h9
      obtain rfl : b = true := HB.out.2 h9
      clear HB HP h9
      go_wp2_with fail
      go_ret
      exact ⟨rfl, B0.out⟩
    have hlt' : (j : Int) < (r4.length : Int) := by omega
    obtain ⟨g4, off4, cap4, hv4, hg4, hcell4⟩ := bools_get (layBoolS.below H4.out B0.out) j hlt
    simp only [Value.slice.injEq] at hv4
    obtain ⟨rfl, -, rfl⟩ := hv4
    have HTN : Hid (r4.take (j + 1) = r4.take j ++ [r4[j]]) := Lib.hid (by rw [List.take_add_one, List.getElem?_eq_getElem hlt]; rfl)
    have HMM := Lib.hid (List.getElem_mem hlt)
    generalize r4[j] = q at *
    cases q with
    | true =>
      have HN : Hid (false ∉ r4.take (j + 1)) := Lib.hid (by rw [HTN.out]; intro hm; rcases List.mem_append.1 hm with hm | hm; exact HP.out hm; simp at hm)
      clear HB HTN HMM
      go_wp2_with fail
      go_round
      case rel => exact ⟨j + 1, by omega, by go_num, HN⟩
      case measure => simp [intOf]; omega
    | false =>
      obtain rfl : b = false := Bool.eq_false_iff.2 (fun e => HB.out.1 e HMM.out)
      clear HB HTN HMM
      go_wp2_with fail
      go_ret
      exact ⟨rfl, B0.out⟩

end Go.Proofs.Ytfhlpgngeiploab

/-
  One more in its place: slices.Insert at rows of what came early.
-/
import Derived.Test.YthljmjbmmgligarJ35
import Derived.Test.YthljmjbmmgligarJ09
import Derived.Deep.RegionLaw
namespace Go.Proofs.Ythljmjbmmgligar
open Go.RowKit

/-- How Insert ends. -/
def InsertEnd (lo g : Nat) (es : List EarlyD) (i : Nat) (x : EarlyD) (w : World) (e : Ending) (w' : World) : Prop :=
  ∃ (g' cap' : Nat), e = .returned (.slice (some ⟨g', 0, none⟩) (es.length + 1) cap') ∧ layEarlyS.own w' lo [g'] [.slice (some ⟨g', 0, none⟩) (es.length + 1) cap'] (es.take i ++ x :: es.drop i) ∧ Chg [g] w w'
theorem insert_len (es : List EarlyD) (i : Nat) (x : EarlyD) (hi : i ≤ es.length) : (es.take i ++ x :: es.drop i).length = es.length + 1 := by simp; omega
theorem sizeEarly : ∀ w, (Go.sizeOf EarlyT).run Try.prog w = .ok 2 w := fun w => by
  obtain ⟨i, hi, hz, hs, hb⟩ := info_of infoEarly
  simp [sizeOf, typeInfo, hi, hs]
theorem early_size : (Try.prog.info? EarlyT).map (·.size) = some 2 := by
  obtain ⟨i, hi, hz, hs, hb⟩ := info_of infoEarly
  rw [hi]
  simp [hs]
theorem lit_one (w : World) (x : EarlyD) (vb : Nat) (hv : VarA vb EarlyT #[.int .i64 x.1, .string x.2] w) : layEarlyS.rd w [.slice (some ⟨vb, 0, none⟩) 1 1] [x] := by
  refine ⟨_, rfl, .inr ⟨vb, 0, 1, [.int .i64 x.1, .string x.2], rfl, Nat.le_refl _, hv.lt, fun j u hj => ?_, ⟨_, [], by simp, layEarly_rd.2 rfl, rfl⟩⟩⟩
  rw [Nat.zero_add]
  have h0 : w.cell? ⟨vb, 0, none⟩ = some (.int .i64 x.1) := hv.cell 0
  have h1 : w.cell? ⟨vb, 1, none⟩ = some (.string x.2) := hv.cell 1
  match j, hj with
  | 0, hj => simp at hj; subst hj; exact h0
  | 1, hj => simp at hj; subst hj; exact h1
  | j + 2, hj => simp at hj

set_option maxRecDepth 100000 in
set_option maxHeartbeats 3200000 in
/-- At the end. -/
theorem insert_end (lo g cap : Nat) (es : List EarlyD) (hl : es.length ≤ 1000000) (x : EarlyD) (vb : Nat) (w : World) (hlo : lo ≤ w.heap.size) (h : layEarlyS.own w lo [g] [.slice (some ⟨g, 0, none⟩) es.length cap] es) (hv : VarA vb EarlyT #[.int .i64 x.1, .string x.2] w) :
    Calls Try.prog 96 #[.slice (some ⟨g, 0, none⟩) es.length cap, .int .i64 (es.length : Int), .slice (some ⟨vb, 0, none⟩) 1 1] w (InsertEnd lo g es es.length x w) := by
  obtain ⟨i0, hi0, hz0, hsz0, hby0⟩ := info_of infoEarly
  have hroom := rows_room (layEarlyS.read h)
  have HO := Lib.hid h
  have HX := Lib.hid (lit_one w x vb hv)
  clear h hv
  obtain ⟨Q, HQQ⟩ : ∃ Q : Ending → World → Prop, Hid (Q = InsertEnd lo g es es.length x w) := ⟨_, Lib.hid rfl⟩
  rw [← HQQ.out]
  go_enter Try.func96, Try.ntmps96
  go_wp2_with (at_builtin; refine wpList_copyF w rfl _ _ 24 rfl lo EarlyT i0 _ 24 layEarly flatEarly Try.underlying24 hi0 hz0 hsz0 hby0 rfl (by omega) _ _ es rfl HO.out (fun e => by cases e) _ [x] rfl HX.out (by simp; omega) hlo ?_; intro v1 w1 hown1 hnn1 hgr1 hbe1; obtain ⟨g1, k1, rfl, hblk, -, -⟩ := flat_some flatEarly hown1 hnn1; rw [hblk] at hown1)
  all_goals
    have HE : Hid (Q (.returned (.slice (some ⟨g1, 0, none⟩) (es.length + 1) k1)) w1) := Lib.hid (by
      rw [HQQ.out]
      refine ⟨g1, k1, rfl, ?_, Chg.grown hgr1 [g] (fun k hk => by cases hk; simp)⟩
      rw [List.take_length, List.drop_length]
      rw [List.length_append] at hown1
      exact hown1)
    clear hown1 hnn1 hgr1 hbe1 hblk
    exact HE.out

/-- What a row's block holds, at one element's cells. -/
theorem block_cells {w : World} {g : Nat} {cur : List Value} {t : TypeId} (hg : w.heap[g]? = some (.cells cur.toArray t (0, 0))) (o : Nat) (j : Nat) (v : Value) (hj : (cur.drop o)[j]? = some v) : w.cell? ((⟨g, o, none⟩ : Addr).add j) = some v := by
  have e1 : (⟨g, o, none⟩ : Addr).add j = ⟨g, o + j, none⟩ := by unfold Addr.add; split <;> simp_all
  rw [List.getElem?_drop] at hj
  rw [e1, cell_of_row w g (o + j) cur.toArray t (0, 0) hg]
  simpa using hj

set_option maxRecDepth 100000 in
set_option maxHeartbeats 1600000 in
/-- There is no room: a new row. -/
theorem insert_grow (lo g cap : Nat) (es : List EarlyD) (hl : es.length ≤ 1000000) (i : Nat) (hi : i < es.length) (hcap : cap < es.length + 1) (x0 : Int) (x1 : ByteArray) (vb : Nat) (w : World) (hlo : lo ≤ w.heap.size) (h : layEarlyS.own w lo [g] [.slice (some ⟨g, 0, none⟩) es.length cap] es) (hv : VarA vb EarlyT #[.int .i64 x0, .string x1] w) :
    Calls Try.prog 96 #[.slice (some ⟨g, 0, none⟩) es.length cap, .int .i64 (i : Int), .slice (some ⟨vb, 0, none⟩) 1 1] w (InsertEnd lo g es i (x0, x1) w) := by
  obtain ⟨i0, hi0, hz0, hsz0, hby0⟩ := info_of infoEarly
  have hroom := rows_room (layEarlyS.read h)
  obtain ⟨cur, R⟩ := RowK.of flatEarly h
  have hR := R.size
  have hk2 : layEarly.k = 2 := rfl
  rw [hk2] at hR
  have hgl : g < w.heap.size := lt_of_block R.heap
  have hvl : vb < w.heap.size := hv.lt
  obtain ⟨k, hk⟩ : ∃ k : Nat, k = es.length + 1 - i := ⟨_, rfl⟩
  have hold : (Builtin.firstCells i0.size i (.slice (some ⟨g, 0, none⟩) i cap)).run Try.prog w.drew = .ok (cur.take (i * 2)).toArray w.drew := by
    rw [hsz0]
    refine run_firstCells_some (w := w.drew) 2 i ⟨g, 0, none⟩ i cap (cur.take (i * 2)) (by rw [List.length_take]; omega) (fun j v hj => ?_)
    have h1 : (cur.drop 0)[j]? = some v := by
      rw [List.drop_zero]
      rw [List.getElem?_take] at hj
      split at hj
      · exact hj
      · cases hj
    exact block_cells (w := w) R.heap 0 j v h1
  have hrun := fun ty => Lib.run_append_grow_zeros (P := Try.prog) w 24 3 ty EarlyT i0 _ .i64 .i64 Try.underlying24 Try.underlying3 hi0 hz0 (some ⟨g, 0, none⟩) i cap (cur.take (i * 2)) hold k (by omega) (by rw [hsz0]; omega) (by omega) (by omega) (by rw [hby0]; omega) (growslice_fits (by omega) (by rw [hby0]; omega))
  have hge := grownCap_ge w (i + k) cap EarlyT
  have hle := grownCap_le_maxLen w (i + k) cap EarlyT (by unfold maxLen; omega)
  generalize grownCap w (i + k) cap EarlyT = gc at hrun hge hle
  obtain ⟨hz1, -⟩ := zero_cells (Value.agg #[.int .i64 0, .string ⟨#[]⟩]).cells (by decide) k
  obtain ⟨hz2, -⟩ := zero_cells (Value.agg #[.int .i64 0, .string ⟨#[]⟩]).cells (by decide) (gc - (i + k))
  have hzc : (Value.agg #[.int .i64 0, .string ⟨#[]⟩]).cells.size = 2 := by decide
  rw [hzc] at hz1 hz2
  obtain ⟨zs, hzs⟩ : ∃ zs : List Value, zs = (Builtin.zeroCells (Value.agg #[.int .i64 0, .string ⟨#[]⟩]).cells k).toList ++ (Builtin.zeroCells (Value.agg #[.int .i64 0, .string ⟨#[]⟩]).cells (gc - (i + k))).toList := ⟨_, rfl⟩
  have hzl : zs.length = k * 2 + (gc - (i + k)) * 2 := by rw [hzs, List.length_append, hz1, hz2]
  have hce : (cur.take (i * 2)).toArray ++ Builtin.zeroCells (Value.agg #[.int .i64 0, .string ⟨#[]⟩]).cells k ++ Builtin.zeroCells (Value.agg #[.int .i64 0, .string ⟨#[]⟩]).cells (gc - (i + k)) = (cur.take (i * 2) ++ zs).toArray := by
    rw [hzs]
    apply Array.ext'
    simp
  rw [hce] at hrun
  clear hce hzs hz1 hz2 hold
  obtain ⟨W, hW⟩ : ∃ W, W = w.drew.alloc (.cells (cur.take (i * 2) ++ zs).toArray EarlyT) := ⟨_, rfl⟩
  have hWh : W.heap[w.heap.size]? = some (.cells (cur.take (i * 2) ++ zs).toArray EarlyT (0, 0)) := by rw [hW]; exact heap_alloc_new w.drew _
  have hWb : Below w.heap.size w W := by rw [hW]; exact (Below.refl _ _).drew.alloc (Nat.le_refl _) _
  rw [← hW] at hrun
  clear hW
  have htl : (cur.take (i * 2)).length = i * 2 := by rw [List.length_take]; omega
  have hcl1 : (cur.take (i * 2) ++ zs).length = gc * 2 := by rw [List.length_append, htl, hzl]; omega
  -- the new one
  have hcp1 : ∀ ty dc, (Builtin.copy_ #[24, 24] ty #[.slice (some ⟨w.heap.size, i * 2, none⟩) (es.length + 1 - i) dc, .slice (some ⟨vb, 0, none⟩) 1 1]).run Try.prog W = .ok (goInt 1) (W.setRow w.heap.size (splice (cur.take (i * 2) ++ zs) (i * 2) [.int .i64 x0, .string x1]).toArray) := fun ty dc =>
    run_copyK W 24 24 ty EarlyT w.heap.size (i * 2) (es.length + 1 - i) dc ⟨vb, 0, none⟩ 1 1 (cur.take (i * 2) ++ zs) EarlyT [.int .i64 x0, .string x1] 1 2 Try.underlying24 early_size hWh (by simp only [Nat.min_def]; split <;> omega) rfl
      (fun j v hj => by
        have h2 := (hv.next hWb).row
        have h3 : ([Value.int .i64 x0, .string x1].drop 0)[j]? = some v := hj
        exact block_cells (cur := [.int .i64 x0, .string x1]) h2 0 j v h3) (by rw [hcl1]; simp; omega) (by simp [Value.oneCell'])
  obtain ⟨c1, hc1⟩ : ∃ c1, c1 = splice (cur.take (i * 2) ++ zs) (i * 2) [.int .i64 x0, .string x1] := ⟨_, rfl⟩
  rw [← hc1] at hcp1
  obtain ⟨W1, hW1⟩ : ∃ W1, W1 = W.setRow w.heap.size c1.toArray := ⟨_, rfl⟩
  have hW1h : W1.heap[w.heap.size]? = some (.cells c1.toArray EarlyT (0, 0)) := by rw [hW1]; exact setRow_heap W w.heap.size _ _ EarlyT _ hWh
  have hW1b : Below w.heap.size w W1 := by rw [hW1]; exact below_setRow hWb (Nat.le_refl _) _
  rw [← hW1] at hcp1
  clear hW1
  have hc1l : c1.length = gc * 2 := by rw [hc1, splice_len _ _ _ (by rw [hcl1]; simp; omega), hcl1]
  -- the rest
  obtain ⟨cs, hcs⟩ : ∃ cs, cs = (cur.drop (i * 2)).take ((es.length - i) * 2) := ⟨_, rfl⟩
  have hcsl : cs.length = (es.length - i) * 2 := by rw [hcs, List.length_take, List.length_drop]; omega
  have hone : ∀ v ∈ cs, v.oneCell' = true := fun v hv2 => by
    refine rdAll_one layEarly R.rd v ?_
    rw [hcs] at hv2
    rw [hk2]
    have e1 : cur.take (es.length * 2) = cur.take (i * 2) ++ (cur.drop (i * 2)).take ((es.length - i) * 2) := by
      rw [show es.length * 2 = i * 2 + (es.length - i) * 2 by omega, List.take_add]
    rw [e1]
    exact List.mem_append_right _ hv2
  have hcp2 : ∀ ty dc sc, (Builtin.copy_ #[24, 24] ty #[.slice (some ⟨w.heap.size, (i + 1) * 2, none⟩) (es.length + 1 - (i + 1)) dc, .slice (some ⟨g, i * 2, none⟩) (es.length - i) sc]).run Try.prog W1.drew = .ok (goInt ((es.length - i : Nat) : Int)) (W1.drew.setRow w.heap.size (splice c1 ((i + 1) * 2) cs).toArray) := fun ty dc sc =>
    run_copyK W1.drew 24 24 ty EarlyT w.heap.size ((i + 1) * 2) (es.length + 1 - (i + 1)) dc ⟨g, i * 2, none⟩ (es.length - i) sc c1 EarlyT cs (es.length - i) 2 Try.underlying24 early_size hW1h (by simp only [Nat.min_def]; split <;> omega) hcsl
      (fun j v hj => by
        have h2 : W1.drew.heap[g]? = some (.cells cur.toArray EarlyT (0, 0)) := (hW1b.block g hgl).trans R.heap
        rw [hcs, List.getElem?_take] at hj
        split at hj
        · exact block_cells h2 (i * 2) j v hj
        · cases hj) (by rw [hc1l, hcsl]; omega) hone
  obtain ⟨c2, hc2⟩ : ∃ c2, c2 = splice c1 ((i + 1) * 2) cs := ⟨_, rfl⟩
  rw [← hc2] at hcp2
  obtain ⟨W2, hW2⟩ : ∃ W2, W2 = W1.drew.setRow w.heap.size c2.toArray := ⟨_, rfl⟩
  have hW2h : W2.heap[w.heap.size]? = some (.cells c2.toArray EarlyT (0, 0)) := by rw [hW2]; exact setRow_heap W1.drew w.heap.size _ _ EarlyT _ hW1h
  have hW2b : Below w.heap.size w W2 := by rw [hW2]; exact below_setRow (hW1b.trans ((Below.refl _ _).drew.mono hW1b.size)) (Nat.le_refl _) _
  rw [← hW2] at hcp2
  clear hW2
  have hc2l : c2.length = gc * 2 := by rw [hc2, splice_len _ _ _ (by rw [hc1l, hcsl]; omega), hc1l]
  have FIN : Hid (InsertEnd lo g es i (x0, x1) w (.returned (.slice (some ⟨w.heap.size, 0, none⟩) (es.length + 1) gc)) W2) := Lib.hid (by
    have hil := insert_len es i (x0, x1) (by omega)
    have hrow : RowK EarlyT layEarly W2 lo w.heap.size gc c2 (es.take i ++ (x0, x1) :: es.drop i) := by
      refine ⟨hlo, hW2h, by rw [hil]; omega, hle, by rw [hk2]; exact hc2l, ?_⟩
      have e1 : c2.take ((es.take i ++ (x0, x1) :: es.drop i).length * layEarly.k) = cur.take (i * 2) ++ ([.int .i64 x0, .string x1] ++ cs) := by
        rw [hil, hk2, hc2, hc1]
        have := splice_out (cur.take (i * 2)) zs cs [.int .i64 x0, .string x1] ((es.length - i) * 2) hcsl (by rw [hzl]; simp; omega)
        rw [htl] at this
        rw [show (i + 1) * 2 = i * 2 + [Value.int .i64 x0, .string x1].length by simp; omega, show (es.length + 1) * 2 = i * 2 + [Value.int .i64 x0, .string x1].length + (es.length - i) * 2 by simp; omega]
        exact this
      rw [e1, hcs]
      exact rdAll_insert layEarly flatEarly (x := (x0, x1)) i (by omega) R.rd (layEarly_rd.2 rfl)
    have h2 := RowK.own flatEarly hrow
    rw [hil] at h2
    exact ⟨w.heap.size, gc, rfl, h2, Below.chg hW2b [g]⟩)
  clear hc1 hc2 hcs hzl htl hcl1 hc1l hc2l hone hcsl R hR h hv hWh hW1h hW2h hWb hW1b hW2b
  obtain ⟨Q, HQQ⟩ : ∃ Q : Ending → World → Prop, Hid (Q = InsertEnd lo g es i (x0, x1) w) := ⟨_, Lib.hid rfl⟩
  rw [← HQQ.out] at FIN ⊢
  have q1 : ((i : Int) == (es.length : Int)) = false := by rw [beq_eq_false_iff_ne]; omega
  have q2 : (cap : Int) < (es.length : Int) + 1 := by omega
  have q3 : (es.length : Int) + 1 - (i : Int) = (k : Int) := by omega
  have q4 : (i : Int) ≤ (es.length : Int) := by omega
  have q5 : (i : Int) ≤ (cap : Int) := by omega
  have q6 : ¬ (cap = i) := by omega
  have q7 : ¬ (gc = i) := by omega
  have q8 : ¬ (gc = i + 1) := by omega
  have q9 : i + k = es.length + 1 := by omega
  have hw1 : IntKind.i64.wrap ((i : Int) + 1) = (i : Int) + 1 := by rw [IntKind.wrap_i64]; omega
  have htn : ((i : Int) + 1).toNat = i + 1 := by omega
  have hb1 : (0 : Int) ≤ (i : Int) + 1 := by omega
  rw [q9] at hrun
  have HRUN := Lib.hid hrun
  have HC1 := Lib.hid hcp1
  have HC2 := Lib.hid hcp2
  clear hrun hcp1 hcp2 hk q9
  have hr1 := HC1.out 3 (gc - i)
  go_enter Try.func96, Try.ntmps96
  go_wp2_with (at_builtin; refine Lib.wpList_append_run _ rfl _ _ _ _ rfl _ _ rfl rfl _ _ (HRUN.out _) ?_)
  go_region_law (refine step_copyK rfl (.tmp 50) (.tmp 53) 24 24 rfl (.slice (some ⟨w.heap.size, (i + 1) * 2, none⟩) (es.length + 1 - (i + 1)) (gc - (i + 1))) (.slice (some ⟨g, i * 2, none⟩) (es.length - i) (cap - i)) (by simp [Act.eval, Act.put]) (by simp [Act.eval, Act.put]) (HC2.out _ _ _) ?_)
  all_goals
    go_wp2_with fail
    exact FIN.out

set_option maxRecDepth 100000 in
set_option maxHeartbeats 1600000 in
/-- There is room: in place. -/
theorem insert_shift (lo g cap : Nat) (es : List EarlyD) (hl : es.length ≤ 1000000) (i : Nat) (hi : i < es.length) (hcap : es.length + 1 ≤ cap) (x0 : Int) (x1 : ByteArray) (vb : Nat) (w : World) (h : layEarlyS.own w lo [g] [.slice (some ⟨g, 0, none⟩) es.length cap] es) (hv : VarA vb EarlyT #[.int .i64 x0, .string x1] w) (hne : vb ≠ g) :
    Calls Try.prog 96 #[.slice (some ⟨g, 0, none⟩) es.length cap, .int .i64 (i : Int), .slice (some ⟨vb, 0, none⟩) 1 1] w (InsertEnd lo g es i (x0, x1) w) := by
  obtain ⟨cur, R⟩ := RowK.of flatEarly h
  have hR := R.size
  have hk2 : layEarly.k = 2 := rfl
  rw [hk2] at hR
  have hgl : g < w.heap.size := lt_of_block R.heap
  have hmx := R.max
  unfold maxLen at hmx
  -- what v and the row's tail are: apart
  have hov : ∀ lb cb, (callFunc 101 #[.slice (some ⟨vb, 0, none⟩) 1 1, .slice (some ⟨g, (i + 1) * 2, none⟩) lb cb]).run Try.prog w = .ok (.value (.bool false)) w := fun lb cb => by
    rw [run_callFunc_extern Try.func101 (by kernel_rfl) (by kernel_rfl) (by kernel_rfl) (e := Extern.SlicesOverlaps.overlaps #[24, 24] #[4]) (by kernel_rfl),
      Lib.run_overlaps_apart w 24 4 EarlyT Try.underlying24 2 sizeEarly ⟨vb, 0, none⟩ ⟨g, (i + 1) * 2, none⟩ 1 1 lb cb hne EarlyT EarlyT 2 cur.length (by simp [World.shape?, hv.row]) (by simp [World.shape?, R.heap]) (by omega) (hv.free 0) (by simp [World.frozen?, hv.row])]
    rfl
  -- the rest moves
  obtain ⟨cs, hcs⟩ : ∃ cs, cs = (cur.drop (i * 2)).take ((es.length - i) * 2) := ⟨_, rfl⟩
  have hcsl : cs.length = (es.length - i) * 2 := by rw [hcs, List.length_take, List.length_drop]; omega
  have hone : ∀ v ∈ cs, v.oneCell' = true := fun v hv2 => by
    refine rdAll_one layEarly R.rd v ?_
    rw [hcs] at hv2
    rw [hk2]
    have e1 : cur.take (es.length * 2) = cur.take (i * 2) ++ (cur.drop (i * 2)).take ((es.length - i) * 2) := by
      rw [show es.length * 2 = i * 2 + (es.length - i) * 2 by omega, List.take_add]
    rw [e1]
    exact List.mem_append_right _ hv2
  have hcp1 : ∀ ty dc sc, (Builtin.copy_ #[24, 24] ty #[.slice (some ⟨g, (i + 1) * 2, none⟩) (es.length + 1 - (i + 1)) dc, .slice (some ⟨g, i * 2, none⟩) (es.length + 1 - i) sc]).run Try.prog w.drew = .ok (goInt ((es.length - i : Nat) : Int)) (w.drew.setRow g (splice cur ((i + 1) * 2) cs).toArray) := fun ty dc sc =>
    run_copyK w.drew 24 24 ty EarlyT g ((i + 1) * 2) (es.length + 1 - (i + 1)) dc ⟨g, i * 2, none⟩ (es.length + 1 - i) sc cur EarlyT cs (es.length - i) 2 Try.underlying24 early_size R.heap (by simp only [Nat.min_def]; split <;> omega) hcsl
      (fun j v hj => by
        rw [hcs, List.getElem?_take] at hj
        split at hj
        · exact block_cells (w := w.drew) R.heap (i * 2) j v hj
        · cases hj) (by rw [hcsl]; omega) hone
  obtain ⟨c1, hc1⟩ : ∃ c1, c1 = splice cur ((i + 1) * 2) cs := ⟨_, rfl⟩
  rw [← hc1] at hcp1
  obtain ⟨W1, hW1⟩ : ∃ W1, W1 = w.drew.setRow g c1.toArray := ⟨_, rfl⟩
  have hW1h : W1.heap[g]? = some (.cells c1.toArray EarlyT (0, 0)) := by rw [hW1]; exact setRow_heap w.drew g _ _ EarlyT _ R.heap
  have hW1c : Chg [g] w W1 := by rw [hW1]; exact (Below.chg (Below.refl _ _).drew [g]).trans chg_setRow
  rw [← hW1] at hcp1
  clear hW1
  have hc1l : c1.length = cap * 2 := by rw [hc1, splice_len _ _ _ (by rw [hcsl]; omega), hR]
  -- the new one
  have hcp2 : ∀ ty dc, (Builtin.copy_ #[24, 24] ty #[.slice (some ⟨g, i * 2, none⟩) (es.length + 1 - i) dc, .slice (some ⟨vb, 0, none⟩) 1 1]).run Try.prog W1 = .ok (goInt 1) (W1.setRow g (splice c1 (i * 2) [.int .i64 x0, .string x1]).toArray) := fun ty dc =>
    run_copyK W1 24 24 ty EarlyT g (i * 2) (es.length + 1 - i) dc ⟨vb, 0, none⟩ 1 1 c1 EarlyT [.int .i64 x0, .string x1] 1 2 Try.underlying24 early_size hW1h (by simp only [Nat.min_def]; split <;> omega) rfl
      (fun j v hj => by
        have h2 : W1.heap[vb]? = some (.cells #[.int .i64 x0, .string x1] EarlyT (0, 0)) := (hW1c.block vb hv.lt (by simpa using hne)).trans hv.row
        have h3 : ([Value.int .i64 x0, .string x1].drop 0)[j]? = some v := hj
        exact block_cells (cur := [.int .i64 x0, .string x1]) h2 0 j v h3) (by rw [hc1l]; simp; omega) (by simp [Value.oneCell'])
  obtain ⟨c2, hc2⟩ : ∃ c2, c2 = splice c1 (i * 2) [.int .i64 x0, .string x1] := ⟨_, rfl⟩
  rw [← hc2] at hcp2
  obtain ⟨W2, hW2⟩ : ∃ W2, W2 = W1.setRow g c2.toArray := ⟨_, rfl⟩
  have hW2h : W2.heap[g]? = some (.cells c2.toArray EarlyT (0, 0)) := by rw [hW2]; exact setRow_heap W1 g _ _ EarlyT _ hW1h
  have hW2c : Chg [g] w W2 := by rw [hW2]; exact hW1c.trans chg_setRow
  rw [← hW2] at hcp2
  clear hW2
  have hc2l : c2.length = cap * 2 := by rw [hc2, splice_len _ _ _ (by rw [hc1l]; simp; omega), hc1l]
  have FIN : Hid (InsertEnd lo g es i (x0, x1) w (.returned (.slice (some ⟨g, 0, none⟩) (es.length + 1) cap)) W2) := Lib.hid (by
    have hil := insert_len es i (x0, x1) (by omega)
    have hrow : RowK EarlyT layEarly W2 lo g cap c2 (es.take i ++ (x0, x1) :: es.drop i) := by
      refine ⟨R.low, hW2h, by rw [hil]; omega, R.max, by rw [hk2]; exact hc2l, ?_⟩
      have e1 : c2.take ((es.take i ++ (x0, x1) :: es.drop i).length * layEarly.k) = cur.take (i * 2) ++ ([.int .i64 x0, .string x1] ++ (cur.drop (i * 2)).take ((es.length - i) * 2)) := by
        rw [hil, hk2, hc2, hc1]
        have := splice_in cur cs [.int .i64 x0, .string x1] (i * 2) ((es.length - i) * 2) (by simp) hcsl (by simp; omega) hcs
        rw [show (i + 1) * 2 = i * 2 + [Value.int .i64 x0, .string x1].length by simp; omega, show (es.length + 1) * 2 = i * 2 + [Value.int .i64 x0, .string x1].length + (es.length - i) * 2 by simp; omega]
        exact this
      rw [e1]
      exact rdAll_insert layEarly flatEarly (x := (x0, x1)) i (by omega) R.rd (layEarly_rd.2 rfl)
    have h2 := RowK.own flatEarly hrow
    rw [hil] at h2
    exact ⟨g, cap, rfl, h2, hW2c⟩)
  clear hc1 hc2 hcs hc1l hc2l hone hcsl R hR h hv hW1h hW2h hW1c hW2c
  obtain ⟨Q, HQQ⟩ : ∃ Q : Ending → World → Prop, Hid (Q = InsertEnd lo g es i (x0, x1) w) := ⟨_, Lib.hid rfl⟩
  rw [← HQQ.out] at FIN ⊢
  have q1 : ((i : Int) == (es.length : Int)) = false := by rw [beq_eq_false_iff_ne]; omega
  have q2 : ¬ ((cap : Int) < (es.length : Int) + 1) := by omega
  have q3 : (es.length : Int) + 1 ≤ (cap : Int) := by omega
  have q4 : (i : Int) ≤ (es.length : Int) := by omega
  have q5 : (i : Int) ≤ (es.length : Int) + 1 := by omega
  have q6 : ¬ (cap = i) := by omega
  have q8 : ¬ (cap = i + 1) := by omega
  have hw1 : IntKind.i64.wrap ((i : Int) + 1) = (i : Int) + 1 := by rw [IntKind.wrap_i64]; omega
  have htn : ((i : Int) + 1).toNat = i + 1 := by omega
  have hb1 : (0 : Int) ≤ (i : Int) + 1 := by omega
  have htm : ((es.length : Int) + 1).toNat = es.length + 1 := by omega
  have hb2 : (0 : Int) ≤ (es.length : Int) + 1 := by omega
  have HC1 := Lib.hid hcp1
  have hr2 := hcp2 3 (cap - i)
  clear hcp1 hcp2
  go_enter Try.func96, Try.ntmps96
  go_wp2_with (simp only [hov])
  go_region_law (refine step_copyK rfl (.tmp 73) (.tmp 76) 24 24 rfl (.slice (some ⟨g, (i + 1) * 2, none⟩) (es.length + 1 - (i + 1)) (cap - (i + 1))) (.slice (some ⟨g, i * 2, none⟩) (es.length + 1 - i) (cap - i)) (by simp [Act.eval, Act.put]) (by simp [Act.eval, Act.put]) (HC1.out _ _ _) ?_)
  all_goals
    go_wp2_with fail
    exact FIN.out

/-- One more in its place. -/
theorem insert_any (lo g cap : Nat) (es : List EarlyD) (hl : es.length ≤ 1000000) (i : Nat) (hi : i ≤ es.length) (x : EarlyD) (vb : Nat) (w : World) (hlo : lo ≤ w.heap.size) (h : layEarlyS.own w lo [g] [.slice (some ⟨g, 0, none⟩) es.length cap] es) (hv : VarA vb EarlyT #[.int .i64 x.1, .string x.2] w) (hne : vb ≠ g) :
    Calls Try.prog 96 #[.slice (some ⟨g, 0, none⟩) es.length cap, .int .i64 (i : Int), .slice (some ⟨vb, 0, none⟩) 1 1] w (InsertEnd lo g es i x w) := by
  obtain ⟨x0, x1⟩ := x
  by_cases h1 : i = es.length
  · subst h1
    exact insert_end lo g cap es hl (x0, x1) vb w hlo h hv
  · by_cases h2 : es.length + 1 ≤ cap
    · exact insert_shift lo g cap es hl i (by omega) h2 x0 x1 vb w h hv hne
    · exact insert_grow lo g cap es hl i (by omega) (by omega) x0 x1 vb w hlo h hv

end Go.Proofs.Ythljmjbmmgligar

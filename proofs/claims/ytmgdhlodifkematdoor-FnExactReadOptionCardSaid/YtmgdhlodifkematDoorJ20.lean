/-
  The program's OptionText.
  The given Agree.
-/
import Derived.Test.YtmgdhlodifkematDoorJ18
import Derived.Test.YtmgdhlodifkematDoorJ19
import Derived.Test.YtmgdhlodifkematDoorJ03
namespace Go.Proofs.YtmgdhlodifkematDoor
open Go.RowKit

theorem join_at (x : UInt8) : ∀ ls : List (List UInt8), Lib.join ls [x] = joinAt x ls
  | [] => rfl
  | [p] => by simp [Lib.join, List.intercalate, joinAt_one]
  | p :: q :: r => by
    have h := join_at x (q :: r)
    rw [joinAt_more x p (q :: r) (by simp), ← h]
    simp [Lib.join, List.intercalate]
/-- A row of two texts, written out. -/
theorem two_lit (V : World) (b : Nat) (x y : ByteArray) (hb : b ≤ V.heap.size) : layStringS.own (V.alloc (.cells #[.string x, .string y] StringT)) b [V.heap.size] [.slice (some ⟨V.heap.size, 0, none⟩) 2 2] [x, y] :=
  flat_own flatString (World.ownsRow_lit V #[.string x, .string y] 2 hb (by decide) rfl) (us := [.string x, .string y]) (xs := [x, y]) ⟨[.string x], [.string y], rfl, rfl, [.string y], [], rfl, rfl, rfl⟩
/-- The library's joining, of a row that can be read. -/
theorem joined_any (a : Option Addr) (c : Nat) (xs : List ByteArray) (x : UInt8) (w : World) (h : layStringS.rd w [.slice a xs.length c] xs) (h1 : 1 ≤ xs.length) (hn : xs.length ≤ 1000) (hl : (joinAt x (bytesW xs)).length ≤ 1048576) :
    Calls Tryd.prog 29 #[.slice a xs.length c, .string ⟨#[x]⟩] w fun e w' => e = .returned (.string ⟨(joinAt x (bytesW xs)).toArray⟩) ∧ Below w.heap.size w w' := by
  obtain ⟨g, off, cs, rfl, hg, -, -⟩ := rows_elem h 0 _ (List.getElem?_eq_getElem (show 0 < xs.length by omega))
  have e : Lib.join (xs.map (·.data.toList)) [x] = joinAt x (bytesW xs) := join_at x _
  have hj := Tryd.strings_Join g off c xs ⟨#[x]⟩ w (fun j y hy => by
    obtain ⟨g2, off2, cs2, h2, -, hr, hc⟩ := rows_elem h j y hy
    simp only [Option.some.injEq, Addr.mk.injEq, and_true] at h2
    obtain ⟨rfl, rfl⟩ := h2
    rw [layString_rd] at hr
    subst hr
    have h9 := hc 0 _ rfl
    rw [str_k] at h9
    exact h9) hg (by omega) (rows_room h) (by
      show (Lib.join (xs.map (·.data.toList)) [x]).length ≤ _
      rw [e]
      omega)
  refine hj.mono ?_
  rintro e2 w' ⟨rfl, hb⟩
  refine ⟨?_, hb⟩
  show Ending.returned (.string ⟨(Lib.join (xs.map (·.data.toList)) [x]).toArray⟩) = _
  rw [e]
theorem opt_whole (z : Nat) (ws : List ByteArray) (a b c : ByteArray) (ha : a.data.toList = optSize ++ Lib.decDigits z) (hb : b.data.toList = [119, 97, 121, 115, 32] ++ joinAt 44 (bytesW ws)) (hc : c.data.toList = [112, 105, 101, 99, 101, 115]) :
    joinAt 59 (bytesW [a, b]) = optL z ws false ∧ joinAt 59 (bytesW [a, b, c]) = optL z ws true := by
  unfold bytesW
  simp only [List.map_cons, List.map_nil]
  rw [joinAt_more 59 _ _ (by simp), joinAt_one, joinAt_more 59 _ _ (by simp), joinAt_more 59 _ _ (by simp), joinAt_one, ha, hb, hc]
  unfold optL optWays optEnd
  exact ⟨by simp [bytesW], by simp [bytesW]⟩

set_option maxRecDepth 100000 in
set_option maxHeartbeats 3200000 in
theorem implOptionText_any (z : Int) (v1 : Value) (ws : List ByteArray) (p : Bool) (t : ByteArray) (ok : Bool) (ht : TextIs z ws p t ok) (hl : ws.length ≤ 100000000) (hx : ∀ x ∈ ws, x.size ≤ 100000000) (w : World) (hw : LaidT w) (h : layStringS.rd w [v1] ws) :
    Calls Tryd.prog 15 #[.agg #[.int .i64 z, v1, .bool p]] w fun e w' => e = .returned (.tuple #[.string t, .bool ok]) ∧ Below w.heap.size w w' := by
  obtain ⟨a1, k1, rfl⟩ := rows_form h
  have A0 := Lib.hid (VarA.new w OptionsT #[.int .i64 z, .slice a1 ws.length k1, .bool p])
  have B0 := Lib.hid ((Below.refl w.heap.size w).alloc (Nat.le_refl _) (.cells #[.int .i64 z, .slice a1 ws.length k1, .bool p] OptionsT))
  have HR := Lib.hid h
  have HW := Lib.hid hw
  have HZ := Lib.hid hx
  have HT := Lib.hid ht
  clear h hx ht hw
  go_enter Tryd.func15, Tryd.ntmps15
  go_upto_region 1 with fail
  generalize w.alloc (.cells #[.int .i64 z, .slice a1 ws.length k1, .bool p] OptionsT) = Y at *
  have c0 : Y.cell? ⟨w.heap.size, 0, none⟩ = some (.int .i64 z) := A0.out.cell 0
  have c1 : Y.cell? ⟨w.heap.size, 1, none⟩ = some (.slice a1 ws.length k1) := A0.out.cell 1
  have c2 : Y.cell? ⟨w.heap.size, 2, none⟩ = some (.bool p) := A0.out.cell 2
  have K := Lib.hid (implOptionsOk_bool z (.slice a1 ws.length k1) ws p ok (by
    rcases HT.out with ⟨h1, h2, _⟩ | ⟨h1, h2, _⟩
    · exact ⟨fun _ => h2, fun _ => h1⟩
    · exact ⟨fun e => (by rw [h1] at e; cases e), fun e => absurd e h2⟩) hl HZ.out Y (layStringS.below HR.out B0.out))
  cases ok with
  | false =>
    obtain rfl : t = ⟨#[]⟩ := by
      rcases HT.out with ⟨h, _⟩ | ⟨_, _, h⟩
      · cases h
      · exact h
    go_wp2_with fail
    refine (K.out).mono ?_
    rintro e Z9 ⟨rfl, hb⟩
    have B1 := Lib.hid (B0.out.trans (hb.mono B0.out.size))
    clear hb K
    go_wp2_with fail
    go_ret2
    exact ⟨rfl, B1.out⟩
  | true =>
    obtain ⟨hop, ht2⟩ : OptP z ws ∧ t = optT z.toNat ws p := by
      rcases HT.out with ⟨_, h1, h2⟩ | ⟨h, _⟩
      · exact ⟨h1, h2⟩
      · cases h
    have HE := Lib.hid ht2
    have hz := hop.sizeR
    obtain ⟨m, hm⟩ : ∃ m : Nat, z = (m : Int) := ⟨z.toNat, by omega⟩
    subst hm
    have hlj : (joinAt 44 (bytesW ws)).length ≤ 1048576 := by
      have h2 := joinAt_len 44 8 (bytesW ws) (fun q hq => by
        obtain ⟨x, hx, rfl⟩ := List.mem_map.1 hq
        have := (hop.way x hx).2.2
        simpa using this)
      have h3 : (bytesW ws).length = ws.length := by unfold bytesW; simp
      have h4 := hop.few
      rw [h3] at h2
      omega
    have hol : Hid ((optL m ws p).length ≤ 100) := Lib.hid (opt_len hop p)
    have hl1 := hop.some1
    have hl4 := hop.few
    have KJ : Hid (∀ X, Below w.heap.size w X → Calls Tryd.prog 29 #[.slice a1 ws.length k1, .string ⟨#[44]⟩] X fun e w' => e = .returned (.string ⟨(joinAt 44 (bytesW ws)).toArray⟩) ∧ Below X.heap.size X w') := Lib.hid (fun X hb => joined_any a1 k1 ws 44 X (layStringS.below HR.out hb) hl1 (by omega) hlj)
    have KD : Hid (∀ X, Below w.heap.size w X → Calls Tryd.prog 28 #[.int .i64 m] X fun e X' => e = .returned (.string ⟨(Lib.decDigits m).toArray⟩) ∧ Below X.heap.size X X') := Lib.hid (fun X hb => by
      have h := implDecimal_any (m : Int) (by omega) (by omega) X (HW.out.stays hb)
      rw [Lib.itoa_nonneg] at h
      exact h)
    have WH := Lib.hid (opt_whole m ws)
    have hk1 : ¬ (9223372036854775807 < 5 + (Lib.decDigits m).length) := by
      have := dec_length 2 m (by omega) (by omega)
      omega
    have hk2 : ¬ (9223372036854775807 < 5 + (joinAt 44 (bytesW ws)).length) := by omega
    go_wp2_with fail
    refine (K.out).mono ?_
    rintro e Z9 ⟨rfl, hb⟩
    have B1 := Lib.hid (B0.out.trans (hb.mono B0.out.size))
    replace A0 := Lib.hid (A0.out.next hb)
    clear hb K c0 c1 c2 B0 hop HT ht2 HZ hlj
    have qv : ∀ X Y, (Hid (VarA w.heap.size OptionsT #[.int .i64 (m : Int), .slice a1 ws.length k1, .bool p] X ∧ Below w.heap.size w X)) → Below X.heap.size X Y → (Hid (VarA w.heap.size OptionsT #[.int .i64 (m : Int), .slice a1 ws.length k1, .bool p] Y ∧ Below w.heap.size w Y)) := fun X Y h hb => Lib.hid ⟨h.out.1.next hb, h.out.2.trans (hb.mono h.out.2.size)⟩
    have E0 : Hid (VarA w.heap.size OptionsT #[.int .i64 (m : Int), .slice a1 ws.length k1, .bool p] Z9.drew ∧ Below w.heap.size w Z9.drew) := Lib.hid ⟨A0.out.drew, B1.out.drew⟩
    go_wp2_with fail
    clear A0 B1
    refine wp_region_held_drew (S := fun X => Hid (VarA w.heap.size OptionsT #[.int .i64 (m : Int), .slice a1 ws.length k1, .bool p] X ∧ Below w.heap.size w X)) (by kernel_rfl) E0 (fun hHeld => ?_)
    clear E0
    generalize Z9.drew = X0 at *
    refine wpAnyH_take (i := 0) (v := ?_) rfl (by kernel_rfl) (by kernel_rfl) (by kernel_rfl) (fun _ _ _ h => h) (Or.inl ⟨by kernel_rfl, ?_⟩) hHeld ?_
    rotate_left
    · intro X hX
      first | (go_simp; done) | (go_simp; with_reducible rfl)
    try simp only [Act.put, List.getElem_toArray, List.getElem_cons_zero, List.setIfInBounds_toArray, List.set_cons_zero, List.set_cons_succ]
    refine wpAnyH_take (i := 1) (v := ?_) rfl (by kernel_rfl) (by kernel_rfl) (by kernel_rfl) (fun _ _ _ h => h) (Or.inl ⟨by kernel_rfl, ?_⟩) hHeld ?_
    rotate_left
    · intro X hX
      have y : X.cell? ⟨w.heap.size, 0, none⟩ = some (.int .i64 (m : Int)) := hX.out.1.cell 0
      first | (go_simp; done) | (go_simp; with_reducible rfl)
    try simp only [Act.put, List.getElem_toArray, List.getElem_cons_succ, List.getElem_cons_zero, List.setIfInBounds_toArray, List.set_cons_zero, List.set_cons_succ]
    refine wpAnyH_take (i := 4) (v := ?_) rfl (by kernel_rfl) (by kernel_rfl) (by kernel_rfl) (fun _ _ _ h => h) (Or.inl ⟨by kernel_rfl, ?_⟩) hHeld ?_
    rotate_left
    · intro X hX
      first | (go_simp; done) | (go_simp; with_reducible rfl)
    try simp only [Act.put, List.getElem_toArray, List.getElem_cons_succ, List.getElem_cons_zero, List.setIfInBounds_toArray, List.set_cons_zero, List.set_cons_succ]
    refine wpAnyH_take (i := 5) (v := ?_) rfl (by kernel_rfl) (by kernel_rfl) (by kernel_rfl) (fun _ _ _ h => h) (Or.inl ⟨by kernel_rfl, ?_⟩) hHeld ?_
    rotate_left
    · intro X hX
      have y : X.cell? ⟨w.heap.size, 1, none⟩ = some (.slice a1 ws.length k1) := hX.out.1.cell 1
      first | (go_simp; done) | (go_simp; with_reducible rfl)
    try simp only [Act.put, List.getElem_toArray, List.getElem_cons_succ, List.getElem_cons_zero, List.setIfInBounds_toArray, List.set_cons_zero, List.set_cons_succ]
    refine wpAnyH_ready (rs := [2]) (by kernel_rfl) (by simp) ?_
    refine AllReadyH.cons rfl (fun K hK => ?_) AllReadyH.nil
    go_simp
    go_wp2_with (go_at_call 28; refine (KD.out X0 hHeld.out.2).mono ?_; rintro e X1 ⟨rfl, hb0⟩; have hS := qv _ _ hHeld hb0; clear hb0)
    refine hK.out _ _ hS (fun hHeld => ?_)
    clear hK K hS
    try simp only [Act.put, List.getElem_toArray, List.getElem_cons_succ, List.getElem_cons_zero, List.setIfInBounds_toArray, List.set_cons_zero, List.set_cons_succ]
    refine wpAnyH_take (i := 3) (v := ?_) rfl (by kernel_rfl) (by kernel_rfl) (by kernel_rfl) (fun _ _ _ h => h) (Or.inl ⟨by kernel_rfl, ?_⟩) hHeld ?_
    rotate_left
    · intro X hX
      first | (go_simp; done) | (go_simp; with_reducible rfl)
    try simp only [Act.put, List.getElem_toArray, List.getElem_cons_succ, List.getElem_cons_zero, List.setIfInBounds_toArray, List.set_cons_zero, List.set_cons_succ]
    refine wpAnyH_ready (rs := [6]) (by kernel_rfl) (by simp) ?_
    refine AllReadyH.cons rfl (fun K hK => ?_) AllReadyH.nil
    go_simp
    go_wp2_with (go_at_call 29; refine (KJ.out X1 hHeld.out.2).mono ?_; rintro e X2 ⟨rfl, hb0⟩; have hS := qv _ _ hHeld hb0; clear hb0)
    refine hK.out _ _ hS (fun hHeld => ?_)
    clear hK K hS
    try simp only [Act.put, List.getElem_toArray, List.getElem_cons_succ, List.getElem_cons_zero, List.setIfInBounds_toArray, List.set_cons_zero, List.set_cons_succ]
    refine wpAnyH_take (i := 7) (v := ?_) rfl (by kernel_rfl) (by kernel_rfl) (by kernel_rfl) (fun _ _ _ h => h) (Or.inl ⟨by kernel_rfl, ?_⟩) hHeld ?_
    rotate_left
    · intro X hX
      first | (go_simp; done) | (go_simp; with_reducible rfl)
    try simp only [Act.put, List.getElem_toArray, List.getElem_cons_succ, List.getElem_cons_zero, List.setIfInBounds_toArray, List.set_cons_zero, List.set_cons_succ]
    refine wpAnyH_ready (rs := [8]) (by kernel_rfl) (by simp) ?_
    refine AllReadyH.cons rfl (fun K hK => ?_) AllReadyH.nil
    have KLT := Lib.hid (hHeld.out.1.lt)
    go_simp
    have hal : Below X2.heap.size X2 (X2.alloc (.cells #[.string (⟨#[115, 105, 122, 101, 32]⟩ ++ ⟨(Lib.decDigits m).toArray⟩), .string (⟨#[119, 97, 121, 115, 32]⟩ ++ ⟨(joinAt 44 (bytesW ws)).toArray⟩)] StringT)) := (Below.refl _ _).alloc (Nat.le_refl _) _
    refine hK.out _ _ (qv _ _ hHeld hal) (fun hHeld => ?_)
    clear hK K hal
    have hlo : Hid (w.heap.size ≤ X2.heap.size) := Lib.hid (Nat.le_of_lt (show w.heap.size < X2.heap.size from KLT.out))
    have O2 := Lib.hid (two_lit X2 w.heap.size (⟨#[115, 105, 122, 101, 32]⟩ ++ ⟨(Lib.decDigits m).toArray⟩) (⟨#[119, 97, 121, 115, 32]⟩ ++ ⟨(joinAt 44 (bytesW ws)).toArray⟩) hlo.out)
    generalize X2.alloc (.cells #[.string (⟨#[115, 105, 122, 101, 32]⟩ ++ ⟨(Lib.decDigits m).toArray⟩), .string (⟨#[119, 97, 121, 115, 32]⟩ ++ ⟨(joinAt 44 (bytesW ws)).toArray⟩)] StringT) = X3 at *
    generalize X2.heap.size = G2 at *
    try simp only [Act.put, List.getElem_toArray, List.getElem_cons_succ, List.getElem_cons_zero, List.setIfInBounds_toArray, List.set_cons_zero, List.set_cons_succ]
    refine wpAnyH_take (i := 9) (v := ?_) rfl (by kernel_rfl) (by kernel_rfl) (by kernel_rfl) (fun _ _ _ h => h) (Or.inl ⟨by kernel_rfl, ?_⟩) hHeld ?_
    rotate_left
    · intro X hX
      first | (go_simp; done) | (go_simp; with_reducible rfl)
    try simp only [Act.put, List.getElem_toArray, List.getElem_cons_succ, List.getElem_cons_zero, List.setIfInBounds_toArray, List.set_cons_zero, List.set_cons_succ]
    refine wpAnyH_done (by kernel_rfl) ?_ _
    have hv := hHeld.out.1
    have HB := Lib.hid hHeld.out.2
    have c2 := hv.cell 2
    clear hHeld hv
    have e1 : Hid ((⟨#[115, 105, 122, 101, 32]⟩ ++ ⟨(Lib.decDigits m).toArray⟩ : ByteArray).data.toList = optSize ++ Lib.decDigits m) := Lib.hid (by rw [cat_bytes]; rfl)
    have e2 : Hid ((⟨#[119, 97, 121, 115, 32]⟩ ++ ⟨(joinAt 44 (bytesW ws)).toArray⟩ : ByteArray).data.toList = [119, 97, 121, 115, 32] ++ joinAt 44 (bytesW ws)) := Lib.hid (by rw [cat_bytes])
    generalize (⟨#[115, 105, 122, 101, 32]⟩ ++ ⟨(Lib.decDigits m).toArray⟩ : ByteArray) = pa at *
    generalize (⟨#[119, 97, 121, 115, 32]⟩ ++ ⟨(joinAt 44 (bytesW ws)).toArray⟩ : ByteArray) = pb at *
    obtain ⟨i0, hi0, hz0, hsz0, hby0⟩ := info_of infoString
    cases p with
    | false =>
      have KQ := Lib.hid (joined_any (some ⟨G2, 0, none⟩) 2 [pa, pb] 59 X3 (layStringS.read O2.out) (by simp) (by simp) (by rw [((WH.out pa pb ⟨#[112, 105, 101, 99, 101, 115]⟩ e1.out e2.out rfl)).1]; have := hol.out; omega))
      rw [((WH.out pa pb ⟨#[112, 105, 101, 99, 101, 115]⟩ e1.out e2.out rfl)).1] at KQ
      go_wp2_with fail
      refine (KQ.out).mono ?_
      rintro e Z ⟨rfl, hb⟩
      have BZ := Lib.hid (HB.out.trans (hb.mono HB.out.size))
      clear hb KQ
      go_wp2_with fail
      go_ret2
      exact ⟨by rw [HE.out]; rfl, BZ.out⟩
    | true =>
      have hwx : w.heap.size ≤ X3.heap.size := HB.out.size
      have hal : Below X3.heap.size X3 (X3.alloc (.cells #[.string ⟨#[112, 105, 101, 99, 101, 115]⟩] StringT)) := (Below.refl _ _).alloc (Nat.le_refl _) _
      have HB2 := Lib.hid HB.out
      clear hal
      go_wp2_with (at_builtin; refine wpList_pushF X3 rfl _ _ 22 rfl w.heap.size StringT i0 _ 16 layString flatString Tryd.underlying22 hi0 hz0 hsz0 hby0 rfl (by omega) (.slice (some ⟨G2, 0, none⟩) 2 2) [G2] [pa, pb] (by rfl) O2.out ⟨#[112, 105, 101, 99, 101, 115]⟩ #[.string ⟨#[112, 105, 101, 99, 101, 115]⟩] (layString_rd.2 rfl) (by rfl) (by simp) hwx ?_; intro v1 w3 hown1 hnn1 hgr1 hbe1; obtain ⟨m1, mc1, rfl, hblk, _, _⟩ := flat_some flatString hown1 hnn1; rw [hblk] at hown1)
      have HB3 := Lib.hid (HB2.out.trans hbe1)
      have KQ := Lib.hid (joined_any (some ⟨m1, 0, none⟩) mc1 [pa, pb, ⟨#[112, 105, 101, 99, 101, 115]⟩] 59 w3 (layStringS.read hown1) (by simp) (by simp) (by rw [((WH.out pa pb ⟨#[112, 105, 101, 99, 101, 115]⟩ e1.out e2.out rfl)).2]; have := hol.out; omega))
      rw [((WH.out pa pb ⟨#[112, 105, 101, 99, 101, 115]⟩ e1.out e2.out rfl)).2] at KQ
      clear hown1 hnn1 hgr1 hbe1 hblk c2
      go_wp2_with fail
      refine (KQ.out).mono ?_
      rintro e Z ⟨rfl, hb⟩
      have BZ := Lib.hid (HB3.out.trans (hb.mono HB3.out.size))
      clear hb KQ
      go_wp2_with fail
      go_ret2
      exact ⟨by rw [HE.out]; rfl, BZ.out⟩

end Go.Proofs.YtmgdhlodifkematDoor
namespace Go.Proofs.YtmgdhlodifkematDoor
open Go.RowKit

theorem set_three {X : World} {G : Nat} {t : TypeId} {q0 q1 q2 p0 p1 p2 : Value} (h : VarA G t #[q0, q1, q2] X) : VarA G t #[p0, p1, p2] (((X.setCell ⟨G, 0, none⟩ p0).setCell ⟨G, 1, none⟩ p1).setCell ⟨G, 2, none⟩ p2) := ((h.set 0 p0).set 1 p1).set 2 p2
/-- A row of one text, written out. -/
theorem text_lit (V : World) (b : Nat) (x : ByteArray) (hb : b ≤ V.heap.size) : layStringS.own (V.alloc (.cells #[.string x] StringT)) b [V.heap.size] [.slice (some ⟨V.heap.size, 0, none⟩) 1 1] [x] :=
  ⟨_, rfl, .inr ⟨V.heap.size, 1, [.string x], [], rfl, rfl, World.ownsRow_lit V #[.string x] 1 hb (by decide) rfl, ⟨[], [], [.string x], [], rfl, rfl, ⟨rfl, rfl⟩, rfl, rfl⟩⟩⟩
/-- Options as an answer, of the call's own. -/
def OptRet (rz : Int) (rw : List ByteArray) (rp ok : Bool) (w : World) (e : Ending) (w' : World) : Prop :=
  ∃ v fp, e = .returned (.tuple #[.agg #[.int .i64 rz, v, .bool rp], .bool ok]) ∧ fp.Nodup ∧ layStringS.own w' w.heap.size fp [v] rw ∧ Below w.heap.size w w'
/-- The two arguments and the result in their variables. -/
structure AGS (w : World) (ca cb cr : Array Value) (X : World) : Prop where
  a : VarA w.heap.size OptionsT ca X
  b : VarA (w.heap.size + 1) OptionsT cb X
  r : VarA (w.heap.size + 2) OptionsT cr X
  below : Below w.heap.size w X
theorem AGS.next {w : World} {ca cb cr : Array Value} {X Y : World} (h : AGS w ca cb cr X) (hb : Below X.heap.size X Y) : AGS w ca cb cr Y := ⟨h.a.next hb, h.b.next hb, h.r.next hb, h.below.trans (hb.mono h.below.size)⟩
theorem AGS.next3 {w : World} {ca cb cr : Array Value} {X Y : World} (h : AGS w ca cb cr X) (hb : Below (w.heap.size + 3) X Y) : AGS w ca cb cr Y := ⟨⟨(hb.block _ (by omega)).trans h.a.row⟩, ⟨(hb.block _ (by omega)).trans h.b.row⟩, ⟨(hb.block _ (by omega)).trans h.r.row⟩, h.below.trans (hb.mono (by omega))⟩
theorem AGS.off {w : World} {ca cb cr : Array Value} {X : World} (h : AGS w ca cb cr X) (g j : Nat) (v : Value) (hg : w.heap.size + 3 ≤ g) : AGS w ca cb cr (X.setCell ⟨g, j, none⟩ v) := ⟨h.a.off j v (by omega), h.b.off j v (by omega), h.r.off j v (by omega), h.below.trans ((Below.refl _ _).setCell (p := ⟨g, j, none⟩) (show _ ≤ g by omega) v)⟩

end Go.Proofs.YtmgdhlodifkematDoor

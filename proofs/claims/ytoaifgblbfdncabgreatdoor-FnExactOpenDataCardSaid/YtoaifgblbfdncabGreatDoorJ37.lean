/-
  The program's key, isOfKey, nextNum, seal, takerOf and take.
-/
import Derived.Test.YtoaifgblbfdncabGreatDoorJ22
import Derived.Test.YtoaifgblbfdncabGreatDoorJ23
import Derived.Test.YtoaifgblbfdncabGreatDoorJ25
import Derived.Test.YtoaifgblbfdncabGreatDoorJ32
import Derived.Test.YtoaifgblbfdncabGreatDoorJ33
import Derived.Test.YtoaifgblbfdncabGreatDoorJ36
namespace Go.Proofs.YtoaifgblbfdncabGreatDoor
open Go.RowKit

set_option maxRecDepth 100000 in
set_option maxHeartbeats 800000 in
theorem key_any (G o : Nat) (x0 z : Int) (h0 : 0 ≤ x0) (hz : x0 % 8 = z) (w : World) (c0 : w.cell? ⟨G, o, none⟩ = some (.int .i64 x0)) :
    Calls Tryz.prog 62 #[.pointer (some ⟨G, o, none⟩)] w fun e w' => e = .returned (.int .i64 z) ∧ w' = w := by
  have hm : Int.tmod x0 8 = z := by rw [Int.tmod_eq_emod_of_nonneg h0]; exact hz
  clear hz h0
  go_enter Tryz.func62, Tryz.ntmps62
  go_wp2_with fail
  go_ret
  exact ⟨rfl, rfl⟩
set_option maxRecDepth 100000 in
set_option maxHeartbeats 800000 in
theorem isOfKey_any (G o : Nat) (x0 key : Int) (b : Bool) (hb : b = true ↔ (0 < x0 ∧ x0 % 8 = key)) (w : World) (c0 : w.cell? ⟨G, o, none⟩ = some (.int .i64 x0)) :
    Calls Tryz.prog 46 #[.pointer (some ⟨G, o, none⟩), .int .i64 key] w fun e w' => e = .returned (.bool b) ∧ w' = w := by
  by_cases h : 0 < x0
  rotate_left
  · obtain rfl : b = false := by
      cases b with
      | false => rfl
      | true => exact absurd (hb.1 rfl).1 h
    have hd : decide (0 < x0) = false := decide_eq_false h
    clear hb
    go_enter Tryz.func46, Tryz.ntmps46
    go_wp2_with fail
    go_ret
    exact ⟨rfl, rfl⟩
  have hd : decide (0 < x0) = true := decide_eq_true h
  obtain ⟨z, hz⟩ : ∃ z, x0 % 8 = z := ⟨_, rfl⟩
  rw [hz] at hb
  have K := Lib.hid (key_any G o x0 z (by omega) hz w c0)
  obtain rfl : (z == key) = b := by
    cases b with
    | true => rw [beq_iff_eq]; exact (hb.1 rfl).2
    | false => rw [beq_eq_false_iff_ne]; intro h2; exact absurd (hb.2 ⟨h, h2⟩) (by simp)
  clear hb hz h
  go_enter Tryz.func46, Tryz.ntmps46
  go_wp2_with fail
  refine K.out.mono ?_
  rintro e w1 ⟨rfl, hw⟩
  rw [hw]
  clear hw K
  go_wp2_with fail
  go_ret
  exact ⟨rfl, rfl⟩
/-- Which keys a packet is for. -/
def TakerIs (G : Nat) (x0 y0 y5 key now : Int) (z : Option Addr) : Prop :=
  ((0 < x0 ∧ x0 % 8 = key) ∧ z = some ⟨G, 0, none⟩) ∨ (¬ (0 < x0 ∧ x0 % 8 = key) ∧ (0 < y0 ∧ y0 % 8 = key) ∧ now < y5 ∧ z = some ⟨G, 6, none⟩) ∨ (¬ (0 < x0 ∧ x0 % 8 = key) ∧ ¬ ((0 < y0 ∧ y0 % 8 = key) ∧ now < y5) ∧ z = none)
set_option maxRecDepth 100000 in
set_option maxHeartbeats 1600000 in
theorem takerOf_any (G : Nat) (x0 y0 y5 key now : Int) (z : Option Addr) (hz : TakerIs G x0 y0 y5 key now z) (w : World) (c0 : w.cell? ⟨G, 0, none⟩ = some (.int .i64 x0)) (c6 : w.cell? ⟨G, 6, none⟩ = some (.int .i64 y0)) (c11 : w.cell? ⟨G, 11, none⟩ = some (.int .i64 y5)) :
    Calls Tryz.prog 27 #[.pointer (some ⟨G, 0, none⟩), .int .i64 key, .int .i64 now] w fun e w' => e = .returned (.pointer z) ∧ w' = w := by
  rcases hz with ⟨h1, rfl⟩ | ⟨h1, h2, h3, rfl⟩ | ⟨h1, h2, rfl⟩
  · have K := Lib.hid (isOfKey_any G 0 x0 key true ⟨fun _ => h1, fun _ => rfl⟩ w c0)
    clear h1
    go_enter Tryz.func27, Tryz.ntmps27
    go_wp2_with fail
    refine K.out.mono ?_
    rintro e w1 ⟨rfl, hw⟩
    rw [hw]
    clear hw K
    go_wp2_with fail
    go_ret
    exact ⟨rfl, rfl⟩
  · have K := Lib.hid (isOfKey_any G 0 x0 key false ⟨fun e => (by cases e), fun e => absurd e h1⟩ w c0)
    have K2 := Lib.hid (isOfKey_any G 6 y0 key true ⟨fun _ => h2, fun _ => rfl⟩ w c6)
    have hd : decide (now < y5) = true := decide_eq_true h3
    clear h1 h2
    go_enter Tryz.func27, Tryz.ntmps27
    go_wp2_with fail
    refine K.out.mono ?_
    rintro e w1 ⟨rfl, hw⟩
    rw [hw]
    clear hw K
    go_wp2_with fail
    refine K2.out.mono ?_
    rintro e w1 ⟨rfl, hw⟩
    rw [hw]
    clear hw K2
    go_wp2_with fail
    go_ret
    exact ⟨rfl, rfl⟩
  · have K := Lib.hid (isOfKey_any G 0 x0 key false ⟨fun e => (by cases e), fun e => absurd e h1⟩ w c0)
    by_cases h4 : 0 < y0 ∧ y0 % 8 = key
    · have K2 := Lib.hid (isOfKey_any G 6 y0 key true ⟨fun _ => h4, fun _ => rfl⟩ w c6)
      have hd : decide (now < y5) = false := decide_eq_false (fun h => h2 ⟨h4, h⟩)
      have hd' : ¬ (now < y5) := fun h => h2 ⟨h4, h⟩
      clear h1 h2 h4
      go_enter Tryz.func27, Tryz.ntmps27
      go_wp2_with fail
      refine K.out.mono ?_
      rintro e w1 ⟨rfl, hw⟩
      rw [hw]
      clear hw K
      go_wp2_with fail
      refine K2.out.mono ?_
      rintro e w1 ⟨rfl, hw⟩
      rw [hw]
      clear hw K2
      go_wp2_with fail
      go_ret
      exact ⟨rfl, rfl⟩
    · have K2 := Lib.hid (isOfKey_any G 6 y0 key false ⟨fun e => (by cases e), fun e => absurd e h4⟩ w c6)
      clear h1 h2 h4
      go_enter Tryz.func27, Tryz.ntmps27
      go_wp2_with fail
      refine K.out.mono ?_
      rintro e w1 ⟨rfl, hw⟩
      rw [hw]
      clear hw K
      go_wp2_with fail
      refine K2.out.mono ?_
      rintro e w1 ⟨rfl, hw⟩
      rw [hw]
      clear hw K2
      go_wp2_with fail
      go_ret
      exact ⟨rfl, rfl⟩
theorem open_nil {key : ByteArray} {num : Int} {text t : ByteArray} (h : OpenIs key num text t false) : t = ⟨#[]⟩ := by
  rcases h with ⟨_, h, _⟩ | ⟨_, _, h⟩
  · exact h
  · rw [h]; rfl
/-- A packet is opened by one set of keys. -/
theorem implOpen_is (key : ByteArray) (num : Int) (text t : ByteArray) (ok : Bool) (hk : key.size ≤ 300000000) (hs : text.size ≤ 1000000000) (h : OpenIs key num text t ok) (w : World) (ht : LaidK w) :
    Calls Tryz.prog 48 #[.string key, .int .i64 num, .string text] w fun e w' => e = .returned (.tuple #[.string t, .bool ok]) ∧ Below w.heap.size w w' := by
  rcases h with ⟨hn, rfl, rfl⟩ | ⟨⟨h1, h2⟩, hok, ht2⟩
  · by_cases h16 : text.size < 16
    · exact implOpen_short key num text h16 w
    · exact implOpen_mask key num text (by omega) hs (by unfold OpenIn at hn; omega) w
  · obtain ⟨n, rfl⟩ : ∃ n : Nat, num = n := ⟨num.toNat, by omega⟩
    rw [Int.toNat_natCast] at hok ht2
    refine (implOpen_tag key n text _ _ (text.size - 16) (by omega) hk (by omega) (by omega) rfl rfl w ht).mono ?_
    rintro e Y ⟨rfl, h⟩
    rw [← hok, ← ht2]
    exact ⟨rfl, h⟩
/-- What take leaves. -/
def TakeDone (w : World) (G o : Nat) (cs : Array Value) (r5 : List Int) (t : ByteArray) (ok : Bool) (e : Ending) (X : World) : Prop :=
  e = .returned (.tuple #[.string t, .bool ok]) ∧ ((ok = false ∧ Below w.heap.size w X) ∨ (ok = true ∧ ∃ v f, f.Nodup ∧ layIntS.own X w.heap.size f [v] r5 ∧ Only G w X ∧ VarA G SlotsT (cs.setIfInBounds (o + 4) v) X))
set_option maxRecDepth 100000 in
set_option maxHeartbeats 3200000 in
theorem take_any (G o : Nat) (x2 : ByteArray) (v4 : Value) (r4 : List Int) (cs : Array Value) (hc2 : cs[o + 2]? = some (.string x2)) (hc4 : cs[o + 4]? = some v4) (op key fr dst num : Int) (va : Value) (acks : List Int) (body : ByteArray) (hx2 : x2.size ≤ 1048576) (hl : r4.length ≤ 10000000) (hbs : body.size ≤ 1048576) (gx : ∀ x ∈ r4, IntZ x) (hnz : IntZ num) (r5 : List Int) (t : ByteArray) (ok : Bool) (hO : OpensP x2 r4 num body r5 t ok) (w : World) (hL : ∀ X, Below w.heap.size w X → LaidK X) (h : layIntS.rd w [v4] r4) (ha : layIntS.rd w [va] acks) (hG : VarA G SlotsT cs w) :
    Calls Tryz.prog 28 #[.pointer (some ⟨G, o, none⟩), .agg #[.int .i64 op, .int .i64 key, .int .i64 fr, .int .i64 dst, .int .i64 num, va, .string body]] w (TakeDone w G o cs r5 t ok) := by
  obtain ⟨a4, p4, rfl⟩ := rows_form h
  obtain ⟨aa, ca, rfl⟩ := rows_form ha
  have hGl := hG.lt
  have H0 : Hid (VarA G SlotsT cs (w.alloc (.cells #[.int .i64 op, .int .i64 key, .int .i64 fr, .int .i64 dst, .int .i64 num, .slice aa acks.length ca, .string body] OPkT)) ∧ VarA w.heap.size OPkT #[.int .i64 op, .int .i64 key, .int .i64 fr, .int .i64 dst, .int .i64 num, .slice aa acks.length ca, .string body] (w.alloc (.cells #[.int .i64 op, .int .i64 key, .int .i64 fr, .int .i64 dst, .int .i64 num, .slice aa acks.length ca, .string body] OPkT)) ∧ Below w.heap.size w (w.alloc (.cells #[.int .i64 op, .int .i64 key, .int .i64 fr, .int .i64 dst, .int .i64 num, .slice aa acks.length ca, .string body] OPkT))) := Lib.hid ⟨hG.alloc _, VarA.new w OPkT _, (Below.refl _ _).alloc (Nat.le_refl _) _⟩
  have HR := Lib.hid h
  have HO := Lib.hid hO
  have HL := Lib.hid hL
  have C2 := Lib.hid hc2
  have C4 := Lib.hid hc4
  have GX := Lib.hid gx
  have NZ := Lib.hid hnz
  have qv : ∀ X Y, (Hid (VarA G SlotsT cs X ∧ VarA w.heap.size OPkT #[.int .i64 op, .int .i64 key, .int .i64 fr, .int .i64 dst, .int .i64 num, .slice aa acks.length ca, .string body] X ∧ Below w.heap.size w X)) → Below X.heap.size X Y → (Hid (VarA G SlotsT cs Y ∧ VarA w.heap.size OPkT #[.int .i64 op, .int .i64 key, .int .i64 fr, .int .i64 dst, .int .i64 num, .slice aa acks.length ca, .string body] Y ∧ Below w.heap.size w Y)) := fun X Y h hb => Lib.hid ⟨h.out.1.next hb, h.out.2.1.next hb, h.out.2.2.trans (hb.mono h.out.2.2.size)⟩
  clear h ha hO hL hc2 hc4 gx hnz hG
  obtain ⟨b, hb⟩ : ∃ b : Bool, b = true ↔ FreshP r4 num := by
    by_cases h : FreshP r4 num
    · exact ⟨true, ⟨fun _ => h, fun _ => rfl⟩⟩
    · exact ⟨false, ⟨fun e => (by cases e), fun e => absurd e h⟩⟩
  obtain ⟨t1, ok1, hop⟩ := open_is x2 num body
  have HB := Lib.hid hb
  have HP := Lib.hid hop
  clear hb hop
  obtain ⟨Q, HQ⟩ : ∃ Q : Ending → World → Prop, Hid (Q = TakeDone w G o cs r5 t ok) := ⟨_, Lib.hid rfl⟩
  rw [← HQ.out]

  go_enter Tryz.func28, Tryz.ntmps28
  go_upto_region 1 with fail
  generalize w.alloc (.cells #[.int .i64 op, .int .i64 key, .int .i64 fr, .int .i64 dst, .int .i64 num, .slice aa acks.length ca, .string body] OPkT) = Y at *
  have E0 : Hid (VarA G SlotsT cs Y.drew ∧ VarA w.heap.size OPkT #[.int .i64 op, .int .i64 key, .int .i64 fr, .int .i64 dst, .int .i64 num, .slice aa acks.length ca, .string body] Y.drew ∧ Below w.heap.size w Y.drew) := Lib.hid ⟨H0.out.1.drew, H0.out.2.1.drew, H0.out.2.2.drew⟩
  go_wp2_with fail
  refine wp_region_held_drew (S := fun X => Hid (VarA G SlotsT cs X ∧ VarA w.heap.size OPkT #[.int .i64 op, .int .i64 key, .int .i64 fr, .int .i64 dst, .int .i64 num, .slice aa acks.length ca, .string body] X ∧ Below w.heap.size w X)) (by kernel_rfl) E0 (fun hHeld => ?_)
  clear E0 H0
  generalize Y.drew = X0 at *
  refine wpAnyH_take (i := 0) (v := ?_) rfl (by kernel_rfl) (by kernel_rfl) (by kernel_rfl) (fun _ _ _ h => h) (Or.inl ⟨by kernel_rfl, ?_⟩) hHeld ?_
  rotate_left
  · intro X hX
    first | (go_simp; done) | (go_simp; with_reducible rfl)
  try simp only [Act.put, List.getElem_toArray, List.getElem_cons_zero, List.setIfInBounds_toArray, List.set_cons_zero, List.set_cons_succ]
  refine wpAnyH_take (i := 1) (v := ?_) rfl (by kernel_rfl) (by kernel_rfl) (by kernel_rfl) (fun _ _ _ h => h) (Or.inl ⟨by kernel_rfl, ?_⟩) hHeld ?_
  rotate_left
  · intro X hX
    first | (go_simp; done) | (go_simp; with_reducible rfl)
  try simp only [Act.put, List.getElem_toArray, List.getElem_cons_succ, List.getElem_cons_zero, List.setIfInBounds_toArray, List.set_cons_zero, List.set_cons_succ]
  refine wpAnyH_take (i := 2) (v := ?_) rfl (by kernel_rfl) (by kernel_rfl) (by kernel_rfl) (fun _ _ _ h => h) (Or.inl ⟨by kernel_rfl, ?_⟩) hHeld ?_
  rotate_left
  · intro X hX
    first | (go_simp; done) | (go_simp; with_reducible rfl)
  try simp only [Act.put, List.getElem_toArray, List.getElem_cons_succ, List.getElem_cons_zero, List.setIfInBounds_toArray, List.set_cons_zero, List.set_cons_succ]
  refine wpAnyH_take (i := 3) (v := ?_) rfl (by kernel_rfl) (by kernel_rfl) (by kernel_rfl) (fun _ _ _ h => h) (Or.inl ⟨by kernel_rfl, ?_⟩) hHeld ?_
  rotate_left
  · intro X hX
    have y4 : X.cell? ⟨G, o + 4, none⟩ = some (.slice a4 r4.length p4) := (hX.out.1.cell (o + 4)).trans C4.out
    first | (go_simp; done) | (go_simp; with_reducible rfl)
  try simp only [Act.put, List.getElem_toArray, List.getElem_cons_succ, List.getElem_cons_zero, List.setIfInBounds_toArray, List.set_cons_zero, List.set_cons_succ]
  refine wpAnyH_take (i := 4) (v := ?_) rfl (by kernel_rfl) (by kernel_rfl) (by kernel_rfl) (fun _ _ _ h => h) (Or.inl ⟨by kernel_rfl, ?_⟩) hHeld ?_
  rotate_left
  · intro X hX
    first | (go_simp; done) | (go_simp; with_reducible rfl)
  try simp only [Act.put, List.getElem_toArray, List.getElem_cons_succ, List.getElem_cons_zero, List.setIfInBounds_toArray, List.set_cons_zero, List.set_cons_succ]
  refine wpAnyH_take (i := 5) (v := ?_) rfl (by kernel_rfl) (by kernel_rfl) (by kernel_rfl) (fun _ _ _ h => h) (Or.inl ⟨by kernel_rfl, ?_⟩) hHeld ?_
  rotate_left
  · intro X hX
    have z4 : X.cell? ⟨w.heap.size, 4, none⟩ = some (.int .i64 num) := hX.out.2.1.cell 4
    first | (go_simp; done) | (go_simp; with_reducible rfl)
  try simp only [Act.put, List.getElem_toArray, List.getElem_cons_succ, List.getElem_cons_zero, List.setIfInBounds_toArray, List.set_cons_zero, List.set_cons_succ]
  refine wpAnyH_ready (rs := [6]) (by kernel_rfl) (by simp) ?_
  refine AllReadyH.cons rfl (fun K hK => ?_) AllReadyH.nil
  have KK := Lib.hid (implIsFresh_bool r4 num _ b HB.out (by omega) GX.out NZ.out X0 (layIntS.below HR.out hHeld.out.2.2))
  go_simp
  go_wp2_with (go_at_call 47; refine KK.out.mono ?_; rintro e X1 ⟨rfl, hb0⟩; have hS := qv _ _ hHeld hb0)
  refine hK.out _ _ hS (fun hHeld => ?_)
  clear hK K hS KK
  clear hb0
  try simp only [Act.put, List.getElem_toArray, List.getElem_cons_succ, List.getElem_cons_zero, List.setIfInBounds_toArray, List.set_cons_zero, List.set_cons_succ]
  refine wpAnyH_take (i := 7) (v := ?_) rfl (by kernel_rfl) (by kernel_rfl) (by kernel_rfl) (fun _ _ _ h => h) (Or.inl ⟨by kernel_rfl, ?_⟩) hHeld ?_
  rotate_left
  · intro X hX
    first | (go_simp; done) | (go_simp; with_reducible rfl)
  try simp only [Act.put, List.getElem_toArray, List.getElem_cons_succ, List.getElem_cons_zero, List.setIfInBounds_toArray, List.set_cons_zero, List.set_cons_succ]
  refine wpAnyH_done (by kernel_rfl) ?_ _
  have H1 := Lib.hid hHeld.out
  clear hHeld
  cases b with
  | false =>
    obtain ⟨rfl, rfl⟩ : ok = false ∧ t = ⟨#[]⟩ := by
      rcases HO.out with ⟨-, h, -⟩ | ⟨h1, -, -, h2⟩
      · exact absurd (HB.out.2 h) (by decide)
      · exact ⟨h1, h2⟩
    go_wp2_with fail
    try simp only [Exit.inBlock, Exit.then]
    rw [HQ.out]
    exact ⟨rfl, .inl ⟨rfl, H1.out.2.2⟩⟩
  | true =>
    have hf : FreshP r4 num := HB.out.1 rfl
    have E0 : Hid (VarA G SlotsT cs X1.drew ∧ VarA w.heap.size OPkT #[.int .i64 op, .int .i64 key, .int .i64 fr, .int .i64 dst, .int .i64 num, .slice aa acks.length ca, .string body] X1.drew ∧ Below w.heap.size w X1.drew) := Lib.hid ⟨H1.out.1.drew, H1.out.2.1.drew, H1.out.2.2.drew⟩
    go_wp2_with fail
    refine wp_region_held_drew (S := fun X => Hid (VarA G SlotsT cs X ∧ VarA w.heap.size OPkT #[.int .i64 op, .int .i64 key, .int .i64 fr, .int .i64 dst, .int .i64 num, .slice aa acks.length ca, .string body] X ∧ Below w.heap.size w X)) (by kernel_rfl) E0 (fun hHeld => ?_)
    clear E0 H1
    generalize X1.drew = Z0 at *
    refine wpAnyH_take (i := 0) (v := ?_) rfl (by kernel_rfl) (by kernel_rfl) (by kernel_rfl) (fun _ _ _ h => h) (Or.inl ⟨by kernel_rfl, ?_⟩) hHeld ?_
    rotate_left
    · intro X hX
      first | (go_simp; done) | (go_simp; with_reducible rfl)
    try simp only [Act.put, List.getElem_toArray, List.getElem_cons_zero, List.setIfInBounds_toArray, List.set_cons_zero, List.set_cons_succ]
    refine wpAnyH_take (i := 1) (v := ?_) rfl (by kernel_rfl) (by kernel_rfl) (by kernel_rfl) (fun _ _ _ h => h) (Or.inl ⟨by kernel_rfl, ?_⟩) hHeld ?_
    rotate_left
    · intro X hX
      first | (go_simp; done) | (go_simp; with_reducible rfl)
    try simp only [Act.put, List.getElem_toArray, List.getElem_cons_succ, List.getElem_cons_zero, List.setIfInBounds_toArray, List.set_cons_zero, List.set_cons_succ]
    refine wpAnyH_take (i := 2) (v := ?_) rfl (by kernel_rfl) (by kernel_rfl) (by kernel_rfl) (fun _ _ _ h => h) (Or.inl ⟨by kernel_rfl, ?_⟩) hHeld ?_
    rotate_left
    · intro X hX
      first | (go_simp; done) | (go_simp; with_reducible rfl)
    try simp only [Act.put, List.getElem_toArray, List.getElem_cons_succ, List.getElem_cons_zero, List.setIfInBounds_toArray, List.set_cons_zero, List.set_cons_succ]
    refine wpAnyH_take (i := 3) (v := ?_) rfl (by kernel_rfl) (by kernel_rfl) (by kernel_rfl) (fun _ _ _ h => h) (Or.inl ⟨by kernel_rfl, ?_⟩) hHeld ?_
    rotate_left
    · intro X hX
      have y2 : X.cell? ⟨G, o + 2, none⟩ = some (.string x2) := (hX.out.1.cell (o + 2)).trans C2.out
      first | (go_simp; done) | (go_simp; with_reducible rfl)
    try simp only [Act.put, List.getElem_toArray, List.getElem_cons_succ, List.getElem_cons_zero, List.setIfInBounds_toArray, List.set_cons_zero, List.set_cons_succ]
    refine wpAnyH_take (i := 4) (v := ?_) rfl (by kernel_rfl) (by kernel_rfl) (by kernel_rfl) (fun _ _ _ h => h) (Or.inl ⟨by kernel_rfl, ?_⟩) hHeld ?_
    rotate_left
    · intro X hX
      first | (go_simp; done) | (go_simp; with_reducible rfl)
    try simp only [Act.put, List.getElem_toArray, List.getElem_cons_succ, List.getElem_cons_zero, List.setIfInBounds_toArray, List.set_cons_zero, List.set_cons_succ]
    refine wpAnyH_take (i := 5) (v := ?_) rfl (by kernel_rfl) (by kernel_rfl) (by kernel_rfl) (fun _ _ _ h => h) (Or.inl ⟨by kernel_rfl, ?_⟩) hHeld ?_
    rotate_left
    · intro X hX
      have z4 : X.cell? ⟨w.heap.size, 4, none⟩ = some (.int .i64 num) := hX.out.2.1.cell 4
      first | (go_simp; done) | (go_simp; with_reducible rfl)
    try simp only [Act.put, List.getElem_toArray, List.getElem_cons_succ, List.getElem_cons_zero, List.setIfInBounds_toArray, List.set_cons_zero, List.set_cons_succ]
    refine wpAnyH_take (i := 6) (v := ?_) rfl (by kernel_rfl) (by kernel_rfl) (by kernel_rfl) (fun _ _ _ h => h) (Or.inl ⟨by kernel_rfl, ?_⟩) hHeld ?_
    rotate_left
    · intro X hX
      first | (go_simp; done) | (go_simp; with_reducible rfl)
    try simp only [Act.put, List.getElem_toArray, List.getElem_cons_succ, List.getElem_cons_zero, List.setIfInBounds_toArray, List.set_cons_zero, List.set_cons_succ]
    refine wpAnyH_take (i := 7) (v := ?_) rfl (by kernel_rfl) (by kernel_rfl) (by kernel_rfl) (fun _ _ _ h => h) (Or.inl ⟨by kernel_rfl, ?_⟩) hHeld ?_
    rotate_left
    · intro X hX
      have z6 : X.cell? ⟨w.heap.size, 6, none⟩ = some (.string body) := hX.out.2.1.cell 6
      first | (go_simp; done) | (go_simp; with_reducible rfl)
    try simp only [Act.put, List.getElem_toArray, List.getElem_cons_succ, List.getElem_cons_zero, List.setIfInBounds_toArray, List.set_cons_zero, List.set_cons_succ]
    refine wpAnyH_ready (rs := [8]) (by kernel_rfl) (by simp) ?_
    refine AllReadyH.cons rfl (fun K hK => ?_) AllReadyH.nil
    have KK := Lib.hid (implOpen_is x2 num body t1 ok1 (by omega) (by omega) HP.out Z0 (HL.out _ hHeld.out.2.2))
    go_simp
    go_wp2_with (go_at_call 48; refine KK.out.mono ?_; rintro e X1 ⟨rfl, hb0⟩; have hS := qv _ _ hHeld hb0)
    refine hK.out _ _ hS (fun hHeld => ?_)
    clear hK K hS KK
    clear hb0
    try simp only [Act.put, List.getElem_toArray, List.getElem_cons_succ, List.getElem_cons_zero, List.setIfInBounds_toArray, List.set_cons_zero, List.set_cons_succ]
    refine wpAnyH_take (i := 9) (v := ?_) rfl (by kernel_rfl) (by kernel_rfl) (by kernel_rfl) (fun _ _ _ h => h) (Or.inl ⟨by kernel_rfl, ?_⟩) hHeld ?_
    rotate_left
    · intro X hX
      first | (go_simp; done) | (go_simp; with_reducible rfl)
    try simp only [Act.put, List.getElem_toArray, List.getElem_cons_succ, List.getElem_cons_zero, List.setIfInBounds_toArray, List.set_cons_zero, List.set_cons_succ]
    refine wpAnyH_take (i := 10) (v := ?_) rfl (by kernel_rfl) (by kernel_rfl) (by kernel_rfl) (fun _ _ _ h => h) (Or.inl ⟨by kernel_rfl, ?_⟩) hHeld ?_
    rotate_left
    · intro X hX
      first | (go_simp; done) | (go_simp; with_reducible rfl)
    try simp only [Act.put, List.getElem_toArray, List.getElem_cons_succ, List.getElem_cons_zero, List.setIfInBounds_toArray, List.set_cons_zero, List.set_cons_succ]
    refine wpAnyH_take (i := 11) (v := ?_) rfl (by kernel_rfl) (by kernel_rfl) (by kernel_rfl) (fun _ _ _ h => h) (Or.inl ⟨by kernel_rfl, ?_⟩) hHeld ?_
    rotate_left
    · intro X hX
      first | (go_simp; done) | (go_simp; with_reducible rfl)
    try simp only [Act.put, List.getElem_toArray, List.getElem_cons_succ, List.getElem_cons_zero, List.setIfInBounds_toArray, List.set_cons_zero, List.set_cons_succ]
    refine wpAnyH_take (i := 12) (v := ?_) rfl (by kernel_rfl) (by kernel_rfl) (by kernel_rfl) (fun _ _ _ h => h) (Or.inl ⟨by kernel_rfl, ?_⟩) hHeld ?_
    rotate_left
    · intro X hX
      first | (go_simp; done) | (go_simp; with_reducible rfl)
    try simp only [Act.put, List.getElem_toArray, List.getElem_cons_succ, List.getElem_cons_zero, List.setIfInBounds_toArray, List.set_cons_zero, List.set_cons_succ]
    refine wpAnyH_take (i := 13) (v := ?_) rfl (by kernel_rfl) (by kernel_rfl) (by kernel_rfl) (fun _ _ _ h => h) (Or.inl ⟨by kernel_rfl, ?_⟩) hHeld ?_
    rotate_left
    · intro X hX
      first | (go_simp; done) | (go_simp; with_reducible rfl)
    try simp only [Act.put, List.getElem_toArray, List.getElem_cons_succ, List.getElem_cons_zero, List.setIfInBounds_toArray, List.set_cons_zero, List.set_cons_succ]
    refine wpAnyH_done (by kernel_rfl) ?_ _
    have H2 := Lib.hid hHeld.out
    clear hHeld
    cases ok1 with
    | false =>
      obtain ⟨rfl, rfl⟩ : ok = false ∧ t = ⟨#[]⟩ := by
        rcases HO.out with ⟨-, -, h, -⟩ | ⟨h1, -, -, h2⟩
        · exact absurd (open_one HP.out h).2 (by decide)
        · exact ⟨h1, h2⟩
      obtain rfl : t1 = ⟨#[]⟩ := open_nil HP.out
      clear hf
      go_wp2_with fail
      try simp only [Exit.inBlock, Exit.then]
      rw [HQ.out]
      exact ⟨rfl, .inl ⟨rfl, H2.out.2.2⟩⟩
    | true =>
      obtain ⟨rfl, rfl, hn⟩ : ok = true ∧ t1 = t ∧ NoteIs r4 num r5 := by
        rcases HO.out with ⟨h1, -, h2, h3⟩ | ⟨-, h, -, -⟩
        · exact ⟨h1, (open_one HP.out h2).1, h3⟩
        · exact absurd ⟨hf, _, HP.out⟩ h
      have HN := Lib.hid hn
      clear hf hn
      have BW : Hid (Below w.heap.size w X1.drew) := Lib.hid H2.out.2.2.drew
      have E0 : Hid (VarA G SlotsT cs X1.drew ∧ VarA w.heap.size OPkT #[.int .i64 op, .int .i64 key, .int .i64 fr, .int .i64 dst, .int .i64 num, .slice aa acks.length ca, .string body] X1.drew ∧ Below w.heap.size w X1.drew) := Lib.hid ⟨H2.out.1.drew, H2.out.2.1.drew, H2.out.2.2.drew⟩
      go_wp2_with fail
      refine wp_region_held_drew (S := fun X => Hid (∃ ds, VarA G SlotsT ds X ∧ VarA w.heap.size OPkT #[.int .i64 op, .int .i64 key, .int .i64 fr, .int .i64 dst, .int .i64 num, .slice aa acks.length ca, .string body] X)) (by kernel_rfl) (Lib.hid ⟨_, E0.out.1, E0.out.2.1⟩) (fun hHeld => ?_)
      clear H2
      generalize X1.drew = V0 at *
      refine wpAnyH_take (i := 0) (v := ?_) rfl (by kernel_rfl) (by kernel_rfl) (by kernel_rfl) (fun _ _ _ h => h) (Or.inl ⟨by kernel_rfl, ?_⟩) hHeld ?_
      rotate_left
      · intro X hX
        first | (go_simp; done) | (go_simp; with_reducible rfl)
      try simp only [Act.put, List.getElem_toArray, List.getElem_cons_zero, List.setIfInBounds_toArray, List.set_cons_zero, List.set_cons_succ]
      refine wpAnyH_take (i := 1) (v := ?_) rfl (by kernel_rfl) (by kernel_rfl) (by kernel_rfl) (fun _ _ _ h => h) (Or.inl ⟨by kernel_rfl, ?_⟩) hHeld ?_
      rotate_left
      · intro X hX
        first | (go_simp; done) | (go_simp; with_reducible rfl)
      try simp only [Act.put, List.getElem_toArray, List.getElem_cons_succ, List.getElem_cons_zero, List.setIfInBounds_toArray, List.set_cons_zero, List.set_cons_succ]
      refine wpAnyH_take (i := 2) (v := ?_) rfl (by kernel_rfl) (by kernel_rfl) (by kernel_rfl) (fun _ _ _ h => h) (Or.inl ⟨by kernel_rfl, ?_⟩) hHeld ?_
      rotate_left
      · intro X hX
        first | (go_simp; done) | (go_simp; with_reducible rfl)
      try simp only [Act.put, List.getElem_toArray, List.getElem_cons_succ, List.getElem_cons_zero, List.setIfInBounds_toArray, List.set_cons_zero, List.set_cons_succ]
      refine wpAnyH_take (i := 3) (v := ?_) rfl (by kernel_rfl) (by kernel_rfl) (by kernel_rfl) (fun _ _ _ h => h) (Or.inl ⟨by kernel_rfl, ?_⟩) hHeld ?_
      rotate_left
      · intro X hX
        first | (go_simp; done) | (go_simp; with_reducible rfl)
      try simp only [Act.put, List.getElem_toArray, List.getElem_cons_succ, List.getElem_cons_zero, List.setIfInBounds_toArray, List.set_cons_zero, List.set_cons_succ]
      refine wpAnyH_take (i := 5) (v := ?_) rfl (by kernel_rfl) (by kernel_rfl) (by kernel_rfl) (fun _ _ _ h => h) (Or.inl ⟨by kernel_rfl, ?_⟩) hHeld ?_
      rotate_left
      · intro X hX
        first | (go_simp; done) | (go_simp; with_reducible rfl)
      try simp only [Act.put, List.getElem_toArray, List.getElem_cons_succ, List.getElem_cons_zero, List.setIfInBounds_toArray, List.set_cons_zero, List.set_cons_succ]
      refine wpAnyH_take (i := 6) (v := ?_) rfl (by kernel_rfl) (by kernel_rfl) (by kernel_rfl) (fun _ _ _ h => h) (Or.inl ⟨by kernel_rfl, ?_⟩) hHeld ?_
      rotate_left
      · intro X hX
        have z4 : X.cell? ⟨w.heap.size, 4, none⟩ = some (.int .i64 num) := by obtain ⟨ds, h1, h2⟩ := hX.out; exact h2.cell 4
        first | (go_simp; done) | (go_simp; with_reducible rfl)
      try simp only [Act.put, List.getElem_toArray, List.getElem_cons_succ, List.getElem_cons_zero, List.setIfInBounds_toArray, List.set_cons_zero, List.set_cons_succ]
      refine wpAnyH_ready (rs := [4]) (by kernel_rfl) (by simp) ?_
      refine AllReadyH.cons rfl (fun K hK => ?_) AllReadyH.nil
      have y4 : V0.cell? ⟨G, o + 4, none⟩ = some (.slice a4 r4.length p4) := (E0.out.1.cell (o + 4)).trans C4.out
      go_simp
      refine hK.out _ _ hHeld (fun hHeld => ?_)
      clear hK K y4
      try simp only [Act.put, List.getElem_toArray, List.getElem_cons_succ, List.getElem_cons_zero, List.setIfInBounds_toArray, List.set_cons_zero, List.set_cons_succ]
      refine wpAnyH_ready (rs := [7]) (by kernel_rfl) (by simp) ?_
      refine AllReadyH.cons rfl (fun K hK => ?_) AllReadyH.nil
      have KK := Lib.hid (implNoteSeen_any r4 num _ r5 HN.out hl GX.out NZ.out V0 (layIntS.below HR.out BW.out))
      go_simp
      go_wp2_with (go_at_call 49; refine KK.out.mono ?_; rintro e X2 ⟨v5, f, rfl, hd, ho, hb0⟩; obtain ⟨ma, mk, rfl⟩ := rows_form (layIntS.read ho))
      have E1 := Lib.hid (qv _ _ E0 hb0).out
      refine hK.out _ _ (Lib.hid ⟨_, E1.out.1, E1.out.2.1⟩) (fun hHeld => ?_)
      have OW : Hid (layIntS.own X2 w.heap.size f [.slice ma r5.length mk] r5) := Lib.hid (layIntS.lower ho BW.out.size)
      have ND := Lib.hid hd
      clear hK K KK E0 BW ho hd hb0
      try simp only [Act.put, List.getElem_toArray, List.getElem_cons_succ, List.getElem_cons_zero, List.setIfInBounds_toArray, List.set_cons_zero, List.set_cons_succ]
      refine wpAnyH_take (i := 8) (v := ?_) rfl (by kernel_rfl) (by kernel_rfl) (by kernel_rfl) (fun _ _ _ h => h) (Or.inl ⟨by kernel_rfl, ?_⟩) hHeld ?_
      rotate_left
      · intro X hX
        first | (go_simp; done) | (go_simp; with_reducible rfl)
      try simp only [Act.put, List.getElem_toArray, List.getElem_cons_succ, List.getElem_cons_zero, List.setIfInBounds_toArray, List.set_cons_zero, List.set_cons_succ]
      refine wpAnyH_take (i := 9) (v := ?_) rfl (by kernel_rfl) (by kernel_rfl) (by kernel_rfl) (fun _ _ _ h => h) (Or.inl ⟨by kernel_rfl, ?_⟩) hHeld ?_
      rotate_left
      · intro X hX
        first | (go_simp; done) | (go_simp; with_reducible rfl)
      try simp only [Act.put, List.getElem_toArray, List.getElem_cons_succ, List.getElem_cons_zero, List.setIfInBounds_toArray, List.set_cons_zero, List.set_cons_succ]
      refine wpAnyH_ready (rs := [10]) (by kernel_rfl) (by simp) ?_
      refine AllReadyH.cons rfl (fun K hK => ?_) AllReadyH.nil
      have y4 : X2.cell? ⟨G, o + 4, none⟩ = some (.slice a4 r4.length p4) := (E1.out.1.cell (o + 4)).trans C4.out
      have g4 := E1.out.1.free (o + 4)
      go_simp
      have ho : Only G X2 (X2.setCell ⟨G, o + 4, none⟩ (.slice ma r5.length mk)) := Only.setCell (o + 4) _
      have E2 := Lib.hid (E1.out.1.set (o + 4) (.slice ma r5.length mk))
      have hne : w.heap.size ≠ G := by omega
      refine hK.out _ _ (Lib.hid ⟨_, E2.out, E1.out.2.1.only ho hne⟩) (fun hHeld => ?_)
      have OG : Hid (Only G w (X2.setCell ⟨G, o + 4, none⟩ (.slice ma r5.length mk))) := Lib.hid ((Only.of_below E1.out.2.2).trans ho)
      replace OW : Hid (layIntS.own (X2.setCell ⟨G, o + 4, none⟩ (.slice ma r5.length mk)) w.heap.size f [.slice ma r5.length mk] r5) := Lib.hid (layIntS.keep OW.out (fun a ha => ho.block a (layIntS.blocks OW.out a ha).2 (by have := (layIntS.blocks OW.out a ha).1; omega)))
      clear hK K y4 g4 ho E1 hne
      generalize (X2.setCell ⟨G, o + 4, none⟩ (.slice ma r5.length mk)) = X3 at *
      try simp only [Act.put, List.getElem_toArray, List.getElem_cons_succ, List.getElem_cons_zero, List.setIfInBounds_toArray, List.set_cons_zero, List.set_cons_succ]
      refine wpAnyH_done (by kernel_rfl) ?_ _
      clear hHeld
      go_wp2_with fail
      try simp only [Exit.inBlock, Exit.then]
      rw [HQ.out]
      exact ⟨rfl, .inr ⟨rfl, _, f, ND.out, OW.out, OG.out, E2.out⟩⟩

end Go.Proofs.YtoaifgblbfdncabGreatDoor

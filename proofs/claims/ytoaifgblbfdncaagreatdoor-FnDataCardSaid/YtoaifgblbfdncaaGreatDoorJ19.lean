/-
  The given PairSlots.
-/
import Derived.Test.YtoaifgblbfdncaaGreatDoorJ08
import Derived.Test.YtoaifgblbfdncaaGreatDoorJ18
import Derived.Test.YtoaifgblbfdncaaGreatDoorJ16
namespace Go.Proofs.YtoaifgblbfdncaaGreatDoor
open Go.RowKit

/-- A key of a seed. -/
def pairK (s : ByteArray) (c : UInt8) : ByteArray := digP (s ++ ⟨#[c]⟩)
/-- What Install tells of nothing at all. -/
theorem install_none {send op : ByteArray} {w : World} {e : Ending} {w' : World} (h : InstallEnd 0 ⟨#[]⟩ ⟨#[]⟩ 0 [] 0 0 ⟨#[]⟩ ⟨#[]⟩ 0 [] 0 send op 0 w e w') (hs : send.size = 32) (ho : op.size = 32) :
    ∃ (v4 u4 : Value) (f g : List Nat), e = .returned (.tuple #[.agg #[.int .i64 1, .string send, .string op, .int .i64 0, v4, .int .i64 0, .int .i64 0, .string ⟨#[]⟩, .string ⟨#[]⟩, .int .i64 0, u4, .int .i64 0], .bool true]) ∧ (f ++ g).Nodup ∧ layIntS.own w' w.heap.size f [v4] [] ∧ layIntS.own w' w.heap.size g [u4] [] ∧ Below w.heap.size w w' := by
  obtain ⟨z0, z1, z2, z3, t4, z5, n0, n1, n2, n3, o4, n5, ok, v, u', f, g, hc, rfl, hd, h1, h2, hbl⟩ := h
  have hp : InstallP 0 ⟨#[]⟩ ⟨#[]⟩ 0 [] 0 0 ⟨#[]⟩ ⟨#[]⟩ 0 [] 0 send op 0 := ⟨⟨.inl none_zero, .inl none_zero, .inl none_zero⟩, hs, ho, ⟨by omega, by omega⟩, by omega⟩
  rcases hc with ⟨rfl, _, ⟨rfl, rfl, rfl, rfl, rfl, rfl⟩, rfl, rfl, rfl, rfl, rfl, hn⟩ | ⟨_, h, _⟩
  · obtain rfl : n5 = 0 := by
      rcases hn with hn | hn
      · exact hn.2
      · exact absurd none_zero hn.1
    exact ⟨v, u', f, g, rfl, hd, h1, h2, hbl⟩
  · exact absurd hp h
/-- Two pairs of slots, each the other one's. -/
def PairEnd (s : ByteArray) (w : World) (e : Ending) (w' : World) : Prop :=
  ∃ (v4 u4 v5 u5 : Value) (f g f' g' : List Nat), e = .returned (.tuple #[.agg #[.int .i64 1, .string (pairK s 97), .string (pairK s 98), .int .i64 0, v4, .int .i64 0, .int .i64 0, .string ⟨#[]⟩, .string ⟨#[]⟩, .int .i64 0, u4, .int .i64 0], .agg #[.int .i64 1, .string (pairK s 98), .string (pairK s 97), .int .i64 0, v5, .int .i64 0, .int .i64 0, .string ⟨#[]⟩, .string ⟨#[]⟩, .int .i64 0, u5, .int .i64 0]]) ∧ ((f ++ g) ++ (f' ++ g')).Nodup ∧ layIntS.own w' w.heap.size f [v4] [] ∧ layIntS.own w' w.heap.size g [u4] [] ∧ layIntS.own w' w.heap.size f' [v5] [] ∧ layIntS.own w' w.heap.size g' [u5] [] ∧ Below w.heap.size w w'
theorem own_off {X Y : World} {lo q : Nat} {f : List Nat} {v : Value} {r : List Int} (h : layIntS.own X lo f [v] r) (ho : Only q X Y) (hq : q < lo) : layIntS.own Y lo f [v] r := layIntS.keep h (fun a ha => ho.block a (layIntS.blocks h a ha).2 (by have := (layIntS.blocks h a ha).1; omega))
set_option maxRecDepth 100000 in
set_option maxHeartbeats 6400000 in
theorem specPairSlots_any (s : ByteArray) (hs : s.size ≤ 300000000) (w : World) :
    Calls Tryz.prog 14 #[.string s] w (PairEnd s w) := by
  have e0 : (⟨#[97]⟩ : ByteArray).size = 1 := rfl
  have e0' : (⟨#[98]⟩ : ByteArray).size = 1 := rfl
  have K1 := Lib.hid (specDigP_any (s ++ ⟨#[97]⟩) (by rw [ByteArray.size_append, e0]; omega))
  have K2 := Lib.hid (specDigP_any (s ++ ⟨#[98]⟩) (by rw [ByteArray.size_append, e0']; omega))
  have k1 : ¬ (9223372036854775807 < s.size + 1) := by omega
  have D1 : Hid (pairK s 97 = digP (s ++ ⟨#[97]⟩)) := Lib.hid rfl
  have D2 : Hid (pairK s 98 = digP (s ++ ⟨#[98]⟩)) := Lib.hid rfl
  rw [← D1.out] at K1
  rw [← D2.out] at K2
  have pa1 : Hid ((pairK s 97).size = 32) := Lib.hid (digP_size _)
  have pb1 : Hid ((pairK s 98).size = 32) := Lib.hid (digP_size _)
  have e1 : (w.alloc (.cells #[.int .i64 0, .string ⟨#[]⟩, .string ⟨#[]⟩, .int .i64 0, .slice none 0 0, .int .i64 0, .int .i64 0, .string ⟨#[]⟩, .string ⟨#[]⟩, .int .i64 0, .slice none 0 0, .int .i64 0] SlotsT)).heap.size = w.heap.size + 1 := by simp
  have h2 := VarA.new (w.alloc (.cells #[.int .i64 0, .string ⟨#[]⟩, .string ⟨#[]⟩, .int .i64 0, .slice none 0 0, .int .i64 0, .int .i64 0, .string ⟨#[]⟩, .string ⟨#[]⟩, .int .i64 0, .slice none 0 0, .int .i64 0] SlotsT)) SlotsT #[.int .i64 0, .string ⟨#[]⟩, .string ⟨#[]⟩, .int .i64 0, .slice none 0 0, .int .i64 0, .int .i64 0, .string ⟨#[]⟩, .string ⟨#[]⟩, .int .i64 0, .slice none 0 0, .int .i64 0]
  rw [e1] at h2
  have A0 := Lib.hid ((VarA.new w SlotsT #[.int .i64 0, .string ⟨#[]⟩, .string ⟨#[]⟩, .int .i64 0, .slice none 0 0, .int .i64 0, .int .i64 0, .string ⟨#[]⟩, .string ⟨#[]⟩, .int .i64 0, .slice none 0 0, .int .i64 0]).alloc (.cells #[.int .i64 0, .string ⟨#[]⟩, .string ⟨#[]⟩, .int .i64 0, .slice none 0 0, .int .i64 0, .int .i64 0, .string ⟨#[]⟩, .string ⟨#[]⟩, .int .i64 0, .slice none 0 0, .int .i64 0] SlotsT))
  have A1 := Lib.hid h2
  have BY := Lib.hid (((Below.refl w.heap.size w).alloc (Nat.le_refl _) (.cells #[.int .i64 0, .string ⟨#[]⟩, .string ⟨#[]⟩, .int .i64 0, .slice none 0 0, .int .i64 0, .int .i64 0, .string ⟨#[]⟩, .string ⟨#[]⟩, .int .i64 0, .slice none 0 0, .int .i64 0] SlotsT)).alloc (by simp) (.cells #[.int .i64 0, .string ⟨#[]⟩, .string ⟨#[]⟩, .int .i64 0, .slice none 0 0, .int .i64 0, .int .i64 0, .string ⟨#[]⟩, .string ⟨#[]⟩, .int .i64 0, .slice none 0 0, .int .i64 0] SlotsT))
  have hz : Hid (w.heap.size + 2 ≤ ((w.alloc (.cells #[.int .i64 0, .string ⟨#[]⟩, .string ⟨#[]⟩, .int .i64 0, .slice none 0 0, .int .i64 0, .int .i64 0, .string ⟨#[]⟩, .string ⟨#[]⟩, .int .i64 0, .slice none 0 0, .int .i64 0] SlotsT)).alloc (.cells #[.int .i64 0, .string ⟨#[]⟩, .string ⟨#[]⟩, .int .i64 0, .slice none 0 0, .int .i64 0, .int .i64 0, .string ⟨#[]⟩, .string ⟨#[]⟩, .int .i64 0, .slice none 0 0, .int .i64 0] SlotsT)).heap.size) := Lib.hid (by simp)
  clear h2 e1 e0 e0' D1 D2 hs
  obtain ⟨Q, HQ⟩ : ∃ Q : Ending → World → Prop, Hid (Q = PairEnd s w) := ⟨_, Lib.hid rfl⟩
  rw [← HQ.out]
  unfold PairEnd at HQ
  generalize pairK s 97 = pa at *
  generalize pairK s 98 = pb at *
  go_enter Tryz.func14, Tryz.ntmps14
  go_upto_region 1 with fail
  generalize ((w.alloc (.cells #[.int .i64 0, .string ⟨#[]⟩, .string ⟨#[]⟩, .int .i64 0, .slice none 0 0, .int .i64 0, .int .i64 0, .string ⟨#[]⟩, .string ⟨#[]⟩, .int .i64 0, .slice none 0 0, .int .i64 0] SlotsT)).alloc (.cells #[.int .i64 0, .string ⟨#[]⟩, .string ⟨#[]⟩, .int .i64 0, .slice none 0 0, .int .i64 0, .int .i64 0, .string ⟨#[]⟩, .string ⟨#[]⟩, .int .i64 0, .slice none 0 0, .int .i64 0] SlotsT)) = Y at *
  go_wp2_with fail
  refine (K1.out Y).mono ?_
  rintro e Y1 ⟨rfl, hb⟩
  replace A0 := Lib.hid (A0.out.next hb)
  replace A1 := Lib.hid (A1.out.next hb)
  replace BY := Lib.hid (BY.out.trans (hb.mono BY.out.size))
  replace hz : Hid (w.heap.size + 2 ≤ Y1.heap.size) := Lib.hid (Nat.le_trans hz.out hb.size)
  clear hb K1
  go_wp2_with fail
  refine (K2.out Y1).mono ?_
  rintro e Y2 ⟨rfl, hb⟩
  replace A0 := Lib.hid (A0.out.next hb)
  replace A1 := Lib.hid (A1.out.next hb)
  replace BY := Lib.hid (BY.out.trans (hb.mono BY.out.size))
  replace hz : Hid (w.heap.size + 2 ≤ Y2.heap.size) := Lib.hid (Nat.le_trans hz.out hb.size)
  clear hb K2
  have KI := Lib.hid (specInstall_any 0 ⟨#[]⟩ ⟨#[]⟩ 0 (.slice none 0 0) [] 0 0 ⟨#[]⟩ ⟨#[]⟩ 0 (.slice none 0 0) [] 0 pa pb 0 (by simp) (by simp) Y2 (layIntS.read (none_own Y2 0)) (layIntS.read (none_own Y2 0)))
  go_wp2_with fail
  refine KI.out.mono ?_
  intro e Y3 he
  obtain ⟨v4, u4, f, g, rfl, hd, o1, o2, hb⟩ := install_none he pa1.out pb1.out
  obtain ⟨va, vk, rfl⟩ : ∃ a c, v4 = .slice a 0 c := rows_form (layIntS.read o1)
  obtain ⟨ua, uk, rfl⟩ : ∃ a c, u4 = .slice a 0 c := rows_form (layIntS.read o2)
  have hal : Below Y3.heap.size Y3 (Y3.alloc (.cells #[.int .i64 1, .string pa, .string pb, .int .i64 0, .slice va 0 vk, .int .i64 0, .int .i64 0, .string ⟨#[]⟩, .string ⟨#[]⟩, .int .i64 0, .slice ua 0 uk, .int .i64 0] SlotsT)) := (Below.refl _ _).alloc (Nat.le_refl _) _
  have hz3 : w.heap.size + 2 ≤ Y3.heap.size := Nat.le_trans hz.out hb.size
  have N1 := Lib.hid hd
  have P1 := Lib.hid (layIntS.lower (layIntS.next o1 hal) hz.out)
  have P2 := Lib.hid (layIntS.lower (layIntS.next o2 hal) hz.out)
  have F1 : Hid (∀ a ∈ f ++ g, a < Y3.heap.size) := Lib.hid (fun a ha => (List.mem_append.1 ha).elim (fun h => (layIntS.blocks o1 a h).2) (fun h => (layIntS.blocks o2 a h).2))
  replace A0 := Lib.hid ((A0.out.next hb).next hal)
  replace A1 := Lib.hid ((A1.out.next hb).next hal)
  have A2 := Lib.hid (VarA.new Y3 SlotsT #[.int .i64 1, .string pa, .string pb, .int .i64 0, .slice va 0 vk, .int .i64 0, .int .i64 0, .string ⟨#[]⟩, .string ⟨#[]⟩, .int .i64 0, .slice ua 0 uk, .int .i64 0])
  replace BY := Lib.hid ((BY.out.trans (hb.mono BY.out.size)).trans (hal.mono (Nat.le_trans BY.out.size hb.size)))
  replace hz : Hid (w.heap.size + 2 ≤ Y3.heap.size) := Lib.hid hz3
  have hs3 : Hid ((Y3.alloc (.cells #[.int .i64 1, .string pa, .string pb, .int .i64 0, .slice va 0 vk, .int .i64 0, .int .i64 0, .string ⟨#[]⟩, .string ⟨#[]⟩, .int .i64 0, .slice ua 0 uk, .int .i64 0] SlotsT)).heap.size = Y3.heap.size + 1) := Lib.hid (by simp)
  clear he hb hal hd o1 o2 KI hz3
  go_upto_region 4 with fail
  generalize Y3.alloc (.cells #[.int .i64 1, .string pa, .string pb, .int .i64 0, .slice va 0 vk, .int .i64 0, .int .i64 0, .string ⟨#[]⟩, .string ⟨#[]⟩, .int .i64 0, .slice ua 0 uk, .int .i64 0] SlotsT) = Y4 at *
  generalize Y3.heap.size = G at *
  have KI := Lib.hid (specInstall_any 0 ⟨#[]⟩ ⟨#[]⟩ 0 (.slice none 0 0) [] 0 0 ⟨#[]⟩ ⟨#[]⟩ 0 (.slice none 0 0) [] 0 pb pa 0 (by simp) (by simp) Y4 (layIntS.read (none_own Y4 0)) (layIntS.read (none_own Y4 0)))
  go_wp2_with fail
  refine KI.out.mono ?_
  intro e Y5 he
  obtain ⟨v5, u5, f', g', rfl, hd, o1, o2, hb⟩ := install_none he pb1.out pa1.out
  obtain ⟨na, nk, rfl⟩ : ∃ a c, v5 = .slice a 0 c := rows_form (layIntS.read o1)
  obtain ⟨ma, mk, rfl⟩ : ∃ a c, u5 = .slice a 0 c := rows_form (layIntS.read o2)
  have hal : Below Y5.heap.size Y5 (Y5.alloc (.cells #[.int .i64 1, .string pb, .string pa, .int .i64 0, .slice na 0 nk, .int .i64 0, .int .i64 0, .string ⟨#[]⟩, .string ⟨#[]⟩, .int .i64 0, .slice ma 0 mk, .int .i64 0] SlotsT)) := (Below.refl _ _).alloc (Nat.le_refl _) _
  have hz4 : w.heap.size + 2 ≤ Y4.heap.size := by have := hs3.out; have := hz.out; omega
  have N2 : Hid (((f ++ g) ++ (f' ++ g')).Nodup) := Lib.hid (List.nodup_append.2 ⟨N1.out, hd, fun a ha b hb e => by
    have h1 := F1.out a ha
    have h2 : Y4.heap.size ≤ b := (List.mem_append.1 hb).elim (fun h => (layIntS.blocks o1 b h).1) (fun h => (layIntS.blocks o2 b h).1)
    have := hs3.out
    omega⟩)
  replace P1 := Lib.hid (layIntS.next (layIntS.next P1.out hb) hal)
  replace P2 := Lib.hid (layIntS.next (layIntS.next P2.out hb) hal)
  have P3 := Lib.hid (layIntS.lower (layIntS.next o1 hal) hz4)
  have P4 := Lib.hid (layIntS.lower (layIntS.next o2 hal) hz4)
  replace A0 := Lib.hid ((A0.out.next hb).next hal)
  replace A1 := Lib.hid ((A1.out.next hb).next hal)
  replace A2 := Lib.hid ((A2.out.next hb).next hal)
  have A3 := Lib.hid (VarA.new Y5 SlotsT #[.int .i64 1, .string pb, .string pa, .int .i64 0, .slice na 0 nk, .int .i64 0, .int .i64 0, .string ⟨#[]⟩, .string ⟨#[]⟩, .int .i64 0, .slice ma 0 mk, .int .i64 0])
  have hz5 : Hid (w.heap.size + 2 ≤ Y5.heap.size) := Lib.hid (Nat.le_trans hz4 hb.size)
  replace BY := Lib.hid ((BY.out.trans (hb.mono BY.out.size)).trans (hal.mono (Nat.le_trans BY.out.size hb.size)))
  clear he hb hal hd o1 o2 KI hz4 N1 F1 hs3
  go_upto_region 5 with fail
  generalize Y5.alloc (.cells #[.int .i64 1, .string pb, .string pa, .int .i64 0, .slice na 0 nk, .int .i64 0, .int .i64 0, .string ⟨#[]⟩, .string ⟨#[]⟩, .int .i64 0, .slice ma 0 mk, .int .i64 0] SlotsT) = Y6 at *
  generalize Y5.heap.size = H at *
  have hG := hz.out
  have hH := hz5.out
  have E0 : Hid (VarA G SlotsT #[.int .i64 1, .string pa, .string pb, .int .i64 0, .slice va 0 vk, .int .i64 0, .int .i64 0, .string ⟨#[]⟩, .string ⟨#[]⟩, .int .i64 0, .slice ua 0 uk, .int .i64 0] Y6.drew ∧ VarA H SlotsT #[.int .i64 1, .string pb, .string pa, .int .i64 0, .slice na 0 nk, .int .i64 0, .int .i64 0, .string ⟨#[]⟩, .string ⟨#[]⟩, .int .i64 0, .slice ma 0 mk, .int .i64 0] Y6.drew) := Lib.hid ⟨A2.out.drew, A3.out.drew⟩
  replace A0 := Lib.hid A0.out.drew
  replace A1 := Lib.hid A1.out.drew
  replace BY := Lib.hid BY.out.drew
  replace P1 := Lib.hid (own_drew P1.out)
  replace P2 := Lib.hid (own_drew P2.out)
  replace P3 := Lib.hid (own_drew P3.out)
  replace P4 := Lib.hid (own_drew P4.out)
  clear A2 A3
  go_wp2_with fail
  refine wp_region_held_drew (S := fun X => Hid (VarA G SlotsT #[.int .i64 1, .string pa, .string pb, .int .i64 0, .slice va 0 vk, .int .i64 0, .int .i64 0, .string ⟨#[]⟩, .string ⟨#[]⟩, .int .i64 0, .slice ua 0 uk, .int .i64 0] X ∧ VarA H SlotsT #[.int .i64 1, .string pb, .string pa, .int .i64 0, .slice na 0 nk, .int .i64 0, .int .i64 0, .string ⟨#[]⟩, .string ⟨#[]⟩, .int .i64 0, .slice ma 0 mk, .int .i64 0] X)) (by kernel_rfl) E0 (fun hHeld => ?_)
  clear E0
  generalize Y6.drew = X0 at *
  refine wpAnyH_take (i := 0) (v := ?_) rfl (by kernel_rfl) (by kernel_rfl) (by kernel_rfl) (fun _ _ _ h => h) (Or.inl ⟨by kernel_rfl, ?_⟩) hHeld ?_
  rotate_left
  · intro X hX
    have y0 : X.cell? ⟨G, 0, none⟩ = some (.int .i64 1) := hX.out.1.cell 0
    have y1 : X.cell? ⟨G, 1, none⟩ = some (.string pa) := hX.out.1.cell 1
    have y2 : X.cell? ⟨G, 2, none⟩ = some (.string pb) := hX.out.1.cell 2
    have y3 : X.cell? ⟨G, 3, none⟩ = some (.int .i64 0) := hX.out.1.cell 3
    have y4 : X.cell? ⟨G, 4, none⟩ = some (.slice va 0 vk) := hX.out.1.cell 4
    have y5 : X.cell? ⟨G, 5, none⟩ = some (.int .i64 0) := hX.out.1.cell 5
    have y6 : X.cell? ⟨G, 6, none⟩ = some (.int .i64 0) := hX.out.1.cell 6
    have y7 : X.cell? ⟨G, 7, none⟩ = some (.string ⟨#[]⟩) := hX.out.1.cell 7
    have y8 : X.cell? ⟨G, 8, none⟩ = some (.string ⟨#[]⟩) := hX.out.1.cell 8
    have y9 : X.cell? ⟨G, 9, none⟩ = some (.int .i64 0) := hX.out.1.cell 9
    have y10 : X.cell? ⟨G, 10, none⟩ = some (.slice ua 0 uk) := hX.out.1.cell 10
    have y11 : X.cell? ⟨G, 11, none⟩ = some (.int .i64 0) := hX.out.1.cell 11
    first | (go_simp; done) | (go_simp; with_reducible rfl)
  try simp only [Act.put, List.getElem_toArray, List.getElem_cons_zero, List.setIfInBounds_toArray, List.set_cons_zero, List.set_cons_succ]
  refine wpAnyH_take (i := 1) (v := ?_) rfl (by kernel_rfl) (by kernel_rfl) (by kernel_rfl) (fun _ _ _ h => h) (Or.inl ⟨by kernel_rfl, ?_⟩) hHeld ?_
  rotate_left
  · intro X hX
    have y0 : X.cell? ⟨H, 0, none⟩ = some (.int .i64 1) := hX.out.2.cell 0
    have y1 : X.cell? ⟨H, 1, none⟩ = some (.string pb) := hX.out.2.cell 1
    have y2 : X.cell? ⟨H, 2, none⟩ = some (.string pa) := hX.out.2.cell 2
    have y3 : X.cell? ⟨H, 3, none⟩ = some (.int .i64 0) := hX.out.2.cell 3
    have y4 : X.cell? ⟨H, 4, none⟩ = some (.slice na 0 nk) := hX.out.2.cell 4
    have y5 : X.cell? ⟨H, 5, none⟩ = some (.int .i64 0) := hX.out.2.cell 5
    have y6 : X.cell? ⟨H, 6, none⟩ = some (.int .i64 0) := hX.out.2.cell 6
    have y7 : X.cell? ⟨H, 7, none⟩ = some (.string ⟨#[]⟩) := hX.out.2.cell 7
    have y8 : X.cell? ⟨H, 8, none⟩ = some (.string ⟨#[]⟩) := hX.out.2.cell 8
    have y9 : X.cell? ⟨H, 9, none⟩ = some (.int .i64 0) := hX.out.2.cell 9
    have y10 : X.cell? ⟨H, 10, none⟩ = some (.slice ma 0 mk) := hX.out.2.cell 10
    have y11 : X.cell? ⟨H, 11, none⟩ = some (.int .i64 0) := hX.out.2.cell 11
    first | (go_simp; done) | (go_simp; with_reducible rfl)
  try simp only [Act.put, List.getElem_toArray, List.getElem_cons_succ, List.getElem_cons_zero, List.setIfInBounds_toArray, List.set_cons_zero, List.set_cons_succ]
  refine wpAnyH_ready (rs := [2]) (by kernel_rfl) (by simp) ?_
  refine AllReadyH.cons rfl (fun K hK => ?_) AllReadyH.nil
  have r0_ := A0.out.cell 0
  have r1_ := A0.out.cell 1
  have r2_ := A0.out.cell 2
  have r3_ := A0.out.cell 3
  have r4_ := A0.out.cell 4
  have r5_ := A0.out.cell 5
  have r6_ := A0.out.cell 6
  have r7_ := A0.out.cell 7
  have r8_ := A0.out.cell 8
  have r9_ := A0.out.cell 9
  have r10_ := A0.out.cell 10
  have r11_ := A0.out.cell 11
  have g0_ := A0.out.free 0
  have g1_ := A0.out.free 1
  have g2_ := A0.out.free 2
  have g3_ := A0.out.free 3
  have g4_ := A0.out.free 4
  have g5_ := A0.out.free 5
  have g6_ := A0.out.free 6
  have g7_ := A0.out.free 7
  have g8_ := A0.out.free 8
  have g9_ := A0.out.free 9
  have g10_ := A0.out.free 10
  have g11_ := A0.out.free 11
  go_simp
  have ho : Only (w.heap.size) X0 ((((((((((((X0.setCell ⟨w.heap.size, 0, none⟩ (.int .i64 1)).setCell ⟨w.heap.size, 1, none⟩ (.string pa)).setCell ⟨w.heap.size, 2, none⟩ (.string pb)).setCell ⟨w.heap.size, 3, none⟩ (.int .i64 0)).setCell ⟨w.heap.size, 4, none⟩ (.slice va 0 vk)).setCell ⟨w.heap.size, 5, none⟩ (.int .i64 0)).setCell ⟨w.heap.size, 6, none⟩ (.int .i64 0)).setCell ⟨w.heap.size, 7, none⟩ (.string ⟨#[]⟩)).setCell ⟨w.heap.size, 8, none⟩ (.string ⟨#[]⟩)).setCell ⟨w.heap.size, 9, none⟩ (.int .i64 0)).setCell ⟨w.heap.size, 10, none⟩ (.slice ua 0 uk)).setCell ⟨w.heap.size, 11, none⟩ (.int .i64 0)) := (putMain_only X0 (w.heap.size) _ _ _ _ _ _).trans (putLame_only _ (w.heap.size) _ _ _ _ _ _)
  refine hK.out _ _ (Lib.hid ⟨hHeld.out.1.only ho (by omega), hHeld.out.2.only ho (by omega)⟩) (fun hHeld => ?_)
  clear hK K r0_ g0_ r1_ g1_ r2_ g2_ r3_ g3_ r4_ g4_ r5_ g5_ r6_ g6_ r7_ g7_ r8_ g8_ r9_ g9_ r10_ g10_ r11_ g11_
  replace A0 := Lib.hid (putBoth A0.out (.int .i64 1) (.string pa) (.string pb) (.int .i64 0) (.slice va 0 vk) (.int .i64 0) (.int .i64 0) (.string ⟨#[]⟩) (.string ⟨#[]⟩) (.int .i64 0) (.slice ua 0 uk) (.int .i64 0))
  replace A1 := Lib.hid (A1.out.only ho (by omega))
  replace BY := Lib.hid (putBoth_below BY.out (show w.heap.size ≤ w.heap.size by omega) (.int .i64 1) (.string pa) (.string pb) (.int .i64 0) (.slice va 0 vk) (.int .i64 0) (.int .i64 0) (.string ⟨#[]⟩) (.string ⟨#[]⟩) (.int .i64 0) (.slice ua 0 uk) (.int .i64 0))
  replace P1 := Lib.hid (own_off P1.out ho (by omega))
  replace P2 := Lib.hid (own_off P2.out ho (by omega))
  replace P3 := Lib.hid (own_off P3.out ho (by omega))
  replace P4 := Lib.hid (own_off P4.out ho (by omega))
  clear ho
  generalize ((((((((((((X0.setCell ⟨w.heap.size, 0, none⟩ (.int .i64 1)).setCell ⟨w.heap.size, 1, none⟩ (.string pa)).setCell ⟨w.heap.size, 2, none⟩ (.string pb)).setCell ⟨w.heap.size, 3, none⟩ (.int .i64 0)).setCell ⟨w.heap.size, 4, none⟩ (.slice va 0 vk)).setCell ⟨w.heap.size, 5, none⟩ (.int .i64 0)).setCell ⟨w.heap.size, 6, none⟩ (.int .i64 0)).setCell ⟨w.heap.size, 7, none⟩ (.string ⟨#[]⟩)).setCell ⟨w.heap.size, 8, none⟩ (.string ⟨#[]⟩)).setCell ⟨w.heap.size, 9, none⟩ (.int .i64 0)).setCell ⟨w.heap.size, 10, none⟩ (.slice ua 0 uk)).setCell ⟨w.heap.size, 11, none⟩ (.int .i64 0)) = X1 at *
  try simp only [Act.put, List.getElem_toArray, List.getElem_cons_succ, List.getElem_cons_zero, List.setIfInBounds_toArray, List.set_cons_zero, List.set_cons_succ]
  refine wpAnyH_ready (rs := [3]) (by kernel_rfl) (by simp) ?_
  refine AllReadyH.cons rfl (fun K hK => ?_) AllReadyH.nil
  have r0_ := A1.out.cell 0
  have r1_ := A1.out.cell 1
  have r2_ := A1.out.cell 2
  have r3_ := A1.out.cell 3
  have r4_ := A1.out.cell 4
  have r5_ := A1.out.cell 5
  have r6_ := A1.out.cell 6
  have r7_ := A1.out.cell 7
  have r8_ := A1.out.cell 8
  have r9_ := A1.out.cell 9
  have r10_ := A1.out.cell 10
  have r11_ := A1.out.cell 11
  have g0_ := A1.out.free 0
  have g1_ := A1.out.free 1
  have g2_ := A1.out.free 2
  have g3_ := A1.out.free 3
  have g4_ := A1.out.free 4
  have g5_ := A1.out.free 5
  have g6_ := A1.out.free 6
  have g7_ := A1.out.free 7
  have g8_ := A1.out.free 8
  have g9_ := A1.out.free 9
  have g10_ := A1.out.free 10
  have g11_ := A1.out.free 11
  go_simp
  have ho : Only (w.heap.size + 1) X1 ((((((((((((X1.setCell ⟨w.heap.size + 1, 0, none⟩ (.int .i64 1)).setCell ⟨w.heap.size + 1, 1, none⟩ (.string pb)).setCell ⟨w.heap.size + 1, 2, none⟩ (.string pa)).setCell ⟨w.heap.size + 1, 3, none⟩ (.int .i64 0)).setCell ⟨w.heap.size + 1, 4, none⟩ (.slice na 0 nk)).setCell ⟨w.heap.size + 1, 5, none⟩ (.int .i64 0)).setCell ⟨w.heap.size + 1, 6, none⟩ (.int .i64 0)).setCell ⟨w.heap.size + 1, 7, none⟩ (.string ⟨#[]⟩)).setCell ⟨w.heap.size + 1, 8, none⟩ (.string ⟨#[]⟩)).setCell ⟨w.heap.size + 1, 9, none⟩ (.int .i64 0)).setCell ⟨w.heap.size + 1, 10, none⟩ (.slice ma 0 mk)).setCell ⟨w.heap.size + 1, 11, none⟩ (.int .i64 0)) := (putMain_only X1 (w.heap.size + 1) _ _ _ _ _ _).trans (putLame_only _ (w.heap.size + 1) _ _ _ _ _ _)
  refine hK.out _ _ (Lib.hid ⟨hHeld.out.1.only ho (by omega), hHeld.out.2.only ho (by omega)⟩) (fun hHeld => ?_)
  clear hK K r0_ g0_ r1_ g1_ r2_ g2_ r3_ g3_ r4_ g4_ r5_ g5_ r6_ g6_ r7_ g7_ r8_ g8_ r9_ g9_ r10_ g10_ r11_ g11_
  replace A1 := Lib.hid (putBoth A1.out (.int .i64 1) (.string pb) (.string pa) (.int .i64 0) (.slice na 0 nk) (.int .i64 0) (.int .i64 0) (.string ⟨#[]⟩) (.string ⟨#[]⟩) (.int .i64 0) (.slice ma 0 mk) (.int .i64 0))
  replace A0 := Lib.hid (A0.out.only ho (by omega))
  replace BY := Lib.hid (putBoth_below BY.out (show w.heap.size ≤ w.heap.size + 1 by omega) (.int .i64 1) (.string pb) (.string pa) (.int .i64 0) (.slice na 0 nk) (.int .i64 0) (.int .i64 0) (.string ⟨#[]⟩) (.string ⟨#[]⟩) (.int .i64 0) (.slice ma 0 mk) (.int .i64 0))
  replace P1 := Lib.hid (own_off P1.out ho (by omega))
  replace P2 := Lib.hid (own_off P2.out ho (by omega))
  replace P3 := Lib.hid (own_off P3.out ho (by omega))
  replace P4 := Lib.hid (own_off P4.out ho (by omega))
  clear ho
  generalize ((((((((((((X1.setCell ⟨w.heap.size + 1, 0, none⟩ (.int .i64 1)).setCell ⟨w.heap.size + 1, 1, none⟩ (.string pb)).setCell ⟨w.heap.size + 1, 2, none⟩ (.string pa)).setCell ⟨w.heap.size + 1, 3, none⟩ (.int .i64 0)).setCell ⟨w.heap.size + 1, 4, none⟩ (.slice na 0 nk)).setCell ⟨w.heap.size + 1, 5, none⟩ (.int .i64 0)).setCell ⟨w.heap.size + 1, 6, none⟩ (.int .i64 0)).setCell ⟨w.heap.size + 1, 7, none⟩ (.string ⟨#[]⟩)).setCell ⟨w.heap.size + 1, 8, none⟩ (.string ⟨#[]⟩)).setCell ⟨w.heap.size + 1, 9, none⟩ (.int .i64 0)).setCell ⟨w.heap.size + 1, 10, none⟩ (.slice ma 0 mk)).setCell ⟨w.heap.size + 1, 11, none⟩ (.int .i64 0)) = X2 at *
  try simp only [Act.put, List.getElem_toArray, List.getElem_cons_succ, List.getElem_cons_zero, List.setIfInBounds_toArray, List.set_cons_zero, List.set_cons_succ]
  refine wpAnyH_done (by kernel_rfl) ?_ _
  clear hHeld
  have E : Hid (Q (.returned (.tuple #[.agg #[.int .i64 1, .string pa, .string pb, .int .i64 0, .slice va 0 vk, .int .i64 0, .int .i64 0, .string ⟨#[]⟩, .string ⟨#[]⟩, .int .i64 0, .slice ua 0 uk, .int .i64 0], .agg #[.int .i64 1, .string pb, .string pa, .int .i64 0, .slice na 0 nk, .int .i64 0, .int .i64 0, .string ⟨#[]⟩, .string ⟨#[]⟩, .int .i64 0, .slice ma 0 mk, .int .i64 0]])) X2) := Lib.hid (by rw [HQ.out]; exact ⟨_, _, _, _, f, g, f', g', rfl, N2.out, layIntS.lower P1.out (by omega), layIntS.lower P2.out (by omega), layIntS.lower P3.out (by omega), layIntS.lower P4.out (by omega), BY.out⟩)
  have j0 := A0.out.cell 0
  have j1 := A0.out.cell 1
  have j2 := A0.out.cell 2
  have j3 := A0.out.cell 3
  have j4 := A0.out.cell 4
  have j5 := A0.out.cell 5
  have j6 := A0.out.cell 6
  have j7 := A0.out.cell 7
  have j8 := A0.out.cell 8
  have j9 := A0.out.cell 9
  have j10 := A0.out.cell 10
  have j11 := A0.out.cell 11
  have l0_ := A1.out.cell 0
  have l1_ := A1.out.cell 1
  have l2_ := A1.out.cell 2
  have l3_ := A1.out.cell 3
  have l4_ := A1.out.cell 4
  have l5_ := A1.out.cell 5
  have l6_ := A1.out.cell 6
  have l7_ := A1.out.cell 7
  have l8_ := A1.out.cell 8
  have l9_ := A1.out.cell 9
  have l10_ := A1.out.cell 10
  have l11_ := A1.out.cell 11
  go_wp2_with fail
  try simp only [Exit.inBlock, Exit.then]
  exact bodyPost_ret (v := .tuple #[.agg #[.int .i64 1, .string pa, .string pb, .int .i64 0, .slice va 0 vk, .int .i64 0, .int .i64 0, .string ⟨#[]⟩, .string ⟨#[]⟩, .int .i64 0, .slice ua 0 uk, .int .i64 0], .agg #[.int .i64 1, .string pb, .string pa, .int .i64 0, .slice na 0 nk, .int .i64 0, .int .i64 0, .string ⟨#[]⟩, .string ⟨#[]⟩, .int .i64 0, .slice ma 0 mk, .int .i64 0]]) (by simp [results, Tryz.results14, go_sem, j0, j1, j2, j3, j4, j5, j6, j7, j8, j9, j10, j11, l0_, l1_, l2_, l3_, l4_, l5_, l6_, l7_, l8_, l9_, l10_, l11_]) rfl E.out

end Go.Proofs.YtoaifgblbfdncaaGreatDoor

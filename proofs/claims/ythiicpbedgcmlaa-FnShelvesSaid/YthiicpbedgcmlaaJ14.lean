/-
  The given ReadPart and Split.
-/
import Derived.Test.YthiicpbedgcmlaaJ05
import Derived.Test.YthiicpbedgcmlaaJ06
import Derived.Test.YthiicpbedgcmlaaJ13
import Derived.Test.YthiicpbedgcmlaaJ04
import Derived.Test.YthiicpbedgcmlaaJ02
import Derived.Deep.RegionHeld3
import Derived.Deep.DeepCutAuto
import Derived.BigQuiet
import Derived.Deep.QuietTactic
namespace Go.Proofs.Ythiicpbedgcmlaa
open Go.RowKit

theorem byte_is (t : ByteArray) (i : Nat) (h : i < t.size) : (t[i]'h).toNat = byteAt t i := by
  unfold byteAt
  rw [List.getD_eq_getElem?_getD, List.getElem?_eq_getElem (show i < t.data.toList.length from h)]
  rfl

set_option maxRecDepth 100000 in
set_option maxHeartbeats 1600000 in
theorem specReadPart_any (t : ByteArray) (id place count : Int) (part : ByteArray) (ok : Bool) (hz : t.size ≤ 9223372036854775807) (h : ReadPartIs t id place count part ok) (w : World) :
    Calls Try.prog 24 #[.string t] w fun e w' => e = .returned (.tuple #[.int .i64 id, .int .i64 place, .int .i64 count, .string part, .bool ok]) ∧ Below w.heap.size w w' := by
  obtain ⟨Q, HQ⟩ : ∃ Q : Ending → World → Prop, Hid (Q = fun e w' => e = .returned (.tuple #[.int .i64 id, .int .i64 place, .int .i64 count, .string part, .bool ok]) ∧ Below w.heap.size w w') := ⟨_, Lib.hid rfl⟩
  rw [← HQ.out]
  go_enter Try.func24, Try.ntmps24
  by_cases h3 : 3 ≤ t.size
  rotate_left
  · obtain ⟨rfl, rfl, rfl, rfl, rfl⟩ : ok = false ∧ id = 0 ∧ place = 0 ∧ count = 0 ∧ part = ⟨#[]⟩ := by
      rcases h with ⟨_, h, _⟩ | ⟨h1, _, h2, h3, h4, h5⟩
      · exact absurd h.1 h3
      · exact ⟨h1, h2, h3, h4, h5⟩
    have h3' : (t.size : Int) < 3 := by omega
    clear h h3
    go_wp2_with fail
    go_quiet (fail)
    go_wp2_with fail
    exact bodyPost_ret (v := .tuple #[.int .i64 0, .int .i64 0, .int .i64 0, .string ⟨#[]⟩, .bool false]) (by simp [results, Try.results24, go_sem]) rfl (by rw [HQ.out]; exact ⟨rfl, below_drewN (Below.refl _ _) _⟩)
  have h3' : ¬ ((t.size : Int) < 3) := by omega
  have i0 : (0 : Int) < (t.size : Int) := by omega
  have i1 : (1 : Int) < (t.size : Int) := by omega
  have i2 : (2 : Int) < (t.size : Int) := by omega
  have z3 : (3 : Int) ≤ (t.size : Int) := by omega
  have B0 := byte_is t 0 (by omega)
  have B1 := byte_is t 1 (by omega)
  have B2 := byte_is t 2 (by omega)
  obtain ⟨x0, hx0⟩ : ∃ x : UInt8, t[0]'(by omega) = x := ⟨_, rfl⟩
  obtain ⟨x1, hx1⟩ : ∃ x : UInt8, t[1]'(by omega) = x := ⟨_, rfl⟩
  obtain ⟨x2, hx2⟩ : ∃ x : UInt8, t[2]'(by omega) = x := ⟨_, rfl⟩
  rw [hx0] at B0
  rw [hx1] at B1
  rw [hx2] at B2
  have l0 := x0.toNat_lt
  have l1 := x1.toNat_lt
  have l2 := x2.toNat_lt
  have w0 : IntKind.i64.wrap (x0.toNat : Int) = (x0.toNat : Int) := by rw [IntKind.wrap_i64]; omega
  have w1 : IntKind.i64.wrap (x1.toNat : Int) = (x1.toNat : Int) := by rw [IntKind.wrap_i64]; omega
  have w2 : IntKind.i64.wrap (x2.toNat : Int) = (x2.toNat : Int) := by rw [IntKind.wrap_i64]; omega
  by_cases h2 : 1 ≤ x2.toNat ∧ x2.toNat ≤ 15
  rotate_left
  · obtain ⟨rfl, rfl, rfl, rfl, rfl⟩ : ok = false ∧ id = 0 ∧ place = 0 ∧ count = 0 ∧ part = ⟨#[]⟩ := by
      rcases h with ⟨_, h, _⟩ | ⟨h1, _, h2, h3, h4, h5⟩
      · exact absurd (by rw [B2]; exact h.2.1) h2
      · exact ⟨h1, h2, h3, h4, h5⟩
    have K := Lib.hid (inRange_no (IntKind.i64.wrap (x2.toNat : Int)) 1 15 (by rw [w2]; omega))
    clear h h2 B0 B1 B2 w0 w1 w2
    go_wp2_with fail
    go_quiet ((go_at_call 27; exact Calls.quiet_of_same (K.out _)))
    go_wp2_with fail
    exact bodyPost_ret (v := .tuple #[.int .i64 0, .int .i64 0, .int .i64 0, .string ⟨#[]⟩, .bool false]) (by simp [results, Try.results24, go_sem]) rfl (by rw [HQ.out]; exact ⟨rfl, below_drewN (Below.refl _ _) _⟩)
  have K := Lib.hid (inRange_yes (IntKind.i64.wrap (x2.toNat : Int)) 1 15 (by rw [w2]; omega) (by rw [w2]; omega))
  by_cases h1 : x1.toNat < x2.toNat
  rotate_left
  · obtain ⟨rfl, rfl, rfl, rfl, rfl⟩ : ok = false ∧ id = 0 ∧ place = 0 ∧ count = 0 ∧ part = ⟨#[]⟩ := by
      rcases h with ⟨_, h, _⟩ | ⟨h1, _, h2, h3, h4, h5⟩
      · exact absurd (by rw [B1, B2]; exact h.2.2) h1
      · exact ⟨h1, h2, h3, h4, h5⟩
    have h1' : decide ((x2.toNat : Int) ≤ (x1.toNat : Int)) = true := decide_eq_true (by omega)
    have h1'' : (x2.toNat : Int) ≤ (x1.toNat : Int) := by omega
    clear h h2 h1 B0 B1 B2 w0 w1 w2
    go_wp2_with fail
    go_quiet ((go_at_call 27; exact Calls.quiet_of_same (K.out _)))
    go_wp2_with fail
    exact bodyPost_ret (v := .tuple #[.int .i64 0, .int .i64 0, .int .i64 0, .string ⟨#[]⟩, .bool false]) (by simp [results, Try.results24, go_sem]) rfl (by rw [HQ.out]; exact ⟨rfl, below_drewN (Below.refl _ _) _⟩)
  have h1' : decide ((x2.toNat : Int) ≤ (x1.toNat : Int)) = false := decide_eq_false (by omega)
  have h1'' : ¬ ((x2.toNat : Int) ≤ (x1.toNat : Int)) := by omega
  obtain ⟨rfl, rfl, rfl, rfl, hp⟩ : ok = true ∧ id = (x0.toNat : Int) ∧ place = (x1.toNat : Int) ∧ count = (x2.toNat : Int) ∧ part = t.extract 3 t.size := by
    rcases h with ⟨h1, _, h2, h3, h4, h5⟩ | ⟨_, h, _⟩
    · exact ⟨h1, by rw [B0]; exact h2, by rw [B1]; exact h3, by rw [B2]; exact h4, h5⟩
    · exact absurd ⟨h3, by rw [← B2]; exact h2, by rw [← B1, ← B2]; exact h1⟩ h
  have E : Hid (∀ X, Below w.heap.size w X → Q (.returned (.tuple #[.int .i64 (x0.toNat : Int), .int .i64 (x1.toNat : Int), .int .i64 (x2.toNat : Int), .string (t.extract 3 t.size), .bool true])) X) := Lib.hid (fun X hX => by
    rw [HQ.out, ← hp]
    exact ⟨rfl, hX⟩)
  clear h h2 h1 B0 B1 B2 hp w0 w1 w2
  go_wp2_with fail
  go_quiet ((go_at_call 27; exact Calls.quiet_of_same (K.out _)))
  go_wp2_with fail
  go_quiet (fail)
  go_wp2_with fail
  exact bodyPost_ret (v := .tuple #[.int .i64 (x0.toNat : Int), .int .i64 (x1.toNat : Int), .int .i64 (x2.toNat : Int), .string (t.extract 3 t.size), .bool true]) (by simp [results, Try.results24, go_sem]) rfl (E.out _ (below_drewN (below_drewN (Below.refl _ _) _) _))

set_option maxRecDepth 100000 in
set_option maxHeartbeats 3200000 in
theorem specPieces_any (id : Int) (s : ByteArray) (size : Int) (out : List ByteArray) (ok : Bool) (h : SplitIs id s size out ok) (hz : s.size ≤ 9223372036854775807) (w : World) :
    Calls Try.prog 12 #[.int .i64 id, .string s, .int .i64 size] w fun e w' => ∃ v f, e = .returned (.tuple #[v, .bool ok]) ∧ f.Nodup ∧ layStringS.own w' w.heap.size f [v] out ∧ Below w.heap.size w w' := by
  obtain ⟨i0, hi, hz0, hsz0, hby0⟩ := info_of infoString
  obtain ⟨Q, HQ⟩ : ∃ Q : Ending → World → Prop, Hid (Q = fun e w' => ∃ v f, e = .returned (.tuple #[v, .bool ok]) ∧ f.Nodup ∧ layStringS.own w' w.heap.size f [v] out ∧ Below w.heap.size w w') := ⟨_, Lib.hid rfl⟩
  rw [← HQ.out]
  have hal : Below w.heap.size w (w.alloc (.cells #[] StringT)) := (Below.refl _ _).alloc (Nat.le_refl _) _
  have O1 : Hid (layStringS.own (w.alloc (.cells #[] StringT)) w.heap.size [w.heap.size] [.slice (some ⟨w.heap.size, 0, none⟩) 0 0] []) := Lib.hid (flat_lit w _ (Nat.le_refl _))
  have B1 := Lib.hid hal
  clear hal
  have EN : Hid (¬ SplitP id s size → Q (.returned (.tuple #[.slice (some ⟨w.heap.size, 0, none⟩) 0 0, .bool false])) (w.alloc (.cells #[] StringT))) := Lib.hid (fun hn => by
    rcases h with ⟨_, hp, _⟩ | ⟨rfl, _, rfl⟩
    · exact absurd hp hn
    · rw [HQ.out]
      exact ⟨_, _, rfl, by simp, O1.out, B1.out⟩)
  go_enter Try.func12, Try.ntmps12
  by_cases h1 : 0 ≤ id ∧ id ≤ 255
  rotate_left
  · have K := Lib.hid (inRange_no id 0 255 (by omega))
    have E := Lib.hid (EN.out (fun hp => h1 hp.1))
    clear h h1 EN O1 B1
    go_wp2_with fail
    refine (K.out _).mono ?_
    rintro e w1 ⟨rfl, rfl⟩
    go_wp2_with fail
    exact E.out
  have K1 := Lib.hid (inRange_yes id 0 255 h1.1 h1.2)
  by_cases h2 : 20 ≤ size ∧ size ≤ 120
  rotate_left
  · have K := Lib.hid (inRange_no size 20 120 (by omega))
    have E := Lib.hid (EN.out (fun hp => h2 hp.2.1))
    clear h h1 h2 EN O1 B1
    go_wp2_with fail
    refine (K1.out _).mono ?_
    rintro e w1 ⟨rfl, rfl⟩
    go_wp2_with fail
    refine (K.out _).mono ?_
    rintro e w1 ⟨rfl, rfl⟩
    go_wp2_with fail
    exact E.out
  have K2 := Lib.hid (inRange_yes size 20 120 h2.1 h2.2)
  by_cases h3 : s.size ≤ 300
  rotate_left
  · have h3' : (300 : Int) < (s.size : Int) := by omega
    have E := Lib.hid (EN.out (fun hp => h3 hp.2.2))
    clear h h1 h2 h3 EN O1 B1
    go_wp2_with fail
    refine (K1.out _).mono ?_
    rintro e w1 ⟨rfl, rfl⟩
    go_wp2_with fail
    refine (K2.out _).mono ?_
    rintro e w1 ⟨rfl, rfl⟩
    go_wp2_with fail
    exact E.out
  have h3' : ¬ ((300 : Int) < (s.size : Int)) := by omega
  obtain ⟨m, rfl⟩ := Int.eq_ofNat_of_zero_le (show 0 ≤ id by omega)
  obtain ⟨k, rfl⟩ := Int.eq_ofNat_of_zero_le (show 0 ≤ size by omega)
  obtain ⟨rfl, hout⟩ : ok = true ∧ out = partsP m (countP s.size k) k s (countP s.size k) := by
    rcases h with ⟨h, _, h2⟩ | ⟨_, hp, _⟩
    · exact ⟨h, by rwa [Int.toNat_natCast, Int.toNat_natCast] at h2⟩
    · exact absurd ⟨h1, h2, h3⟩ hp
  have hc := count_few (n := s.size) (size := k) h3 (by omega)
  have he := count_end (n := s.size) (size := k) (by omega)
  have HOUT := Lib.hid hout
  have k0 : ¬ ((k : Int) = 0) := by omega
  have hws : IntKind.i64.wrap ((s.size : Int) + (k : Int)) = ((s.size + k : Nat) : Int) := by rw [IntKind.wrap_i64]; omega
  clear h EN hout
  go_wp2_with fail
  refine (K1.out _).mono ?_
  rintro e w1 ⟨rfl, rfl⟩
  go_wp2_with fail
  refine (K2.out _).mono ?_
  rintro e w1 ⟨rfl, rfl⟩
  obtain ⟨q, hq⟩ : ∃ q : Nat, (s.size + k - 1) / k = q := ⟨_, rfl⟩
  have hq' : ((s.size : Int) + (k : Int) - 1) / (k : Int) = (q : Int) := by
    rw [← hq, Int.natCast_ediv]
    congr 1
    omega
  obtain ⟨c, hcp⟩ : ∃ c : Nat, countP s.size k = c := ⟨_, rfl⟩
  have hc1 : q = 0 → c = 1 := fun h => by rw [← hcp]; unfold countP; rw [hq, if_pos h]
  have hc2 : q ≠ 0 → c = q := fun h => by rw [← hcp]; unfold countP; rw [hq, if_neg h]
  rw [hcp] at hc he HOUT
  have hc15 : ¬ ((15 : Int) < (c : Int)) := by omega
  clear hq hcp
  go_upto_region 4 with fail
  rw [hq']
  clear hq' k0 hws
  obtain ⟨bq, hbq⟩ : ∃ bq : Bool, ((q : Int) == 0) = bq := ⟨_, rfl⟩
  go_upto_if 34 with fail
  go_cut [8] (fun v wx => v = .int .i64 (c : Int) ∧ wx = w1)
  case first =>
    cases bq with
    | true =>
      obtain rfl : q = 0 := by have := beq_iff_eq.1 hbq; omega
      obtain rfl := hc1 rfl
      clear hc1 hc2 hbq
      go_wp2_with fail
      go_meet
      exact ⟨rfl, rfl⟩
    | false =>
      have h0 : q ≠ 0 := fun e => by subst e; simp at hbq
      obtain rfl := hc2 h0
      clear hc1 hc2 h0 hbq
      go_wp2_with fail
      go_meet
      exact ⟨rfl, rfl⟩
  case rest =>
  obtain ⟨rfl, rfl⟩ := hcut
  clear hc1 hc2 hbq
  go_upto_region 9 with fail
  generalize wc.alloc (.cells #[] StringT) = Y1 at *
  generalize wc = w at *
  go_wp2_with fail
  go_loopw [9, 10] (fun t n wr => ∃ (i g kk : Nat) (ys : List ByteArray), i ≤ c ∧ n = .int .i64 i ∧ t = .slice (some ⟨g, 0, none⟩) ys.length kk ∧ Hid (ys = partsP m c k s i) ∧ Hid (layStringS.own wr w.heap.size [g] [.slice (some ⟨g, 0, none⟩) ys.length kk] ys) ∧ Hid (Below w.heap.size w wr)) (fun _ n _ => c - (intOf n).toNat)
  case atStart => exact ⟨0, w.heap.size, 0, [], Nat.zero_le _, rfl, rfl, Lib.hid rfl, O1, B1⟩
  case round =>
    obtain ⟨i, g, kk, ys, hi2, rfl, rfl, HY, HO, HB⟩ := hrel
    clear O1 B1
    by_cases hlt : i < c
    rotate_left
    · obtain rfl : i = c := by omega
      have hge : ¬ ((i : Int) < (i : Int)) := by omega
      have E : Hid (Q (.returned (.tuple #[.slice (some ⟨g, 0, none⟩) ys.length kk, .bool true])) wr) := Lib.hid (by
        rw [HQ.out]
        exact ⟨_, [g], rfl, by simp, by rw [HOUT.out, ← HY.out]; exact HO.out, HB.out⟩)
      clear HO HB HY
      go_wp2_with fail
      exact E.out
    have hlt' : (i : Int) < (c : Int) := by omega
    obtain ⟨e0, he0⟩ : ∃ e : Nat, i * k = e := ⟨_, rfl⟩
    obtain ⟨e1, he1⟩ : ∃ e : Nat, (i + 1) * k = e := ⟨_, rfl⟩
    have hb0 : e0 ≤ s.size := by rw [← he0]; exact he.2 i hlt
    have hb1 : e1 = e0 + k := by rw [← he1, ← he0, Nat.add_mul, Nat.one_mul]
    have hm0 : (i : Int) * (k : Int) = (e0 : Int) := by rw [← he0]; simp
    have hm1 : ((i : Int) + 1) * (k : Int) = (e1 : Int) := by rw [← he1]; simp
    have hw0 : IntKind.i64.wrap ((i : Int) * (k : Int)) = (e0 : Int) := by rw [hm0, IntKind.wrap_i64]; omega
    have hw1 : IntKind.i64.wrap (((i : Int) + 1) * (k : Int)) = (e1 : Int) := by rw [hm1, IntKind.wrap_i64]; omega
    have HN : Hid (ys ++ [partP m c k s i] = partsP m c k s (i + 1)) := Lib.hid (by rw [partsP_next, HY.out])
    obtain ⟨e2, he2⟩ : ∃ e : Nat, min ((i + 1) * k) s.size = e := ⟨_, rfl⟩
    have hpp : partP m c k s i = byteN m ++ byteN i ++ byteN c ++ s.extract e0 e2 := by unfold partP; rw [he0, he2]
    rw [hpp] at HN
    rw [he1] at he2
    clear hpp he0 he1 hm0 hm1 he
    have hb2 : e0 ≤ e2 ∧ e2 ≤ s.size := by omega
    have hlen : ys.length + 1 ≤ 1000000000 := by rw [HY.out, partsP_length]; omega
    subst hb1
    generalize wr = wo at *
    obtain ⟨bd, hbd⟩ : ∃ bd : Bool, decide ((s.size : Int) < (e0 : Int) + (k : Int)) = bd := ⟨_, rfl⟩
    go_upto_if 51 with fail
    go_cut [11] (fun v wx => v = .int .i64 (e2 : Int) ∧ wx = wo)
    case first =>
      cases bd with
      | true =>
        obtain rfl : e2 = s.size := by have := of_decide_eq_true hbd; omega
        clear hbd
        go_wp2_with fail
        go_meet
        exact ⟨rfl, rfl⟩
      | false =>
        obtain rfl : e2 = e0 + k := by have := of_decide_eq_false hbd; omega
        clear hbd
        go_wp2_with fail
        go_meet
        exact ⟨by simp, rfl⟩
    case rest =>
    obtain ⟨rfl, rfl⟩ := hcut
    clear hbd
    have hEX : Hid (s.extract e0 e2 = s.extract e0 e2) := Lib.hid rfl
    have hxz : (s.extract e0 e2).size ≤ 300 := by rw [ByteArray.size_extract]; omega
    have r0 : (e0 : Int) ≤ (e2 : Int) := by omega
    have r1 : (e2 : Int) ≤ (s.size : Int) := by omega
    have hcat : ¬ (9223372036854775807 < 3 + (e2 - e0)) := by omega
    have KB := Lib.hid (fun (j : Nat) (h : j < 256) (X : World) => specByteP_any j h X)
    have hm256 : m < 256 := by omega
    have hi256 : i < 256 := by omega
    have hc256 : c < 256 := by omega
    have qv : ∀ X Y, (Hid (Below w.heap.size w X)) → Below X.heap.size X Y → (Hid (Below w.heap.size w Y)) := fun X Y h hb => Lib.hid (h.out.trans (hb.mono h.out.size))
    have E0 : Hid (Below w.heap.size w wc.drew) := qv _ _ HB (Below.refl _ _).drew
    have RO := Lib.hid (layStringS.next HO.out (Below.refl wc.heap.size wc).drew)
    clear HO HB hEX
    unfold byteN at HN
    go_wp2_with fail
    refine wp_region_held_drew (S := fun X => Hid (Below w.heap.size w X)) (by kernel_rfl) E0 (fun hHeld => ?_)
    clear E0
    generalize wc.drew = X0 at *
    refine wpAnyH_take (i := 0) (v := ?_) rfl (by kernel_rfl) (by kernel_rfl) (by kernel_rfl) (fun _ _ _ h => h) (Or.inl ⟨by kernel_rfl, ?_⟩) hHeld ?_
    rotate_left
    · intro X hX
      first | (go_simp; done) | (go_simp; with_reducible rfl)
    try simp only [Act.put, List.getElem_toArray, List.getElem_cons_zero, List.setIfInBounds_toArray, List.set_cons_zero, List.set_cons_succ]
    refine wpAnyH_take (i := 1) (v := ?_) rfl (by kernel_rfl) (by kernel_rfl) (by kernel_rfl) (fun _ _ _ h => h) (Or.inl ⟨by kernel_rfl, ?_⟩) hHeld ?_
    rotate_left
    · intro X hX
      first | (go_simp; done) | (go_simp; with_reducible rfl)
    try simp only [Act.put, List.getElem_toArray, List.getElem_cons_succ, List.getElem_cons_zero, List.setIfInBounds_toArray, List.set_cons_zero, List.set_cons_succ]
    refine wpAnyH_take (i := 3) (v := ?_) rfl (by kernel_rfl) (by kernel_rfl) (by kernel_rfl) (fun _ _ _ h => h) (Or.inl ⟨by kernel_rfl, ?_⟩) hHeld ?_
    rotate_left
    · intro X hX
      first | (go_simp; done) | (go_simp; with_reducible rfl)
    try simp only [Act.put, List.getElem_toArray, List.getElem_cons_succ, List.getElem_cons_zero, List.setIfInBounds_toArray, List.set_cons_zero, List.set_cons_succ]
    refine wpAnyH_take (i := 6) (v := ?_) rfl (by kernel_rfl) (by kernel_rfl) (by kernel_rfl) (fun _ _ _ h => h) (Or.inl ⟨by kernel_rfl, ?_⟩) hHeld ?_
    rotate_left
    · intro X hX
      first | (go_simp; done) | (go_simp; with_reducible rfl)
    try simp only [Act.put, List.getElem_toArray, List.getElem_cons_succ, List.getElem_cons_zero, List.setIfInBounds_toArray, List.set_cons_zero, List.set_cons_succ]
    refine wpAnyH_take (i := 9) (v := ?_) rfl (by kernel_rfl) (by kernel_rfl) (by kernel_rfl) (fun _ _ _ h => h) (Or.inl ⟨by kernel_rfl, ?_⟩) hHeld ?_
    rotate_left
    · intro X hX
      first | (go_simp; done) | (go_simp; with_reducible rfl)
    try simp only [Act.put, List.getElem_toArray, List.getElem_cons_succ, List.getElem_cons_zero, List.setIfInBounds_toArray, List.set_cons_zero, List.set_cons_succ]
    refine wpAnyH_take (i := 10) (v := ?_) rfl (by kernel_rfl) (by kernel_rfl) (by kernel_rfl) (fun _ _ _ h => h) (Or.inl ⟨by kernel_rfl, ?_⟩) hHeld ?_
    rotate_left
    · intro X hX
      first | (go_simp; done) | (go_simp; with_reducible rfl)
    try simp only [Act.put, List.getElem_toArray, List.getElem_cons_succ, List.getElem_cons_zero, List.setIfInBounds_toArray, List.set_cons_zero, List.set_cons_succ]
    refine wpAnyH_take (i := 11) (v := ?_) rfl (by kernel_rfl) (by kernel_rfl) (by kernel_rfl) (fun _ _ _ h => h) (Or.inl ⟨by kernel_rfl, ?_⟩) hHeld ?_
    rotate_left
    · intro X hX
      first | (go_simp; done) | (go_simp; with_reducible rfl)
    try simp only [Act.put, List.getElem_toArray, List.getElem_cons_succ, List.getElem_cons_zero, List.setIfInBounds_toArray, List.set_cons_zero, List.set_cons_succ]
    refine wpAnyH_take (i := 12) (v := ?_) rfl (by kernel_rfl) (by kernel_rfl) (by kernel_rfl) (fun _ _ _ h => h) (Or.inl ⟨by kernel_rfl, ?_⟩) hHeld ?_
    rotate_left
    · intro X hX
      first | (go_simp; done) | (go_simp; with_reducible rfl)
    try simp only [Act.put, List.getElem_toArray, List.getElem_cons_succ, List.getElem_cons_zero, List.setIfInBounds_toArray, List.set_cons_zero, List.set_cons_succ]
    refine wpAnyH_take (i := 13) (v := ?_) rfl (by kernel_rfl) (by kernel_rfl) (by kernel_rfl) (fun _ _ _ h => h) (Or.inl ⟨by kernel_rfl, ?_⟩) hHeld ?_
    rotate_left
    · intro X hX
      first | (go_simp; done) | (go_simp; with_reducible rfl)
    try simp only [Act.put, List.getElem_toArray, List.getElem_cons_succ, List.getElem_cons_zero, List.setIfInBounds_toArray, List.set_cons_zero, List.set_cons_succ]
    refine wpAnyH_take (i := 14) (v := ?_) rfl (by kernel_rfl) (by kernel_rfl) (by kernel_rfl) (fun _ _ _ h => h) (Or.inl ⟨by kernel_rfl, ?_⟩) hHeld ?_
    rotate_left
    · intro X hX
      first | (go_simp; done) | (go_simp; with_reducible rfl)
    try simp only [Act.put, List.getElem_toArray, List.getElem_cons_succ, List.getElem_cons_zero, List.setIfInBounds_toArray, List.set_cons_zero, List.set_cons_succ]
    refine wpAnyH_ready (rs := [2]) (by kernel_rfl) (by simp) ?_
    refine AllReadyH.cons rfl (fun K hK => ?_) AllReadyH.nil
    go_simp
    go_wp2_with (go_at_call 32; refine (KB.out m hm256 X0).mono ?_; rintro e X1 ⟨rfl, hb⟩; have hS := qv _ _ hHeld hb; replace RO := Lib.hid (layStringS.next RO.out hb); clear hb)
    refine hK.out _ _ hS (fun hHeld => ?_)
    clear hK K hS
    try simp only [Act.put, List.getElem_toArray, List.getElem_cons_succ, List.getElem_cons_zero, List.setIfInBounds_toArray, List.set_cons_zero, List.set_cons_succ]
    refine wpAnyH_ready (rs := [4]) (by kernel_rfl) (by simp) ?_
    refine AllReadyH.cons rfl (fun K hK => ?_) AllReadyH.nil
    go_simp
    go_wp2_with (go_at_call 32; refine (KB.out i hi256 X1).mono ?_; rintro e X2 ⟨rfl, hb⟩; have hS := qv _ _ hHeld hb; replace RO := Lib.hid (layStringS.next RO.out hb); clear hb)
    refine hK.out _ _ hS (fun hHeld => ?_)
    clear hK K hS
    try simp only [Act.put, List.getElem_toArray, List.getElem_cons_succ, List.getElem_cons_zero, List.setIfInBounds_toArray, List.set_cons_zero, List.set_cons_succ]
    refine wpAnyH_take (i := 5) (v := ?_) rfl (by kernel_rfl) (by kernel_rfl) (by kernel_rfl) (fun _ _ _ h => h) (Or.inl ⟨by kernel_rfl, ?_⟩) hHeld ?_
    rotate_left
    · intro X hX
      first | (go_simp; done) | (go_simp; with_reducible rfl)
    try simp only [Act.put, List.getElem_toArray, List.getElem_cons_succ, List.getElem_cons_zero, List.setIfInBounds_toArray, List.set_cons_zero, List.set_cons_succ]
    refine wpAnyH_ready (rs := [7]) (by kernel_rfl) (by simp) ?_
    refine AllReadyH.cons rfl (fun K hK => ?_) AllReadyH.nil
    go_simp
    go_wp2_with (go_at_call 32; refine (KB.out c hc256 X2).mono ?_; rintro e X3 ⟨rfl, hb⟩; have hS := qv _ _ hHeld hb; replace RO := Lib.hid (layStringS.next RO.out hb); clear hb)
    refine hK.out _ _ hS (fun hHeld => ?_)
    clear hK K hS
    try simp only [Act.put, List.getElem_toArray, List.getElem_cons_succ, List.getElem_cons_zero, List.setIfInBounds_toArray, List.set_cons_zero, List.set_cons_succ]
    refine wpAnyH_take (i := 8) (v := ?_) rfl (by kernel_rfl) (by kernel_rfl) (by kernel_rfl) (fun _ _ _ h => h) (Or.inl ⟨by kernel_rfl, ?_⟩) hHeld ?_
    rotate_left
    · intro X hX
      first | (go_simp; done) | (go_simp; with_reducible rfl)
    try simp only [Act.put, List.getElem_toArray, List.getElem_cons_succ, List.getElem_cons_zero, List.setIfInBounds_toArray, List.set_cons_zero, List.set_cons_succ]
    refine wpAnyH_take (i := 15) (v := ?_) rfl (by kernel_rfl) (by kernel_rfl) (by kernel_rfl) (fun _ _ _ h => h) (Or.inl ⟨by kernel_rfl, ?_⟩) hHeld ?_
    rotate_left
    · intro X hX
      first | (go_simp; done) | (go_simp; with_reducible rfl)
    try simp only [Act.put, List.getElem_toArray, List.getElem_cons_succ, List.getElem_cons_zero, List.setIfInBounds_toArray, List.set_cons_zero, List.set_cons_succ]
    refine wpAnyH_ready (rs := [16]) (by kernel_rfl) (by simp) ?_
    refine AllReadyH.cons rfl (fun K hK => ?_) AllReadyH.nil
    go_simp
    generalize (⟨#[UInt8.ofNat m]⟩ ++ ⟨#[UInt8.ofNat i]⟩ ++ ⟨#[UInt8.ofNat c]⟩ ++ s.extract e0 e2 : ByteArray) = xt at HN ⊢
    have hal : Below X3.heap.size X3 (X3.alloc (.cells #[.string xt] StringT)) := (Below.refl _ _).alloc (Nat.le_refl _) _
    refine hK.out _ _ (qv _ _ hHeld hal) (fun hHeld => ?_)
    replace RO := Lib.hid (layStringS.next RO.out hal)
    clear hK K hal
    have hlc : (X3.alloc (.cells #[.string xt] StringT)).cell? ⟨X3.heap.size, 0, none⟩ = some (.string xt) := (VarA.new X3 StringT #[.string xt]).cell 0
    generalize X3.alloc (.cells #[.string xt] StringT) = X4 at *
    generalize X3.heap.size = ga at *
    try simp only [Act.put, List.getElem_toArray, List.getElem_cons_succ, List.getElem_cons_zero, List.setIfInBounds_toArray, List.set_cons_zero, List.set_cons_succ]
    refine wpAnyH_ready (rs := [17]) (by kernel_rfl) (by simp) ?_
    refine AllReadyH.cons rfl (fun K hK => ?_) AllReadyH.nil
    have hwx : w.heap.size ≤ X4.heap.size := hHeld.out.size
    refine step_pushOne rfl (.tmp 54) (.tmp 70) 32 rfl w.heap.size StringT i0 (.string ⟨#[]⟩) 16 layString flatString Try.underlying32 hi hz0 hsz0 hby0 rfl (by omega) (.slice (some ⟨g, 0, none⟩) ys.length kk) [g] ys (by first | rfl | simp [Act.eval, Act.put]) RO.out xt [.string xt] (layString_rd.2 rfl) ⟨ga, 0, none⟩ (by first | rfl | simp [Act.eval, Act.put]) (fun j u hj => (by cases j with | zero => (simp at hj; subst hj; exact hlc) | succ j => simp at hj)) hlen hwx ?_
    intro v1 X5 hown1 hnn1 hbe1 hgr1
    obtain ⟨m1, mc1, rfl, hblk, _, _⟩ := flat_some flatString hown1 hnn1
    rw [hblk] at hown1
    have HO3 : Hid (layStringS.own X5 w.heap.size [m1] [.slice (some ⟨m1, 0, none⟩) (ys ++ [xt]).length mc1] (ys ++ [xt])) := Lib.hid hown1
    have HB3 := Lib.hid (hHeld.out.trans hbe1)
    refine hK.out _ _ HB3 (fun hHeld => ?_)
    clear hK K hown1 hnn1 hbe1 hgr1 hblk RO hlc
    try simp only [Act.put, List.getElem_toArray, List.getElem_cons_succ, List.getElem_cons_zero, List.setIfInBounds_toArray, List.set_cons_zero, List.set_cons_succ]
    refine wpAnyH_take (i := 18) (v := ?_) rfl (by kernel_rfl) (by kernel_rfl) (by kernel_rfl) (fun _ _ _ h => h) (Or.inl ⟨by kernel_rfl, ?_⟩) hHeld ?_
    rotate_left
    · intro X hX
      first | (go_simp; done) | (go_simp; with_reducible rfl)
    try simp only [Act.put, List.getElem_toArray, List.getElem_cons_succ, List.getElem_cons_zero, List.setIfInBounds_toArray, List.set_cons_zero, List.set_cons_succ]
    refine wpAnyH_done (by kernel_rfl) ?_ _
    clear hHeld
    go_wp2_with fail
    go_roundw
    case rel => exact ⟨i + 1, m1, mc1, ys ++ [xt], by omega, by go_num, by rw [List.length_append]; rfl, HN, HO3, HB3⟩
    case measure => simp [intOf]; omega

end Go.Proofs.Ythiicpbedgcmlaa

/-
  What is held, measured.
  An element of a row of the call's own is put anew, whatever the elder one held.
-/
import Derived.Test.YtfhlpgngeiploabJ10
import Derived.Test.YtfhlpgngeiploabJ03
namespace Go.Proofs.Ytfhlpgngeiploab
open Go.RowKit

abbrev LHdT : TypeId := 63
/-- What is left, less what was counted. -/
def SzLess (P : Prop) (n : Nat) (left : Int) (e : Ending) : Prop := ∃ r : Int, e = .returned (.int .i64 r) ∧ (r = -1 ∨ (0 ≤ r ∧ r + (n : Int) ≤ left ∧ P))
set_option maxRecDepth 100000 in
set_option maxHeartbeats 800000 in
theorem szStringS_len (v : Value) (xs : List StringD) (left : Int) (h0 : 0 ≤ left) (h1 : left ≤ 1048576) (hR : RoomString xs) (w : World) (h : layStringS.rd w [v] xs) :
    Calls Try.prog 53 #[v, .int .i64 left] w fun e w' => SzLess (FitsString xs) xs.length left e ∧ Below w.heap.size w w' := by
  obtain ⟨ao, cp, rfl⟩ := rows_form h
  have HR := Lib.hid h
  have HRM := Lib.hid hR.2
  have hl := hR.1
  clear h hR
  by_cases hlen : left < (xs.length : Int)
  · have h2 : left - (xs.length : Int) < 0 := by omega
    go_enter Try.func53, Try.ntmps53
    go_wp2_with fail
    go_ret
    exact ⟨⟨_, rfl, .inl rfl⟩, Below.refl _ _⟩
  have h2 : ¬ (left - (xs.length : Int) < 0) := by omega
  go_enter Try.func53, Try.ntmps53
  go_wp2_with fail
  go_loopw [1, 5] (fun q c wr => ∃ (j : Nat) (r : Int), j ≤ xs.length ∧ c = .int .i64 j ∧ q = .int .i64 r ∧ 0 ≤ r ∧ r + (xs.length : Int) ≤ left ∧ Hid (∀ i, (hi : i < xs.length) → i < j → (xs[i]).size ≤ 1048576) ∧ Below w.heap.size w wr) (fun _ c _ => xs.length - (intOf c).toNat)
  case atStart => exact ⟨0, _, Nat.zero_le _, rfl, rfl, by omega, by omega, fun i _ h => absurd h (by omega), Below.refl _ _⟩
  case round =>
    obtain ⟨j, r, hj, rfl, rfl, hr0, hr1, HA, hbr⟩ := hrel
    have HBR := Lib.hid hbr
    by_cases hlt : j < xs.length
    · have hlt' : (j : Int) < (xs.length : Int) := by omega
      have hx := List.getElem?_eq_getElem hlt
      have hsz := HRM.out _ (List.getElem_mem hlt)
      have HNX : Hid ((xs[j]).size ≤ 1048576 → ∀ i, (hi : i < xs.length) → i < j + 1 → (xs[i]).size ≤ 1048576) := fun hx i hi h => by
        rcases Nat.lt_or_ge i j with h2 | h2
        · exact HA.out i hi h2
        · have : i = j := by omega
          subst this
          exact hx
      obtain ⟨g, off, cs, rfl, hg, hr, hc⟩ := rows_elem (layStringS.below HR.out hbr) j _ hx
      generalize xs[j] = x0 at hr hsz HNX
      rw [layString_rd] at hr
      subst hr
      have c0 : wr.cell? ⟨g, off + j, none⟩ = some (.string x0) := (by have h9 := hc 0 _ rfl; rw [str_k] at h9; exact h9)
      clear hc hx hbr
      by_cases hbig : r < (x0.size : Int)
      · have k1 : r - (x0.size : Int) < 0 := by omega
        go_wp2_with fail
        go_ret
        exact ⟨⟨_, rfl, .inl rfl⟩, HBR.out⟩
      · have k1 : ¬ (r - (x0.size : Int) < 0) := by omega
        have HN2 := Lib.hid (HNX.out (by omega))
        go_wp2_with fail
        go_roundw
        case rel => exact ⟨j + 1, _, by omega, by go_num, rfl, by omega, by omega, HN2, HBR.out⟩
        case measure => simp [intOf]; omega
    · have hlt' : ¬ ((j : Int) < (xs.length : Int)) := by omega
      have HALL : Hid (∀ x ∈ xs, (x).size ≤ 1048576) := fun x hx => by
        obtain ⟨i, hi, rfl⟩ := List.getElem_of_mem hx
        exact HA.out i hi (by omega)
      go_wp2_with fail
      go_ret
      exact ⟨⟨_, rfl, .inr ⟨hr0, hr1, by omega, HALL.out⟩⟩, HBR.out⟩
theorem szBoolS_len (v : Value) (xs : List Bool) (left : Int) (h0 : 0 ≤ left) (h1 : left ≤ 1048576) (hR : RoomBool xs) (w : World) (h : layBoolS.rd w [v] xs) :
    Calls Try.prog 54 #[v, .int .i64 left] w fun e w' => SzLess (FitsBool xs) xs.length left e ∧ Below w.heap.size w w' := by
  obtain ⟨ao, cp, rfl⟩ := rows_form h
  unfold RoomBool at hR
  refine (szBoolS_any ao xs.length cp left h0 h1 (by omega) w).mono ?_
  rintro e w' ⟨rfl, rfl⟩
  refine ⟨⟨_, rfl, ?_⟩, Below.refl _ _⟩
  by_cases h2 : left < (xs.length : Int)
  · rw [if_pos h2]
    exact .inl rfl
  · rw [if_neg h2]
    exact .inr ⟨by omega, by omega, by show xs.length ≤ _; omega⟩
/-- How many parts there are in all. -/
def partsN : List HeldD → Nat
  | [] => 0
  | x :: xs => x.2.2.2.1.length + x.2.2.2.2.1.length + partsN xs
theorem partsN_append : ∀ (xs ys : List HeldD), partsN (xs ++ ys) = partsN xs + partsN ys
  | [], ys => by simp [partsN]
  | x :: xs, ys => by
    show x.2.2.2.1.length + x.2.2.2.2.1.length + partsN (xs ++ ys) = x.2.2.2.1.length + x.2.2.2.2.1.length + partsN xs + partsN ys
    rw [partsN_append xs ys]
    omega
def FitsHeld (x : HeldD) : Prop := FitsString x.2.2.2.1 ∧ FitsBool x.2.2.2.2.1
def RoomHeld (x : HeldD) : Prop := RoomString x.2.2.2.1 ∧ RoomBool x.2.2.2.2.1
def FitsHeldS (xs : List HeldD) : Prop := xs.length ≤ 1048576 ∧ (∀ x ∈ xs, FitsHeld x) ∧ xs.length + partsN xs ≤ 1048576
def RoomHeldS (xs : List HeldD) : Prop := xs.length ≤ 9223372036854775807 ∧ ∀ x ∈ xs, RoomHeld x
set_option maxRecDepth 100000 in
set_option maxHeartbeats 1600000 in
theorem szHeld_any (x0 x1 x2 : Int) (v3 : Value) (r3 : List ByteArray) (v4 : Value) (r4 : List Bool) (x5 : Int) (left : Int) (hk0 : 0 ≤ left) (hk1 : left ≤ 1048576) (m3 : RoomString r3) (m4 : RoomBool r4) (w : World) (h3 : layStringS.rd w [v3] r3) (h4 : layBoolS.rd w [v4] r4) :
    Calls Try.prog 39 #[.agg #[.int .i64 x0, .int .i64 x1, .int .i64 x2, v3, v4, .int .i64 x5], .int .i64 left] w fun e w' => SzLess (FitsHeld (x0, x1, x2, r3, r4, x5)) (r3.length + r4.length) left e ∧ Below w.heap.size w w' := by
  obtain ⟨a3, p3, rfl⟩ := rows_form h3
  obtain ⟨a4, p4, rfl⟩ := rows_form h4
  have H3 := Lib.hid h3
  have H4 := Lib.hid h4
  have M3 := Lib.hid m3
  have M4 := Lib.hid m4
  have A0 := Lib.hid (VarA.new w LHdT #[.int .i64 x0, .int .i64 x1, .int .i64 x2, .slice a3 r3.length p3, .slice a4 r4.length p4, .int .i64 x5])
  have BY := Lib.hid ((Below.refl w.heap.size w).alloc (Nat.le_refl _) (.cells #[.int .i64 x0, .int .i64 x1, .int .i64 x2, .slice a3 r3.length p3, .slice a4 r4.length p4, .int .i64 x5] LHdT))
  clear h3 h4 m3 m4
  go_enter Try.func39, Try.ntmps39
  go_upto_region 1 with fail
  generalize w.alloc (.cells #[.int .i64 x0, .int .i64 x1, .int .i64 x2, .slice a3 r3.length p3, .slice a4 r4.length p4, .int .i64 x5] LHdT) = Y0 at *
  have c3 : Y0.cell? ⟨w.heap.size, 3, none⟩ = some (.slice a3 r3.length p3) := A0.out.cell 3
  have K3 := Lib.hid (szStringS_len (.slice a3 r3.length p3) r3 left hk0 hk1 M3.out Y0 (layStringS.below H3.out BY.out))
  go_wp2_with fail
  refine (K3.out).mono ?_
  rintro e Y1 ⟨⟨t3, rfl, rfl | ⟨u3, w3, F3⟩⟩, hb⟩
  · replace BY := Lib.hid (BY.out.trans (hb.mono BY.out.size))
    clear hb
    go_wp2_with fail
    go_ret
    exact ⟨⟨_, rfl, .inl rfl⟩, BY.out⟩
  replace F3 := Lib.hid F3
  have A1 := Lib.hid (A0.out.next hb)
  replace BY := Lib.hid (BY.out.trans (hb.mono BY.out.size))
  have g3 : ¬ (t3 < 0) := by omega
  clear hb c3 K3 A0
  have c4 : Y1.cell? ⟨w.heap.size, 4, none⟩ = some (.slice a4 r4.length p4) := A1.out.cell 4
  have K4 := Lib.hid (szBoolS_len (.slice a4 r4.length p4) r4 t3 u3 (by omega) M4.out Y1 (layBoolS.below H4.out BY.out))
  go_wp2_with fail
  refine (K4.out).mono ?_
  rintro e Y2 ⟨⟨t4, rfl, rfl | ⟨u4, w4, F4⟩⟩, hb⟩
  · replace BY := Lib.hid (BY.out.trans (hb.mono BY.out.size))
    clear hb
    go_wp2_with fail
    go_ret
    exact ⟨⟨_, rfl, .inl rfl⟩, BY.out⟩
  replace F4 := Lib.hid F4
  replace BY := Lib.hid (BY.out.trans (hb.mono BY.out.size))
  have g4 : ¬ (t4 < 0) := by omega
  clear hb c4 K4
  go_wp2_with fail
  go_ret
  exact ⟨⟨_, rfl, .inr ⟨by omega, by omega, F3.out, F4.out⟩⟩, BY.out⟩
set_option maxRecDepth 100000 in
set_option maxHeartbeats 1600000 in
theorem szHeldS_any (v : Value) (xs : List HeldD) (left : Int) (h0 : 0 ≤ left) (h1 : left ≤ 1048576) (hR : RoomHeldS xs) (w : World) (h : layHeldS.rd w [v] xs) :
    Calls Try.prog 17 #[v, .int .i64 left] w fun e w' => SzEnd (FitsHeldS xs) left e ∧ Below w.heap.size w w' := by
  obtain ⟨ao, cp, rfl⟩ := rows_form h
  have HR := Lib.hid h
  have HRM := Lib.hid hR.2
  have hl := hR.1
  have KS := Lib.hid szHeld_any
  clear h hR
  by_cases hlen : left < (xs.length : Int)
  · have h2 : left - (xs.length : Int) < 0 := by omega
    go_enter Try.func17, Try.ntmps17
    go_wp2_with fail
    go_ret
    exact ⟨⟨_, rfl, .inl rfl⟩, Below.refl _ _⟩
  have h2 : ¬ (left - (xs.length : Int) < 0) := by omega
  go_enter Try.func17, Try.ntmps17
  go_wp2_with fail
  go_loopw [1, 5] (fun q c wr => ∃ (j : Nat) (r : Int), j ≤ xs.length ∧ c = .int .i64 j ∧ q = .int .i64 r ∧ 0 ≤ r ∧ r + (xs.length : Int) + (partsN (xs.take j) : Int) ≤ left ∧ Hid (∀ x ∈ xs.take j, FitsHeld x) ∧ Below w.heap.size w wr) (fun _ c _ => xs.length - (intOf c).toNat)
  case atStart => exact ⟨0, _, Nat.zero_le _, rfl, rfl, by omega, by simp [partsN], Lib.hid (by simp), Below.refl _ _⟩
  case round =>
    obtain ⟨j, r, hj, rfl, rfl, hr0, hr1, HA, hbr⟩ := hrel
    have HBR := Lib.hid hbr
    by_cases hlt : j < xs.length
    · have hlt' : (j : Int) < (xs.length : Int) := by omega
      have hx := List.getElem?_eq_getElem hlt
      have hsz := HRM.out _ (List.getElem_mem hlt)
      have HNX : Hid (FitsHeld xs[j] → ∀ x ∈ xs.take (j + 1), FitsHeld x) := Lib.hid (fun hf x hx => by
        rw [List.take_add_one, List.getElem?_eq_getElem hlt] at hx
        rcases List.mem_append.1 hx with hx | hx
        · exact HA.out x hx
        · have h9 : x = xs[j] := by simpa using hx
          rw [h9]; exact hf)
      obtain ⟨g, off, cs, rfl, hg, hr, hc⟩ := rows_elem (layHeldS.below HR.out hbr) j _ hx
      have hpn : partsN (xs.take (j + 1)) = partsN (xs.take j) + (xs[j].2.2.2.1.length + xs[j].2.2.2.2.1.length) := by
        rw [List.take_add_one, List.getElem?_eq_getElem hlt, partsN_append]
        simp [partsN]
      generalize xs[j] = x at hr hsz HNX hpn
      obtain ⟨v3, v4, rfl, h3, h4⟩ := layHeld_rd.1 hr
      obtain ⟨x0, x1, x2, r3, r4, x5⟩ := x
      obtain ⟨m3, m4⟩ := hsz
      simp only at h3 h4 m3 m4 hpn
      have HPN := Lib.hid hpn
      clear hpn
      obtain ⟨pa, pc, rfl⟩ := rows_form h3
      obtain ⟨pb, pd, rfl⟩ := rows_form h4
      have c0 : wr.cell? ⟨g, off + j * 6, none⟩ = some (.int .i64 x0) := hc 0 _ rfl
      have c1 : wr.cell? ⟨g, off + j * 6 + 1, none⟩ = some (.int .i64 x1) := hc 1 _ rfl
      have c2 : wr.cell? ⟨g, off + j * 6 + 2, none⟩ = some (.int .i64 x2) := hc 2 _ rfl
      have c3 : wr.cell? ⟨g, off + j * 6 + 3, none⟩ = some (.slice pa r3.length pc) := hc 3 _ rfl
      have c4 : wr.cell? ⟨g, off + j * 6 + 4, none⟩ = some (.slice pb r4.length pd) := hc 4 _ rfl
      have c5 : wr.cell? ⟨g, off + j * 6 + 5, none⟩ = some (.int .i64 x5) := hc 5 _ rfl
      have K := Lib.hid (KS.out x0 x1 x2 _ r3 _ r4 x5 r hr0 (by omega) m3 m4 wr h3 h4)
      clear hc hx hbr hr h3 h4 m3 m4
      go_wp2_with fail
      refine (K.out).mono ?_
      rintro e Y1 ⟨⟨t3, rfl, rfl | ⟨u3, w3, F3⟩⟩, hb⟩
      · replace HBR := Lib.hid (HBR.out.trans (hb.mono HBR.out.size))
        clear hb
        go_wp2_with fail
        go_ret
        exact ⟨⟨_, rfl, .inl rfl⟩, HBR.out⟩
      have g3 : ¬ (t3 < 0) := by omega
      have HN2 := Lib.hid (HNX.out F3)
      replace HBR := Lib.hid (HBR.out.trans (hb.mono HBR.out.size))
      clear hb K F3 c0 c1 c2 c3 c4 c5
      go_wp2_with fail
      go_roundw
      case rel => exact ⟨j + 1, _, by omega, by go_num, rfl, u3, by rw [HPN.out]; push_cast; omega, HN2, HBR.out⟩
      case measure => simp [intOf]; omega
    · have hlt' : ¬ ((j : Int) < (xs.length : Int)) := by omega
      obtain rfl : j = xs.length := by omega
      rw [List.take_length] at HA hr1
      go_wp2_with fail
      go_ret
      exact ⟨⟨_, rfl, .inr ⟨hr0, by omega, by omega, HA.out, by omega⟩⟩, HBR.out⟩

end Go.Proofs.Ytfhlpgngeiploab
namespace Go.Proofs.Ytfhlpgngeiploab
open Go.RowKit

variable {α : Type}
theorem rows_set {e : TypeId} {A : Lay α} {w : World} {b : Nat} {fp : List Nat} {v : Value} {X : List α} {x : α} {Y : List α} (h : (Lay.rows e A).own w b fp [v] (X ++ x :: Y)) (hd : fp.Nodup) (f : List Nat) (c' : List Value) (x' : α) (hx : A.own w b f c' x') (hf : f.Nodup) (hn : ∀ i ∈ f, i ∉ fp) :
    ∃ g cap, v = .slice (some ⟨g, 0, none⟩) (X ++ x :: Y).length cap ∧ b ≤ g ∧ g < w.heap.size ∧ (∃ c f2, A.own w b f2 c x ∧ ∀ t u, c[t]? = some u → w.cell? ⟨g, X.length * A.k + t, none⟩ = some u ∧ w.frozen? ⟨g, X.length * A.k + t, none⟩ = false) ∧
      ∃ fp', fp'.Nodup ∧ (∀ i ∈ fp', i ∈ fp ∨ i ∈ f) ∧ (Lay.rows e A).own (setCells w g (X.length * A.k) c') b fp' [v] (X ++ x' :: Y) ∧ Chg [g] w (setCells w g (X.length * A.k) c') := by
  obtain ⟨g, cap, f1, f2, f3, u1, c, u3, rfl, rfl, Z⟩ := rows_open h hd
  have hcl := A.len (A.read Z.mid)
  have hcl' := A.len (A.read hx)
  have hd0 := List.nodup_cons.1 hd
  have hd1 := List.nodup_append.1 hd0.2
  have hd2 := List.nodup_append.1 hd1.2.1
  have hnd : (g :: (f1 ++ (f ++ f3))).Nodup := by
    refine List.nodup_cons.2 ⟨?_, List.nodup_append.2 ⟨hd1.1, List.nodup_append.2 ⟨hf, hd2.2.1, ?_⟩, ?_⟩⟩
    · intro hm
      rcases List.mem_append.1 hm with hm | hm
      · exact hd0.1 (by simp [hm])
      · rcases List.mem_append.1 hm with hm | hm
        · exact hn g hm (by simp)
        · exact hd0.1 (by simp [hm])
    · intro a ha q hq e
      exact hn a ha (by rw [e]; simp [hq])
    · intro a ha q hq e
      rcases List.mem_append.1 hq with hq | hq
      · exact hn q hq (by rw [← e]; simp [ha])
      · exact hd1.2.2 a ha q (by simp [hq]) e
  have hs := Z.store c' 0 (by omega) f x' (by rw [setL_all c c' (by omega)]; exact hx) hnd
  refine ⟨g, cap, rfl, Z.lt.1, Z.lt.2, ⟨c, f2, Z.mid, fun t u hu => Z.cell t u hu⟩, _, hs.1.dup, ?_, ?_, hs.2⟩
  · intro i hi
    simp at hi
    rcases hi with rfl | hi | hi | hi
    · exact .inl (by simp)
    · exact .inl (by simp [hi])
    · exact .inr hi
    · exact .inl (by simp [hi])
  · have h3 := hs.1.shut
    have e4 : (X ++ x' :: Y).length = (X ++ x :: Y).length := by simp
    rw [e4] at h3
    exact h3
theorem none_rows {e : TypeId} {A : Lay α} (w : World) (b : Nat) : (Lay.rows e A).own w b [] [.slice none 0 0] [] := ⟨_, rfl, .inl ⟨rfl, rfl, rfl⟩⟩

end Go.Proofs.Ytfhlpgngeiploab

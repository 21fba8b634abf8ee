/-
  The given expansions.
-/
import Derived.Test.YtogmmilfdolpnakDoorMacSpec
namespace Go.Proofs.YtogmmilfdolpnakDoor
open Go.RowKit

set_option maxRecDepth 100000 in
set_option maxHeartbeats 400000 in
theorem specByte_any (i : Nat) (h : i < 256) (w : World) :
    Calls Tryd.prog 34 #[.int .i64 i] w fun e w' => e = .returned (.string ⟨#[UInt8.ofNat i]⟩) ∧ Below w.heap.size w w' := by
  have h1 : (i : Int) % 256 = (i : Int) := by omega
  have h2 : (i : Int).tmod 256 = (i : Int) := by rw [Int.tmod_eq_emod_of_nonneg (by omega)]; exact h1
  have h3 : ¬ ((i : Int) < 0) := by omega
  obtain ⟨b, hb, BB⟩ : ∃ b : UInt8, (i : Int) = (b.toNat : Int) ∧ Hid (b = UInt8.ofNat i) := ⟨UInt8.ofNat i, by rw [UInt8.toNat_ofNat']; omega, rfl⟩
  have hr := run_string_one (P := Tryd.prog) w 51 9 5 Tryd.underlying51 Tryd.underlying5 Tryd.underlying9 b
  rw [← hb] at hr
  have HB := Lib.hid hb
  rw [← BB.out]
  clear hb
  go_enter Tryd.func34, Tryd.ntmps34
  go_wp2_with fail
  go_ret
  exact ⟨rfl, (Below.refl _ _).alloc (Nat.le_refl _) _⟩

/-- A text's bytes as a row of their own. -/
theorem bytes_row (w : World) (t : ByteArray) : ∃ (cp : Nat) (w' : World), (convert 9 51 (.string t)).run Tryd.prog w = .ok (.slice (some ⟨w.heap.size, 0, none⟩) t.size cp) w' ∧ w.heap.size < w'.heap.size ∧ Below w.heap.size w w' ∧
    (∀ j, j < t.size → w'.cell? ⟨w.heap.size, j, none⟩ = some (.int .u8 (t.data.toList.getD j 0).toNat)) ∧ (∀ j, j < t.size → w'.frozen? ⟨w.heap.size, j, none⟩ = false) := by
  refine ⟨_, _, Lib.run_convert_string_bytes w 9 51 5 t Tryd.underlying9 Tryd.underlying51 Tryd.underlying5, by rw [Lib.bytesWorld_size]; omega, ⟨rfl, rfl, rfl, by rw [Lib.bytesWorld_size]; omega, fun k hk => Lib.bytesWorld_at_old w _ t k hk⟩, fun j hj => Lib.bytesWorld_cell w _ t j hj, fun j hj => ?_⟩
  have h := Lib.bytesWorld_at_new w 5 t
  have hz : t.size ≤ (Lib.bytesCells w 5 t).size := by simp [Lib.bytesCells]
  unfold World.frozen?
  rw [h]
  simp
  omega

theorem OwnB.after {w w' : World} {base : Nat} {e : TypeId} {v : Value} {xs : List UInt8} (h : OwnB w base e v xs) (hb : Below w.heap.size w w') : OwnB w' base e v xs := by
  refine ⟨h.1, ?_⟩
  rcases h.2 with hn | ⟨g, cap, cur, hv, hb', hg, rest⟩
  · exact .inl hn
  · exact .inr ⟨g, cap, cur, hv, hb', by rw [hb.block g (lt_of_block hg)]; exact hg, rest⟩
/-- 'out = append(out, l...)': out a row of bytes of the call's own. -/
theorem wpList_joinB {P : Program} (w : World) {ops : Array Oper} {rest : List Oper} {o : Oper} {a : Act} {Q : Exit → Act → World → Prop} (hgd : o.guard = none) (s x : Operand) (t : TypeId)
    (ho : o.op = .call { callee := .builtin .append, args := #[s, x], argTypes := #[t, t] })
    (base : Nat) (e : TypeId) (i : TypeInfo) (ht : P.underlying t = some (.slice e)) (hi : P.info? e = some i) (hz : i.zero = some (.int .u8 0))
    (hsize : i.size = 1) (hby : i.bytes = 1) (v : Value) (xs : List UInt8) (hs : a.eval s = v) (hown : OwnB w base e v xs)
    (g m c : Nat) (l : List UInt8) (hx : a.eval x = .slice (some ⟨g, 0, none⟩) m c) (hm : l.length = m) (hc : ∀ j, j < m → w.cell? ⟨g, j, none⟩ = some (.int .u8 (l.getD j 0).toNat))
    (hlen : xs.length + m ≤ 1000000000) (hbase : base ≤ w.heap.size)
    (h : ∀ v' w', OwnB w' base e v' (xs ++ l) → Below base w w' → wpList P ops Q rest (a.put o.dst v') w') :
    wpList P ops Q (o :: rest) a w := by
  subst hm
  refine wpList_append_own w hgd s x t ho base e i (.int .u8 0) 1 1 ht hi hz hsize hby rfl (by decide) v xs.length (Lib.byteCells xs) hs hown ⟨g, 0, none⟩ l.length c (Lib.byteCells l) hx (by simp [Lib.byteCells]) (fun j u hj => ?_) (by intro u hu; simp [Lib.byteCells] at hu; obtain ⟨b, _, rfl⟩ := hu; rfl) (by unfold maxLen; omega) (by omega) hbase ?_
  · have hjl : j < l.length := by
      rcases Nat.lt_or_ge j l.length with h | h
      · exact h
      · rw [List.getElem?_eq_none (by simpa [Lib.byteCells] using h)] at hj
        cases hj
    have hadd : (⟨g, 0, none⟩ : Addr).add j = ⟨g, j, none⟩ := by unfold Addr.add; split <;> simp_all
    rw [hadd, hc j hjl, ← hj]
    simp [Lib.byteCells, hjl]
  · intro v' w' h1 h2 _
    refine h v' w' ?_ ((Below.refl base w).grown h2 hbase (fun k hk => (World.ownsRow.lt hown k hk).1))
    unfold OwnB
    rw [List.length_append, Lib.byteCells_append]
    exact h1

/-- The front of a row of one's own, read as a text. -/
theorem own_front {P : Program} (w : World) (src dst e : TypeId) (hs : P.underlying src = some (.slice e)) (he : P.underlying e = some (.int .u8)) (hd : P.underlying dst = some .string)
    {base : Nat} {v : Value} (l : List UInt8) (hown0 : OwnB w base e v l) (n : Nat) (hn : n ≤ l.length) :
    ∃ ao cap, v = .slice ao l.length cap ∧ n ≤ cap ∧ (convert src dst (.slice ao n cap)).run P w = .ok (.string ⟨(l.take n).toArray⟩) w := by
  have hown : w.ownsRow base e 1 v l.length (Lib.byteCells l) := hown0
  rcases hown.2 with ⟨rfl, h0⟩ | ⟨g, cap, cur, rfl, _, _, hnc, _, _, _⟩
  · obtain rfl : l = [] := List.length_eq_zero_iff.1 h0
    obtain rfl : n = 0 := by simpa using hn
    refine ⟨none, 0, rfl, Nat.le_refl _, ?_⟩
    rw [run_convert_bytes_string w src dst e none 0 0 hs he hd]
    rfl
  · refine ⟨_, cap, rfl, by omega, ?_⟩
    have hl : (l.take n).length = n := by rw [List.length_take]; omega
    have h := run_convert_bytes_back w src dst e ⟨g, 0, none⟩ cap (l.take n) hs he hd (fun j hj => hown.cells (g := g) rfl j _ (by
      rw [hl] at hj
      unfold Lib.byteCells
      rw [List.getElem?_map, List.getElem_take, List.getElem?_eq_getElem (by omega)]
      rfl))
    rw [hl] at h
    exact h

set_option maxRecDepth 100000 in
set_option maxHeartbeats 1600000 in
theorem specExpand_yes (key info : ByteArray) (n : Nat) (hn : n ≤ 8160) (hk : key.size ≤ 300000000) (hi : info.size ≤ 300000000) (w : World) :
    Calls Tryd.prog 16 #[.string key, .string info, .int .i64 n] w fun e w' => e = .returned (.tuple #[.string ⟨(expandP key info n).toArray⟩, .bool true]) ∧ Below w.heap.size w w' := by
  obtain ⟨i0, hif, hz0, hz1, hz2⟩ := info_parts infoByteS
  have H0 := Lib.hid (inRange_yes (n : Int) 0 8160 (by omega) (by omega))
  have hO := Lib.hid (OwnB.lit w w.heap.size 5 (Nat.le_refl _))
  have hB := Lib.hid ((Below.refl w.heap.size w).alloc (Nat.le_refl _) (.cells #[] 5))
  go_enter Tryd.func16, Tryd.ntmps16
  go_wp2_with fail
  refine (H0.out _).mono ?_
  rintro e w1 ⟨rfl, rfl⟩
  go_wp2_with fail
  go_loopw [8, 9, 10] (fun v t i wr => ∃ j : Nat, 32 * j < n + 32 ∧ i = .int .i64 ((j + 1 : Nat) : Int) ∧ t = .string (tUp key info j) ∧ OwnB wr w1.heap.size 5 v (outUp key info j) ∧ Below w1.heap.size w1 wr) (fun _ _ i _ => 300 - (intOf i).toNat)
  case atStart =>
    exact ⟨0, by omega, rfl, rfl, hO.out, hB.out⟩
  case round =>
    obtain ⟨j, hj, rfl, rfl, hown, hnx⟩ := hrel
    have hlen := outUp_length key info j
    by_cases hlt : 32 * j < n
    · obtain ⟨ao, cap, hv, _⟩ := hown.form
      subst hv
      rw [hlen] at hown ⊢
      have hlt' : ((32 * j : Nat) : Int) < (n : Int) := by omega
      obtain ⟨m, M⟩ : ∃ m, Hid (m = 32 * j) := ⟨_, rfl⟩
      rw [← M.out] at hown hlt' ⊢
      have HO := Lib.hid hown
      have HN := Lib.hid hnx
      have ht := tUp_few key info j
      have hj1 : j + 1 < 256 := by omega
      have H1 := Lib.hid (specByte_any (j + 1) hj1)
      have z1 : (⟨#[UInt8.ofNat (j + 1)]⟩ : ByteArray).size = 1 := rfl
      obtain ⟨bt, BT⟩ : ∃ b : ByteArray, Hid (b = ⟨#[UInt8.ofNat (j + 1)]⟩) := ⟨_, rfl⟩
      rw [← BT.out] at H1 z1
      obtain ⟨tj, TJ⟩ : ∃ b : ByteArray, Hid (b = tUp key info j) := ⟨_, rfl⟩
      have h2 := specMacOf_any key (tj ++ info ++ bt) (by omega) (by rw [ByteArray.size_append, ByteArray.size_append, z1, TJ.out]; omega)
      have hE : Hid (macP key (tj ++ info ++ bt) = tUp key info (j + 1)) := by show _ = _; rw [BT.out, TJ.out]; rfl
      rw [hE.out] at h2
      have H2 := Lib.hid h2
      rw [← TJ.out] at ht ⊢
      have s1 : ¬ (9223372036854775807 < tj.size + info.size) := by omega
      have s2 : ¬ (9223372036854775807 < tj.size + info.size + bt.size) := by omega
      clear h2 hown hnx
      go_wp2_with fail
      refine (H1.out _).mono ?_
      rintro e w2 ⟨rfl, hb2⟩
      have HO2 := Lib.hid (HO.out.after hb2)
      have HN2 := Lib.hid (HN.out.trans (hb2.mono HN.out.size))
      clear hb2
      go_wp2_with fail
      refine (H2.out _).mono ?_
      rintro e w3 ⟨rfl, hb3⟩
      have hO3 := HO2.out.after hb3
      have hN3 := HN2.out.trans (hb3.mono HN2.out.size)
      have hts := tUp_size key info j
      obtain ⟨tn, TN⟩ : ∃ b : ByteArray, Hid (b = tUp key info (j + 1)) := ⟨_, rfl⟩
      rw [← TN.out] at hts ⊢
      obtain ⟨cp, w4, hcv, _, hb4, hcl4, _⟩ := bytes_row w3 tn
      have hO4 := hO3.after hb4
      have hN4 := hN3.trans (hb4.mono hN3.size)
      have hsz4 := hN4.size
      have HN4 := Lib.hid hN4
      have hl4 : tn.data.toList.length = 32 := by have h : tn.data.toList.length = tn.size := by simp
                                                  omega
      have hcl5 : ∀ j, j < 32 → w4.cell? ⟨w3.heap.size, j, none⟩ = some (.int .u8 (tn.data.toList.getD j 0).toNat) := fun j hj => hcl4 j (by omega)
      have HL := Lib.hid (And.intro hl4 hcl5)
      clear hb3 hb4 hO3 hN3 hN4 hl4 hcl4 hcl5
      go_wp2_with (at_builtin; refine wpList_joinB _ rfl _ _ 51 rfl w1.heap.size 5 i0 Tryd.underlying51 hif hz0 hz1 hz2 _ _ rfl hO4 w3.heap.size 32 cp tn.data.toList rfl HL.out.1 HL.out.2 (by rw [hlen]; omega) hsz4 ?_)
      intro v5 w5 hO5 hb5
      have HO5 := Lib.hid hO5
      have HN5 := Lib.hid (HN4.out.trans hb5)
      clear hO5 hb5 hcv hO4
      go_wp2_with fail
      go_roundw
      case rel =>
        refine ⟨j + 1, by omega, by go_num, by rw [TN.out], ?_, HN5.out⟩
        have h5 := HO5.out
        rw [TN.out] at h5
        exact h5
      case measure => simp [intOf]; omega
    · have hjn : j = (n + 31) / 32 := by omega
      obtain ⟨ao, cap, hv, hcap, hrd⟩ := own_front (P := Tryd.prog) wr 51 9 5 Tryd.underlying51 Tryd.underlying5 Tryd.underlying9 _ hown n (by rw [hlen]; omega)
      subst hv
      have HN := Lib.hid hnx
      have HE : Hid ((outUp key info j).take n = expandP key info n) := by show _ = _; unfold expandP; rw [hjn]
      rw [HE.out] at hrd
      rw [hlen]
      have hnlt : ¬ (((32 * j : Nat) : Int) < (n : Int)) := by omega
      have hcap' : (n : Int) ≤ (cap : Int) := by omega
      clear hown hnx
      go_wp2_with fail
      go_ret2
      exact ⟨rfl, HN.out⟩

set_option maxRecDepth 100000 in
set_option maxHeartbeats 400000 in
theorem specExpand_no (key info : ByteArray) (n : Int) (hn : n < 0 ∨ 8160 < n) (w : World) :
    Calls Tryd.prog 16 #[.string key, .string info, .int .i64 n] w fun e w' => e = .returned (.tuple #[.string ⟨#[]⟩, .bool false]) ∧ Below w.heap.size w w' := by
  have H0 := Lib.hid (inRange_no n 0 8160 hn)
  clear hn
  go_enter Tryd.func16, Tryd.ntmps16
  go_wp2_with fail
  refine (H0.out _).mono ?_
  rintro e w1 ⟨rfl, rfl⟩
  go_wp2_with fail
  go_ret2
  exact ⟨rfl, Below.refl _ _⟩

end Go.Proofs.YtogmmilfdolpnakDoor

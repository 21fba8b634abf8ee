/-
  The program's AddrText and PrefixText.
-/
import Derived.Test.YtmmippdommemmanDoorPartImpl
import Derived.Test.YtmmippdommemmanDoorAddrImpl
import Derived.Test.YtmmippdommemmanDoorKitS
import Derived.Test.YtmmippdommemmanDoorNumText
import Derived.Lib.ConvBytes
import Derived.Lib.Join
namespace Go.Proofs.YtmmippdommemmanDoor
open Go.RowKit

/-- What the library's joining gives besides. -/
structure JoinGives (L : World → Prop) : Prop extends DecGives L where
  join : ∀ (g c : Nat) (xs : List ByteArray), xs.length ≤ c → xs.length ≤ 1000 → (Lib.join (xs.map (·.data.toList)) [46]).length ≤ 1048576 → ∀ X : World, (∀ (j : Nat) x, xs[j]? = some x → X.cell? ⟨g, j, none⟩ = some (.string x)) → g < X.heap.size →
    Calls Tryd.prog 18 #[.slice (some ⟨g, 0, none⟩) xs.length c, .string ⟨#[46]⟩] X fun e X' => e = .returned (.string ⟨(Lib.join (xs.map (·.data.toList)) [46]).toArray⟩) ∧ Below X.heap.size X X'

/-- '[]byte(t)': a row of its own that holds t's bytes. -/
theorem bytes_row (w : World) (t : ByteArray) : ∃ (cp : Nat) (w' : World), (convert 9 35 (.string t)).run Tryd.prog w = .ok (.slice (some ⟨w.heap.size, 0, none⟩) t.size cp) w' ∧ w.heap.size < w'.heap.size ∧ Below w.heap.size w w' ∧
    (∀ j, j < t.size → w'.cell? ⟨w.heap.size, j, none⟩ = some (.int .u8 (t.data.toList.getD j 0).toNat)) :=
  ⟨_, _, Lib.run_convert_string_bytes w 9 35 5 t Tryd.underlying9 Tryd.underlying35 Tryd.underlying5, by rw [Lib.bytesWorld_size]; omega, ⟨rfl, rfl, rfl, by rw [Lib.bytesWorld_size]; omega, fun k hk => Lib.bytesWorld_at_old w _ t k hk⟩, fun j hj => Lib.bytesWorld_cell w _ t j hj⟩
/-- The four bytes of an address as numbers. -/
def quad (a : Nat) : List Nat := [a / 16777216, a / 65536 % 256, a / 256 % 256, a % 256]
theorem quad_le (a : Nat) (ha : a ≤ 4294967295) (k : Nat) (hk : k < 4) : (quad a).getD k 0 ≤ 255 := by
  match k, hk with
  | 0, _ => show a / 16777216 ≤ 255; omega
  | 1, _ => show a / 65536 % 256 ≤ 255; omega
  | 2, _ => show a / 256 % 256 ≤ 255; omega
  | 3, _ => show a % 256 ≤ 255; omega
theorem four_quad (a : Nat) (ha : a ≤ 4294967295) (k : Nat) (hk : k < 4) : ((four a).getD k 0).toNat = (quad a).getD k 0 := by
  have h := quad_le a ha k hk
  match k, hk with
  | 0, _ => simp [four, quad] at h ⊢; omega
  | 1, _ => simp [four, quad]
  | 2, _ => simp [four, quad]
  | 3, _ => simp [four, quad]
def quadD (a : Nat) : List (List UInt8) := (quad a).map Lib.decDigits
theorem quadD_length (a : Nat) : (quadD a).length = 4 := rfl
theorem quadD_take (a k : Nat) (hk : k < 4) : (quadD a).take (k + 1) = (quadD a).take k ++ [Lib.decDigits ((quad a).getD k 0)] := by
  match k, hk with
  | 0, _ => rfl
  | 1, _ => rfl
  | 2, _ => rfl
  | 3, _ => rfl
theorem quadD_join (a : Nat) : Lib.join (quadD a) [46] = addrL a := by
  unfold addrL
  rw [joinAt_four]
  simp [Lib.join, quadD, quad, List.intercalate]
theorem infoTextA : (Tryd.prog.info? 9).map (fun i => (i.zero, i.size, i.bytes)) = some (some (.string ByteArray.empty), 1, 16) := by kernel_rfl

set_option maxRecDepth 100000 in
set_option maxHeartbeats 800000 in
theorem implAddrText_yesL (L : World → Prop) (hL : JoinGives L) (a : Nat) (ha : a ≤ 4294967295) (w : World) (hw : L w) :
    Calls Tryd.prog 7 #[.int .i64 a] w fun e w' => e = .returned (.string (addrP a)) ∧ Below w.heap.size w w' := by
  obtain ⟨i0, hi, hz0, hz1, hz2⟩ := info_parts infoTextA
  have H1 := Lib.hid (implAddrOk_yes a (by omega) (by omega))
  have H2 := Lib.hid (implNumberText_yes a (by omega))
  have HL := Lib.hid hL
  have HW := Lib.hid hw
  have HT : Hid (∀ k, k < 4 → ((⟨(four a).toArray⟩ : ByteArray).data.toList.getD k 0).toNat = (quad a).getD k 0) := fun k hk => four_quad a ha k hk
  have HZ : Hid ((⟨(four a).toArray⟩ : ByteArray).size = 4) := rfl
  generalize (⟨(four a).toArray⟩ : ByteArray) = t at *
  clear hL hw
  go_enter Tryd.func7, Tryd.ntmps7
  go_wp2_with fail
  refine (H1.out _).mono ?_
  rintro e w1 ⟨rfl, hb1⟩
  have HB1 := Lib.hid hb1
  have hs1 := hb1.size
  clear hb1
  go_wp2_with (at_make; refine wpList_make_own _ rfl _ _ 34 rfl w.heap.size 9 i0 (.string ByteArray.empty) 1 Tryd.underlying34 hi hz0 hz1 .i64 .i64 _ 4 rfl rfl rfl (by rw [hz2]; decide) (by unfold maxLen; decide) hs1 ?_)
  intro w2 hown2 hgr2
  have hb2 : Below w1.heap.size w1 w2 := (Below.refl _ _).grown hgr2 (Nat.le_refl _) (fun k hk => by cases hk)
  have HB2 := Lib.hid (HB1.out.trans (hb2.mono hs1))
  have hlt2 : w1.heap.size < w2.heap.size := by
    rcases hown2.2 with ⟨h, _⟩ | ⟨g, cap, cur, h, _, hh, _⟩
    · simp at h
    · simp only [Value.slice.injEq, Option.some.injEq, Addr.mk.injEq, and_true] at h
      rw [h.1]
      exact lt_of_block hh
  have HOWN2 := Lib.hid hown2
  clear hgr2 hb2 hown2
  generalize w1.heap.size = g at *
  go_wp2_with fail
  refine (H2.out _).mono ?_
  rintro e w3 ⟨rfl, hb3⟩
  have HB3 := Lib.hid (HB2.out.trans (hb3.mono HB2.out.size))
  have HOWN3 : Hid (w3.ownsRow w.heap.size 9 1 (.slice (some ⟨g, 0, none⟩) 0 4) 0 []) := by
    refine ⟨HOWN2.out.1, ?_⟩
    rcases HOWN2.out.2 with h | ⟨g', cap, cur, h1, h2, h3, h4⟩
    · exact .inl h
    · exact .inr ⟨g', cap, cur, h1, h2, by rw [hb3.block g' (lt_of_block h3)]; exact h3, h4⟩
  have hs3 := hb3.size
  obtain ⟨cp, w4, hcv, hlt4, hb4, hcell⟩ := bytes_row w3 t
  have HB4 := Lib.hid (HB3.out.trans (hb4.mono HB3.out.size))
  have HOWN4 : Hid (w4.ownsRow w.heap.size 9 1 (.slice (some ⟨g, 0, none⟩) 0 4) 0 []) := by
    refine ⟨HOWN3.out.1, ?_⟩
    rcases HOWN3.out.2 with h | ⟨g', cap, cur, h1, h2, h3, h4⟩
    · exact .inl h
    · exact .inr ⟨g', cap, cur, h1, h2, by rw [hb4.block g' (lt_of_block h3)]; exact h3, h4⟩
  have HC : Hid (∀ j, j < 4 → w4.cell? ⟨w3.heap.size, j, none⟩ = some (.int .u8 ((quad a).getD j 0 : Nat))) := fun j hj => by
    rw [← HT.out j hj]
    exact hcell j (by rw [HZ.out]; exact hj)
  have hgB : g < w3.heap.size := by omega
  have hz4 : (t.size : Int) = 4 := by rw [HZ.out]; rfl
  have hz4n := HZ.out
  generalize w3.heap.size = B at *
  clear hb3 hb4 hcell HOWN2 HOWN3 HB2 HB3
  rw [hz4n] at hcv
  go_wp2_with fail
  go_loopw [3, 14] (fun v c wr => ∃ k : Nat, k ≤ 4 ∧ c = .int .i64 k ∧ v = .slice (some ⟨g, 0, none⟩) k 4 ∧ Hid (wr.ownsRow w.heap.size 9 1 (.slice (some ⟨g, 0, none⟩) k 4) k (strs ((quadD a).take k))) ∧ Hid (Below w.heap.size w wr) ∧ Hid (∀ j, j < 4 → wr.cell? ⟨B, j, none⟩ = some (.int .u8 ((quad a).getD j 0 : Nat))) ∧ B < wr.heap.size) (fun _ c _ => 4 - (intOf c).toNat)
  case atStart => exact ⟨0, by omega, rfl, rfl, HOWN4, HB4, HC, hlt4⟩
  case round =>
    obtain ⟨k, hk, rfl, rfl, HO, HB, HCC, hBl⟩ := hrel
    by_cases hlt : k < 4
    · have hlt' : (k : Int) < 4 := by omega
      have hc0 := HCC.out k hlt
      have hq := quad_le a ha k hlt
      have HD := Lib.hid (fun X hX => HL.out.dec ((quad a).getD k 0) (by omega) X hX)
      have HTK := Lib.hid (quadD_take a k hlt)
      have HWR := Lib.hid (HL.out.stays _ _ HW.out HB.out)
      generalize (quad a).getD k 0 = q at *
      have hwq : IntKind.i64.wrap (q : Int) = (q : Int) := by rw [IntKind.wrap_i64]; omega
      go_wp2_with fail
      refine (HD.out _ HWR.out).mono ?_
      rintro e w5 ⟨rfl, hb5⟩
      have HO5 : Hid (w5.ownsRow w.heap.size 9 1 (.slice (some ⟨g, 0, none⟩) k 4) k (strs ((quadD a).take k))) := by
        refine ⟨HO.out.1, ?_⟩
        rcases HO.out.2 with h | ⟨g', cap, cur, h1, h2, h3, h4⟩
        · exact .inl h
        · exact .inr ⟨g', cap, cur, h1, h2, by rw [hb5.block g' (lt_of_block h3)]; exact h3, h4⟩
      have HC5 : Hid (∀ j, j < 4 → w5.cell? ⟨B, j, none⟩ = some (.int .u8 ((quad a).getD j 0 : Nat))) := fun j hj => by rw [hb5.cell (p := ⟨B, j, none⟩) hBl]; exact HCC.out j hj
      have HB5 := Lib.hid (HB.out.trans (hb5.mono HB.out.size))
      have hBl5 : B < w5.heap.size := Nat.lt_of_lt_of_le hBl hb5.size
      clear hb5
      go_wp2_with (at_builtin; refine wpList_append_fits (w5.alloc (.cells #[.string ⟨(Lib.decDigits q).toArray⟩] 9)) rfl _ _ 34 rfl w.heap.size 9 i0 1 Tryd.underlying34 hi hz1 g k 4 _ rfl (World.ownsRow.alloc HO5.out _) ⟨w5.heap.size, 0, none⟩ 1 1 [.string ⟨(Lib.decDigits q).toArray⟩] rfl rfl (by intro j u hj; match j, hj with | 0, hj => simp at hj; subst hj; simp [Addr.add]) (by intro u hu; simp at hu; subst hu; rfl) (by omega) ?_)
      intro w6 hown6 hgr6
      have HO6 : Hid (w6.ownsRow w.heap.size 9 1 (.slice (some ⟨g, 0, none⟩) (k + 1) 4) (k + 1) (strs ((quadD a).take (k + 1)))) := by
        have e : strs ((quadD a).take (k + 1)) = strs ((quadD a).take k) ++ [.string ⟨(Lib.decDigits q).toArray⟩] := by rw [HTK.out]; simp [strs]
        rw [e]
        exact hown6
      have HC6 : Hid (∀ j, j < 4 → w6.cell? ⟨B, j, none⟩ = some (.int .u8 ((quad a).getD j 0 : Nat))) := fun j hj => by
        refine hgr6.cell ?_ (by simp; omega)
        rw [World.cell?_alloc_old _ _ _ (Nat.ne_of_lt hBl5)]
        exact HC5.out j hj
      have hown := HO5.out
      have HB6 : Hid (Below w.heap.size w w6) := by
        refine (HB5.out.alloc HB5.out.size _).grown hgr6 ?_ ?_
        · have := HB5.out.size; simp; omega
        · intro k' hk'
          exact (World.ownsRow.lt hown k' hk').1
      have hBl6 : B < w6.heap.size := by
        have := hgr6.size
        simp at this
        omega
      clear hown hown6 hgr6
      go_wp2_with fail
      go_roundw
      case rel => exact ⟨k + 1, by omega, by go_num, rfl, HO6, HB6, HC6, hBl6⟩
      case measure => simp [intOf]; omega
    · have hk4 : k = 4 := by omega
      subst hk4
      have hown := HO.out
      have hlt' : ¬ (((4 : Nat) : Int) < 4) := by omega
      have HJ := HL.out.join g 4 ((quadD a).map fun l => ⟨l.toArray⟩) (by simp [quadD_length]) (by simp [quadD_length])
      have em : ((quadD a).map fun l => (⟨l.toArray⟩ : ByteArray)).map (·.data.toList) = quadD a := by simp [List.map_map, Function.comp_def]
      have el : ((quadD a).map fun l => (⟨l.toArray⟩ : ByteArray)).length = 4 := rfl
      rw [em, quadD_join, el] at HJ
      have hle := addrL_length a ha
      have HJ2 := Lib.hid (HJ (by omega) wr (fun j x hj => by
        have hj4 : j < 4 := by
          rcases Nat.lt_or_ge j 4 with h | h
          · exact h
          · rw [List.getElem?_eq_none (by rw [el]; exact h)] at hj
            cases hj
        have h := hown.cellAt j (by omega)
        rw [h]
        have e2 : (quadD a).take 4 = quadD a := rfl
        rw [e2]
        unfold strs
        rw [List.getElem?_map] at hj ⊢
        cases hq : (quadD a)[j]? with
        | none => rw [hq] at hj; cases hj
        | some l => rw [hq] at hj; simp at hj; rw [← hj]; rfl) (by omega))
      clear HJ em el hown
      go_wp2_with fail
      refine HJ2.out.mono ?_
      rintro e w7 ⟨rfl, hb7⟩
      go_wp2_with fail
      go_ret
      exact ⟨rfl, HB.out.trans (hb7.mono HB.out.size)⟩
theorem implAddrText_no (a : Int) (h : a < 0 ∨ 4294967295 < a) (w : World) :
    Calls Tryd.prog 7 #[.int .i64 a] w fun e w' => e = .returned (.string ⟨#[]⟩) ∧ Below w.heap.size w w' := by
  have H1 := Lib.hid (implAddrOk_no a h)
  clear h
  go_enter Tryd.func7, Tryd.ntmps7
  go_wp2_with fail
  refine (H1.out _).mono ?_
  rintro e w1 ⟨rfl, hb1⟩
  go_wp2_with fail
  go_ret
  exact ⟨rfl, hb1⟩


set_option maxRecDepth 100000 in
set_option maxHeartbeats 800000 in
theorem implPrefixText_no (a n : Int) (h : ¬ PrefOk a n) (w : World) :
    Calls Tryd.prog 12 #[.agg #[.int .i64 a, .int .i64 n]] w fun e w' => e = .returned (.tuple #[.string ⟨#[]⟩, .bool false]) ∧ Below w.heap.size w w' := by
  have P0 := Lib.hid (PV.new w PT (.int .i64 a) (.int .i64 n))
  have c0 := P0.out.v.c0
  have c1 := P0.out.v.c1
  have H1 := Lib.hid (implPrefixOk_no a n h)
  clear h
  go_enter Tryd.func12, Tryd.ntmps12
  go_wp2_with fail
  refine (H1.out _).mono ?_
  rintro e w1 ⟨rfl, hb1⟩
  have P1 := Lib.hid (P0.out.next hb1)
  clear hb1
  go_wp2_with fail
  go_ret2
  exact ⟨rfl, P1.out.below⟩

set_option maxRecDepth 100000 in
set_option maxHeartbeats 800000 in
theorem implPrefixText_yesL (L : World → Prop) (hL : JoinGives L) (a n : Nat) (h : PrefOk a n) (w : World) (hw : L w) :
    Calls Tryd.prog 12 #[.agg #[.int .i64 a, .int .i64 n]] w fun e w' => e = .returned (.tuple #[.string (prefP a n), .bool true]) ∧ Below w.heap.size w w' := by
  have ha : a ≤ 4294967295 := by have := h.1; omega
  have hn : n ≤ 32 := by have := h.2.1; omega
  have P0 := Lib.hid (PV.new w PT (.int .i64 a) (.int .i64 n))
  have c0 := P0.out.v.c0
  have c1 := P0.out.v.c1
  have H1 := Lib.hid (implPrefixOk_yes a n h)
  have h2 := implAddrText_yesL L hL a ha
  have h3 := hL.dec n (by omega)
  have z2 := addrP_size a ha
  have z3 := dec_few n (by omega)
  have hT : prefP a n = addrP a ++ (⟨#[47]⟩ : ByteArray) ++ ⟨(Lib.decDigits n).toArray⟩ := by rw [prefP_list, ByteArray.append_assoc]
  rw [hT]
  obtain ⟨t, T⟩ : ∃ t, Hid (t = addrP a) := ⟨_, rfl⟩
  obtain ⟨d, D⟩ : ∃ d : ByteArray, Hid (d = ⟨(Lib.decDigits n).toArray⟩) := ⟨_, rfl⟩
  rw [← T.out] at h2 z2 ⊢
  rw [← D.out] at h3 z3 ⊢
  have zs : (⟨#[47]⟩ : ByteArray).size = 1 := rfl
  have m1 : ∀ X, (Op.stringOp .add t (⟨#[47]⟩ : ByteArray)).run Tryd.prog X = .ok (.string (t ++ (⟨#[47]⟩ : ByteArray))) X := fun X => run_string_add_sum X t _ (by rw [zs]; omega)
  have m2 : ∀ X, (Op.stringOp .add (t ++ (⟨#[47]⟩ : ByteArray)) d).run Tryd.prog X = .ok (.string (t ++ (⟨#[47]⟩ : ByteArray) ++ d)) X := fun X => run_string_add_sum X _ d (by rw [ByteArray.size_append, zs]; omega)
  have K2 : Hid (∀ X, InV w a n X → Calls Tryd.prog 7 #[.int .i64 a] X fun e Y => e = .returned (.string t) ∧ InV w a n Y) := fun X hX => (h2 X (hL.stays _ _ hw hX.2.2.below)).mono (by rintro e Y ⟨rfl, hb⟩; exact ⟨rfl, (hX.2.2.next hb).two⟩)
  have K3 : Hid (∀ X, InV w a n X → Calls Tryd.prog 17 #[.int .i64 n] X fun e Y => e = .returned (.string d) ∧ InV w a n Y) := fun X hX => (h3 X (hL.stays _ _ hw hX.2.2.below)).mono (by rintro e Y ⟨rfl, hb⟩; exact ⟨rfl, (hX.2.2.next hb).two⟩)
  unfold InV at K2 K3
  clear h2 h3 h hT T D hL hw
  go_enter Tryd.func12, Tryd.ntmps12
  go_wp2_with fail
  refine (H1.out _).mono ?_
  rintro e w1 ⟨rfl, hb1⟩
  have P1 := Lib.hid (P0.out.next hb1)
  clear hb1 c0 c1
  go_wp2_with fail
  go_region_held3 (fun X => X.cell? ⟨w.heap.size, 0, none⟩ = some (.int .i64 a) ∧ X.cell? ⟨w.heap.size, 1, none⟩ = some (.int .i64 n) ∧ PV w PT (.int .i64 a) (.int .i64 n) X) (first | (with_reducible assumption) | (with_reducible exact (PV.drew P1.out).two)) (first | (go_at_call 7; refine (K2.out _ (by assumption)).mono ?_; rintro e v1 ⟨rfl, hS⟩) | (go_at_call 17; refine (K3.out _ (by assumption)).mono ?_; rintro e v1 ⟨rfl, hS⟩))
  all_goals
    go_wp2_with fail
    go_ret2
    exact ⟨rfl, hS.2.2.below⟩

end Go.Proofs.YtmmippdommemmanDoor

/-
  Options as functions that set a field: what makes them, what they set, and all of them set one behind another.
  Rows and variables of different types lie apart; no program is spoken of here.
-/
import Derived.Test.YtmgdhlodifkematDoorJ08
import Derived.Test.YtmgdhlodifkematDoorJ13
import Derived.Test.YtmgdhlodifkematDoorJ07
namespace Go.Proofs.YtmgdhlodifkematDoor
open Go.RowKit

/-- Values as they are, one in a cell. -/
def layRaw : Lay Value where
  k := 1
  rd := fun _ cs x => cs = [x] ∧ x.oneCell' = true
  own := fun _ _ fp cs x => fp = [] ∧ cs = [x] ∧ x.oneCell' = true
  mark := fun k x => (x, k)
  pos := by decide
  len := fun h => by rw [h.1]; rfl
  one := fun h u hu => by rw [h.1] at hu; simp at hu; subst hu; exact h.2
  below := fun h _ => h
  read := fun h => h.2
  blocks := fun h g hg => by rw [h.1] at hg; cases hg
  keep := fun h _ => h
  lower := fun h _ => h
abbrev OptFT : TypeId := 38
def layRawS : Lay (List Value) := .rows OptFT layRaw
theorem flatRaw : Flat layRaw := ⟨fun _ _ _ _ h => ⟨rfl, h⟩, fun _ _ _ _ _ h => h.1, fun _ _ _ _ h => h⟩
theorem raw_k (j : Nat) : j * layRaw.k = j := Nat.mul_one j
/-- A function with what it holds. -/
abbrev cloV (f q : Nat) : Value := .func (.func f) #[] #[.pointer (some ⟨q, 0, none⟩)]
/-- What a function sets. -/
def Clo (X : World) (c : Value) : Sets → Prop
  | .size n => ∃ q, c = cloV 40 q ∧ X.cell? ⟨q, 0, none⟩ = some (.int .i64 n)
  | .ways ws => ∃ q v, c = cloV 41 q ∧ X.cell? ⟨q, 0, none⟩ = some v ∧ layStringS.rd X [v] ws
  | .pieces b => ∃ q, c = cloV 43 q ∧ X.cell? ⟨q, 0, none⟩ = some (.bool b)
theorem Clo.below {X Y : World} {c : Value} {st : Sets} (h : Clo X c st) (hb : Below X.heap.size X Y) : Clo Y c st := by
  cases st with
  | size n =>
    obtain ⟨q, rfl, hq⟩ := h
    exact ⟨q, rfl, (hb.cell (p := ⟨q, 0, none⟩) (World.block_lt_of_cell? _ _ hq)).trans hq⟩
  | ways ws =>
    obtain ⟨q, v, rfl, hq, hr⟩ := h
    exact ⟨q, v, rfl, (hb.cell (p := ⟨q, 0, none⟩) (World.block_lt_of_cell? _ _ hq)).trans hq, layStringS.below hr hb⟩
  | pieces b =>
    obtain ⟨q, rfl, hq⟩ := h
    exact ⟨q, rfl, (hb.cell (p := ⟨q, 0, none⟩) (World.block_lt_of_cell? _ _ hq)).trans hq⟩
theorem Clo.one {X : World} {c : Value} {st : Sets} (h : Clo X c st) : c.oneCell' = true := by
  cases st with
  | size n => obtain ⟨q, rfl, _⟩ := h; rfl
  | ways ws => obtain ⟨q, v, rfl, _⟩ := h; rfl
  | pieces b => obtain ⟨q, rfl, _⟩ := h; rfl
/-- A function that sets this is handed back. -/
def SetEnd (st : Sets) (X : World) (e : Ending) (Y : World) : Prop := ∃ c, e = .returned c ∧ Clo Y c st ∧ Below X.heap.size X Y

theorem withSize_any (n : Int) (w : World) : Calls Tryd.prog 24 #[.int .i64 n] w (SetEnd (.size n) w) := by
  have A0 := Lib.hid (VarA.new w 3 #[.int .i64 n])
  have B0 := Lib.hid ((Below.refl w.heap.size w).alloc (Nat.le_refl _) (.cells #[.int .i64 n] 3))
  go_enter Tryd.func24, Tryd.ntmps24
  go_wp2_with fail
  go_ret
  exact ⟨_, rfl, ⟨_, rfl, A0.out.cell 0⟩, B0.out⟩
theorem withPieces_any (b : Bool) (w : World) : Calls Tryd.prog 26 #[.bool b] w (SetEnd (.pieces b) w) := by
  have A0 := Lib.hid (VarA.new w 4 #[.bool b])
  have B0 := Lib.hid ((Below.refl w.heap.size w).alloc (Nat.le_refl _) (.cells #[.bool b] 4))
  go_enter Tryd.func26, Tryd.ntmps26
  go_wp2_with fail
  go_ret
  exact ⟨_, rfl, ⟨_, rfl, A0.out.cell 0⟩, B0.out⟩
theorem withWays_any (v : Value) (ws : List ByteArray) (w : World) (h : layStringS.rd w [v] ws) : Calls Tryd.prog 25 #[v] w (SetEnd (.ways ws) w) := by
  obtain ⟨a, k, rfl⟩ := rows_form h
  have A0 := Lib.hid (VarA.new w 22 #[.slice a ws.length k])
  have B0 := Lib.hid ((Below.refl w.heap.size w).alloc (Nat.le_refl _) (.cells #[.slice a ws.length k] 22))
  have HR := Lib.hid (layStringS.below h B0.out)
  clear h
  go_enter Tryd.func25, Tryd.ntmps25
  go_wp2_with fail
  go_ret
  exact ⟨_, rfl, ⟨_, _, rfl, A0.out.cell 0, HR.out⟩, B0.out⟩

/-- Options in a variable G, whose ways lie at b or behind it. -/
def OIn (b G : Nat) (o : Int × List ByteArray × Bool) (X : World) : Prop := ∃ u fp, VarA G OptionsT #[.int .i64 o.1, u, .bool o.2.2] X ∧ fp.Nodup ∧ layStringS.own X b fp [u] o.2.1
/-- One more is set. -/
def SetTo (b G : Nat) (o : Int × List ByteArray × Bool) (X : World) (e : Ending) (Y : World) : Prop := e = .returned (.tuple #[]) ∧ OIn b G o Y ∧ Below G X Y
theorem own_off {X : World} {b G : Nat} {fp : List Nat} {u : Value} {ws : List ByteArray} (h : layStringS.own X b fp [u] ws) (hG : G < b) (j : Nat) (x : Value) : layStringS.own (X.setCell ⟨G, j, none⟩ x) b fp [u] ws :=
  layStringS.keep h (fun g hg => by
    have h1 := (layStringS.blocks h g hg).1
    exact (Only.setCell (c := G) (w := X) j x).block g (layStringS.blocks h g hg).2 (by omega))

theorem setSize_any (b G : Nat) (o : Int × List ByteArray × Bool) (n : Int) (q : Nat) (X : World) (hG : G < b) (h : OIn b G o X) (hq : X.cell? ⟨q, 0, none⟩ = some (.int .i64 n)) :
    Calls Tryd.prog 40 #[.pointer (some ⟨G, 0, none⟩), .pointer (some ⟨q, 0, none⟩)] X (SetTo b G (n, o.2.1, o.2.2) X) := by
  obtain ⟨u, fp, hv, hd, ho⟩ := h
  have g0 := hv.cell 0
  have f0 := hv.free 0
  have E : Hid (SetTo b G (n, o.2.1, o.2.2) X (.returned (.tuple #[])) (X.setCell ⟨G, 0, none⟩ (.int .i64 n))) := Lib.hid ⟨rfl, ⟨u, fp, hv.set 0 _, hd, own_off ho hG 0 _⟩, (Below.refl G X).setCell (p := ⟨G, 0, none⟩) (Nat.le_refl G) _⟩
  clear hv hd ho
  go_enter Tryd.func40, Tryd.ntmps40
  go_wp2_with fail
  exact bodyPost_end (results_none rfl _ _ _) rfl E.out
theorem setPieces_any (b G : Nat) (o : Int × List ByteArray × Bool) (n : Bool) (q : Nat) (X : World) (hG : G < b) (h : OIn b G o X) (hq : X.cell? ⟨q, 0, none⟩ = some (.bool n)) :
    Calls Tryd.prog 43 #[.pointer (some ⟨G, 0, none⟩), .pointer (some ⟨q, 0, none⟩)] X (SetTo b G (o.1, o.2.1, n) X) := by
  obtain ⟨u, fp, hv, hd, ho⟩ := h
  have g0 := hv.cell 2
  have f0 := hv.free 2
  have E : Hid (SetTo b G (o.1, o.2.1, n) X (.returned (.tuple #[])) (X.setCell ⟨G, 2, none⟩ (.bool n))) := Lib.hid ⟨rfl, ⟨u, fp, hv.set 2 _, hd, own_off ho hG 2 _⟩, (Below.refl G X).setCell (p := ⟨G, 2, none⟩) (Nat.le_refl G) _⟩
  clear hv hd ho
  go_enter Tryd.func43, Tryd.ntmps43
  go_wp2_with fail
  exact bodyPost_end (results_none rfl _ _ _) rfl E.out
theorem setWays_any (HG : CloneGives) (b G : Nat) (o : Int × List ByteArray × Bool) (v : Value) (ws : List ByteArray) (q : Nat) (X : World) (hG : G < b) (hb : b ≤ X.heap.size) (hl : ws.length ≤ 5 ∧ ∀ x ∈ ws, x.size ≤ 1048576) (h : OIn b G o X) (hq : X.cell? ⟨q, 0, none⟩ = some v) (hr : layStringS.rd X [v] ws) :
    Calls Tryd.prog 41 #[.pointer (some ⟨G, 0, none⟩), .pointer (some ⟨q, 0, none⟩)] X (SetTo b G (o.1, ws, o.2.2) X) := by
  obtain ⟨u, fp, hv, hd, ho⟩ := h
  obtain ⟨a, k, rfl⟩ := rows_form hr
  have K := Lib.hid (copyOfTexts_any HG _ ws (by omega) hl.2 X hr)
  have HV := Lib.hid hv
  clear hr hd ho hl
  obtain ⟨Q, HQ⟩ : ∃ Q : Ending → World → Prop, Hid (Q = SetTo b G (o.1, ws, o.2.2) X) := ⟨_, Lib.hid rfl⟩
  rw [← HQ.out]
  go_enter Tryd.func41, Tryd.ntmps41
  go_wp2_with fail
  refine (K.out).mono ?_
  rintro e Y ⟨g, c, rfl, hown, hbel⟩
  have hv2 := HV.out.next hbel
  have g0 := hv2.cell 1
  have f0 := hv2.free 1
  have E : Hid (Q (.returned (.tuple #[])) (Y.setCell ⟨G, 1, none⟩ (.slice (some ⟨g, 0, none⟩) ws.length c))) := by
    rw [HQ.out]
    exact Lib.hid ⟨rfl, ⟨_, [g], hv2.set 1 _, by simp, own_off (layStringS.lower hown hb) hG 1 _⟩, (hbel.mono (by omega)).trans ((Below.refl G Y).setCell (p := ⟨G, 1, none⟩) (Nat.le_refl G) _)⟩
  clear hv2 hown hbel K HV hv
  go_wp2_with fail
  exact bodyPost_end (results_none rfl _ _ _) rfl E.out

/-- All are set one behind another. -/
def OptOf (o : Int × List ByteArray × Bool) (w : World) (e : Ending) (w' : World) : Prop := ∃ u fp, e = .returned (.agg #[.int .i64 o.1, u, .bool o.2.2]) ∧ fp.Nodup ∧ layStringS.own w' w.heap.size fp [u] o.2.1 ∧ Below w.heap.size w w'

set_option maxRecDepth 100000 in
set_option maxHeartbeats 1600000 in
theorem optionsOf_any (HG : CloneGives) (v : Value) (vs : List Value) (sts : List Sets) (hl : vs.length = sts.length) (hfew : sts.length ≤ 1000) (hfit : ∀ st ∈ sts, FitS st) (w : World) (h : layRawS.rd w [v] vs)
    (hc : ∀ (j : Nat) (c : Value) (st : Sets), vs[j]? = some c → sts[j]? = some st → Clo w c st) :
    Calls Tryd.prog 14 #[v] w (OptOf (allS sts) w) := by
  obtain ⟨a, k, rfl⟩ := rows_form h
  rw [hl]
  rw [hl] at h
  have e1 : (w.alloc (.cells #[.int .i64 0, .slice none 0 0, .bool false] OptionsT)).heap.size = w.heap.size + 1 := by simp
  have h2 := VarA.new (w.alloc (.cells #[.int .i64 0, .slice none 0 0, .bool false] OptionsT)) OptionsT #[.int .i64 0, .slice none 0 0, .bool false]
  rw [e1] at h2
  have S0 : Hid (OIn (w.heap.size + 2) (w.heap.size + 1) (allS (sts.take 0)) ((w.alloc (.cells #[.int .i64 0, .slice none 0 0, .bool false] OptionsT)).alloc (.cells #[.int .i64 0, .slice none 0 0, .bool false] OptionsT))) := Lib.hid ⟨.slice none 0 0, [], h2, by simp, ⟨_, rfl, .inl ⟨rfl, rfl, rfl⟩⟩⟩
  have R0 : Hid (VarA w.heap.size OptionsT #[.int .i64 0, .slice none 0 0, .bool false] ((w.alloc (.cells #[.int .i64 0, .slice none 0 0, .bool false] OptionsT)).alloc (.cells #[.int .i64 0, .slice none 0 0, .bool false] OptionsT))) := Lib.hid ((VarA.new w OptionsT _).alloc _)
  have B0 : Hid (Below w.heap.size w ((w.alloc (.cells #[.int .i64 0, .slice none 0 0, .bool false] OptionsT)).alloc (.cells #[.int .i64 0, .slice none 0 0, .bool false] OptionsT))) := Lib.hid (((Below.refl w.heap.size w).alloc (Nat.le_refl _) _).alloc (by simp) _)
  have hz : Hid (w.heap.size + 2 ≤ ((w.alloc (.cells #[.int .i64 0, .slice none 0 0, .bool false] OptionsT)).alloc (.cells #[.int .i64 0, .slice none 0 0, .bool false] OptionsT)).heap.size) := Lib.hid (by simp)
  have HR := Lib.hid h
  have HC := Lib.hid hc
  have HF := Lib.hid hfit
  have HL := Lib.hid hl
  clear h hc hfit e1 h2 hl
  obtain ⟨Q, HQ⟩ : ∃ Q : Ending → World → Prop, Hid (Q = OptOf (allS sts) w) := ⟨_, Lib.hid rfl⟩
  rw [← HQ.out]
  go_enter Tryd.func14, Tryd.ntmps14
  go_upto_region 2 with fail
  generalize (w.alloc (.cells #[.int .i64 0, .slice none 0 0, .bool false] OptionsT)).alloc (.cells #[.int .i64 0, .slice none 0 0, .bool false] OptionsT) = Y at *
  go_wp2_with fail
  go_loopw [8] (fun c wr => ∃ j : Nat, j ≤ sts.length ∧ c = .int .i64 j ∧ Hid (OIn (w.heap.size + 2) (w.heap.size + 1) (allS (sts.take j)) wr) ∧ Hid (VarA w.heap.size OptionsT #[.int .i64 0, .slice none 0 0, .bool false] wr) ∧ Hid (Below w.heap.size w wr) ∧ Hid (w.heap.size + 2 ≤ wr.heap.size)) (fun c _ => sts.length - (intOf c).toNat)
  case atStart => exact ⟨0, Nat.zero_le _, rfl, S0, R0, B0, hz⟩
  case round =>
    obtain ⟨j, hj, rfl, HO, HV, HB, HZ⟩ := hrel
    clear S0 R0 B0 hz
    by_cases hlt : j < sts.length
    · have hlt' : (j : Int) < (sts.length : Int) := by omega
      have hs := List.getElem?_eq_getElem hlt
      have hx := List.getElem?_eq_getElem (show j < vs.length by rw [HL.out]; exact hlt)
      obtain ⟨g', off, cs, rfl, hg', hr, hc⟩ := rows_elem (layRawS.below HR.out HB.out) j _ hx
      have HX := Lib.hid ((HC.out j _ _ hx hs).below HB.out)
      have hfi := HF.out _ (List.getElem_mem hlt)
      have hta : Hid (allS (sts.take (j + 1)) = putS (allS (sts.take j)) sts[j]) := Lib.hid (by rw [List.take_add_one, hs]; exact allS_snoc _ _)
      generalize vs[j]'(by rw [HL.out]; exact hlt) = c at hr HX
      generalize sts[j] = st at hfi hta HX
      have hr1 := hr.1
      subst hr1
      have c0 : wr.cell? ⟨g', off + j, none⟩ = some c := (by have h9 := hc 0 _ rfl; rw [raw_k] at h9; exact h9)
      clear hc hx hs hr
      cases st with
      | size n =>
        obtain ⟨q, rfl, hq⟩ := HX.out
        have K := Lib.hid (setSize_any (w.heap.size + 2) (w.heap.size + 1) _ n q wr (by omega) HO.out hq)
        clear hq HX
        go_wp2_with fail
        refine (K.out).mono ?_
        rintro e Z ⟨rfl, ho, hb⟩
        have HO2 : Hid (OIn (w.heap.size + 2) (w.heap.size + 1) (allS (sts.take (j + 1))) Z) := by rw [hta.out]; exact Lib.hid ho
        have HV2 : Hid (VarA w.heap.size OptionsT #[.int .i64 0, .slice none 0 0, .bool false] Z) := Lib.hid ⟨(hb.block _ (by omega)).trans HV.out.row⟩
        have HB2 := Lib.hid (HB.out.trans (hb.mono (by omega)))
        have HZ2 := Lib.hid (Nat.le_trans HZ.out hb.size)
        clear ho hb K
        go_wp2_with fail
        go_roundw
        case rel => exact ⟨j + 1, by omega, by go_num, HO2, HV2, HB2, HZ2⟩
        case measure => simp [intOf]; omega
      | ways ws =>
        obtain ⟨q, v, rfl, hq, hr⟩ := HX.out
        have K := Lib.hid (setWays_any HG (w.heap.size + 2) (w.heap.size + 1) _ v ws q wr (by omega) HZ.out hfi HO.out hq hr)
        clear hq HX hr
        go_wp2_with fail
        refine (K.out).mono ?_
        rintro e Z ⟨rfl, ho, hb⟩
        have HO2 : Hid (OIn (w.heap.size + 2) (w.heap.size + 1) (allS (sts.take (j + 1))) Z) := by rw [hta.out]; exact Lib.hid ho
        have HV2 : Hid (VarA w.heap.size OptionsT #[.int .i64 0, .slice none 0 0, .bool false] Z) := Lib.hid ⟨(hb.block _ (by omega)).trans HV.out.row⟩
        have HB2 := Lib.hid (HB.out.trans (hb.mono (by omega)))
        have HZ2 := Lib.hid (Nat.le_trans HZ.out hb.size)
        clear ho hb K
        go_wp2_with fail
        go_roundw
        case rel => exact ⟨j + 1, by omega, by go_num, HO2, HV2, HB2, HZ2⟩
        case measure => simp [intOf]; omega
      | pieces b =>
        obtain ⟨q, rfl, hq⟩ := HX.out
        have K := Lib.hid (setPieces_any (w.heap.size + 2) (w.heap.size + 1) _ b q wr (by omega) HO.out hq)
        clear hq HX
        go_wp2_with fail
        refine (K.out).mono ?_
        rintro e Z ⟨rfl, ho, hb⟩
        have HO2 : Hid (OIn (w.heap.size + 2) (w.heap.size + 1) (allS (sts.take (j + 1))) Z) := by rw [hta.out]; exact Lib.hid ho
        have HV2 : Hid (VarA w.heap.size OptionsT #[.int .i64 0, .slice none 0 0, .bool false] Z) := Lib.hid ⟨(hb.block _ (by omega)).trans HV.out.row⟩
        have HB2 := Lib.hid (HB.out.trans (hb.mono (by omega)))
        have HZ2 := Lib.hid (Nat.le_trans HZ.out hb.size)
        clear ho hb K
        go_wp2_with fail
        go_roundw
        case rel => exact ⟨j + 1, by omega, by go_num, HO2, HV2, HB2, HZ2⟩
        case measure => simp [intOf]; omega
    · have hlt' : ¬ ((j : Int) < (sts.length : Int)) := by omega
      have hje : j = sts.length := by omega
      subst hje
      have ho := HO.out
      rw [List.take_length] at ho
      obtain ⟨u, fp, hv, hd, hown⟩ := ho
      obtain ⟨ua, uk, rfl⟩ := rows_form (layStringS.read hown)
      generalize hoo : allS sts = o at *
      have c0 : wr.cell? ⟨w.heap.size + 1, 0, none⟩ = some (.int .i64 o.1) := hv.cell 0
      have c1 : wr.cell? ⟨w.heap.size + 1, 1, none⟩ = some (.slice ua o.2.1.length uk) := hv.cell 1
      have c2 : wr.cell? ⟨w.heap.size + 1, 2, none⟩ = some (.bool o.2.2) := hv.cell 2
      have d0 : wr.cell? ⟨w.heap.size, 0, none⟩ = some (.int .i64 0) := HV.out.cell 0
      have d1 : wr.cell? ⟨w.heap.size, 1, none⟩ = some (.slice none 0 0) := HV.out.cell 1
      have d2 : wr.cell? ⟨w.heap.size, 2, none⟩ = some (.bool false) := HV.out.cell 2
      have f0 := HV.out.free 0
      have f1 := HV.out.free 1
      have f2 := HV.out.free 2
      have R9 := ((HV.out.set 0 (.int .i64 o.1)).set 1 (.slice ua o.2.1.length uk)).set 2 (.bool o.2.2)
      have j0 := R9.cell 0
      have j1 := R9.cell 1
      have j2 := R9.cell 2
      have E : Hid (Q (.returned (.agg #[.int .i64 o.1, .slice ua o.2.1.length uk, .bool o.2.2])) (((wr.setCell ⟨w.heap.size, 0, none⟩ (.int .i64 o.1)).setCell ⟨w.heap.size, 1, none⟩ (.slice ua o.2.1.length uk)).setCell ⟨w.heap.size, 2, none⟩ (.bool o.2.2))) := by
        rw [HQ.out]
        exact Lib.hid ⟨_, fp, rfl, hd, layStringS.lower (own_off (own_off (own_off hown (by omega) 0 _) (by omega) 1 _) (by omega) 2 _) (by omega), ((HB.out.setCell (p := ⟨w.heap.size, 0, none⟩) (Nat.le_refl _) _).setCell (p := ⟨w.heap.size, 1, none⟩) (Nat.le_refl _) _).setCell (p := ⟨w.heap.size, 2, none⟩) (Nat.le_refl _) _⟩
      clear R9 hown hd hv HO HV
      go_wp2_with fail
      try simp only [Exit.inBlock, Exit.then]
      exact bodyPost_ret (v := .agg #[.int .i64 o.1, .slice ua o.2.1.length uk, .bool o.2.2]) (by simp [results, Tryd.results14, go_sem, j0, j1, j2]) rfl E.out

end Go.Proofs.YtmgdhlodifkematDoor
namespace Go.Proofs.YtmgdhlodifkematDoor
open Go.RowKit

/-- A flat row and a variable of another type lie apart. -/
theorem row_off {α : Type} {A : Lay α} (hf : Flat A) {e T : TypeId} {X : World} {b G : Nat} {f : List Nat} {v : Value} {xs : List α} {cs : Array Value} (h : (Lay.rows e A).own X b f [v] xs) (hv : VarA G T cs X) (hT : T ≠ e) : G ∉ f := by
  obtain ⟨us, ho, _, rfl⟩ := flat_inv hf h
  intro hm
  rcases ho.2 with ⟨rfl, _⟩ | ⟨g', cap, cur, rfl, _, hb, _⟩
  · simp [blk, Value.ownBlock] at hm
  · have : G = g' := by simpa [blk, Value.ownBlock] using hm
    subst this
    rw [hv.row] at hb
    injection hb with hb
    injection hb with _ hb
    exact hT hb
theorem rows_off {α β : Type} {A : Lay α} {B : Lay β} (hf : Flat A) (hf' : Flat B) {e e' : TypeId} {X : World} {b b' : Nat} {f f' : List Nat} {v v' : Value} {xs : List α} {ys : List β} (h : (Lay.rows e A).own X b f [v] xs) (h' : (Lay.rows e' B).own X b' f' [v'] ys) (he : e ≠ e') : ∀ g ∈ f, g ∉ f' := by
  obtain ⟨us, ho, _, rfl⟩ := flat_inv hf h
  obtain ⟨us', ho', _, rfl⟩ := flat_inv hf' h'
  intro g hg hg'
  rcases ho.2 with ⟨rfl, _⟩ | ⟨g1, cap, cur, rfl, _, hb, _⟩
  · simp [blk, Value.ownBlock] at hg
  · rcases ho'.2 with ⟨rfl, _⟩ | ⟨g2, cap2, cur2, rfl, _, hb2, _⟩
    · simp [blk, Value.ownBlock] at hg'
    · have e1 : g = g1 := by simpa [blk, Value.ownBlock] using hg
      have e2 : g = g2 := by simpa [blk, Value.ownBlock] using hg'
      subst e1
      subst e2
      rw [hb] at hb2
      injection hb2 with hb2
      injection hb2 with _ hb2
      exact he hb2

theorem VarA.next' {r : Nat} {t : TypeId} {cs : Array Value} {X Y : World} {b : Nat} (h : VarA r t cs X) (hb : Below b X Y) (hr : r < b) : VarA r t cs Y := ⟨(hb.block r hr).trans h.row⟩

end Go.Proofs.YtmgdhlodifkematDoor

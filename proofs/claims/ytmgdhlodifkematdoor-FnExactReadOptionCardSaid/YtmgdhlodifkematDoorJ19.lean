/-
  The given cut of a text at a sign.
  The given ReadDecimal by its answer; the given ReadAddr.
  The given AddrOk and AddrText; how many addresses a prefix has.
  The given OptionText.
-/
import Derived.Test.YtmgdhlodifkematDoorRows
import Derived.Test.YtmgdhlodifkematDoorJ01
import Derived.Test.YtmgdhlodifkematDoorJ07
import Derived.Test.YtmgdhlodifkematDoorJ11
import Derived.Test.YtmgdhlodifkematDoorJ15
import Derived.Test.YtmgdhlodifkematDoorJ17
import Derived.Test.YtmgdhlodifkematDoorJ02
import Derived.Test.YtmgdhlodifkematDoorJ18
import Derived.Test.YtmgdhlodifkematDoorJ12
namespace Go.Proofs.YtmgdhlodifkematDoor
open Go.RowKit

theorem infoText : (Tryd.prog.info? 9).map (fun i => (i.zero, i.size, i.bytes)) = some (some (.string ByteArray.empty), 1, 16) := by kernel_rfl
theorem part_text (s : ByteArray) (b i : Nat) : s.extract b i = ⟨(seg s.data.toList b i).toArray⟩ := Lib.extract_eq s b i

set_option maxRecDepth 100000 in
set_option maxHeartbeats 800000 in
theorem specSplit_any (s : ByteArray) (x : UInt8) (hs : s.size ≤ 100000000) (w : World) :
    Calls Tryd.prog 9 #[.string s, .int .u8 (x.toNat : Nat)] w fun e w' => ∃ v, e = .returned v ∧ OwnS w' w.heap.size 9 v (cutAt x [] s.data.toList) ∧ Below w.heap.size w w' := by
  obtain ⟨i0, hi, hz0, hz1, hz2⟩ := info_parts infoText
  have hl : s.data.toList.length = s.size := by simp
  have HL := Lib.hid hl
  clear hl
  go_enter Tryd.func9, Tryd.ntmps9
  go_wp2
  go_loopw [5, 6, 7] (fun v b c wr => ∃ (bn i : Nat) (ps : List (List UInt8)), bn ≤ i ∧ i ≤ s.size + 1 ∧ ps.length ≤ i ∧ b = .int .i64 bn ∧ c = .int .i64 i ∧ Hid (ps ++ remC x s.data.toList bn i = cutAt x [] s.data.toList) ∧ OwnS wr w.heap.size 9 v ps ∧ Below w.heap.size w wr) (fun _ _ c _ => s.size + 1 - (intOf c).toNat)
  case atStart => exact ⟨0, 0, [], Nat.le_refl _, by omega, Nat.le_refl _, rfl, rfl, remC_start _ _, OwnS.lit _ _ _ (Nat.le_refl _), (Below.refl _ _).alloc (Nat.le_refl _) _⟩
  case round =>
    obtain ⟨bn, i, ps, hbi, his, hpl, rfl, rfl, HR, hown, hnx⟩ := hrel
    have hsz := hnx.size
    by_cases hlt : i < s.size
    · have hli : i < s.data.toList.length := by rw [HL.out]; exact hlt
      have g0 : (i : Int) ≤ (s.size : Int) := by omega
      have g1 : ((i : Int) == (s.size : Int)) = false := by rw [beq_eq_false_iff_ne]; omega
      have hb : s.data.toList[i] = s[i] := rfl
      by_cases hsp : s[i] = x
      · have g3 : ((s[i].toNat : Int) == (x.toNat : Int)) = true := by rw [hsp]; simp
        have HN := Lib.hid (remC_part x s.data.toList bn i hli (hb.trans hsp))
        clear hsp hb
        have hbn2 : (bn : Int) ≤ (i : Int) := by omega
        have hsx := part_text s bn i
        generalize seg s.data.toList bn i = sg at *
        have HSX := Lib.hid hsx
        clear hsx
        go_wp2_with (at_builtin; refine wpList_pushS _ rfl _ _ 22 rfl w.heap.size 9 i0 Tryd.underlying22 hi hz0 hz1 hz2 _ _ rfl hown sg _ rfl HSX.out (by omega) hsz ?_)
        intro v' w1 hown1 hnx1
        go_wp2
        go_roundw
        case rel => exact ⟨i + 1, i + 1, ps ++ [sg], Nat.le_refl _, by omega, by simp; omega, by go_num, by go_num, by show _ = _; rw [← HR.out, HN.out, List.append_assoc]; rfl, hown1, hnx.trans hnx1⟩
        case measure => simp [intOf]; omega
      · have g3 : ((s[i].toNat : Int) == (x.toNat : Int)) = false := by
          rw [beq_eq_false_iff_ne]
          intro e
          exact hsp (UInt8.toNat_inj.1 (by omega))
        have HN := Lib.hid (remC_more x s.data.toList bn i hbi hli (fun e => hsp (hb.symm.trans e)))
        clear hsp hb
        go_wp2
        go_roundw
        case rel => exact ⟨bn, i + 1, ps, by omega, by omega, by omega, rfl, by go_num, by show _ = _; rw [← HR.out, HN.out], hown, hnx⟩
        case measure => simp [intOf]; omega
    · by_cases hlast : i = s.size
      · have hle : (i : Int) ≤ (s.size : Int) := by omega
        have g1 : ((i : Int) == (s.size : Int)) = true := by rw [beq_iff_eq]; omega
        have HN : Hid (remC x s.data.toList bn i = [seg s.data.toList bn i]) := by
          show _ = _
          have := remC_last x s.data.toList bn
          rw [HL.out, ← hlast] at this
          exact this
        have HO : Hid (remC x s.data.toList (i + 1) (i + 1) = []) := by
          show _ = _
          have := remC_over x s.data.toList (i + 1)
          rw [HL.out, ← hlast] at this
          exact this
        have hbn2 : (bn : Int) ≤ (i : Int) := by omega
        have hsx := part_text s bn i
        generalize seg s.data.toList bn i = sg at *
        have HSX := Lib.hid hsx
        have HLA := Lib.hid hlast
        clear hsx hlast
        go_wp2_with (at_builtin; refine wpList_pushS _ rfl _ _ 22 rfl w.heap.size 9 i0 Tryd.underlying22 hi hz0 hz1 hz2 _ _ rfl hown sg _ rfl HSX.out (by omega) hsz ?_)
        intro v' w1 hown1 hnx1
        go_wp2
        go_roundw
        case rel => exact ⟨i + 1, i + 1, ps ++ [sg], Nat.le_refl _, by have := HLA.out; omega, by simp; omega, by go_num, by go_num, by show _ = _; rw [← HR.out, HN.out, HO.out, List.append_nil], hown1, hnx.trans hnx1⟩
        case measure => have := HLA.out; simp [intOf]; omega
      · have hgt : ¬ (i : Int) ≤ (s.size : Int) := by omega
        have HE : Hid (ps = cutAt x [] s.data.toList) := by
          show ps = _
          have h2 : i = s.data.toList.length + 1 := by rw [HL.out]; omega
          have h3 := HR.out
          rw [h2, remC_over, List.append_nil] at h3
          exact h3
        obtain ⟨ao, cap, rfl, _⟩ := hown.form
        go_wp2
        go_ret
        exact ⟨_, rfl, by rw [← HE.out]; exact hown, hnx⟩

end Go.Proofs.YtmgdhlodifkematDoor
namespace Go.Proofs.YtmgdhlodifkematDoor
open Go.RowKit

theorem specReadDec_yes (m : Nat) (hm : m ≤ 1000000000) (s : ByteArray) (h : s.data.toList = Lib.decDigits m) (w : World) :
    Calls Tryd.prog 10 #[.string s] w fun e w' => e = .returned (.tuple #[.int .i64 m, .bool true]) ∧ Below w.heap.size w w' := by
  obtain ⟨qs, h1, h2, h3, h4⟩ := dec_back m m (Nat.le_refl _)
  have hl := dec_length 10 m (by omega) (by omega)
  have hs : s.size ≤ 10 := by
    have e : s.data.toList.length = s.size := by simp
    rw [← e, h]
    exact hl
  refine (specReadDec_any s hs qs [] h1 (by rw [h, h3]; simp) (by simp) w).mono ?_
  rintro e w' ⟨h5 | h5, hb⟩
  · rw [h4] at h5
    exact ⟨h5.2.2.2, hb⟩
  · rw [h4] at h5
    exact absurd ⟨rfl, hm, h3⟩ h5.1
theorem specReadDec_no (s : ByteArray) (h : ∀ m, m ≤ 1000000000 → s.data.toList ≠ Lib.decDigits m) (w : World) :
    Calls Tryd.prog 10 #[.string s] w fun e w' => e = .returned (.tuple #[.int .i64 0, .bool false]) ∧ Below w.heap.size w w' := by
  by_cases hs : 10 < s.size
  · exact specReadDec_long s hs w
  · obtain ⟨qs, tail, a1, a2, a3⟩ := figured 10 s.data.toList
    refine (specReadDec_any s (by omega) qs tail a1 a2 a3 w).mono ?_
    rintro e w' ⟨h5 | h5, hb⟩
    · exact absurd (by rw [a2, h5.1, List.append_nil, h5.2.2.1]) (h _ h5.2.1)
    · exact ⟨h5.2, hb⟩
/-- One part of an address: a number of one byte, or none. -/
theorem specReadDec_part (p : List UInt8) : ∃ (n : Nat) (b : Bool), n ≤ 1000000000 ∧ (∀ w, Calls Tryd.prog 10 #[.string ⟨p.toArray⟩] w fun e w' => e = .returned (.tuple #[.int .i64 n, .bool b]) ∧ Below w.heap.size w w') ∧
    ((b = true ∧ n < 256 ∧ Lib.decDigits n = p) ∨ ((b = true ∧ 255 < n ∨ b = false) ∧ ∀ m, m < 256 → Lib.decDigits m ≠ p)) := by
  by_cases h : ∃ m, m ≤ 1000000000 ∧ Lib.decDigits m = p
  · obtain ⟨m, hm, hp⟩ := h
    refine ⟨m, true, hm, fun w => specReadDec_yes m hm _ (by rw [hp]) w, ?_⟩
    by_cases h2 : m < 256
    · exact .inl ⟨rfl, h2, hp⟩
    · refine .inr ⟨.inl ⟨rfl, by omega⟩, fun k hk e => ?_⟩
      have := dec_inj k m (e.trans hp.symm)
      omega
  · exact ⟨0, false, by omega, fun w => specReadDec_no _ (fun m hm e => h ⟨m, hm, e.symm⟩) w, .inr ⟨.inr rfl, fun m hm e => h ⟨m, by omega, e⟩⟩⟩

/-- What numbers read so far make. -/
def byteVal (ns : List Nat) : Nat := ns.foldl (fun o n => 256 * o + n) 0
theorem byteVal_snoc (ns : List Nat) (n : Nat) : byteVal (ns ++ [n]) = 256 * byteVal ns + n := by simp [byteVal]
theorem byteVal_next (v n k : Nat) (hv : v < 256 ^ k) (hn : n < 256) : 256 * v + n < 256 ^ (k + 1) := by
  rw [Nat.pow_succ]
  omega
theorem four_of (ns : List Nat) (h : ns.length = 4) : ∃ a b c d, ns = [a, b, c, d] := by
  match ns, h with
  | [a, b, c, d], _ => exact ⟨a, b, c, d, rfl⟩
/-- A part that is no number of one byte: the text is no address. -/
theorem no_addr (l : List UInt8) (ps : List (List UInt8)) (hc : cutAt 46 [] l = ps) (i : Nat) (hi : i < 4) (h : ∀ m, m < 256 → Lib.decDigits m ≠ ps.getD i []) (a : Nat) (ha : a ≤ 4294967295) : l ≠ addrL a := by
  intro e
  rw [e, cut_addr] at hc
  subst hc
  match i, hi with
  | 0, _ => exact h _ (by omega) rfl
  | 1, _ => exact h _ (by omega) rfl
  | 2, _ => exact h _ (by omega) rfl
  | 3, _ => exact h _ (by omega) rfl
theorem no_addr_count (l : List UInt8) (h : (cutAt 46 [] l).length ≠ 4) (a : Nat) : l ≠ addrL a := by
  intro e
  rw [e, cut_addr] at h
  exact h rfl
theorem yes_addr (l : List UInt8) (ns : List Nat) (h4 : ns.length = 4) (hn : ∀ n ∈ ns, n < 256) (hm : ns.map Lib.decDigits = cutAt 46 [] l) : l = addrL (byteVal ns) ∧ byteVal ns ≤ 4294967295 := by
  obtain ⟨a, b, c, d, rfl⟩ := four_of ns h4
  obtain ⟨x, hx, hl, he⟩ := addr_parts l _ _ _ _ hm.symm a b c d (hn a (by simp)) (hn b (by simp)) (hn c (by simp)) (hn d (by simp)) rfl rfl rfl rfl
  have e : byteVal [a, b, c, d] = x := by
    rw [he]
    simp [byteVal]
  rw [e]
  exact ⟨hl, hx⟩
/-- How reading an address ends. -/
def AddrEnd (s : ByteArray) (e : Ending) : Prop :=
  (∃ a, a ≤ 4294967295 ∧ s.data.toList = addrL a ∧ e = .returned (.tuple #[.int .i64 (a : Nat), .bool true])) ∨ ((∀ a, a ≤ 4294967295 → s.data.toList ≠ addrL a) ∧ e = .returned (.tuple #[.int .i64 0, .bool false]))

end Go.Proofs.YtmgdhlodifkematDoor
namespace Go.Proofs.YtmgdhlodifkematDoor
open Go.RowKit

theorem specDecimal_nat (n : Nat) (h : n ≤ 1000000000) (w : World) :
    Calls Tryd.prog 19 #[.int .i64 n] w fun e w' => e = .returned (.string ⟨(Lib.decDigits n).toArray⟩) ∧ Below w.heap.size w w' := by
  have := specDecimal_any (n : Int) (by omega) (by omega) w
  rw [Lib.itoa_nonneg] at this
  exact this

theorem dec_few (n : Nat) (h : n < 1000) : (⟨(Lib.decDigits n).toArray⟩ : ByteArray).size ≤ 3 := by
  show (Lib.decDigits n).toArray.size ≤ 3
  rw [List.size_toArray]
  exact dec_length 3 n (by omega) (by omega)
theorem addr_texts (a : Nat) : addrP a = (⟨(Lib.decDigits (a / 16777216)).toArray⟩ : ByteArray) ++ ⟨#[46]⟩ ++ ⟨(Lib.decDigits (a / 65536 % 256)).toArray⟩ ++ ⟨#[46]⟩ ++ ⟨(Lib.decDigits (a / 256 % 256)).toArray⟩ ++ ⟨#[46]⟩ ++ ⟨(Lib.decDigits (a % 256)).toArray⟩ := by
  unfold addrP addrL
  rw [joinAt_four]
  apply ByteArray.ext
  apply Array.ext'
  simp

end Go.Proofs.YtmgdhlodifkematDoor
namespace Go.Proofs.YtmgdhlodifkematDoor
open Go.RowKit

theorem bytes_eq {a b : ByteArray} (h : a.data.toList = b.data.toList) : a = b := ByteArray.ext (Array.toList_inj.1 h)
theorem ret_sb {a b : ByteArray} {o : Value} (h : a = b) : Ending.returned (.tuple #[.string a, o]) = .returned (.tuple #[.string b, o]) := by rw [h]
theorem cat_bytes (a b : ByteArray) : (a ++ b).data.toList = a.data.toList ++ b.data.toList := by simp
/-- What is written when j ways are. -/
def optPart (d : ByteArray) (ws : List ByteArray) (j : Nat) : List UInt8 := optSize ++ d.data.toList ++ optWays ++ joinAt 44 (bytesW (ws.take j))
theorem part_next (d : ByteArray) (ws : List ByteArray) (j : Nat) (hj : j < ws.length) : optPart d ws (j + 1) = optPart d ws j ++ (if 0 < j then [44] else []) ++ ws[j].data.toList := by
  unfold optPart
  have h1 : ws.take (j + 1) = ws.take j ++ [ws[j]] := by rw [List.take_add_one, List.getElem?_eq_getElem hj]; rfl
  have h2 : bytesW (ws.take j ++ [ws[j]]) = bytesW (ws.take j) ++ [ws[j].data.toList] := by unfold bytesW; rw [List.map_append]; rfl
  rw [h1, h2]
  by_cases h0 : 0 < j
  · have h3 : bytesW (ws.take j) ≠ [] := fun e => by
      have hl : (bytesW (ws.take j)).length = j := by unfold bytesW; rw [List.length_map, List.length_take]; omega
      rw [e] at hl
      simp at hl
      omega
    rw [joinAt_snoc 44 _ _ h3, if_pos h0]
    simp
  · obtain rfl : j = 0 := by omega
    simp [bytesW, joinAt]

set_option maxRecDepth 100000 in
set_option maxHeartbeats 3200000 in
theorem specOptionText_any (z : Int) (v1 : Value) (ws : List ByteArray) (p : Bool) (t : ByteArray) (ok : Bool) (ht : TextIs z ws p t ok) (hl : ws.length ≤ 100000000) (hx : ∀ x ∈ ws, x.size ≤ 100000000) (w : World) (h : layStringS.rd w [v1] ws) :
    Calls Tryd.prog 11 #[.agg #[.int .i64 z, v1, .bool p]] w fun e w' => e = .returned (.tuple #[.string t, .bool ok]) ∧ Below w.heap.size w w' := by
  obtain ⟨ao, cp, rfl⟩ := rows_form h
  have A0 := Lib.hid (VarA.new w OptionsT #[.int .i64 z, .slice ao ws.length cp, .bool p])
  have B0 := Lib.hid ((Below.refl w.heap.size w).alloc (Nat.le_refl _) (.cells #[.int .i64 z, .slice ao ws.length cp, .bool p] OptionsT))
  have HR := Lib.hid (layStringS.below h B0.out)
  clear h
  go_enter Tryd.func11, Tryd.ntmps11
  go_upto_region 1 with fail
  generalize w.alloc (.cells #[.int .i64 z, .slice ao ws.length cp, .bool p] OptionsT) = Y at *
  have c0 : Y.cell? ⟨w.heap.size, 0, none⟩ = some (.int .i64 z) := A0.out.cell 0
  have c1 : Y.cell? ⟨w.heap.size, 1, none⟩ = some (.slice ao ws.length cp) := A0.out.cell 1
  have c2 : Y.cell? ⟨w.heap.size, 2, none⟩ = some (.bool p) := A0.out.cell 2
  rcases ht with ⟨rfl, hok, rfl⟩ | ⟨rfl, hno, rfl⟩
  rotate_left
  · have K := Lib.hid (specOptionsOk_bool z _ ws p false ⟨fun e => (by cases e), fun e => absurd e hno⟩ hl hx Y HR.out)
    go_wp2_with fail
    refine (K.out).mono ?_
    rintro e Y1 ⟨rfl, hb1⟩
    have B1 := Lib.hid (B0.out.trans (hb1.mono B0.out.size))
    clear hb1
    go_wp2_with fail
    go_ret2
    exact ⟨rfl, B1.out⟩
  have K := Lib.hid (specOptionsOk_bool z _ ws p true ⟨fun _ => hok, fun _ => rfl⟩ hl hx Y HR.out)
  have hz := hok.sizeR
  obtain ⟨n, rfl⟩ : ∃ n : Nat, z = n := ⟨z.toNat, by omega⟩
  have hway := Lib.hid hok.way
  have hfew := hok.few
  have HE : Hid (∀ u : ByteArray, u.data.toList = optPart ⟨(Lib.decDigits n).toArray⟩ ws ws.length ++ optEnd p → u = optT ((n : Int).toNat) ws p) := Lib.hid (fun u hu => bytes_eq (by
    rw [hu]
    unfold optPart optT optL
    rw [List.take_length]
    rfl))
  have hd2 := dec_length 2 n (by omega) (by omega)
  go_wp2_with fail
  refine (K.out).mono ?_
  rintro e Y1 ⟨rfl, hb1⟩
  have A1 := Lib.hid (A0.out.next hb1)
  have B1 := Lib.hid (B0.out.trans (hb1.mono B0.out.size))
  have R1 := Lib.hid (layStringS.below HR.out hb1)
  clear hb1 K A0 B0 HR c0 c1 c2 hx
  have c0 : Y1.cell? ⟨w.heap.size, 0, none⟩ = some (.int .i64 (n : Int)) := A1.out.cell 0
  have K3 : Hid (∀ X, Calls Tryd.prog 19 #[.int .i64 (n : Int)] X fun e Z => e = .returned (.string ⟨(Lib.decDigits n).toArray⟩) ∧ Below X.heap.size X Z) := Lib.hid (fun X => specDecimal_nat n (by omega) X)
  have hd3 : (⟨(Lib.decDigits n).toArray⟩ : ByteArray).size ≤ 2 := hd2
  generalize (⟨(Lib.decDigits n).toArray⟩ : ByteArray) = d at K3 HE hd3
  have s0 : ¬ (9223372036854775807 < 5 + d.size) := by omega
  have s1 : ¬ (9223372036854775807 < 5 + d.size + 6) := by omega
  go_wp2_with fail
  refine (K3.out _).mono ?_
  rintro e Y2 ⟨rfl, hb2⟩
  have A2 := Lib.hid (A1.out.next hb2)
  have B2 := Lib.hid (B1.out.trans (hb2.mono B1.out.size))
  have R2 := Lib.hid (layStringS.below R1.out hb2)
  clear hb2 K3 A1 B1 R1 c0
  go_upto_region 4 with fail
  obtain ⟨t0, T0⟩ : ∃ u : ByteArray, Hid (u = (⟨#[115, 105, 122, 101, 32]⟩ : ByteArray) ++ d ++ (⟨#[59, 119, 97, 121, 115, 32]⟩ : ByteArray)) := ⟨_, Lib.hid rfl⟩
  rw [← T0.out]
  have HT0 : Hid (t0.data.toList = optPart d ws 0) := Lib.hid (by
    rw [T0.out, cat_bytes, cat_bytes]
    simp [optPart, optSize, optWays, bytesW, joinAt])
  have ht0 : t0.size ≤ 20 := by
    have h9 := congrArg List.length HT0.out
    rw [show t0.data.toList.length = t0.size by simp] at h9
    rw [h9]
    simp [optPart, optSize, optWays, bytesW, joinAt]
    omega
  clear T0
  go_wp2_with fail
  go_loopw [4, 5] (fun u c wr => ∃ (j : Nat) (tj : ByteArray), j ≤ ws.length ∧ c = .int .i64 j ∧ u = .string tj ∧ tj.size ≤ 20 + 9 * j ∧ Hid (tj.data.toList = optPart d ws j) ∧ wr = Y2) (fun _ c _ => ws.length - (intOf c).toNat)
  case atStart => exact ⟨0, t0, Nat.zero_le _, rfl, rfl, by omega, HT0, by first | trivial | rfl⟩
  case round =>
    clear HT0 ht0
    obtain ⟨j, tj, hj, rfl, rfl, htj, HTJ, rfl⟩ := hrel
    have c1 : wr.cell? ⟨w.heap.size, 1, none⟩ = some (.slice ao ws.length cp) := A2.out.cell 1
    by_cases hlt : j < ws.length
    · have hlt' : (j : Int) < (ws.length : Int) := by omega
      have HN := Lib.hid (part_next d ws j hlt)
      have hs := (hway.out _ (List.getElem_mem hlt)).2.2
      obtain ⟨g, off, cs, rfl, hg, hr, hc⟩ := rows_elem R2.out j _ (List.getElem?_eq_getElem hlt)
      generalize ws[j] = x at hr HN hs
      rw [layString_rd] at hr
      subst hr
      have c3 : wr.cell? ⟨g, off + j, none⟩ = some (.string x) := (by have h9 := hc 0 _ rfl; rw [str_k] at h9; exact h9)
      clear hc
      by_cases h0 : 0 < j
      · have h0' : (0 : Int) < (j : Int) := by omega
        have s2 : ¬ (9223372036854775807 < tj.size + 1) := by omega
        have s3 : ¬ (9223372036854775807 < tj.size + 1 + x.size) := by omega
        have HJ : Hid ((tj ++ (⟨#[44]⟩ : ByteArray) ++ x).data.toList = optPart d ws (j + 1)) := Lib.hid (by
          rw [HN.out, if_pos h0, cat_bytes, cat_bytes, HTJ.out])
        have hzz : (tj ++ (⟨#[44]⟩ : ByteArray) ++ x).size ≤ 20 + 9 * (j + 1) := by
          rw [ByteArray.size_append, ByteArray.size_append]
          show tj.size + 1 + x.size ≤ _
          omega
        clear HN HTJ
        go_wp2_with fail
        go_roundw
        case rel => exact ⟨j + 1, _, by omega, by go_num, rfl, hzz, HJ, by first | trivial | rfl⟩
        case measure => simp [intOf]; omega
      · have h0' : ¬ ((0 : Int) < (j : Int)) := by omega
        have s3 : ¬ (9223372036854775807 < tj.size + x.size) := by omega
        have HJ : Hid ((tj ++ x).data.toList = optPart d ws (j + 1)) := Lib.hid (by
          rw [HN.out, if_neg h0, cat_bytes, HTJ.out, List.append_nil])
        have hzz : (tj ++ x).size ≤ 20 + 9 * (j + 1) := by
          rw [ByteArray.size_append]
          omega
        clear HN HTJ
        go_wp2_with fail
        go_roundw
        case rel => exact ⟨j + 1, _, by omega, by go_num, rfl, hzz, HJ, by first | trivial | rfl⟩
        case measure => simp [intOf]; omega
    · have hlt' : ¬ ((j : Int) < (ws.length : Int)) := by omega
      have hje : j = ws.length := by omega
      have c2 : wr.cell? ⟨w.heap.size, 2, none⟩ = some (.bool p) := A2.out.cell 2
      have s4 : ¬ (9223372036854775807 < tj.size + 7) := by omega
      cases p with
      | true =>
        have HU := Lib.hid (HE.out (tj ++ (⟨#[59, 112, 105, 101, 99, 101, 115]⟩ : ByteArray)) (by rw [cat_bytes, HTJ.out, hje]; rfl))
        clear hje
        go_wp2_with fail
        go_ret2
        exact ⟨ret_sb HU.out, B2.out⟩
      | false =>
        have HU := Lib.hid (HE.out tj (by rw [HTJ.out, hje]; exact (List.append_nil _).symm))
        clear hje
        go_wp2_with fail
        go_ret2
        exact ⟨ret_sb HU.out, B2.out⟩

end Go.Proofs.YtmgdhlodifkematDoor

/-
  The program's ReadAddr.
-/
import Derived.Test.YtmmippdommemmaoDoorPartImpl
import Derived.Test.YtmmippdommemmaoDoorReadAddrSpec
namespace Go.Proofs.YtmmippdommemmaoDoor
open Go.RowKit

/-- How splitting at the stop ends: a row of its own that holds the parts, five at most; four of them are all that there are. -/
def SplitEnd (s : ByteArray) (X : World) (e : Ending) (Y : World) : Prop :=
  ∃ (ps : List ByteArray) (c : Nat), e = .returned (.slice (some ⟨X.heap.size, 0, none⟩) ps.length c) ∧ Below X.heap.size X Y ∧ X.heap.size < Y.heap.size ∧ (∀ j x, ps[j]? = some x → Y.cell? ⟨X.heap.size, j, none⟩ = some (.string x)) ∧ ps.length ≤ 5 ∧
    (ps.length = 4 → ps.map (·.data.toList) = cutAt 46 [] s.data.toList) ∧ (ps.length ≠ 4 → (cutAt 46 [] s.data.toList).length ≠ 4)
/-- What the library's splitting gives, in worlds that hold what it lays. -/
structure SplitGives (L : World → Prop) : Prop extends DecGives L where
  split : ∀ s : ByteArray, s.size ≤ 1048576 → ∀ X, L X → Calls Tryd.prog 20 #[.string s, .string ⟨#[46]⟩, .int .i64 5] X fun e Y => SplitEnd s X e Y

theorem or_i64 (x y : Nat) (hx : x < 4294967296) (hy : y < 4294967296) : bits .or .i64 (x : Int) (y : Int) = ((x ||| y : Nat) : Int) := by
  have h : x ||| y < 4294967296 := Nat.or_lt_two_pow (n := 32) hx hy
  have ex : (BitVec.ofInt IntKind.i64.bits (x : Int)).toNat = x := by
    rw [BitVec.toNat_ofInt]
    show ((x : Int) % ((2 ^ 64 : Nat) : Int)).toNat = x
    omega
  have ey : (BitVec.ofInt IntKind.i64.bits (y : Int)).toNat = y := by
    rw [BitVec.toNat_ofInt]
    show ((y : Int) % ((2 ^ 64 : Nat) : Int)).toNat = y
    omega
  unfold bits
  simp only
  rw [BitVec.toNat_or, ex, ey, IntKind.wrap_i64]
  omega
theorem or_byte (v n : Nat) (hv : v < 16777216) (hn : n < 256) : bits .or .i64 ((v : Int) * 256) (n : Int) = ((256 * v + n : Nat) : Int) := by
  have e : (v : Int) * 256 = ((v * 256 : Nat) : Int) := by omega
  have h : (v * 2 ^ 8) ||| n = v * 2 ^ 8 + n := by
    rw [Nat.mul_comm]
    exact (Nat.two_pow_add_eq_or_of_lt hn v).symm
  rw [e, or_i64 _ _ (by omega) (by omega), show v * 256 = v * 2 ^ 8 from rfl, h]
  omega

set_option maxRecDepth 100000 in
set_option maxHeartbeats 800000 in
theorem implReadAddr_any (L : World → Prop) (hL : SplitGives L) (s : ByteArray) (hs : s.size ≤ 1048576) (w : World) (hw : L w) :
    Calls Tryd.prog 12 #[.string s] w fun e w' => AddrEnd s e ∧ Below w.heap.size w w' := by
  have H1 := Lib.hid (hL.split s hs w hw)
  have HD := Lib.hid (readPart_any L hL.toDecGives)
  have HL := Lib.hid hL
  have HW := Lib.hid hw
  clear hL hw
  go_enter Tryd.func12, Tryd.ntmps12
  go_wp2_with fail
  refine (H1.out).mono ?_
  rintro e w1 ⟨ps, cap, rfl, hb1, hlt1, hcell, h5, hy, hn⟩
  have HB1 := Lib.hid hb1
  have HW1 := Lib.hid (HL.out.stays _ _ HW.out hb1)
  by_cases h4 : ps.length = 4
  · have PS := Lib.hid (hy h4)
    have HC := Lib.hid hcell
    clear hy hn hb1 hcell h5
    have g4 : ((ps.length : Int) != 4) = false := by rw [bne_eq_false_iff_eq]; omega
    go_wp2_with fail
    go_loopw [5, 17] (fun o c wr => ∃ ns : List Nat, ns.length ≤ 4 ∧ c = .int .i64 ns.length ∧ (∀ n ∈ ns, n < 256) ∧ Hid (ns.map Lib.decDigits = (ps.map (·.data.toList)).take ns.length) ∧ byteVal ns < 256 ^ ns.length ∧ o = .int .i64 (byteVal ns) ∧ Below w.heap.size w wr ∧ Below w1.heap.size w1 wr) (fun _ c _ => 4 - (intOf c).toNat)
    case atStart => exact ⟨[], by simp, rfl, by simp, rfl, by decide, rfl, HB1.out, Below.refl _ _⟩
    case round =>
      obtain ⟨ns, hn4, rfl, hns, HM, hv, rfl, hnx, hn1⟩ := hrel
      by_cases hlt : ns.length < 4
      · have hlt' : (ns.length : Int) < (ps.length : Int) := by omega
        obtain ⟨p, hp⟩ : ∃ p, ps[ns.length]? = some p := ⟨_, List.getElem?_eq_getElem (by omega)⟩
        have hc := HC.out ns.length p hp
        rw [← hn1.cell (p := ⟨w.heap.size, ns.length, none⟩) hlt1] at hc
        have hpw : 256 ^ ns.length ≤ 16777216 := Nat.pow_le_pow_right (n := 256) (by omega) (show ns.length ≤ 3 by omega)
        have HRD := Lib.hid (fun X hX => HD.out p X hX)
        have HNX := Lib.hid hnx
        have HN1 := Lib.hid hn1
        have HWR := Lib.hid (HL.out.stays _ _ HW1.out hn1)
        have HP := Lib.hid hp
        have HNS := Lib.hid hns
        have HV0 := Lib.hid hv
        obtain ⟨v, V⟩ : ∃ v, Hid (v = byteVal ns) := ⟨_, rfl⟩
        rw [← V.out] at hv ⊢
        have hvl : v < 16777216 := by omega
        clear hns hn4 hnx hn1 hv hp
        go_wp2_with fail
        refine (HRD.out _ HWR.out).mono ?_
        rintro e w2 ⟨hpe, hb2⟩
        have HB2 := Lib.hid hb2
        clear hb2
        rcases hpe with ⟨n, hn256, hdec, rfl⟩ | ⟨hno, rfl⟩
        · have hor := or_byte v n hvl hn256
          have HDEC := Lib.hid hdec
          clear hdec
          go_wp2_with fail
          go_roundw
          case rel =>
            have hm2 : (ns ++ [n]).map Lib.decDigits = (ps.map (·.data.toList)).take (ns ++ [n]).length := by
              rw [List.map_append, HM.out, List.length_append, List.length_singleton, List.take_add_one]
              congr 1
              rw [List.map_cons, List.map_nil, HDEC.out, List.getElem?_map, HP.out]
              rfl
            have hall : ∀ k ∈ ns ++ [n], k < 256 := fun k hk => by
              rcases List.mem_append.1 hk with h | h
              · exact HNS.out k h
              · rw [List.mem_singleton.1 h]; exact hn256
            refine ⟨ns ++ [n], by simp; omega, by simp, hall, hm2, ?_, ?_, HNX.out.trans (HB2.out.mono HNX.out.size), HN1.out.trans (HB2.out.mono HN1.out.size)⟩
            · rw [byteVal_snoc, List.length_append, List.length_singleton]
              exact byteVal_next _ n _ HV0.out hn256
            · rw [byteVal_snoc, ← V.out]
              go_num
          case measure => simp [intOf]; omega
        · have hend : Hid (∀ a, a ≤ 4294967295 → s.data.toList ≠ addrL a) := fun a ha => no_addr _ (ps.map (·.data.toList)) PS.out.symm ns.length hlt (fun m hm e => hno m hm (by rw [e, List.getD_eq_getElem?_getD, List.getElem?_map, HP.out]; rfl)) a ha
          clear hno
          go_wp2_with fail
          go_ret2
          exact ⟨.inr ⟨hend.out, rfl⟩, HNX.out.trans (HB2.out.mono HNX.out.size)⟩
      · have hlt' : ¬ ((ns.length : Int) < (ps.length : Int)) := by omega
        have h44 : ns.length = 4 := by omega
        have hy := yes_addr s.data.toList ns h44 hns (by rw [HM.out, h44, PS.out, ← h4, ← List.length_map (f := fun x : ByteArray => x.data.toList), PS.out, List.take_length])
        have HY := Lib.hid hy
        clear hy hns hv
        go_wp2_with fail
        go_ret2
        exact ⟨.inl ⟨_, HY.out.2, HY.out.1, rfl⟩, hnx⟩
  · have g4 : ((ps.length : Int) != 4) = true := by rw [bne_iff_ne]; omega
    have hend : Hid (∀ a, a ≤ 4294967295 → s.data.toList ≠ addrL a) := fun a _ => no_addr_count _ (hn h4) a
    clear hy hn hcell
    go_wp2_with fail
    go_ret2
    exact ⟨.inr ⟨hend.out, rfl⟩, HB1.out⟩

theorem implReadAddr_yesL (L : World → Prop) (hL : SplitGives L) (a : Nat) (ha : a ≤ 4294967295) (w : World) (hw : L w) :
    Calls Tryd.prog 12 #[.string (addrP a)] w fun e w' => e = .returned (.tuple #[.int .i64 (a : Nat), .bool true]) ∧ Below w.heap.size w w' := by
  have hz := addrP_size a ha
  have hl : (addrP a).data.toList = addrL a := by simp [addrP]
  refine (implReadAddr_any L hL (addrP a) (by omega) w hw).mono ?_
  rintro e w' ⟨⟨b, _, h2, rfl⟩ | ⟨h, _⟩, hb⟩
  · rw [addrL_inj a b (hl.symm.trans h2)]
    exact ⟨rfl, hb⟩
  · exact absurd hl (h a ha)
theorem implReadAddr_noL (L : World → Prop) (hL : SplitGives L) (s : ByteArray) (hs : s.size ≤ 1048576) (h : ∀ a, a ≤ 4294967295 → s.data.toList ≠ addrL a) (w : World) (hw : L w) :
    Calls Tryd.prog 12 #[.string s] w fun e w' => e = .returned (.tuple #[.int .i64 0, .bool false]) ∧ Below w.heap.size w w' := by
  refine (implReadAddr_any L hL s hs w hw).mono ?_
  rintro e w' ⟨⟨b, h1, h2, rfl⟩ | ⟨_, h2⟩, hb⟩
  · exact absurd h2 (h b h1)
  · exact ⟨h2, hb⟩

end Go.Proofs.YtmmippdommemmaoDoor

/-
  The program's first state, a state read of its bytes, and whole blocks gone through.
  The program's ending of a text: what it is filled up with.
  The program's HashMore.
  The program's HashEnd.
-/
import Derived.Test.YtoaifgblbfdncabGreatDoorJ26
import Derived.Test.YtoaifgblbfdncabGreatDoorJ29
import Derived.Lib.Repeat
namespace Go.Proofs.YtoaifgblbfdncabGreatDoor
open Go.RowKit

/-- Words, filled up with zeros to eight. -/
def filled8 (l : List Nat) : List Nat := l ++ List.replicate (8 - l.length) 0
/-- The result's variable, and one more, each of eight words. -/
structure WE (w : World) (t : TypeId) (xs : List Nat) (X : World) : Prop where
  res : ArrW w.heap.size t (filled8 []) X
  arr : ArrW (w.heap.size + 1) t xs X
  below : Below w.heap.size w X
theorem WE.next {w : World} {t : TypeId} {xs : List Nat} {X Y : World} (h : WE w t xs X) (hb : Below X.heap.size X Y) : WE w t xs Y := ⟨h.res.next hb, h.arr.next hb, h.below.trans (hb.mono h.below.size)⟩
theorem WE.store {w : World} {t : TypeId} {xs : List Nat} {X : World} (h : WE w t xs X) (j x : Nat) : WE w t (xs.set j x) (X.setCell ⟨w.heap.size + 1, j, none⟩ (.int .u32 (x : Int))) :=
  ⟨h.res.set_other ⟨w.heap.size + 1, j, none⟩ (by show w.heap.size + 1 ≠ w.heap.size; omega) _, h.arr.set j x, h.below.setCell (p := ⟨w.heap.size + 1, j, none⟩) (by show w.heap.size ≤ w.heap.size + 1; omega) _⟩
theorem WE.new (w : World) (t : TypeId) : WE w t (filled8 []) ((w.alloc (.cells (wcells (filled8 [])).toArray t)).alloc (.cells (wcells (filled8 [])).toArray t)) :=
  ⟨(ArrW.new w t _).alloc _, ArrW.new2 w _ t _, ((Below.refl _ _).alloc (Nat.le_refl _) _).alloc (by simp) _⟩

/-- The size of a text. -/
def strSize : Value → Nat
  | .string b => b.size
  | _ => 0
/-- The state's variable, and the result's. -/
structure BV (w : World) (t : TypeId) (st : List Nat) (X : World) : Prop where
  state : ArrW w.heap.size t st X
  res : ArrW (w.heap.size + 1) t zero8 X
  below : Below w.heap.size w X
theorem BV.step {w : World} {t : TypeId} {st : List Nat} {X Y : World} (h : BV w t st X) (hb : Below X.heap.size X Y) : BV w t st Y := ⟨h.state.next hb, h.res.next hb, h.below.trans (hb.mono h.below.size)⟩
theorem BV.drew {w : World} {t : TypeId} {st : List Nat} {X : World} (h : BV w t st X) : BV w t st X.drew := ⟨h.state.drew, h.res.drew, h.below.drew⟩
theorem BV.turn {w : World} {t : TypeId} {st ms : List Nat} {X Y : World} (h : BV w t st X) (ho : Only w.heap.size X Y) (hn : ArrW w.heap.size t ms Y) : BV w t ms Y :=
  ⟨hn, h.res.only ho (by omega), h.below.trans (ho.below (Nat.le_refl _) h.below.size)⟩
theorem BV.new (w : World) (t : TypeId) (st : List Nat) : BV w t st ((w.alloc (.cells (wcells st).toArray t)).alloc (.cells (wcells zero8).toArray t)) :=
  ⟨(ArrW.new w t _).alloc _, ArrW.new2 w _ t _, ((Below.refl _ _).alloc (Nat.le_refl _) _).alloc (by simp) _⟩
theorem eight_of (st : List Nat) (h : st.length = 8) : ∃ a b c d e f g i, st = [a, b, c, d, e, f, g, i] := by
  match st, h with
  | [a, b, c, d, e, f, g, i], _ => exact ⟨a, b, c, d, e, f, g, i, rfl⟩
theorem front_block (s : ByteArray) (k : Nat) (h : 64 * k + 64 ≤ s.size) : ((s.extract (64 * k) s.size).extract 0 64).data.toList = blockAt s.data.toList k := by
  unfold blockAt
  rw [ByteArray.data_extract, Array.toList_extract, List.extract_eq_take_drop, ByteArray.data_extract, Array.toList_extract, List.extract_eq_take_drop]
  simp only [List.drop_zero, Nat.sub_zero]
  rw [List.take_take]
  congr 1
  omega
theorem rest_block (s : ByteArray) (k : Nat) (h : 64 * k + 64 ≤ s.size) : (s.extract (64 * k) s.size).extract 64 (s.extract (64 * k) s.size).size = s.extract (64 * (k + 1)) s.size := by
  rw [ByteArray.extract_extract, ByteArray.size_extract]
  congr 1 <;> omega

set_option maxRecDepth 100000 in
set_option maxHeartbeats 1600000 in
theorem afterBlocks_any (st : List Nat) (hst : Words st) (hst8 : st.length = 8) (s : ByteArray) (w : World) (hK : LaidK w) :
    Calls Tryz.prog 96 #[stV st, .string s] w fun e w' => e = .returned (.tuple #[stV (eatUp st s.data.toList (s.size / 64)), .string (s.extract (64 * (s.size / 64)) s.size)]) ∧ Below w.heap.size w w' := by
  have V0 := Lib.hid (BV.new w 123 st)
  have HK := Lib.hid hK
  clear hK
  show Calls Tryz.prog 96 #[.agg (wcells st).toArray, .string s] w _
  go_enter Tryz.func96, Tryz.ntmps96
  go_wp2_with fail
  go_loopw [1] (fun v wr => ∃ k : Nat, 64 * k ≤ s.size ∧ v = .string (s.extract (64 * k) s.size) ∧ BV w 123 (eatUp st s.data.toList k) wr) (fun v _ => strSize v)
  case atStart =>
    refine ⟨0, by omega, ?_, V0.out⟩
    rw [Nat.mul_zero, ByteArray.extract_zero_size]
  case round =>
    obtain ⟨k, hk, rfl, hv⟩ := hrel
    have HV := Lib.hid hv
    clear hv V0
    have hl8 := eatUp_length st s.data.toList hst8 k
    have hw8 := eatUp_words st s.data.toList hst k
    obtain ⟨xs, XS⟩ : ∃ xs, Hid (xs = eatUp st s.data.toList k) := ⟨_, rfl⟩
    rw [← XS.out] at HV hl8 hw8
    have hsz : (s.extract (64 * k) s.size).size = s.size - 64 * k := by rw [ByteArray.size_extract]; omega
    obtain ⟨tx, TX⟩ : ∃ tx, Hid (tx = s.extract (64 * k) s.size) := ⟨_, rfl⟩
    rw [← TX.out] at hsz ⊢
    have HSZ := Lib.hid hsz
    by_cases hlt : 64 ≤ (tx.size : Int)
    · have hb64 : (tx.extract 0 64).size = 64 := by rw [ByteArray.size_extract]; omega
      obtain ⟨blk, BK⟩ : ∃ b, Hid (b = tx.extract 0 64) := ⟨_, rfl⟩
      have K1 := fun X (hX : LaidK X) => implRound_any xs hw8 hl8 blk (by rw [BK.out]; exact hb64) X hX
      have hr8 := roundOf_length xs blk.data.toList
      have HR : Hid (roundOf xs blk.data.toList = eatUp st s.data.toList (k + 1)) := by
        show _ = roundOf _ _
        rw [← XS.out, BK.out, TX.out, front_block s k (by omega)]
      have HX : Hid (tx.extract 64 tx.size = s.extract (64 * (k + 1)) s.size) := by
        show _ = _
        rw [TX.out]
        exact rest_block s k (by omega)
      obtain ⟨rs, RS⟩ : ∃ rs, Hid (rs = roundOf xs blk.data.toList) := ⟨_, rfl⟩
      rw [← RS.out] at K1 hr8 HR
      obtain ⟨va, vb, vc, vd, ve, vf, vg, vh, rfl⟩ := eight_of xs hl8
      obtain ⟨ua, ub, uc, ud, ue, uf, ug, uh, rfl⟩ := eight_of rs hr8
      have K2 : Hid (∀ X, LaidK X → Calls Tryz.prog 109 #[.agg #[.int .u32 va, .int .u32 vb, .int .u32 vc, .int .u32 vd, .int .u32 ve, .int .u32 vf, .int .u32 vg, .int .u32 vh], .string blk] X fun e X' => e = .returned (.agg #[.int .u32 ua, .int .u32 ub, .int .u32 uc, .int .u32 ud, .int .u32 ue, .int .u32 uf, .int .u32 ug, .int .u32 uh]) ∧ Below X.heap.size X X') := K1
      have hk1 : Hid (LaidK wr.drew) := HK.out.stays HV.out.drew.below (Nat.le_refl _)
      have c0 : wr.cell? ⟨w.heap.size, 0, none⟩ = some (.int .u32 va) := HV.out.state.cell 0 (by show 0 < 8; decide)
      have c1 : wr.cell? ⟨w.heap.size, 1, none⟩ = some (.int .u32 vb) := HV.out.state.cell 1 (by show 1 < 8; decide)
      have c2 : wr.cell? ⟨w.heap.size, 2, none⟩ = some (.int .u32 vc) := HV.out.state.cell 2 (by show 2 < 8; decide)
      have c3 : wr.cell? ⟨w.heap.size, 3, none⟩ = some (.int .u32 vd) := HV.out.state.cell 3 (by show 3 < 8; decide)
      have c4 : wr.cell? ⟨w.heap.size, 4, none⟩ = some (.int .u32 ve) := HV.out.state.cell 4 (by show 4 < 8; decide)
      have c5 : wr.cell? ⟨w.heap.size, 5, none⟩ = some (.int .u32 vf) := HV.out.state.cell 5 (by show 5 < 8; decide)
      have c6 : wr.cell? ⟨w.heap.size, 6, none⟩ = some (.int .u32 vg) := HV.out.state.cell 6 (by show 6 < 8; decide)
      have c7 : wr.cell? ⟨w.heap.size, 7, none⟩ = some (.int .u32 vh) := HV.out.state.cell 7 (by show 7 < 8; decide)
      have hbk : tx.extract 0 64 = blk := BK.out.symm
      have hn64 : 64 ≤ tx.size := by omega
      clear K1 hsz
      go_wp2_with fail
      go_region_with (first | (go_at_call_of 109 (Value.string blk); refine (K2.out _ hk1.out).mono ?_; rintro e v1 ⟨rfl, hb1⟩; have hR1 := HV.out.drew.step hb1; have m0 := hR1.state.cell 0 (by show 0 < 8; decide); have m1 := hR1.state.cell 1 (by show 1 < 8; decide); have m2 := hR1.state.cell 2 (by show 2 < 8; decide); have m3 := hR1.state.cell 3 (by show 3 < 8; decide); have m4 := hR1.state.cell 4 (by show 4 < 8; decide); have m5 := hR1.state.cell 5 (by show 5 < 8; decide); have m6 := hR1.state.cell 6 (by show 6 < 8; decide); have m7 := hR1.state.cell 7 (by show 7 < 8; decide); have f0 := hR1.state.free 0; have f1 := hR1.state.free 1; have f2 := hR1.state.free 2; have f3 := hR1.state.free 3; have f4 := hR1.state.free 4; have f5 := hR1.state.free 5; have f6 := hR1.state.free 6; have f7 := hR1.state.free 7; have hE1 := Lib.hid (hR1.turn (Only.set8 v1 w.heap.size (.int .u32 ua) (.int .u32 ub) (.int .u32 uc) (.int .u32 ud) (.int .u32 ue) (.int .u32 uf) (.int .u32 ug) (.int .u32 uh)) (hR1.state.set8 rfl ua ub uc ud ue uf ug uh))))
      all_goals
        go_wp2_with fail
        go_roundw
        case rel =>
          refine ⟨k + 1, by have := HSZ.out; omega, by rw [← HX.out], ?_⟩
          rw [← HR.out]
          exact hE1.out
        case measure =>
          have := HSZ.out
          simp [strSize]
          omega
    · have hkk : k = s.size / 64 := by omega
      have hz : zero8.length = xs.length := by rw [hl8]; rfl
      have hinf : (Tryz.prog.info? 123).map (·.size) = some xs.length := by rw [hl8]; kernel_rfl
      have HI := Lib.hid hinf
      clear hinf hsz
      go_wp2_with (first | (refine wpList_loadA _ rfl (.tmp 2) 123 rfl w.heap.size xs rfl Tryz.underlying123 HI.out HV.out.state ?_) | (refine wpList_storeA _ rfl (.tmp 4) (.tmp 15) 123 rfl (w.heap.size + 1) zero8 xs rfl rfl hz HI.out HV.out.res ?_))
      refine bodyPost_ret (v := .tuple #[stV xs, .string tx]) ?_ rfl ⟨?_, ?_⟩
      · have := (HV.out.res.setRow xs).loadVar (P := Tryz.prog) Tryz.underlying123 HI.out
        rw [results_cell_tmp rfl]
        simp [asAddr, Result.andThen, this]
      · rw [XS.out, TX.out, hkk]
      · exact Below.setRow HV.out.below (by omega) _

end Go.Proofs.YtoaifgblbfdncabGreatDoor
namespace Go.Proofs.YtoaifgblbfdncabGreatDoor
open Go.RowKit

theorem bytes_mk (a b : List UInt8) : (⟨a.toArray⟩ : ByteArray) ++ ⟨b.toArray⟩ = ⟨(a ++ b).toArray⟩ := by
  apply ByteArray.ext
  simp
/-- The ending of a text of n bytes. -/
def endL (n : Nat) : List UInt8 := [128] ++ List.replicate (zerosFor (n % 64)) 0 ++ beUp (8 * n) 8
theorem tailOf_end (rest : List UInt8) (n : Nat) (h : rest.length = n % 64) : tailOf rest n = rest ++ endL n := by
  unfold tailOf endL
  rw [h]
  simp only [List.append_assoc]
theorem be_two (m : Nat) (h : m < 18446744073709551616) : beUp m 8 = four (m / 4294967296) ++ four (m % 4294967296) := by
  have e : beUp m 8 = [UInt8.ofNat (m / 256 ^ 7 % 256), UInt8.ofNat (m / 256 ^ 6 % 256), UInt8.ofNat (m / 256 ^ 5 % 256), UInt8.ofNat (m / 256 ^ 4 % 256), UInt8.ofNat (m / 256 ^ 3 % 256), UInt8.ofNat (m / 256 ^ 2 % 256), UInt8.ofNat (m / 256 ^ 1 % 256), UInt8.ofNat (m / 256 ^ 0 % 256)] := rfl
  rw [e]
  unfold four
  have e7 : m / 256 ^ 7 % 256 = m / 4294967296 / 16777216 := by omega
  have e6 : m / 256 ^ 6 % 256 = m / 4294967296 / 65536 % 256 := by omega
  have e5 : m / 256 ^ 5 % 256 = m / 4294967296 / 256 % 256 := by omega
  have e4 : m / 256 ^ 4 % 256 = m / 4294967296 % 256 := by omega
  have e3 : m / 256 ^ 3 % 256 = m % 4294967296 / 16777216 := by omega
  have e2 : m / 256 ^ 2 % 256 = m % 4294967296 / 65536 % 256 := by omega
  have e1 : m / 256 ^ 1 % 256 = m % 4294967296 / 256 % 256 := by omega
  have e0 : m / 256 ^ 0 % 256 = m % 4294967296 % 256 := by omega
  rw [e7, e6, e5, e4, e3, e2, e1, e0]
  rfl

set_option maxRecDepth 100000 in
set_option maxHeartbeats 800000 in
theorem endingOf_any (n : Nat) (hn : n ≤ 1152921504606846975) (w : World) :
    Calls Tryz.prog 97 #[.int .i64 n] w fun e w' => e = .returned (.string ⟨(endL n).toArray⟩) ∧ Below w.heap.size w w' := by
  obtain ⟨r, r1, r2, R⟩ : ∃ r : Nat, (n : Int) % 64 = (r : Int) ∧ r < 64 ∧ Hid (r = n % 64) := ⟨n % 64, by omega, by omega, rfl⟩
  obtain ⟨z, z1, z2, Z⟩ : ∃ z : Nat, (120 - ((r : Int) + 1)) % 64 = (z : Int) ∧ z < 64 ∧ Hid (z = zerosFor (n % 64)) := ⟨zerosFor r, by unfold zerosFor; omega, by unfold zerosFor; omega, by show _ = _; rw [R.out]⟩
  obtain ⟨m, m1, M⟩ : ∃ m : Nat, (n : Int) * 8 = (m : Int) ∧ Hid (m = 8 * n) := ⟨8 * n, by omega, rfl⟩
  have ml : m < 18446744073709551616 := by have := M.out; omega
  have H1 := Lib.hid (Tryz.strings_Repeat ⟨#[0]⟩ z · (by omega) (by show 1 * z ≤ _; omega))
  obtain ⟨hi, h1, h2, h3, HI⟩ : ∃ hi : Nat, (m : Int) / 4294967296 = (hi : Int) ∧ hi < 4294967296 ∧ (hi : Int) % 4294967296 = (hi : Int) ∧ Hid (hi = m / 4294967296) := ⟨m / 4294967296, by omega, by omega, by omega, rfl⟩
  obtain ⟨lo, l1, l2, LO⟩ : ∃ lo : Nat, (m : Int) % 4294967296 = (lo : Int) ∧ lo < 4294967296 ∧ Hid (lo = m % 4294967296) := ⟨m % 4294967296, by omega, by omega, rfl⟩
  have H2 := Lib.hid (wordText_any hi h2)
  have H3 := Lib.hid (wordText_any lo l2)
  have HE : Hid (endL n = [128] ++ List.replicate z 0 ++ four hi ++ four lo) := by
    show _ = _
    unfold endL
    rw [be_two (8 * n) (by omega), Z.out, HI.out, LO.out, M.out]
    simp only [List.append_assoc]
  have e0 : Lib.repeatL [(0 : UInt8)] z = List.replicate z 0 := by
    have := Lib.repeatL_replicate 0 1 z
    rw [Nat.mul_one] at this
    exact this
  obtain ⟨zs, s0, ZS⟩ : ∃ b : ByteArray, b.size = z ∧ Hid (b = ⟨(List.replicate z (0 : UInt8)).toArray⟩) := ⟨_, by show (List.replicate z (0 : UInt8)).toArray.size = z; simp, rfl⟩
  obtain ⟨b1, s1, BB1⟩ : ∃ b : ByteArray, b.size = 4 ∧ Hid (b = ⟨(four hi).toArray⟩) := ⟨_, rfl, rfl⟩
  obtain ⟨b2, s2, BB2⟩ : ∃ b : ByteArray, b.size = 4 ∧ Hid (b = ⟨(four lo).toArray⟩) := ⟨_, rfl, rfl⟩
  have E0 : Hid (∀ x, Calls Tryz.prog 89 #[.string ⟨#[0]⟩, .int .i64 z] x fun e w' => e = .returned (.string zs) ∧ Below x.heap.size x w') := fun x => by
    have := H1.out x
    rw [e0, ← ZS.out] at this
    exact this
  rw [← BB1.out] at H2
  rw [← BB2.out] at H3
  have t0 : (⟨#[128]⟩ : ByteArray).size = 1 := rfl
  clear H1 e0
  go_enter Tryz.func97, Tryz.ntmps97
  go_wp2_with fail
  refine (E0.out _).mono ?_
  rintro e w1 ⟨rfl, hb1⟩
  have HB1 := Lib.hid hb1
  clear hb1
  go_wp2_with fail
  refine (H2.out _).mono ?_
  rintro e w2 ⟨rfl, hb2⟩
  have HB2 := Lib.hid (HB1.out.trans (hb2.mono HB1.out.size))
  clear hb2
  go_wp2_with fail
  refine (H3.out _).mono ?_
  rintro e w3 ⟨rfl, hb3⟩
  have HB3 := Lib.hid (HB2.out.trans (hb3.mono HB2.out.size))
  clear hb3
  go_wp2_with fail
  go_ret
  refine ⟨congrArg (fun z => Ending.returned (.string z)) ?_, HB3.out⟩
  rw [HE.out, ← bytes_mk, ← bytes_mk, ← bytes_mk, ZS.out, BB1.out, BB2.out]

end Go.Proofs.YtoaifgblbfdncabGreatDoor
namespace Go.Proofs.YtoaifgblbfdncabGreatDoor
open Go.RowKit

/-- The parameter's variable, and the result's, whatever it holds. -/
structure TT (w : World) (t : TypeId) (a b c : Value) (X : World) : Prop where
  v : VarT w.heap.size t a b c X
  r : ∃ x y z, VarT (w.heap.size + 1) t x y z X
  below : Below w.heap.size w X
theorem TT.next {w : World} {t : TypeId} {a b c : Value} {X Y : World} (h : TT w t a b c X) (hb : Below X.heap.size X Y) : TT w t a b c Y := by
  obtain ⟨x, y, z, hr⟩ := h.r
  exact ⟨h.v.next hb, ⟨x, y, z, hr.next hb⟩, h.below.trans (hb.mono h.below.size)⟩
theorem TT.drew {w : World} {t : TypeId} {a b c : Value} {X : World} (h : TT w t a b c X) : TT w t a b c X.drew := by
  obtain ⟨x, y, z, hr⟩ := h.r
  exact ⟨h.v.drew, ⟨x, y, z, hr.drew⟩, h.below.drew⟩
theorem TT.alloc {w : World} {t : TypeId} {a b c : Value} {X : World} (h : TT w t a b c X) (o : Obj) : TT w t a b c (X.alloc o) := h.next ((Below.refl _ _).alloc (Nat.le_refl _) o)
theorem TT.new (w : World) (t : TypeId) (a b c : Value) : TT w t a b c ((w.alloc (.cells #[a, b, c] t)).alloc (.cells #[.string ⟨#[]⟩, .string ⟨#[]⟩, .int .i64 0] t)) := by
  refine ⟨(VarT.new w t a b c).next ((Below.refl _ _).alloc (Nat.le_refl _) _), ⟨.string ⟨#[]⟩, .string ⟨#[]⟩, .int .i64 0, ?_⟩, ((Below.refl _ _).alloc (Nat.le_refl _) _).alloc (by simp) _⟩
  have h := VarT.new (w.alloc (.cells #[a, b, c] t)) t (.string ⟨#[]⟩) (.string ⟨#[]⟩) (.int .i64 0)
  have e : (w.alloc (.cells #[a, b, c] t)).heap.size = w.heap.size + 1 := by simp
  rw [e] at h
  exact h
/-- What the last store of a call wants, and what it leaves. -/
theorem TT.store {w : World} {t : TypeId} {a b c : Value} {X : World} (h : TT w t a b c X) (x y z : Value) :
    (∃ p, X.cell? ⟨w.heap.size + 1, 0, none⟩ = some p) ∧ (∃ p, X.cell? ⟨w.heap.size + 1, 1, none⟩ = some p) ∧ (∃ p, X.cell? ⟨w.heap.size + 1, 2, none⟩ = some p) ∧
    X.frozen? ⟨w.heap.size + 1, 0, none⟩ = false ∧ X.frozen? ⟨w.heap.size + 1, 1, none⟩ = false ∧ X.frozen? ⟨w.heap.size + 1, 2, none⟩ = false ∧
    VarT (w.heap.size + 1) t x y z (((X.setCell ⟨w.heap.size + 1, 0, none⟩ x).setCell ⟨w.heap.size + 1, 1, none⟩ y).setCell ⟨w.heap.size + 1, 2, none⟩ z) ∧
    TT w t a b c (((X.setCell ⟨w.heap.size + 1, 0, none⟩ x).setCell ⟨w.heap.size + 1, 1, none⟩ y).setCell ⟨w.heap.size + 1, 2, none⟩ z) := by
  obtain ⟨x0, y0, z0, hr⟩ := h.r
  have ho := Only.set3 X (w.heap.size + 1) x y z
  exact ⟨⟨_, hr.c0⟩, ⟨_, hr.c1⟩, ⟨_, hr.c2⟩, hr.free 0, hr.free 1, hr.free 2, hr.set3 x y z, ⟨h.v.only ho (by omega), ⟨x, y, z, hr.set3 x y z⟩, h.below.trans (ho.below (by omega) h.below.size)⟩⟩
/-- A variable of eight words is none of those of three cells. -/
theorem VarT.other {r q : Nat} {t t8 : TypeId} {a b c : Value} {us : List Nat} {X : World} (h : VarT r t a b c X) (hA : ArrW q t8 us X) (hl : us.length = 8) : r ≠ q := by
  rintro rfl
  have e := h.row.symm.trans hA.row
  simp only [Option.some.injEq, Obj.cells.injEq] at e
  have e2 := congrArg Array.size e.1
  simp [wcells_length, hl] at e2
theorem TT.eight {w : World} {t t8 : TypeId} {a b c : Value} {q : Nat} {zs : List Nat} {X : World} (h : TT w t a b c X) (hA : ArrW q t8 zs X) (hl : zs.length = 8) (hq : w.heap.size ≤ q) (u0 u1 u2 u3 u4 u5 u6 u7 : Nat) :
    TT w t a b c ((((((((X.setCell ⟨q, 0, none⟩ (.int .u32 (u0 : Int))).setCell ⟨q, 1, none⟩ (.int .u32 (u1 : Int))).setCell ⟨q, 2, none⟩ (.int .u32 (u2 : Int))).setCell ⟨q, 3, none⟩ (.int .u32 (u3 : Int))).setCell ⟨q, 4, none⟩ (.int .u32 (u4 : Int))).setCell ⟨q, 5, none⟩ (.int .u32 (u5 : Int))).setCell ⟨q, 6, none⟩ (.int .u32 (u6 : Int))).setCell ⟨q, 7, none⟩ (.int .u32 (u7 : Int))) ∧ ArrW q t8 [u0, u1, u2, u3, u4, u5, u6, u7] ((((((((X.setCell ⟨q, 0, none⟩ (.int .u32 (u0 : Int))).setCell ⟨q, 1, none⟩ (.int .u32 (u1 : Int))).setCell ⟨q, 2, none⟩ (.int .u32 (u2 : Int))).setCell ⟨q, 3, none⟩ (.int .u32 (u3 : Int))).setCell ⟨q, 4, none⟩ (.int .u32 (u4 : Int))).setCell ⟨q, 5, none⟩ (.int .u32 (u5 : Int))).setCell ⟨q, 6, none⟩ (.int .u32 (u6 : Int))).setCell ⟨q, 7, none⟩ (.int .u32 (u7 : Int))) := by
  obtain ⟨x, y, z, hr⟩ := h.r
  have ho := Only.set8 X q (.int .u32 (u0 : Int)) (.int .u32 (u1 : Int)) (.int .u32 (u2 : Int)) (.int .u32 (u3 : Int)) (.int .u32 (u4 : Int)) (.int .u32 (u5 : Int)) (.int .u32 (u6 : Int)) (.int .u32 (u7 : Int))
  exact ⟨⟨h.v.only ho (h.v.other hA hl), ⟨x, y, z, hr.only ho (hr.other hA hl)⟩, h.below.trans (ho.below hq h.below.size)⟩, hA.set8 hl u0 u1 u2 u3 u4 u5 u6 u7⟩
end Go.Proofs.YtoaifgblbfdncabGreatDoor
namespace Go.Proofs.YtoaifgblbfdncabGreatDoor
open Go.RowKit

/-- The parameter's variable. -/
structure OV (w : World) (t : TypeId) (a b c : Value) (X : World) : Prop where
  v : VarT w.heap.size t a b c X
  below : Below w.heap.size w X
theorem OV.next {w : World} {t : TypeId} {a b c : Value} {X Y : World} (h : OV w t a b c X) (hb : Below X.heap.size X Y) : OV w t a b c Y := ⟨h.v.next hb, h.below.trans (hb.mono h.below.size)⟩
theorem OV.drew {w : World} {t : TypeId} {a b c : Value} {X : World} (h : OV w t a b c X) : OV w t a b c X.drew := ⟨h.v.drew, h.below.drew⟩
theorem OV.alloc {w : World} {t : TypeId} {a b c : Value} {X : World} (h : OV w t a b c X) (o : Obj) : OV w t a b c (X.alloc o) := h.next ((Below.refl _ _).alloc (Nat.le_refl _) o)
theorem OV.new (w : World) (t : TypeId) (a b c : Value) : OV w t a b c (w.alloc (.cells #[a, b, c] t)) := ⟨VarT.new w t a b c, (Below.refl _ _).alloc (Nat.le_refl _) _⟩
/-- A new variable of eight words. -/
structure Fresh (w : World) (q : Nat) (t8 : TypeId) (X : World) : Prop where
  arr : ArrW q t8 zero8 X
  ge : w.heap.size ≤ q
theorem Fresh.next {w : World} {q : Nat} {t8 : TypeId} {X Y : World} (h : Fresh w q t8 X) (hb : Below X.heap.size X Y) : Fresh w q t8 Y := ⟨h.arr.next hb, h.ge⟩
theorem OV.eight {w : World} {t t8 : TypeId} {a b c : Value} {q : Nat} {X : World} (h : OV w t a b c X) (hF : Fresh w q t8 X) (u0 u1 u2 u3 u4 u5 u6 u7 : Nat) :
    OV w t a b c ((((((((X.setCell ⟨q, 0, none⟩ (.int .u32 (u0 : Int))).setCell ⟨q, 1, none⟩ (.int .u32 (u1 : Int))).setCell ⟨q, 2, none⟩ (.int .u32 (u2 : Int))).setCell ⟨q, 3, none⟩ (.int .u32 (u3 : Int))).setCell ⟨q, 4, none⟩ (.int .u32 (u4 : Int))).setCell ⟨q, 5, none⟩ (.int .u32 (u5 : Int))).setCell ⟨q, 6, none⟩ (.int .u32 (u6 : Int))).setCell ⟨q, 7, none⟩ (.int .u32 (u7 : Int))) ∧ ArrW q t8 [u0, u1, u2, u3, u4, u5, u6, u7] ((((((((X.setCell ⟨q, 0, none⟩ (.int .u32 (u0 : Int))).setCell ⟨q, 1, none⟩ (.int .u32 (u1 : Int))).setCell ⟨q, 2, none⟩ (.int .u32 (u2 : Int))).setCell ⟨q, 3, none⟩ (.int .u32 (u3 : Int))).setCell ⟨q, 4, none⟩ (.int .u32 (u4 : Int))).setCell ⟨q, 5, none⟩ (.int .u32 (u5 : Int))).setCell ⟨q, 6, none⟩ (.int .u32 (u6 : Int))).setCell ⟨q, 7, none⟩ (.int .u32 (u7 : Int))) := by
  have ho := Only.set8 X q (.int .u32 (u0 : Int)) (.int .u32 (u1 : Int)) (.int .u32 (u2 : Int)) (.int .u32 (u3 : Int)) (.int .u32 (u4 : Int)) (.int .u32 (u5 : Int)) (.int .u32 (u6 : Int)) (.int .u32 (u7 : Int))
  exact ⟨⟨h.v.only ho (h.v.other hF.arr rfl), h.below.trans (ho.below hF.ge h.below.size)⟩, hF.arr.set8 rfl u0 u1 u2 u3 u4 u5 u6 u7⟩

theorem end_state (st rest : ByteArray) (N : Nat) (hr : rest.size = N % 64) : eatUp (wordsOf st.data.toList) (rest ++ ⟨(endL N).toArray⟩).data.toList ((rest ++ ⟨(endL N).toArray⟩).size / 64) = endState st rest N := by
  have e1 : (rest ++ ⟨(endL N).toArray⟩ : ByteArray).data.toList = tailOf rest.data.toList N := by
    rw [tailOf_end rest.data.toList N (by simpa using hr)]
    simp
  have e2 : (rest ++ ⟨(endL N).toArray⟩ : ByteArray).size = (tailOf rest.data.toList N).length := by
    rw [← e1]
    simp
    rfl
  unfold endState
  rw [e2, e1]
theorem endL_length (N : Nat) : (endL N).length ≤ 128 := by
  unfold endL zerosFor
  simp only [List.length_append, List.length_replicate, beUp_length, List.length_cons, List.length_nil]
  omega

end Go.Proofs.YtoaifgblbfdncabGreatDoor

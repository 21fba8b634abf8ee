/-
  The given ReadPacket.
-/
import Derived.Test.YtdhacjpdlmnlmarDoorJ17
import Derived.Deep.RegionLaw
import Derived.Deep.CutBlock
import Derived.Deep.DeepCutAuto
namespace Go.Proofs.YtdhacjpdlmnlmarDoor
open Go.RowKit

/-- What ReadPacket answers. -/
def PkEnd (text : ByteArray) (w : World) (e : Ending) (w' : World) : Prop :=
  (∃ (p : PI) (v : Value) (f : List Nat), p.says text ∧ e = .returned (.tuple #[.agg #[.int .i64 p.op, .int .i64 p.key, .int .i64 p.fr, .int .i64 p.dst, .int .i64 p.num, v, .string p.body], .bool true]) ∧ layIntS.own w' w.heap.size f [v] p.acks ∧ Below w.heap.size w w') ∨
  ((∀ p : PI, ¬ p.says text) ∧ e = .returned (.tuple #[.agg #[.int .i64 0, .int .i64 0, .int .i64 0, .int .i64 0, .int .i64 0, .slice none 0 0, .string ⟨#[]⟩], .bool false]) ∧ Below w.heap.size w w')

theorem track_step {text s : ByteArray} {a a' r k n : Nat} {b' : Bool} {xs : List Int} (hF : ∀ n t, readV (s.data.toList.drop a) = some (n, t) → r = n ∧ t = s.data.toList.drop a' ∧ b' = false) (HN : ∀ p : PI, p.says text → n = p.acks.length) (hlt : k < n)
    (HT : ∀ p : PI, p.says text → (k ≤ p.acks.length ∧ xs = p.acks.take k) ∧ s.data.toList.drop a = (p.accs.drop k).flatMap var ++ p.body.data.toList) :
    ∀ p : PI, p.says text → (k + 1 ≤ p.acks.length ∧ xs ++ [(r : Int)] = p.acks.take (k + 1)) ∧ b' = false ∧ s.data.toList.drop a' = (p.accs.drop (k + 1)).flatMap var ++ p.body.data.toList := fun p hp => by
  obtain ⟨⟨h1, h2⟩, h3⟩ := HT p hp
  have hn := HN p hp
  have hka : k < p.acks.length := by omega
  have hkb : k < p.accs.length := by show k < (p.acks.map Int.toNat).length; rw [List.length_map]; exact hka
  have e : p.accs[k] = (p.acks[k]).toNat := by simp [PI.accs]
  have hx := (hp.1.2.2.2.2.2.2.2.1 _ (List.getElem_mem hka)).1
  rw [List.drop_eq_getElem_cons hkb, List.flatMap_cons, List.append_assoc] at h3
  have h4 := readV_var p.accs[k] (by rw [e]; omega) ((p.accs.drop (k + 1)).flatMap var ++ p.body.data.toList)
  rw [← h3] at h4
  obtain ⟨k1, k2, k3⟩ := hF _ _ h4
  refine ⟨⟨hka, ?_⟩, k3, k2.symm⟩
  rw [List.take_add_one, List.getElem?_eq_getElem hka, ← h2, k1, e]
  have : ((p.acks[k].toNat : Nat) : Int) = p.acks[k] := by omega
  rw [this]
  rfl
theorem track_end {text s body : ByteArray} {a k n : Nat} {xs : List Int} {op key fr dst num : Int} (hb : body.data.toList = s.data.toList.drop a) (hk : n ≤ k ∨ 20 ≤ k)
    (HV : ∀ p : PI, p.says text → op = p.op ∧ key = p.key ∧ fr = p.fr ∧ dst = p.dst ∧ num = p.num ∧ n = p.acks.length)
    (HT : ∀ p : PI, p.says text → (k ≤ p.acks.length ∧ xs = p.acks.take k) ∧ s.data.toList.drop a = (p.accs.drop k).flatMap var ++ p.body.data.toList) :
    ∀ p : PI, p.says text → p = ⟨op, key, fr, dst, num, xs, body⟩ := fun p hp => by
  obtain ⟨⟨h1, h2⟩, h3⟩ := HT p hp
  obtain ⟨rfl, rfl, rfl, rfl, rfl, hn⟩ := HV p hp
  have h4 := hp.1.2.2.2.2.2.1
  have hkk : k = p.acks.length := by omega
  have e1 : xs = p.acks := by rw [h2, hkk, List.take_length]
  have e2 : p.accs.drop k = [] := by rw [hkk]; apply List.drop_eq_nil_of_le; show (p.acks.map Int.toNat).length ≤ _; rw [List.length_map]; omega
  rw [e2] at h3
  have e3 : body = p.body := byteArray_eq (by rw [hb, h3]; rfl)
  rw [e1, e3]

set_option maxRecDepth 100000 in
set_option maxHeartbeats 12800000 in
theorem specReadPacket_any (text : ByteArray) (hs : text.size ≤ 1048576) (w : World) :
    Calls Tryd.prog 4 #[.string text] w (PkEnd text w) := by
  obtain ⟨s, ok, hsz, hU, hT⟩ := unsealed_one text hs
  have KU := Lib.hid hU
  have T0 : Hid (∀ p : PI, p.says text → (!ok) = false ∧ s.data.toList.drop 0 = UInt8.ofNat (8 * p.op.toNat + p.key.toNat) :: UInt8.ofNat p.fr.toNat :: UInt8.ofNat p.dst.toNat :: p.t3) := fun p hp => by
    obtain ⟨h1, h2⟩ := hT _ (PI.few hp) hp.2
    rw [h2, List.drop_zero, h1]
    exact ⟨rfl, rfl⟩
  obtain ⟨b0, hb0⟩ : ∃ b : Bool, b = !ok := ⟨_, rfl⟩
  rw [← hb0] at T0
  have A0 := Lib.hid (VarA.new w PkT #[.int .i64 0, .int .i64 0, .int .i64 0, .int .i64 0, .int .i64 0, .slice none 0 0, .string ⟨#[]⟩])
  have B0 := Lib.hid ((Below.refl w.heap.size w).alloc (Nat.le_refl _) (.cells #[.int .i64 0, .int .i64 0, .int .i64 0, .int .i64 0, .int .i64 0, .slice none 0 0, .string ⟨#[]⟩] PkT))
  clear hU hT
  go_enter Tryd.func4, Tryd.ntmps4
  go_upto_region 1 with fail
  generalize w.alloc (.cells #[.int .i64 0, .int .i64 0, .int .i64 0, .int .i64 0, .int .i64 0, .slice none 0 0, .string ⟨#[]⟩] PkT) = X0 at *
  go_wp2_with fail
  refine (KU.out _).mono ?_
  rintro e X1 ⟨rfl, hb1⟩
  have A1 := Lib.hid (A0.out.next hb1)
  have B1 := Lib.hid (B0.out.trans (hb1.mono B0.out.size))
  clear hb1 KU A0 B0 X0
  have V2 := Lib.hid (VarA.new X1 CuT #[.string s, .int .i64 ((0 : Nat) : Int), .bool (!ok)])
  have A2 := Lib.hid (A1.out.alloc (.cells #[.string s, .int .i64 ((0 : Nat) : Int), .bool (!ok)] CuT))
  have B2 := Lib.hid (B1.out.alloc B1.out.size (.cells #[.string s, .int .i64 ((0 : Nat) : Int), .bool (!ok)] CuT))
  have hc : w.heap.size < X1.heap.size := A1.out.lt
  clear A1 B1
  go_upto_region 3 with fail
  have hbo : (Value.bool !ok) = Value.bool b0 := by rw [hb0]
  rw [hbo] at V2 A2 B2
  try rw [hbo]
  generalize X1.alloc (.cells #[.string s, .int .i64 ((0 : Nat) : Int), .bool b0] CuT) = X2 at *
  generalize X1.heap.size = c at *
  clear hbo hb0
  go_wp2_with fail
  refine (one_any c s 0 b0 (by omega) (by omega) _ V2.out).mono ?_
  rintro e X3 ⟨r0, a1, b1, hr0, ha1, rfl, hV, hO, hF⟩
  have T1 := Lib.hid (one_step (R := fun p => p.says text) hF T0.out)
  have A3 := Lib.hid (A2.out.only hO (by omega))
  have B3 := Lib.hid (B2.out.trans (only_below hO (by omega) B2.out.size))
  have V3 := Lib.hid hV
  clear hV hO hF V2 A2 B2 T0 X2
  go_upto_region 5 with fail
  have HOK : Hid (((r0 : Int) / 8) = ((r0 / 8 : Nat) : Int) ∧ ((r0 : Int) % 8) = ((r0 % 8 : Nat) : Int)) := ⟨by omega, by omega⟩
  generalize ((r0 : Int) / 8) = op at *
  generalize ((r0 : Int) % 8) = key at *
  have R4 : Hid (RP w c X3.heap.size s a1 b1 #[.int .i64 op, .int .i64 key, .int .i64 0, .int .i64 0, .int .i64 0, .slice none 0 0, .string ⟨#[]⟩] (.slice none 0 0) [] (X3.alloc (.cells #[.int .i64 op, .int .i64 key, .int .i64 0, .int .i64 0, .int .i64 0, .slice none 0 0, .string ⟨#[]⟩] PkT))) := ⟨V3.out.alloc _, A3.out.alloc _, VarA.new _ _ _, ⟨[], _, rfl, .inl ⟨rfl, rfl, rfl⟩⟩, ⟨hc, V3.out.lt⟩, B3.out.alloc B3.out.size _⟩
  clear V3 A3 B3
  generalize X3.alloc (.cells #[.int .i64 op, .int .i64 key, .int .i64 0, .int .i64 0, .int .i64 0, .slice none 0 0, .string ⟨#[]⟩] PkT) = X4 at *
  generalize X3.heap.size = q at *
  clear X3
  go_wp2_with fail
  refine (one_any c s a1 b1 ha1 (by omega) _ R4.out.cur).mono ?_
  rintro e Y4 ⟨r1, a2, b2, hr1, ha2, rfl, hV, hO, hF⟩
  have T2 := Lib.hid (one_step (R := fun p => p.says text) hF (fun p hp => (T1.out p hp).1))
  have R4y := Lib.hid (R4.out.step hV hO)
  have c2 : Y4.cell? ⟨q, 2, none⟩ = some (.int .i64 0) := R4y.out.var.cell 2
  have f2 := R4y.out.var.free 2
  have R5 : Hid (RP w c q s a2 b2 #[.int .i64 op, .int .i64 key, .int .i64 (r1 : Int), .int .i64 0, .int .i64 0, .slice none 0 0, .string ⟨#[]⟩] (.slice none 0 0) [] (Y4.setCell ⟨q, 2, none⟩ (.int .i64 (r1 : Int)))) := R4y.out.set 2 _
  clear hV hO hF R4 R4y X4
  go_upto_region 6 with fail
  generalize Y4.setCell ⟨q, 2, none⟩ (.int .i64 (r1 : Int)) = X5 at *
  clear c2 f2 Y4
  go_wp2_with fail
  refine (one_any c s a2 b2 ha2 (by omega) _ R5.out.cur).mono ?_
  rintro e Y5 ⟨r2, a3, b3, hr2, ha3, rfl, hV, hO, hF⟩
  have T3 := Lib.hid (one_step (R := fun p => p.says text) hF (fun p hp => (T2.out p hp).1))
  have R5y := Lib.hid (R5.out.step hV hO)
  have c2 : Y5.cell? ⟨q, 3, none⟩ = some (.int .i64 0) := R5y.out.var.cell 3
  have f2 := R5y.out.var.free 3
  have R6 : Hid (RP w c q s a3 b3 #[.int .i64 op, .int .i64 key, .int .i64 (r1 : Int), .int .i64 (r2 : Int), .int .i64 0, .slice none 0 0, .string ⟨#[]⟩] (.slice none 0 0) [] (Y5.setCell ⟨q, 3, none⟩ (.int .i64 (r2 : Int)))) := R5y.out.set 3 _
  clear hV hO hF R5 R5y X5
  go_upto_region 7 with fail
  generalize Y5.setCell ⟨q, 3, none⟩ (.int .i64 (r2 : Int)) = X6 at *
  clear c2 f2 Y5
  go_wp2_with fail
  refine (varc_any c s a3 b3 ha3 (by omega) _ R6.out.cur).mono ?_
  rintro e Y6 ⟨r3, a4, b4, hr3, ha4, rfl, hV, hO, hF⟩
  have T4 := Lib.hid (var_step (R := fun p => p.says text) (x := fun p => p.num.toNat) hF (fun p hp => (PI.fits hp).num) (fun p hp => (T3.out p hp).1))
  have R6y := Lib.hid (R6.out.step hV hO)
  have c2 : Y6.cell? ⟨q, 4, none⟩ = some (.int .i64 0) := R6y.out.var.cell 4
  have f2 := R6y.out.var.free 4
  have R7 : Hid (RP w c q s a4 b4 #[.int .i64 op, .int .i64 key, .int .i64 (r1 : Int), .int .i64 (r2 : Int), .int .i64 (r3 : Int), .slice none 0 0, .string ⟨#[]⟩] (.slice none 0 0) [] (Y6.setCell ⟨q, 4, none⟩ (.int .i64 (r3 : Int)))) := R6y.out.set 4 _
  clear hV hO hF R6 R6y X6
  go_upto_region 8 with fail
  generalize Y6.setCell ⟨q, 4, none⟩ (.int .i64 (r3 : Int)) = X7 at *
  clear c2 f2 Y6
  go_wp2_with fail
  refine (varc_any c s a4 b4 ha4 (by omega) _ R7.out.cur).mono ?_
  rintro e Y7 ⟨n, a5, b5, hn, ha5, rfl, hV, hO, hF⟩
  have T5 := Lib.hid (var_step (R := fun p => p.says text) (x := fun p => p.accs.length) hF (fun p hp => (PI.fits hp).many) (fun p hp => (T4.out p hp).1))
  have R8 := Lib.hid (R7.out.step hV hO)
  clear hV hO hF R7 X7
  have HV : Hid (∀ p : PI, p.says text → (op = p.op ∧ key = p.key ∧ (r1 : Int) = p.fr ∧ (r2 : Int) = p.dst ∧ (r3 : Int) = p.num ∧ n = p.acks.length) ∧ b5 = false ∧ s.data.toList.drop a5 = p.accs.flatMap var ++ p.body.data.toList) := fun p hp => by
    have h1 := (T1.out p hp).2
    have h2 := (T2.out p hp).2
    have h3 := (T3.out p hp).2
    have h4 := (T4.out p hp).2
    have h5 := (T5.out p hp).2
    obtain ⟨hop, hkey⟩ := HOK.out
    obtain ⟨k1, k2, k3, k4, k5, k6, k7, k8, _⟩ := hp.1
    rw [UInt8.toNat_ofNat'] at h1 h2 h3
    rw [Nat.mod_eq_of_lt (by omega)] at h1 h2 h3
    refine ⟨⟨by omega, by omega, by omega, by omega, by omega, ?_⟩, (T5.out p hp).1⟩
    rw [h5]
    show (p.acks.map Int.toNat).length = _
    rw [List.length_map]
  clear T1 T2 T3 T4 T5
  have ⟨i0, hi, hz0, hsz0, hby0⟩ := info_of infoInt
  go_upto_block 0 with fail
  go_cut [10] (fun _ wx => ∃ (k a : Nat) (b : Bool) (va : Option Addr) (vc : Nat) (xs : List Int), a ≤ s.size ∧ xs.length ≤ 21 ∧ Hid (b = false → n ≤ k ∨ 20 ≤ k) ∧ Hid (∀ p : PI, p.says text → (k ≤ p.acks.length ∧ xs = p.acks.take k) ∧ b = false ∧ s.data.toList.drop a = (p.accs.drop k).flatMap Go.Proofs.YtdhacjpdlmnlmarDoor.var ++ p.body.data.toList) ∧ Hid (RP w c q s a b #[.int .i64 op, .int .i64 key, .int .i64 (r1 : Int), .int .i64 (r2 : Int), .int .i64 (r3 : Int), .slice va xs.length vc, .string ⟨#[]⟩] (.slice va xs.length vc) xs wx))
  case first =>
    go_wp2_with fail
    go_loopw [10] (fun i wr => ∃ (k a : Nat) (b : Bool) (va : Option Addr) (vc : Nat) (xs : List Int), k ≤ 20 ∧ i = .int .i64 k ∧ a ≤ s.size ∧ Hid (xs.length = k) ∧ Hid (∀ p : PI, p.says text → (k ≤ p.acks.length ∧ xs = p.acks.take k) ∧ b = false ∧ s.data.toList.drop a = (p.accs.drop k).flatMap Go.Proofs.YtdhacjpdlmnlmarDoor.var ++ p.body.data.toList) ∧ RP w c q s a b #[.int .i64 op, .int .i64 key, .int .i64 (r1 : Int), .int .i64 (r2 : Int), .int .i64 (r3 : Int), .slice va xs.length vc, .string ⟨#[]⟩] (.slice va xs.length vc) xs wr) (fun i _ => 21 - (intOf i).toNat)
    case atStart => exact ⟨0, a5, b5, none, 0, [], by omega, rfl, ha5, rfl, Lib.hid (fun p hp => ⟨⟨Nat.zero_le _, rfl⟩, (HV.out p hp).2⟩), R8.out⟩
    case round =>
      obtain ⟨k, a, b, va, vc, xs, hk, rfl, ha, HXL, HT, hR⟩ := hrel
      have HR := Lib.hid hR
      clear hR R8
      have hx21 : xs.length ≤ 21 := by have := HXL.out; omega
      have d2 : wr.cell? ⟨c, 2, none⟩ = some (.bool b) := HR.out.cur.cell 2
      by_cases hlt : (k : Int) < (n : Int)
      · by_cases h20 : (k : Int) < 20
        · have hd1 : decide ((k : Int) < (n : Int)) = true := decide_eq_true hlt
          have hd2 : decide ((k : Int) < 20) = true := decide_eq_true h20
          cases b with
          | true =>
            go_wp2_with fail
            go_meet
            exact ⟨k, a, true, va, vc, xs, ha, hx21, fun h => (by cases h), HT, HR⟩
          | false =>
            have HT2 : Hid (∀ p : PI, p.says text → (k ≤ p.acks.length ∧ xs = p.acks.take k) ∧ s.data.toList.drop a = (p.accs.drop k).flatMap Go.Proofs.YtdhacjpdlmnlmarDoor.var ++ p.body.data.toList) := fun p hp => ⟨(HT.out p hp).1, (HT.out p hp).2.2⟩
            clear HT
            have c5 : wr.cell? ⟨q, 5, none⟩ = some (.slice va xs.length vc) := HR.out.var.cell 5
            have f5 := HR.out.var.free 5
            have HD := Lib.hid (HR.out.drew)
            have s5 : wr.drew.cell? ⟨q, 5, none⟩ = some (.slice va xs.length vc) := HD.out.var.cell 5
            have hxs : xs.length + 1 ≤ 1000000000 := by omega
            go_wp2_with fail
            go_region_law (first | (go_simp; refine (varc_any c s a false ha (by omega) _ HD.out.cur).mono ?_; rintro e v1 ⟨r, a', b', hr, ha', rfl, hV, hO, hF0⟩; have hF := Lib.hid (hF0 rfl); clear hF0; have hR1 := HD.out.step hV hO; have hS : v1.cell? ⟨q, 5, none⟩ = some (.slice va xs.length vc) := hR1.var.cell 5; have hS3 : (v1.alloc (.cells #[.int .i64 (r : Int)] 3)).cell? ⟨q, 5, none⟩ = some (.slice va xs.length vc) := (hR1.alloc (.cells #[.int .i64 (r : Int)] 3)).var.cell 5; obtain ⟨fp, hown⟩ := (hR1.alloc (.cells #[.int .i64 (r : Int)] 3)).own; have hws := (hR1.alloc (.cells #[.int .i64 (r : Int)] 3)).var.lt; simp only []) | (refine step_pushOne rfl (.tmp 58) (.tmp 61) 22 rfl (q + 1) 3 i0 (.int .i64 0) 8 Lay.int flatIntP Tryd.underlying22 hi hz0 hsz0 hby0 rfl (by omega) (.slice va xs.length vc) fp xs (by first | rfl | simp [Act.eval, Act.put]) hown (r : Int) [.int .i64 (r : Int)] (int_rd.2 rfl) ⟨v1.heap.size, 0, none⟩ (by first | rfl | simp [Act.eval, Act.put]) (lit_cells_at v1 #[.int .i64 (r : Int)] 3) hxs hws ?_; intro v' w' hw1 hw2 hw3 hw4; obtain ⟨g', cp', rfl, hfq, _, _⟩ := flat_some flatIntP hw1 hw2; have hR2 := Lib.hid (RP.grown (hR1.alloc (.cells #[.int .i64 (r : Int)] 3)) ⟨_, hw1⟩ hw3); have g5 := hR2.out.var.free 5; have hS2 : w'.cell? ⟨q, 5, none⟩ = some (.slice va xs.length vc) := hR2.out.var.cell 5))
            all_goals
              have hkn : k < n := by omega
              have HTN := Lib.hid (track_step hF.out (fun p hp => (HV.out p hp).1.2.2.2.2.2) hkn HT2.out)
              have hR3 := Lib.hid (hR2.out.set 5 (.slice (some ⟨g', 0, none⟩) (xs ++ [(r : Int)]).length cp'))
              have hlr : (xs ++ [(r : Int)]).length = xs.length + 1 := by simp
              have HXL2 : Hid ((xs ++ [(r : Int)]).length = k + 1) := by show _ = _; rw [hlr, HXL.out]
              rw [hlr] at hR3
              clear hw1 hw2 hw3 hw4 hV hO hF hR1 hR2 hown
              go_wp2_with fail
              go_roundw
              case rel => exact ⟨k + 1, a', b', some ⟨g', 0, none⟩, cp', xs ++ [(r : Int)], by omega, by go_num, ha', HXL2, HTN, by rw [hlr]; exact hR3.out⟩
              case measure => simp [intOf]; omega
        · have hd1 : decide ((k : Int) < (n : Int)) = true := decide_eq_true hlt
          have hd2 : decide ((k : Int) < 20) = false := decide_eq_false h20
          have hkx : n ≤ k ∨ 20 ≤ k := by omega
          go_wp2_with fail
          go_meet
          exact ⟨k, a, b, va, vc, xs, ha, hx21, fun _ => hkx, HT, HR⟩
      · have hd1 : decide ((k : Int) < (n : Int)) = false := decide_eq_false hlt
        have hkx : n ≤ k ∨ 20 ≤ k := by omega
        go_wp2_with fail
        go_meet
        exact ⟨k, a, b, va, vc, xs, ha, hx21, fun _ => hkx, HT, HR⟩
  case rest =>
    obtain ⟨k, a, b, va, vc, xs, ha, hx21, HKX, HT, HR⟩ := hcut
    generalize wc = wr at *
    clear R8
    have d2 : wr.cell? ⟨c, 2, none⟩ = some (.bool b) := HR.out.cur.cell 2
    cases b with
    | true =>
      have HNO : Hid (∀ p : PI, ¬ p.says text) := fun p hp => by have := (HT.out p hp).2.1; cases this
      have g0 := HR.out.res.free 0
      have g1 := HR.out.res.free 1
      have g2 := HR.out.res.free 2
      have g3 := HR.out.res.free 3
      have g4 := HR.out.res.free 4
      have g5 := HR.out.res.free 5
      have g6 := HR.out.res.free 6
      have q0 : wr.cell? ⟨w.heap.size, 0, none⟩ = some (.int .i64 0) := HR.out.res.cell 0
      have q1 : wr.cell? ⟨w.heap.size, 1, none⟩ = some (.int .i64 0) := HR.out.res.cell 1
      have q2 : wr.cell? ⟨w.heap.size, 2, none⟩ = some (.int .i64 0) := HR.out.res.cell 2
      have q3 : wr.cell? ⟨w.heap.size, 3, none⟩ = some (.int .i64 0) := HR.out.res.cell 3
      have q4 : wr.cell? ⟨w.heap.size, 4, none⟩ = some (.int .i64 0) := HR.out.res.cell 4
      have q5 : wr.cell? ⟨w.heap.size, 5, none⟩ = some (.slice none 0 0) := HR.out.res.cell 5
      have q6 : wr.cell? ⟨w.heap.size, 6, none⟩ = some (.string ⟨#[]⟩) := HR.out.res.cell 6
      have R7 := set_seven (p0 := .int .i64 0) (p1 := .int .i64 0) (p2 := .int .i64 0) (p3 := .int .i64 0) (p4 := .int .i64 0) (p5 := .slice none 0 0) (p6 := .string ⟨#[]⟩) HR.out.res
      have j0 := R7.cell 0
      have j1 := R7.cell 1
      have j2 := R7.cell 2
      have j3 := R7.cell 3
      have j4 := R7.cell 4
      have j5 := R7.cell 5
      have j6 := R7.cell 6
      have FIN := Lib.hid (HR.out.below.trans (only_below (only_seven wr w.heap.size (.int .i64 0) (.int .i64 0) (.int .i64 0) (.int .i64 0) (.int .i64 0) (.slice none 0 0) (.string ⟨#[]⟩)) (Nat.le_refl _) HR.out.below.size))
      clear R7
      go_wp2_with fail
      exact bodyPost_ret (v := .tuple #[.agg #[.int .i64 0, .int .i64 0, .int .i64 0, .int .i64 0, .int .i64 0, .slice none 0 0, .string ⟨#[]⟩], .bool false]) (by simp [results, Tryd.results4, go_sem, j0, j1, j2, j3, j4, j5, j6]) rfl (Or.inr ⟨HNO.out, rfl, FIN.out⟩)
    | false =>
      have HT2 : Hid (∀ p : PI, p.says text → (k ≤ p.acks.length ∧ xs = p.acks.take k) ∧ s.data.toList.drop a = (p.accs.drop k).flatMap Go.Proofs.YtdhacjpdlmnlmarDoor.var ++ p.body.data.toList) := fun p hp => ⟨(HT.out p hp).1, (HT.out p hp).2.2⟩
      have hkx := HKX.out rfl
      clear HT HKX
      have c1 : wr.cell? ⟨c, 1, none⟩ = some (.int .i64 (a : Int)) := HR.out.cur.cell 1
      have c6 : wr.cell? ⟨q, 6, none⟩ = some (.string ⟨#[]⟩) := HR.out.var.cell 6
      have f6 := HR.out.var.free 6
      have ha1' : (a : Int) ≤ (s.size : Int) := by omega
      have R9 := Lib.hid (HR.out.set 6 (.string (s.extract a s.size)))
      have HBD : Hid ((s.extract a s.size).data.toList = s.data.toList.drop a) := by
        show _ = _
        rw [ByteArray.data_extract, Array.toList_extract, List.extract_eq_take_drop]
        exact List.take_of_length_le (by simp)
      have HBZ : (s.extract a s.size).size ≤ 20000 := by simp [ByteArray.size_extract]; omega
      go_upto_region 16 with fail
      generalize wr.setCell ⟨q, 6, none⟩ (.string (s.extract a s.size)) = W at *
      generalize s.extract a s.size = body at *
      have HW : Hid (RP w c q s a false #[.int .i64 op, .int .i64 key, .int .i64 (r1 : Int), .int .i64 (r2 : Int), .int .i64 (r3 : Int), .slice va xs.length vc, .string body] (.slice va xs.length vc) xs W) := R9.out
      clear R9 HR c1 c6 f6 d2
      have HEND := Lib.hid (track_end (op := op) (key := key) (fr := r1) (dst := r2) (num := r3) HBD.out hkx (fun p hp => (HV.out p hp).1) HT2.out)
      clear HT2 HV HBD
      have p0 : W.cell? ⟨q, 0, none⟩ = some (.int .i64 op) := HW.out.var.cell 0
      have p1 : W.cell? ⟨q, 1, none⟩ = some (.int .i64 key) := HW.out.var.cell 1
      have p2 : W.cell? ⟨q, 2, none⟩ = some (.int .i64 (r1 : Int)) := HW.out.var.cell 2
      have p3 : W.cell? ⟨q, 3, none⟩ = some (.int .i64 (r2 : Int)) := HW.out.var.cell 3
      have p4 : W.cell? ⟨q, 4, none⟩ = some (.int .i64 (r3 : Int)) := HW.out.var.cell 4
      have p5 : W.cell? ⟨q, 5, none⟩ = some (.slice va xs.length vc) := HW.out.var.cell 5
      have p6 : W.cell? ⟨q, 6, none⟩ = some (.string body) := HW.out.var.cell 6
      by_cases hok : PkOkP op key r1 r2 r3 xs body
      · have K := Lib.hid (specPacketText_yes op key r1 r2 r3 (.slice va xs.length vc) xs body W HW.out.read hok)
        obtain ⟨B, HB⟩ : ∃ B : ByteArray, Hid (B = ⟨(sealedOf (pkB (pkOf op key r1 r2 r3 xs body))).toArray⟩) := ⟨_, Lib.hid rfl⟩
        rw [← HB.out] at K
        have HOKP := Lib.hid hok
        clear hok
        go_wp2_with fail
        refine (K.out).mono ?_
        rintro e Z ⟨rfl, hbz⟩
        have HZ := Lib.hid (HW.out.next hbz)
        clear hbz K HW p0 p1 p2 p3 p4 p5 p6
        by_cases heq : B = text
        · have SAY : Hid (PI.says text ⟨op, key, r1, r2, r3, xs, body⟩) := ⟨HOKP.out, by rw [← heq]; exact HB.out⟩
          have hq : (B.toList == text.toList) = true := by rw [heq]; simp
          clear heq HB HOKP HEND
          go_upto_region 19 with fail
          have g0 := HZ.out.res.free 0
          have g1 := HZ.out.res.free 1
          have g2 := HZ.out.res.free 2
          have g3 := HZ.out.res.free 3
          have g4 := HZ.out.res.free 4
          have g5 := HZ.out.res.free 5
          have g6 := HZ.out.res.free 6
          have q0 : Z.cell? ⟨w.heap.size, 0, none⟩ = some (.int .i64 0) := HZ.out.res.cell 0
          have q1 : Z.cell? ⟨w.heap.size, 1, none⟩ = some (.int .i64 0) := HZ.out.res.cell 1
          have q2 : Z.cell? ⟨w.heap.size, 2, none⟩ = some (.int .i64 0) := HZ.out.res.cell 2
          have q3 : Z.cell? ⟨w.heap.size, 3, none⟩ = some (.int .i64 0) := HZ.out.res.cell 3
          have q4 : Z.cell? ⟨w.heap.size, 4, none⟩ = some (.int .i64 0) := HZ.out.res.cell 4
          have q5 : Z.cell? ⟨w.heap.size, 5, none⟩ = some (.slice none 0 0) := HZ.out.res.cell 5
          have q6 : Z.cell? ⟨w.heap.size, 6, none⟩ = some (.string ⟨#[]⟩) := HZ.out.res.cell 6
          have p0 : Z.cell? ⟨q, 0, none⟩ = some (.int .i64 op) := HZ.out.var.cell 0
          have p1 : Z.cell? ⟨q, 1, none⟩ = some (.int .i64 key) := HZ.out.var.cell 1
          have p2 : Z.cell? ⟨q, 2, none⟩ = some (.int .i64 (r1 : Int)) := HZ.out.var.cell 2
          have p3 : Z.cell? ⟨q, 3, none⟩ = some (.int .i64 (r2 : Int)) := HZ.out.var.cell 3
          have p4 : Z.cell? ⟨q, 4, none⟩ = some (.int .i64 (r3 : Int)) := HZ.out.var.cell 4
          have p5 : Z.cell? ⟨q, 5, none⟩ = some (.slice va xs.length vc) := HZ.out.var.cell 5
          have p6 : Z.cell? ⟨q, 6, none⟩ = some (.string body) := HZ.out.var.cell 6
          have R7 := set_seven (p0 := .int .i64 op) (p1 := .int .i64 key) (p2 := .int .i64 (r1 : Int)) (p3 := .int .i64 (r2 : Int)) (p4 := .int .i64 (r3 : Int)) (p5 := .slice va xs.length vc) (p6 := .string body) HZ.out.res
          have j0 := R7.cell 0
          have j1 := R7.cell 1
          have j2 := R7.cell 2
          have j3 := R7.cell 3
          have j4 := R7.cell 4
          have j5 := R7.cell 5
          have j6 := R7.cell 6
          have O7 := only_seven Z w.heap.size (.int .i64 op) (.int .i64 key) (.int .i64 (r1 : Int)) (.int .i64 (r2 : Int)) (.int .i64 (r3 : Int)) (.slice va xs.length vc) (.string body)
          have FIN := Lib.hid (HZ.out.below.trans (only_below O7 (Nat.le_refl _) HZ.out.below.size))
          have hlt9 := HZ.out.lt
          have OWN := Lib.hid (own_seven (b := w.heap.size) (.int .i64 op) (.int .i64 key) (.int .i64 (r1 : Int)) (.int .i64 (r2 : Int)) (.int .i64 (r3 : Int)) (.slice va xs.length vc) (.string body) HZ.out.own (show w.heap.size < q + 1 by omega) (by omega))
          clear R7 O7
          go_wp2_with fail
          obtain ⟨f, hf⟩ := OWN.out
          exact bodyPost_ret (v := .tuple #[.agg #[.int .i64 op, .int .i64 key, .int .i64 (r1 : Int), .int .i64 (r2 : Int), .int .i64 (r3 : Int), .slice va xs.length vc, .string body], .bool true]) (by simp [results, Tryd.results4, go_sem, j0, j1, j2, j3, j4, j5, j6]) rfl (Or.inl ⟨⟨op, key, r1, r2, r3, xs, body⟩, _, f, SAY.out, rfl, hf, FIN.out⟩)
        · have HNO : Hid (∀ p : PI, ¬ p.says text) := fun p hp => by
            have e := HEND.out p hp
            subst e
            exact heq (HB.out.trans hp.2.symm)
          have hq : (B.toList == text.toList) = false := texts_apart heq
          clear heq HB HOKP HEND
          go_upto_region 18 with fail
          have g0 := HZ.out.res.free 0
          have g1 := HZ.out.res.free 1
          have g2 := HZ.out.res.free 2
          have g3 := HZ.out.res.free 3
          have g4 := HZ.out.res.free 4
          have g5 := HZ.out.res.free 5
          have g6 := HZ.out.res.free 6
          have q0 : Z.cell? ⟨w.heap.size, 0, none⟩ = some (.int .i64 0) := HZ.out.res.cell 0
          have q1 : Z.cell? ⟨w.heap.size, 1, none⟩ = some (.int .i64 0) := HZ.out.res.cell 1
          have q2 : Z.cell? ⟨w.heap.size, 2, none⟩ = some (.int .i64 0) := HZ.out.res.cell 2
          have q3 : Z.cell? ⟨w.heap.size, 3, none⟩ = some (.int .i64 0) := HZ.out.res.cell 3
          have q4 : Z.cell? ⟨w.heap.size, 4, none⟩ = some (.int .i64 0) := HZ.out.res.cell 4
          have q5 : Z.cell? ⟨w.heap.size, 5, none⟩ = some (.slice none 0 0) := HZ.out.res.cell 5
          have q6 : Z.cell? ⟨w.heap.size, 6, none⟩ = some (.string ⟨#[]⟩) := HZ.out.res.cell 6
          have R7 := set_seven (p0 := .int .i64 0) (p1 := .int .i64 0) (p2 := .int .i64 0) (p3 := .int .i64 0) (p4 := .int .i64 0) (p5 := .slice none 0 0) (p6 := .string ⟨#[]⟩) HZ.out.res
          have j0 := R7.cell 0
          have j1 := R7.cell 1
          have j2 := R7.cell 2
          have j3 := R7.cell 3
          have j4 := R7.cell 4
          have j5 := R7.cell 5
          have j6 := R7.cell 6
          have FIN := Lib.hid (HZ.out.below.trans (only_below (only_seven Z w.heap.size (.int .i64 0) (.int .i64 0) (.int .i64 0) (.int .i64 0) (.int .i64 0) (.slice none 0 0) (.string ⟨#[]⟩)) (Nat.le_refl _) HZ.out.below.size))
          clear R7
          go_wp2_with fail
          exact bodyPost_ret (v := .tuple #[.agg #[.int .i64 0, .int .i64 0, .int .i64 0, .int .i64 0, .int .i64 0, .slice none 0 0, .string ⟨#[]⟩], .bool false]) (by simp [results, Tryd.results4, go_sem, j0, j1, j2, j3, j4, j5, j6]) rfl (Or.inr ⟨HNO.out, rfl, FIN.out⟩)
      · have K := Lib.hid (specPacketText_no op key r1 r2 r3 (.slice va xs.length vc) xs body (by omega) (by omega) W HW.out.read hok)
        have HNO : Hid (∀ p : PI, ¬ p.says text) := fun p hp => by
          have e := HEND.out p hp
          subst e
          exact hok hp.1
        clear hok HEND
        go_wp2_with fail
        refine (K.out).mono ?_
        rintro e Z ⟨rfl, hbz⟩
        have HZ := Lib.hid (HW.out.next hbz)
        clear hbz K HW p0 p1 p2 p3 p4 p5 p6
        go_upto_region 18 with fail
        have g0 := HZ.out.res.free 0
        have g1 := HZ.out.res.free 1
        have g2 := HZ.out.res.free 2
        have g3 := HZ.out.res.free 3
        have g4 := HZ.out.res.free 4
        have g5 := HZ.out.res.free 5
        have g6 := HZ.out.res.free 6
        have q0 : Z.cell? ⟨w.heap.size, 0, none⟩ = some (.int .i64 0) := HZ.out.res.cell 0
        have q1 : Z.cell? ⟨w.heap.size, 1, none⟩ = some (.int .i64 0) := HZ.out.res.cell 1
        have q2 : Z.cell? ⟨w.heap.size, 2, none⟩ = some (.int .i64 0) := HZ.out.res.cell 2
        have q3 : Z.cell? ⟨w.heap.size, 3, none⟩ = some (.int .i64 0) := HZ.out.res.cell 3
        have q4 : Z.cell? ⟨w.heap.size, 4, none⟩ = some (.int .i64 0) := HZ.out.res.cell 4
        have q5 : Z.cell? ⟨w.heap.size, 5, none⟩ = some (.slice none 0 0) := HZ.out.res.cell 5
        have q6 : Z.cell? ⟨w.heap.size, 6, none⟩ = some (.string ⟨#[]⟩) := HZ.out.res.cell 6
        have R7 := set_seven (p0 := .int .i64 0) (p1 := .int .i64 0) (p2 := .int .i64 0) (p3 := .int .i64 0) (p4 := .int .i64 0) (p5 := .slice none 0 0) (p6 := .string ⟨#[]⟩) HZ.out.res
        have j0 := R7.cell 0
        have j1 := R7.cell 1
        have j2 := R7.cell 2
        have j3 := R7.cell 3
        have j4 := R7.cell 4
        have j5 := R7.cell 5
        have j6 := R7.cell 6
        have FIN := Lib.hid (HZ.out.below.trans (only_below (only_seven Z w.heap.size (.int .i64 0) (.int .i64 0) (.int .i64 0) (.int .i64 0) (.int .i64 0) (.slice none 0 0) (.string ⟨#[]⟩)) (Nat.le_refl _) HZ.out.below.size))
        clear R7
        go_wp2_with fail
        exact bodyPost_ret (v := .tuple #[.agg #[.int .i64 0, .int .i64 0, .int .i64 0, .int .i64 0, .int .i64 0, .slice none 0 0, .string ⟨#[]⟩], .bool false]) (by simp [results, Tryd.results4, go_sem, j0, j1, j2, j3, j4, j5, j6]) rfl (Or.inr ⟨HNO.out, rfl, FIN.out⟩)

end Go.Proofs.YtdhacjpdlmnlmarDoor

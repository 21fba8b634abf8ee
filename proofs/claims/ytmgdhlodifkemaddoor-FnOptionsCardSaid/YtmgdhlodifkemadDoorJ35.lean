/-
  The law on options, out of the program's contracts.
-/
import Derived.Test.YtmgdhlodifkemadDoorJ24
namespace Go.Proofs.YtmgdhlodifkemadDoor
open Go.RowKit

/-- Whether x was met among the first j. -/
def FoundTo (ws : List ByteArray) (x : ByteArray) (j : Nat) (b : Bool) : Prop := b = true ↔ ∃ k, k < j ∧ ws[k]? = some x

set_option maxRecDepth 100000 in
set_option maxHeartbeats 12800000 in
theorem lawOptionsF {L : World → Prop} (F0 : OptFns L) (a : Option Addr) (len cap : Nat) (w : World) (H : Src a len w) (hL : L w) :
    Calls Tryd.prog 4 #[.slice a len cap] w fun e w' => e = .returned (.bool true) ∧ Below w.heap.size w w' := by
  have hd : decide (1048576 < (len : Int)) = false := decide_eq_false (by have := H.few; omega)
  have HBG := Lib.hid (fun w => bigO_any a len cap w)
  rw [hd] at HBG
  have HS := Lib.hid H
  have F := Lib.hid F0
  have LL : Hid (∀ X, Below w.heap.size w X → L X) := Lib.hid (fun X hb => F0.stays w X hL hb)
  clear H hL hd F0
  go_enter Tryd.func4, Tryd.ntmps4
  go_wp2_with fail
  refine (HBG.out _).mono ?_
  rintro e w0 ⟨rfl, hw⟩
  rw [hw]
  clear hw w0
  go_wp2_with fail
  refine (drawOptions_any a len cap w HS.out).mono ?_
  rintro e w1 ⟨za, qa, qac, wa, pa, zb, qb, qbc, wb, pb, hPa, hPb, rfl, hra, hrb, hb⟩
  have hal : Below w1.heap.size w1 (w1.alloc (.cells #[.int .i64 za, .slice qa wa.length qac, .bool pa] OptionsT)) := (Below.refl _ _).alloc (Nat.le_refl _) _
  have A := Lib.hid (ORd.new (z := za) (p := pa) hra)
  have hal2 : Below (w1.alloc (.cells #[.int .i64 za, .slice qa wa.length qac, .bool pa] OptionsT)).heap.size (w1.alloc (.cells #[.int .i64 za, .slice qa wa.length qac, .bool pa] OptionsT)) ((w1.alloc (.cells #[.int .i64 za, .slice qa wa.length qac, .bool pa] OptionsT)).alloc (.cells #[.int .i64 zb, .slice qb wb.length qbc, .bool pb] OptionsT)) := (Below.refl _ _).alloc (Nat.le_refl _) _
  have hB := ORd.new (z := zb) (p := pb) (layStringS.below hrb hal)
  rw [show (w1.alloc (.cells #[.int .i64 za, .slice qa wa.length qac, .bool pa] OptionsT)).heap.size = w1.heap.size + 1 by simp] at hB
  have B := Lib.hid hB
  replace A := Lib.hid (A.out.next hal2)
  have BW := Lib.hid ((hb.trans (hal.mono hb.size)).trans (hal2.mono (hb.trans (hal.mono hb.size)).size))
  have PA := Lib.hid hPa
  have PB := Lib.hid hPb
  have FA := Lib.hid hPa.fits
  have FB := Lib.hid hPb.fits
  clear hra hrb hb hal hal2 hB hPa hPb
  go_upto_region 4 with fail
  generalize (w1.alloc (.cells #[.int .i64 za, .slice qa wa.length qac, .bool pa] OptionsT)).alloc (.cells #[.int .i64 zb, .slice qb wb.length qbc, .bool pb] OptionsT) = Y1 at *
  obtain ⟨Gb, hGb⟩ : ∃ Gb, w1.heap.size + 1 = Gb := ⟨_, rfl⟩
  rw [hGb] at B ⊢
  clear hGb
  generalize w1.heap.size = Ga at *
  clear w1
  have c0 : Y1.cell? ⟨Ga, 0, none⟩ = some (.int .i64 za) := A.out.var.cell 0
  have c1 : Y1.cell? ⟨Ga, 1, none⟩ = some (.slice qa wa.length qac) := A.out.var.cell 1
  have c2 : Y1.cell? ⟨Ga, 2, none⟩ = some (.bool pa) := A.out.var.cell 2
  obtain ⟨s, HSS⟩ : ∃ s, Hid (s = optT za.toNat wa pa) := ⟨_, Lib.hid rfl⟩
  have TI : TextIs za wa pa s true := .inl ⟨rfl, PA.out, HSS.out⟩
  have RI : ReadIs s za wa pa true := .inl ⟨rfl, PA.out, HSS.out⟩
  have hss : s.size ≤ 1048576 := by have := text_few TI; omega
  have K4 := Lib.hid (F.out.text za _ wa pa s true TI FA.out Y1 (LL.out _ BW.out) A.out.rd)
  go_wp2_with fail
  refine (K4.out).mono ?_
  rintro e Y2 ⟨rfl, hb⟩
  replace A := Lib.hid (A.out.next hb)
  replace B := Lib.hid (B.out.next hb)
  replace BW := Lib.hid (BW.out.trans (hb.mono BW.out.size))
  have K5 := Lib.hid (F.out.read s za wa pa true RI hss Y2 (LL.out _ BW.out))
  clear hb K4 TI RI c0 c1 c2 Y1
  go_wp2_with fail
  refine (K5.out).mono ?_
  rintro e Y3 ⟨v, rfl, hv⟩
  obtain ⟨qx, qxc, f1, rfl, -, hco, hb⟩ := hv
  replace A := Lib.hid (A.out.next hb)
  replace B := Lib.hid (B.out.next hb)
  replace BW := Lib.hid (BW.out.trans (hb.mono BW.out.size))
  have hal : Below Y3.heap.size Y3 (Y3.alloc (.cells #[.int .i64 za, .slice qx wa.length qxc, .bool pa] OptionsT)) := (Below.refl _ _).alloc (Nat.le_refl _) _
  have X := Lib.hid (ORd.new (z := za) (p := pa) (layStringS.read hco))
  replace A := Lib.hid (A.out.next hal)
  replace B := Lib.hid (B.out.next hal)
  replace BW := Lib.hid (BW.out.trans (hal.mono BW.out.size))
  clear hb hal hco f1 K5
  go_upto_region 6 with fail
  generalize Y3.alloc (.cells #[.int .i64 za, .slice qx wa.length qxc, .bool pa] OptionsT) = Y4 at *
  generalize Y3.heap.size = Gx at *
  clear Y2 Y3
  obtain ⟨cz, cw, cp, ok, hag⟩ := agree_is za wa pa zb wb pb
  obtain ⟨dz, dw, dp, ok2, hag2⟩ := agree_is zb wb pb za wa pa
  obtain ⟨htu, htv⟩ := agree_turn hag hag2
  subst htu
  have AG := Lib.hid hag
  have AG2 := Lib.hid hag2
  have TV := Lib.hid htv
  clear hag hag2 htv
  have c0 : Y4.cell? ⟨Ga, 0, none⟩ = some (.int .i64 za) := A.out.var.cell 0
  have c1 : Y4.cell? ⟨Ga, 1, none⟩ = some (.slice qa wa.length qac) := A.out.var.cell 1
  have c2 : Y4.cell? ⟨Ga, 2, none⟩ = some (.bool pa) := A.out.var.cell 2
  have d0 : Y4.cell? ⟨Gb, 0, none⟩ = some (.int .i64 zb) := B.out.var.cell 0
  have d1 : Y4.cell? ⟨Gb, 1, none⟩ = some (.slice qb wb.length qbc) := B.out.var.cell 1
  have d2 : Y4.cell? ⟨Gb, 2, none⟩ = some (.bool pb) := B.out.var.cell 2
  have K6 := Lib.hid (F.out.agree za _ wa pa zb _ wb pb cz cw cp ok2 AG.out FA.out FB.out Y4 (LL.out _ BW.out) A.out.rd B.out.rd)
  go_wp2_with fail
  refine (K6.out).mono ?_
  rintro e Y5 ⟨v, rfl, hv⟩
  obtain ⟨qc, qcc, f1, rfl, -, hco, hb⟩ := hv
  replace A := Lib.hid (A.out.next hb)
  replace B := Lib.hid (B.out.next hb)
  replace X := Lib.hid (X.out.next hb)
  replace BW := Lib.hid (BW.out.trans (hb.mono BW.out.size))
  have hal : Below Y5.heap.size Y5 (Y5.alloc (.cells #[.int .i64 cz, .slice qc cw.length qcc, .bool cp] OptionsT)) := (Below.refl _ _).alloc (Nat.le_refl _) _
  have C := Lib.hid (ORd.new (z := cz) (p := cp) (layStringS.read hco))
  replace A := Lib.hid (A.out.next hal)
  replace B := Lib.hid (B.out.next hal)
  replace X := Lib.hid (X.out.next hal)
  replace BW := Lib.hid (BW.out.trans (hal.mono BW.out.size))
  clear hb hal hco f1 K6 c0 c1 c2 d0 d1 d2
  go_upto_region 7 with fail
  generalize Y5.alloc (.cells #[.int .i64 cz, .slice qc cw.length qcc, .bool cp] OptionsT) = Y6 at *
  generalize Y5.heap.size = Gc at *
  clear Y4 Y5
  have c0 : Y6.cell? ⟨Ga, 0, none⟩ = some (.int .i64 za) := A.out.var.cell 0
  have c1 : Y6.cell? ⟨Ga, 1, none⟩ = some (.slice qa wa.length qac) := A.out.var.cell 1
  have c2 : Y6.cell? ⟨Ga, 2, none⟩ = some (.bool pa) := A.out.var.cell 2
  have d0 : Y6.cell? ⟨Gb, 0, none⟩ = some (.int .i64 zb) := B.out.var.cell 0
  have d1 : Y6.cell? ⟨Gb, 1, none⟩ = some (.slice qb wb.length qbc) := B.out.var.cell 1
  have d2 : Y6.cell? ⟨Gb, 2, none⟩ = some (.bool pb) := B.out.var.cell 2
  have K7 := Lib.hid (F.out.agree zb _ wb pb za _ wa pa dz dw dp ok2 AG2.out FB.out FA.out Y6 (LL.out _ BW.out) B.out.rd A.out.rd)
  go_wp2_with fail
  refine (K7.out).mono ?_
  rintro e Y7 ⟨v, rfl, hv⟩
  obtain ⟨qd, qdc, f1, rfl, -, hco, hb⟩ := hv
  replace A := Lib.hid (A.out.next hb)
  replace B := Lib.hid (B.out.next hb)
  replace X := Lib.hid (X.out.next hb)
  replace C := Lib.hid (C.out.next hb)
  replace BW := Lib.hid (BW.out.trans (hb.mono BW.out.size))
  have hal : Below Y7.heap.size Y7 (Y7.alloc (.cells #[.int .i64 dz, .slice qd dw.length qdc, .bool dp] OptionsT)) := (Below.refl _ _).alloc (Nat.le_refl _) _
  have D := Lib.hid (ORd.new (z := dz) (p := dp) (layStringS.read hco))
  replace A := Lib.hid (A.out.next hal)
  replace B := Lib.hid (B.out.next hal)
  replace X := Lib.hid (X.out.next hal)
  replace C := Lib.hid (C.out.next hal)
  replace BW := Lib.hid (BW.out.trans (hal.mono BW.out.size))
  clear hb hal hco f1 K7 c0 c1 c2 d0 d1 d2
  go_upto_region 8 with fail
  generalize Y7.alloc (.cells #[.int .i64 dz, .slice qd dw.length qdc, .bool dp] OptionsT) = Y8 at *
  generalize Y7.heap.size = Gd at *
  clear Y6 Y7
  have c0 : Y8.cell? ⟨Ga, 0, none⟩ = some (.int .i64 za) := A.out.var.cell 0
  have c1 : Y8.cell? ⟨Ga, 1, none⟩ = some (.slice qa wa.length qac) := A.out.var.cell 1
  have c2 : Y8.cell? ⟨Ga, 2, none⟩ = some (.bool pa) := A.out.var.cell 2
  have d0 : Y8.cell? ⟨Gb, 0, none⟩ = some (.int .i64 zb) := B.out.var.cell 0
  have d1 : Y8.cell? ⟨Gb, 1, none⟩ = some (.slice qb wb.length qbc) := B.out.var.cell 1
  have d2 : Y8.cell? ⟨Gb, 2, none⟩ = some (.bool pb) := B.out.var.cell 2
  have K8 := Lib.hid ((specAgree_any za _ wa pa zb _ wb pb cz cw cp ok2 AG.out (by have := FA.out.1; omega) (fun x hx => by have := FA.out.2 x hx; omega) (by have := FB.out.1; omega) (fun x hx => by have := FB.out.2 x hx; omega) Y8 A.out.rd B.out.rd).mono fun _ _ h => optRet_val h)
  go_wp2_with fail
  refine (K8.out).mono ?_
  rintro e Y9 ⟨v, rfl, hv⟩
  obtain ⟨u1, uc1, f1, rfl, -, hco, hb⟩ := hv
  have hal : Below Y9.heap.size Y9 (Y9.alloc (.cells #[.int .i64 cz, .slice u1 cw.length uc1, .bool cp] OptionsT)) := (Below.refl _ _).alloc (Nat.le_refl _) _
  replace A := Lib.hid (A.out.next hb)
  replace B := Lib.hid (B.out.next hb)
  replace X := Lib.hid (X.out.next hb)
  replace C := Lib.hid (C.out.next hb)
  replace D := Lib.hid (D.out.next hb)
  replace BW := Lib.hid (BW.out.trans (hb.mono BW.out.size))
  replace A := Lib.hid (A.out.next hal)
  replace B := Lib.hid (B.out.next hal)
  replace X := Lib.hid (X.out.next hal)
  replace C := Lib.hid (C.out.next hal)
  replace D := Lib.hid (D.out.next hal)
  replace BW := Lib.hid (BW.out.trans (hal.mono BW.out.size))
  clear hb hal hco f1 K8 c0 c1 c2 d0 d1 d2
  go_upto_region 9 with fail
  generalize Y9.alloc (.cells #[.int .i64 cz, .slice u1 cw.length uc1, .bool cp] OptionsT) = V1 at *
  generalize Y9.heap.size = Gw at *
  clear Y8 Y9
  have c0 : V1.cell? ⟨Ga, 0, none⟩ = some (.int .i64 za) := A.out.var.cell 0
  have c1 : V1.cell? ⟨Ga, 1, none⟩ = some (.slice qa wa.length qac) := A.out.var.cell 1
  have c2 : V1.cell? ⟨Ga, 2, none⟩ = some (.bool pa) := A.out.var.cell 2
  have d0 : V1.cell? ⟨Gx, 0, none⟩ = some (.int .i64 za) := X.out.var.cell 0
  have d1 : V1.cell? ⟨Gx, 1, none⟩ = some (.slice qx wa.length qxc) := X.out.var.cell 1
  have d2 : V1.cell? ⟨Gx, 2, none⟩ = some (.bool pa) := X.out.var.cell 2
  have K9 := Lib.hid (sameTexts_same _ _ wa (by have := FA.out.1; omega) V1 X.out.rd A.out.rd)
  have hoo : (ok2 != ok2) = false := by cases ok2 <;> rfl
  have hpp : (pa != pa) = false := by cases pa <;> rfl
  have hzz : (za != za) = false := by simp
  go_wp2_with fail
  refine (K9.out).mono ?_
  rintro e V2 ⟨rfl, hb⟩
  replace A := Lib.hid (A.out.next hb)
  replace B := Lib.hid (B.out.next hb)
  replace C := Lib.hid (C.out.next hb)
  replace D := Lib.hid (D.out.next hb)
  replace BW := Lib.hid (BW.out.trans (hb.mono BW.out.size))
  clear hb K9 X c0 c1 c2 d0 d1 d2 hpp hzz
  go_wp2_with fail
  refine (drawReadOption_any a len cap V2 (HS.out.below BW.out)).mono ?_
  rintro e V3 ⟨t, ht, rfl, hb⟩
  replace A := Lib.hid (A.out.next hb)
  replace B := Lib.hid (B.out.next hb)
  replace C := Lib.hid (C.out.next hb)
  replace D := Lib.hid (D.out.next hb)
  replace BW := Lib.hid (BW.out.trans (hb.mono BW.out.size))
  obtain ⟨yz, yw, yp, may, hri⟩ := read_is t
  have RI := Lib.hid hri
  clear hb hri
  have K1 := Lib.hid (F.out.read t yz yw yp may RI.out (by omega) V3 (LL.out _ BW.out))
  go_wp2_with fail
  refine (K1.out).mono ?_
  rintro e Y3 ⟨v, rfl, hv⟩
  obtain ⟨qy, qyc, f1, rfl, -, hco, hb⟩ := hv
  replace A := Lib.hid (A.out.next hb)
  replace B := Lib.hid (B.out.next hb)
  replace C := Lib.hid (C.out.next hb)
  replace D := Lib.hid (D.out.next hb)
  replace BW := Lib.hid (BW.out.trans (hb.mono BW.out.size))
  have hal : Below Y3.heap.size Y3 (Y3.alloc (.cells #[.int .i64 yz, .slice qy yw.length qyc, .bool yp] OptionsT)) := (Below.refl _ _).alloc (Nat.le_refl _) _
  have Y := Lib.hid (ORd.new (z := yz) (p := yp) (layStringS.read hco))
  replace A := Lib.hid (A.out.next hal)
  replace B := Lib.hid (B.out.next hal)
  replace C := Lib.hid (C.out.next hal)
  replace D := Lib.hid (D.out.next hal)
  replace BW := Lib.hid (BW.out.trans (hal.mono BW.out.size))
  clear hb hal hco f1 K1
  go_upto_region 13 with fail
  generalize Y3.alloc (.cells #[.int .i64 yz, .slice qy yw.length qyc, .bool yp] OptionsT) = V4 at *
  generalize Y3.heap.size = Gy at *
  clear V1 V2 V3 Y3
  have K2 := Lib.hid ((specReadOption_any t (by omega) yz yw yp may RI.out V4).mono fun _ _ h => optRet_val h)
  go_wp2_with fail
  refine (K2.out).mono ?_
  rintro e Y5 ⟨v, rfl, hv⟩
  obtain ⟨m1, mc1, f1, rfl, -, hco, hb⟩ := hv
  have hal : Below Y5.heap.size Y5 (Y5.alloc (.cells #[.int .i64 yz, .slice m1 yw.length mc1, .bool yp] OptionsT)) := (Below.refl _ _).alloc (Nat.le_refl _) _
  replace A := Lib.hid (A.out.next hb)
  replace B := Lib.hid (B.out.next hb)
  replace C := Lib.hid (C.out.next hb)
  replace D := Lib.hid (D.out.next hb)
  replace Y := Lib.hid (Y.out.next hb)
  replace BW := Lib.hid (BW.out.trans (hb.mono BW.out.size))
  replace A := Lib.hid (A.out.next hal)
  replace B := Lib.hid (B.out.next hal)
  replace C := Lib.hid (C.out.next hal)
  replace D := Lib.hid (D.out.next hal)
  replace Y := Lib.hid (Y.out.next hal)
  replace BW := Lib.hid (BW.out.trans (hal.mono BW.out.size))
  clear hb hal hco f1 K2
  go_upto_region 14 with fail
  generalize Y5.alloc (.cells #[.int .i64 yz, .slice m1 yw.length mc1, .bool yp] OptionsT) = V5 at *
  generalize Y5.heap.size = Gm at *
  clear V4 Y5
  obtain ⟨again, ok3, hti⟩ := text_is yz yw yp
  have TI := Lib.hid hti
  have FY : Hid (FitsOptions yw) := Lib.hid (by
    rcases RI.out with ⟨_, h, _⟩ | ⟨_, _, _, rfl, _⟩
    · exact h.fits
    · exact ⟨by simp, by simp⟩)
  have HAG : Hid (may = true → again = t) := Lib.hid (fun e => by
    rcases RI.out with ⟨_, h1, h2⟩ | ⟨h, _⟩
    · rcases TI.out with ⟨_, _, h3⟩ | ⟨_, h3, _⟩
      · rw [h3, h2]
      · exact absurd h1 h3
    · rw [h] at e; cases e)
  clear hti
  have c0 : V5.cell? ⟨Gy, 0, none⟩ = some (.int .i64 yz) := Y.out.var.cell 0
  have c1 : V5.cell? ⟨Gy, 1, none⟩ = some (.slice qy yw.length qyc) := Y.out.var.cell 1
  have c2 : V5.cell? ⟨Gy, 2, none⟩ = some (.bool yp) := Y.out.var.cell 2
  have K3 := Lib.hid (F.out.text yz _ yw yp again ok3 TI.out FY.out V5 (LL.out _ BW.out) Y.out.rd)
  go_wp2_with fail
  refine (K3.out).mono ?_
  rintro e V6 ⟨rfl, hb⟩
  replace A := Lib.hid (A.out.next hb)
  replace B := Lib.hid (B.out.next hb)
  replace C := Lib.hid (C.out.next hb)
  replace D := Lib.hid (D.out.next hb)
  replace BW := Lib.hid (BW.out.trans (hb.mono BW.out.size))
  clear hb K3 Y c0 c1 c2 V5
  have hmm : (may != may) = false := by cases may <;> rfl
  go_upto_region 15 with fail
  go_cut [126] (fun v wx => v = .bool false ∧ wx = V6)
  case first =>
    cases may with
    | false =>
      go_wp2_with fail
      go_meet
      exact ⟨rfl, rfl⟩
    | true =>
      have hat := HAG.out rfl
      have hat2 : (again.toList == t.toList) = true := by rw [hat]; simp
      clear hat
      go_wp2_with fail
      go_meet
      exact ⟨rfl, rfl⟩
  case rest =>
    obtain ⟨rfl, rfl⟩ := hcut
    clear RI TI FY HAG
    cases ok2 with
    | false =>
      obtain rfl := agree_no AG.out
      have c0 : wc.cell? ⟨Gc, 0, none⟩ = some (.int .i64 cz) := C.out.var.cell 0
      have c1 : wc.cell? ⟨Gc, 1, none⟩ = some (.slice qc 0 qcc) := C.out.var.cell 1
      have c2 : wc.cell? ⟨Gc, 2, none⟩ = some (.bool cp) := C.out.var.cell 2
      go_wp2_with fail
      go_ret
      exact ⟨rfl, BW.out⟩
    | true =>
      obtain ⟨x, rfl, hxa, hxb, hza, hzb, -, hcp, hop⟩ := agree_yes AG.out
      have e1 := (TV.out rfl).1.symm
      have e2 := (TV.out rfl).2.symm
      subst e1 e2
      have hla : wa.length ≤ 1048576 := FA.out.1
      have hlb : wb.length ≤ 1048576 := FB.out.1
      have HXA := Lib.hid hxa
      have HXB := Lib.hid hxb
      have HCP := Lib.hid hcp
      have HOP := Lib.hid hop
      have QQ : Hid (ORd Ga za (.slice qa wa.length qac) wa pa wc ∧ ORd Gb zb (.slice qb wb.length qbc) wb pb wc ∧ ORd Gc cz (.slice qc 1 qcc) [x] cp wc ∧ ORd Gd cz (.slice qd dw.length qdc) dw cp wc ∧ Below w.heap.size w wc) := Lib.hid ⟨A.out, B.out, C.out, D.out, BW.out⟩
      have qn : ∀ X Y, (ORd Ga za (.slice qa wa.length qac) wa pa X ∧ ORd Gb zb (.slice qb wb.length qbc) wb pb X ∧ ORd Gc cz (.slice qc 1 qcc) [x] cp X ∧ ORd Gd cz (.slice qd dw.length qdc) dw cp X ∧ Below w.heap.size w X) → Below X.heap.size X Y → (ORd Ga za (.slice qa wa.length qac) wa pa Y ∧ ORd Gb zb (.slice qb wb.length qbc) wb pb Y ∧ ORd Gc cz (.slice qc 1 qcc) [x] cp Y ∧ ORd Gd cz (.slice qd dw.length qdc) dw cp Y ∧ Below w.heap.size w Y) := fun X Y h hb => ⟨h.1.next hb, h.2.1.next hb, h.2.2.1.next hb, h.2.2.2.1.next hb, h.2.2.2.2.trans (hb.mono h.2.2.2.2.size)⟩
      clear A B C D BW AG AG2 TV hcp hop hxa hxb hoo
      go_wp2_with fail
      go_loopw [22, 24] (fun f i wr => ∃ (j : Nat) (ib : Bool), j ≤ wa.length ∧ i = .int .i64 j ∧ f = .bool ib ∧ Hid (FoundTo wa x j ib) ∧ (ORd Ga za (.slice qa wa.length qac) wa pa wr ∧ ORd Gb zb (.slice qb wb.length qbc) wb pb wr ∧ ORd Gc cz (.slice qc 1 qcc) [x] cp wr ∧ ORd Gd cz (.slice qd dw.length qdc) dw cp wr ∧ Below w.heap.size w wr)) (fun _ i _ => wa.length - (intOf i).toNat)
      case atStart => exact ⟨0, false, Nat.zero_le _, rfl, rfl, Lib.hid ⟨fun e => (by cases e), fun ⟨k, hk, _⟩ => absurd hk (by omega)⟩, QQ.out⟩
      case round =>
        clear QQ
        obtain ⟨j, ib, hj, rfl, rfl, HI, hq⟩ := hrel
        have QQ := Lib.hid hq
        clear hq
        have a1 : wr.cell? ⟨Ga, 1, none⟩ = some (.slice qa wa.length qac) := QQ.out.1.var.cell 1
        by_cases hlt : j < wa.length
        · have hlt' : (j : Int) < (wa.length : Int) := by omega
          cases ib with
          | true =>
            have HN : Hid (FoundTo wa x (j + 1) true) := Lib.hid ⟨fun _ => by obtain ⟨k, hk, h⟩ := HI.out.1 rfl; exact ⟨k, by omega, h⟩, fun _ => rfl⟩
            go_wp2_with fail
            go_quiet (fail)
            have QN : Hid (ORd Ga za (.slice qa wa.length qac) wa pa (wr.drewN nq) ∧ ORd Gb zb (.slice qb wb.length qbc) wb pb (wr.drewN nq) ∧ ORd Gc cz (.slice qc 1 qcc) [x] cp (wr.drewN nq) ∧ ORd Gd cz (.slice qd dw.length qdc) dw cp (wr.drewN nq) ∧ Below w.heap.size w (wr.drewN nq)) := Lib.hid (qn _ _ QQ.out (below_drewN (Below.refl _ _) nq))
            go_wp2_with fail
            go_roundw
            case rel => exact ⟨j + 1, true, by omega, by go_num, rfl, HN, QN.out⟩
            case measure => simp [intOf]; omega
          | false =>
            have hx := List.getElem?_eq_getElem hlt
            obtain ⟨g, og, cs, hb1, hg, hr, hc⟩ := rows_elem QQ.out.1.rd j _ hx
            obtain ⟨h, oh, ds, hc1, hh, hs, hd⟩ := rows_elem QQ.out.2.2.1.rd 0 x rfl
            have HNX : Hid ((∃ k, k < j + 1 ∧ wa[k]? = some x) ↔ wa[j] = x) := Lib.hid ⟨fun ⟨k, hk, hk2⟩ => by
              rcases Nat.lt_or_ge k j with h2 | h2
              · exact absurd (HI.out.2 ⟨k, h2, hk2⟩) (by simp)
              · obtain rfl : k = j := by omega
                rw [hx] at hk2
                exact Option.some.inj hk2, fun e => ⟨j, by omega, by rw [hx, e]⟩⟩
            generalize wa[j] = y at hr HNX
            rw [layString_rd] at hr hs
            subst hr hs
            have r0 : wr.cell? ⟨g, og + j, none⟩ = some (.string y) := (by have h9 := hc 0 _ rfl; rw [str_k] at h9; exact h9)
            have r1 : wr.cell? ⟨h, oh, none⟩ = some (.string x) := (by have h9 := hd 0 _ rfl; simpa using h9)
            have a2 : wr.cell? ⟨Gc, 1, none⟩ = some (.slice qc 1 qcc) := QQ.out.2.2.1.var.cell 1
            subst hb1 hc1
            clear hc hd hx
            by_cases hy : y = x
            · have ky : (y.toList == x.toList) = true := by rw [hy]; simp
              have HN : Hid (FoundTo wa x (j + 1) true) := Lib.hid ⟨fun _ => HNX.out.2 hy, fun _ => rfl⟩
              clear hy HNX
              go_wp2_with fail
              go_quiet (fail)
              have QN : Hid (ORd Ga za (.slice (some ⟨g, og, none⟩) wa.length qac) wa pa (wr.drewN nq) ∧ ORd Gb zb (.slice qb wb.length qbc) wb pb (wr.drewN nq) ∧ ORd Gc cz (.slice (some ⟨h, oh, none⟩) 1 qcc) [x] cp (wr.drewN nq) ∧ ORd Gd cz (.slice qd dw.length qdc) dw cp (wr.drewN nq) ∧ Below w.heap.size w (wr.drewN nq)) := Lib.hid (qn _ _ QQ.out (below_drewN (Below.refl _ _) nq))
              go_wp2_with fail
              go_roundw
              case rel => exact ⟨j + 1, true, by omega, by go_num, rfl, HN, QN.out⟩
              case measure => simp [intOf]; omega
            · have ky : (y.toList == x.toList) = false := text_ne hy
              have HN : Hid (FoundTo wa x (j + 1) false) := Lib.hid ⟨fun e => (by cases e), fun e => absurd (HNX.out.1 e) hy⟩
              clear hy HNX
              go_wp2_with fail
              go_quiet (fail)
              have QN : Hid (ORd Ga za (.slice (some ⟨g, og, none⟩) wa.length qac) wa pa (wr.drewN nq) ∧ ORd Gb zb (.slice qb wb.length qbc) wb pb (wr.drewN nq) ∧ ORd Gc cz (.slice (some ⟨h, oh, none⟩) 1 qcc) [x] cp (wr.drewN nq) ∧ ORd Gd cz (.slice qd dw.length qdc) dw cp (wr.drewN nq) ∧ Below w.heap.size w (wr.drewN nq)) := Lib.hid (qn _ _ QQ.out (below_drewN (Below.refl _ _) nq))
              go_wp2_with fail
              go_roundw
              case rel => exact ⟨j + 1, false, by omega, by go_num, rfl, HN, QN.out⟩
              case measure => simp [intOf]; omega
        · have hlt' : ¬ ((j : Int) < (wa.length : Int)) := by omega
          obtain rfl : ib = true := HI.out.2 (by
            obtain ⟨k, hk, hk2⟩ := List.getElem_of_mem HXA.out
            exact ⟨k, by omega, by rw [List.getElem?_eq_getElem hk, hk2]⟩)
          clear HI
          go_wp2_with fail
          go_loopw [23, 25] (fun f i wr => ∃ (j : Nat) (ib : Bool), j ≤ wb.length ∧ i = .int .i64 j ∧ f = .bool ib ∧ Hid (FoundTo wb x j ib) ∧ (ORd Ga za (.slice qa wa.length qac) wa pa wr ∧ ORd Gb zb (.slice qb wb.length qbc) wb pb wr ∧ ORd Gc cz (.slice qc 1 qcc) [x] cp wr ∧ ORd Gd cz (.slice qd dw.length qdc) dw cp wr ∧ Below w.heap.size w wr)) (fun _ i _ => wb.length - (intOf i).toNat)
          case atStart => exact ⟨0, false, Nat.zero_le _, rfl, rfl, Lib.hid ⟨fun e => (by cases e), fun ⟨k, hk, _⟩ => absurd hk (by omega)⟩, QQ.out⟩
          case round =>
            clear QQ
            obtain ⟨j, ib, hj, rfl, rfl, HI, hq⟩ := hrel
            have QQ := Lib.hid hq
            clear hq
            have a1 : wr.cell? ⟨Gb, 1, none⟩ = some (.slice qb wb.length qbc) := QQ.out.2.1.var.cell 1
            by_cases hlt : j < wb.length
            · have hlt' : (j : Int) < (wb.length : Int) := by omega
              cases ib with
              | true =>
                have HN : Hid (FoundTo wb x (j + 1) true) := Lib.hid ⟨fun _ => by obtain ⟨k, hk, h⟩ := HI.out.1 rfl; exact ⟨k, by omega, h⟩, fun _ => rfl⟩
                go_wp2_with fail
                go_quiet (fail)
                have QN : Hid (ORd Ga za (.slice qa wa.length qac) wa pa (wr.drewN nq) ∧ ORd Gb zb (.slice qb wb.length qbc) wb pb (wr.drewN nq) ∧ ORd Gc cz (.slice qc 1 qcc) [x] cp (wr.drewN nq) ∧ ORd Gd cz (.slice qd dw.length qdc) dw cp (wr.drewN nq) ∧ Below w.heap.size w (wr.drewN nq)) := Lib.hid (qn _ _ QQ.out (below_drewN (Below.refl _ _) nq))
                go_wp2_with fail
                go_roundw
                case rel => exact ⟨j + 1, true, by omega, by go_num, rfl, HN, QN.out⟩
                case measure => simp [intOf]; omega
              | false =>
                have hx := List.getElem?_eq_getElem hlt
                obtain ⟨g, og, cs, hb1, hg, hr, hc⟩ := rows_elem QQ.out.2.1.rd j _ hx
                obtain ⟨h, oh, ds, hc1, hh, hs, hd⟩ := rows_elem QQ.out.2.2.1.rd 0 x rfl
                have HNX : Hid ((∃ k, k < j + 1 ∧ wb[k]? = some x) ↔ wb[j] = x) := Lib.hid ⟨fun ⟨k, hk, hk2⟩ => by
                  rcases Nat.lt_or_ge k j with h2 | h2
                  · exact absurd (HI.out.2 ⟨k, h2, hk2⟩) (by simp)
                  · obtain rfl : k = j := by omega
                    rw [hx] at hk2
                    exact Option.some.inj hk2, fun e => ⟨j, by omega, by rw [hx, e]⟩⟩
                generalize wb[j] = y at hr HNX
                rw [layString_rd] at hr hs
                subst hr hs
                have r0 : wr.cell? ⟨g, og + j, none⟩ = some (.string y) := (by have h9 := hc 0 _ rfl; rw [str_k] at h9; exact h9)
                have r1 : wr.cell? ⟨h, oh, none⟩ = some (.string x) := (by have h9 := hd 0 _ rfl; simpa using h9)
                have a2 : wr.cell? ⟨Gc, 1, none⟩ = some (.slice qc 1 qcc) := QQ.out.2.2.1.var.cell 1
                subst hb1 hc1
                clear hc hd hx
                by_cases hy : y = x
                · have ky : (y.toList == x.toList) = true := by rw [hy]; simp
                  have HN : Hid (FoundTo wb x (j + 1) true) := Lib.hid ⟨fun _ => HNX.out.2 hy, fun _ => rfl⟩
                  clear hy HNX
                  go_wp2_with fail
                  go_quiet (fail)
                  have QN : Hid (ORd Ga za (.slice qa wa.length qac) wa pa (wr.drewN nq) ∧ ORd Gb zb (.slice (some ⟨g, og, none⟩) wb.length qbc) wb pb (wr.drewN nq) ∧ ORd Gc cz (.slice (some ⟨h, oh, none⟩) 1 qcc) [x] cp (wr.drewN nq) ∧ ORd Gd cz (.slice qd dw.length qdc) dw cp (wr.drewN nq) ∧ Below w.heap.size w (wr.drewN nq)) := Lib.hid (qn _ _ QQ.out (below_drewN (Below.refl _ _) nq))
                  go_wp2_with fail
                  go_roundw
                  case rel => exact ⟨j + 1, true, by omega, by go_num, rfl, HN, QN.out⟩
                  case measure => simp [intOf]; omega
                · have ky : (y.toList == x.toList) = false := text_ne hy
                  have HN : Hid (FoundTo wb x (j + 1) false) := Lib.hid ⟨fun e => (by cases e), fun e => absurd (HNX.out.1 e) hy⟩
                  clear hy HNX
                  go_wp2_with fail
                  go_quiet (fail)
                  have QN : Hid (ORd Ga za (.slice qa wa.length qac) wa pa (wr.drewN nq) ∧ ORd Gb zb (.slice (some ⟨g, og, none⟩) wb.length qbc) wb pb (wr.drewN nq) ∧ ORd Gc cz (.slice (some ⟨h, oh, none⟩) 1 qcc) [x] cp (wr.drewN nq) ∧ ORd Gd cz (.slice qd dw.length qdc) dw cp (wr.drewN nq) ∧ Below w.heap.size w (wr.drewN nq)) := Lib.hid (qn _ _ QQ.out (below_drewN (Below.refl _ _) nq))
                  go_wp2_with fail
                  go_roundw
                  case rel => exact ⟨j + 1, false, by omega, by go_num, rfl, HN, QN.out⟩
                  case measure => simp [intOf]; omega
            · have hlt2 : ¬ ((j : Int) < (wb.length : Int)) := by omega
              obtain rfl : ib = true := HI.out.2 (by
                obtain ⟨k, hk, hk2⟩ := List.getElem_of_mem HXB.out
                exact ⟨k, by omega, by rw [List.getElem?_eq_getElem hk, hk2]⟩)
              clear HI
              have c0 : wr.cell? ⟨Ga, 0, none⟩ = some (.int .i64 za) := QQ.out.1.var.cell 0
              have c1 : wr.cell? ⟨Ga, 1, none⟩ = some (.slice qa wa.length qac) := QQ.out.1.var.cell 1
              have c2 : wr.cell? ⟨Ga, 2, none⟩ = some (.bool pa) := QQ.out.1.var.cell 2
              have d0 : wr.cell? ⟨Gb, 0, none⟩ = some (.int .i64 zb) := QQ.out.2.1.var.cell 0
              have d1 : wr.cell? ⟨Gb, 1, none⟩ = some (.slice qb wb.length qbc) := QQ.out.2.1.var.cell 1
              have d2 : wr.cell? ⟨Gb, 2, none⟩ = some (.bool pb) := QQ.out.2.1.var.cell 2
              have e0 : wr.cell? ⟨Gc, 0, none⟩ = some (.int .i64 cz) := QQ.out.2.2.1.var.cell 0
              have e1 : wr.cell? ⟨Gc, 1, none⟩ = some (.slice qc 1 qcc) := QQ.out.2.2.1.var.cell 1
              have e2 : wr.cell? ⟨Gc, 2, none⟩ = some (.bool cp) := QQ.out.2.2.1.var.cell 2
              have f0 : wr.cell? ⟨Gd, 0, none⟩ = some (.int .i64 cz) := QQ.out.2.2.2.1.var.cell 0
              have f1 : wr.cell? ⟨Gd, 1, none⟩ = some (.slice qd dw.length qdc) := QQ.out.2.2.2.1.var.cell 1
              have f2 : wr.cell? ⟨Gd, 2, none⟩ = some (.bool cp) := QQ.out.2.2.2.1.var.cell 2
              have KO := Lib.hid (F.out.ok cz (.slice qc 1 qcc) [x] cp true ⟨fun _ => HOP.out, fun _ => rfl⟩ HOP.out.fits wr (LL.out _ QQ.out.2.2.2.2) QQ.out.2.2.1.rd)
              have BZ := Lib.hid QQ.out.2.2.2.2
              have hcz2 : (cz == cz) = true := by simp
              have hce : (cp == cp) = true := by cases cp <;> rfl
              have hcp := HCP.out
              cases pa with
              | false =>
                obtain rfl : cp = false := hcp
                try clear hcp
                try clear HCP
                go_wp2_with fail
                refine (KO.out).mono ?_
                rintro e V9 ⟨rfl, hb⟩
                have BZ2 := Lib.hid (BZ.out.trans (hb.mono BZ.out.size))
                clear hb
                go_wp2_with fail
                go_ret
                exact ⟨rfl, BZ2.out⟩
              | true =>
                obtain rfl : pb = cp := by rw [hcp]; rfl
                try clear hcp
                try clear HCP
                go_wp2_with fail
                refine (KO.out).mono ?_
                rintro e V9 ⟨rfl, hb⟩
                have BZ2 := Lib.hid (BZ.out.trans (hb.mono BZ.out.size))
                clear hb
                go_wp2_with fail
                go_ret
                exact ⟨rfl, BZ2.out⟩

end Go.Proofs.YtmgdhlodifkemadDoor

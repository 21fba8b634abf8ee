/-
  The program's ReadPacket.
-/
import Derived.Test.YtdhacjpdlmnlmarDoorJ10
import Derived.Test.YtdhacjpdlmnlmarDoorJ11
import Derived.Test.YtdhacjpdlmnlmarDoorJ18
import Derived.Test.YtdhacjpdlmnlmarDoorJ19
namespace Go.Proofs.YtdhacjpdlmnlmarDoor
open Go.RowKit

/-- Unsealed: one answer, and it is told where text is sealed. -/
theorem implUnsealed_one (text : ByteArray) (hs : text.size ≤ 1048576) : ∃ (s : ByteArray) (ok : Bool), s.size ≤ 20000 ∧
    (∀ w, Laid w → Calls Tryd.prog 13 #[.string text] w fun e w' => e = .returned (.tuple #[.string s, .bool ok]) ∧ Below w.heap.size w w') ∧
    (ok = true → text = ⟨(sealedOf s.data.toList).toArray⟩) ∧
    ∀ t : List UInt8, t.length ≤ 20000 → text = ⟨(sealedOf t).toArray⟩ → s.data.toList = t ∧ ok = true := by
  have hz : ∀ t : List UInt8, text = ⟨(sealedOf t).toArray⟩ → text.size = t.length + 4 := fun t h => by
    rw [h]
    show (sealedOf t).toArray.size = _
    simp [sealedOf, four_length]
  by_cases h1 : text.size < 4
  · exact ⟨⟨#[]⟩, false, by show 0 ≤ _; omega, fun w _ => implUnsealed_short text h1 w, fun h => (by cases h), fun t _ h => absurd (hz t h) (by omega)⟩
  by_cases h2 : 20004 < text.size
  · exact ⟨⟨#[]⟩, false, by show 0 ≤ _; omega, fun w _ => implUnsealed_long text hs h2 w, fun h => (by cases h), fun t ht h => absurd (hz t h) (by omega)⟩
  have hcut : ∀ t : List UInt8, text = ⟨(sealedOf t).toArray⟩ → (text.extract 0 (text.size - 4)).data.toList = t := fun t h => by
    have e := cut_whole text (text.size - 4)
    have hl : (text.extract 0 (text.size - 4)).data.toList.length = t.length := by
      have := hz t h
      simp
      omega
    have h3 : text.data.toList = t ++ four (sumL 4294967295 t) := by
      have := congrArg (fun b : ByteArray => b.data.toList) h
      simpa [sealedOf] using this
    rw [h3] at e
    exact (List.append_inj e.symm hl).1
  by_cases h3 : (⟨(sealedOf (text.extract 0 (text.size - 4)).data.toList).toArray⟩ : ByteArray) = text
  · exact ⟨_, true, by simp [ByteArray.size_extract]; omega, fun w hL => implUnsealed_right text (by omega) (by omega) h3 w hL, fun _ => h3.symm, fun t _ h => ⟨hcut t h, rfl⟩⟩
  · exact ⟨⟨#[]⟩, false, by show 0 ≤ _; omega, fun w hL => implUnsealed_wrong text (by omega) (by omega) h3 w hL, fun h => (by cases h), fun t _ h => absurd (by rw [hcut t h]; exact h.symm) h3⟩

/-- The packet that bytes say, as ints. -/
def Pk.ints (k : Pk) : PI := ⟨k.op, k.key, k.src, k.dst, k.num, k.acks.map Int.ofNat, ⟨k.body.toArray⟩⟩
theorem Pk.back (k : Pk) : pkOf k.ints.op k.ints.key k.ints.fr k.ints.dst k.ints.num k.ints.acks k.ints.body = k := by
  obtain ⟨a, b, c, d, e, f, g⟩ := k
  simp only [pkOf, Pk.ints, Int.toNat_natCast, List.map_map, Pk.mk.injEq, true_and, and_true]
  have h : (Int.toNat ∘ Int.ofNat) = id := funext fun n => by simp
  rw [h, List.map_id]
theorem PI.there {p : PI} (h : PkOkP p.op p.key p.fr p.dst p.num p.acks p.body) : (pkOf p.op p.key p.fr p.dst p.num p.acks p.body).ints = p := by
  obtain ⟨a1, a2, a3, a4, a5, _, _, a8, _⟩ := h
  obtain ⟨p1, p2, p3, p4, p5, p6, p7⟩ := p
  simp only at a1 a2 a3 a4 a5 a8
  have e6 : (p6.map Int.toNat).map Int.ofNat = p6 := by
    rw [List.map_map]
    refine (List.map_congr_left (g := id) (fun x hx => ?_)).trans (List.map_id _)
    have := (a8 x hx).1
    show ((x.toNat : Nat) : Int) = x
    omega
  simp only [pkOf, Pk.ints, e6]
  rw [show ((p1.toNat : Nat) : Int) = p1 by omega, show ((p2.toNat : Nat) : Int) = p2 by omega, show ((p3.toNat : Nat) : Int) = p3 by omega, show ((p4.toNat : Nat) : Int) = p4 by omega, show ((p5.toNat : Nat) : Int) = p5 by omega]
section
variable {text s : ByteArray}
theorem says_reads {ok : Bool} (hT : ∀ t : List UInt8, t.length ≤ 20000 → text = ⟨(sealedOf t).toArray⟩ → s.data.toList = t ∧ ok = true) {p : PI} (hp : p.says text) : ok = true ∧ readPk s.data.toList = some (pkOf p.op p.key p.fr p.dst p.num p.acks p.body) := by
  obtain ⟨h1, h2⟩ := hT _ (PI.few hp) hp.2
  exact ⟨h2, by rw [h1]; exact readPk_of _ (PI.fits hp)⟩
/-- Bytes of which no packet is read. -/
theorem none_says (hT : ∀ p : PI, p.says text → readPk s.data.toList = some (pkOf p.op p.key p.fr p.dst p.num p.acks p.body)) (h : ∀ k : Pk, readPk s.data.toList = some k → k.acks.length ≤ 4 → False) : ∀ p : PI, ¬ p.says text := fun p hp => by
  refine h _ (hT p hp) ?_
  show (p.acks.map Int.toNat).length ≤ 4
  rw [List.length_map]
  exact hp.1.2.2.2.2.2.1
theorem one_says (hT : ∀ p : PI, p.says text → readPk s.data.toList = some (pkOf p.op p.key p.fr p.dst p.num p.acks p.body)) {k : Pk} (hk : readPk s.data.toList = some k) : ∀ p : PI, p.says text → p = k.ints := fun p hp => by
  have h := hT p hp
  rw [hk] at h
  rw [Option.some.inj h, PI.there hp.1]
theorem yes_says (he : text = ⟨(sealedOf s.data.toList).toArray⟩) {k : Pk} (hk : readPk s.data.toList = some k) (ho : PkOkP k.ints.op k.ints.key k.ints.fr k.ints.dst k.ints.num k.ints.acks k.ints.body) : k.ints.says text := by
  refine ⟨ho, ?_⟩
  rw [Pk.back, ← (readPk_some hk).1]
  exact he
/-- How readPk goes. -/
theorem readPk_parts {k : Pk} {l : List UInt8} (h : readPk l = some k) : ∃ a b c r0 r1 r2, l = a :: b :: c :: r0 ∧ readV r0 = some (k.num, r1) ∧ readV r1 = some (k.acks.length, r2) ∧ readVs k.acks.length r2 = some (k.acks, k.body) := by
  obtain ⟨h1, h2⟩ := readPk_some h
  exact ⟨_, _, _, _, _, _, h1, readV_var k.num h2.num _, readV_var k.acks.length h2.many _, readVs_of k.acks k.body h2.acks⟩
theorem readPk_make {s : ByteArray} {m n q q2 : Nat} {t : List UInt8} {xs : List Nat} (h3 : 3 ≤ s.size) (h0 : readV (s.data.toList.drop 3) = some (m, s.data.toList.drop q)) (h1 : readV (s.data.toList.drop q) = some (n, t)) (h2 : readVs n t = some (xs, s.data.toList.drop q2)) :
    readPk s.data.toList = some ⟨(s[0]).toNat / 8, (s[0]).toNat % 8, (s[1]).toNat, (s[2]).toNat, m, xs, s.data.toList.drop q2⟩ := by
  have hsz : s.data.toList.length = s.size := by simp
  have e : s.data.toList = s[0] :: s[1] :: s[2] :: s.data.toList.drop 3 := by
    have e0 : s.data.toList = s.data.toList.drop 0 := rfl
    rw [e0, List.drop_eq_getElem_cons (by omega), List.drop_eq_getElem_cons (by omega), List.drop_eq_getElem_cons (by omega)]
    rfl
  generalize hl : s.data.toList.drop 3 = r at *
  generalize hq : s.data.toList.drop q = rq at *
  generalize hq2 : s.data.toList.drop q2 = rq2 at *
  rw [e]
  unfold readPk
  simp only []
  rw [h0]
  simp only []
  rw [h1]
  simp only []
  rw [h2]
end
theorem wrap_self (x : Nat) (h : x ≤ 255) : IntKind.i64.wrap (x : Int) = (x : Int) := by
  rw [IntKind.wrap_i64]
  omega
theorem wrap_div (x : Nat) (h : x ≤ 255) : IntKind.i64.wrap ((wrap64 (x : Int)).tdiv 8) = ((x / 8 : Nat) : Int) := by
  have e9 : wrap64 (x : Int) = (x : Int) := by unfold wrap64; omega
  rw [e9, IntKind.wrap_i64, Int.tdiv_eq_ediv_of_nonneg (by omega)]
  omega
theorem wrap_mod (x : Nat) (h : x ≤ 255) : (wrap64 (x : Int)).tmod 8 = ((x % 8 : Nat) : Int) := by
  have e9 : wrap64 (x : Int) = (x : Int) := by unfold wrap64; omega
  rw [e9, Int.tmod_eq_emod_of_nonneg (by omega)]
  omega
theorem byte_few (b : UInt8) : b.toNat ≤ 255 := by
  have := b.toNat_lt
  omega
/-- The result's variable, what lies below. -/
structure RQ (w : World) (X : World) : Prop where
  res : VarA w.heap.size PkT #[.int .i64 0, .int .i64 0, .int .i64 0, .int .i64 0, .int .i64 0, .slice none 0 0, .string ⟨#[]⟩] X
  below : Below w.heap.size w X
theorem RQ.next {w X Y : World} (h : RQ w X) (hb : Below X.heap.size X Y) : RQ w Y := ⟨h.res.next hb, h.below.trans (hb.mono h.below.size)⟩

set_option maxRecDepth 100000 in
set_option maxHeartbeats 6400000 in
theorem implReadPacket_any (text : ByteArray) (hs : text.size ≤ 1048576) (w : World) (hL : Laid w) :
    Calls Tryd.prog 5 #[.string text] w (PkEnd text w) := by
  obtain ⟨s, ok, hsz, hU, hE, hT⟩ := implUnsealed_one text hs
  have HE := Lib.hid hE
  have HT := Lib.hid hT
  have R0 : Hid (RQ w (w.alloc (.cells #[.int .i64 0, .int .i64 0, .int .i64 0, .int .i64 0, .int .i64 0, .slice none 0 0, .string ⟨#[]⟩] PkT))) := ⟨VarA.new w PkT _, (Below.refl w.heap.size w).alloc (Nat.le_refl _) _⟩
  have KU := Lib.hid (hU _ (hL.stays ((Below.refl w.heap.size w).alloc (Nat.le_refl _) (.cells #[.int .i64 0, .int .i64 0, .int .i64 0, .int .i64 0, .int .i64 0, .slice none 0 0, .string ⟨#[]⟩] PkT)) (Nat.le_refl _)))
  clear hE hT hU hL
  go_enter Tryd.func5, Tryd.ntmps5
  go_upto_region 1 with fail
  generalize w.alloc (.cells #[.int .i64 0, .int .i64 0, .int .i64 0, .int .i64 0, .int .i64 0, .slice none 0 0, .string ⟨#[]⟩] PkT) = Y at *
  go_wp2_with fail
  refine (KU.out).mono ?_
  rintro e Z ⟨rfl, hbz⟩
  have HZ := Lib.hid (R0.out.next hbz)
  clear hbz KU R0
  cases ok with
  | false =>
    have HNO : Hid (∀ p : PI, ¬ p.says text) := fun p hp => by cases (says_reads HT.out hp).1
    clear HT HE
    go_upto_region 3 with fail
    have g0 := HZ.out.res.free 0
    have g1 := HZ.out.res.free 1
    have g2 := HZ.out.res.free 2
    have g3 := HZ.out.res.free 3
    have g4 := HZ.out.res.free 4
    have g5 := HZ.out.res.free 5
    have g6 := HZ.out.res.free 6
    have q0 : Z.cell? ⟨w.heap.size, 0, none⟩ = some (.int .i64 0) := HZ.out.res.cell 0
    have q1 : Z.cell? ⟨w.heap.size, 1, none⟩ = some (.int .i64 0) := HZ.out.res.cell 1
    have q2 : Z.cell? ⟨w.heap.size, 2, none⟩ = some (.int .i64 0) := HZ.out.res.cell 2
    have q3 : Z.cell? ⟨w.heap.size, 3, none⟩ = some (.int .i64 0) := HZ.out.res.cell 3
    have q4 : Z.cell? ⟨w.heap.size, 4, none⟩ = some (.int .i64 0) := HZ.out.res.cell 4
    have q5 : Z.cell? ⟨w.heap.size, 5, none⟩ = some (.slice none 0 0) := HZ.out.res.cell 5
    have q6 : Z.cell? ⟨w.heap.size, 6, none⟩ = some (.string ⟨#[]⟩) := HZ.out.res.cell 6
    have R7 := set_seven (p0 := .int .i64 0) (p1 := .int .i64 0) (p2 := .int .i64 0) (p3 := .int .i64 0) (p4 := .int .i64 0) (p5 := .slice none 0 0) (p6 := .string ⟨#[]⟩) HZ.out.res
    have j0 := R7.cell 0
    have j1 := R7.cell 1
    have j2 := R7.cell 2
    have j3 := R7.cell 3
    have j4 := R7.cell 4
    have j5 := R7.cell 5
    have j6 := R7.cell 6
    have FIN := Lib.hid (HZ.out.below.trans (only_below (only_seven Z w.heap.size (.int .i64 0) (.int .i64 0) (.int .i64 0) (.int .i64 0) (.int .i64 0) (.slice none 0 0) (.string ⟨#[]⟩)) (Nat.le_refl _) HZ.out.below.size))
    clear R7
    go_wp2_with fail
    exact bodyPost_ret (v := .tuple #[.agg #[.int .i64 0, .int .i64 0, .int .i64 0, .int .i64 0, .int .i64 0, .slice none 0 0, .string ⟨#[]⟩], .bool false]) (by simp [results, Tryd.results5, go_sem, j0, j1, j2, j3, j4, j5, j6]) rfl (Or.inr ⟨HNO.out, rfl, FIN.out⟩)
  | true =>
    have HP : Hid (∀ p : PI, p.says text → readPk s.data.toList = some (pkOf p.op p.key p.fr p.dst p.num p.acks p.body)) := fun p hp => (says_reads HT.out hp).2
    have HX := Lib.hid (HE.out rfl)
    clear HT HE
    by_cases h3 : 3 ≤ s.size
    rotate_left
    · have h3' : (s.size : Int) < 3 := by omega
      have HNO : Hid (∀ p : PI, ¬ p.says text) := none_says HP.out (fun k hk _ => by
        obtain ⟨a, b, c, r0, _, _, e, _⟩ := readPk_parts hk
        have := congrArg List.length e
        simp at this
        omega)
      clear HP HX
      go_upto_region 3 with fail
      have g0 := HZ.out.res.free 0
      have g1 := HZ.out.res.free 1
      have g2 := HZ.out.res.free 2
      have g3 := HZ.out.res.free 3
      have g4 := HZ.out.res.free 4
      have g5 := HZ.out.res.free 5
      have g6 := HZ.out.res.free 6
      have q0 : Z.cell? ⟨w.heap.size, 0, none⟩ = some (.int .i64 0) := HZ.out.res.cell 0
      have q1 : Z.cell? ⟨w.heap.size, 1, none⟩ = some (.int .i64 0) := HZ.out.res.cell 1
      have q2 : Z.cell? ⟨w.heap.size, 2, none⟩ = some (.int .i64 0) := HZ.out.res.cell 2
      have q3 : Z.cell? ⟨w.heap.size, 3, none⟩ = some (.int .i64 0) := HZ.out.res.cell 3
      have q4 : Z.cell? ⟨w.heap.size, 4, none⟩ = some (.int .i64 0) := HZ.out.res.cell 4
      have q5 : Z.cell? ⟨w.heap.size, 5, none⟩ = some (.slice none 0 0) := HZ.out.res.cell 5
      have q6 : Z.cell? ⟨w.heap.size, 6, none⟩ = some (.string ⟨#[]⟩) := HZ.out.res.cell 6
      have R7 := set_seven (p0 := .int .i64 0) (p1 := .int .i64 0) (p2 := .int .i64 0) (p3 := .int .i64 0) (p4 := .int .i64 0) (p5 := .slice none 0 0) (p6 := .string ⟨#[]⟩) HZ.out.res
      have j0 := R7.cell 0
      have j1 := R7.cell 1
      have j2 := R7.cell 2
      have j3 := R7.cell 3
      have j4 := R7.cell 4
      have j5 := R7.cell 5
      have j6 := R7.cell 6
      have FIN := Lib.hid (HZ.out.below.trans (only_below (only_seven Z w.heap.size (.int .i64 0) (.int .i64 0) (.int .i64 0) (.int .i64 0) (.int .i64 0) (.slice none 0 0) (.string ⟨#[]⟩)) (Nat.le_refl _) HZ.out.below.size))
      clear R7
      go_wp2_with fail
      exact bodyPost_ret (v := .tuple #[.agg #[.int .i64 0, .int .i64 0, .int .i64 0, .int .i64 0, .int .i64 0, .slice none 0 0, .string ⟨#[]⟩], .bool false]) (by simp [results, Tryd.results5, go_sem, j0, j1, j2, j3, j4, j5, j6]) rfl (Or.inr ⟨HNO.out, rfl, FIN.out⟩)
    have h3' : ¬ ((s.size : Int) < 3) := by omega
    have K1 := Lib.hid (implReadVar_bool s (by omega) 3 h3 Z)
    go_wp2_with fail
    refine (K1.out).mono ?_
    rintro e Z1 ⟨m, q, ok, rfl, hf, hb1⟩
    have HF := Lib.hid hf
    have HZ1 := Lib.hid (HZ.out.next hb1)
    clear hf hb1 K1 HZ
    cases ok with
    | false =>
      have HNO : Hid (∀ p : PI, ¬ p.says text) := none_says HP.out (fun k hk _ => by
        obtain ⟨a, b, c, r0, _, _, e, h1, _⟩ := readPk_parts hk
        have h2 := HF.out.2.2.2 rfl
        rw [e] at h2
        simp only [List.drop_succ_cons, List.drop_zero] at h2
        rw [h2] at h1
        cases h1)
      clear HP HX HF
      go_upto_region 6 with fail
      have g0 := HZ1.out.res.free 0
      have g1 := HZ1.out.res.free 1
      have g2 := HZ1.out.res.free 2
      have g3 := HZ1.out.res.free 3
      have g4 := HZ1.out.res.free 4
      have g5 := HZ1.out.res.free 5
      have g6 := HZ1.out.res.free 6
      have q0 : Z1.cell? ⟨w.heap.size, 0, none⟩ = some (.int .i64 0) := HZ1.out.res.cell 0
      have q1 : Z1.cell? ⟨w.heap.size, 1, none⟩ = some (.int .i64 0) := HZ1.out.res.cell 1
      have q2 : Z1.cell? ⟨w.heap.size, 2, none⟩ = some (.int .i64 0) := HZ1.out.res.cell 2
      have q3 : Z1.cell? ⟨w.heap.size, 3, none⟩ = some (.int .i64 0) := HZ1.out.res.cell 3
      have q4 : Z1.cell? ⟨w.heap.size, 4, none⟩ = some (.int .i64 0) := HZ1.out.res.cell 4
      have q5 : Z1.cell? ⟨w.heap.size, 5, none⟩ = some (.slice none 0 0) := HZ1.out.res.cell 5
      have q6 : Z1.cell? ⟨w.heap.size, 6, none⟩ = some (.string ⟨#[]⟩) := HZ1.out.res.cell 6
      have R7 := set_seven (p0 := .int .i64 0) (p1 := .int .i64 0) (p2 := .int .i64 0) (p3 := .int .i64 0) (p4 := .int .i64 0) (p5 := .slice none 0 0) (p6 := .string ⟨#[]⟩) HZ1.out.res
      have j0 := R7.cell 0
      have j1 := R7.cell 1
      have j2 := R7.cell 2
      have j3 := R7.cell 3
      have j4 := R7.cell 4
      have j5 := R7.cell 5
      have j6 := R7.cell 6
      have FIN := Lib.hid (HZ1.out.below.trans (only_below (only_seven Z1 w.heap.size (.int .i64 0) (.int .i64 0) (.int .i64 0) (.int .i64 0) (.int .i64 0) (.slice none 0 0) (.string ⟨#[]⟩)) (Nat.le_refl _) HZ1.out.below.size))
      clear R7
      go_wp2_with fail
      exact bodyPost_ret (v := .tuple #[.agg #[.int .i64 0, .int .i64 0, .int .i64 0, .int .i64 0, .int .i64 0, .slice none 0 0, .string ⟨#[]⟩], .bool false]) (by simp [results, Tryd.results5, go_sem, j0, j1, j2, j3, j4, j5, j6]) rfl (Or.inr ⟨HNO.out, rfl, FIN.out⟩)
    | true =>
      have HV := Lib.hid (HF.out.2.2.1 rfl)
      have hq := HF.out.2.1
      have hm := HF.out.1
      clear HF
      have K2 := Lib.hid (readAcks_any s (by omega) q hq Z1)
      go_wp2_with fail
      refine (K2.out).mono ?_
      rintro e Z2 (⟨n, t, xs, q2, v, f, h1, h2, h4, h5, rfl, hown, hb2⟩ | ⟨hn, rfl, hb2⟩)
      rotate_left
      · have HN := Lib.hid hn
        have HZ2 := Lib.hid (HZ1.out.next hb2)
        clear hn hb2 K2 HZ1
        have HNO : Hid (∀ p : PI, ¬ p.says text) := none_says HP.out (fun k hk h4 => by
          obtain ⟨a, b, c, r0, r1, r2, e, h1, h2, h3⟩ := readPk_parts hk
          have hv := HV.out
          rw [e] at hv
          simp only [List.drop_succ_cons, List.drop_zero] at hv
          rw [h1] at hv
          simp only [Option.some.injEq, Prod.mk.injEq] at hv
          have h5 := HN.out k.acks.length r2 (by rw [e]; rw [← hv.2]; exact h2) h4
          rw [h3] at h5
          cases h5)
        clear HP HX HV HN
        go_upto_region 9 with fail
        have g0 := HZ2.out.res.free 0
        have g1 := HZ2.out.res.free 1
        have g2 := HZ2.out.res.free 2
        have g3 := HZ2.out.res.free 3
        have g4 := HZ2.out.res.free 4
        have g5 := HZ2.out.res.free 5
        have g6 := HZ2.out.res.free 6
        have q0 : Z2.cell? ⟨w.heap.size, 0, none⟩ = some (.int .i64 0) := HZ2.out.res.cell 0
        have q1 : Z2.cell? ⟨w.heap.size, 1, none⟩ = some (.int .i64 0) := HZ2.out.res.cell 1
        have q2 : Z2.cell? ⟨w.heap.size, 2, none⟩ = some (.int .i64 0) := HZ2.out.res.cell 2
        have q3 : Z2.cell? ⟨w.heap.size, 3, none⟩ = some (.int .i64 0) := HZ2.out.res.cell 3
        have q4 : Z2.cell? ⟨w.heap.size, 4, none⟩ = some (.int .i64 0) := HZ2.out.res.cell 4
        have q5 : Z2.cell? ⟨w.heap.size, 5, none⟩ = some (.slice none 0 0) := HZ2.out.res.cell 5
        have q6 : Z2.cell? ⟨w.heap.size, 6, none⟩ = some (.string ⟨#[]⟩) := HZ2.out.res.cell 6
        have R7 := set_seven (p0 := .int .i64 0) (p1 := .int .i64 0) (p2 := .int .i64 0) (p3 := .int .i64 0) (p4 := .int .i64 0) (p5 := .slice none 0 0) (p6 := .string ⟨#[]⟩) HZ2.out.res
        have j0 := R7.cell 0
        have j1 := R7.cell 1
        have j2 := R7.cell 2
        have j3 := R7.cell 3
        have j4 := R7.cell 4
        have j5 := R7.cell 5
        have j6 := R7.cell 6
        have FIN := Lib.hid (HZ2.out.below.trans (only_below (only_seven Z2 w.heap.size (.int .i64 0) (.int .i64 0) (.int .i64 0) (.int .i64 0) (.int .i64 0) (.slice none 0 0) (.string ⟨#[]⟩)) (Nat.le_refl _) HZ2.out.below.size))
        clear R7
        go_wp2_with fail
        exact bodyPost_ret (v := .tuple #[.agg #[.int .i64 0, .int .i64 0, .int .i64 0, .int .i64 0, .int .i64 0, .slice none 0 0, .string ⟨#[]⟩], .bool false]) (by simp [results, Tryd.results5, go_sem, j0, j1, j2, j3, j4, j5, j6]) rfl (Or.inr ⟨HNO.out, rfl, FIN.out⟩)
      have HK := Lib.hid (readPk_make h3 HV.out h1 h4)
      have hxl : xs.length = n := (readVs_some n t xs _ h4).1
      have HZ2 := Lib.hid (HZ1.out.next hb2)
      obtain ⟨va, vc, rfl⟩ := rows_form (layIntS.read hown)
      rw [List.length_map, hxl] at hown
      rw [List.length_map, hxl]
      have HOW := Lib.hid hown
      have hb2s := hb2.size
      have hz1 := HZ1.out.res.lt
      clear h1 h4 HV hown hb2 K2 HZ1
      go_upto_region 11 with fail
      obtain ⟨x0, HX0⟩ : ∃ x : Nat, Hid (x = (s[0]).toNat) := ⟨(s[0]).toNat, Lib.hid rfl⟩
      have i1 : (1 : Int) < (s.size : Int) := by omega
      have i2 : (2 : Int) < (s.size : Int) := by omega
      have i3 : (q2 : Int) ≤ (s.size : Int) := by omega
      have hx0 : x0 ≤ 255 := by rw [HX0.out]; exact byte_few _
      obtain ⟨x1, HX1⟩ : ∃ x : Nat, Hid (x = (s[1]).toNat) := ⟨(s[1]).toNat, Lib.hid rfl⟩
      obtain ⟨x2, HX2⟩ : ∃ x : Nat, Hid (x = (s[2]).toNat) := ⟨(s[2]).toNat, Lib.hid rfl⟩
      have hx1 : x1 ≤ 255 := by rw [HX1.out]; exact byte_few _
      have hx2 : x2 ≤ 255 := by rw [HX2.out]; exact byte_few _
      obtain ⟨body, HBY⟩ : ∃ b : ByteArray, Hid (b = s.extract q2 s.size) := ⟨_, Lib.hid rfl⟩
      have hbs : body.size ≤ 20000 := by
        rw [HBY.out, ByteArray.size_extract]
        exact Nat.le_trans (Nat.sub_le _ _) (Nat.le_trans (Nat.min_le_left _ _) hsz)
      obtain ⟨o0, HO0⟩ : ∃ x : Nat, Hid (x = x0 / 8) := ⟨_, Lib.hid rfl⟩
      obtain ⟨k0, HK0⟩ : ∃ x : Nat, Hid (x = x0 % 8) := ⟨_, Lib.hid rfl⟩
      have e0 : Hid (IntKind.i64.wrap ((wrap64 (x0 : Int)).tdiv 8) = (o0 : Int)) := by rw [HO0.out]; exact Lib.hid (wrap_div x0 hx0)
      have e1 : Hid ((wrap64 (x0 : Int)).tmod 8 = (k0 : Int)) := by rw [HK0.out]; exact Lib.hid (wrap_mod x0 hx0)
      have e2 : Hid (IntKind.i64.wrap (((s[1]).toNat : Nat) : Int) = (x1 : Int)) := by
        show _ = _
        rw [← HX1.out]
        exact wrap_self x1 hx1
      have e3 : Hid (IntKind.i64.wrap (((s[2]).toNat : Nat) : Int) = (x2 : Int)) := by
        show _ = _
        rw [← HX2.out]
        exact wrap_self x2 hx2
      have HKK : Hid (readPk s.data.toList = some ⟨o0, k0, x1, x2, m, xs, body.data.toList⟩) := by
        show _ = _
        rw [HK.out, HO0.out, HK0.out, HX0.out, HX1.out, HX2.out, HBY.out, rest_list]
      have VN := Lib.hid (VarA.new Z2 PkT #[.int .i64 (o0 : Int), .int .i64 (k0 : Int), .int .i64 (x1 : Int), .int .i64 (x2 : Int), .int .i64 (m : Int), .slice va n vc, .string body])
      have BN := Lib.hid (((Below.refl Z2.heap.size Z2).alloc (Nat.le_refl _) (.cells #[.int .i64 (o0 : Int), .int .i64 (k0 : Int), .int .i64 (x1 : Int), .int .i64 (x2 : Int), .int .i64 (m : Int), .slice va n vc, .string body] PkT)).drew)
      rw [← HX0.out]
      go_cut [10] (fun u wx => u = .pointer (some ⟨Z2.heap.size, 0, none⟩) ∧ Hid (VarA Z2.heap.size PkT #[.int .i64 (o0 : Int), .int .i64 (k0 : Int), .int .i64 (x1 : Int), .int .i64 (x2 : Int), .int .i64 (m : Int), .slice va n vc, .string body] wx) ∧ Hid (Below Z2.heap.size Z2 wx))
      case first =>
        go_region_held3 (fun _ => True) (trivial) (fail)
        all_goals
          go_wp2_with fail
          go_meet
          simp only [e0.out, e1.out, e2.out, e3.out, ← HBY.out]
          exact ⟨trivial, VN.out.next ((Below.refl _ _).drew), BN.out⟩
      case rest =>
        obtain ⟨rfl, HVX, HBX⟩ := hcut
        generalize wc = W at *
        have HW := Lib.hid (HZ2.out.next HBX.out)
        have HOX := Lib.hid (layIntS.next HOW.out HBX.out)
        have hZs := HBX.out.size
        clear HZ2 HOW VN BN HBX e0 e1 e2 e3 HK HX0 HX1 HX2 HBY HO0 HK0
        generalize Z2.heap.size = q9 at *
        have c0 : W.cell? ⟨q9, 0, none⟩ = some (.int .i64 (o0 : Int)) := HVX.out.cell 0
        have c1 : W.cell? ⟨q9, 1, none⟩ = some (.int .i64 (k0 : Int)) := HVX.out.cell 1
        have c2 : W.cell? ⟨q9, 2, none⟩ = some (.int .i64 (x1 : Int)) := HVX.out.cell 2
        have c3 : W.cell? ⟨q9, 3, none⟩ = some (.int .i64 (x2 : Int)) := HVX.out.cell 3
        have c4 : W.cell? ⟨q9, 4, none⟩ = some (.int .i64 (m : Int)) := HVX.out.cell 4
        have c5 : W.cell? ⟨q9, 5, none⟩ = some (.slice va n vc) := HVX.out.cell 5
        have c6 : W.cell? ⟨q9, 6, none⟩ = some (.string body) := HVX.out.cell 6
        obtain ⟨ys, HYS⟩ : ∃ l : List Int, Hid (l = xs.map Int.ofNat) := ⟨_, Lib.hid rfl⟩
        have hyl : Hid (ys.length = n) := by
          show _ = _
          rw [HYS.out, List.length_map]
          exact hxl
        rw [← HYS.out] at HOX
        by_cases hok : PkOkP (o0 : Int) (k0 : Int) (x1 : Int) (x2 : Int) (m : Int) ys body
        · have SAY : Hid (PI.says text ⟨(o0 : Int), (k0 : Int), x1, x2, m, ys, body⟩) := by
            have h := yes_says HX.out HKK.out (by rw [HYS.out] at hok; exact hok)
            rw [HYS.out]
            exact h
          have K := Lib.hid (implPacketOk_bool _ _ _ _ _ (.slice va n vc) ys body true ⟨fun _ => hok, fun _ => rfl⟩ (by rw [hyl.out]; omega) (by omega) W (layIntS.read HOX.out))
          clear hok HP HX HKK
          go_wp2_with fail
          refine (K.out).mono ?_
          rintro e Z3 ⟨rfl, hb3⟩
          have HZ3 := Lib.hid (HW.out.next hb3)
          have HVZ := Lib.hid (HVX.out.next hb3)
          have HO3 := Lib.hid (layIntS.next HOX.out hb3)
          clear hb3 K HW HVX HOX c0 c1 c2 c3 c4 c5 c6
          go_upto_region 14 with fail
          have g0 := HZ3.out.res.free 0
          have g1 := HZ3.out.res.free 1
          have g2 := HZ3.out.res.free 2
          have g3 := HZ3.out.res.free 3
          have g4 := HZ3.out.res.free 4
          have g5 := HZ3.out.res.free 5
          have g6 := HZ3.out.res.free 6
          have q0 : Z3.cell? ⟨w.heap.size, 0, none⟩ = some (.int .i64 0) := HZ3.out.res.cell 0
          have q1 : Z3.cell? ⟨w.heap.size, 1, none⟩ = some (.int .i64 0) := HZ3.out.res.cell 1
          have q2 : Z3.cell? ⟨w.heap.size, 2, none⟩ = some (.int .i64 0) := HZ3.out.res.cell 2
          have q3 : Z3.cell? ⟨w.heap.size, 3, none⟩ = some (.int .i64 0) := HZ3.out.res.cell 3
          have q4 : Z3.cell? ⟨w.heap.size, 4, none⟩ = some (.int .i64 0) := HZ3.out.res.cell 4
          have q5 : Z3.cell? ⟨w.heap.size, 5, none⟩ = some (.slice none 0 0) := HZ3.out.res.cell 5
          have q6 : Z3.cell? ⟨w.heap.size, 6, none⟩ = some (.string ⟨#[]⟩) := HZ3.out.res.cell 6
          have R7 := set_seven (p0 := .int .i64 (o0 : Int)) (p1 := .int .i64 (k0 : Int)) (p2 := .int .i64 (x1 : Int)) (p3 := .int .i64 (x2 : Int)) (p4 := .int .i64 (m : Int)) (p5 := .slice va n vc) (p6 := .string body) HZ3.out.res
          have j0 := R7.cell 0
          have j1 := R7.cell 1
          have j2 := R7.cell 2
          have j3 := R7.cell 3
          have j4 := R7.cell 4
          have j5 := R7.cell 5
          have j6 := R7.cell 6
          have FIN := Lib.hid (HZ3.out.below.trans (only_below (only_seven Z3 w.heap.size (.int .i64 (o0 : Int)) (.int .i64 (k0 : Int)) (.int .i64 (x1 : Int)) (.int .i64 (x2 : Int)) (.int .i64 (m : Int)) (.slice va n vc) (.string body)) (Nat.le_refl _) HZ3.out.below.size))
          have p0 : Z3.cell? ⟨q9, 0, none⟩ = some (.int .i64 (o0 : Int)) := HVZ.out.cell 0
          have p1 : Z3.cell? ⟨q9, 1, none⟩ = some (.int .i64 (k0 : Int)) := HVZ.out.cell 1
          have p2 : Z3.cell? ⟨q9, 2, none⟩ = some (.int .i64 (x1 : Int)) := HVZ.out.cell 2
          have p3 : Z3.cell? ⟨q9, 3, none⟩ = some (.int .i64 (x2 : Int)) := HVZ.out.cell 3
          have p4 : Z3.cell? ⟨q9, 4, none⟩ = some (.int .i64 (m : Int)) := HVZ.out.cell 4
          have p5 : Z3.cell? ⟨q9, 5, none⟩ = some (.slice va n vc) := HVZ.out.cell 5
          have p6 : Z3.cell? ⟨q9, 6, none⟩ = some (.string body) := HVZ.out.cell 6
          have OWN := Lib.hid (own_seven (b := w.heap.size) (.int .i64 (o0 : Int)) (.int .i64 (k0 : Int)) (.int .i64 (x1 : Int)) (.int .i64 (x2 : Int)) (.int .i64 (m : Int)) (.slice va n vc) (.string body) ⟨f, HO3.out⟩ hz1 (Nat.le_of_lt hz1))
          clear R7
          go_wp2_with fail
          obtain ⟨f', hf'⟩ := OWN.out
          exact bodyPost_ret (v := .tuple #[.agg #[.int .i64 (o0 : Int), .int .i64 (k0 : Int), .int .i64 (x1 : Int), .int .i64 (x2 : Int), .int .i64 (m : Int), .slice va n vc, .string body], .bool true]) (by simp [results, Tryd.results5, go_sem, j0, j1, j2, j3, j4, j5, j6]) rfl (Or.inl ⟨⟨_, _, _, _, _, ys, body⟩, _, f', SAY.out, rfl, hf', FIN.out⟩)
        · have HNO : Hid (∀ p : PI, ¬ p.says text) := fun p hp => by
            have e := one_says HP.out HKK.out p hp
            refine hok ?_
            rw [HYS.out]
            rw [e] at hp
            exact hp.1
          have K := Lib.hid (implPacketOk_bool _ _ _ _ _ (.slice va n vc) ys body false ⟨fun e => (by cases e), fun e => absurd e hok⟩ (by rw [hyl.out]; omega) (by omega) W (layIntS.read HOX.out))
          clear hok HP HX HKK
          go_wp2_with fail
          refine (K.out).mono ?_
          rintro e Z3 ⟨rfl, hb3⟩
          have HZ3 := Lib.hid (HW.out.next hb3)
          clear hb3 K HW HVX HOX c0 c1 c2 c3 c4 c5 c6
          go_upto_region 13 with fail
          have g0 := HZ3.out.res.free 0
          have g1 := HZ3.out.res.free 1
          have g2 := HZ3.out.res.free 2
          have g3 := HZ3.out.res.free 3
          have g4 := HZ3.out.res.free 4
          have g5 := HZ3.out.res.free 5
          have g6 := HZ3.out.res.free 6
          have q0 : Z3.cell? ⟨w.heap.size, 0, none⟩ = some (.int .i64 0) := HZ3.out.res.cell 0
          have q1 : Z3.cell? ⟨w.heap.size, 1, none⟩ = some (.int .i64 0) := HZ3.out.res.cell 1
          have q2 : Z3.cell? ⟨w.heap.size, 2, none⟩ = some (.int .i64 0) := HZ3.out.res.cell 2
          have q3 : Z3.cell? ⟨w.heap.size, 3, none⟩ = some (.int .i64 0) := HZ3.out.res.cell 3
          have q4 : Z3.cell? ⟨w.heap.size, 4, none⟩ = some (.int .i64 0) := HZ3.out.res.cell 4
          have q5 : Z3.cell? ⟨w.heap.size, 5, none⟩ = some (.slice none 0 0) := HZ3.out.res.cell 5
          have q6 : Z3.cell? ⟨w.heap.size, 6, none⟩ = some (.string ⟨#[]⟩) := HZ3.out.res.cell 6
          have R7 := set_seven (p0 := .int .i64 0) (p1 := .int .i64 0) (p2 := .int .i64 0) (p3 := .int .i64 0) (p4 := .int .i64 0) (p5 := .slice none 0 0) (p6 := .string ⟨#[]⟩) HZ3.out.res
          have j0 := R7.cell 0
          have j1 := R7.cell 1
          have j2 := R7.cell 2
          have j3 := R7.cell 3
          have j4 := R7.cell 4
          have j5 := R7.cell 5
          have j6 := R7.cell 6
          have FIN := Lib.hid (HZ3.out.below.trans (only_below (only_seven Z3 w.heap.size (.int .i64 0) (.int .i64 0) (.int .i64 0) (.int .i64 0) (.int .i64 0) (.slice none 0 0) (.string ⟨#[]⟩)) (Nat.le_refl _) HZ3.out.below.size))
          clear R7
          go_wp2_with fail
          exact bodyPost_ret (v := .tuple #[.agg #[.int .i64 0, .int .i64 0, .int .i64 0, .int .i64 0, .int .i64 0, .slice none 0 0, .string ⟨#[]⟩], .bool false]) (by simp [results, Tryd.results5, go_sem, j0, j1, j2, j3, j4, j5, j6]) rfl (Or.inr ⟨HNO.out, rfl, FIN.out⟩)

end Go.Proofs.YtdhacjpdlmnlmarDoor

/-
  What an event does to two who greet, by the program.
  What Greeting answers, as it lies.
  The program's Greeting.
  What one block alone changes, in the words of footprints.
  'out = append(out, x)' as a step of a region that draws its order; no program is spoken of here.
-/
import Derived.Test.YtkjjdoadjhjmbauGreatDoorJ33
import Derived.Test.YtkjjdoadjhjmbauGreatDoorJ07
import Derived.Test.YtkjjdoadjhjmbauGreatDoorJ30
import Derived.Test.YtkjjdoadjhjmbauGreatDoorJ03
import Derived.Test.YtkjjdoadjhjmbauGreatDoorJ05
import Derived.Test.YtkjjdoadjhjmbauGreatDoorJ06
namespace Go.Proofs.YtkjjdoadjhjmbauGreatDoor
open Go.RowKit

/-- No more is taken than was said. -/
structure GL (x : GT) : Prop where
  a : x.ia ≤ x.sa.length
  b : x.ib ≤ x.sb.length
theorem said_long (l : List ByteArray) (t : ByteArray) : l.length ≤ (saidT l t).length := by
  unfold saidT
  split
  · exact Nat.le_refl _
  · simp
theorem GL.does {e : Int} {x y : GT} (hx : GL x) (hd : DoIs e x y) : GL y := by
  have h1 := hx.a
  have h2 := hx.b
  rcases hd with ⟨-, ⟨-, rfl⟩ | ⟨s, h, t, hs, hh, rfl⟩⟩ | ⟨-, ⟨-, rfl⟩ | ⟨s, h, t, hs, hh, rfl⟩⟩
  · exact hx
  · have h3 := (List.getElem?_eq_some_iff.1 hs).1
    have h4 := said_long x.sb t
    have h5 := took_len e x.ia
    exact ⟨by show tookT e x.ia ≤ x.sa.length; omega, by show x.ib ≤ (saidT x.sb t).length; omega⟩
  · exact hx
  · have h3 := (List.getElem?_eq_some_iff.1 hs).1
    have h4 := said_long x.sa t
    have h5 := took_len e x.ib
    exact ⟨by show x.ia ≤ (saidT x.sa t).length; omega, by show tookT e x.ib ≤ x.sb.length; omega⟩
theorem GL.first (s0 s1 s2 s3 : ByteArray) : GL (firstG s0 s1 s2 s3) := ⟨Nat.zero_le _, Nat.zero_le _⟩
theorem said_drop (l : List ByteArray) (t : ByteArray) (i : Nat) (h : i ≤ l.length) : saidT (l.drop i) t = (saidT l t).drop i := by
  unfold saidT
  split
  · rfl
  · rw [List.drop_append_of_le_length h]
theorem drop_get {l : List ByteArray} {i : Nat} {s : ByteArray} (h : l[i]? = some s) : l.drop i = s :: l.drop (i + 1) := by
  obtain ⟨h1, h2⟩ := List.getElem?_eq_some_iff.1 h
  rw [List.drop_eq_getElem_cons h1, h2]
/-- Two who greet in memory. -/
def MG (lo m : Nat) (x : GT) (X : World) : Prop := ∃ va vb, MM lo m va vb x.a.1 x.a.2.1 x.a.2.2.1 x.a.2.2.2.1 x.a.2.2.2.2.1 x.a.2.2.2.2.2.1 x.a.2.2.2.2.2.2 x.b.1 x.b.2.1 x.b.2.2.1 x.b.2.2.2.1 x.b.2.2.2.2.1 x.b.2.2.2.2.2.1 x.b.2.2.2.2.2.2 (x.sa.drop x.ia) (x.sb.drop x.ib) X
theorem MG.next {lo m : Nat} {x : GT} {X Y : World} (h : MG lo m x X) (hb : Below X.heap.size X Y) : MG lo m x Y := by
  obtain ⟨va, vb, h⟩ := h
  exact ⟨va, vb, h.next hb⟩

theorem bring_any (HG : CloneG) (HC : CutG) {lo m : Nat} {s0 s1 s2 s3 : ByteArray} {e : Int} {x y : GT} {n : Nat} (hn : n ≤ 1000) (hp : GP s0 s1 s2 s3 x) (hz : GZ n x) (hl : GL x) (hd : DoIs e x y) (X : World) (hlo : lo ≤ X.heap.size) (hKK : ∀ Y, Below lo X Y → LaidK Y) (h : MG lo m x X) :
    Calls Tryz.prog 39 #[.pointer (some ⟨m, 0, none⟩), .int .i64 (e % 2), .bool (decide (2 ≤ e % 4))] X fun r Y => r = .returned (.tuple #[]) ∧ MG lo m y Y ∧ Below lo X Y := by
  obtain ⟨va, vb, h⟩ := h
  have w1 := hz.la
  have w2 := hz.lb
  rcases hd with ⟨h0, ⟨h1, rfl⟩ | ⟨s, g, t, hs, hh, rfl⟩⟩ | ⟨h0, ⟨h1, rfl⟩ | ⟨s, g, t, hs, hh, rfl⟩⟩
  · rw [h0]
    have hnil : y.sa.drop y.ia = [] := List.drop_eq_nil_of_le h1
    rw [hnil] at h
    refine (bring0_none _ X h).mono ?_
    rintro r Y ⟨rfl, h2, h3⟩
    exact ⟨rfl, ⟨va, vb, by rw [hnil]; exact h2⟩, h3⟩
  · rw [h0]
    rw [drop_get hs] at h
    obtain ⟨k, q, he, -, -, -, hq⟩ := hp.gb
    obtain ⟨g0, g1, g2, g3, g4, g5, g6⟩ := g
    have hr0 : x.b.1 = 1 ∨ x.b.1 = 2 := by rw [he]; exact .inr rfl
    have hr5 : x.b.2.2.2.2.2.1.size ≤ 1000000 := by rw [he]; show (helloB _ _).size ≤ _; rw [hello_size]; omega
    have hr6 : x.b.2.2.2.2.2.2.size ≤ 1000000 := by rw [he]; show q.size ≤ _; omega
    have hss : s.size ≤ 1000000 := Nat.le_trans (hz.ta s (List.mem_of_getElem? hs)) (by omega)
    have hol : (x.sb.drop x.ib).length ≤ 1000000 := by rw [List.length_drop]; omega
    have hrest : x.sa.drop (tookT e x.ia) = if decide (2 ≤ e % 4) = true then s :: x.sa.drop (x.ia + 1) else x.sa.drop (x.ia + 1) := by
      unfold tookT
      by_cases h4 : 2 ≤ e % 4
      · rw [if_pos (by omega), if_pos (decide_eq_true h4), drop_get hs]
      · rw [if_neg (by omega), if_neg (by simpa using h4)]
    refine (bring0_some HG HC (decide (2 ≤ e % 4)) _ hrest X hh hr0 hr5 hr6 hss hol hlo hKK h).mono ?_
    rintro r Y ⟨rfl, ⟨vg, vh, h2⟩, h3⟩
    rw [said_drop _ _ _ hl.b] at h2
    exact ⟨rfl, ⟨vg, vh, h2⟩, h3⟩
  · rw [h0]
    have hnil : y.sb.drop y.ib = [] := List.drop_eq_nil_of_le h1
    rw [hnil] at h
    refine (bring1_none _ X h).mono ?_
    rintro r Y ⟨rfl, h2, h3⟩
    exact ⟨rfl, ⟨va, vb, by rw [hnil]; exact h2⟩, h3⟩
  · rw [h0]
    rw [drop_get hs] at h
    obtain ⟨k, q, he, -, -, -, hq⟩ := hp.ga
    obtain ⟨g0, g1, g2, g3, g4, g5, g6⟩ := g
    have hr0 : x.a.1 = 1 ∨ x.a.1 = 2 := by rw [he]; exact .inl rfl
    have hr5 : x.a.2.2.2.2.2.1.size ≤ 1000000 := by rw [he]; show (helloB _ _).size ≤ _; rw [hello_size]; omega
    have hr6 : x.a.2.2.2.2.2.2.size ≤ 1000000 := by rw [he]; show q.size ≤ _; omega
    have hss : s.size ≤ 1000000 := Nat.le_trans (hz.tb s (List.mem_of_getElem? hs)) (by omega)
    have hol : (x.sa.drop x.ia).length ≤ 1000000 := by rw [List.length_drop]; omega
    have hrest : x.sb.drop (tookT e x.ib) = if decide (2 ≤ e % 4) = true then s :: x.sb.drop (x.ib + 1) else x.sb.drop (x.ib + 1) := by
      unfold tookT
      by_cases h4 : 2 ≤ e % 4
      · rw [if_pos (by omega), if_pos (decide_eq_true h4), drop_get hs]
      · rw [if_neg (by omega), if_neg (by simpa using h4)]
    refine (bring1_some HG HC (decide (2 ≤ e % 4)) _ hrest X hh hr0 hr5 hr6 hss hol hlo hKK h).mono ?_
    rintro r Y ⟨rfl, ⟨vg, vh, h2⟩, h3⟩
    rw [said_drop _ _ _ hl.a] at h2
    exact ⟨rfl, ⟨vh, vg, h2⟩, h3⟩

end Go.Proofs.YtkjjdoadjhjmbauGreatDoor
namespace Go.Proofs.YtkjjdoadjhjmbauGreatDoor
open Go.RowKit

/-- What Greeting answers. -/
def GreetRet (xs : List GrD) (ok : Bool) (X : World) (e : Ending) (Y : World) : Prop := ∃ v f, e = .returned (.tuple #[v, .bool ok]) ∧ f.Nodup ∧ layGreeterS.own Y X.heap.size f [v] xs ∧ Below X.heap.size X Y

end Go.Proofs.YtkjjdoadjhjmbauGreatDoor
namespace Go.Proofs.YtkjjdoadjhjmbauGreatDoor
open Go.RowKit

theorem infoGreeter : (Tryz.prog.info? GreeterT).map (fun i => (i.zero, i.size, i.bytes)) = some (some (.agg #[.int .i64 0, .int .i64 0, .int .i64 0, .int .i64 0, .int .i64 0, .string ⟨#[]⟩, .string ⟨#[]⟩]), 7, 72) := by kernel_rfl
/-- A meeting's two greeters can be read as a row. -/
theorem MM.told {lo m : Nat} {va vb : Value} {a0 a1 a2 a3 a4 : Int} {a5 a6 : ByteArray} {b0 b1 b2 b3 b4 : Int} {b5 b6 : ByteArray} {sa sb : List ByteArray} {X : World} (h : MM lo m va vb a0 a1 a2 a3 a4 a5 a6 b0 b1 b2 b3 b4 b5 b6 sa sb X) : layGreeterS.rd X [.slice (some ⟨m, 0, none⟩) 2 2] [(a0, a1, a2, a3, a4, a5, a6), (b0, b1, b2, b3, b4, b5, b6)] := by
  refine ⟨_, rfl, .inr ⟨m, 0, 2, [.int .i64 a0, .int .i64 a1, .int .i64 a2, .int .i64 a3, .int .i64 a4, .string a5, .string a6] ++ [.int .i64 b0, .int .i64 b1, .int .i64 b2, .int .i64 b3, .int .i64 b4, .string b5, .string b6], rfl, Nat.le_refl _, h.var.lt, fun i u hi => ?_, _, _, rfl, layGreeter_rd.2 rfl, _, [], rfl, layGreeter_rd.2 rfl, rfl⟩⟩
  rw [Nat.zero_add, h.var.cell i]
  have hlt := (List.getElem?_eq_some_iff.1 hi).1
  simp only [List.length_append, List.length_cons, List.length_nil] at hlt
  match i, hi, hlt with
  | 0, hi, _ | 1, hi, _ | 2, hi, _ | 3, hi, _ | 4, hi, _ | 5, hi, _ | 6, hi, _ | 7, hi, _ | 8, hi, _ | 9, hi, _ | 10, hi, _ | 11, hi, _ | 12, hi, _ | 13, hi, _ => exact hi
  | n + 14, _, h9 => omega

set_option maxRecDepth 100000 in
set_option maxHeartbeats 3200000 in
theorem implGreeting_no (seeds : List ByteArray) (events : List Int) (v u : Value) (hP : ¬ GreetP seeds events) (_ : seeds.length ≤ 100000000) (hel : events.length ≤ 100000000) (w : World) (hv : layStringS.rd w [v] seeds) (hu : layIntS.rd w [u] events) :
    Calls Tryz.prog 14 #[v, u] w fun e w' => GreetRet [] false w e w' := by
  obtain ⟨ao, cp, rfl⟩ := rows_form hv
  by_cases h4 : seeds.length = 4
  · have k4 : ((seeds.length : Int) != 4) = false := by rw [h4]; rfl
    have KE := Lib.hid (areGreetEvents_any events u false ⟨fun e => (by cases e), fun e => absurd ⟨⟨h4, e.1⟩, e.2⟩ hP⟩ hel w hu)
    clear hv hu hP h4
    go_enter Tryz.func14, Tryz.ntmps14
    go_wp2_with fail
    refine KE.out.mono ?_
    rintro e Y ⟨rfl, hY⟩
    rw [hY]
    clear hY KE
    go_wp2_with fail
    exact bodyPost_ret (v := .tuple #[.slice (some ⟨w.heap.size, 0, none⟩) 0 0, .bool false]) (by simp [results, Tryz.results14, go_sem]) rfl ⟨_, [w.heap.size], rfl, by simp, flat_lit w _ (Nat.le_refl _), (Below.refl _ _).alloc (Nat.le_refl _) _⟩
  · have k4 : ((seeds.length : Int) != 4) = true := by rw [bne_iff_ne]; omega
    clear hv hu hP h4
    go_enter Tryz.func14, Tryz.ntmps14
    go_wp2_with fail
    exact bodyPost_ret (v := .tuple #[.slice (some ⟨w.heap.size, 0, none⟩) 0 0, .bool false]) (by simp [results, Tryz.results14, go_sem]) rfl ⟨_, [w.heap.size], rfl, by simp, flat_lit w _ (Nat.le_refl _), (Below.refl _ _).alloc (Nat.le_refl _) _⟩

set_option maxRecDepth 100000 in
set_option maxHeartbeats 12800000 in
theorem implGreeting_yes (HG : CloneG) (HC : CutG) (s0 s1 s2 s3 : ByteArray) (events : List Int) (v u : Value) (hel : events.length ≤ 60) (hev : ∀ e ∈ events, 0 ≤ e) (z0 : s0.size ≤ 1048576) (z1 : s1.size ≤ 1048576) (z2 : s2.size ≤ 1048576) (z3 : s3.size ≤ 1048576) (y : GT) (hy : RunIs events (firstG s0 s1 s2 s3) y) (w : World) (hK0 : LaidK w) (hv : layStringS.rd w [v] [s0, s1, s2, s3]) (hu : layIntS.rd w [u] events) :
    Calls Tryz.prog 14 #[v, u] w fun e w' => GreetRet [y.a, y.b] true w e w' := by
  obtain ⟨i0, hi0, hz0, hsz0, hby0⟩ := info_of infoGreeter
  have HSEED := Lib.hid hv
  obtain ⟨ao, cp, rfl⟩ := rows_form hv
  have k4 : (([s0, s1, s2, s3].length : Int) != 4) = false := rfl
  have KE := Lib.hid (areGreetEvents_any events u true ⟨fun _ => ⟨hel, hev⟩, fun _ => rfl⟩ (by omega) w hu)
  have HK : Hid (∀ X, Below w.heap.size w X → LaidK X) := Lib.hid (fun X hb => hK0.stays hb (Nat.le_refl _))
  have HU := Lib.hid hu
  have HEV := Lib.hid hev
  have HY := Lib.hid hy
  obtain ⟨sa, hsa⟩ : ∃ k : Int, k = (secretP s0 : Nat) := ⟨_, rfl⟩
  obtain ⟨sb, hsb⟩ : ∃ k : Int, k = (secretP s1 : Nat) := ⟨_, rfl⟩
  obtain ⟨sc, hsc⟩ : ∃ k : Int, k = (secretP s2 : Nat) := ⟨_, rfl⟩
  obtain ⟨sd, hsd⟩ : ∃ k : Int, k = (secretP s3 : Nat) := ⟨_, rfl⟩
  obtain ⟨pa, hpa⟩ : ∃ k : Int, k = (publicP (secretP s1) : Nat) := ⟨_, rfl⟩
  obtain ⟨pb, hpb⟩ : ∃ k : Int, k = (publicP (secretP s0) : Nat) := ⟨_, rfl⟩
  have KM := Lib.hid (meetingOf_any s0 s1 s2 s3 z0 z1 z2 z3 _ w hv hK0 sa sb sc sd pa pb hsa hsb hsc hsd hpa hpb)
  obtain ⟨ha, HHA⟩ : ∃ t : ByteArray, Hid (t = helloB 1 (publicP (secretP s2))) := ⟨_, Lib.hid rfl⟩
  obtain ⟨hb, HHB⟩ : ∃ t : ByteArray, Hid (t = helloB 2 (publicP (secretP s3))) := ⟨_, Lib.hid rfl⟩
  have HA : Hid (HelloIs 1 sc 0 ⟨#[]⟩ 1 ha ha) := Lib.hid (.inl ⟨rfl, rfl, publicP (secretP s2), .inl ⟨by rw [hsc]; exact secret_in s2, by rw [hsc, Int.toNat_natCast]⟩, HHA.out, rfl⟩)
  have HB : Hid (HelloIs 2 sd 0 ⟨#[]⟩ 1 hb hb) := Lib.hid (.inl ⟨rfl, rfl, publicP (secretP s3), .inl ⟨by rw [hsd]; exact secret_in s3, by rw [hsd, Int.toNat_natCast]⟩, HHB.out, rfl⟩)
  have HF : Hid (∀ (m : Nat) (va vb : Value) (X : World), MM w.heap.size m va vb 1 sa pa sc 1 ha ⟨#[]⟩ 2 sb pb sd 1 hb ⟨#[]⟩ [ha] [hb] X → MG w.heap.size m (firstG s0 s1 s2 s3) X) := Lib.hid (fun m va vb X h => by
    rw [HHA.out, HHB.out, hsa, hsb, hsc, hsd, hpa, hpb] at h
    exact ⟨va, vb, h⟩)
  have ze : (⟨#[]⟩ : ByteArray).size ≤ 1000000 := Nat.zero_le _
  clear hv hu hev hy hK0 hsa hsb hsc hsd hpa hpb
  go_enter Tryz.func14, Tryz.ntmps14
  go_wp2_with fail
  refine KE.out.mono ?_
  rintro e Y ⟨rfl, hY⟩
  rw [hY]
  clear hY KE
  go_wp2_with fail
  refine KM.out.mono ?_
  rintro e Y1 ⟨rfl, hb1⟩
  have VM := VarA.new Y1 MeetT #[.int .i64 1, .int .i64 sa, .int .i64 pa, .int .i64 sc, .int .i64 0, .string ⟨#[]⟩, .string ⟨#[]⟩, .int .i64 2, .int .i64 sb, .int .i64 pb, .int .i64 sd, .int .i64 0, .string ⟨#[]⟩, .string ⟨#[]⟩, .slice none 0 0, .slice none 0 0]
  have B2 := Lib.hid (hb1.alloc hb1.size (.cells #[.int .i64 1, .int .i64 sa, .int .i64 pa, .int .i64 sc, .int .i64 0, .string ⟨#[]⟩, .string ⟨#[]⟩, .int .i64 2, .int .i64 sb, .int .i64 pb, .int .i64 sd, .int .i64 0, .string ⟨#[]⟩, .string ⟨#[]⟩, .slice none 0 0, .slice none 0 0] MeetT))
  have hlm : w.heap.size ≤ Y1.heap.size := hb1.size
  have M0 : Hid (MM w.heap.size Y1.heap.size (.slice none 0 0) (.slice none 0 0) 1 sa pa sc 0 ⟨#[]⟩ ⟨#[]⟩ 2 sb pb sd 0 ⟨#[]⟩ ⟨#[]⟩ [] [] (Y1.alloc (.cells #[.int .i64 1, .int .i64 sa, .int .i64 pa, .int .i64 sc, .int .i64 0, .string ⟨#[]⟩, .string ⟨#[]⟩, .int .i64 2, .int .i64 sb, .int .i64 pb, .int .i64 sd, .int .i64 0, .string ⟨#[]⟩, .string ⟨#[]⟩, .slice none 0 0, .slice none 0 0] MeetT))) := Lib.hid ⟨VM, .inl ⟨rfl, rfl⟩, .inl ⟨rfl, rfl⟩, fun g h => (by cases h), hlm⟩
  clear hb1 KM VM
  go_upto_region 4 with fail
  generalize Y1.alloc (.cells #[.int .i64 1, .int .i64 sa, .int .i64 pa, .int .i64 sc, .int .i64 0, .string ⟨#[]⟩, .string ⟨#[]⟩, .int .i64 2, .int .i64 sb, .int .i64 pb, .int .i64 sd, .int .i64 0, .string ⟨#[]⟩, .string ⟨#[]⟩, .slice none 0 0, .slice none 0 0] MeetT) = Y2 at *
  generalize Y1.heap.size = m at *
  go_wp2_with fail
  go_loopw [22] (fun c wr => ((c = .int .i64 0 ∧ Hid (∃ va vb, MM w.heap.size m va vb 1 sa pa sc 0 ⟨#[]⟩ ⟨#[]⟩ 2 sb pb sd 0 ⟨#[]⟩ ⟨#[]⟩ [] [] wr)) ∨ (c = .int .i64 1 ∧ Hid (∃ va vb, MM w.heap.size m va vb 1 sa pa sc 1 ha ⟨#[]⟩ 2 sb pb sd 0 ⟨#[]⟩ ⟨#[]⟩ [ha] [] wr)) ∨ (c = .int .i64 2 ∧ Hid (∃ va vb, MM w.heap.size m va vb 1 sa pa sc 1 ha ⟨#[]⟩ 2 sb pb sd 1 hb ⟨#[]⟩ [ha] [hb] wr))) ∧ Hid (Below w.heap.size w wr)) (fun c _ => 2 - (intOf c).toNat)
  case atStart => exact ⟨.inl ⟨rfl, Lib.hid ⟨_, _, M0.out⟩⟩, B2⟩
  case round =>
    clear M0 B2
    obtain ⟨hrel, BR⟩ := hrel
    rcases hrel with ⟨rfl, M⟩ | ⟨rfl, M⟩ | ⟨rfl, M⟩
    · obtain ⟨va, vb, M⟩ := M.out
      have KH := Lib.hid (meetHello0_any HG wr HA.out ⟨rfl, rfl, rfl, rfl, rfl⟩ ze ze (by simp) BR.out.size M)
      clear M
      go_wp2_with fail
      refine KH.out.mono ?_
      rintro e wd ⟨rfl, ⟨v1, hm⟩, hb9⟩
      have M2 : Hid (∃ va vb, MM w.heap.size m va vb 1 sa pa sc 1 ha ⟨#[]⟩ 2 sb pb sd 0 ⟨#[]⟩ ⟨#[]⟩ [ha] [] wd) := Lib.hid ⟨v1, vb, hm⟩
      have BD := Lib.hid (BR.out.trans hb9)
      clear hm hb9 KH
      go_wp2_with fail
      go_round
      case rel => exact ⟨.inr (.inl ⟨by go_num, M2⟩), BD⟩
      case measure => simp [intOf]
    · obtain ⟨va, vb, M⟩ := M.out
      have KH := Lib.hid (meetHello1_any HG wr HB.out ⟨rfl, rfl, rfl, rfl, rfl⟩ ze ze (by simp) BR.out.size M)
      clear M
      go_wp2_with fail
      refine KH.out.mono ?_
      rintro e wd ⟨rfl, ⟨v1, hm⟩, hb9⟩
      have M2 : Hid (∃ va vb, MM w.heap.size m va vb 1 sa pa sc 1 ha ⟨#[]⟩ 2 sb pb sd 1 hb ⟨#[]⟩ [ha] [hb] wd) := Lib.hid ⟨va, v1, hm⟩
      have BD := Lib.hid (BR.out.trans hb9)
      clear hm hb9 KH
      go_wp2_with fail
      go_round
      case rel => exact ⟨.inr (.inr ⟨by go_num, M2⟩), BD⟩
      case measure => simp [intOf]
    · obtain ⟨bo, bc, rfl⟩ := rows_form HU.out
      have G0 : Hid (MG w.heap.size m (firstG s0 s1 s2 s3) wr) := Lib.hid (by
        obtain ⟨va, vb, M⟩ := M.out
        exact HF.out m va vb wr M)
      clear M HF HA HB
      go_wp2_with fail
      generalize wr = wo at *
      go_loopw [30] (fun c wr => ∃ (j : Nat) (x : GT), j ≤ events.length ∧ c = .int .i64 j ∧ Hid (RunIs (events.drop j) x y ∧ GP s0 s1 s2 s3 x ∧ GZ j x ∧ GL x ∧ MG w.heap.size m x wr) ∧ Hid (Below w.heap.size w wr)) (fun c _ => events.length - (intOf c).toNat)
      case atStart => exact ⟨0, firstG s0 s1 s2 s3, Nat.zero_le _, rfl, Lib.hid ⟨HY.out, GP.first s0 s1 s2 s3, GZ.first s0 s1 s2 s3, GL.first s0 s1 s2 s3, G0.out⟩, BR⟩
      case round =>
        clear G0 BR
        obtain ⟨i, x, hi, rfl, HS, HBR⟩ := hrel
        by_cases hli : i < events.length
        · have hli' : (i : Int) < (events.length : Int) := by omega
          have h0 : 0 ≤ events[i] := HEV.out _ (List.getElem_mem hli)
          have hdr : events.drop i = events[i] :: events.drop (i + 1) := List.drop_eq_getElem_cons hli
          obtain ⟨hrun, hgp, hgz, hgl, hgm⟩ := HS.out
          rw [hdr] at hrun
          obtain ⟨z2, hdo, hrun2⟩ := hrun
          obtain ⟨g, off, cp2, hbo, hgw, c0⟩ := ints_get HU.out i hli
          obtain rfl : bo = some ⟨g, off, none⟩ := (Value.slice.inj hbo).1
          clear hbo
          generalize events[i] = e at c0 h0 hdo
          have d0 : wr.cell? ⟨g, off + i, none⟩ = some (.int .i64 e) := by rw [HBR.out.cell (p := ⟨g, off + i, none⟩) hgw]; exact c0
          have e2 : (e % 4).tmod 2 = e % 2 := by rw [Int.tmod_eq_emod_of_nonneg (by omega)]; omega
          have e4 : e.tmod 4 = e % 4 := Int.tmod_eq_emod_of_nonneg h0
          have KD := Lib.hid (bring_any HG HC (by omega) hgp hgz hgl hdo wr HBR.out.size (fun Y hb => HK.out Y (HBR.out.trans hb)) hgm)
          have HN := Lib.hid (And.intro hrun2 (And.intro (hgp.does hdo) (And.intro (hgz.does hdo) (hgl.does hdo))))
          obtain ⟨k, hk⟩ : ∃ k, e % 4 = k := ⟨_, rfl⟩
          obtain ⟨k2, hk2⟩ : ∃ k, e % 2 = k := ⟨_, rfl⟩
          rw [hk] at e2 e4 KD
          rw [hk2] at e2 KD
          clear hdr hdo hrun2 hgp hgz hgl hgm h0 HS hk hk2 c0
          go_wp2_with fail
          refine KD.out.mono ?_
          rintro e wd ⟨rfl, hG, hbd⟩
          have HN2 : Hid (RunIs (events.drop (i + 1)) z2 y ∧ GP s0 s1 s2 s3 z2 ∧ GZ (i + 1) z2 ∧ GL z2 ∧ MG w.heap.size m z2 wd) := Lib.hid ⟨HN.out.1, HN.out.2.1, HN.out.2.2.1, HN.out.2.2.2, hG⟩
          have HB2 := Lib.hid (HBR.out.trans hbd)
          clear hG hbd KD HN
          go_wp2_with fail
          go_round
          case rel => exact ⟨i + 1, z2, by omega, by go_num, HN2, HB2⟩
          case measure => simp [intOf]; omega
        · have hli' : ¬ ((i : Int) < (events.length : Int)) := by omega
          have hie : i = events.length := by omega
          have hyz : y = x := by
            have h9 := HS.out.1
            rw [hie, List.drop_length] at h9
            exact h9
          obtain ⟨-, -, -, -, hgm⟩ := HS.out
          rw [← hyz] at hgm
          obtain ⟨va, vb, hgm⟩ := hgm
          have HT := Lib.hid hgm.told
          have hbl : Below wr.heap.size wr (wr.alloc (.cells #[] GreeterT)) := (Below.refl _ _).alloc (Nat.le_refl _) _
          clear hgm hyz hie HS
          go_wp2_with (at_builtin; refine wpList_copyF (wr.alloc (.cells #[] GreeterT)) rfl _ _ 34 rfl wr.heap.size GreeterT i0 _ 72 layGreeter flatGreeter Tryz.underlying34 hi0 hz0 hsz0 hby0 rfl (by omega) _ _ _ rfl (flat_lit wr _ (Nat.le_refl _)) (fun e => by cases e) _ [y.a, y.b] rfl (layGreeterS.below HT.out hbl) (by simp) (by simp) ?_; intro v1 w1 hown1 hnn1 hgr1 hbe1)
          have E : Hid (GreetRet [y.a, y.b] true w (.returned (.tuple #[v1, .bool true])) w1) := Lib.hid ⟨v1, blk v1, rfl, blk_dup v1, layGreeterS.lower hown1 HBR.out.size, (HBR.out.trans (hbl.mono HBR.out.size)).trans (hbe1.mono HBR.out.size)⟩
          clear hown1 hnn1 hgr1 hbe1
          go_wp2_with fail
          exact bodyPost_ret (v := .tuple #[v1, .bool true]) (by simp [results, Tryz.results14, go_sem]) rfl E.out

end Go.Proofs.YtkjjdoadjhjmbauGreatDoor
namespace Go.Proofs.YtkjjdoadjhjmbauGreatDoor
open Go.RowKit

theorem only_chg {c : Nat} {X Y : World} (h : Only c X Y) : Chg [c] X Y := ⟨h.os, h.tape, h.output, h.size, fun g hg hn => h.block g hg (fun e => hn (List.mem_singleton.2 e))⟩
theorem only_below {c b : Nat} {X Y : World} (h : Only c X Y) (hb : b ≤ c) (hs : b ≤ X.heap.size) : Below b X Y := (only_chg h).below (fun g hg => by rw [List.mem_singleton] at hg; omega) hs

end Go.Proofs.YtkjjdoadjhjmbauGreatDoor
namespace Go.Proofs.YtkjjdoadjhjmbauGreatDoor
open Go.RowKit

/-- 'out = append(out, x)' as a step of a region that draws its order, over flat rows. -/
theorem step_pushOne {α : Type} {P : Program} {ops : Array Oper} {o : Oper} {a : Act} {W : World} {K : Act → World → Prop} {Q : Exit → Act → World → Prop} {E : Prop}
    (hg : o.guard = none) (s x : Operand) (t : TypeId) (hop : o.op = Op.call { callee := Callee.builtin Builtin.append, args := #[s, x], argTypes := #[t, t] })
    (base : Nat) (e : TypeId) (i : TypeInfo) (z : Value) (bytes : Nat) (A : Lay α) (hf : Flat A) (ht : P.underlying t = some (.slice e)) (hi : P.info? e = some i) (hz : i.zero = some z)
    (hsize : i.size = A.k) (hby : i.bytes = bytes) (hzs : z.cells.size = A.k) (hb1 : bytes ≤ 1000) (v : Value) (f : List Nat) (xs : List α) (hs : a.eval s = v) (hown : (Lay.rows e A).own W base f [v] xs)
    (y : α) (cs : List Value) (hcs : A.rd W cs y) (ad : Addr) (hx : a.eval x = .slice (some ad) 1 1) (hc : ∀ j u, cs[j]? = some u → W.cell? (ad.add j) = some u)
    (hlen : xs.length + 1 ≤ 1000000000) (hbase : base ≤ W.heap.size)
    (hK : ∀ v' w', (Lay.rows e A).own w' base (blk v') [v'] (xs ++ [y]) → v' ≠ .slice none 0 0 → Below base W w' → W.grownBy w' v.ownBlock → K (a.put o.dst v') w') :
    if Region.wanted o (yielded ops a.tmps) = true then Oper.wp P o a W K Q else E := by
  have hw : Region.wanted o (yielded ops a.tmps) = true := by simp [Region.wanted, hg]
  rw [if_pos hw]
  obtain ⟨us, h1, h2, rfl⟩ := flat_inv hf hown
  have hlt : ∀ k, v.ownBlock = some k → base ≤ k := fun k hk => (World.ownsRow.lt h1 k hk).1
  obtain ⟨v', w', hrun, r1, r2, r3⟩ := run_append_own (P := P) W base t o.type e i z A.k bytes ht hi hz hsize hby hzs A.pos v xs.length us h1 ad 1 1 cs (by rw [A.len hcs, Nat.one_mul]) hc (A.one hcs) (by unfold maxLen; omega)
    (by have h1 : (xs.length + 1) * bytes ≤ 1000000000 * 1000 := Nat.mul_le_mul hlen hb1
        omega) hbase
  unfold Oper.wp
  simp [execOp, hop, resolve, invoke, builtin, hs, hx, hrun, Result.andThen]
  refine hK v' w' ?_ (fun e => by have := (r3.1 e).2; omega) (below_grown r2 hlt hbase) r2
  have h6 : w'.ownsRow base e A.k v' (xs ++ [y]).length (us ++ cs) := by rw [List.length_append]; exact r1
  exact flat_own hf h6 (rdAll_join A (hf.all h2) ⟨cs, [], by simp, hf.any _ _ _ _ hcs, rfl⟩)
theorem lit_cells_one (X : World) (cs : Array Value) (e : TypeId) (j : Nat) (u : Value) (h : cs.toList[j]? = some u) : (X.alloc (.cells cs e)).drew.cell? ((⟨X.heap.size, 0, none⟩ : Addr).add j) = some u := by
  have e1 : (⟨X.heap.size, 0, none⟩ : Addr).add j = ⟨X.heap.size, j, none⟩ := by unfold Addr.add; split <;> simp_all
  show (X.alloc (.cells cs e)).cell? _ = _
  rw [e1, cell_of_row (X.alloc (.cells cs e)) X.heap.size j cs e (0, 0) (heap_alloc_new X _)]
  simpa using h
theorem lit_cells_at (X : World) (cs : Array Value) (e : TypeId) (j : Nat) (u : Value) (h : cs.toList[j]? = some u) : (X.alloc (.cells cs e)).cell? ((⟨X.heap.size, 0, none⟩ : Addr).add j) = some u := lit_cells_one X cs e j u h

end Go.Proofs.YtkjjdoadjhjmbauGreatDoor

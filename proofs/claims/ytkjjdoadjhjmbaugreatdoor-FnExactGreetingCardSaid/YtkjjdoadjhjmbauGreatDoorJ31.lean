/-
  The keys of two who greeted, in plain words: both who are up have the same.
  How much is said in a greeting, in plain words.
  The program's bring: what one said comes to the other one.
-/
import Derived.Test.YtkjjdoadjhjmbauGreatDoorJ30
namespace Go.Proofs.YtkjjdoadjhjmbauGreatDoor
open Go.RowKit

theorem keys_up {role once step : Int} {mine yours s o : ByteArray} {ok : Bool} {n : Nat} (ho : step = 3 → OtherIs inGroup role yours n true) (hs : SecretIn once) (h : KeysIs role once step mine yours s o ok) :
    (ok = true ↔ step = 3) ∧ (step = 3 → (role = 1 ∧ s = (keysB role once n mine yours).extract 0 32 ∧ o = (keysB role once n mine yours).extract 32 64) ∨ (role ≠ 1 ∧ s = (keysB role once n mine yours).extract 32 64 ∧ o = (keysB role once n mine yours).extract 0 32)) := by
  rcases h with ⟨m, ⟨h3, hm, -⟩, rfl, hk⟩ | ⟨hn, rfl, rfl, rfl⟩
  · refine ⟨⟨fun _ => h3, fun _ => rfl⟩, fun _ => ?_⟩
    obtain ⟨rfl, -⟩ := other_one (ho h3) hm
    exact hk
  · have hne : ¬ step = 3 := fun h3 => hn ⟨n, h3, ho h3, hs⟩
    exact ⟨⟨fun e => (by cases e), fun h3 => absurd h3 hne⟩, fun h3 => absurd h3 hne⟩
theorem keys_meet (s2 s3 MA MB : ByteArray) : keysB 1 (secretP s2 : Nat) (publicP (secretP s3)) MA MB = keysB 2 (secretP s3 : Nat) (publicP (secretP s2)) MB MA := by
  unfold keysB
  rw [trans_two, Int.toNat_natCast, Int.toNat_natCast, shared_same]
theorem secret_in (seed : ByteArray) : SecretIn (secretP seed : Nat) := by
  have h := secretP_in seed
  exact ⟨by omega, by omega⟩
/-- What is told of two who greeted. -/
structure KeyEnd (a b : GrD) (s o t u : ByteArray) (up both : Bool) : Prop where
  one : up = true ↔ a.2.2.2.2.1 = 3
  two : both = true ↔ b.2.2.2.2.1 = 3
  meet : up = true → both = true → transB a.1 a.2.2.2.2.2.1 a.2.2.2.2.2.2 = transB b.1 b.2.2.2.2.2.1 b.2.2.2.2.2.2 ∧ a.2.2.2.2.2.2 = b.2.2.2.2.2.1 ∧ b.2.2.2.2.2.2 = a.2.2.2.2.2.1 ∧ s = u ∧ o = t ∧ s.size = 32
theorem keysB_size (role once : Int) (n : Nat) (mine yours : ByteArray) : (keysB role once n mine yours).size = 64 := expandP_length _ _ 64
theorem GP.keys {s0 s1 s2 s3 : ByteArray} {x : GT} (hx : GP s0 s1 s2 s3 x) {s o t u : ByteArray} {up both : Bool}
    (ka : KeysIs x.a.1 x.a.2.2.2.1 x.a.2.2.2.2.1 x.a.2.2.2.2.2.1 x.a.2.2.2.2.2.2 s o up) (kb : KeysIs x.b.1 x.b.2.2.2.1 x.b.2.2.2.2.1 x.b.2.2.2.2.2.1 x.b.2.2.2.2.2.2 t u both) : KeyEnd x.a x.b s o t u up both := by
  obtain ⟨k, y, ea, -, -, ya, -⟩ := hx.ga
  obtain ⟨l, z, eb, -, -, yb, -⟩ := hx.gb
  rw [ea] at ka
  rw [eb] at kb
  rw [ea, eb]
  have ha := keys_up (n := publicP (secretP s3)) (fun h => by rw [ya (.inr h)]; exact other_hello 1 2 (by decide) s3) (secret_in s2) ka
  have hb := keys_up (n := publicP (secretP s2)) (fun h => by rw [yb (.inr h)]; exact other_hello 2 1 (by decide) s2) (secret_in s3) kb
  refine ⟨ha.1, hb.1, fun h1 h2 => ?_⟩
  have h3 := ha.1.1 h1
  have h4 := hb.1.1 h2
  have e1 := ya (.inr h3)
  have e2 := yb (.inr h4)
  subst e1 e2
  rcases ha.2 h3 with ⟨-, p1, p2⟩ | ⟨h, -⟩
  · rcases hb.2 h4 with ⟨h, -⟩ | ⟨-, q1, q2⟩
    · exact absurd (show (2 : Int) = 1 from h) (by decide)
    · refine ⟨(trans_two _ _).symm, rfl, rfl, ?_, ?_, ?_⟩
      · rw [p1, q2, keys_meet]
      · rw [p2, q1, keys_meet]
      · rw [p1, ByteArray.size_extract, keysB_size]; rfl
  · exact absurd rfl h
theorem GP.hasA {s0 s1 s2 s3 : ByteArray} {x : GT} (hx : GP s0 s1 s2 s3 x) : x.a.2.2.2.2.1 = 3 → ∃ n, HasKeys x.a.1 x.a.2.2.2.1 x.a.2.2.2.2.1 x.a.2.2.2.2.2.2 n := by
  obtain ⟨k, y, ea, -, -, ya, -⟩ := hx.ga
  rw [ea]
  intro h
  have h' : k = 3 := h
  exact ⟨publicP (secretP s3), h', by show OtherIs inGroup 1 y _ true; rw [ya (.inr h')]; exact other_hello 1 2 (by decide) s3, secret_in s2⟩
theorem GP.hasB {s0 s1 s2 s3 : ByteArray} {x : GT} (hx : GP s0 s1 s2 s3 x) : x.b.2.2.2.2.1 = 3 → ∃ n, HasKeys x.b.1 x.b.2.2.2.1 x.b.2.2.2.2.1 x.b.2.2.2.2.2.2 n := by
  obtain ⟨k, y, eb, -, -, yb, -⟩ := hx.gb
  rw [eb]
  intro h
  have h' : k = 3 := h
  exact ⟨publicP (secretP s2), h', by show OtherIs inGroup 2 y _ true; rw [yb (.inr h')]; exact other_hello 2 1 (by decide) s2, secret_in s3⟩

end Go.Proofs.YtkjjdoadjhjmbauGreatDoor
namespace Go.Proofs.YtkjjdoadjhjmbauGreatDoor
open Go.RowKit

/-- How much was said behind n events. -/
structure GZ (n : Nat) (x : GT) : Prop where
  ta : ∀ s ∈ x.sa, s.size ≤ 9
  tb : ∀ s ∈ x.sb, s.size ≤ 9
  la : x.sa.length ≤ n + 1
  lb : x.sb.length ≤ n + 1
  na : x.ia ≤ n
  nb : x.ib ≤ n
theorem proof_size {role secret step : Int} {mine yours t : ByteArray} (h : ProofIs role secret step mine yours t) : t.size ≤ 9 := by
  rcases h with ⟨-, E, S, -, rfl⟩ | ⟨-, rfl⟩
  · show 9 ≤ 9
    omega
  · show 0 ≤ 9
    omega
theorem hear_size {g h : GrD} {s t : ByteArray} (hh : HearD g s h t) : t.size ≤ 9 := by
  obtain ⟨y4, y6, hh, -⟩ := hh
  rcases hh with ⟨-, n, -, -, -, hp⟩ | ⟨-, -, -, -, rfl⟩ | ⟨-, b, -, -, -, rfl⟩ | ⟨-, -, -, -, rfl⟩
  · exact proof_size hp
  · show 0 ≤ 9
    omega
  · show 0 ≤ 9
    omega
  · show 0 ≤ 9
    omega
theorem said_size {l : List ByteArray} {t : ByteArray} (hl : ∀ s ∈ l, s.size ≤ 9) (ht : t.size ≤ 9) : ∀ s ∈ saidT l t, s.size ≤ 9 := by
  unfold saidT
  split
  · exact hl
  · intro s hs
    rcases List.mem_append.1 hs with h | h
    · exact hl s h
    · rw [List.mem_singleton.1 h]
      exact ht
theorem said_len (l : List ByteArray) (t : ByteArray) : (saidT l t).length ≤ l.length + 1 := by
  unfold saidT
  split
  · omega
  · simp
theorem took_len (e : Int) (i : Nat) : tookT e i ≤ i + 1 := by
  unfold tookT
  split <;> omega
theorem GZ.first (s0 s1 s2 s3 : ByteArray) : GZ 0 (firstG s0 s1 s2 s3) :=
  ⟨fun s hs => by rw [List.mem_singleton.1 hs, hello_size]; omega, fun s hs => by rw [List.mem_singleton.1 hs, hello_size]; omega, Nat.le_refl _, Nat.le_refl _, Nat.le_refl _, Nat.le_refl _⟩
theorem GZ.does {n : Nat} {e : Int} {x y : GT} (hx : GZ n x) (hd : DoIs e x y) : GZ (n + 1) y := by
  have h1 := hx.la
  have h2 := hx.lb
  have h3 := hx.na
  have h4 := hx.nb
  rcases hd with ⟨-, ⟨-, rfl⟩ | ⟨s, h, t, hs, hh, rfl⟩⟩ | ⟨-, ⟨-, rfl⟩ | ⟨s, h, t, hs, hh, rfl⟩⟩
  · exact ⟨hx.ta, hx.tb, by omega, by omega, by omega, by omega⟩
  · have h5 := said_len x.sb t
    have h6 := took_len e x.ia
    exact ⟨hx.ta, said_size hx.tb (hear_size hh), by show x.sa.length ≤ _; omega, by show (saidT x.sb t).length ≤ _; omega, by show tookT e x.ia ≤ _; omega, by show x.ib ≤ _; omega⟩
  · exact ⟨hx.ta, hx.tb, by omega, by omega, by omega, by omega⟩
  · have h5 := said_len x.sa t
    have h6 := took_len e x.ib
    exact ⟨said_size hx.ta (hear_size hh), hx.tb, by show (saidT x.sa t).length ≤ _; omega, by show x.sb.length ≤ _; omega, by show x.ia ≤ _; omega, by show tookT e x.ib ≤ _; omega⟩
/-- Which seeds and events make a greeting. -/
def GreetP (seeds : List ByteArray) (events : List Int) : Prop := (seeds.length = 4 ∧ events.length ≤ 60) ∧ ∀ e ∈ events, 0 ≤ e

end Go.Proofs.YtkjjdoadjhjmbauGreatDoor
namespace Go.Proofs.YtkjjdoadjhjmbauGreatDoor
open Go.RowKit

theorem cell_lit (X : World) (u : Value) (e : TypeId) : (X.alloc (.cells #[u] e)).drew.cell? ⟨X.heap.size, 0, none⟩ = some u := (VarA.new X e #[u]).cell 0

set_option maxRecDepth 100000 in
set_option maxHeartbeats 1600000 in
theorem bring0_none {lo m : Nat} {va vb : Value} {a0 a1 a2 a3 a4 : Int} {a5 a6 : ByteArray} {b0 b1 b2 b3 b4 : Int} {b5 b6 : ByteArray} {sb : List ByteArray}  (stay : Bool) (X : World) (h : MM lo m va vb a0 a1 a2 a3 a4 a5 a6 b0 b1 b2 b3 b4 b5 b6 [] sb X) :
    Calls Tryz.prog 39 #[.pointer (some ⟨m, 0, none⟩), .int .i64 0, .bool stay] X fun r Y => r = .returned (.tuple #[]) ∧ MM lo m va vb a0 a1 a2 a3 a4 a5 a6 b0 b1 b2 b3 b4 b5 b6 [] sb Y ∧ Below lo X Y := by
  obtain ⟨ao, ac, hva⟩ := movS_form h.rowA
  subst hva
  have e14 : X.cell? ⟨m, 14, none⟩ = some (.slice ao 0 ac) := h.var.cell 14
  have H := Lib.hid h
  clear h
  go_enter Tryz.func39, Tryz.ntmps39
  go_wp2_with fail
  exact bodyPost_ret (v := .tuple #[]) (results_none rfl _ _ _) rfl ⟨rfl, H.out, Below.refl _ _⟩

set_option maxRecDepth 100000 in
set_option maxHeartbeats 6400000 in
theorem bring0_some {lo m : Nat} {va vb : Value} {a0 a1 a2 a3 a4 : Int} {a5 a6 : ByteArray} {b0 b1 b2 b3 b4 : Int} {b5 b6 : ByteArray} {sa sb : List ByteArray}  {c0 c1 c2 c3 c4 : Int} {c5 c6 s t : ByteArray} (HG : CloneG) (HC : CutG) (stay : Bool) (rest : List ByteArray) (hrest : rest = if stay then s :: sa else sa) (X : World) (hh : HearD (b0, b1, b2, b3, b4, b5, b6) s (c0, c1, c2, c3, c4, c5, c6) t) (hx0 : b0 = 1 ∨ b0 = 2) (h5 : b5.size ≤ 1000000) (h6 : b6.size ≤ 1000000) (hss : s.size ≤ 1000000) (hol : sb.length ≤ 1000000) (hlo : lo ≤ X.heap.size) (hKK : ∀ Y, Below lo X Y → LaidK Y) (h : MM lo m va vb a0 a1 a2 a3 a4 a5 a6 b0 b1 b2 b3 b4 b5 b6 (s :: sa) sb X) :
    Calls Tryz.prog 39 #[.pointer (some ⟨m, 0, none⟩), .int .i64 0, .bool stay] X fun r Y => r = .returned (.tuple #[]) ∧ (∃ vg vh, MM lo m vg vh a0 a1 a2 a3 a4 a5 a6 c0 c1 c2 c3 c4 c5 c6 rest (saidT sb t) Y) ∧ Below lo X Y := by
  obtain ⟨g, off, cap, hva, hcell, hcap⟩ := movS_head h.rowA
  subst hva
  obtain ⟨ao, ac, hvb⟩ := movS_form h.rowB
  subst hvb
  obtain ⟨i1, hi1, hz1, hsz1, hby1⟩ := info_of infoString
  have e14 : X.cell? ⟨m, 14, none⟩ = some (.slice (some ⟨g, off, none⟩) (sa.length + 1) cap) := h.var.cell 14
  have f14 := h.var.free 14
  have z1 : (1 : Int) ≤ (sa.length : Int) + 1 := by omega
  have H := Lib.hid h
  have HK := Lib.hid hKK
  obtain ⟨y4, y6, hh, hce⟩ := hh
  simp only [Prod.mk.injEq] at hce
  obtain ⟨rfl, rfl, rfl, rfl, rfl, rfl, rfl⟩ := hce
  have HH := Lib.hid hh
  have HR := Lib.hid hrest
  clear h hh hrest hKK
  go_enter Tryz.func39, Tryz.ntmps39
  go_upto_region 2 with fail
  cases stay
  case' true =>
    obtain rfl : rest = s :: sa := HR.out
    go_upto_region 4 with fail
    obtain ⟨v2, hv2⟩ : ∃ v, (Value.slice (some ⟨g, off, none⟩) (sa.length + 1) cap) = v := ⟨_, rfl⟩
    have H2 := H
    rw [hv2] at H2
    obtain ⟨X2, hX2⟩ : ∃ Z, X = Z := ⟨_, rfl⟩
    rw [hX2] at H2
    have B2 : Hid (Below lo X X2) := Lib.hid (by rw [← hX2]; exact Below.refl _ _)
    rw [hX2]
    clear hX2
    clear hv2
  case' false =>
    obtain rfl : rest = sa := HR.out
    have H2 := Lib.hid (H.out.tookA.next ((Below.refl _ _).drew))
    have B2 := Lib.hid ((below_only (Only.setCell (c := m) (w := X) 14 (.slice (if cap = 1 then some ⟨g, off, none⟩ else some ⟨g, off + 1, none⟩) rest.length (cap - 1))) H.out.low hlo).drew)
    go_wp2_with fail
    go_region
    go_upto_region 4 with fail
    generalize (X.setCell ⟨m, 14, none⟩ (.slice (if cap = 1 then some ⟨g, off, none⟩ else some ⟨g, off + 1, none⟩) rest.length (cap - 1))).drew = X2 at *
    generalize Value.slice (if cap = 1 then some ⟨g, off, none⟩ else some ⟨g, off + 1, none⟩) rest.length (cap - 1) = v2 at *
  all_goals
    clear H e14 f14 z1 hcell hcap HR
    have y0 : X2.cell? ⟨m, 7, none⟩ = some (.int .i64 c0) := H2.out.var.cell 7
    have y1 : X2.cell? ⟨m, 8, none⟩ = some (.int .i64 c1) := H2.out.var.cell 8
    have y2 : X2.cell? ⟨m, 9, none⟩ = some (.int .i64 c2) := H2.out.var.cell 9
    have y3 : X2.cell? ⟨m, 10, none⟩ = some (.int .i64 c3) := H2.out.var.cell 10
    have y4 : X2.cell? ⟨m, 11, none⟩ = some (.int .i64 b4) := H2.out.var.cell 11
    have y5 : X2.cell? ⟨m, 12, none⟩ = some (.string c5) := H2.out.var.cell 12
    have y6 : X2.cell? ⟨m, 13, none⟩ = some (.string b6) := H2.out.var.cell 13
    have KH := Lib.hid (implHearGreet_any HG HC c0 c1 c2 c3 b4 c5 b6 s hx0 (by omega) (by omega) (by omega) c4 c6 t HH.out X2 (HK.out X2 B2.out))
    go_wp2_with fail
    refine KH.out.mono ?_
    rintro e X3 ⟨rfl, hb⟩
    have H3 := Lib.hid (H2.out.next hb)
    have B3 := Lib.hid (B2.out.trans (hb.mono (Nat.le_trans hlo B2.out.size)))
    clear H2 B2 hb KH y0 y1 y2 y3 y4 y5 y6
    have hal : Below X3.heap.size X3 (X3.alloc (.cells #[.int .i64 c0, .int .i64 c1, .int .i64 c2, .int .i64 c3, .int .i64 c4, .string c5, .string c6] GreeterT)) := (Below.refl _ _).alloc (Nat.le_refl _) _
    have VG := Lib.hid (VarA.new X3 GreeterT #[.int .i64 c0, .int .i64 c1, .int .i64 c2, .int .i64 c3, .int .i64 c4, .string c5, .string c6])
    have H4 := Lib.hid (H3.out.next hal)
    have B4 := Lib.hid (B3.out.trans (hal.mono (Nat.le_trans hlo B3.out.size)))
    clear hal H3 B3
    go_upto_region 5 with fail
    generalize X3.alloc (.cells #[.int .i64 c0, .int .i64 c1, .int .i64 c2, .int .i64 c3, .int .i64 c4, .string c5, .string c6] GreeterT) = X4 at *
    generalize X3.heap.size = gn at *
    have y0 : X4.cell? ⟨m, 7, none⟩ = some (.int .i64 c0) := H4.out.var.cell 7
    have f0 := H4.out.var.free 7
    have y1 : X4.cell? ⟨m, 8, none⟩ = some (.int .i64 c1) := H4.out.var.cell 8
    have f1 := H4.out.var.free 8
    have y2 : X4.cell? ⟨m, 9, none⟩ = some (.int .i64 c2) := H4.out.var.cell 9
    have f2 := H4.out.var.free 9
    have y3 : X4.cell? ⟨m, 10, none⟩ = some (.int .i64 c3) := H4.out.var.cell 10
    have f3 := H4.out.var.free 10
    have y4 : X4.cell? ⟨m, 11, none⟩ = some (.int .i64 b4) := H4.out.var.cell 11
    have f4 := H4.out.var.free 11
    have y5 : X4.cell? ⟨m, 12, none⟩ = some (.string c5) := H4.out.var.cell 12
    have f5 := H4.out.var.free 12
    have y6 : X4.cell? ⟨m, 13, none⟩ = some (.string b6) := H4.out.var.cell 13
    have f6 := H4.out.var.free 13
    have e0 : X4.cell? ⟨gn, 0, none⟩ = some (.int .i64 c0) := VG.out.cell 0
    have e1 : X4.cell? ⟨gn, 1, none⟩ = some (.int .i64 c1) := VG.out.cell 1
    have e2 : X4.cell? ⟨gn, 2, none⟩ = some (.int .i64 c2) := VG.out.cell 2
    have e3 : X4.cell? ⟨gn, 3, none⟩ = some (.int .i64 c3) := VG.out.cell 3
    have e4 : X4.cell? ⟨gn, 4, none⟩ = some (.int .i64 c4) := VG.out.cell 4
    have e5 : X4.cell? ⟨gn, 5, none⟩ = some (.string c5) := VG.out.cell 5
    have e6 : X4.cell? ⟨gn, 6, none⟩ = some (.string c6) := VG.out.cell 6
    have hlx : lo ≤ X4.heap.size := Nat.le_trans hlo B4.out.size
    have hX5 : Only m X4 (((((((X4.setCell ⟨m, 7, none⟩ (.int .i64 c0)).setCell ⟨m, 8, none⟩ (.int .i64 c1)).setCell ⟨m, 9, none⟩ (.int .i64 c2)).setCell ⟨m, 10, none⟩ (.int .i64 c3)).setCell ⟨m, 11, none⟩ (.int .i64 c4)).setCell ⟨m, 12, none⟩ (.string c5)).setCell ⟨m, 13, none⟩ (.string c6)) := (((((((Only.setCell 7 (.int .i64 c0) : Only m X4 _).trans (Only.setCell 8 (.int .i64 c1))).trans (Only.setCell 9 (.int .i64 c2))).trans (Only.setCell 10 (.int .i64 c3))).trans (Only.setCell 11 (.int .i64 c4))).trans (Only.setCell 12 (.string c5))).trans (Only.setCell 13 (.string c6)))
    have H5 := Lib.hid ((H4.out.heardB (c0 := c0) (c1 := c1) (c2 := c2) (c3 := c3) (c4 := c4) (c5 := c5) (c6 := c6)).next ((Below.refl _ _).drew))
    have B5 := Lib.hid ((B4.out.trans (below_only hX5 H4.out.low hlx)).drew)
    clear hX5
    go_region
    go_upto_region 6 with fail
    generalize (((((((X4.setCell ⟨m, 7, none⟩ (.int .i64 c0)).setCell ⟨m, 8, none⟩ (.int .i64 c1)).setCell ⟨m, 9, none⟩ (.int .i64 c2)).setCell ⟨m, 10, none⟩ (.int .i64 c3)).setCell ⟨m, 11, none⟩ (.int .i64 c4)).setCell ⟨m, 12, none⟩ (.string c5)).setCell ⟨m, 13, none⟩ (.string c6)).drew = X5 at *
    clear H4 B4 VG hlx y0 f0 e0 y1 f1 e1 y2 f2 e2 y3 f3 e3 y4 f4 e4 y5 f5 e5 y6 f6 e6
    by_cases ht : t = ⟨#[]⟩
    · subst ht
      go_wp2_with fail
      refine bodyPost_end (results_none rfl _ _ _) rfl ⟨rfl, ⟨v2, .slice ao sb.length ac, ?_⟩, B5.out⟩
      rw [saidT_none]
      exact H5.out
    · have kt : (t.toList == []) = false := by
        rw [beq_eq_false_iff_ne, ByteArray.toList_eq]
        exact fun e => ht (ByteArray.ext (Array.toList_inj.1 (e.trans rfl)))
      have hsd : saidT sb t = sb ++ [t] := by unfold saidT; rw [if_neg ht]
      have HSD := Lib.hid hsd
      clear ht hsd
      go_upto_region 7 with fail
      have s1 : X5.cell? ⟨m, 15, none⟩ = some (.slice ao sb.length ac) := H5.out.var.cell 15
      have AD : Below X5.heap.size X5 (X5.alloc (.cells #[.string t] StringT)).drew := ((Below.refl _ _).alloc (Nat.le_refl _) _).drew
      have H6 := Lib.hid (H5.out.next AD)
      have B6 := Lib.hid (B5.out.trans (AD.mono (Nat.le_trans hlo B5.out.size)))
      have r2 : (X5.alloc (.cells #[.string t] StringT)).cell? ⟨m, 15, none⟩ = some (.slice ao sb.length ac) := H6.out.var.cell 15
      have hws : lo ≤ (X5.alloc (.cells #[.string t] StringT)).drew.heap.size := Nat.le_trans hlo B6.out.size
      clear AD H5 B5
      go_region_law (refine step_pushMv rfl (.tmp 68) (.tmp 70) 31 rfl lo StringT i1 (.string ⟨#[]⟩) 16 Tryz.underlying31 hi1 hz1 hsz1 hby1 rfl (by omega) (.slice ao sb.length ac) (strC sb) (by first | rfl | simp [Act.eval, Act.put]) H6.out.rowB (.string t) rfl ⟨X5.heap.size, 0, none⟩ (by first | rfl | simp [Act.eval, Act.put]) (cell_lit X5 (.string t) StringT) (by rw [strC_len]; omega) hws ?_; intro v1 w2 hp; obtain ⟨a9, k9, hv9⟩ := hp.row.form; obtain ⟨l9, HL9⟩ : ∃ l : Nat, Hid ((strC sb ++ [Value.string t]).length = l) := ⟨_, Lib.hid rfl⟩; rw [HL9.out] at hv9; subst hv9; obtain ⟨d1, d2, hgm⟩ := H6.out.saidB hp)
      all_goals
        have HM := Lib.hid hgm
        have BM := Lib.hid ((B6.out.trans hp.below).trans (below_only (Only.setCell (c := m) (w := w2) 15 (.slice a9 l9 k9)) H6.out.low (Nat.le_trans hlo (B6.out.trans hp.below).size)))
        clear hgm hp r2 s1
        go_wp2_with fail
        refine bodyPost_end (results_none rfl _ _ _) rfl ⟨rfl, ⟨v2, .slice a9 l9 k9, ?_⟩, BM.out⟩
        rw [HSD.out]
        exact HM.out

set_option maxRecDepth 100000 in
set_option maxHeartbeats 1600000 in
theorem bring1_none {lo m : Nat} {va vb : Value} {a0 a1 a2 a3 a4 : Int} {a5 a6 : ByteArray} {b0 b1 b2 b3 b4 : Int} {b5 b6 : ByteArray} {sa : List ByteArray}  (stay : Bool) (X : World) (h : MM lo m va vb a0 a1 a2 a3 a4 a5 a6 b0 b1 b2 b3 b4 b5 b6 sa [] X) :
    Calls Tryz.prog 39 #[.pointer (some ⟨m, 0, none⟩), .int .i64 1, .bool stay] X fun r Y => r = .returned (.tuple #[]) ∧ MM lo m va vb a0 a1 a2 a3 a4 a5 a6 b0 b1 b2 b3 b4 b5 b6 sa [] Y ∧ Below lo X Y := by
  obtain ⟨ao, ac, hva⟩ := movS_form h.rowB
  subst hva
  have e14 : X.cell? ⟨m, 15, none⟩ = some (.slice ao 0 ac) := h.var.cell 15
  have H := Lib.hid h
  clear h
  go_enter Tryz.func39, Tryz.ntmps39
  go_wp2_with fail
  exact bodyPost_ret (v := .tuple #[]) (results_none rfl _ _ _) rfl ⟨rfl, H.out, Below.refl _ _⟩

set_option maxRecDepth 100000 in
set_option maxHeartbeats 6400000 in
theorem bring1_some {lo m : Nat} {va vb : Value} {a0 a1 a2 a3 a4 : Int} {a5 a6 : ByteArray} {b0 b1 b2 b3 b4 : Int} {b5 b6 : ByteArray} {sa sb : List ByteArray}  {c0 c1 c2 c3 c4 : Int} {c5 c6 s t : ByteArray} (HG : CloneG) (HC : CutG) (stay : Bool) (rest : List ByteArray) (hrest : rest = if stay then s :: sb else sb) (X : World) (hh : HearD (a0, a1, a2, a3, a4, a5, a6) s (c0, c1, c2, c3, c4, c5, c6) t) (hx0 : a0 = 1 ∨ a0 = 2) (h5 : a5.size ≤ 1000000) (h6 : a6.size ≤ 1000000) (hss : s.size ≤ 1000000) (hol : sa.length ≤ 1000000) (hlo : lo ≤ X.heap.size) (hKK : ∀ Y, Below lo X Y → LaidK Y) (h : MM lo m va vb a0 a1 a2 a3 a4 a5 a6 b0 b1 b2 b3 b4 b5 b6 sa (s :: sb) X) :
    Calls Tryz.prog 39 #[.pointer (some ⟨m, 0, none⟩), .int .i64 1, .bool stay] X fun r Y => r = .returned (.tuple #[]) ∧ (∃ vg vh, MM lo m vh vg c0 c1 c2 c3 c4 c5 c6 b0 b1 b2 b3 b4 b5 b6 (saidT sa t) rest Y) ∧ Below lo X Y := by
  obtain ⟨g, off, cap, hva, hcell, hcap⟩ := movS_head h.rowB
  subst hva
  obtain ⟨ao, ac, hvb⟩ := movS_form h.rowA
  subst hvb
  obtain ⟨i1, hi1, hz1, hsz1, hby1⟩ := info_of infoString
  have e14 : X.cell? ⟨m, 15, none⟩ = some (.slice (some ⟨g, off, none⟩) (sb.length + 1) cap) := h.var.cell 15
  have f14 := h.var.free 15
  have z1 : (1 : Int) ≤ (sb.length : Int) + 1 := by omega
  have H := Lib.hid h
  have HK := Lib.hid hKK
  obtain ⟨y4, y6, hh, hce⟩ := hh
  simp only [Prod.mk.injEq] at hce
  obtain ⟨rfl, rfl, rfl, rfl, rfl, rfl, rfl⟩ := hce
  have HH := Lib.hid hh
  have HR := Lib.hid hrest
  clear h hh hrest hKK
  go_enter Tryz.func39, Tryz.ntmps39
  go_upto_region 2 with fail
  cases stay
  case' true =>
    obtain rfl : rest = s :: sb := HR.out
    go_upto_region 4 with fail
    obtain ⟨v2, hv2⟩ : ∃ v, (Value.slice (some ⟨g, off, none⟩) (sb.length + 1) cap) = v := ⟨_, rfl⟩
    have H2 := H
    rw [hv2] at H2
    obtain ⟨X2, hX2⟩ : ∃ Z, X = Z := ⟨_, rfl⟩
    rw [hX2] at H2
    have B2 : Hid (Below lo X X2) := Lib.hid (by rw [← hX2]; exact Below.refl _ _)
    rw [hX2]
    clear hX2
    clear hv2
  case' false =>
    obtain rfl : rest = sb := HR.out
    have H2 := Lib.hid (H.out.tookB.next ((Below.refl _ _).drew))
    have B2 := Lib.hid ((below_only (Only.setCell (c := m) (w := X) 15 (.slice (if cap = 1 then some ⟨g, off, none⟩ else some ⟨g, off + 1, none⟩) rest.length (cap - 1))) H.out.low hlo).drew)
    go_wp2_with fail
    go_region
    go_upto_region 4 with fail
    generalize (X.setCell ⟨m, 15, none⟩ (.slice (if cap = 1 then some ⟨g, off, none⟩ else some ⟨g, off + 1, none⟩) rest.length (cap - 1))).drew = X2 at *
    generalize Value.slice (if cap = 1 then some ⟨g, off, none⟩ else some ⟨g, off + 1, none⟩) rest.length (cap - 1) = v2 at *
  all_goals
    clear H e14 f14 z1 hcell hcap HR
    have y0 : X2.cell? ⟨m, 0, none⟩ = some (.int .i64 c0) := H2.out.var.cell 0
    have y1 : X2.cell? ⟨m, 1, none⟩ = some (.int .i64 c1) := H2.out.var.cell 1
    have y2 : X2.cell? ⟨m, 2, none⟩ = some (.int .i64 c2) := H2.out.var.cell 2
    have y3 : X2.cell? ⟨m, 3, none⟩ = some (.int .i64 c3) := H2.out.var.cell 3
    have y4 : X2.cell? ⟨m, 4, none⟩ = some (.int .i64 a4) := H2.out.var.cell 4
    have y5 : X2.cell? ⟨m, 5, none⟩ = some (.string c5) := H2.out.var.cell 5
    have y6 : X2.cell? ⟨m, 6, none⟩ = some (.string a6) := H2.out.var.cell 6
    have KH := Lib.hid (implHearGreet_any HG HC c0 c1 c2 c3 a4 c5 a6 s hx0 (by omega) (by omega) (by omega) c4 c6 t HH.out X2 (HK.out X2 B2.out))
    go_wp2_with fail
    refine KH.out.mono ?_
    rintro e X3 ⟨rfl, hb⟩
    have H3 := Lib.hid (H2.out.next hb)
    have B3 := Lib.hid (B2.out.trans (hb.mono (Nat.le_trans hlo B2.out.size)))
    clear H2 B2 hb KH y0 y1 y2 y3 y4 y5 y6
    have hal : Below X3.heap.size X3 (X3.alloc (.cells #[.int .i64 c0, .int .i64 c1, .int .i64 c2, .int .i64 c3, .int .i64 c4, .string c5, .string c6] GreeterT)) := (Below.refl _ _).alloc (Nat.le_refl _) _
    have VG := Lib.hid (VarA.new X3 GreeterT #[.int .i64 c0, .int .i64 c1, .int .i64 c2, .int .i64 c3, .int .i64 c4, .string c5, .string c6])
    have H4 := Lib.hid (H3.out.next hal)
    have B4 := Lib.hid (B3.out.trans (hal.mono (Nat.le_trans hlo B3.out.size)))
    clear hal H3 B3
    go_upto_region 5 with fail
    generalize X3.alloc (.cells #[.int .i64 c0, .int .i64 c1, .int .i64 c2, .int .i64 c3, .int .i64 c4, .string c5, .string c6] GreeterT) = X4 at *
    generalize X3.heap.size = gn at *
    have y0 : X4.cell? ⟨m, 0, none⟩ = some (.int .i64 c0) := H4.out.var.cell 0
    have f0 := H4.out.var.free 0
    have y1 : X4.cell? ⟨m, 1, none⟩ = some (.int .i64 c1) := H4.out.var.cell 1
    have f1 := H4.out.var.free 1
    have y2 : X4.cell? ⟨m, 2, none⟩ = some (.int .i64 c2) := H4.out.var.cell 2
    have f2 := H4.out.var.free 2
    have y3 : X4.cell? ⟨m, 3, none⟩ = some (.int .i64 c3) := H4.out.var.cell 3
    have f3 := H4.out.var.free 3
    have y4 : X4.cell? ⟨m, 4, none⟩ = some (.int .i64 a4) := H4.out.var.cell 4
    have f4 := H4.out.var.free 4
    have y5 : X4.cell? ⟨m, 5, none⟩ = some (.string c5) := H4.out.var.cell 5
    have f5 := H4.out.var.free 5
    have y6 : X4.cell? ⟨m, 6, none⟩ = some (.string a6) := H4.out.var.cell 6
    have f6 := H4.out.var.free 6
    have e0 : X4.cell? ⟨gn, 0, none⟩ = some (.int .i64 c0) := VG.out.cell 0
    have e1 : X4.cell? ⟨gn, 1, none⟩ = some (.int .i64 c1) := VG.out.cell 1
    have e2 : X4.cell? ⟨gn, 2, none⟩ = some (.int .i64 c2) := VG.out.cell 2
    have e3 : X4.cell? ⟨gn, 3, none⟩ = some (.int .i64 c3) := VG.out.cell 3
    have e4 : X4.cell? ⟨gn, 4, none⟩ = some (.int .i64 c4) := VG.out.cell 4
    have e5 : X4.cell? ⟨gn, 5, none⟩ = some (.string c5) := VG.out.cell 5
    have e6 : X4.cell? ⟨gn, 6, none⟩ = some (.string c6) := VG.out.cell 6
    have hlx : lo ≤ X4.heap.size := Nat.le_trans hlo B4.out.size
    have hX5 : Only m X4 (((((((X4.setCell ⟨m, 0, none⟩ (.int .i64 c0)).setCell ⟨m, 1, none⟩ (.int .i64 c1)).setCell ⟨m, 2, none⟩ (.int .i64 c2)).setCell ⟨m, 3, none⟩ (.int .i64 c3)).setCell ⟨m, 4, none⟩ (.int .i64 c4)).setCell ⟨m, 5, none⟩ (.string c5)).setCell ⟨m, 6, none⟩ (.string c6)) := (((((((Only.setCell 0 (.int .i64 c0) : Only m X4 _).trans (Only.setCell 1 (.int .i64 c1))).trans (Only.setCell 2 (.int .i64 c2))).trans (Only.setCell 3 (.int .i64 c3))).trans (Only.setCell 4 (.int .i64 c4))).trans (Only.setCell 5 (.string c5))).trans (Only.setCell 6 (.string c6)))
    have H5 := Lib.hid ((H4.out.heardA (c0 := c0) (c1 := c1) (c2 := c2) (c3 := c3) (c4 := c4) (c5 := c5) (c6 := c6)).next ((Below.refl _ _).drew))
    have B5 := Lib.hid ((B4.out.trans (below_only hX5 H4.out.low hlx)).drew)
    clear hX5
    go_region
    go_upto_region 6 with fail
    generalize (((((((X4.setCell ⟨m, 0, none⟩ (.int .i64 c0)).setCell ⟨m, 1, none⟩ (.int .i64 c1)).setCell ⟨m, 2, none⟩ (.int .i64 c2)).setCell ⟨m, 3, none⟩ (.int .i64 c3)).setCell ⟨m, 4, none⟩ (.int .i64 c4)).setCell ⟨m, 5, none⟩ (.string c5)).setCell ⟨m, 6, none⟩ (.string c6)).drew = X5 at *
    clear H4 B4 VG hlx y0 f0 e0 y1 f1 e1 y2 f2 e2 y3 f3 e3 y4 f4 e4 y5 f5 e5 y6 f6 e6
    by_cases ht : t = ⟨#[]⟩
    · subst ht
      go_wp2_with fail
      refine bodyPost_end (results_none rfl _ _ _) rfl ⟨rfl, ⟨v2, .slice ao sa.length ac, ?_⟩, B5.out⟩
      rw [saidT_none]
      exact H5.out
    · have kt : (t.toList == []) = false := by
        rw [beq_eq_false_iff_ne, ByteArray.toList_eq]
        exact fun e => ht (ByteArray.ext (Array.toList_inj.1 (e.trans rfl)))
      have hsd : saidT sa t = sa ++ [t] := by unfold saidT; rw [if_neg ht]
      have HSD := Lib.hid hsd
      clear ht hsd
      go_upto_region 7 with fail
      have s1 : X5.cell? ⟨m, 14, none⟩ = some (.slice ao sa.length ac) := H5.out.var.cell 14
      have AD : Below X5.heap.size X5 (X5.alloc (.cells #[.string t] StringT)).drew := ((Below.refl _ _).alloc (Nat.le_refl _) _).drew
      have H6 := Lib.hid (H5.out.next AD)
      have B6 := Lib.hid (B5.out.trans (AD.mono (Nat.le_trans hlo B5.out.size)))
      have r2 : (X5.alloc (.cells #[.string t] StringT)).cell? ⟨m, 14, none⟩ = some (.slice ao sa.length ac) := H6.out.var.cell 14
      have hws : lo ≤ (X5.alloc (.cells #[.string t] StringT)).drew.heap.size := Nat.le_trans hlo B6.out.size
      clear AD H5 B5
      go_region_law (refine step_pushMv rfl (.tmp 68) (.tmp 70) 31 rfl lo StringT i1 (.string ⟨#[]⟩) 16 Tryz.underlying31 hi1 hz1 hsz1 hby1 rfl (by omega) (.slice ao sa.length ac) (strC sa) (by first | rfl | simp [Act.eval, Act.put]) H6.out.rowA (.string t) rfl ⟨X5.heap.size, 0, none⟩ (by first | rfl | simp [Act.eval, Act.put]) (cell_lit X5 (.string t) StringT) (by rw [strC_len]; omega) hws ?_; intro v1 w2 hp; obtain ⟨a9, k9, hv9⟩ := hp.row.form; obtain ⟨l9, HL9⟩ : ∃ l : Nat, Hid ((strC sa ++ [Value.string t]).length = l) := ⟨_, Lib.hid rfl⟩; rw [HL9.out] at hv9; subst hv9; obtain ⟨d1, d2, hgm⟩ := H6.out.saidA hp)
      all_goals
        have HM := Lib.hid hgm
        have BM := Lib.hid ((B6.out.trans hp.below).trans (below_only (Only.setCell (c := m) (w := w2) 14 (.slice a9 l9 k9)) H6.out.low (Nat.le_trans hlo (B6.out.trans hp.below).size)))
        clear hgm hp r2 s1
        go_wp2_with fail
        refine bodyPost_end (results_none rfl _ _ _) rfl ⟨rfl, ⟨v2, .slice a9 l9 k9, ?_⟩, BM.out⟩
        rw [HSD.out]
        exact HM.out

end Go.Proofs.YtkjjdoadjhjmbauGreatDoor

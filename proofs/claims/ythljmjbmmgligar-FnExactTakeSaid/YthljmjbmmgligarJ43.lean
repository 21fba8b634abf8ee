/-
  The test package's functions over packets: measured, held against each other, marked, found marked.
  What the exact law on Take keeps: a channel in a variable that may be older than its rows, a packet's variable.
-/
import Derived.Test.YthljmjbmmgligarJ12
import Derived.Test.YthljmjbmmgligarJ40
import Derived.Test.YthljmjbmmgligarJ42
import Derived.Deep.RegionHeld3
namespace Go.Proofs.Ythljmjbmmgligar
open Go.RowKit

set_option maxRecDepth 100000 in
set_option maxHeartbeats 800000 in
theorem szPacket_any (op key fr dst num : Int) (a : Option Addr) (n cp : Nat) (body : ByteArray) (hn : n ≤ 9223372036854775807) (hb : body.size ≤ 9223372036854775807) (w : World) :
    Calls Try.prog 24 #[.agg #[.int .i64 op, .int .i64 key, .int .i64 fr, .int .i64 dst, .int .i64 num, .slice a n cp, .string body], .int .i64 1048576] w fun e w' => e = .returned (.int .i64 (if 1048576 < n + body.size then -1 else 1048576 - (n : Int) - (body.size : Int))) ∧ Below w.heap.size w w' := by
  have H1 := Lib.hid (szIntS_any a n cp 1048576 (by omega) (by omega) hn)
  by_cases h : 1048576 < n
  · have h1 : (1048576 : Int) < (n : Int) := by omega
    rw [if_pos h1] at H1
    rw [if_pos (by omega)]
    go_enter Try.func24, Try.ntmps24
    go_wp2_with fail
    refine (H1.out _).mono ?_
    rintro e Y ⟨rfl, rfl⟩
    go_wp2_with fail
    go_ret
    exact ⟨rfl, (Below.refl _ _).alloc (Nat.le_refl _) _⟩
  · have h1 : ¬ ((1048576 : Int) < (n : Int)) := by omega
    have h2 : ¬ ((1048576 : Int) - (n : Int) < 0) := by omega
    rw [if_neg h1] at H1
    by_cases h5 : 1048576 < n + body.size
    · have h4 : (1048576 : Int) - (n : Int) - (body.size : Int) < 0 := by omega
      rw [if_pos h5]
      go_enter Try.func24, Try.ntmps24
      go_wp2_with fail
      refine (H1.out _).mono ?_
      rintro e Y ⟨rfl, rfl⟩
      go_wp2_with fail
      go_ret
      exact ⟨rfl, (Below.refl _ _).alloc (Nat.le_refl _) _⟩
    · have h4 : ¬ ((1048576 : Int) - (n : Int) - (body.size : Int) < 0) := by omega
      rw [if_neg h5]
      go_enter Try.func24, Try.ntmps24
      go_wp2_with fail
      refine (H1.out _).mono ?_
      rintro e Y ⟨rfl, rfl⟩
      go_wp2_with fail
      go_ret
      exact ⟨rfl, (Below.refl _ _).alloc (Nat.le_refl _) _⟩

set_option maxRecDepth 100000 in
set_option maxHeartbeats 1600000 in
theorem eqPacket_same (op key fr dst num : Int) (v u : Value) (xs : List Int) (body : ByteArray) (hl : xs.length ≤ 100000000) (w : World) (h : layIntS.rd w [v] xs) (k : layIntS.rd w [u] xs) :
    Calls Try.prog 28 #[.agg #[.int .i64 op, .int .i64 key, .int .i64 fr, .int .i64 dst, .int .i64 num, v, .string body], .agg #[.int .i64 op, .int .i64 key, .int .i64 fr, .int .i64 dst, .int .i64 num, u, .string body]] w fun e w' => e = .returned (.bool true) ∧ Below w.heap.size w w' := by
  obtain ⟨va, vc, rfl⟩ := rows_form h
  obtain ⟨ua, uc, rfl⟩ := rows_form k
  have e1 : (w.alloc (.cells #[.int .i64 op, .int .i64 key, .int .i64 fr, .int .i64 dst, .int .i64 num, .slice va xs.length vc, .string body] PkT)).heap.size = w.heap.size + 1 := by simp
  have A0 := Lib.hid ((VarA.new w PkT #[.int .i64 op, .int .i64 key, .int .i64 fr, .int .i64 dst, .int .i64 num, .slice va xs.length vc, .string body]).alloc (.cells #[.int .i64 op, .int .i64 key, .int .i64 fr, .int .i64 dst, .int .i64 num, .slice ua xs.length uc, .string body] PkT))
  have A1' := VarA.new (w.alloc (.cells #[.int .i64 op, .int .i64 key, .int .i64 fr, .int .i64 dst, .int .i64 num, .slice va xs.length vc, .string body] PkT)) PkT #[.int .i64 op, .int .i64 key, .int .i64 fr, .int .i64 dst, .int .i64 num, .slice ua xs.length uc, .string body]
  rw [e1] at A1'
  have A1 := Lib.hid A1'
  have B0 := Lib.hid (((Below.refl w.heap.size w).alloc (Nat.le_refl _) (.cells #[.int .i64 op, .int .i64 key, .int .i64 fr, .int .i64 dst, .int .i64 num, .slice va xs.length vc, .string body] PkT)).alloc (by simp) (.cells #[.int .i64 op, .int .i64 key, .int .i64 fr, .int .i64 dst, .int .i64 num, .slice ua xs.length uc, .string body] PkT))
  have HL := Lib.hid h
  have KL := Lib.hid k
  clear A1' e1 h k
  go_enter Try.func28, Try.ntmps28
  go_upto_region 1 with fail
  generalize (w.alloc (.cells #[.int .i64 op, .int .i64 key, .int .i64 fr, .int .i64 dst, .int .i64 num, .slice va xs.length vc, .string body] PkT)).alloc (.cells #[.int .i64 op, .int .i64 key, .int .i64 fr, .int .i64 dst, .int .i64 num, .slice ua xs.length uc, .string body] PkT) = Y0 at *
  have a0 : Y0.cell? ⟨w.heap.size, 0, none⟩ = some (.int .i64 op) := A0.out.cell 0
  have a1 : Y0.cell? ⟨w.heap.size, 1, none⟩ = some (.int .i64 key) := A0.out.cell 1
  have a2 : Y0.cell? ⟨w.heap.size, 2, none⟩ = some (.int .i64 fr) := A0.out.cell 2
  have a3 : Y0.cell? ⟨w.heap.size, 3, none⟩ = some (.int .i64 dst) := A0.out.cell 3
  have a4 : Y0.cell? ⟨w.heap.size, 4, none⟩ = some (.int .i64 num) := A0.out.cell 4
  have a5 : Y0.cell? ⟨w.heap.size, 5, none⟩ = some (.slice va xs.length vc) := A0.out.cell 5
  have a6 : Y0.cell? ⟨w.heap.size, 6, none⟩ = some (.string body) := A0.out.cell 6
  have b0 : Y0.cell? ⟨w.heap.size + 1, 0, none⟩ = some (.int .i64 op) := A1.out.cell 0
  have b1 : Y0.cell? ⟨w.heap.size + 1, 1, none⟩ = some (.int .i64 key) := A1.out.cell 1
  have b2 : Y0.cell? ⟨w.heap.size + 1, 2, none⟩ = some (.int .i64 fr) := A1.out.cell 2
  have b3 : Y0.cell? ⟨w.heap.size + 1, 3, none⟩ = some (.int .i64 dst) := A1.out.cell 3
  have b4 : Y0.cell? ⟨w.heap.size + 1, 4, none⟩ = some (.int .i64 num) := A1.out.cell 4
  have b5 : Y0.cell? ⟨w.heap.size + 1, 5, none⟩ = some (.slice ua xs.length uc) := A1.out.cell 5
  have b6 : Y0.cell? ⟨w.heap.size + 1, 6, none⟩ = some (.string body) := A1.out.cell 6
  go_wp2_with fail
  refine (eqIntS_same _ _ xs hl _ (layIntS.below HL.out B0.out) (layIntS.below KL.out B0.out)).mono ?_
  rintro e Y1 ⟨rfl, hb⟩
  have B1 := Lib.hid (B0.out.trans (hb.mono B0.out.size))
  have a6' : Y1.cell? ⟨w.heap.size, 6, none⟩ = some (.string body) := (A0.out.next hb).cell 6
  have b6' : Y1.cell? ⟨w.heap.size + 1, 6, none⟩ = some (.string body) := (A1.out.next hb).cell 6
  clear hb a0 a1 a2 a3 a4 a5 a6 b0 b1 b2 b3 b4 b5 b6
  go_wp2_with fail
  go_ret
  exact ⟨rfl, B1.out⟩

set_option maxRecDepth 100000 in
set_option maxHeartbeats 800000 in
theorem markPacket_any (op key fr dst num : Int) (v : Value) (xs : List Int) (body : ByteArray) (b : Nat) (fp : List Nat) (k : Int) (hk0 : 0 ≤ k) (hk1 : k ≤ 1000000000) (hl : xs.length ≤ 100000000) (w : World) (hd : fp.Nodup) (ho : layIntS.own w b fp [v] xs) :
    Calls Try.prog 29 #[.agg #[.int .i64 op, .int .i64 key, .int .i64 fr, .int .i64 dst, .int .i64 num, v, .string body], .int .i64 k] w fun e w' => e = .returned (.int .i64 (k + (xs.length : Int))) ∧ layIntS.own w' b fp [v] (upI k xs.length) ∧ Chg fp w w' := by
  obtain ⟨va, vc, rfl⟩ := rows_form (layIntS.read ho)
  have hb0 := (Below.refl w.heap.size w).alloc (Nat.le_refl _) (.cells #[.int .i64 op, .int .i64 key, .int .i64 fr, .int .i64 dst, .int .i64 num, .slice va xs.length vc, .string body] PkT)
  have A0 := Lib.hid (VarA.new w PkT #[.int .i64 op, .int .i64 key, .int .i64 fr, .int .i64 dst, .int .i64 num, .slice va xs.length vc, .string body])
  have O0 := Lib.hid (layIntS.next ho hb0)
  have G0 := Lib.hid (Below.chg hb0 fp)
  clear ho hb0
  go_enter Try.func29, Try.ntmps29
  go_upto_region 1 with fail
  generalize w.alloc (.cells #[.int .i64 op, .int .i64 key, .int .i64 fr, .int .i64 dst, .int .i64 num, .slice va xs.length vc, .string body] PkT) = Y0 at *
  have c5 : Y0.cell? ⟨w.heap.size, 5, none⟩ = some (.slice va xs.length vc) := A0.out.cell 5
  have KM := Lib.hid (markIntS_any _ xs b fp k hk0 hk1 hl Y0 hd O0.out)
  clear O0
  go_wp2_with fail
  refine KM.out.mono ?_
  rintro e Y1 ⟨rfl, hM, hC⟩
  have M1 := Lib.hid hM
  have G1 := Lib.hid (G0.out.trans hC)
  clear hM hC c5 KM G0
  go_wp2_with fail
  go_ret
  exact ⟨rfl, M1.out, G1.out⟩

end Go.Proofs.Ythljmjbmmgligar
namespace Go.Proofs.Ythljmjbmmgligar
open Go.RowKit

/-- A channel in its variable, whose rows lie in blocks from lo on, below hi. -/
structure CU (lo hi G : Nat) (m0 m1 m2 m5 : Int) (v3 v4 v6 v7 v8 : Value) (r3 : List ByteArray) (r4 : List PendingD) (r6 : List EarlyD) (r7 : List Int) (r8 : List ByteArray) (X : World) : Prop where
  var : VarA G ChanT #[.int .i64 m0, .int .i64 m1, .int .i64 m2, v3, v4, .int .i64 m5, v6, v7, v8] X
  co : ∃ f3 f4 f6 f7 f8 : List Nat, COT lo v3 v4 v6 v7 v8 f3 f4 f6 f7 f8 r3 r4 r6 r7 r8 X ∧ ∀ g ∈ f3 ++ (f4 ++ (f6 ++ (f7 ++ f8))), g < hi
section
variable {lo hi G : Nat} {m0 m1 m2 m5 : Int} {v3 v4 v6 v7 v8 : Value} {r3 : List ByteArray} {r4 : List PendingD} {r6 : List EarlyD} {r7 : List Int} {r8 : List ByteArray} {X Y : World}
theorem CU.next (h : CU lo hi G m0 m1 m2 m5 v3 v4 v6 v7 v8 r3 r4 r6 r7 r8 X) (hb : Below X.heap.size X Y) : CU lo hi G m0 m1 m2 m5 v3 v4 v6 v7 v8 r3 r4 r6 r7 r8 Y := by
  obtain ⟨f3, f4, f6, f7, f8, h1, h2⟩ := h.co
  exact ⟨h.var.next hb, ⟨f3, f4, f6, f7, f8, h1.next hb, h2⟩⟩
theorem CU.apart (h : CU lo hi G m0 m1 m2 m5 v3 v4 v6 v7 v8 r3 r4 r6 r7 r8 X) {a b : Nat} (hr : Rng a b X Y) (ho : hi ≤ a ∨ b ≤ lo) (hG : G < a ∨ b ≤ G) : CU lo hi G m0 m1 m2 m5 v3 v4 v6 v7 v8 r3 r4 r6 r7 r8 Y := by
  obtain ⟨f3, f4, f6, f7, f8, h1, h2⟩ := h.co
  have hl := h1.low
  have hh : ∀ g ∈ f3 ++ (f4 ++ (f6 ++ (f7 ++ f8))), g < a ∨ b ≤ g := fun g hg => by have := hl g hg; have := h2 g hg; omega
  exact ⟨h.var.rng hr hG, ⟨f3, f4, f6, f7, f8, ⟨layStringT.rng h1.q hr (fun g hg => hh g (by simp [hg])), layPendingS.rng h1.s hr (fun g hg => hh g (by simp [hg])), layEarlyT.rng h1.e hr (fun g hg => hh g (by simp [hg])), layIntS.rng h1.o hr (fun g hg => hh g (by simp [hg])), layStringT.rng h1.x hr (fun g hg => hh g (by simp [hg])), h1.ap⟩, h2⟩⟩
theorem CU.rd (h : CU lo hi G m0 m1 m2 m5 v3 v4 v6 v7 v8 r3 r4 r6 r7 r8 X) : ChanRd v3 v4 v6 v7 v8 r3 r4 r6 r7 r8 X := by
  obtain ⟨f3, f4, f6, f7, f8, h1, h2⟩ := h.co
  exact h1.rd
end
/-- A new variable that holds a channel with rows of its own, behind V. -/
structure NC (V : World) (m0 m1 m2 m5 : Int) (v3 v4 v6 v7 v8 : Value) (r3 : List ByteArray) (r4 : List PendingD) (r6 : List EarlyD) (r7 : List Int) (r8 : List ByteArray) (G : Nat) (Z : World) : Prop where
  cu : CU V.heap.size Z.heap.size G m0 m1 m2 m5 v3 v4 v6 v7 v8 r3 r4 r6 r7 r8 Z
  low : V.heap.size ≤ G
  below : Below V.heap.size V Z
section
variable {V v : World} {m0 m1 m2 m5 : Int} {v3 v4 v6 v7 v8 : Value} {r3 : List ByteArray} {r4 : List PendingD} {r6 : List EarlyD} {r7 : List Int} {r8 : List ByteArray} {f3 f4 f6 f7 f8 : List Nat}
theorem NC.last (h : COT V.heap.size v3 v4 v6 v7 v8 f3 f4 f6 f7 f8 r3 r4 r6 r7 r8 v) (hb : Below V.heap.size V v) : NC V m0 m1 m2 m5 v3 v4 v6 v7 v8 r3 r4 r6 r7 r8 v.heap.size (v.alloc (.cells #[.int .i64 m0, .int .i64 m1, .int .i64 m2, v3, v4, .int .i64 m5, v6, v7, v8] ChanT)) := by
  have h1 := h.next ((Below.refl _ v).alloc (Nat.le_refl _) (.cells #[.int .i64 m0, .int .i64 m1, .int .i64 m2, v3, v4, .int .i64 m5, v6, v7, v8] ChanT))
  exact ⟨⟨VarA.new v ChanT _, f3, f4, f6, f7, f8, h1, fun g hg => (h1.low g hg).2⟩, hb.size, hb.alloc hb.size _⟩
theorem NC.stored {G : Nat} {q0 q1 q2 q3 q4 q5 q6 q7 q8 : Value} (rr : VarA G ChanT #[q0, q1, q2, q3, q4, q5, q6, q7, q8] v) (hG : V.heap.size ≤ G) (h : COT V.heap.size v3 v4 v6 v7 v8 f3 f4 f6 f7 f8 r3 r4 r6 r7 r8 v) (hb : Below V.heap.size V v) : NC V m0 m1 m2 m5 v3 v4 v6 v7 v8 r3 r4 r6 r7 r8 G ((((((((((v.setCell ⟨G, 0, none⟩ (.int .i64 m0)).setCell ⟨G, 1, none⟩ (.int .i64 m1)).setCell ⟨G, 2, none⟩ (.int .i64 m2)).setCell ⟨G, 3, none⟩ v3).setCell ⟨G, 4, none⟩ v4).setCell ⟨G, 5, none⟩ (.int .i64 m5)).setCell ⟨G, 6, none⟩ v6).setCell ⟨G, 7, none⟩ v7).setCell ⟨G, 8, none⟩ v8)) := by
  have ho := only_nine v G (.int .i64 m0) (.int .i64 m1) (.int .i64 m2) v3 v4 (.int .i64 m5) v6 v7 v8
  have h1 := h.only ho rr (by decide) (by decide) (by decide) (by decide)
  exact ⟨⟨set_nine rr, f3, f4, f6, f7, f8, h1, fun g hg => (h1.low g hg).2⟩, hG, hb.trans (only_below ho hG hb.size)⟩
end
/-- A packet in its variable, whose row lies in blocks from lo on, below hi. -/
structure PU (lo hi G : Nat) (op key fr dst num : Int) (v : Value) (acks : List Int) (body : ByteArray) (X : World) : Prop where
  var : VarA G PkT #[.int .i64 op, .int .i64 key, .int .i64 fr, .int .i64 dst, .int .i64 num, v, .string body] X
  co : ∃ f : List Nat, f.Nodup ∧ layIntS.own X lo f [v] acks ∧ ∀ g ∈ f, g < hi
section
variable {lo hi G : Nat} {op key fr dst num : Int} {v : Value} {acks : List Int} {body : ByteArray} {X Y : World}
theorem PU.next (h : PU lo hi G op key fr dst num v acks body X) (hb : Below X.heap.size X Y) : PU lo hi G op key fr dst num v acks body Y := by
  obtain ⟨f, h0, h1, h2⟩ := h.co
  exact ⟨h.var.next hb, f, h0, layIntS.next h1 hb, h2⟩
theorem PU.rd (h : PU lo hi G op key fr dst num v acks body X) : layIntS.rd X [v] acks := by
  obtain ⟨f, h0, h1, h2⟩ := h.co
  exact layIntS.read h1
theorem PU.apart (h : PU lo hi G op key fr dst num v acks body X) {a b : Nat} (hr : Rng a b X Y) (ho : hi ≤ a ∨ b ≤ lo) (hG : G < a ∨ b ≤ G) : PU lo hi G op key fr dst num v acks body Y := by
  obtain ⟨f, h0, h1, h2⟩ := h.co
  exact ⟨h.var.rng hr hG, f, h0, layIntS.rng h1 hr (fun g hg => by have := (layIntS.blocks h1 g hg).1; have := h2 g hg; omega), h2⟩
theorem PU.new {w : World} {f : List Nat} (hd : f.Nodup) (h : layIntS.own X w.heap.size f [v] acks) : PU w.heap.size X.heap.size X.heap.size op key fr dst num v acks body (X.alloc (.cells #[.int .i64 op, .int .i64 key, .int .i64 fr, .int .i64 dst, .int .i64 num, v, .string body] PkT)) :=
  ⟨VarA.new X PkT _, f, hd, layIntS.next h ((Below.refl _ _).alloc (Nat.le_refl _) _), fun g hg => (layIntS.blocks h g hg).2⟩
theorem PU.mark (h : PU lo hi G op key fr dst num v acks body X) (k : Int) (hk0 : 0 ≤ k) (hk1 : k ≤ 1000000000) (hl : acks.length ≤ 100000000) :
    Calls Try.prog 29 #[.agg #[.int .i64 op, .int .i64 key, .int .i64 fr, .int .i64 dst, .int .i64 num, v, .string body], .int .i64 k] X fun e Y => e = .returned (.int .i64 (k + (acks.length : Int))) ∧ Rng lo hi X Y := by
  obtain ⟨f, h0, h1, h2⟩ := h.co
  refine (markPacket_any op key fr dst num v acks body lo f k hk0 hk1 hl X h0 h1).mono ?_
  rintro e Y ⟨rfl, _, hc⟩
  exact ⟨rfl, hc.rng (fun g hg => ⟨(layIntS.blocks h1 g hg).1, h2 g hg⟩)⟩
end

set_option maxRecDepth 100000 in
set_option maxHeartbeats 800000 in
/-- A packet is measured. -/
theorem szPacket_left (op key fr dst num : Int) (a : Option Addr) (n cp : Nat) (body : ByteArray) (hn : n ≤ 9223372036854775807) (hb : body.size ≤ 9223372036854775807) (z : Int) (z0 : 0 ≤ z) (z1 : z ≤ 1048576) (w : World) :
    Calls Try.prog 24 #[.agg #[.int .i64 op, .int .i64 key, .int .i64 fr, .int .i64 dst, .int .i64 num, .slice a n cp, .string body], .int .i64 z] w fun e w' => (∃ y : Int, e = .returned (.int .i64 y) ∧ (y = -1 ∨ (0 ≤ y ∧ n ≤ 1048576 ∧ body.size ≤ 1048576))) ∧ Below w.heap.size w w' := by
  have H1 := Lib.hid (szIntS_any a n cp z z0 z1 hn)
  by_cases h : z < (n : Int)
  · rw [if_pos h] at H1
    go_enter Try.func24, Try.ntmps24
    go_wp2_with fail
    refine (H1.out _).mono ?_
    rintro e Y ⟨rfl, rfl⟩
    go_wp2_with fail
    go_ret
    exact ⟨⟨_, rfl, .inl rfl⟩, (Below.refl _ _).alloc (Nat.le_refl _) _⟩
  · have h2 : ¬ (z - (n : Int) < 0) := by omega
    rw [if_neg h] at H1
    by_cases h5 : z - (n : Int) - (body.size : Int) < 0
    · go_enter Try.func24, Try.ntmps24
      go_wp2_with fail
      refine (H1.out _).mono ?_
      rintro e Y ⟨rfl, rfl⟩
      go_wp2_with fail
      go_ret
      exact ⟨⟨_, rfl, .inl rfl⟩, (Below.refl _ _).alloc (Nat.le_refl _) _⟩
    · go_enter Try.func24, Try.ntmps24
      go_wp2_with fail
      refine (H1.out _).mono ?_
      rintro e Y ⟨rfl, rfl⟩
      go_wp2_with fail
      go_ret
      exact ⟨⟨_, rfl, .inr ⟨by omega, by omega, by omega⟩⟩, (Below.refl _ _).alloc (Nat.le_refl _) _⟩

end Go.Proofs.Ythljmjbmmgligar

/-
  Channels in variables of their own, with rows of their own, by ranges of blocks: for the exact laws.
-/
import Derived.Test.YthljmjbmmgligarJ20
import Derived.Test.YthljmjbmmgligarJ39
namespace Go.Proofs.Ythljmjbmmgligar
open Go.RowKit

/-- Blocks from lo on, below hi, alone are changed; new ones may be there. -/
structure Rng (lo hi : Nat) (X Y : World) : Prop where
  os : Y.os = X.os
  tape : Y.tape = X.tape
  output : Y.output = X.output
  size : X.heap.size ≤ Y.heap.size
  block : ∀ g, g < X.heap.size → (g < lo ∨ hi ≤ g) → Y.heap[g]? = X.heap[g]?
theorem Chg.rng {fp : List Nat} {X Y : World} {lo hi : Nat} (h : Chg fp X Y) (hf : ∀ g ∈ fp, lo ≤ g ∧ g < hi) : Rng lo hi X Y := ⟨h.os, h.tape, h.output, h.size, fun g hg ho => h.block g hg (fun hm => by have := hf g hm; omega)⟩
theorem Rng.below {X Y : World} {lo hi b : Nat} (h : Rng lo hi X Y) (hb : b ≤ lo) (hs : b ≤ X.heap.size) : Below b X Y := ⟨h.os, h.tape, h.output, h.size, fun g hg => h.block g (by omega) (.inl (by omega))⟩
theorem VarA.rng {r : Nat} {t : TypeId} {cs : Array Value} {X Y : World} {lo hi : Nat} (h : VarA r t cs X) (hr : Rng lo hi X Y) (ho : r < lo ∨ hi ≤ r) : VarA r t cs Y := ⟨(hr.block r h.lt ho).trans h.row⟩
theorem Lay.rng {α : Type} (A : Lay α) {X Y : World} {b lo hi : Nat} {f : List Nat} {cs : List Value} {x : α} (h : A.own X b f cs x) (hr : Rng lo hi X Y) (hf : ∀ g ∈ f, g < lo ∨ hi ≤ g) : A.own Y b f cs x := A.keep h (fun g hg => hr.block g (A.blocks h g hg).2 (hf g hg))

/-- A channel's rows, of the call's own, or tails of such; each apart from the others. -/
structure COT (lo : Nat) (v3 v4 v6 v7 v8 : Value) (f3 f4 f6 f7 f8 : List Nat) (qs : List ByteArray) (ss : List PendingD) (es : List EarlyD) (os : List Int) (xs : List ByteArray) (X : World) : Prop where
  q : layStringT.own X lo f3 [v3] qs
  s : layPendingS.own X lo f4 [v4] ss
  e : layEarlyT.own X lo f6 [v6] es
  o : layIntS.own X lo f7 [v7] os
  x : layStringT.own X lo f8 [v8] xs
  ap : ∀ g ∈ f3, g ∉ f8
section
variable {lo : Nat} {v3 v4 v6 v7 v8 : Value} {f3 f4 f6 f7 f8 : List Nat} {qs : List ByteArray} {ss : List PendingD} {es : List EarlyD} {os : List Int} {xs : List ByteArray} {X Y : World}
theorem CO.t (h : CO lo v3 v4 v6 v7 v8 f3 f4 f6 f7 f8 qs ss es os xs X) : COT lo v3 v4 v6 v7 v8 f3 f4 f6 f7 f8 qs ss es os xs X := ⟨.inl h.q, h.s, .inl h.e, h.o, .inl h.x, h.ap⟩
theorem COT.next (h : COT lo v3 v4 v6 v7 v8 f3 f4 f6 f7 f8 qs ss es os xs X) (hb : Below X.heap.size X Y) : COT lo v3 v4 v6 v7 v8 f3 f4 f6 f7 f8 qs ss es os xs Y := ⟨layStringT.next h.q hb, layPendingS.next h.s hb, layEarlyT.next h.e hb, layIntS.next h.o hb, layStringT.next h.x hb, h.ap⟩
theorem COT.nodup (h : COT lo v3 v4 v6 v7 v8 f3 f4 f6 f7 f8 qs ss es os xs X) : (f3 ++ (f4 ++ (f6 ++ (f7 ++ f8)))).Nodup := by
  have s' : (Lay.tail PendingT layPending).own X lo f4 [v4] ss := .inl h.s
  have o' : (Lay.tail 3 Lay.int).own X lo f7 [v7] os := .inl h.o
  have d34 := tail_off flatString flatPending h.q s' (show StringT ≠ PendingT by decide)
  have d36 := tail_off flatString flatEarly h.q h.e (show StringT ≠ EarlyT by decide)
  have d37 := tail_off flatString flatIntP h.q o' (show StringT ≠ 3 by decide)
  have d46 := tail_off flatPending flatEarly s' h.e (show PendingT ≠ EarlyT by decide)
  have d47 := tail_off flatPending flatIntP s' o' (show PendingT ≠ 3 by decide)
  have d48 := tail_off flatPending flatString s' h.x (show PendingT ≠ StringT by decide)
  have d67 := tail_off flatEarly flatIntP h.e o' (show EarlyT ≠ 3 by decide)
  have d68 := tail_off flatEarly flatString h.e h.x (show EarlyT ≠ StringT by decide)
  have d78 := tail_off flatIntP flatString o' h.x (show 3 ≠ StringT by decide)
  refine List.nodup_append.2 ⟨(tail_block flatString h.q).1, List.nodup_append.2 ⟨(tail_block flatPending s').1, List.nodup_append.2 ⟨(tail_block flatEarly h.e).1, List.nodup_append.2 ⟨(tail_block flatIntP o').1, (tail_block flatString h.x).1, ?_⟩, ?_⟩, ?_⟩, ?_⟩
  · rintro a ha b hb rfl
    exact d78 a ha hb
  · rintro a ha b hb rfl
    rcases List.mem_append.1 hb with hb | hb
    · exact d67 a ha hb
    · exact d68 a ha hb
  · rintro a ha b hb rfl
    rcases List.mem_append.1 hb with hb | hb
    · exact d46 a ha hb
    · rcases List.mem_append.1 hb with hb | hb
      · exact d47 a ha hb
      · exact d48 a ha hb
  · rintro a ha b hb rfl
    rcases List.mem_append.1 hb with hb | hb
    · exact d34 a ha hb
    · rcases List.mem_append.1 hb with hb | hb
      · exact d36 a ha hb
      · rcases List.mem_append.1 hb with hb | hb
        · exact d37 a ha hb
        · exact h.ap a ha hb
end

/-- A channel in its variable, whose rows lie in blocks from lo on, below hi. -/
structure CV (lo hi G : Nat) (m0 m1 m2 m5 : Int) (v3 v4 v6 v7 v8 : Value) (r3 : List ByteArray) (r4 : List PendingD) (r6 : List EarlyD) (r7 : List Int) (r8 : List ByteArray) (X : World) : Prop where
  var : VarA G ChanT #[.int .i64 m0, .int .i64 m1, .int .i64 m2, v3, v4, .int .i64 m5, v6, v7, v8] X
  co : ∃ f3 f4 f6 f7 f8 : List Nat, COT lo v3 v4 v6 v7 v8 f3 f4 f6 f7 f8 r3 r4 r6 r7 r8 X ∧ ∀ g ∈ f3 ++ (f4 ++ (f6 ++ (f7 ++ f8))), g < hi
  gh : hi ≤ G
section
variable {lo hi G : Nat} {m0 m1 m2 m5 : Int} {v3 v4 v6 v7 v8 : Value} {r3 : List ByteArray} {r4 : List PendingD} {r6 : List EarlyD} {r7 : List Int} {r8 : List ByteArray} {X Y : World}
theorem CV.next (h : CV lo hi G m0 m1 m2 m5 v3 v4 v6 v7 v8 r3 r4 r6 r7 r8 X) (hb : Below X.heap.size X Y) : CV lo hi G m0 m1 m2 m5 v3 v4 v6 v7 v8 r3 r4 r6 r7 r8 Y := by
  obtain ⟨f3, f4, f6, f7, f8, h1, h2⟩ := h.co
  exact ⟨h.var.next hb, ⟨f3, f4, f6, f7, f8, h1.next hb, h2⟩, h.gh⟩
theorem COT.low {f3 f4 f6 f7 f8 : List Nat} (h : COT lo v3 v4 v6 v7 v8 f3 f4 f6 f7 f8 r3 r4 r6 r7 r8 X) : ∀ g ∈ f3 ++ (f4 ++ (f6 ++ (f7 ++ f8))), lo ≤ g ∧ g < X.heap.size := fun g hg => by
  rcases List.mem_append.1 hg with h1 | h1
  · exact layStringT.blocks h.q g h1
  rcases List.mem_append.1 h1 with h1 | h1
  · exact layPendingS.blocks h.s g h1
  rcases List.mem_append.1 h1 with h1 | h1
  · exact layEarlyT.blocks h.e g h1
  rcases List.mem_append.1 h1 with h1 | h1
  · exact layIntS.blocks h.o g h1
  · exact layStringT.blocks h.x g h1
/-- Other blocks are written. -/
theorem CV.apart (h : CV lo hi G m0 m1 m2 m5 v3 v4 v6 v7 v8 r3 r4 r6 r7 r8 X) {a b : Nat} (hr : Rng a b X Y) (ho : hi ≤ a ∨ b ≤ lo) (hG : G < a ∨ b ≤ G) : CV lo hi G m0 m1 m2 m5 v3 v4 v6 v7 v8 r3 r4 r6 r7 r8 Y := by
  obtain ⟨f3, f4, f6, f7, f8, h1, h2⟩ := h.co
  have hl := h1.low
  have hh : ∀ g ∈ f3 ++ (f4 ++ (f6 ++ (f7 ++ f8))), g < a ∨ b ≤ g := fun g hg => by have := hl g hg; have := h2 g hg; omega
  refine ⟨h.var.rng hr hG, ⟨f3, f4, f6, f7, f8, ⟨layStringT.rng h1.q hr (fun g hg => hh g (by simp [hg])), layPendingS.rng h1.s hr (fun g hg => hh g (by simp [hg])), layEarlyT.rng h1.e hr (fun g hg => hh g (by simp [hg])), layIntS.rng h1.o hr (fun g hg => hh g (by simp [hg])), layStringT.rng h1.x hr (fun g hg => hh g (by simp [hg])), h1.ap⟩, h2⟩, h.gh⟩
end
/-- A channel as a value, of the call's own. -/
def ChanVal (X : World) (m0 m1 m2 m5 : Int) (r3 : List ByteArray) (r4 : List PendingD) (r6 : List EarlyD) (r7 : List Int) (r8 : List ByteArray) (v : Value) (Y : World) : Prop :=
  ∃ (a3 : Option Addr) (c3 : Nat) (a4 : Option Addr) (c4 : Nat) (a6 : Option Addr) (c6 : Nat) (a7 : Option Addr) (c7 : Nat) (a8 : Option Addr) (c8 : Nat) (f3 f4 f6 f7 f8 : List Nat), v = .agg #[.int .i64 m0, .int .i64 m1, .int .i64 m2, .slice a3 r3.length c3, .slice a4 r4.length c4, .int .i64 m5, .slice a6 r6.length c6, .slice a7 r7.length c7, .slice a8 r8.length c8] ∧ COT X.heap.size (.slice a3 r3.length c3) (.slice a4 r4.length c4) (.slice a6 r6.length c6) (.slice a7 r7.length c7) (.slice a8 r8.length c8) f3 f4 f6 f7 f8 r3 r4 r6 r7 r8 Y ∧ Below X.heap.size X Y
section
variable {m0 m1 m2 m5 : Int} {r3 : List ByteArray} {r4 : List PendingD} {r6 : List EarlyD} {r7 : List Int} {r8 : List ByteArray} {X Y : World}
theorem COT.val {v3 v4 v6 v7 v8 : Value} {f3 f4 f6 f7 f8 : List Nat} (h : COT X.heap.size v3 v4 v6 v7 v8 f3 f4 f6 f7 f8 r3 r4 r6 r7 r8 Y) (hb : Below X.heap.size X Y) : ChanVal X m0 m1 m2 m5 r3 r4 r6 r7 r8 (.agg #[.int .i64 m0, .int .i64 m1, .int .i64 m2, v3, v4, .int .i64 m5, v6, v7, v8]) Y := by
  obtain ⟨a3, c3, rfl⟩ := tail_form (e := StringT) (A := layString) h.q
  obtain ⟨a4, c4, rfl⟩ := rows_form (layPendingS.read h.s)
  obtain ⟨a6, c6, rfl⟩ := tail_form (e := EarlyT) (A := layEarly) h.e
  obtain ⟨a7, c7, rfl⟩ := rows_form (layIntS.read h.o)
  obtain ⟨a8, c8, rfl⟩ := tail_form (e := StringT) (A := layString) h.x
  exact ⟨a3, c3, a4, c4, a6, c6, a7, c7, a8, c8, f3, f4, f6, f7, f8, rfl, h, hb⟩
end
section
variable {lo hi G : Nat} {m0 m1 m2 m5 : Int} {v3 v4 v6 v7 v8 : Value} {r3 : List ByteArray} {r4 : List PendingD} {r6 : List EarlyD} {r7 : List Int} {r8 : List ByteArray} {X Y : World}
theorem CV.new {w : World} {f3 f4 f6 f7 f8 : List Nat} (h : COT w.heap.size v3 v4 v6 v7 v8 f3 f4 f6 f7 f8 r3 r4 r6 r7 r8 X) : CV w.heap.size X.heap.size X.heap.size m0 m1 m2 m5 v3 v4 v6 v7 v8 r3 r4 r6 r7 r8 (X.alloc (.cells #[.int .i64 m0, .int .i64 m1, .int .i64 m2, v3, v4, .int .i64 m5, v6, v7, v8] ChanT)) :=
  ⟨VarA.new X ChanT _, ⟨f3, f4, f6, f7, f8, h.next ((Below.refl _ _).alloc (Nat.le_refl _) _), fun g hg => (h.low g hg).2⟩, Nat.le_refl _⟩
/-- How many marks it has, and one. -/
def cntC (r3 : List ByteArray) (r4 : List PendingD) (r6 : List EarlyD) (r7 : List Int) (r8 : List ByteArray) : Int := 1 + 1 * (r3.length : Int) + 4 * (r4.length : Int) + 2 * (r6.length : Int) + 1 * (r7.length : Int) + 1 * (r8.length : Int)
/-- Five rows of at most n. -/
structure Few5 (n : Nat) (r3 : List ByteArray) (r4 : List PendingD) (r6 : List EarlyD) (r7 : List Int) (r8 : List ByteArray) : Prop where
  l3 : r3.length ≤ n
  l4 : r4.length ≤ n
  l6 : r6.length ≤ n
  l7 : r7.length ≤ n
  l8 : r8.length ≤ n
theorem Few5.mono {n m : Nat} (h : Few5 n r3 r4 r6 r7 r8) (hm : n ≤ m) : Few5 m r3 r4 r6 r7 r8 := ⟨Nat.le_trans h.l3 hm, Nat.le_trans h.l4 hm, Nat.le_trans h.l6 hm, Nat.le_trans h.l7 hm, Nat.le_trans h.l8 hm⟩
theorem cnt_not : ¬ (cntC r3 r4 r6 r7 r8 < 0) := by unfold cntC; omega
theorem CV.mark (h : CV lo hi G m0 m1 m2 m5 v3 v4 v6 v7 v8 r3 r4 r6 r7 r8 X) (hf : Few5 10000000 r3 r4 r6 r7 r8) :
    Calls Try.prog 11 #[.agg #[.int .i64 m0, .int .i64 m1, .int .i64 m2, v3, v4, .int .i64 m5, v6, v7, v8], .int .i64 1] X fun e Y => e = .returned (.int .i64 (cntC r3 r4 r6 r7 r8)) ∧ CV lo hi G m0 m1 m2 m5 v3 v4 v6 v7 v8 (layStringS.mark (1) r3).1 (layPendingS.mark (1 + 1 * (r3.length : Int)) r4).1 (layEarlyS.mark (1 + 1 * (r3.length : Int) + 4 * (r4.length : Int)) r6).1 (layIntS.mark (1 + 1 * (r3.length : Int) + 4 * (r4.length : Int) + 2 * (r6.length : Int)) r7).1 (layStringS.mark (1 + 1 * (r3.length : Int) + 4 * (r4.length : Int) + 2 * (r6.length : Int) + 1 * (r7.length : Int)) r8).1 Y ∧ Rng lo hi X Y := by
  obtain ⟨f3, f4, f6, f7, f8, h1, h2⟩ := h.co
  refine (markChanT_any m0 m1 m2 v3 r3 v4 r4 m5 v6 r6 v7 r7 v8 r8 lo f3 f4 f6 f7 f8 hf.l3 hf.l4 hf.l6 hf.l7 hf.l8 1 (by omega) (by omega) X h1.nodup h1.q h1.s h1.e h1.o h1.x).mono ?_
  rintro e Y ⟨rfl, ⟨o3, o4, o6, o7, o8⟩, hc⟩
  have hr : Rng lo hi X Y := hc.rng (fun g hg => ⟨(h1.low g hg).1, h2 g hg⟩)
  exact ⟨rfl, ⟨h.var.rng hr (.inr h.gh), ⟨f3, f4, f6, f7, f8, ⟨o3, o4, o6, o7, o8, h1.ap⟩, h2⟩, h.gh⟩, hr⟩
theorem CV.held (h : CV lo hi G m0 m1 m2 m5 v3 v4 v6 v7 v8 (layStringS.mark (1) r3).1 (layPendingS.mark (1 + 1 * (r3.length : Int)) r4).1 (layEarlyS.mark (1 + 1 * (r3.length : Int) + 4 * (r4.length : Int)) r6).1 (layIntS.mark (1 + 1 * (r3.length : Int) + 4 * (r4.length : Int) + 2 * (r6.length : Int)) r7).1 (layStringS.mark (1 + 1 * (r3.length : Int) + 4 * (r4.length : Int) + 2 * (r6.length : Int) + 1 * (r7.length : Int)) r8).1 X) (hf : Few5 10000000 r3 r4 r6 r7 r8) :
    Calls Try.prog 12 #[.agg #[.int .i64 m0, .int .i64 m1, .int .i64 m2, v3, v4, .int .i64 m5, v6, v7, v8], .int .i64 1] X fun e Y => e = .returned (.int .i64 (cntC r3 r4 r6 r7 r8)) ∧ Below X.heap.size X Y := by
  obtain ⟨f3, f4, f6, f7, f8, h1, h2⟩ := h.co
  exact heldChan_any m0 m1 m2 v3 r3 v4 r4 m5 v6 r6 v7 r7 v8 r8 hf.l3 hf.l4 hf.l6 hf.l7 hf.l8 1 (by omega) (by omega) X (layStringT.read h1.q) (layPendingS.read h1.s) (layEarlyT.read h1.e) (layIntS.read h1.o) (layStringT.read h1.x)
/-- A channel that can be read. -/
structure ChanRd (v3 v4 v6 v7 v8 : Value) (r3 : List ByteArray) (r4 : List PendingD) (r6 : List EarlyD) (r7 : List Int) (r8 : List ByteArray) (X : World) : Prop where
  h3 : layStringS.rd X [v3] r3
  h4 : layPendingS.rd X [v4] r4
  h6 : layEarlyS.rd X [v6] r6
  h7 : layIntS.rd X [v7] r7
  h8 : layStringS.rd X [v8] r8
theorem ChanRd.next (h : ChanRd v3 v4 v6 v7 v8 r3 r4 r6 r7 r8 X) (hb : Below X.heap.size X Y) : ChanRd v3 v4 v6 v7 v8 r3 r4 r6 r7 r8 Y := ⟨layStringS.below h.h3 hb, layPendingS.below h.h4 hb, layEarlyS.below h.h6 hb, layIntS.below h.h7 hb, layStringS.below h.h8 hb⟩
theorem COT.rd {f3 f4 f6 f7 f8 : List Nat} (h : COT lo v3 v4 v6 v7 v8 f3 f4 f6 f7 f8 r3 r4 r6 r7 r8 X) : ChanRd v3 v4 v6 v7 v8 r3 r4 r6 r7 r8 X := ⟨layStringT.read h.q, layPendingS.read h.s, layEarlyT.read h.e, layIntS.read h.o, layStringT.read h.x⟩
theorem CV.rd (h : CV lo hi G m0 m1 m2 m5 v3 v4 v6 v7 v8 r3 r4 r6 r7 r8 X) : ChanRd v3 v4 v6 v7 v8 r3 r4 r6 r7 r8 X := by
  obtain ⟨f3, f4, f6, f7, f8, h1, h2⟩ := h.co
  exact h1.rd
theorem chan_eq {u3 u4 u6 u7 u8 : Value} (h : ChanRd v3 v4 v6 v7 v8 r3 r4 r6 r7 r8 X) (k : ChanRd u3 u4 u6 u7 u8 r3 r4 r6 r7 r8 X) (hf : Few5 10000000 r3 r4 r6 r7 r8) :
    Calls Try.prog 10 #[.agg #[.int .i64 m0, .int .i64 m1, .int .i64 m2, v3, v4, .int .i64 m5, v6, v7, v8], .agg #[.int .i64 m0, .int .i64 m1, .int .i64 m2, u3, u4, .int .i64 m5, u6, u7, u8]] X fun e Y => e = .returned (.bool true) ∧ Below X.heap.size X Y :=
  eqChan_same m0 m1 m2 v3 u3 r3 v4 u4 r4 m5 v6 u6 r6 v7 u7 r7 v8 u8 r8 X h.h3 k.h3 (by have := hf.l3; omega) h.h4 k.h4 (by have := hf.l4; omega) h.h6 k.h6 (by have := hf.l6; omega) h.h7 k.h7 (by have := hf.l7; omega) h.h8 k.h8 (by have := hf.l8; omega)
theorem chan_to (h : ChanRd v3 v4 v6 v7 v8 r3 r4 r6 r7 r8 X) (hf : Few5 1048576 r3 r4 r6 r7 r8) :
    Calls Try.prog 15 #[.agg #[.int .i64 m0, .int .i64 m1, .int .i64 m2, v3, v4, .int .i64 m5, v6, v7, v8]] X fun e Y => ∃ v, e = .returned v ∧ ChanVal X m0 m1 m2 m5 r3 r4 r6 r7 r8 v Y := by
  refine (toChan_any m0 m1 m2 v3 r3 v4 r4 m5 v6 r6 v7 r7 v8 r8 X h.h3 hf.l3 h.h4 hf.l4 h.h6 hf.l6 h.h7 hf.l7 h.h8 hf.l8).mono ?_
  rintro e Y ⟨cs, fp, rfl, hd, hown, hb⟩
  obtain ⟨u3, u4, u6, u7, u8, f3, f4, f6, f7, f8, rfl, rfl, o3, o4, o6, o7, o8⟩ := layChan_own.1 hown
  refine ⟨_, rfl, COT.val (f3 := f3) (f4 := f4) (f6 := f6) (f7 := f7) (f8 := f8) ⟨.inl o3, o4, .inl o6, o7, .inl o8, fun g hg hg2 => ?_⟩ hb⟩
  rw [List.nodup_append] at hd
  exact hd.2.2 g hg g (by simp [hg2]) rfl
end
theorem CO.val {X Y : World} {m0 m1 m2 m5 : Int} {r3 : List ByteArray} {r4 : List PendingD} {r6 : List EarlyD} {r7 : List Int} {r8 : List ByteArray} {v3 v4 v6 v7 v8 : Value} {f3 f4 f6 f7 f8 : List Nat} (h : CO X.heap.size v3 v4 v6 v7 v8 f3 f4 f6 f7 f8 r3 r4 r6 r7 r8 Y) (hb : Below X.heap.size X Y) : ChanVal X m0 m1 m2 m5 r3 r4 r6 r7 r8 (.agg #[.int .i64 m0, .int .i64 m1, .int .i64 m2, v3, v4, .int .i64 m5, v6, v7, v8]) Y := h.t.val hb
theorem fits_few {r3 : List ByteArray} {r4 : List PendingD} {r6 : List EarlyD} {r7 : List Int} {r8 : List ByteArray} (h : FitsChan r3 r4 r6 r7 r8) : Few5 1048576 r3 r4 r6 r7 r8 := ⟨h.1.1, h.2.1.1, h.2.2.1.1, h.2.2.2.1, h.2.2.2.2.1⟩

end Go.Proofs.Ythljmjbmmgligar

/-
  The program's copy of a greeter, its Transcript, and a Role in one byte.
  The library's contracts laid at this translation, in plain words: each is one application.
  What the library's Clone gives, of texts of whatever use here.
  The given test of a range, by what it answers.
  The given powers modulo the prime, by what they answer.
-/
import Derived.Test.YtkjjdoadjhjmbatJ05
import Derived.Test.YtkjjdoadjhjmbatJ10
import Derived.Shelf.LaysM
import Derived.Shelf.Strconv.Clone
import Derived.Test.YtkjjdoadjhjmbatProg
import Derived.Test.YtkjjdoadjhjmbatRows
import Derived.Test.YtkjjdoadjhjmbatJ03
namespace Go.Proofs.Ytkjjdoadjhjmbat
open Go.RowKit

/-- What the library's Clone gives. -/
def CloneG : Prop := ∀ (s : ByteArray) (w : World), s.size ≤ 100000000 → Calls Try.prog 43 #[.string s] w fun e w' => e = .returned (.string s) ∧ Below w.heap.size w w'
theorem ret_t {a b : ByteArray} (h : a = b) : Ending.returned (.string b) = .returned (.string a) := by rw [h]

set_option maxRecDepth 100000 in
set_option maxHeartbeats 800000 in
theorem implTranscript_any (HG : CloneG) (x0 x1 x2 x3 x4 : Int) (x5 x6 : ByteArray) (h5 : x5.size ≤ 10000000) (h6 : x6.size ≤ 10000000) (w : World) :
    Calls Try.prog 19 #[.agg #[.int .i64 x0, .int .i64 x1, .int .i64 x2, .int .i64 x3, .int .i64 x4, .string x5, .string x6]] w fun e w' => e = .returned (.string (transB x0 x5 x6)) ∧ Below w.heap.size w w' := by
  have A0 := Lib.hid (VarA.new w GreeterT #[.int .i64 x0, .int .i64 x1, .int .i64 x2, .int .i64 x3, .int .i64 x4, .string x5, .string x6])
  have B0 := Lib.hid ((Below.refl w.heap.size w).alloc (Nat.le_refl _) (.cells #[.int .i64 x0, .int .i64 x1, .int .i64 x2, .int .i64 x3, .int .i64 x4, .string x5, .string x6] GreeterT))
  have s1 : ¬ (9223372036854775807 < x5.size + x6.size) := by omega
  have s2 : ¬ (9223372036854775807 < x6.size + x5.size) := by omega
  obtain ⟨t, HT⟩ : ∃ t, Hid (transB x0 x5 x6 = t) := ⟨_, Lib.hid rfl⟩
  rw [HT.out]
  have zt : t.size ≤ 100000000 := by rw [← HT.out, trans_size]; omega
  go_enter Try.func19, Try.ntmps19
  go_upto_region 1 with fail
  generalize w.alloc (.cells #[.int .i64 x0, .int .i64 x1, .int .i64 x2, .int .i64 x3, .int .i64 x4, .string x5, .string x6] GreeterT) = Y0 at *
  have c0 : Y0.cell? ⟨w.heap.size, 0, none⟩ = some (.int .i64 x0) := A0.out.cell 0
  have c5 : Y0.cell? ⟨w.heap.size, 5, none⟩ = some (.string x5) := A0.out.cell 5
  have c6 : Y0.cell? ⟨w.heap.size, 6, none⟩ = some (.string x6) := A0.out.cell 6
  have KC := Lib.hid (HG t Y0 zt)
  clear zt h5 h6
  by_cases hr : x0 = 1
  · have k1 : (x0 == 1) = true := by rw [beq_iff_eq]; exact hr
    have HE : Hid (x5 ++ x6 = t) := Lib.hid (by rw [← HT.out]; unfold transB; rw [if_pos hr])
    clear hr
    go_wp2_with fail
    rw [HE.out]
    refine KC.out.mono ?_
    rintro e Y ⟨rfl, hb⟩
    go_wp2_with fail
    go_ret
    exact ⟨rfl, B0.out.trans (hb.mono B0.out.size)⟩
  · have k1 : (x0 == 1) = false := by rw [beq_eq_false_iff_ne]; exact hr
    have HE : Hid (x6 ++ x5 = t) := Lib.hid (by rw [← HT.out]; unfold transB; rw [if_neg hr])
    clear hr
    go_wp2_with fail
    rw [HE.out]
    refine KC.out.mono ?_
    rintro e Y ⟨rfl, hb⟩
    go_wp2_with fail
    go_ret
    exact ⟨rfl, B0.out.trans (hb.mono B0.out.size)⟩

/-- A greeter is handed back. -/
def GreeterEnd (x0 x1 x2 x3 x4 : Int) (x5 x6 : ByteArray) (X : World) (e : Ending) (Y : World) : Prop := e = .returned (.agg #[.int .i64 x0, .int .i64 x1, .int .i64 x2, .int .i64 x3, .int .i64 x4, .string x5, .string x6]) ∧ Below X.heap.size X Y

/-- The greeter and the result in their variables. -/
structure GR (w : World) (x0 x1 x2 x3 x4 : Int) (x5 x6 : ByteArray) (X : World) : Prop where
  g : VarA w.heap.size GreeterT #[.int .i64 x0, .int .i64 x1, .int .i64 x2, .int .i64 x3, .int .i64 x4, .string x5, .string x6] X
  r : VarA (w.heap.size + 1) GreeterT #[.int .i64 0, .int .i64 0, .int .i64 0, .int .i64 0, .int .i64 0, .string ⟨#[]⟩, .string ⟨#[]⟩] X
  below : Below w.heap.size w X
section
variable {w : World} {x0 x1 x2 x3 x4 : Int} {x5 x6 : ByteArray} {X Y : World}
theorem GR.new : GR w x0 x1 x2 x3 x4 x5 x6 ((w.alloc (.cells #[.int .i64 x0, .int .i64 x1, .int .i64 x2, .int .i64 x3, .int .i64 x4, .string x5, .string x6] GreeterT)).alloc (.cells #[.int .i64 0, .int .i64 0, .int .i64 0, .int .i64 0, .int .i64 0, .string ⟨#[]⟩, .string ⟨#[]⟩] GreeterT)) := by
  have h2 := VarA.new (w.alloc (.cells #[.int .i64 x0, .int .i64 x1, .int .i64 x2, .int .i64 x3, .int .i64 x4, .string x5, .string x6] GreeterT)) GreeterT #[.int .i64 0, .int .i64 0, .int .i64 0, .int .i64 0, .int .i64 0, .string ⟨#[]⟩, .string ⟨#[]⟩]
  rw [show (w.alloc (.cells #[.int .i64 x0, .int .i64 x1, .int .i64 x2, .int .i64 x3, .int .i64 x4, .string x5, .string x6] GreeterT)).heap.size = w.heap.size + 1 by simp] at h2
  exact ⟨(VarA.new w GreeterT #[.int .i64 x0, .int .i64 x1, .int .i64 x2, .int .i64 x3, .int .i64 x4, .string x5, .string x6]).alloc _, h2, ((Below.refl w.heap.size w).alloc (Nat.le_refl _) _).alloc (by simp) _⟩
theorem GR.next (h : GR w x0 x1 x2 x3 x4 x5 x6 X) (hb : Below X.heap.size X Y) : GR w x0 x1 x2 x3 x4 x5 x6 Y := ⟨h.g.next hb, h.r.next hb, h.below.trans (hb.mono h.below.size)⟩
theorem GR.mine (h : GR w x0 x1 x2 x3 x4 x5 x6 X) (t : ByteArray) : GR w x0 x1 x2 x3 x4 t x6 (X.setCell ⟨w.heap.size, 5, none⟩ (.string t)) := ⟨h.g.set 5 _, h.r.off 5 _ (by omega), h.below.setCell (p := ⟨w.heap.size, 5, none⟩) (Nat.le_refl _) _⟩
theorem GR.yours (h : GR w x0 x1 x2 x3 x4 x5 x6 X) (t : ByteArray) : GR w x0 x1 x2 x3 x4 x5 t (X.setCell ⟨w.heap.size, 6, none⟩ (.string t)) := ⟨h.g.set 6 _, h.r.off 6 _ (by omega), h.below.setCell (p := ⟨w.heap.size, 6, none⟩) (Nat.le_refl _) _⟩
end
section
variable {X w : World} {G base : Nat} {T : TypeId} {q0 q1 q2 q3 q4 q5 q6 : Value}
theorem VarA.set7 (h : VarA G T #[q0, q1, q2, q3, q4, q5, q6] X) (u0 u1 u2 u3 u4 u5 u6 : Value) : VarA G T #[u0, u1, u2, u3, u4, u5, u6] (((((((X.setCell ⟨G, 0, none⟩ u0).setCell ⟨G, 1, none⟩ u1).setCell ⟨G, 2, none⟩ u2).setCell ⟨G, 3, none⟩ u3).setCell ⟨G, 4, none⟩ u4).setCell ⟨G, 5, none⟩ u5).setCell ⟨G, 6, none⟩ u6) := by
  have h0 : VarA G T #[u0, q1, q2, q3, q4, q5, q6] (X.setCell ⟨G, 0, none⟩ u0) := h.set 0 u0
  have h1 : VarA G T #[u0, u1, q2, q3, q4, q5, q6] ((X.setCell ⟨G, 0, none⟩ u0).setCell ⟨G, 1, none⟩ u1) := h0.set 1 u1
  have h2 : VarA G T #[u0, u1, u2, q3, q4, q5, q6] (((X.setCell ⟨G, 0, none⟩ u0).setCell ⟨G, 1, none⟩ u1).setCell ⟨G, 2, none⟩ u2) := h1.set 2 u2
  have h3 : VarA G T #[u0, u1, u2, u3, q4, q5, q6] ((((X.setCell ⟨G, 0, none⟩ u0).setCell ⟨G, 1, none⟩ u1).setCell ⟨G, 2, none⟩ u2).setCell ⟨G, 3, none⟩ u3) := h2.set 3 u3
  have h4 : VarA G T #[u0, u1, u2, u3, u4, q5, q6] (((((X.setCell ⟨G, 0, none⟩ u0).setCell ⟨G, 1, none⟩ u1).setCell ⟨G, 2, none⟩ u2).setCell ⟨G, 3, none⟩ u3).setCell ⟨G, 4, none⟩ u4) := h3.set 4 u4
  have h5 : VarA G T #[u0, u1, u2, u3, u4, u5, q6] ((((((X.setCell ⟨G, 0, none⟩ u0).setCell ⟨G, 1, none⟩ u1).setCell ⟨G, 2, none⟩ u2).setCell ⟨G, 3, none⟩ u3).setCell ⟨G, 4, none⟩ u4).setCell ⟨G, 5, none⟩ u5) := h4.set 5 u5
  exact h5.set 6 u6
theorem below_set7 (h : Below base w X) (hG : base ≤ G) (u0 u1 u2 u3 u4 u5 u6 : Value) : Below base w (((((((X.setCell ⟨G, 0, none⟩ u0).setCell ⟨G, 1, none⟩ u1).setCell ⟨G, 2, none⟩ u2).setCell ⟨G, 3, none⟩ u3).setCell ⟨G, 4, none⟩ u4).setCell ⟨G, 5, none⟩ u5).setCell ⟨G, 6, none⟩ u6) :=
  ((((((h.setCell (p := ⟨G, 0, none⟩) hG _).setCell (p := ⟨G, 1, none⟩) hG _).setCell (p := ⟨G, 2, none⟩) hG _).setCell (p := ⟨G, 3, none⟩) hG _).setCell (p := ⟨G, 4, none⟩) hG _).setCell (p := ⟨G, 5, none⟩) hG _).setCell (p := ⟨G, 6, none⟩) hG _
end

set_option maxRecDepth 100000 in
set_option maxHeartbeats 1600000 in
theorem copyOfGreeter_any (HG : CloneG) (x0 x1 x2 x3 x4 : Int) (x5 x6 : ByteArray) (h5 : x5.size ≤ 10000000) (h6 : x6.size ≤ 10000000) (w : World) :
    Calls Try.prog 38 #[.agg #[.int .i64 x0, .int .i64 x1, .int .i64 x2, .int .i64 x3, .int .i64 x4, .string x5, .string x6]] w (GreeterEnd x0 x1 x2 x3 x4 x5 x6 w) := by
  obtain ⟨Q, HQ⟩ : ∃ Q : Ending → World → Prop, Hid (Q = GreeterEnd x0 x1 x2 x3 x4 x5 x6 w) := ⟨_, Lib.hid rfl⟩
  rw [← HQ.out]
  have H0 := Lib.hid (GR.new (w := w) (x0 := x0) (x1 := x1) (x2 := x2) (x3 := x3) (x4 := x4) (x5 := x5) (x6 := x6))
  go_enter Try.func38, Try.ntmps38
  go_upto_region 1 with fail
  generalize (w.alloc (.cells #[.int .i64 x0, .int .i64 x1, .int .i64 x2, .int .i64 x3, .int .i64 x4, .string x5, .string x6] GreeterT)).alloc (.cells #[.int .i64 0, .int .i64 0, .int .i64 0, .int .i64 0, .int .i64 0, .string ⟨#[]⟩, .string ⟨#[]⟩] GreeterT) = Y0 at *
  have c5 : Y0.cell? ⟨w.heap.size, 5, none⟩ = some (.string x5) := H0.out.g.cell 5
  have K1 := Lib.hid (HG x5 Y0 (by omega))
  go_wp2_with fail
  refine K1.out.mono ?_
  rintro e Y1 ⟨rfl, hb⟩
  have H1 := Lib.hid (H0.out.next hb)
  clear hb K1 c5 H0
  have d5 : Y1.cell? ⟨w.heap.size, 5, none⟩ = some (.string x5) := H1.out.g.cell 5
  have g5 := H1.out.g.free 5
  go_upto_region 2 with fail
  have H2 := Lib.hid (H1.out.mine x5)
  clear H1 d5 g5
  generalize Y1.setCell ⟨w.heap.size, 5, none⟩ (.string x5) = Y2 at *
  have c6 : Y2.cell? ⟨w.heap.size, 6, none⟩ = some (.string x6) := H2.out.g.cell 6
  have K2 := Lib.hid (HG x6 Y2 (by omega))
  go_wp2_with fail
  refine K2.out.mono ?_
  rintro e Y3 ⟨rfl, hb⟩
  have H3 := Lib.hid (H2.out.next hb)
  clear hb K2 c6 H2
  have d6 : Y3.cell? ⟨w.heap.size, 6, none⟩ = some (.string x6) := H3.out.g.cell 6
  have g6 := H3.out.g.free 6
  go_upto_region 3 with fail
  have H4 := Lib.hid (H3.out.yours x6)
  clear H3 d6 g6
  generalize Y3.setCell ⟨w.heap.size, 6, none⟩ (.string x6) = V2 at *
  have e0 : V2.cell? ⟨w.heap.size, 0, none⟩ = some (.int .i64 x0) := H4.out.g.cell 0
  have e1 : V2.cell? ⟨w.heap.size, 1, none⟩ = some (.int .i64 x1) := H4.out.g.cell 1
  have e2 : V2.cell? ⟨w.heap.size, 2, none⟩ = some (.int .i64 x2) := H4.out.g.cell 2
  have e3 : V2.cell? ⟨w.heap.size, 3, none⟩ = some (.int .i64 x3) := H4.out.g.cell 3
  have e4 : V2.cell? ⟨w.heap.size, 4, none⟩ = some (.int .i64 x4) := H4.out.g.cell 4
  have e5 : V2.cell? ⟨w.heap.size, 5, none⟩ = some (.string x5) := H4.out.g.cell 5
  have e6 : V2.cell? ⟨w.heap.size, 6, none⟩ = some (.string x6) := H4.out.g.cell 6
  have d0 : V2.cell? ⟨w.heap.size + 1, 0, none⟩ = some (.int .i64 0) := H4.out.r.cell 0
  have f0 := H4.out.r.free 0
  have d1 : V2.cell? ⟨w.heap.size + 1, 1, none⟩ = some (.int .i64 0) := H4.out.r.cell 1
  have f1 := H4.out.r.free 1
  have d2 : V2.cell? ⟨w.heap.size + 1, 2, none⟩ = some (.int .i64 0) := H4.out.r.cell 2
  have f2 := H4.out.r.free 2
  have d3 : V2.cell? ⟨w.heap.size + 1, 3, none⟩ = some (.int .i64 0) := H4.out.r.cell 3
  have f3 := H4.out.r.free 3
  have d4 : V2.cell? ⟨w.heap.size + 1, 4, none⟩ = some (.int .i64 0) := H4.out.r.cell 4
  have f4 := H4.out.r.free 4
  have d5 : V2.cell? ⟨w.heap.size + 1, 5, none⟩ = some (.string ⟨#[]⟩) := H4.out.r.cell 5
  have f5 := H4.out.r.free 5
  have d6 : V2.cell? ⟨w.heap.size + 1, 6, none⟩ = some (.string ⟨#[]⟩) := H4.out.r.cell 6
  have f6 := H4.out.r.free 6
  have R9 := H4.out.r.set7 (.int .i64 x0) (.int .i64 x1) (.int .i64 x2) (.int .i64 x3) (.int .i64 x4) (.string x5) (.string x6)
  have BZ := below_set7 H4.out.below (Nat.le_succ _) (.int .i64 x0) (.int .i64 x1) (.int .i64 x2) (.int .i64 x3) (.int .i64 x4) (.string x5) (.string x6)
  have j0 := R9.cell 0
  have j1 := R9.cell 1
  have j2 := R9.cell 2
  have j3 := R9.cell 3
  have j4 := R9.cell 4
  have j5 := R9.cell 5
  have j6 := R9.cell 6
  have E : Hid (Q (.returned (.agg #[.int .i64 x0, .int .i64 x1, .int .i64 x2, .int .i64 x3, .int .i64 x4, .string x5, .string x6])) _) := Lib.hid (by rw [HQ.out]; exact ⟨rfl, BZ⟩)
  clear R9 BZ
  go_wp2_with fail
  exact bodyPost_ret (v := .agg #[.int .i64 x0, .int .i64 x1, .int .i64 x2, .int .i64 x3, .int .i64 x4, .string x5, .string x6]) (by simp [results, Try.results38, go_sem, j0, j1, j2, j3, j4, j5, j6]) rfl E.out

set_option maxRecDepth 100000 in
set_option maxHeartbeats 800000 in
theorem roleByte_any (n : Int) (w : World) :
    Calls Try.prog 54 #[.int .i64 n] w fun e w' => e = .returned (.string (oneB n)) ∧ Below w.heap.size w w' := by
  have hb := byteZ_nat n
  have hr := run_string_one (P := Try.prog) w 74 9 5 Try.underlying74 Try.underlying5 Try.underlying9 (byteZ n)
  have HO : Hid (oneB n = ⟨#[byteZ n]⟩) := Lib.hid rfl
  generalize byteZ n = b at hb hr HO
  have hb2 := b.toNat_lt
  have h4 : IntKind.u8.wrap n = (b.toNat : Int) := by rw [IntKind.wrap_u8]; omega
  clear hb
  go_enter Try.func54, Try.ntmps54
  go_wp2_with fail
  go_ret
  exact ⟨ret_t HO.out, (Below.refl _ _).alloc (Nat.le_refl _) _⟩

end Go.Proofs.Ytkjjdoadjhjmbat
namespace Go.Proofs
open Go.Shelf
def Try.laysM316_ren : Go.Shelf.Ren := ⟨fun | 316 => 58 | n => n, fun | 9 => 9 | 3 => 3 | 4 => 4 | 37 => 74 | 0 => 0 | 127 => 87 | 5 => 5 | n => n, fun | n => n⟩
theorem Try.laysM316 : Go.Proofs.LaysM.n316 Try.prog Try.laysM316_ren := {
  mixed := by kernel_rfl
  f316 := Try.func58.trans (congrArg some (by kernel_rfl))
  t0 := Try.underlying0
  a0 := Try.isAgg0
  z0 := Try.sizeOf0
  v0 := Try.zeroValue0
  t3 := Try.underlying3
  a3 := Try.isAgg3
  z3 := Try.sizeOf3
  v3 := Try.zeroValue3
  t4 := Try.underlying4
  a4 := Try.isAgg4
  z4 := Try.sizeOf4
  v4 := Try.zeroValue4
  t9 := Try.underlying9
  a9 := Try.isAgg9
  z9 := Try.sizeOf9
  v9 := Try.zeroValue9
  t37 := Try.underlying74
  a37 := Try.isAgg74
  z37 := Try.sizeOf74
  v37 := Try.zeroValue74
  t127 := Try.underlying87
  a127 := Try.isAgg87
  z127 := Try.sizeOf87
  v127 := Try.zeroValue87
  t5 := Try.underlying5
  a5 := Try.isAgg5
  z5 := Try.sizeOf5
  v5 := Try.zeroValue5
  i0 := by kernel_rfl
  i3 := by kernel_rfl
  i4 := by kernel_rfl
  i5 := by kernel_rfl
  i9 := by kernel_rfl
  i37 := by kernel_rfl
  i127 := by kernel_rfl }
open Go.RowKit in
theorem Try.stringslite_Clone (s : ByteArray) (w : World) (hlim : s.size ≤ 281474976710656) :
    Calls Try.prog 58 #[.string s] w fun e w' => e = .returned (.string s) ∧ Below w.heap.size w w' := Any.stringslite_Clone Try.laysM316 s w hlim
end Go.Proofs
namespace Go.Proofs.Ytkjjdoadjhjmbat
open Go.RowKit

theorem cloneG : CloneG := fun s w hs => by
  have H := Lib.hid (fun w => Try.stringslite_Clone s w (by omega))
  go_enter Try.func43, Try.ntmps43
  go_wp2_with fail
  refine (H.out _).mono ?_
  rintro e w1 ⟨rfl, hb1⟩
  go_wp2
  go_ret
  exact ⟨rfl, hb1⟩

end Go.Proofs.Ytkjjdoadjhjmbat
namespace Go.Proofs.Ytkjjdoadjhjmbat
open Go.RowKit

theorem inRange_yes (x a b : Int) (h0 : a ≤ x) (h1 : x ≤ b) (w : World) :
    Calls Try.prog 45 #[.int .i64 x, .int .i64 a, .int .i64 b] w fun e w' => e = .returned (.bool true) ∧ w' = w := by
  go_enter Try.func45, Try.ntmps45
  go_wp2
  go_ret
  exact ⟨rfl, rfl⟩

theorem inRange_no (x a b : Int) (h : x < a ∨ b < x) (w : World) :
    Calls Try.prog 45 #[.int .i64 x, .int .i64 a, .int .i64 b] w fun e w' => e = .returned (.bool false) ∧ w' = w := by
  by_cases hx : x < a
  · go_enter Try.func45, Try.ntmps45
    go_wp2
    go_ret
    exact ⟨rfl, rfl⟩
  · have h0 : a ≤ x := by omega
    have h1 : decide (x ≤ b) = false := decide_eq_false (by omega)
    clear h hx
    go_enter Try.func45, Try.ntmps45
    go_wp2
    go_ret
    exact ⟨rfl, rfl⟩

end Go.Proofs.Ytkjjdoadjhjmbat
namespace Go.Proofs.Ytkjjdoadjhjmbat
open Go.RowKit

/-- A product of two remainders, as the walk spells it. -/
theorem mul_mod (x y : Nat) (hx : x < prime) (hy : y < prime) : ∃ m : Nat, (x : Int) * (y : Int) = (m : Int) ∧ m < 9223372036854775807 ∧ Hid (m % 2147483579 = x * y % prime) :=
  ⟨x * y, by rw [Int.natCast_mul], prod_lt _ _ hx hy, rfl⟩

set_option maxRecDepth 100000 in
set_option maxHeartbeats 800000 in
theorem specPow_in (b : Int) (e : Nat) (he : e ≤ 2147483579) (w : World) :
    Calls Try.prog 53 #[.int .i64 b, .int .i64 e] w fun x w' => x = .returned (.int .i64 (powP (modP b) e : Nat)) ∧ w' = w := by
  have H1 := Lib.hid (inRange_yes (e : Int) 0 2147483579 (by omega) (by omega))
  have H2 := Lib.hid (specMod_any b)
  go_enter Try.func53, Try.ntmps53
  go_wp2_with fail
  refine (H1.out _).mono ?_
  rintro e1 w1 ⟨rfl, rfl⟩
  go_wp2_with fail
  refine (H2.out _).mono ?_
  rintro e2 w2 ⟨rfl, rfl⟩
  go_wp2_with fail
  go_loopw [0, 1, 5] (fun sv ev ov wr => ∃ (x o s : Nat), x ≤ e ∧ o < prime ∧ s < prime ∧ o * powP s x % prime = powP (modP b) e ∧ ev = .int .i64 x ∧ ov = .int .i64 o ∧ sv = .int .i64 s ∧ wr = w2) (fun _ ev _ _ => (intOf ev).toNat)
  case atStart =>
    exact ⟨e, 1, modP b, Nat.le_refl _, by decide, modP_lt _, by rw [Nat.one_mul, Nat.mod_eq_of_lt (powP_lt _ _)], rfl, rfl, rfl, rfl⟩
  case round =>
    obtain ⟨x, o, s, hxe, ho, hs, heq, rfl, rfl, rfl, rfl⟩ := hrel
    have HE := Lib.hid heq
    clear heq
    by_cases hx : x = 0
    · subst hx
      have E0 : Hid (o = powP (modP b) e) := by
        show o = _
        have := HE.out
        rw [powP_zero, Nat.mul_one, Nat.mod_eq_of_lt ho] at this
        exact this
      go_wp2
      go_ret
      exact ⟨by rw [← E0.out]; rfl, rfl⟩
    · have hx0 : 0 < (x : Int) := by omega
      obtain ⟨m2, hm2, hl2, HM2⟩ := mul_mod s s hs hs
      by_cases hodd : x % 2 = 1
      · have hr : (x : Int) % 2 = 1 := by omega
        have hr2 : (x : Int).tmod 2 = 1 := by rw [Int.tmod_eq_emod_of_nonneg (by omega)]; omega
        obtain ⟨m1, hm1, hl1, HM1⟩ := mul_mod o s ho hs
        have HS := Lib.hid hs
        have HO := Lib.hid ho
        clear hs ho
        go_wp2
        go_roundw
        case rel =>
          refine ⟨x / 2, m1 % 2147483579, m2 % 2147483579, by omega, Nat.mod_lt _ (by decide), Nat.mod_lt _ (by decide), ?_, by go_num, by go_num, by go_num, trivial⟩
          rw [HM1.out, HM2.out, ← HE.out, ← pow_step_odd o s x hodd]
        case measure => simp [intOf]; omega
      · have hr : ¬ (x : Int) % 2 = 1 := by omega
        have hr2 : ¬ (x : Int).tmod 2 = 1 := by rw [Int.tmod_eq_emod_of_nonneg (by omega)]; omega
        have HS := Lib.hid hs
        have HO := Lib.hid ho
        clear hs ho
        go_wp2
        go_roundw
        case rel =>
          refine ⟨x / 2, o, m2 % 2147483579, by omega, HO.out, Nat.mod_lt _ (by decide), ?_, by go_num, rfl, by go_num, trivial⟩
          rw [HM2.out, ← HE.out, ← pow_step_even o s x (by omega)]
        case measure => simp [intOf]; omega

set_option maxHeartbeats 400000 in
theorem specPowP_any (b e : Int) (w : World) :
    Calls Try.prog 53 #[.int .i64 b, .int .i64 e] w fun x w' => x = .returned (.int .i64 (powI b e : Nat)) ∧ w' = w := by
  by_cases h : 0 ≤ e ∧ e ≤ 2147483579
  · obtain ⟨n, rfl⟩ := Int.eq_ofNat_of_zero_le h.1
    have E : Hid (powI b n = powP (modP b) n) := by show powI b n = _; unfold powI; rw [if_pos h]; rfl
    rw [E.out]
    exact specPow_in b n (by omega) w
  · have E : Hid (powI b e = 0) := by show powI b e = _; unfold powI; rw [if_neg h]
    rw [E.out]
    have H1 := Lib.hid (inRange_no e 0 2147483579 (by omega))
    clear h
    go_enter Try.func53, Try.ntmps53
    go_wp2_with fail
    refine (H1.out _).mono ?_
    rintro e1 w1 ⟨rfl, rfl⟩
    go_wp2
    go_ret
    exact ⟨rfl, rfl⟩

end Go.Proofs.Ytkjjdoadjhjmbat

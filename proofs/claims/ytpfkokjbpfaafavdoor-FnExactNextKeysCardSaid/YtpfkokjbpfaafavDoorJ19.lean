/-
  The program's HashMore.
  The program's HashEnd.
-/
import Derived.Test.YtpfkokjbpfaafavDoorJ14
import Derived.Test.YtpfkokjbpfaafavDoorJ18
namespace Go.Proofs.YtpfkokjbpfaafavDoor
open Go.RowKit

/-- The parameter's variable, and the result's, whatever it holds. -/
structure TT (w : World) (t : TypeId) (a b c : Value) (X : World) : Prop where
  v : VarT w.heap.size t a b c X
  r : ∃ x y z, VarT (w.heap.size + 1) t x y z X
  below : Below w.heap.size w X
theorem TT.next {w : World} {t : TypeId} {a b c : Value} {X Y : World} (h : TT w t a b c X) (hb : Below X.heap.size X Y) : TT w t a b c Y := by
  obtain ⟨x, y, z, hr⟩ := h.r
  exact ⟨h.v.next hb, ⟨x, y, z, hr.next hb⟩, h.below.trans (hb.mono h.below.size)⟩
theorem TT.drew {w : World} {t : TypeId} {a b c : Value} {X : World} (h : TT w t a b c X) : TT w t a b c X.drew := by
  obtain ⟨x, y, z, hr⟩ := h.r
  exact ⟨h.v.drew, ⟨x, y, z, hr.drew⟩, h.below.drew⟩
theorem TT.alloc {w : World} {t : TypeId} {a b c : Value} {X : World} (h : TT w t a b c X) (o : Obj) : TT w t a b c (X.alloc o) := h.next ((Below.refl _ _).alloc (Nat.le_refl _) o)
theorem TT.new (w : World) (t : TypeId) (a b c : Value) : TT w t a b c ((w.alloc (.cells #[a, b, c] t)).alloc (.cells #[.string ⟨#[]⟩, .string ⟨#[]⟩, .int .i64 0] t)) := by
  refine ⟨(VarT.new w t a b c).next ((Below.refl _ _).alloc (Nat.le_refl _) _), ⟨.string ⟨#[]⟩, .string ⟨#[]⟩, .int .i64 0, ?_⟩, ((Below.refl _ _).alloc (Nat.le_refl _) _).alloc (by simp) _⟩
  have h := VarT.new (w.alloc (.cells #[a, b, c] t)) t (.string ⟨#[]⟩) (.string ⟨#[]⟩) (.int .i64 0)
  have e : (w.alloc (.cells #[a, b, c] t)).heap.size = w.heap.size + 1 := by simp
  rw [e] at h
  exact h
/-- What the last store of a call wants, and what it leaves. -/
theorem TT.store {w : World} {t : TypeId} {a b c : Value} {X : World} (h : TT w t a b c X) (x y z : Value) :
    (∃ p, X.cell? ⟨w.heap.size + 1, 0, none⟩ = some p) ∧ (∃ p, X.cell? ⟨w.heap.size + 1, 1, none⟩ = some p) ∧ (∃ p, X.cell? ⟨w.heap.size + 1, 2, none⟩ = some p) ∧
    X.frozen? ⟨w.heap.size + 1, 0, none⟩ = false ∧ X.frozen? ⟨w.heap.size + 1, 1, none⟩ = false ∧ X.frozen? ⟨w.heap.size + 1, 2, none⟩ = false ∧
    VarT (w.heap.size + 1) t x y z (((X.setCell ⟨w.heap.size + 1, 0, none⟩ x).setCell ⟨w.heap.size + 1, 1, none⟩ y).setCell ⟨w.heap.size + 1, 2, none⟩ z) ∧
    TT w t a b c (((X.setCell ⟨w.heap.size + 1, 0, none⟩ x).setCell ⟨w.heap.size + 1, 1, none⟩ y).setCell ⟨w.heap.size + 1, 2, none⟩ z) := by
  obtain ⟨x0, y0, z0, hr⟩ := h.r
  have ho := Only.set3 X (w.heap.size + 1) x y z
  exact ⟨⟨_, hr.c0⟩, ⟨_, hr.c1⟩, ⟨_, hr.c2⟩, hr.free 0, hr.free 1, hr.free 2, hr.set3 x y z, ⟨h.v.only ho (by omega), ⟨x, y, z, hr.set3 x y z⟩, h.below.trans (ho.below (by omega) h.below.size)⟩⟩
theorem TT.three {w : World} {t : TypeId} {a b c : Value} {X : World} (h : TT w t a b c X) : X.cell? ⟨w.heap.size, 0, none⟩ = some a ∧ X.cell? ⟨w.heap.size, 1, none⟩ = some b ∧ X.cell? ⟨w.heap.size, 2, none⟩ = some c ∧ TT w t a b c X :=
  ⟨h.v.c0, h.v.c1, h.v.c2, h⟩

/-- A variable of eight words is none of those of three cells. -/
theorem VarT.other {r q : Nat} {t t8 : TypeId} {a b c : Value} {us : List Nat} {X : World} (h : VarT r t a b c X) (hA : ArrW q t8 us X) (hl : us.length = 8) : r ≠ q := by
  rintro rfl
  have e := h.row.symm.trans hA.row
  simp only [Option.some.injEq, Obj.cells.injEq] at e
  have e2 := congrArg Array.size e.1
  simp [wcells_length, hl] at e2
theorem TT.eight {w : World} {t t8 : TypeId} {a b c : Value} {q : Nat} {zs : List Nat} {X : World} (h : TT w t a b c X) (hA : ArrW q t8 zs X) (hl : zs.length = 8) (hq : w.heap.size ≤ q) (u0 u1 u2 u3 u4 u5 u6 u7 : Nat) :
    TT w t a b c ((((((((X.setCell ⟨q, 0, none⟩ (.int .u32 (u0 : Int))).setCell ⟨q, 1, none⟩ (.int .u32 (u1 : Int))).setCell ⟨q, 2, none⟩ (.int .u32 (u2 : Int))).setCell ⟨q, 3, none⟩ (.int .u32 (u3 : Int))).setCell ⟨q, 4, none⟩ (.int .u32 (u4 : Int))).setCell ⟨q, 5, none⟩ (.int .u32 (u5 : Int))).setCell ⟨q, 6, none⟩ (.int .u32 (u6 : Int))).setCell ⟨q, 7, none⟩ (.int .u32 (u7 : Int))) ∧ ArrW q t8 [u0, u1, u2, u3, u4, u5, u6, u7] ((((((((X.setCell ⟨q, 0, none⟩ (.int .u32 (u0 : Int))).setCell ⟨q, 1, none⟩ (.int .u32 (u1 : Int))).setCell ⟨q, 2, none⟩ (.int .u32 (u2 : Int))).setCell ⟨q, 3, none⟩ (.int .u32 (u3 : Int))).setCell ⟨q, 4, none⟩ (.int .u32 (u4 : Int))).setCell ⟨q, 5, none⟩ (.int .u32 (u5 : Int))).setCell ⟨q, 6, none⟩ (.int .u32 (u6 : Int))).setCell ⟨q, 7, none⟩ (.int .u32 (u7 : Int))) := by
  obtain ⟨x, y, z, hr⟩ := h.r
  have ho := Only.set8 X q (.int .u32 (u0 : Int)) (.int .u32 (u1 : Int)) (.int .u32 (u2 : Int)) (.int .u32 (u3 : Int)) (.int .u32 (u4 : Int)) (.int .u32 (u5 : Int)) (.int .u32 (u6 : Int)) (.int .u32 (u7 : Int))
  exact ⟨⟨h.v.only ho (h.v.other hA hl), ⟨x, y, z, hr.only ho (hr.other hA hl)⟩, h.below.trans (ho.below hq h.below.size)⟩, hA.set8 hl u0 u1 u2 u3 u4 u5 u6 u7⟩
theorem keep_TB {P : Program} {f : FuncId} {args : Array Value} {r : Ending} {w : World} {t : TypeId} {a b c : Value} (hc : ∀ X, Calls P f args X fun e X' => e = r ∧ Below X.heap.size X X') (X : World)
    (h : X.cell? ⟨w.heap.size, 0, none⟩ = some a ∧ X.cell? ⟨w.heap.size, 1, none⟩ = some b ∧ X.cell? ⟨w.heap.size, 2, none⟩ = some c ∧ TT w t a b c X) :
    Calls P f args X fun e Y => e = r ∧ (Y.cell? ⟨w.heap.size, 0, none⟩ = some a ∧ Y.cell? ⟨w.heap.size, 1, none⟩ = some b ∧ Y.cell? ⟨w.heap.size, 2, none⟩ = some c ∧ TT w t a b c Y) ∧ Below X.heap.size X Y :=
  (hc X).mono fun _ _ ⟨he, hb⟩ => ⟨he, (h.2.2.2.next hb).three, hb⟩
theorem keep_TT {P : Program} {f : FuncId} {args : Array Value} {r : Ending} {w : World} {t : TypeId} {a b c : Value} (hc : ∀ X, Calls P f args X fun e X' => e = r ∧ Below X.heap.size X X') (X : World)
    (h : X.cell? ⟨w.heap.size, 0, none⟩ = some a ∧ X.cell? ⟨w.heap.size, 1, none⟩ = some b ∧ X.cell? ⟨w.heap.size, 2, none⟩ = some c ∧ TT w t a b c X) :
    Calls P f args X fun e Y => e = r ∧ Y.cell? ⟨w.heap.size, 0, none⟩ = some a ∧ Y.cell? ⟨w.heap.size, 1, none⟩ = some b ∧ Y.cell? ⟨w.heap.size, 2, none⟩ = some c ∧ TT w t a b c Y :=
  (hc X).mono fun _ _ ⟨he, hb⟩ => ⟨he, (h.2.2.2.next hb).three⟩

end Go.Proofs.YtpfkokjbpfaafavDoor
namespace Go.Proofs.YtpfkokjbpfaafavDoor
open Go.RowKit

/-- The parameter's variable. -/
structure OV (w : World) (t : TypeId) (a b c : Value) (X : World) : Prop where
  v : VarT w.heap.size t a b c X
  below : Below w.heap.size w X
theorem OV.next {w : World} {t : TypeId} {a b c : Value} {X Y : World} (h : OV w t a b c X) (hb : Below X.heap.size X Y) : OV w t a b c Y := ⟨h.v.next hb, h.below.trans (hb.mono h.below.size)⟩
theorem OV.drew {w : World} {t : TypeId} {a b c : Value} {X : World} (h : OV w t a b c X) : OV w t a b c X.drew := ⟨h.v.drew, h.below.drew⟩
theorem OV.alloc {w : World} {t : TypeId} {a b c : Value} {X : World} (h : OV w t a b c X) (o : Obj) : OV w t a b c (X.alloc o) := h.next ((Below.refl _ _).alloc (Nat.le_refl _) o)
theorem OV.new (w : World) (t : TypeId) (a b c : Value) : OV w t a b c (w.alloc (.cells #[a, b, c] t)) := ⟨VarT.new w t a b c, (Below.refl _ _).alloc (Nat.le_refl _) _⟩
theorem OV.three {w : World} {t : TypeId} {a b c : Value} {X : World} (h : OV w t a b c X) : X.cell? ⟨w.heap.size, 0, none⟩ = some a ∧ X.cell? ⟨w.heap.size, 1, none⟩ = some b ∧ X.cell? ⟨w.heap.size, 2, none⟩ = some c ∧ OV w t a b c X := ⟨h.v.c0, h.v.c1, h.v.c2, h⟩
theorem keep_OV {P : Program} {f : FuncId} {args : Array Value} {r : Ending} {w : World} {t : TypeId} {a b c : Value} (hc : ∀ X, Calls P f args X fun e X' => e = r ∧ Below X.heap.size X X') (X : World) (h : X.cell? ⟨w.heap.size, 0, none⟩ = some a ∧ X.cell? ⟨w.heap.size, 1, none⟩ = some b ∧ X.cell? ⟨w.heap.size, 2, none⟩ = some c ∧ OV w t a b c X) :
    Calls P f args X fun e Y => e = r ∧ (Y.cell? ⟨w.heap.size, 0, none⟩ = some a ∧ Y.cell? ⟨w.heap.size, 1, none⟩ = some b ∧ Y.cell? ⟨w.heap.size, 2, none⟩ = some c ∧ OV w t a b c Y) ∧ Below X.heap.size X Y :=
  (hc X).mono fun _ _ ⟨he, hb⟩ => ⟨he, (h.2.2.2.next hb).three, hb⟩
/-- A new variable of eight words. -/
structure Fresh (w : World) (q : Nat) (t8 : TypeId) (X : World) : Prop where
  arr : ArrW q t8 zero8 X
  ge : w.heap.size ≤ q
theorem Fresh.next {w : World} {q : Nat} {t8 : TypeId} {X Y : World} (h : Fresh w q t8 X) (hb : Below X.heap.size X Y) : Fresh w q t8 Y := ⟨h.arr.next hb, h.ge⟩
theorem newB {w : World} {t : TypeId} {a b c : Value} {V Y : World} {cs : Array Value} {t8 : TypeId} (hT : OV w t a b c V) (hb : Below (V.alloc (.cells cs t8)).heap.size (V.alloc (.cells cs t8)) Y) : Y.heap[V.heap.size]? = some (.cells cs t8 (0, 0)) ∧ w.heap.size ≤ V.heap.size := by
  refine ⟨?_, hT.below.size⟩
  rw [hb.block V.heap.size (by simp)]
  exact heap_alloc_new V _
theorem newA {w : World} {t : TypeId} {a b c : Value} {V Y : World} {cs : Array Value} {t8 : TypeId} (hT : OV w t a b c V) (hb : Below (V.alloc (.cells cs t8)).drew.heap.size (V.alloc (.cells cs t8)).drew Y) : Y.heap[V.heap.size]? = some (.cells cs t8 (0, 0)) ∧ w.heap.size ≤ V.heap.size := newB hT ⟨hb.os, hb.tape, hb.output, hb.size, hb.block⟩
theorem newC {w : World} {t : TypeId} {a b c : Value} {V Y : World} {cs : Array Value} {t8 : TypeId} (hT : OV w t a b c V) (hb : Below (V.drew.alloc (.cells cs t8)).heap.size (V.drew.alloc (.cells cs t8)) Y) : Y.heap[V.heap.size]? = some (.cells cs t8 (0, 0)) ∧ w.heap.size ≤ V.heap.size := newB (V := V.drew) hT.drew hb
theorem OV.eight {w : World} {t t8 : TypeId} {a b c : Value} {q : Nat} {X : World} (h : OV w t a b c X) (hF : Fresh w q t8 X) (u0 u1 u2 u3 u4 u5 u6 u7 : Nat) :
    OV w t a b c ((((((((X.setCell ⟨q, 0, none⟩ (.int .u32 (u0 : Int))).setCell ⟨q, 1, none⟩ (.int .u32 (u1 : Int))).setCell ⟨q, 2, none⟩ (.int .u32 (u2 : Int))).setCell ⟨q, 3, none⟩ (.int .u32 (u3 : Int))).setCell ⟨q, 4, none⟩ (.int .u32 (u4 : Int))).setCell ⟨q, 5, none⟩ (.int .u32 (u5 : Int))).setCell ⟨q, 6, none⟩ (.int .u32 (u6 : Int))).setCell ⟨q, 7, none⟩ (.int .u32 (u7 : Int))) ∧ ArrW q t8 [u0, u1, u2, u3, u4, u5, u6, u7] ((((((((X.setCell ⟨q, 0, none⟩ (.int .u32 (u0 : Int))).setCell ⟨q, 1, none⟩ (.int .u32 (u1 : Int))).setCell ⟨q, 2, none⟩ (.int .u32 (u2 : Int))).setCell ⟨q, 3, none⟩ (.int .u32 (u3 : Int))).setCell ⟨q, 4, none⟩ (.int .u32 (u4 : Int))).setCell ⟨q, 5, none⟩ (.int .u32 (u5 : Int))).setCell ⟨q, 6, none⟩ (.int .u32 (u6 : Int))).setCell ⟨q, 7, none⟩ (.int .u32 (u7 : Int))) := by
  have ho := Only.set8 X q (.int .u32 (u0 : Int)) (.int .u32 (u1 : Int)) (.int .u32 (u2 : Int)) (.int .u32 (u3 : Int)) (.int .u32 (u4 : Int)) (.int .u32 (u5 : Int)) (.int .u32 (u6 : Int)) (.int .u32 (u7 : Int))
  exact ⟨⟨h.v.only ho (h.v.other hF.arr rfl), h.below.trans (ho.below hF.ge h.below.size)⟩, hF.arr.set8 rfl u0 u1 u2 u3 u4 u5 u6 u7⟩

theorem end_state (st rest : ByteArray) (N : Nat) (hr : rest.size = N % 64) : eatUp (wordsOf st.data.toList) (rest ++ ⟨(endL N).toArray⟩).data.toList ((rest ++ ⟨(endL N).toArray⟩).size / 64) = endState st rest N := by
  have e1 : (rest ++ ⟨(endL N).toArray⟩ : ByteArray).data.toList = tailOf rest.data.toList N := by
    rw [tailOf_end rest.data.toList N (by simpa using hr)]
    simp
  have e2 : (rest ++ ⟨(endL N).toArray⟩ : ByteArray).size = (tailOf rest.data.toList N).length := by
    rw [← e1]
    simp
    rfl
  unfold endState
  rw [e2, e1]
theorem endL_length (N : Nat) : (endL N).length ≤ 128 := by
  unfold endL zerosFor
  simp only [List.length_append, List.length_replicate, beUp_length, List.length_cons, List.length_nil]
  omega

end Go.Proofs.YtpfkokjbpfaafavDoor

/-
  Two who greet, as they lie in memory.
  The given ReadSig and CheckText, at every argument.
  The number of the other one's hello, by the given code.
-/
import Derived.Test.YtkjjdoadjhjmbauGreatDoorJ31
import Derived.Test.YtkjjdoadjhjmbauGreatDoorJ07
import Derived.Test.YtkjjdoadjhjmbauGreatDoorJ29
import Derived.Test.YtkjjdoadjhjmbauGreatDoorJ26
import Derived.Test.YtkjjdoadjhjmbauGreatDoorJ34
import Derived.Test.YtkjjdoadjhjmbauGreatDoorJ28
import Derived.Test.YtkjjdoadjhjmbauGreatDoorJ22
import Derived.Test.YtkjjdoadjhjmbauGreatDoorJ15
namespace Go.Proofs.YtkjjdoadjhjmbauGreatDoor
open Go.RowKit

abbrev GTalkT : TypeId := 66
theorem gvar_ne {X : World} {b c : Nat} {T U : TypeId} {xs ys : Array Value} (h : VarA b T xs X) (k : VarA c U ys X) (hT : T ≠ U) : b ≠ c := by
  rintro rfl
  have e := h.row.symm.trans k.row
  simp only [Option.some.injEq, Obj.cells.injEq] at e
  exact hT e.2.1
/-- Two who greet in memory: the talk, the row of both, the row of what was said, the row of how much was taken. -/
structure GM (lo T gl gs ga : Nat) (va vb : Value) (a b : GrD) (sa sb : List ByteArray) (ia ib : Nat) (X : World) : Prop where
  var : VarA T GTalkT #[.slice (some ⟨gl, 0, none⟩) 2 2, .slice (some ⟨gs, 0, none⟩) 2 2, .slice (some ⟨ga, 0, none⟩) 2 2] X
  list : VarA gl GreeterT #[.int .i64 a.1, .int .i64 a.2.1, .int .i64 a.2.2.1, .int .i64 a.2.2.2.1, .int .i64 a.2.2.2.2.1, .string a.2.2.2.2.2.1, .string a.2.2.2.2.2.2, .int .i64 b.1, .int .i64 b.2.1, .int .i64 b.2.2.1, .int .i64 b.2.2.2.1, .int .i64 b.2.2.2.2.1, .string b.2.2.2.2.2.1, .string b.2.2.2.2.2.2] X
  said : VarA gs 31 #[va, vb] X
  at_ : VarA ga 3 #[.int .i64 (ia : Nat), .int .i64 (ib : Nat)] X
  rowA : layStringS.own X lo (blk va) [va] sa
  rowB : layStringS.own X lo (blk vb) [vb] sb
  apart : ∀ g ∈ blk va, g ∉ blk vb
  low : lo ≤ T ∧ lo ≤ gl ∧ lo ≤ gs ∧ lo ≤ ga
section
variable {lo T gl gs ga : Nat} {va vb : Value} {a0 a1 a2 a3 a4 b0 b1 b2 b3 b4 : Int} {a5 a6 b5 b6 : ByteArray} {sa sb : List ByteArray} {ia ib : Nat} {X Y : World}
theorem GM.next (h : GM lo T gl gs ga va vb (a0, a1, a2, a3, a4, a5, a6) (b0, b1, b2, b3, b4, b5, b6) sa sb ia ib X) (hb : Below X.heap.size X Y) : GM lo T gl gs ga va vb (a0, a1, a2, a3, a4, a5, a6) (b0, b1, b2, b3, b4, b5, b6) sa sb ia ib Y := ⟨h.var.next hb, h.list.next hb, h.said.next hb, h.at_.next hb, layStringS.next h.rowA hb, layStringS.next h.rowB hb, h.apart, h.low⟩
theorem GM.n1 (h : GM lo T gl gs ga va vb (a0, a1, a2, a3, a4, a5, a6) (b0, b1, b2, b3, b4, b5, b6) sa sb ia ib X) : T ≠ gl := gvar_ne h.var h.list (by decide)
theorem GM.n2 (h : GM lo T gl gs ga va vb (a0, a1, a2, a3, a4, a5, a6) (b0, b1, b2, b3, b4, b5, b6) sa sb ia ib X) : T ≠ gs := gvar_ne h.var h.said (by decide)
theorem GM.n3 (h : GM lo T gl gs ga va vb (a0, a1, a2, a3, a4, a5, a6) (b0, b1, b2, b3, b4, b5, b6) sa sb ia ib X) : T ≠ ga := gvar_ne h.var h.at_ (by decide)
theorem GM.n4 (h : GM lo T gl gs ga va vb (a0, a1, a2, a3, a4, a5, a6) (b0, b1, b2, b3, b4, b5, b6) sa sb ia ib X) : gl ≠ gs := gvar_ne h.list h.said (by decide)
theorem GM.n5 (h : GM lo T gl gs ga va vb (a0, a1, a2, a3, a4, a5, a6) (b0, b1, b2, b3, b4, b5, b6) sa sb ia ib X) : gl ≠ ga := gvar_ne h.list h.at_ (by decide)
theorem GM.n6 (h : GM lo T gl gs ga va vb (a0, a1, a2, a3, a4, a5, a6) (b0, b1, b2, b3, b4, b5, b6) sa sb ia ib X) : gs ≠ ga := gvar_ne h.said h.at_ (by decide)
theorem GM.took0 (h : GM lo T gl gs ga va vb (a0, a1, a2, a3, a4, a5, a6) (b0, b1, b2, b3, b4, b5, b6) sa sb ia ib X) (k : Nat) : GM lo T gl gs ga va vb (a0, a1, a2, a3, a4, a5, a6) (b0, b1, b2, b3, b4, b5, b6) sa sb k ib (X.setCell ⟨ga, 0, none⟩ (.int .i64 (k : Nat))) := by
  have ho : Only ga X (X.setCell ⟨ga, 0, none⟩ (.int .i64 (k : Nat))) := Only.setCell 0 _
  exact ⟨h.var.only ho h.n3, h.list.only ho h.n5, h.said.only ho h.n6, h.at_.set 0 _, layStringS.chg h.rowA (only_chg ho) (fun g hg hm => row_off flatString h.rowA h.at_ (by decide) (List.mem_singleton.1 hm ▸ hg)), layStringS.chg h.rowB (only_chg ho) (fun g hg hm => row_off flatString h.rowB h.at_ (by decide) (List.mem_singleton.1 hm ▸ hg)), h.apart, h.low⟩
theorem GM.took1 (h : GM lo T gl gs ga va vb (a0, a1, a2, a3, a4, a5, a6) (b0, b1, b2, b3, b4, b5, b6) sa sb ia ib X) (k : Nat) : GM lo T gl gs ga va vb (a0, a1, a2, a3, a4, a5, a6) (b0, b1, b2, b3, b4, b5, b6) sa sb ia k (X.setCell ⟨ga, 1, none⟩ (.int .i64 (k : Nat))) := by
  have ho : Only ga X (X.setCell ⟨ga, 1, none⟩ (.int .i64 (k : Nat))) := Only.setCell 1 _
  exact ⟨h.var.only ho h.n3, h.list.only ho h.n5, h.said.only ho h.n6, h.at_.set 1 _, layStringS.chg h.rowA (only_chg ho) (fun g hg hm => row_off flatString h.rowA h.at_ (by decide) (List.mem_singleton.1 hm ▸ hg)), layStringS.chg h.rowB (only_chg ho) (fun g hg hm => row_off flatString h.rowB h.at_ (by decide) (List.mem_singleton.1 hm ▸ hg)), h.apart, h.low⟩
theorem GM.heardA {c0 c1 c2 c3 c4 : Int} {c5 c6 : ByteArray} (h : GM lo T gl gs ga va vb (a0, a1, a2, a3, a4, a5, a6) (b0, b1, b2, b3, b4, b5, b6) sa sb ia ib X) : GM lo T gl gs ga va vb (c0, c1, c2, c3, c4, c5, c6) (b0, b1, b2, b3, b4, b5, b6) sa sb ia ib (((((((X.setCell ⟨gl, 0, none⟩ (.int .i64 c0)).setCell ⟨gl, 1, none⟩ (.int .i64 c1)).setCell ⟨gl, 2, none⟩ (.int .i64 c2)).setCell ⟨gl, 3, none⟩ (.int .i64 c3)).setCell ⟨gl, 4, none⟩ (.int .i64 c4)).setCell ⟨gl, 5, none⟩ (.string c5)).setCell ⟨gl, 6, none⟩ (.string c6)) := by
  have l0 := h.list
  have l1 : VarA gl GreeterT #[.int .i64 c0, .int .i64 a1, .int .i64 a2, .int .i64 a3, .int .i64 a4, .string a5, .string a6, .int .i64 b0, .int .i64 b1, .int .i64 b2, .int .i64 b3, .int .i64 b4, .string b5, .string b6] (X.setCell ⟨gl, 0, none⟩ (.int .i64 c0)) := l0.set 0 _
  have l2 : VarA gl GreeterT #[.int .i64 c0, .int .i64 c1, .int .i64 a2, .int .i64 a3, .int .i64 a4, .string a5, .string a6, .int .i64 b0, .int .i64 b1, .int .i64 b2, .int .i64 b3, .int .i64 b4, .string b5, .string b6] ((X.setCell ⟨gl, 0, none⟩ (.int .i64 c0)).setCell ⟨gl, 1, none⟩ (.int .i64 c1)) := l1.set 1 _
  have l3 : VarA gl GreeterT #[.int .i64 c0, .int .i64 c1, .int .i64 c2, .int .i64 a3, .int .i64 a4, .string a5, .string a6, .int .i64 b0, .int .i64 b1, .int .i64 b2, .int .i64 b3, .int .i64 b4, .string b5, .string b6] (((X.setCell ⟨gl, 0, none⟩ (.int .i64 c0)).setCell ⟨gl, 1, none⟩ (.int .i64 c1)).setCell ⟨gl, 2, none⟩ (.int .i64 c2)) := l2.set 2 _
  have l4 : VarA gl GreeterT #[.int .i64 c0, .int .i64 c1, .int .i64 c2, .int .i64 c3, .int .i64 a4, .string a5, .string a6, .int .i64 b0, .int .i64 b1, .int .i64 b2, .int .i64 b3, .int .i64 b4, .string b5, .string b6] ((((X.setCell ⟨gl, 0, none⟩ (.int .i64 c0)).setCell ⟨gl, 1, none⟩ (.int .i64 c1)).setCell ⟨gl, 2, none⟩ (.int .i64 c2)).setCell ⟨gl, 3, none⟩ (.int .i64 c3)) := l3.set 3 _
  have l5 : VarA gl GreeterT #[.int .i64 c0, .int .i64 c1, .int .i64 c2, .int .i64 c3, .int .i64 c4, .string a5, .string a6, .int .i64 b0, .int .i64 b1, .int .i64 b2, .int .i64 b3, .int .i64 b4, .string b5, .string b6] (((((X.setCell ⟨gl, 0, none⟩ (.int .i64 c0)).setCell ⟨gl, 1, none⟩ (.int .i64 c1)).setCell ⟨gl, 2, none⟩ (.int .i64 c2)).setCell ⟨gl, 3, none⟩ (.int .i64 c3)).setCell ⟨gl, 4, none⟩ (.int .i64 c4)) := l4.set 4 _
  have l6 : VarA gl GreeterT #[.int .i64 c0, .int .i64 c1, .int .i64 c2, .int .i64 c3, .int .i64 c4, .string c5, .string a6, .int .i64 b0, .int .i64 b1, .int .i64 b2, .int .i64 b3, .int .i64 b4, .string b5, .string b6] ((((((X.setCell ⟨gl, 0, none⟩ (.int .i64 c0)).setCell ⟨gl, 1, none⟩ (.int .i64 c1)).setCell ⟨gl, 2, none⟩ (.int .i64 c2)).setCell ⟨gl, 3, none⟩ (.int .i64 c3)).setCell ⟨gl, 4, none⟩ (.int .i64 c4)).setCell ⟨gl, 5, none⟩ (.string c5)) := l5.set 5 _
  have l7 : VarA gl GreeterT #[.int .i64 c0, .int .i64 c1, .int .i64 c2, .int .i64 c3, .int .i64 c4, .string c5, .string c6, .int .i64 b0, .int .i64 b1, .int .i64 b2, .int .i64 b3, .int .i64 b4, .string b5, .string b6] (((((((X.setCell ⟨gl, 0, none⟩ (.int .i64 c0)).setCell ⟨gl, 1, none⟩ (.int .i64 c1)).setCell ⟨gl, 2, none⟩ (.int .i64 c2)).setCell ⟨gl, 3, none⟩ (.int .i64 c3)).setCell ⟨gl, 4, none⟩ (.int .i64 c4)).setCell ⟨gl, 5, none⟩ (.string c5)).setCell ⟨gl, 6, none⟩ (.string c6)) := l6.set 6 _
  have ho : Only gl X (((((((X.setCell ⟨gl, 0, none⟩ (.int .i64 c0)).setCell ⟨gl, 1, none⟩ (.int .i64 c1)).setCell ⟨gl, 2, none⟩ (.int .i64 c2)).setCell ⟨gl, 3, none⟩ (.int .i64 c3)).setCell ⟨gl, 4, none⟩ (.int .i64 c4)).setCell ⟨gl, 5, none⟩ (.string c5)).setCell ⟨gl, 6, none⟩ (.string c6)) := (((((((Only.setCell 0 (.int .i64 c0) : Only gl X _).trans (Only.setCell 1 (.int .i64 c1))).trans (Only.setCell 2 (.int .i64 c2))).trans (Only.setCell 3 (.int .i64 c3))).trans (Only.setCell 4 (.int .i64 c4))).trans (Only.setCell 5 (.string c5))).trans (Only.setCell 6 (.string c6)))
  exact ⟨h.var.only ho h.n1, l7, h.said.only ho (Ne.symm h.n4), h.at_.only ho (Ne.symm h.n5), layStringS.chg h.rowA (only_chg ho) (fun g hg hm => row_off flatString h.rowA h.list (by decide) (List.mem_singleton.1 hm ▸ hg)), layStringS.chg h.rowB (only_chg ho) (fun g hg hm => row_off flatString h.rowB h.list (by decide) (List.mem_singleton.1 hm ▸ hg)), h.apart, h.low⟩
theorem GM.heardB {c0 c1 c2 c3 c4 : Int} {c5 c6 : ByteArray} (h : GM lo T gl gs ga va vb (a0, a1, a2, a3, a4, a5, a6) (b0, b1, b2, b3, b4, b5, b6) sa sb ia ib X) : GM lo T gl gs ga va vb (a0, a1, a2, a3, a4, a5, a6) (c0, c1, c2, c3, c4, c5, c6) sa sb ia ib (((((((X.setCell ⟨gl, 7, none⟩ (.int .i64 c0)).setCell ⟨gl, 8, none⟩ (.int .i64 c1)).setCell ⟨gl, 9, none⟩ (.int .i64 c2)).setCell ⟨gl, 10, none⟩ (.int .i64 c3)).setCell ⟨gl, 11, none⟩ (.int .i64 c4)).setCell ⟨gl, 12, none⟩ (.string c5)).setCell ⟨gl, 13, none⟩ (.string c6)) := by
  have l0 := h.list
  have l1 : VarA gl GreeterT #[.int .i64 a0, .int .i64 a1, .int .i64 a2, .int .i64 a3, .int .i64 a4, .string a5, .string a6, .int .i64 c0, .int .i64 b1, .int .i64 b2, .int .i64 b3, .int .i64 b4, .string b5, .string b6] (X.setCell ⟨gl, 7, none⟩ (.int .i64 c0)) := l0.set 7 _
  have l2 : VarA gl GreeterT #[.int .i64 a0, .int .i64 a1, .int .i64 a2, .int .i64 a3, .int .i64 a4, .string a5, .string a6, .int .i64 c0, .int .i64 c1, .int .i64 b2, .int .i64 b3, .int .i64 b4, .string b5, .string b6] ((X.setCell ⟨gl, 7, none⟩ (.int .i64 c0)).setCell ⟨gl, 8, none⟩ (.int .i64 c1)) := l1.set 8 _
  have l3 : VarA gl GreeterT #[.int .i64 a0, .int .i64 a1, .int .i64 a2, .int .i64 a3, .int .i64 a4, .string a5, .string a6, .int .i64 c0, .int .i64 c1, .int .i64 c2, .int .i64 b3, .int .i64 b4, .string b5, .string b6] (((X.setCell ⟨gl, 7, none⟩ (.int .i64 c0)).setCell ⟨gl, 8, none⟩ (.int .i64 c1)).setCell ⟨gl, 9, none⟩ (.int .i64 c2)) := l2.set 9 _
  have l4 : VarA gl GreeterT #[.int .i64 a0, .int .i64 a1, .int .i64 a2, .int .i64 a3, .int .i64 a4, .string a5, .string a6, .int .i64 c0, .int .i64 c1, .int .i64 c2, .int .i64 c3, .int .i64 b4, .string b5, .string b6] ((((X.setCell ⟨gl, 7, none⟩ (.int .i64 c0)).setCell ⟨gl, 8, none⟩ (.int .i64 c1)).setCell ⟨gl, 9, none⟩ (.int .i64 c2)).setCell ⟨gl, 10, none⟩ (.int .i64 c3)) := l3.set 10 _
  have l5 : VarA gl GreeterT #[.int .i64 a0, .int .i64 a1, .int .i64 a2, .int .i64 a3, .int .i64 a4, .string a5, .string a6, .int .i64 c0, .int .i64 c1, .int .i64 c2, .int .i64 c3, .int .i64 c4, .string b5, .string b6] (((((X.setCell ⟨gl, 7, none⟩ (.int .i64 c0)).setCell ⟨gl, 8, none⟩ (.int .i64 c1)).setCell ⟨gl, 9, none⟩ (.int .i64 c2)).setCell ⟨gl, 10, none⟩ (.int .i64 c3)).setCell ⟨gl, 11, none⟩ (.int .i64 c4)) := l4.set 11 _
  have l6 : VarA gl GreeterT #[.int .i64 a0, .int .i64 a1, .int .i64 a2, .int .i64 a3, .int .i64 a4, .string a5, .string a6, .int .i64 c0, .int .i64 c1, .int .i64 c2, .int .i64 c3, .int .i64 c4, .string c5, .string b6] ((((((X.setCell ⟨gl, 7, none⟩ (.int .i64 c0)).setCell ⟨gl, 8, none⟩ (.int .i64 c1)).setCell ⟨gl, 9, none⟩ (.int .i64 c2)).setCell ⟨gl, 10, none⟩ (.int .i64 c3)).setCell ⟨gl, 11, none⟩ (.int .i64 c4)).setCell ⟨gl, 12, none⟩ (.string c5)) := l5.set 12 _
  have l7 : VarA gl GreeterT #[.int .i64 a0, .int .i64 a1, .int .i64 a2, .int .i64 a3, .int .i64 a4, .string a5, .string a6, .int .i64 c0, .int .i64 c1, .int .i64 c2, .int .i64 c3, .int .i64 c4, .string c5, .string c6] (((((((X.setCell ⟨gl, 7, none⟩ (.int .i64 c0)).setCell ⟨gl, 8, none⟩ (.int .i64 c1)).setCell ⟨gl, 9, none⟩ (.int .i64 c2)).setCell ⟨gl, 10, none⟩ (.int .i64 c3)).setCell ⟨gl, 11, none⟩ (.int .i64 c4)).setCell ⟨gl, 12, none⟩ (.string c5)).setCell ⟨gl, 13, none⟩ (.string c6)) := l6.set 13 _
  have ho : Only gl X (((((((X.setCell ⟨gl, 7, none⟩ (.int .i64 c0)).setCell ⟨gl, 8, none⟩ (.int .i64 c1)).setCell ⟨gl, 9, none⟩ (.int .i64 c2)).setCell ⟨gl, 10, none⟩ (.int .i64 c3)).setCell ⟨gl, 11, none⟩ (.int .i64 c4)).setCell ⟨gl, 12, none⟩ (.string c5)).setCell ⟨gl, 13, none⟩ (.string c6)) := (((((((Only.setCell 7 (.int .i64 c0) : Only gl X _).trans (Only.setCell 8 (.int .i64 c1))).trans (Only.setCell 9 (.int .i64 c2))).trans (Only.setCell 10 (.int .i64 c3))).trans (Only.setCell 11 (.int .i64 c4))).trans (Only.setCell 12 (.string c5))).trans (Only.setCell 13 (.string c6)))
  exact ⟨h.var.only ho h.n1, l7, h.said.only ho (Ne.symm h.n4), h.at_.only ho (Ne.symm h.n5), layStringS.chg h.rowA (only_chg ho) (fun g hg hm => row_off flatString h.rowA h.list (by decide) (List.mem_singleton.1 hm ▸ hg)), layStringS.chg h.rowB (only_chg ho) (fun g hg hm => row_off flatString h.rowB h.list (by decide) (List.mem_singleton.1 hm ▸ hg)), h.apart, h.low⟩
theorem GM.saidA {v1 : Value} {t : ByteArray} (h : GM lo T gl gs ga va vb (a0, a1, a2, a3, a4, a5, a6) (b0, b1, b2, b3, b4, b5, b6) sa sb ia ib X) (hown : layStringS.own Y lo (blk v1) [v1] (sa ++ [t])) (htl : blk v1 = blk va ∨ ∀ k ∈ blk v1, X.heap.size ≤ k) (hchg : Chg (blk va) X Y) : VarA gs 31 #[va, vb] Y ∧ VarA T GTalkT #[.slice (some ⟨gl, 0, none⟩) 2 2, .slice (some ⟨gs, 0, none⟩) 2 2, .slice (some ⟨ga, 0, none⟩) 2 2] Y ∧ GM lo T gl gs ga v1 vb (a0, a1, a2, a3, a4, a5, a6) (b0, b1, b2, b3, b4, b5, b6) (sa ++ [t]) sb ia ib (Y.setCell ⟨gs, 0, none⟩ v1) := by
  have s1 : VarA gs 31 #[va, vb] Y := ⟨(hchg.block gs h.said.lt (row_off flatString h.rowA h.said (by decide))).trans h.said.row⟩
  have v1' : VarA T GTalkT #[.slice (some ⟨gl, 0, none⟩) 2 2, .slice (some ⟨gs, 0, none⟩) 2 2, .slice (some ⟨ga, 0, none⟩) 2 2] Y := ⟨(hchg.block T h.var.lt (row_off flatString h.rowA h.var (by decide))).trans h.var.row⟩
  have l1 : VarA gl GreeterT #[.int .i64 a0, .int .i64 a1, .int .i64 a2, .int .i64 a3, .int .i64 a4, .string a5, .string a6, .int .i64 b0, .int .i64 b1, .int .i64 b2, .int .i64 b3, .int .i64 b4, .string b5, .string b6] Y := ⟨(hchg.block gl h.list.lt (row_off flatString h.rowA h.list (by decide))).trans h.list.row⟩
  have a1 : VarA ga 3 #[.int .i64 (ia : Nat), .int .i64 (ib : Nat)] Y := ⟨(hchg.block ga h.at_.lt (row_off flatString h.rowA h.at_ (by decide))).trans h.at_.row⟩
  have ro := layStringS.chg h.rowB hchg (fun g hg hg2 => h.apart g hg2 hg)
  have ho : Only gs Y (Y.setCell ⟨gs, 0, none⟩ v1) := Only.setCell 0 _
  refine ⟨s1, v1', v1'.only ho h.n2, l1.only ho h.n4, s1.set 0 _, a1.only ho (Ne.symm h.n6), layStringS.chg hown (only_chg ho) (fun g hg hm => row_off flatString hown s1 (by decide) (List.mem_singleton.1 hm ▸ hg)), layStringS.chg ro (only_chg ho) (fun g hg hm => row_off flatString ro s1 (by decide) (List.mem_singleton.1 hm ▸ hg)), fun g hg hg2 => ?_, h.low⟩
  rcases htl with h9 | h9
  · exact h.apart g (h9 ▸ hg) (hg2)
  · exact absurd (layStringS.blocks h.rowB g hg2).2 (Nat.not_lt.2 (h9 g hg))
theorem GM.saidB {v1 : Value} {t : ByteArray} (h : GM lo T gl gs ga va vb (a0, a1, a2, a3, a4, a5, a6) (b0, b1, b2, b3, b4, b5, b6) sa sb ia ib X) (hown : layStringS.own Y lo (blk v1) [v1] (sb ++ [t])) (htl : blk v1 = blk vb ∨ ∀ k ∈ blk v1, X.heap.size ≤ k) (hchg : Chg (blk vb) X Y) : VarA gs 31 #[va, vb] Y ∧ VarA T GTalkT #[.slice (some ⟨gl, 0, none⟩) 2 2, .slice (some ⟨gs, 0, none⟩) 2 2, .slice (some ⟨ga, 0, none⟩) 2 2] Y ∧ GM lo T gl gs ga va v1 (a0, a1, a2, a3, a4, a5, a6) (b0, b1, b2, b3, b4, b5, b6) sa (sb ++ [t]) ia ib (Y.setCell ⟨gs, 1, none⟩ v1) := by
  have s1 : VarA gs 31 #[va, vb] Y := ⟨(hchg.block gs h.said.lt (row_off flatString h.rowB h.said (by decide))).trans h.said.row⟩
  have v1' : VarA T GTalkT #[.slice (some ⟨gl, 0, none⟩) 2 2, .slice (some ⟨gs, 0, none⟩) 2 2, .slice (some ⟨ga, 0, none⟩) 2 2] Y := ⟨(hchg.block T h.var.lt (row_off flatString h.rowB h.var (by decide))).trans h.var.row⟩
  have l1 : VarA gl GreeterT #[.int .i64 a0, .int .i64 a1, .int .i64 a2, .int .i64 a3, .int .i64 a4, .string a5, .string a6, .int .i64 b0, .int .i64 b1, .int .i64 b2, .int .i64 b3, .int .i64 b4, .string b5, .string b6] Y := ⟨(hchg.block gl h.list.lt (row_off flatString h.rowB h.list (by decide))).trans h.list.row⟩
  have a1 : VarA ga 3 #[.int .i64 (ia : Nat), .int .i64 (ib : Nat)] Y := ⟨(hchg.block ga h.at_.lt (row_off flatString h.rowB h.at_ (by decide))).trans h.at_.row⟩
  have ro := layStringS.chg h.rowA hchg (h.apart)
  have ho : Only gs Y (Y.setCell ⟨gs, 1, none⟩ v1) := Only.setCell 1 _
  refine ⟨s1, v1', v1'.only ho h.n2, l1.only ho h.n4, s1.set 1 _, a1.only ho (Ne.symm h.n6), layStringS.chg ro (only_chg ho) (fun g hg hm => row_off flatString ro s1 (by decide) (List.mem_singleton.1 hm ▸ hg)), layStringS.chg hown (only_chg ho) (fun g hg hm => row_off flatString hown s1 (by decide) (List.mem_singleton.1 hm ▸ hg)), fun g hg hg2 => ?_, h.low⟩
  rcases htl with h9 | h9
  · exact h.apart g (hg) (h9 ▸ hg2)
  · exact absurd (layStringS.blocks h.rowA g hg).2 (Nat.not_lt.2 (h9 g hg2))
end

end Go.Proofs.YtkjjdoadjhjmbauGreatDoor
namespace Go.Proofs.YtkjjdoadjhjmbauGreatDoor
open Go.RowKit

theorem specReadSig_is (text : ByteArray) (E S : Nat) (b : Bool) (h : SigReadIs text E S b) (w : World) :
    Calls Tryz.prog 24 #[.string text] w fun e w' => e = .returned (.tuple #[.agg #[.int .i64 (E : Nat), .int .i64 (S : Nat)], .bool b]) ∧ Below w.heap.size w w' := by
  rcases h with ⟨rfl, hE, hS, rfl⟩ | ⟨rfl, rfl, rfl, hn⟩
  · have e1 : fourBack (numB E).data.toList = E := fourBack_four E (by omega)
    have e2 : fourBack (numB S).data.toList = S := fourBack_four S (by omega)
    exact specReadSig_eight (numB E ++ numB S) (numB E) (numB S) rfl (sig_left E S) (sig_right E S) _ (.inl ⟨by rw [e1]; exact hE, by rw [e2]; exact hS, by rw [e1, e2]⟩) w
  · by_cases hz : text.size = 8
    · refine specReadSig_eight text _ _ hz rfl rfl _ (.inr ⟨?_, rfl⟩) w
      by_cases h1 : fourBack (text.extract 0 4).data.toList < 1073741789
      · by_cases h2 : fourBack (text.extract 4 8).data.toList < 1073741789
        · refine absurd ?_ (hn _ _ h1 h2)
          rw [numB_back _ (by rw [ByteArray.size_extract]; omega), numB_back _ (by rw [ByteArray.size_extract]; omega)]
          exact (sig_halves text hz).symm
        · exact .inr (by omega)
      · exact .inl (by omega)
    · exact specReadSig_size text hz w
theorem specCheck_is (pin : Int) (m : ByteArray) (E S : Nat) (hE : E < 1073741789) (hS : S < 1073741789) (hm : m.size ≤ 300000000) (c : Bool) (hc : c = true ↔ inGroup pin = true ∧ E = chalP (backP pin.toNat E S) pin.toNat m) (w : World) :
    Calls Tryz.prog 25 #[.int .i64 pin, .string m, .agg #[.int .i64 (E : Nat), .int .i64 (S : Nat)]] w fun e w' => e = .returned (.bool c) ∧ Below w.heap.size w w' := by
  cases hg : inGroup pin with
  | false =>
    obtain rfl : c = false := by
      cases c with
      | false => rfl
      | true => rw [hg] at hc; exact absurd (hc.1 rfl).1 (by decide)
    exact specCheck_group pin m E S hg w
  | true =>
    have hr := inGroup_range pin hg
    obtain ⟨p, rfl⟩ : ∃ n : Nat, pin = (n : Int) := ⟨pin.toNat, by omega⟩
    rw [Int.toNat_natCast] at hc
    have e : c = ((E : Int) == (chalP (backP p E S) p m : Nat)) := by
      rw [Bool.eq_iff_iff, hc, beq_iff_eq]
      exact ⟨fun h => by rw [← h.2], fun h => ⟨hg, by exact_mod_cast h⟩⟩
    rw [e]
    exact specCheck_in p m E S hg hE hS hm w

end Go.Proofs.YtkjjdoadjhjmbauGreatDoor
namespace Go.Proofs.YtkjjdoadjhjmbauGreatDoor
open Go.RowKit

theorem wrap_three (x : Int) : oneB (IntKind.i64.wrap (3 - x)) = oneB (3 - x) := by
  have h : IntKind.i64.wrap (3 - x) % 256 = (3 - x) % 256 := by
    rw [IntKind.wrap_i64]
    omega
  unfold oneB byteZ
  rw [h]
theorem wrap_three_in (x : Int) : -9223372036854775808 ≤ IntKind.i64.wrap (3 - x) ∧ IntKind.i64.wrap (3 - x) ≤ 9223372036854775807 := by
  rw [IntKind.wrap_i64]
  omega
theorem texts_no {a b : ByteArray} (h : ¬ a = b) : (a.toList == b.toList) = false := by
  rw [beq_eq_false_iff_ne]
  intro e
  refine h ?_
  rw [ByteArray.toList_eq, ByteArray.toList_eq] at e
  exact ByteArray.ext (Array.toList_inj.1 e)
/-- A text of six bytes in its two parts. -/
theorem six_parts {s : ByteArray} (h : s.size = 6) : s = s.extract 0 2 ++ s.extract 2 6 := by
  have h1 := ByteArray.extract_eq_extract_append_extract (a := s) (i := 0) (k := 6) 2 (by omega) (by omega)
  rw [← h1, ← h, ByteArray.extract_zero_size]
theorem six_left (a r : ByteArray) (ha : a.size = 2) : (a ++ r).extract 0 2 = a := ByteArray.extract_append_eq_left ha.symm
theorem six_right (a r : ByteArray) (ha : a.size = 2) (hr : r.size = 4) : (a ++ r).extract 2 6 = r := ByteArray.extract_append_eq_right ha.symm (by omega)
set_option maxRecDepth 100000 in
set_option maxHeartbeats 3200000 in
theorem specOther_any (x0 x1 x2 x3 x4 : Int) (x5 x6 : ByteArray) (s : ByteArray) (n : Nat) (ok : Bool) (ho : OtherIs inGroup x0 s n ok) (w : World) :
    Calls Tryz.prog 22 #[.agg #[.int .i64 x0, .int .i64 x1, .int .i64 x2, .int .i64 x3, .int .i64 x4, .string x5, .string x6], .string s] w fun e w' => e = .returned (.tuple #[.int .i64 (n : Nat), .bool ok]) ∧ Below w.heap.size w w' := by
  have A0 := Lib.hid (VarA.new w GreeterT #[.int .i64 x0, .int .i64 x1, .int .i64 x2, .int .i64 x3, .int .i64 x4, .string x5, .string x6])
  have B0 := Lib.hid ((Below.refl w.heap.size w).alloc (Nat.le_refl _) (.cells #[.int .i64 x0, .int .i64 x1, .int .i64 x2, .int .i64 x3, .int .i64 x4, .string x5, .string x6] GreeterT))
  have HO := Lib.hid ho
  clear ho
  go_enter Tryz.func22, Tryz.ntmps22
  go_upto_region 1 with fail
  generalize w.alloc (.cells #[.int .i64 x0, .int .i64 x1, .int .i64 x2, .int .i64 x3, .int .i64 x4, .string x5, .string x6] GreeterT) = Y0 at *
  by_cases hz : s.size = 6
  rotate_left
  · have k1 : ((s.size : Int) != 6) = true := by rw [bne_iff_ne]; omega
    obtain ⟨rfl, rfl⟩ : n = 0 ∧ ok = false := by
      rcases HO.out with ⟨r, h1, h2, -⟩ | ⟨-, h2, h3⟩
      · refine absurd ?_ hz
        rw [h2, ByteArray.size_append, ByteArray.size_append, h1]
        rfl
      · exact ⟨h2, h3⟩
    clear hz
    have c0 : Y0.cell? ⟨w.heap.size, 0, none⟩ = some (.int .i64 x0) := A0.out.cell 0
    go_quiet (fail)
    go_wp2_with fail
    exact bodyPost_ret (v := .tuple #[.int .i64 ((0 : Nat)), .bool false]) (by simp [results, Tryz.results22, go_sem]) rfl ⟨rfl, below_drewN B0.out _⟩
  have k1 : ((s.size : Int) != 6) = false := by rw [hz]; rfl
  have k2 : (2 : Int) ≤ (s.size : Int) := by omega
  obtain ⟨p2, hp2⟩ : ∃ x, s.extract 0 2 = x := ⟨_, rfl⟩
  obtain ⟨p4, hp4⟩ : ∃ x, s.extract 2 s.size = x := ⟨_, rfl⟩
  have z4 : p4.size = 4 := by rw [← hp4, ByteArray.size_extract]; omega
  have hs : s = p2 ++ p4 := by rw [← hp2, ← hp4, hz]; exact six_parts hz
  obtain ⟨z, hzw⟩ : ∃ z, IntKind.i64.wrap (3 - x0) = z := ⟨_, rfl⟩
  obtain ⟨ob, OB⟩ : ∃ b, Hid (b = oneB (3 - x0)) := ⟨_, Lib.hid rfl⟩
  have hzb : oneB z = ob := by rw [← hzw, wrap_three, OB.out]
  have hzi := wrap_three_in x0
  rw [hzw] at hzi
  obtain ⟨hb2, HB2⟩ : ∃ b, Hid (b = (⟨#[104]⟩ : ByteArray) ++ ob) := ⟨_, Lib.hid rfl⟩
  have m1 : ∀ X, (Op.stringOp .add (⟨#[104]⟩ : ByteArray) ob).run Tryz.prog X = .ok (.string hb2) X := fun X => by
    rw [HB2.out]
    refine run_string_add_sum X _ ob ?_
    rw [← hzb]
    exact (by decide : 1 + 1 ≤ 9223372036854775807)
  have hz2 : hb2.size = 2 := by rw [HB2.out, ← hzb]; rfl
  have KB : Hid (∀ X, (X.cell? ⟨w.heap.size, 0, none⟩ = some (.int .i64 x0) ∧ Below w.heap.size w X) → Calls Tryz.prog 27 #[.int .i64 z] X fun e Y => e = .returned (.string ob) ∧ (Y.cell? ⟨w.heap.size, 0, none⟩ = some (.int .i64 x0) ∧ Below w.heap.size w Y)) := Lib.hid (fun X hX => by
    refine (specByteZ_any z hzi.1 hzi.2 X).mono ?_
    rintro e Y ⟨rfl, hb⟩
    refine ⟨by rw [hzb], ?_, hX.2.trans (hb.mono hX.2.size)⟩
    rw [hb.cell (p := ⟨w.heap.size, 0, none⟩) (cell_size (p := ⟨w.heap.size, 0, none⟩) hX.1)]
    exact hX.1)
  have E0 : Hid (Y0.drew.cell? ⟨w.heap.size, 0, none⟩ = some (.int .i64 x0) ∧ Below w.heap.size w Y0.drew) := Lib.hid ⟨A0.out.drew.cell 0, B0.out.drew⟩
  have HS := Lib.hid hs
  have HZ := Lib.hid hz
  clear hs hz hzb hzi
  by_cases he : p2 = hb2
  · have q1 : (p2.toList == hb2.toList) = true := by rw [he]; simp
    obtain ⟨hn, hok⟩ : n = fourBack p4.data.toList ∧ ok = inGroup (n : Nat) := by
      have hs2 : s = (⟨#[104]⟩ : ByteArray) ++ oneB (3 - x0) ++ p4 := by rw [HS.out, he, HB2.out, OB.out]
      rcases HO.out with ⟨r, h1, h2, h3, h4⟩ | ⟨h1, -, -⟩
      · obtain rfl : r = p4 := by
          have h9 := h2.symm.trans hs2
          exact ByteArray.append_right_inj _ |>.1 h9
        exact ⟨h3, h4⟩
      · exact absurd hs2 (h1 p4 z4)
    have HN := Lib.hid hn
    have HOK := Lib.hid hok
    clear he hn hok
    go_cut [20] (fun z wx => z = .bool false ∧ Below w.heap.size w wx)
    case first =>
      go_region_held3 (fun X => X.cell? ⟨w.heap.size, 0, none⟩ = some (.int .i64 x0) ∧ Below w.heap.size w X) (first | (with_reducible assumption) | (with_reducible exact E0.out)) (first | (go_at_call 27; refine (KB.out _ (by assumption)).mono ?_; rintro e v1 ⟨rfl, hS⟩))
      all_goals
        go_wp2_with fail
        go_meet
        exact ⟨rfl, hS.2⟩
    case rest =>
      obtain ⟨rfl, hbw⟩ := hcut
      have K4 := Lib.hid (specReadNumber_yes p4 z4 wc)
      rw [← HN.out] at K4
      have HBW := Lib.hid hbw
      clear KB E0 hbw
      go_wp2_with fail
      refine K4.out.mono ?_
      rintro e w2 ⟨rfl, hb⟩
      have HB3 := Lib.hid (HBW.out.trans (hb.mono HBW.out.size))
      have K5 := Lib.hid (specInGroup_any (n : Nat) w2)
      rw [← HOK.out] at K5
      clear hb K4
      go_wp2_with fail
      refine K5.out.mono ?_
      rintro e w3 ⟨rfl, hw⟩
      rw [hw]
      clear hw K5
      go_wp2_with fail
      exact bodyPost_ret (v := .tuple #[.int .i64 (n : Nat), .bool ok]) (by simp [results, Tryz.results22, go_sem]) rfl ⟨rfl, HB3.out⟩
  · have q1 : (p2.toList == hb2.toList) = false := texts_no he
    obtain ⟨rfl, rfl⟩ : n = 0 ∧ ok = false := by
      rcases HO.out with ⟨r, h1, h2, h3, h4⟩ | ⟨-, h2, h3⟩
      · refine absurd ?_ he
        have hz9 : ((⟨#[104]⟩ : ByteArray) ++ oneB (3 - x0)).size = 2 := rfl
        rw [← hp2, h2, six_left _ r hz9, HB2.out, OB.out]
      · exact ⟨h2, h3⟩
    clear he
    go_cut [20] (fun z wx => z = .bool true ∧ Below w.heap.size w wx)
    case first =>
      go_region_held3 (fun X => X.cell? ⟨w.heap.size, 0, none⟩ = some (.int .i64 x0) ∧ Below w.heap.size w X) (first | (with_reducible assumption) | (with_reducible exact E0.out)) (first | (go_at_call 27; refine (KB.out _ (by assumption)).mono ?_; rintro e v1 ⟨rfl, hS⟩))
      all_goals
        go_wp2_with fail
        go_meet
        exact ⟨rfl, hS.2⟩
    case rest =>
      obtain ⟨rfl, hbw⟩ := hcut
      go_wp2_with fail
      exact bodyPost_ret (v := .tuple #[.int .i64 ((0 : Nat)), .bool false]) (by simp [results, Tryz.results22, go_sem]) rfl ⟨rfl, hbw⟩

end Go.Proofs.YtkjjdoadjhjmbauGreatDoor

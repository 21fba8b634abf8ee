/-
  Small laws of no program: rows of texts that the call itself made.
  The given mark of a number, as a text.
  An element of a row taken out, where only new blocks are made; marks that are texts; measured rows.
-/
import Derived.Test.YtfhlpgngeiploabJ01
import Derived.Test.YtfhlpgngeiploabRows
import Derived.Test.YtfhlpgngeiploabJ02
import Derived.BigQuiet
import Derived.Deep.QuietTactic
import Derived.Deep.RegionHeld3
import Derived.Test.YtfhlpgngeiploabJ04
namespace Go.Proofs.Ytfhlpgngeiploab
open Go.RowKit

def strs (ls : List (List UInt8)) : List Value := ls.map fun l => Value.string ⟨l.toArray⟩

/-- The slice value v is nil or the call's own (from block 'base' on), and holds these texts. -/
def OwnS (w : World) (base : Nat) (e : TypeId) (v : Value) (ls : List (List UInt8)) : Prop := w.ownsRow base e 1 v ls.length (strs ls)

theorem OwnS.nil (w : World) (base : Nat) (e : TypeId) : OwnS w base e (.slice none 0 0) [] := World.ownsRow_nil _ _ _ _
theorem OwnS.alloc {w : World} {base : Nat} {e : TypeId} {v : Value} {ls : List (List UInt8)} (h : OwnS w base e v ls) (o : Obj) : OwnS (w.alloc o) base e v ls := World.ownsRow.alloc h o
theorem OwnS.drewN {w : World} {base : Nat} {e : TypeId} {v : Value} {ls : List (List UInt8)} (h : OwnS w base e v ls) (n : Nat) : OwnS (w.drewN n) base e v ls := h
theorem OwnS.lower {w : World} {base base' : Nat} {e : TypeId} {v : Value} {ls : List (List UInt8)} (h : OwnS w base e v ls) (hb : base' ≤ base) : OwnS w base' e v ls := by
  refine ⟨h.1, ?_⟩
  rcases h.2 with h | ⟨g, cap, cur, h1, h2, h3⟩
  · exact .inl h
  · exact .inr ⟨g, cap, cur, h1, by omega, h3⟩

theorem OwnS.below {w w' : World} {base : Nat} {e : TypeId} {v : Value} {ls : List (List UInt8)} (h : OwnS w base e v ls) (hb : Below w.heap.size w w') : OwnS w' base e v ls := by
  refine ⟨h.1, ?_⟩
  rcases h.2 with h | ⟨g, cap, cur, h1, h2, h3, h4⟩
  · exact .inl h
  · exact .inr ⟨g, cap, cur, h1, h2, by rw [hb.block g (lt_of_block h3)]; exact h3, h4⟩

/-- One text of the row is written over. -/
theorem OwnS.stored {w : World} {base : Nat} {e : TypeId} {g n cap : Nat} {ls : List (List UInt8)} (hn : n = ls.length) (h : OwnS w base e (.slice (some ⟨g, 0, none⟩) n cap) ls) (j : Nat) (t : List UInt8) :
    OwnS (w.setCell ⟨g, j, none⟩ (.string ⟨t.toArray⟩)) base e (.slice (some ⟨g, 0, none⟩) n cap) (ls.set j t) := by
  subst hn
  have h' : w.ownsRow base e 1 (.slice (some ⟨g, 0, none⟩) ls.length cap) ls.length (strs ls) := h
  have h2 := (h'.stored j (.string ⟨t.toArray⟩)).1
  unfold OwnS
  have e1 : strs (ls.set j t) = (strs ls).set j (.string ⟨t.toArray⟩) := by simp [strs]
  rw [e1, List.length_set]
  exact h2

end Go.Proofs.Ytfhlpgngeiploab
namespace Go.Proofs.Ytfhlpgngeiploab
open Go.RowKit

/-- The mark of a number. -/
def mark (k : Nat) : List UInt8 := 109 :: digs k

set_option maxRecDepth 100000 in
set_option maxHeartbeats 400000 in
theorem markText_any (N : Nat) (h1 : 1 ≤ N) (h2 : N ≤ 1000000000) (w : World) :
    Calls Try.prog 61 #[.int .i64 N] w fun e w' => e = .returned (.string ⟨(mark N).toArray⟩) ∧ Below w.heap.size w w' := by
  have g0 : ¬ (N : Int) ≤ 0 := by omega
  have hdl := digs_length N (by omega)
  have hz109 := size_list [109]
  go_enter Try.func61, Try.ntmps61
  go_wp2
  go_loopw [0, 3] (fun n s wr => ∃ (m : Nat) (t : List UInt8), m ≤ N ∧ n = .int .i64 m ∧ s = .string ⟨t.toArray⟩ ∧ Hid (digs m ++ t = digs N) ∧ t.length ≤ 21 ∧ Below w.heap.size w wr) (fun n _ _ => (intOf n).toNat)
  case atStart => exact ⟨N, [], Nat.le_refl _, rfl, rfl, List.append_nil _, by simp, Below.refl _ _⟩
  case round =>
    obtain ⟨m, t, hm, rfl, rfl, HD, htl, hnx⟩ := hrel
    have hsz := hnx.size
    have hz := size_list t
    by_cases hm0 : m = 0
    · subst hm0
      go_wp2
      go_ret
      refine ⟨?_, hnx⟩
      have hd := HD.out
      unfold mark
      rw [← hd]
      exact congrArg (fun x => Ending.returned (Value.string x)) (cat_list [109] t)
    · have hst := digs_step m (by omega)
      have hcv := fun b => run_string_one (P := Try.prog) wr 70 9 5 Try.underlying70 Try.underlying5 Try.underlying9 b
      have hz1 := fun b => size_list [b]
      obtain ⟨b, hb, HB⟩ : ∃ b : UInt8, 48 + (m : Int) % 10 = (b.toNat : Int) ∧ Hid (b = fig (m % 10)) := ⟨_, by rw [fig_toNat _ (by omega), if_pos (by omega)]; omega, rfl⟩
      have HS := Lib.hid hst
      clear hst
      go_wp2
      go_roundw
      case rel =>
        have hn := HD.out
        rw [HS.out, List.append_assoc] at hn
        refine ⟨m / 10, b :: t, by omega, int_eq (by omega), congrArg Value.string (cat_list [b] t), ?_, ?_, hnx.alloc hsz _⟩
        · rw [HB.out]; exact hn
        · have h3 := congrArg List.length hn
          simp only [List.length_append, List.length_cons, List.length_nil] at h3 ⊢
          omega
      case measure => simp [intOf]; omega

end Go.Proofs.Ytfhlpgngeiploab
namespace Go.Proofs.Ytfhlpgngeiploab
open Go.RowKit

theorem Zip.next {α : Type} {e : TypeId} {A : Lay α} {w w' : World} {b g cap : Nat} {f1 f2 f3 : List Nat} {u1 c u3 : List Value} {X : List α} {x : α} {Y : List α} (h : Zip e A w b g cap f1 f2 f3 u1 c u3 X x Y) (hb : Below w.heap.size w w') : Zip e A w' b g cap f1 f2 f3 u1 c u3 X x Y :=
  ⟨ownsRow_keep h.row (hb.block g h.lt.2), ownAll_keep A h.left (fun i hi => hb.block i (ownAll_blocks A h.left i hi).2), A.next h.mid hb, ownAll_keep A h.right (fun i hi => hb.block i (ownAll_blocks A h.right i hi).2), h.dup⟩
theorem markText_int (z : Int) (h1 : 1 ≤ z) (h2 : z ≤ 1000000000) (w : World) :
    Calls Try.prog 61 #[.int .i64 z] w fun e w' => e = .returned (.string (markTxt z)) ∧ Below w.heap.size w w' := by
  obtain ⟨n, rfl⟩ := Int.eq_ofNat_of_zero_le (show 0 ≤ z by omega)
  have h := markText_any n (by omega) (by omega) w
  unfold mark at h
  rw [digs_pos n (by omega)] at h
  exact h
/-- What is left, or -1. -/
def SzEnd (P : Prop) (left : Int) (e : Ending) : Prop := ∃ r : Int, e = .returned (.int .i64 r) ∧ (r = -1 ∨ (0 ≤ r ∧ r ≤ left ∧ P))

end Go.Proofs.Ytfhlpgngeiploab

/-
  Rows of bools of the call's own; no program is spoken of here.
  slices.Index and slices.Contains at bools.
  The program's isBody.
  Who somebody is: the program's isWho.
  Rows of flat data of the call's own: appended to, copied, written into; no program is spoken of here.
  Small laws of no program: rows of texts that the call itself made.
  The given mark of a number, as a text.
  An element of a row taken out, where only new blocks are made; marks that are texts; measured rows.
-/
import Derived.Test.YtfhlpgngeiploabJ02
import Derived.Test.YtfhlpgngeiploabRows
import Derived.Test.YtfhlpgngeiploabJ01
import Derived.Deep.DeepCutAuto
import Derived.Laws.AppendOwnNone
import Derived.BigQuiet
import Derived.Deep.QuietTactic
import Derived.Deep.RegionHeld3
namespace Go.Proofs.Ytfhlpgngeiploab
open Go.RowKit

def layBoolS : Lay (List Bool) := .rows 4 .bool
theorem bool_own {w : World} {b : Nat} {f : List Nat} {cs : List Value} {x : Bool} : Lay.bool.own w b f cs x ↔ f = [] ∧ cs = [.bool x] := Iff.rfl
theorem bool_rd {w : World} {cs : List Value} {x : Bool} : Lay.bool.rd w cs x ↔ cs = [.bool x] := Iff.rfl
theorem infoBool : (Try.prog.info? 4).map (fun i => (i.zero, i.size, i.bytes)) = some (some (.bool false), 1, 1) := by kernel_rfl
/-- One bool of a row that can be read. -/
theorem bools_get {w : World} {v : Value} {xs : List Bool} (h : layBoolS.rd w [v] xs) (m : Nat) (hm : m < xs.length) : ∃ g off cap, v = .slice (some ⟨g, off, none⟩) xs.length cap ∧ g < w.heap.size ∧ w.cell? ⟨g, off + m, none⟩ = some (.bool xs[m]) := by
  obtain ⟨a, cap, rfl⟩ := rows_form h
  obtain ⟨g, off, c, rfl, hg, hr, hc⟩ := rows_elem h m _ (List.getElem?_eq_getElem hm)
  rw [bool_rd] at hr
  subst hr
  refine ⟨g, off, cap, rfl, hg, ?_⟩
  have := hc 0 _ rfl
  rw [show Lay.bool.k = 1 from rfl, Nat.mul_one] at this
  exact this
/-- One bool of a row is read and written. -/
theorem bools_put {w : World} {b : Nat} {fp : List Nat} {v : Value} {xs : List Bool} (h : layBoolS.own w b fp [v] xs) (hd : fp.Nodup) (m : Nat) (hm : m < xs.length) (y : Bool) :
    ∃ g cap, v = .slice (some ⟨g, 0, none⟩) xs.length cap ∧ b ≤ g ∧ g < w.heap.size ∧ g ∈ fp ∧ w.cell? ⟨g, m, none⟩ = some (.bool xs[m]) ∧ w.frozen? ⟨g, m, none⟩ = false ∧
      layBoolS.own (w.setCell ⟨g, m, none⟩ (.bool y)) b fp [v] (xs.set m y) ∧ Chg fp w (w.setCell ⟨g, m, none⟩ (.bool y)) := by
  have e : xs = xs.take m ++ xs[m] :: xs.drop (m + 1) := by rw [List.getElem_cons_drop, List.take_append_drop]
  have es : xs.set m y = xs.take m ++ y :: xs.drop (m + 1) := by rw [List.set_eq_take_append_cons_drop, if_pos hm]
  have hl : (xs.take m ++ xs[m] :: xs.drop (m + 1)).length = xs.length := by rw [← e]
  have h2 := h
  rw [e] at h2
  obtain ⟨g, cap, f1, f2, f3, u1, c, u3, hv, rfl, Z⟩ := rows_open h2 hd
  rw [hl] at hv
  obtain ⟨rfl, rfl⟩ := bool_own.1 Z.mid
  have hml : (xs.take m).length = m := by rw [List.length_take]; omega
  have hc := Z.cell 0 _ rfl
  rw [show Lay.bool.k = 1 from rfl, Nat.mul_one, hml] at hc
  have hs := Z.store [.bool y] 0 (by simp) [] y (bool_own.2 ⟨rfl, rfl⟩) Z.dup
  rw [show Lay.bool.k = 1 from rfl, Nat.mul_one, hml] at hs
  refine ⟨g, cap, hv, Z.lt.1, Z.lt.2, by simp, hc.1, hc.2, ?_, hs.2.sub (by simp)⟩
  have h3 := hs.1.shut
  have e4 : (xs.take m ++ y :: xs.drop (m + 1)).length = xs.length := by rw [← es, List.length_set]
  rw [e4] at h3
  rw [es, hv]
  exact h3

end Go.Proofs.Ytfhlpgngeiploab
namespace Go.Proofs.Ytfhlpgngeiploab
open Go.RowKit

set_option maxRecDepth 100000 in
set_option maxHeartbeats 800000 in
theorem indexBool_any (xs : List Bool) (x : Bool) (v : Value) (hl : xs.length ≤ 100000000) (w : World) (h : layBoolS.rd w [v] xs) :
    Calls Try.prog 57 #[v, .bool x] w fun e w' => ((x ∈ xs ∧ ∃ j : Nat, e = .returned (.int .i64 j)) ∨ (x ∉ xs ∧ e = .returned (.int .i64 (-1)))) ∧ w' = w := by
  obtain ⟨ao, cp, rfl⟩ := rows_form h
  have HR := Lib.hid h
  clear h
  go_enter Try.func57, Try.ntmps57
  go_wp2_with fail
  go_loop [8] (fun c => ∃ j : Nat, j ≤ xs.length ∧ c = .int .i64 j ∧ Hid (∀ i, (hi : i < xs.length) → i < j → xs[i] ≠ x)) (fun c => xs.length - (intOf c).toNat)
  case atStart => exact ⟨0, Nat.zero_le _, rfl, fun i _ h => absurd h (by omega)⟩
  case round =>
    obtain ⟨j, hj, rfl, HA⟩ := hrel
    by_cases hlt : j < xs.length
    · have hlt' : (j : Int) < (xs.length : Int) := by omega
      have HM : Hid (xs[j] = x → x ∈ xs) := Lib.hid (fun h => h ▸ List.getElem_mem hlt)
      have HNX : Hid (xs[j] ≠ x → ∀ i, (hi : i < xs.length) → i < j + 1 → xs[i] ≠ x) := Lib.hid (fun hx i hi h => by
        rcases Nat.lt_or_ge i j with h2 | h2
        · exact HA.out i hi h2
        · have : i = j := by omega
          subst this
          exact hx)
      obtain ⟨g, off, cs, rfl, hg, hr, hc⟩ := rows_elem HR.out j _ (List.getElem?_eq_getElem hlt)
      generalize xs[j] = y at hr HM HNX
      have hr' : cs = [.bool y] := hr
      subst hr'
      have c0 : w.cell? ⟨g, off + j, none⟩ = some (.bool y) := (by have h9 := hc 0 _ rfl; rw [show j * Lay.bool.k = j from Nat.mul_one j] at h9; exact h9)
      clear hc
      by_cases hx : x = y
      · have hq : (x == y) = true := by rw [beq_iff_eq]; exact hx
        have HE := Lib.hid (HM.out hx.symm)
        clear hx HM HNX
        go_wp2_with fail
        go_ret
        exact ⟨.inl ⟨HE.out, j, rfl⟩, rfl⟩
      · have hq : (x == y) = false := by rw [beq_eq_false_iff_ne]; exact hx
        have HJ := Lib.hid (HNX.out (fun e => hx e.symm))
        clear hx HM HNX
        go_wp2_with fail
        go_round
        case rel => exact ⟨j + 1, by omega, by go_num, HJ⟩
        case measure => simp [intOf]; omega
    · have hlt' : ¬ ((j : Int) < (xs.length : Int)) := by omega
      have HE : Hid (x ∉ xs) := Lib.hid (fun hx => by
        obtain ⟨i, hi, e⟩ := List.getElem_of_mem hx
        exact HA.out i hi (by omega) e)
      go_wp2_with fail
      go_ret
      exact ⟨.inr ⟨HE.out, rfl⟩, rfl⟩

theorem containsBool_any (xs : List Bool) (x : Bool) (v : Value) (b : Bool) (hb : b = true ↔ x ∈ xs) (hl : xs.length ≤ 100000000) (w : World) (h : layBoolS.rd w [v] xs) :
    Calls Try.prog 42 #[v, .bool x] w fun e w' => e = .returned (.bool b) ∧ w' = w := by
  have HI := Lib.hid (indexBool_any xs x v hl w h)
  clear h
  go_enter Try.func42, Try.ntmps42
  go_wp2_with fail
  refine HI.out.mono ?_
  rintro e w1 ⟨hE, hw⟩
  have hw' := hw.symm
  subst hw'
  clear hw HI
  rcases hE with ⟨h1, j, rfl⟩ | ⟨h1, rfl⟩
  · obtain rfl : b = true := hb.2 h1
    have hj : (0 : Int) ≤ (j : Int) := by omega
    clear h1 hb
    go_wp2_with fail
    go_ret
    exact ⟨rfl, rfl⟩
  · obtain rfl : b = false := Bool.eq_false_iff.2 fun e => h1 (hb.1 e)
    clear h1 hb
    go_wp2_with fail
    go_ret
    exact ⟨rfl, rfl⟩

end Go.Proofs.Ytfhlpgngeiploab
namespace Go.Proofs.Ytfhlpgngeiploab
open Go.RowKit

theorem isBody_bool (t : ByteArray) (b : Bool) (hb : b = true ↔ t.size ≤ 120) (w : World) :
    Calls Try.prog 30 #[.string t] w fun e w' => e = .returned (.bool b) ∧ w' = w := by
  cases b with
  | true =>
    have h1 : (t.size : Int) ≤ 120 := by have := hb.1 rfl; omega
    go_enter Try.func30, Try.ntmps30
    go_wp2_with fail
    go_ret
    exact ⟨rfl, rfl⟩
  | false =>
    have h1 : ¬ ((t.size : Int) ≤ 120) := fun h => by have := hb.2 (by omega); cases this
    go_enter Try.func30, Try.ntmps30
    go_wp2_with fail
    go_ret
    exact ⟨rfl, rfl⟩

end Go.Proofs.Ytfhlpgngeiploab
namespace Go.Proofs.Ytfhlpgngeiploab
open Go.RowKit

theorem isWho_yes (x : Int) (h0 : 1 ≤ x) (h1 : x ≤ 99) (w : World) : Calls Try.prog 29 #[.int .i64 x] w fun e w' => e = .returned (.bool true) ∧ w' = w := by
  go_enter Try.func29, Try.ntmps29
  go_wp2_with fail
  go_ret
  exact ⟨rfl, rfl⟩
theorem isWho_no (x : Int) (h : ¬ (1 ≤ x ∧ x ≤ 99)) (w : World) : Calls Try.prog 29 #[.int .i64 x] w fun e w' => e = .returned (.bool false) ∧ w' = w := by
  by_cases h0 : 1 ≤ x
  · have h1 : ¬ x ≤ 99 := fun h1 => h ⟨h0, h1⟩
    clear h
    go_enter Try.func29, Try.ntmps29
    go_wp2_with fail
    go_ret
    exact ⟨rfl, rfl⟩
  · clear h
    go_enter Try.func29, Try.ntmps29
    go_wp2_with fail
    go_ret
    exact ⟨rfl, rfl⟩
end Go.Proofs.Ytfhlpgngeiploab
namespace Go.Proofs.Ytfhlpgngeiploab
open Go.RowKit

section
variable {α : Type}

end
end Go.Proofs.Ytfhlpgngeiploab
namespace Go.Proofs.Ytfhlpgngeiploab
open Go.RowKit

def strs (ls : List (List UInt8)) : List Value := ls.map fun l => Value.string ⟨l.toArray⟩

/-- The slice value v is nil or the call's own (from block 'base' on), and holds these texts. -/
def OwnS (w : World) (base : Nat) (e : TypeId) (v : Value) (ls : List (List UInt8)) : Prop := w.ownsRow base e 1 v ls.length (strs ls)

theorem OwnS.nil (w : World) (base : Nat) (e : TypeId) : OwnS w base e (.slice none 0 0) [] := World.ownsRow_nil _ _ _ _
theorem OwnS.alloc {w : World} {base : Nat} {e : TypeId} {v : Value} {ls : List (List UInt8)} (h : OwnS w base e v ls) (o : Obj) : OwnS (w.alloc o) base e v ls := World.ownsRow.alloc h o
theorem OwnS.drewN {w : World} {base : Nat} {e : TypeId} {v : Value} {ls : List (List UInt8)} (h : OwnS w base e v ls) (n : Nat) : OwnS (w.drewN n) base e v ls := h
theorem OwnS.lower {w : World} {base base' : Nat} {e : TypeId} {v : Value} {ls : List (List UInt8)} (h : OwnS w base e v ls) (hb : base' ≤ base) : OwnS w base' e v ls := by
  refine ⟨h.1, ?_⟩
  rcases h.2 with h | ⟨g, cap, cur, h1, h2, h3⟩
  · exact .inl h
  · exact .inr ⟨g, cap, cur, h1, by omega, h3⟩

theorem OwnS.below {w w' : World} {base : Nat} {e : TypeId} {v : Value} {ls : List (List UInt8)} (h : OwnS w base e v ls) (hb : Below w.heap.size w w') : OwnS w' base e v ls := by
  refine ⟨h.1, ?_⟩
  rcases h.2 with h | ⟨g, cap, cur, h1, h2, h3, h4⟩
  · exact .inl h
  · exact .inr ⟨g, cap, cur, h1, h2, by rw [hb.block g (lt_of_block h3)]; exact h3, h4⟩

/-- One text of the row is written over. -/
theorem OwnS.stored {w : World} {base : Nat} {e : TypeId} {g n cap : Nat} {ls : List (List UInt8)} (hn : n = ls.length) (h : OwnS w base e (.slice (some ⟨g, 0, none⟩) n cap) ls) (j : Nat) (t : List UInt8) :
    OwnS (w.setCell ⟨g, j, none⟩ (.string ⟨t.toArray⟩)) base e (.slice (some ⟨g, 0, none⟩) n cap) (ls.set j t) := by
  subst hn
  have h' : w.ownsRow base e 1 (.slice (some ⟨g, 0, none⟩) ls.length cap) ls.length (strs ls) := h
  have h2 := (h'.stored j (.string ⟨t.toArray⟩)).1
  unfold OwnS
  have e1 : strs (ls.set j t) = (strs ls).set j (.string ⟨t.toArray⟩) := by simp [strs]
  rw [e1, List.length_set]
  exact h2

end Go.Proofs.Ytfhlpgngeiploab
namespace Go.Proofs.Ytfhlpgngeiploab
open Go.RowKit

/-- The mark of a number. -/
def mark (k : Nat) : List UInt8 := 109 :: digs k

end Go.Proofs.Ytfhlpgngeiploab
namespace Go.Proofs.Ytfhlpgngeiploab
open Go.RowKit

theorem Zip.next {α : Type} {e : TypeId} {A : Lay α} {w w' : World} {b g cap : Nat} {f1 f2 f3 : List Nat} {u1 c u3 : List Value} {X : List α} {x : α} {Y : List α} (h : Zip e A w b g cap f1 f2 f3 u1 c u3 X x Y) (hb : Below w.heap.size w w') : Zip e A w' b g cap f1 f2 f3 u1 c u3 X x Y :=
  ⟨ownsRow_keep h.row (hb.block g h.lt.2), ownAll_keep A h.left (fun i hi => hb.block i (ownAll_blocks A h.left i hi).2), A.next h.mid hb, ownAll_keep A h.right (fun i hi => hb.block i (ownAll_blocks A h.right i hi).2), h.dup⟩
/-- What is left, or -1. -/
def SzEnd (P : Prop) (left : Int) (e : Ending) : Prop := ∃ r : Int, e = .returned (.int .i64 r) ∧ (r = -1 ∨ (0 ≤ r ∧ r ≤ left ∧ P))

end Go.Proofs.Ytfhlpgngeiploab

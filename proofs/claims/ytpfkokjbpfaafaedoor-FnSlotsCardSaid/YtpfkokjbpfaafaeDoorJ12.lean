/-
  Slots that are being drawn: what lies where.
  Whether a number is one of a row, by the given code.
  The given test of a range, by what it answers.
-/
import Derived.Test.YtpfkokjbpfaafaeDoorJ07
import Derived.Test.YtpfkokjbpfaafaeDoorJ11
import Derived.Test.YtpfkokjbpfaafaeDoorJ05
import Derived.Test.YtpfkokjbpfaafaeDoorRows
import Derived.Test.YtpfkokjbpfaafaeDoorJ01
namespace Go.Proofs.YtpfkokjbpfaafaeDoor
open Go.RowKit

theorem own_only {X Y : World} {lo q : Nat} {f : List Nat} {v : Value} {r : List Int} (h : layIntS.own X lo f [v] r) (ho : Only q X Y) (hq : q ∉ f) : layIntS.own Y lo f [v] r := layIntS.keep h (fun a ha => ho.block a (layIntS.blocks h a ha).2 (fun e => hq (e ▸ ha)))
/-- The cursor, the result, the slots in their variable. -/
structure DS (c : Nat) (a : Option Addr) (len cap : Nat) (w : World) (q : Nat) (x0 : Int) (x1 x2 : ByteArray) (x3 : Int) (v4 : Value) (r4 : List Int) (x5 : Int) (y0 : Int) (y1 y2 : ByteArray) (y3 : Int) (u4 : Value) (s4 : List Int) (y5 : Int) (X : World) : Prop where
  cur : Cur c a len cap X
  only : Only c w X
  res : VarA w.heap.size SlotsT #[.int .i64 0, .string ⟨#[]⟩, .string ⟨#[]⟩, .int .i64 0, .slice none 0 0, .int .i64 0, .int .i64 0, .string ⟨#[]⟩, .string ⟨#[]⟩, .int .i64 0, .slice none 0 0, .int .i64 0] X
  var : VarA q SlotsT #[.int .i64 x0, .string x1, .string x2, .int .i64 x3, v4, .int .i64 x5, .int .i64 y0, .string y1, .string y2, .int .i64 y3, u4, .int .i64 y5] X
  mo : ∃ f, layIntS.own X w.heap.size f [v4] r4
  lo : ∃ f, layIntS.own X w.heap.size f [u4] s4
  lt : w.heap.size < q
  cl : c < w.heap.size
section
variable {c : Nat} {a : Option Addr} {len cap : Nat} {w : World} {q : Nat} {x0 : Int} {x1 x2 : ByteArray} {x3 : Int} {v4 : Value} {r4 : List Int} {x5 : Int} {y0 : Int} {y1 y2 : ByteArray} {y3 : Int} {u4 : Value} {s4 : List Int} {y5 : Int} {z0 : Int} {z1 z2 : ByteArray} {z3 : Int} {v5 : Value} {t4 : List Int} {z5 : Int} {n0 : Int} {n1 n2 : ByteArray} {n3 : Int} {u5 : Value} {o4 : List Int} {n5 : Int} {X Y : World}
theorem DS.next (h : DS c a len cap w q x0 x1 x2 x3 v4 r4 x5 y0 y1 y2 y3 u4 s4 y5 X) (hb : Below X.heap.size X Y) : DS c a len cap w q x0 x1 x2 x3 v4 r4 x5 y0 y1 y2 y3 u4 s4 y5 Y := by
  obtain ⟨f, hf⟩ := h.mo
  obtain ⟨k, hk⟩ := h.lo
  exact ⟨h.cur.below hb, h.only.trans (.of_below hb), h.res.next hb, h.var.next hb, ⟨f, layIntS.next hf hb⟩, ⟨k, layIntS.next hk hb⟩, h.lt, h.cl⟩
theorem DS.drew (h : DS c a len cap w q x0 x1 x2 x3 v4 r4 x5 y0 y1 y2 y3 u4 s4 y5 X) : DS c a len cap w q x0 x1 x2 x3 v4 r4 x5 y0 y1 y2 y3 u4 s4 y5 X.drew := h.next ((Below.refl _ X).drew)
theorem DS.step (h : DS c a len cap w q x0 x1 x2 x3 v4 r4 x5 y0 y1 y2 y3 u4 s4 y5 X) (hc : Cur c a len cap Y) (ho : Only c X Y) : DS c a len cap w q x0 x1 x2 x3 v4 r4 x5 y0 y1 y2 y3 u4 s4 y5 Y := by
  obtain ⟨f, hf⟩ := h.mo
  obtain ⟨k, hk⟩ := h.lo
  have h1 := h.cl
  have h2 := h.lt
  exact ⟨hc, h.only.trans ho, h.res.only ho (by omega), h.var.only ho (by omega), ⟨f, own_only hf ho (fun hm => by have := (layIntS.blocks hf c hm).1; omega)⟩, ⟨k, own_only hk ho (fun hm => by have := (layIntS.blocks hk c hm).1; omega)⟩, h.lt, h.cl⟩
theorem DS.main (h : DS c a len cap w q x0 x1 x2 x3 v4 r4 x5 y0 y1 y2 y3 u4 s4 y5 X) : layIntS.rd X [v4] r4 := h.mo.elim (fun _ k => layIntS.read k)
theorem DS.lame (h : DS c a len cap w q x0 x1 x2 x3 v4 r4 x5 y0 y1 y2 y3 u4 s4 y5 X) : layIntS.rd X [u4] s4 := h.lo.elim (fun _ k => layIntS.read k)
/-- The slots are put into their variable anew. -/
theorem DS.put (h : DS c a len cap w q x0 x1 x2 x3 v4 r4 x5 y0 y1 y2 y3 u4 s4 y5 X) (hm : ∃ f, layIntS.own X w.heap.size f [v5] t4) (hl : ∃ f, layIntS.own X w.heap.size f [u5] o4) :
    DS c a len cap w q z0 z1 z2 z3 v5 t4 z5 n0 n1 n2 n3 u5 o4 n5 ((((((((((((X.setCell ⟨q, 0, none⟩ (.int .i64 z0)).setCell ⟨q, 1, none⟩ (.string z1)).setCell ⟨q, 2, none⟩ (.string z2)).setCell ⟨q, 3, none⟩ (.int .i64 z3)).setCell ⟨q, 4, none⟩ (v5)).setCell ⟨q, 5, none⟩ (.int .i64 z5)).setCell ⟨q, 6, none⟩ (.int .i64 n0)).setCell ⟨q, 7, none⟩ (.string n1)).setCell ⟨q, 8, none⟩ (.string n2)).setCell ⟨q, 9, none⟩ (.int .i64 n3)).setCell ⟨q, 10, none⟩ (u5)).setCell ⟨q, 11, none⟩ (.int .i64 n5)) := by
  obtain ⟨f, hf⟩ := hm
  obtain ⟨k, hk⟩ := hl
  have h1 := h.cl
  have h2 := h.lt
  have ho : Only q X ((((((((((((X.setCell ⟨q, 0, none⟩ (.int .i64 z0)).setCell ⟨q, 1, none⟩ (.string z1)).setCell ⟨q, 2, none⟩ (.string z2)).setCell ⟨q, 3, none⟩ (.int .i64 z3)).setCell ⟨q, 4, none⟩ (v5)).setCell ⟨q, 5, none⟩ (.int .i64 z5)).setCell ⟨q, 6, none⟩ (.int .i64 n0)).setCell ⟨q, 7, none⟩ (.string n1)).setCell ⟨q, 8, none⟩ (.string n2)).setCell ⟨q, 9, none⟩ (.int .i64 n3)).setCell ⟨q, 10, none⟩ (u5)).setCell ⟨q, 11, none⟩ (.int .i64 n5)) := (putMain_only X q _ _ _ _ _ _).trans (putLame_only _ q _ _ _ _ _ _)
  have hb : Below (w.heap.size + 1) X ((((((((((((X.setCell ⟨q, 0, none⟩ (.int .i64 z0)).setCell ⟨q, 1, none⟩ (.string z1)).setCell ⟨q, 2, none⟩ (.string z2)).setCell ⟨q, 3, none⟩ (.int .i64 z3)).setCell ⟨q, 4, none⟩ (v5)).setCell ⟨q, 5, none⟩ (.int .i64 z5)).setCell ⟨q, 6, none⟩ (.int .i64 n0)).setCell ⟨q, 7, none⟩ (.string n1)).setCell ⟨q, 8, none⟩ (.string n2)).setCell ⟨q, 9, none⟩ (.int .i64 n3)).setCell ⟨q, 10, none⟩ (u5)).setCell ⟨q, 11, none⟩ (.int .i64 n5)) := ho.below (by omega) (by have := h.var.lt; omega)
  exact ⟨h.cur.kept hb (by omega), h.only.behind (hb.mono (by omega)), h.res.only ho (by omega), putBoth h.var (.int .i64 z0) (.string z1) (.string z2) (.int .i64 z3) (v5) (.int .i64 z5) (.int .i64 n0) (.string n1) (.string n2) (.int .i64 n3) (u5) (.int .i64 n5), ⟨f, own_only hf ho (row_off flatIntK hf h.var (by decide))⟩, ⟨k, own_only hk ho (row_off flatIntK hk h.var (by decide))⟩, h.lt, h.cl⟩
/-- The numbers seen alone are put anew. -/
theorem DS.seen (h : DS c a len cap w q x0 x1 x2 x3 v4 r4 x5 y0 y1 y2 y3 u4 s4 y5 X) (hm : ∃ f, layIntS.own X w.heap.size f [v5] t4) : DS c a len cap w q x0 x1 x2 x3 v5 t4 x5 y0 y1 y2 y3 u4 s4 y5 (X.setCell ⟨q, 4, none⟩ v5) := by
  obtain ⟨f, hf⟩ := hm
  obtain ⟨k, hk⟩ := h.lo
  have h1 := h.cl
  have h2 := h.lt
  have ho : Only q X (X.setCell ⟨q, 4, none⟩ v5) := Only.setCell 4 _
  have hb : Below (w.heap.size + 1) X (X.setCell ⟨q, 4, none⟩ v5) := ho.below (by omega) (by have := h.var.lt; omega)
  exact ⟨h.cur.kept hb (by omega), h.only.behind (hb.mono (by omega)), h.res.only ho (by omega), h.var.set 4 v5, ⟨f, own_only hf ho (row_off flatIntK hf h.var (by decide))⟩, ⟨k, own_only hk ho (row_off flatIntK hk h.var (by decide))⟩, h.lt, h.cl⟩
end
/-- How slots that are drawn end. -/
def DrewSlots (c : Nat) (w : World) (e : Ending) (w' : World) : Prop :=
  ∃ (x0 : Int) (x1 x2 : ByteArray) (x3 : Int) (v4 : Value) (r4 : List Int) (x5 : Int) (y0 : Int) (y1 y2 : ByteArray) (y3 : Int) (u4 : Value) (s4 : List Int) (y5 : Int), Good12 8 x0 x1 x2 x3 r4 x5 y0 y1 y2 y3 s4 y5 ∧ e = .returned (.agg #[.int .i64 x0, .string x1, .string x2, .int .i64 x3, v4, .int .i64 x5, .int .i64 y0, .string y1, .string y2, .int .i64 y3, u4, .int .i64 y5]) ∧ (∃ f, layIntS.own w' w.heap.size f [v4] r4) ∧ (∃ f, layIntS.own w' w.heap.size f [u4] s4) ∧ Only c w w'
/-- The same, of bytes. -/
def DrewSl (w : World) (e : Ending) (w' : World) : Prop :=
  ∃ (x0 : Int) (x1 x2 : ByteArray) (x3 : Int) (v4 : Value) (r4 : List Int) (x5 : Int) (y0 : Int) (y1 y2 : ByteArray) (y3 : Int) (u4 : Value) (s4 : List Int) (y5 : Int), Good12 8 x0 x1 x2 x3 r4 x5 y0 y1 y2 y3 s4 y5 ∧ e = .returned (.agg #[.int .i64 x0, .string x1, .string x2, .int .i64 x3, v4, .int .i64 x5, .int .i64 y0, .string y1, .string y2, .int .i64 y3, u4, .int .i64 y5]) ∧ layIntS.rd w' [v4] r4 ∧ layIntS.rd w' [u4] s4 ∧ Below w.heap.size w w'

end Go.Proofs.YtpfkokjbpfaafaeDoor
namespace Go.Proofs.YtpfkokjbpfaafaeDoor
open Go.RowKit

set_option maxRecDepth 100000 in
set_option maxHeartbeats 800000 in
theorem specChanIn_any (xs : List Int) (x : Int) (v : Value) (b : Bool) (hb : b = true ↔ x ∈ xs) (hl : xs.length ≤ 100000000) (w : World) (h : layIntS.rd w [v] xs) :
    Calls Tryd.prog 64 #[v, .int .i64 x] w fun e w' => e = .returned (.bool b) ∧ w' = w := by
  obtain ⟨ao, cp, rfl⟩ := rows_form h
  have HR := Lib.hid h
  have HB := Lib.hid hb
  clear h hb
  go_enter Tryd.func64, Tryd.ntmps64
  go_wp2_with fail
  go_loop [5] (fun c => ∃ j : Nat, j ≤ xs.length ∧ c = .int .i64 j ∧ Hid (∀ i, (hi : i < xs.length) → i < j → xs[i] ≠ x)) (fun c => xs.length - (intOf c).toNat)
  case atStart => exact ⟨0, Nat.zero_le _, rfl, fun i _ h => absurd h (by omega)⟩
  case round =>
    obtain ⟨j, hj, rfl, HA⟩ := hrel
    by_cases hlt : j < xs.length
    · have hlt' : (j : Int) < (xs.length : Int) := by omega
      obtain ⟨g, off, cap, hv, hg, hcell⟩ := ints_get HR.out j hlt
      simp only [Value.slice.injEq] at hv
      obtain ⟨rfl, -, rfl⟩ := hv
      have HX : Hid (xs[j] = x → b = true) := fun h => HB.out.2 (h ▸ List.getElem_mem hlt)
      have HNX : Hid (xs[j] ≠ x → ∀ i, (hi : i < xs.length) → i < j + 1 → xs[i] ≠ x) := fun hx i hi h => by
        rcases Nat.lt_or_ge i j with h2 | h2
        · exact HA.out i hi h2
        · have : i = j := by omega
          subst this
          exact hx
      generalize xs[j] = y at hcell HX HNX
      by_cases hx : y = x
      · obtain rfl := HX.out hx
        have k1 : (y == x) = true := by rw [beq_iff_eq]; exact hx
        clear hx
        go_wp2_with fail
        go_ret
        exact ⟨rfl, rfl⟩
      · have HJ := Lib.hid (HNX.out hx)
        have k1 : (y == x) = false := by rw [beq_eq_false_iff_ne]; exact hx
        clear hx
        go_wp2_with fail
        go_round
        case rel => exact ⟨j + 1, by omega, by go_num, HJ⟩
        case measure => simp [intOf]; omega
    · have hlt' : ¬ ((j : Int) < (xs.length : Int)) := by omega
      obtain rfl : b = false := by
        cases b with
        | false => rfl
        | true =>
          obtain ⟨i, hi, he⟩ := List.getElem_of_mem (HB.out.1 rfl)
          exact absurd he (HA.out i hi (by omega))
      go_wp2_with fail
      go_ret
      exact ⟨rfl, rfl⟩

end Go.Proofs.YtpfkokjbpfaafaeDoor
namespace Go.Proofs.YtpfkokjbpfaafaeDoor
open Go.RowKit

theorem inRange_yes (x a b : Int) (h0 : a ≤ x) (h1 : x ≤ b) (w : World) :
    Calls Tryd.prog 53 #[.int .i64 x, .int .i64 a, .int .i64 b] w fun e w' => e = .returned (.bool true) ∧ w' = w := by
  go_enter Tryd.func53, Tryd.ntmps53
  go_wp2
  go_ret
  exact ⟨rfl, rfl⟩

theorem inRange_no (x a b : Int) (h : x < a ∨ b < x) (w : World) :
    Calls Tryd.prog 53 #[.int .i64 x, .int .i64 a, .int .i64 b] w fun e w' => e = .returned (.bool false) ∧ w' = w := by
  by_cases hx : x < a
  · go_enter Tryd.func53, Tryd.ntmps53
    go_wp2
    go_ret
    exact ⟨rfl, rfl⟩
  · have h0 : a ≤ x := by omega
    have h1 : decide (x ≤ b) = false := decide_eq_false (by omega)
    clear h hx
    go_enter Tryd.func53, Tryd.ntmps53
    go_wp2
    go_ret
    exact ⟨rfl, rfl⟩

end Go.Proofs.YtpfkokjbpfaafaeDoor

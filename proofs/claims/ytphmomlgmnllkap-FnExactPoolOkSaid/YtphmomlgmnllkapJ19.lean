/-
  The given HolderOf, l11FixedFor, l11Inside.
  The given l11Copy.
  What a call that answers a pool leaves.
  The program's heap: what is put, who is found, who is dropped.
  The program's heap: made of a list, and told in order.
-/
import Derived.Test.YtphmomlgmnllkapJ15
import Derived.Test.YtphmomlgmnllkapJ18
import Derived.Test.YtphmomlgmnllkapJ11
import Derived.Test.YtphmomlgmnllkapJ14
import Derived.Test.YtphmomlgmnllkapJ08
namespace Go.Proofs.Ytphmomlgmnllkap
open Go.RowKit

theorem lease_cells {X : World} {la : Option Addr} {n lc : Nat} {ls : List Ls} (h : layLeaseS.rd X [.slice la n lc] ls) (k : Nat) (l : Ls) (hk : ls[k]? = some l) :
    ∃ g off, la = some ⟨g, off, none⟩ ∧ g < X.heap.size ∧ X.cell? ⟨g, off + k * 3, none⟩ = some (.int .i64 l.1) ∧ X.cell? ⟨g, off + k * 3 + 1, none⟩ = some (.int .i64 l.2.1) ∧ X.cell? ⟨g, off + k * 3 + 2, none⟩ = some (.int .i64 l.2.2) := by
  obtain ⟨g, off, cs, rfl, hg, hr, hc⟩ := rows_elem h k l hk
  rw [layLease_rd] at hr
  subst hr
  exact ⟨g, off, rfl, hg, hc 0 _ rfl, hc 1 _ rfl, hc 2 _ rfl⟩
theorem fixed_cells {X : World} {fa : Option Addr} {n fc : Nat} {fs : List Fx} (h : layFixedS.rd X [.slice fa n fc] fs) (k : Nat) (f : Fx) (hk : fs[k]? = some f) :
    ∃ g off, fa = some ⟨g, off, none⟩ ∧ g < X.heap.size ∧ X.cell? ⟨g, off + k * 2, none⟩ = some (.int .i64 f.1) ∧ X.cell? ⟨g, off + k * 2 + 1, none⟩ = some (.int .i64 f.2) := by
  obtain ⟨g, off, cs, rfl, hg, hr, hc⟩ := rows_elem h k f hk
  rw [layFixed_rd] at hr
  subst hr
  exact ⟨g, off, rfl, hg, hc 0 _ rfl, hc 1 _ rfl⟩

/-- A pool that can be read. -/
structure PoolR (w : World) (lv fv : Value) (ls : List Ls) (fs : List Fx) : Prop where
  leases : layLeaseS.rd w [lv] ls
  fixes : layFixedS.rd w [fv] fs
theorem PoolR.next {w w' : World} {lv fv : Value} {ls : List Ls} {fs : List Fx} (h : PoolR w lv fv ls fs) (hb : Below w.heap.size w w') : PoolR w' lv fv ls fs := ⟨layLeaseS.below h.leases hb, layFixedS.below h.fixes hb⟩

set_option maxRecDepth 100000 in
set_option maxHeartbeats 800000 in
theorem specFixedFor_any (pa pn : Int) (lv fv : Value) (ls : List Ls) (fs : List Fx) (a : Int) (hl : fs.length ≤ 100000000) (w : World) (h : PoolR w lv fv ls fs) :
    Calls Try.prog 47 #[.agg #[.int .i64 pa, .int .i64 pn, lv, fv], .int .i64 a] w fun e w' => e = .returned (.int .i64 (fixedP fs a)) ∧ Below w.heap.size w w' := by
  obtain ⟨la, lc, rfl⟩ := rows_form h.leases
  obtain ⟨fa, fc, rfl⟩ := rows_form h.fixes
  have A0 := Lib.hid (VarA.new w PoolT #[.int .i64 pa, .int .i64 pn, .slice la ls.length lc, .slice fa fs.length fc])
  have hB0 : Below w.heap.size w (w.alloc (.cells #[.int .i64 pa, .int .i64 pn, .slice la ls.length lc, .slice fa fs.length fc] PoolT)) := (Below.refl _ _).alloc (Nat.le_refl _) _
  have HB := Lib.hid hB0
  have HR := Lib.hid (h.next hB0)
  clear h hB0
  go_enter Try.func47, Try.ntmps47
  go_upto_region 1 with fail
  generalize w.alloc (.cells #[.int .i64 pa, .int .i64 pn, .slice la ls.length lc, .slice fa fs.length fc] PoolT) = X0 at *
  have c3 : X0.cell? ⟨w.heap.size, 3, none⟩ = some (.slice fa fs.length fc) := A0.out.cell 3
  go_wp2_with fail
  go_loopw [5] (fun c wr => ∃ k : Nat, k ≤ fs.length ∧ c = .int .i64 k ∧ Hid (∀ j, j < k → ∀ x, fs[j]? = some x → x.2 ≠ a) ∧ wr = X0) (fun c _ => fs.length - (intOf c).toNat)
  case atStart => exact ⟨0, Nat.zero_le _, rfl, fun j hj => absurd hj (by omega), by first | trivial | rfl⟩
  case round =>
    obtain ⟨k, hk, rfl, HN, rfl⟩ := hrel
    by_cases hlt : k < fs.length
    · have hlt' : (k : Int) < (fs.length : Int) := by omega
      have hget : fs[k]? = some fs[k] := List.getElem?_eq_getElem hlt
      obtain ⟨g, off, rfl, hg, d0, d1⟩ := fixed_cells HR.out.fixes k _ hget
      generalize fs[k] = l at hget d0 d1
      obtain ⟨l0, l1⟩ := l
      by_cases hla : l1 = a
      · have hbq : (l1 == a) = true := by rw [beq_iff_eq]; exact hla
        have HE : Hid (fixedP fs a = l0) := fixed_at fs a k (l0, l1) hget HN.out hla
        clear hla hget
        go_wp2_with fail
        go_ret
        exact ⟨congrArg (fun z => Ending.returned (Value.int .i64 z)) HE.out.symm, HB.out⟩
      · have hbq : (l1 == a) = false := by rw [beq_eq_false_iff_ne]; exact hla
        have HN2 : Hid (∀ j, j < k + 1 → ∀ x, fs[j]? = some x → x.2 ≠ a) := fun j hj x hx => by
          rcases Nat.lt_or_ge j k with h1 | h1
          · exact HN.out j h1 x hx
          · have : j = k := by omega
            subst this
            rw [hget] at hx
            cases hx
            exact hla
        clear hla hget
        go_wp2_with fail
        go_roundw
        case rel => exact ⟨k + 1, by omega, by go_num, HN2, by first | trivial | rfl⟩
        case measure => simp [intOf]; omega
    · have hlt' : ¬ ((k : Int) < (fs.length : Int)) := by omega
      have HE : Hid (fixedP fs a = 0) := fixed_none fs a (fun j x hx => HN.out j (by have := (List.getElem?_eq_some_iff.1 hx).1; omega) x hx)
      go_wp2_with fail
      go_ret
      exact ⟨congrArg (fun z => Ending.returned (Value.int .i64 z)) HE.out.symm, HB.out⟩

end Go.Proofs.Ytphmomlgmnllkap
namespace Go.Proofs.Ytphmomlgmnllkap
open Go.RowKit

abbrev LeT : TypeId := 81
abbrev FiT : TypeId := 77
/-- A flat row and a variable of another type lie apart. -/
theorem row_off {α : Type} {A : Lay α} (hf : Flat A) {e T : TypeId} {X : World} {b G : Nat} {f : List Nat} {v : Value} {xs : List α} {cs : Array Value} (h : (Lay.rows e A).own X b f [v] xs) (hv : VarA G T cs X) (hT : T ≠ e) : G ∉ f := by
  obtain ⟨us, ho, _, rfl⟩ := flat_inv hf h
  intro hm
  rcases ho.2 with ⟨rfl, _⟩ | ⟨g', cap, cur, rfl, _, hb, _⟩
  · simp [blk, Value.ownBlock] at hm
  · have : G = g' := by simpa [blk, Value.ownBlock] using hm
    subst this
    rw [hv.row] at hb
    injection hb with hb
    injection hb with _ hb
    exact hT hb
theorem rows_off {α β : Type} {A : Lay α} {B : Lay β} (hf : Flat A) (hf' : Flat B) {e e' : TypeId} {X : World} {b b' : Nat} {f f' : List Nat} {v v' : Value} {xs : List α} {ys : List β} (h : (Lay.rows e A).own X b f [v] xs) (h' : (Lay.rows e' B).own X b' f' [v'] ys) (he : e ≠ e') : ∀ g ∈ f, g ∉ f' := by
  obtain ⟨us, ho, _, rfl⟩ := flat_inv hf h
  obtain ⟨us', ho', _, rfl⟩ := flat_inv hf' h'
  intro g hg hg'
  rcases ho.2 with ⟨rfl, _⟩ | ⟨g1, cap, cur, rfl, _, hb, _⟩
  · simp [blk, Value.ownBlock] at hg
  · rcases ho'.2 with ⟨rfl, _⟩ | ⟨g2, cap2, cur2, rfl, _, hb2, _⟩
    · simp [blk, Value.ownBlock] at hg'
    · have e1 : g = g1 := by simpa [blk, Value.ownBlock] using hg
      have e2 : g = g2 := by simpa [blk, Value.ownBlock] using hg'
      subst e1
      subst e2
      rw [hb] at hb2
      injection hb2 with hb2
      injection hb2 with _ hb2
      exact he hb2

theorem VarA.next' {r : Nat} {t : TypeId} {cs : Array Value} {X Y : World} {b : Nat} (h : VarA r t cs X) (hb : Below b X Y) (hr : r < b) : VarA r t cs Y := ⟨(hb.block r hr).trans h.row⟩
/-- How l11Copy ends. -/
def CopyGives (pa pn : Int) (ls : List Ls) (fs : List Fx) (w : World) (e : Ending) (w' : World) : Prop :=
  ∃ (g gc h hc : Nat), e = .returned (.agg #[.int .i64 pa, .int .i64 pn, .slice (some ⟨g, 0, none⟩) ls.length gc, .slice (some ⟨h, 0, none⟩) fs.length hc]) ∧ layLeaseS.own w' w.heap.size [g] [.slice (some ⟨g, 0, none⟩) ls.length gc] ls ∧ layFixedS.own w' w.heap.size [h] [.slice (some ⟨h, 0, none⟩) fs.length hc] fs ∧ Below w.heap.size w w'

end Go.Proofs.Ytphmomlgmnllkap
namespace Go.Proofs.Ytphmomlgmnllkap
open Go.RowKit

/-- What a call that answers a pool leaves. -/
structure PoolOut (w : World) (lv fv : Value) (rs : List Ls) (fs : List Fx) (w' : World) : Prop where
  lo : ∃ f, layLeaseS.own w' w.heap.size f [lv] rs
  fo : ∃ f, layFixedS.own w' w.heap.size f [fv] fs
  below : Below w.heap.size w w'
theorem PoolOut.pool {w : World} {lv fv : Value} {rs : List Ls} {fs : List Fx} {w' : World} (h : PoolOut w lv fv rs fs w') : PoolR w' lv fv rs fs := by
  obtain ⟨f, hf⟩ := h.lo
  obtain ⟨k, hk⟩ := h.fo
  exact ⟨layLeaseS.read hf, layFixedS.read hk⟩

/-- A pool in its variable. -/
structure PoV (g : Nat) (pa pn : Int) (lv fv : Value) (ls : List Ls) (fs : List Fx) (X : World) : Prop where
  var : VarA g PoolT #[.int .i64 pa, .int .i64 pn, lv, fv] X
  pool : PoolR X lv fv ls fs
theorem PoV.next {g : Nat} {pa pn : Int} {lv fv : Value} {ls : List Ls} {fs : List Fx} {X Y : World} (h : PoV g pa pn lv fv ls fs X) (hb : Below X.heap.size X Y) : PoV g pa pn lv fv ls fs Y := ⟨h.var.next hb, h.pool.next hb⟩
theorem PoV.new {w X : World} {pa pn : Int} {lv fv : Value} {ls : List Ls} {fs : List Fx} (h : PoolOut w lv fv ls fs X) : PoV X.heap.size pa pn lv fv ls fs (X.alloc (.cells #[.int .i64 pa, .int .i64 pn, lv, fv] PoolT)) :=
  ⟨VarA.new X PoolT _, h.pool.next ((Below.refl _ _).alloc (Nat.le_refl _) _)⟩

end Go.Proofs.Ytphmomlgmnllkap
namespace Go.Proofs.Ytphmomlgmnllkap
open Go.RowKit

end Go.Proofs.Ytphmomlgmnllkap
namespace Go.Proofs.Ytphmomlgmnllkap
open Go.RowKit

/-- The leases of a heap. -/
def LeasesIn (nd : Nat → Hd) (ps : List Nat) (L : List Ls) : Prop := ∀ l, l ∈ L ↔ ∃ p ∈ ps, (nd p).1 = l
/-- Ascending by address. -/
abbrev AscL (ls : List Ls) : Prop := ls.Pairwise fun x y => x.1 < y.1
theorem AscL.one {l m : List Ls} (h : AscL l) (k : AscL m) (e : ∀ x, x ∈ l ↔ x ∈ m) : l = m := asc_one (R := fun x y : Ls => x.1 < y.1) (fun _ => Int.lt_irrefl _) (fun h1 h2 => Int.lt_trans h1 h2) h k e
theorem AscL.before {ls : List Ls} (h : AscL ls) {k : Nat} {l : Ls} (hk : ls[k]? = some l) {x : Ls} (hx : x ∈ ls.take k) : x.1 < l.1 := by
  obtain ⟨lk, e⟩ := List.getElem?_eq_some_iff.1 hk
  obtain ⟨j, hj⟩ := List.mem_iff_getElem?.1 hx
  have lj := (List.getElem?_eq_some_iff.1 hj).1
  rw [List.length_take] at lj
  rw [List.getElem?_take, if_pos (by omega)] at hj
  obtain ⟨lj2, e2⟩ := List.getElem?_eq_some_iff.1 hj
  rw [← e, ← e2]
  exact List.pairwise_iff_getElem.1 h j k lj2 lk (by omega)
theorem take_more {α : Type} {ls : List α} {k : Nat} {l : α} (hk : ls[k]? = some l) (x : α) : x ∈ ls.take (k + 1) ↔ x ∈ ls.take k ∨ x = l := by
  obtain ⟨lk, e⟩ := List.getElem?_eq_some_iff.1 hk
  rw [List.take_add_one, hk]
  simp

/-- How long the slice of a variable is. -/
def lenAt (w : World) (b : Nat) : Nat := match w.cell? ⟨b, 0, none⟩ with
  | some (.slice _ n _) => n
  | _ => 0
end Go.Proofs.Ytphmomlgmnllkap

/-
  Rows of records as arguments and as what is written into; no program is spoken of here.
  Plain mathematics of chapter 1's numbers in bytes: 'var n' is the text of a number, seven bits a byte, the lowest first; no program is spoken of here.
  Plain mathematics of chapter 1's numbers read from bytes: the first low byte, the number that some bytes say, and when they are its shortest text; no program is spoken of here.
-/
import Derived.Test.YtdhacjpdlmnlmadDoorJ02
import Derived.Deep.Slices
import Derived.Laws.OwnMore
import Derived.OwnWalk
import Derived.WalkKit
namespace Go.Proofs.YtdhacjpdlmnlmadDoor
open Go.RowKit

/-- A variable of some cells in a block of its own. -/
structure VarA (r : Nat) (t : TypeId) (cs : Array Value) (X : World) : Prop where
  row : X.heap[r]? = some (.cells cs t (0, 0))
theorem VarA.next {r : Nat} {t : TypeId} {cs : Array Value} {X Y : World} (h : VarA r t cs X) (hb : Below X.heap.size X Y) : VarA r t cs Y := ⟨by rw [hb.block r (lt_of_block h.row)]; exact h.row⟩
theorem VarA.drew {r : Nat} {t : TypeId} {cs : Array Value} {X : World} (h : VarA r t cs X) : VarA r t cs X.drew := ⟨h.row⟩
theorem VarA.cell {r : Nat} {t : TypeId} {cs : Array Value} {X : World} (h : VarA r t cs X) (j : Nat) : X.cell? ⟨r, j, none⟩ = cs[j]? := by rw [cell_of_row X r j _ t (0, 0) h.row]
theorem VarA.free {r : Nat} {t : TypeId} {cs : Array Value} {X : World} (h : VarA r t cs X) (j : Nat) : X.frozen? ⟨r, j, none⟩ = false := frozen_of_row X r j _ t h.row
theorem VarA.set {r : Nat} {t : TypeId} {cs : Array Value} {X : World} (h : VarA r t cs X) (j : Nat) (v : Value) : VarA r t (cs.setIfInBounds j v) (X.setCell ⟨r, j, none⟩ v) := ⟨heap_setCell_same X r j cs t v h.row⟩
theorem VarA.only {r q : Nat} {t : TypeId} {cs : Array Value} {X Y : World} (h : VarA r t cs X) (ho : Only q X Y) (hr : r ≠ q) : VarA r t cs Y := ⟨by rw [ho.block r (lt_of_block h.row) hr]; exact h.row⟩
theorem VarA.off {r q : Nat} {t : TypeId} {cs : Array Value} {X : World} (h : VarA r t cs X) (j : Nat) (v : Value) (hr : r ≠ q) : VarA r t cs (X.setCell ⟨q, j, none⟩ v) := h.only (Only.setCell j v) hr
theorem VarA.new (w : World) (t : TypeId) (cs : Array Value) : VarA w.heap.size t cs (w.alloc (.cells cs t)) := ⟨heap_alloc_new w _⟩
theorem VarA.lt {r : Nat} {t : TypeId} {cs : Array Value} {X : World} (h : VarA r t cs X) : r < X.heap.size := lt_of_block h.row
theorem VarA.alloc {r : Nat} {t : TypeId} {cs : Array Value} {X : World} (h : VarA r t cs X) (o : Obj) : VarA r t cs (X.alloc o) := h.next ((Below.refl _ _).alloc (Nat.le_refl _) o)

/-- Several cells of one block, one behind another. -/
def setCells (w : World) (g off : Nat) : List Value → World
  | [] => w
  | v :: vs => setCells (w.setCell ⟨g, off, none⟩ v) g (off + 1) vs
def setL (xs : List Value) (off : Nat) : List Value → List Value
  | [] => xs
  | v :: vs => setL (xs.set off v) (off + 1) vs
theorem setL_mid (vs ys A B : List Value) (h : ys.length = vs.length) : setL (A ++ ys ++ B) A.length vs = A ++ vs ++ B := by
  induction vs generalizing ys A with
  | nil =>
    have : ys = [] := List.length_eq_zero_iff.1 h
    subst this
    rfl
  | cons v vs ih =>
    match ys, h with
    | y :: ys, h =>
      have h1 : ys.length = vs.length := by simpa using h
      have e : (A ++ y :: ys ++ B).set A.length v = (A ++ [v]) ++ ys ++ B := by
        rw [List.append_assoc, List.set_append_right _ _ (Nat.le_refl _)]
        simp
      show setL ((A ++ y :: ys ++ B).set A.length v) (A.length + 1) vs = A ++ v :: vs ++ B
      rw [e]
      have e2 : A.length + 1 = (A ++ [v]).length := by simp
      rw [e2, ih ys (A ++ [v]) h1]
      simp

section
variable {α : Type} {R : Rec α}

theorem Rec.setL_flat (l : List α) (j : Nat) (x : α) (hj : j < l.length) : setL (l.flatMap R.enc) (R.k * j) (R.enc x) = (l.set j x).flatMap R.enc := by
  have e : l = l.take j ++ l[j] :: l.drop (j + 1) := by rw [List.getElem_cons_drop, List.take_append_drop]
  have e1 : l.flatMap R.enc = (l.take j).flatMap R.enc ++ R.enc l[j] ++ (l.drop (j + 1)).flatMap R.enc := by
    conv => lhs; rw [e]
    rw [List.flatMap_append, List.flatMap_cons, List.append_assoc]
  have e2 : (l.set j x).flatMap R.enc = (l.take j).flatMap R.enc ++ R.enc x ++ (l.drop (j + 1)).flatMap R.enc := by
    rw [List.set_eq_take_append_cons_drop, if_pos hj, List.flatMap_append, List.flatMap_cons, List.append_assoc]
  have e3 : R.k * j = ((l.take j).flatMap R.enc).length := by rw [R.flat_length, List.length_take, Nat.min_eq_left (by omega), Nat.mul_comm]
  rw [e1, e2, e3]
  exact setL_mid _ _ _ _ (by rw [R.len, R.len])

theorem grown_trans {w w1 w2 : World} {r : Option Nat} (h : w.grownBy w1 r) (k : w1.grownBy w2 r) : w.grownBy w2 r :=
  ⟨k.os.trans h.os, k.tape.trans h.tape, k.output.trans h.output, Nat.le_trans h.size k.size, fun i hi hc => (k.block i (Nat.lt_of_lt_of_le hi h.size) hc).trans (h.block i hi hc)⟩
theorem grown_below {w w1 w2 : World} {r : Option Nat} (h : w.grownBy w1 r) (k : Below w1.heap.size w1 w2) : w.grownBy w2 r :=
  ⟨k.os.trans h.os, k.tape.trans h.tape, k.output.trans h.output, Nat.le_trans h.size k.size, fun i hi hc => (k.block i (Nat.lt_of_lt_of_le hi h.size)).trans (h.block i hi hc)⟩
theorem below_grown {w w1 : World} {base : Nat} {r : Option Nat} (h : w.grownBy w1 r) (hr : ∀ k, r = some k → base ≤ k) (hs : base ≤ w.heap.size) : Below base w w1 :=
  ⟨h.os, h.tape, h.output, h.size, fun k hk => h.block k (by omega) (fun e => by have := hr k e.symm; omega)⟩

theorem ownsRow_setCells {w : World} {base : Nat} {e : TypeId} {size g n cap : Nat} {xs : List Value} (vs : List Value) (off : Nat) (h : w.ownsRow base e size (.slice (some ⟨g, 0, none⟩) n cap) n xs) :
    (setCells w g off vs).ownsRow base e size (.slice (some ⟨g, 0, none⟩) n cap) n (setL xs off vs) ∧ w.grownBy (setCells w g off vs) (some g) := by
  induction vs generalizing w xs off with
  | nil => exact ⟨h, World.grownBy.refl w _⟩
  | cons v vs ih =>
    have h1 := h.stored off v
    have h2 := ih (off + 1) h1.1
    exact ⟨h2.1, grown_trans h1.2 h2.2⟩

/-- One record of a row is written. -/
theorem OwnR.put {w : World} {base : Nat} {e : TypeId} {g cap : Nat} {l : List α} (h : OwnR R w base e (.slice (some ⟨g, 0, none⟩) l.length cap) l) (j : Nat) (x : α) (hj : j < l.length) :
    OwnR R (setCells w g (R.k * j) (R.enc x)) base e (.slice (some ⟨g, 0, none⟩) l.length cap) (l.set j x) ∧ w.grownBy (setCells w g (R.k * j) (R.enc x)) (some g) := by
  have h1 := ownsRow_setCells (R.enc x) (R.k * j) h
  rw [R.setL_flat l j x hj] at h1
  refine ⟨?_, h1.2⟩
  unfold OwnR
  rw [List.length_set]
  exact h1.1

/-- The row is no other's. -/
theorem OwnR.kept {w w' : World} {base : Nat} {e : TypeId} {v : Value} {l : List α} {r : Option Nat} (h : OwnR R w base e v l) (hg : w.grownBy w' r) (hne : v.ownBlock = none ∨ v.ownBlock ≠ r) : OwnR R w' base e v l := World.ownsRow.kept h hg hne
theorem OwnR.lt {w : World} {base : Nat} {e : TypeId} {v : Value} {l : List α} (h : OwnR R w base e v l) : ∀ k, v.ownBlock = some k → base ≤ k ∧ k < w.heap.size := World.ownsRow.lt h

variable (R) in
/-- An argument that is a row of records: at whatever place of its block it begins. -/
def SrcR (w : World) (a : Option Addr) (xs : List α) : Prop := xs = [] ∨ ∃ b off, a = some ⟨b, off, none⟩ ∧ b < w.heap.size ∧ ∀ j t x, xs[j]? = some x → t < R.k → w.cell? ⟨b, off + (R.k * j + t), none⟩ = (R.enc x)[t]?
theorem SrcR.below {w w' : World} {a : Option Addr} {xs : List α} (h : SrcR R w a xs) (hb : Below w.heap.size w w') : SrcR R w' a xs := by
  rcases h with h | ⟨b, off, ha, hl, hc⟩
  · exact .inl h
  · exact .inr ⟨b, off, ha, Nat.lt_of_lt_of_le hl hb.size, fun j t x hx ht => by rw [hb.cell (p := ⟨b, off + (R.k * j + t), none⟩) hl]; exact hc j t x hx ht⟩
theorem SrcR.form {w : World} {a : Option Addr} {xs : List α} (h : SrcR R w a xs) (hp : 0 < xs.length) : ∃ b off, a = some ⟨b, off, none⟩ ∧ b < w.heap.size ∧ ∀ j t x, xs[j]? = some x → t < R.k → w.cell? ⟨b, off + (R.k * j + t), none⟩ = (R.enc x)[t]? := by
  rcases h with rfl | h
  · exact absurd hp (by simp)
  · exact h

end
theorem made_flat {α : Type} (R : Rec α) (z : α) (cs : Array Value) (hz : cs.toList = R.enc z) (n : Nat) : (madeCells cs (n * R.k)).toList = (List.replicate n z).flatMap R.enc := by
  have hk := R.pos
  have hs : cs.size = R.k := by rw [← R.len z, ← hz, Array.length_toList]
  apply List.ext_getElem?
  intro i
  by_cases hi : i < n * R.k
  · have hj : i / R.k < n := (Nat.div_lt_iff_lt_mul hk).2 hi
    have hx : (List.replicate n z)[i / R.k]? = some z := by rw [List.getElem?_replicate, if_pos hj]
    have h2 := R.flat_get (List.replicate n z) (i / R.k) (i % R.k) z hx (Nat.mod_lt _ hk)
    rw [Nat.div_add_mod] at h2
    rw [h2, ← hz]
    simp [madeCells, hi, hs]
    rw [Array.getElem!_eq_getD, Array.getD_eq_getD_getElem?, Array.getElem?_eq_getElem (by rw [hs]; exact Nat.mod_lt _ hk)]
    simp
  · have h1 : (madeCells cs (n * R.k)).toList.length ≤ i := by simp [madeCells]; omega
    have h2 : ((List.replicate n z).flatMap R.enc).length ≤ i := by rw [R.flat_length]; simp; omega
    rw [List.getElem?_eq_none h1, List.getElem?_eq_none h2]

end Go.Proofs.YtdhacjpdlmnlmadDoor
namespace Go.Proofs.YtdhacjpdlmnlmadDoor

def varF : Nat → Nat → List UInt8
  | 0, n => [UInt8.ofNat n]
  | f + 1, n => if n ≤ 127 then [UInt8.ofNat n] else UInt8.ofNat (n % 128 + 128) :: varF f (n / 128)

def var (n : Nat) : List UInt8 := varF n n

theorem varF_fuel : ∀ (f g n : Nat), n ≤ f → n ≤ g → varF f n = varF g n
  | 0, 0, n, _, _ => rfl
  | 0, g + 1, n, h, _ => by
    have : n = 0 := by omega
    subst this
    simp [varF]
  | f + 1, 0, n, _, h => by
    have : n = 0 := by omega
    subst this
    simp [varF]
  | f + 1, g + 1, n, hf, hg => by
    by_cases h : n ≤ 127
    · simp [varF, h]
    · have h1 : n / 128 ≤ f := by omega
      have h2 : n / 128 ≤ g := by omega
      simp only [varF, if_neg h]
      rw [varF_fuel f g (n / 128) h1 h2]

theorem var_small (n : Nat) (h : n ≤ 127) : var n = [UInt8.ofNat n] := by
  unfold var
  cases n with
  | zero => rfl
  | succ n => simp only [varF, if_pos h]

theorem var_great (n : Nat) (h : 127 < n) : var n = UInt8.ofNat (n % 128 + 128) :: var (n / 128) := by
  unfold var
  obtain ⟨k, rfl⟩ : ∃ k, n = k + 1 := ⟨n - 1, by omega⟩
  have h' : ¬ k + 1 ≤ 127 := by omega
  simp only [varF, if_neg h']
  rw [varF_fuel k ((k + 1) / 128) ((k + 1) / 128) (by omega) (by omega)]

theorem varF_length : ∀ (f n : Nat), (varF f n).length ≤ f + 1
  | 0, n => by simp [varF]
  | f + 1, n => by
    by_cases h : n ≤ 127
    · simp [varF, h]
    · have := varF_length f (n / 128)
      simp only [varF, if_neg h, List.length_cons]
      omega

theorem var_length (n : Nat) : (var n).length ≤ n + 1 := varF_length n n

theorem byte_of (m : Nat) (h : m ≤ 255) : ((UInt8.ofNat m).toNat : Int) = (m : Int) := by
  have : (UInt8.ofNat m).toNat = m := by simp; omega
  omega

end Go.Proofs.YtdhacjpdlmnlmadDoor
namespace Go.Proofs.YtdhacjpdlmnlmadDoor

/-- What bytes say, seven bits a byte, the lowest first. -/
def val : List UInt8 → Nat
  | [] => 0
  | b :: r => b.toNat % 128 + 128 * val r

/-- The place of the first byte below 128 among the first f ones. -/
def low : Nat → List UInt8 → Option Nat
  | 0, _ => none
  | _ + 1, [] => none
  | f + 1, b :: r => if b.toNat < 128 then some 0 else (low f r).map (· + 1)

theorem low_some : ∀ (f : Nat) (t : List UInt8) (k : Nat), low f t = some k → k < f ∧ k < t.length ∧ (∀ i, i < k → 128 ≤ (t.getD i 0).toNat) ∧ (t.getD k 0).toNat < 128
  | 0, _, k, h => by simp [low] at h
  | f + 1, [], k, h => by simp [low] at h
  | f + 1, b :: r, k, h => by
    by_cases hb : b.toNat < 128
    · simp [low, hb] at h
      subst h
      exact ⟨by omega, by simp, by intro i hi; omega, by simpa using hb⟩
    · simp only [low, if_neg hb, Option.map_eq_some_iff] at h
      obtain ⟨j, hj, rfl⟩ := h
      obtain ⟨h1, h2, h3, h4⟩ := low_some f r j hj
      refine ⟨by omega, by simp; omega, ?_, by simpa using h4⟩
      intro i hi
      cases i with
      | zero => simp; omega
      | succ i => simpa using h3 i (by omega)

theorem low_none : ∀ (f : Nat) (t : List UInt8), low f t = none → ∀ k, k < f → k < t.length → 128 ≤ (t.getD k 0).toNat
  | 0, _, _, k, h, _ => by omega
  | f + 1, [], _, k, _, h => by simp at h
  | f + 1, b :: r, h, k, hk, hl => by
    by_cases hb : b.toNat < 128
    · simp [low, hb] at h
    · simp only [low, if_neg hb, Option.map_eq_none_iff] at h
      cases k with
      | zero => simp; omega
      | succ k => simpa using low_none f r h k (by omega) (by simpa using hl)

theorem val_append (a : List UInt8) : ∀ (b : List UInt8), val (a ++ b) = val a + 128 ^ a.length * val b := by
  induction a with
  | nil => intro b; simp [val]
  | cons x a ih =>
    intro b
    simp only [List.cons_append, val, ih, List.length_cons, Nat.pow_succ]
    rw [Nat.mul_add, Nat.mul_comm (128 ^ a.length) 128, Nat.mul_assoc]
    omega

theorem val_lt : ∀ (a : List UInt8), val a < 128 ^ a.length
  | [] => by simp [val]
  | b :: r => by
    have := val_lt r
    simp only [val, List.length_cons, Nat.pow_succ]
    omega

theorem val_take_succ (t : List UInt8) (j : Nat) (h : j < t.length) : val (t.take (j + 1)) = val (t.take j) + (t.getD j 0).toNat % 128 * 128 ^ j := by
  rw [List.take_succ_eq_append_getElem h, val_append]
  have e : (t.take j).length = j := by simp; omega
  have g : t.getD j 0 = t[j] := by simp [h]
  rw [e, g]
  simp only [val, Nat.mul_zero, Nat.add_zero]
  rw [Nat.mul_comm]

theorem val_drop (t : List UInt8) (j : Nat) (h : j < t.length) : val (t.drop j) = val (t.drop (j + 1)) * 128 + (t.getD j 0).toNat % 128 := by
  rw [List.drop_eq_getElem_cons h]
  have g : t.getD j 0 = t[j] := by simp [h]
  rw [g]
  simp only [val]
  omega

/-- The bytes but the last are high, the last is low. -/
def Formed (xs : List UInt8) : Prop := ∃ ys z, xs = ys ++ [z] ∧ (∀ y ∈ ys, 128 ≤ y.toNat) ∧ z.toNat < 128

theorem low_formed (f : Nat) (t : List UInt8) (k : Nat) (h : low f t = some k) : Formed (t.take (k + 1)) := by
  obtain ⟨_, h2, h3, h4⟩ := low_some f t k h
  refine ⟨t.take k, t.getD k 0, ?_, ?_, h4⟩
  · rw [List.take_succ_eq_append_getElem h2]
    simp [h2]
  · intro y hy
    obtain ⟨i, hi, rfl⟩ := List.getElem_of_mem hy
    have hi' : i < k := by simp at hi; omega
    have := h3 i hi'
    rw [List.getElem_take]
    have hl : i < t.length := by omega
    simpa [hl] using this

theorem val_pos (ys : List UInt8) (z : UInt8) (hz : z.toNat < 128) (h0 : z ≠ 0) : 0 < val (ys ++ [z]) := by
  have hz0 : z.toNat ≠ 0 := fun e => h0 (UInt8.toNat_inj.1 (by simpa using e))
  induction ys with
  | nil => simp [val]; omega
  | cons y ys ih => simp only [List.cons_append, val]; omega

theorem ofNat_self (b : UInt8) : UInt8.ofNat b.toNat = b := by simp

theorem var_val : ∀ (ys : List UInt8) (z : UInt8), (∀ y ∈ ys, 128 ≤ y.toNat) → z.toNat < 128 → (ys = [] ∨ z ≠ 0) → var (val (ys ++ [z])) = ys ++ [z]
  | [], z, _, hz, _ => by
    have e : val ([] ++ [z]) = z.toNat := by simp [val]; omega
    rw [e, var_small _ (by omega), ofNat_self]
    rfl
  | y :: ys, z, hy, hz, h0 => by
    have hz0 : z ≠ 0 := by
      rcases h0 with h | h
      · simp at h
      · exact h
    have hp := val_pos ys z hz hz0
    have e : val (y :: ys ++ [z]) = y.toNat % 128 + 128 * val (ys ++ [z]) := rfl
    have hy0 := hy y (by simp)
    have hy1 : y.toNat < 256 := y.toNat_lt
    have hd : val (y :: ys ++ [z]) / 128 = val (ys ++ [z]) := by rw [e]; omega
    have hm : val (y :: ys ++ [z]) % 128 + 128 = y.toNat := by rw [e]; omega
    rw [var_great _ (by rw [e]; omega), hd, hm, ofNat_self, var_val ys z (fun y' h => hy y' (by simp [h])) hz (.inr hz0)]
    rfl

theorem var_last : ∀ (f n : Nat), n ≤ f → 127 < n → ∃ ys z, var n = ys ++ [z] ∧ z ≠ 0
  | 0, n, h, h' => by omega
  | f + 1, n, h, h' => by
    rw [var_great n h']
    by_cases hs : n / 128 ≤ 127
    · rw [var_small _ hs]
      refine ⟨[UInt8.ofNat (n % 128 + 128)], UInt8.ofNat (n / 128), rfl, ?_⟩
      intro e
      have := congrArg UInt8.toNat e
      have h2 : (UInt8.ofNat (n / 128)).toNat = n / 128 := by simp; omega
      rw [h2] at this
      simp at this
      omega
    · obtain ⟨ys, z, e, hz⟩ := var_last f (n / 128) (by omega) (by omega)
      exact ⟨UInt8.ofNat (n % 128 + 128) :: ys, z, by rw [e]; rfl, hz⟩

theorem var_val_not (ys : List UInt8) (n : Nat) (h : ys ≠ []) : var n ≠ ys ++ [0] := by
  intro e
  by_cases hn : n ≤ 127
  · rw [var_small n hn] at e
    have := congrArg List.length e
    simp at this
    exact h this
  · obtain ⟨zs, z, e2, hz⟩ := var_last n n (Nat.le_refl _) (by omega)
    rw [e2] at e
    have := (List.append_inj' e rfl).2
    simp at this
    exact hz this

/-- The bytes up to the first low one are the text of their number, just when they are one byte or the last is not nought. -/
theorem short_iff (f : Nat) (t : List UInt8) (k : Nat) (h : low f t = some k) : var (val (t.take (k + 1))) = t.take (k + 1) ↔ (k = 0 ∨ (t.getD k 0).toNat ≠ 0) := by
  obtain ⟨_, h2, h3, h4⟩ := low_some f t k h
  have e : t.take (k + 1) = t.take k ++ [t.getD k 0] := by
    rw [List.take_succ_eq_append_getElem h2]
    simp [h2]
  have hh : ∀ y ∈ t.take k, 128 ≤ y.toNat := by
    intro y hy
    obtain ⟨i, hi, rfl⟩ := List.getElem_of_mem hy
    have hi' : i < k := by simp at hi; omega
    have := h3 i hi'
    rw [List.getElem_take]
    have hl : i < t.length := by omega
    simpa [hl] using this
  rw [e]
  constructor
  · intro hv
    by_cases hk : k = 0
    · exact .inl hk
    · refine .inr fun h0 => ?_
      have hz : t.getD k 0 = 0 := UInt8.toNat_inj.1 (by simpa using h0)
      rw [hz] at hv
      exact var_val_not (t.take k) _ (by intro hn; simp at hn; rcases hn with hn | hn <;> simp_all) hv
  · intro hv
    refine var_val _ _ hh h4 ?_
    rcases hv with hk | hz
    · left; simp [hk]
    · right; intro hz'; rw [hz'] at hz; simp at hz

theorem val_five (a : List UInt8) (h : a.length ≤ 5) : val a < 34359738368 :=
  Nat.lt_of_lt_of_le (val_lt a) (Nat.pow_le_pow_right (n := 128) (by omega) h)

end Go.Proofs.YtdhacjpdlmnlmadDoor

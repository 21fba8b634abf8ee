/-
  Plain mathematics of signatures: what is signed is found to be signed; two find the same shared number; no program is spoken of here.
  Greetings in plain words: what is said, the transcript, the proof; no program is spoken of here.
  Rows of records: slices whose elements have several cells; no program is spoken of here.
-/
import Derived.Test.YtkjjdoadjhjmbaeGreatDoorJ02
import Derived.Test.YtkjjdoadjhjmbaeGreatDoorJ04
import Derived.Test.YtkjjdoadjhjmbaeGreatDoorJ03
namespace Go.Proofs.YtkjjdoadjhjmbaeGreatDoor
open Go.RowKit

theorem orderV : order = 1073741789 := rfl
theorem primeV : prime = 2147483579 := rfl
/-- A number in four bytes. -/
def numB (n : Nat) : ByteArray := ⟨(four n).toArray⟩
theorem numB_size (n : Nat) : (numB n).size = 4 := rfl
/-- The number of the first four bytes. -/
def firstP (s : ByteArray) : Nat := fourBack (s.extract 0 4).data.toList
theorem firstP_lt (s : ByteArray) : firstP s < 4294967296 := fourBack_lt _
def secretP (seed : ByteArray) : Nat := 1 + firstP (digP (seed ++ ⟨#[115]⟩)) % 1073741788
theorem secretP_in (seed : ByteArray) : 1 ≤ secretP seed ∧ secretP seed ≤ 1073741788 := by unfold secretP; omega
def publicP (secret : Nat) : Nat := powP 4 secret
def chalP (r pub : Nat) (m : ByteArray) : Nat := firstP (digP (numB r ++ numB pub ++ m)) % 1073741789
theorem chalP_lt (r pub : Nat) (m : ByteArray) : chalP r pub m < 1073741789 := Nat.mod_lt _ (by omega)
def keyOfP (secret : Nat) (m : ByteArray) : Nat := secretP (numB secret ++ m)
def signE (secret : Nat) (m : ByteArray) : Nat := chalP (powP 4 (keyOfP secret m)) (publicP secret) m
def signS (secret : Nat) (m : ByteArray) : Nat := (keyOfP secret m + signE secret m * secret % 1073741789) % 1073741789
theorem signE_lt (secret : Nat) (m : ByteArray) : signE secret m < 1073741789 := chalP_lt _ _ _
theorem signS_lt (secret : Nat) (m : ByteArray) : signS secret m < 1073741789 := Nat.mod_lt _ (by omega)
/-- What a signature is held against. -/
def backP (pub E S : Nat) : Nat := powP 4 S * powP pub (1073741789 - E) % prime

/-- A power of Base by the exponent modulo Order. -/
theorem base_mod (x : Nat) : powP 4 (x % 1073741789) = powP 4 x := by
  have h : powP 4 (1073741789 * (x / 1073741789)) = 1 := by
    rw [← powP_mul, ← orderV, base_order, powP_one]
  have e : 1073741789 * (x / 1073741789) + x % 1073741789 = x := Nat.div_add_mod x 1073741789
  have h2 := powP_add 4 (1073741789 * (x / 1073741789)) (x % 1073741789)
  rw [e, h, Nat.one_mul, Nat.mod_eq_of_lt (powP_lt _ _)] at h2
  exact h2
theorem base_same (x y : Nat) (h : x % 1073741789 = y % 1073741789) : powP 4 x = powP 4 y := by rw [← base_mod x, ← base_mod y, h]
theorem back_exp (k e s : Nat) (he : e < 1073741789) : ((k + e * s % 1073741789) % 1073741789 + s * (1073741789 - e)) % 1073741789 = k % 1073741789 := by
  have h1 : s * (1073741789 - e) = s * 1073741789 - e * s := by rw [Nat.mul_sub, Nat.mul_comm s e]
  have h2 : e * s ≤ s * 1073741789 := by rw [Nat.mul_comm e s]; exact Nat.mul_le_mul_left s (by omega)
  rw [h1]
  generalize e * s = y at h2 ⊢
  generalize hz : s * 1073741789 = z at h2 ⊢
  omega
/-- What is signed is found to be signed. -/
theorem back_sign (secret : Nat) (m : ByteArray) : backP (publicP secret) (signE secret m) (signS secret m) = powP 4 (keyOfP secret m) := by
  unfold backP publicP
  rw [powP_mul, powP_add]
  exact base_same _ _ (back_exp _ _ _ (signE_lt secret m))
/-- Two find the same shared number. -/
theorem shared_same (a b : Nat) : powP (publicP b) a = powP (publicP a) b := by
  unfold publicP
  rw [powP_mul, powP_mul, Nat.mul_comm]
theorem prod_not (a b : Nat) (ha0 : a ≠ 0) (ha : a < 1073741789) (hb0 : b ≠ 0) (hb : b < 1073741789) : a * b % 1073741789 ≠ 0 := by
  intro h
  have hd : order ∣ a * b := Nat.dvd_of_mod_eq_zero h
  have hg : Nat.gcd order a = 1 := by
    rcases order_prime _ (Nat.gcd_dvd_left order a) with h1 | h1
    · exact h1
    · have h2 := Nat.gcd_dvd_right order a
      rw [h1] at h2
      have h3 := Nat.le_of_dvd (by omega) h2
      rw [orderV] at h3
      omega
  have hb2 : order ∣ b := Nat.Coprime.dvd_of_dvd_mul_left hg hd
  have h3 := Nat.le_of_dvd (by omega) hb2
  rw [orderV] at h3
  omega
theorem powI_pow (n : Nat) (h : n ≤ 2147483579) : powI 4 (n : Nat) = powP 4 n := by rw [powI_nat 4 n h, modP_four]
theorem public_in (a : Nat) (h0 : a ≠ 0) (h1 : a < 1073741789) : inGroup (publicP a : Nat) = true := by
  have h := pow_in a h0 h1
  rw [powI_pow a (by omega)] at h
  exact h
theorem shared_in (a b : Nat) (ha0 : a ≠ 0) (ha : a < 1073741789) (hb0 : b ≠ 0) (hb : b < 1073741789) : inGroup (powP (publicP b) a : Nat) = true := by
  unfold publicP
  rw [powP_mul, ← base_mod]
  exact public_in _ (by rw [Nat.mul_comm]; exact prod_not a b ha0 ha hb0 hb) (Nat.mod_lt _ (by omega))

end Go.Proofs.YtkjjdoadjhjmbaeGreatDoor
namespace Go.Proofs.YtkjjdoadjhjmbaeGreatDoor
open Go.RowKit

/-- A number in one byte. -/
def byteZ (n : Int) : UInt8 := UInt8.ofNat (n % 256).toNat
theorem byteZ_nat (n : Int) : ((byteZ n).toNat : Int) = n % 256 := by
  unfold byteZ
  rw [UInt8.toNat_ofNat']
  omega
def oneB (n : Int) : ByteArray := ⟨#[byteZ n]⟩
/-- Whether a number is a secret. -/
def SecretIn (s : Int) : Prop := 1 ≤ s ∧ s ≤ 1073741788
/-- The public number of any number. -/
def PubIs (s : Int) (p : Nat) : Prop := (SecretIn s ∧ p = publicP s.toNat) ∨ (¬ SecretIn s ∧ p = 0)
theorem pub_is (s : Int) : ∃ p, PubIs s p := by
  by_cases h : SecretIn s
  · exact ⟨_, .inl ⟨h, rfl⟩⟩
  · exact ⟨_, .inr ⟨h, rfl⟩⟩
theorem pub_lt {s : Int} {p : Nat} (h : PubIs s p) : p < 4294967296 := by
  rcases h with ⟨_, rfl⟩ | ⟨_, rfl⟩
  · have h1 : publicP s.toNat < prime := Nat.mod_lt _ (by decide)
    have h2 : prime = 2147483579 := rfl
    omega
  · omega
/-- What a greeter says first. -/
def helloB (role : Int) (p : Nat) : ByteArray := (⟨#[104]⟩ : ByteArray) ++ oneB role ++ numB p
/-- What was said, that of the first one first. -/
def transB (role : Int) (mine yours : ByteArray) : ByteArray := if role = 1 then mine ++ yours else yours ++ mine
theorem trans_size (role : Int) (mine yours : ByteArray) : (transB role mine yours).size = mine.size + yours.size := by
  unfold transB
  split <;> rw [ByteArray.size_append]
  exact Nat.add_comm _ _

/-- The signature by any number. -/
def SigIs (secret : Int) (m : ByteArray) (E S : Nat) : Prop := (SecretIn secret ∧ E = signE secret.toNat m ∧ S = signS secret.toNat m) ∨ (¬ SecretIn secret ∧ E = 0 ∧ S = 0)
theorem sig_is (secret : Int) (m : ByteArray) : ∃ E S, SigIs secret m E S := by
  by_cases h : SecretIn secret
  · exact ⟨_, _, .inl ⟨h, rfl, rfl⟩⟩
  · exact ⟨_, _, .inr ⟨h, rfl, rfl⟩⟩
theorem sig_lt {secret : Int} {m : ByteArray} {E S : Nat} (h : SigIs secret m E S) : E < 1073741789 ∧ S < 1073741789 := by
  rcases h with ⟨_, rfl, rfl⟩ | ⟨_, rfl, rfl⟩
  · exact ⟨Nat.mod_lt _ (by decide), Nat.mod_lt _ (by decide)⟩
  · exact ⟨by omega, by omega⟩
/-- What is told as a proof. -/
def ProofIs (role secret step : Int) (mine yours t : ByteArray) : Prop :=
  ((step = 2 ∨ step = 3) ∧ ∃ E S, SigIs secret (transB role mine yours ++ oneB role) E S ∧ t = (⟨#[112]⟩ : ByteArray) ++ (numB E ++ numB S)) ∨ (¬ (step = 2 ∨ step = 3) ∧ t = ⟨#[]⟩)
theorem proof_is (role secret step : Int) (mine yours : ByteArray) : ∃ t, ProofIs role secret step mine yours t := by
  by_cases h : step = 2 ∨ step = 3
  · obtain ⟨E, S, hs⟩ := sig_is secret (transB role mine yours ++ oneB role)
    exact ⟨_, .inl ⟨h, E, S, hs, rfl⟩⟩
  · exact ⟨_, .inr ⟨h, rfl⟩⟩
/-- The number of the other one's hello, and whether it is one. -/
def OtherIs (G : Int → Bool) (role : Int) (s : ByteArray) (n : Nat) (ok : Bool) : Prop :=
  (∃ r : ByteArray, r.size = 4 ∧ s = (⟨#[104]⟩ : ByteArray) ++ oneB (3 - role) ++ r ∧ n = fourBack r.data.toList ∧ ok = G (n : Int)) ∨ ((∀ r : ByteArray, r.size = 4 → s ≠ (⟨#[104]⟩ : ByteArray) ++ oneB (3 - role) ++ r) ∧ n = 0 ∧ ok = false)
theorem other_is (G : Int → Bool) (role : Int) (s : ByteArray) : ∃ n ok, OtherIs G role s n ok := by
  by_cases h : ∃ r : ByteArray, r.size = 4 ∧ s = (⟨#[104]⟩ : ByteArray) ++ oneB (3 - role) ++ r
  · obtain ⟨r, h1, h2⟩ := h
    exact ⟨_, _, .inl ⟨r, h1, h2, rfl, rfl⟩⟩
  · exact ⟨0, false, .inr ⟨fun r h1 h2 => h ⟨r, h1, h2⟩, rfl, rfl⟩⟩

end Go.Proofs.YtkjjdoadjhjmbaeGreatDoor
namespace Go.Proofs.YtkjjdoadjhjmbaeGreatDoor
open Go.RowKit

/-- How a record lies in cells. -/
structure Rec (α : Type) where
  k : Nat
  enc : α → List Value
  len : ∀ x, (enc x).length = k
  one : ∀ x, ∀ u ∈ enc x, u.oneCell' = true
  pos : 0 < k

/-- What is told of a type of records, in parts. -/
theorem info_rec {P : Program} {t : TypeId} {n b : Nat} (h : (P.info? t).map (fun i => (i.zero.map (·.cells.size), i.size, i.bytes)) = some (some n, n, b)) : ∃ (i : TypeInfo) (z : Value), P.info? t = some i ∧ i.zero = some z ∧ z.cells.size = n ∧ i.size = n ∧ i.bytes = b := by
  cases hi : P.info? t with
  | none => simp [hi] at h
  | some i =>
    simp [hi] at h
    obtain ⟨⟨z, hz, hn⟩, hs, hb⟩ := h
    exact ⟨i, z, rfl, hz, hn, hs, hb⟩
theorem filter_take {α : Type} (p : α → Bool) (xs : List α) (k : Nat) (h : k < xs.length) : (xs.take (k + 1)).filter p = (xs.take k).filter p ++ (if p xs[k] = true then [xs[k]] else []) := by
  rw [List.take_add_one, List.getElem?_eq_getElem h, List.filter_append]
  congr 1
  show List.filter p [xs[k]] = _
  rw [List.filter_cons]
  split <;> simp_all

section
variable {α : Type} (R : Rec α)

theorem Rec.flat_length (xs : List α) : (xs.flatMap R.enc).length = xs.length * R.k := by
  induction xs with
  | nil => simp
  | cons x xs ih => rw [List.flatMap_cons, List.length_append, R.len, ih, List.length_cons, Nat.add_mul, Nat.one_mul, Nat.add_comm]
theorem Rec.flat_get (xs : List α) (j t : Nat) (x : α) (hx : xs[j]? = some x) (ht : t < R.k) : (xs.flatMap R.enc)[R.k * j + t]? = (R.enc x)[t]? := by
  induction xs generalizing j with
  | nil => simp at hx
  | cons y ys ih =>
    rw [List.flatMap_cons]
    cases j with
    | zero =>
      simp at hx
      subst hx
      rw [List.getElem?_append_left (by rw [R.len]; omega)]
      simp
    | succ j =>
      have e : R.k * (j + 1) + t = (R.enc y).length + (R.k * j + t) := by rw [R.len, Nat.mul_add, Nat.mul_one]; omega
      rw [e, List.getElem?_append_right (by omega), Nat.add_sub_cancel_left]
      exact ih j (by simpa using hx)

/-- The slice value v is nil or the call's own (from block 'base' on), and holds these records. -/
def OwnR (w : World) (base : Nat) (e : TypeId) (v : Value) (xs : List α) : Prop := w.ownsRow base e R.k v xs.length (xs.flatMap R.enc)
variable {R}

theorem OwnR.nil (w : World) (base : Nat) (e : TypeId) : OwnR R w base e (.slice none 0 0) [] := ⟨by simp, .inl ⟨rfl, rfl⟩⟩
theorem OwnR.lit (w : World) (base : Nat) (e : TypeId) (hb : base ≤ w.heap.size) : OwnR R (w.alloc (.cells #[] e)) base e (.slice (some ⟨w.heap.size, 0, none⟩) 0 0) [] :=
  World.ownsRow_lit w #[] 0 hb (by decide) (by simp)
theorem OwnR.alloc {w : World} {base : Nat} {e : TypeId} {v : Value} {xs : List α} (h : OwnR R w base e v xs) (o : Obj) : OwnR R (w.alloc o) base e v xs := World.ownsRow.alloc h o
theorem OwnR.lower {w : World} {base base' : Nat} {e : TypeId} {v : Value} {xs : List α} (h : OwnR R w base e v xs) (hb : base' ≤ base) : OwnR R w base' e v xs := by
  refine ⟨h.1, ?_⟩
  rcases h.2 with h | ⟨g, cap, cur, h1, h2, h3⟩
  · exact .inl h
  · exact .inr ⟨g, cap, cur, h1, Nat.le_trans hb h2, h3⟩
theorem OwnR.below {w w' : World} {base : Nat} {e : TypeId} {v : Value} {xs : List α} (h : OwnR R w base e v xs) (hb : Below w.heap.size w w') : OwnR R w' base e v xs := by
  refine ⟨h.1, ?_⟩
  rcases h.2 with h | ⟨g, cap, cur, h1, h2, h3, h4⟩
  · exact .inl h
  · exact .inr ⟨g, cap, cur, h1, h2, by rw [hb.block g (lt_of_block h3)]; exact h3, h4⟩
theorem OwnR.only {c : Nat} {w w' : World} {base : Nat} {e : TypeId} {v : Value} {xs : List α} (h : OwnR R w base e v xs) (ho : Only c w w') (hc : c < base) : OwnR R w' base e v xs := by
  refine ⟨h.1, ?_⟩
  rcases h.2 with hn | ⟨g, cap, cur, hv, hb, hg, rest⟩
  · exact .inl hn
  · exact .inr ⟨g, cap, cur, hv, hb, by rw [ho.block g (lt_of_block hg) (by omega)]; exact hg, rest⟩
/-- The shape of an owned row of records, and its cells. -/
theorem OwnR.form {w : World} {base : Nat} {e : TypeId} {v : Value} {xs : List α} (h : OwnR R w base e v xs) : ∃ ao cap, v = .slice ao xs.length cap ∧
    (0 < xs.length → ∃ g, ao = some ⟨g, 0, none⟩ ∧ base ≤ g ∧ g < w.heap.size ∧ ∀ j t x, xs[j]? = some x → t < R.k → w.cell? ⟨g, R.k * j + t, none⟩ = (R.enc x)[t]? ∧ w.frozen? ⟨g, R.k * j + t, none⟩ = false) := by
  have h' : w.ownsRow base e R.k v xs.length (xs.flatMap R.enc) := h
  rcases h'.2 with ⟨rfl, h0⟩ | ⟨g, cap, cur, rfl, hb, hh, _, _, _, _⟩
  · exact ⟨none, 0, by rw [h0], fun hp => by omega⟩
  · refine ⟨_, cap, rfl, fun _ => ⟨g, rfl, hb, lt_of_block hh, fun j t x hx ht => ⟨?_, h'.frozenAt _⟩⟩⟩
    have hj : j < xs.length := (List.getElem?_eq_some_iff.1 hx).1
    have hlt : R.k * j + t < xs.length * R.k := by
      have h1 : R.k * j + R.k ≤ R.k * xs.length := by rw [← Nat.mul_succ]; exact Nat.mul_le_mul_left _ hj
      rw [Nat.mul_comm xs.length]
      omega
    rw [h'.cellAt _ hlt]
    exact R.flat_get xs j t x hx ht

variable (R) in
/-- A slice that can be read: nil, or its records lie in one block, from its head on. -/
def RowR (w : World) (v : Value) (xs : List α) : Prop := (v = .slice none 0 0 ∧ xs = []) ∨ ∃ g cap, v = .slice (some ⟨g, 0, none⟩) xs.length cap ∧ g < w.heap.size ∧ ∀ j t x, xs[j]? = some x → t < R.k → w.cell? ⟨g, R.k * j + t, none⟩ = (R.enc x)[t]?
theorem OwnR.row {w : World} {base : Nat} {e : TypeId} {v : Value} {xs : List α} (h : OwnR R w base e v xs) : RowR R w v xs := by
  have h' : w.ownsRow base e R.k v xs.length (xs.flatMap R.enc) := h
  rcases h'.2 with ⟨rfl, h0⟩ | ⟨g, cap, cur, rfl, hb, hh, _, _, _, _⟩
  · exact .inl ⟨rfl, List.length_eq_zero_iff.1 h0⟩
  · refine .inr ⟨g, cap, rfl, lt_of_block hh, fun j t x hx ht => ?_⟩
    have hj : j < xs.length := (List.getElem?_eq_some_iff.1 hx).1
    have hlt : R.k * j + t < xs.length * R.k := by
      have h1 : R.k * j + R.k ≤ R.k * xs.length := by rw [← Nat.mul_succ]; exact Nat.mul_le_mul_left _ hj
      rw [Nat.mul_comm xs.length]
      omega
    rw [h'.cellAt _ hlt]
    exact R.flat_get xs j t x hx ht
theorem RowR.below {w w' : World} {v : Value} {xs : List α} (h : RowR R w v xs) (hb : Below w.heap.size w w') : RowR R w' v xs := by
  rcases h with h | ⟨g, cap, hv, h3, h4⟩
  · exact .inl h
  · exact .inr ⟨g, cap, hv, Nat.lt_of_lt_of_le h3 hb.size, fun j t x hx ht => by rw [hb.cell (p := ⟨g, R.k * j + t, none⟩) h3]; exact h4 j t x hx ht⟩
theorem RowR.form {w : World} {v : Value} {xs : List α} (h : RowR R w v xs) : ∃ ao cap, v = .slice ao xs.length cap ∧ (0 < xs.length → ∃ g, ao = some ⟨g, 0, none⟩ ∧ g < w.heap.size ∧ ∀ j t x, xs[j]? = some x → t < R.k → w.cell? ⟨g, R.k * j + t, none⟩ = (R.enc x)[t]?) := by
  rcases h with ⟨rfl, rfl⟩ | ⟨g, cap, hv, h3, h4⟩
  · exact ⟨none, 0, rfl, fun h => absurd h (by simp)⟩
  · exact ⟨_, cap, hv, fun _ => ⟨g, rfl, h3, h4⟩⟩
/-- The cells of a row that can be read, one by one. -/
theorem Rec.flat_cells {w : World} {g : Nat} {xs : List α} (h : ∀ j t x, xs[j]? = some x → t < R.k → w.cell? ⟨g, R.k * j + t, none⟩ = (R.enc x)[t]?) (i : Nat) (u : Value) (hu : (xs.flatMap R.enc)[i]? = some u) : w.cell? ⟨g, i, none⟩ = some u := by
  have hi : i < xs.length * R.k := by rw [← R.flat_length xs]; exact (List.getElem?_eq_some_iff.1 hu).1
  have hk := R.pos
  have hj : i / R.k < xs.length := (Nat.div_lt_iff_lt_mul hk).2 hi
  have hx : xs[i / R.k]? = some xs[i / R.k] := List.getElem?_eq_getElem hj
  have ht : i % R.k < R.k := Nat.mod_lt _ hk
  have e : R.k * (i / R.k) + i % R.k = i := Nat.div_add_mod i R.k
  have h1 := h _ _ _ hx ht
  have h2 := R.flat_get xs _ _ _ hx ht
  rw [e] at h1 h2
  rw [h1, ← h2, hu]

/-- 'append(out, list...)': out a row of records of the call's own, list one that can be read. -/
theorem wpList_copyR {P : Program} (w : World) {ops : Array Oper} {rest : List Oper} {o : Oper} {a : Act} {Q : Exit → Act → World → Prop} (hgd : o.guard = none) (s x : Operand) (t : TypeId)
    (ho : o.op = .call { callee := .builtin .append, args := #[s, x], argTypes := #[t, t] })
    (base : Nat) (e : TypeId) (i : TypeInfo) (z : Value) (bytes : Nat) (ht : P.underlying t = some (.slice e)) (hi : P.info? e = some i) (hz : i.zero = some z)
    (hsize : i.size = R.k) (hby : i.bytes = bytes) (hzs : z.cells.size = R.k) (hb1 : bytes ≤ 1000) (v : Value) (xs : List α) (hs : a.eval s = v) (hown : OwnR R w base e v xs)
    (g cap : Nat) (ys : List α) (hx : a.eval x = .slice (some ⟨g, 0, none⟩) ys.length cap) (hys : ∀ j t x, ys[j]? = some x → t < R.k → w.cell? ⟨g, R.k * j + t, none⟩ = (R.enc x)[t]?)
    (hlen : xs.length + ys.length ≤ 1000000000) (hbase : base ≤ w.heap.size)
    (h : ∀ v' w', OwnR R w' base e v' (xs ++ ys) → Below base w w' → wpList P ops Q rest (a.put o.dst v') w') :
    wpList P ops Q (o :: rest) a w := by
  refine wpList_append_own w hgd s x t ho base e i z R.k bytes ht hi hz hsize hby hzs R.pos v xs.length (xs.flatMap R.enc) hs hown ⟨g, 0, none⟩ ys.length cap (ys.flatMap R.enc) hx (R.flat_length ys) ?_ ?_ (by unfold maxLen; omega) ?_ hbase ?_
  · intro j u hj
    have e1 : (⟨g, 0, none⟩ : Addr).add j = ⟨g, j, none⟩ := by unfold Addr.add; split <;> simp_all
    rw [e1]
    exact Rec.flat_cells hys j u hj
  · intro u hu
    obtain ⟨y, _, hy⟩ := List.mem_flatMap.1 hu
    exact R.one y u hy
  · have h1 : (xs.length + ys.length) * bytes ≤ 1000000000 * 1000 := Nat.mul_le_mul hlen hb1
    omega
  · intro v' w' h1 h2 _
    refine h v' w' ?_ ?_
    · unfold OwnR
      rw [List.length_append, List.flatMap_append]
      exact h1
    · exact (Below.refl base w).grown h2 hbase (fun k hk => (World.ownsRow.lt hown k hk).1)

/-- 'out = append(out, x)': out a row of records of the call's own. -/
theorem wpList_pushR {P : Program} (w : World) {ops : Array Oper} {rest : List Oper} {o : Oper} {a : Act} {Q : Exit → Act → World → Prop} (hgd : o.guard = none) (s x : Operand) (t : TypeId)
    (ho : o.op = .call { callee := .builtin .append, args := #[s, x], argTypes := #[t, t] })
    (base : Nat) (e : TypeId) (i : TypeInfo) (z : Value) (bytes : Nat) (ht : P.underlying t = some (.slice e)) (hi : P.info? e = some i) (hz : i.zero = some z)
    (hsize : i.size = R.k) (hby : i.bytes = bytes) (hzs : z.cells.size = R.k) (hb1 : bytes ≤ 1000) (v : Value) (xs : List α) (hs : a.eval s = v) (hown : OwnR R w base e v xs)
    (y : α) (cs : Array Value) (hcs : cs.toList = R.enc y) (hx : a.eval x = .slice (some ⟨w.heap.size, 0, none⟩) 1 1)
    (hlen : xs.length + 1 ≤ 1000000000) (hbase : base ≤ w.heap.size)
    (h : ∀ v' w', OwnR R w' base e v' (xs ++ [y]) → Below base w w' → wpList P ops Q rest (a.put o.dst v') w') :
    wpList P ops Q (o :: rest) a (w.alloc (.cells cs e)) := by
  refine wpList_append_own (w.alloc (.cells cs e)) hgd s x t ho base e i z R.k bytes ht hi hz hsize hby hzs R.pos v xs.length (xs.flatMap R.enc) hs (World.ownsRow.alloc hown _) ⟨w.heap.size, 0, none⟩ 1 1 (R.enc y) hx (by rw [R.len, Nat.one_mul]) ?_ (R.one y) (by unfold maxLen; omega) ?_ (by simp; omega) ?_
  · intro j u hj
    have e1 : (⟨w.heap.size, 0, none⟩ : Addr).add j = ⟨w.heap.size, j, none⟩ := by unfold Addr.add; split <;> simp_all
    rw [e1, cell_of_row (w.alloc (.cells cs e)) w.heap.size j cs e (0, 0) (heap_alloc_new w _)]
    rw [← hcs] at hj
    simpa using hj
  · have h1 : (xs.length + 1) * bytes ≤ 1000000000 * 1000 := Nat.mul_le_mul hlen hb1
    omega
  · intro v' w' h1 h2 _
    refine h v' w' ?_ ?_
    · unfold OwnR
      rw [List.length_append, List.flatMap_append, List.flatMap_cons, List.flatMap_nil, List.append_nil]
      exact h1
    · exact ((Below.refl base w).alloc hbase _).grown h2 (by simp; omega) (fun k hk => (World.ownsRow.lt hown k hk).1)

end
end Go.Proofs.YtkjjdoadjhjmbaeGreatDoor

/-
  A signature's bytes, and back.
  What the program's functions of signatures give: the contracts by name; both sides tell the same.
-/
import Derived.Test.YtkjjdoadjhjmbauGreatDoorJ03
import Derived.Test.YtkjjdoadjhjmbauGreatDoorJ20
import Derived.Test.YtkjjdoadjhjmbauGreatDoorJ15
namespace Go.Proofs.YtkjjdoadjhjmbauGreatDoor
open Go.RowKit

theorem sig_halves (text : ByteArray) (h : text.size = 8) : text.extract 0 4 ++ text.extract 4 8 = text := by
  apply ByteArray.ext
  apply Array.ext'
  rw [ByteArray.data_append, Array.toList_append, ByteArray.data_extract, ByteArray.data_extract, Array.toList_extract, Array.toList_extract, List.extract_eq_take_drop, List.extract_eq_take_drop]
  have hl : text.data.toList.length = 8 := by simpa using h
  have e : List.take (8 - 4) (List.drop 4 text.data.toList) = List.drop 4 text.data.toList := List.take_of_length_le (by simp; omega)
  rw [e]
  show List.take 4 text.data.toList ++ _ = _
  exact List.take_append_drop 4 _
theorem four_back (a b c d : UInt8) : four (fourNum a b c d) = [a, b, c, d] := by
  have ha := a.toNat_lt
  have hb := b.toNat_lt
  have hc := c.toNat_lt
  have hd := d.toNat_lt
  have e : ∀ (x : UInt8) (n : Nat), n % 256 = x.toNat → UInt8.ofNat n = x := fun x n h => by
    apply UInt8.toNat_inj.1
    rw [UInt8.toNat_ofNat']
    exact h
  unfold four fourNum
  rw [e a _ (by omega), e b _ (by omega), e c _ (by omega), e d _ (by omega)]
theorem numB_back (l : ByteArray) (h : l.size = 4) : numB (fourBack l.data.toList) = l := by
  obtain ⟨a, b, c, d, rfl⟩ := four_bytes l h
  apply ByteArray.ext
  apply Array.ext'
  show four (fourBack [a, b, c, d]) = [a, b, c, d]
  exact four_back a b c d
theorem numB_lt {n m : Nat} (hn : n < 4294967296) (hm : m < 4294967296) (h : numB n = numB m) : n = m := by
  have h2 := congrArg (fun b : ByteArray => fourBack b.data.toList) h
  have e1 : fourBack (numB n).data.toList = n := fourBack_four n hn
  have e2 : fourBack (numB m).data.toList = m := fourBack_four m hm
  exact e1.symm.trans (h2.trans e2)
/-- What is read of bytes as a signature. -/
def SigReadIs (text : ByteArray) (E S : Nat) (b : Bool) : Prop := (b = true ∧ E < 1073741789 ∧ S < 1073741789 ∧ text = numB E ++ numB S) ∨ (b = false ∧ E = 0 ∧ S = 0 ∧ ∀ E S : Nat, E < 1073741789 → S < 1073741789 → text ≠ numB E ++ numB S)
theorem sig_read (text : ByteArray) : ∃ E S b, SigReadIs text E S b := by
  by_cases h : ∃ E S : Nat, E < 1073741789 ∧ S < 1073741789 ∧ text = numB E ++ numB S
  · obtain ⟨E, S, h1, h2, h3⟩ := h
    exact ⟨E, S, true, .inl ⟨rfl, h1, h2, h3⟩⟩
  · exact ⟨0, 0, false, .inr ⟨rfl, rfl, rfl, fun E S h1 h2 h3 => h ⟨E, S, h1, h2, h3⟩⟩⟩
theorem sig_left (E S : Nat) : (numB E ++ numB S).extract 0 4 = numB E := ByteArray.extract_append_eq_left (numB_size E).symm
theorem sig_right (E S : Nat) : (numB E ++ numB S).extract 4 8 = numB S := ByteArray.extract_append_eq_right (numB_size E).symm (by rw [numB_size, numB_size])

end Go.Proofs.YtkjjdoadjhjmbauGreatDoor
namespace Go.Proofs.YtkjjdoadjhjmbauGreatDoor
open Go.RowKit

/-- The program's functions of signatures answer what the plain functions say. -/
structure SignFns : Prop where
  secret : ∀ seed : ByteArray, seed.size ≤ 300000000 → ∀ X, LaidK X → Calls Tryz.prog 56 #[.string seed] X fun e X' => e = .returned (.int .i64 (secretP seed : Nat)) ∧ Below X.heap.size X X'
  pub_yes : ∀ s : Nat, 1 ≤ s → s ≤ 1073741788 → ∀ X, Calls Tryz.prog 55 #[.int .i64 s] X fun e X' => e = .returned (.int .i64 (publicP s : Nat)) ∧ Below X.heap.size X X'
  chal_yes : ∀ (r p : Nat) (m : ByteArray), r < 4294967296 → p < 4294967296 → m.size ≤ 300000000 → ∀ X, LaidK X → Calls Tryz.prog 94 #[.int .i64 r, .int .i64 p, .string m] X fun e X' => e = .returned (.int .i64 (chalP r p m : Nat)) ∧ Below X.heap.size X X'
  chal_no : ∀ (r p : Int) (m : ByteArray), (r < 0 ∨ 4294967295 < r) ∨ (p < 0 ∨ 4294967295 < p) → ∀ X, LaidK X → Calls Tryz.prog 94 #[.int .i64 r, .int .i64 p, .string m] X fun e X' => e = .returned (.int .i64 0) ∧ Below X.heap.size X X'
  sign_yes : ∀ (secret : Nat) (m : ByteArray), 1 ≤ secret → secret ≤ 1073741788 → m.size ≤ 300000000 → ∀ X, LaidK X → Calls Tryz.prog 75 #[.int .i64 secret, .string m] X fun e X' => e = .returned (.tuple #[.agg #[.int .i64 (signE secret m : Nat), .int .i64 (signS secret m : Nat)], .bool true]) ∧ Below X.heap.size X X'
  sign_no : ∀ (secret : Int) (m : ByteArray), secret < 1 ∨ 1073741788 < secret → ∀ X, LaidK X → Calls Tryz.prog 75 #[.int .i64 secret, .string m] X fun e X' => e = .returned (.tuple #[.agg #[.int .i64 0, .int .i64 0], .bool false]) ∧ Below X.heap.size X X'
  check_group : ∀ (p : Int) (m : ByteArray) (E S : Int), inGroup p = false → ∀ X, LaidK X → Calls Tryz.prog 80 #[.int .i64 p, .string m, .agg #[.int .i64 E, .int .i64 S]] X fun e X' => e = .returned (.bool false) ∧ Below X.heap.size X X'
  check_sig : ∀ (p : Int) (m : ByteArray) (E S : Int), inGroup p = true → (E < 0 ∨ 1073741788 < E) ∨ (S < 0 ∨ 1073741788 < S) → ∀ X, LaidK X → Calls Tryz.prog 80 #[.int .i64 p, .string m, .agg #[.int .i64 E, .int .i64 S]] X fun e X' => e = .returned (.bool false) ∧ Below X.heap.size X X'
  check_in : ∀ (p : Nat) (m : ByteArray) (E S : Nat), inGroup (p : Nat) = true → E < 1073741789 → S < 1073741789 → m.size ≤ 300000000 → ∀ X, LaidK X → Calls Tryz.prog 80 #[.int .i64 p, .string m, .agg #[.int .i64 E, .int .i64 S]] X fun e X' => e = .returned (.bool ((E : Int) == (chalP (backP p E S) p m : Nat))) ∧ Below X.heap.size X X'
  sig_yes : ∀ E S : Nat, E < 1073741789 → S < 1073741789 → ∀ X, Calls Tryz.prog 77 #[.agg #[.int .i64 E, .int .i64 S]] X fun e X' => e = .returned (.tuple #[.string (numB E ++ numB S), .bool true]) ∧ Below X.heap.size X X'
  sig_no : ∀ E S : Int, (E < 0 ∨ 1073741788 < E) ∨ (S < 0 ∨ 1073741788 < S) → ∀ X, Calls Tryz.prog 77 #[.agg #[.int .i64 E, .int .i64 S]] X fun e X' => e = .returned (.tuple #[.string ⟨#[]⟩, .bool false]) ∧ Below X.heap.size X X'
  read_size : ∀ text : ByteArray, text.size ≠ 8 → ∀ X, Calls Tryz.prog 79 #[.string text] X fun e X' => e = .returned (.tuple #[.agg #[.int .i64 0, .int .i64 0], .bool false]) ∧ Below X.heap.size X X'
  read_eight : ∀ (text l r : ByteArray), text.size = 8 → text.extract 0 4 = l → text.extract 4 8 = r → ∀ v : Value, ((fourBack l.data.toList < 1073741789 ∧ fourBack r.data.toList < 1073741789 ∧ v = .tuple #[.agg #[.int .i64 (fourBack l.data.toList : Nat), .int .i64 (fourBack r.data.toList : Nat)], .bool true]) ∨ ((1073741789 ≤ fourBack l.data.toList ∨ 1073741789 ≤ fourBack r.data.toList) ∧ v = .tuple #[.agg #[.int .i64 0, .int .i64 0], .bool false])) → ∀ X, Calls Tryz.prog 79 #[.string text] X fun e X' => e = .returned v ∧ Below X.heap.size X X'

theorem check_both (F : SignFns) (p : Int) (m : ByteArray) (E S : Int) (hm : m.size ≤ 300000000) : ∃ b : Bool,
    (∀ X, LaidK X → Calls Tryz.prog 80 #[.int .i64 p, .string m, .agg #[.int .i64 E, .int .i64 S]] X fun e X' => e = .returned (.bool b) ∧ Below X.heap.size X X') ∧
    (∀ X, Calls Tryz.prog 25 #[.int .i64 p, .string m, .agg #[.int .i64 E, .int .i64 S]] X fun e X' => e = .returned (.bool b) ∧ Below X.heap.size X X') := by
  cases hg : inGroup p
  · exact ⟨_, F.check_group p m E S hg, specCheck_group p m E S hg⟩
  · by_cases h : (E < 0 ∨ 1073741788 < E) ∨ (S < 0 ∨ 1073741788 < S)
    · exact ⟨_, F.check_sig p m E S hg h, specCheck_sig p m E S hg h⟩
    · have hr := inGroup_range p hg
      obtain ⟨P, rfl⟩ : ∃ n : Nat, p = (n : Int) := ⟨p.toNat, by omega⟩
      obtain ⟨e, rfl⟩ : ∃ n : Nat, E = (n : Int) := ⟨E.toNat, by omega⟩
      obtain ⟨s, rfl⟩ : ∃ n : Nat, S = (n : Int) := ⟨S.toNat, by omega⟩
      exact ⟨_, F.check_in P m e s hg (by omega) (by omega) hm, specCheck_in P m e s hg (by omega) (by omega) hm⟩
theorem chal_both (F : SignFns) (r p : Int) (m : ByteArray) (hm : m.size ≤ 300000000) : ∃ c : Int,
    (∀ X, LaidK X → Calls Tryz.prog 94 #[.int .i64 r, .int .i64 p, .string m] X fun e X' => e = .returned (.int .i64 c) ∧ Below X.heap.size X X') ∧
    (∀ X, Calls Tryz.prog 48 #[.int .i64 r, .int .i64 p, .string m] X fun e X' => e = .returned (.int .i64 c) ∧ Below X.heap.size X X') := by
  by_cases h : (r < 0 ∨ 4294967295 < r) ∨ (p < 0 ∨ 4294967295 < p)
  · refine ⟨0, F.chal_no r p m h, fun X => (specChallenge_no r p m h X).mono ?_⟩
    rintro e Y ⟨rfl, rfl⟩
    exact ⟨rfl, Below.refl _ _⟩
  · obtain ⟨R, rfl⟩ : ∃ n : Nat, r = (n : Int) := ⟨r.toNat, by omega⟩
    obtain ⟨P, rfl⟩ : ∃ n : Nat, p = (n : Int) := ⟨p.toNat, by omega⟩
    exact ⟨_, F.chal_yes R P m (by omega) (by omega) hm, specChallenge_yes R P m (by omega) (by omega) (by omega)⟩
/-- Bytes that are a signature are the bytes of it; both tell the same. -/
theorem read_both (F : SignFns) (text : ByteArray) : ∃ (E S : Int) (b : Bool) (t : ByteArray) (o : Bool),
    (∀ X, Calls Tryz.prog 79 #[.string text] X fun e X' => e = .returned (.tuple #[.agg #[.int .i64 E, .int .i64 S], .bool b]) ∧ Below X.heap.size X X') ∧
    (∀ X, Calls Tryz.prog 24 #[.string text] X fun e X' => e = .returned (.tuple #[.agg #[.int .i64 E, .int .i64 S], .bool b]) ∧ Below X.heap.size X X') ∧
    (∀ X, Calls Tryz.prog 77 #[.agg #[.int .i64 E, .int .i64 S]] X fun e X' => e = .returned (.tuple #[.string t, .bool o]) ∧ Below X.heap.size X X') ∧ (b = true → t = text) := by
  have z : ∀ X, Calls Tryz.prog 77 #[.agg #[.int .i64 0, .int .i64 0]] X fun e X' => e = .returned (.tuple #[.string (numB 0 ++ numB 0), .bool true]) ∧ Below X.heap.size X X' := F.sig_yes 0 0 (by omega) (by omega)
  by_cases h8 : text.size = 8
  · obtain ⟨l, hl⟩ : ∃ l, text.extract 0 4 = l := ⟨_, rfl⟩
    obtain ⟨r, hr⟩ : ∃ r, text.extract 4 8 = r := ⟨_, rfl⟩
    have zl : l.size = 4 := by rw [← hl, ByteArray.size_extract]; omega
    have zr : r.size = 4 := by rw [← hr, ByteArray.size_extract]; omega
    by_cases h : fourBack l.data.toList < 1073741789 ∧ fourBack r.data.toList < 1073741789
    · refine ⟨_, _, _, _, _, F.read_eight text l r h8 hl hr _ (.inl ⟨h.1, h.2, rfl⟩), specReadSig_eight text l r h8 hl hr _ (.inl ⟨h.1, h.2, rfl⟩), F.sig_yes _ _ h.1 h.2, fun _ => ?_⟩
      rw [numB_back l zl, numB_back r zr, ← hl, ← hr]
      exact sig_halves text h8
    · have h2 : 1073741789 ≤ fourBack l.data.toList ∨ 1073741789 ≤ fourBack r.data.toList := by omega
      exact ⟨_, _, _, _, _, F.read_eight text l r h8 hl hr _ (.inr ⟨h2, rfl⟩), specReadSig_eight text l r h8 hl hr _ (.inr ⟨h2, rfl⟩), z, fun h => by cases h⟩
  · exact ⟨_, _, _, _, _, F.read_size text h8, specReadSig_size text h8, z, fun h => by cases h⟩

end Go.Proofs.YtkjjdoadjhjmbauGreatDoor

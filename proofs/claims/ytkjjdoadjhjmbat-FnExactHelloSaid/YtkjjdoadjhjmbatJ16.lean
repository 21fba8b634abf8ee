/-
  The given signatures: signed, checked, as bytes.
  The given CheckText and SharedOf.
  The program's PublicOf and SharedOf: what they answer.
  Whether a greeter is made, and what Hello answers, in plain words.
  A signature's bytes, and back.
  The program's hellos: how one is written, what number one has, whether a text is one of a Role.
  The program's steps of a greeting: types behind one interface; which step a number is, and how a greeter goes to one.
  How a greeter goes to the step behind its Hello.
-/
import Derived.Test.YtkjjdoadjhjmbatJ15
import Derived.Deep.RegionHeld3
import Derived.BigQuiet
import Derived.Deep.QuietTactic
import Derived.Test.YtkjjdoadjhjmbatJ05
import Derived.Test.YtkjjdoadjhjmbatJ11
import Derived.Test.YtkjjdoadjhjmbatJ12
import Derived.Test.YtkjjdoadjhjmbatJ07
import Derived.Test.YtkjjdoadjhjmbatRows
import Derived.Handy
namespace Go.Proofs.Ytkjjdoadjhjmbat
open Go.RowKit

theorem powP_few (b e : Nat) : powP b e < 2147483579 := powP_lt b e
/-- A signature as one value. -/
def sigV (e s : Int) : Value := .agg #[.int .i64 e, .int .i64 s]

/-- Whether a signature is right in its bounds. -/
def SigIn (E S : Int) : Prop := (0 ≤ E ∧ E ≤ 1073741788) ∧ (0 ≤ S ∧ S ≤ 1073741788)

/-- Two variables of two cells: the result, and another. -/
structure PQ (w : World) (t : TypeId) (a b : Value) (x y : Value) (X : World) : Prop where
  one : PV w t a b X
  two : VarP (w.heap.size + 1) t x y X
theorem PQ.next {w : World} {t : TypeId} {a b x y : Value} {X Y : World} (h : PQ w t a b x y X) (hb : Below X.heap.size X Y) : PQ w t a b x y Y := ⟨h.one.next hb, h.two.next hb⟩

theorem PQ.set0 {w : World} {t : TypeId} {a b x y : Value} {X : World} (h : PQ w t a b x y X) (x' : Value) : PQ w t a b x' y (X.setCell ⟨w.heap.size + 1, 0, none⟩ x') :=
  ⟨⟨h.one.v.only (Only.setCell 0 x') (by omega), h.one.below.trans ((Only.setCell (c := w.heap.size + 1) 0 x').below (by omega) h.one.below.size)⟩, h.two.set0 x'⟩
theorem PQ.set1 {w : World} {t : TypeId} {a b x y : Value} {X : World} (h : PQ w t a b x y X) (y' : Value) : PQ w t a b x y' (X.setCell ⟨w.heap.size + 1, 1, none⟩ y') :=
  ⟨⟨h.one.v.only (Only.setCell 1 y') (by omega), h.one.below.trans ((Only.setCell (c := w.heap.size + 1) 1 y').below (by omega) h.one.below.size)⟩, h.two.set1 y'⟩
theorem PQ.new (w : World) (t : TypeId) (a b x y : Value) : PQ w t a b x y ((w.alloc (.cells #[a, b] t)).alloc (.cells #[x, y] t)) := by
  refine ⟨(PV.new w t a b).next ((Below.refl _ _).alloc (Nat.le_refl _) _), ?_⟩
  have h := VarP.new (w.alloc (.cells #[a, b] t)) t x y
  have e : (w.alloc (.cells #[a, b] t)).heap.size = w.heap.size + 1 := by simp
  rw [e] at h
  exact h

end Go.Proofs.Ytkjjdoadjhjmbat
namespace Go.Proofs.Ytkjjdoadjhjmbat
open Go.RowKit

theorem inGroup_range (y : Int) (h : inGroup y = true) : 2 ≤ y ∧ y < 2147483579 := by
  unfold inGroup inGroupOf at h
  simp only [Bool.and_eq_true, decide_eq_true_eq] at h
  exact ⟨h.1, h.2.1⟩
theorem mulP_nat (x y : Nat) (hx : x < prime) (hy : y < prime) : mulP (x : Nat) (y : Nat) = x * y % prime := by
  unfold mulP
  rw [modP_nat, modP_nat, Nat.mod_eq_of_lt hx, Nat.mod_eq_of_lt hy]
theorem powI_of (b n : Nat) (hb : b < prime) (h : n ≤ 2147483579) : powI (b : Nat) (n : Nat) = powP b n := by
  rw [powI_nat _ n h, modP_nat, Nat.mod_eq_of_lt hb]
theorem backP_lt (p E S : Nat) : backP p E S < 2147483579 := Nat.mod_lt _ (by decide)

end Go.Proofs.Ytkjjdoadjhjmbat
namespace Go.Proofs.Ytkjjdoadjhjmbat
open Go.RowKit

set_option maxRecDepth 100000 in
set_option maxHeartbeats 400000 in
theorem isSecret_yes (s : Int) (h1 : 1 ≤ s) (h2 : s ≤ 1073741788) (w : World) :
    Calls Try.prog 56 #[.int .i64 s] w fun e w' => e = .returned (.bool true) ∧ w' = w := by
  have h3 : s < 1073741789 := by omega
  go_enter Try.func56, Try.ntmps56
  go_wp2
  go_ret
  exact ⟨rfl, rfl⟩

set_option maxRecDepth 100000 in
set_option maxHeartbeats 400000 in
theorem isSecret_no (s : Int) (h : s < 1 ∨ 1073741788 < s) (w : World) :
    Calls Try.prog 56 #[.int .i64 s] w fun e w' => e = .returned (.bool false) ∧ w' = w := by
  by_cases h1 : 1 ≤ s
  · have h3 : ¬ (s < 1073741789) := by omega
    clear h
    have h4 : decide (s < 1073741789) = false := decide_eq_false h3
    go_enter Try.func56, Try.ntmps56
    go_wp2
    go_ret
    exact ⟨rfl, rfl⟩
  · clear h
    go_enter Try.func56, Try.ntmps56
    go_wp2
    go_ret
    exact ⟨rfl, rfl⟩

set_option maxRecDepth 100000 in
set_option maxHeartbeats 400000 in
theorem implPublicOf_yes (s : Nat) (h1 : 1 ≤ s) (h2 : s ≤ 1073741788) (w : World) :
    Calls Try.prog 41 #[.int .i64 s] w fun e w' => e = .returned (.int .i64 (publicP s : Nat)) ∧ Below w.heap.size w w' := by
  have H0 := Lib.hid (isSecret_yes (s : Int) (by omega) (by omega))
  have hp := implPowP_any 4 (s : Int)
  have e1 : powI 4 (s : Nat) = publicP s := powI_pow s (by omega)
  rw [e1] at hp
  have HP := Lib.hid hp
  generalize publicP s = p at HP
  clear hp e1
  go_enter Try.func41, Try.ntmps41
  go_wp2_with fail
  refine (H0.out _).mono ?_
  rintro e w1 ⟨rfl, rfl⟩
  go_wp2_with fail
  refine (HP.out _).mono ?_
  rintro e w2 ⟨rfl, hb2⟩
  have HB2 := Lib.hid hb2
  clear hb2
  go_wp2_with fail
  go_ret
  exact ⟨rfl, HB2.out⟩

set_option maxRecDepth 100000 in
set_option maxHeartbeats 400000 in
theorem implPublicOf_no (s : Int) (h : s < 1 ∨ 1073741788 < s) (w : World) :
    Calls Try.prog 41 #[.int .i64 s] w fun e w' => e = .returned (.int .i64 0) ∧ Below w.heap.size w w' := by
  have H0 := Lib.hid (isSecret_no s h)
  clear h
  go_enter Try.func41, Try.ntmps41
  go_wp2_with fail
  refine (H0.out _).mono ?_
  rintro e w1 ⟨rfl, rfl⟩
  go_wp2_with fail
  go_ret
  exact ⟨rfl, Below.refl _ _⟩

end Go.Proofs.Ytkjjdoadjhjmbat
namespace Go.Proofs.Ytkjjdoadjhjmbat
open Go.RowKit

/-- Whether a greeter is made. -/
def NewP (role pin : Int) : Prop := (1 ≤ role ∧ role ≤ 2) ∧ inGroup pin = true
/-- What Hello answers. -/
def HelloIs (x0 x3 x4 : Int) (x5 : ByteArray) (y4 : Int) (y5 t : ByteArray) : Prop := (x4 = 0 ∧ y4 = 1 ∧ ∃ p, PubIs x3 p ∧ y5 = helloB x0 p ∧ t = y5) ∨ (x4 ≠ 0 ∧ y4 = x4 ∧ y5 = x5 ∧ t = ⟨#[]⟩)
theorem hello_is (x0 x3 x4 : Int) (x5 : ByteArray) : ∃ y4 y5 t, HelloIs x0 x3 x4 x5 y4 y5 t := by
  by_cases h : x4 = 0
  · obtain ⟨p, hp⟩ := pub_is x3
    exact ⟨_, _, _, .inl ⟨h, rfl, p, hp, rfl, rfl⟩⟩
  · exact ⟨_, _, _, .inr ⟨h, rfl, rfl, rfl⟩⟩

end Go.Proofs.Ytkjjdoadjhjmbat
namespace Go.Proofs.Ytkjjdoadjhjmbat
open Go.RowKit

theorem sig_halves (text : ByteArray) (h : text.size = 8) : text.extract 0 4 ++ text.extract 4 8 = text := by
  apply ByteArray.ext
  apply Array.ext'
  rw [ByteArray.data_append, Array.toList_append, ByteArray.data_extract, ByteArray.data_extract, Array.toList_extract, Array.toList_extract, List.extract_eq_take_drop, List.extract_eq_take_drop]
  have hl : text.data.toList.length = 8 := by simpa using h
  have e : List.take (8 - 4) (List.drop 4 text.data.toList) = List.drop 4 text.data.toList := List.take_of_length_le (by simp; omega)
  rw [e]
  show List.take 4 text.data.toList ++ _ = _
  exact List.take_append_drop 4 _
theorem four_back (a b c d : UInt8) : four (fourNum a b c d) = [a, b, c, d] := by
  have ha := a.toNat_lt
  have hb := b.toNat_lt
  have hc := c.toNat_lt
  have hd := d.toNat_lt
  have e : ∀ (x : UInt8) (n : Nat), n % 256 = x.toNat → UInt8.ofNat n = x := fun x n h => by
    apply UInt8.toNat_inj.1
    rw [UInt8.toNat_ofNat']
    exact h
  unfold four fourNum
  rw [e a _ (by omega), e b _ (by omega), e c _ (by omega), e d _ (by omega)]
theorem numB_back (l : ByteArray) (h : l.size = 4) : numB (fourBack l.data.toList) = l := by
  obtain ⟨a, b, c, d, rfl⟩ := four_bytes l h
  apply ByteArray.ext
  apply Array.ext'
  show four (fourBack [a, b, c, d]) = [a, b, c, d]
  exact four_back a b c d
theorem numB_lt {n m : Nat} (hn : n < 4294967296) (hm : m < 4294967296) (h : numB n = numB m) : n = m := by
  have h2 := congrArg (fun b : ByteArray => fourBack b.data.toList) h
  have e1 : fourBack (numB n).data.toList = n := fourBack_four n hn
  have e2 : fourBack (numB m).data.toList = m := fourBack_four m hm
  exact e1.symm.trans (h2.trans e2)
/-- What is read of bytes as a signature. -/
def SigReadIs (text : ByteArray) (E S : Nat) (b : Bool) : Prop := (b = true ∧ E < 1073741789 ∧ S < 1073741789 ∧ text = numB E ++ numB S) ∨ (b = false ∧ E = 0 ∧ S = 0 ∧ ∀ E S : Nat, E < 1073741789 → S < 1073741789 → text ≠ numB E ++ numB S)
theorem sig_read (text : ByteArray) : ∃ E S b, SigReadIs text E S b := by
  by_cases h : ∃ E S : Nat, E < 1073741789 ∧ S < 1073741789 ∧ text = numB E ++ numB S
  · obtain ⟨E, S, h1, h2, h3⟩ := h
    exact ⟨E, S, true, .inl ⟨rfl, h1, h2, h3⟩⟩
  · exact ⟨0, 0, false, .inr ⟨rfl, rfl, rfl, fun E S h1 h2 h3 => h ⟨E, S, h1, h2, h3⟩⟩⟩
theorem sig_left (E S : Nat) : (numB E ++ numB S).extract 0 4 = numB E := ByteArray.extract_append_eq_left (numB_size E).symm
theorem sig_right (E S : Nat) : (numB E ++ numB S).extract 4 8 = numB S := ByteArray.extract_append_eq_right (numB_size E).symm (by rw [numB_size, numB_size])

end Go.Proofs.Ytkjjdoadjhjmbat
namespace Go.Proofs.Ytkjjdoadjhjmbat
open Go.RowKit

theorem implPublic_any (s : Int) (p : Nat) (h : PubIs s p) (w : World) : Calls Try.prog 41 #[.int .i64 s] w fun e w' => e = .returned (.int .i64 (p : Nat)) ∧ Below w.heap.size w w' := by
  rcases h with ⟨⟨h1, h2⟩, rfl⟩ | ⟨h, rfl⟩
  · obtain ⟨k, rfl⟩ : ∃ k : Nat, s = k := ⟨s.toNat, by omega⟩
    exact implPublicOf_yes k (by omega) (by omega) w
  · exact implPublicOf_no s (by unfold SecretIn at h; omega) w

set_option maxRecDepth 100000 in
set_option maxHeartbeats 800000 in
theorem helloText_any (role : Int) (p : Nat) (hp : p < 4294967296) (w : World) :
    Calls Try.prog 40 #[.int .i64 role, .int .i64 (p : Nat)] w fun e w' => e = .returned (.string (helloB role p)) ∧ Below w.heap.size w w' := by
  obtain ⟨ob, OB⟩ : ∃ b, Hid (b = oneB role) := ⟨_, Lib.hid rfl⟩
  obtain ⟨nb, NB⟩ : ∃ b, Hid (b = numB p) := ⟨_, Lib.hid rfl⟩
  obtain ⟨y5, HM⟩ : ∃ b, Hid (b = helloB role p) := ⟨_, Lib.hid rfl⟩
  have hm : (⟨#[104]⟩ : ByteArray) ++ ob ++ nb = y5 := by rw [OB.out, NB.out, HM.out]; rfl
  have zo : ob.size = 1 := by rw [OB.out]; rfl
  have zn : nb.size = 4 := by rw [NB.out]; rfl
  have zh : (⟨#[104]⟩ : ByteArray).size = 1 := rfl
  have m1 : ∀ X, (Op.stringOp .add (⟨#[104]⟩ : ByteArray) ob).run Try.prog X = .ok (.string ((⟨#[104]⟩ : ByteArray) ++ ob)) X := fun X => run_string_add_sum X _ ob (by rw [zh]; omega)
  have m2 : ∀ X, (Op.stringOp .add ((⟨#[104]⟩ : ByteArray) ++ ob) nb).run Try.prog X = .ok (.string ((⟨#[104]⟩ : ByteArray) ++ ob ++ nb)) X := fun X => run_string_add_sum X _ nb (by rw [ByteArray.size_append, zh]; omega)
  rw [hm] at m2
  clear hm zo zn zh
  have K1 := Lib.hid (roleByte_any role w)
  rw [← OB.out] at K1
  rw [← HM.out]
  go_enter Try.func40, Try.ntmps40
  go_wp2_with fail
  refine K1.out.mono ?_
  rintro e Y1 ⟨rfl, hb⟩
  have B1 := Lib.hid hb
  have K2 := Lib.hid (implNumberText_yes p hp Y1)
  rw [show (⟨(four p).toArray⟩ : ByteArray) = numB p from rfl, ← NB.out] at K2
  clear hb K1
  go_wp2_with fail
  refine K2.out.mono ?_
  rintro e Y2 ⟨rfl, hb⟩
  have B2 := Lib.hid (B1.out.trans (hb.mono B1.out.size))
  clear hb K2
  go_wp2_with fail
  go_ret
  exact ⟨rfl, B2.out⟩

/-- The number that stands behind two bytes of a text, 0 without one. -/
def helloN (s : ByteArray) : Nat := if s.size = 6 then fourBack (s.extract 2 6).data.toList else 0

end Go.Proofs.Ytkjjdoadjhjmbat
namespace Go.Proofs.Ytkjjdoadjhjmbat
open Go.RowKit

abbrev StNewT : TypeId := 60
abbrev StSaidT : TypeId := 67
abbrev StHeardT : TypeId := 76
abbrev StUpT : TypeId := 77
abbrev StBadT : TypeId := 78
/-- The type of a number's step. -/
def stepT (k : Int) : TypeId := if k = 0 then StNewT else if k = 1 then StSaidT else if k = 2 then StHeardT else if k = 3 then StUpT else StBadT
theorem stepT_bad {k : Int} (h0 : k ≠ 0) (h1 : k ≠ 1) (h2 : k ≠ 2) (h3 : k ≠ 3) : stepT k = StBadT := by
  unfold stepT
  rw [if_neg h0, if_neg h1, if_neg h2, if_neg h3]

set_option maxRecDepth 100000 in
theorem stepOf_any (k : Int) (w : World) : Calls Try.prog 39 #[.int .i64 k] w fun e w' => e = .returned (.iface (stepT k) (.agg #[])) ∧ w' = w := by
  by_cases h0 : k = 0
  · subst h0
    go_enter Try.func39, Try.ntmps39
    go_wp2_with fail
    go_ret
    exact ⟨rfl, rfl⟩
  have k0 : (k == 0) = false := beq_eq_false_iff_ne.2 h0
  by_cases h1 : k = 1
  · subst h1
    clear h0
    go_enter Try.func39, Try.ntmps39
    go_wp2_with fail
    go_ret
    exact ⟨rfl, rfl⟩
  have k1 : (k == 1) = false := beq_eq_false_iff_ne.2 h1
  by_cases h2 : k = 2
  · subst h2
    clear h0 h1
    go_enter Try.func39, Try.ntmps39
    go_wp2_with fail
    go_ret
    exact ⟨rfl, rfl⟩
  have k2 : (k == 2) = false := beq_eq_false_iff_ne.2 h2
  by_cases h3 : k = 3
  · subst h3
    clear h0 h1 h2
    go_enter Try.func39, Try.ntmps39
    go_wp2_with fail
    go_ret
    exact ⟨rfl, rfl⟩
  have k3 : (k == 3) = false := beq_eq_false_iff_ne.2 h3
  have e := Lib.hid (stepT_bad h0 h1 h2 h3)
  clear h0 h1 h2 h3
  go_enter Try.func39, Try.ntmps39
  go_wp2_with fail
  go_ret
  refine ⟨?_, rfl⟩
  rw [e.out]
  rfl

abbrev StepIT : TypeId := 63
theorem assertNew_New (w : World) : (Instr.typeAssert (.iface StNewT (.agg #[])) StepIT StNewT true).run Try.prog w = .ok (.tuple #[.agg #[], .bool true]) w := by kernel_rfl
theorem assertNew_Said (w : World) : (Instr.typeAssert (.iface StSaidT (.agg #[])) StepIT StNewT true).run Try.prog w = .ok (.tuple #[.agg #[], .bool false]) w := by kernel_rfl
theorem assertNew_Heard (w : World) : (Instr.typeAssert (.iface StHeardT (.agg #[])) StepIT StNewT true).run Try.prog w = .ok (.tuple #[.agg #[], .bool false]) w := by kernel_rfl
theorem assertNew_Up (w : World) : (Instr.typeAssert (.iface StUpT (.agg #[])) StepIT StNewT true).run Try.prog w = .ok (.tuple #[.agg #[], .bool false]) w := by kernel_rfl
theorem assertNew_Bad (w : World) : (Instr.typeAssert (.iface StBadT (.agg #[])) StepIT StNewT true).run Try.prog w = .ok (.tuple #[.agg #[], .bool false]) w := by kernel_rfl
theorem assertSaid_New (w : World) : (Instr.typeAssert (.iface StNewT (.agg #[])) StepIT StSaidT true).run Try.prog w = .ok (.tuple #[.agg #[], .bool false]) w := by kernel_rfl
theorem assertSaid_Said (w : World) : (Instr.typeAssert (.iface StSaidT (.agg #[])) StepIT StSaidT true).run Try.prog w = .ok (.tuple #[.agg #[], .bool true]) w := by kernel_rfl
theorem assertSaid_Heard (w : World) : (Instr.typeAssert (.iface StHeardT (.agg #[])) StepIT StSaidT true).run Try.prog w = .ok (.tuple #[.agg #[], .bool false]) w := by kernel_rfl
theorem assertSaid_Up (w : World) : (Instr.typeAssert (.iface StUpT (.agg #[])) StepIT StSaidT true).run Try.prog w = .ok (.tuple #[.agg #[], .bool false]) w := by kernel_rfl
theorem assertSaid_Bad (w : World) : (Instr.typeAssert (.iface StBadT (.agg #[])) StepIT StSaidT true).run Try.prog w = .ok (.tuple #[.agg #[], .bool false]) w := by kernel_rfl
theorem assertHeard_New (w : World) : (Instr.typeAssert (.iface StNewT (.agg #[])) StepIT StHeardT true).run Try.prog w = .ok (.tuple #[.agg #[], .bool false]) w := by kernel_rfl
theorem assertHeard_Said (w : World) : (Instr.typeAssert (.iface StSaidT (.agg #[])) StepIT StHeardT true).run Try.prog w = .ok (.tuple #[.agg #[], .bool false]) w := by kernel_rfl
theorem assertHeard_Heard (w : World) : (Instr.typeAssert (.iface StHeardT (.agg #[])) StepIT StHeardT true).run Try.prog w = .ok (.tuple #[.agg #[], .bool true]) w := by kernel_rfl
theorem assertHeard_Up (w : World) : (Instr.typeAssert (.iface StUpT (.agg #[])) StepIT StHeardT true).run Try.prog w = .ok (.tuple #[.agg #[], .bool false]) w := by kernel_rfl
theorem assertHeard_Bad (w : World) : (Instr.typeAssert (.iface StBadT (.agg #[])) StepIT StHeardT true).run Try.prog w = .ok (.tuple #[.agg #[], .bool false]) w := by kernel_rfl
theorem assertUp_New (w : World) : (Instr.typeAssert (.iface StNewT (.agg #[])) StepIT StUpT true).run Try.prog w = .ok (.tuple #[.agg #[], .bool false]) w := by kernel_rfl
theorem assertUp_Said (w : World) : (Instr.typeAssert (.iface StSaidT (.agg #[])) StepIT StUpT true).run Try.prog w = .ok (.tuple #[.agg #[], .bool false]) w := by kernel_rfl
theorem assertUp_Heard (w : World) : (Instr.typeAssert (.iface StHeardT (.agg #[])) StepIT StUpT true).run Try.prog w = .ok (.tuple #[.agg #[], .bool false]) w := by kernel_rfl
theorem assertUp_Up (w : World) : (Instr.typeAssert (.iface StUpT (.agg #[])) StepIT StUpT true).run Try.prog w = .ok (.tuple #[.agg #[], .bool true]) w := by kernel_rfl
theorem assertUp_Bad (w : World) : (Instr.typeAssert (.iface StBadT (.agg #[])) StepIT StUpT true).run Try.prog w = .ok (.tuple #[.agg #[], .bool false]) w := by kernel_rfl

end Go.Proofs.Ytkjjdoadjhjmbat
namespace Go.Proofs.Ytkjjdoadjhjmbat
open Go.RowKit

/-- A step's number. -/
def NumEnd (k : Int) (X : World) (e : Ending) (Y : World) : Prop := e = .returned (.int .i64 k) ∧ Below X.heap.size X Y
/-- A greeter has gone to a step. -/
def WentTo (G : Nat) (k : Int) (X : World) (e : Ending) (Y : World) : Prop := e = .returned (.tuple #[]) ∧ ∃ Z, Below X.heap.size X Z ∧ Y = Z.setCell ⟨G, 4, none⟩ (.int .i64 k)
theorem number_said (X : World) : Calls Try.prog 83 #[.agg #[]] X (NumEnd 1 X) := by
  have B0 := Lib.hid ((Below.refl X.heap.size X).alloc (Nat.le_refl _) (.cells #[] StSaidT))
  go_enter Try.func83, Try.ntmps83
  go_wp2_with fail
  go_ret
  exact ⟨rfl, B0.out⟩
section
variable (G : Nat) (T : TypeId) (cs : Array Value) (v : Value) (X : World) (hv : VarA G T cs X) (hc : cs[4]? = some v)
include hv hc
theorem goTo_said : Calls Try.prog 42 #[.pointer (some ⟨G, 0, none⟩), .iface StSaidT (.agg #[])] X (WentTo G 1 X) := by
  have HV := Lib.hid hv
  have HC := Lib.hid hc
  clear hv hc
  have K := Lib.hid (number_said X)
  obtain ⟨Q, HQ⟩ : ∃ Q : Ending → World → Prop, Hid (Q = WentTo G 1 X) := ⟨_, Lib.hid rfl⟩
  rw [← HQ.out]
  go_enter Try.func42, Try.ntmps42
  go_wp2_with fail
  refine K.out.mono ?_
  rintro e Z ⟨rfl, hb⟩
  have V9 := HV.out.next hb
  have c4 : Z.cell? ⟨G, 4, none⟩ = some v := (V9.cell 4).trans HC.out
  have f4 := V9.free 4
  have E : Hid (Q (.returned (.tuple #[])) (Z.setCell ⟨G, 4, none⟩ (.int .i64 1))) := Lib.hid (by rw [HQ.out]; exact ⟨rfl, Z, hb, rfl⟩)
  clear V9 hb
  go_wp2_with fail
  exact bodyPost_end (results_none rfl _ _ _) rfl E.out
end

end Go.Proofs.Ytkjjdoadjhjmbat

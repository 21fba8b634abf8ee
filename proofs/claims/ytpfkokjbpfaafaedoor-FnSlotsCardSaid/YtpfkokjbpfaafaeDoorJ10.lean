/-
  The library's contracts laid at this translation, in plain words: each is one application.
  What the library's Clone gives the copies of slots.
  Numbers that are taken once, in plain words; no program is spoken of here.
  Right numbers that were seen, one behind another; no program is spoken of here.
-/
import Derived.Shelf.Strings.Builder1
import Derived.Shelf.Strings.Builder2
import Derived.Shelf.Strings.BuilderF
import Derived.Shelf.Strings.BuilderK
import Derived.Shelf.Strings.Builder2Cap
import Derived.Shelf.LaysM
import Derived.Shelf.Strconv.Clone
import Derived.Shelf.Strings.Prefix
import Derived.Shelf.Bits.Mul64
import Derived.Shelf.Strings.Repeat
import Derived.Shelf.Strings.BuilderCap
import Derived.Test.YtpfkokjbpfaafaeDoorProg
import Derived.Test.YtpfkokjbpfaafaeDoorJ09
import Derived.Test.YtpfkokjbpfaafaeDoorRows
namespace Go.Proofs
open Go.Shelf
def Tryd.lays170_ren : Go.Shelf.Ren := ⟨fun | 170 => 76 | n => n, fun | 70 => 98 | 3 => 3 | 0 => 0 | 72 => 100 | 37 => 22 | 5 => 5 | n => n, fun | n => n⟩
theorem Tryd.lays170 : Go.Proofs.Lays.n170 Tryd.prog Tryd.lays170_ren := {
  mixed := by kernel_rfl
  f170 := Tryd.func76.trans (congrArg some (by kernel_rfl))
  t0 := Tryd.underlying0
  a0 := Tryd.isAgg0
  z0 := Tryd.sizeOf0
  v0 := Tryd.zeroValue0
  t3 := Tryd.underlying3
  a3 := Tryd.isAgg3
  z3 := Tryd.sizeOf3
  v3 := Tryd.zeroValue3
  t37 := Tryd.underlying22
  a37 := Tryd.isAgg22
  z37 := Tryd.sizeOf22
  v37 := Tryd.zeroValue22
  t70 := Tryd.underlying98
  a70 := Tryd.isAgg98
  z70 := Tryd.sizeOf98
  v70 := Tryd.zeroValue98
  t72 := Tryd.underlying100
  a72 := Tryd.isAgg100
  z72 := Tryd.sizeOf100
  v72 := Tryd.zeroValue100 }
def Tryd.lays169_ren : Go.Shelf.Ren := ⟨fun | 169 => 61 | n => n, fun | 70 => 98 | 9 => 9 | 0 => 0 | 72 => 100 | 37 => 22 | 127 => 91 | 3 => 3 | 5 => 5 | n => n, fun | n => n⟩
theorem Tryd.lays169 : Go.Proofs.Lays.n169 Tryd.prog Tryd.lays169_ren := {
  mixed := by kernel_rfl
  f169 := Tryd.func61.trans (congrArg some (by kernel_rfl))
  t0 := Tryd.underlying0
  a0 := Tryd.isAgg0
  z0 := Tryd.sizeOf0
  v0 := Tryd.zeroValue0
  t3 := Tryd.underlying3
  a3 := Tryd.isAgg3
  z3 := Tryd.sizeOf3
  v3 := Tryd.zeroValue3
  t9 := Tryd.underlying9
  a9 := Tryd.isAgg9
  z9 := Tryd.sizeOf9
  v9 := Tryd.zeroValue9
  t37 := Tryd.underlying22
  a37 := Tryd.isAgg22
  z37 := Tryd.sizeOf22
  v37 := Tryd.zeroValue22
  t70 := Tryd.underlying98
  a70 := Tryd.isAgg98
  z70 := Tryd.sizeOf98
  v70 := Tryd.zeroValue98
  t72 := Tryd.underlying100
  a72 := Tryd.isAgg100
  z72 := Tryd.sizeOf100
  v72 := Tryd.zeroValue100
  t127 := Tryd.underlying91
  a127 := Tryd.isAgg91
  z127 := Tryd.sizeOf91
  v127 := Tryd.zeroValue91 }
theorem Tryd.Builder_Extra_169 : Builder.Extra Tryd.prog Tryd.lays169_ren := {
  sizeBuilder := by kernel_rfl
  liesBuilder := by kernel_rfl
  t5 := Tryd.underlying5
  a5 := Tryd.isAgg5
  z5 := Tryd.sizeOf5
  v5 := Tryd.zeroValue5
  infoByte := by kernel_rfl
  cellsByte := by kernel_rfl
  sizeByte := by kernel_rfl
  neB5 := by decide }
open Go.RowKit in
theorem Tryd.Builder_Len_f (B b : Nat) (bs : List Value) (w : World) (h : Lib.IsBuilderF 100 5 B b bs w) :
    Calls Tryd.prog 76 #[.pointer (some ⟨b, 0, none⟩)] w fun e w' => e = .returned (.int .i64 bs.length) ∧ w' = w := Any.Builder_Len_f Tryd.lays170 B b bs w h
open Go.RowKit in
theorem Tryd.Builder_String_f (B b : Nat) (l : List UInt8) (w : World) (h : Lib.IsBuilderF 100 5 B b (Lib.byteCells l) w) (h0 : l ≠ []) :
    Calls Tryd.prog 61 #[.pointer (some ⟨b, 0, none⟩)] w fun e w' => e = .returned (.string ⟨l.toArray⟩) ∧ (Lib.IsBuilderF 100 5 B b (Lib.byteCells l) w' ∧ Below B w w') := Any.Builder_String_f Tryd.lays169 Tryd.Builder_Extra_169 B b l w h h0
open Go.RowKit in
theorem Tryd.Builder_String_any_f (B b : Nat) (l : List UInt8) (w : World) (h : Lib.IsBuilderF 100 5 B b (Lib.byteCells l) w) (hBw : B ≤ w.heap.size) :
    Calls Tryd.prog 61 #[.pointer (some ⟨b, 0, none⟩)] w fun e w' => e = .returned (.string ⟨l.toArray⟩) ∧ (Lib.IsBuilderF 100 5 B b (Lib.byteCells l) w' ∧ Below B w w') := Any.Builder_String_any_f Tryd.lays169 Tryd.Builder_Extra_169 B b l w h hBw
def Tryd.laysM316_ren : Go.Shelf.Ren := ⟨fun | 316 => 37 | n => n, fun | 9 => 9 | 3 => 3 | 4 => 4 | 37 => 22 | 0 => 0 | 127 => 91 | 5 => 5 | n => n, fun | n => n⟩
theorem Tryd.laysM316 : Go.Proofs.LaysM.n316 Tryd.prog Tryd.laysM316_ren := {
  mixed := by kernel_rfl
  f316 := Tryd.func37.trans (congrArg some (by kernel_rfl))
  t0 := Tryd.underlying0
  a0 := Tryd.isAgg0
  z0 := Tryd.sizeOf0
  v0 := Tryd.zeroValue0
  t3 := Tryd.underlying3
  a3 := Tryd.isAgg3
  z3 := Tryd.sizeOf3
  v3 := Tryd.zeroValue3
  t4 := Tryd.underlying4
  a4 := Tryd.isAgg4
  z4 := Tryd.sizeOf4
  v4 := Tryd.zeroValue4
  t9 := Tryd.underlying9
  a9 := Tryd.isAgg9
  z9 := Tryd.sizeOf9
  v9 := Tryd.zeroValue9
  t37 := Tryd.underlying22
  a37 := Tryd.isAgg22
  z37 := Tryd.sizeOf22
  v37 := Tryd.zeroValue22
  t127 := Tryd.underlying91
  a127 := Tryd.isAgg91
  z127 := Tryd.sizeOf91
  v127 := Tryd.zeroValue91
  t5 := Tryd.underlying5
  a5 := Tryd.isAgg5
  z5 := Tryd.sizeOf5
  v5 := Tryd.zeroValue5
  i0 := by kernel_rfl
  i3 := by kernel_rfl
  i4 := by kernel_rfl
  i5 := by kernel_rfl
  i9 := by kernel_rfl
  i37 := by kernel_rfl
  i127 := by kernel_rfl }
open Go.RowKit in
theorem Tryd.stringslite_Clone (s : ByteArray) (w : World) (hlim : s.size ≤ 281474976710656) :
    Calls Tryd.prog 37 #[.string s] w fun e w' => e = .returned (.string s) ∧ Below w.heap.size w w' := Any.stringslite_Clone Tryd.laysM316 s w hlim
def Tryd.lays105_ren : Go.Shelf.Ren := ⟨fun | 105 => 58 | 212 => 73 | 99 => 74 | 165 => 75 | 166 => 60 | 170 => 76 | 169 => 61 | 263 => 85 | 264 => 86 | 206 => 87 | 240 => 77 | 241 => 88 | 276 => 89 | 277 => 92 | n => n, fun | 9 => 9 | 3 => 3 | 4 => 4 | 20 => 20 | 0 => 0 | 46 => 69 | 109 => 112 | 5 => 5 | 72 => 100 | 76 => 103 | 51 => 79 | 146 => 120 | 53 => 95 | 148 => 122 | 70 => 98 | 37 => 22 | 75 => 102 | 127 => 91 | 164 => 124 | 80 => 86 | n => n, fun | n => n⟩
theorem Tryd.lays105 : Go.Proofs.Lays.n105 Tryd.prog Tryd.lays105_ren := {
  mixed := by kernel_rfl
  f99 := Tryd.func74.trans (congrArg some (by kernel_rfl))
  f105 := Tryd.func58.trans (congrArg some (by kernel_rfl))
  f165 := Tryd.func75.trans (congrArg some (by kernel_rfl))
  f166 := Tryd.func60.trans (congrArg some (by kernel_rfl))
  f169 := Tryd.func61.trans (congrArg some (by kernel_rfl))
  f170 := Tryd.func76.trans (congrArg some (by kernel_rfl))
  f206 := Tryd.func87.trans (congrArg some (by kernel_rfl))
  f212 := Tryd.func73.trans (congrArg some (by kernel_rfl))
  f240 := Tryd.func77.trans (congrArg some (by kernel_rfl))
  f241 := Tryd.func88.trans (congrArg some (by kernel_rfl))
  f263 := Tryd.func85.trans (congrArg some (by kernel_rfl))
  f264 := Tryd.func86.trans (congrArg some (by kernel_rfl))
  f276 := Tryd.func89.trans (congrArg some (by kernel_rfl))
  f277 := Tryd.func92.trans (congrArg some (by kernel_rfl))
  t0 := Tryd.underlying0
  a0 := Tryd.isAgg0
  z0 := Tryd.sizeOf0
  v0 := Tryd.zeroValue0
  t3 := Tryd.underlying3
  a3 := Tryd.isAgg3
  z3 := Tryd.sizeOf3
  v3 := Tryd.zeroValue3
  t4 := Tryd.underlying4
  a4 := Tryd.isAgg4
  z4 := Tryd.sizeOf4
  v4 := Tryd.zeroValue4
  t5 := Tryd.underlying5
  a5 := Tryd.isAgg5
  z5 := Tryd.sizeOf5
  v5 := Tryd.zeroValue5
  t9 := Tryd.underlying9
  a9 := Tryd.isAgg9
  z9 := Tryd.sizeOf9
  v9 := Tryd.zeroValue9
  t20 := Tryd.underlying20
  a20 := Tryd.isAgg20
  z20 := Tryd.sizeOf20
  v20 := Tryd.zeroValue20
  t37 := Tryd.underlying22
  a37 := Tryd.isAgg22
  z37 := Tryd.sizeOf22
  v37 := Tryd.zeroValue22
  t46 := Tryd.underlying69
  a46 := Tryd.isAgg69
  z46 := Tryd.sizeOf69
  v46 := Tryd.zeroValue69
  t51 := Tryd.underlying79
  a51 := Tryd.isAgg79
  z51 := Tryd.sizeOf79
  v51 := Tryd.zeroValue79
  t53 := Tryd.underlying95
  a53 := Tryd.isAgg95
  z53 := Tryd.sizeOf95
  v53 := Tryd.zeroValue95
  t70 := Tryd.underlying98
  a70 := Tryd.isAgg98
  z70 := Tryd.sizeOf98
  v70 := Tryd.zeroValue98
  t72 := Tryd.underlying100
  a72 := Tryd.isAgg100
  z72 := Tryd.sizeOf100
  v72 := Tryd.zeroValue100
  t75 := Tryd.underlying102
  a75 := Tryd.isAgg102
  z75 := Tryd.sizeOf102
  v75 := Tryd.zeroValue102
  t76 := Tryd.underlying103
  a76 := Tryd.isAgg103
  z76 := Tryd.sizeOf103
  v76 := Tryd.zeroValue103
  t109 := Tryd.underlying112
  a109 := Tryd.isAgg112
  z109 := Tryd.sizeOf112
  v109 := Tryd.zeroValue112
  t127 := Tryd.underlying91
  a127 := Tryd.isAgg91
  z127 := Tryd.sizeOf91
  v127 := Tryd.zeroValue91
  t146 := Tryd.underlying120
  a146 := Tryd.isAgg120
  z146 := Tryd.sizeOf120
  v146 := Tryd.zeroValue120
  t148 := Tryd.underlying122
  a148 := Tryd.isAgg122
  z148 := Tryd.sizeOf122
  v148 := Tryd.zeroValue122
  t164 := Tryd.underlying124
  a164 := Tryd.isAgg124
  z164 := Tryd.sizeOf124
  v164 := Tryd.zeroValue124 }
theorem Tryd.Builder_Extra_105 : Builder.Extra Tryd.prog Tryd.lays105_ren := {
  sizeBuilder := by kernel_rfl
  liesBuilder := by kernel_rfl
  t5 := Tryd.underlying5
  a5 := Tryd.isAgg5
  z5 := Tryd.sizeOf5
  v5 := Tryd.zeroValue5
  infoByte := by kernel_rfl
  cellsByte := by kernel_rfl
  sizeByte := by kernel_rfl
  neB5 := by decide }
open Go.RowKit Go.Lib in
theorem Tryd.strings_Repeat (s : ByteArray) (c : Nat) (w : World) (hc : c ≤ 9223372036854775807) (hlen : s.size * c ≤ 140737488355328) :
    Calls Tryd.prog 58 #[.string s, .int .i64 c] w fun e w' => e = .returned (.string ⟨(Lib.repeatL s.data.toList c).toArray⟩) ∧ Below w.heap.size w w' := Any.strings_Repeat Tryd.lays105 Tryd.Builder_Extra_105 s c w hc hlen
end Go.Proofs
namespace Go.Proofs.YtpfkokjbpfaafaeDoor
open Go.RowKit

theorem cloneS : CloneS := fun s w hs => by
  have H := Lib.hid (fun w => Tryd.stringslite_Clone s w (by omega))
  go_enter Tryd.func22, Tryd.ntmps22
  go_wp2_with fail
  refine (H.out _).mono ?_
  rintro e w1 ⟨rfl, hb1⟩
  go_wp2
  go_ret
  exact ⟨rfl, hb1⟩

end Go.Proofs.YtpfkokjbpfaafaeDoor
namespace Go.Proofs.YtpfkokjbpfaafaeDoor

/-- Descending numbers. -/
def DescZ : List Int → Prop
  | [] => True
  | [_] => True
  | x :: y :: l => y < x ∧ DescZ (y :: l)
/-- The first one, 0 without one. -/
def topZ : List Int → Int
  | [] => 0
  | x :: _ => x
/-- Right numbers that were seen. -/
def SeenP (seen : List Int) : Prop := seen.length ≤ 6 ∧ (∀ x ∈ seen, 1 ≤ x ∧ x ≤ 1000000000) ∧ DescZ seen ∧ ∀ x ∈ seen, topZ seen - 6 < x
/-- Whether a number is fresh. -/
def FreshP (seen : List Int) (n : Int) : Prop := SeenP seen ∧ (1 ≤ n ∧ n ≤ 1000000000) ∧ n ∉ seen ∧ topZ seen - 6 < n
/-- With a number in its place. -/
def putD (n : Int) (seen : List Int) : List Int := seen.filter (fun x => decide (n < x)) ++ [n] ++ seen.filter (fun x => decide (x < n))
/-- Without those that are not above the first less six. -/
def nearZ (l : List Int) : List Int := l.filter (fun x => decide (topZ l - 6 < x))
/-- What was seen behind a number. -/
def NoteIs (seen : List Int) (n : Int) (r : List Int) : Prop := (FreshP seen n ∧ r = nearZ (putD n seen)) ∨ (¬ FreshP seen n ∧ r = seen)
theorem note_is (seen : List Int) (n : Int) : ∃ r, NoteIs seen n r := by
  by_cases h : FreshP seen n
  · exact ⟨_, .inl ⟨h, rfl⟩⟩
  · exact ⟨_, .inr ⟨h, rfl⟩⟩
/-- Which numbers of a list are taken, from what was seen on. -/
def TakesIs : List Int → List Int → List Int → Prop
  | [], _, r => r = []
  | n :: l, seen, r => (FreshP seen n ∧ ∃ s t, NoteIs seen n s ∧ TakesIs l s t ∧ r = n :: t) ∨ (¬ FreshP seen n ∧ TakesIs l seen r)
theorem takes_is (l seen : List Int) : ∃ r, TakesIs l seen r := by
  induction l generalizing seen with
  | nil => exact ⟨[], rfl⟩
  | cons n l ih =>
    by_cases h : FreshP seen n
    · obtain ⟨s, hs⟩ := note_is seen n
      obtain ⟨t, ht⟩ := ih s
      exact ⟨_, .inl ⟨h, s, t, hs, ht, rfl⟩⟩
    · obtain ⟨r, hr⟩ := ih seen
      exact ⟨r, .inr ⟨h, hr⟩⟩
theorem desc_tail {x : Int} {l : List Int} (h : DescZ (x :: l)) : DescZ l := by
  cases l with
  | nil => trivial
  | cons y l => exact h.2
theorem desc_head {x : Int} {l : List Int} (h : DescZ (x :: l)) : ∀ y ∈ l, y < x := by
  induction l generalizing x with
  | nil => intro y hy; cases hy
  | cons z l ih =>
    intro y hy
    rcases List.mem_cons.1 hy with rfl | hy
    · exact h.1
    · have := ih h.2 y hy
      have := h.1
      omega
theorem desc_cons {x : Int} {l : List Int} (h : DescZ l) (hx : ∀ y ∈ l, y < x) : DescZ (x :: l) := by
  cases l with
  | nil => trivial
  | cons y l => exact ⟨hx y List.mem_cons_self, h⟩
theorem desc_filter {l : List Int} (p : Int → Bool) (h : DescZ l) : DescZ (l.filter p) := by
  induction l with
  | nil => trivial
  | cons x l ih =>
    rw [List.filter_cons]
    split
    · exact desc_cons (ih (desc_tail h)) (fun y hy => desc_head h y (List.mem_filter.1 hy).1)
    · exact ih (desc_tail h)
theorem desc_append {a b : List Int} (ha : DescZ a) (hb : DescZ b) (h : ∀ x ∈ a, ∀ y ∈ b, y < x) : DescZ (a ++ b) := by
  induction a with
  | nil => exact hb
  | cons x a ih =>
    refine desc_cons (ih (desc_tail ha) (fun y hy => h y (List.mem_cons_of_mem _ hy))) (fun y hy => ?_)
    rcases List.mem_append.1 hy with hy | hy
    · exact desc_head ha y hy
    · exact h x List.mem_cons_self y hy
theorem put_desc {seen : List Int} (n : Int) (h : DescZ seen) : DescZ (putD n seen) := by
  refine desc_append (desc_append (desc_filter _ h) trivial ?_) (desc_filter _ h) ?_
  · intro x hx y hy
    rw [List.mem_singleton.1 hy]
    exact of_decide_eq_true (List.mem_filter.1 hx).2
  · intro x hx y hy
    have hy2 : y < n := of_decide_eq_true (List.mem_filter.1 hy).2
    rcases List.mem_append.1 hx with hx | hx
    · have : n < x := of_decide_eq_true (List.mem_filter.1 hx).2
      omega
    · rw [List.mem_singleton.1 hx]
      exact hy2
theorem put_mem {seen : List Int} {n x : Int} : x ∈ putD n seen ↔ x = n ∨ x ∈ seen ∧ x ≠ n := by
  unfold putD
  simp only [List.mem_append, List.mem_filter, List.mem_singleton, decide_eq_true_eq]
  constructor
  · rintro ((⟨h1, h2⟩ | h) | ⟨h1, h2⟩)
    · exact .inr ⟨h1, by omega⟩
    · exact .inl h
    · exact .inr ⟨h1, by omega⟩
  · rintro (h | ⟨h1, h2⟩)
    · exact .inl (.inr h)
    · rcases Int.lt_or_gt_of_ne h2 with h | h
      · exact .inr ⟨h1, h⟩
      · exact .inl (.inl ⟨h1, h⟩)
/-- Descending numbers above m are at most so many. -/
theorem desc_len {l : List Int} {m : Int} (h : DescZ l) (hm : ∀ x ∈ l, m < x) : (l.length : Int) ≤ max 0 (topZ l - m) := by
  induction l with
  | nil => exact Int.le_max_left _ _
  | cons x l ih =>
    have h1 := ih (desc_tail h) (fun y hy => hm y (List.mem_cons_of_mem _ hy))
    have h2 := hm x List.mem_cons_self
    show ((l.length + 1 : Nat) : Int) ≤ max 0 (x - m)
    cases l with
    | nil => simp; omega
    | cons y l =>
      have h3 := h.1
      have h4 := hm y (List.mem_cons_of_mem _ List.mem_cons_self)
      have h5 : topZ (y :: l) = y := rfl
      rw [h5] at h1
      omega
theorem top_mem {l : List Int} (h : l ≠ []) : topZ l ∈ l := by
  cases l with
  | nil => exact absurd rfl h
  | cons x l => exact List.mem_cons_self
theorem top_most {l : List Int} (h : DescZ l) : ∀ x ∈ l, x ≤ topZ l := by
  cases l with
  | nil => intro x hx; cases hx
  | cons y l =>
    intro x hx
    rcases List.mem_cons.1 hx with rfl | hx
    · exact Int.le_refl _
    · have := desc_head h x hx
      show x ≤ y
      omega
theorem near_top {l : List Int} (h : l ≠ []) : topZ (nearZ l) = topZ l := by
  cases l with
  | nil => exact absurd rfl h
  | cons x l =>
    have e : decide (topZ (x :: l) - 6 < x) = true := decide_eq_true (by show x - 6 < x; omega)
    unfold nearZ
    rw [List.filter_cons, if_pos e]
    rfl
theorem put_ne (n : Int) (seen : List Int) : putD n seen ≠ [] := by
  unfold putD
  simp
/-- What is noted stays right, has the number, and does not take it again. -/
theorem note_right {seen r : List Int} {n : Int} (hf : FreshP seen n) (h : NoteIs seen n r) : SeenP r ∧ n ∈ r ∧ ¬ FreshP r n := by
  rcases h with ⟨-, rfl⟩ | ⟨h, -⟩
  · have hd := put_desc n hf.1.2.2.1
    have hne := put_ne n seen
    have ht := near_top hne
    have hd2 : DescZ (nearZ (putD n seen)) := desc_filter _ hd
    have hall : ∀ x ∈ nearZ (putD n seen), topZ (nearZ (putD n seen)) - 6 < x := fun x hx => by rw [ht]; exact of_decide_eq_true (List.mem_filter.1 hx).2
    have hl := desc_len hd2 hall
    have hnm : n ∈ nearZ (putD n seen) := by
      refine List.mem_filter.2 ⟨put_mem.2 (.inl rfl), decide_eq_true ?_⟩
      have h1 := put_mem.1 (top_mem hne)
      have h2 := hf.2.2.2
      rcases h1 with h1 | ⟨h1, -⟩
      · omega
      · have := top_most hf.1.2.2.1 _ h1
        omega
    refine ⟨⟨by omega, fun x hx => ?_, hd2, hall⟩, hnm, fun h => h.2.2.1 hnm⟩
    rcases put_mem.1 (List.mem_filter.1 hx).1 with rfl | ⟨h1, -⟩
    · exact hf.2.1
    · exact hf.1.2.1 x h1
  · exact absurd hf h
theorem seen_none : SeenP [] := ⟨by simp, by simp, trivial, by simp⟩

end Go.Proofs.YtpfkokjbpfaafaeDoor
namespace Go.Proofs.YtpfkokjbpfaafaeDoor

/-- A number that an int holds. -/
def IntZ (x : Int) : Prop := -9223372036854775808 ≤ x ∧ x ≤ 9223372036854775807
theorem SeenP.ints {xs : List Int} (h : SeenP xs) : ∀ x ∈ xs, IntZ x := fun x hx => by
  have := h.2.1 x hx
  exact ⟨by omega, by omega⟩
theorem desc_iff (xs : List Int) : DescZ xs ↔ ∀ i, (h : i + 1 < xs.length) → xs[i + 1] < xs[i] := by
  induction xs with
  | nil => exact ⟨fun _ i h => absurd h (by simp), fun _ => trivial⟩
  | cons x l ih =>
    cases l with
    | nil => exact ⟨fun _ i h => absurd h (by simp), fun _ => trivial⟩
    | cons y l =>
      constructor
      · rintro ⟨h1, h2⟩ i hi
        cases i with
        | zero => exact h1
        | succ i => exact (ih.1 h2) i (by simpa using hi)
      · intro h
        refine ⟨h 0 (by simp), ih.2 fun i hi => ?_⟩
        exact h (i + 1) (by simpa using hi)
theorem top_get {xs : List Int} (h : 0 < xs.length) : topZ xs = xs[0] := by
  cases xs with
  | nil => exact absurd h (by simp)
  | cons x l => rfl
/-- The first ones are right. -/
def SeenTo (xs : List Int) (j : Nat) : Prop := ∀ i, (hi : i < xs.length) → i < j → (1 ≤ xs[i] ∧ xs[i] ≤ 1000000000) ∧ (∀ h : 0 < i, xs[i] < xs[i - 1]) ∧ topZ xs - 6 < xs[i]
theorem seenP_iff (xs : List Int) : SeenP xs ↔ SeenTo xs xs.length ∧ xs.length ≤ 6 := by
  constructor
  · rintro ⟨h1, h2, h3, h4⟩
    refine ⟨fun i hi _ => ⟨h2 _ (List.getElem_mem hi), fun h => ?_, h4 _ (List.getElem_mem hi)⟩, h1⟩
    obtain ⟨k, rfl⟩ : ∃ k, i = k + 1 := ⟨i - 1, by omega⟩
    exact (desc_iff xs).1 h3 k hi
  · rintro ⟨h1, h2⟩
    refine ⟨h2, fun x hx => ?_, (desc_iff xs).2 fun i hi => (h1 (i + 1) hi hi).2.1 (by omega), fun x hx => ?_⟩
    · obtain ⟨i, hi, rfl⟩ := List.getElem_of_mem hx
      exact (h1 i hi hi).1
    · obtain ⟨i, hi, rfl⟩ := List.getElem_of_mem hx
      exact (h1 i hi hi).2.2
theorem seenTo_next {xs : List Int} {j : Nat} (hj : j < xs.length) (h : SeenTo xs j) (h1 : 1 ≤ xs[j] ∧ xs[j] ≤ 1000000000) (h2 : ∀ h : 0 < j, xs[j] < xs[j - 1]) (h3 : topZ xs - 6 < xs[j]) : SeenTo xs (j + 1) := by
  intro i hi hij
  rcases Nat.lt_or_ge i j with h4 | h4
  · exact h i hi h4
  · obtain rfl : i = j := by omega
    exact ⟨h1, h2, h3⟩
/-- The numbers above n, of the first j; those below. -/
theorem filter_next (p : Int → Bool) (xs : List Int) (j : Nat) (hj : j < xs.length) : (xs.take (j + 1)).filter p = (xs.take j).filter p ++ (if p xs[j] then [xs[j]] else []) := by
  rw [List.take_add_one, List.getElem?_eq_getElem hj, List.filter_append]
  congr 1
  show List.filter p [xs[j]] = _
  rw [List.filter_cons]
  split <;> simp
theorem filter_len (p : Int → Bool) (xs : List Int) (j : Nat) : ((xs.take j).filter p).length ≤ xs.length := by
  have h1 := List.length_filter_le p (xs.take j)
  have h2 : (xs.take j).length ≤ xs.length := by rw [List.length_take]; omega
  omega

end Go.Proofs.YtpfkokjbpfaafaeDoor

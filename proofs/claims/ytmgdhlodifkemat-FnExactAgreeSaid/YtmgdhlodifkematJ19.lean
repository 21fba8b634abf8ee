/-
  The library's contracts laid at this translation, in plain words: each is one application.
  What the library's Clone gives.
  What is changed, by ranges of blocks; no program is spoken of here.
  Options in variables of their own, with rows of their own, by ranges of blocks: for the exact laws.
-/
import Derived.Shelf.LaysM
import Derived.Shelf.Strconv.Clone
import Derived.Test.YtmgdhlodifkematProg
import Derived.Test.YtmgdhlodifkematJ08
import Derived.Test.YtmgdhlodifkematJ05
import Derived.Test.YtmgdhlodifkematJ13
namespace Go.Proofs
open Go.Shelf
def Try.laysM316_ren : Go.Shelf.Ren := ⟨fun | 316 => 38 | n => n, fun | 9 => 9 | 3 => 3 | 4 => 4 | 37 => 53 | 0 => 0 | 127 => 55 | 5 => 5 | n => n, fun | n => n⟩
theorem Try.laysM316 : Go.Proofs.LaysM.n316 Try.prog Try.laysM316_ren := {
  mixed := by kernel_rfl
  f316 := Try.func38.trans (congrArg some (by kernel_rfl))
  t0 := Try.underlying0
  a0 := Try.isAgg0
  z0 := Try.sizeOf0
  v0 := Try.zeroValue0
  t3 := Try.underlying3
  a3 := Try.isAgg3
  z3 := Try.sizeOf3
  v3 := Try.zeroValue3
  t4 := Try.underlying4
  a4 := Try.isAgg4
  z4 := Try.sizeOf4
  v4 := Try.zeroValue4
  t9 := Try.underlying9
  a9 := Try.isAgg9
  z9 := Try.sizeOf9
  v9 := Try.zeroValue9
  t37 := Try.underlying53
  a37 := Try.isAgg53
  z37 := Try.sizeOf53
  v37 := Try.zeroValue53
  t127 := Try.underlying55
  a127 := Try.isAgg55
  z127 := Try.sizeOf55
  v127 := Try.zeroValue55
  t5 := Try.underlying5
  a5 := Try.isAgg5
  z5 := Try.sizeOf5
  v5 := Try.zeroValue5
  i0 := by kernel_rfl
  i3 := by kernel_rfl
  i4 := by kernel_rfl
  i5 := by kernel_rfl
  i9 := by kernel_rfl
  i37 := by kernel_rfl
  i127 := by kernel_rfl }
open Go.RowKit in
theorem Try.stringslite_Clone (s : ByteArray) (w : World) (hlim : s.size ≤ 281474976710656) :
    Calls Try.prog 38 #[.string s] w fun e w' => e = .returned (.string s) ∧ Below w.heap.size w w' := Any.stringslite_Clone Try.laysM316 s w hlim
end Go.Proofs
namespace Go.Proofs.Ytmgdhlodifkemat
open Go.RowKit

theorem cloneGives : CloneGives := fun s w hs => by
  have H := Lib.hid (fun w => Try.stringslite_Clone s w (by omega))
  go_enter Try.func36, Try.ntmps36
  go_wp2_with fail
  refine (H.out _).mono ?_
  rintro e w1 ⟨rfl, hb1⟩
  go_wp2
  go_ret
  exact ⟨rfl, hb1⟩

end Go.Proofs.Ytmgdhlodifkemat
namespace Go.Proofs.Ytmgdhlodifkemat
open Go.RowKit

/-- Blocks from lo on, below hi, alone are changed; new ones may be there. -/
structure Rng (lo hi : Nat) (X Y : World) : Prop where
  os : Y.os = X.os
  tape : Y.tape = X.tape
  output : Y.output = X.output
  size : X.heap.size ≤ Y.heap.size
  block : ∀ g, g < X.heap.size → (g < lo ∨ hi ≤ g) → Y.heap[g]? = X.heap[g]?
theorem Chg.rng {fp : List Nat} {X Y : World} {lo hi : Nat} (h : Chg fp X Y) (hf : ∀ g ∈ fp, lo ≤ g ∧ g < hi) : Rng lo hi X Y := ⟨h.os, h.tape, h.output, h.size, fun g hg ho => h.block g hg (fun hm => by have := hf g hm; omega)⟩
theorem Rng.below {X Y : World} {lo hi b : Nat} (h : Rng lo hi X Y) (hb : b ≤ lo) (hs : b ≤ X.heap.size) : Below b X Y := ⟨h.os, h.tape, h.output, h.size, fun g hg => h.block g (by omega) (.inl (by omega))⟩
theorem VarA.rng {r : Nat} {t : TypeId} {cs : Array Value} {X Y : World} {lo hi : Nat} (h : VarA r t cs X) (hr : Rng lo hi X Y) (ho : r < lo ∨ hi ≤ r) : VarA r t cs Y := ⟨(hr.block r h.lt ho).trans h.row⟩
theorem Lay.rng {α : Type} (A : Lay α) {X Y : World} {b lo hi : Nat} {f : List Nat} {cs : List Value} {x : α} (h : A.own X b f cs x) (hr : Rng lo hi X Y) (hf : ∀ g ∈ f, g < lo ∨ hi ≤ g) : A.own Y b f cs x := A.keep h (fun g hg => hr.block g (A.blocks h g hg).2 (hf g hg))

end Go.Proofs.Ytmgdhlodifkemat
namespace Go.Proofs.Ytmgdhlodifkemat
open Go.RowKit

abbrev LOpT : TypeId := 24
/-- Options in their variable, whose row lies in blocks from lo on, below hi. -/
structure OV (lo hi G : Nat) (z : Int) (v : Value) (ws : List ByteArray) (p : Bool) (X : World) : Prop where
  var : VarA G OptionsT #[.int .i64 z, v, .bool p] X
  co : ∃ f : List Nat, f.Nodup ∧ layStringS.own X lo f [v] ws ∧ ∀ g ∈ f, g < hi
  gh : hi ≤ G
/-- Options as an answer, of the call's own. -/
def OptVal (z : Int) (ws : List ByteArray) (p : Bool) (X : World) (v : Value) (Y : World) : Prop := ∃ (a : Option Addr) (c : Nat) (f : List Nat), v = .agg #[.int .i64 z, .slice a ws.length c, .bool p] ∧ f.Nodup ∧ layStringS.own Y X.heap.size f [.slice a ws.length c] ws ∧ Below X.heap.size X Y
section
variable {lo hi G : Nat} {z : Int} {v : Value} {ws : List ByteArray} {p : Bool} {X Y : World}
theorem OV.next (h : OV lo hi G z v ws p X) (hb : Below X.heap.size X Y) : OV lo hi G z v ws p Y := by
  obtain ⟨f, h0, h1, h2⟩ := h.co
  exact ⟨h.var.next hb, ⟨f, h0, layStringS.next h1 hb, h2⟩, h.gh⟩
theorem OV.apart (h : OV lo hi G z v ws p X) {a b : Nat} (hr : Rng a b X Y) (ho : hi ≤ a ∨ b ≤ lo) (hG : G < a ∨ b ≤ G) : OV lo hi G z v ws p Y := by
  obtain ⟨f, h0, h1, h2⟩ := h.co
  refine ⟨h.var.rng hr hG, ⟨f, h0, layStringS.rng h1 hr (fun g hg => ?_), h2⟩, h.gh⟩
  have := (layStringS.blocks h1 g hg).1
  have := h2 g hg
  omega
theorem OV.new {w : World} {f : List Nat} (hd : f.Nodup) (h : layStringS.own X w.heap.size f [v] ws) : OV w.heap.size X.heap.size X.heap.size z v ws p (X.alloc (.cells #[.int .i64 z, v, .bool p] OptionsT)) :=
  ⟨VarA.new X OptionsT _, ⟨f, hd, layStringS.next h ((Below.refl _ _).alloc (Nat.le_refl _) _), fun g hg => (layStringS.blocks h g hg).2⟩, Nat.le_refl _⟩
theorem OV.rd (h : OV lo hi G z v ws p X) : layStringS.rd X [v] ws := by
  obtain ⟨f, h0, h1, h2⟩ := h.co
  exact layStringS.read h1
theorem OV.mark (h : OV lo hi G z v ws p X) (hl : ws.length ≤ 10000000) (k : Int) (hk0 : 1 ≤ k) (hk1 : k ≤ 100000000) :
    Calls Try.prog 9 #[.agg #[.int .i64 z, v, .bool p], .int .i64 k] X fun e Y => e = .returned (.int .i64 (k + 1 * (ws.length : Int))) ∧ OV lo hi G z v (layStringS.mark k ws).1 p Y ∧ Rng lo hi X Y := by
  obtain ⟨f, h0, h1, h2⟩ := h.co
  refine (markOptions_any z v ws p lo f hl k hk0 hk1 X h0 h1).mono ?_
  rintro e Y ⟨rfl, o1, hc⟩
  have hr : Rng lo hi X Y := hc.rng (fun g hg => ⟨(layStringS.blocks h1 g hg).1, h2 g hg⟩)
  exact ⟨rfl, ⟨h.var.rng hr (.inr h.gh), ⟨f, h0, o1, h2⟩, h.gh⟩, hr⟩
theorem OV.held (k : Int) (h : OV lo hi G z v (layStringS.mark k ws).1 p X) (hl : ws.length ≤ 10000000) (hk0 : 1 ≤ k) (hk1 : k ≤ 100000000) :
    Calls Try.prog 10 #[.agg #[.int .i64 z, v, .bool p], .int .i64 k] X fun e Y => e = .returned (.int .i64 (k + 1 * (ws.length : Int))) ∧ Below X.heap.size X Y :=
  heldOptions_any z v ws p hl k hk0 hk1 X h.rd
theorem opt_to (h : layStringS.rd X [v] ws) (hf : ws.length ≤ 1048576) :
    Calls Try.prog 6 #[.agg #[.int .i64 z, v, .bool p]] X fun e Y => ∃ u, e = .returned u ∧ OptVal z ws p X u Y := by
  refine (toOptions_any z v ws p X h hf).mono ?_
  rintro e Y ⟨cs, fp, rfl, hd, hown, hb⟩
  obtain ⟨u1, f1, rfl, rfl, o1⟩ := layOptions_own.1 hown
  obtain ⟨a, c, rfl⟩ := rows_form (layStringS.read o1)
  exact ⟨_, rfl, a, c, _, rfl, hd, o1, hb⟩
theorem opt_eq {u : Value} (h : layStringS.rd X [v] ws) (k : layStringS.rd X [u] ws) (hf : ws.length ≤ 10000000) :
    Calls Try.prog 8 #[.agg #[.int .i64 z, v, .bool p], .agg #[.int .i64 z, u, .bool p]] X fun e Y => e = .returned (.bool true) ∧ Below X.heap.size X Y :=
  eqOptions_same z v u ws p X h k (by omega)
end

end Go.Proofs.Ytmgdhlodifkemat

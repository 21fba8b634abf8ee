/-
  What is changed, by ranges of blocks; no program is spoken of here.
  Options in variables of their own, with rows of their own, by ranges of blocks: for the exact laws.
  What the law on options asks of the program; what two agree on, both ways.
  The program's copy of a row of texts.
-/
import Derived.Test.YtmgdhlodifkemadDoorJ11
import Derived.Test.YtmgdhlodifkemadDoorJ12
import Derived.Test.YtmgdhlodifkemadDoorJ19
import Derived.Test.YtmgdhlodifkemadDoorJ20
import Derived.Test.YtmgdhlodifkemadDoorJ23
namespace Go.Proofs.YtmgdhlodifkemadDoor
open Go.RowKit

/-- Blocks from lo on, below hi, alone are changed; new ones may be there. -/
structure Rng (lo hi : Nat) (X Y : World) : Prop where
  os : Y.os = X.os
  tape : Y.tape = X.tape
  output : Y.output = X.output
  size : X.heap.size ≤ Y.heap.size
  block : ∀ g, g < X.heap.size → (g < lo ∨ hi ≤ g) → Y.heap[g]? = X.heap[g]?
theorem Chg.rng {fp : List Nat} {X Y : World} {lo hi : Nat} (h : Chg fp X Y) (hf : ∀ g ∈ fp, lo ≤ g ∧ g < hi) : Rng lo hi X Y := ⟨h.os, h.tape, h.output, h.size, fun g hg ho => h.block g hg (fun hm => by have := hf g hm; omega)⟩
theorem Rng.below {X Y : World} {lo hi b : Nat} (h : Rng lo hi X Y) (hb : b ≤ lo) (hs : b ≤ X.heap.size) : Below b X Y := ⟨h.os, h.tape, h.output, h.size, fun g hg => h.block g (by omega) (.inl (by omega))⟩
theorem VarA.rng {r : Nat} {t : TypeId} {cs : Array Value} {X Y : World} {lo hi : Nat} (h : VarA r t cs X) (hr : Rng lo hi X Y) (ho : r < lo ∨ hi ≤ r) : VarA r t cs Y := ⟨(hr.block r h.lt ho).trans h.row⟩
theorem Lay.rng {α : Type} (A : Lay α) {X Y : World} {b lo hi : Nat} {f : List Nat} {cs : List Value} {x : α} (h : A.own X b f cs x) (hr : Rng lo hi X Y) (hf : ∀ g ∈ f, g < lo ∨ hi ≤ g) : A.own Y b f cs x := A.keep h (fun g hg => hr.block g (A.blocks h g hg).2 (hf g hg))

end Go.Proofs.YtmgdhlodifkemadDoor
namespace Go.Proofs.YtmgdhlodifkemadDoor
open Go.RowKit

/-- Options in their variable, whose row lies in blocks from lo on, below hi. -/
structure OV (lo hi G : Nat) (z : Int) (v : Value) (ws : List ByteArray) (p : Bool) (X : World) : Prop where
  var : VarA G OptionsT #[.int .i64 z, v, .bool p] X
  co : ∃ f : List Nat, f.Nodup ∧ layStringS.own X lo f [v] ws ∧ ∀ g ∈ f, g < hi
  gh : hi ≤ G
/-- Options as an answer, of the call's own. -/
def OptVal (z : Int) (ws : List ByteArray) (p : Bool) (X : World) (v : Value) (Y : World) : Prop := ∃ (a : Option Addr) (c : Nat) (f : List Nat), v = .agg #[.int .i64 z, .slice a ws.length c, .bool p] ∧ f.Nodup ∧ layStringS.own Y X.heap.size f [.slice a ws.length c] ws ∧ Below X.heap.size X Y
section
variable {lo hi G : Nat} {z : Int} {v : Value} {ws : List ByteArray} {p : Bool} {X Y : World}
theorem OV.next (h : OV lo hi G z v ws p X) (hb : Below X.heap.size X Y) : OV lo hi G z v ws p Y := by
  obtain ⟨f, h0, h1, h2⟩ := h.co
  exact ⟨h.var.next hb, ⟨f, h0, layStringS.next h1 hb, h2⟩, h.gh⟩
theorem OV.apart (h : OV lo hi G z v ws p X) {a b : Nat} (hr : Rng a b X Y) (ho : hi ≤ a ∨ b ≤ lo) (hG : G < a ∨ b ≤ G) : OV lo hi G z v ws p Y := by
  obtain ⟨f, h0, h1, h2⟩ := h.co
  refine ⟨h.var.rng hr hG, ⟨f, h0, layStringS.rng h1 hr (fun g hg => ?_), h2⟩, h.gh⟩
  have := (layStringS.blocks h1 g hg).1
  have := h2 g hg
  omega
theorem OV.new {w : World} {f : List Nat} (hd : f.Nodup) (h : layStringS.own X w.heap.size f [v] ws) : OV w.heap.size X.heap.size X.heap.size z v ws p (X.alloc (.cells #[.int .i64 z, v, .bool p] OptionsT)) :=
  ⟨VarA.new X OptionsT _, ⟨f, hd, layStringS.next h ((Below.refl _ _).alloc (Nat.le_refl _) _), fun g hg => (layStringS.blocks h g hg).2⟩, Nat.le_refl _⟩
theorem OV.rd (h : OV lo hi G z v ws p X) : layStringS.rd X [v] ws := by
  obtain ⟨f, h0, h1, h2⟩ := h.co
  exact layStringS.read h1
end

end Go.Proofs.YtmgdhlodifkemadDoor
namespace Go.Proofs.YtmgdhlodifkemadDoor
open Go.RowKit

/-- The program's contracts, over worlds that hold L. -/
structure OptFns (L : World → Prop) : Prop where
  stays : ∀ X Y, L X → Below X.heap.size X Y → L Y
  ok : ∀ (z : Int) (v : Value) (ws : List ByteArray) (p b : Bool), (b = true ↔ OptP z ws) → FitsOptions ws → ∀ X, L X → layStringS.rd X [v] ws → Calls Tryd.prog 24 #[.agg #[.int .i64 z, v, .bool p]] X fun e Y => e = .returned (.bool b) ∧ Below X.heap.size X Y
  text : ∀ (z : Int) (v : Value) (ws : List ByteArray) (p : Bool) (t : ByteArray) (ok : Bool), TextIs z ws p t ok → FitsOptions ws → ∀ X, L X → layStringS.rd X [v] ws → Calls Tryd.prog 17 #[.agg #[.int .i64 z, v, .bool p]] X fun e Y => e = .returned (.tuple #[.string t, .bool ok]) ∧ Below X.heap.size X Y
  read : ∀ (s : ByteArray) (rz : Int) (rw : List ByteArray) (rp ok : Bool), ReadIs s rz rw rp ok → s.size ≤ 1048576 → ∀ X, L X → Calls Tryd.prog 18 #[.string s] X fun e Y => ∃ v, e = .returned (.tuple #[v, .bool ok]) ∧ OptVal rz rw rp X v Y
  agree : ∀ (za : Int) (va : Value) (wa : List ByteArray) (pa : Bool) (zb : Int) (vb : Value) (wb : List ByteArray) (pb : Bool) (rz : Int) (rw : List ByteArray) (rp ok : Bool), AgreeIs za wa pa zb wb pb rz rw rp ok → FitsOptions wa → FitsOptions wb → ∀ X, L X → layStringS.rd X [va] wa → layStringS.rd X [vb] wb → Calls Tryd.prog 19 #[.agg #[.int .i64 za, va, .bool pa], .agg #[.int .i64 zb, vb, .bool pb]] X fun e Y => ∃ v, e = .returned (.tuple #[v, .bool ok]) ∧ OptVal rz rw rp X v Y

/-- What the given functions answer, in the same words. -/
theorem optRet_val {rz : Int} {rw : List ByteArray} {rp ok : Bool} {X Y : World} {e : Ending} (h : OptRet rz rw rp ok X e Y) : ∃ v, e = .returned (.tuple #[v, .bool ok]) ∧ OptVal rz rw rp X v Y := by
  obtain ⟨v, fp, rfl, hd, ho, hb⟩ := h
  obtain ⟨a, c, rfl⟩ := rows_form (layStringS.read ho)
  exact ⟨_, rfl, a, c, fp, rfl, hd, ho, hb⟩
theorem OptP.fits {z : Int} {ws : List ByteArray} (h : OptP z ws) : FitsOptions ws := ⟨by have := h.few; omega, fun x hx => by have := (h.way x hx).2.2; omega⟩
section
variable {za : Int} {wa : List ByteArray} {pa : Bool} {zb : Int} {wb : List ByteArray} {pb : Bool} {rz : Int} {rw : List ByteArray} {rp ok : Bool}
theorem agree_yes (h : AgreeIs za wa pa zb wb pb rz rw rp true) : ∃ x, rw = [x] ∧ x ∈ wa ∧ x ∈ wb ∧ rz ≤ za ∧ rz ≤ zb ∧ rz = (if zb < za then zb else za) ∧ rp = (pa && pb) ∧ OptP rz [x] := by
  rcases h with ⟨_, h1, h2, ⟨i, hi, h3, _, h4⟩, h5, h6⟩ | ⟨h, _⟩
  · have s1 := h1.sizeR
    have s2 := h2.sizeR
    refine ⟨_, h4, List.getElem_mem hi, h3, ?_, ?_, h5, h6, ?_⟩
    · rw [h5]; split <;> omega
    · rw [h5]; split <;> omega
    · refine ⟨?_, by simp, by simp, fun x hx => ?_, by simp⟩
      · rw [h5]; split <;> omega
      · rw [List.mem_singleton] at hx
        subst hx
        exact h1.way _ (List.getElem_mem hi)
  · cases h
theorem agree_no (h : AgreeIs za wa pa zb wb pb rz rw rp false) : rw = [] := by
  rcases h with ⟨h, _⟩ | ⟨_, _, _, h, _⟩
  · cases h
  · exact h
theorem agree_turn {sz : Int} {sw : List ByteArray} {sp ok2 : Bool} (h : AgreeIs za wa pa zb wb pb rz rw rp ok) (k : AgreeIs zb wb pb za wa pa sz sw sp ok2) : ok2 = ok ∧ (ok = true → sz = rz ∧ sp = rp) := by
  cases ok with
  | true =>
    obtain ⟨x, _, h1, h2, _, _, h3, h4, _⟩ := agree_yes h
    have ho : ok2 = true := by
      rcases k with ⟨k, _⟩ | ⟨_, k, _⟩
      · exact k
      · rcases h with ⟨_, a1, a2, _⟩ | ⟨a, _⟩
        · exact absurd h1 (k a2 a1 x h2)
        · cases a
    subst ho
    obtain ⟨y, _, _, _, _, _, k3, k4, _⟩ := agree_yes k
    refine ⟨rfl, fun _ => ⟨?_, ?_⟩⟩
    · rw [h3, k3]; split <;> split <;> omega
    · rw [h4, k4]; cases pa <;> cases pb <;> rfl
  | false =>
    refine ⟨?_, fun e => by cases e⟩
    rcases h with ⟨h, _⟩ | ⟨_, h, _⟩
    · cases h
    · rcases k with ⟨_, a1, a2, ⟨i, hi, a3, _⟩, _⟩ | ⟨k, _⟩
      · exact absurd (List.getElem_mem hi) (h a2 a1 _ a3)
      · exact k
end
/-- Options in a variable, to be read. -/
structure ORd (G : Nat) (z : Int) (v : Value) (ws : List ByteArray) (p : Bool) (X : World) : Prop where
  var : VarA G OptionsT #[.int .i64 z, v, .bool p] X
  rd : layStringS.rd X [v] ws
theorem ORd.next {G : Nat} {z : Int} {v : Value} {ws : List ByteArray} {p : Bool} {X Y : World} (h : ORd G z v ws p X) (hb : Below X.heap.size X Y) : ORd G z v ws p Y := ⟨h.var.next hb, layStringS.below h.rd hb⟩
theorem ORd.new {z : Int} {v : Value} {ws : List ByteArray} {p : Bool} {X : World} (h : layStringS.rd X [v] ws) : ORd X.heap.size z v ws p (X.alloc (.cells #[.int .i64 z, v, .bool p] OptionsT)) := ⟨VarA.new X OptionsT _, layStringS.below h ((Below.refl _ _).alloc (Nat.le_refl _) _)⟩

theorem bigO_any (a : Option Addr) (len cap : Nat) (w : World) : Calls Tryd.prog 5 #[.slice a len cap] w fun e w' => e = .returned (.bool (decide (1048576 < (len : Int)))) ∧ w' = w := by
  go_enter Tryd.func5, Tryd.ntmps5
  go_wp2
  go_ret
  exact ⟨rfl, rfl⟩

set_option maxRecDepth 100000 in
set_option maxHeartbeats 800000 in
theorem sameTexts_same (v u : Value) (xs : List ByteArray) (hl : xs.length ≤ 100000000) (w : World) (hv : layStringS.rd w [v] xs) (hu : layStringS.rd w [u] xs) :
    Calls Tryd.prog 21 #[v, u] w fun e w' => e = .returned (.bool true) ∧ Below w.heap.size w w' := by
  obtain ⟨ao, cp, rfl⟩ := rows_form hv
  obtain ⟨bo, dp, rfl⟩ := rows_form hu
  have HV := Lib.hid hv
  have HU := Lib.hid hu
  clear hv hu
  go_enter Tryd.func21, Tryd.ntmps21
  go_wp2_with fail
  go_loopw [5] (fun c wr => ∃ j : Nat, j ≤ xs.length ∧ c = .int .i64 j ∧ Below w.heap.size w wr) (fun c _ => xs.length - (intOf c).toNat)
  case atStart => exact ⟨0, Nat.zero_le _, rfl, Below.refl _ _⟩
  case round =>
    obtain ⟨j, hj, rfl, hb⟩ := hrel
    have HB := Lib.hid hb
    by_cases hlt : j < xs.length
    · have hlt' : (j : Int) < (xs.length : Int) := by omega
      have hx := List.getElem?_eq_getElem hlt
      obtain ⟨g, og, cs, rfl, hg, hr, hc⟩ := rows_elem (layStringS.below HV.out hb) j _ hx
      obtain ⟨h, oh, ds, rfl, hh, hs, hd⟩ := rows_elem (layStringS.below HU.out hb) j _ hx
      generalize xs[j] = x at hr hs
      rw [layString_rd] at hr hs
      subst hr hs
      have c0 : wr.cell? ⟨g, og + j * 1, none⟩ = some (.string x) := hc 0 _ rfl
      have d0 : wr.cell? ⟨h, oh + j * 1, none⟩ = some (.string x) := hd 0 _ rfl
      rw [Nat.mul_one] at c0 d0
      clear hb hc hd hx
      go_wp2_with fail
      go_quiet (fail)
      go_wp2_with fail
      go_roundw
      case rel => exact ⟨j + 1, by omega, by go_num, below_drewN HB.out _⟩
      case measure => simp [intOf]; omega
    · have hlt' : ¬ ((j : Int) < (xs.length : Int)) := by omega
      go_wp2_with fail
      go_ret
      exact ⟨rfl, hb⟩

end Go.Proofs.YtmgdhlodifkemadDoor
namespace Go.Proofs.YtmgdhlodifkemadDoor
open Go.RowKit

/-- What the library's Clone gives. -/
def CloneGives : Prop := ∀ (s : ByteArray) (w : World), s.size ≤ 1048576 → Calls Tryd.prog 73 #[.string s] w fun e w' => e = .returned (.string s) ∧ Below w.heap.size w w'
/-- A row is handed back, of the call's own. -/
def CopyS {α : Type} (A : Lay (List α)) (w : World) (xs : List α) (e : Ending) (w' : World) : Prop := ∃ (g k : Nat), e = .returned (.slice (some ⟨g, 0, none⟩) xs.length k) ∧ A.own w' w.heap.size [g] [.slice (some ⟨g, 0, none⟩) xs.length k] xs ∧ Below w.heap.size w w'

set_option maxRecDepth 100000 in
set_option maxHeartbeats 1600000 in
theorem copyOfTexts_any (HG : CloneGives) (v : Value) (xs : List ByteArray) (hl : xs.length ≤ 1048576) (hsz : ∀ x ∈ xs, x.size ≤ 1048576) (w : World) (h : layStringS.rd w [v] xs) :
    Calls Tryd.prog 90 #[v] w (CopyS layStringS w xs) := by
  obtain ⟨a, cap, rfl⟩ := rows_form h
  obtain ⟨i0, hi0, hz0, hsz0, hby0⟩ := info_of infoString
  have HS := Lib.hid h
  have HC := Lib.hid HG
  have HZ := Lib.hid hsz
  clear h HG hsz
  go_enter Tryd.func90, Tryd.ntmps90
  go_wp2_with (at_make; refine wpList_make_own _ rfl _ _ 37 rfl w.heap.size StringT i0 (.string ⟨#[]⟩) 1 Tryd.underlying37 hi0 hz0 hsz0 .i64 .i64 _ xs.length rfl rfl rfl (by rw [hby0]; omega) (by unfold maxLen; omega) (Nat.le_refl _) ?_)
  intro w1 hown1 hg1
  have O1 : Hid (layStringS.own w1 w.heap.size [w.heap.size] [.slice (some ⟨w.heap.size, 0, none⟩) 0 xs.length] []) := flat_own flatString hown1 rfl
  have B1 : Hid (Below w.heap.size w w1) := below_grown hg1 (fun k h => by cases h) (Nat.le_refl _)
  clear hown1 hg1
  go_wp2_with fail
  go_loopw [3, 11] (fun t c wr => ∃ (j g k : Nat) (ys : List ByteArray), j ≤ xs.length ∧ c = .int .i64 j ∧ t = .slice (some ⟨g, 0, none⟩) ys.length k ∧ Hid (ys = xs.take j) ∧ Hid (layStringS.own wr w.heap.size [g] [.slice (some ⟨g, 0, none⟩) ys.length k] ys) ∧ Hid (Below w.heap.size w wr)) (fun _ c _ => xs.length - (intOf c).toNat)
  case atStart => exact ⟨0, w.heap.size, xs.length, [], Nat.zero_le _, rfl, rfl, Lib.hid rfl, O1, B1⟩
  case round =>
    obtain ⟨j, g, k, ys, hj, rfl, rfl, HY, HO, HB⟩ := hrel
    clear O1 B1
    by_cases hlt : j < xs.length
    · have hlt' : (j : Int) < (xs.length : Int) := by omega
      have hx := List.getElem?_eq_getElem hlt
      obtain ⟨g', off, cs, rfl, hg', hr, hc⟩ := rows_elem (layStringS.below HS.out HB.out) j _ hx
      have hmem : xs[j] ∈ xs := List.getElem_mem hlt
      have hsx := HZ.out _ hmem
      have hta : Hid (xs.take (j + 1) = ys ++ [xs[j]]) := by rw [HY.out, List.take_add_one, hx]; exact Lib.hid rfl
      have hyl : Hid (ys.length = j) := by rw [HY.out, List.length_take]; exact Lib.hid (by omega)
      clear hmem
      generalize xs[j] = x at hr hta hsx hx
      rw [layString_rd] at hr
      subst hr
      have c0 : wr.cell? ⟨g', off + j * 1, none⟩ = some (.string x) := hc 0 _ rfl
      rw [Nat.mul_one] at c0
      clear hc hx
      go_wp2_with fail
      refine (HC.out x wr hsx).mono ?_
      rintro e w2 ⟨rfl, hb2⟩
      have HO2 := Lib.hid (layStringS.next HO.out hb2)
      have HB2 := Lib.hid (HB.out.trans (hb2.mono HB.out.size))
      have hw2 : w.heap.size ≤ w2.heap.size := HB2.out.size
      have hyl2 : ys.length + 1 ≤ 1000000000 := by rw [hyl.out]; omega
      clear hb2 c0
      go_wp2_with (at_builtin; refine wpList_pushF w2 rfl _ _ 37 rfl w.heap.size StringT i0 _ 16 layString flatString Tryd.underlying37 hi0 hz0 hsz0 hby0 rfl (by omega) (.slice (some ⟨g, 0, none⟩) ys.length k) [g] ys (by rfl) HO2.out x #[.string x] (layString_rd.2 rfl) (by rfl) hyl2 hw2 ?_; intro v1 w3 hown1 hnn1 hgr1 hbe1; obtain ⟨m1, mc1, rfl, hblk, _, _⟩ := flat_some flatString hown1 hnn1; rw [hblk] at hown1)
      have HO3 := Lib.hid hown1
      have HB3 := Lib.hid (HB2.out.trans hbe1)
      clear hown1 hnn1 hgr1 hbe1 hblk hyl2
      go_wp2_with fail
      go_roundw
      case rel => exact ⟨j + 1, m1, mc1, ys ++ [x], by omega, by go_num, by rw [List.length_append]; rfl, Lib.hid hta.out.symm, HO3, HB3⟩
      case measure => simp [intOf]; omega
    · have hlt' : ¬ ((j : Int) < (xs.length : Int)) := by omega
      have hje : j = xs.length := by omega
      subst hje
      have hye : ys = xs := by rw [HY.out, List.take_length]
      subst hye
      go_wp2_with fail
      go_ret
      exact ⟨g, k, rfl, HO.out, HB.out⟩

end Go.Proofs.YtmgdhlodifkemadDoor

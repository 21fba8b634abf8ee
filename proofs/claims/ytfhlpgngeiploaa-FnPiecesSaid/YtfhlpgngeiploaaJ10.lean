/-
  The program's copy of a row of texts.
  The program's ReadPart.
  The library's contracts laid at this translation, in plain words: each is one application.
  What the library's Clone gives.
  The program's ReadPart and Split.
  The exact laws on ReadPart and Split, out of one answer that both give.
  Rows of bools of the call's own; no program is spoken of here.
  The test package's functions over rows of bools: held against each other, marked, found marked.
  A row of bools laid anew.
  Rows of bools beside rows of structs: marked and measured by the same words.
-/
import Derived.Test.YtfhlpgngeiploaaJ05
import Derived.Test.YtfhlpgngeiploaaJ09
import Derived.Shelf.LaysM
import Derived.Shelf.Strconv.Clone
import Derived.Test.YtfhlpgngeiploaaProg
import Derived.Test.YtfhlpgngeiploaaJ08
import Derived.Test.YtfhlpgngeiploaaJ04
import Derived.Test.YtfhlpgngeiploaaRows
import Derived.BigQuiet
import Derived.Deep.QuietTactic
namespace Go.Proofs.Ytfhlpgngeiploaa
open Go.RowKit

/-- What the library's Clone gives. -/
def CloneGives : Prop := ∀ (s : ByteArray) (w : World), s.size ≤ 1048576 → Calls Try.prog 32 #[.string s] w fun e w' => e = .returned (.string s) ∧ Below w.heap.size w w'
/-- A row is handed back, of the call's own. -/
def CopyS {α : Type} (A : Lay (List α)) (w : World) (xs : List α) (e : Ending) (w' : World) : Prop := ∃ (g k : Nat), e = .returned (.slice (some ⟨g, 0, none⟩) xs.length k) ∧ A.own w' w.heap.size [g] [.slice (some ⟨g, 0, none⟩) xs.length k] xs ∧ Below w.heap.size w w'

set_option maxRecDepth 100000 in
set_option maxHeartbeats 1600000 in
theorem copyOfTexts_any (HG : CloneGives) (v : Value) (xs : List ByteArray) (hl : xs.length ≤ 1048576) (hsz : ∀ x ∈ xs, x.size ≤ 1048576) (w : World) (h : layStringS.rd w [v] xs) :
    Calls Try.prog 58 #[v] w (CopyS layStringS w xs) := by
  obtain ⟨a, cap, rfl⟩ := rows_form h
  obtain ⟨i0, hi0, hz0, hsz0, hby0⟩ := info_of infoString
  have HS := Lib.hid h
  have HC := Lib.hid HG
  have HZ := Lib.hid hsz
  clear h HG hsz
  go_enter Try.func58, Try.ntmps58
  go_wp2_with (at_make; refine wpList_make_own _ rfl _ _ 26 rfl w.heap.size StringT i0 (.string ⟨#[]⟩) 1 Try.underlying26 hi0 hz0 hsz0 .i64 .i64 _ xs.length rfl rfl rfl (by rw [hby0]; omega) (by unfold maxLen; omega) (Nat.le_refl _) ?_)
  intro w1 hown1 hg1
  have O1 : Hid (layStringS.own w1 w.heap.size [w.heap.size] [.slice (some ⟨w.heap.size, 0, none⟩) 0 xs.length] []) := flat_own flatString hown1 rfl
  have B1 : Hid (Below w.heap.size w w1) := below_grown hg1 (fun k h => by cases h) (Nat.le_refl _)
  clear hown1 hg1
  go_wp2_with fail
  go_loopw [3, 11] (fun t c wr => ∃ (j g k : Nat) (ys : List ByteArray), j ≤ xs.length ∧ c = .int .i64 j ∧ t = .slice (some ⟨g, 0, none⟩) ys.length k ∧ Hid (ys = xs.take j) ∧ Hid (layStringS.own wr w.heap.size [g] [.slice (some ⟨g, 0, none⟩) ys.length k] ys) ∧ Hid (Below w.heap.size w wr)) (fun _ c _ => xs.length - (intOf c).toNat)
  case atStart => exact ⟨0, w.heap.size, xs.length, [], Nat.zero_le _, rfl, rfl, Lib.hid rfl, O1, B1⟩
  case round =>
    obtain ⟨j, g, k, ys, hj, rfl, rfl, HY, HO, HB⟩ := hrel
    clear O1 B1
    by_cases hlt : j < xs.length
    · have hlt' : (j : Int) < (xs.length : Int) := by omega
      have hx := List.getElem?_eq_getElem hlt
      obtain ⟨g', off, cs, rfl, hg', hr, hc⟩ := rows_elem (layStringS.below HS.out HB.out) j _ hx
      have hmem : xs[j] ∈ xs := List.getElem_mem hlt
      have hsx := HZ.out _ hmem
      have hta : Hid (xs.take (j + 1) = ys ++ [xs[j]]) := by rw [HY.out, List.take_add_one, hx]; exact Lib.hid rfl
      have hyl : Hid (ys.length = j) := by rw [HY.out, List.length_take]; exact Lib.hid (by omega)
      clear hmem
      generalize xs[j] = x at hr hta hsx hx
      rw [layString_rd] at hr
      subst hr
      have c0 : wr.cell? ⟨g', off + j * 1, none⟩ = some (.string x) := hc 0 _ rfl
      rw [Nat.mul_one] at c0
      clear hc hx
      go_wp2_with fail
      refine (HC.out x wr hsx).mono ?_
      rintro e w2 ⟨rfl, hb2⟩
      have HO2 := Lib.hid (layStringS.next HO.out hb2)
      have HB2 := Lib.hid (HB.out.trans (hb2.mono HB.out.size))
      have hw2 : w.heap.size ≤ w2.heap.size := HB2.out.size
      have hyl2 : ys.length + 1 ≤ 1000000000 := by rw [hyl.out]; omega
      clear hb2 c0
      go_wp2_with (at_builtin; refine wpList_pushF w2 rfl _ _ 26 rfl w.heap.size StringT i0 _ 16 layString flatString Try.underlying26 hi0 hz0 hsz0 hby0 rfl (by omega) (.slice (some ⟨g, 0, none⟩) ys.length k) [g] ys (by rfl) HO2.out x #[.string x] (layString_rd.2 rfl) (by rfl) hyl2 hw2 ?_; intro v1 w3 hown1 hnn1 hgr1 hbe1; obtain ⟨m1, mc1, rfl, hblk, _, _⟩ := flat_some flatString hown1 hnn1; rw [hblk] at hown1)
      have HO3 := Lib.hid hown1
      have HB3 := Lib.hid (HB2.out.trans hbe1)
      clear hown1 hnn1 hgr1 hbe1 hblk hyl2
      go_wp2_with fail
      go_roundw
      case rel => exact ⟨j + 1, m1, mc1, ys ++ [x], by omega, by go_num, by rw [List.length_append]; rfl, Lib.hid hta.out.symm, HO3, HB3⟩
      case measure => simp [intOf]; omega
    · have hlt' : ¬ ((j : Int) < (xs.length : Int)) := by omega
      have hje : j = xs.length := by omega
      subst hje
      have hye : ys = xs := by rw [HY.out, List.take_length]
      subst hye
      go_wp2_with fail
      go_ret
      exact ⟨g, k, rfl, HO.out, HB.out⟩

end Go.Proofs.Ytfhlpgngeiploaa
namespace Go.Proofs.Ytfhlpgngeiploaa
open Go.RowKit

set_option maxRecDepth 100000 in
set_option maxHeartbeats 1600000 in
theorem implReadPart_of (HG : CloneGives) (t : ByteArray) (id place count : Int) (part : ByteArray) (ok : Bool) (hz : t.size ≤ 1048576) (h : ReadPartIs t id place count part ok) (w : World) :
    Calls Try.prog 13 #[.string t] w fun e w' => e = .returned (.tuple #[.int .i64 id, .int .i64 place, .int .i64 count, .string part, .bool ok]) ∧ Below w.heap.size w w' := by
  obtain ⟨Q, HQ⟩ : ∃ Q : Ending → World → Prop, Hid (Q = fun e w' => e = .returned (.tuple #[.int .i64 id, .int .i64 place, .int .i64 count, .string part, .bool ok]) ∧ Below w.heap.size w w') := ⟨_, Lib.hid rfl⟩
  rw [← HQ.out]
  go_enter Try.func13, Try.ntmps13
  by_cases h3 : 3 ≤ t.size
  rotate_left
  · obtain ⟨rfl, rfl, rfl, rfl, rfl⟩ : ok = false ∧ id = 0 ∧ place = 0 ∧ count = 0 ∧ part = ⟨#[]⟩ := by
      rcases h with ⟨_, h, _⟩ | ⟨h1, _, h2, h3, h4, h5⟩
      · exact absurd h.1 h3
      · exact ⟨h1, h2, h3, h4, h5⟩
    have h3' : (t.size : Int) < 3 := by omega
    clear h h3
    go_wp2_with fail
    exact bodyPost_ret (v := .tuple #[.int .i64 0, .int .i64 0, .int .i64 0, .string ⟨#[]⟩, .bool false]) (by simp [results, Try.results13, go_sem]) rfl (by rw [HQ.out]; exact ⟨rfl, Below.refl _ _⟩)
  have h3' : ¬ ((t.size : Int) < 3) := by omega
  have i0 : (0 : Int) < (t.size : Int) := by omega
  have i1 : (1 : Int) < (t.size : Int) := by omega
  have i2 : (2 : Int) < (t.size : Int) := by omega
  have z3 : (3 : Int) ≤ (t.size : Int) := by omega
  have B0 := byte_is t 0 (by omega)
  have B1 := byte_is t 1 (by omega)
  have B2 := byte_is t 2 (by omega)
  obtain ⟨x0, hx0⟩ : ∃ x : UInt8, t[0]'(by omega) = x := ⟨_, rfl⟩
  obtain ⟨x1, hx1⟩ : ∃ x : UInt8, t[1]'(by omega) = x := ⟨_, rfl⟩
  obtain ⟨x2, hx2⟩ : ∃ x : UInt8, t[2]'(by omega) = x := ⟨_, rfl⟩
  rw [hx0] at B0
  rw [hx1] at B1
  rw [hx2] at B2
  have l0 := x0.toNat_lt
  have l1 := x1.toNat_lt
  have l2 := x2.toNat_lt
  have w0 : IntKind.i64.wrap (x0.toNat : Int) = (x0.toNat : Int) := by rw [IntKind.wrap_i64]; omega
  have w1 : IntKind.i64.wrap (x1.toNat : Int) = (x1.toNat : Int) := by rw [IntKind.wrap_i64]; omega
  have w2 : IntKind.i64.wrap (x2.toNat : Int) = (x2.toNat : Int) := by rw [IntKind.wrap_i64]; omega
  by_cases h2 : x2.toNat ≤ 15
  rotate_left
  · obtain ⟨rfl, rfl, rfl, rfl, rfl⟩ : ok = false ∧ id = 0 ∧ place = 0 ∧ count = 0 ∧ part = ⟨#[]⟩ := by
      rcases h with ⟨_, h, _⟩ | ⟨h1, _, h2, h3, h4, h5⟩
      · exact absurd (by rw [B2]; exact h.2.1.2) h2
      · exact ⟨h1, h2, h3, h4, h5⟩
    have k2 : decide ((15 : Int) < (x2.toNat : Int)) = true := decide_eq_true (by omega)
    have k2' : (15 : Int) < (x2.toNat : Int) := by omega
    clear h h2 B0 B1 B2 w0 w1
    go_wp2_with fail
    go_quiet (fail)
    go_wp2_with fail
    exact bodyPost_ret (v := .tuple #[.int .i64 0, .int .i64 0, .int .i64 0, .string ⟨#[]⟩, .bool false]) (by simp [results, Try.results13, go_sem]) rfl (by rw [HQ.out]; exact ⟨rfl, below_drewN (Below.refl _ _) _⟩)
  have k2 : decide ((15 : Int) < (x2.toNat : Int)) = false := decide_eq_false (by omega)
  have k2' : ¬ ((15 : Int) < (x2.toNat : Int)) := by omega
  by_cases h1 : x1.toNat < x2.toNat
  rotate_left
  · obtain ⟨rfl, rfl, rfl, rfl, rfl⟩ : ok = false ∧ id = 0 ∧ place = 0 ∧ count = 0 ∧ part = ⟨#[]⟩ := by
      rcases h with ⟨_, h, _⟩ | ⟨h1, _, h2, h3, h4, h5⟩
      · exact absurd (by rw [B1, B2]; exact h.2.2) h1
      · exact ⟨h1, h2, h3, h4, h5⟩
    have h1' : decide ((x2.toNat : Int) ≤ (x1.toNat : Int)) = true := decide_eq_true (by omega)
    have h1'' : (x2.toNat : Int) ≤ (x1.toNat : Int) := by omega
    clear h h2 h1 B0 B1 B2 w0
    go_wp2_with fail
    go_quiet (fail)
    go_wp2_with fail
    exact bodyPost_ret (v := .tuple #[.int .i64 0, .int .i64 0, .int .i64 0, .string ⟨#[]⟩, .bool false]) (by simp [results, Try.results13, go_sem]) rfl (by rw [HQ.out]; exact ⟨rfl, below_drewN (Below.refl _ _) _⟩)
  have h1' : decide ((x2.toNat : Int) ≤ (x1.toNat : Int)) = false := decide_eq_false (by omega)
  have h1'' : ¬ ((x2.toNat : Int) ≤ (x1.toNat : Int)) := by omega
  obtain ⟨rfl, rfl, rfl, rfl, hp⟩ : ok = true ∧ id = (x0.toNat : Int) ∧ place = (x1.toNat : Int) ∧ count = (x2.toNat : Int) ∧ part = t.extract 3 t.size := by
    rcases h with ⟨h1, _, h2, h3, h4, h5⟩ | ⟨_, h, _⟩
    · exact ⟨h1, by rw [B0]; exact h2, by rw [B1]; exact h3, by rw [B2]; exact h4, h5⟩
    · exact absurd ⟨h3, ⟨by rw [← B2]; omega, by rw [← B2]; exact h2⟩, by rw [← B1, ← B2]; exact h1⟩ h
  have E : Hid (∀ X, Below w.heap.size w X → Q (.returned (.tuple #[.int .i64 (x0.toNat : Int), .int .i64 (x1.toNat : Int), .int .i64 (x2.toNat : Int), .string (t.extract 3 t.size), .bool true])) X) := Lib.hid (fun X hX => by
    rw [HQ.out, ← hp]
    exact ⟨rfl, hX⟩)
  have K := Lib.hid (fun X => HG (t.extract 3 t.size) X (by rw [ByteArray.size_extract]; omega))
  clear h h2 h1 B0 B1 B2 hp
  go_wp2_with fail
  go_quiet (fail)
  go_wp2_with fail
  refine (K.out _).mono ?_
  rintro e X1 ⟨rfl, hb⟩
  have HB := Lib.hid (hb.mono (Nat.le_refl _))
  clear hb
  go_wp2_with fail
  exact bodyPost_ret (v := .tuple #[.int .i64 (x0.toNat : Int), .int .i64 (x1.toNat : Int), .int .i64 (x2.toNat : Int), .string (t.extract 3 t.size), .bool true]) (by simp [results, Try.results13, go_sem]) rfl (E.out _ ((below_drewN (Below.refl _ _) _).trans HB.out))

end Go.Proofs.Ytfhlpgngeiploaa
namespace Go.Proofs
open Go.Shelf
def Try.laysM316_ren : Go.Shelf.Ren := ⟨fun | 316 => 52 | n => n, fun | 9 => 9 | 3 => 3 | 4 => 4 | 37 => 22 | 0 => 0 | 127 => 82 | 5 => 5 | n => n, fun | n => n⟩
theorem Try.laysM316 : Go.Proofs.LaysM.n316 Try.prog Try.laysM316_ren := {
  mixed := by kernel_rfl
  f316 := Try.func52.trans (congrArg some (by kernel_rfl))
  t0 := Try.underlying0
  a0 := Try.isAgg0
  z0 := Try.sizeOf0
  v0 := Try.zeroValue0
  t3 := Try.underlying3
  a3 := Try.isAgg3
  z3 := Try.sizeOf3
  v3 := Try.zeroValue3
  t4 := Try.underlying4
  a4 := Try.isAgg4
  z4 := Try.sizeOf4
  v4 := Try.zeroValue4
  t9 := Try.underlying9
  a9 := Try.isAgg9
  z9 := Try.sizeOf9
  v9 := Try.zeroValue9
  t37 := Try.underlying22
  a37 := Try.isAgg22
  z37 := Try.sizeOf22
  v37 := Try.zeroValue22
  t127 := Try.underlying82
  a127 := Try.isAgg82
  z127 := Try.sizeOf82
  v127 := Try.zeroValue82
  t5 := Try.underlying5
  a5 := Try.isAgg5
  z5 := Try.sizeOf5
  v5 := Try.zeroValue5
  i0 := by kernel_rfl
  i3 := by kernel_rfl
  i4 := by kernel_rfl
  i5 := by kernel_rfl
  i9 := by kernel_rfl
  i37 := by kernel_rfl
  i127 := by kernel_rfl }
open Go.RowKit in
theorem Try.stringslite_Clone (s : ByteArray) (w : World) (hlim : s.size ≤ 281474976710656) :
    Calls Try.prog 52 #[.string s] w fun e w' => e = .returned (.string s) ∧ Below w.heap.size w w' := Any.stringslite_Clone Try.laysM316 s w hlim
end Go.Proofs
namespace Go.Proofs.Ytfhlpgngeiploaa
open Go.RowKit

theorem cloneGives : CloneGives := fun s w hs => by
  have H := Lib.hid (fun w => Try.stringslite_Clone s w (by omega))
  go_enter Try.func32, Try.ntmps32
  go_wp2_with fail
  refine (H.out _).mono ?_
  rintro e w1 ⟨rfl, hb1⟩
  go_wp2
  go_ret
  exact ⟨rfl, hb1⟩

end Go.Proofs.Ytfhlpgngeiploaa
namespace Go.Proofs.Ytfhlpgngeiploaa
open Go.RowKit

theorem implReadPart_any (t : ByteArray) (id place count : Int) (part : ByteArray) (ok : Bool) (hz : t.size ≤ 1048576) (h : ReadPartIs t id place count part ok) (w : World) :
    Calls Try.prog 13 #[.string t] w fun e w' => e = .returned (.tuple #[.int .i64 id, .int .i64 place, .int .i64 count, .string part, .bool ok]) ∧ Below w.heap.size w w' := implReadPart_of cloneGives t id place count part ok hz h w

end Go.Proofs.Ytfhlpgngeiploaa
namespace Go.Proofs.Ytfhlpgngeiploaa
open Go.RowKit

/-- What ReadPart hands back. -/
def PartEnd (id place count : Int) (part : ByteArray) (ok : Bool) (w : World) (e : Ending) (w' : World) : Prop := e = .returned (.tuple #[.int .i64 id, .int .i64 place, .int .i64 count, .string part, .bool ok]) ∧ Below w.heap.size w w'

/-- What Split hands back. -/
def PiecesEnd (out : List ByteArray) (ok : Bool) (w : World) (e : Ending) (w' : World) : Prop := ∃ v f, e = .returned (.tuple #[v, .bool ok]) ∧ f.Nodup ∧ layStringS.own w' w.heap.size f [v] out ∧ Below w.heap.size w w'

end Go.Proofs.Ytfhlpgngeiploaa
namespace Go.Proofs.Ytfhlpgngeiploaa
open Go.RowKit

def layBoolS : Lay (List Bool) := .rows 4 .bool
theorem bool_own {w : World} {b : Nat} {f : List Nat} {cs : List Value} {x : Bool} : Lay.bool.own w b f cs x ↔ f = [] ∧ cs = [.bool x] := Iff.rfl
theorem bool_rd {w : World} {cs : List Value} {x : Bool} : Lay.bool.rd w cs x ↔ cs = [.bool x] := Iff.rfl
theorem infoBool : (Try.prog.info? 4).map (fun i => (i.zero, i.size, i.bytes)) = some (some (.bool false), 1, 1) := by kernel_rfl
/-- One bool of a row that can be read. -/
theorem bools_get {w : World} {v : Value} {xs : List Bool} (h : layBoolS.rd w [v] xs) (m : Nat) (hm : m < xs.length) : ∃ g off cap, v = .slice (some ⟨g, off, none⟩) xs.length cap ∧ g < w.heap.size ∧ w.cell? ⟨g, off + m, none⟩ = some (.bool xs[m]) := by
  obtain ⟨a, cap, rfl⟩ := rows_form h
  obtain ⟨g, off, c, rfl, hg, hr, hc⟩ := rows_elem h m _ (List.getElem?_eq_getElem hm)
  rw [bool_rd] at hr
  subst hr
  refine ⟨g, off, cap, rfl, hg, ?_⟩
  have := hc 0 _ rfl
  rw [show Lay.bool.k = 1 from rfl, Nat.mul_one] at this
  exact this
/-- One bool of a row is read and written. -/
theorem bools_put {w : World} {b : Nat} {fp : List Nat} {v : Value} {xs : List Bool} (h : layBoolS.own w b fp [v] xs) (hd : fp.Nodup) (m : Nat) (hm : m < xs.length) (y : Bool) :
    ∃ g cap, v = .slice (some ⟨g, 0, none⟩) xs.length cap ∧ b ≤ g ∧ g < w.heap.size ∧ g ∈ fp ∧ w.cell? ⟨g, m, none⟩ = some (.bool xs[m]) ∧ w.frozen? ⟨g, m, none⟩ = false ∧
      layBoolS.own (w.setCell ⟨g, m, none⟩ (.bool y)) b fp [v] (xs.set m y) ∧ Chg fp w (w.setCell ⟨g, m, none⟩ (.bool y)) := by
  have e : xs = xs.take m ++ xs[m] :: xs.drop (m + 1) := by rw [List.getElem_cons_drop, List.take_append_drop]
  have es : xs.set m y = xs.take m ++ y :: xs.drop (m + 1) := by rw [List.set_eq_take_append_cons_drop, if_pos hm]
  have hl : (xs.take m ++ xs[m] :: xs.drop (m + 1)).length = xs.length := by rw [← e]
  have h2 := h
  rw [e] at h2
  obtain ⟨g, cap, f1, f2, f3, u1, c, u3, hv, rfl, Z⟩ := rows_open h2 hd
  rw [hl] at hv
  obtain ⟨rfl, rfl⟩ := bool_own.1 Z.mid
  have hml : (xs.take m).length = m := by rw [List.length_take]; omega
  have hc := Z.cell 0 _ rfl
  rw [show Lay.bool.k = 1 from rfl, Nat.mul_one, hml] at hc
  have hs := Z.store [.bool y] 0 (by simp) [] y (bool_own.2 ⟨rfl, rfl⟩) Z.dup
  rw [show Lay.bool.k = 1 from rfl, Nat.mul_one, hml] at hs
  refine ⟨g, cap, hv, Z.lt.1, Z.lt.2, by simp, hc.1, hc.2, ?_, hs.2.sub (by simp)⟩
  have h3 := hs.1.shut
  have e4 : (xs.take m ++ y :: xs.drop (m + 1)).length = xs.length := by rw [← es, List.length_set]
  rw [e4] at h3
  rw [es, hv]
  exact h3

end Go.Proofs.Ytfhlpgngeiploaa
namespace Go.Proofs.Ytfhlpgngeiploaa
open Go.RowKit

end Go.Proofs.Ytfhlpgngeiploaa
namespace Go.Proofs.Ytfhlpgngeiploaa
open Go.RowKit

end Go.Proofs.Ytfhlpgngeiploaa
namespace Go.Proofs.Ytfhlpgngeiploaa
open Go.RowKit

def FitsBool (xs : List Bool) : Prop := xs.length ≤ 1048576
end Go.Proofs.Ytfhlpgngeiploaa

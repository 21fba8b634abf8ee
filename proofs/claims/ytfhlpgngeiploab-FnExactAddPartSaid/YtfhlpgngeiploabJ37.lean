/-
  The library's contracts laid at this translation, in plain words: each is one application.
  What the library's Clone gives.
  A right shelf is small.
  The exact law on AddPart, at every argument.
-/
import Derived.Shelf.LaysM
import Derived.Shelf.Strconv.Clone
import Derived.Test.YtfhlpgngeiploabProg
import Derived.Test.YtfhlpgngeiploabJ07
import Derived.Test.YtfhlpgngeiploabJ21
import Derived.Test.YtfhlpgngeiploabJ12
import Derived.Test.YtfhlpgngeiploabJ11
import Derived.Test.YtfhlpgngeiploabJ33
import Derived.Test.YtfhlpgngeiploabJ36
import Derived.Test.YtfhlpgngeiploabJ32
namespace Go.Proofs
open Go.Shelf
def Try.laysM316_ren : Go.Shelf.Ren := ⟨fun | 316 => 60 | n => n, fun | 9 => 9 | 3 => 3 | 4 => 4 | 37 => 70 | 0 => 0 | 127 => 79 | 5 => 5 | n => n, fun | n => n⟩
theorem Try.laysM316 : Go.Proofs.LaysM.n316 Try.prog Try.laysM316_ren := {
  mixed := by kernel_rfl
  f316 := Try.func60.trans (congrArg some (by kernel_rfl))
  t0 := Try.underlying0
  a0 := Try.isAgg0
  z0 := Try.sizeOf0
  v0 := Try.zeroValue0
  t3 := Try.underlying3
  a3 := Try.isAgg3
  z3 := Try.sizeOf3
  v3 := Try.zeroValue3
  t4 := Try.underlying4
  a4 := Try.isAgg4
  z4 := Try.sizeOf4
  v4 := Try.zeroValue4
  t9 := Try.underlying9
  a9 := Try.isAgg9
  z9 := Try.sizeOf9
  v9 := Try.zeroValue9
  t37 := Try.underlying70
  a37 := Try.isAgg70
  z37 := Try.sizeOf70
  v37 := Try.zeroValue70
  t127 := Try.underlying79
  a127 := Try.isAgg79
  z127 := Try.sizeOf79
  v127 := Try.zeroValue79
  t5 := Try.underlying5
  a5 := Try.isAgg5
  z5 := Try.sizeOf5
  v5 := Try.zeroValue5
  i0 := by kernel_rfl
  i3 := by kernel_rfl
  i4 := by kernel_rfl
  i5 := by kernel_rfl
  i9 := by kernel_rfl
  i37 := by kernel_rfl
  i127 := by kernel_rfl }
open Go.RowKit in
theorem Try.stringslite_Clone (s : ByteArray) (w : World) (hlim : s.size ≤ 281474976710656) :
    Calls Try.prog 60 #[.string s] w fun e w' => e = .returned (.string s) ∧ Below w.heap.size w w' := Any.stringslite_Clone Try.laysM316 s w hlim
end Go.Proofs
namespace Go.Proofs.Ytfhlpgngeiploab
open Go.RowKit

theorem cloneGives : CloneGives := fun s w hs => by
  have H := Lib.hid (fun w => Try.stringslite_Clone s w (by omega))
  go_enter Try.func47, Try.ntmps47
  go_wp2_with fail
  refine (H.out _).mono ?_
  rintro e w1 ⟨rfl, hb1⟩
  go_wp2
  go_ret
  exact ⟨rfl, hb1⟩

end Go.Proofs.Ytfhlpgngeiploab
namespace Go.Proofs.Ytfhlpgngeiploab
open Go.RowKit

theorem parts_right : ∀ (xs : List HeldD), (∀ x ∈ xs, HeldP x) → partsN xs ≤ 30 * xs.length
  | [], _ => by simp [partsN]
  | x :: xs, h => by
    have k := parts_right xs (fun y hy => h y (List.mem_cons_of_mem _ hy))
    obtain ⟨⟨_, _, h2, h3, h4, _⟩, _⟩ := h x List.mem_cons_self
    have e : partsN (x :: xs) = x.2.2.2.1.length + x.2.2.2.2.1.length + partsN xs := rfl
    rw [e, List.length_cons]
    omega
theorem right_fits {xs : List HeldD} (h : ShelfP xs) : FitsHeldS xs ∧ ∀ x ∈ xs, HdG x := by
  obtain ⟨h1, h2, _⟩ := h
  have h3 := parts_right xs h2
  refine ⟨⟨by omega, fun x hx => ?_, by omega⟩, fun x hx => ?_⟩
  · obtain ⟨⟨_, _, a2, a3, a4, _, a6⟩, _⟩ := h2 x hx
    refine ⟨⟨by omega, fun p hp => ?_⟩, by unfold FitsBool; omega⟩
    obtain ⟨i, hi, rfl⟩ := List.mem_iff_getElem.1 hp
    have := (a6 i _ (List.getElem?_eq_getElem hi)).1
    omega
  · obtain ⟨⟨a0, a1, a2, _, _, a5, _⟩, _⟩ := h2 x hx
    exact ⟨⟨by omega, by omega⟩, ⟨by omega, by omega⟩, ⟨by omega, by omega⟩, ⟨by omega, by omega⟩⟩

end Go.Proofs.Ytfhlpgngeiploab
namespace Go.Proofs.Ytfhlpgngeiploab
open Go.RowKit

theorem add_few {xs : List HeldD} {fr : Int} {txt : ByteArray} {now : Int} {ys : List HeldD} {whole : ByteArray} {done : Bool} (hf : FitsHeldS xs) (h : AddIs xs fr txt now ys whole done) : ys.length + partsN ys ≤ 10000000 := by
  by_cases hs : ShelfP xs
  · have hy := add_right hs h
    have hp := right_fits hy
    have h1 := hp.1.1
    have h2 := hp.1.2.2
    omega
  · rcases h with ⟨⟨h1, _⟩, _⟩ | ⟨⟨h1, _⟩, _⟩ | ⟨_, rfl, _⟩
    · exact absurd h1 hs
    · exact absurd h1 hs
    · have h1 := hf.1
      have h2 := hf.2.2
      omega
theorem lawAddPart (v : Value) (xs : List HeldD) (fr : Int) (txt : ByteArray) (now : Int) (hR : RoomHeldS xs) (hg : ∀ x ∈ xs, HdG x) (w : World) (ha : layHeldS.rd w [v] xs) :
    Calls Try.prog 4 #[.agg #[v], .int .i64 fr, .string txt, .int .i64 now] w fun e w' => e = .returned (.bool true) ∧ Below w.heap.size w w' := by
  obtain ⟨ys, whole, done, h⟩ := add_is xs fr txt now
  by_cases hf : FitsHeldS xs
  · exact lawAddPartF v xs fr txt now hR ys whole done (add_few hf h) (fun hz hf v X hr => addPart_any cloneGives v xs fr txt now ys whole done h hf hg hz X hr) (fun hz hf v X hr => specAddPart_any v xs fr txt now ys whole done h (by have := hf.1; omega) (fun x hx => ⟨by have := (hf.2.1 x hx).1.1; omega, by have := (hf.2.1 x hx).2; unfold FitsBool at this; omega⟩) hz X hr) w ha
  · exact lawAddPartF v xs fr txt now hR [] ⟨#[]⟩ false (by simp [partsN]) (fun _ h => absurd h hf) (fun _ h => absurd h hf) w ha

end Go.Proofs.Ytfhlpgngeiploab

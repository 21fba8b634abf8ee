/-
  The library's contracts laid at this translation, in plain words: each is one application.
  What the library's Clone gives the copies of slots.
  The program's SeenOk.
-/
import Derived.Shelf.Strings.Builder1
import Derived.Shelf.Strings.Builder2
import Derived.Shelf.Strings.BuilderF
import Derived.Shelf.Strings.BuilderK
import Derived.Shelf.Strings.Builder2Cap
import Derived.Shelf.LaysM
import Derived.Shelf.Strconv.Clone
import Derived.Shelf.Strings.Prefix
import Derived.Shelf.Bits.Mul64
import Derived.Shelf.Strings.Repeat
import Derived.Shelf.Strings.BuilderCap
import Derived.Test.YtoaifgblbfdncabDoorProg
import Derived.Test.YtoaifgblbfdncabDoorJ22
import Derived.Test.YtoaifgblbfdncabDoorJ08
namespace Go.Proofs
open Go.Shelf
def Tryd.lays169_ren : Go.Shelf.Ren := ⟨fun | 169 => 58 | n => n, fun | 70 => 82 | 9 => 9 | 0 => 0 | 72 => 84 | 37 => 70 | 127 => 106 | 3 => 3 | 5 => 5 | n => n, fun | n => n⟩
theorem Tryd.lays169 : Go.Proofs.Lays.n169 Tryd.prog Tryd.lays169_ren := {
  mixed := by kernel_rfl
  f169 := Tryd.func58.trans (congrArg some (by kernel_rfl))
  t0 := Tryd.underlying0
  a0 := Tryd.isAgg0
  z0 := Tryd.sizeOf0
  v0 := Tryd.zeroValue0
  t3 := Tryd.underlying3
  a3 := Tryd.isAgg3
  z3 := Tryd.sizeOf3
  v3 := Tryd.zeroValue3
  t9 := Tryd.underlying9
  a9 := Tryd.isAgg9
  z9 := Tryd.sizeOf9
  v9 := Tryd.zeroValue9
  t37 := Tryd.underlying70
  a37 := Tryd.isAgg70
  z37 := Tryd.sizeOf70
  v37 := Tryd.zeroValue70
  t70 := Tryd.underlying82
  a70 := Tryd.isAgg82
  z70 := Tryd.sizeOf82
  v70 := Tryd.zeroValue82
  t72 := Tryd.underlying84
  a72 := Tryd.isAgg84
  z72 := Tryd.sizeOf84
  v72 := Tryd.zeroValue84
  t127 := Tryd.underlying106
  a127 := Tryd.isAgg106
  z127 := Tryd.sizeOf106
  v127 := Tryd.zeroValue106 }
theorem Tryd.Builder_Extra_169 : Builder.Extra Tryd.prog Tryd.lays169_ren := {
  sizeBuilder := by kernel_rfl
  liesBuilder := by kernel_rfl
  t5 := Tryd.underlying5
  a5 := Tryd.isAgg5
  z5 := Tryd.sizeOf5
  v5 := Tryd.zeroValue5
  infoByte := by kernel_rfl
  cellsByte := by kernel_rfl
  sizeByte := by kernel_rfl
  neB5 := by decide }
open Go.RowKit in
open Go.RowKit in
theorem Tryd.Builder_String_f (B b : Nat) (l : List UInt8) (w : World) (h : Lib.IsBuilderF 84 5 B b (Lib.byteCells l) w) (h0 : l ≠ []) :
    Calls Tryd.prog 58 #[.pointer (some ⟨b, 0, none⟩)] w fun e w' => e = .returned (.string ⟨l.toArray⟩) ∧ (Lib.IsBuilderF 84 5 B b (Lib.byteCells l) w' ∧ Below B w w') := Any.Builder_String_f Tryd.lays169 Tryd.Builder_Extra_169 B b l w h h0
open Go.RowKit in
def Tryd.laysM316_ren : Go.Shelf.Ren := ⟨fun | 316 => 63 | n => n, fun | 9 => 9 | 3 => 3 | 4 => 4 | 37 => 70 | 0 => 0 | 127 => 106 | 5 => 5 | n => n, fun | n => n⟩
theorem Tryd.laysM316 : Go.Proofs.LaysM.n316 Tryd.prog Tryd.laysM316_ren := {
  mixed := by kernel_rfl
  f316 := Tryd.func63.trans (congrArg some (by kernel_rfl))
  t0 := Tryd.underlying0
  a0 := Tryd.isAgg0
  z0 := Tryd.sizeOf0
  v0 := Tryd.zeroValue0
  t3 := Tryd.underlying3
  a3 := Tryd.isAgg3
  z3 := Tryd.sizeOf3
  v3 := Tryd.zeroValue3
  t4 := Tryd.underlying4
  a4 := Tryd.isAgg4
  z4 := Tryd.sizeOf4
  v4 := Tryd.zeroValue4
  t9 := Tryd.underlying9
  a9 := Tryd.isAgg9
  z9 := Tryd.sizeOf9
  v9 := Tryd.zeroValue9
  t37 := Tryd.underlying70
  a37 := Tryd.isAgg70
  z37 := Tryd.sizeOf70
  v37 := Tryd.zeroValue70
  t127 := Tryd.underlying106
  a127 := Tryd.isAgg106
  z127 := Tryd.sizeOf106
  v127 := Tryd.zeroValue106
  t5 := Tryd.underlying5
  a5 := Tryd.isAgg5
  z5 := Tryd.sizeOf5
  v5 := Tryd.zeroValue5
  i0 := by kernel_rfl
  i3 := by kernel_rfl
  i4 := by kernel_rfl
  i5 := by kernel_rfl
  i9 := by kernel_rfl
  i37 := by kernel_rfl
  i127 := by kernel_rfl }
open Go.RowKit in
theorem Tryd.stringslite_Clone (s : ByteArray) (w : World) (hlim : s.size ≤ 281474976710656) :
    Calls Tryd.prog 63 #[.string s] w fun e w' => e = .returned (.string s) ∧ Below w.heap.size w w' := Any.stringslite_Clone Tryd.laysM316 s w hlim
def Tryd.lays105_ren : Go.Shelf.Ren := ⟨fun | 105 => 55 | 212 => 69 | 99 => 70 | 165 => 71 | 166 => 57 | 170 => 72 | 169 => 58 | 263 => 80 | 264 => 81 | 206 => 82 | 240 => 73 | 241 => 83 | 276 => 84 | 277 => 86 | n => n, fun | 9 => 9 | 3 => 3 | 4 => 4 | 20 => 20 | 0 => 0 | 46 => 81 | 109 => 101 | 5 => 5 | 72 => 84 | 76 => 87 | 51 => 57 | 146 => 112 | 53 => 78 | 148 => 114 | 70 => 82 | 37 => 70 | 75 => 86 | 127 => 106 | 164 => 116 | 80 => 64 | n => n, fun | n => n⟩
theorem Tryd.lays105 : Go.Proofs.Lays.n105 Tryd.prog Tryd.lays105_ren := {
  mixed := by kernel_rfl
  f99 := Tryd.func70.trans (congrArg some (by kernel_rfl))
  f105 := Tryd.func55.trans (congrArg some (by kernel_rfl))
  f165 := Tryd.func71.trans (congrArg some (by kernel_rfl))
  f166 := Tryd.func57.trans (congrArg some (by kernel_rfl))
  f169 := Tryd.func58.trans (congrArg some (by kernel_rfl))
  f170 := Tryd.func72.trans (congrArg some (by kernel_rfl))
  f206 := Tryd.func82.trans (congrArg some (by kernel_rfl))
  f212 := Tryd.func69.trans (congrArg some (by kernel_rfl))
  f240 := Tryd.func73.trans (congrArg some (by kernel_rfl))
  f241 := Tryd.func83.trans (congrArg some (by kernel_rfl))
  f263 := Tryd.func80.trans (congrArg some (by kernel_rfl))
  f264 := Tryd.func81.trans (congrArg some (by kernel_rfl))
  f276 := Tryd.func84.trans (congrArg some (by kernel_rfl))
  f277 := Tryd.func86.trans (congrArg some (by kernel_rfl))
  t0 := Tryd.underlying0
  a0 := Tryd.isAgg0
  z0 := Tryd.sizeOf0
  v0 := Tryd.zeroValue0
  t3 := Tryd.underlying3
  a3 := Tryd.isAgg3
  z3 := Tryd.sizeOf3
  v3 := Tryd.zeroValue3
  t4 := Tryd.underlying4
  a4 := Tryd.isAgg4
  z4 := Tryd.sizeOf4
  v4 := Tryd.zeroValue4
  t5 := Tryd.underlying5
  a5 := Tryd.isAgg5
  z5 := Tryd.sizeOf5
  v5 := Tryd.zeroValue5
  t9 := Tryd.underlying9
  a9 := Tryd.isAgg9
  z9 := Tryd.sizeOf9
  v9 := Tryd.zeroValue9
  t20 := Tryd.underlying20
  a20 := Tryd.isAgg20
  z20 := Tryd.sizeOf20
  v20 := Tryd.zeroValue20
  t37 := Tryd.underlying70
  a37 := Tryd.isAgg70
  z37 := Tryd.sizeOf70
  v37 := Tryd.zeroValue70
  t46 := Tryd.underlying81
  a46 := Tryd.isAgg81
  z46 := Tryd.sizeOf81
  v46 := Tryd.zeroValue81
  t51 := Tryd.underlying57
  a51 := Tryd.isAgg57
  z51 := Tryd.sizeOf57
  v51 := Tryd.zeroValue57
  t53 := Tryd.underlying78
  a53 := Tryd.isAgg78
  z53 := Tryd.sizeOf78
  v53 := Tryd.zeroValue78
  t70 := Tryd.underlying82
  a70 := Tryd.isAgg82
  z70 := Tryd.sizeOf82
  v70 := Tryd.zeroValue82
  t72 := Tryd.underlying84
  a72 := Tryd.isAgg84
  z72 := Tryd.sizeOf84
  v72 := Tryd.zeroValue84
  t75 := Tryd.underlying86
  a75 := Tryd.isAgg86
  z75 := Tryd.sizeOf86
  v75 := Tryd.zeroValue86
  t76 := Tryd.underlying87
  a76 := Tryd.isAgg87
  z76 := Tryd.sizeOf87
  v76 := Tryd.zeroValue87
  t109 := Tryd.underlying101
  a109 := Tryd.isAgg101
  z109 := Tryd.sizeOf101
  v109 := Tryd.zeroValue101
  t127 := Tryd.underlying106
  a127 := Tryd.isAgg106
  z127 := Tryd.sizeOf106
  v127 := Tryd.zeroValue106
  t146 := Tryd.underlying112
  a146 := Tryd.isAgg112
  z146 := Tryd.sizeOf112
  v146 := Tryd.zeroValue112
  t148 := Tryd.underlying114
  a148 := Tryd.isAgg114
  z148 := Tryd.sizeOf114
  v148 := Tryd.zeroValue114
  t164 := Tryd.underlying116
  a164 := Tryd.isAgg116
  z164 := Tryd.sizeOf116
  v164 := Tryd.zeroValue116 }
theorem Tryd.Builder_Extra_105 : Builder.Extra Tryd.prog Tryd.lays105_ren := {
  sizeBuilder := by kernel_rfl
  liesBuilder := by kernel_rfl
  t5 := Tryd.underlying5
  a5 := Tryd.isAgg5
  z5 := Tryd.sizeOf5
  v5 := Tryd.zeroValue5
  infoByte := by kernel_rfl
  cellsByte := by kernel_rfl
  sizeByte := by kernel_rfl
  neB5 := by decide }
open Go.RowKit Go.Lib in
theorem Tryd.strings_Repeat (s : ByteArray) (c : Nat) (w : World) (hc : c ≤ 9223372036854775807) (hlen : s.size * c ≤ 140737488355328) :
    Calls Tryd.prog 55 #[.string s, .int .i64 c] w fun e w' => e = .returned (.string ⟨(Lib.repeatL s.data.toList c).toArray⟩) ∧ Below w.heap.size w w' := Any.strings_Repeat Tryd.lays105 Tryd.Builder_Extra_105 s c w hc hlen
end Go.Proofs
namespace Go.Proofs.YtoaifgblbfdncabDoor
open Go.RowKit

theorem cloneS : CloneS := fun s w hs => by
  have H := Lib.hid (fun w => Tryd.stringslite_Clone s w (by omega))
  go_enter Tryd.func40, Tryd.ntmps40
  go_wp2_with fail
  refine (H.out _).mono ?_
  rintro e w1 ⟨rfl, hb1⟩
  go_wp2
  go_ret
  exact ⟨rfl, hb1⟩

end Go.Proofs.YtoaifgblbfdncabDoor
namespace Go.Proofs.YtoaifgblbfdncabDoor
open Go.RowKit

/-- Right ones are few: no more than six are above the first less six. -/
theorem seenTo_few {xs : List Int} (h : SeenTo xs xs.length) : xs.length ≤ 6 := by
  have hd : DescZ xs := (desc_iff xs).2 fun i hi => (h (i + 1) hi hi).2.1 (by omega)
  have hm : ∀ x ∈ xs, topZ xs - 6 < x := fun x hx => by
    obtain ⟨i, hi, rfl⟩ := List.getElem_of_mem hx
    exact (h i hi hi).2.2
  have := desc_len hd hm
  omega
set_option maxRecDepth 100000 in
set_option maxHeartbeats 3200000 in
theorem implSeenOk_bool (xs : List Int) (v : Value) (b : Bool) (hb : b = true ↔ SeenP xs) (hl : xs.length ≤ 100000000) (_hwf : ∀ x ∈ xs, IntZ x) (w : World) (h : layIntS.rd w [v] xs) :
    Calls Tryd.prog 62 #[v] w fun e w' => e = .returned (.bool b) ∧ Below w.heap.size w w' := by
  rw [seenP_iff] at hb
  obtain ⟨ao, cp, rfl⟩ := rows_form h
  have HR := Lib.hid h
  have HB := Lib.hid hb
  have HF : Hid (¬ SeenTo xs xs.length → b = false) := Lib.hid (fun h => by
    cases b with
    | false => rfl
    | true => exact absurd (hb.1 rfl).1 h)
  clear h hb
  go_enter Tryd.func62, Tryd.ntmps62
  go_wp2_with fail
  go_loop [7] (fun c => ∃ j : Nat, j ≤ xs.length ∧ c = .int .i64 j ∧ Hid (SeenTo xs j)) (fun c => xs.length - (intOf c).toNat)
  case atStart => exact ⟨0, Nat.zero_le _, rfl, Lib.hid (fun i _ h => absurd h (by omega))⟩
  case round =>
    obtain ⟨j, hj, rfl, HA⟩ := hrel
    by_cases hlt : j < xs.length
    · have hlt' : (j : Int) < (xs.length : Int) := by omega
      have hl0 : (0 : Int) < (xs.length : Int) := by omega
      obtain ⟨g, off, c2, hv, -, c0⟩ := ints_get HR.out j hlt
      simp only [Value.slice.injEq] at hv
      obtain ⟨rfl, -, rfl⟩ := hv
      have d0 := ints_at HR.out (show 0 < xs.length by omega) rfl
      have d1 : w.cell? ⟨g, off, none⟩ = some (.int .i64 (xs[0]'(by omega))) := d0
      obtain ⟨p, hpe⟩ : ∃ p : Int, (hj2 : j - 1 < xs.length) → xs[j - 1] = p := ⟨xs.getD (j - 1) 0, fun h => by rw [List.getD_eq_getElem?_getD, List.getElem?_eq_getElem h]; rfl⟩
      have hpv : 0 < j → ∀ i : Nat, i = j - 1 → w.cell? ⟨g, off + i, none⟩ = some (.int .i64 p) := fun h0 i hi => by
        subst hi
        rw [← hpe (by omega)]
        exact ints_at HR.out (show j - 1 < xs.length by omega) rfl
      have htop : topZ xs = xs[0]'(by omega) := top_get (by omega)
      have hfirst : 0 < j → 1 ≤ xs[0]'(by omega) ∧ xs[0]'(by omega) ≤ 1000000000 := fun h0 => (HA.out 0 (by omega) h0).1
      have hzero : j = 0 → xs[0]'(by omega) = xs[j] := fun h0 => by subst h0; rfl
      have HX : Hid (¬ ((1 ≤ xs[j] ∧ xs[j] ≤ 1000000000) ∧ (0 < j → xs[j] < p) ∧ xs[0]'(by omega) - 6 < xs[j]) → b = false) := Lib.hid (fun h => HF.out fun hw => h (by rw [← htop]; have := hw j hlt hlt; exact ⟨this.1, fun h0 => by rw [← hpe (by omega)]; exact this.2.1 h0, this.2.2⟩))
      have HNX : Hid ((1 ≤ xs[j] ∧ xs[j] ≤ 1000000000) → (0 < j → xs[j] < p) → xs[0]'(by omega) - 6 < xs[j] → SeenTo xs (j + 1)) := Lib.hid (fun h1 h2 h3 => seenTo_next hlt HA.out h1 (fun h0 => by rw [hpe (by omega)]; exact h2 h0) (by rw [htop]; exact h3))
      clear htop hpe
      generalize (xs[0]'(by omega)) = t at *
      generalize xs[j] = x at *
      by_cases h1 : 1 ≤ x
      rotate_left
      · obtain rfl := HX.out (fun h => h1 h.1.1)
        have k1 : decide (x < 1) = true := decide_eq_true (by omega)
        clear HX HNX h1 hpv hfirst hzero
        go_wp2_with fail
        go_ret
        exact ⟨rfl, Below.refl _ _⟩
      have k1 : decide (x < 1) = false := decide_eq_false (by omega)
      by_cases h2 : x ≤ 1000000000
      rotate_left
      · obtain rfl := HX.out (fun h => h2 h.1.2)
        have k2 : decide (1000000000 < x) = true := decide_eq_true (by omega)
        clear HX HNX h1 h2 hpv hfirst hzero
        go_wp2_with fail
        go_ret
        exact ⟨rfl, Below.refl _ _⟩
      have k2 : decide (1000000000 < x) = false := decide_eq_false (by omega)
      have ht : 1 ≤ t ∧ t ≤ 1000000000 := by
        rcases Nat.eq_zero_or_pos j with h0 | h0
        · rw [hzero h0]; exact ⟨h1, h2⟩
        · exact hfirst h0
      have hwt : IntKind.i64.wrap (t - 6) = t - 6 := by rw [IntKind.wrap_i64]; omega
      by_cases hf : t - 6 < x
      rotate_left
      · obtain rfl := HX.out (fun h => hf h.2.2)
        have k3 : decide (x ≤ t - 6) = true := decide_eq_true (by omega)
        clear HX HNX h1 h2 hf hpv hfirst hzero
        go_wp2_with fail
        go_ret
        exact ⟨rfl, Below.refl _ _⟩
      have k3 : decide (x ≤ t - 6) = false := decide_eq_false (by omega)
      rcases Nat.eq_zero_or_pos j with h0 | h0
      · have h00 : ¬ ((0 : Int) < (j : Int)) := by omega
        have h01 : ¬ (0 < j) := by omega
        have HJ := Lib.hid (HNX.out ⟨h1, h2⟩ (fun h => absurd h (by omega)) hf)
        clear HX HNX hpv hfirst hzero h0
        go_wp2_with fail
        go_round
        case rel => exact ⟨j + 1, by omega, by go_num, HJ⟩
        case measure => simp [intOf]; omega
      · have h0' : (0 : Int) < (j : Int) := by omega
        obtain ⟨i, hi⟩ : ∃ i : Nat, i = j - 1 := ⟨_, rfl⟩
        have hwi : IntKind.i64.wrap ((j : Int) - 1) = (i : Int) := by rw [IntKind.wrap_i64]; omega
        have hil : (i : Int) < (xs.length : Int) := by omega
        have p0 := hpv h0 i hi
        clear hpv hfirst hzero hi
        by_cases hp : x < p
        rotate_left
        · obtain rfl := HX.out (fun h => hp (h.2.1 h0))
          have hp' : decide (p ≤ x) = true := decide_eq_true (by omega)
          clear HX HNX hp
          go_wp2_with fail
          go_ret
          exact ⟨rfl, Below.refl _ _⟩
        have hp' : decide (p ≤ x) = false := decide_eq_false (by omega)
        have HJ := Lib.hid (HNX.out ⟨h1, h2⟩ (fun _ => hp) hf)
        clear HX HNX
        go_wp2_with fail
        go_round
        case rel => exact ⟨j + 1, by omega, by go_num, HJ⟩
        case measure => simp [intOf]; omega
    · obtain rfl : j = xs.length := by omega
      have hge : ¬ ((xs.length : Int) < (xs.length : Int)) := by omega
      obtain rfl : b = true := HB.out.2 ⟨HA.out, seenTo_few HA.out⟩
      go_wp2_with fail
      go_ret
      exact ⟨rfl, Below.refl _ _⟩

end Go.Proofs.YtoaifgblbfdncabDoor

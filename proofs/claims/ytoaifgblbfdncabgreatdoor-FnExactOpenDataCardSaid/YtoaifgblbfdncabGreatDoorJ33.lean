/-
  The program's OpenText: steps that panic with a fault of its own, and the deferred function that takes it back.
  The program's OpenText.
  What is taken once, in plain words: none twice, each near what was taken ahead, all of a row.
-/
import Derived.Test.YtoaifgblbfdncabGreatDoorJ10
import Derived.Test.YtoaifgblbfdncabGreatDoorJ06
import Derived.Defers
import Derived.Recover
import Derived.LaidEql
import Derived.Laws.Pointers
import Derived.Test.YtoaifgblbfdncabGreatDoorJ32
import Derived.Test.YtoaifgblbfdncabGreatDoorJ12
namespace Go.Proofs.YtoaifgblbfdncabGreatDoor
open Go.RowKit

/-- What a reader panics with. -/
def faultText : ByteArray := ⟨#[110, 111, 116, 32, 108, 111, 99, 107, 101, 100, 32, 119, 105, 116, 104, 32, 116, 104, 105, 115, 32, 107, 101, 121, 32, 97, 110, 100, 32, 110, 117, 109, 98, 101, 114]⟩
def faultV : Value := .iface 88 (.string faultText)
/-- Two interface values of one type over strings are compared. -/
theorem run_eql_iface_text {P : Program} (w : World) {t tx : TypeId} {ms : Array (String × TypeId)} (a b : ByteArray)
    (ht : P.underlying t = some (.interface ms)) (hc : (P.info? tx).map (·.comparable) = some true) (hx : P.underlying tx = some .string) :
    (binOp .eql t (.iface tx (.string a)) (.iface tx (.string b))).run P w = .ok (.bool (a == b)) w := by
  cases hi : P.info? tx with
  | none => simp [hi] at hc
  | some i =>
    have hcc : i.comparable = true := by simpa [hi] using hc
    have h : ∀ d : Nat, (Op.equalIn (d + 2) t (.iface tx (.string a)) (.iface tx (.string b))).run P w = .ok (a == b) w := fun d => by
      simp [Op.equalIn, run_underlying ht, run_underlying hx, typeInfo, hi, hcc]
    simp only [binOp]
    simp [Op.equal, Op.maxDepth, h 9998]

theorem cutTag_no (text : ByteArray) (h : text.size < 16) (w : World) :
    Calls Tryz.prog 66 #[.string text] w fun e w' => e = .panicked [{ v := faultV, recovered := false }] ∧ w' = w := by
  obtain ⟨n, hn, hneg⟩ : ∃ n : Int, (text.size : Int) - 16 = n ∧ n < 0 := ⟨_, rfl, by omega⟩
  go_enter Tryz.func66, Tryz.ntmps66
  go_wp2_with fail
  exact ⟨rfl, rfl, rfl⟩
theorem cutTag_yes (text x rest : ByteArray) (n : Nat) (hn : text.size = n + 16) (hs : n ≤ 1000000000) (hx : text.extract 0 n = x) (hr : text.extract n text.size = rest) (w : World) :
    Calls Tryz.prog 66 #[.string text] w fun e w' => e = .returned (.tuple #[.string x, .string rest]) ∧ Below w.heap.size w w' := by
  have hn1 : (text.size : Int) - 16 = (n : Int) := by omega
  have hle : (n : Int) ≤ (text.size : Int) := by omega
  have hnn : ¬ ((n : Int) < 0) := by omega
  clear hn
  go_enter Tryz.func66, Tryz.ntmps66
  go_wp2_with fail
  go_quiet (fail)
  go_wp2_with fail
  go_ret2
  exact ⟨rfl, below_drewN (Below.refl _ _) _⟩
theorem checkTag_no (a b : ByteArray) (hz : a.size ≤ 1000000000) (h : (a.toList == b.toList) = false) (w : World) :
    Calls Tryz.prog 68 #[.string a, .string b] w fun e w' => e = .panicked [{ v := faultV, recovered := false }] ∧ Below w.heap.size w w' := by
  have h0 := implSameMac_any a b hz w
  rw [h] at h0
  have H0 := Lib.hid h0
  clear h0 h
  go_enter Tryz.func68, Tryz.ntmps68
  go_wp2_with fail
  refine (H0.out).mono ?_
  rintro e w0 ⟨rfl, hb0⟩
  go_wp2_with fail
  exact ⟨rfl, rfl, hb0⟩
theorem checkTag_yes (a b : ByteArray) (hz : a.size ≤ 1000000000) (h : (a.toList == b.toList) = true) (w : World) :
    Calls Tryz.prog 68 #[.string a, .string b] w fun e w' => e = .returned (.tuple #[]) ∧ Below w.heap.size w w' := by
  have h0 := implSameMac_any a b hz w
  rw [h] at h0
  have H0 := Lib.hid h0
  clear h0 h
  go_enter Tryz.func68, Tryz.ntmps68
  go_wp2_with fail
  refine (H0.out).mono ?_
  rintro e w0 ⟨rfl, hb0⟩
  go_wp2_with fail
  refine bodyPost_end (results_none rfl _ _ _) rfl ?_
  exact ⟨rfl, hb0⟩

theorem catchFault_idle (p0 p1 : Addr) (w : World) :
    CallsD Tryz.prog 65 #[.pointer (some p0), .pointer (some p1)] .returning w fun e u' w' => e = .returned (.tuple #[]) ∧ u' = .returning ∧ w' = w := by
  have he := fun W => run_eql_iface_nil_left (P := Tryz.prog) (w := W) (ti := 20) 88 (.string faultText) Tryz.underlying20
  unfold faultText at he
  refine callsD_of_wpS Tryz.func65 rfl fun c₀ cs hu => ?_
  apply wpS_seq
  apply wpS_region
  simp [wpOpsS, go_sem, recoverD, hu, Tryz.ntmps65, Exit.thenS, he]
  refine wpS_of_wp ?_
  go_wp2_with fail
  cases c₀
  simp_all [bodyPostS, results, Tryz.results65]

set_option maxRecDepth 100000 in
set_option maxHeartbeats 1000000 in
theorem catchFault_panicking (B p0 p1 : Nat) (hne : p0 ≠ p1) (s0 b0 : Value) (older : List PanicEntry) (w : World) (hB0 : B ≤ p0) (hB1 : B ≤ p1) (c0 : w.cell? ⟨p0, 0, none⟩ = some s0) (c1 : w.cell? ⟨p1, 0, none⟩ = some b0) (f0 : w.frozen? ⟨p0, 0, none⟩ = false) (f1 : w.frozen? ⟨p1, 0, none⟩ = false) :
    CallsD Tryz.prog 65 #[.pointer (some ⟨p0, 0, none⟩), .pointer (some ⟨p1, 0, none⟩)] (.panicking ({ v := faultV, recovered := false } :: older)) w fun e u' w' => e = .returned (.tuple #[]) ∧ u' = .panicking ({ v := faultV, recovered := true } :: older) ∧ w'.cell? ⟨p0, 0, none⟩ = some (.string ⟨#[]⟩) ∧ w'.cell? ⟨p1, 0, none⟩ = some (.bool false) ∧ Below B w w' := by
  have he := fun W => run_eql_iface_text (P := Tryz.prog) W (t := 20) (tx := 88) faultText faultText Tryz.underlying20 rfl Tryz.underlying88
  have hq : (faultText == faultText) = true := by decide
  rw [hq] at he
  clear hq
  unfold faultV
  unfold faultText at he ⊢
  have hb1 : Below B w ((w.setCell ⟨p0, 0, none⟩ (.string ⟨#[]⟩)).setCell ⟨p1, 0, none⟩ (.bool false)) := ((Below.refl B w).setCell (p := ⟨p0, 0, none⟩) hB0 _).setCell (p := ⟨p1, 0, none⟩) hB1 _
  have HB := Lib.hid hb1
  clear hb1
  refine callsD_of_wpS Tryz.func65 rfl fun c₀ cs hu => ?_
  apply wpS_seq
  apply wpS_region
  simp [wpOpsS, go_sem, recoverD, hu, Tryz.ntmps65, Exit.thenS, he]
  refine wpS_of_wp ?_
  go_wp2_with fail
  have hb := HB.out
  have d0 : ((w.setCell ⟨p0, 0, none⟩ (.string ⟨#[]⟩)).setCell ⟨p1, 0, none⟩ (.bool false)).cell? ⟨p0, 0, none⟩ = some (.string ⟨#[]⟩) := by
    rw [World.cell?_setCell_other _ _ _ _ (fun e => hne (congrArg Addr.block e).symm)]
    exact World.cell?_setCell_same _ _ _ c0
  have d1 : ((w.setCell ⟨p0, 0, none⟩ (.string ⟨#[]⟩)).setCell ⟨p1, 0, none⟩ (.bool false)).cell? ⟨p1, 0, none⟩ = some (.bool false) := by
    have c1' : (w.setCell ⟨p0, 0, none⟩ (.string ⟨#[]⟩)).cell? ⟨p1, 0, none⟩ = some b0 := by
      rw [World.cell?_setCell_other _ _ _ _ (fun e => hne (congrArg Addr.block e))]
      exact c1
    exact World.cell?_setCell_same _ _ _ c1'
  clear HB he c0 c1 f0 f1
  cases c₀
  simp_all [bodyPostS, results, Tryz.results65]

/-- Two results that a closure captures: variables of their own. -/
structure ResV (w : World) (t0 t1 : TypeId) (a b : Value) (X : World) : Prop where
  row0 : X.heap[w.heap.size]? = some (.cells #[a] t0 (0, 0))
  row1 : X.heap[w.heap.size + 1]? = some (.cells #[b] t1 (0, 0))
  below : Below w.heap.size w X
theorem ResV.next {w : World} {t0 t1 : TypeId} {a b : Value} {X Y : World} (h : ResV w t0 t1 a b X) (hb : Below X.heap.size X Y) : ResV w t0 t1 a b Y :=
  ⟨by rw [hb.block _ (lt_of_block h.row0)]; exact h.row0, by rw [hb.block _ (lt_of_block h.row1)]; exact h.row1, h.below.trans (hb.mono h.below.size)⟩
theorem ResV.c0 {w : World} {t0 t1 : TypeId} {a b : Value} {X : World} (h : ResV w t0 t1 a b X) : X.cell? ⟨w.heap.size, 0, none⟩ = some a := by rw [cell_of_row X _ 0 _ t0 (0, 0) h.row0]; rfl
theorem ResV.c1 {w : World} {t0 t1 : TypeId} {a b : Value} {X : World} (h : ResV w t0 t1 a b X) : X.cell? ⟨w.heap.size + 1, 0, none⟩ = some b := by rw [cell_of_row X _ 0 _ t1 (0, 0) h.row1]; rfl
theorem ResV.f0 {w : World} {t0 t1 : TypeId} {a b : Value} {X : World} (h : ResV w t0 t1 a b X) : X.frozen? ⟨w.heap.size, 0, none⟩ = false := frozen_of_row X _ 0 _ t0 h.row0
theorem ResV.f1 {w : World} {t0 t1 : TypeId} {a b : Value} {X : World} (h : ResV w t0 t1 a b X) : X.frozen? ⟨w.heap.size + 1, 0, none⟩ = false := frozen_of_row X _ 0 _ t1 h.row1
theorem ResV.new (w : World) (t0 t1 : TypeId) (a b : Value) : ResV w t0 t1 a b ((w.alloc (.cells #[a] t0)).alloc (.cells #[b] t1)) := by
  refine ⟨?_, ?_, ((Below.refl _ _).alloc (Nat.le_refl _) _).alloc (by simp) _⟩
  · have h := ((Below.refl (w.alloc (.cells #[a] t0)).heap.size (w.alloc (.cells #[a] t0))).alloc (Nat.le_refl _) (.cells #[b] t1)).block w.heap.size (by simp)
    rw [h]
    exact heap_alloc_new w _
  · have h := heap_alloc_new (w.alloc (.cells #[a] t0)) (.cells #[b] t1)
    have e : (w.alloc (.cells #[a] t0)).heap.size = w.heap.size + 1 := by simp
    rw [e] at h
    exact h

end Go.Proofs.YtoaifgblbfdncabGreatDoor
namespace Go.Proofs.YtoaifgblbfdncabGreatDoor
open Go.RowKit

theorem maskToRead_no (key : ByteArray) (num n : Int) (h : (num < 0 ∨ 1000000000 < num) ∨ (n < 0 ∨ 8000 < n)) (w : World) :
    Calls Tryz.prog 67 #[.string key, .int .i64 num, .int .i64 n] w fun e w' => e = .panicked [{ v := faultV, recovered := false }] ∧ Below w.heap.size w w' := by
  have H0 := Lib.hid (implMask_no key num n h w)
  clear h
  go_enter Tryz.func67, Tryz.ntmps67
  go_wp2_with fail
  refine (H0.out).mono ?_
  rintro e w0 ⟨rfl, hb0⟩
  go_wp2_with fail
  exact ⟨rfl, rfl, hb0⟩
theorem maskToRead_yes (key : ByteArray) (num n : Nat) (hnum : num ≤ 1000000000) (hn : n ≤ 8000) (hk : key.size ≤ 300000000) (w : World) (hK : LaidK w) :
    Calls Tryz.prog 67 #[.string key, .int .i64 num, .int .i64 n] w fun e w' => e = .returned (.string (maskB key num n)) ∧ Below w.heap.size w w' := by
  have H0 := Lib.hid (implMask_yes key num n hnum hn hk w hK)
  obtain ⟨mk, MK⟩ : ∃ m, Hid (m = maskB key num n) := ⟨_, rfl⟩
  rw [← MK.out] at H0 ⊢
  go_enter Tryz.func67, Tryz.ntmps67
  go_wp2_with fail
  refine (H0.out).mono ?_
  rintro e w0 ⟨rfl, hb0⟩
  go_wp2_with fail
  go_ret
  exact ⟨rfl, hb0⟩

set_option maxRecDepth 100000 in
set_option maxHeartbeats 1000000 in
theorem implOpen_short (key : ByteArray) (num : Int) (text : ByteArray) (h : text.size < 16) (w : World) :
    Calls Tryz.prog 48 #[.string key, .int .i64 num, .string text] w fun e w' => e = .returned (.tuple #[.string ⟨#[]⟩, .bool false]) ∧ Below w.heap.size w w' := by
  have hmf : ∀ (fn : Fn) (first cap : Array Value) (w : World), (Instr.makeFunc fn first cap).run Tryz.prog w = .ok (.func fn first cap) w := fun _ _ _ _ => rfl
  have H1 := Lib.hid (cutTag_no text h)
  have R0 := Lib.hid (ResV.new w 9 4 (.string ⟨#[]⟩) (.bool false))
  clear h
  go_enter_defers Tryz.func48, Tryz.ntmps48
  go_wp2_with fail
  refine (H1.out _).mono ?_
  rintro e w1 ⟨rfl, rfl⟩
  go_wp2_with fail
  refine leaves_cons (f := 65) (args := #[.pointer (some ⟨w.heap.size, 0, none⟩), .pointer (some ⟨w.heap.size + 1, 0, none⟩)]) (by simp) (by simp [go_sem]) ?_
  refine (catchFault_panicking w.heap.size w.heap.size (w.heap.size + 1) (by omega) _ _ [] _ (Nat.le_refl _) (by omega) R0.out.c0 R0.out.c1 R0.out.f0 R0.out.f1).mono ?_
  rintro e u' w9 ⟨rfl, rfl, d0, d1, hb9⟩
  have hb10 := R0.out.below.trans hb9
  simp [Leaves, settle, results, Tryz.results48, go_sem, d0, d1]
  exact hb10

set_option maxRecDepth 100000 in
set_option maxHeartbeats 1000000 in
theorem implOpen_mask (key : ByteArray) (num : Int) (text : ByteArray) (h : 16 ≤ text.size) (hs : text.size ≤ 1000000000) (hm : (num < 0 ∨ 1000000000 < num) ∨ 8016 < text.size) (w : World) :
    Calls Tryz.prog 48 #[.string key, .int .i64 num, .string text] w fun e w' => e = .returned (.tuple #[.string ⟨#[]⟩, .bool false]) ∧ Below w.heap.size w w' := by
  have hmf : ∀ (fn : Fn) (first cap : Array Value) (w : World), (Instr.makeFunc fn first cap).run Tryz.prog w = .ok (.func fn first cap) w := fun _ _ _ _ => rfl
  obtain ⟨n, hn⟩ : ∃ n : Nat, text.size = n + 16 := ⟨text.size - 16, by omega⟩
  have hz : (text.extract 0 n).size = n := by rw [ByteArray.size_extract]; omega
  obtain ⟨x, hx⟩ : ∃ x, text.extract 0 n = x := ⟨_, rfl⟩
  obtain ⟨rest, hr⟩ : ∃ x, text.extract n text.size = x := ⟨_, rfl⟩
  rw [hx] at hz
  have H1 := Lib.hid (cutTag_yes text x rest n hn (by omega) hx hr)
  have H2 := Lib.hid (maskToRead_no key num (n : Int) (by omega))
  have hz2 : (x.size : Int) = (n : Int) := by omega
  have R0 := Lib.hid (ResV.new w 9 4 (.string ⟨#[]⟩) (.bool false))
  clear hm h hn hs hx hr hz
  go_enter_defers Tryz.func48, Tryz.ntmps48
  go_wp2_with fail
  refine (H1.out _).mono ?_
  rintro e w1 ⟨rfl, hb1⟩
  have R1 := Lib.hid (R0.out.next hb1)
  clear hb1
  go_wp2_with fail
  refine (H2.out _).mono ?_
  rintro e w2 ⟨rfl, hb2⟩
  have R2 := Lib.hid (R1.out.next hb2)
  clear hb2
  go_wp2_with fail
  refine leaves_cons (f := 65) (args := #[.pointer (some ⟨w.heap.size, 0, none⟩), .pointer (some ⟨w.heap.size + 1, 0, none⟩)]) (by simp) (by simp [go_sem]) ?_
  refine (catchFault_panicking w.heap.size w.heap.size (w.heap.size + 1) (by omega) _ _ [] _ (Nat.le_refl _) (by omega) R2.out.c0 R2.out.c1 R2.out.f0 R2.out.f1).mono ?_
  rintro e u' w9 ⟨rfl, rfl, d0, d1, hb9⟩
  have hb10 := R2.out.below.trans hb9
  simp [Leaves, settle, results, Tryz.results48, go_sem, d0, d1]
  exact hb10

set_option maxRecDepth 100000 in
set_option maxHeartbeats 1000000 in
theorem implOpen_other (key : ByteArray) (num : Nat) (text x rest : ByteArray) (n : Nat) (hnum : num ≤ 1000000000) (hk : key.size ≤ 300000000) (hn : text.size = n + 16) (h8 : n ≤ 8000) (hx : text.extract 0 n = x) (hr : text.extract n text.size = rest) (hb : (rest.toList == (tagP key num x).toList) = false) (w : World) (hK : LaidK w) :
    Calls Tryz.prog 48 #[.string key, .int .i64 num, .string text] w fun e w' => e = .returned (.tuple #[.string ⟨#[]⟩, .bool false]) ∧ Below w.heap.size w w' := by
  have hmf : ∀ (fn : Fn) (first cap : Array Value) (w : World), (Instr.makeFunc fn first cap).run Tryz.prog w = .ok (.func fn first cap) w := fun _ _ _ _ => rfl
  have hz : x.size = n := by rw [← hx, ByteArray.size_extract]; omega
  have hrz : rest.size ≤ 1000000000 := by rw [← hr, ByteArray.size_extract]; omega
  have H1 := Lib.hid (cutTag_yes text x rest n hn (by omega) hx hr)
  have H2 := Lib.hid (maskToRead_yes key num n hnum h8 hk)
  have hms := maskB_size key num n
  have h3 := implTag_any key num x hnum hk (by omega)
  have h4 := checkTag_no rest (tagP key num x) hrz hb
  obtain ⟨mk, MK⟩ : ∃ m, Hid (m = maskB key num n) := ⟨_, rfl⟩
  obtain ⟨tg, TG⟩ : ∃ m, Hid (m = tagP key num x) := ⟨_, rfl⟩
  rw [← MK.out] at H2
  rw [← TG.out] at h3 h4
  have H3 := Lib.hid h3
  have H4 := Lib.hid h4
  have HK := Lib.hid hK
  have hz2 : (x.size : Int) = (n : Int) := by omega
  have R0 := Lib.hid (ResV.new w 9 4 (.string ⟨#[]⟩) (.bool false))
  clear h3 h4 hn hx hr hz hK hms hb hrz
  go_enter_defers Tryz.func48, Tryz.ntmps48
  go_wp2_with fail
  refine (H1.out _).mono ?_
  rintro e w1 ⟨rfl, hb1⟩
  have R1 := Lib.hid (R0.out.next hb1)
  clear hb1
  go_wp2_with fail
  refine (H2.out _ (HK.out.stays R1.out.below (Nat.le_refl _))).mono ?_
  rintro e w2 ⟨rfl, hb2⟩
  have R2 := Lib.hid (R1.out.next hb2)
  clear hb2
  go_wp2_with fail
  refine (H3.out _ (HK.out.stays R2.out.below (Nat.le_refl _))).mono ?_
  rintro e w3 ⟨rfl, hb3⟩
  have R3 := Lib.hid (R2.out.next hb3)
  clear hb3
  go_wp2_with fail
  refine (H4.out _).mono ?_
  rintro e w4 ⟨rfl, hb4⟩
  have R4 := Lib.hid (R3.out.next hb4)
  clear hb4
  go_wp2_with fail
  refine leaves_cons (f := 65) (args := #[.pointer (some ⟨w.heap.size, 0, none⟩), .pointer (some ⟨w.heap.size + 1, 0, none⟩)]) (by simp) (by simp [go_sem]) ?_
  refine (catchFault_panicking w.heap.size w.heap.size (w.heap.size + 1) (by omega) _ _ [] _ (Nat.le_refl _) (by omega) R4.out.c0 R4.out.c1 R4.out.f0 R4.out.f1).mono ?_
  rintro e u' w9 ⟨rfl, rfl, d0, d1, hb9⟩
  have hb10 := R4.out.below.trans hb9
  simp [Leaves, settle, results, Tryz.results48, go_sem, d0, d1]
  exact hb10

set_option maxRecDepth 100000 in
set_option maxHeartbeats 1000000 in
theorem implOpen_same (key : ByteArray) (num : Nat) (text x rest : ByteArray) (n : Nat) (hnum : num ≤ 1000000000) (hk : key.size ≤ 300000000) (hn : text.size = n + 16) (h8 : n ≤ 8000) (hx : text.extract 0 n = x) (hr : text.extract n text.size = rest) (hb : (rest.toList == (tagP key num x).toList) = true) (w : World) (hK : LaidK w) :
    Calls Tryz.prog 48 #[.string key, .int .i64 num, .string text] w fun e w' => e = .returned (.tuple #[.string (openP key num x), .bool true]) ∧ Below w.heap.size w w' := by
  have hmf : ∀ (fn : Fn) (first cap : Array Value) (w : World), (Instr.makeFunc fn first cap).run Tryz.prog w = .ok (.func fn first cap) w := fun _ _ _ _ => rfl
  have hz : x.size = n := by rw [← hx, ByteArray.size_extract]; omega
  have hrz : rest.size ≤ 1000000000 := by rw [← hr, ByteArray.size_extract]; omega
  have H1 := Lib.hid (cutTag_yes text x rest n hn (by omega) hx hr)
  have H2 := Lib.hid (maskToRead_yes key num n hnum h8 hk)
  have hms := maskB_size key num n
  have h3 := implTag_any key num x hnum hk (by omega)
  have h4 := checkTag_yes rest (tagP key num x) hrz hb
  have h5 := exclusiveOr_any x (maskB key num n) (by omega) (by omega)
  have hO : (⟨(xorUp x.data.toList (maskB key num n).data.toList x.size).toArray⟩ : ByteArray) = openP key num x := by unfold openP xorP; rw [hz]
  rw [hO] at h5
  obtain ⟨op, OP⟩ : ∃ m, Hid (m = openP key num x) := ⟨_, rfl⟩
  rw [← OP.out] at h5 ⊢
  obtain ⟨mk, MK⟩ : ∃ m, Hid (m = maskB key num n) := ⟨_, rfl⟩
  obtain ⟨tg, TG⟩ : ∃ m, Hid (m = tagP key num x) := ⟨_, rfl⟩
  rw [← MK.out] at H2 h5
  rw [← TG.out] at h3 h4
  have H3 := Lib.hid h3
  have H4 := Lib.hid h4
  have HK := Lib.hid hK
  have hz2 : (x.size : Int) = (n : Int) := by omega
  have R0 := Lib.hid (ResV.new w 9 4 (.string ⟨#[]⟩) (.bool false))
  have H5 := Lib.hid h5
  clear h3 h4 h5 hO hn hx hr hz hK hms hb hrz
  go_enter_defers Tryz.func48, Tryz.ntmps48
  go_wp2_with fail
  refine (H1.out _).mono ?_
  rintro e w1 ⟨rfl, hb1⟩
  have R1 := Lib.hid (R0.out.next hb1)
  clear hb1
  go_wp2_with fail
  refine (H2.out _ (HK.out.stays R1.out.below (Nat.le_refl _))).mono ?_
  rintro e w2 ⟨rfl, hb2⟩
  have R2 := Lib.hid (R1.out.next hb2)
  clear hb2
  go_wp2_with fail
  refine (H3.out _ (HK.out.stays R2.out.below (Nat.le_refl _))).mono ?_
  rintro e w3 ⟨rfl, hb3⟩
  have R3 := Lib.hid (R2.out.next hb3)
  clear hb3
  go_wp2_with fail
  refine (H4.out _).mono ?_
  rintro e w4 ⟨rfl, hb4⟩
  have R4 := Lib.hid (R3.out.next hb4)
  clear hb4
  go_wp2_with fail
  refine (H5.out _).mono ?_
  rintro e w5 ⟨rfl, hb5⟩
  have R5 := Lib.hid (R4.out.next hb5)
  clear hb5
  have c0 := R5.out.c0
  have c1 := R5.out.c1
  have f0 := R5.out.f0
  have f1 := R5.out.f1
  have B6 := Lib.hid ((R5.out.below.setCell (p := ⟨w.heap.size, 0, none⟩) (Nat.le_refl _) (.string op)).setCell (p := ⟨w.heap.size + 1, 0, none⟩) (by show w.heap.size ≤ w.heap.size + 1; omega) (.bool true))
  have e0 : ((w5.setCell ⟨w.heap.size, 0, none⟩ (.string op)).setCell ⟨w.heap.size + 1, 0, none⟩ (.bool true)).cell? ⟨w.heap.size, 0, none⟩ = some (.string op) := by
    rw [World.cell?_setCell_other _ _ _ _ (fun e => by have := congrArg Addr.block e; simp at this)]
    exact World.cell?_setCell_same _ _ _ c0
  have e1 : ((w5.setCell ⟨w.heap.size, 0, none⟩ (.string op)).setCell ⟨w.heap.size + 1, 0, none⟩ (.bool true)).cell? ⟨w.heap.size + 1, 0, none⟩ = some (.bool true) := by
    have c1' : (w5.setCell ⟨w.heap.size, 0, none⟩ (.string op)).cell? ⟨w.heap.size + 1, 0, none⟩ = some (.bool false) := by
      rw [World.cell?_setCell_other _ _ _ _ (fun e => by have := congrArg Addr.block e; simp at this)]
      exact c1
    exact World.cell?_setCell_same _ _ _ c1'
  have E0 := Lib.hid e0
  have E1 := Lib.hid e1
  clear e0 e1
  go_wp2_with fail
  refine leaves_cons (f := 65) (args := #[.pointer (some ⟨w.heap.size, 0, none⟩), .pointer (some ⟨w.heap.size + 1, 0, none⟩)]) (by simp) (by simp [go_sem]) ?_
  refine (catchFault_idle _ _ _).mono ?_
  rintro e u' w9 ⟨rfl, rfl, rfl⟩
  have d0 := E0.out
  have d1 := E1.out
  simp [Leaves, settle, results, Tryz.results48, go_sem, d0, d1]
  exact B6.out

/-- A text of 16 bytes at least under a right number: opened where its tag is right. -/
theorem implOpen_tag (key : ByteArray) (num : Nat) (text x rest : ByteArray) (n : Nat) (hnum : num ≤ 1000000000) (hk : key.size ≤ 300000000) (hn : text.size = n + 16) (h8 : n ≤ 8000) (hx : text.extract 0 n = x) (hr : text.extract n text.size = rest) (w : World) (hK : LaidK w) :
    Calls Tryz.prog 48 #[.string key, .int .i64 num, .string text] w fun e w' => e = .returned (.tuple #[.string (if ((tagP key num x).toList == rest.toList) = true then openP key num x else ⟨#[]⟩), .bool ((tagP key num x).toList == rest.toList)]) ∧ Below w.heap.size w w' := by
  have hc : ((tagP key num x).toList == rest.toList) = (rest.toList == (tagP key num x).toList) := by
    rw [Bool.eq_iff_iff, beq_iff_eq, beq_iff_eq]
    exact eq_comm
  rw [hc]
  cases hb : (rest.toList == (tagP key num x).toList)
  · exact implOpen_other key num text x rest n hnum hk hn h8 hx hr hb w hK
  · exact implOpen_same key num text x rest n hnum hk hn h8 hx hr hb w hK

end Go.Proofs.YtoaifgblbfdncabGreatDoor
namespace Go.Proofs.YtoaifgblbfdncabGreatDoor

theorem max_top {l : List Int} (h : DescZ l) (hne : l ≠ []) {m : Int} (hm : m ∈ l) (hall : ∀ x ∈ l, x ≤ m) : topZ l = m := by
  have h1 := top_most h m hm
  have h2 := hall _ (top_mem hne)
  omega
/-- The first one behind a number that is noted. -/
theorem note_top {seen r : List Int} {n : Int} (hf : FreshP seen n) (h : NoteIs seen n r) : topZ r = max (topZ seen) n := by
  rcases h with ⟨-, rfl⟩ | ⟨h, -⟩
  · have hne := put_ne n seen
    rw [near_top hne]
    have hd := put_desc n hf.1.2.2.1
    have hn1 := hf.2.1.1
    by_cases hs : seen = []
    · subst hs
      rw [show topZ (putD n []) = n from rfl, show topZ [] = 0 from rfl]
      omega
    · by_cases hlt : topZ seen < n
      · refine (max_top hd hne (put_mem.2 (.inl rfl)) (fun x hx => ?_)).trans (by omega)
        rcases put_mem.1 hx with rfl | ⟨h1, -⟩
        · exact Int.le_refl _
        · have := top_most hf.1.2.2.1 x h1
          omega
      · have hmem := top_mem hs
        have hneq : topZ seen ≠ n := fun e => hf.2.2.1 (e ▸ hmem)
        refine (max_top hd hne (put_mem.2 (.inr ⟨hmem, hneq⟩)) (fun x hx => ?_)).trans (by omega)
        rcases put_mem.1 hx with rfl | ⟨h1, -⟩
        · omega
        · exact top_most hf.1.2.2.1 x h1
  · exact absurd hf h
end Go.Proofs.YtoaifgblbfdncabGreatDoor

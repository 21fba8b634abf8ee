/-
  What is sealed by one end is opened by the other one, once; in plain words.
  Rows of texts as they lie; the laws' own functions over them.
  What one block alone changes, in the words of footprints.
  A byte that is drawn: it lies in 0 .. 255, the cursor stays one, and no other block is written.
  A number below another one, and a choice, drawn.
  Texts that are drawn: of drawn bytes; of one byte many times.
  A cursor laid over bytes.
  Some texts drawn, and a seed.
-/
import Derived.Test.YtoaifgblbfdncaaGreatDoorJ18
import Derived.Test.YtoaifgblbfdncaaGreatDoorJ04
import Derived.Test.YtoaifgblbfdncaaGreatDoorRows
import Derived.Deep.RegionHeld3
import Derived.BigQuiet
import Derived.Deep.QuietTactic
import Derived.Deep.DeepCutAuto
import Derived.Test.YtoaifgblbfdncaaGreatDoorJ01
import Derived.Test.YtoaifgblbfdncaaGreatDoorJ03
import Derived.Deep.OwnRows
namespace Go.Proofs.YtoaifgblbfdncaaGreatDoor
open Go.RowKit

/-- One end that sealed i texts. -/
def endA (i : Int) (pa pb : ByteArray) : Prop := (0 ≤ i ∧ i ≤ 11) ∧ pa.size = 32 ∧ pb.size = 32
theorem end_keys {i : Int} {pa pb : ByteArray} (h : endA i pa pb) : KeysP 1 pa pb i [] 0 := ⟨⟨by omega, by omega⟩, h.2.1, h.2.2, ⟨h.1.1, by have := h.1; omega⟩, none_seen, ⟨by omega, by omega⟩⟩
theorem end_slots {i : Int} {pa pb : ByteArray} (h : endA i pa pb) : SlotsP 1 pa pb i [] 0 0 ⟨#[]⟩ ⟨#[]⟩ 0 [] 0 := ⟨.inr (end_keys h), .inl none_zero, .inl none_zero⟩
theorem other_keys {pa pb : ByteArray} {r : List Int} (ha : pa.size = 32) (hb : pb.size = 32) (hr : SeenP r) : KeysP 1 pb pa 0 r 0 := ⟨⟨by omega, by omega⟩, hb, ha, ⟨by omega, by omega⟩, hr, ⟨by omega, by omega⟩⟩
theorem other_slots {pa pb : ByteArray} {r : List Int} (ha : pa.size = 32) (hb : pb.size = 32) (hr : SeenP r) : SlotsP 1 pb pa 0 r 0 0 ⟨#[]⟩ ⟨#[]⟩ 0 [] 0 := ⟨.inr (other_keys ha hb hr), .inl none_zero, .inl none_zero⟩
/-- A packet of data of the first epoch. -/
theorem data_packet {n : Int} {body : ByteArray} (h0 : 1 ≤ n) (h1 : n ≤ 1000000000) (hb : body.size ≤ 120) : PkOkP 3 1 1 2 n [] body :=
  ⟨⟨by omega, by omega⟩, ⟨by omega, by omega⟩, ⟨by omega, by omega⟩, ⟨by omega, by omega⟩, ⟨by omega, h1⟩, by simp, hb, (fun x h => by cases h), .inl (by omega)⟩
/-- The next number is fresh. -/
theorem next_fresh {r : List Int} {n : Int} (hr : SeenP r) (ht : topZ r < n) (h0 : 1 ≤ n) (h1 : n ≤ 1000000000) : FreshP r n :=
  ⟨hr, ⟨h0, h1⟩, fun hm => by have := top_most hr.2.2.1 n hm; omega, by omega⟩
theorem next_top {r t : List Int} {n : Int} (hr : SeenP r) (ht : topZ r < n) (h0 : 1 ≤ n) (h1 : n ≤ 1000000000) (h : NoteIs r n t) : SeenP t ∧ n ∈ t ∧ topZ t = n := by
  have hf := next_fresh hr ht h0 h1
  obtain ⟨a1, a2, -⟩ := note_right hf h
  refine ⟨a1, a2, ?_⟩
  rcases h with ⟨-, rfl⟩ | ⟨k, -⟩
  · rw [near_top (put_ne n r)]
    have e : r.filter (fun x => decide (n < x)) = [] := by
      rw [List.filter_eq_nil_iff]
      intro x hx
      have := top_most hr.2.2.1 x hx
      simp only [decide_eq_true_eq]
      omega
    unfold putD
    rw [e]
    rfl
  · exact absurd hf k
/-- What was sealed is opened. -/
theorem data_open {pa pb body : ByteArray} {r t : List Int} {n now : Int} (ha : pa.size = 32) (hb : pb.size = 32) (hr : SeenP r) (ht : topZ r < n) (h0 : 1 ≤ n) (h1 : n ≤ 12) (hz : body.size ≤ 104) (hn : NoteIs r n t) :
    OpenD 1 pb pa 0 r 0 0 ⟨#[]⟩ ⟨#[]⟩ 0 [] 0 3 1 1 2 n [] (lockP pa n.toNat body) now t [] body true := by
  have hf := next_fresh hr ht h0 (by omega)
  refine .inl ⟨⟨other_slots ha hb hr, data_packet h0 (by omega) (by rw [lockP_size]; omega), rfl, keys_some (other_keys ha hb hr), by decide⟩, .inl ⟨rfl, hf, lock_opens pa n body (by omega) (by omega) (by omega), hn⟩, rfl⟩
/-- Not twice. -/
theorem data_again {pa pb body : ByteArray} {r : List Int} {n now : Int} (ha : pa.size = 32) (hb : pb.size = 32) (hr : SeenP r) (hm : n ∈ r) (h0 : 1 ≤ n) (h1 : n ≤ 12) (hz : body.size ≤ 104) :
    OpenD 1 pb pa 0 r 0 0 ⟨#[]⟩ ⟨#[]⟩ 0 [] 0 3 1 1 2 n [] (lockP pa n.toNat body) now r [] ⟨#[]⟩ false := by
  refine .inl ⟨⟨other_slots ha hb hr, data_packet h0 (by omega) (by rw [lockP_size]; omega), rfl, keys_some (other_keys ha hb hr), by decide⟩, .inr ⟨rfl, fun h => h.1.2.2.1 hm, rfl, rfl⟩, rfl⟩
end Go.Proofs.YtoaifgblbfdncaaGreatDoor
namespace Go.Proofs.YtoaifgblbfdncaaGreatDoor
open Go.RowKit

abbrev StringT : TypeId := 9
def layString : Lay ByteArray := Lay.str
def layStringS : Lay (List ByteArray) := .rows StringT layString
theorem layString_rd {w : World} {cs : List Value} {x : ByteArray} : layString.rd w cs x ↔ cs = [.string x] := Iff.rfl
theorem layString_own {w : World} {b : Nat} {f : List Nat} {cs : List Value} {x : ByteArray} : layString.own w b f cs x ↔ f = [] ∧ cs = [.string x] := Iff.rfl
theorem flatString : Flat layString := ⟨fun _ _ _ _ h => layString_own.2 ⟨rfl, layString_rd.1 h⟩, fun _ _ _ _ _ h => (layString_own.1 h).1, fun _ _ _ _ h => layString_rd.2 (layString_rd.1 h)⟩
theorem infoString : (Tryz.prog.info? 9).map (fun i => (i.zero, i.size, i.bytes)) = some (some (.string ⟨#[]⟩), 1, 16) := by kernel_rfl
end Go.Proofs.YtoaifgblbfdncaaGreatDoor
namespace Go.Proofs.YtoaifgblbfdncaaGreatDoor
open Go.RowKit

theorem only_chg {c : Nat} {X Y : World} (h : Only c X Y) : Chg [c] X Y := ⟨h.os, h.tape, h.output, h.size, fun g hg hn => h.block g hg (fun e => hn (List.mem_singleton.2 e))⟩
end Go.Proofs.YtoaifgblbfdncaaGreatDoor
namespace Go.Proofs.YtoaifgblbfdncaaGreatDoor
open Go.RowKit

set_option maxRecDepth 100000 in
theorem byte_out (c len cap i : Nat) (a : Option Addr) (h : Int) (w : World) (hi : ¬ i < len)
    (c0 : w.cell? ⟨c, 0, none⟩ = some (.slice a len cap)) (c1 : w.cell? ⟨c, 1, none⟩ = some (.int .i64 i)) (c2 : w.cell? ⟨c, 2, none⟩ = some (.int .i64 h))
    (f2 : w.frozen? ⟨c, 2, none⟩ = false) :
    Calls Tryz.prog 54 #[.pointer (some ⟨c, 0, none⟩)] w fun e w' => ∃ x h' : Int, ∃ n m : Nat, 0 ≤ x ∧ x ≤ 255 ∧ e = .returned (.int .i64 x) ∧ w' = ((w.setCell ⟨c, 2, none⟩ (.int .i64 h')).drewN n).drewN m := by
  go_enter Tryz.func54, Tryz.ntmps54
  go_wp2
  go_quiet (fail)
  go_wp2
  go_quiet (fail)
  go_wp2
  go_ret
  exact ⟨_, _, _, _, (and_mask _ 255 (by decide)).1, (and_mask _ 255 (by decide)).2, rfl, rfl⟩

set_option maxRecDepth 100000 in
theorem byte_in (c len cap i b off : Nat) (h z : Int) (w : World) (hi : i < len) (hlen : len ≤ 1048576) (hbc : b < c) (_ : 0 ≤ z) (_ : z ≤ 255)
    (c0 : w.cell? ⟨c, 0, none⟩ = some (.slice (some ⟨b, off, none⟩) len cap)) (c1 : w.cell? ⟨c, 1, none⟩ = some (.int .i64 i)) (c2 : w.cell? ⟨c, 2, none⟩ = some (.int .i64 h))
    (hz : w.cell? ⟨b, off + i, none⟩ = some (.int .u8 z)) (f1 : w.frozen? ⟨c, 1, none⟩ = false) (f2 : w.frozen? ⟨c, 2, none⟩ = false) :
    Calls Tryz.prog 54 #[.pointer (some ⟨c, 0, none⟩)] w fun e w' => ∃ x h' : Int, ∃ n : Nat, 0 ≤ x ∧ x ≤ 255 ∧ e = .returned (.int .i64 x) ∧ w' = ((w.setCell ⟨c, 2, none⟩ (.int .i64 h')).drewN n).setCell ⟨c, 1, none⟩ (.int .i64 ((i : Int) + 1)) := by
  have hne : b ≠ c := by omega
  go_enter Tryz.func54, Tryz.ntmps54
  go_wp2
  go_quiet (fail)
  go_wp2
  go_quiet (fail)
  go_wp2
  go_quiet (fail)
  go_wp2
  go_ret
  exact ⟨_, _, _, (and_mask _ 255 (by decide)).1, (and_mask _ 255 (by decide)).2, rfl, rfl⟩

theorem byte_any {c : Nat} {a : Option Addr} {len cap : Nat} (w : World) (H : Cur c a len cap w) :
    Calls Tryz.prog 54 #[.pointer (some ⟨c, 0, none⟩)] w (DrewInt 255 c a len cap w) := by
  obtain ⟨i, hi, c1⟩ := H.c1
  obtain ⟨h, c2⟩ := H.c2
  have c0 := H.c0
  have f1 := H.f1
  have f2 := H.f2
  rcases Nat.lt_or_ge i len with hlt | hge
  · obtain ⟨b, off, z, rfl, hbc, hz, hz0, hz1⟩ := H.bytes i hlt
    refine (byte_in c len cap i b off h z w hlt H.few hbc hz0 hz1 c0 c1 c2 hz f1 f2).mono ?_
    rintro e w' ⟨x, h', n, x0, x1, rfl, rfl⟩
    have ho : Only c w (((w.setCell ⟨c, 2, none⟩ (.int .i64 h')).drewN n).setCell ⟨c, 1, none⟩ (.int .i64 ((i : Int) + 1))) := ((Only.setCell 2 _).drewN n).trans (.setCell 1 _)
    refine ⟨x, x0, x1, rfl, H.turn ho ?_ ⟨i + 1, hlt, ?_⟩ ⟨h', ?_⟩ ?_ ?_, ho⟩
    · rw [set_off _ _ _ _ _ (by decide), World.cell?_drewN, set_off _ _ _ _ _ (by decide)]
      exact c0
    · exact set_on _ _ _ (.int .i64 i) _ (by rw [World.cell?_drewN, set_off _ _ _ _ _ (by decide)]; exact c1)
    · rw [set_off _ _ _ _ _ (by decide), World.cell?_drewN, set_on _ _ _ _ _ c2]
    · simp [f1]
    · simp [f2]
  · refine (byte_out c len cap i a h w (by omega) c0 c1 c2 f2).mono ?_
    rintro e w' ⟨x, h', n, m, x0, x1, rfl, rfl⟩
    have ho : Only c w (((w.setCell ⟨c, 2, none⟩ (.int .i64 h')).drewN n).drewN m) := ((Only.setCell 2 _).drewN n).drewN m
    refine ⟨x, x0, x1, rfl, H.turn ho ?_ ⟨i, hi, ?_⟩ ⟨h', ?_⟩ ?_ ?_, ho⟩
    · rw [World.cell?_drewN, World.cell?_drewN, set_off _ _ _ _ _ (by decide)]
      exact c0
    · rw [World.cell?_drewN, World.cell?_drewN, set_off _ _ _ _ _ (by decide)]
      exact c1
    · rw [World.cell?_drewN, World.cell?_drewN, set_on _ _ _ _ _ c2]
    · simp [f1]
    · simp [f2]

end Go.Proofs.YtoaifgblbfdncaaGreatDoor
namespace Go.Proofs.YtoaifgblbfdncaaGreatDoor
open Go.RowKit

set_option maxRecDepth 100000 in
set_option maxHeartbeats 400000 in
theorem below_few {c : Nat} {a : Option Addr} {len cap : Nat} (n : Int) (h0 : 0 < n) (h1 : n ≤ 256) (w : World) (H : Cur c a len cap w) :
    Calls Tryz.prog 55 #[.pointer (some ⟨c, 0, none⟩), .int .i64 n] w (DrewInt (n - 1) c a len cap w) := by
  have HC := Lib.hid H
  clear H
  go_enter Tryz.func55, Tryz.ntmps55
  go_wp2_with fail
  refine (byte_any _ HC.out).mono ?_
  rintro e w1 ⟨x, x0, x1, rfl, hc, ho⟩
  have HC1 := Lib.hid hc
  have HO := Lib.hid ho
  clear hc ho
  go_wp2
  go_ret
  exact ⟨_, Int.emod_nonneg _ (by omega), by have := Int.emod_lt_of_pos x h0; omega, rfl, HC1.out, HO.out⟩

set_option maxRecDepth 100000 in
set_option maxHeartbeats 400000 in
theorem below_many {c : Nat} {a : Option Addr} {len cap : Nat} (n : Int) (h0 : 256 < n) (h1 : n ≤ 9223372036854775807) (w : World) (H : Cur c a len cap w) :
    Calls Tryz.prog 55 #[.pointer (some ⟨c, 0, none⟩), .int .i64 n] w (DrewInt (n - 1) c a len cap w) := by
  have HC := Lib.hid H
  clear H
  go_enter Tryz.func55, Tryz.ntmps55
  go_wp2_with fail
  refine (byte_any _ HC.out).mono ?_
  rintro e w1 ⟨x, x0, x1, rfl, hc, ho⟩
  have HC1 := Lib.hid hc
  have HO1 := Lib.hid ho
  clear hc ho
  go_wp2_with fail
  refine (byte_any _ HC1.out).mono ?_
  rintro e w2 ⟨y, y0, y1, rfl, hc, ho⟩
  have HC2 := Lib.hid hc
  have HO2 := Lib.hid ho
  clear hc ho
  go_wp2_with fail
  refine (byte_any _ HC2.out).mono ?_
  rintro e w3 ⟨z, z0, z1, rfl, hc, ho⟩
  have HC3 := Lib.hid hc
  have HO3 := Lib.hid ho
  clear hc ho
  go_wp2_with fail
  refine (byte_any _ HC3.out).mono ?_
  rintro e w4 ⟨u, u0, u1, rfl, hc, ho⟩
  have HC4 := Lib.hid hc
  have HO4 := Lib.hid ho
  clear hc ho
  go_wp2
  go_ret
  refine ⟨_, ?_, ?_, rfl, HC4.out, ((HO1.out.trans HO2.out).trans HO3.out).trans HO4.out⟩
  · exact Int.emod_nonneg _ (by omega)
  · have := Int.emod_lt_of_pos (x * 16777216 + y * 65536 + z * 256 + u) (show 0 < n by omega)
    omega

theorem below_any {c : Nat} {a : Option Addr} {len cap : Nat} (n : Int) (h0 : 0 < n) (h1 : n ≤ 9223372036854775807) (w : World) (H : Cur c a len cap w) :
    Calls Tryz.prog 55 #[.pointer (some ⟨c, 0, none⟩), .int .i64 n] w (DrewInt (n - 1) c a len cap w) := by
  rcases Int.lt_or_le 256 n with h | h
  · exact below_many n h h1 w H
  · exact below_few n h0 h w H

end Go.Proofs.YtoaifgblbfdncaaGreatDoor
namespace Go.Proofs.YtoaifgblbfdncaaGreatDoor
open Go.RowKit

theorem infoByteD : (Tryz.prog.info? 5).map (fun i => (i.zero, i.size, i.bytes)) = some (some (.int .u8 0), 1, 1) := by kernel_rfl

theorem OwnB.only {c : Nat} {w w' : World} {base : Nat} {e : TypeId} {v : Value} {xs : List UInt8} (h : OwnB w base e v xs) (ho : Only c w w') (hc : c < base) : OwnB w' base e v xs := by
  have h' : w.ownsRow base e 1 v xs.length (Lib.byteCells xs) := h
  refine ⟨h'.1, ?_⟩
  rcases h'.2 with hn | ⟨g, cap, cur, hv, hb, hg, rest⟩
  · exact .inl hn
  · have hl : g < w.heap.size := by
      rcases Nat.lt_or_ge g w.heap.size with h2 | h2
      · exact h2
      · simp [Array.getElem?_eq_none h2] at hg
    exact .inr ⟨g, cap, cur, hv, hb, by rw [ho.block g hl (by omega)]; exact hg, rest⟩

/-- How a draw of a text ends. -/
def DrewText (n : Nat) (c : Nat) (a : Option Addr) (len cap : Nat) (w : World) (e : Ending) (w' : World) : Prop :=
  ∃ l : List UInt8, l.length = n ∧ e = .returned (.string ⟨l.toArray⟩) ∧ Cur c a len cap w' ∧ Only c w w'

theorem byte_num (x : Int) (h0 : 0 ≤ x) (h1 : x ≤ 255) : ∃ b : UInt8, x = (b.toNat : Int) := by
  refine ⟨UInt8.ofNat x.toNat, ?_⟩
  rw [UInt8.toNat_ofNat', Nat.mod_eq_of_lt (by omega)]
  omega

set_option maxRecDepth 100000 in
set_option maxHeartbeats 800000 in
theorem text_any {c : Nat} {a : Option Addr} {len cap : Nat} (n : Nat) (hn : n ≤ 5000) (w : World) (H : Cur c a len cap w) :
    Calls Tryz.prog 25 #[.pointer (some ⟨c, 0, none⟩), .int .i64 n] w (DrewText n c a len cap w) := by
  obtain ⟨i0, hi, hz0, hz1, hz2⟩ := info_parts infoByteD
  have hcs : c < w.heap.size := cell_size (p := ⟨c, 0, none⟩) H.c0
  have HC := Lib.hid H
  clear H
  have hn2 : (n : Int) ≤ 5000 := by omega
  go_enter Tryz.func25, Tryz.ntmps25
  go_wp2
  go_loopw [5, 6] (fun v i wr => ∃ (k : Nat) (l : List UInt8), k ≤ n ∧ l.length = k ∧ i = .int .i64 k ∧ OwnB wr w.heap.size 5 v l ∧ Cur c a len cap wr ∧ Only c w wr) (fun _ i _ => n - (intOf i).toNat)
  case atStart =>
    have hb := (Below.refl w.heap.size w).alloc (Nat.le_refl _) (.cells #[] 5)
    exact ⟨0, [], Nat.zero_le _, rfl, rfl, OwnB.lit _ _ _ (Nat.le_refl _), HC.out.below hb, .of_below hb⟩
  case round =>
    obtain ⟨k, l, hk, hl, rfl, hown, hc, ho⟩ := hrel
    have HC1 := Lib.hid hc
    have HO1 := Lib.hid ho
    have HW := Lib.hid hown
    have HL := Lib.hid hl
    clear hc ho hown hl HC
    by_cases hlt : (k : Int) < (n : Int)
    · go_wp2_with fail
      refine (byte_any _ HC1.out).mono ?_
      rintro e w1 ⟨x, x0, x1, rfl, hc2, ho2⟩
      have HC2 := Lib.hid hc2
      have HO2 := Lib.hid ho2
      obtain ⟨b, rfl⟩ := byte_num x x0 x1
      have hw2 := HW.out.only ho2 hcs
      have hsz := Nat.le_trans HO1.out.size ho2.size
      have hl2 := HL.out
      clear hc2 ho2
      go_wp2_with (at_builtin; refine wpList_push _ rfl _ _ 22 rfl w.heap.size 5 i0 Tryz.underlying22 hi hz0 hz1 hz2 _ _ rfl hw2 b _ rfl rfl (by omega) hsz ?_)
      intro v' w2 hown2 hnx2
      go_wp2
      go_roundw
      case rel => exact ⟨k + 1, l ++ [b], by omega, by simp [hl2], by go_num, hown2, HC2.out.kept hnx2 hcs, (HO1.out.trans HO2.out).behind hnx2⟩
      case measure => simp [intOf]; omega
    · have hcv := run_string_own (P := Tryz.prog) wr 22 9 5 Tryz.underlying22 Tryz.underlying5 Tryz.underlying9 _ HW.out
      go_wp2
      go_ret
      exact ⟨l, by have := HL.out; omega, rfl, HC1.out, HO1.out⟩

end Go.Proofs.YtoaifgblbfdncaaGreatDoor
namespace Go.Proofs.YtoaifgblbfdncaaGreatDoor
open Go.RowKit

/-- How a cursor's making ends. -/
def DrewCur (a : Option Addr) (len cap : Nat) (w : World) (e : Ending) (w' : World) : Prop :=
  ∃ c : Nat, e = .returned (.pointer (some ⟨c, 0, none⟩)) ∧ w.heap.size ≤ c ∧ Cur c a len cap w' ∧ Below w.heap.size w w'

theorem drewCur_alloc (a : Option Addr) (len cap : Nat) (z : Int) (t : TypeId) (w : World) (H : Src a len w) :
    DrewCur a len cap w (.returned (.pointer (some ⟨w.heap.size, 0, none⟩))) (w.alloc (.cells #[.slice a len cap, .int .i64 0, .int .i64 z] t)) := by
  refine ⟨w.heap.size, rfl, Nat.le_refl _, ⟨H.few, by simp, ⟨0, Nat.zero_le _, by simp⟩, ⟨z, by simp⟩, by simp, by simp, fun j hj => ?_⟩, (Below.refl _ _).alloc (Nat.le_refl _) _⟩
  obtain ⟨b, off, x, ha, hs, hx, x0, x1⟩ := H.bytes j hj
  have hb := (Below.refl w.heap.size w).alloc (Nat.le_refl _) (.cells #[.slice a len cap, .int .i64 0, .int .i64 z] t)
  exact ⟨b, off, x, ha, hs, by rw [hb.cell (p := ⟨b, off + j, none⟩) hs]; exact hx, x0, x1⟩

set_option maxRecDepth 100000 in
set_option maxHeartbeats 800000 in
theorem new_any (a : Option Addr) (len cap : Nat) (w : World) (H : Src a len w) :
    Calls Tryz.prog 24 #[.slice a len cap] w (DrewCur a len cap w) := by
  have hlen := H.few
  have HS := Lib.hid H
  clear H
  go_enter Tryz.func24, Tryz.ntmps24
  go_wp2
  go_loopw [3, 4] (fun h i wr => ∃ k : Nat, ∃ z : Int, k ≤ len ∧ i = .int .i64 k ∧ h = .int .i64 z ∧ wr = w) (fun _ i _ => len - (intOf i).toNat)
  case atStart => exact ⟨0, _, Nat.zero_le _, rfl, rfl, rfl⟩
  case round =>
    obtain ⟨k, z, hk, rfl, rfl, rfl⟩ := hrel
    by_cases hlt : k < len
    · obtain ⟨b, off, x, rfl, hb, hx, x0, x1⟩ := HS.out.bytes k hlt
      have hlt2 : (k : Int) < (len : Int) := by omega
      by_cases h4 : (k : Int) < 4000
      · go_wp2
        go_roundw
        case rel => exact ⟨k + 1, _, by omega, by go_num, rfl, trivial⟩
        case measure => simp [intOf]; omega
      · go_wp2
        go_ret
        exact drewCur_alloc _ _ _ _ _ _ HS.out
    · go_wp2
      go_ret
      exact drewCur_alloc _ _ _ _ _ _ HS.out

end Go.Proofs.YtoaifgblbfdncaaGreatDoor
namespace Go.Proofs.YtoaifgblbfdncaaGreatDoor
open Go.RowKit

/-- The cursor, and a row of texts of the call's own. -/
structure DTx (c : Nat) (a : Option Addr) (len cap : Nat) (w : World) (v : Value) (es : List ByteArray) (X : World) : Prop where
  cur : Cur c a len cap X
  only : Only c w X
  own : layStringS.own X w.heap.size (blk v) [v] es
  low : c < w.heap.size
section
variable {c : Nat} {a : Option Addr} {len cap : Nat} {w : World} {v : Value} {es : List ByteArray} {X Y : World}
theorem DTx.step (h : DTx c a len cap w v es X) (hc : Cur c a len cap Y) (ho : Only c X Y) : DTx c a len cap w v es Y :=
  ⟨hc, h.only.trans ho, layStringS.chg h.own (only_chg ho) (fun g hg hm => by rw [List.mem_singleton] at hm; have := (layStringS.blocks h.own g hg).1; have := h.low; omega), h.low⟩
theorem DTx.pushed {v' : Value} {x : ByteArray} (h : DTx c a len cap w v es X) (hown : layStringS.own Y w.heap.size (blk v') [v'] (es ++ [x])) (hb : Below w.heap.size X Y) : DTx c a len cap w v' (es ++ [x]) Y :=
  ⟨h.cur.kept hb h.low, h.only.behind hb, hown, h.low⟩
end
/-- How a draw of texts ends. -/
def DrewTexts (c : Nat) (a : Option Addr) (len cap : Nat) (w : World) (e : Ending) (w' : World) : Prop := ∃ (v : Value) (es : List ByteArray), (es.length ≤ 8 ∧ ∀ x ∈ es, x.size ≤ 2) ∧ e = .returned v ∧ (∃ f, layStringS.own w' w.heap.size f [v] es) ∧ Cur c a len cap w' ∧ Only c w w'

set_option maxRecDepth 100000 in
set_option maxHeartbeats 1600000 in
theorem l14Texts_any {c : Nat} {a : Option Addr} {len cap : Nat} (w : World) (H : Cur c a len cap w) :
    Calls Tryz.prog 26 #[.pointer (some ⟨c, 0, none⟩)] w (DrewTexts c a len cap w) := by
  obtain ⟨i0, hi, hz0, hsz0, hby0⟩ := info_of infoString
  have hcs : c < w.heap.size := cell_size (p := ⟨c, 0, none⟩) H.c0
  have hal : Below w.heap.size w (w.alloc (.cells #[] StringT)) := (Below.refl _ _).alloc (Nat.le_refl _) _
  have D0 : Hid (DTx c a len cap w (.slice (some ⟨w.heap.size, 0, none⟩) 0 0) [] (w.alloc (.cells #[] StringT))) := Lib.hid ⟨H.below hal, .of_below hal, flat_lit w _ (Nat.le_refl _), hcs⟩
  clear H hal
  obtain ⟨Q, HQ⟩ : ∃ Q : Ending → World → Prop, Hid (Q = DrewTexts c a len cap w) := ⟨_, Lib.hid rfl⟩
  rw [← HQ.out]
  go_enter Tryz.func26, Tryz.ntmps26
  go_upto_region 2 with fail
  generalize w.alloc (.cells #[] StringT) = Y0 at *
  generalize (some ⟨w.heap.size, 0, none⟩ : Option Addr) = ea at *
  go_wp2_with fail
  go_loopw [3, 4] (fun ev i wr => ∃ (k : Nat) (b : Option Addr) (d : Nat) (es : List ByteArray), k ≤ 8 ∧ i = .int .i64 k ∧ ev = .slice b es.length d ∧ Hid (es.length = k ∧ ∀ x ∈ es, x.size ≤ 2) ∧ Hid (DTx c a len cap w (.slice b es.length d) es wr)) (fun _ i _ => 9 - (intOf i).toNat)
  case atStart => exact ⟨0, ea, 0, [], by omega, rfl, rfl, Lib.hid ⟨rfl, by simp⟩, D0⟩
  case round =>
    clear D0
    obtain ⟨k, b, d, es, hk, rfl, rfl, HE, D1⟩ := hrel
    go_wp2_with fail
    refine (below_any 9 (by omega) (by omega) _ D1.out.cur).mono ?_
    rintro e w3 ⟨y, y0, y1, rfl, hc1, ho1⟩
    have D2 := Lib.hid (D1.out.step hc1 ho1)
    clear D1 hc1 ho1
    by_cases hlt : (k : Int) < y
    · go_wp2_with fail
      refine (below_any 3 (by omega) (by omega) _ D2.out.cur).mono ?_
      rintro e w4 ⟨t, t0, t1, rfl, hc1, ho1⟩
      have D4 := Lib.hid (D2.out.step hc1 ho1)
      clear D2 hc1 ho1
      obtain ⟨nt, rfl⟩ := Int.eq_ofNat_of_zero_le t0
      go_wp2_with fail
      refine (text_any nt (by omega) _ D4.out.cur).mono ?_
      rintro e w5 ⟨l, hl2, rfl, hc1, ho1⟩
      have D5 := Lib.hid (D4.out.step hc1 ho1)
      obtain ⟨x, hx⟩ : ∃ x : ByteArray, x = ⟨l.toArray⟩ := ⟨_, rfl⟩
      have hxz : x.size ≤ 2 := by rw [hx]; show l.toArray.size ≤ 2; simp; omega
      rw [← hx]
      have hws : w.heap.size ≤ w5.heap.size := D5.out.only.size
      have hl1 : es.length + 1 ≤ 1000000000 := by have := HE.out.1; omega
      clear D4 hc1 ho1 hx hl2
      go_wp2_with (at_builtin; refine wpList_pushF w5 rfl _ _ 24 rfl w.heap.size StringT i0 _ 16 layString flatString Tryz.underlying24 hi hz0 hsz0 hby0 rfl (by omega) (.slice b es.length d) (blk (.slice b es.length d)) es (by rfl) D5.out.own x #[.string x] (layString_rd.2 rfl) (by rfl) hl1 hws ?_; intro v1 w6 hw1 hw2 hw3 hw4; obtain ⟨g5, c5, rfl, hbk, _, _⟩ := flat_some flatString hw1 hw2; have D6 := Lib.hid (D5.out.pushed hw1 hw4); clear hw1 hw2 hw3 hw4 hbk D5)
      have HN : Hid ((es ++ [x]).length = k + 1 ∧ ∀ z ∈ es ++ [x], z.size ≤ 2) := Lib.hid ⟨by have := HE.out.1; simp; omega, fun z hz => (List.mem_append.1 hz).elim (HE.out.2 z) (fun h => by rw [List.mem_singleton.1 h]; exact hxz)⟩
      go_roundw
      case rel => exact ⟨k + 1, some ⟨g5, 0, none⟩, c5, es ++ [x], by omega, by go_num, by rw [show (es ++ [x]).length = es.length + 1 by simp], HN, by simpa using D6⟩
      case measure => simp [intOf]; omega
    · have HR : Hid (DrewTexts c a len cap w (.returned (.slice b es.length d)) w3) := Lib.hid ⟨_, es, ⟨by have := HE.out.1; omega, HE.out.2⟩, rfl, ⟨_, D2.out.own⟩, D2.out.cur, D2.out.only⟩
      go_wp2_with fail
      rw [HQ.out]
      exact HR.out
/-- How a draw of a seed and texts ends. -/
def DrewBodies (w : World) (e : Ending) (w' : World) : Prop := ∃ (s : ByteArray) (v : Value) (es : List ByteArray), s.size ≤ 2 ∧ (es.length ≤ 8 ∧ ∀ x ∈ es, x.size ≤ 2) ∧ e = .returned (.tuple #[.string s, v]) ∧ layStringS.rd w' [v] es ∧ Below w.heap.size w w'
set_option maxRecDepth 100000 in
set_option maxHeartbeats 800000 in
theorem drawBodies_any (a : Option Addr) (len cap : Nat) (w : World) (H : Src a len w) :
    Calls Tryz.prog 6 #[.slice a len cap] w (DrewBodies w) := by
  have HS := Lib.hid H
  clear H
  obtain ⟨Q, HQ⟩ : ∃ Q : Ending → World → Prop, Hid (Q = DrewBodies w) := ⟨_, Lib.hid rfl⟩
  rw [← HQ.out]
  go_enter Tryz.func6, Tryz.ntmps6
  go_wp2_with fail
  refine (new_any a len cap _ HS.out).mono ?_
  rintro e w1 ⟨c, rfl, hc, hcur, hb⟩
  have HC := Lib.hid hcur
  have HB := Lib.hid hb
  clear hcur hb
  go_wp2_with fail
  refine (text_any 2 (by omega) _ HC.out).mono ?_
  rintro e w2 ⟨l, hl2, rfl, hc1, ho1⟩
  obtain ⟨s, hs⟩ : ∃ s : ByteArray, s = ⟨l.toArray⟩ := ⟨_, rfl⟩
  have hsz : s.size ≤ 2 := by rw [hs]; show l.toArray.size ≤ 2; simp; omega
  rw [← hs]
  replace HB := Lib.hid (HB.out.trans (ho1.below (by omega) HB.out.size))
  clear hs hl2 HC
  have HC := Lib.hid hc1
  clear hc1 ho1
  go_wp2_with fail
  refine (l14Texts_any _ HC.out).mono ?_
  rintro e w3 ⟨v, es, he, rfl, ⟨f, hf⟩, hc1, ho1⟩
  have E : Hid (Q (.returned (.tuple #[.string s, v])) w3) := by
    rw [HQ.out]
    exact Lib.hid ⟨s, v, es, hsz, he, rfl, layStringS.read hf, HB.out.trans (ho1.below (by omega) HB.out.size)⟩
  clear hf hc1 ho1 HC HB
  go_wp2_with fail
  exact E.out

end Go.Proofs.YtoaifgblbfdncaaGreatDoor

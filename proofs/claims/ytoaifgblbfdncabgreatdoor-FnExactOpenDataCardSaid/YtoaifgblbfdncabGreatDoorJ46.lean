/-
  The test package's functions over packets: measured, held against each other, marked, found marked.
  A packet is measured.
  What the exact laws on data keep: slots in a variable that may be older than their rows, a packet in a variable.
  A byte that is drawn: it lies in 0 .. 255, the cursor stays one, and no other block is written.
  A number below another one, and a choice, drawn.
  Texts that are drawn: of drawn bytes; of one byte many times.
  Slots that are being drawn: what lies where.
-/
import Derived.Test.YtoaifgblbfdncabGreatDoorJ45
import Derived.Test.YtoaifgblbfdncabGreatDoorRows
import Derived.Test.YtoaifgblbfdncabGreatDoorJ01
import Derived.Test.YtoaifgblbfdncabGreatDoorJ02
import Derived.Deep.QuietTactic
import Derived.Deep.OwnRows
import Derived.Test.YtoaifgblbfdncabGreatDoorJ20
import Derived.Test.YtoaifgblbfdncabGreatDoorJ22
namespace Go.Proofs.YtoaifgblbfdncabGreatDoor
open Go.RowKit

set_option maxRecDepth 100000 in
set_option maxHeartbeats 1600000 in
theorem eqPacket_same (op key fr dst num : Int) (v u : Value) (xs : List Int) (body : ByteArray) (hl : xs.length ≤ 100000000) (w : World) (h : layIntS.rd w [v] xs) (k : layIntS.rd w [u] xs) :
    Calls Tryz.prog 11 #[.agg #[.int .i64 op, .int .i64 key, .int .i64 fr, .int .i64 dst, .int .i64 num, v, .string body], .agg #[.int .i64 op, .int .i64 key, .int .i64 fr, .int .i64 dst, .int .i64 num, u, .string body]] w fun e w' => e = .returned (.bool true) ∧ Below w.heap.size w w' := by
  obtain ⟨va, vc, rfl⟩ := rows_form h
  obtain ⟨ua, uc, rfl⟩ := rows_form k
  have e1 : (w.alloc (.cells #[.int .i64 op, .int .i64 key, .int .i64 fr, .int .i64 dst, .int .i64 num, .slice va xs.length vc, .string body] PkT)).heap.size = w.heap.size + 1 := by simp
  have A0 := Lib.hid ((VarA.new w PkT #[.int .i64 op, .int .i64 key, .int .i64 fr, .int .i64 dst, .int .i64 num, .slice va xs.length vc, .string body]).alloc (.cells #[.int .i64 op, .int .i64 key, .int .i64 fr, .int .i64 dst, .int .i64 num, .slice ua xs.length uc, .string body] PkT))
  have A1' := VarA.new (w.alloc (.cells #[.int .i64 op, .int .i64 key, .int .i64 fr, .int .i64 dst, .int .i64 num, .slice va xs.length vc, .string body] PkT)) PkT #[.int .i64 op, .int .i64 key, .int .i64 fr, .int .i64 dst, .int .i64 num, .slice ua xs.length uc, .string body]
  rw [e1] at A1'
  have A1 := Lib.hid A1'
  have B0 := Lib.hid (((Below.refl w.heap.size w).alloc (Nat.le_refl _) (.cells #[.int .i64 op, .int .i64 key, .int .i64 fr, .int .i64 dst, .int .i64 num, .slice va xs.length vc, .string body] PkT)).alloc (by simp) (.cells #[.int .i64 op, .int .i64 key, .int .i64 fr, .int .i64 dst, .int .i64 num, .slice ua xs.length uc, .string body] PkT))
  have HL := Lib.hid h
  have KL := Lib.hid k
  clear A1' e1 h k
  go_enter Tryz.func11, Tryz.ntmps11
  go_upto_region 1 with fail
  generalize (w.alloc (.cells #[.int .i64 op, .int .i64 key, .int .i64 fr, .int .i64 dst, .int .i64 num, .slice va xs.length vc, .string body] PkT)).alloc (.cells #[.int .i64 op, .int .i64 key, .int .i64 fr, .int .i64 dst, .int .i64 num, .slice ua xs.length uc, .string body] PkT) = Y0 at *
  have a0 : Y0.cell? ⟨w.heap.size, 0, none⟩ = some (.int .i64 op) := A0.out.cell 0
  have a1 : Y0.cell? ⟨w.heap.size, 1, none⟩ = some (.int .i64 key) := A0.out.cell 1
  have a2 : Y0.cell? ⟨w.heap.size, 2, none⟩ = some (.int .i64 fr) := A0.out.cell 2
  have a3 : Y0.cell? ⟨w.heap.size, 3, none⟩ = some (.int .i64 dst) := A0.out.cell 3
  have a4 : Y0.cell? ⟨w.heap.size, 4, none⟩ = some (.int .i64 num) := A0.out.cell 4
  have a5 : Y0.cell? ⟨w.heap.size, 5, none⟩ = some (.slice va xs.length vc) := A0.out.cell 5
  have a6 : Y0.cell? ⟨w.heap.size, 6, none⟩ = some (.string body) := A0.out.cell 6
  have b0 : Y0.cell? ⟨w.heap.size + 1, 0, none⟩ = some (.int .i64 op) := A1.out.cell 0
  have b1 : Y0.cell? ⟨w.heap.size + 1, 1, none⟩ = some (.int .i64 key) := A1.out.cell 1
  have b2 : Y0.cell? ⟨w.heap.size + 1, 2, none⟩ = some (.int .i64 fr) := A1.out.cell 2
  have b3 : Y0.cell? ⟨w.heap.size + 1, 3, none⟩ = some (.int .i64 dst) := A1.out.cell 3
  have b4 : Y0.cell? ⟨w.heap.size + 1, 4, none⟩ = some (.int .i64 num) := A1.out.cell 4
  have b5 : Y0.cell? ⟨w.heap.size + 1, 5, none⟩ = some (.slice ua xs.length uc) := A1.out.cell 5
  have b6 : Y0.cell? ⟨w.heap.size + 1, 6, none⟩ = some (.string body) := A1.out.cell 6
  go_wp2_with fail
  refine (eqIntS_same _ _ xs hl _ (layIntS.below HL.out B0.out) (layIntS.below KL.out B0.out)).mono ?_
  rintro e Y1 ⟨rfl, hb⟩
  have B1 := Lib.hid (B0.out.trans (hb.mono B0.out.size))
  have a6' : Y1.cell? ⟨w.heap.size, 6, none⟩ = some (.string body) := (A0.out.next hb).cell 6
  have b6' : Y1.cell? ⟨w.heap.size + 1, 6, none⟩ = some (.string body) := (A1.out.next hb).cell 6
  clear hb a0 a1 a2 a3 a4 a5 a6 b0 b1 b2 b3 b4 b5 b6
  go_wp2_with fail
  go_ret
  exact ⟨rfl, B1.out⟩

set_option maxRecDepth 100000 in
set_option maxHeartbeats 800000 in
theorem markPacket_any (op key fr dst num : Int) (v : Value) (xs : List Int) (body : ByteArray) (b : Nat) (fp : List Nat) (k : Int) (hk0 : 0 ≤ k) (hk1 : k ≤ 1000000000) (hl : xs.length ≤ 100000000) (w : World) (hd : fp.Nodup) (ho : layIntS.own w b fp [v] xs) :
    Calls Tryz.prog 13 #[.agg #[.int .i64 op, .int .i64 key, .int .i64 fr, .int .i64 dst, .int .i64 num, v, .string body], .int .i64 k] w fun e w' => e = .returned (.int .i64 (k + (xs.length : Int))) ∧ layIntS.own w' b fp [v] (upI k xs.length) ∧ Chg fp w w' := by
  obtain ⟨va, vc, rfl⟩ := rows_form (layIntS.read ho)
  have hb0 := (Below.refl w.heap.size w).alloc (Nat.le_refl _) (.cells #[.int .i64 op, .int .i64 key, .int .i64 fr, .int .i64 dst, .int .i64 num, .slice va xs.length vc, .string body] PkT)
  have A0 := Lib.hid (VarA.new w PkT #[.int .i64 op, .int .i64 key, .int .i64 fr, .int .i64 dst, .int .i64 num, .slice va xs.length vc, .string body])
  have O0 := Lib.hid (layIntS.next ho hb0)
  have G0 := Lib.hid (Below.chg hb0 fp)
  clear ho hb0
  go_enter Tryz.func13, Tryz.ntmps13
  go_upto_region 1 with fail
  generalize w.alloc (.cells #[.int .i64 op, .int .i64 key, .int .i64 fr, .int .i64 dst, .int .i64 num, .slice va xs.length vc, .string body] PkT) = Y0 at *
  have c5 : Y0.cell? ⟨w.heap.size, 5, none⟩ = some (.slice va xs.length vc) := A0.out.cell 5
  have KM := Lib.hid (markIntS_any _ xs b fp k hk0 hk1 hl Y0 hd O0.out)
  clear O0
  go_wp2_with fail
  refine KM.out.mono ?_
  rintro e Y1 ⟨rfl, hM, hC⟩
  have M1 := Lib.hid hM
  have G1 := Lib.hid (G0.out.trans hC)
  clear hM hC c5 KM G0
  go_wp2_with fail
  go_ret
  exact ⟨rfl, M1.out, G1.out⟩

end Go.Proofs.YtoaifgblbfdncabGreatDoor
namespace Go.Proofs.YtoaifgblbfdncabGreatDoor
open Go.RowKit

set_option maxRecDepth 100000 in
set_option maxHeartbeats 800000 in
/-- A packet is measured. -/
theorem szPacket_left (op key fr dst num : Int) (a : Option Addr) (n cp : Nat) (body : ByteArray) (hn : n ≤ 9223372036854775807) (hb : body.size ≤ 9223372036854775807) (z : Int) (z0 : 0 ≤ z) (z1 : z ≤ 1048576) (w : World) :
    Calls Tryz.prog 5 #[.agg #[.int .i64 op, .int .i64 key, .int .i64 fr, .int .i64 dst, .int .i64 num, .slice a n cp, .string body], .int .i64 z] w fun e w' => (∃ y : Int, e = .returned (.int .i64 y) ∧ (y = -1 ∨ (0 ≤ y ∧ n ≤ 1048576 ∧ body.size ≤ 1048576))) ∧ Below w.heap.size w w' := by
  have H1 := Lib.hid (szIntS_any a n cp z z0 z1 hn)
  by_cases h : z < (n : Int)
  · rw [if_pos h] at H1
    go_enter Tryz.func5, Tryz.ntmps5
    go_wp2_with fail
    refine (H1.out _).mono ?_
    rintro e Y ⟨rfl, rfl⟩
    go_wp2_with fail
    go_ret
    exact ⟨⟨_, rfl, .inl rfl⟩, (Below.refl _ _).alloc (Nat.le_refl _) _⟩
  · have h2 : ¬ (z - (n : Int) < 0) := by omega
    rw [if_neg h] at H1
    by_cases h5 : z - (n : Int) - (body.size : Int) < 0
    · go_enter Tryz.func5, Tryz.ntmps5
      go_wp2_with fail
      refine (H1.out _).mono ?_
      rintro e Y ⟨rfl, rfl⟩
      go_wp2_with fail
      go_ret
      exact ⟨⟨_, rfl, .inl rfl⟩, (Below.refl _ _).alloc (Nat.le_refl _) _⟩
    · go_enter Tryz.func5, Tryz.ntmps5
      go_wp2_with fail
      refine (H1.out _).mono ?_
      rintro e Y ⟨rfl, rfl⟩
      go_wp2_with fail
      go_ret
      exact ⟨⟨_, rfl, .inr ⟨by omega, by omega, by omega⟩⟩, (Below.refl _ _).alloc (Nat.le_refl _) _⟩

end Go.Proofs.YtoaifgblbfdncabGreatDoor
namespace Go.Proofs.YtoaifgblbfdncabGreatDoor
open Go.RowKit

/-- Two slots in variable G; it and their rows lie in blocks from lo on, below hi. -/
structure SR (lo hi G : Nat) (cs : Array Value) (v u : Value) (r s : List Int) (X : World) : Prop where
  var : VarA G SlotsT cs X
  co : ∃ f g : List Nat, layIntS.own X lo f [v] r ∧ layIntS.own X lo g [u] s ∧ ∀ a ∈ f ++ g, a < hi
  gl : lo ≤ G ∧ G < hi
section
variable {lo hi G : Nat} {cs : Array Value} {v u : Value} {r s : List Int} {X Y : World}
theorem SR.next (h : SR lo hi G cs v u r s X) (hb : Below X.heap.size X Y) : SR lo hi G cs v u r s Y := by
  obtain ⟨f, g, h1, h2, h3⟩ := h.co
  exact ⟨h.var.next hb, ⟨f, g, layIntS.next h1 hb, layIntS.next h2 hb, h3⟩, h.gl⟩
theorem SR.rd1 (h : SR lo hi G cs v u r s X) : layIntS.rd X [v] r := by
  obtain ⟨f, g, h1, h2, h3⟩ := h.co
  exact layIntS.read h1
theorem SR.rd2 (h : SR lo hi G cs v u r s X) : layIntS.rd X [u] s := by
  obtain ⟨f, g, h1, h2, h3⟩ := h.co
  exact layIntS.read h2
theorem SR.away (h : SR lo hi G cs v u r s X) {a b : Nat} (hc : ChgIn a b X Y) (ho : b ≤ lo ∨ hi ≤ a) : SR lo hi G cs v u r s Y := by
  obtain ⟨f, g, h1, h2, h3⟩ := h.co
  have hg := h.gl
  have hv := hc.var h.var (by omega)
  obtain ⟨e, he, hc⟩ := hc
  refine ⟨hv, ⟨f, g, layIntS.chg h1 hc (fun x hx hm => ?_), layIntS.chg h2 hc (fun x hx hm => ?_), h3⟩, h.gl⟩
  · have h5 := (layIntS.blocks h1 x hx).1
    have h6 := h3 x (List.mem_append_left _ hx)
    have h7 := he x hm
    omega
  · have h5 := (layIntS.blocks h2 x hx).1
    have h6 := h3 x (List.mem_append_right _ hx)
    have h7 := he x hm
    omega
end
/-- A packet in variable G, whose row lies in blocks from lo on, below hi. -/
structure PO (lo hi G : Nat) (op key fr dst num : Int) (v : Value) (acks : List Int) (body : ByteArray) (X : World) : Prop where
  var : VarA G PkT #[.int .i64 op, .int .i64 key, .int .i64 fr, .int .i64 dst, .int .i64 num, v, .string body] X
  co : ∃ f : List Nat, f.Nodup ∧ layIntS.own X lo f [v] acks ∧ ∀ g ∈ f, g < hi
  gh : hi ≤ G
section
variable {lo hi G : Nat} {op key fr dst num : Int} {v : Value} {acks : List Int} {body : ByteArray} {X Y : World}
theorem PO.next (h : PO lo hi G op key fr dst num v acks body X) (hb : Below X.heap.size X Y) : PO lo hi G op key fr dst num v acks body Y := by
  obtain ⟨f, h0, h1, h2⟩ := h.co
  exact ⟨h.var.next hb, ⟨f, h0, layIntS.next h1 hb, h2⟩, h.gh⟩
theorem PO.rd (h : PO lo hi G op key fr dst num v acks body X) : layIntS.rd X [v] acks := by
  obtain ⟨f, h0, h1, h2⟩ := h.co
  exact layIntS.read h1
theorem PO.away (h : PO lo hi G op key fr dst num v acks body X) {a b : Nat} (hc : ChgIn a b X Y) (ho : b ≤ lo ∨ hi ≤ a) (hG : G < a ∨ b ≤ G) : PO lo hi G op key fr dst num v acks body Y := by
  obtain ⟨f, h0, h1, h2⟩ := h.co
  have hv := hc.var h.var hG
  obtain ⟨e, he, hc⟩ := hc
  exact ⟨hv, ⟨f, h0, layIntS.chg h1 hc (fun x hx hm => by have h5 := (layIntS.blocks h1 x hx).1; have h6 := h2 x hx; have h7 := he x hm; omega), h2⟩, h.gh⟩
theorem PO.new {w : World} {f : List Nat} (hd : f.Nodup) (h : layIntS.own X w.heap.size f [v] acks) : PO w.heap.size X.heap.size X.heap.size op key fr dst num v acks body (X.alloc (.cells #[.int .i64 op, .int .i64 key, .int .i64 fr, .int .i64 dst, .int .i64 num, v, .string body] PkT)) :=
  ⟨VarA.new X PkT _, ⟨f, hd, layIntS.next h ((Below.refl _ _).alloc (Nat.le_refl _) _), fun g hg => (layIntS.blocks h g hg).2⟩, Nat.le_refl _⟩
theorem PO.mark (h : PO lo hi G op key fr dst num v acks body X) (k : Int) (hk0 : 0 ≤ k) (hk1 : k ≤ 1000000000) (hl : acks.length ≤ 100000000) :
    Calls Tryz.prog 13 #[.agg #[.int .i64 op, .int .i64 key, .int .i64 fr, .int .i64 dst, .int .i64 num, v, .string body], .int .i64 k] X fun e Y => e = .returned (.int .i64 (k + (acks.length : Int))) ∧ ChgIn lo hi X Y := by
  obtain ⟨f, h0, h1, h2⟩ := h.co
  refine (markPacket_any op key fr dst num v acks body lo f k hk0 hk1 hl X h0 h1).mono ?_
  rintro e Y ⟨rfl, _, hc⟩
  exact ⟨rfl, f, fun g hg => ⟨(layIntS.blocks h1 g hg).1, h2 g hg⟩, hc⟩
end

end Go.Proofs.YtoaifgblbfdncabGreatDoor
namespace Go.Proofs.YtoaifgblbfdncabGreatDoor
open Go.RowKit

end Go.Proofs.YtoaifgblbfdncabGreatDoor
namespace Go.Proofs.YtoaifgblbfdncabGreatDoor
open Go.RowKit

end Go.Proofs.YtoaifgblbfdncabGreatDoor
namespace Go.Proofs.YtoaifgblbfdncabGreatDoor
open Go.RowKit

theorem OwnB.only {c : Nat} {w w' : World} {base : Nat} {e : TypeId} {v : Value} {xs : List UInt8} (h : OwnB w base e v xs) (ho : Only c w w') (hc : c < base) : OwnB w' base e v xs := by
  have h' : w.ownsRow base e 1 v xs.length (Lib.byteCells xs) := h
  refine ⟨h'.1, ?_⟩
  rcases h'.2 with hn | ⟨g, cap, cur, hv, hb, hg, rest⟩
  · exact .inl hn
  · have hl : g < w.heap.size := by
      rcases Nat.lt_or_ge g w.heap.size with h2 | h2
      · exact h2
      · simp [Array.getElem?_eq_none h2] at hg
    exact .inr ⟨g, cap, cur, hv, hb, by rw [ho.block g hl (by omega)]; exact hg, rest⟩

end Go.Proofs.YtoaifgblbfdncabGreatDoor
namespace Go.Proofs.YtoaifgblbfdncabGreatDoor
open Go.RowKit

theorem own_only {X Y : World} {lo q : Nat} {f : List Nat} {v : Value} {r : List Int} (h : layIntS.own X lo f [v] r) (ho : Only q X Y) (hq : q ∉ f) : layIntS.own Y lo f [v] r := layIntS.keep h (fun a ha => ho.block a (layIntS.blocks h a ha).2 (fun e => hq (e ▸ ha)))
/-- The cursor, the result, the slots in their variable. -/
structure DS (c : Nat) (a : Option Addr) (len cap : Nat) (w : World) (q : Nat) (x0 : Int) (x1 x2 : ByteArray) (x3 : Int) (v4 : Value) (r4 : List Int) (x5 : Int) (y0 : Int) (y1 y2 : ByteArray) (y3 : Int) (u4 : Value) (s4 : List Int) (y5 : Int) (X : World) : Prop where
  cur : Cur c a len cap X
  only : Only c w X
  res : VarA w.heap.size SlotsT #[.int .i64 0, .string ⟨#[]⟩, .string ⟨#[]⟩, .int .i64 0, .slice none 0 0, .int .i64 0, .int .i64 0, .string ⟨#[]⟩, .string ⟨#[]⟩, .int .i64 0, .slice none 0 0, .int .i64 0] X
  var : VarA q SlotsT #[.int .i64 x0, .string x1, .string x2, .int .i64 x3, v4, .int .i64 x5, .int .i64 y0, .string y1, .string y2, .int .i64 y3, u4, .int .i64 y5] X
  mo : ∃ f, layIntS.own X w.heap.size f [v4] r4
  lo : ∃ f, layIntS.own X w.heap.size f [u4] s4
  lt : w.heap.size < q
  cl : c < w.heap.size
section
variable {c : Nat} {a : Option Addr} {len cap : Nat} {w : World} {q : Nat} {x0 : Int} {x1 x2 : ByteArray} {x3 : Int} {v4 : Value} {r4 : List Int} {x5 : Int} {y0 : Int} {y1 y2 : ByteArray} {y3 : Int} {u4 : Value} {s4 : List Int} {y5 : Int} {z0 : Int} {z1 z2 : ByteArray} {z3 : Int} {v5 : Value} {t4 : List Int} {z5 : Int} {n0 : Int} {n1 n2 : ByteArray} {n3 : Int} {u5 : Value} {o4 : List Int} {n5 : Int} {X Y : World}
theorem DS.next (h : DS c a len cap w q x0 x1 x2 x3 v4 r4 x5 y0 y1 y2 y3 u4 s4 y5 X) (hb : Below X.heap.size X Y) : DS c a len cap w q x0 x1 x2 x3 v4 r4 x5 y0 y1 y2 y3 u4 s4 y5 Y := by
  obtain ⟨f, hf⟩ := h.mo
  obtain ⟨k, hk⟩ := h.lo
  exact ⟨h.cur.below hb, h.only.trans (.of_below hb), h.res.next hb, h.var.next hb, ⟨f, layIntS.next hf hb⟩, ⟨k, layIntS.next hk hb⟩, h.lt, h.cl⟩
theorem DS.drew (h : DS c a len cap w q x0 x1 x2 x3 v4 r4 x5 y0 y1 y2 y3 u4 s4 y5 X) : DS c a len cap w q x0 x1 x2 x3 v4 r4 x5 y0 y1 y2 y3 u4 s4 y5 X.drew := h.next ((Below.refl _ X).drew)
theorem DS.step (h : DS c a len cap w q x0 x1 x2 x3 v4 r4 x5 y0 y1 y2 y3 u4 s4 y5 X) (hc : Cur c a len cap Y) (ho : Only c X Y) : DS c a len cap w q x0 x1 x2 x3 v4 r4 x5 y0 y1 y2 y3 u4 s4 y5 Y := by
  obtain ⟨f, hf⟩ := h.mo
  obtain ⟨k, hk⟩ := h.lo
  have h1 := h.cl
  have h2 := h.lt
  exact ⟨hc, h.only.trans ho, h.res.only ho (by omega), h.var.only ho (by omega), ⟨f, own_only hf ho (fun hm => by have := (layIntS.blocks hf c hm).1; omega)⟩, ⟨k, own_only hk ho (fun hm => by have := (layIntS.blocks hk c hm).1; omega)⟩, h.lt, h.cl⟩
theorem DS.main (h : DS c a len cap w q x0 x1 x2 x3 v4 r4 x5 y0 y1 y2 y3 u4 s4 y5 X) : layIntS.rd X [v4] r4 := h.mo.elim (fun _ k => layIntS.read k)
theorem DS.lame (h : DS c a len cap w q x0 x1 x2 x3 v4 r4 x5 y0 y1 y2 y3 u4 s4 y5 X) : layIntS.rd X [u4] s4 := h.lo.elim (fun _ k => layIntS.read k)
/-- The slots are put into their variable anew. -/
theorem DS.put (h : DS c a len cap w q x0 x1 x2 x3 v4 r4 x5 y0 y1 y2 y3 u4 s4 y5 X) (hm : ∃ f, layIntS.own X w.heap.size f [v5] t4) (hl : ∃ f, layIntS.own X w.heap.size f [u5] o4) :
    DS c a len cap w q z0 z1 z2 z3 v5 t4 z5 n0 n1 n2 n3 u5 o4 n5 ((((((((((((X.setCell ⟨q, 0, none⟩ (.int .i64 z0)).setCell ⟨q, 1, none⟩ (.string z1)).setCell ⟨q, 2, none⟩ (.string z2)).setCell ⟨q, 3, none⟩ (.int .i64 z3)).setCell ⟨q, 4, none⟩ (v5)).setCell ⟨q, 5, none⟩ (.int .i64 z5)).setCell ⟨q, 6, none⟩ (.int .i64 n0)).setCell ⟨q, 7, none⟩ (.string n1)).setCell ⟨q, 8, none⟩ (.string n2)).setCell ⟨q, 9, none⟩ (.int .i64 n3)).setCell ⟨q, 10, none⟩ (u5)).setCell ⟨q, 11, none⟩ (.int .i64 n5)) := by
  obtain ⟨f, hf⟩ := hm
  obtain ⟨k, hk⟩ := hl
  have h1 := h.cl
  have h2 := h.lt
  have ho : Only q X ((((((((((((X.setCell ⟨q, 0, none⟩ (.int .i64 z0)).setCell ⟨q, 1, none⟩ (.string z1)).setCell ⟨q, 2, none⟩ (.string z2)).setCell ⟨q, 3, none⟩ (.int .i64 z3)).setCell ⟨q, 4, none⟩ (v5)).setCell ⟨q, 5, none⟩ (.int .i64 z5)).setCell ⟨q, 6, none⟩ (.int .i64 n0)).setCell ⟨q, 7, none⟩ (.string n1)).setCell ⟨q, 8, none⟩ (.string n2)).setCell ⟨q, 9, none⟩ (.int .i64 n3)).setCell ⟨q, 10, none⟩ (u5)).setCell ⟨q, 11, none⟩ (.int .i64 n5)) := (putMain_only X q _ _ _ _ _ _).trans (putLame_only _ q _ _ _ _ _ _)
  have hb : Below (w.heap.size + 1) X ((((((((((((X.setCell ⟨q, 0, none⟩ (.int .i64 z0)).setCell ⟨q, 1, none⟩ (.string z1)).setCell ⟨q, 2, none⟩ (.string z2)).setCell ⟨q, 3, none⟩ (.int .i64 z3)).setCell ⟨q, 4, none⟩ (v5)).setCell ⟨q, 5, none⟩ (.int .i64 z5)).setCell ⟨q, 6, none⟩ (.int .i64 n0)).setCell ⟨q, 7, none⟩ (.string n1)).setCell ⟨q, 8, none⟩ (.string n2)).setCell ⟨q, 9, none⟩ (.int .i64 n3)).setCell ⟨q, 10, none⟩ (u5)).setCell ⟨q, 11, none⟩ (.int .i64 n5)) := ho.below (by omega) (by have := h.var.lt; omega)
  exact ⟨h.cur.kept hb (by omega), h.only.behind (hb.mono (by omega)), h.res.only ho (by omega), putBoth h.var (.int .i64 z0) (.string z1) (.string z2) (.int .i64 z3) (v5) (.int .i64 z5) (.int .i64 n0) (.string n1) (.string n2) (.int .i64 n3) (u5) (.int .i64 n5), ⟨f, own_only hf ho (row_off flatIntK hf h.var (by decide))⟩, ⟨k, own_only hk ho (row_off flatIntK hk h.var (by decide))⟩, h.lt, h.cl⟩
/-- The numbers seen alone are put anew. -/
theorem DS.seen (h : DS c a len cap w q x0 x1 x2 x3 v4 r4 x5 y0 y1 y2 y3 u4 s4 y5 X) (hm : ∃ f, layIntS.own X w.heap.size f [v5] t4) : DS c a len cap w q x0 x1 x2 x3 v5 t4 x5 y0 y1 y2 y3 u4 s4 y5 (X.setCell ⟨q, 4, none⟩ v5) := by
  obtain ⟨f, hf⟩ := hm
  obtain ⟨k, hk⟩ := h.lo
  have h1 := h.cl
  have h2 := h.lt
  have ho : Only q X (X.setCell ⟨q, 4, none⟩ v5) := Only.setCell 4 _
  have hb : Below (w.heap.size + 1) X (X.setCell ⟨q, 4, none⟩ v5) := ho.below (by omega) (by have := h.var.lt; omega)
  exact ⟨h.cur.kept hb (by omega), h.only.behind (hb.mono (by omega)), h.res.only ho (by omega), h.var.set 4 v5, ⟨f, own_only hf ho (row_off flatIntK hf h.var (by decide))⟩, ⟨k, own_only hk ho (row_off flatIntK hk h.var (by decide))⟩, h.lt, h.cl⟩
end
end Go.Proofs.YtoaifgblbfdncabGreatDoor

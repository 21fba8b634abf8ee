/-
  A drawn text for sums, and twelve drawn places.
  Bytes: their exclusive or and or as the model spells them; no program is spoken of here.
  '[]byte(t)' and '[]byte{}' written into and turned back into a text.
  A text whose one byte is turned, as the laws turn it.
-/
import Derived.Test.YtdhacjpdlmnlmadDoorJ17
import Derived.Test.YtdhacjpdlmnlmadDoorJ01
import Derived.Test.YtdhacjpdlmnlmadDoorRows
import Derived.Test.YtdhacjpdlmnlmadDoorJ02
import Derived.Lib.ConvBytes
import Derived.Deep.RegionHeld3
import Derived.BigQuiet
import Derived.Deep.QuietTactic
import Derived.Deep.LoopGhost
import Derived.Deep.DeepCutAuto
namespace Go.Proofs.YtdhacjpdlmnlmadDoor
open Go.RowKit

theorem infoIntP : (Tryd.prog.info? 3).map (fun i => (i.zero, i.size, i.bytes)) = some (some (.int .i64 0), 1, 8) := by kernel_rfl

/-- The slice value v is nil or the call's own (from block 'base' on), and holds these numbers. -/
def OwnI (w : World) (base : Nat) (e : TypeId) (v : Value) (zs : List Int) : Prop := w.ownsRow base e 1 v zs.length (zs.map (Value.int .i64))

theorem OwnI.lit (w : World) (base : Nat) (e : TypeId) (hb : base ≤ w.heap.size) : OwnI (w.alloc (.cells #[] e)) base e (.slice (some ⟨w.heap.size, 0, none⟩) 0 0) [] :=
  World.ownsRow_lit w #[] 0 hb (by decide) rfl

theorem OwnI.only {c : Nat} {w w' : World} {base : Nat} {e : TypeId} {v : Value} {xs : List Int} (h : OwnI w base e v xs) (ho : Only c w w') (hc : c < base) : OwnI w' base e v xs := by
  have h' : w.ownsRow base e 1 v xs.length (xs.map (Value.int .i64)) := h
  refine ⟨h'.1, ?_⟩
  rcases h'.2 with hn | ⟨g, cap, cur, hv, hb, hg, rest⟩
  · exact .inl hn
  · have hl : g < w.heap.size := by
      rcases Nat.lt_or_ge g w.heap.size with h2 | h2
      · exact h2
      · simp [Array.getElem?_eq_none h2] at hg
    exact .inr ⟨g, cap, cur, hv, hb, by rw [ho.block g hl (by omega)]; exact hg, rest⟩

theorem OwnI.form {w : World} {base : Nat} {e : TypeId} {v : Value} {xs : List Int} (h : OwnI w base e v xs) (h0 : 0 < xs.length) : ∃ g cap, v = .slice (some ⟨g, 0, none⟩) xs.length cap ∧ g < w.heap.size ∧
    ∀ j, j < xs.length → w.cell? ⟨g, j, none⟩ = some (.int .i64 (xs.getD j 0)) := by
  have h' : w.ownsRow base e 1 v xs.length (xs.map (Value.int .i64)) := h
  rcases h'.2 with ⟨rfl, hz⟩ | ⟨g, cap, cur, rfl, hb, hh, _, _, _, _⟩
  · omega
  · refine ⟨g, cap, rfl, lt_of_block hh, fun j hj => ?_⟩
    rw [h'.cellAt j (by omega)]
    simp [hj]

theorem push_cellsI (w : World) (e : TypeId) (z : Int) :
    ∀ j u, [Value.int .i64 z][j]? = some u → (w.alloc (.cells #[.int .i64 z] e)).cell? ((⟨w.heap.size, 0, none⟩ : Addr).add j) = some u := by
  intro j u hj
  match j, hj with
  | 0, hj => simp at hj; subst hj; simp [Addr.add]

/-- 'out = append(out, x)': out a row of numbers of the call's own. -/
theorem wpList_pushI {P : Program} (w : World) {ops : Array Oper} {rest : List Oper} {o : Oper} {a : Act} {Q : Exit → Act → World → Prop} (hgd : o.guard = none) (s x : Operand) (t : TypeId)
    (ho : o.op = .call { callee := .builtin .append, args := #[s, x], argTypes := #[t, t] })
    (base : Nat) (e : TypeId) (i : TypeInfo) (ht : P.underlying t = some (.slice e)) (hi : P.info? e = some i) (hz : i.zero = some (.int .i64 0))
    (hsize : i.size = 1) (hby : i.bytes = 8) (v : Value) (xs : List Int) (hs : a.eval s = v) (hown : OwnI w base e v xs)
    (z : Int) (hx : a.eval x = .slice (some ⟨w.heap.size, 0, none⟩) 1 1)
    (hlen : xs.length + 1 ≤ 1000000000) (hbase : base ≤ w.heap.size)
    (h : ∀ v' w', OwnI w' base e v' (xs ++ [z]) → Below base w w' → wpList P ops Q rest (a.put o.dst v') w') :
    wpList P ops Q (o :: rest) a (w.alloc (.cells #[.int .i64 z] e)) := by
  refine wpList_append_own (w.alloc (.cells #[.int .i64 z] e)) hgd s x t ho base e i (.int .i64 0) 1 8 ht hi hz hsize hby rfl (by decide) v xs.length (xs.map (Value.int .i64)) hs (World.ownsRow.alloc hown _) ⟨w.heap.size, 0, none⟩ 1 1 [.int .i64 z] hx rfl (push_cellsI w e z) (by intro u hu; simp at hu; subst hu; rfl) (by unfold maxLen; omega) (by omega) (by simp; omega) ?_
  intro v' w' h1 h2 _
  refine h v' w' ?_ ?_
  · unfold OwnI
    rw [List.length_append, List.map_append]
    exact h1
  · exact ((Below.refl base w).alloc hbase _).grown h2 (by simp; omega) (fun k hk => (World.ownsRow.lt hown k hk).1)

/-- How a draw of places ends. -/
def DrewPlaces (w : World) (e : Ending) (w' : World) : Prop :=
  ∃ (g cap : Nat) (zs : List Int), zs.length = 12 ∧ (∀ z ∈ zs, 0 ≤ z ∧ z ≤ 9999) ∧ e = .returned (.slice (some ⟨g, 0, none⟩) 12 cap) ∧ g < w'.heap.size ∧ (∀ j, j < 12 → w'.cell? ⟨g, j, none⟩ = some (.int .i64 (zs.getD j 0))) ∧ Below w.heap.size w w'

set_option maxRecDepth 100000 in
set_option maxHeartbeats 800000 in
theorem drawPlaces_any (a : Option Addr) (len cap : Nat) (w : World) (H : Src a len w) :
    Calls Tryd.prog 14 #[.slice a len cap] w (DrewPlaces w) := by
  obtain ⟨i0, hi, hz0, hz1, hz2⟩ := info_parts infoIntP
  have HS := Lib.hid H
  clear H
  go_enter Tryd.func14, Tryd.ntmps14
  go_wp2_with fail
  refine (new_any a len cap _ HS.out).mono ?_
  rintro e w1 ⟨c, rfl, hc, hcur, hb⟩
  have HC1 := Lib.hid hcur
  have HB1 := Lib.hid hb
  clear hcur hb
  go_wp2_with fail
  refine (byte_any _ HC1.out).mono ?_
  rintro e w2 ⟨x, x0, x1, rfl, hcur, ho⟩
  have HC2 := Lib.hid hcur
  have HB2 := Lib.hid (HB1.out.trans (ho.below hc HB1.out.size))
  have hcs : c < w2.heap.size := cell_size (p := ⟨c, 0, none⟩) hcur.c0
  clear hcur ho HC1 HB1
  go_wp2
  go_loopw [4, 5] (fun v i wr => ∃ (k : Nat) (zs : List Int), k ≤ 12 ∧ zs.length = k ∧ (∀ z ∈ zs, 0 ≤ z ∧ z ≤ 9999) ∧ i = .int .i64 k ∧ OwnI wr w2.heap.size 3 v zs ∧ Cur c a len cap wr ∧ Only c w2 wr) (fun _ i _ => 12 - (intOf i).toNat)
  case atStart =>
    have hb := (Below.refl w2.heap.size w2).alloc (Nat.le_refl _) (.cells #[] 3)
    exact ⟨0, [], Nat.zero_le _, rfl, fun z hz => (by cases hz), rfl, OwnI.lit _ _ _ (Nat.le_refl _), HC2.out.below hb, .of_below hb⟩
  case round =>
    obtain ⟨k, zs, hk, hl, hzs, rfl, hown, hc1, ho⟩ := hrel
    have HC1 := Lib.hid hc1
    have HO1 := Lib.hid ho
    have HW := Lib.hid hown
    have HL := Lib.hid hl
    have HZ := Lib.hid hzs
    clear hc1 ho hown hl hzs HC2
    by_cases hlt : (k : Int) < 12
    · go_wp2_with fail
      refine (below_any 10000 (by omega) (by omega) _ HC1.out).mono ?_
      rintro e w3 ⟨y, y0, y1, rfl, hc2, ho2⟩
      have HC2 := Lib.hid hc2
      have HO2 := Lib.hid ho2
      have hw2 := HW.out.only ho2 hcs
      have hsz := Nat.le_trans HO1.out.size ho2.size
      have hl2 := HL.out
      clear hc2 ho2
      go_wp2_with (at_builtin; refine wpList_pushI _ rfl _ _ 24 rfl w2.heap.size 3 i0 Tryd.underlying24 hi hz0 hz1 hz2 _ _ rfl hw2 _ rfl (by omega) hsz ?_)
      intro v' w4 hown2 hnx2
      go_wp2
      go_roundw
      case rel =>
        refine ⟨k + 1, zs ++ [y], by omega, by simp [hl2], fun z hz => ?_, by go_num, hown2, HC2.out.kept hnx2 hcs, (HO1.out.trans HO2.out).behind hnx2⟩
        rcases List.mem_append.1 hz with h | h
        · exact HZ.out z h
        · simp at h; subst h; omega
      case measure => simp [intOf]; omega
    · have hk12 : k = 12 := by omega
      obtain ⟨g, cp, rfl, hg, hcell⟩ := HW.out.form (by have := HL.out; omega)
      have HG := Lib.hid hcell
      clear hcell
      go_wp2
      go_ret
      refine ⟨g, cp, zs, by rw [HL.out, hk12], HZ.out, by rw [HL.out, hk12]; rfl, hg, fun j hj => HG.out j (by rw [HL.out, hk12]; exact hj), HB2.out.trans (HO1.out.below hc HB2.out.size)⟩

end Go.Proofs.YtdhacjpdlmnlmadDoor
namespace Go.Proofs.YtdhacjpdlmnlmadDoor
open Go.RowKit

theorem xor_bytes (x y : UInt8) : bits .xor .u8 (x.toNat : Int) (y.toNat : Int) = ((x ^^^ y).toNat : Int) := by
  have e : ∀ x y : Fin 256, bits .xor .u8 (x.val : Int) (y.val : Int) = ((x.val ^^^ y.val : Nat) : Int) := by
    intro x y
    unfold bits
    simp only
    rw [BitVec.toNat_xor]
    have ex : ∀ z : Fin 256, (BitVec.ofInt IntKind.u8.bits (z.val : Int)).toNat = z.val := fun z => by
      rw [BitVec.toNat_ofInt]
      show ((z.val : Int) % ((2 ^ 8 : Nat) : Int)).toNat = z.val
      have := z.isLt
      omega
    rw [ex x, ex y, IntKind.wrap_u8]
    have : x.val ^^^ y.val < 256 := Nat.xor_lt_two_pow (n := 8) x.isLt y.isLt
    omega
  have := e ⟨x.toNat, x.toNat_lt⟩ ⟨y.toNat, y.toNat_lt⟩
  rw [this]
  simp
theorem text_byte (t : ByteArray) (n : Nat) (h : n < t.size) : t[n]'h = t.data.toList.getD n 0 := by
  rw [List.getD_eq_getElem?_getD, List.getElem?_eq_getElem (by simpa using h)]
  rfl
theorem or_bytes (x y : UInt8) : bits .or .u8 (x.toNat : Int) (y.toNat : Int) = ((x ||| y).toNat : Int) := by
  have e : ∀ x y : Fin 256, bits .or .u8 (x.val : Int) (y.val : Int) = ((x.val ||| y.val : Nat) : Int) := by
    intro x y
    unfold bits
    simp only
    rw [BitVec.toNat_or]
    have ex : ∀ z : Fin 256, (BitVec.ofInt IntKind.u8.bits (z.val : Int)).toNat = z.val := fun z => by
      rw [BitVec.toNat_ofInt]
      show ((z.val : Int) % ((2 ^ 8 : Nat) : Int)).toNat = z.val
      have := z.isLt
      omega
    rw [ex x, ex y, IntKind.wrap_u8]
    have : x.val ||| y.val < 256 := Nat.or_lt_two_pow (n := 8) x.isLt y.isLt
    omega
  have := e ⟨x.toNat, x.toNat_lt⟩ ⟨y.toNat, y.toNat_lt⟩
  rw [this]
  simp

/-- What the first n bytes of two texts differ in. -/
def diffUp (a b : List UInt8) : Nat → UInt8
  | 0 => 0
  | n + 1 => diffUp a b n ||| (a.getD n 0 ^^^ b.getD n 0)
theorem diffUp_zero (a b : List UInt8) (n : Nat) : diffUp a b n = 0 ↔ ∀ i, i < n → a.getD i 0 = b.getD i 0 := by
  induction n with
  | zero => exact ⟨fun _ i hi => absurd hi (by omega), fun _ => rfl⟩
  | succ n ih =>
    show diffUp a b n ||| (a.getD n 0 ^^^ b.getD n 0) = 0 ↔ _
    rw [UInt8.or_eq_zero_iff, UInt8.xor_eq_zero_iff, ih]
    constructor
    · rintro ⟨h1, h2⟩ i hi
      rcases Nat.lt_or_ge i n with h | h
      · exact h1 i h
      · obtain rfl : i = n := by omega
        exact h2
    · intro h
      exact ⟨fun i hi => h i (by omega), h n (by omega)⟩
theorem diffUp_eq (a b : ByteArray) (h : a.size = b.size) : ((((diffUp a.data.toList b.data.toList a.size).toNat : Nat) : Int) == 0) = (a.toList == b.toList) := by
  have e : ∀ t : ByteArray, t.toList = t.data.toList := fun t => by rw [ByteArray.toList_eq]
  have hz : ((((diffUp a.data.toList b.data.toList a.size).toNat : Nat) : Int) = 0) ↔ diffUp a.data.toList b.data.toList a.size = 0 := by
    constructor
    · intro h
      apply UInt8.toNat_inj.1
      show _ = 0
      omega
    · intro h
      rw [h]
      rfl
  rw [e a, e b, Bool.eq_iff_iff, beq_iff_eq, beq_iff_eq, hz, diffUp_zero]
  constructor
  · intro hh
    apply List.ext_getElem (by simp; exact h)
    intro i h1 h2
    have := hh i (by simpa using h1)
    rw [List.getD_eq_getElem?_getD, List.getD_eq_getElem?_getD, List.getElem?_eq_getElem h1, List.getElem?_eq_getElem h2] at this
    exact this
  · intro hh i _
    rw [hh]

end Go.Proofs.YtdhacjpdlmnlmadDoor
namespace Go.Proofs.YtdhacjpdlmnlmadDoor
open Go.RowKit

/-- A row of bytes in block g: its cells, none of them barred. -/
structure RowB (g : Nat) (l : List UInt8) (X : World) : Prop where
  cell : ∀ j, j < l.length → X.cell? ⟨g, j, none⟩ = some (.int .u8 ((l.getD j 0).toNat : Nat))
  free : ∀ j, j < l.length → X.frozen? ⟨g, j, none⟩ = false
theorem RowB.set {g : Nat} {l : List UInt8} {X : World} (h : RowB g l X) (k : Nat) (hk : k < l.length) (b : UInt8) : RowB g (l.set k b) (X.setCell ⟨g, k, none⟩ (.int .u8 (b.toNat : Nat))) := by
  refine ⟨fun j hj => ?_, fun j hj => ?_⟩
  · rw [List.length_set] at hj
    by_cases hjk : k = j
    · subst hjk
      rw [set_on _ _ _ _ _ (h.cell k hk), List.getD_eq_getElem?_getD, List.getElem?_set_self hk]
      rfl
    · rw [set_off _ _ _ _ _ hjk, h.cell j hj, List.getD_eq_getElem?_getD, List.getD_eq_getElem?_getD, List.getElem?_set_ne hjk]
  · rw [List.length_set] at hj
    rw [World.frozen?_setCell]
    exact h.free j hj
theorem RowB.drew {g : Nat} {l : List UInt8} {X : World} (h : RowB g l X) : RowB g l X.drew := ⟨h.cell, h.free⟩
theorem RowB.back {g : Nat} {l : List UInt8} {X : World} (h : RowB g l X) (n cap : Nat) (hn : l.length = n) : (convert 22 9 (.slice (some ⟨g, 0, none⟩) n cap)).run Tryd.prog X = .ok (.string ⟨l.toArray⟩) X := by
  subst hn
  refine run_convert_bytes_back (P := Tryd.prog) X 22 9 5 ⟨g, 0, none⟩ cap l Tryd.underlying22 Tryd.underlying5 Tryd.underlying9 (fun j hj => ?_)
  have e : (⟨g, 0, none⟩ : Addr).add j = ⟨g, j, none⟩ := by unfold Addr.add; split <;> simp_all
  rw [e, h.cell j hj, List.getD_eq_getElem?_getD, List.getElem?_eq_getElem hj]
  rfl
/-- '[]byte(t)': a row of its own that holds t's bytes. -/
theorem bytes_text (w : World) (t : ByteArray) : ∃ (cp : Nat) (w' : World), (convert 9 22 (.string t)).run Tryd.prog w = .ok (.slice (some ⟨w.heap.size, 0, none⟩) t.size cp) w' ∧ Below w.heap.size w w' ∧ RowB w.heap.size t.data.toList w' := by
  have hl : t.data.toList.length = t.size := by simp
  refine ⟨_, _, Lib.run_convert_string_bytes w 9 22 5 t Tryd.underlying9 Tryd.underlying22 Tryd.underlying5, ⟨rfl, rfl, rfl, by rw [Lib.bytesWorld_size]; omega, fun k hk => Lib.bytesWorld_at_old w _ t k hk⟩, fun j hj => Lib.bytesWorld_cell w _ t j (by omega), fun j hj => ?_⟩
  have h := Lib.bytesWorld_at_new w 5 t
  have hz : t.size ≤ (Lib.bytesCells w 5 t).size := by simp [Lib.bytesCells]
  unfold World.frozen?
  rw [h]
  simp
  omega

end Go.Proofs.YtdhacjpdlmnlmadDoor
namespace Go.Proofs.YtdhacjpdlmnlmadDoor
open Go.RowKit

set_option maxRecDepth 100000 in
set_option maxHeartbeats 1600000 in
theorem turnedAt_any (s : ByteArray) (h0 : 0 < s.size) (hs : s.size ≤ 1000) (g cp : Nat) (z0 z1 : Int) (hz0 : 0 ≤ z0 ∧ z0 ≤ 9999) (hz1 : 0 ≤ z1 ∧ z1 ≤ 9999) (w : World) (hg : g < w.heap.size) (c0 : w.cell? ⟨g, 0, none⟩ = some (.int .i64 z0)) (c1 : w.cell? ⟨g, 1, none⟩ = some (.int .i64 z1)) :
    Calls Tryd.prog 13 #[.string s, .slice (some ⟨g, 0, none⟩) 12 cp] w fun e w' => ∃ (k : Nat) (b : UInt8), k < s.data.toList.length ∧ b ≠ s.data.toList.getD k 0 ∧ e = .returned (.string ⟨(s.data.toList.set k b).toArray⟩) ∧ Below w.heap.size w w' := by
  obtain ⟨cp1, w1, hcv, hb1, hr1⟩ := bytes_text w s
  have hl : s.data.toList.length = s.size := by simp
  obtain ⟨k, hk, hr1', hr2⟩ : ∃ k : Nat, k < s.size ∧ z0 % (s.size : Int) = (k : Int) ∧ z0.tmod (s.size : Int) = (k : Int) := by
    have h1 : 0 ≤ z0 % (s.size : Int) := Int.emod_nonneg _ (by omega)
    have h2 := Int.emod_lt_of_pos z0 (show (0 : Int) < (s.size : Int) by omega)
    refine ⟨(z0 % (s.size : Int)).toNat, by omega, by omega, ?_⟩
    rw [Int.tmod_eq_emod_of_nonneg hz0.1]
    omega
  obtain ⟨m, hm, hm1, hm2⟩ : ∃ m : Nat, m < 255 ∧ z1 % 255 = (m : Int) ∧ z1.tmod 255 = (m : Int) := by
    refine ⟨(z1 % 255).toNat, by omega, by omega, ?_⟩
    rw [Int.tmod_eq_emod_of_nonneg hz1.1]
    omega
  obtain ⟨y, hy1, hy2⟩ : ∃ y : UInt8, 1 + (m : Int) = (y.toNat : Int) ∧ y ≠ 0 := by
    refine ⟨UInt8.ofNat (1 + m), by rw [UInt8.toNat_ofNat']; omega, fun h => ?_⟩
    have := congrArg UInt8.toNat h
    rw [UInt8.toNat_ofNat'] at this
    simp at this
    omega
  obtain ⟨x, XX⟩ : ∃ x : UInt8, Hid (x = s.data.toList.getD k 0) := ⟨_, rfl⟩
  have d0 : w1.cell? ⟨g, 0, none⟩ = some (.int .i64 z0) := by rw [hb1.cell (p := ⟨g, 0, none⟩) hg]; exact c0
  have d1 : w1.cell? ⟨g, 1, none⟩ = some (.int .i64 z1) := by rw [hb1.cell (p := ⟨g, 1, none⟩) hg]; exact c1
  have e0 := hr1.cell k (by omega)
  have f0 := hr1.free k (by omega)
  rw [← XX.out] at e0
  have hxor := xor_bytes x y
  have hset := (hr1.set k (by omega) (x ^^^ y)).drew
  have hrd := hset.back s.size cp1 (by rw [List.length_set]; exact hl)
  have HB : Hid (Below w.heap.size w (w1.setCell ⟨w.heap.size, k, none⟩ (.int .u8 ((x ^^^ y).toNat : Nat))).drew) := (hb1.setCell (p := ⟨w.heap.size, k, none⟩) (Nat.le_refl _) _).drew
  have HE : Hid (x ^^^ y ≠ s.data.toList.getD k 0) := by
    show _ ≠ _
    rw [← XX.out]
    intro h3
    have h4 := congrArg (x ^^^ ·) h3
    simp only [← UInt8.xor_assoc, UInt8.xor_self, UInt8.zero_xor] at h4
    exact hy2 h4
  generalize x ^^^ y = v at hxor hrd HB HE
  have FIN : Hid (∀ t : ByteArray, t = ⟨(s.data.toList.set k v).toArray⟩ → ∃ (k : Nat) (b : UInt8), k < s.data.toList.length ∧ b ≠ s.data.toList.getD k 0 ∧ Ending.returned (.string t) = .returned (.string ⟨(s.data.toList.set k b).toArray⟩) ∧ Below w.heap.size w _) := fun t ht => ⟨k, v, by omega, HE.out, by rw [ht], HB.out⟩
  generalize hT : (⟨(s.data.toList.set k v).toArray⟩ : ByteArray) = t at hrd
  have FIN2 := Lib.hid (FIN.out t hT.symm)
  have hk2 : (k : Int) < (s.size : Int) := by omega
  have hs0 : ¬ ((s.size : Int) = 0) := by omega
  have hy3 : (1 + (m : Int)) % 256 = (y.toNat : Int) := by omega
  have hyl := y.toNat_lt
  clear hset hr1 hT hb1 c0 c1 XX FIN HE HB
  go_enter Tryd.func13, Tryd.ntmps13
  go_wp2_with fail
  go_region
  all_goals
    go_wp2_with fail
    go_ret
    exact FIN2.out

set_option maxRecDepth 100000 in
set_option maxHeartbeats 400000 in
theorem turned_none (v : Value) (w : World) :
    Calls Tryd.prog 13 #[.string ⟨#[]⟩, v] w fun e w' => e = .returned (.string ⟨#[120]⟩) ∧ Below w.heap.size w w' := by
  obtain ⟨cp1, w1, hcv, hb1, _⟩ := bytes_text w ⟨#[]⟩
  have HB := Lib.hid hb1
  clear hb1
  go_enter Tryd.func13, Tryd.ntmps13
  go_wp2_with fail
  go_ret
  exact ⟨rfl, HB.out⟩

end Go.Proofs.YtdhacjpdlmnlmadDoor

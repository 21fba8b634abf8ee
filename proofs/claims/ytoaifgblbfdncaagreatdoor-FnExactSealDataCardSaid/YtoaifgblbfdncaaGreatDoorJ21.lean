/-
  The given expansions.
  Plain mathematics of chapter 1's numbers in bytes: 'var n' is the text of a number, seven bits a byte, the lowest first; no program is spoken of here.
  The two functions that write a number in bytes, the given one and the program's, answer one text, at every number.
  Plain mathematics of two texts' exclusive or; no program is spoken of here.
  Plain mathematics of masks and locked texts; no program is spoken of here.
  Bytes: their exclusive or and or as the model spells them; no program is spoken of here.
-/
import Derived.Test.YtoaifgblbfdncaaGreatDoorJ20
import Derived.WalkKit
import Derived.Test.YtoaifgblbfdncaaGreatDoorRows
import Derived.Test.YtoaifgblbfdncaaGreatDoorJ01
namespace Go.Proofs.YtoaifgblbfdncaaGreatDoor
open Go.RowKit

set_option maxRecDepth 100000 in
set_option maxHeartbeats 400000 in
theorem specByte_any (i : Nat) (h : i < 256) (w : World) :
    Calls Tryz.prog 111 #[.int .i64 i] w fun e w' => e = .returned (.string ⟨#[UInt8.ofNat i]⟩) ∧ Below w.heap.size w w' := by
  have h1 : (i : Int) % 256 = (i : Int) := by omega
  have h2 : (i : Int).tmod 256 = (i : Int) := by rw [Int.tmod_eq_emod_of_nonneg (by omega)]; exact h1
  have h3 : ¬ ((i : Int) < 0) := by omega
  obtain ⟨b, hb, BB⟩ : ∃ b : UInt8, (i : Int) = (b.toNat : Int) ∧ Hid (b = UInt8.ofNat i) := ⟨UInt8.ofNat i, by rw [UInt8.toNat_ofNat']; omega, rfl⟩
  have hr := run_string_one (P := Tryz.prog) w 22 9 5 Tryz.underlying22 Tryz.underlying5 Tryz.underlying9 b
  rw [← hb] at hr
  have HB := Lib.hid hb
  rw [← BB.out]
  clear hb
  go_enter Tryz.func111, Tryz.ntmps111
  go_wp2_with fail
  go_ret
  exact ⟨rfl, (Below.refl _ _).alloc (Nat.le_refl _) _⟩

/-- A text's bytes as a row of their own. -/
theorem bytes_row (w : World) (t : ByteArray) : ∃ (cp : Nat) (w' : World), (convert 9 22 (.string t)).run Tryz.prog w = .ok (.slice (some ⟨w.heap.size, 0, none⟩) t.size cp) w' ∧ w.heap.size < w'.heap.size ∧ Below w.heap.size w w' ∧
    (∀ j, j < t.size → w'.cell? ⟨w.heap.size, j, none⟩ = some (.int .u8 (t.data.toList.getD j 0).toNat)) ∧ (∀ j, j < t.size → w'.frozen? ⟨w.heap.size, j, none⟩ = false) := by
  refine ⟨_, _, Lib.run_convert_string_bytes w 9 22 5 t Tryz.underlying9 Tryz.underlying22 Tryz.underlying5, by rw [Lib.bytesWorld_size]; omega, ⟨rfl, rfl, rfl, by rw [Lib.bytesWorld_size]; omega, fun k hk => Lib.bytesWorld_at_old w _ t k hk⟩, fun j hj => Lib.bytesWorld_cell w _ t j hj, fun j hj => ?_⟩
  have h := Lib.bytesWorld_at_new w 5 t
  have hz : t.size ≤ (Lib.bytesCells w 5 t).size := by simp [Lib.bytesCells]
  unfold World.frozen?
  rw [h]
  simp
  omega

theorem OwnB.after {w w' : World} {base : Nat} {e : TypeId} {v : Value} {xs : List UInt8} (h : OwnB w base e v xs) (hb : Below w.heap.size w w') : OwnB w' base e v xs := by
  refine ⟨h.1, ?_⟩
  rcases h.2 with hn | ⟨g, cap, cur, hv, hb', hg, rest⟩
  · exact .inl hn
  · exact .inr ⟨g, cap, cur, hv, hb', by rw [hb.block g (lt_of_block hg)]; exact hg, rest⟩
/-- 'out = append(out, l...)': out a row of bytes of the call's own. -/
theorem wpList_joinB {P : Program} (w : World) {ops : Array Oper} {rest : List Oper} {o : Oper} {a : Act} {Q : Exit → Act → World → Prop} (hgd : o.guard = none) (s x : Operand) (t : TypeId)
    (ho : o.op = .call { callee := .builtin .append, args := #[s, x], argTypes := #[t, t] })
    (base : Nat) (e : TypeId) (i : TypeInfo) (ht : P.underlying t = some (.slice e)) (hi : P.info? e = some i) (hz : i.zero = some (.int .u8 0))
    (hsize : i.size = 1) (hby : i.bytes = 1) (v : Value) (xs : List UInt8) (hs : a.eval s = v) (hown : OwnB w base e v xs)
    (g m c : Nat) (l : List UInt8) (hx : a.eval x = .slice (some ⟨g, 0, none⟩) m c) (hm : l.length = m) (hc : ∀ j, j < m → w.cell? ⟨g, j, none⟩ = some (.int .u8 (l.getD j 0).toNat))
    (hlen : xs.length + m ≤ 1000000000) (hbase : base ≤ w.heap.size)
    (h : ∀ v' w', OwnB w' base e v' (xs ++ l) → Below base w w' → wpList P ops Q rest (a.put o.dst v') w') :
    wpList P ops Q (o :: rest) a w := by
  subst hm
  refine wpList_append_own w hgd s x t ho base e i (.int .u8 0) 1 1 ht hi hz hsize hby rfl (by decide) v xs.length (Lib.byteCells xs) hs hown ⟨g, 0, none⟩ l.length c (Lib.byteCells l) hx (by simp [Lib.byteCells]) (fun j u hj => ?_) (by intro u hu; simp [Lib.byteCells] at hu; obtain ⟨b, _, rfl⟩ := hu; rfl) (by unfold maxLen; omega) (by omega) hbase ?_
  · have hjl : j < l.length := by
      rcases Nat.lt_or_ge j l.length with h | h
      · exact h
      · rw [List.getElem?_eq_none (by simpa [Lib.byteCells] using h)] at hj
        cases hj
    have hadd : (⟨g, 0, none⟩ : Addr).add j = ⟨g, j, none⟩ := by unfold Addr.add; split <;> simp_all
    rw [hadd, hc j hjl, ← hj]
    simp [Lib.byteCells, hjl]
  · intro v' w' h1 h2 _
    refine h v' w' ?_ ((Below.refl base w).grown h2 hbase (fun k hk => (World.ownsRow.lt hown k hk).1))
    unfold OwnB
    rw [List.length_append, Lib.byteCells_append]
    exact h1

/-- The front of a row of one's own, read as a text. -/
theorem own_front {P : Program} (w : World) (src dst e : TypeId) (hs : P.underlying src = some (.slice e)) (he : P.underlying e = some (.int .u8)) (hd : P.underlying dst = some .string)
    {base : Nat} {v : Value} (l : List UInt8) (hown0 : OwnB w base e v l) (n : Nat) (hn : n ≤ l.length) :
    ∃ ao cap, v = .slice ao l.length cap ∧ n ≤ cap ∧ (convert src dst (.slice ao n cap)).run P w = .ok (.string ⟨(l.take n).toArray⟩) w := by
  have hown : w.ownsRow base e 1 v l.length (Lib.byteCells l) := hown0
  rcases hown.2 with ⟨rfl, h0⟩ | ⟨g, cap, cur, rfl, _, _, hnc, _, _, _⟩
  · obtain rfl : l = [] := List.length_eq_zero_iff.1 h0
    obtain rfl : n = 0 := by simpa using hn
    refine ⟨none, 0, rfl, Nat.le_refl _, ?_⟩
    rw [run_convert_bytes_string w src dst e none 0 0 hs he hd]
    rfl
  · refine ⟨_, cap, rfl, by omega, ?_⟩
    have hl : (l.take n).length = n := by rw [List.length_take]; omega
    have h := run_convert_bytes_back w src dst e ⟨g, 0, none⟩ cap (l.take n) hs he hd (fun j hj => hown.cells (g := g) rfl j _ (by
      rw [hl] at hj
      unfold Lib.byteCells
      rw [List.getElem?_map, List.getElem_take, List.getElem?_eq_getElem (by omega)]
      rfl))
    rw [hl] at h
    exact h

end Go.Proofs.YtoaifgblbfdncaaGreatDoor
namespace Go.Proofs.YtoaifgblbfdncaaGreatDoor

def varF : Nat → Nat → List UInt8
  | 0, n => [UInt8.ofNat n]
  | f + 1, n => if n ≤ 127 then [UInt8.ofNat n] else UInt8.ofNat (n % 128 + 128) :: varF f (n / 128)

def var (n : Nat) : List UInt8 := varF n n

theorem varF_fuel : ∀ (f g n : Nat), n ≤ f → n ≤ g → varF f n = varF g n
  | 0, 0, n, _, _ => rfl
  | 0, g + 1, n, h, _ => by
    have : n = 0 := by omega
    subst this
    simp [varF]
  | f + 1, 0, n, _, h => by
    have : n = 0 := by omega
    subst this
    simp [varF]
  | f + 1, g + 1, n, hf, hg => by
    by_cases h : n ≤ 127
    · simp [varF, h]
    · have h1 : n / 128 ≤ f := by omega
      have h2 : n / 128 ≤ g := by omega
      simp only [varF, if_neg h]
      rw [varF_fuel f g (n / 128) h1 h2]

theorem var_small (n : Nat) (h : n ≤ 127) : var n = [UInt8.ofNat n] := by
  unfold var
  cases n with
  | zero => rfl
  | succ n => simp only [varF, if_pos h]

theorem var_great (n : Nat) (h : 127 < n) : var n = UInt8.ofNat (n % 128 + 128) :: var (n / 128) := by
  unfold var
  obtain ⟨k, rfl⟩ : ∃ k, n = k + 1 := ⟨n - 1, by omega⟩
  have h' : ¬ k + 1 ≤ 127 := by omega
  simp only [varF, if_neg h']
  rw [varF_fuel k ((k + 1) / 128) ((k + 1) / 128) (by omega) (by omega)]

theorem varF_length : ∀ (f n : Nat), (varF f n).length ≤ f + 1
  | 0, n => by simp [varF]
  | f + 1, n => by
    by_cases h : n ≤ 127
    · simp [varF, h]
    · have := varF_length f (n / 128)
      simp only [varF, if_neg h, List.length_cons]
      omega

theorem var_length (n : Nat) : (var n).length ≤ n + 1 := varF_length n n

theorem byte_of (m : Nat) (h : m ≤ 255) : ((UInt8.ofNat m).toNat : Int) = (m : Int) := by
  have : (UInt8.ofNat m).toNat = m := by simp; omega
  omega

end Go.Proofs.YtoaifgblbfdncaaGreatDoor
namespace Go.Proofs.YtoaifgblbfdncaaGreatDoor
open Go.RowKit

theorem infoByte : (Tryz.prog.info? 5).map (fun i => (i.zero, i.size, i.bytes)) = some (some (.int .u8 0), 1, 1) := by kernel_rfl

set_option maxRecDepth 100000 in
set_option maxHeartbeats 400000 in
theorem l01Var_any (n : Nat) (hn : n ≤ 1000000000) (w : World) :
    Calls Tryz.prog 110 #[.int .i64 n] w fun e w' => e = .returned (.string ⟨(var n).toArray⟩) ∧ Below w.heap.size w w' := by
  obtain ⟨i0, hi, hz0, hz1, hz2⟩ := info_parts infoByte
  go_enter Tryz.func110, Tryz.ntmps110
  go_wp2
  go_loopw [0, 3] (fun t v wr => ∃ (m : Nat) (xs : List UInt8), m ≤ n ∧ t = .int .i64 m ∧ xs ++ var m = var n ∧ OwnB wr w.heap.size 5 v xs ∧ Below w.heap.size w wr) (fun t _ _ => (intOf t).toNat)
  case atStart => exact ⟨n, [], Nat.le_refl _, rfl, rfl, OwnB.lit _ _ _ (Nat.le_refl _), (Below.refl _ _).alloc (Nat.le_refl _) _⟩
  case round =>
    obtain ⟨m, xs, hm, rfl, hx, hown, hnx⟩ := hrel
    have hsz := hnx.size
    have hlen : xs.length + (var m).length ≤ 1000000001 := by
      have h1 := var_length n
      rw [← hx, List.length_append] at h1
      omega
    have HX := Lib.hid hx
    clear hx
    by_cases hlt : 127 < m
    · obtain ⟨b, hb, hg⟩ : ∃ b : UInt8, ((m : Int) % 128 + 128) = b.toNat ∧ var m = b :: var (m / 128) := ⟨_, by rw [byte_of _ (by omega)]; omega, var_great m hlt⟩
      have HG := Lib.hid hg
      have HB := Lib.hid hb
      clear hg hb
      go_wp2_with (at_builtin; refine wpList_push _ rfl _ _ 22 rfl w.heap.size 5 i0 Tryz.underlying22 hi hz0 hz1 hz2 _ xs rfl hown b _ rfl HB.out (by omega) hsz ?_)
      intro v' w1 hown1 hnx1
      have hnx2 := hnx.trans hnx1
      clear hown hnx hnx1 hsz
      go_wp2
      go_roundw
      case rel => exact ⟨m / 128, xs ++ [b], by omega, by go_num, by rw [← HX.out, HG.out, List.append_assoc]; rfl, hown1, hnx2⟩
      case measure => simp [intOf]; omega
    · obtain ⟨b, hb, hs⟩ : ∃ b : UInt8, (m : Int) = b.toNat ∧ var m = [b] := ⟨_, by rw [byte_of _ (by omega)], var_small m (by omega)⟩
      have HS := Lib.hid hs
      have HB := Lib.hid hb
      clear hs hb
      go_wp2_with (at_builtin; refine wpList_push _ rfl _ _ 22 rfl w.heap.size 5 i0 Tryz.underlying22 hi hz0 hz1 hz2 _ xs rfl hown b _ rfl HB.out (by omega) hsz ?_)
      intro v' w1 hown1 hnx1
      have hcv := run_string_own (P := Tryz.prog) w1 22 9 5 Tryz.underlying22 Tryz.underlying5 Tryz.underlying9 _ hown1
      go_wp2
      go_ret
      exact ⟨ret_str (by rw [← HX.out, HS.out]), hnx.trans hnx1⟩

end Go.Proofs.YtoaifgblbfdncaaGreatDoor
namespace Go.Proofs.YtoaifgblbfdncaaGreatDoor
open Go.RowKit

/-- Two texts' exclusive or: the first n bytes, then the first text's own. -/
def xorUp (a b : List UInt8) (n : Nat) : List UInt8 := (List.range n).map (fun i => a.getD i 0 ^^^ b.getD i 0) ++ a.drop n
theorem xorUp_length (a b : List UInt8) (n : Nat) (h : n ≤ a.length) : (xorUp a b n).length = a.length := by unfold xorUp; simp; omega
theorem xorUp_at (a b : List UInt8) (n : Nat) : (xorUp a b n).getD n 0 = a.getD n 0 := by
  unfold xorUp
  rw [List.getD_eq_getElem?_getD, List.getElem?_append_right (by simp), List.length_map, List.length_range, Nat.sub_self, List.getElem?_drop, Nat.add_zero, List.getD_eq_getElem?_getD]
theorem xorUp_set (a b : List UInt8) (n : Nat) (h : n < a.length) : (xorUp a b n).set n (a.getD n 0 ^^^ b.getD n 0) = xorUp a b (n + 1) := by
  unfold xorUp
  rw [List.set_append_right _ _ (by simp), List.length_map, List.length_range, Nat.sub_self, List.drop_eq_getElem_cons h, List.set_cons_zero, List.range_succ, List.map_append, List.append_assoc]
  rfl
theorem xorUp_pad (k : List UInt8) (x : UInt8) (h : k.length ≤ 64) : xorUp (k ++ List.replicate (64 - k.length) 0) (List.replicate 64 x) 64 = padUp k x 64 := by
  unfold xorUp padUp
  have e1 : (k ++ List.replicate (64 - k.length) 0).drop 64 = [] := by
    apply List.drop_of_length_le
    simp
    omega
  rw [e1, Nat.sub_self, List.replicate_zero, List.append_nil, List.append_nil]
  apply List.map_congr_left
  intro i hi
  have hi' : i < 64 := by simpa using hi
  have e2 : (List.replicate 64 x).getD i 0 = x := by rw [List.getD_eq_getElem?_getD, List.getElem?_replicate, if_pos hi']; rfl
  have e3 : (k ++ List.replicate (64 - k.length) 0).getD i 0 = k.getD i 0 := by
    rw [List.getD_eq_getElem?_getD, List.getD_eq_getElem?_getD]
    by_cases hk : i < k.length
    · rw [List.getElem?_append_left hk]
    · rw [List.getElem?_append_right (by omega), List.getElem?_replicate, List.getElem?_eq_none (by omega), if_pos (by omega)]
      rfl
  rw [e2, e3]

end Go.Proofs.YtoaifgblbfdncaaGreatDoor
namespace Go.Proofs.YtoaifgblbfdncaaGreatDoor
open Go.RowKit

/-- What goes ahead: a letter, and a number's text. -/
def aheadP (c : UInt8) (num : Nat) : ByteArray := ⟨#[c]⟩ ++ ⟨(var num).toArray⟩
/-- A number's text is short. -/
theorem var_few (n : Nat) (h : n ≤ 1000000000) : (var n).length ≤ 5 := by
  have e : ∀ k m : Nat, m < 128 ^ (k + 1) → (var m).length ≤ k + 1 := by
    intro k
    induction k with
    | zero =>
      intro m hm
      rw [var_small m (by omega)]
      exact Nat.le_refl _
    | succ k ih =>
      intro m hm
      by_cases h : m ≤ 127
      · rw [var_small m h]
        show 1 ≤ _
        omega
      · rw [var_great m (by omega), List.length_cons]
        have := ih (m / 128) (by rw [Nat.pow_succ] at hm; omega)
        omega
  exact e 4 n (by omega)
/-- The parts of a mask, and all of them up to one. -/
def maskPart (key : ByteArray) (num i : Nat) : ByteArray := macP key (aheadP 109 num ++ ⟨#[UInt8.ofNat i]⟩)
def maskUp (key : ByteArray) (num : Nat) : Nat → List UInt8
  | 0 => []
  | i + 1 => maskUp key num i ++ (maskPart key num i).data.toList
theorem maskPart_size (key : ByteArray) (num i : Nat) : (maskPart key num i).size = 32 := macP_size _ _
theorem maskUp_length (key : ByteArray) (num i : Nat) : (maskUp key num i).length = 32 * i := by
  induction i with
  | zero => rfl
  | succ i ih =>
    have h := maskPart_size key num i
    have h2 : (maskPart key num i).data.toList.length = (maskPart key num i).size := by simp
    rw [maskUp, List.length_append, ih, h2, h]
    omega
def maskP (key : ByteArray) (num n : Nat) : List UInt8 := (maskUp key num ((n + 31) / 32)).take n
theorem maskP_length (key : ByteArray) (num n : Nat) : (maskP key num n).length = n := by
  unfold maskP
  rw [List.length_take, maskUp_length]
  omega
def maskB (key : ByteArray) (num n : Nat) : ByteArray := ⟨(maskP key num n).toArray⟩
theorem maskB_size (key : ByteArray) (num n : Nat) : (maskB key num n).size = n := by
  show (maskP key num n).toArray.size = n
  rw [List.size_toArray, maskP_length]
/-- Two texts' exclusive or. -/
def xorP (a b : ByteArray) : ByteArray := ⟨(xorUp a.data.toList b.data.toList a.size).toArray⟩
theorem xorP_size (a b : ByteArray) : (xorP a b).size = a.size := by
  show (xorUp a.data.toList b.data.toList a.size).toArray.size = a.size
  rw [List.size_toArray, xorUp_length _ _ _ (by simp)]
  simp
/-- The mark of a locked text. -/
def tagP (key : ByteArray) (num : Nat) (x : ByteArray) : ByteArray := (macP key (aheadP 116 num ++ x)).extract 0 16
theorem tagP_size (key : ByteArray) (num : Nat) (x : ByteArray) : (tagP key num x).size = 16 := by
  unfold tagP
  rw [ByteArray.size_extract, macP_size]
  omega
def lockX (key : ByteArray) (num : Nat) (s : ByteArray) : ByteArray := xorP s (maskB key num s.size)
def lockP (key : ByteArray) (num : Nat) (s : ByteArray) : ByteArray := lockX key num s ++ tagP key num (lockX key num s)
theorem lockX_size (key : ByteArray) (num : Nat) (s : ByteArray) : (lockX key num s).size = s.size := xorP_size _ _
end Go.Proofs.YtoaifgblbfdncaaGreatDoor
namespace Go.Proofs.YtoaifgblbfdncaaGreatDoor
open Go.RowKit

theorem xor_bytes (x y : UInt8) : bits .xor .u8 (x.toNat : Int) (y.toNat : Int) = ((x ^^^ y).toNat : Int) := by
  have e : ∀ x y : Fin 256, bits .xor .u8 (x.val : Int) (y.val : Int) = ((x.val ^^^ y.val : Nat) : Int) := by
    intro x y
    unfold bits
    simp only
    rw [BitVec.toNat_xor]
    have ex : ∀ z : Fin 256, (BitVec.ofInt IntKind.u8.bits (z.val : Int)).toNat = z.val := fun z => by
      rw [BitVec.toNat_ofInt]
      show ((z.val : Int) % ((2 ^ 8 : Nat) : Int)).toNat = z.val
      have := z.isLt
      omega
    rw [ex x, ex y, IntKind.wrap_u8]
    have : x.val ^^^ y.val < 256 := Nat.xor_lt_two_pow (n := 8) x.isLt y.isLt
    omega
  have := e ⟨x.toNat, x.toNat_lt⟩ ⟨y.toNat, y.toNat_lt⟩
  rw [this]
  simp
theorem text_byte (t : ByteArray) (n : Nat) (h : n < t.size) : t[n]'h = t.data.toList.getD n 0 := by
  rw [List.getD_eq_getElem?_getD, List.getElem?_eq_getElem (by simpa using h)]
  rfl
end Go.Proofs.YtoaifgblbfdncaaGreatDoor

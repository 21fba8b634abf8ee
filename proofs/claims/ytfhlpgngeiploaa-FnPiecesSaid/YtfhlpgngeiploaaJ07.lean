/-
  Blocks of bytes as lists of cells.
  The program's pieceText.
  The program's isPieceId.
-/
import Derived.Test.YtfhlpgngeiploaaJ06
import Derived.Test.YtfhlpgngeiploaaJ05
import Derived.Deep.OwnRows
import Derived.Test.YtfhlpgngeiploaaJ01
import Derived.Test.YtfhlpgngeiploaaRows
import Derived.Deep.DeepCutAuto
namespace Go.Proofs.Ytfhlpgngeiploaa
open Go.RowKit

theorem infoU8 : (Try.prog.info? 5).map (fun i => (i.zero, i.size, i.bytes)) = some (some (.int .u8 0), 1, 1) := by kernel_rfl
theorem u8_size : (Try.prog.info? 5).map (·.size) = some 1 := by kernel_rfl
/-- The cells of some bytes. -/
def u8C (l : List UInt8) : List Value := l.map fun x => .int .u8 (x.toNat : Int)
theorem u8C_one (l : List UInt8) : ∀ v ∈ u8C l, v.oneCell' = true := fun v hv => by
  obtain ⟨x, _, rfl⟩ := List.mem_map.1 hv
  rfl
theorem u8C_len (l : List UInt8) : (u8C l).length = l.length := by unfold u8C; simp
/-- A block of bytes handed back as a text. -/
theorem block_back (X : World) (g : Nat) (l : List UInt8) (t : TypeId) (h : X.heap[g]? = some (.cells (u8C l).toArray t (0, 0))) (n cap : Nat) (hn : l.length = n) : (convert 22 9 (.slice (some ⟨g, 0, none⟩) n cap)).run Try.prog X = .ok (.string ⟨l.toArray⟩) X := by
  subst hn
  refine run_convert_bytes_back (P := Try.prog) X 22 9 5 ⟨g, 0, none⟩ cap l Try.underlying22 Try.underlying5 Try.underlying9 (fun j hj => ?_)
  have e : (⟨g, 0, none⟩ : Addr).add j = ⟨g, j, none⟩ := by unfold Addr.add; split <;> simp_all
  rw [e, cell_of_row X g j _ t (0, 0) h]
  simp [u8C, hj]
theorem u8_of (m : Nat) (h : m < 256) : (Value.int .u8 (m : Int)) = .int .u8 ((UInt8.ofNat m).toNat : Int) := by
  rw [UInt8.toNat_ofNat', Nat.mod_eq_of_lt h]

end Go.Proofs.Ytfhlpgngeiploaa
namespace Go.Proofs.Ytfhlpgngeiploaa
open Go.RowKit

set_option maxRecDepth 100000 in
set_option maxHeartbeats 3200000 in
theorem pieceText_any (m i c : Nat) (hm : m < 256) (hi : i < 256) (hc : c < 256) (B off cap : Nat) (bs : List UInt8) (z : Nat) (hz : bs.length = z) (hz2 : z ≤ 1000) (w : World) (hB : B < w.heap.size) (hcl : ∀ j v, (u8C bs)[j]? = some v → w.cell? ⟨B, off + j, none⟩ = some v) :
    Calls Try.prog 28 #[.int .i64 m, .int .i64 i, .int .i64 c, .slice (some ⟨B, off, none⟩) z cap] w fun e w' => e = .returned (.string ⟨([UInt8.ofNat m, UInt8.ofNat i, UInt8.ofNat c] ++ bs).toArray⟩) ∧ Below w.heap.size w w' := by
  obtain ⟨i0, hi0, hz0, hs0, hb0⟩ := info_of infoU8
  have wm : IntKind.u8.wrap (m : Int) = (m : Int) := by rw [IntKind.wrap_u8]; omega
  have wi : IntKind.u8.wrap (i : Int) = (i : Int) := by rw [IntKind.wrap_u8]; omega
  have wc : IntKind.u8.wrap (c : Int) = (c : Int) := by rw [IntKind.wrap_u8]; omega
  obtain ⟨n, HN⟩ : ∃ n : Nat, Hid (n = 3 + z) := ⟨_, Lib.hid rfl⟩
  obtain ⟨cur, hcur⟩ : ∃ cur : List Value, (madeCells #[Value.int .u8 0] n) = cur.toArray := ⟨(madeCells #[Value.int .u8 0] n).toList, by simp⟩
  have hcl0 : cur.length = n := by
    have h9 : (madeCells #[Value.int .u8 0] n).size = n := by simp [madeCells]
    rw [hcur] at h9
    simpa using h9
  have hle : Hid (Value.int .i64 (3 + (z : Int)) = .int .i64 (n : Int)) := Lib.hid (int_eq (by have := HN.out; omega))
  go_enter Try.func28, Try.ntmps28
  go_upto_region 2 with (at_make; refine wpList_make_row _ rfl _ _ 22 rfl 5 i0 (.int .u8 0) Try.underlying22 hi0 hz0 hs0 rfl .i64 .i64 n hle.out hle.out (by rw [hb0]; have := HN.out; omega) (by have := HN.out; omega) ?_)
  have A1 := Lib.hid (VarA.new w 5 cur.toArray)
  have B1 := Lib.hid ((Below.refl w.heap.size w).alloc (Nat.le_refl _) (.cells cur.toArray 5))
  generalize w.alloc (.cells cur.toArray 5) = W1 at *
  clear hcur
  have hs1 : w.heap.size < W1.heap.size := A1.out.lt
  have hal : Below W1.heap.size W1 (W1.alloc (.cells #[.int .u8 (m : Int), .int .u8 (i : Int), .int .u8 (c : Int)] 5)) := (Below.refl _ _).alloc (Nat.le_refl _) _
  have A2 := A1.out.next hal
  obtain ⟨c1, hc1⟩ : ∃ c1, c1 = splice cur 0 [.int .u8 (m : Int), .int .u8 (i : Int), .int .u8 (c : Int)] := ⟨_, rfl⟩
  have hrun1 := run_copyK (P := Try.prog) (W1.alloc (.cells #[.int .u8 (m : Int), .int .u8 (i : Int), .int .u8 (c : Int)] 5)) 22 22 3 5 w.heap.size 0 n n ⟨W1.heap.size, 0, none⟩ 3 3 cur 5 [.int .u8 (m : Int), .int .u8 (i : Int), .int .u8 (c : Int)] 3 1 Try.underlying22 u8_size A2.row (by have := HN.out; simp only [Nat.min_def]; split <;> omega) rfl
    (fun j v hj => lit_cells_at W1 #[.int .u8 (m : Int), .int .u8 (i : Int), .int .u8 (c : Int)] 5 j v hj) (by have := HN.out; rw [hcl0]; simp; omega) (by simp [Value.oneCell'])
  rw [← hc1] at hrun1
  have A3 : Hid (VarA w.heap.size 5 c1.toArray ((W1.alloc (.cells #[.int .u8 (m : Int), .int .u8 (i : Int), .int .u8 (c : Int)] 5)).setRow w.heap.size c1.toArray)) := Lib.hid ⟨setRow_heap _ w.heap.size _ _ 5 _ A2.row⟩
  have B3 := Lib.hid (below_setRow (B1.out.trans (hal.mono (by omega))) (Nat.le_refl w.heap.size) c1.toArray)
  have HC1 := Lib.hid hc1
  clear hal A2 hc1
  go_upto_region 3 with (at_builtin; refine wpList_copyK (W1.alloc (.cells #[.int .u8 (m : Int), .int .u8 (i : Int), .int .u8 (c : Int)] 5)) rfl _ _ _ _ rfl _ _ rfl rfl hrun1 ?_)
  clear hrun1
  generalize ((W1.alloc (.cells #[.int .u8 (m : Int), .int .u8 (i : Int), .int .u8 (c : Int)] 5)).setRow w.heap.size c1.toArray) = W3 at *
  have hcl1 : c1.length = n := by
    rw [HC1.out, splice_len _ _ _ (by have := HN.out; rw [hcl0]; simp; omega)]
    exact hcl0
  obtain ⟨c2, hc2⟩ : ∃ c2, c2 = splice c1 3 (u8C bs) := ⟨_, rfl⟩
  have hrun2 := run_copyK (P := Try.prog) W3 22 22 3 5 w.heap.size 3 (n - 3) (n - 3) ⟨B, off, none⟩ z cap c1 5 (u8C bs) z 1 Try.underlying22 u8_size A3.out.row (by have := HN.out; simp only [Nat.min_def]; split <;> omega) (by rw [u8C_len]; omega)
    (fun j v hj => by
      have e : (⟨B, off, none⟩ : Addr).add j = ⟨B, off + j, none⟩ := by unfold Addr.add; split <;> simp_all
      rw [e]
      exact (B3.out.cell (p := ⟨B, off + j, none⟩) hB).trans (hcl j v hj)) (by have := HN.out; rw [hcl1, u8C_len]; omega) (u8C_one bs)
  rw [← hc2] at hrun2
  have hrun3 : n = 3 → (Builtin.copy_ #[22, 22] 3 #[.slice (some ⟨w.heap.size, 0, none⟩) 0 0, .slice (some ⟨B, off, none⟩) z cap]).run Try.prog W3 = .ok (goInt 0) (W3.setRow w.heap.size c2.toArray) := fun h3 => by
    have hz0 : z = 0 := by have := HN.out; omega
    have hb0 : bs = [] := List.length_eq_zero_iff.1 (by omega)
    have e : c2 = splice c1 0 [] := by
      rw [hc2, hb0]
      unfold splice u8C
      simp
    have hr := run_copyK (P := Try.prog) W3 22 22 3 5 w.heap.size 0 0 0 ⟨B, off, none⟩ z cap c1 5 [] 0 1 Try.underlying22 u8_size A3.out.row (by rw [hz0]; rfl) rfl (fun j v hj => by simp at hj) (by simp) (by simp)
    rw [← e] at hr
    exact hr
  have HR3 := Lib.hid hrun3
  clear hrun3
  have hfin : c2 = u8C ([UInt8.ofNat m, UInt8.ofNat i, UInt8.ofNat c] ++ bs) := by
    have e0 : c1 = u8C [UInt8.ofNat m, UInt8.ofNat i, UInt8.ofNat c] ++ cur.drop 3 := by
      rw [HC1.out, u8_of m hm, u8_of i hi, u8_of c hc]
      rfl
    have e1 : (c1.drop (3 + (u8C bs).length)) = [] := List.drop_eq_nil_of_le (by rw [hcl1, u8C_len, HN.out]; omega)
    rw [hc2]
    unfold splice
    rw [e1, e0, List.append_nil]
    show (u8C [UInt8.ofNat m, UInt8.ofNat i, UInt8.ofNat c] ++ cur.drop 3).take 3 ++ u8C bs = _
    rw [List.take_left' (by rfl)]
    unfold u8C
    rw [List.map_append]
  have A4 : VarA w.heap.size 5 c2.toArray (W3.setRow w.heap.size c2.toArray) := ⟨setRow_heap _ w.heap.size _ _ 5 _ A3.out.row⟩
  have B4 := Lib.hid (below_setRow B3.out (Nat.le_refl w.heap.size) c2.toArray)
  have z3 : (3 : Int) ≤ (n : Int) := by have := HN.out; omega
  have hrow := A4.row
  rw [hfin] at hrow
  have hcv := block_back (W3.setRow w.heap.size c2.toArray) w.heap.size _ 5 (by rw [hfin]; exact hrow) n n (by rw [List.length_append, hz, HN.out]; rfl)
  have E : Hid ((Ending.returned (.string ⟨([UInt8.ofNat m, UInt8.ofNat i, UInt8.ofNat c] ++ bs).toArray⟩) = .returned (.string ⟨([UInt8.ofNat m, UInt8.ofNat i, UInt8.ofNat c] ++ bs).toArray⟩)) ∧ Below w.heap.size w (W3.setRow w.heap.size c2.toArray)) := Lib.hid ⟨rfl, B4.out⟩
  clear hrow A4 B4 hc2 hfin B1 A1 A3 B3 HC1
  by_cases h3 : n = 3
  · have hr := HR3.out h3
    clear hrun2 HR3
    subst h3
    go_upto_region 4 with (at_builtin; refine wpList_copyK W3 rfl _ _ _ _ rfl _ _ rfl rfl hr ?_)
    clear hr
    generalize (W3.setRow w.heap.size c2.toArray) = W4 at *
    go_wp2_with fail
    go_ret
    exact ⟨rfl, E.out.2⟩
  · clear HR3
    go_upto_region 4 with (at_builtin; refine wpList_copyK W3 rfl _ _ _ _ rfl _ _ rfl rfl hrun2 ?_)
    clear hrun2
    generalize (W3.setRow w.heap.size c2.toArray) = W4 at *
    go_wp2_with fail
    go_ret
    exact ⟨rfl, E.out.2⟩

end Go.Proofs.Ytfhlpgngeiploaa
namespace Go.Proofs.Ytfhlpgngeiploaa
open Go.RowKit

theorem isPieceId_any (x : Int) (b : Bool) (hb : b = true ↔ (0 ≤ x ∧ x ≤ 255)) (w : World) : Calls Try.prog 26 #[.int .i64 x] w fun e w' => e = .returned (.bool b) ∧ w' = w := by
  by_cases h0 : 0 ≤ x
  · have d0 : decide ((0 : Int) ≤ x) = true := decide_eq_true h0
    by_cases h1 : x ≤ 255
    · have d1 : decide (x ≤ 255) = true := decide_eq_true h1
      obtain rfl : b = true := hb.2 ⟨h0, h1⟩
      clear hb
      go_enter Try.func26, Try.ntmps26
      go_wp2_with fail
      go_ret
      exact ⟨rfl, rfl⟩
    · have d1 : decide (x ≤ 255) = false := decide_eq_false h1
      obtain rfl : b = false := Bool.eq_false_iff.2 (fun e => h1 (hb.1 e).2)
      clear hb
      go_enter Try.func26, Try.ntmps26
      go_wp2_with fail
      go_ret
      exact ⟨rfl, rfl⟩
  · have d0 : decide ((0 : Int) ≤ x) = false := decide_eq_false h0
    obtain rfl : b = false := Bool.eq_false_iff.2 (fun e => h0 (hb.1 e).1)
    clear hb
    go_enter Try.func26, Try.ntmps26
    go_wp2_with fail
    go_ret
    exact ⟨rfl, rfl⟩

end Go.Proofs.Ytfhlpgngeiploaa

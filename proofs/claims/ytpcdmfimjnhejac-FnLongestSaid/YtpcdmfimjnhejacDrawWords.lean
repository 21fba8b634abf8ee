/-
  Words that may be an address or a prefix, drawn; some addresses and a prefix, drawn.
-/
import Derived.Test.YtpcdmfimjnhejacDrawPrefix
import Derived.Test.YtpcdmfimjnhejacDrawPlaces
namespace Go.Proofs.Ytpcdmfimjnhejac
open Go.RowKit

def addrWords : List ByteArray := [⟨#[]⟩, ⟨#[49, 46, 50, 46, 51]⟩, ⟨#[49, 46, 50, 46, 51, 46, 52, 46, 53]⟩, ⟨#[49, 46, 50, 46, 51, 46, 50, 53, 54]⟩, ⟨#[49, 46, 50, 46, 46, 51]⟩, ⟨#[48, 49, 46, 50, 46, 51, 46, 52]⟩, ⟨#[97, 46, 98, 46, 99, 46, 100]⟩, ⟨#[48, 46, 48, 46, 48, 46, 48]⟩]
theorem addrWords_few (t : ByteArray) (h : t ∈ addrWords) : t.size ≤ 1001 := by
  simp only [addrWords, List.mem_cons, List.not_mem_nil, or_false] at h
  rcases h with rfl | rfl | rfl | rfl | rfl | rfl | rfl | rfl <;> decide
def prefWords : List ByteArray := [⟨#[]⟩, ⟨#[49, 46, 50, 46, 51, 46, 52]⟩, ⟨#[49, 46, 50, 46, 51, 46, 52, 47, 51, 51]⟩, ⟨#[49, 46, 50, 46, 51, 46, 52, 47, 56]⟩, ⟨#[48, 46, 48, 46, 48, 46, 48, 47, 48]⟩, ⟨#[49, 46, 50, 46, 51, 46, 52, 47, 51, 50, 47]⟩, ⟨#[49, 46, 50, 46, 51, 46, 52, 47, 48, 51, 50]⟩]
theorem prefWords_few (t : ByteArray) (h : t ∈ prefWords) : t.size ≤ 1001 := by
  simp only [prefWords, List.mem_cons, List.not_mem_nil, or_false] at h
  rcases h with rfl | rfl | rfl | rfl | rfl | rfl | rfl <;> decide

/-- How a draw of addresses and a prefix ends. -/
def DrewAddrs (w : World) (e : Ending) (w' : World) : Prop :=
  ∃ (g cap : Nat) (zs : List Int) (x n : Nat), zs.length = 6 ∧ (∀ z ∈ zs, 167772160 ≤ z ∧ z ≤ 167773183) ∧ PrefOk x n ∧ e = .returned (.tuple #[.slice (some ⟨g, 0, none⟩) 6 cap, .agg #[.int .i64 x, .int .i64 n]]) ∧ g < w'.heap.size ∧ (∀ j, j < 6 → w'.cell? ⟨g, j, none⟩ = some (.int .i64 (zs.getD j 0))) ∧ Below w.heap.size w w'

set_option maxRecDepth 100000 in
set_option maxHeartbeats 1600000 in
theorem drawAddrs_any (a : Option Addr) (len cap : Nat) (w : World) (H : Src a len w) :
    Calls Try.prog 7 #[.slice a len cap] w (DrewAddrs w) := by
  obtain ⟨i0, hi, hz0, hz1, hz2⟩ := info_parts infoIntP
  have P0 := Lib.hid (PV.new w PT (.int .i64 0) (.int .i64 0))
  have HS := Lib.hid (H.below ((Below.refl w.heap.size w).alloc (Nat.le_refl _) (.cells #[.int .i64 0, .int .i64 0] PT)))
  clear H
  go_enter Try.func7, Try.ntmps7
  go_wp2_with fail
  refine (new_any a len cap _ HS.out).mono ?_
  rintro e w2 ⟨c, rfl, hc, hcur, hb⟩
  have HC2 := Lib.hid hcur
  have P2 := Lib.hid (P0.out.next hb)
  have hcw : w.heap.size < c := by simp at hc; omega
  have hcs : c < w2.heap.size := cell_size (p := ⟨c, 0, none⟩) hcur.c0
  clear hcur hb
  go_wp2
  go_loopw [5, 6] (fun v i wr => ∃ (k : Nat) (zs : List Int), k ≤ 6 ∧ zs.length = k ∧ (∀ z ∈ zs, 167772160 ≤ z ∧ z ≤ 167773183) ∧ i = .int .i64 k ∧ OwnI wr w2.heap.size 3 v zs ∧ Cur c a len cap wr ∧ Only c w2 wr) (fun _ i _ => 6 - (intOf i).toNat)
  case atStart =>
    have hb := (Below.refl w2.heap.size w2).alloc (Nat.le_refl _) (.cells #[] 3)
    exact ⟨0, [], Nat.zero_le _, rfl, fun z hz => (by cases hz), rfl, OwnI.lit _ _ _ (Nat.le_refl _), HC2.out.below hb, .of_below hb⟩
  case round =>
    obtain ⟨k, zs, hk, hl, hzs, rfl, hown, hc1, ho⟩ := hrel
    have HC1 := Lib.hid hc1
    have HO1 := Lib.hid ho
    have HW := Lib.hid hown
    have HL := Lib.hid hl
    have HZ := Lib.hid hzs
    clear hc1 ho hown hl hzs HC2
    by_cases hlt : (k : Int) < 6
    · go_wp2_with fail
      refine (below_any 1024 (by omega) (by omega) _ HC1.out).mono ?_
      rintro e w3 ⟨y, y0, y1, rfl, hc2, ho2⟩
      have HC2 := Lib.hid hc2
      have HO2 := Lib.hid ho2
      have hw2 := HW.out.only ho2 hcs
      have hsz := Nat.le_trans HO1.out.size ho2.size
      have hl2 := HL.out
      clear hc2 ho2
      go_wp2_with (at_builtin; refine wpList_pushI _ rfl _ _ 27 rfl w2.heap.size 3 i0 Try.underlying27 hi hz0 hz1 hz2 _ _ rfl hw2 _ rfl (by omega) hsz ?_)
      intro v' w4 hown2 hnx2
      go_wp2
      go_roundw
      case rel =>
        refine ⟨k + 1, zs ++ [167772160 + y], by omega, by simp [hl2], fun z hz => ?_, by go_num, hown2, HC2.out.kept hnx2 hcs, (HO1.out.trans HO2.out).behind hnx2⟩
        rcases List.mem_append.1 hz with h | h
        · exact HZ.out z h
        · simp at h; subst h; omega
      case measure => simp [intOf]; omega
    · have hk6 : k = 6 := by omega
      obtain ⟨g, cp, rfl, hg, hcell⟩ := HW.out.form (by have := HL.out; omega)
      have hg2 : w2.heap.size ≤ g := by
        rcases HW.out.2 with ⟨h, _⟩ | ⟨g', _, _, h, hb', _⟩
        · cases h
        · simp at h
          rw [h.1]
          exact hb'
      have HG := Lib.hid hcell
      clear hcell
      go_wp2_with fail
      refine (prefix_any _ HC1.out).mono ?_
      rintro e w5 ⟨x, n, hok, rfl, hc5, ho5⟩
      have O5 := Lib.hid (HO1.out.trans ho5)
      have r5 := P2.out.v.only O5.out (show w.heap.size ≠ c by omega)
      have B5 := Lib.hid (P2.out.below.trans (O5.out.below (B := w.heap.size) (by omega) P2.out.below.size))
      have v0 := r5.c0
      have v1 := r5.c1
      have b0 := r5.free 0
      have b1 := r5.free 1
      have P9 := Lib.hid ((PV.mk r5 B5.out).set2 (.int .i64 x) (.int .i64 n))
      have hgw : g < w5.heap.size := Nat.lt_of_lt_of_le hg ho5.size
      have hgc : Hid (∀ j, j < 6 → ((w5.setCell ⟨w.heap.size, 0, none⟩ (.int .i64 x)).setCell ⟨w.heap.size, 1, none⟩ (.int .i64 n)).cell? ⟨g, j, none⟩ = some (.int .i64 (zs.getD j 0))) := fun j hj => by
        have hw2 : w.heap.size < w2.heap.size := lt_of_block P2.out.v.row
        rw [World.cell?_setCell_far _ _ _ _ (by show w.heap.size ≠ g; omega), World.cell?_setCell_far _ _ _ _ (by show w.heap.size ≠ g; omega), ho5.cell (p := ⟨g, j, none⟩) hg (by show g ≠ c; omega)]
        exact HG.out j (by rw [HL.out]; omega)
      have HOK := Lib.hid hok
      clear hc5 ho5 hok r5
      go_wp2_with fail
      have j0 := P9.out.v.c0
      have j1 := P9.out.v.c1
      have hlz : zs.length = 6 := by rw [HL.out, hk6]
      exact bodyPost_ret (v := .tuple #[.slice (some ⟨g, 0, none⟩) 6 cp, .agg #[.int .i64 x, .int .i64 n]]) (by simp [results, Try.results7, go_sem, j0, j1, hlz]) rfl ⟨g, cp, zs, x, n, hlz, HZ.out, HOK.out, rfl, by simpa using hgw, hgc.out, P9.out.below⟩

end Go.Proofs.Ytpcdmfimjnhejac

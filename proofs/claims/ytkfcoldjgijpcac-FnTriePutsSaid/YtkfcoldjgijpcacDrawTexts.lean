/-
  Prefixes that are drawn, right or not; words that may be an address or a prefix.
  A drawn text for sums, and twelve drawn places.
  Words that may be an address or a prefix, drawn; some addresses and a prefix, drawn.
-/
import Derived.Test.YtkfcoldjgijpcacDrawAddr
import Derived.Deep.LoopGhost
import Derived.Deep.DeepCutAuto
import Derived.Test.YtkfcoldjgijpcacDrawAll
namespace Go.Proofs.Ytkfcoldjgijpcac
open Go.RowKit

def addrSteps : List Int := [1, -1, 4294967296]
theorem addrSteps_few (x : Int) (h : x ∈ addrSteps) : -1 ≤ x ∧ x ≤ 4294967296 := by
  simp only [addrSteps, List.mem_cons, List.not_mem_nil, or_false] at h
  omega
def lenOdd : List Int := [-1, 0, 32, 33]
theorem SD.drew {c : Nat} {a : Option Addr} {len cap : Nat} {w : World} {t : TypeId} {q : Nat} {x y : Value} {X : World} (h : SD c a len cap w t q x y X) : SD c a len cap w t q x y X.drew := h.next ((Below.refl _ X).drew)

end Go.Proofs.Ytkfcoldjgijpcac
namespace Go.Proofs.Ytkfcoldjgijpcac
open Go.RowKit

theorem infoIntP : (Try.prog.info? 3).map (fun i => (i.zero, i.size, i.bytes)) = some (some (.int .i64 0), 1, 8) := by kernel_rfl

/-- The slice value v is nil or the call's own (from block 'base' on), and holds these numbers. -/
def OwnI (w : World) (base : Nat) (e : TypeId) (v : Value) (zs : List Int) : Prop := w.ownsRow base e 1 v zs.length (zs.map (Value.int .i64))

theorem OwnI.lit (w : World) (base : Nat) (e : TypeId) (hb : base ≤ w.heap.size) : OwnI (w.alloc (.cells #[] e)) base e (.slice (some ⟨w.heap.size, 0, none⟩) 0 0) [] :=
  World.ownsRow_lit w #[] 0 hb (by decide) rfl

theorem OwnI.only {c : Nat} {w w' : World} {base : Nat} {e : TypeId} {v : Value} {xs : List Int} (h : OwnI w base e v xs) (ho : Only c w w') (hc : c < base) : OwnI w' base e v xs := by
  have h' : w.ownsRow base e 1 v xs.length (xs.map (Value.int .i64)) := h
  refine ⟨h'.1, ?_⟩
  rcases h'.2 with hn | ⟨g, cap, cur, hv, hb, hg, rest⟩
  · exact .inl hn
  · have hl : g < w.heap.size := by
      rcases Nat.lt_or_ge g w.heap.size with h2 | h2
      · exact h2
      · simp [Array.getElem?_eq_none h2] at hg
    exact .inr ⟨g, cap, cur, hv, hb, by rw [ho.block g hl (by omega)]; exact hg, rest⟩

theorem OwnI.form {w : World} {base : Nat} {e : TypeId} {v : Value} {xs : List Int} (h : OwnI w base e v xs) (h0 : 0 < xs.length) : ∃ g cap, v = .slice (some ⟨g, 0, none⟩) xs.length cap ∧ g < w.heap.size ∧
    ∀ j, j < xs.length → w.cell? ⟨g, j, none⟩ = some (.int .i64 (xs.getD j 0)) := by
  have h' : w.ownsRow base e 1 v xs.length (xs.map (Value.int .i64)) := h
  rcases h'.2 with ⟨rfl, hz⟩ | ⟨g, cap, cur, rfl, hb, hh, _, _, _, _⟩
  · omega
  · refine ⟨g, cap, rfl, lt_of_block hh, fun j hj => ?_⟩
    rw [h'.cellAt j (by omega)]
    simp [hj]

theorem push_cellsI (w : World) (e : TypeId) (z : Int) :
    ∀ j u, [Value.int .i64 z][j]? = some u → (w.alloc (.cells #[.int .i64 z] e)).cell? ((⟨w.heap.size, 0, none⟩ : Addr).add j) = some u := by
  intro j u hj
  match j, hj with
  | 0, hj => simp at hj; subst hj; simp [Addr.add]

/-- 'out = append(out, x)': out a row of numbers of the call's own. -/
theorem wpList_pushI {P : Program} (w : World) {ops : Array Oper} {rest : List Oper} {o : Oper} {a : Act} {Q : Exit → Act → World → Prop} (hgd : o.guard = none) (s x : Operand) (t : TypeId)
    (ho : o.op = .call { callee := .builtin .append, args := #[s, x], argTypes := #[t, t] })
    (base : Nat) (e : TypeId) (i : TypeInfo) (ht : P.underlying t = some (.slice e)) (hi : P.info? e = some i) (hz : i.zero = some (.int .i64 0))
    (hsize : i.size = 1) (hby : i.bytes = 8) (v : Value) (xs : List Int) (hs : a.eval s = v) (hown : OwnI w base e v xs)
    (z : Int) (hx : a.eval x = .slice (some ⟨w.heap.size, 0, none⟩) 1 1)
    (hlen : xs.length + 1 ≤ 1000000000) (hbase : base ≤ w.heap.size)
    (h : ∀ v' w', OwnI w' base e v' (xs ++ [z]) → Below base w w' → wpList P ops Q rest (a.put o.dst v') w') :
    wpList P ops Q (o :: rest) a (w.alloc (.cells #[.int .i64 z] e)) := by
  refine wpList_append_own (w.alloc (.cells #[.int .i64 z] e)) hgd s x t ho base e i (.int .i64 0) 1 8 ht hi hz hsize hby rfl (by decide) v xs.length (xs.map (Value.int .i64)) hs (World.ownsRow.alloc hown _) ⟨w.heap.size, 0, none⟩ 1 1 [.int .i64 z] hx rfl (push_cellsI w e z) (by intro u hu; simp at hu; subst hu; rfl) (by unfold maxLen; omega) (by omega) (by simp; omega) ?_
  intro v' w' h1 h2 _
  refine h v' w' ?_ ?_
  · unfold OwnI
    rw [List.length_append, List.map_append]
    exact h1
  · exact ((Below.refl base w).alloc hbase _).grown h2 (by simp; omega) (fun k hk => (World.ownsRow.lt hown k hk).1)

/-- How a draw of places ends. -/
def DrewPlaces (w : World) (e : Ending) (w' : World) : Prop :=
  ∃ (g cap : Nat) (zs : List Int), zs.length = 12 ∧ (∀ z ∈ zs, 0 ≤ z ∧ z ≤ 9999) ∧ e = .returned (.slice (some ⟨g, 0, none⟩) 12 cap) ∧ g < w'.heap.size ∧ (∀ j, j < 12 → w'.cell? ⟨g, j, none⟩ = some (.int .i64 (zs.getD j 0))) ∧ Below w.heap.size w w'

end Go.Proofs.Ytkfcoldjgijpcac
namespace Go.Proofs.Ytkfcoldjgijpcac
open Go.RowKit

def addrWords : List ByteArray := [⟨#[]⟩, ⟨#[49, 46, 50, 46, 51]⟩, ⟨#[49, 46, 50, 46, 51, 46, 52, 46, 53]⟩, ⟨#[49, 46, 50, 46, 51, 46, 50, 53, 54]⟩, ⟨#[49, 46, 50, 46, 46, 51]⟩, ⟨#[48, 49, 46, 50, 46, 51, 46, 52]⟩, ⟨#[97, 46, 98, 46, 99, 46, 100]⟩, ⟨#[48, 46, 48, 46, 48, 46, 48]⟩]
theorem addrWords_few (t : ByteArray) (h : t ∈ addrWords) : t.size ≤ 1001 := by
  simp only [addrWords, List.mem_cons, List.not_mem_nil, or_false] at h
  rcases h with rfl | rfl | rfl | rfl | rfl | rfl | rfl | rfl <;> decide
def prefWords : List ByteArray := [⟨#[]⟩, ⟨#[49, 46, 50, 46, 51, 46, 52]⟩, ⟨#[49, 46, 50, 46, 51, 46, 52, 47, 51, 51]⟩, ⟨#[49, 46, 50, 46, 51, 46, 52, 47, 56]⟩, ⟨#[48, 46, 48, 46, 48, 46, 48, 47, 48]⟩, ⟨#[49, 46, 50, 46, 51, 46, 52, 47, 51, 50, 47]⟩, ⟨#[49, 46, 50, 46, 51, 46, 52, 47, 48, 51, 50]⟩]
theorem prefWords_few (t : ByteArray) (h : t ∈ prefWords) : t.size ≤ 1001 := by
  simp only [prefWords, List.mem_cons, List.not_mem_nil, or_false] at h
  rcases h with rfl | rfl | rfl | rfl | rfl | rfl | rfl <;> decide

/-- How a draw of addresses and a prefix ends. -/
def DrewAddrs (w : World) (e : Ending) (w' : World) : Prop :=
  ∃ (g cap : Nat) (zs : List Int) (x n : Nat), zs.length = 6 ∧ (∀ z ∈ zs, 167772160 ≤ z ∧ z ≤ 167773183) ∧ PrefOk x n ∧ e = .returned (.tuple #[.slice (some ⟨g, 0, none⟩) 6 cap, .agg #[.int .i64 x, .int .i64 n]]) ∧ g < w'.heap.size ∧ (∀ j, j < 6 → w'.cell? ⟨g, j, none⟩ = some (.int .i64 (zs.getD j 0))) ∧ Below w.heap.size w w'

/-- The same, the row being the call's own. -/
def DrewOwn (w : World) (e : Ending) (w' : World) : Prop :=
  ∃ (g cap : Nat) (zs : List Int) (x n : Nat), zs.length = 6 ∧ (∀ z ∈ zs, 167772160 ≤ z ∧ z ≤ 167773183) ∧ PrefOk x n ∧ e = .returned (.tuple #[.slice (some ⟨g, 0, none⟩) 6 cap, .agg #[.int .i64 x, .int .i64 n]]) ∧ OwnI w' w.heap.size 3 (.slice (some ⟨g, 0, none⟩) 6 cap) zs ∧ Below w.heap.size w w'
theorem OwnI.lower {w : World} {base base' : Nat} {e : TypeId} {v : Value} {xs : List Int} (h : OwnI w base e v xs) (hb : base' ≤ base) : OwnI w base' e v xs := by
  have h' : w.ownsRow base e 1 v xs.length (xs.map (Value.int .i64)) := h
  refine ⟨h'.1, ?_⟩
  rcases h'.2 with hn | ⟨g, cap, cur, hv, hg, rest⟩
  · exact .inl hn
  · exact .inr ⟨g, cap, cur, hv, Nat.le_trans hb hg, rest⟩

set_option maxRecDepth 100000 in
set_option maxHeartbeats 1600000 in
theorem drawAddrs_own (a : Option Addr) (len cap : Nat) (w : World) (H : Src a len w) :
    Calls Try.prog 9 #[.slice a len cap] w (DrewOwn w) := by
  obtain ⟨i0, hi, hz0, hz1, hz2⟩ := info_parts infoIntP
  have P0 := Lib.hid (PV.new w PT (.int .i64 0) (.int .i64 0))
  have HS := Lib.hid (H.below ((Below.refl w.heap.size w).alloc (Nat.le_refl _) (.cells #[.int .i64 0, .int .i64 0] PT)))
  clear H
  go_enter Try.func9, Try.ntmps9
  go_wp2_with fail
  refine (new_any a len cap _ HS.out).mono ?_
  rintro e w2 ⟨c, rfl, hc, hcur, hb⟩
  have HC2 := Lib.hid hcur
  have P2 := Lib.hid (P0.out.next hb)
  have hcw : w.heap.size < c := by simp at hc; omega
  have hcs : c < w2.heap.size := cell_size (p := ⟨c, 0, none⟩) hcur.c0
  clear hcur hb
  go_wp2
  go_loopw [5, 6] (fun v i wr => ∃ (k : Nat) (zs : List Int), k ≤ 6 ∧ zs.length = k ∧ (∀ z ∈ zs, 167772160 ≤ z ∧ z ≤ 167773183) ∧ i = .int .i64 k ∧ OwnI wr w2.heap.size 3 v zs ∧ Cur c a len cap wr ∧ Only c w2 wr) (fun _ i _ => 6 - (intOf i).toNat)
  case atStart =>
    have hb := (Below.refl w2.heap.size w2).alloc (Nat.le_refl _) (.cells #[] 3)
    exact ⟨0, [], Nat.zero_le _, rfl, fun z hz => (by cases hz), rfl, OwnI.lit _ _ _ (Nat.le_refl _), HC2.out.below hb, .of_below hb⟩
  case round =>
    obtain ⟨k, zs, hk, hl, hzs, rfl, hown, hc1, ho⟩ := hrel
    have HC1 := Lib.hid hc1
    have HO1 := Lib.hid ho
    have HW := Lib.hid hown
    have HL := Lib.hid hl
    have HZ := Lib.hid hzs
    clear hc1 ho hown hl hzs HC2
    by_cases hlt : (k : Int) < 6
    · go_wp2_with fail
      refine (below_any 1024 (by omega) (by omega) _ HC1.out).mono ?_
      rintro e w3 ⟨y, y0, y1, rfl, hc2, ho2⟩
      have HC2 := Lib.hid hc2
      have HO2 := Lib.hid ho2
      have hw2 := HW.out.only ho2 hcs
      have hsz := Nat.le_trans HO1.out.size ho2.size
      have hl2 := HL.out
      clear hc2 ho2
      go_wp2_with (at_builtin; refine wpList_pushI _ rfl _ _ 27 rfl w2.heap.size 3 i0 Try.underlying27 hi hz0 hz1 hz2 _ _ rfl hw2 _ rfl (by omega) hsz ?_)
      intro v' w4 hown2 hnx2
      go_wp2
      go_roundw
      case rel =>
        refine ⟨k + 1, zs ++ [167772160 + y], by omega, by simp [hl2], fun z hz => ?_, by go_num, hown2, HC2.out.kept hnx2 hcs, (HO1.out.trans HO2.out).behind hnx2⟩
        rcases List.mem_append.1 hz with h | h
        · exact HZ.out z h
        · simp at h; subst h; omega
      case measure => simp [intOf]; omega
    · have hk6 : k = 6 := by omega
      obtain ⟨g, cp, rfl, hg, hcell⟩ := HW.out.form (by have := HL.out; omega)
      clear hcell
      go_wp2_with fail
      refine (prefix_any _ HC1.out).mono ?_
      rintro e w5 ⟨x, n, hok, rfl, hc5, ho5⟩
      have O5 := Lib.hid (HO1.out.trans ho5)
      have r5 := P2.out.v.only O5.out (show w.heap.size ≠ c by omega)
      have B5 := Lib.hid (P2.out.below.trans (O5.out.below (B := w.heap.size) (by omega) P2.out.below.size))
      have v0 := r5.c0
      have v1 := r5.c1
      have b0 := r5.free 0
      have b1 := r5.free 1
      have P9 := Lib.hid ((PV.mk r5 B5.out).set2 (.int .i64 x) (.int .i64 n))
      have hw2 : w.heap.size < w2.heap.size := lt_of_block P2.out.v.row
      have hgc : Hid (OwnI ((w5.setCell ⟨w.heap.size, 0, none⟩ (.int .i64 x)).setCell ⟨w.heap.size, 1, none⟩ (.int .i64 n)) w.heap.size 3 (.slice (some ⟨g, 0, none⟩) zs.length cp) zs) := (((HW.out.only ho5 hcs).only (Only.setCell 0 (.int .i64 x)) hw2).only (Only.setCell 1 (.int .i64 n)) hw2).lower (Nat.le_of_lt hw2)
      have HOK := Lib.hid hok
      clear hc5 ho5 hok r5
      go_wp2_with fail
      have j0 := P9.out.v.c0
      have j1 := P9.out.v.c1
      have hlz : zs.length = 6 := by rw [HL.out, hk6]
      exact bodyPost_ret (v := .tuple #[.slice (some ⟨g, 0, none⟩) 6 cp, .agg #[.int .i64 x, .int .i64 n]]) (by simp [results, Try.results9, go_sem, j0, j1, hlz]) rfl ⟨g, cp, zs, x, n, hlz, HZ.out, HOK.out, rfl, by have := hgc.out; rw [hlz] at this; exact this, P9.out.below⟩

theorem drawAddrs_any (a : Option Addr) (len cap : Nat) (w : World) (H : Src a len w) :
    Calls Try.prog 9 #[.slice a len cap] w (DrewAddrs w) := by
  refine (drawAddrs_own a len cap w H).mono ?_
  rintro e w' ⟨g, cap, zs, x, n, hl, hz, hp, he, ho, hb⟩
  obtain ⟨g', cap', hv, hg, hc⟩ := ho.form (by omega)
  have hgg : g = g' := by
    injection hv with hv
    injection hv with hv
    injection hv
  subst hgg
  exact ⟨g, cap, zs, x, n, hl, hz, hp, he, hg, fun j hj => hc j (by omega), hb⟩

end Go.Proofs.Ytkfcoldjgijpcac

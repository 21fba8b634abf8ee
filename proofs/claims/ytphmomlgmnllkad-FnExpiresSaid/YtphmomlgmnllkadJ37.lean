/-
  Texts that are drawn: of drawn bytes; of one byte many times.
  A number that is drawn for chapter 1: any int; the two draws that the law on numbers takes.
  A pool that is being drawn: what lies where.
-/
import Derived.Test.YtphmomlgmnllkadJ36
import Derived.Deep.OwnRows
namespace Go.Proofs.Ytphmomlgmnllkad
open Go.RowKit

theorem infoByteD : (Try.prog.info? 5).map (fun i => (i.zero, i.size, i.bytes)) = some (some (.int .u8 0), 1, 1) := by kernel_rfl

theorem OwnB.only {c : Nat} {w w' : World} {base : Nat} {e : TypeId} {v : Value} {xs : List UInt8} (h : OwnB w base e v xs) (ho : Only c w w') (hc : c < base) : OwnB w' base e v xs := by
  have h' : w.ownsRow base e 1 v xs.length (Lib.byteCells xs) := h
  refine ⟨h'.1, ?_⟩
  rcases h'.2 with hn | ⟨g, cap, cur, hv, hb, hg, rest⟩
  · exact .inl hn
  · have hl : g < w.heap.size := by
      rcases Nat.lt_or_ge g w.heap.size with h2 | h2
      · exact h2
      · simp [Array.getElem?_eq_none h2] at hg
    exact .inr ⟨g, cap, cur, hv, hb, by rw [ho.block g hl (by omega)]; exact hg, rest⟩

/-- How a draw of a text ends. -/
def DrewText (n : Nat) (c : Nat) (a : Option Addr) (len cap : Nat) (w : World) (e : Ending) (w' : World) : Prop :=
  ∃ l : List UInt8, l.length = n ∧ e = .returned (.string ⟨l.toArray⟩) ∧ Cur c a len cap w' ∧ Only c w w'

theorem byte_num (x : Int) (h0 : 0 ≤ x) (h1 : x ≤ 255) : ∃ b : UInt8, x = (b.toNat : Int) := by
  refine ⟨UInt8.ofNat x.toNat, ?_⟩
  rw [UInt8.toNat_ofNat', Nat.mod_eq_of_lt (by omega)]
  omega

theorem set_getD (l : List UInt8) (k j : Nat) (b : UInt8) (hk : k < l.length) : (if j = k then Value.int .u8 (b.toNat : Nat) else .int .u8 ((l.getD j 0).toNat : Nat)) = .int .u8 (((l.set k b).getD j 0).toNat : Nat) := by
  by_cases h : j = k
  · subst h
    simp [hk]
  · rw [if_neg h]
    simp [Ne.symm h]
theorem row_at {w : World} {g n : Nat} {t : TypeId} {l : List UInt8} (h : w.rowIs g t n (fun j => .int .u8 ((l.getD j 0).toNat : Nat))) (hl : l.length = n) (j : Nat) (hj : j < l.length) : w.cell? ((⟨g, 0, none⟩ : Addr).add j) = some (.int .u8 (l[j].toNat : Nat)) := by
  have := h.cell (i := j) (by omega)
  have e : (⟨g, 0, none⟩ : Addr).add j = ⟨g, j, none⟩ := by unfold Addr.add; split <;> simp_all
  rw [e]
  simpa [hj] using this

end Go.Proofs.Ytphmomlgmnllkad
namespace Go.Proofs.Ytphmomlgmnllkad
open Go.RowKit

set_option maxRecDepth 100000 in
set_option maxHeartbeats 800000 in
theorem pickInt_any {c : Nat} {a : Option Addr} {len cap : Nat} (g n : Nat) (zs : List Int) (hz : zs.length = n) (h0 : 0 < n) (h1 : n ≤ 1000) (hg : c ≠ g) (w : World) (H : Cur c a len cap w) (hc : ∀ j, j < n → w.cell? ⟨g, j, none⟩ = some (.int .i64 (zs.getD j 0))) :
    Calls Try.prog 23 #[.pointer (some ⟨c, 0, none⟩), .slice (some ⟨g, 0, none⟩) n n] w fun e w' => ∃ x : Int, x ∈ zs ∧ e = .returned (.int .i64 x) ∧ Cur c a len cap w' ∧ Only c w w' := by
  have HC := Lib.hid H
  have HZ := Lib.hid hc
  have HL := Lib.hid hz
  clear H hc hz
  go_enter Try.func23, Try.ntmps23
  go_wp2_with fail
  refine (below_any (n : Int) (by omega) (by omega) _ HC.out).mono ?_
  rintro e w1 ⟨x, x0, x1, rfl, hc1, ho1⟩
  obtain ⟨k, rfl⟩ := Int.eq_ofNat_of_zero_le x0
  have hk : k < n := by omega
  have hk2 : (k : Int) < (n : Int) := by omega
  have hgs : g < w.heap.size := cell_size (p := ⟨g, k, none⟩) (HZ.out k hk)
  have hcell : w1.cell? ⟨g, k, none⟩ = some (.int .i64 (zs.getD k 0)) := by
    rw [ho1.cell (p := ⟨g, k, none⟩) hgs (fun e => hg e.symm)]
    exact HZ.out k hk
  have HM : Hid (zs.getD k 0 ∈ zs) := by
    have hl := HL.out
    show _ ∈ _
    rw [List.getD_eq_getElem?_getD, List.getElem?_eq_getElem (by omega)]
    exact List.getElem_mem _
  have HC1 := Lib.hid hc1
  have HO1 := Lib.hid ho1
  generalize zs.getD k 0 = z at hcell HM
  clear hc1 ho1
  go_wp2
  go_ret
  exact ⟨_, HM.out, rfl, HC1.out, HO1.out⟩

def numbers : List Int := [-1, 0, 127, 128, 16383, 16384, 1000000000, 1000000001, 9223372036854775807, -9223372036854775808]
theorem numbers_int (x : Int) (h : x ∈ numbers) : -9223372036854775808 ≤ x ∧ x ≤ 9223372036854775807 := by
  simp only [numbers, List.mem_cons, List.not_mem_nil, or_false] at h
  omega

end Go.Proofs.Ytphmomlgmnllkad
namespace Go.Proofs.Ytphmomlgmnllkad
open Go.RowKit

theorem Only.chg {c : Nat} {X Y : World} (h : Only c X Y) : Chg [c] X Y := ⟨h.os, h.tape, h.output, h.size, fun g hg hn => h.block g hg (fun e => hn (List.mem_singleton.2 e))⟩
theorem Lay.only {α : Type} (A : Lay α) {X Y : World} {b c : Nat} {f : List Nat} {cs : List Value} {x : α} (h : A.own X b f cs x) (ho : Only c X Y) (hc : c < b) : A.own Y b f cs x :=
  A.chg h ho.chg (fun g hg hg2 => by rw [List.mem_singleton] at hg2; have := (A.blocks h g hg).1; omega)
theorem rows_none {α : Type} {A : Lay α} {e : TypeId} (w : World) (b : Nat) : (Lay.rows e A).own w b [] [.slice none 0 0] [] := ⟨_, rfl, .inl ⟨rfl, rfl, rfl⟩⟩

/-- The cursor, the result, the net, the pool in its variable. -/
structure DP (c : Nat) (a : Option Addr) (len cap : Nat) (w : World) (gn q : Nat) (pa pn : Int) (lv fv : Value) (ls : List Ls) (fs : List Fx) (X : World) : Prop where
  cur : Cur c a len cap X
  only : Only c w X
  res : VarA w.heap.size PoolT #[.int .i64 0, .int .i64 0, .slice none 0 0, .slice none 0 0] X
  net : VarA gn PT #[.int .i64 pa, .int .i64 pn] X
  var : VarA q PoolT #[.int .i64 pa, .int .i64 pn, lv, fv] X
  lo : ∃ f, layLeaseS.own X w.heap.size f [lv] ls
  fo : ∃ f, layFixedS.own X w.heap.size f [fv] fs
  lt : w.heap.size < gn ∧ gn < q
  cl : c < w.heap.size
section
variable {c : Nat} {a : Option Addr} {len cap : Nat} {w : World} {gn q : Nat} {pa pn : Int} {lv fv : Value} {ls : List Ls} {fs : List Fx} {X Y : World}
theorem DP.next (h : DP c a len cap w gn q pa pn lv fv ls fs X) (hb : Below X.heap.size X Y) : DP c a len cap w gn q pa pn lv fv ls fs Y := by
  obtain ⟨f, hf⟩ := h.lo
  obtain ⟨k, hk⟩ := h.fo
  exact ⟨h.cur.below hb, h.only.trans (.of_below hb), h.res.next hb, h.net.next hb, h.var.next hb, ⟨f, layLeaseS.next hf hb⟩, ⟨k, layFixedS.next hk hb⟩, h.lt, h.cl⟩
theorem DP.drew (h : DP c a len cap w gn q pa pn lv fv ls fs X) : DP c a len cap w gn q pa pn lv fv ls fs X.drew := h.next ((Below.refl _ X).drew)
theorem DP.step (h : DP c a len cap w gn q pa pn lv fv ls fs X) (hc : Cur c a len cap Y) (ho : Only c X Y) : DP c a len cap w gn q pa pn lv fv ls fs Y := by
  obtain ⟨f, hf⟩ := h.lo
  obtain ⟨k, hk⟩ := h.fo
  have h1 := h.cl
  have h2 := h.lt
  exact ⟨hc, h.only.trans ho, h.res.only ho (by omega), h.net.only ho (by omega), h.var.only ho (by omega), ⟨f, layLeaseS.only hf ho h1⟩, ⟨k, layFixedS.only hk ho h1⟩, h.lt, h.cl⟩
theorem DP.pool (h : DP c a len cap w gn q pa pn lv fv ls fs X) : PoolR X lv fv ls fs := by
  obtain ⟨f, hf⟩ := h.lo
  obtain ⟨k, hk⟩ := h.fo
  exact ⟨layLeaseS.read hf, layFixedS.read hk⟩
/-- The pool is put into its variable anew. -/
theorem DP.put (h : DP c a len cap w gn q pa pn lv fv ls fs X) {lu fu : Value} {rs : List Ls} {gs : List Fx} (hl : ∃ f, layLeaseS.own X w.heap.size f [lu] rs) (hf : ∃ f, layFixedS.own X w.heap.size f [fu] gs) :
    DP c a len cap w gn q pa pn lu fu rs gs ((((X.setCell ⟨q, 0, none⟩ (.int .i64 pa)).setCell ⟨q, 1, none⟩ (.int .i64 pn)).setCell ⟨q, 2, none⟩ lu).setCell ⟨q, 3, none⟩ fu) := by
  obtain ⟨f, hl⟩ := hl
  obtain ⟨k, hf⟩ := hf
  have h1 := h.cl
  have h2 := h.lt
  have hc := chg_four X q (.int .i64 pa) (.int .i64 pn) lu fu
  have hb : Below q X ((((X.setCell ⟨q, 0, none⟩ (.int .i64 pa)).setCell ⟨q, 1, none⟩ (.int .i64 pn)).setCell ⟨q, 2, none⟩ lu).setCell ⟨q, 3, none⟩ fu) := hc.below (fun g hg => by rw [List.mem_singleton] at hg; omega) (Nat.le_of_lt h.var.lt)
  have k1 := row_off flatLease hl h.var (by decide)
  have k2 := row_off flatFixed hf h.var (by decide)
  exact ⟨h.cur.kept hb (by omega), h.only.behind (hb.mono (by omega)), h.res.next' hb (by omega), h.net.next' hb (by omega), set_four h.var, ⟨f, layLeaseS.chg hl hc (fun g hg hg2 => by rw [List.mem_singleton] at hg2; subst hg2; exact k1 hg)⟩, ⟨k, layFixedS.chg hf hc (fun g hg hg2 => by rw [List.mem_singleton] at hg2; subst hg2; exact k2 hg)⟩, h.lt, h.cl⟩
/-- The fixed ones alone are put anew. -/
theorem DP.fix (h : DP c a len cap w gn q pa pn lv fv ls fs X) {fu : Value} {gs : List Fx} (hf : ∃ f, layFixedS.own X w.heap.size f [fu] gs) : DP c a len cap w gn q pa pn lv fu ls gs (X.setCell ⟨q, 3, none⟩ fu) := by
  obtain ⟨f, hl⟩ := h.lo
  obtain ⟨k, hf⟩ := hf
  have h1 := h.cl
  have h2 := h.lt
  have hc := Chg.cell X q 3 fu
  have hb : Below q X (X.setCell ⟨q, 3, none⟩ fu) := hc.below (fun g hg => by rw [List.mem_singleton] at hg; omega) (Nat.le_of_lt h.var.lt)
  have k1 := row_off flatLease hl h.var (by decide)
  have k2 := row_off flatFixed hf h.var (by decide)
  exact ⟨h.cur.kept hb (by omega), h.only.behind (hb.mono (by omega)), h.res.next' hb (by omega), h.net.next' hb (by omega), h.var.set 3 fu, ⟨f, layLeaseS.chg hl hc (fun g hg hg2 => by rw [List.mem_singleton] at hg2; subst hg2; exact k1 hg)⟩, ⟨k, layFixedS.chg hf hc (fun g hg hg2 => by rw [List.mem_singleton] at hg2; subst hg2; exact k2 hg)⟩, h.lt, h.cl⟩
end

end Go.Proofs.Ytphmomlgmnllkad

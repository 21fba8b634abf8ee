/-
  The given TrieNew and TrieOf.
-/
import Derived.Test.YtkfcoldjgijpcapTriePutSpec
namespace Go.Proofs.Ytkfcoldjgijpcap
open Go.RowKit

set_option maxRecDepth 100000 in
set_option maxHeartbeats 400000 in
theorem specTrieNew_any (w : World) : Calls Try.prog 8 #[] w fun e w' => OutT layTwigS w [tw0] e w' := by
  have hz : (w.alloc (.cells #[.slice (some ⟨w.heap.size + 1, 0, none⟩) 1 1] 24)).heap.size = w.heap.size + 1 := by simp
  have O0 : layTwigS.own ((w.alloc (.cells #[.slice (some ⟨w.heap.size + 1, 0, none⟩) 1 1] 24)).alloc (.cells #[.int .i64 0, .int .i64 0, .int .i64 0] TwigT)) w.heap.size [w.heap.size + 1] [.slice (some ⟨w.heap.size + 1, 0, none⟩) 1 1] [tw0] := by
    have h := World.ownsRow_lit (base := w.heap.size) (e := TwigT) (size := 3) (w.alloc (.cells #[.slice (some ⟨w.heap.size + 1, 0, none⟩) 1 1] 24)) #[.int .i64 0, .int .i64 0, .int .i64 0] 1 (by omega) (by decide) rfl
    rw [hz] at h
    exact flat_own flatTwig h ⟨[_, _, _], [], rfl, layTwig_rd.2 rfl, rfl⟩
  have HO := Lib.hid O0
  have HB := Lib.hid (((Below.refl w.heap.size w).alloc (Nat.le_refl _) (.cells #[.slice (some ⟨w.heap.size + 1, 0, none⟩) 1 1] 24)).alloc (by simp) (.cells #[.int .i64 0, .int .i64 0, .int .i64 0] TwigT))
  clear O0 hz
  go_enter Try.func8, Try.ntmps8
  go_wp2_with fail
  exact bodyPost_ret (v := .agg #[.slice (some ⟨w.heap.size + 1, 0, none⟩) 1 1]) (by simp [results, Try.results8, go_sem]) rfl ⟨[.slice (some ⟨w.heap.size + 1, 0, none⟩) 1 1], _, rfl, by simp, HO.out, HB.out⟩

/-- The result's variable, the tree's, and what lies below. -/
structure TO (w : World) (gt g cp : Nat) (t : List Tw) (X : World) : Prop where
  res : VarA w.heap.size 24 #[.slice none 0 0] X
  var : VarA gt 24 #[.slice (some ⟨g, 0, none⟩) t.length cp] X
  own : layTwigS.own X (w.heap.size + 1) [g] [.slice (some ⟨g, 0, none⟩) t.length cp] t
  low : w.heap.size < gt
  below : Below w.heap.size w X
theorem TO.next {w : World} {gt g cp : Nat} {t : List Tw} {X Y : World} (h : TO w gt g cp t X) (hb : Below X.heap.size X Y) : TO w gt g cp t Y := ⟨h.res.next hb, h.var.next hb, layTwigS.next h.own hb, h.low, h.below.trans (hb.mono h.below.size)⟩
theorem TO.store {w : World} {gt g cp : Nat} {t : List Tw} {X Y : World} (h : TO w gt g cp t X) (hb : Below X.heap.size X Y) (r : List Tw) (g' cp' : Nat) (ho : layTwigS.own Y X.heap.size [g'] [.slice (some ⟨g', 0, none⟩) r.length cp'] r) :
    TO w gt g' cp' r (Y.setCell ⟨gt, 0, none⟩ (.slice (some ⟨g', 0, none⟩) r.length cp')) := by
  have h1 := h.next hb
  have hl := h.low
  have hg : X.heap.size ≤ g' := (layTwigS.blocks ho g' (by simp)).1
  have hv := h.var.lt
  refine ⟨h1.res.off 0 _ (by omega), h1.var.set 0 _, layTwigS.lower (layTwigS.chg ho (Chg.cell _ _ _ _) (by simp; omega)) (by omega), hl, h1.below.trans ((Chg.cell Y gt 0 _).below (by simp; omega) h1.below.size)⟩
/-- A put into a tree of routes. -/
theorem put_route {xs : List Rt} (h : RoutesP xs) (i : Nat) (x : Rt) (hx : xs[i]? = some x) : PutTold (trieOfP (xs.take i)) x.1 x.2.1 x.2.2 (trieOfP (xs.take (i + 1))) true := by
  obtain ⟨h1, h2, h3⟩ := (routesP_iff xs).1 h
  have hi : i < xs.length := (List.getElem?_eq_some_iff.1 hx).1
  have hok : RtOk x := h1 x (List.mem_of_getElem? hx)
  have ht := rtOk_to hok
  obtain ⟨r1, r2⟩ := trieOf_right (xs.take i) (fun r hr => h1 r (List.mem_of_mem_take hr))
  have e : xs.take (i + 1) = xs.take i ++ [x] := by rw [List.take_add_one, hx]; rfl
  have hl := put_length_le r1 (rtBits x) (bitsP_bits _ _) x.2.2 (by omega) (by omega)
  have hb := bit_len x.1 x.2.1 hok.pref
  rw [List.length_take] at r2
  refine .inl ⟨rfl, ⟨⟨r1, by omega⟩, hok.pref, by omega, by omega⟩, ?_, ?_⟩
  · have : (putT (trieOfP (xs.take i)) (bitsP x.1.toNat x.2.1.toNat) x.2.2).length ≤ (trieOfP (xs.take i)).length + (bitsP x.1.toNat x.2.1.toNat).length := hl
    omega
  · rw [e, trieOf_snoc]
    rfl
theorem PutTold.one {t : List Tw} {a n p : Int} {r r' : List Tw} {b b' : Bool} (h : PutTold t a n p r b) (h' : PutTold t a n p r' b') : r = r' ∧ b = b' := by
  rcases h with ⟨rfl, h1, h2, rfl⟩ | ⟨rfl, rfl, h1⟩ <;> rcases h' with ⟨rfl, k1, k2, rfl⟩ | ⟨rfl, rfl, k1⟩
  · exact ⟨rfl, rfl⟩
  · exact absurd ⟨h1, h2⟩ k1
  · exact absurd ⟨k1, k2⟩ h1
  · exact ⟨rfl, rfl⟩
theorem trieOf_ne (xs : List Rt) (h : ∀ r ∈ xs, RtOk r) : 1 ≤ (trieOfP xs).length := (trieOf_right xs h).1.pos

end Go.Proofs.Ytkfcoldjgijpcap

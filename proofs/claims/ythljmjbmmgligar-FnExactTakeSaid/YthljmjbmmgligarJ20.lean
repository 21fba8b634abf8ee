/-
  A channel's variable; its rows, of the call's own.
-/
import Derived.Test.YthljmjbmmgligarJ18
import Derived.Test.YthljmjbmmgligarJ19
namespace Go.Proofs.Ythljmjbmmgligar
open Go.RowKit

theorem set_nine {X : World} {G : Nat} {q0 q1 q2 q3 q4 q5 q6 q7 q8 p0 p1 p2 p3 p4 p5 p6 p7 p8 : Value} (h : VarA G ChanT #[q0, q1, q2, q3, q4, q5, q6, q7, q8] X) : VarA G ChanT #[p0, p1, p2, p3, p4, p5, p6, p7, p8] (((((((((X.setCell ⟨G, 0, none⟩ p0).setCell ⟨G, 1, none⟩ p1).setCell ⟨G, 2, none⟩ p2).setCell ⟨G, 3, none⟩ p3).setCell ⟨G, 4, none⟩ p4).setCell ⟨G, 5, none⟩ p5).setCell ⟨G, 6, none⟩ p6).setCell ⟨G, 7, none⟩ p7).setCell ⟨G, 8, none⟩ p8) := by
  have h0 : VarA G ChanT #[p0, q1, q2, q3, q4, q5, q6, q7, q8] _ := h.set 0 p0
  have h1 : VarA G ChanT #[p0, p1, q2, q3, q4, q5, q6, q7, q8] _ := h0.set 1 p1
  have h2 : VarA G ChanT #[p0, p1, p2, q3, q4, q5, q6, q7, q8] _ := h1.set 2 p2
  have h3 : VarA G ChanT #[p0, p1, p2, p3, q4, q5, q6, q7, q8] _ := h2.set 3 p3
  have h4 : VarA G ChanT #[p0, p1, p2, p3, p4, q5, q6, q7, q8] _ := h3.set 4 p4
  have h5 : VarA G ChanT #[p0, p1, p2, p3, p4, p5, q6, q7, q8] _ := h4.set 5 p5
  have h6 : VarA G ChanT #[p0, p1, p2, p3, p4, p5, p6, q7, q8] _ := h5.set 6 p6
  have h7 : VarA G ChanT #[p0, p1, p2, p3, p4, p5, p6, p7, q8] _ := h6.set 7 p7
  exact h7.set 8 p8
theorem only_nine (X : World) (G : Nat) (p0 p1 p2 p3 p4 p5 p6 p7 p8 : Value) : Only G X (((((((((X.setCell ⟨G, 0, none⟩ p0).setCell ⟨G, 1, none⟩ p1).setCell ⟨G, 2, none⟩ p2).setCell ⟨G, 3, none⟩ p3).setCell ⟨G, 4, none⟩ p4).setCell ⟨G, 5, none⟩ p5).setCell ⟨G, 6, none⟩ p6).setCell ⟨G, 7, none⟩ p7).setCell ⟨G, 8, none⟩ p8) := (((((((((Only.setCell 0 p0).trans (Only.setCell 1 p1)).trans (Only.setCell 2 p2)).trans (Only.setCell 3 p3)).trans (Only.setCell 4 p4)).trans (Only.setCell 5 p5)).trans (Only.setCell 6 p6)).trans (Only.setCell 7 p7)).trans (Only.setCell 8 p8))

/-- A channel's rows, of the call's own, each apart from the others. -/
structure CO (lo : Nat) (v3 v4 v6 v7 v8 : Value) (f3 f4 f6 f7 f8 : List Nat) (qs : List ByteArray) (ss : List PendingD) (es : List EarlyD) (os : List Int) (xs : List ByteArray) (X : World) : Prop where
  q : layStringS.own X lo f3 [v3] qs
  s : layPendingS.own X lo f4 [v4] ss
  e : layEarlyS.own X lo f6 [v6] es
  o : layIntS.own X lo f7 [v7] os
  x : layStringS.own X lo f8 [v8] xs
  ap : ∀ g ∈ f3, g ∉ f8
section
variable {lo : Nat} {v3 v4 v6 v7 v8 : Value} {f3 f4 f6 f7 f8 : List Nat} {qs : List ByteArray} {ss : List PendingD} {es : List EarlyD} {os : List Int} {xs : List ByteArray} {X Y : World}
theorem CO.next (h : CO lo v3 v4 v6 v7 v8 f3 f4 f6 f7 f8 qs ss es os xs X) (hb : Below X.heap.size X Y) : CO lo v3 v4 v6 v7 v8 f3 f4 f6 f7 f8 qs ss es os xs Y := ⟨layStringS.next h.q hb, layPendingS.next h.s hb, layEarlyS.next h.e hb, layIntS.next h.o hb, layStringS.next h.x hb, h.ap⟩
theorem CO.lower {b : Nat} (h : CO lo v3 v4 v6 v7 v8 f3 f4 f6 f7 f8 qs ss es os xs X) (hb : b ≤ lo) : CO b v3 v4 v6 v7 v8 f3 f4 f6 f7 f8 qs ss es os xs X := ⟨layStringS.lower h.q hb, layPendingS.lower h.s hb, layEarlyS.lower h.e hb, layIntS.lower h.o hb, layStringS.lower h.x hb, h.ap⟩
/-- A variable is written: it lies apart. -/
theorem CO.only {G : Nat} {T : TypeId} {cs : Array Value} (h : CO lo v3 v4 v6 v7 v8 f3 f4 f6 f7 f8 qs ss es os xs X) (ho : Only G X Y) (hv : VarA G T cs X) (t1 : T ≠ StringT) (t2 : T ≠ PendingT) (t3 : T ≠ EarlyT) (t4 : T ≠ 3) : CO lo v3 v4 v6 v7 v8 f3 f4 f6 f7 f8 qs ss es os xs Y := by
  have hc := only_chg ho
  refine ⟨layStringS.chg h.q hc ?_, layPendingS.chg h.s hc ?_, layEarlyS.chg h.e hc ?_, layIntS.chg h.o hc ?_, layStringS.chg h.x hc ?_, h.ap⟩
  · exact fun g hg hm => row_off flatString h.q hv t1 (List.mem_singleton.1 hm ▸ hg)
  · exact fun g hg hm => row_off flatPending h.s hv t2 (List.mem_singleton.1 hm ▸ hg)
  · exact fun g hg hm => row_off flatEarly h.e hv t3 (List.mem_singleton.1 hm ▸ hg)
  · exact fun g hg hm => row_off flatIntP h.o hv t4 (List.mem_singleton.1 hm ▸ hg)
  · exact fun g hg hm => row_off flatString h.x hv t1 (List.mem_singleton.1 hm ▸ hg)
theorem flat_nodup {α : Type} {A : Lay α} (hf : Flat A) {e : TypeId} {b : Nat} {f : List Nat} {v : Value} {l : List α} (h : (Lay.rows e A).own X b f [v] l) : f.Nodup := by
  obtain ⟨us, _, _, rfl⟩ := flat_inv hf h
  unfold blk
  cases v.ownBlock with
  | none => simp
  | some k => simp
theorem CO.nodup (h : CO lo v3 v4 v6 v7 v8 f3 f4 f6 f7 f8 qs ss es os xs X) : (f3 ++ (f4 ++ (f6 ++ (f7 ++ f8)))).Nodup := by
  have d34 := rows_off flatString flatPending h.q h.s (show StringT ≠ PendingT by decide)
  have d36 := rows_off flatString flatEarly h.q h.e (show StringT ≠ EarlyT by decide)
  have d37 := rows_off flatString flatIntP h.q h.o (show StringT ≠ 3 by decide)
  have d46 := rows_off flatPending flatEarly h.s h.e (show PendingT ≠ EarlyT by decide)
  have d47 := rows_off flatPending flatIntP h.s h.o (show PendingT ≠ 3 by decide)
  have d48 := rows_off flatPending flatString h.s h.x (show PendingT ≠ StringT by decide)
  have d67 := rows_off flatEarly flatIntP h.e h.o (show EarlyT ≠ 3 by decide)
  have d68 := rows_off flatEarly flatString h.e h.x (show EarlyT ≠ StringT by decide)
  have d78 := rows_off flatIntP flatString h.o h.x (show 3 ≠ StringT by decide)
  refine List.nodup_append.2 ⟨flat_nodup flatString h.q, List.nodup_append.2 ⟨flat_nodup flatPending h.s, List.nodup_append.2 ⟨flat_nodup flatEarly h.e, List.nodup_append.2 ⟨flat_nodup flatIntP h.o, flat_nodup flatString h.x, ?_⟩, ?_⟩, ?_⟩, ?_⟩
  · rintro a ha b hb rfl
    exact d78 a ha hb
  · rintro a ha b hb rfl
    rcases List.mem_append.1 hb with hb | hb
    · exact d67 a ha hb
    · exact d68 a ha hb
  · rintro a ha b hb rfl
    rcases List.mem_append.1 hb with hb | hb
    · exact d46 a ha hb
    · rcases List.mem_append.1 hb with hb | hb
      · exact d47 a ha hb
      · exact d48 a ha hb
  · rintro a ha b hb rfl
    rcases List.mem_append.1 hb with hb | hb
    · exact d34 a ha hb
    · rcases List.mem_append.1 hb with hb | hb
      · exact d36 a ha hb
      · rcases List.mem_append.1 hb with hb | hb
        · exact d37 a ha hb
        · exact h.ap a ha hb
end
/-- A channel and a Bool are returned. -/
def ChanRet (ok : Bool) (me peer next got : Int) (qs : List ByteArray) (ss : List PendingD) (es : List EarlyD) (os : List Int) (xs : List ByteArray) (w : World) (e : Ending) (w' : World) : Prop :=
  ∃ (v3 v4 v6 v7 v8 : Value) (f3 f4 f6 f7 f8 : List Nat), e = .returned (.tuple #[.agg #[.int .i64 me, .int .i64 peer, .int .i64 next, v3, v4, .int .i64 got, v6, v7, v8], .bool ok]) ∧ CO w.heap.size v3 v4 v6 v7 v8 f3 f4 f6 f7 f8 qs ss es os xs w' ∧ Below w.heap.size w w'
/-- A channel copied: rows that are apart. -/
theorem ChanCopied.co {me peer next got : Int} {qs : List ByteArray} {ss : List PendingD} {es : List EarlyD} {os : List Int} {xs : List ByteArray} {w w' : World} {e : Ending} (h : ChanCopied me peer next qs ss got es os xs w e w') :
    ∃ (a3 k3 a4 k4 a6 k6 a7 k7 a8 k8 : Nat), e = .returned (.agg #[.int .i64 me, .int .i64 peer, .int .i64 next, .slice (some ⟨a3, 0, none⟩) qs.length k3, .slice (some ⟨a4, 0, none⟩) ss.length k4, .int .i64 got, .slice (some ⟨a6, 0, none⟩) es.length k6, .slice (some ⟨a7, 0, none⟩) os.length k7, .slice (some ⟨a8, 0, none⟩) xs.length k8]) ∧ CO w.heap.size (.slice (some ⟨a3, 0, none⟩) qs.length k3) (.slice (some ⟨a4, 0, none⟩) ss.length k4) (.slice (some ⟨a6, 0, none⟩) es.length k6) (.slice (some ⟨a7, 0, none⟩) os.length k7) (.slice (some ⟨a8, 0, none⟩) xs.length k8) [a3] [a4] [a6] [a7] [a8] qs ss es os xs w' ∧ Below w.heap.size w w' := by
  obtain ⟨a3, k3, a4, k4, a6, k6, a7, k7, a8, k8, he, ⟨h3, h4, h6, h7, h8⟩, hl, hb⟩ := h
  refine ⟨a3, k3, a4, k4, a6, k6, a7, k7, a8, k8, he, ⟨h3, h4, h6, h7, h8, fun g hg hg2 => ?_⟩, hb⟩
  rw [List.mem_singleton] at hg hg2
  omega

end Go.Proofs.Ythljmjbmmgligar

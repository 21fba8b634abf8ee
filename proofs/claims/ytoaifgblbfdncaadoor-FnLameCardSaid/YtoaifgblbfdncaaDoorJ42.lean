/-
  The program's contracts of data, filled in.
  What Install tells of right slots.
  What is sealed by one end is opened by the other one, once; in plain words.
  Rows of texts as they lie; the laws' own functions over them.
  What one block alone changes, in the words of footprints.
  A byte that is drawn: it lies in 0 .. 255, the cursor stays one, and no other block is written.
  A number below another one, and a choice, drawn.
-/
import Derived.Test.YtoaifgblbfdncaaDoorJ14
import Derived.Test.YtoaifgblbfdncaaDoorJ34
import Derived.Test.YtoaifgblbfdncaaDoorJ36
import Derived.Test.YtoaifgblbfdncaaDoorJ39
import Derived.Test.YtoaifgblbfdncaaDoorJ40
import Derived.Test.YtoaifgblbfdncaaDoorJ41
import Derived.Test.YtoaifgblbfdncaaDoorJ07
import Derived.Test.YtoaifgblbfdncaaDoorJ13
import Derived.Test.YtoaifgblbfdncaaDoorJ05
import Derived.Test.YtoaifgblbfdncaaDoorRows
import Derived.Deep.RegionHeld3
import Derived.BigQuiet
import Derived.Deep.QuietTactic
import Derived.Deep.DeepCutAuto
import Derived.Test.YtoaifgblbfdncaaDoorJ01
import Derived.Test.YtoaifgblbfdncaaDoorJ04
namespace Go.Proofs.YtoaifgblbfdncaaDoor
open Go.RowKit

theorem dataFns : DataFns LaidK where
  stays := fun _ _ h hb => h.stays hb (Nat.le_refl _)
  pair := fun s hs X hX => implPairSlots_any s (by omega) X hX
  seals := fun x0 x1 x2 x3 v4 r4 x5 y0 y1 y2 y3 u4 s4 y5 fr dst body c k0 k1 k2 k3 k4 k6 ok hi h1 h2 h3 h4 hb hr hs gx gy X hX h k => implSealData_any x0 x1 x2 x3 v4 r4 x5 y0 y1 y2 y3 u4 s4 y5 fr dst body c k0 k1 k2 k3 k4 k6 ok hi (by omega) (by omega) (by omega) (by omega) (by omega) (by omega) (by omega) gx gy X hX h k
  opens := fun x0 x1 x2 x3 v4 r4 x5 y0 y1 y2 y3 u4 s4 y5 op key fr dst num va acks body now r5 s5 t ok hO h1 h2 h3 h4 hb hr hs hac gx gy _ X hX h k ha => implOpenData_any x0 x1 x2 x3 v4 r4 x5 y0 y1 y2 y3 u4 s4 y5 op key fr dst num va acks body now (by omega) (by omega) (by omega) (by omega) (by omega) (by omega) (by omega) (by omega) gx gy r5 s5 t ok hO X hX h k ha
  step := fun x0 x1 x2 x3 v4 r4 x5 y0 y1 y2 y3 u4 s4 y5 now h1 h2 h3 h4 hr hs gx gy X hX h k => implStepBoth_gen x0 x1 x2 x3 v4 r4 x5 y0 y1 y2 y3 u4 s4 y5 now (by omega) (by omega) (by omega) (by omega) (by omega) (by omega) gx gy X hX h k
  tidy := fun x0 x1 x2 x3 v4 r4 x5 y0 y1 y2 y3 u4 s4 y5 now h1 h2 h3 h4 hr hs X _ h k => implTidySlots_gen cloneS x0 x1 x2 x3 v4 r4 x5 y0 y1 y2 y3 u4 s4 y5 now (by omega) (by omega) (by omega) (by omega) (by omega) (by omega) X h k

end Go.Proofs.YtoaifgblbfdncaaDoor
namespace Go.Proofs.YtoaifgblbfdncaaDoor
open Go.RowKit

theorem slot_ints {x0 : Int} {x1 x2 : ByteArray} {x3 : Int} {r4 : List Int} {x5 : Int} (h : SlotP x0 x1 x2 x3 r4 x5) : ∀ x ∈ r4, IntZ x := by
  rcases h with h | h
  · intro x hx
    have h4 := h.2.2.2.2.1
    rw [List.length_eq_zero_iff] at h4
    rw [h4] at hx
    cases hx
  · exact h.2.2.2.2.1.ints
/-- New keys come. -/
theorem install_good {m : Int} {x0 : Int} {x1 x2 : ByteArray} {x3 : Int} {r4 : List Int} {x5 : Int} {y0 : Int} {y1 y2 : ByteArray} {y3 : Int} {s4 : List Int} {y5 : Int} {send op : ByteArray} {now : Int} {w : World} {e : Ending} {w' : World} (hg : Good12 m x0 x1 x2 x3 r4 x5 y0 y1 y2 y3 s4 y5) (hp : InstallP x0 x1 x2 x3 r4 x5 y0 y1 y2 y3 s4 y5 send op now) (h : InstallEnd x0 x1 x2 x3 r4 x5 y0 y1 y2 y3 s4 y5 send op now w e w') :
    ∃ (v u : Value) (f g : List Nat), e = .returned (.tuple #[.agg #[.int .i64 (x0 + 1), .string send, .string op, .int .i64 0, v, .int .i64 0, .int .i64 x0, .string x1, .string x2, .int .i64 x3, u, .int .i64 (now + 10)], .bool true]) ∧ layIntS.own w' w.heap.size f [v] [] ∧ layIntS.own w' w.heap.size g [u] r4 ∧ Below w.heap.size w w' := by
  obtain ⟨z0, z1, z2, z3, t4, z5, n0, n1, n2, n3, o4, n5, ok, v, u', f, g, hc, rfl, hd, h1, h2, hbl⟩ := h
  rcases hc with ⟨rfl, _, ⟨rfl, rfl, rfl, rfl, rfl, rfl⟩, rfl, rfl, rfl, rfl, rfl, hn⟩ | ⟨_, h, _⟩
  · obtain ⟨rfl, -⟩ := good_install hg hp hn
    exact ⟨v, u', f, g, rfl, h1, h2, hbl⟩
  · exact absurd hp h
/-- No new keys. -/
theorem install_bad {x0 : Int} {x1 x2 : ByteArray} {x3 : Int} {r4 : List Int} {x5 : Int} {y0 : Int} {y1 y2 : ByteArray} {y3 : Int} {s4 : List Int} {y5 : Int} {send op : ByteArray} {now : Int} {w : World} {e : Ending} {w' : World} (hp : ¬ InstallP x0 x1 x2 x3 r4 x5 y0 y1 y2 y3 s4 y5 send op now) (h : InstallEnd x0 x1 x2 x3 r4 x5 y0 y1 y2 y3 s4 y5 send op now w e w') :
    ∃ (v u : Value) (f g : List Nat), e = .returned (.tuple #[.agg #[.int .i64 x0, .string x1, .string x2, .int .i64 x3, v, .int .i64 x5, .int .i64 y0, .string y1, .string y2, .int .i64 y3, u, .int .i64 y5], .bool false]) ∧ layIntS.own w' w.heap.size f [v] r4 ∧ layIntS.own w' w.heap.size g [u] s4 ∧ Below w.heap.size w w' := by
  obtain ⟨z0, z1, z2, z3, t4, z5, n0, n1, n2, n3, o4, n5, ok, v, u', f, g, hc, rfl, hd, h1, h2, hbl⟩ := h
  rcases hc with ⟨_, h, _⟩ | ⟨rfl, _, ⟨rfl, rfl, rfl, rfl, rfl, rfl⟩, rfl, rfl, rfl, rfl, rfl, rfl⟩
  · exact absurd h hp
  · exact ⟨v, u', f, g, rfl, h1, h2, hbl⟩

end Go.Proofs.YtoaifgblbfdncaaDoor
namespace Go.Proofs.YtoaifgblbfdncaaDoor
open Go.RowKit

/-- One end that sealed i texts. -/
def endA (i : Int) (pa pb : ByteArray) : Prop := (0 ≤ i ∧ i ≤ 11) ∧ pa.size = 32 ∧ pb.size = 32
theorem end_keys {i : Int} {pa pb : ByteArray} (h : endA i pa pb) : KeysP 1 pa pb i [] 0 := ⟨⟨by omega, by omega⟩, h.2.1, h.2.2, ⟨h.1.1, by have := h.1; omega⟩, none_seen, ⟨by omega, by omega⟩⟩
theorem end_slots {i : Int} {pa pb : ByteArray} (h : endA i pa pb) : SlotsP 1 pa pb i [] 0 0 ⟨#[]⟩ ⟨#[]⟩ 0 [] 0 := ⟨.inr (end_keys h), .inl none_zero, .inl none_zero⟩
theorem other_keys {pa pb : ByteArray} {r : List Int} (ha : pa.size = 32) (hb : pb.size = 32) (hr : SeenP r) : KeysP 1 pb pa 0 r 0 := ⟨⟨by omega, by omega⟩, hb, ha, ⟨by omega, by omega⟩, hr, ⟨by omega, by omega⟩⟩
theorem other_slots {pa pb : ByteArray} {r : List Int} (ha : pa.size = 32) (hb : pb.size = 32) (hr : SeenP r) : SlotsP 1 pb pa 0 r 0 0 ⟨#[]⟩ ⟨#[]⟩ 0 [] 0 := ⟨.inr (other_keys ha hb hr), .inl none_zero, .inl none_zero⟩
/-- A packet of data of the first epoch. -/
theorem data_packet {n : Int} {body : ByteArray} (h0 : 1 ≤ n) (h1 : n ≤ 1000000000) (hb : body.size ≤ 120) : PkOkP 3 1 1 2 n [] body :=
  ⟨⟨by omega, by omega⟩, ⟨by omega, by omega⟩, ⟨by omega, by omega⟩, ⟨by omega, by omega⟩, ⟨by omega, h1⟩, by simp, hb, (fun x h => by cases h), .inl (by omega)⟩
/-- The next number is fresh. -/
theorem next_fresh {r : List Int} {n : Int} (hr : SeenP r) (ht : topZ r < n) (h0 : 1 ≤ n) (h1 : n ≤ 1000000000) : FreshP r n :=
  ⟨hr, ⟨h0, h1⟩, fun hm => by have := top_most hr.2.2.1 n hm; omega, by omega⟩
theorem next_top {r t : List Int} {n : Int} (hr : SeenP r) (ht : topZ r < n) (h0 : 1 ≤ n) (h1 : n ≤ 1000000000) (h : NoteIs r n t) : SeenP t ∧ n ∈ t ∧ topZ t = n := by
  have hf := next_fresh hr ht h0 h1
  obtain ⟨a1, a2, -⟩ := note_right hf h
  refine ⟨a1, a2, ?_⟩
  rcases h with ⟨-, rfl⟩ | ⟨k, -⟩
  · rw [near_top (put_ne n r)]
    have e : r.filter (fun x => decide (n < x)) = [] := by
      rw [List.filter_eq_nil_iff]
      intro x hx
      have := top_most hr.2.2.1 x hx
      simp only [decide_eq_true_eq]
      omega
    unfold putD
    rw [e]
    rfl
  · exact absurd hf k
/-- What was sealed is opened. -/
theorem data_open {pa pb body : ByteArray} {r t : List Int} {n now : Int} (ha : pa.size = 32) (hb : pb.size = 32) (hr : SeenP r) (ht : topZ r < n) (h0 : 1 ≤ n) (h1 : n ≤ 12) (hz : body.size ≤ 104) (hn : NoteIs r n t) :
    OpenD 1 pb pa 0 r 0 0 ⟨#[]⟩ ⟨#[]⟩ 0 [] 0 3 1 1 2 n [] (lockP pa n.toNat body) now t [] body true := by
  have hf := next_fresh hr ht h0 (by omega)
  refine .inl ⟨⟨other_slots ha hb hr, data_packet h0 (by omega) (by rw [lockP_size]; omega), rfl, keys_some (other_keys ha hb hr), by decide⟩, .inl ⟨rfl, hf, lock_opens pa n body (by omega) (by omega) (by omega), hn⟩, rfl⟩
/-- Not twice. -/
theorem data_again {pa pb body : ByteArray} {r : List Int} {n now : Int} (ha : pa.size = 32) (hb : pb.size = 32) (hr : SeenP r) (hm : n ∈ r) (h0 : 1 ≤ n) (h1 : n ≤ 12) (hz : body.size ≤ 104) :
    OpenD 1 pb pa 0 r 0 0 ⟨#[]⟩ ⟨#[]⟩ 0 [] 0 3 1 1 2 n [] (lockP pa n.toNat body) now r [] ⟨#[]⟩ false := by
  refine .inl ⟨⟨other_slots ha hb hr, data_packet h0 (by omega) (by rw [lockP_size]; omega), rfl, keys_some (other_keys ha hb hr), by decide⟩, .inr ⟨rfl, fun h => h.1.2.2.1 hm, rfl, rfl⟩, rfl⟩
/-- An end behind new keys: the first ones are lame. -/
theorem step_slots {pa pb na nb : ByteArray} {u : Int} (ha : pa.size = 32) (hb : pb.size = 32) (h1 : na.size = 32) (h2 : nb.size = 32) (hu : 0 ≤ u) (hv : u ≤ 1000000000) : SlotsP 2 nb na 0 [] 0 1 pb pa 0 [] u :=
  ⟨.inr ⟨⟨by omega, by omega⟩, h2, h1, ⟨by omega, by omega⟩, none_seen, ⟨by omega, by omega⟩⟩, .inr ⟨⟨by omega, by omega⟩, hb, ha, ⟨by omega, by omega⟩, none_seen, ⟨hu, hv⟩⟩, .inr (by omega)⟩
theorem two_main {pa pb na nb : ByteArray} {u : Int} {op fr dst num : Int} {acks : List Int} {body : ByteArray} : ¬ MainP 2 nb na 0 [] 0 1 pb pa 0 [] u op 1 fr dst num acks body := fun h => by
  have := h.2.2.2.2
  omega
theorem lame_open {pa pb na nb body : ByteArray} {u now : Int} (ha : pa.size = 32) (hb : pb.size = 32) (h1 : na.size = 32) (h2 : nb.size = 32) (hu : 0 ≤ u) (hv : u ≤ 1000000000) (hz : body.size ≤ 104) (hn : now < u) :
    ∃ s5, OpenD 2 nb na 0 [] 0 1 pb pa 0 [] u 3 1 1 2 1 [] (lockP pa 1 body) now [] s5 body true := by
  obtain ⟨s5, hs⟩ := note_is [] 1
  have hf : FreshP [] 1 := next_fresh none_seen (by show (0 : Int) < 1; omega) (by omega) (by omega)
  refine ⟨s5, .inr (.inl ⟨⟨step_slots ha hb h1 h2 hu hv, data_packet (by omega) (by omega) (by rw [lockP_size]; omega), rfl, fun h => by have := h.2; omega, fun h => by have := h.1; omega, hn, by decide⟩, .inl ⟨rfl, hf, lock_opens pa 1 body (by omega) (by omega) (by omega), hs⟩, rfl⟩)⟩
theorem lame_late {pa pb na nb body : ByteArray} {u now : Int} (hn : ¬ now < u) (k : ByteArray) : OpenD 2 nb na 0 [] 0 1 pb pa 0 [] u 3 1 1 2 1 [] (lockP k 1 body) now [] [] ⟨#[]⟩ false :=
  .inr (.inr ⟨two_main, fun h => hn h.2.2.2.2.2.1, rfl, rfl, rfl, rfl⟩)
theorem lame_gone {na nb body : ByteArray} {now : Int} (k : ByteArray) : OpenD 2 nb na 0 [] 0 0 ⟨#[]⟩ ⟨#[]⟩ 0 [] 0 3 1 1 2 1 [] (lockP k 1 body) now [] [] ⟨#[]⟩ false :=
  .inr (.inr ⟨fun h => by have := h.2.2.2.2; omega, fun h => h.2.2.2.2.1 none_zero, rfl, rfl, rfl, rfl⟩)

end Go.Proofs.YtoaifgblbfdncaaDoor
namespace Go.Proofs.YtoaifgblbfdncaaDoor
open Go.RowKit

abbrev StringD := ByteArray
abbrev StringT : TypeId := 9
def layString : Lay ByteArray := Lay.str
def layStringS : Lay (List ByteArray) := .rows StringT layString
theorem str_k (j : Nat) : j * layString.k = j := Nat.mul_one j
theorem layString_rd {w : World} {cs : List Value} {x : ByteArray} : layString.rd w cs x ↔ cs = [.string x] := Iff.rfl
theorem layString_own {w : World} {b : Nat} {f : List Nat} {cs : List Value} {x : ByteArray} : layString.own w b f cs x ↔ f = [] ∧ cs = [.string x] := Iff.rfl
theorem zeroString (w : World) (b : Nat) : layString.own w b [] [.string ⟨#[]⟩] ⟨#[]⟩ := ⟨rfl, rfl⟩
theorem zeroString_none (w : World) (b : Nat) (f : List Nat) (c : List Value) (h : layString.own w b f c ⟨#[]⟩) : f = [] := h.1
theorem flatString : Flat layString := ⟨fun _ _ _ _ h => layString_own.2 ⟨rfl, layString_rd.1 h⟩, fun _ _ _ _ _ h => (layString_own.1 h).1, fun _ _ _ _ h => layString_rd.2 (layString_rd.1 h)⟩
theorem infoString : (Tryd.prog.info? 9).map (fun i => (i.zero, i.size, i.bytes)) = some (some (.string ⟨#[]⟩), 1, 16) := by kernel_rfl
/-- Rows that are measured. -/
def FitsString (xs : List StringD) : Prop := xs.length ≤ 1048576 ∧ ∀ x ∈ xs, (x).size ≤ 1048576
def RoomString (xs : List StringD) : Prop := xs.length ≤ 9223372036854775807 ∧ ∀ x ∈ xs, (x).size ≤ 9223372036854775807
theorem markString_eq (q : Int) (x : StringD) : layString.mark q x = ((markTxt (q)), q + 1) := rfl
theorem marksString_num (k : Int) (xs : List StringD) : (layStringS.mark k xs).2 = k + 1 * (xs.length : Int) := by
  show (mkAll layString k xs).2 = _
  induction xs generalizing k with
  | nil => simp [mkAll]
  | cons x xs ih =>
    show (mkAll layString (layString.mark k x).2 xs).2 = _
    rw [ih, markString_eq]
    simp only [List.length_cons]
    omega
theorem marksString_next (k : Int) (xs : List StringD) (j : Nat) (x : StringD) (hx : xs[j]? = some x) : (layStringS.mark k (xs.take (j + 1))).1 = (layStringS.mark k (xs.take j)).1 ++ [(layString.mark (k + 1 * (j : Int)) x).1] := by
  have hj : j < xs.length := (List.getElem?_eq_some_iff.1 hx).1
  have e : xs.take (j + 1) = xs.take j ++ [x] := by rw [List.take_add_one, hx]; rfl
  have h2 := marksString_num k (xs.take j)
  show (mkAll layString k _).1 = (mkAll layString k _).1 ++ _
  rw [e, mkAll_append]
  have h3 : (mkAll layString k (xs.take j)).2 = k + 1 * (j : Int) := by
    have h4 : (mkAll layString k (xs.take j)).2 = _ := h2
    rw [h4, List.length_take, Nat.min_eq_left (by omega)]
  rw [h3]
  rfl
theorem marksString_get (k : Int) (xs : List StringD) (j : Nat) (x : StringD) (hx : xs[j]? = some x) : (layStringS.mark k xs).1[j]? = some (layString.mark (k + 1 * (j : Int)) x).1 := by
  have hj : j < xs.length := (List.getElem?_eq_some_iff.1 hx).1
  have h := marksString_next k xs j x hx
  have e : xs = xs.take (j + 1) ++ xs.drop (j + 1) := (List.take_append_drop _ _).symm
  have e2 : (layStringS.mark k xs).1 = (layStringS.mark k (xs.take (j + 1))).1 ++ (mkAll layString (layStringS.mark k (xs.take (j + 1))).2 (xs.drop (j + 1))).1 := by
    conv => lhs; rw [e]
    show (mkAll layString k _).1 = _
    rw [mkAll_append]
    rfl
  have hl : (layStringS.mark k (xs.take j)).1.length = j := by
    show (mkAll layString k _).1.length = j
    rw [mkAll_length, List.length_take]
    omega
  rw [e2, h, List.getElem?_append_left (by rw [List.length_append, hl]; simp), List.getElem?_append_right (by omega), hl, Nat.sub_self]
  rfl
end Go.Proofs.YtoaifgblbfdncaaDoor
namespace Go.Proofs.YtoaifgblbfdncaaDoor
open Go.RowKit

theorem only_chg {c : Nat} {X Y : World} (h : Only c X Y) : Chg [c] X Y := ⟨h.os, h.tape, h.output, h.size, fun g hg hn => h.block g hg (fun e => hn (List.mem_singleton.2 e))⟩
theorem only_below {c b : Nat} {X Y : World} (h : Only c X Y) (hb : b ≤ c) (hs : b ≤ X.heap.size) : Below b X Y := (only_chg h).below (fun g hg => by rw [List.mem_singleton] at hg; omega) hs

end Go.Proofs.YtoaifgblbfdncaaDoor
namespace Go.Proofs.YtoaifgblbfdncaaDoor
open Go.RowKit

set_option maxRecDepth 100000 in
theorem byte_out (c len cap i : Nat) (a : Option Addr) (h : Int) (w : World) (hi : ¬ i < len)
    (c0 : w.cell? ⟨c, 0, none⟩ = some (.slice a len cap)) (c1 : w.cell? ⟨c, 1, none⟩ = some (.int .i64 i)) (c2 : w.cell? ⟨c, 2, none⟩ = some (.int .i64 h))
    (f2 : w.frozen? ⟨c, 2, none⟩ = false) :
    Calls Tryd.prog 22 #[.pointer (some ⟨c, 0, none⟩)] w fun e w' => ∃ x h' : Int, ∃ n m : Nat, 0 ≤ x ∧ x ≤ 255 ∧ e = .returned (.int .i64 x) ∧ w' = ((w.setCell ⟨c, 2, none⟩ (.int .i64 h')).drewN n).drewN m := by
  go_enter Tryd.func22, Tryd.ntmps22
  go_wp2
  go_quiet (fail)
  go_wp2
  go_quiet (fail)
  go_wp2
  go_ret
  exact ⟨_, _, _, _, (and_mask _ 255 (by decide)).1, (and_mask _ 255 (by decide)).2, rfl, rfl⟩

set_option maxRecDepth 100000 in
theorem byte_in (c len cap i b off : Nat) (h z : Int) (w : World) (hi : i < len) (hlen : len ≤ 1048576) (hbc : b < c) (_ : 0 ≤ z) (_ : z ≤ 255)
    (c0 : w.cell? ⟨c, 0, none⟩ = some (.slice (some ⟨b, off, none⟩) len cap)) (c1 : w.cell? ⟨c, 1, none⟩ = some (.int .i64 i)) (c2 : w.cell? ⟨c, 2, none⟩ = some (.int .i64 h))
    (hz : w.cell? ⟨b, off + i, none⟩ = some (.int .u8 z)) (f1 : w.frozen? ⟨c, 1, none⟩ = false) (f2 : w.frozen? ⟨c, 2, none⟩ = false) :
    Calls Tryd.prog 22 #[.pointer (some ⟨c, 0, none⟩)] w fun e w' => ∃ x h' : Int, ∃ n : Nat, 0 ≤ x ∧ x ≤ 255 ∧ e = .returned (.int .i64 x) ∧ w' = ((w.setCell ⟨c, 2, none⟩ (.int .i64 h')).drewN n).setCell ⟨c, 1, none⟩ (.int .i64 ((i : Int) + 1)) := by
  have hne : b ≠ c := by omega
  go_enter Tryd.func22, Tryd.ntmps22
  go_wp2
  go_quiet (fail)
  go_wp2
  go_quiet (fail)
  go_wp2
  go_quiet (fail)
  go_wp2
  go_ret
  exact ⟨_, _, _, (and_mask _ 255 (by decide)).1, (and_mask _ 255 (by decide)).2, rfl, rfl⟩

theorem byte_any {c : Nat} {a : Option Addr} {len cap : Nat} (w : World) (H : Cur c a len cap w) :
    Calls Tryd.prog 22 #[.pointer (some ⟨c, 0, none⟩)] w (DrewInt 255 c a len cap w) := by
  obtain ⟨i, hi, c1⟩ := H.c1
  obtain ⟨h, c2⟩ := H.c2
  have c0 := H.c0
  have f1 := H.f1
  have f2 := H.f2
  rcases Nat.lt_or_ge i len with hlt | hge
  · obtain ⟨b, off, z, rfl, hbc, hz, hz0, hz1⟩ := H.bytes i hlt
    refine (byte_in c len cap i b off h z w hlt H.few hbc hz0 hz1 c0 c1 c2 hz f1 f2).mono ?_
    rintro e w' ⟨x, h', n, x0, x1, rfl, rfl⟩
    have ho : Only c w (((w.setCell ⟨c, 2, none⟩ (.int .i64 h')).drewN n).setCell ⟨c, 1, none⟩ (.int .i64 ((i : Int) + 1))) := ((Only.setCell 2 _).drewN n).trans (.setCell 1 _)
    refine ⟨x, x0, x1, rfl, H.turn ho ?_ ⟨i + 1, hlt, ?_⟩ ⟨h', ?_⟩ ?_ ?_, ho⟩
    · rw [set_off _ _ _ _ _ (by decide), World.cell?_drewN, set_off _ _ _ _ _ (by decide)]
      exact c0
    · exact set_on _ _ _ (.int .i64 i) _ (by rw [World.cell?_drewN, set_off _ _ _ _ _ (by decide)]; exact c1)
    · rw [set_off _ _ _ _ _ (by decide), World.cell?_drewN, set_on _ _ _ _ _ c2]
    · simp [f1]
    · simp [f2]
  · refine (byte_out c len cap i a h w (by omega) c0 c1 c2 f2).mono ?_
    rintro e w' ⟨x, h', n, m, x0, x1, rfl, rfl⟩
    have ho : Only c w (((w.setCell ⟨c, 2, none⟩ (.int .i64 h')).drewN n).drewN m) := ((Only.setCell 2 _).drewN n).drewN m
    refine ⟨x, x0, x1, rfl, H.turn ho ?_ ⟨i, hi, ?_⟩ ⟨h', ?_⟩ ?_ ?_, ho⟩
    · rw [World.cell?_drewN, World.cell?_drewN, set_off _ _ _ _ _ (by decide)]
      exact c0
    · rw [World.cell?_drewN, World.cell?_drewN, set_off _ _ _ _ _ (by decide)]
      exact c1
    · rw [World.cell?_drewN, World.cell?_drewN, set_on _ _ _ _ _ c2]
    · simp [f1]
    · simp [f2]

end Go.Proofs.YtoaifgblbfdncaaDoor
namespace Go.Proofs.YtoaifgblbfdncaaDoor
open Go.RowKit

set_option maxRecDepth 100000 in
set_option maxHeartbeats 400000 in
theorem below_few {c : Nat} {a : Option Addr} {len cap : Nat} (n : Int) (h0 : 0 < n) (h1 : n ≤ 256) (w : World) (H : Cur c a len cap w) :
    Calls Tryd.prog 23 #[.pointer (some ⟨c, 0, none⟩), .int .i64 n] w (DrewInt (n - 1) c a len cap w) := by
  have HC := Lib.hid H
  clear H
  go_enter Tryd.func23, Tryd.ntmps23
  go_wp2_with fail
  refine (byte_any _ HC.out).mono ?_
  rintro e w1 ⟨x, x0, x1, rfl, hc, ho⟩
  have HC1 := Lib.hid hc
  have HO := Lib.hid ho
  clear hc ho
  go_wp2
  go_ret
  exact ⟨_, Int.emod_nonneg _ (by omega), by have := Int.emod_lt_of_pos x h0; omega, rfl, HC1.out, HO.out⟩

set_option maxRecDepth 100000 in
set_option maxHeartbeats 400000 in
theorem below_many {c : Nat} {a : Option Addr} {len cap : Nat} (n : Int) (h0 : 256 < n) (h1 : n ≤ 9223372036854775807) (w : World) (H : Cur c a len cap w) :
    Calls Tryd.prog 23 #[.pointer (some ⟨c, 0, none⟩), .int .i64 n] w (DrewInt (n - 1) c a len cap w) := by
  have HC := Lib.hid H
  clear H
  go_enter Tryd.func23, Tryd.ntmps23
  go_wp2_with fail
  refine (byte_any _ HC.out).mono ?_
  rintro e w1 ⟨x, x0, x1, rfl, hc, ho⟩
  have HC1 := Lib.hid hc
  have HO1 := Lib.hid ho
  clear hc ho
  go_wp2_with fail
  refine (byte_any _ HC1.out).mono ?_
  rintro e w2 ⟨y, y0, y1, rfl, hc, ho⟩
  have HC2 := Lib.hid hc
  have HO2 := Lib.hid ho
  clear hc ho
  go_wp2_with fail
  refine (byte_any _ HC2.out).mono ?_
  rintro e w3 ⟨z, z0, z1, rfl, hc, ho⟩
  have HC3 := Lib.hid hc
  have HO3 := Lib.hid ho
  clear hc ho
  go_wp2_with fail
  refine (byte_any _ HC3.out).mono ?_
  rintro e w4 ⟨u, u0, u1, rfl, hc, ho⟩
  have HC4 := Lib.hid hc
  have HO4 := Lib.hid ho
  clear hc ho
  go_wp2
  go_ret
  refine ⟨_, ?_, ?_, rfl, HC4.out, ((HO1.out.trans HO2.out).trans HO3.out).trans HO4.out⟩
  · exact Int.emod_nonneg _ (by omega)
  · have := Int.emod_lt_of_pos (x * 16777216 + y * 65536 + z * 256 + u) (show 0 < n by omega)
    omega

theorem below_any {c : Nat} {a : Option Addr} {len cap : Nat} (n : Int) (h0 : 0 < n) (h1 : n ≤ 9223372036854775807) (w : World) (H : Cur c a len cap w) :
    Calls Tryd.prog 23 #[.pointer (some ⟨c, 0, none⟩), .int .i64 n] w (DrewInt (n - 1) c a len cap w) := by
  rcases Int.lt_or_le 256 n with h | h
  · exact below_many n h h1 w H
  · exact below_few n h0 h w H

end Go.Proofs.YtoaifgblbfdncaaDoor

/-
  Two slots in a variable, with rows of their own; marked and held.
  Two pairs of slots without numbers seen, in two variables; marked and held.
-/
import Derived.Test.YtoaifgblbfdncabDoorJ25
import Derived.Test.YtoaifgblbfdncabDoorJ20
namespace Go.Proofs.YtoaifgblbfdncabDoor
open Go.RowKit

/-- Two slots in variable G, whose rows lie in blocks from lo on, below hi. -/
structure SO (lo hi G : Nat) (cs : Array Value) (v u : Value) (r s : List Int) (X : World) : Prop where
  var : VarA G SlotsT cs X
  co : ∃ f g : List Nat, (f ++ g).Nodup ∧ layIntS.own X lo f [v] r ∧ layIntS.own X lo g [u] s ∧ ∀ a ∈ f ++ g, a < hi
  gh : hi ≤ G
section
variable {lo hi G : Nat} {cs : Array Value} {v u : Value} {r s : List Int} {X Y : World}
theorem SO.next (h : SO lo hi G cs v u r s X) (hb : Below X.heap.size X Y) : SO lo hi G cs v u r s Y := by
  obtain ⟨f, g, hd, h1, h2, h3⟩ := h.co
  exact ⟨h.var.next hb, ⟨f, g, hd, layIntS.next h1 hb, layIntS.next h2 hb, h3⟩, h.gh⟩
/-- Blocks from a on, below b, alone are changed. -/
def ChgIn (a b : Nat) (X Y : World) : Prop := ∃ f : List Nat, (∀ g ∈ f, a ≤ g ∧ g < b) ∧ Chg f X Y
theorem SO.away (h : SO lo hi G cs v u r s X) {a b : Nat} (hc : ChgIn a b X Y) (ho : b ≤ lo ∨ hi ≤ a) (hG : G < a ∨ b ≤ G) : SO lo hi G cs v u r s Y := by
  obtain ⟨f, g, hd, h1, h2, h3⟩ := h.co
  obtain ⟨e, he, hc⟩ := hc
  refine ⟨⟨(hc.block G h.var.lt (fun hm => by have := he G hm; omega)).trans h.var.row⟩, ⟨f, g, hd, layIntS.chg h1 hc (fun x hx hm => ?_), layIntS.chg h2 hc (fun x hx hm => ?_), h3⟩, h.gh⟩
  · have h5 := (layIntS.blocks h1 x hx).1
    have h6 := h3 x (List.mem_append_left _ hx)
    have h7 := he x hm
    omega
  · have h5 := (layIntS.blocks h2 x hx).1
    have h6 := h3 x (List.mem_append_right _ hx)
    have h7 := he x hm
    omega
theorem ChgIn.var {a b : Nat} (hc : ChgIn a b X Y) {q : Nat} {t : TypeId} {es : Array Value} (h : VarA q t es X) (hq : q < a ∨ b ≤ q) : VarA q t es Y := by
  obtain ⟨f, h1, h2⟩ := hc
  exact ⟨(h2.block q h.lt (fun hm => by have := h1 q hm; omega)).trans h.row⟩
theorem ChgIn.below {W : World} {a b : Nat} (hb : Below W.heap.size W X) (hc : ChgIn a b X Y) (ha : W.heap.size ≤ a) : Below W.heap.size W Y := by
  obtain ⟨f, h1, h2⟩ := hc
  exact hb.trans (h2.below (fun g hg => by have := h1 g hg; omega) hb.size)
theorem ChgIn.size {a b : Nat} (hc : ChgIn a b X Y) : X.heap.size ≤ Y.heap.size := by
  obtain ⟨f, _, h⟩ := hc
  exact h.size
theorem SO.mark {z0 : Int} {z1 z2 : ByteArray} {z3 : Int} {z5 : Int} {n0 : Int} {n1 n2 : ByteArray} {n3 : Int} {n5 : Int} (h : SO lo hi G #[.int .i64 z0, .string z1, .string z2, .int .i64 z3, v, .int .i64 z5, .int .i64 n0, .string n1, .string n2, .int .i64 n3, u, .int .i64 n5] v u r s X) (l4 : r.length ≤ 10000000) (l5 : s.length ≤ 10000000) :
    Calls Tryd.prog 8 #[.agg #[.int .i64 z0, .string z1, .string z2, .int .i64 z3, v, .int .i64 z5, .int .i64 n0, .string n1, .string n2, .int .i64 n3, u, .int .i64 n5], .int .i64 1] X fun e Y => e = .returned (.int .i64 (1 + 1 * (r.length : Int) + 1 * (s.length : Int))) ∧ SO lo hi G #[.int .i64 z0, .string z1, .string z2, .int .i64 z3, v, .int .i64 z5, .int .i64 n0, .string n1, .string n2, .int .i64 n3, u, .int .i64 n5] v u (layIntS.mark 1 r).1 (layIntS.mark (1 + 1 * (r.length : Int)) s).1 Y ∧ ChgIn lo hi X Y := by
  obtain ⟨f, g, hd, h1, h2, h3⟩ := h.co
  refine (markSlots_any z0 z1 z2 z3 v r z5 n0 n1 n2 n3 u s n5 lo f g l4 l5 1 (by omega) (by omega) X hd h1 h2).mono ?_
  rintro e Y ⟨rfl, k1, k2, hc⟩
  have hin : ∀ a ∈ f ++ g, lo ≤ a ∧ a < hi := fun a ha => ⟨by
    rcases List.mem_append.1 ha with ha | ha
    · exact (layIntS.blocks h1 a ha).1
    · exact (layIntS.blocks h2 a ha).1, h3 a ha⟩
  have hG := h.gh
  exact ⟨rfl, ⟨⟨(hc.block G h.var.lt (fun hm => by have := hin G hm; omega)).trans h.var.row⟩, ⟨f, g, hd, k1, k2, h3⟩, h.gh⟩, f ++ g, hin, hc⟩
end
theorem SO.new {W X : World} {cs : Array Value} {v u : Value} {r s : List Int} {f g : List Nat} (hd : (f ++ g).Nodup) (h1 : layIntS.own X W.heap.size f [v] r) (h2 : layIntS.own X W.heap.size g [u] s) : SO W.heap.size X.heap.size X.heap.size cs v u r s (X.alloc (.cells cs SlotsT)) :=
  ⟨VarA.new X SlotsT cs, ⟨f, g, hd, layIntS.next h1 ((Below.refl _ _).alloc (Nat.le_refl _) _), layIntS.next h2 ((Below.refl _ _).alloc (Nat.le_refl _) _), fun a ha => by
    rcases List.mem_append.1 ha with ha | ha
    · exact (layIntS.blocks h1 a ha).2
    · exact (layIntS.blocks h2 a ha).2⟩, Nat.le_refl _⟩

end Go.Proofs.YtoaifgblbfdncabDoor
namespace Go.Proofs.YtoaifgblbfdncabDoor
open Go.RowKit

/-- Two pairs of slots, each the other one's. -/
def PairOf (pa pb : ByteArray) (w : World) (e : Ending) (w' : World) : Prop :=
  ∃ (v u x y : Value) (f g f' g' : List Nat), e = .returned (.tuple #[.agg #[.int .i64 1, .string pa, .string pb, .int .i64 0, v, .int .i64 0, .int .i64 0, .string ⟨#[]⟩, .string ⟨#[]⟩, .int .i64 0, u, .int .i64 0], .agg #[.int .i64 1, .string pb, .string pa, .int .i64 0, x, .int .i64 0, .int .i64 0, .string ⟨#[]⟩, .string ⟨#[]⟩, .int .i64 0, y, .int .i64 0]]) ∧ ((f ++ g) ++ (f' ++ g')).Nodup ∧ layIntS.own w' w.heap.size f [v] [] ∧ layIntS.own w' w.heap.size g [u] [] ∧ layIntS.own w' w.heap.size f' [x] [] ∧ layIntS.own w' w.heap.size g' [y] [] ∧ Below w.heap.size w w'
/-- They lie in variables G and the next; their rows in blocks from lo on, below hi. -/
structure PS (lo hi G : Nat) (pa pb : ByteArray) (v u x y : Value) (X : World) : Prop where
  one : VarA G SlotsT #[.int .i64 1, .string pa, .string pb, .int .i64 0, v, .int .i64 0, .int .i64 0, .string ⟨#[]⟩, .string ⟨#[]⟩, .int .i64 0, u, .int .i64 0] X
  two : VarA (G + 1) SlotsT #[.int .i64 1, .string pb, .string pa, .int .i64 0, x, .int .i64 0, .int .i64 0, .string ⟨#[]⟩, .string ⟨#[]⟩, .int .i64 0, y, .int .i64 0] X
  co : ∃ f g f' g' : List Nat, ((f ++ g) ++ (f' ++ g')).Nodup ∧ layIntS.own X lo f [v] [] ∧ layIntS.own X lo g [u] [] ∧ layIntS.own X lo f' [x] [] ∧ layIntS.own X lo g' [y] [] ∧ ∀ a ∈ (f ++ g) ++ (f' ++ g'), lo ≤ a ∧ a < hi
  gh : hi ≤ G
section
variable {lo hi G : Nat} {pa pb : ByteArray} {v u x y : Value} {X Y : World}
theorem PS.next (h : PS lo hi G pa pb v u x y X) (hb : Below X.heap.size X Y) : PS lo hi G pa pb v u x y Y := by
  obtain ⟨f, g, f', g', hd, h1, h2, h3, h4, h5⟩ := h.co
  exact ⟨h.one.next hb, h.two.next hb, ⟨f, g, f', g', hd, layIntS.next h1 hb, layIntS.next h2 hb, layIntS.next h3 hb, layIntS.next h4 hb, h5⟩, h.gh⟩
theorem PS.away (h : PS lo hi G pa pb v u x y X) {a b : Nat} (hc : ChgIn a b X Y) (ho : b ≤ lo ∨ hi ≤ a) (hG : G + 1 < a ∨ b ≤ G) : PS lo hi G pa pb v u x y Y := by
  obtain ⟨f, g, f', g', hd, h1, h2, h3, h4, h5⟩ := h.co
  have h1' := hc.var h.one (by omega)
  have h2' := hc.var h.two (by omega)
  obtain ⟨e, he, hc⟩ := hc
  have off : ∀ z ∈ (f ++ g) ++ (f' ++ g'), z ∉ e := fun z hz hm => by
    have := h5 z hz
    have := he z hm
    omega
  exact ⟨h1', h2', ⟨f, g, f', g', hd, layIntS.chg h1 hc (fun z hz => off z (by simp [hz])), layIntS.chg h2 hc (fun z hz => off z (by simp [hz])), layIntS.chg h3 hc (fun z hz => off z (by simp [hz])), layIntS.chg h4 hc (fun z hz => off z (by simp [hz])), h5⟩, h.gh⟩
theorem PS.r1 (h : PS lo hi G pa pb v u x y X) : layIntS.rd X [v] [] := by obtain ⟨f, g, f', g', hd, h1, h2, h3, h4, h5⟩ := h.co; exact layIntS.read h1
theorem PS.r2 (h : PS lo hi G pa pb v u x y X) : layIntS.rd X [u] [] := by obtain ⟨f, g, f', g', hd, h1, h2, h3, h4, h5⟩ := h.co; exact layIntS.read h2
theorem PS.r3 (h : PS lo hi G pa pb v u x y X) : layIntS.rd X [x] [] := by obtain ⟨f, g, f', g', hd, h1, h2, h3, h4, h5⟩ := h.co; exact layIntS.read h3
theorem PS.r4 (h : PS lo hi G pa pb v u x y X) : layIntS.rd X [y] [] := by obtain ⟨f, g, f', g', hd, h1, h2, h3, h4, h5⟩ := h.co; exact layIntS.read h4
theorem PS.mark1 (h : PS lo hi G pa pb v u x y X) :
    Calls Tryd.prog 8 #[.agg #[.int .i64 1, .string pa, .string pb, .int .i64 0, v, .int .i64 0, .int .i64 0, .string ⟨#[]⟩, .string ⟨#[]⟩, .int .i64 0, u, .int .i64 0], .int .i64 1] X fun e Y => e = .returned (.int .i64 1) ∧ PS lo hi G pa pb v u x y Y ∧ ChgIn lo hi X Y := by
  obtain ⟨f, g, f', g', hd, h1, h2, h3, h4, h5⟩ := h.co
  have hG := h.gh
  refine (markSlots_any 1 pa pb 0 v [] 0 0 ⟨#[]⟩ ⟨#[]⟩ 0 u [] 0 lo f g (by simp) (by simp) 1 (by omega) (by omega) X (List.nodup_append.1 hd).1 h1 h2).mono ?_
  rintro e Y ⟨rfl, k1, k2, hc⟩
  have hin : ∀ a ∈ f ++ g, lo ≤ a ∧ a < hi := fun a ha => h5 a (List.mem_append_left _ ha)
  have hci : ChgIn lo hi X Y := ⟨_, hin, hc⟩
  have hof : ∀ z ∈ f' ++ g', z ∉ f ++ g := fun z hz hm => (List.nodup_append.1 hd).2.2 z hm z hz rfl
  exact ⟨by simp, ⟨hci.var h.one (by omega), hci.var h.two (by omega), ⟨f, g, f', g', hd, k1, k2, layIntS.chg h3 hc (fun z hz => hof z (List.mem_append_left _ hz)), layIntS.chg h4 hc (fun z hz => hof z (List.mem_append_right _ hz)), h5⟩, h.gh⟩, hci⟩
theorem PS.mark2 (h : PS lo hi G pa pb v u x y X) :
    Calls Tryd.prog 8 #[.agg #[.int .i64 1, .string pb, .string pa, .int .i64 0, x, .int .i64 0, .int .i64 0, .string ⟨#[]⟩, .string ⟨#[]⟩, .int .i64 0, y, .int .i64 0], .int .i64 1] X fun e Y => e = .returned (.int .i64 1) ∧ PS lo hi G pa pb v u x y Y ∧ ChgIn lo hi X Y := by
  obtain ⟨f, g, f', g', hd, h1, h2, h3, h4, h5⟩ := h.co
  have hG := h.gh
  refine (markSlots_any 1 pb pa 0 x [] 0 0 ⟨#[]⟩ ⟨#[]⟩ 0 y [] 0 lo f' g' (by simp) (by simp) 1 (by omega) (by omega) X (List.nodup_append.1 hd).2.1 h3 h4).mono ?_
  rintro e Y ⟨rfl, k1, k2, hc⟩
  have hin : ∀ a ∈ f' ++ g', lo ≤ a ∧ a < hi := fun a ha => h5 a (List.mem_append_right _ ha)
  have hci : ChgIn lo hi X Y := ⟨_, hin, hc⟩
  have hof : ∀ z ∈ f ++ g, z ∉ f' ++ g' := fun z hz hm => (List.nodup_append.1 hd).2.2 z hz z hm rfl
  exact ⟨by simp, ⟨hci.var h.one (by omega), hci.var h.two (by omega), ⟨f, g, f', g', hd, layIntS.chg h1 hc (fun z hz => hof z (List.mem_append_left _ hz)), layIntS.chg h2 hc (fun z hz => hof z (List.mem_append_right _ hz)), k1, k2, h5⟩, h.gh⟩, hci⟩
theorem PS.held1 (h : PS lo hi G pa pb v u x y X) : Calls Tryd.prog 9 #[.agg #[.int .i64 1, .string pa, .string pb, .int .i64 0, v, .int .i64 0, .int .i64 0, .string ⟨#[]⟩, .string ⟨#[]⟩, .int .i64 0, u, .int .i64 0], .int .i64 1] X fun e Y => e = .returned (.int .i64 1) ∧ Below X.heap.size X Y := by
  refine (heldSlots_any 1 pa pb 0 v [] 0 0 ⟨#[]⟩ ⟨#[]⟩ 0 u [] 0 (by simp) (by simp) 1 (by omega) (by omega) X h.r1 h.r2).mono ?_
  rintro e Y ⟨rfl, hb⟩
  exact ⟨by simp, hb⟩
theorem PS.held2 (h : PS lo hi G pa pb v u x y X) : Calls Tryd.prog 9 #[.agg #[.int .i64 1, .string pb, .string pa, .int .i64 0, x, .int .i64 0, .int .i64 0, .string ⟨#[]⟩, .string ⟨#[]⟩, .int .i64 0, y, .int .i64 0], .int .i64 1] X fun e Y => e = .returned (.int .i64 1) ∧ Below X.heap.size X Y := by
  refine (heldSlots_any 1 pb pa 0 x [] 0 0 ⟨#[]⟩ ⟨#[]⟩ 0 y [] 0 (by simp) (by simp) 1 (by omega) (by omega) X h.r3 h.r4).mono ?_
  rintro e Y ⟨rfl, hb⟩
  exact ⟨by simp, hb⟩
end
theorem PS.new {W X : World} {pa pb : ByteArray} {v u x y : Value} {f g f' g' : List Nat} (hd : ((f ++ g) ++ (f' ++ g')).Nodup) (h1 : layIntS.own X W.heap.size f [v] []) (h2 : layIntS.own X W.heap.size g [u] []) (h3 : layIntS.own X W.heap.size f' [x] []) (h4 : layIntS.own X W.heap.size g' [y] []) :
    PS W.heap.size X.heap.size X.heap.size pa pb v u x y ((X.alloc (.cells #[.int .i64 1, .string pa, .string pb, .int .i64 0, v, .int .i64 0, .int .i64 0, .string ⟨#[]⟩, .string ⟨#[]⟩, .int .i64 0, u, .int .i64 0] SlotsT)).alloc (.cells #[.int .i64 1, .string pb, .string pa, .int .i64 0, x, .int .i64 0, .int .i64 0, .string ⟨#[]⟩, .string ⟨#[]⟩, .int .i64 0, y, .int .i64 0] SlotsT)) := by
  have hb : Below X.heap.size X ((X.alloc (.cells #[.int .i64 1, .string pa, .string pb, .int .i64 0, v, .int .i64 0, .int .i64 0, .string ⟨#[]⟩, .string ⟨#[]⟩, .int .i64 0, u, .int .i64 0] SlotsT)).alloc (.cells #[.int .i64 1, .string pb, .string pa, .int .i64 0, x, .int .i64 0, .int .i64 0, .string ⟨#[]⟩, .string ⟨#[]⟩, .int .i64 0, y, .int .i64 0] SlotsT)) := ((Below.refl _ _).alloc (Nat.le_refl _) _).alloc (by simp) _
  have k2 := VarA.new (X.alloc (.cells #[.int .i64 1, .string pa, .string pb, .int .i64 0, v, .int .i64 0, .int .i64 0, .string ⟨#[]⟩, .string ⟨#[]⟩, .int .i64 0, u, .int .i64 0] SlotsT)) SlotsT #[.int .i64 1, .string pb, .string pa, .int .i64 0, x, .int .i64 0, .int .i64 0, .string ⟨#[]⟩, .string ⟨#[]⟩, .int .i64 0, y, .int .i64 0]
  rw [show (X.alloc (.cells #[.int .i64 1, .string pa, .string pb, .int .i64 0, v, .int .i64 0, .int .i64 0, .string ⟨#[]⟩, .string ⟨#[]⟩, .int .i64 0, u, .int .i64 0] SlotsT)).heap.size = X.heap.size + 1 by simp] at k2
  refine ⟨(VarA.new X SlotsT #[.int .i64 1, .string pa, .string pb, .int .i64 0, v, .int .i64 0, .int .i64 0, .string ⟨#[]⟩, .string ⟨#[]⟩, .int .i64 0, u, .int .i64 0]).alloc _, k2, ⟨f, g, f', g', hd, layIntS.next h1 hb, layIntS.next h2 hb, layIntS.next h3 hb, layIntS.next h4 hb, fun a ha => ?_⟩, Nat.le_refl _⟩
  rcases List.mem_append.1 ha with ha | ha <;> rcases List.mem_append.1 ha with ha | ha
  · exact layIntS.blocks h1 a ha
  · exact layIntS.blocks h2 a ha
  · exact layIntS.blocks h3 a ha
  · exact layIntS.blocks h4 a ha

end Go.Proofs.YtoaifgblbfdncabDoor

/-
  Slots and a packet without acks, in two variables; marked and held.
-/
import Derived.Test.YtoaifgblbfdncaaGreatDoorJ43
import Derived.Test.YtoaifgblbfdncaaGreatDoorJ24
namespace Go.Proofs.YtoaifgblbfdncaaGreatDoor
open Go.RowKit

/-- They lie in variables G and the next; their rows in blocks from lo on, below hi. -/
structure SK (lo hi G : Nat) (cs ds : Array Value) (v u va : Value) (r s : List Int) (X : World) : Prop where
  one : VarA G SlotsT cs X
  two : VarA (G + 1) PkT ds X
  co : ∃ f g h : List Nat, ((f ++ g) ++ h).Nodup ∧ layIntS.own X lo f [v] r ∧ layIntS.own X lo g [u] s ∧ layIntS.own X lo h [va] [] ∧ ∀ a ∈ (f ++ g) ++ h, lo ≤ a ∧ a < hi
  gh : hi ≤ G
section
variable {lo hi G : Nat} {cs ds : Array Value} {v u va : Value} {r s : List Int} {X Y : World}
theorem SK.next (h : SK lo hi G cs ds v u va r s X) (hb : Below X.heap.size X Y) : SK lo hi G cs ds v u va r s Y := by
  obtain ⟨f, g, k, hd, h1, h2, h3, h4⟩ := h.co
  exact ⟨h.one.next hb, h.two.next hb, ⟨f, g, k, hd, layIntS.next h1 hb, layIntS.next h2 hb, layIntS.next h3 hb, h4⟩, h.gh⟩
theorem SK.r1 (h : SK lo hi G cs ds v u va r s X) : layIntS.rd X [v] r := by obtain ⟨f, g, k, hd, h1, h2, h3, h4⟩ := h.co; exact layIntS.read h1
theorem SK.r2 (h : SK lo hi G cs ds v u va r s X) : layIntS.rd X [u] s := by obtain ⟨f, g, k, hd, h1, h2, h3, h4⟩ := h.co; exact layIntS.read h2
theorem SK.r3 (h : SK lo hi G cs ds v u va r s X) : layIntS.rd X [va] [] := by obtain ⟨f, g, k, hd, h1, h2, h3, h4⟩ := h.co; exact layIntS.read h3
theorem SK.away (h : SK lo hi G cs ds v u va r s X) {a b : Nat} (hc : ChgIn a b X Y) (ho : b ≤ lo ∨ hi ≤ a) (hG : G + 1 < a ∨ b ≤ G) : SK lo hi G cs ds v u va r s Y := by
  obtain ⟨f, g, k, hd, h1, h2, h3, h4⟩ := h.co
  have h1' := hc.var h.one (by omega)
  have h2' := hc.var h.two (by omega)
  obtain ⟨e, he, hc⟩ := hc
  have off : ∀ z ∈ (f ++ g) ++ k, z ∉ e := fun z hz hm => by
    have := h4 z hz
    have := he z hm
    omega
  exact ⟨h1', h2', ⟨f, g, k, hd, layIntS.chg h1 hc (fun z hz => off z (by simp [hz])), layIntS.chg h2 hc (fun z hz => off z (by simp [hz])), layIntS.chg h3 hc (fun z hz => off z (by simp [hz])), h4⟩, h.gh⟩
theorem SK.new {W : World} {f g k : List Nat} (hd : ((f ++ g) ++ k).Nodup) (h1 : layIntS.own X W.heap.size f [v] r) (h2 : layIntS.own X W.heap.size g [u] s) (h3 : layIntS.own X W.heap.size k [va] []) : SK W.heap.size X.heap.size X.heap.size cs ds v u va r s ((X.alloc (.cells cs SlotsT)).alloc (.cells ds PkT)) := by
  have hal : Below X.heap.size X ((X.alloc (.cells cs SlotsT)).alloc (.cells ds PkT)) := ((Below.refl _ _).alloc (Nat.le_refl _) _).alloc (by simp) _
  have k2 := VarA.new (X.alloc (.cells cs SlotsT)) PkT ds
  rw [show (X.alloc (.cells cs SlotsT)).heap.size = X.heap.size + 1 by simp] at k2
  refine ⟨(VarA.new X SlotsT cs).alloc _, k2, ⟨f, g, k, hd, layIntS.next h1 hal, layIntS.next h2 hal, layIntS.next h3 hal, fun a ha => ?_⟩, Nat.le_refl _⟩
  rcases List.mem_append.1 ha with ha | ha
  · rcases List.mem_append.1 ha with ha | ha
    · exact layIntS.blocks h1 a ha
    · exact layIntS.blocks h2 a ha
  · exact layIntS.blocks h3 a ha
theorem SK.mark1 {x0 : Int} {x1 x2 : ByteArray} {c : Int} {x5 : Int} {y0 : Int} {y1 y2 : ByteArray} {y3 : Int} {y5 : Int} (h : SK lo hi G #[.int .i64 x0, .string x1, .string x2, .int .i64 c, v, .int .i64 x5, .int .i64 y0, .string y1, .string y2, .int .i64 y3, u, .int .i64 y5] ds v u va r s X) (l4 : r.length ≤ 10000000) (l5 : s.length ≤ 10000000) :
    Calls Tryz.prog 20 #[.agg #[.int .i64 x0, .string x1, .string x2, .int .i64 c, v, .int .i64 x5, .int .i64 y0, .string y1, .string y2, .int .i64 y3, u, .int .i64 y5], .int .i64 1] X fun e Y => e = .returned (.int .i64 (1 + 1 * (r.length : Int) + 1 * (s.length : Int))) ∧ SK lo hi G #[.int .i64 x0, .string x1, .string x2, .int .i64 c, v, .int .i64 x5, .int .i64 y0, .string y1, .string y2, .int .i64 y3, u, .int .i64 y5] ds v u va (layIntS.mark 1 r).1 (layIntS.mark (1 + 1 * (r.length : Int)) s).1 Y ∧ ChgIn lo hi X Y := by
  obtain ⟨f, g, k, hd, h1, h2, h3, h4⟩ := h.co
  have hG := h.gh
  refine (markSlots_any x0 x1 x2 c v r x5 y0 y1 y2 y3 u s y5 lo f g l4 l5 1 (by omega) (by omega) X (List.nodup_append.1 hd).1 h1 h2).mono ?_
  rintro e Y ⟨rfl, m1, m2, hc⟩
  have hin : ∀ a ∈ f ++ g, lo ≤ a ∧ a < hi := fun a ha => h4 a (List.mem_append_left _ ha)
  have hci : ChgIn lo hi X Y := ⟨_, hin, hc⟩
  have hof : ∀ z ∈ k, z ∉ f ++ g := fun z hz hm => (List.nodup_append.1 hd).2.2 z hm z hz rfl
  exact ⟨rfl, ⟨hci.var h.one (by omega), hci.var h.two (by omega), ⟨f, g, k, hd, m1, m2, layIntS.chg h3 hc hof, h4⟩, h.gh⟩, hci⟩
theorem SK.mark2 {k0 k1 k2 k3 k4 : Int} {k6 : ByteArray} (h : SK lo hi G cs #[.int .i64 k0, .int .i64 k1, .int .i64 k2, .int .i64 k3, .int .i64 k4, va, .string k6] v u va r s X) (m : Int) (hm0 : 0 ≤ m) (hm1 : m ≤ 1000000000) :
    Calls Tryz.prog 21 #[.agg #[.int .i64 k0, .int .i64 k1, .int .i64 k2, .int .i64 k3, .int .i64 k4, va, .string k6], .int .i64 m] X fun e Y => e = .returned (.int .i64 m) ∧ SK lo hi G cs #[.int .i64 k0, .int .i64 k1, .int .i64 k2, .int .i64 k3, .int .i64 k4, va, .string k6] v u va r s Y ∧ ChgIn lo hi X Y := by
  obtain ⟨f, g, k, hd, h1, h2, h3, h4⟩ := h.co
  have hG := h.gh
  have hkd := (List.nodup_append.1 hd).2.1
  refine (markPacket_any k0 k1 k2 k3 k4 va [] k6 lo k m hm0 hm1 (by simp) X hkd h3).mono ?_
  rintro e Y ⟨rfl, m3, hc⟩
  have hin : ∀ a ∈ k, lo ≤ a ∧ a < hi := fun a ha => h4 a (List.mem_append_right _ ha)
  have hci : ChgIn lo hi X Y := ⟨_, hin, hc⟩
  have hof : ∀ z ∈ f ++ g, z ∉ k := fun z hz hm => (List.nodup_append.1 hd).2.2 z hz z hm rfl
  exact ⟨by simp, ⟨hci.var h.one (by omega), hci.var h.two (by omega), ⟨f, g, k, hd, layIntS.chg h1 hc (fun z hz => hof z (List.mem_append_left _ hz)), layIntS.chg h2 hc (fun z hz => hof z (List.mem_append_right _ hz)), m3, h4⟩, h.gh⟩, hci⟩
theorem SK.held1 {x0 : Int} {x1 x2 : ByteArray} {c : Int} {x5 : Int} {y0 : Int} {y1 y2 : ByteArray} {y3 : Int} {y5 : Int} (h : SK lo hi G #[.int .i64 x0, .string x1, .string x2, .int .i64 c, v, .int .i64 x5, .int .i64 y0, .string y1, .string y2, .int .i64 y3, u, .int .i64 y5] ds v u va (layIntS.mark 1 r).1 (layIntS.mark (1 + 1 * (r.length : Int)) s).1 X) (l4 : r.length ≤ 10000000) (l5 : s.length ≤ 10000000) :
    Calls Tryz.prog 22 #[.agg #[.int .i64 x0, .string x1, .string x2, .int .i64 c, v, .int .i64 x5, .int .i64 y0, .string y1, .string y2, .int .i64 y3, u, .int .i64 y5], .int .i64 1] X fun e Y => e = .returned (.int .i64 (1 + 1 * (r.length : Int) + 1 * (s.length : Int))) ∧ Below X.heap.size X Y :=
  heldSlots_any x0 x1 x2 c v r x5 y0 y1 y2 y3 u s y5 l4 l5 1 (by omega) (by omega) X h.r1 h.r2
theorem SK.held2 {k0 k1 k2 k3 k4 : Int} {k6 : ByteArray} (h : SK lo hi G cs #[.int .i64 k0, .int .i64 k1, .int .i64 k2, .int .i64 k3, .int .i64 k4, va, .string k6] v u va r s X) (m : Int) (hm0 : 0 ≤ m) (hm1 : m ≤ 1000000000) :
    Calls Tryz.prog 23 #[.agg #[.int .i64 k0, .int .i64 k1, .int .i64 k2, .int .i64 k3, .int .i64 k4, va, .string k6], .int .i64 m] X fun e Y => e = .returned (.int .i64 m) ∧ Below X.heap.size X Y := by
  refine (heldPacket_any k0 k1 k2 k3 k4 va 0 k6 m hm0 hm1 (by omega) X h.r3).mono ?_
  rintro e Y ⟨rfl, hb⟩
  exact ⟨by simp, hb⟩
end

end Go.Proofs.YtoaifgblbfdncaaGreatDoor

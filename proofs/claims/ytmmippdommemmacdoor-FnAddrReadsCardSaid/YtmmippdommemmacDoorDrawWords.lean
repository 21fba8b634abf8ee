/-
  Words that may be an address or a prefix, drawn; some addresses and a prefix, drawn.
-/
import Derived.Test.YtmmippdommemmacDoorDrawPrefix
import Derived.Test.YtmmippdommemmacDoorDrawPlaces
namespace Go.Proofs.YtmmippdommemmacDoor
open Go.RowKit

theorem specAddrText_few (x : Int) : ∃ t : ByteArray, t.size ≤ 15 ∧ ∀ X, Calls Tryd.prog 15 #[.int .i64 x] X fun e X' => e = .returned (.string t) ∧ Below X.heap.size X X' := by
  by_cases h : x < 0 ∨ 4294967295 < x
  · exact ⟨_, by decide, specAddrText_no x h⟩
  · obtain ⟨b, rfl⟩ := Int.eq_ofNat_of_zero_le (show 0 ≤ x by omega)
    exact ⟨_, addrP_size b (by omega), specAddrText_yes b (by omega)⟩
theorem specPrefixText_few (x y : Int) : ∃ (t : ByteArray) (b : Bool), t.size ≤ 20 ∧ ∀ X, Calls Tryd.prog 24 #[.agg #[.int .i64 x, .int .i64 y]] X fun e X' => e = .returned (.tuple #[.string t, .bool b]) ∧ Below X.heap.size X X' := by
  by_cases h : PrefOk x y
  · obtain ⟨b, m, rfl, rfl, hb, hm, _⟩ := h.nats
    exact ⟨_, _, prefP_size b m hb hm, specPrefixText_yes b m h⟩
  · exact ⟨_, _, by decide, specPrefixText_no x y h⟩
def addrWords : List ByteArray := [⟨#[]⟩, ⟨#[49, 46, 50, 46, 51]⟩, ⟨#[49, 46, 50, 46, 51, 46, 52, 46, 53]⟩, ⟨#[49, 46, 50, 46, 51, 46, 50, 53, 54]⟩, ⟨#[49, 46, 50, 46, 46, 51]⟩, ⟨#[48, 49, 46, 50, 46, 51, 46, 52]⟩, ⟨#[97, 46, 98, 46, 99, 46, 100]⟩, ⟨#[48, 46, 48, 46, 48, 46, 48]⟩]
theorem addrWords_few (t : ByteArray) (h : t ∈ addrWords) : t.size ≤ 1001 := by
  simp only [addrWords, List.mem_cons, List.not_mem_nil, or_false] at h
  rcases h with rfl | rfl | rfl | rfl | rfl | rfl | rfl | rfl <;> decide
def prefWords : List ByteArray := [⟨#[]⟩, ⟨#[49, 46, 50, 46, 51, 46, 52]⟩, ⟨#[49, 46, 50, 46, 51, 46, 52, 47, 51, 51]⟩, ⟨#[49, 46, 50, 46, 51, 46, 52, 47, 56]⟩, ⟨#[48, 46, 48, 46, 48, 46, 48, 47, 48]⟩, ⟨#[49, 46, 50, 46, 51, 46, 52, 47, 51, 50, 47]⟩, ⟨#[49, 46, 50, 46, 51, 46, 52, 47, 48, 51, 50]⟩]
theorem prefWords_few (t : ByteArray) (h : t ∈ prefWords) : t.size ≤ 1001 := by
  simp only [prefWords, List.mem_cons, List.not_mem_nil, or_false] at h
  rcases h with rfl | rfl | rfl | rfl | rfl | rfl | rfl <;> decide

set_option maxRecDepth 100000 in
set_option maxHeartbeats 800000 in
theorem drawReadAddr_any (a : Option Addr) (len cap : Nat) (w : World) (H : Src a len w) :
    Calls Tryd.prog 5 #[.slice a len cap] w fun e w' => ∃ t : ByteArray, t.size ≤ 1001 ∧ e = .returned (.string t) ∧ Below w.heap.size w w' := by
  have HS := Lib.hid H
  clear H
  go_enter Tryd.func5, Tryd.ntmps5
  go_wp2_with fail
  refine (new_any a len cap _ HS.out).mono ?_
  rintro e w1 ⟨c, rfl, hc, hcur, hb⟩
  have HC1 := Lib.hid hcur
  have HB1 := Lib.hid hb
  clear hcur hb
  go_wp2_with fail
  refine (addr_any _ HC1.out).mono ?_
  rintro e w2 ⟨x, hx, rfl, hcur, ho⟩
  have HC2 := Lib.hid hcur
  have HB2 := Lib.hid (HB1.out.trans (ho.below hc HB1.out.size))
  clear hcur ho hx
  obtain ⟨t, ht, k3⟩ := specAddrText_few x
  have H3 := Lib.hid k3
  clear k3
  go_wp2_with fail
  refine (H3.out _).mono ?_
  rintro e w3 ⟨rfl, hb3⟩
  have HC3 := Lib.hid (HC2.out.below hb3)
  have HB3 := Lib.hid (HB2.out.trans (hb3.mono HB2.out.size))
  clear hb3
  go_wp2_with fail
  refine (below_any 6 (by omega) (by omega) _ HC3.out).mono ?_
  rintro e w4 ⟨z, z0, z1, rfl, hcur, ho⟩
  have HC4 := Lib.hid hcur
  have HB4 := Lib.hid (HB3.out.trans (ho.below hc HB3.out.size))
  clear hcur ho
  have h3 : z = 0 ∨ z = 1 ∨ 2 ≤ z := by omega
  rcases h3 with rfl | rfl | z2
  · have hcs : c < w4.heap.size := cell_size (p := ⟨c, 0, none⟩) HC4.out.c0
    have hb5 : Below w4.heap.size w4 (w4.alloc (.cells #[.string ⟨#[]⟩, .string ⟨#[49, 46, 50, 46, 51]⟩, .string ⟨#[49, 46, 50, 46, 51, 46, 52, 46, 53]⟩, .string ⟨#[49, 46, 50, 46, 51, 46, 50, 53, 54]⟩, .string ⟨#[49, 46, 50, 46, 46, 51]⟩, .string ⟨#[48, 49, 46, 50, 46, 51, 46, 52]⟩, .string ⟨#[97, 46, 98, 46, 99, 46, 100]⟩, .string ⟨#[48, 46, 48, 46, 48, 46, 48]⟩] 9)) := (Below.refl _ _).alloc (Nat.le_refl _) _
    have HC5 := Lib.hid (HC4.out.below hb5)
    have HB5 := Lib.hid (HB4.out.trans (hb5.mono HB4.out.size))
    clear hb5
    go_wp2_with fail
    refine (pickText_any w4.heap.size 8 addrWords rfl (by omega) (by omega) (by omega) _ HC5.out ?_).mono ?_
    · intro j hj
      have h8 : j = 0 ∨ j = 1 ∨ j = 2 ∨ j = 3 ∨ j = 4 ∨ j = 5 ∨ j = 6 ∨ j = 7 := by omega
      rcases h8 with rfl | rfl | rfl | rfl | rfl | rfl | rfl | rfl <;> simp [addrWords]
    rintro e w6 ⟨u, hu, rfl, hcur, ho⟩
    have HB6 := Lib.hid (HB5.out.trans (ho.below hc HB5.out.size))
    have HU := Lib.hid (addrWords_few u hu)
    clear hcur ho hu
    go_wp2_with fail
    go_ret
    exact ⟨u, HU.out, rfl, HB6.out⟩
  · go_wp2_with fail
    refine (spoilt_any t (by omega) _ HC4.out).mono ?_
    rintro e w5 ⟨u, hu, rfl, hcur, ho⟩
    have HB5 := Lib.hid (HB4.out.trans (ho.below hc HB4.out.size))
    clear hcur ho
    go_wp2_with fail
    go_ret
    exact ⟨u, hu, rfl, HB5.out⟩
  · have n0 : ¬ (z = 0) := by omega
    have n1 : ¬ (z = 1) := by omega
    go_wp2_with fail
    go_ret
    exact ⟨t, by omega, rfl, HB4.out⟩

set_option maxRecDepth 100000 in
set_option maxHeartbeats 800000 in
theorem drawReadPrefix_any (a : Option Addr) (len cap : Nat) (w : World) (H : Src a len w) :
    Calls Tryd.prog 8 #[.slice a len cap] w fun e w' => ∃ t : ByteArray, t.size ≤ 1001 ∧ e = .returned (.string t) ∧ Below w.heap.size w w' := by
  have HS := Lib.hid H
  clear H
  go_enter Tryd.func8, Tryd.ntmps8
  go_wp2_with fail
  refine (new_any a len cap _ HS.out).mono ?_
  rintro e w1 ⟨c, rfl, hc, hcur, hb⟩
  have HC1 := Lib.hid hcur
  have HB1 := Lib.hid hb
  clear hcur hb
  go_wp2_with fail
  refine (anyPrefix_any _ HC1.out).mono ?_
  rintro e w2 ⟨x, y, rfl, hcur, ho⟩
  have HC2 := Lib.hid hcur
  have HB2 := Lib.hid (HB1.out.trans (ho.below hc HB1.out.size))
  clear hcur ho
  obtain ⟨t, b, ht, k3⟩ := specPrefixText_few x y
  have H3 := Lib.hid k3
  clear k3
  go_wp2_with fail
  refine (H3.out _).mono ?_
  rintro e w3 ⟨rfl, hb3⟩
  have HC3 := Lib.hid (HC2.out.below hb3)
  have HB3 := Lib.hid (HB2.out.trans (hb3.mono HB2.out.size))
  clear hb3
  go_wp2_with fail
  refine (below_any 6 (by omega) (by omega) _ HC3.out).mono ?_
  rintro e w4 ⟨z, z0, z1, rfl, hcur, ho⟩
  have HC4 := Lib.hid hcur
  have HB4 := Lib.hid (HB3.out.trans (ho.below hc HB3.out.size))
  clear hcur ho
  have h3 : z = 0 ∨ z = 1 ∨ 2 ≤ z := by omega
  rcases h3 with rfl | rfl | z2
  · have hcs : c < w4.heap.size := cell_size (p := ⟨c, 0, none⟩) HC4.out.c0
    have hb5 : Below w4.heap.size w4 (w4.alloc (.cells #[.string ⟨#[]⟩, .string ⟨#[49, 46, 50, 46, 51, 46, 52]⟩, .string ⟨#[49, 46, 50, 46, 51, 46, 52, 47, 51, 51]⟩, .string ⟨#[49, 46, 50, 46, 51, 46, 52, 47, 56]⟩, .string ⟨#[48, 46, 48, 46, 48, 46, 48, 47, 48]⟩, .string ⟨#[49, 46, 50, 46, 51, 46, 52, 47, 51, 50, 47]⟩, .string ⟨#[49, 46, 50, 46, 51, 46, 52, 47, 48, 51, 50]⟩] 9)) := (Below.refl _ _).alloc (Nat.le_refl _) _
    have HC5 := Lib.hid (HC4.out.below hb5)
    have HB5 := Lib.hid (HB4.out.trans (hb5.mono HB4.out.size))
    clear hb5
    go_wp2_with fail
    refine (pickText_any w4.heap.size 7 prefWords rfl (by omega) (by omega) (by omega) _ HC5.out ?_).mono ?_
    · intro j hj
      have h8 : j = 0 ∨ j = 1 ∨ j = 2 ∨ j = 3 ∨ j = 4 ∨ j = 5 ∨ j = 6 := by omega
      rcases h8 with rfl | rfl | rfl | rfl | rfl | rfl | rfl <;> simp [prefWords]
    rintro e w6 ⟨u, hu, rfl, hcur, ho⟩
    have HB6 := Lib.hid (HB5.out.trans (ho.below hc HB5.out.size))
    have HU := Lib.hid (prefWords_few u hu)
    clear hcur ho hu
    go_wp2_with fail
    go_ret
    exact ⟨u, HU.out, rfl, HB6.out⟩
  · go_wp2_with fail
    refine (spoilt_any t (by omega) _ HC4.out).mono ?_
    rintro e w5 ⟨u, hu, rfl, hcur, ho⟩
    have HB5 := Lib.hid (HB4.out.trans (ho.below hc HB4.out.size))
    clear hcur ho
    go_wp2_with fail
    go_ret
    exact ⟨u, hu, rfl, HB5.out⟩
  · have n0 : ¬ (z = 0) := by omega
    have n1 : ¬ (z = 1) := by omega
    go_wp2_with fail
    go_ret
    exact ⟨t, by omega, rfl, HB4.out⟩

/-- How a draw of addresses and a prefix ends. -/
def DrewAddrs (w : World) (e : Ending) (w' : World) : Prop :=
  ∃ (g cap : Nat) (zs : List Int) (x n : Nat), zs.length = 6 ∧ (∀ z ∈ zs, 167772160 ≤ z ∧ z ≤ 167773183) ∧ PrefOk x n ∧ e = .returned (.tuple #[.slice (some ⟨g, 0, none⟩) 6 cap, .agg #[.int .i64 x, .int .i64 n]]) ∧ g < w'.heap.size ∧ (∀ j, j < 6 → w'.cell? ⟨g, j, none⟩ = some (.int .i64 (zs.getD j 0))) ∧ Below w.heap.size w w'

end Go.Proofs.YtmmippdommemmacDoor

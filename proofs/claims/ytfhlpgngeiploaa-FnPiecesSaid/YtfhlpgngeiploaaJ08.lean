/-
  The program's Split.
  The given test of a range, by what it answers.
  The given l05Byte: one byte as a text.
-/
import Derived.Test.YtfhlpgngeiploaaJ06
import Derived.Test.YtfhlpgngeiploaaJ07
import Derived.Test.YtfhlpgngeiploaaJ03
import Derived.Test.YtfhlpgngeiploaaRows
import Derived.Test.YtfhlpgngeiploaaJ01
namespace Go.Proofs.Ytfhlpgngeiploaa
open Go.RowKit

/-- '[]byte(t)', with its room. -/
theorem bytes_text2 (w : World) (t : ByteArray) : ∃ (cp : Nat) (w' : World), (convert 9 22 (.string t)).run Try.prog w = .ok (.slice (some ⟨w.heap.size, 0, none⟩) t.size cp) w' ∧ t.size ≤ cp ∧ Below w.heap.size w w' ∧ w.heap.size < w'.heap.size ∧ RowB w.heap.size t.data.toList w' := by
  have hl : t.data.toList.length = t.size := by simp
  refine ⟨_, _, Lib.run_convert_string_bytes w 9 22 5 t Try.underlying9 Try.underlying22 Try.underlying5, grownCap_ge _ _ _ _, ⟨rfl, rfl, rfl, by rw [Lib.bytesWorld_size]; omega, fun k hk => Lib.bytesWorld_at_old w _ t k hk⟩, by rw [Lib.bytesWorld_size]; omega, fun j hj => Lib.bytesWorld_cell w _ t j (by omega), fun j hj => ?_⟩
  have h := Lib.bytesWorld_at_new w 5 t
  have hz : t.size ≤ (Lib.bytesCells w 5 t).size := by simp [Lib.bytesCells]
  unfold World.frozen?
  rw [h]
  simp
  omega

set_option maxRecDepth 100000 in
set_option maxHeartbeats 3200000 in
theorem implPieces_any (id : Int) (s : ByteArray) (size : Int) (out : List ByteArray) (ok : Bool) (h : SplitIs id s size out ok) (_hz : s.size ≤ 9223372036854775807) (w : World) :
    Calls Try.prog 9 #[.int .i64 id, .string s, .int .i64 size] w fun e w' => ∃ v f, e = .returned (.tuple #[v, .bool ok]) ∧ f.Nodup ∧ layStringS.own w' w.heap.size f [v] out ∧ Below w.heap.size w w' := by
  obtain ⟨i0, hi, hz0, hsz0, hby0⟩ := info_of infoString
  obtain ⟨Q, HQ⟩ : ∃ Q : Ending → World → Prop, Hid (Q = fun e w' => ∃ v f, e = .returned (.tuple #[v, .bool ok]) ∧ f.Nodup ∧ layStringS.own w' w.heap.size f [v] out ∧ Below w.heap.size w w') := ⟨_, Lib.hid rfl⟩
  rw [← HQ.out]
  have hal : Below w.heap.size w (w.alloc (.cells #[] StringT)) := (Below.refl _ _).alloc (Nat.le_refl _) _
  have O1 : Hid (layStringS.own (w.alloc (.cells #[] StringT)) w.heap.size [w.heap.size] [.slice (some ⟨w.heap.size, 0, none⟩) 0 0] []) := Lib.hid (flat_lit w _ (Nat.le_refl _))
  have B1 := Lib.hid hal
  clear hal
  have EN : Hid (¬ SplitP id s size → Q (.returned (.tuple #[.slice (some ⟨w.heap.size, 0, none⟩) 0 0, .bool false])) (w.alloc (.cells #[] StringT))) := Lib.hid (fun hn => by
    rcases h with ⟨_, hp, _⟩ | ⟨rfl, _, rfl⟩
    · exact absurd hp hn
    · rw [HQ.out]
      exact ⟨_, _, rfl, by simp, O1.out, B1.out⟩)
  clear O1 B1
  go_enter Try.func9, Try.ntmps9
  by_cases h1 : 0 ≤ id ∧ id ≤ 255
  rotate_left
  · have K := Lib.hid (isPieceId_any id false ⟨fun e => (by cases e), fun e => absurd e h1⟩)
    have E := Lib.hid (EN.out (fun hp => h1 hp.1))
    clear h h1 EN
    go_wp2_with fail
    refine (K.out _).mono ?_
    rintro e w1 ⟨rfl, rfl⟩
    go_wp2_with fail
    exact E.out
  have K1 := Lib.hid (isPieceId_any id true ⟨fun _ => h1, fun _ => rfl⟩)
  by_cases h2 : 20 ≤ size
  rotate_left
  · have d2 : decide (size < 20) = true := decide_eq_true (by omega)
    have E := Lib.hid (EN.out (fun hp => h2 hp.2.1.1))
    clear h h1 h2 EN
    go_wp2_with fail
    refine (K1.out _).mono ?_
    rintro e w1 ⟨rfl, rfl⟩
    go_wp2_with fail
    exact E.out
  have d2 : decide (size < 20) = false := decide_eq_false (by omega)
  by_cases h2b : size ≤ 120
  rotate_left
  · have d3 : decide (120 < size) = true := decide_eq_true (by omega)
    have E := Lib.hid (EN.out (fun hp => h2b hp.2.1.2))
    clear h h1 h2 h2b EN
    go_wp2_with fail
    refine (K1.out _).mono ?_
    rintro e w1 ⟨rfl, rfl⟩
    go_wp2_with fail
    exact E.out
  have d3 : decide (120 < size) = false := decide_eq_false (by omega)
  by_cases h3 : s.size ≤ 300
  rotate_left
  · have d4 : decide ((300 : Int) < (s.size : Int)) = true := decide_eq_true (by omega)
    have E := Lib.hid (EN.out (fun hp => h3 hp.2.2))
    clear h h1 h2 h2b h3 EN
    go_wp2_with fail
    refine (K1.out _).mono ?_
    rintro e w1 ⟨rfl, rfl⟩
    go_wp2_with fail
    exact E.out
  have d4 : decide ((300 : Int) < (s.size : Int)) = false := decide_eq_false (by omega)
  obtain ⟨m, rfl⟩ := Int.eq_ofNat_of_zero_le (show 0 ≤ id by omega)
  obtain ⟨k, rfl⟩ := Int.eq_ofNat_of_zero_le (show 0 ≤ size by omega)
  obtain ⟨rfl, hout⟩ : ok = true ∧ out = partsP m (countP s.size k) k s (countP s.size k) := by
    rcases h with ⟨h, _, h2⟩ | ⟨_, hp, _⟩
    · exact ⟨h, by rwa [Int.toNat_natCast, Int.toNat_natCast] at h2⟩
    · exact absurd ⟨h1, ⟨h2, h2b⟩, h3⟩ hp
  have hc := count_few (n := s.size) (size := k) h3 (by omega)
  have he := count_end (n := s.size) (size := k) (by omega)
  have HOUT := Lib.hid hout
  obtain ⟨cp, w1, hcv, hcp, hb1, hs1, hr1⟩ := bytes_text2 w s
  have KC := Lib.hid (cutOf_any w.heap.size s.size k cp (by omega) (by omega) h3 hcp w1)
  have HB1 := Lib.hid hb1
  have HR1 := Lib.hid hr1
  have HS1 := Lib.hid hs1
  obtain ⟨c, hcc⟩ : ∃ c, countP s.size k = c := ⟨_, rfl⟩
  have HE := Lib.hid he
  unfold CutEnd at KC
  rw [hcc] at hc HOUT HE KC
  have hm256 : m < 256 := by omega
  have hc256 : c < 256 := by omega
  clear h EN hout he hb1 hr1 hs1 hcc
  go_wp2_with fail
  refine (K1.out _).mono ?_
  rintro e w0 ⟨rfl, hw0⟩
  rw [hw0]
  clear hw0 w0
  go_wp2_with fail
  refine KC.out.mono ?_
  rintro e w2 ⟨g, kk, rfl, ho, hb2⟩
  have HC2 := Lib.hid ho
  have HB2 := Lib.hid hb2
  clear ho hb2 KC K1 hcv d2 d3 d4
  go_wp2_with (at_make; refine wpList_make_own _ rfl _ _ 26 rfl w2.heap.size StringT i0 (.string ⟨#[]⟩) 1 Try.underlying26 hi hz0 hsz0 .i64 .i64 _ c rfl rfl rfl (by rw [hby0]; omega) (by unfold maxLen; omega) (Nat.le_refl _) ?_)
  intro w3 hown1 hg1
  have O1 : Hid (layStringS.own w3 w2.heap.size [w2.heap.size] [.slice (some ⟨w2.heap.size, 0, none⟩) 0 c] []) := flat_own flatString hown1 rfl
  have B3 : Hid (Below w2.heap.size w2 w3) := below_grown hg1 (fun k h => by cases h) (Nat.le_refl _)
  clear hown1 hg1
  go_wp2_with fail
  go_loopw [9, 38] (fun t n wr => ∃ (i q qk : Nat) (ys : List ByteArray), i ≤ c ∧ n = .int .i64 i ∧ t = .slice (some ⟨q, 0, none⟩) ys.length qk ∧ Hid (ys = partsP m c k s i) ∧ Hid (layStringS.own wr w2.heap.size [q] [.slice (some ⟨q, 0, none⟩) ys.length qk] ys) ∧ Hid (Below w2.heap.size w2 wr)) (fun _ n _ => c - (intOf n).toNat)
  case atStart => exact ⟨0, w2.heap.size, c, [], Nat.zero_le _, rfl, rfl, Lib.hid rfl, O1, B3⟩
  case round =>
    obtain ⟨i, q, qk, ys, hi2, rfl, rfl, HY, HO, HB⟩ := hrel
    clear O1 B3
    by_cases hlt : i < c
    rotate_left
    · obtain rfl : i = c := by omega
      have hge : ¬ ((i : Int) < (i : Int)) := by omega
      have E : Hid (Q (.returned (.tuple #[.slice (some ⟨q, 0, none⟩) ys.length qk, .bool true])) wr) := Lib.hid (by
        rw [HQ.out]
        have h12 : w.heap.size ≤ w2.heap.size := by have := HS1.out; have := HB2.out.size; omega
        exact ⟨_, [q], rfl, by simp, by rw [HOUT.out, ← HY.out]; exact layStringS.lower HO.out h12, (HB1.out.trans (HB2.out.mono (by have := HS1.out; omega))).trans (HB.out.mono h12)⟩)
      clear HO HB HY
      go_wp2_with fail
      exact E.out
    have hlt' : (i : Int) < (c : Int) := by omega
    have HX : Hid (Below w1.heap.size w1 wr) := Lib.hid (HB2.out.trans (HB.out.mono HB2.out.size))
    obtain ⟨g', off, cs, hga, hg', hr, hcl⟩ := rows_elem (layOneS.below (layOneS.read HC2.out) HB.out) i (cutV w.heap.size s.size k i) (by unfold cutsV; rw [List.getElem?_map, List.getElem?_range hlt]; rfl)
    simp only [Option.some.injEq, Addr.mk.injEq, and_true] at hga
    obtain ⟨rfl, rfl⟩ := hga
    obtain ⟨rfl, -⟩ := hr
    have c0 := hcl 0 _ rfl
    rw [show layOne.k = 1 from rfl, Nat.mul_one] at c0
    simp only [Nat.zero_add, Nat.add_zero] at c0
    unfold cutV at c0
    obtain ⟨e2, he2⟩ : ∃ e : Nat, min ((i + 1) * k) s.size = e := ⟨_, rfl⟩
    obtain ⟨bs, hbs⟩ : ∃ bs, bs = (s.extract (i * k) (min ((i + 1) * k) s.size)).data.toList := ⟨_, rfl⟩
    have hpt := part_bytes_of m c k s i bs hbs
    have hik := HE.out.2 i hlt
    have h1k : (i + 1) * k = i * k + k := by rw [Nat.add_mul, Nat.one_mul]
    rw [he2] at c0 hbs
    have HN : Hid (ys ++ [partP m c k s i] = partsP m c k s (i + 1)) := Lib.hid (by rw [partsP_next, HY.out])
    rw [← hpt] at HN
    obtain ⟨e0, he0⟩ : ∃ e : Nat, i * k = e := ⟨_, rfl⟩
    rw [he0] at c0 hbs hik h1k
    obtain ⟨z, hz⟩ : ∃ z, e2 - e0 = z := ⟨_, rfl⟩
    rw [hz] at c0
    have hbl : bs.length = z := by
      rw [hbs, ← hz]
      show (s.extract e0 e2).size = _
      rw [ByteArray.size_extract, Nat.min_eq_left (by omega)]
    have KP := Lib.hid (fun X (hX : Below w1.heap.size w1 X) => pieceText_any m i c hm256 (by omega) hc256 w.heap.size e0 z bs z hbl (by omega) X (by have := HS1.out; have := hX.size; omega) (fun j v hj => by
      have hjl : j < bs.length := by
        have h9 := (List.getElem?_eq_some_iff.1 hj).1
        rw [u8C_len] at h9
        exact h9
      have h8 : v = .int .u8 (bs[j].toNat : Int) := by
        unfold u8C at hj
        rw [List.getElem?_map, List.getElem?_eq_getElem hjl] at hj
        exact (Option.some.inj hj).symm
      have h7 : bs[j] = s.data.toList.getD (e0 + j) 0 := by subst hbs; exact extract_at s e0 e2 j hjl
      have h6 := HR1.out.cell (e0 + j) (by show e0 + j < s.size; omega)
      rw [h8, h7, ← h6]
      exact hX.cell (p := ⟨w.heap.size, e0 + j, none⟩) (cell_size h6)))
    have hlen1 : ys.length + 1 ≤ 1000000000 := by rw [HY.out, partsP_length]; omega
    have HSW : Hid (w2.heap.size ≤ wr.heap.size) := Lib.hid HB.out.size
    clear hcl hg' hpt hbs hbl he2 he0 hik h1k
    go_wp2_with fail
    refine (KP.out wr HX.out).mono ?_
    rintro e w4 ⟨rfl, hb4⟩
    generalize (⟨([UInt8.ofNat m, UInt8.ofNat i, UInt8.ofNat c] ++ bs).toArray⟩ : ByteArray) = x at *
    have HO4 := Lib.hid (layStringS.next HO.out hb4)
    have HB4 := Lib.hid (HB.out.trans (hb4.mono HB.out.size))
    have HS4 : Hid (w2.heap.size ≤ w4.heap.size) := Lib.hid (Nat.le_trans HSW.out hb4.size)
    clear hb4 HO HB KP c0
    go_wp2_with (at_builtin; refine wpList_pushF w4 rfl _ _ 26 rfl w2.heap.size StringT i0 _ 16 layString flatString Try.underlying26 hi hz0 hsz0 hby0 rfl (by omega) (.slice (some ⟨q, 0, none⟩) ys.length qk) [q] ys (by rfl) HO4.out x #[.string x] (layString_rd.2 rfl) (by rfl) hlen1 HS4.out ?_; intro v1 w5 hown1 hnn1 hgr1 hbe1; obtain ⟨m1, mc1, rfl, hblk, _, _⟩ := flat_some flatString hown1 hnn1; rw [hblk] at hown1)
    have HO5 := Lib.hid hown1
    have HB5 := Lib.hid (HB4.out.trans hbe1)
    clear hown1 hnn1 hgr1 hbe1 hblk
    go_wp2_with fail
    go_roundw
    case rel => exact ⟨i + 1, m1, mc1, ys ++ [x], by omega, by go_num, by rw [List.length_append]; rfl, HN, HO5, HB5⟩
    case measure => simp [intOf]; omega

end Go.Proofs.Ytfhlpgngeiploaa
namespace Go.Proofs.Ytfhlpgngeiploaa
open Go.RowKit

theorem inRange_yes (x a b : Int) (h0 : a ≤ x) (h1 : x ≤ b) (w : World) :
    Calls Try.prog 29 #[.int .i64 x, .int .i64 a, .int .i64 b] w fun e w' => e = .returned (.bool true) ∧ w' = w := by
  go_enter Try.func29, Try.ntmps29
  go_wp2
  go_ret
  exact ⟨rfl, rfl⟩

theorem inRange_no (x a b : Int) (h : x < a ∨ b < x) (w : World) :
    Calls Try.prog 29 #[.int .i64 x, .int .i64 a, .int .i64 b] w fun e w' => e = .returned (.bool false) ∧ w' = w := by
  by_cases hx : x < a
  · go_enter Try.func29, Try.ntmps29
    go_wp2
    go_ret
    exact ⟨rfl, rfl⟩
  · have h0 : a ≤ x := by omega
    have h1 : decide (x ≤ b) = false := decide_eq_false (by omega)
    clear h hx
    go_enter Try.func29, Try.ntmps29
    go_wp2
    go_ret
    exact ⟨rfl, rfl⟩

end Go.Proofs.Ytfhlpgngeiploaa
namespace Go.Proofs.Ytfhlpgngeiploaa
open Go.RowKit

set_option maxRecDepth 100000 in
set_option maxHeartbeats 400000 in
theorem specByteP_any (i : Nat) (h : i < 256) (w : World) :
    Calls Try.prog 30 #[.int .i64 i] w fun e w' => e = .returned (.string ⟨#[UInt8.ofNat i]⟩) ∧ Below w.heap.size w w' := by
  have h1 : (i : Int) % 256 = (i : Int) := by omega
  have h2 : (i : Int).tmod 256 = (i : Int) := by rw [Int.tmod_eq_emod_of_nonneg (by omega)]; exact h1
  have h3 : ¬ ((i : Int) < 0) := by omega
  obtain ⟨b, hb, BB⟩ : ∃ b : UInt8, (i : Int) = (b.toNat : Int) ∧ Hid (b = UInt8.ofNat i) := ⟨UInt8.ofNat i, by rw [UInt8.toNat_ofNat']; omega, rfl⟩
  have hr := run_string_one (P := Try.prog) w 22 9 5 Try.underlying22 Try.underlying5 Try.underlying9 b
  rw [← hb] at hr
  have HB := Lib.hid hb
  rw [← BB.out]
  clear hb
  go_enter Try.func30, Try.ntmps30
  go_wp2_with fail
  go_ret
  exact ⟨rfl, (Below.refl _ _).alloc (Nat.le_refl _) _⟩

end Go.Proofs.Ytfhlpgngeiploaa

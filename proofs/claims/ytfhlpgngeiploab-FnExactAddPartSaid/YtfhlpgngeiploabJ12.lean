/-
  Rows of what is held as the laws read them.
  The front and the back of two texts; no program is spoken of here.
  Pieces of a long text, in plain words; no program is spoken of here.
  What is held of long texts, in plain words; no program is spoken of here.
-/
import Derived.Test.YtfhlpgngeiploabJ10
import Derived.Test.YtfhlpgngeiploabJ11
import Derived.Test.YtfhlpgngeiploabRows
namespace Go.Proofs.Ytfhlpgngeiploab
open Go.RowKit

theorem zeroHeld (w : World) (b : Nat) : layHeld.own w b [] [.int .i64 0, .int .i64 0, .int .i64 0, .slice none 0 0, .slice none 0 0, .int .i64 0] (0, 0, 0, [], [], 0) := layHeld_own.2 ⟨_, _, [], [], rfl, rfl, none_rows w b, none_rows w b⟩
set_option maxRecDepth 100000 in
set_option maxHeartbeats 3200000 in
theorem toHeldS_any (v : Value) (xs : List HeldD) (hl : xs.length ≤ 1048576) (hf : ∀ x ∈ xs, x.2.2.2.1.length ≤ 1048576 ∧ x.2.2.2.2.1.length ≤ 1048576) (w : World) (hs : layHeldS.rd w [v] xs) :
    Calls Try.prog 19 #[v] w fun e w' => OutS layHeldS w xs e w' := by
  obtain ⟨i0, hi, hz0, hsz0, hby0⟩ := info_of infoHeld
  obtain ⟨a, cap, rfl⟩ := rows_form hs
  have H1 := Lib.hid toHeld_any
  have HS := Lib.hid hs
  have HF := Lib.hid hf
  clear hs hf
  go_enter Try.func19, Try.ntmps19
  go_wp2_with (at_make; refine wpList_make_full _ rfl _ _ 27 rfl w.heap.size HeldT i0 (.agg #[.int .i64 0, .int .i64 0, .int .i64 0, .slice none 0 0, .slice none 0 0, .int .i64 0]) 6 Try.underlying27 hi hz0 hsz0 .i64 .i64 _ _ xs.length rfl rfl rfl rfl (by rw [hby0]; omega) (by unfold maxLen; omega) (Nat.le_refl _) ?_)
  intro w1 hown1 hg1
  have hown : layHeldS.own w1 w.heap.size [w.heap.size] [.slice (some ⟨w.heap.size, 0, none⟩) xs.length xs.length] (List.replicate xs.length (0, 0, 0, [], [], 0)) := rows_made hown1 rfl (zeroHeld _ _)
  have hbel : Below w.heap.size w w1 := below_grown hg1 (fun k h => by cases h) (Nat.le_refl _)
  clear hown1 hg1
  go_wp2_with fail
  go_loopw [4] (fun c wr => ∃ (j : Nat) (fp : List Nat), j ≤ xs.length ∧ c = .int .i64 j ∧ fp.Nodup ∧ layHeldS.own wr w.heap.size fp [.slice (some ⟨w.heap.size, 0, none⟩) xs.length xs.length] (xs.take j ++ List.replicate (xs.length - j) (0, 0, 0, [], [], 0)) ∧ Below w.heap.size w wr) (fun c _ => xs.length - (intOf c).toNat)
  case atStart => exact ⟨0, [w.heap.size], Nat.zero_le _, rfl, by simp, by simpa using hown, hbel⟩
  case round =>
    obtain ⟨j, fp, hj, rfl, hdup, hown2, hb2⟩ := hrel
    have HO := Lib.hid hown2
    have HB := Lib.hid hb2
    clear hown2 hb2 hown hbel
    by_cases hlt : j < xs.length
    · have hlt' : (j : Int) < (xs.length : Int) := by omega
      have hx := List.getElem?_eq_getElem hlt
      have hfx := HF.out _ (List.getElem_mem hlt)
      obtain ⟨g, off, cs, rfl, hg, hr, hc⟩ := rows_elem (layHeldS.below HS.out HB.out) j _ hx
      have hta : xs.take (j + 1) = xs.take j ++ [xs[j]] := by rw [List.take_add_one, hx]; rfl
      generalize xs[j] = x at hr hta hfx
      obtain ⟨v3, v4, rfl, h3, h4⟩ := layHeld_rd.1 hr
      obtain ⟨x0, x1, x2, r3, r4, x5⟩ := x
      simp only at h3 h4 hfx
      obtain ⟨pa, pc, rfl⟩ := rows_form h3
      obtain ⟨pb, pd, rfl⟩ := rows_form h4
      have c0 : wr.cell? ⟨g, off + j * 6, none⟩ = some (.int .i64 x0) := hc 0 _ rfl
      have c1 : wr.cell? ⟨g, off + j * 6 + 1, none⟩ = some (.int .i64 x1) := hc 1 _ rfl
      have c2 : wr.cell? ⟨g, off + j * 6 + 2, none⟩ = some (.int .i64 x2) := hc 2 _ rfl
      have c3 : wr.cell? ⟨g, off + j * 6 + 3, none⟩ = some (.slice pa r3.length pc) := hc 3 _ rfl
      have c4 : wr.cell? ⟨g, off + j * 6 + 4, none⟩ = some (.slice pb r4.length pd) := hc 4 _ rfl
      have c5 : wr.cell? ⟨g, off + j * 6 + 5, none⟩ = some (.int .i64 x5) := hc 5 _ rfl
      have HTA := Lib.hid hta
      have HK := Lib.hid (H1.out x0 x1 x2 _ r3 _ r4 x5 wr h3 hfx.1 h4 hfx.2)
      clear hta hc hx h3 h4 hr hfx
      go_wp2_with fail
      refine HK.out.mono ?_
      rintro e w2 ⟨cs, fq, rfl, hfq, hoq, hb2⟩
      obtain ⟨u3, u4, f3, f4, rfl, hfqe, h3, h4⟩ := layHeld_own.1 hoq
      simp only at h3 h4
      obtain ⟨qa, qc, rfl⟩ := rows_form (layStringS.read h3)
      obtain ⟨qb, qd, rfl⟩ := rows_form (layBoolS.read h4)
      have hm : xs.length - j = (xs.length - (j + 1)) + 1 := by omega
      have hown3 := layHeldS.next HO.out hb2
      rw [hm, List.replicate_succ] at hown3
      have hbo := HB.out.size
      have hoq2 := layHeld.lower hoq hbo
      obtain ⟨g', cap', hv, hbg, hgl, ⟨zc, zf, hzc, hcell⟩, fp', hd', _, hown4, hchg⟩ := rows_set hown3 hdup fq _ _ hoq2 hfq (fun i hi hm => by
        have h8 := (layHeldS.blocks HO.out i hm).2
        have h9 := (layHeld.blocks hoq i hi).1
        omega)
      simp only [Value.slice.injEq, Option.some.injEq, Addr.mk.injEq, and_true] at hv
      obtain ⟨rfl, -, rfl⟩ := hv
      have hjl : (xs.take j).length = j := by rw [List.length_take]; omega
      rw [hjl] at hcell hown4 hchg
      obtain ⟨z3, z4, _, _, rfl, _, _, _⟩ := layHeld_own.1 hzc
      obtain ⟨e0, m0⟩ : w2.cell? ⟨w.heap.size, j * 6, none⟩ = some (.int .i64 0) ∧ w2.frozen? ⟨w.heap.size, j * 6, none⟩ = false := hcell 0 _ rfl
      obtain ⟨e1, m1⟩ : w2.cell? ⟨w.heap.size, j * 6 + 1, none⟩ = some (.int .i64 0) ∧ w2.frozen? ⟨w.heap.size, j * 6 + 1, none⟩ = false := hcell 1 _ rfl
      obtain ⟨e2, m2⟩ : w2.cell? ⟨w.heap.size, j * 6 + 2, none⟩ = some (.int .i64 0) ∧ w2.frozen? ⟨w.heap.size, j * 6 + 2, none⟩ = false := hcell 2 _ rfl
      obtain ⟨e3, m3⟩ : w2.cell? ⟨w.heap.size, j * 6 + 3, none⟩ = some z3 ∧ w2.frozen? ⟨w.heap.size, j * 6 + 3, none⟩ = false := hcell 3 _ rfl
      obtain ⟨e4, m4⟩ : w2.cell? ⟨w.heap.size, j * 6 + 4, none⟩ = some z4 ∧ w2.frozen? ⟨w.heap.size, j * 6 + 4, none⟩ = false := hcell 4 _ rfl
      obtain ⟨e5, m5⟩ : w2.cell? ⟨w.heap.size, j * 6 + 5, none⟩ = some (.int .i64 0) ∧ w2.frozen? ⟨w.heap.size, j * 6 + 5, none⟩ = false := hcell 5 _ rfl
      have hbel2 := HB.out.trans (hb2.mono HB.out.size)
      have HP : Hid (layHeldS.own (setCells w2 w.heap.size (j * layHeld.k) [.int .i64 x0, .int .i64 x1, .int .i64 x2, .slice qa r3.length qc, .slice qb r4.length qd, .int .i64 x5]) w.heap.size fp' [.slice (some ⟨w.heap.size, 0, none⟩) xs.length xs.length] (xs.take (j + 1) ++ List.replicate (xs.length - (j + 1)) (0, 0, 0, [], [], 0))) := by
        rw [HTA.out, List.append_assoc]
        exact hown4
      have HB3 := Lib.hid (hbel2.trans (hchg.below (by simp) hbel2.size))
      have HD := Lib.hid hd'
      clear hown3 hown4 hchg hbel2 hb2 hcell hm hjl hd' hbg hgl hoq hoq2 hbo h3 h4 hzc HK hfqe c0 c1 c2 c3 c4 c5
      go_wp2_with fail
      go_roundw
      case rel => exact ⟨j + 1, fp', by omega, by go_num, HD.out, HP.out, HB3.out⟩
      case measure => simp [intOf]; omega
    · have hlt' : ¬ ((j : Int) < (xs.length : Int)) := by omega
      have hke : j = xs.length := by omega
      have hfin : xs.take j ++ List.replicate (xs.length - j) ((0, 0, 0, [], [], 0) : HeldD) = xs := by subst hke; simp
      have HO2 := HO.out
      rw [hfin] at HO2
      have HO3 := Lib.hid HO2
      clear HO2 HO
      go_wp2_with fail
      go_ret
      exact ⟨_, fp, rfl, hdup, HO3.out, HB.out⟩

end Go.Proofs.Ytfhlpgngeiploab
namespace Go.Proofs.Ytfhlpgngeiploab

end Go.Proofs.Ytfhlpgngeiploab
namespace Go.Proofs.Ytfhlpgngeiploab

/-- A byte of a text. -/
def byteAt (t : ByteArray) (i : Nat) : Nat := (t.data.toList.getD i 0).toNat
theorem byteAt_lt (t : ByteArray) (i : Nat) : byteAt t i < 256 := UInt8.toNat_lt _
/-- A text that is a part. -/
def PieceP (t : ByteArray) : Prop := 3 ≤ t.size ∧ (1 ≤ byteAt t 2 ∧ byteAt t 2 ≤ 15) ∧ byteAt t 1 < byteAt t 2
/-- What ReadPart tells. -/
def ReadPartIs (t : ByteArray) (id place count : Int) (part : ByteArray) (ok : Bool) : Prop :=
  (ok = true ∧ PieceP t ∧ id = (byteAt t 0 : Nat) ∧ place = (byteAt t 1 : Nat) ∧ count = (byteAt t 2 : Nat) ∧ part = t.extract 3 t.size) ∨ (ok = false ∧ ¬ PieceP t ∧ id = 0 ∧ place = 0 ∧ count = 0 ∧ part = ⟨#[]⟩)
theorem readPart_is (t : ByteArray) : ∃ id place count part ok, ReadPartIs t id place count part ok := by
  by_cases h : PieceP t
  · exact ⟨_, _, _, _, _, .inl ⟨rfl, h, rfl, rfl, rfl, rfl⟩⟩
  · exact ⟨_, _, _, _, _, .inr ⟨rfl, h, rfl, rfl, rfl, rfl⟩⟩
end Go.Proofs.Ytfhlpgngeiploab
namespace Go.Proofs.Ytfhlpgngeiploab

/-- From, Id, Count, Parts, Have, Until. -/
abbrev HeldV := Int × Int × Int × (List ByteArray) × (List Bool) × Int
/-- Right but for what is there. -/
def HeldQ (x : HeldV) : Prop :=
  (1 ≤ x.1 ∧ x.1 ≤ 99) ∧ (0 ≤ x.2.1 ∧ x.2.1 ≤ 255) ∧ (2 ≤ x.2.2.1 ∧ x.2.2.1 ≤ 15) ∧ (x.2.2.2.1.length : Int) = x.2.2.1 ∧ (x.2.2.2.2.1.length : Int) = x.2.2.1 ∧ (0 ≤ x.2.2.2.2.2 ∧ x.2.2.2.2.2 ≤ 1000000000) ∧
  ∀ (i : Nat) (p : ByteArray), x.2.2.2.1[i]? = some p → p.size ≤ 120 ∧ (x.2.2.2.2.1[i]? = some false → p = ⟨#[]⟩)
/-- Right ones. -/
def HeldP (x : HeldV) : Prop := HeldQ x ∧ true ∈ x.2.2.2.2.1 ∧ false ∈ x.2.2.2.2.1
/-- Of one From and Id. -/
abbrev SameV (a b : Int) (x : HeldV) : Prop := x.1 = a ∧ x.2.1 = b
/-- A right shelf. -/
def ShelfP (l : List HeldV) : Prop := l.length ≤ 3 ∧ (∀ x ∈ l, HeldP x) ∧ l.Pairwise (fun x y => ¬ (x.1 = y.1 ∧ x.2.1 = y.2.1))
/-- A part in its place; one that is there stays. -/
def setV (j : Nat) (p : ByteArray) (x : HeldV) : HeldV := if x.2.2.2.2.1[j]? = some true then x else (x.1, x.2.1, x.2.2.1, x.2.2.2.1.set j p, x.2.2.2.2.1.set j true, x.2.2.2.2.2)
/-- A new one. -/
def newV (a b c now : Int) : HeldV := (a, b, c, List.replicate c.toNat ⟨#[]⟩, List.replicate c.toNat false, now + 8)
/-- The one that is held under From, Id and Count, or a new one. -/
def gotV (l : List HeldV) (a b c now : Int) : HeldV := (l.find? (fun x => decide (SameV a b x ∧ x.2.2.1 = c))).getD (newV a b c now)
/-- All parts, one behind another. -/
def wholeV (l : List ByteArray) : ByteArray := l.foldl (· ++ ·) ⟨#[]⟩
/-- Without those of From and Id. -/
def restV (l : List HeldV) (a b : Int) : List HeldV := l.filter (fun x => decide (¬ SameV a b x))
/-- With another one in the place of those of From, Id and Count. -/
def placeV (l : List HeldV) (a b c : Int) (y : HeldV) : List HeldV := l.map (fun x => if SameV a b x ∧ x.2.2.1 = c then y else x)
/-- Whether it is among them. -/
def HasV (l : List HeldV) (a b c : Int) : Prop := ∃ x ∈ l, SameV a b x ∧ x.2.2.1 = c
/-- When a part is taken. -/
def AddP (l : List HeldV) (a : Int) (t : ByteArray) (now : Int) : Prop := ShelfP l ∧ (1 ≤ a ∧ a ≤ 99) ∧ PieceP t ∧ t.size ≤ 123 ∧ (0 ≤ now ∧ now ≤ 999999992)
/-- What AddPart tells of a part that is taken and not alone. -/
def AddMore (l : List HeldV) (a b c now : Int) (j : Nat) (p : ByteArray) (l' : List HeldV) (whole : ByteArray) (done : Bool) : Prop :=
  (false ∉ (setV j p (gotV l a b c now)).2.2.2.2.1 ∧ l' = restV l a b ∧ whole = wholeV (setV j p (gotV l a b c now)).2.2.2.1 ∧ done = true) ∨
  (false ∈ (setV j p (gotV l a b c now)).2.2.2.2.1 ∧ HasV l a b c ∧ l' = placeV l a b c (setV j p (gotV l a b c now)) ∧ whole = ⟨#[]⟩ ∧ done = false) ∨
  (false ∈ (setV j p (gotV l a b c now)).2.2.2.2.1 ∧ ¬ HasV l a b c ∧ l' = (if (restV l a b).length = 3 then (restV l a b).drop 1 else restV l a b) ++ [setV j p (gotV l a b c now)] ∧ whole = ⟨#[]⟩ ∧ done = false)
/-- What AddPart tells. -/
def AddIs (l : List HeldV) (a : Int) (t : ByteArray) (now : Int) (l' : List HeldV) (whole : ByteArray) (done : Bool) : Prop :=
  (AddP l a t now ∧ byteAt t 2 = 1 ∧ l' = l ∧ whole = t.extract 3 t.size ∧ done = true) ∨
  (AddP l a t now ∧ byteAt t 2 ≠ 1 ∧ AddMore l a (byteAt t 0 : Nat) (byteAt t 2 : Nat) now (byteAt t 1) (t.extract 3 t.size) l' whole done) ∨
  (¬ AddP l a t now ∧ l' = l ∧ whole = ⟨#[]⟩ ∧ done = false)
theorem add_is (l : List HeldV) (a : Int) (t : ByteArray) (now : Int) : ∃ l' whole done, AddIs l a t now l' whole done := by
  by_cases h : AddP l a t now
  · by_cases h1 : byteAt t 2 = 1
    · exact ⟨_, _, _, .inl ⟨h, h1, rfl, rfl, rfl⟩⟩
    · by_cases h2 : false ∈ (setV (byteAt t 1) (t.extract 3 t.size) (gotV l a (byteAt t 0 : Nat) (byteAt t 2 : Nat) now)).2.2.2.2.1
      · by_cases h3 : HasV l a (byteAt t 0 : Nat) (byteAt t 2 : Nat)
        · exact ⟨_, _, _, .inr (.inl ⟨h, h1, .inr (.inl ⟨h2, h3, rfl, rfl, rfl⟩)⟩)⟩
        · exact ⟨_, _, _, .inr (.inl ⟨h, h1, .inr (.inr ⟨h2, h3, rfl, rfl, rfl⟩)⟩)⟩
      · exact ⟨_, _, _, .inr (.inl ⟨h, h1, .inl ⟨h2, rfl, rfl, rfl⟩⟩)⟩
  · exact ⟨_, _, _, .inr (.inr ⟨h, rfl, rfl, rfl⟩)⟩
theorem pairwise_filter {α : Type} {R : α → α → Prop} (p : α → Bool) {l : List α} (h : l.Pairwise R) : (l.filter p).Pairwise R := h.sublist List.filter_sublist
theorem rest_right {l : List HeldV} (h : ShelfP l) (a b : Int) : ShelfP (restV l a b) :=
  ⟨Nat.le_trans (List.length_filter_le _ _) h.1, fun x hx => h.2.1 x (List.mem_filter.1 hx).1, pairwise_filter _ h.2.2⟩
/-- What is held under From, Id and Count is of these. -/
theorem got_of {l : List HeldV} {a b c now : Int} : SameV a b (gotV l a b c now) ∧ (gotV l a b c now).2.2.1 = c := by
  unfold gotV
  cases h : l.find? (fun x => decide (SameV a b x ∧ x.2.2.1 = c)) with
  | none => exact ⟨⟨rfl, rfl⟩, rfl⟩
  | some x =>
    have h2 := List.find?_some h
    exact of_decide_eq_true h2
theorem set_of {j : Nat} {p : ByteArray} {x : HeldV} : (setV j p x).1 = x.1 ∧ (setV j p x).2.1 = x.2.1 ∧ (setV j p x).2.2.1 = x.2.2.1 ∧ (setV j p x).2.2.2.2.2 = x.2.2.2.2.2 := by
  unfold setV
  split <;> exact ⟨rfl, rfl, rfl, rfl⟩

theorem new_q {a b c now : Int} (ha : 1 ≤ a ∧ a ≤ 99) (hb : 0 ≤ b ∧ b ≤ 255) (hc : 2 ≤ c ∧ c ≤ 15) (hn : 0 ≤ now ∧ now ≤ 999999992) : HeldQ (newV a b c now) := by
  refine ⟨ha, hb, hc, ?_, ?_, ⟨?_, ?_⟩, fun i p h => ?_⟩
  · show ((List.replicate c.toNat (⟨#[]⟩ : ByteArray)).length : Int) = c
    rw [List.length_replicate]
    omega
  · show ((List.replicate c.toNat false).length : Int) = c
    rw [List.length_replicate]
    omega
  · show 0 ≤ now + 8
    omega
  · show now + 8 ≤ 1000000000
    omega
  · have h2 : (List.replicate c.toNat (⟨#[]⟩ : ByteArray))[i]? = some p := h
    rw [List.getElem?_replicate] at h2
    split at h2
    · cases h2
      exact ⟨Nat.zero_le _, fun _ => rfl⟩
    · cases h2
theorem set_q {j : Nat} {p : ByteArray} {x : HeldV} (h : HeldQ x) (hj : (j : Int) < x.2.2.1) (hp : p.size ≤ 120) : HeldQ (setV j p x) ∧ true ∈ (setV j p x).2.2.2.2.1 := by
  obtain ⟨h1, h2, h3, h4, h5, h6, h7⟩ := h
  unfold setV
  by_cases e : x.2.2.2.2.1[j]? = some true
  · rw [if_pos e]
    exact ⟨⟨h1, h2, h3, h4, h5, h6, h7⟩, List.mem_of_getElem? e⟩
  · rw [if_neg e]
    refine ⟨⟨h1, h2, h3, ?_, ?_, h6, fun i q hq => ?_⟩, ?_⟩
    · show ((x.2.2.2.1.set j p).length : Int) = _
      rw [List.length_set]; exact h4
    · show ((x.2.2.2.2.1.set j true).length : Int) = _
      rw [List.length_set]; exact h5
    · have hq2 : (x.2.2.2.1.set j p)[i]? = some q := hq
      show q.size ≤ 120 ∧ ((x.2.2.2.2.1.set j true)[i]? = some false → q = ⟨#[]⟩)
      by_cases hij : j = i
      · subst hij
        rw [List.getElem?_set_self (by omega)] at hq2 ⊢
        cases hq2
        exact ⟨hp, fun hf => by cases hf⟩
      · rw [List.getElem?_set_ne hij] at hq2 ⊢
        exact h7 i q hq2
    · show true ∈ x.2.2.2.2.1.set j true
      exact List.mem_of_getElem? (i := j) (List.getElem?_set_self (by omega))
theorem got_q {l : List HeldV} (h : ShelfP l) {a b c now : Int} (ha : 1 ≤ a ∧ a ≤ 99) (hb : 0 ≤ b ∧ b ≤ 255) (hc : 2 ≤ c ∧ c ≤ 15) (hn : 0 ≤ now ∧ now ≤ 999999992) : HeldQ (gotV l a b c now) := by
  unfold gotV
  cases e : l.find? (fun x => decide (SameV a b x ∧ x.2.2.1 = c)) with
  | none => exact new_q ha hb hc hn
  | some x => exact (h.2.1 x (List.mem_of_find?_eq_some e)).1
/-- What comes of a part stays right. -/
theorem add_right {l l' : List HeldV} {a : Int} {t whole : ByteArray} {now : Int} {done : Bool} (hl : ShelfP l) (h : AddIs l a t now l' whole done) : ShelfP l' := by
  rcases h with ⟨_, _, rfl, _⟩ | ⟨⟨_, ha, hp, hz, hn⟩, hc1, h⟩ | ⟨_, rfl, _⟩
  · exact hl
  · have hb0 := byteAt_lt t 0
    have hb : (0 : Int) ≤ (byteAt t 0 : Nat) ∧ ((byteAt t 0 : Nat) : Int) ≤ 255 := ⟨by omega, by omega⟩
    have hc : (2 : Int) ≤ (byteAt t 2 : Nat) ∧ ((byteAt t 2 : Nat) : Int) ≤ 15 := ⟨by have := hp.2.1; omega, by have := hp.2.1; omega⟩
    have hg := got_of (l := l) (a := a) (b := (byteAt t 0 : Nat)) (c := (byteAt t 2 : Nat)) (now := now)
    have hq := set_q (j := byteAt t 1) (p := t.extract 3 t.size) (got_q hl ha hb hc hn) (by rw [hg.2]; have := hp.2.2; omega) (by rw [ByteArray.size_extract]; omega)
    have hs := set_of (j := byteAt t 1) (p := t.extract 3 t.size) (x := gotV l a (byteAt t 0 : Nat) (byteAt t 2 : Nat) now)
    unfold AddMore at h
    generalize setV (byteAt t 1) (t.extract 3 t.size) (gotV l a (byteAt t 0 : Nat) (byteAt t 2 : Nat) now) = y at *
    rw [hg.1.1, hg.1.2, hg.2] at hs
    have hr := rest_right hl a (byteAt t 0 : Nat)
    rcases h with ⟨_, rfl, _⟩ | ⟨hf, _, rfl, _⟩ | ⟨hf, _, rfl, _⟩
    · exact hr
    · refine ⟨by unfold placeV; rw [List.length_map]; exact hl.1, fun x hx => ?_, ?_⟩
      · obtain ⟨z, hz1, rfl⟩ := List.mem_map.1 hx
        split
        · exact ⟨hq.1, hq.2, hf⟩
        · exact hl.2.1 z hz1
      · unfold placeV
        rw [List.pairwise_map]
        refine hl.2.2.imp (fun {u v} huv => ?_)
        split <;> split
        · rename_i h1 h2
          exact absurd ⟨h1.1.1.trans h2.1.1.symm, h1.1.2.trans h2.1.2.symm⟩ huv
        · rename_i h1 h2
          rw [hs.1, hs.2.1]
          intro e
          exact huv ⟨h1.1.1.trans e.1, h1.1.2.trans e.2⟩
        · rename_i h1 h2
          rw [hs.1, hs.2.1]
          intro e
          exact huv ⟨e.1.trans h2.1.1.symm, e.2.trans h2.1.2.symm⟩
        · exact huv
    · have hno : ∀ x ∈ restV l a (byteAt t 0 : Nat), ¬ (x.1 = y.1 ∧ x.2.1 = y.2.1) := fun x hx e => by
        have h1 := of_decide_eq_true (List.mem_filter.1 hx).2
        rw [hs.1, hs.2.1] at e
        exact h1 e
      have key : ∀ m : List HeldV, m.Sublist (restV l a (byteAt t 0 : Nat)) → m.length ≤ 2 → ShelfP (m ++ [y]) := fun m hm hl2 => by
        refine ⟨by rw [List.length_append]; simp; omega, fun x hx => ?_, ?_⟩
        · rcases List.mem_append.1 hx with hx | hx
          · exact hr.2.1 x (hm.subset hx)
          · rw [List.mem_singleton.1 hx]
            exact ⟨hq.1, hq.2, hf⟩
        · refine List.pairwise_append.2 ⟨hr.2.2.sublist hm, List.pairwise_singleton _ _, fun x hx z hz => ?_⟩
          rw [List.mem_singleton.1 hz]
          exact hno x (hm.subset hx)
      have h3 := hr.1
      split
      · exact key _ (List.drop_sublist _ _) (by rw [List.length_drop]; omega)
      · rename_i h9
        exact key (restV l a (byteAt t 0 : Nat)) (List.Sublist.refl _) (by omega)
  · exact hl

end Go.Proofs.Ytfhlpgngeiploab

/-
  The given HashMore, by what it answers.
  Rows of bytes that bear a mark behind their last cell (what '[]byte(s)' lays), and bytes put behind them; no program is spoken of here.
-/
import Derived.Test.YtpfkokjbpfaafaeDoorJ21
import Derived.Test.YtpfkokjbpfaafaeDoorJ18
import Derived.Lib.ConvBytes
import Derived.Lib.FrozenHead
namespace Go.Proofs.YtpfkokjbpfaafaeDoor
open Go.RowKit

/-- A hasher, as a value. -/
def hasherV (st rest : ByteArray) (n : Int) : Value := .agg #[.string st, .string rest, .int .i64 n]

theorem join_bytes (a b : ByteArray) : (a ++ b).data.toList = a.data.toList ++ b.data.toList := by simp
theorem slice_block (s : ByteArray) (k : Nat) : (s.extract (64 * k) (64 * k + 64)).data.toList = blockAt s.data.toList k := by
  unfold blockAt
  simp

theorem extract_end (b : ByteArray) (m : Nat) : (⟨(b.data.toList.drop m).toArray⟩ : ByteArray) = b.extract m b.size := by
  apply ByteArray.ext
  apply Array.toList_inj.1
  simp
  exact (List.take_of_length_le (by simp)).symm

/-- The parameter and the result, each in a block of its own; what was there ahead of w is as it was. -/
structure TwoVars (w : World) (t : TypeId) (a b c : Value) (X : World) : Prop where
  v : Var3 w.heap.size t a b c X
  r : Var3 (w.heap.size + 1) t (.string ⟨#[]⟩) (.string ⟨#[]⟩) (.int .i64 0) X
  below : Below w.heap.size w X
theorem TwoVars.next {w : World} {t : TypeId} {a b c : Value} {X Y : World} (h : TwoVars w t a b c X) (hb : Below X.heap.size X Y) : TwoVars w t a b c Y :=
  ⟨h.v.next hb, h.r.next hb, h.below.trans (hb.mono h.below.size)⟩
theorem TwoVars.new (w : World) (t : TypeId) (a b c : Value) : TwoVars w t a b c ((w.alloc (.cells #[a, b, c] t)).alloc (.cells #[.string ⟨#[]⟩, .string ⟨#[]⟩, .int .i64 0] t)) := by
  refine ⟨(Var3.new w t a b c).next ((Below.refl _ _).alloc (Nat.le_refl _) _), ?_, ((Below.refl _ _).alloc (Nat.le_refl _) _).alloc (by simp) _⟩
  have h := Var3.new (w.alloc (.cells #[a, b, c] t)) t (.string ⟨#[]⟩) (.string ⟨#[]⟩) (.int .i64 0)
  have e : (w.alloc (.cells #[a, b, c] t)).heap.size = w.heap.size + 1 := by simp
  rw [e] at h
  exact h

set_option maxRecDepth 100000 in
set_option maxHeartbeats 1600000 in
theorem specHashMore_yes (st rest : ByteArray) (n : Int) (s : ByteArray) (h : HOk st rest n) (hn : n + (s.size : Int) ≤ 1000000000) (hs : s.size ≤ 500000000) (w : World) :
    Calls Tryd.prog 24 #[.agg #[.string st, .string rest, .int .i64 n], .string s] w fun e w' => e = .returned (.agg #[.string ⟨(bytesOf (moreState st rest s)).toArray⟩, .string ⟨(moreRest rest s).toArray⟩, .int .i64 (n + (s.size : Int))]) ∧ Below w.heap.size w w' := by
  have H0 := Lib.hid (specHasherOk_yes st rest n h)
  obtain ⟨h1, h2, h3, h4, h5⟩ := h
  have hnn : ¬ (1000000000 < n + (s.size : Int)) := by omega
  have H1 := Lib.hid (specWords_any st (by omega))
  have H2 := Lib.hid specK_any
  have T0 := Lib.hid (TwoVars.new w 49 (.string st) (.string rest) (.int .i64 n))
  go_enter Tryd.func24, Tryd.ntmps24
  go_wp2_with fail
  refine (H0.out _).mono ?_
  rintro e w1 ⟨rfl, hb1⟩
  have T1 := Lib.hid (T0.out.next hb1)
  have a0 := T1.out.v.c0
  have a2 := T1.out.v.c2
  clear hb1 T0 H0
  go_wp2_with fail
  refine (H1.out _).mono ?_
  rintro e w2 ⟨v, rfl, hown, hb2⟩
  have T2 := Lib.hid (T1.out.next hb2)
  have HO2 := Lib.hid (hown.mono (T1.out.below.size))
  clear hb2 T1 H1 a0 a2 hown
  go_wp2_with fail
  refine (H2.out _).mono ?_
  rintro e wk ⟨gk, ck, rfl, hgk, hck, hbk⟩
  have Tk := Lib.hid (T2.out.next hbk)
  have HOk := Lib.hid (HO2.out.below hbk)
  have HCK := Lib.hid hck
  have b1 := Tk.out.v.c1
  have hjoin : ¬ 9223372036854775807 < rest.size + s.size := by omega
  have hbz : (rest ++ s).size = rest.size + s.size := ByteArray.size_append
  clear hbk hck T2 HO2 H2
  go_wp2_with fail
  obtain ⟨S0, HS0⟩ : ∃ S0, Hid (S0 = wordsOf st.data.toList) := ⟨_, rfl⟩
  have hs8 : S0.length = 8 := by rw [HS0.out, wordsOf_length]; simp; omega
  have hsw : Words S0 := by rw [HS0.out]; exact wordsOf_words _
  rw [← HS0.out] at HOk
  obtain ⟨buf, HBUF⟩ : ∃ buf, Hid (buf = rest ++ s) := ⟨_, rfl⟩
  rw [← HBUF.out] at hbz
  have hbf : buf.size ≤ 500000064 := by omega
  have HBZ := Lib.hid hbz
  clear hbz
  simp only [← HBUF.out]
  clear b1 hjoin
  go_loopw [5, 8] (fun v i wr => ∃ k : Nat, 64 * k ≤ buf.size ∧ i = .int .i64 ((64 * k : Nat) : Int) ∧ OwnW wr w.heap.size 79 v (eatUp S0 buf.data.toList k) ∧ Below wk.heap.size wk wr) (fun _ i _ => buf.size - (intOf i).toNat)
  case atStart =>
    exact ⟨0, by omega, rfl, HOk.out, Below.refl _ _⟩
  case round =>
    obtain ⟨k, hk, rfl, hown, hnx⟩ := hrel
    have hl := eatUp_length S0 buf.data.toList hs8 k
    have hw := eatUp_words S0 buf.data.toList hsw k
    obtain ⟨m, HM⟩ : ∃ m : Nat, Hid (m = 64 * k) := ⟨_, rfl⟩
    rw [← HM.out] at hk ⊢
    obtain ⟨gs, cs, rfl, hgs0, hgs, hcs⟩ := hown.form (by omega)
    rw [hl] at hcs ⊢
    have hgk2 : gk < wr.heap.size := Nat.lt_of_lt_of_le hgk hnx.size
    have HN := Lib.hid hnx
    by_cases hlt : m + 64 ≤ buf.size
    · have q1 : (m : Int) + 64 ≤ (buf.size : Int) := by omega
      have hck2 : ∀ j, j < 64 → wr.cell? ⟨gk, j, none⟩ = some (.int .u32 (kTab.getD j 0 : Nat)) := fun j hj => by rw [hnx.cell (p := ⟨gk, j, none⟩) hgk]; exact HCK.out j hj
      have hblk : (buf.extract m (m + 64)).size = 64 := by simp [ByteArray.size_extract]; omega
      have H3 := Lib.hid (specRound_any gs cs gk ck _ hw hl (buf.extract m (m + 64)) hblk wr hcs hck2 hgs hgk2)
      have e1 : (buf.extract m (m + 64)).data.toList = blockAt buf.data.toList k := by rw [HM.out]; exact slice_block buf k
      rw [e1] at H3
      clear hck2 hblk hcs hnx hown e1
      go_wp2_with fail
      refine (H3.out).mono ?_
      rintro e w5 ⟨v', rfl, hown5, hb5⟩
      have hm5 : w.heap.size ≤ wr.heap.size := Nat.le_trans Tk.out.below.size HN.out.size
      have HO5 := Lib.hid (hown5.mono hm5)
      have HB5 := Lib.hid (HN.out.trans (hb5.mono HN.out.size))
      clear hown5 hb5
      go_wp2_with fail
      go_roundw
      case rel =>
        refine ⟨k + 1, by have := HM.out; omega, by have := HM.out; go_num, HO5.out, HB5.out⟩
      case measure => simp [intOf]; omega
    · have q1 : ¬ ((m : Int) + 64 ≤ (buf.size : Int)) := by omega
      have q2 : (m : Int) ≤ (buf.size : Int) := by omega
      have hwn : IntKind.i64.wrap (n + (s.size : Int)) = n + (s.size : Int) := by rw [IntKind.wrap_i64]; omega
      have Tr := Lib.hid (Tk.out.next hnx)
      have Td := Lib.hid (Tr.out.next ((Below.refl _ wr).drew))
      have cd := Td.out.v.c2
      have H4 := Lib.hid (specBytes_any gs cs _ hw (by omega) wr.drew (fun j hj => hcs j (by omega)) hgs)
      have hk64 : k = (rest.size + s.size) / 64 := by have := HM.out; have := HBZ.out; omega
      have e3 : eatUp S0 buf.data.toList k = moreState st rest s := by unfold moreState; rw [← hk64, HS0.out, HBUF.out, join_bytes]
      have e4 : (⟨(moreRest rest s).toArray⟩ : ByteArray) = buf.extract m buf.size := by
        have hm := HM.out
        unfold moreRest
        rw [← hk64, ← hm]
        have : buf.data.toList = rest.data.toList ++ s.data.toList := by rw [HBUF.out, join_bytes]
        rw [← this]
        exact extract_end buf m
      rw [hl, e3] at H4
      have E4 := Lib.hid e4
      clear hcs hnx hown e3 e4 hw hl
      go_wp2_with fail
      go_region_held3 (fun X => X.cell? ⟨w.heap.size, 2, none⟩ = some (.int .i64 n)) (first | assumption | go_keep) (first | (go_at_call 42; refine (H4.out).mono ?_; rintro e v1 ⟨rfl, hb6⟩; have Tv := Td.out.next hb6; have s1 := Tv.v.c2; have r0 := Tv.r.c0; have r1 := Tv.r.c1; have r2 := Tv.r.c2; have f0 := Tv.r.free 0; have f1 := Tv.r.free 1; have f2 := Tv.r.free 2; have hTv := Lib.hid Tv; clear Tv hb6))
      all_goals
        go_wp2_with fail
        have V3 := hTv.out.r.set3 (.string ⟨(bytesOf (moreState st rest s)).toArray⟩) (.string (buf.extract m buf.size)) (.int .i64 (n + (s.size : Int)))
        have d0 := V3.c0
        have d1 := V3.c1
        have d2 := V3.c2
        refine bodyPost_ret (v := .agg #[.string ⟨(bytesOf (moreState st rest s)).toArray⟩, .string (buf.extract m buf.size), .int .i64 (n + (s.size : Int))]) (by simp [results, Tryd.results24, go_sem, d0, d1, d2]) rfl ⟨by rw [E4.out], ?_⟩
        exact Below.set3 hTv.out.below (by omega) _ _ _

set_option maxRecDepth 100000 in
set_option maxHeartbeats 400000 in
theorem specHashMore_no (st rest : ByteArray) (n : Int) (s : ByteArray) (h : ¬ HOk st rest n ∨ 1000000000 < n + (s.size : Int)) (hs : s.size ≤ 500000000) (w : World) :
    Calls Tryd.prog 24 #[.agg #[.string st, .string rest, .int .i64 n], .string s] w fun e w' => e = .returned (.agg #[.string st, .string rest, .int .i64 n]) ∧ Below w.heap.size w w' := by
  have T0 := Lib.hid (TwoVars.new w 49 (.string st) (.string rest) (.int .i64 n))
  by_cases hk : HOk st rest n
  · have hn : 1000000000 < n + (s.size : Int) := by
      rcases h with h | h
      · exact absurd hk h
      · exact h
    have H0 := Lib.hid (specHasherOk_yes st rest n hk)
    obtain ⟨_, _, h3, h4, _⟩ := hk
    have hwn : IntKind.i64.wrap (n + (s.size : Int)) = n + (s.size : Int) := by rw [IntKind.wrap_i64]; omega
    clear h
    go_enter Tryd.func24, Tryd.ntmps24
    go_wp2_with fail
    refine (H0.out _).mono ?_
    rintro e w1 ⟨rfl, hb1⟩
    have T1 := Lib.hid (T0.out.next hb1)
    have a0 := T1.out.v.c0
    have a1 := T1.out.v.c1
    have a2 := T1.out.v.c2
    have r0 := T1.out.r.c0
    have r1 := T1.out.r.c1
    have r2 := T1.out.r.c2
    have f0 := T1.out.r.free 0
    have f1 := T1.out.r.free 1
    have f2 := T1.out.r.free 2
    clear hb1 T0 H0
    go_wp2_with fail
    have V3 := T1.out.r.set3 (.string st) (.string rest) (.int .i64 n)
    have d0 := V3.c0
    have d1 := V3.c1
    have d2 := V3.c2
    refine bodyPost_ret (v := .agg #[.string st, .string rest, .int .i64 n]) (by simp [results, Tryd.results24, go_sem, d0, d1, d2]) rfl ⟨rfl, ?_⟩
    exact Below.set3 T1.out.below (by omega) _ _ _
  · have H0 := Lib.hid (specHasherOk_no st rest n hk)
    clear h hk
    go_enter Tryd.func24, Tryd.ntmps24
    go_wp2_with fail
    refine (H0.out _).mono ?_
    rintro e w1 ⟨rfl, hb1⟩
    have T1 := Lib.hid (T0.out.next hb1)
    have a0 := T1.out.v.c0
    have a1 := T1.out.v.c1
    have a2 := T1.out.v.c2
    have r0 := T1.out.r.c0
    have r1 := T1.out.r.c1
    have r2 := T1.out.r.c2
    have f0 := T1.out.r.free 0
    have f1 := T1.out.r.free 1
    have f2 := T1.out.r.free 2
    clear hb1 T0 H0
    go_wp2_with fail
    have V3 := T1.out.r.set3 (.string st) (.string rest) (.int .i64 n)
    have d0 := V3.c0
    have d1 := V3.c1
    have d2 := V3.c2
    refine bodyPost_ret (v := .agg #[.string st, .string rest, .int .i64 n]) (by simp [results, Tryd.results24, go_sem, d0, d1, d2]) rfl ⟨rfl, ?_⟩
    exact Below.set3 T1.out.below (by omega) _ _ _

end Go.Proofs.YtpfkokjbpfaafaeDoor
namespace Go.Proofs.YtpfkokjbpfaafaeDoor
open Go.RowKit

/-- No cell of the row is frozen. -/
def Unmarked (n : Nat) (fz : Nat × Nat) : Prop := n ≤ fz.1 ∨ fz.2 = 0
theorem Unmarked.free {n : Nat} {fz : Nat × Nat} (h : Unmarked n fz) {w : World} {g : Nat} {cur : Array Value} {e : TypeId} (hg : w.heap[g]? = some (.cells cur e fz)) (j : Nat) (hj : j < n) : w.frozen? ⟨g, j, none⟩ = false := by
  obtain ⟨lo, hi⟩ := fz
  simp only [World.frozen?, hg, Bool.and_eq_false_iff, decide_eq_false_iff_not]
  rcases h with h | h
  · left; simp only at h; omega
  · right; simp only at h; omega

/-- One cell is stored where nothing is frozen. -/
theorem store_oneM (P : Program) (w : World) (g o : Nat) (t : TypeId) (fz : Nat × Nat) (cur : Array Value) (v : Value) (hg : w.heap[g]? = some (.cells cur t fz)) (hfz : Unmarked cur.size fz) (ho : o < cur.size) (hv : v.oneCell' = true) :
    (storeCells ⟨g, o, none⟩ [v] 0).run P w = .ok () (w.setRow g (cur.setIfInBounds o v)) := by
  have hadd : (⟨g, o, none⟩ : Addr).add 0 = ⟨g, o, none⟩ := by unfold Addr.add; split <;> simp_all
  have hc : w.cell? ⟨g, o, none⟩ = some cur[o] := by rw [cell_of_row w g o cur t fz hg]; simp [ho]
  have h1 : (store ((⟨g, o, none⟩ : Addr).add 0) v).run P w = .ok () (w.setRow g (cur.setIfInBounds o v)) := by
    rw [hadd, run_store P w _ v _ hv, hc]
    simp [hfz.free hg o ho, setCell_eq_setRow w g o cur t fz v hg]
  simp [storeCells, h1]

/-- The slice value v is the call's own (from block 'base' on), and holds these bytes; a mark may lie behind its last cell. -/
def OwnM (w : World) (base : Nat) (e : TypeId) (v : Value) (xs : List UInt8) : Prop :=
  ∃ g cap cur fz, v = .slice (some ⟨g, 0, none⟩) xs.length cap ∧ base ≤ g ∧ w.heap[g]? = some (.cells cur e fz) ∧ Unmarked cur.size fz ∧ xs.length ≤ cap ∧ cap ≤ maxLen ∧ cur.size = cap ∧ cur.toList.take xs.length = Lib.byteCells xs

theorem OwnM.below {w w' : World} {base : Nat} {e : TypeId} {v : Value} {xs : List UInt8} (h : OwnM w base e v xs) (hb : Below w.heap.size w w') : OwnM w' base e v xs := by
  obtain ⟨g, cap, cur, fz, hv, hg0, hg, rest⟩ := h
  exact ⟨g, cap, cur, fz, hv, hg0, by rw [hb.block g (lt_of_block hg)]; exact hg, rest⟩
theorem OwnM.mono {w : World} {base base' : Nat} {e : TypeId} {v : Value} {xs : List UInt8} (h : OwnM w base e v xs) (hb : base' ≤ base) : OwnM w base' e v xs := by
  obtain ⟨g, cap, cur, fz, hv, hg0, rest⟩ := h
  exact ⟨g, cap, cur, fz, hv, by omega, rest⟩
theorem OwnM.form {w : World} {base : Nat} {e : TypeId} {v : Value} {xs : List UInt8} (h : OwnM w base e v xs) : ∃ g cap, v = .slice (some ⟨g, 0, none⟩) xs.length cap ∧ base ≤ g ∧ g < w.heap.size ∧ xs.length ≤ cap ∧
    ∀ j, j < xs.length → w.cell? ⟨g, j, none⟩ = some (.int .u8 ((xs.getD j 0).toNat : Nat)) := by
  obtain ⟨g, cap, cur, fz, rfl, hg0, hg, _, hnc, _, hcs, htake⟩ := h
  refine ⟨g, cap, rfl, hg0, lt_of_block hg, hnc, fun j hj => ?_⟩
  rw [cell_of_row w g j cur e fz hg]
  have h1 : (cur.toList.take xs.length)[j]? = (Lib.byteCells xs)[j]? := by rw [htake]
  rw [List.getElem?_take, if_pos hj] at h1
  have h2 : cur[j]? = cur.toList[j]? := by simp
  rw [h2, h1]
  simp [Lib.byteCells, hj]

/-- '[]byte(s)'. -/
theorem OwnM.ofBytes (w : World) (e : TypeId) (s : ByteArray) (hcap : grownCap w s.size 0 e ≤ maxLen) : OwnM (Lib.bytesWorld w e s) w.heap.size e (.slice (some ⟨w.heap.size, 0, none⟩) s.data.toList.length (grownCap w s.size 0 e)) s.data.toList := by
  have hge := grownCap_ge w s.size 0 e
  refine ⟨w.heap.size, grownCap w s.size 0 e, Lib.bytesCells w e s, _, rfl, Nat.le_refl _, Lib.bytesWorld_at_new w e s, .inl (Nat.le_refl _), by simpa using hge, hcap, ?_, ?_⟩
  · simp [Lib.bytesCells]; omega
  · simp only [Lib.bytesCells, Array.toList_append, Lib.byteCells]
    rw [List.take_append_of_le_length (by simp)]
    rw [List.take_of_length_le (by simp)]
    simp

theorem run_pushM {P : Program} (w : World) (base : Nat) (t ty e : TypeId) (i : TypeInfo) (ht : P.underlying t = some (.slice e)) (hi : P.info? e = some i) (hz : i.zero = some (.int .u8 0))
    (hsize : i.size = 1) (hby : i.bytes = 1) (v : Value) (xs : List UInt8) (hown : OwnM w base e v xs) (b : UInt8)
    (ad : Addr) (c : Nat) (hnew : ∀ j u, [Value.int .u8 (b.toNat : Int)][j]? = some u → w.cell? (ad.add j) = some u)
    (hlen : xs.length + 1 ≤ 1000000000) (hbase : base ≤ w.heap.size) :
    ∃ v' w', (Builtin.append_ #[t, t] ty #[v, .slice (some ad) 1 c]).run P w = .ok v' w' ∧ OwnM w' base e v' (xs ++ [b]) ∧ w.grownBy w' v.ownBlock := by
  obtain ⟨g, cap, cur, fz, rfl, hbg, hg, hum, hnc, hcm, hcs, htake⟩ := hown
  have hl : [Value.int .u8 (b.toNat : Int)].length = 1 * i.size := by rw [hsize]; rfl
  have e2 : Lib.byteCells (xs ++ [b]) = Lib.byteCells xs ++ [.int .u8 (b.toNat : Int)] := by simp [Lib.byteCells]
  have e1 : (xs ++ [b]).length = xs.length + 1 := by simp
  have hbl : (Lib.byteCells xs).length = xs.length := by simp [Lib.byteCells]
  by_cases hroom : xs.length + 1 ≤ cap
  · have hf := run_firstCells_some (P := P) w i.size 1 ad 1 c _ hl hnew
    have hst := store_oneM P w g xs.length e fz cur (Value.int .u8 (b.toNat : Int)) hg hum (by omega) rfl
    have hr : (Builtin.append_ #[t, t] ty #[.slice (some ⟨g, 0, none⟩) xs.length cap, .slice (some ad) 1 c]).run P w = .ok (.slice (some ⟨g, 0, none⟩) (xs.length + 1) cap) (w.setRow g (cur.setIfInBounds xs.length (Value.int .u8 (b.toNat : Int)))) := by
      rw [hsize] at hf
      simp [Builtin.append_, run_underlying ht, sizeOf, typeInfo, hi, hsize, Builtin.lenOf, hroom, hf, Addr.add_lit, hst]
    refine ⟨_, _, hr, ⟨g, cap, _, fz, by rw [e1], hbg, setRow_heap w g cur _ e _ hg, by simpa using hum, by omega, hcm, by simpa using hcs, ?_⟩, ⟨rfl, rfl, rfl, by simp, fun k _ hk => setRow_other w g k _ (fun e => hk (by simp [Value.ownBlock, e]))⟩⟩
    rw [e1, e2, ← htake, Array.toList_setIfInBounds]
    have hx : xs.length < cur.toList.length := by simp; omega
    rw [List.take_add_one, List.take_set_of_le (Nat.le_refl _), List.getElem?_set_self hx]
    rfl
  · have holds : ∀ j u, (Lib.byteCells xs)[j]? = some u → w.cell? ((⟨g, 0, none⟩ : Addr).add j) = some u := by
      intro j u hj
      have hadd : (⟨g, 0, none⟩ : Addr).add j = ⟨g, j, none⟩ := by unfold Addr.add; split <;> simp_all
      rw [hadd, cell_of_row w g j cur e fz hg]
      rw [← htake, List.getElem?_take] at hj
      split at hj
      · simpa using hj
      · cases hj
    have hr := run_append_grow (P := P) w t ty e i (.int .u8 0) ht hi hz ⟨g, 0, none⟩ xs.length cap (Lib.byteCells xs) (by rw [hsize, Nat.mul_one]; exact hbl) holds ad 1 c [Value.int .u8 (b.toNat : Int)] hl hnew (by omega) (by omega) (by rw [hby]; exact growslice_fits (by omega) (by omega))
    have hge := grownCap_ge w (xs.length + 1) cap e
    have hcm2 : grownCap w (xs.length + 1) cap e ≤ maxLen := grownCap_le_maxLen w (xs.length + 1) cap e (by unfold maxLen; omega)
    refine ⟨_, _, hr, ⟨w.heap.size, _, _, (0, 0), by rw [e1], hbase, heap_alloc_new w.drew _, .inr rfl, by omega, hcm2, ?_, ?_⟩, ⟨rfl, rfl, rfl, by simp, fun k hk _ => heap_alloc_old w.drew _ hk⟩⟩
    · have hz1 : (Value.int IntKind.u8 0).cells.size = 1 := rfl
      simp only [Array.size_append, List.size_toArray, size_zeroCells, hz1, hbl, List.length_cons, List.length_nil]
      omega
    · simp only [Array.toList_append]
      rw [e1, e2]
      have : (Lib.byteCells xs ++ [Value.int .u8 (b.toNat : Int)]).length = xs.length + 1 := by rw [List.length_append, hbl]; rfl
      rw [← this, List.take_left' (by simp)]

/-- 'out = append(out, c)'. -/
theorem wpList_pushM {P : Program} (w : World) {ops : Array Oper} {rest : List Oper} {o : Oper} {a : Act} {Q : Exit → Act → World → Prop} (hgd : o.guard = none) (s x : Operand) (t : TypeId)
    (ho : o.op = .call { callee := .builtin .append, args := #[s, x], argTypes := #[t, t] })
    (base : Nat) (e : TypeId) (i : TypeInfo) (ht : P.underlying t = some (.slice e)) (hi : P.info? e = some i) (hz : i.zero = some (.int .u8 0))
    (hsize : i.size = 1) (hby : i.bytes = 1) (v : Value) (xs : List UInt8) (hs : a.eval s = v) (hown : OwnM w base e v xs)
    (b : UInt8) (z : Int) (hx : a.eval x = .slice (some ⟨w.heap.size, 0, none⟩) 1 1) (hzb : z = b.toNat)
    (hlen : xs.length + 1 ≤ 1000000000) (hbase : base ≤ w.heap.size)
    (h : ∀ v' w', OwnM w' base e v' (xs ++ [b]) → Below base w w' → wpList P ops Q rest (a.put o.dst v') w') :
    wpList P ops Q (o :: rest) a (w.alloc (.cells #[.int .u8 z] e)) := by
  refine wpList_plain hgd fun _ hK => ?_
  have hown' : OwnM (w.alloc (.cells #[.int .u8 z] e)) base e v xs := hown.below ((Below.refl _ _).alloc (Nat.le_refl _) _)
  obtain ⟨v', w', hr, h2, h3⟩ := run_pushM (P := P) (w.alloc (.cells #[.int .u8 z] e)) base t o.type e i ht hi hz hsize hby v xs hown' b ⟨w.heap.size, 0, none⟩ 1 (push_cells w e z b hzb) hlen (by simp; omega)
  unfold Oper.wp execOp
  simp only [ho, resolve, invoke, builtin, Sem.run_bind, Sem.run_pure, Result.andThen_ok, List.map_toArray, List.map_cons, List.map_nil, hs, hx, hr]
  refine hK _ _ (h v' w' h2 ?_)
  refine ((Below.refl base w).alloc hbase _).grown h3 (by simp; omega) (fun k hk => ?_)
  obtain ⟨g, cap, cur, fz, rfl, hbg, _⟩ := hown
  cases hk
  exact hbg

end Go.Proofs.YtpfkokjbpfaafaeDoor

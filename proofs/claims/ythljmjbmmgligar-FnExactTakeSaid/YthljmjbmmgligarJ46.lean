/-
  The library's contracts laid at this translation, in plain words: each is one application.
  What the library's Clone gives.
  The exact law on Take, at every argument.
-/
import Derived.Shelf.LaysM
import Derived.Shelf.Strconv.Clone
import Derived.Ground.Names2Prog
import Derived.Shelf.Slices.SearchI
import Derived.Test.YthljmjbmmgligarProg
import Derived.Test.YthljmjbmmgligarJ28
import Derived.Test.YthljmjbmmgligarJ24
import Derived.Test.YthljmjbmmgligarJ42
import Derived.Test.YthljmjbmmgligarJ44
import Derived.Test.YthljmjbmmgligarJ45
namespace Go.Proofs
open Go.Shelf
def Try.laysM316_ren : Go.Shelf.Ren := ⟨fun | 316 => 84 | n => n, fun | 9 => 9 | 3 => 3 | 4 => 4 | 37 => 107 | 0 => 0 | 127 => 115 | 5 => 5 | n => n, fun | n => n⟩
theorem Try.laysM316 : Go.Proofs.LaysM.n316 Try.prog Try.laysM316_ren := {
  mixed := by kernel_rfl
  f316 := Try.func84.trans (congrArg some (by kernel_rfl))
  t0 := Try.underlying0
  a0 := Try.isAgg0
  z0 := Try.sizeOf0
  v0 := Try.zeroValue0
  t3 := Try.underlying3
  a3 := Try.isAgg3
  z3 := Try.sizeOf3
  v3 := Try.zeroValue3
  t4 := Try.underlying4
  a4 := Try.isAgg4
  z4 := Try.sizeOf4
  v4 := Try.zeroValue4
  t9 := Try.underlying9
  a9 := Try.isAgg9
  z9 := Try.sizeOf9
  v9 := Try.zeroValue9
  t37 := Try.underlying107
  a37 := Try.isAgg107
  z37 := Try.sizeOf107
  v37 := Try.zeroValue107
  t127 := Try.underlying115
  a127 := Try.isAgg115
  z127 := Try.sizeOf115
  v127 := Try.zeroValue115
  t5 := Try.underlying5
  a5 := Try.isAgg5
  z5 := Try.sizeOf5
  v5 := Try.zeroValue5
  i0 := by kernel_rfl
  i3 := by kernel_rfl
  i4 := by kernel_rfl
  i5 := by kernel_rfl
  i9 := by kernel_rfl
  i37 := by kernel_rfl
  i127 := by kernel_rfl }
open Go.RowKit in
theorem Try.stringslite_Clone (s : ByteArray) (w : World) (hlim : s.size ≤ 281474976710656) :
    Calls Try.prog 84 #[.string s] w fun e w' => e = .returned (.string s) ∧ Below w.heap.size w w' := Any.stringslite_Clone Try.laysM316 s w hlim
end Go.Proofs
namespace Go.Proofs.Ythljmjbmmgligar
open Go.RowKit

theorem cloneGives : CloneGives := fun s w hs => by
  have H := Lib.hid (fun w => Try.stringslite_Clone s w (by omega))
  go_enter Try.func61, Try.ntmps61
  go_wp2_with fail
  refine (H.out _).mono ?_
  rintro e w1 ⟨rfl, hb1⟩
  go_wp2
  go_ret
  exact ⟨rfl, hb1⟩

end Go.Proofs.Ythljmjbmmgligar
namespace Go.Proofs.Ythljmjbmmgligar
open Go.RowKit

theorem retT_val {ok : Bool} {m0 m1 m2 m5 : Int} {r3 : List ByteArray} {r4 : List PendingD} {r6 : List EarlyD} {r7 : List Int} {r8 : List ByteArray} {X Y : World} {e : Ending} (h : ChanRetT ok m0 m1 m2 m5 r3 r4 r6 r7 r8 X e Y) : ∃ v, e = .returned (.tuple #[v, .bool ok]) ∧ ChanVal X m0 m1 m2 m5 r3 r4 r6 r7 r8 v Y := by
  obtain ⟨v3, v4, v6, v7, v8, f3, f4, f6, f7, f8, rfl, hco, hb⟩ := h
  exact ⟨_, rfl, hco.val hb⟩
theorem retS_val {ok : Bool} {m0 m1 m2 m5 : Int} {r3 : List ByteArray} {r4 : List PendingD} {r6 : List EarlyD} {r7 : List Int} {r8 : List ByteArray} {X Y : World} {e : Ending} (h : ChanRet ok m0 m1 m2 m5 r3 r4 r6 r7 r8 X e Y) : ∃ v, e = .returned (.tuple #[v, .bool ok]) ∧ ChanVal X m0 m1 m2 m5 r3 r4 r6 r7 r8 v Y := by
  obtain ⟨v3, v4, v6, v7, v8, f3, f4, f6, f7, f8, rfl, hco, hb⟩ := h
  exact ⟨_, rfl, hco.val hb⟩
theorem acks_len (acks : List Int) (ss : List PendingD) : (takeAcks acks ss).length ≤ ss.length := List.length_filter_le _ _
theorem owed_len (num : Int) (os : List Int) : (takeOwed num os).length ≤ os.length + 1 := by
  unfold takeOwed
  split
  · rw [List.length_append]
    simp
  · omega
theorem putE_len (num : Int) (body : ByteArray) (es : List EarlyD) : (putE num body es).length ≤ es.length + es.length + 1 := by
  unfold putE
  rw [List.length_append, List.length_cons]
  show _ ≤ es.length + (es.length + 1)
  exact Nat.add_le_add (List.length_filter_le _ es) (Nat.succ_le_succ (List.length_filter_le _ es))
theorem lawTake_of (n0 n1 n2 n5 : Int) (v3 v4 v6 v7 v8 : Value) (p3 : List ByteArray) (p4 : List PendingD) (p6 : List EarlyD) (p7 : List Int) (p8 : List ByteArray) (op key fr dst num : Int) (vp : Value) (acks : List Int) (body : ByteArray) (ga : acks.length ≤ 9223372036854775807) (gb : body.size ≤ 9223372036854775807) (k3 : RoomString p3) (k4 : RoomPending p4) (k6 : RoomEarly p6) (k7 : RoomInt p7) (k8 : RoomString p8) (m5 : Int) (r4 : List PendingD) (r6 : List EarlyD) (r7 : List Int) (r8 : List ByteArray) (b : Bool) (hb : b = true ↔ TakeOk n0 n1 n2 n5 p3 p4 p6 p7 p8 op key fr dst num acks body) (hf : Few5 1048576 p3 p4 p6 p7 p8 → Few5 10000000 p3 r4 r6 r7 r8)
    (hT : ∀ X e Y, TakeEndT n0 n1 n2 n5 p3 p4 p6 p7 p8 op num acks body b X e Y → ChanRetT b n0 n1 n2 m5 p3 r4 r6 r7 r8 X e Y)
    (hS : ∀ X e Y, TakeEnd n0 n1 n2 n5 p3 p4 p6 p7 p8 op num acks body b X e Y → ChanRet b n0 n1 n2 m5 p3 r4 r6 r7 r8 X e Y)
    (w : World) (ha : ChanRd v3 v4 v6 v7 v8 p3 p4 p6 p7 p8 w) (hp : layIntS.rd w [vp] acks) :
    Calls Try.prog 7 #[.agg #[.int .i64 n0, .int .i64 n1, .int .i64 n2, v3, v4, .int .i64 n5, v6, v7, v8], .agg #[.int .i64 op, .int .i64 key, .int .i64 fr, .int .i64 dst, .int .i64 num, vp, .string body]] w fun e w' => e = .returned (.bool true) ∧ Below w.heap.size w w' := by
  refine lawTakeF n0 n1 n2 n5 v3 v4 v6 v7 v8 p3 p4 p6 p7 p8 op key fr dst num vp acks body ga gb k3 k4 k6 k7 k8 n0 n1 n2 m5 p3 r4 r6 r7 r8 b (fun h _ _ => hf (fits_few h)) ?_ ?_ w ha hp
  · intro h la lb u3 u4 u6 u7 u8 up X hr hq
    have l := fits_few h
    exact (implTake_any cloneGives n0 n1 n2 n5 u3 u4 u6 u7 u8 p3 p4 p6 p7 p8 op key fr dst num up acks body la lb l.l3 l.l4 l.l6 l.l7 l.l8 h.1.2 h.2.1.2 h.2.2.1.2 h.2.2.2.2.2 X hr.h3 hr.h4 hr.h6 hr.h7 hr.h8 hq b hb).mono fun _ _ h => retT_val (hT _ _ _ h)
  · intro h la lb u3 u4 u6 u7 u8 up X hr hq
    have l := fits_few h
    exact (specTake_any n0 n1 n2 n5 u3 u4 u6 u7 u8 p3 p4 p6 p7 p8 op key fr dst num up acks body (by omega) (by omega) (by have := l.l3; omega) (by have := l.l4; omega) (by have := l.l6; omega) (by have := l.l7; omega) (by have := l.l8; omega) X hr.h3 hr.h4 hr.h6 hr.h7 hr.h8 hq b hb).mono fun _ _ h => retS_val (hS _ _ _ h)
theorem lawTake (n0 n1 n2 n5 : Int) (v3 v4 v6 v7 v8 : Value) (p3 : List ByteArray) (p4 : List PendingD) (p6 : List EarlyD) (p7 : List Int) (p8 : List ByteArray) (op key fr dst num : Int) (vp : Value) (acks : List Int) (body : ByteArray) (ga : acks.length ≤ maxLen) (gb : body.size ≤ maxLen) (k3 : RoomString p3) (k4 : RoomPending p4) (k6 : RoomEarly p6) (k7 : RoomInt p7) (k8 : RoomString p8) (w : World) (ha : ChanRd v3 v4 v6 v7 v8 p3 p4 p6 p7 p8 w) (hp : layIntS.rd w [vp] acks) :
    Calls Try.prog 7 #[.agg #[.int .i64 n0, .int .i64 n1, .int .i64 n2, v3, v4, .int .i64 n5, v6, v7, v8], .agg #[.int .i64 op, .int .i64 key, .int .i64 fr, .int .i64 dst, .int .i64 num, vp, .string body]] w fun e w' => e = .returned (.bool true) ∧ Below w.heap.size w w' := by
  unfold maxLen at ga gb
  obtain ⟨b, hb⟩ := exists_bool (TakeOk n0 n1 n2 n5 p3 p4 p6 p7 p8 op key fr dst num acks body)
  cases b with
  | false =>
    refine lawTake_of n0 n1 n2 n5 v3 v4 v6 v7 v8 p3 p4 p6 p7 p8 op key fr dst num vp acks body ga gb k3 k4 k6 k7 k8 n5 p4 p6 p7 p8 false hb.out (fun h => h.mono (by omega)) ?_ ?_ w ha hp
    · intro X e Y h
      unfold TakeEndT at h
      rw [if_pos rfl] at h
      exact h
    · intro X e Y h
      unfold TakeEnd at h
      rw [if_pos rfl] at h
      exact h
  | true =>
    by_cases h2 : op = 2
    · refine lawTake_of n0 n1 n2 n5 v3 v4 v6 v7 v8 p3 p4 p6 p7 p8 op key fr dst num vp acks body ga gb k3 k4 k6 k7 k8 n5 (takeAcks acks p4) p6 p7 p8 true hb.out (fun h => ?_) ?_ ?_ w ha hp
      · have h9 := acks_len acks p4
        exact ⟨by have := h.l3; omega, by have := h.l4; omega, by have := h.l6; omega, by have := h.l7; omega, by have := h.l8; omega⟩
      · intro X e Y h
        unfold TakeEndT at h
        rw [if_neg (by simp), if_pos h2] at h
        exact h
      · intro X e Y h
        unfold TakeEnd at h
        rw [if_neg (by simp), if_pos h2] at h
        exact h
    · by_cases hn : takeNew n5 num p6 = true
      · refine lawTake_of n0 n1 n2 n5 v3 v4 v6 v7 v8 p3 p4 p6 p7 p8 op key fr dst num vp acks body ga gb k3 k4 k6 k7 k8 (n5 + (drainN n5 (putE num body p6) : Nat)) (takeAcks acks p4) ((putE num body p6).drop (drainN n5 (putE num body p6))) (takeOwed num p7) (p8 ++ ((putE num body p6).take (drainN n5 (putE num body p6))).map (·.2)) true hb.out (fun h => ?_) ?_ ?_ w ha hp
        · have h9 := acks_len acks p4
          have h8 := owed_len num p7
          have h7 := putE_len num body p6
          refine ⟨by have := h.l3; omega, by have := h.l4; omega, ?_, by have := h.l7; omega, ?_⟩
          · rw [List.length_drop]
            have := h.l6
            omega
          · rw [List.length_append, List.length_map, List.length_take]
            have := h.l6
            have := h.l8
            omega
        · intro X e Y h
          unfold TakeEndT at h
          rw [if_neg (by simp), if_neg h2, if_pos hn] at h
          exact h
        · intro X e Y h
          unfold TakeEnd at h
          rw [if_neg (by simp), if_neg h2, if_pos hn] at h
          exact h
      · refine lawTake_of n0 n1 n2 n5 v3 v4 v6 v7 v8 p3 p4 p6 p7 p8 op key fr dst num vp acks body ga gb k3 k4 k6 k7 k8 n5 (takeAcks acks p4) p6 (takeOwed num p7) p8 true hb.out (fun h => ?_) ?_ ?_ w ha hp
        · have h9 := acks_len acks p4
          have h8 := owed_len num p7
          exact ⟨by have := h.l3; omega, by have := h.l4; omega, by have := h.l6; omega, by have := h.l7; omega, by have := h.l8; omega⟩
        · intro X e Y h
          unfold TakeEndT at h
          rw [if_neg (by simp), if_neg h2, if_neg hn] at h
          exact h
        · intro X e Y h
          unfold TakeEnd at h
          rw [if_neg (by simp), if_neg h2, if_neg hn] at h
          exact h

end Go.Proofs.Ythljmjbmmgligar

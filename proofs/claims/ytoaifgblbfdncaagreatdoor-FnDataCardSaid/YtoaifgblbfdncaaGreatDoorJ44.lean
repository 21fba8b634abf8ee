/-
  Slots that are being drawn: what lies where.
  Two ends of data in their variables.
-/
import Derived.Test.YtoaifgblbfdncaaGreatDoorJ05
import Derived.Test.YtoaifgblbfdncaaGreatDoorJ18
import Derived.Test.YtoaifgblbfdncaaGreatDoorJ43
import Derived.Test.YtoaifgblbfdncaaGreatDoorJ20
namespace Go.Proofs.YtoaifgblbfdncaaGreatDoor
open Go.RowKit

theorem own_only {X Y : World} {lo q : Nat} {f : List Nat} {v : Value} {r : List Int} (h : layIntS.own X lo f [v] r) (ho : Only q X Y) (hq : q ∉ f) : layIntS.own Y lo f [v] r := layIntS.keep h (fun a ha => ho.block a (layIntS.blocks h a ha).2 (fun e => hq (e ▸ ha)))
/-- The cursor, the result, the slots in their variable. -/
structure DS (c : Nat) (a : Option Addr) (len cap : Nat) (w : World) (q : Nat) (x0 : Int) (x1 x2 : ByteArray) (x3 : Int) (v4 : Value) (r4 : List Int) (x5 : Int) (y0 : Int) (y1 y2 : ByteArray) (y3 : Int) (u4 : Value) (s4 : List Int) (y5 : Int) (X : World) : Prop where
  cur : Cur c a len cap X
  only : Only c w X
  res : VarA w.heap.size SlotsT #[.int .i64 0, .string ⟨#[]⟩, .string ⟨#[]⟩, .int .i64 0, .slice none 0 0, .int .i64 0, .int .i64 0, .string ⟨#[]⟩, .string ⟨#[]⟩, .int .i64 0, .slice none 0 0, .int .i64 0] X
  var : VarA q SlotsT #[.int .i64 x0, .string x1, .string x2, .int .i64 x3, v4, .int .i64 x5, .int .i64 y0, .string y1, .string y2, .int .i64 y3, u4, .int .i64 y5] X
  mo : ∃ f, layIntS.own X w.heap.size f [v4] r4
  lo : ∃ f, layIntS.own X w.heap.size f [u4] s4
  lt : w.heap.size < q
  cl : c < w.heap.size
section
variable {c : Nat} {a : Option Addr} {len cap : Nat} {w : World} {q : Nat} {x0 : Int} {x1 x2 : ByteArray} {x3 : Int} {v4 : Value} {r4 : List Int} {x5 : Int} {y0 : Int} {y1 y2 : ByteArray} {y3 : Int} {u4 : Value} {s4 : List Int} {y5 : Int} {z0 : Int} {z1 z2 : ByteArray} {z3 : Int} {v5 : Value} {t4 : List Int} {z5 : Int} {n0 : Int} {n1 n2 : ByteArray} {n3 : Int} {u5 : Value} {o4 : List Int} {n5 : Int} {X Y : World}
theorem DS.next (h : DS c a len cap w q x0 x1 x2 x3 v4 r4 x5 y0 y1 y2 y3 u4 s4 y5 X) (hb : Below X.heap.size X Y) : DS c a len cap w q x0 x1 x2 x3 v4 r4 x5 y0 y1 y2 y3 u4 s4 y5 Y := by
  obtain ⟨f, hf⟩ := h.mo
  obtain ⟨k, hk⟩ := h.lo
  exact ⟨h.cur.below hb, h.only.trans (.of_below hb), h.res.next hb, h.var.next hb, ⟨f, layIntS.next hf hb⟩, ⟨k, layIntS.next hk hb⟩, h.lt, h.cl⟩
theorem DS.drew (h : DS c a len cap w q x0 x1 x2 x3 v4 r4 x5 y0 y1 y2 y3 u4 s4 y5 X) : DS c a len cap w q x0 x1 x2 x3 v4 r4 x5 y0 y1 y2 y3 u4 s4 y5 X.drew := h.next ((Below.refl _ X).drew)
theorem DS.step (h : DS c a len cap w q x0 x1 x2 x3 v4 r4 x5 y0 y1 y2 y3 u4 s4 y5 X) (hc : Cur c a len cap Y) (ho : Only c X Y) : DS c a len cap w q x0 x1 x2 x3 v4 r4 x5 y0 y1 y2 y3 u4 s4 y5 Y := by
  obtain ⟨f, hf⟩ := h.mo
  obtain ⟨k, hk⟩ := h.lo
  have h1 := h.cl
  have h2 := h.lt
  exact ⟨hc, h.only.trans ho, h.res.only ho (by omega), h.var.only ho (by omega), ⟨f, own_only hf ho (fun hm => by have := (layIntS.blocks hf c hm).1; omega)⟩, ⟨k, own_only hk ho (fun hm => by have := (layIntS.blocks hk c hm).1; omega)⟩, h.lt, h.cl⟩
/-- The slots are put into their variable anew. -/
theorem DS.put (h : DS c a len cap w q x0 x1 x2 x3 v4 r4 x5 y0 y1 y2 y3 u4 s4 y5 X) (hm : ∃ f, layIntS.own X w.heap.size f [v5] t4) (hl : ∃ f, layIntS.own X w.heap.size f [u5] o4) :
    DS c a len cap w q z0 z1 z2 z3 v5 t4 z5 n0 n1 n2 n3 u5 o4 n5 ((((((((((((X.setCell ⟨q, 0, none⟩ (.int .i64 z0)).setCell ⟨q, 1, none⟩ (.string z1)).setCell ⟨q, 2, none⟩ (.string z2)).setCell ⟨q, 3, none⟩ (.int .i64 z3)).setCell ⟨q, 4, none⟩ (v5)).setCell ⟨q, 5, none⟩ (.int .i64 z5)).setCell ⟨q, 6, none⟩ (.int .i64 n0)).setCell ⟨q, 7, none⟩ (.string n1)).setCell ⟨q, 8, none⟩ (.string n2)).setCell ⟨q, 9, none⟩ (.int .i64 n3)).setCell ⟨q, 10, none⟩ (u5)).setCell ⟨q, 11, none⟩ (.int .i64 n5)) := by
  obtain ⟨f, hf⟩ := hm
  obtain ⟨k, hk⟩ := hl
  have h1 := h.cl
  have h2 := h.lt
  have ho : Only q X ((((((((((((X.setCell ⟨q, 0, none⟩ (.int .i64 z0)).setCell ⟨q, 1, none⟩ (.string z1)).setCell ⟨q, 2, none⟩ (.string z2)).setCell ⟨q, 3, none⟩ (.int .i64 z3)).setCell ⟨q, 4, none⟩ (v5)).setCell ⟨q, 5, none⟩ (.int .i64 z5)).setCell ⟨q, 6, none⟩ (.int .i64 n0)).setCell ⟨q, 7, none⟩ (.string n1)).setCell ⟨q, 8, none⟩ (.string n2)).setCell ⟨q, 9, none⟩ (.int .i64 n3)).setCell ⟨q, 10, none⟩ (u5)).setCell ⟨q, 11, none⟩ (.int .i64 n5)) := (putMain_only X q _ _ _ _ _ _).trans (putLame_only _ q _ _ _ _ _ _)
  have hb : Below (w.heap.size + 1) X ((((((((((((X.setCell ⟨q, 0, none⟩ (.int .i64 z0)).setCell ⟨q, 1, none⟩ (.string z1)).setCell ⟨q, 2, none⟩ (.string z2)).setCell ⟨q, 3, none⟩ (.int .i64 z3)).setCell ⟨q, 4, none⟩ (v5)).setCell ⟨q, 5, none⟩ (.int .i64 z5)).setCell ⟨q, 6, none⟩ (.int .i64 n0)).setCell ⟨q, 7, none⟩ (.string n1)).setCell ⟨q, 8, none⟩ (.string n2)).setCell ⟨q, 9, none⟩ (.int .i64 n3)).setCell ⟨q, 10, none⟩ (u5)).setCell ⟨q, 11, none⟩ (.int .i64 n5)) := ho.below (by omega) (by have := h.var.lt; omega)
  exact ⟨h.cur.kept hb (by omega), h.only.behind (hb.mono (by omega)), h.res.only ho (by omega), putBoth h.var (.int .i64 z0) (.string z1) (.string z2) (.int .i64 z3) (v5) (.int .i64 z5) (.int .i64 n0) (.string n1) (.string n2) (.int .i64 n3) (u5) (.int .i64 n5), ⟨f, own_only hf ho (row_off flatIntK hf h.var (by decide))⟩, ⟨k, own_only hk ho (row_off flatIntK hk h.var (by decide))⟩, h.lt, h.cl⟩
end
end Go.Proofs.YtoaifgblbfdncaaGreatDoor
namespace Go.Proofs.YtoaifgblbfdncaaGreatDoor
open Go.RowKit

set_option maxHeartbeats 400000 in
theorem bigD_any (a : Option Addr) (len cap : Nat) (w : World) :
    Calls Tryz.prog 5 #[.slice a len cap] w fun e w' => e = .returned (.bool (decide (1048576 < (len : Int)))) ∧ w' = w := by
  go_enter Tryz.func5, Tryz.ntmps5
  go_wp2
  go_ret
  exact ⟨rfl, rfl⟩
/-- Both ends in their variables. -/
structure DW (w w1 : World) (ga : Nat) (pa pb : ByteArray) (k : Int) (va : Option Addr) (vk : Nat) (ua : Option Addr) (uk : Nat) (na : Option Addr) (nk : Nat) (ma : Option Addr) (mk : Nat) (r : List Int) (X : World) : Prop where
  av : VarA ga SlotsT #[.int .i64 1, .string pa, .string pb, .int .i64 k, .slice va 0 vk, .int .i64 0, .int .i64 0, .string ⟨#[]⟩, .string ⟨#[]⟩, .int .i64 0, .slice ua 0 uk, .int .i64 0] X
  bv : VarA (ga + 1) SlotsT #[.int .i64 1, .string pb, .string pa, .int .i64 0, .slice na r.length nk, .int .i64 0, .int .i64 0, .string ⟨#[]⟩, .string ⟨#[]⟩, .int .i64 0, .slice ma 0 mk, .int .i64 0] X
  a1 : ∃ f, layIntS.own X w.heap.size f [.slice va 0 vk] []
  a2 : ∃ f, layIntS.own X w.heap.size f [.slice ua 0 uk] []
  b1 : ∃ f, layIntS.own X w.heap.size f [.slice na r.length nk] r
  b2 : ∃ f, layIntS.own X w.heap.size f [.slice ma 0 mk] []
  bw : Below w1.heap.size w1 X
  lo : w1.heap.size ≤ ga
  hw : w.heap.size ≤ w1.heap.size
  be : Below w.heap.size w X
section
variable {w w1 : World} {ga : Nat} {pa pb : ByteArray} {k : Int} {va : Option Addr} {vk : Nat} {ua : Option Addr} {uk : Nat} {na : Option Addr} {nk : Nat} {ma : Option Addr} {mk : Nat} {r : List Int} {X Y : World} {k2 : Int} {va2 ua2 na2 ma2 : Option Addr} {vk2 uk2 nk2 mk2 : Nat} {r2 : List Int}
theorem DW.next (h : DW w w1 ga pa pb k va vk ua uk na nk ma mk r X) (hb : Below X.heap.size X Y) : DW w w1 ga pa pb k va vk ua uk na nk ma mk r Y := by
  obtain ⟨f1, h1⟩ := h.a1
  obtain ⟨f2, h2⟩ := h.a2
  obtain ⟨f3, h3⟩ := h.b1
  obtain ⟨f4, h4⟩ := h.b2
  exact ⟨h.av.next hb, h.bv.next hb, ⟨f1, layIntS.next h1 hb⟩, ⟨f2, layIntS.next h2 hb⟩, ⟨f3, layIntS.next h3 hb⟩, ⟨f4, layIntS.next h4 hb⟩, h.bw.trans (hb.mono h.bw.size), h.lo, h.hw, h.be.trans (hb.mono h.be.size)⟩
theorem DW.ra (h : DW w w1 ga pa pb k va vk ua uk na nk ma mk r X) : layIntS.rd X [.slice va 0 vk] [] := h.a1.elim (fun _ k => layIntS.read k)
theorem DW.rb (h : DW w w1 ga pa pb k va vk ua uk na nk ma mk r X) : layIntS.rd X [.slice ua 0 uk] [] := h.a2.elim (fun _ k => layIntS.read k)
theorem DW.rc (h : DW w w1 ga pa pb k va vk ua uk na nk ma mk r X) : layIntS.rd X [.slice na r.length nk] r := h.b1.elim (fun _ k => layIntS.read k)
theorem DW.rd_ (h : DW w w1 ga pa pb k va vk ua uk na nk ma mk r X) : layIntS.rd X [.slice ma 0 mk] [] := h.b2.elim (fun _ k => layIntS.read k)
theorem DW.putA (h : DW w w1 ga pa pb k va vk ua uk na nk ma mk r X) (n1 : ∃ f, layIntS.own X w.heap.size f [.slice va2 0 vk2] []) (n2 : ∃ f, layIntS.own X w.heap.size f [.slice ua2 0 uk2] []) : DW w w1 ga pa pb k2 va2 vk2 ua2 uk2 na nk ma mk r ((((((((((((X.setCell ⟨ga, 0, none⟩ (.int .i64 1)).setCell ⟨ga, 1, none⟩ (.string pa)).setCell ⟨ga, 2, none⟩ (.string pb)).setCell ⟨ga, 3, none⟩ (.int .i64 k2)).setCell ⟨ga, 4, none⟩ (.slice va2 0 vk2)).setCell ⟨ga, 5, none⟩ (.int .i64 0)).setCell ⟨ga, 6, none⟩ (.int .i64 0)).setCell ⟨ga, 7, none⟩ (.string ⟨#[]⟩)).setCell ⟨ga, 8, none⟩ (.string ⟨#[]⟩)).setCell ⟨ga, 9, none⟩ (.int .i64 0)).setCell ⟨ga, 10, none⟩ (.slice ua2 0 uk2)).setCell ⟨ga, 11, none⟩ (.int .i64 0)) := by
  obtain ⟨f1, h1⟩ := n1
  obtain ⟨f2, h2⟩ := n2
  obtain ⟨f3, h3⟩ := h.b1
  obtain ⟨f4, h4⟩ := h.b2
  have hlo := h.lo
  have hhw := h.hw
  have ho : Only ga X ((((((((((((X.setCell ⟨ga, 0, none⟩ (.int .i64 1)).setCell ⟨ga, 1, none⟩ (.string pa)).setCell ⟨ga, 2, none⟩ (.string pb)).setCell ⟨ga, 3, none⟩ (.int .i64 k2)).setCell ⟨ga, 4, none⟩ (.slice va2 0 vk2)).setCell ⟨ga, 5, none⟩ (.int .i64 0)).setCell ⟨ga, 6, none⟩ (.int .i64 0)).setCell ⟨ga, 7, none⟩ (.string ⟨#[]⟩)).setCell ⟨ga, 8, none⟩ (.string ⟨#[]⟩)).setCell ⟨ga, 9, none⟩ (.int .i64 0)).setCell ⟨ga, 10, none⟩ (.slice ua2 0 uk2)).setCell ⟨ga, 11, none⟩ (.int .i64 0)) := (putMain_only X ga _ _ _ _ _ _).trans (putLame_only _ ga _ _ _ _ _ _)
  have hs : ga < X.heap.size := h.av.lt
  exact ⟨putBoth h.av (.int .i64 1) (.string pa) (.string pb) (.int .i64 k2) (.slice va2 0 vk2) (.int .i64 0) (.int .i64 0) (.string ⟨#[]⟩) (.string ⟨#[]⟩) (.int .i64 0) (.slice ua2 0 uk2) (.int .i64 0), h.bv.only ho (by omega), ⟨f1, own_only h1 ho (row_off flatIntK h1 h.av (by decide))⟩, ⟨f2, own_only h2 ho (row_off flatIntK h2 h.av (by decide))⟩, ⟨f3, own_only h3 ho (row_off flatIntK h3 h.av (by decide))⟩, ⟨f4, own_only h4 ho (row_off flatIntK h4 h.av (by decide))⟩, h.bw.trans (ho.below hlo (by omega)), h.lo, h.hw, h.be.trans (ho.below (by omega) (by omega))⟩
theorem DW.putB (h : DW w w1 ga pa pb k va vk ua uk na nk ma mk r X) (n1 : ∃ f, layIntS.own X w.heap.size f [.slice na2 r2.length nk2] r2) (n2 : ∃ f, layIntS.own X w.heap.size f [.slice ma2 0 mk2] []) : DW w w1 ga pa pb k va vk ua uk na2 nk2 ma2 mk2 r2 ((((((((((((X.setCell ⟨ga + 1, 0, none⟩ (.int .i64 1)).setCell ⟨ga + 1, 1, none⟩ (.string pb)).setCell ⟨ga + 1, 2, none⟩ (.string pa)).setCell ⟨ga + 1, 3, none⟩ (.int .i64 0)).setCell ⟨ga + 1, 4, none⟩ (.slice na2 r2.length nk2)).setCell ⟨ga + 1, 5, none⟩ (.int .i64 0)).setCell ⟨ga + 1, 6, none⟩ (.int .i64 0)).setCell ⟨ga + 1, 7, none⟩ (.string ⟨#[]⟩)).setCell ⟨ga + 1, 8, none⟩ (.string ⟨#[]⟩)).setCell ⟨ga + 1, 9, none⟩ (.int .i64 0)).setCell ⟨ga + 1, 10, none⟩ (.slice ma2 0 mk2)).setCell ⟨ga + 1, 11, none⟩ (.int .i64 0)) := by
  obtain ⟨f1, h1⟩ := h.a1
  obtain ⟨f2, h2⟩ := h.a2
  obtain ⟨f3, h3⟩ := n1
  obtain ⟨f4, h4⟩ := n2
  have hlo := h.lo
  have hhw := h.hw
  have ho : Only (ga + 1) X ((((((((((((X.setCell ⟨ga + 1, 0, none⟩ (.int .i64 1)).setCell ⟨ga + 1, 1, none⟩ (.string pb)).setCell ⟨ga + 1, 2, none⟩ (.string pa)).setCell ⟨ga + 1, 3, none⟩ (.int .i64 0)).setCell ⟨ga + 1, 4, none⟩ (.slice na2 r2.length nk2)).setCell ⟨ga + 1, 5, none⟩ (.int .i64 0)).setCell ⟨ga + 1, 6, none⟩ (.int .i64 0)).setCell ⟨ga + 1, 7, none⟩ (.string ⟨#[]⟩)).setCell ⟨ga + 1, 8, none⟩ (.string ⟨#[]⟩)).setCell ⟨ga + 1, 9, none⟩ (.int .i64 0)).setCell ⟨ga + 1, 10, none⟩ (.slice ma2 0 mk2)).setCell ⟨ga + 1, 11, none⟩ (.int .i64 0)) := (putMain_only X (ga + 1) _ _ _ _ _ _).trans (putLame_only _ (ga + 1) _ _ _ _ _ _)
  have hs : ga + 1 < X.heap.size := h.bv.lt
  exact ⟨h.av.only ho (by omega), putBoth h.bv (.int .i64 1) (.string pb) (.string pa) (.int .i64 0) (.slice na2 r2.length nk2) (.int .i64 0) (.int .i64 0) (.string ⟨#[]⟩) (.string ⟨#[]⟩) (.int .i64 0) (.slice ma2 0 mk2) (.int .i64 0), ⟨f1, own_only h1 ho (row_off flatIntK h1 h.bv (by decide))⟩, ⟨f2, own_only h2 ho (row_off flatIntK h2 h.bv (by decide))⟩, ⟨f3, own_only h3 ho (row_off flatIntK h3 h.bv (by decide))⟩, ⟨f4, own_only h4 ho (row_off flatIntK h4 h.bv (by decide))⟩, h.bw.trans (ho.below (by omega) (by omega)), h.lo, h.hw, h.be.trans (ho.below (by omega) (by omega))⟩
end

end Go.Proofs.YtoaifgblbfdncaaGreatDoor

/-
  The law on grants, out of the program's contracts.
  The laws on pools, out of the program's contracts.
-/
import Derived.Test.YtphmomlgmnllkadJ41
import Derived.Test.YtphmomlgmnllkadJ36
namespace Go.Proofs.Ytphmomlgmnllkad
open Go.RowKit

/-- What the law on grants holds while it goes on: the pool, the one with the grant, the one with it again, the one without it. -/
structure GW (w : World) (gp gq gk gd : Nat) (pa pn : Int) (la fa aa ba ca da ia ja : Option Addr) (lc fc ac bc cc dc ic jc : Nat) (ls rs qs us : List Ls) (fs : List Fx) (X : World) : Prop where
  p : PoV gp pa pn (.slice la ls.length lc) (.slice fa fs.length fc) ls fs X
  a : PoV gq pa pn (.slice aa rs.length ac) (.slice ba fs.length bc) rs fs X
  c : PoV gk pa pn (.slice ca qs.length cc) (.slice da fs.length dc) qs fs X
  d : PoV gd pa pn (.slice ia us.length ic) (.slice ja fs.length jc) us fs X
  below : Below w.heap.size w X
theorem GW.next {w : World} {gp gq gk gd : Nat} {pa pn : Int} {la fa aa ba ca da ia ja : Option Addr} {lc fc ac bc cc dc ic jc : Nat} {ls rs qs us : List Ls} {fs : List Fx} {X Y : World} (h : GW w gp gq gk gd pa pn la fa aa ba ca da ia ja lc fc ac bc cc dc ic jc ls rs qs us fs X) (hb : Below X.heap.size X Y) : GW w gp gq gk gd pa pn la fa aa ba ca da ia ja lc fc ac bc cc dc ic jc ls rs qs us fs Y :=
  ⟨h.p.next hb, h.a.next hb, h.c.next hb, h.d.next hb, h.below.trans (hb.mono h.below.size)⟩

end Go.Proofs.Ytphmomlgmnllkad
namespace Go.Proofs.Ytphmomlgmnllkad
open Go.RowKit

theorem overFns : OverFns (fun _ => True) where
  stays := fun _ _ _ _ => trivial
  ok := fun pa pn lv fv ls fs h1 h2 X _ hr => implPoolOk_any pa pn lv fv ls fs h1 h2 X hr
  holder := fun pa pn lv fv ls fs a h1 X _ hr => implHolderOf_any pa pn lv fv ls fs a h1 X hr
  expire := fun pa pn lv fv ls fs now h1 h2 h3 X _ hr => implExpire_any pa pn lv fv ls fs now h1 h2 h3 X hr
set_option maxRecDepth 100000 in
set_option maxHeartbeats 400000 in
theorem lawExpires_big (a : Option Addr) (len cap : Nat) (h : 1048576 < len) (w : World) :
    Calls Try.prog 3 #[.slice a len cap] w fun e w' => e = .returned (.bool true) ∧ Below w.heap.size w w' := by
  have hd : decide (1048576 < (len : Int)) = true := decide_eq_true (by omega)
  have HB := Lib.hid (fun w => bigE_any a len cap w)
  rw [hd] at HB
  clear hd
  go_enter Try.func3, Try.ntmps3
  go_wp2_with fail
  refine (HB.out _).mono ?_
  rintro e w1 ⟨rfl, rfl⟩
  go_wp2_with fail
  go_ret
  exact ⟨rfl, Below.refl _ _⟩
theorem lawExpires (a : Option Addr) (len cap : Nat) (w : World) (H : Src a len w) :
    Calls Try.prog 3 #[.slice a len cap] w fun e w' => e = .returned (.bool true) ∧ Below w.heap.size w w' := lawExpiresF _ overFns a len cap w H trivial

end Go.Proofs.Ytphmomlgmnllkad

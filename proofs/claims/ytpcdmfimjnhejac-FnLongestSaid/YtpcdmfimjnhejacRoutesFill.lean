/-
  The laws on routes, out of the program's contracts.
-/
import Derived.Test.YtpcdmfimjnhejacRoutesImpl
import Derived.Test.YtpcdmfimjnhejacLawRoutesWalk
namespace Go.Proofs.Ytpcdmfimjnhejac
open Go.RowKit

theorem routeFns : RouteFns (fun _ => True) where
  stays := fun _ _ _ _ => trivial
  ok := fun v xs hl X _ hr => implRoutesOk_any v xs (by omega) X hr
  put := fun v xs ra rn rt hl ha hn X _ hr => implPutRoute_any v xs ra rn rt hl ha hn X hr
  drop := fun v xs a n hl ha hn X _ hr => implDropRoute_any v xs a n hl ha hn X hr
  dropTo := fun v xs t hl X _ hr => implDropTo_any v xs t hl X hr
/-- The laws, at every row of bytes. -/
theorem lawRoutes (a : Option Addr) (len cap : Nat) (w : World) (H : Src a len w) :
    Calls Try.prog 3 #[.slice a len cap] w fun e w' => e = .returned (.bool true) ∧ Below w.heap.size w w' := lawRoutesF _ routeFns a len cap w H trivial
theorem lawLongest (a : Option Addr) (len cap : Nat) (w : World) (H : Src a len w) :
    Calls Try.prog 4 #[.slice a len cap] w fun e w' => e = .returned (.bool true) ∧ Below w.heap.size w w' := lawLongestF (fun _ => True) (fun _ _ _ _ => trivial) (fun v xs x h hx X _ hr => implLookUp_right v xs x (by have := h.2; omega) hx X hr h) a len cap w H trivial

end Go.Proofs.Ytpcdmfimjnhejac

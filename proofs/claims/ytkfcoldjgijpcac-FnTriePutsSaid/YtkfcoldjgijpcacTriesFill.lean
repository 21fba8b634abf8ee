/-
  The laws on trees of bits, out of the program's contracts.
-/
import Derived.Test.YtkfcoldjgijpcacTrieImpl
import Derived.Test.YtkfcoldjgijpcacLawTriePutsWalk
namespace Go.Proofs.Ytkfcoldjgijpcac
open Go.RowKit

theorem trieFns : TrieFns (fun _ => True) where
  stays := fun _ _ _ _ => trivial
  new := fun X _ => implTrieNew_any X
  of := fun v xs hl X _ hr => implTrieOf_any v xs (by omega) X hr
  ok := fun v t hl X _ hr => implTrieOk_any v t X hr (by omega)
  yes := fun v t a ht ha X _ hr => implTrieFind_yes v t a X hr ht ha
  put := fun v t a n p hl ha hn hp X _ hr => implTriePut_any v t a n p ha hn hp X hr (by omega)
/-- The laws, at every row of bytes. -/
theorem lawTries (a : Option Addr) (len cap : Nat) (w : World) (H : Src a len w) :
    Calls Try.prog 5 #[.slice a len cap] w fun e w' => e = .returned (.bool true) ∧ Below w.heap.size w w' := lawTriesF _ trieFns a len cap w H trivial
theorem lawTriePuts (a : Option Addr) (len cap : Nat) (w : World) (H : Src a len w) :
    Calls Try.prog 6 #[.slice a len cap] w fun e w' => e = .returned (.bool true) ∧ Below w.heap.size w w' := lawTriePutsF _ trieFns a len cap w H trivial

end Go.Proofs.Ytkfcoldjgijpcac

/-
  What the program's functions of addresses give.
-/
import Derived.Test.YtmmippdommemmabDoorAddrGives
import Derived.Test.YtmmippdommemmabDoorReadGives
import Derived.Test.YtmmippdommemmabDoorAddrFns
namespace Go.Proofs.YtmmippdommemmabDoor
open Go.RowKit

theorem addrFns : AddrFns LaidA where
  stays := LaidA.all
  ok_yes := fun a h0 h1 X _ => implAddrOk_yes a h0 h1 X
  ok_no := fun a h0 X _ => implAddrOk_no a h0 X
  text_yes := fun a h0 X hX => implAddrText_yes a h0 X hX.tab
  text_no := fun a h0 X _ => implAddrText_no a h0 X
  read_yes := implReadAddr_yes
  read_no := implReadAddr_no
  pok_yes := fun a n h0 X _ => implPrefixOk_yes a n h0 X
  pok_no := fun a n h0 X _ => implPrefixOk_no a n h0 X
  of_yes := fun a n h0 h1 X _ => implPrefixOf_yes a n h0 h1 X
  of_no := fun a n h0 X _ => implPrefixOf_no a n h0 X
  in_yes := fun a n x h0 X _ => implInPrefix_yes a n x h0 X
  in_no := fun a n x h0 X _ => implInPrefix_no a n x h0 X
  ptext_yes := fun a n h0 X hX => implPrefixText_yes a n h0 X hX.tab
  ptext_no := fun a n h0 X _ => implPrefixText_no a n h0 X
  pread_yes := implReadPrefix_yes
  pread_no := implReadPrefix_no

end Go.Proofs.YtmmippdommemmabDoor

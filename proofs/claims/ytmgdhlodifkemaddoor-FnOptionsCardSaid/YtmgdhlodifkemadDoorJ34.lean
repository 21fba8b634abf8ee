/-
  What the library's Clone gives.
  What the program's functions of options give.
-/
import Derived.Test.YtmgdhlodifkemadDoorJ24
import Derived.Test.YtmgdhlodifkemadDoorJ03
import Derived.Test.YtmgdhlodifkemadDoorJ32
import Derived.Test.YtmgdhlodifkemadDoorJ33
namespace Go.Proofs.YtmgdhlodifkemadDoor
open Go.RowKit

theorem cloneGives : CloneGives := fun s w hs => by
  have H := Lib.hid (fun w => Tryd.stringslite_Clone s w (by omega))
  go_enter Tryd.func73, Tryd.ntmps73
  go_wp2_with fail
  refine (H.out _).mono ?_
  rintro e w1 ⟨rfl, hb1⟩
  go_wp2
  go_ret
  exact ⟨rfl, hb1⟩

end Go.Proofs.YtmgdhlodifkemadDoor
namespace Go.Proofs.YtmgdhlodifkemadDoor
open Go.RowKit

theorem optFns : OptFns LaidA where
  stays := LaidA.all
  ok := fun z v ws p b hb f X _ h => implOptionsOk_bool z v ws p b hb (by have := f.1; omega) (fun x hx => by have := f.2 x hx; omega) X h
  text := fun z v ws p t ok ht f X hX h => implOptionText_any z v ws p t ok ht (by have := f.1; omega) (fun x hx => by have := f.2 x hx; omega) X hX.tab h
  read := fun s rz rw rp ok hR hs X hX => (implReadOption_any cloneGives s hs rz rw rp ok hR X hX).mono fun _ _ h => optRet_val h
  agree := fun za va wa pa zb vb wb pb rz rw rp ok hag f1 f2 X _ h1 h2 => (implAgree_any cloneGives za va wa pa zb vb wb pb rz rw rp ok hag (by have := f1.1; omega) (fun x hx => by have := f1.2 x hx; omega) (by have := f2.1; omega) (fun x hx => by have := f2.2 x hx; omega) X h1 h2).mono fun _ _ h => optRet_val h

end Go.Proofs.YtmgdhlodifkemadDoor

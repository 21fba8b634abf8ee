/-
  What the program's functions of signatures give.
-/
import Derived.Test.YtogmmilfdolpnabDoorSignImpl
import Derived.Test.YtogmmilfdolpnabDoorCheckImpl
namespace Go.Proofs.YtogmmilfdolpnabDoor
open Go.RowKit

theorem signFns : SignFns where
  secret := fun seed h X hX => implSecretOf_any seed (by omega) X hX
  pub_yes := implPublicOf_yes
  chal_yes := fun r p m hr hp hm X hX => implChallenge_yes r p m hr hp (by omega) X hX
  chal_no := fun r p m h X _ => implChallenge_no r p m h X
  sign_yes := implSignText_yes
  sign_no := fun s m h X _ => implSignText_no s m h X
  check_group := fun p m E S h X _ => implCheck_group p m E S h X
  check_sig := fun p m E S hp h X _ => implCheck_sig p m E S hp h X
  check_in := implCheck_in
  sig_yes := implSigText_yes
  sig_no := implSigText_no
  read_size := implReadSig_size
  read_eight := implReadSig_eight

end Go.Proofs.YtogmmilfdolpnabDoor

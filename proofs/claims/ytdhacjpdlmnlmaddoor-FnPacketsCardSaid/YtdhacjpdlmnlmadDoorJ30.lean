/-
  The program's functions of packets give what the plain functions say.
-/
import Derived.Test.YtdhacjpdlmnlmadDoorJ16
import Derived.Test.YtdhacjpdlmnlmadDoorJ25
import Derived.Test.YtdhacjpdlmnlmadDoorJ29
namespace Go.Proofs.YtdhacjpdlmnlmadDoor
open Go.RowKit

theorem strGives : StrGives := fun B b l w h hB => Tryd.Builder_String_any_f B b l w h hB
theorem packetFns : PacketFns Laid where
  stays := fun _ _ h hb => h.stays hb (Nat.le_refl _)
  ok := fun op key fr dst num v xs body hl hb X _ hr => implPacketOk_any op key fr dst num v xs body hl hb X hr
  text_yes := fun op key fr dst num v xs body hy X hL hr => implPacketText_yes strGives op key fr dst num v xs body X hr hL hy
  text_no := fun op key fr dst num v xs body hl hb hn X _ hr => implPacketText_no op key fr dst num v xs body hl hb X hr hn
  read := fun text hs X hL => implReadPacket_any text hs X hL

end Go.Proofs.YtdhacjpdlmnlmadDoor

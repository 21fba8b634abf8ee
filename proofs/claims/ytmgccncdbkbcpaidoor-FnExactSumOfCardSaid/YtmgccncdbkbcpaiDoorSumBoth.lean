/-
  Both sides of the sums.
-/
import Derived.Test.YtmgccncdbkbcpaiDoorSumImpl
import Derived.Test.YtmgccncdbkbcpaiDoorSumSpec

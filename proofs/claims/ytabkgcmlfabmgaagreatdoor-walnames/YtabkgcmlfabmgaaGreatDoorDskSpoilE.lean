/-
  CONTRACTS: Spoil, where it is refused, for every disk in memory.
-/
import Derived.Test.YtabkgcmlfabmgaaGreatDoorDskSpoil
namespace Go.Proofs.YtabkgcmlfabmgaaGreatDoor
open Go.RowKit Go.Maps

end Go.Proofs.YtabkgcmlfabmgaaGreatDoor

/-
  CONTRACTS: a file goes, a file gets another name, where nothing is planned, for every disk in memory.
-/
import Derived.Test.YthihljjefncfoaaGreatDoorDskNew
namespace Go.Proofs.YthihljjefncfoaaGreatDoor
open Go.RowKit Go.Maps

end Go.Proofs.YthihljjefncfoaaGreatDoor

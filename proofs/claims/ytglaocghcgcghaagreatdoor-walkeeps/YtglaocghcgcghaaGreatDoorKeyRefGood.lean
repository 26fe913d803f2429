/-
  CONTRACTS: a key's text, a name and a good key, by the document.
-/
import Derived.Test.YtglaocghcgcghaaGreatDoorMany16
namespace Go.Proofs.YtglaocghcgcghaaGreatDoor
open Go.RowKit

end Go.Proofs.YtglaocghcgcghaaGreatDoor

/-
  THE WALK: any text in tokens.
-/
import Derived.Test.YtajebjkpmbehgaaGreatDoorLxrLike
import Derived.Test.YtajebjkpmbehgaaGreatDoorRegCl
namespace Go.Proofs.YtajebjkpmbehgaaGreatDoor
open Go.RowKit

namespace lexerLexes
end lexerLexes
end Go.Proofs.YtajebjkpmbehgaaGreatDoor

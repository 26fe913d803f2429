/-
  CONTRACTS: attempt at a text, and GetText, each for every argument.
-/
import Derived.Test.YtdookhmaiapclaaGreatDoorCodText
namespace Go.Proofs.YtdookhmaiapclaaGreatDoor
open Go.RowKit

/-- What GetText tells of bytes: the text, and how many bytes it has. -/
def txtS (l : List UInt8) : List UInt8 := match textN l with | some (s, _) => s | none => []
def txtK (l : List UInt8) : Nat := match textN l with | some (_, r) => l.length - r.length | none => 0
end Go.Proofs.YtdookhmaiapclaaGreatDoor

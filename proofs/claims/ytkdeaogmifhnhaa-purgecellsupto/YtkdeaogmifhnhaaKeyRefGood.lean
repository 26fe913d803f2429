/-
  CONTRACTS: a key's text, a name and a good key, by the document.
-/
import Derived.Test.YtkdeaogmifhnhaaKeyGood
namespace Go.Proofs.Ytkdeaogmifhnhaa
open Go.RowKit

end Go.Proofs.Ytkdeaogmifhnhaa

/-
  CONTRACTS: a key's text, a name and a good key, by the document.
-/
import Derived.Test.YtdpglmgnbhpneaaKeyGood
namespace Go.Proofs.Ytdpglmgnbhpneaa
open Go.RowKit

end Go.Proofs.Ytdpglmgnbhpneaa

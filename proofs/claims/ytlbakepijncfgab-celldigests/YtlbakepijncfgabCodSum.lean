/-
  CONTRACTS: the codec's Zig, Zag, and its sum (sumOn, Sum), each for every argument.
-/
import Derived.Test.YtlbakepijncfgabChecked
import Derived.Test.YtlbakepijncfgabCodPlain
import Derived.Test.YtlbakepijncfgabOwn
namespace Go.Proofs.Ytlbakepijncfgab
open Go.RowKit


theorem zig_any (n : Int) (w : World) (h1 : -9223372036854775808 ≤ n) (h2 : n ≤ 9223372036854775807) :
    Calls Try.prog 29 #[.int .i64 n] w fun e w' => e = .returned (.int .u64 (zigZ n)) ∧ w' = w := by
  have hz := zig_text n h1 h2
  go_enter Try.func29, Try.ntmps29
  go_wp2
  go_ret
  exact ⟨rfl, rfl⟩

end Go.Proofs.Ytlbakepijncfgab

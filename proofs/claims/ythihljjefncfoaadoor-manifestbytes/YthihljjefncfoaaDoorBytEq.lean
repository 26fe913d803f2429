/-
  CONTRACT: the library's bytes.Equal.
-/
import Derived.Test.YthihljjefncfoaaDoorCodPut
namespace Go.Proofs.YthihljjefncfoaaDoor
open Go.RowKit

set_option maxRecDepth 100000 in
theorem equal_any (ao bo : Option Addr) (la lb : List UInt8) (ca cb : Nat) (w : World) (ha : Sees w ao la) (hb : Sees w bo lb) (hna : ao = none → la.length = 0) (hnb : bo = none → lb.length = 0) :
    Calls Tryd.prog 30 #[.slice ao la.length ca, .slice bo lb.length cb] w fun e w' => e = .returned (.bool (la == lb)) ∧ w' = w := by
  have c1 := conv_sees ha hna ca
  have c2 := conv_sees hb hnb cb
  go_enter Tryd.func30, Tryd.ntmps30
  go_wp2_with fail
  go_ret
  exact ⟨rfl, rfl⟩
end Go.Proofs.YthihljjefncfoaaDoor

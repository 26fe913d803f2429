/-
  CONTRACTS: the codec's addText, Put, PutText, and Same, each for every argument.
-/
import Derived.Test.YthihljjefncfoaaDoorCodAdd
namespace Go.Proofs.YthihljjefncfoaaDoor
open Go.RowKit

/-- A text in bytes: its length, then it. -/
def txtL (s : List UInt8) : List UInt8 := numL s.length ++ s

set_option maxRecDepth 100000 in
set_option maxHeartbeats 400000 in
theorem put_any (ao : Option Addr) (l : List UInt8) (cap u : Nat) (w : World) (hs : Sees w ao l) (hnone : ao = none → l.length = 0) (hl : l.length ≤ 140737488354000) (hu : u < 18446744073709551616) :
    Calls Tryd.prog 24 #[.slice ao l.length cap, .int .u64 u] w fun e w' => ∃ v', e = .returned v' ∧ w'.ownsRow w.heap.size 5 1 v' (l.length + (numL u).length) (B8 (l ++ numL u)) ∧ Below w.heap.size w w' := by
  have Hu : Hid (u < 18446744073709551616) := hu
  clear hu
  go_enter Tryd.func24, Tryd.ntmps24
  go_wp2_with (first
    | (go_at_call 43; go_must (refine (copyWithRoom_any ao l cap 10 _ hs hnone (by omega)).mono ?_; rintro e w1 ⟨v1, rfl, ho1, hb1⟩))
    | (go_at_call 42; go_must (refine (addNumber_any w.heap.size v1 l.length l u _ ho1 Hu.out (by omega) hb1.size).mono ?_; rintro e w2 ⟨v2, rfl, ho2, hg2⟩)))
  go_ret
  exact ⟨v2, rfl, ho2, hb1.trans (hg2.below hb1.size (fun g hg => (ho1.lt g hg).1))⟩
theorem conv_sees {w : World} {ao : Option Addr} {l : List UInt8} (h : Sees w ao l) (hn : ao = none → l.length = 0) (cap : Nat) :
    (convert 25 9 (.slice ao l.length cap)).run Tryd.prog w = .ok (.string ⟨l.toArray⟩) w := by
  cases ao with
  | none =>
    obtain rfl : l = [] := List.eq_nil_of_length_eq_zero (hn rfl)
    rw [run_convert_bytes_string w 25 9 5 none _ cap Tryd.underlying25 Tryd.underlying5 Tryd.underlying9]
    rfl
  | some a =>
    refine run_convert_bytes_back w 25 9 5 a cap l Tryd.underlying25 Tryd.underlying5 Tryd.underlying9 fun j hj => ?_
    obtain ⟨a', e, hc⟩ := h j hj
    obtain rfl := Option.some.inj e
    rw [hc]; simp [List.getD, hj]

set_option maxHeartbeats 400000 in
theorem same_any (ao bo : Option Addr) (la lb : List UInt8) (ca cb : Nat) (w : World) (ha : Sees w ao la) (hb : Sees w bo lb) (hna : ao = none → la.length = 0) (hnb : bo = none → lb.length = 0) :
    Calls Tryd.prog 14 #[.slice ao la.length ca, .slice bo lb.length cb] w fun e w' => e = .returned (.bool (la == lb)) ∧ w' = w := by
  have c1 := conv_sees ha hna ca
  have c2 := conv_sees hb hnb cb
  go_enter Tryd.func14, Tryd.ntmps14
  go_wp2
  go_ret
  exact ⟨rfl, rfl⟩
end Go.Proofs.YthihljjefncfoaaDoor

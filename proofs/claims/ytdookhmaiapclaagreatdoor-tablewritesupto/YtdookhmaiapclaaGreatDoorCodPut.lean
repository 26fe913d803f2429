/-
  CONTRACTS: the codec's addText, Put, PutText, and Same, each for every argument.
-/
import Derived.Test.YtdookhmaiapclaaGreatDoorCodAdd
namespace Go.Proofs.YtdookhmaiapclaaGreatDoor
open Go.RowKit

/-- A text in bytes: its length, then it. -/
def txtL (s : List UInt8) : List UInt8 := numL s.length ++ s

set_option maxRecDepth 100000 in
set_option maxHeartbeats 400000 in
theorem addText_any (base : Nat) (v : Value) (n : Nat) (xs : List UInt8) (s : ByteArray) (w : World) (hown : w.ownsRow base 5 1 v n (B8 xs)) (hn : n + s.size ≤ 140737488354000) (hb : base ≤ w.heap.size) :
    Calls Tryz.prog 121 #[v, .string s] w fun e w' => ∃ v', e = .returned v' ∧ w'.ownsRow base 5 1 v' (n + (txtL s.data.toList).length) (B8 (xs ++ txtL s.data.toList)) ∧ Grew w w' v v' := by
  obtain ⟨i0, hi, hz0, hz1, hz2⟩ := info_parts info8
  have hnl := numL_length s.size
  have hsz : s.data.toList.length = s.size := by simp
  go_enter Tryz.func121, Tryz.ntmps121
  go_wp2_with (first
    | (go_at_call 118; go_must (refine (addNumber_any base v n xs s.size _ hown (by omega) (by omega) hb).mono ?_; rintro e w1 ⟨v1, rfl, ho1, hg1⟩))
    | (at_builtin; go_must (refine wpList_append_grew _ rfl _ _ 29 9 rfl base 5 i0 (.int .u8 0) 1 1 Tryz.underlying29 hi hz0 hz1 hz2 rfl _ _ _ rfl ho1 _ s.size (B8 s.data.toList) rfl (Src.ofString _ Tryz.underlying9 s) (by unfold maxLen; omega) (by omega) (Nat.le_trans hb hg1.rows.size) ?_; intro v' w' ho' hg')))
  go_ret
  refine ⟨v', rfl, ?_, hg1.trans hg'⟩
  unfold txtL
  rw [hsz, List.length_append, hsz, ← List.append_assoc, B8_append _ s.data.toList, ← Nat.add_assoc]
  exact ho'

set_option maxRecDepth 100000 in
set_option maxHeartbeats 400000 in
theorem put_any (ao : Option Addr) (l : List UInt8) (cap u : Nat) (w : World) (hs : Sees w ao l) (hnone : ao = none → l.length = 0) (hl : l.length ≤ 140737488354000) (hu : u < 18446744073709551616) :
    Calls Tryz.prog 94 #[.slice ao l.length cap, .int .u64 u] w fun e w' => ∃ v', e = .returned v' ∧ w'.ownsRow w.heap.size 5 1 v' (l.length + (numL u).length) (B8 (l ++ numL u)) ∧ Below w.heap.size w w' := by
  have Hu : Hid (u < 18446744073709551616) := hu
  clear hu
  go_enter Tryz.func94, Tryz.ntmps94
  go_wp2_with (first
    | (go_at_call 113; go_must (refine (copyWithRoom_any ao l cap 10 _ hs hnone (by omega)).mono ?_; rintro e w1 ⟨v1, rfl, ho1, hb1⟩))
    | (go_at_call 118; go_must (refine (addNumber_any w.heap.size v1 l.length l u _ ho1 Hu.out (by omega) hb1.size).mono ?_; rintro e w2 ⟨v2, rfl, ho2, hg2⟩)))
  go_ret
  exact ⟨v2, rfl, ho2, hb1.trans (hg2.below hb1.size (fun g hg => (ho1.lt g hg).1))⟩
set_option maxRecDepth 100000 in
set_option maxHeartbeats 400000 in
theorem putText_any (ao : Option Addr) (l : List UInt8) (cap : Nat) (s : ByteArray) (w : World) (hs : Sees w ao l) (hnone : ao = none → l.length = 0) (hl : l.length + s.size ≤ 140737488353000) :
    Calls Tryz.prog 90 #[.slice ao l.length cap, .string s] w fun e w' => ∃ v', e = .returned v' ∧ w'.ownsRow w.heap.size 5 1 v' (l.length + (txtL s.data.toList).length) (B8 (l ++ txtL s.data.toList)) ∧ Below w.heap.size w w' := by
  go_enter Tryz.func90, Tryz.ntmps90
  go_wp2_with fail
  rw [show (10 : Int) + (s.size : Int) = ((10 + s.size : Nat) : Int) from by omega]
  refine (copyWithRoom_any ao l cap (10 + s.size) _ hs hnone (by omega)).mono ?_
  rintro e w1 ⟨v1, rfl, ho1, hb1⟩
  go_wp2_with fail
  refine (addText_any w.heap.size v1 l.length l s _ ho1 (by omega) hb1.size).mono ?_
  rintro e w2 ⟨v2, rfl, ho2, hg2⟩
  go_wp2_with fail
  go_ret
  exact ⟨v2, rfl, ho2, hb1.trans (hg2.below hb1.size (fun g hg => (ho1.lt g hg).1))⟩
theorem conv_sees {w : World} {ao : Option Addr} {l : List UInt8} (h : Sees w ao l) (hn : ao = none → l.length = 0) (cap : Nat) :
    (convert 29 9 (.slice ao l.length cap)).run Tryz.prog w = .ok (.string ⟨l.toArray⟩) w := by
  cases ao with
  | none =>
    obtain rfl : l = [] := List.eq_nil_of_length_eq_zero (hn rfl)
    rw [run_convert_bytes_string w 29 9 5 none _ cap Tryz.underlying29 Tryz.underlying5 Tryz.underlying9]
    rfl
  | some a =>
    refine run_convert_bytes_back w 29 9 5 a cap l Tryz.underlying29 Tryz.underlying5 Tryz.underlying9 fun j hj => ?_
    obtain ⟨a', e, hc⟩ := h j hj
    obtain rfl := Option.some.inj e
    rw [hc]; simp [List.getD, hj]

set_option maxHeartbeats 400000 in
theorem same_any (ao bo : Option Addr) (la lb : List UInt8) (ca cb : Nat) (w : World) (ha : Sees w ao la) (hb : Sees w bo lb) (hna : ao = none → la.length = 0) (hnb : bo = none → lb.length = 0) :
    Calls Tryz.prog 10 #[.slice ao la.length ca, .slice bo lb.length cb] w fun e w' => e = .returned (.bool (la == lb)) ∧ w' = w := by
  have c1 := conv_sees ha hna ca
  have c2 := conv_sees hb hnb cb
  go_enter Tryz.func10, Tryz.ntmps10
  go_wp2
  go_ret
  exact ⟨rfl, rfl⟩
end Go.Proofs.YtdookhmaiapclaaGreatDoor

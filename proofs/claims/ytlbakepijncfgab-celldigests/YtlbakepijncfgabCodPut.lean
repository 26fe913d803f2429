/-
  CONTRACTS: the codec's addText, Put, PutText, and Same, each for every argument.
-/
import Derived.Test.YtlbakepijncfgabCodAdd
namespace Go.Proofs.Ytlbakepijncfgab
open Go.RowKit

/-- A text in bytes: its length, then it. -/
def txtL (s : List UInt8) : List UInt8 := numL s.length ++ s

set_option maxRecDepth 100000 in
set_option maxHeartbeats 400000 in
theorem addText_any (base : Nat) (v : Value) (n : Nat) (xs : List UInt8) (s : ByteArray) (w : World) (hown : w.ownsRow base 5 1 v n (B8 xs)) (hn : n + s.size ≤ 140737488354000) (hb : base ≤ w.heap.size) :
    Calls Try.prog 31 #[v, .string s] w fun e w' => ∃ v', e = .returned v' ∧ w'.ownsRow base 5 1 v' (n + (txtL s.data.toList).length) (B8 (xs ++ txtL s.data.toList)) ∧ Grew w w' v v' := by
  obtain ⟨i0, hi, hz0, hz1, hz2⟩ := info_parts info8
  have hnl := numL_length s.size
  have hsz : s.data.toList.length = s.size := by simp
  go_enter Try.func31, Try.ntmps31
  go_wp2_with (first
    | (go_at_call 21; go_must (refine (addNumber_any base v n xs s.size _ hown (by omega) (by omega) hb).mono ?_; rintro e w1 ⟨v1, rfl, ho1, hg1⟩))
    | (at_builtin; go_must (refine wpList_append_grew _ rfl _ _ 42 9 rfl base 5 i0 (.int .u8 0) 1 1 Try.underlying42 hi hz0 hz1 hz2 rfl _ _ _ rfl ho1 _ s.size (B8 s.data.toList) rfl (Src.ofString _ Try.underlying9 s) (by unfold maxLen; omega) (by omega) (Nat.le_trans hb hg1.rows.size) ?_; intro v' w' ho' hg')))
  go_ret
  refine ⟨v', rfl, ?_, hg1.trans hg'⟩
  unfold txtL
  rw [hsz, List.length_append, hsz, ← List.append_assoc, B8_append _ s.data.toList, ← Nat.add_assoc]
  exact ho'

end Go.Proofs.Ytlbakepijncfgab

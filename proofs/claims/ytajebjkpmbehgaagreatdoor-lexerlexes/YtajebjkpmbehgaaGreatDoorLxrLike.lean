/-
  CONTRACT: the law's like, of one token.
-/
import Derived.Test.YtajebjkpmbehgaaGreatDoorLxrLex
import Derived.Test.YtajebjkpmbehgaaGreatDoorLexerPlacesWalk
namespace Go.Proofs.YtajebjkpmbehgaaGreatDoor
open Go.RowKit

set_option maxRecDepth 100000 in
set_option maxHeartbeats 4000000 in
theorem like_same (k vk vn b e : Int) (ts vs : ByteArray) (w : World) :
    Calls Tryz.prog 7 #[.agg #[.int .i64 k, .string ts, .int .i64 vk, .int .i64 vn, .string vs, .int .i64 b, .int .i64 e], .agg #[.int .i64 k, .string ts, .int .i64 vk, .int .i64 vn, .string vs, .int .i64 b, .int .i64 e]] w fun x w' => x = .returned (.bool true) ∧ Below w.heap.size w w' := by
  go_enter Tryz.func7, Tryz.ntmps7
  go_wp2_with fail
  go_ret
  exact ⟨rfl, ((Below.refl _ _).alloc (Nat.le_refl _) _).alloc (by simp) _⟩
end Go.Proofs.YtajebjkpmbehgaaGreatDoor

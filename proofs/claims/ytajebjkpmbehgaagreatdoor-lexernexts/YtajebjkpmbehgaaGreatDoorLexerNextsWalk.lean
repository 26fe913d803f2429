/-
  THE WALK: the token of any text from any byte on.
-/
import Derived.Test.YtajebjkpmbehgaaGreatDoorLxrLike
namespace Go.Proofs.YtajebjkpmbehgaaGreatDoor
open Go.RowKit

theorem nxV_form (x : Option Tk × Nat × Int) : ∃ (k vk vn b e m f : Int) (ts vs : ByteArray), nxV x = .tuple #[.agg #[.int .i64 k, .string ts, .int .i64 vk, .int .i64 vn, .string vs, .int .i64 b, .int .i64 e], .int .i64 m, .int .i64 f] := by
  obtain ⟨o, m, f⟩ := x
  cases o with
  | none => exact ⟨_, _, _, _, _, _, _, _, _, rfl⟩
  | some t => exact ⟨_, _, _, _, _, _, _, _, _, rfl⟩
namespace lexerNexts
end lexerNexts
end Go.Proofs.YtajebjkpmbehgaaGreatDoor

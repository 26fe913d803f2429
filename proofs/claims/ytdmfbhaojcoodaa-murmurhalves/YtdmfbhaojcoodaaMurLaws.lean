/-
  THE LAWS' WALKS: lives, and MurmurMixes, MurmurSums, MurmurNothing.
-/
import Derived.Test.YtdmfbhaojcoodaaMurRef
namespace Go.Proofs.Ytdmfbhaojcoodaa
open Go.RowKit

theorem sum_nil : sumB [] 0#64 = (0#64, 0#64) := by decide
theorem mix_zero : mixB 0#64 = 0#64 := by decide
theorem mix_one : ((mixB 1#64).toNat : Int) = 12994781566227106604 := by decide

/-- The document's examples. -/
theorem lives_any (w : World) : Calls Try.prog 8 #[] w fun e w' => e = .returned (.bool true) ∧ Below w.heap.size w w' := by
  have hS := sum_any none [] 0 0#64 w (by simp) (by simp) (Sees.nil _ _)
  rw [sum_nil] at hS
  have HS : Hid (Calls Try.prog 9 #[.slice none 0 0, .int .u64 0] w fun e w' => e = .returned (.tuple #[.int .u64 0, .int .u64 0]) ∧ Below w.heap.size w w') := hS
  have HM0 : Hid (∀ w, Calls Try.prog 13 #[.int .u64 0] w fun e w' => e = .returned (.int .u64 0) ∧ w' = w) := fun w => by
    have := mix_any 0#64 w
    rw [mix_zero] at this
    exact this
  have HM1 : Hid (∀ w, Calls Try.prog 13 #[.int .u64 1] w fun e w' => e = .returned (.int .u64 12994781566227106604) ∧ w' = w) := fun w => by
    have := mix_any 1#64 w
    rw [mix_one] at this
    exact this
  clear hS
  go_enter Try.func8, Try.ntmps8
  go_wp2_with fail
  refine HS.out.mono ?_
  rintro e w1 ⟨rfl, hB⟩
  go_wp2_with fail
  refine (HM0.out _).mono ?_
  rintro e w2 ⟨rfl, rfl⟩
  go_wp2_with fail
  refine (HM1.out _).mono ?_
  rintro e w3 ⟨rfl, rfl⟩
  go_wp2_with fail
  go_ret
  exact ⟨rfl, hB⟩
end Go.Proofs.Ytdmfbhaojcoodaa

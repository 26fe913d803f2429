/-
  THE LAW MurmurMixes: the walk.
-/
import Derived.Test.YtdmfbhaojcoodaaMurLaws
namespace Go.Proofs.Ytdmfbhaojcoodaa.murmurMixes
open Go.RowKit

set_option maxHeartbeats 400000 in
theorem walkB (a b : BitVec 64) (w : World) :
    Calls Try.prog 5 #[.int .u64 (a.toNat : Int), .int .u64 (b.toNat : Int)] w fun e w' => e = .returned (.bool true) ∧ Below w.heap.size w w' := by
  obtain ⟨ma, ha⟩ : ∃ m, m = mixB a := ⟨_, rfl⟩
  obtain ⟨mb, hb⟩ : ∃ m, m = mixB b := ⟨_, rfl⟩
  obtain ⟨ub, hu⟩ : ∃ m, m = unmixB b := ⟨_, rfl⟩
  have M1 : Hid (∀ w, Calls Try.prog 13 #[.int .u64 (a.toNat : Int)] w fun e w' => e = .returned (.int .u64 (ma.toNat : Int)) ∧ w' = w) := fun w => ha ▸ mix_any a w
  have M2 : Hid (∀ w, Calls Try.prog 13 #[.int .u64 (b.toNat : Int)] w fun e w' => e = .returned (.int .u64 (mb.toNat : Int)) ∧ w' = w) := fun w => hb ▸ mix_any b w
  have M3 : Hid (∀ w, Calls Try.prog 13 #[.int .u64 (ub.toNat : Int)] w fun e w' => e = .returned (.int .u64 (b.toNat : Int)) ∧ w' = w) := fun w => by
    have := mix_any ub w
    rw [hu, mix_unmix] at this
    rw [hu]
    exact this
  have U1 : Hid (∀ w, Calls Try.prog 15 #[.int .u64 (ma.toNat : Int)] w fun e w' => e = .returned (.int .u64 (a.toNat : Int)) ∧ w' = w) := fun w => by
    have := unmix_any ma w
    rw [ha, unmix_mix] at this
    rw [ha]
    exact this
  have U2 : Hid (∀ w, Calls Try.prog 15 #[.int .u64 (b.toNat : Int)] w fun e w' => e = .returned (.int .u64 (ub.toNat : Int)) ∧ w' = w) := fun w => hu ▸ unmix_any b w
  have L : Hid (∀ w : World, Calls Try.prog 8 #[] w fun e w' => e = .returned (.bool true) ∧ Below w.heap.size w w') := lives_any
  have hcase : (((ma.toNat : Int) == (mb.toNat : Int)) = true ∧ ((a.toNat : Int) == (b.toNat : Int)) = true) ∨ (((ma.toNat : Int) == (mb.toNat : Int)) = false ∧ ((a.toNat : Int) == (b.toNat : Int)) = false) := by
    by_cases h : a = b
    · left; subst h; subst ha; subst hb; simp
    · right
      have h' : ma ≠ mb := fun e => h ((mix_inj a b).1 (by rw [← ha, ← hb, e]))
      constructor
      · simp only [beq_eq_false_iff_ne]; exact fun e => h' (bv_inj e)
      · simp only [beq_eq_false_iff_ne]; exact fun e => h (bv_inj e)
  clear ha hb hu
  generalize (a.toNat : Int) = A at *
  generalize (b.toNat : Int) = B at *
  generalize (ma.toNat : Int) = MA at *
  generalize (mb.toNat : Int) = MB at *
  generalize (ub.toNat : Int) = UB at *
  rcases hcase with ⟨c1, c2⟩ | ⟨c1, c2⟩
  all_goals
    go_enter Try.func5, Try.ntmps5
    go_wp2_with fail
    refine (M1.out _).mono ?_
    rintro e w1 ⟨rfl, rfl⟩
    go_wp2_with fail
    refine (U1.out _).mono ?_
    rintro e w1 ⟨rfl, rfl⟩
    go_wp2_with fail
    refine (U2.out _).mono ?_
    rintro e w1 ⟨rfl, rfl⟩
    go_wp2_with fail
    refine (M3.out _).mono ?_
    rintro e w1 ⟨rfl, rfl⟩
    go_wp2_with fail
    refine (M1.out _).mono ?_
    rintro e w1 ⟨rfl, rfl⟩
    go_wp2_with fail
    refine (M2.out _).mono ?_
    rintro e w1 ⟨rfl, rfl⟩
    go_wp2_with fail
    refine (L.out _).mono ?_
    rintro e w2 ⟨rfl, hB⟩
    go_wp2_with fail
    go_ret
    exact ⟨rfl, hB⟩

theorem walk (a b : Nat) (w : World) (ha : a < 18446744073709551616) (hb : b < 18446744073709551616) :
    Calls Try.prog 5 #[.int .u64 (a : Int), .int .u64 (b : Int)] w fun e w' => e = .returned (.bool true) ∧ Below w.heap.size w w' := by
  rw [u_lit a ha, u_lit b hb]
  exact walkB _ _ w
end Go.Proofs.Ytdmfbhaojcoodaa.murmurMixes

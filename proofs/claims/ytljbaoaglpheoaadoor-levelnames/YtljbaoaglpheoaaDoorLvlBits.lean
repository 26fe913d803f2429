/-
  CONTRACT: how many bits of a number below 256 are set; what the two sets of LevelMeets are.
-/
import Derived.Test.YtljbaoaglpheoaaDoorLvlLow
import Derived.Laws.BitsAllLaws
namespace Go.Proofs.YtljbaoaglpheoaaDoor
open Go.RowKit

/-- How many bits are set, of the first eight. -/
def pcB (n : Nat) : Nat := (n.testBit 0).toNat + (n.testBit 1).toNat + (n.testBit 2).toNat + (n.testBit 3).toNat + (n.testBit 4).toNat + (n.testBit 5).toNat + (n.testBit 6).toNat + (n.testBit 7).toNat
theorem pcB_step : ∀ n, n < 256 → 0 < n → (n &&& (n - 1)) < n ∧ pcB (n &&& (n - 1)) + 1 = pcB n := by decide +kernel
theorem pcB_zero : pcB 0 = 0 := by decide
theorem pcB_le (n : Nat) : pcB n ≤ 8 := by
  have h : ∀ b : Bool, b.toNat ≤ 1 := by decide
  have h0 := h (n.testBit 0); have h1 := h (n.testBit 1); have h2 := h (n.testBit 2); have h3 := h (n.testBit 3)
  have h4 := h (n.testBit 4); have h5 := h (n.testBit 5); have h6 := h (n.testBit 6); have h7 := h (n.testBit 7)
  unfold pcB; omega
theorem bit_both {p q c i : Nat} (h : p &&& q = 0) (hp : p < 2 ^ c) (hq : q < 2 ^ c) : (p.testBit i).toNat + (q.testBit i).toNat ≤ if i < c then 1 else 0 := by
  have hb : (p.testBit i && q.testBit i) = false := by rw [← Nat.testBit_and, h]; simp
  by_cases hi : i < c
  · rw [if_pos hi]
    cases hx : p.testBit i <;> cases hy : q.testBit i <;> simp [hx, hy] at hb ⊢
  · rw [if_neg hi]
    have e : 2 ^ c ≤ 2 ^ i := Nat.pow_le_pow_right (by decide) (by omega)
    rw [Nat.testBit_lt_two_pow (Nat.lt_of_lt_of_le hp e), Nat.testBit_lt_two_pow (Nat.lt_of_lt_of_le hq e)]
    decide
theorem pcB_apart {p q c : Nat} (hc : c ≤ 8) (h : p &&& q = 0) (hp : p < 2 ^ c) (hq : q < 2 ^ c) : pcB p + pcB q ≤ c := by
  have b := fun i => bit_both (i := i) h hp hq
  have b0 := b 0; have b1 := b 1; have b2 := b 2; have b3 := b 3; have b4 := b 4; have b5 := b 5; have b6 := b 6; have b7 := b 7
  unfold pcB
  obtain rfl | rfl | rfl | rfl | rfl | rfl | rfl | rfl | rfl : c = 0 ∨ c = 1 ∨ c = 2 ∨ c = 3 ∨ c = 4 ∨ c = 5 ∨ c = 6 ∨ c = 7 ∨ c = 8 := by omega
  all_goals (simp only [reduceIte, Nat.reduceLT, Nat.lt_irrefl] at b0 b1 b2 b3 b4 b5 b6 b7; omega)
/-- The first a of c, and the last b of c, have one in common just if a and b are more than c together. -/
theorem low_high : ∀ c, c < 9 → ∀ a, a < c + 1 → ∀ b, b < c + 1 → ((((2 ^ a - 1) &&& ((2 ^ b - 1) * 2 ^ (c - b))) != 0) = decide (c < a + b)) := by decide +kernel
set_option maxRecDepth 100000 in
theorem bits16_any (n : Nat) (hn : n < 256) (w : World) : Calls Tryd.prog 19 #[.int .u64 (n : Int)] w fun e w' => e = .returned (.int .i64 (pcB n : Int)) ∧ w' = w := by
  go_enter Tryd.func19, Tryd.ntmps19
  go_wp2_with fail
  go_loopw [0, 3] (fun s0 s3 wr => wr = w ∧ ∃ x j : Nat, x < 256 ∧ s0 = .int .u64 (x : Int) ∧ s3 = .int .i64 (j : Int) ∧ j + pcB x = pcB n) (fun s0 _ _ => (intOf s0).toNat)
  case atStart => exact ⟨rfl, n, 0, hn, rfl, rfl, by omega⟩
  case round =>
    obtain ⟨rfl, x, j, hx, rfl, rfl, hj⟩ := hrel
    have hp := pcB_le n
    by_cases h0 : 0 < x
    · obtain ⟨s1, s2⟩ := pcB_step x hx h0
      have A := u64_and_nat x (x - 1) (by omega) (by omega)
      rw [show ((x - 1 : Nat) : Int) = (x : Int) - 1 by omega] at A
      generalize x &&& (x - 1) = y at *
      go_wp2_with fail
      go_roundw
      case rel => exact ⟨trivial, y, j + 1, by omega, rfl, by simp, by omega⟩
      case measure => simp [intOf]; omega
    · obtain rfl : x = 0 := by omega
      rw [pcB_zero] at hj
      obtain rfl : j = pcB n := by omega
      go_wp2_with fail
      go_ret
      exact ⟨rfl, rfl⟩
theorem Nms.below {w w' : World} (h : Nms w) (hb : Below w.heap.size w w') : Nms w' := by
  obtain ⟨h0, h1, h2⟩ := h
  have hl : 0 < w.heap.size := World.block_lt_of_cell? _ _ h0
  have e := fun i => World.cell?_of_block (a := ⟨0, i, none⟩) (hb.block 0 hl)
  exact ⟨(e 0).trans h0, (e 1).trans h1, (e 2).trans h2⟩
end Go.Proofs.YtljbaoaglpheoaaDoor

/-
  CONTRACT: Read of bytes that are no filter.
-/
import Derived.Test.YtblblngcmgdnnaaDoorBlmRead
import Derived.Test.YtblblngcmgdnnaaDoorBlmCanon
import Derived.Test.YtblblngcmgdnnaaDoorBlmRef
import Derived.Test.YtblblngcmgdnnaaDoorRefLend
namespace Go.Proofs.YtblblngcmgdnnaaDoor
open Go.RowKit

theorem toHidD {p : Prop} (h : p) : Hid p := h
set_option maxRecDepth 100000 in
set_option maxHeartbeats 2000000 in
theorem read_no (b off k n p q N : Nat) (cap : Nat) (w : World) (hcap : N < cap) (hbm : N ≤ 140737488354000) (hpN : p ≤ N) (hqN : p + q ≤ N) (hk : k < 18446744073709551616) (hn : n < 18446744073709551616)
    (G1 : Calls Tryd.prog 21 #[.slice (some ⟨b, off, none⟩) N cap] w fun e w' => e = .returned (.tuple #[.int .u64 (k : Int), .int .i64 (p : Int)]) ∧ Below w.heap.size w w')
    (G2 : ∀ w1, Below w.heap.size w w1 → ∀ c, Calls Tryd.prog 21 #[.slice (some ⟨b, off + p, none⟩) (N - p) c] w1 fun e w' => e = .returned (.tuple #[.int .u64 (n : Int), .int .i64 (q : Int)]) ∧ Below w1.heap.size w1 w')
    (hbad : ¬ (1 ≤ k ∧ k ≤ 16 ∧ 1 ≤ n ∧ n ≤ 400000 ∧ N - (p + q) = n)) :
    Calls Tryd.prog 7 #[.slice (some ⟨b, off, none⟩) N cap] w fun e w' => e = .returned (.tuple #[.pointer none, .int .i64 8]) ∧ Below w.heap.size w w' := by
  have H1 := toHidD G1
  have H2 := toHidD G2
  clear G1 G2
  have hc : k < 1 ∨ (1 ≤ k ∧ 16 < k) ∨ (1 ≤ k ∧ k ≤ 16 ∧ n < 1) ∨ (1 ≤ k ∧ k ≤ 16 ∧ 1 ≤ n ∧ 400000 < n) ∨ (1 ≤ k ∧ k ≤ 16 ∧ 1 ≤ n ∧ n ≤ 400000 ∧ (((N - (p + q) : Nat) : Int) != (n : Int)) = true) := by
    by_cases e : N - (p + q) = n
    · omega
    · have : (((N - (p + q) : Nat) : Int) != (n : Int)) = true := by simp; omega
      rcases (show k < 1 ∨ (1 ≤ k ∧ 16 < k) ∨ (1 ≤ k ∧ k ≤ 16 ∧ n < 1) ∨ (1 ≤ k ∧ k ≤ 16 ∧ 1 ≤ n ∧ 400000 < n) ∨ (1 ≤ k ∧ k ≤ 16 ∧ 1 ≤ n ∧ n ≤ 400000) by omega) with h | h | h | h | h
      · exact .inl h
      · exact .inr (.inl h)
      · exact .inr (.inr (.inl h))
      · exact .inr (.inr (.inr (.inl h)))
      · exact .inr (.inr (.inr (.inr ⟨h.1, h.2.1, h.2.2.1, h.2.2.2, this⟩)))
  clear hbad
  rcases hc with h1 | ⟨h1, h2⟩ | ⟨h1, h2, h3⟩ | ⟨h1, h2, h3, h4⟩ | ⟨h1, h2, h3, h4, h5⟩
  all_goals (
    go_enter Tryd.func7, Tryd.ntmps7
    go_wp2_with fail
    refine (Hid.out H1).mono ?_
    rintro e w1 ⟨rfl, hB1⟩
    go_wp2_with fail
    refine (Hid.out H2 _ hB1 _).mono ?_
    rintro e w2 ⟨rfl, hB2⟩
    have hB02 : Below w.heap.size w w2 := hB1.trans (hB2.mono hB1.size)
    go_wp2_with fail
    go_ret2
    exact ⟨rfl, hB02⟩)
end Go.Proofs.YtblblngcmgdnnaaDoor

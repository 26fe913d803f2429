/-
  THE LAW MurmurSums: the walk.
-/
import Derived.Test.YtdmfbhaojcoodaaMurLaws
namespace Go.Proofs.Ytdmfbhaojcoodaa.murmurSums
open Go.RowKit

theorem walkB (ao : Option Addr) (l : List UInt8) (cap : Nat) (s : BitVec 64) (w : World) (hs : Sees w ao l) (hl : l.length ≤ maxLen) (hc : l.length ≤ cap) :
    Calls Try.prog 3 #[.slice ao l.length cap, .int .u64 (s.toNat : Int)] w fun e w' => e = .returned (.bool true) ∧ Below w.heap.size w w' := by
  have L : Hid (∀ w : World, Calls Try.prog 8 #[] w fun e w' => e = .returned (.bool true) ∧ Below w.heap.size w w') := lives_any
  unfold maxLen at hl
  rcases Nat.lt_or_ge 100000 l.length with hbig | hsmall
  · go_enter Try.func3, Try.ntmps3
    go_wp2_with fail
    refine (L.out _).mono ?_
    rintro e w1 ⟨rfl, hB⟩
    go_wp2_with fail
    go_ret
    exact ⟨rfl, hB⟩
  · obtain ⟨h, g, hF⟩ : ∃ h g, sumB l s = (h, g) := ⟨_, _, rfl⟩
    have S : Hid (Calls Try.prog 9 #[.slice ao l.length cap, .int .u64 (s.toNat : Int)] w fun e w' => e = .returned (.tuple #[.int .u64 (h.toNat : Int), .int .u64 (g.toNat : Int)]) ∧ Below w.heap.size w w') := by
      have := sum_any ao l cap s w (by omega) hc hs
      rw [hF] at this
      exact this
    have R : Hid (∀ w1 : World, Below w.heap.size w w1 → Calls Try.prog 10 #[.slice ao l.length cap, .int .u64 (s.toNat : Int)] w1 fun e w' => e = .returned (.tuple #[.int .u64 (h.toNat : Int), .int .u64 (g.toNat : Int)]) ∧ w' = w1) := fun w1 hB => by
      have := refSum_any ao l cap s w1 (by omega) (hs.below hB (Nat.le_refl _))
      rw [hF] at this
      exact this
    clear hF hs
    go_enter Try.func3, Try.ntmps3
    go_wp2_with fail
    refine S.out.mono ?_
    rintro e w1 ⟨rfl, hB⟩
    go_wp2_with fail
    refine (R.out _ hB).mono ?_
    rintro e w2 ⟨rfl, rfl⟩
    go_wp2_with fail
    refine (L.out _).mono ?_
    rintro e w3 ⟨rfl, hB3⟩
    go_wp2_with fail
    go_ret
    exact ⟨rfl, hB.trans (hB3.mono hB.size)⟩

theorem walk (ao : Option Addr) (l : List UInt8) (cap s : Nat) (w : World) (hs : Sees w ao l) (_hn : ao = none → l.length = 0) (hl : l.length ≤ maxLen) (hc : l.length ≤ cap) (h2 : s < 18446744073709551616) :
    Calls Try.prog 3 #[.slice ao l.length cap, .int .u64 (s : Int)] w fun e w' => e = .returned (.bool true) ∧ Below w.heap.size w w' := by
  rw [u_lit s h2]
  exact walkB ao l cap _ w hs hl hc
end Go.Proofs.Ytdmfbhaojcoodaa.murmurSums

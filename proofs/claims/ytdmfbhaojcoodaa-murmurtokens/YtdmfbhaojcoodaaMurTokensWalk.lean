/-
  THE LAW MurmurTokens: the walk.
-/
import Derived.Test.YtdmfbhaojcoodaaMurToken
namespace Go.Proofs.Ytdmfbhaojcoodaa.murmurTokens
open Go.RowKit

theorem walkB (s : ByteArray) (k : BitVec 64) (w : World) (hs : s.size ≤ maxLen) :
    Calls Try.prog 4 #[.string s, .int .u64 (k.toNat : Int)] w fun e w' => e = .returned (.bool true) ∧ Below w.heap.size w w' := by
  have L : Hid (∀ w : World, Calls Try.prog 8 #[] w fun e w' => e = .returned (.bool true) ∧ Below w.heap.size w w') := lives_any
  unfold maxLen at hs
  rcases Nat.lt_or_ge 100000 s.size with hbig | hsmall
  · go_enter Try.func4, Try.ntmps4
    go_wp2_with fail
    refine (L.out _).mono ?_
    rintro e w1 ⟨rfl, hB⟩
    go_wp2_with fail
    go_ret
    exact ⟨rfl, hB⟩
  · have T1 : Hid (∀ w : World, Calls Try.prog 11 #[.string s] w fun e w' => e = .returned (.int .i64 (tokenB s)) ∧ Below w.heap.size w w') := fun w => token_any s w (by omega)
    have T2 : Hid (∀ w : World, Calls Try.prog 12 #[.string s] w fun e w' => e = .returned (.int .i64 (tokenB s)) ∧ Below w.heap.size w w') := fun w => refToken_any s w (by omega)
    obtain ⟨m, hm⟩ : ∃ m, m = mixB k := ⟨_, rfl⟩
    have M1 : Hid (∀ w, Calls Try.prog 13 #[.int .u64 (k.toNat : Int)] w fun e w' => e = .returned (.int .u64 (m.toNat : Int)) ∧ w' = w) := fun w => hm ▸ mix_any k w
    have M2 : Hid (∀ w, Calls Try.prog 14 #[.int .u64 (k.toNat : Int)] w fun e w' => e = .returned (.int .u64 (m.toNat : Int)) ∧ w' = w) := fun w => hm ▸ refMix_any k w
    clear hm
    generalize tokenB s = t at *
    go_enter Try.func4, Try.ntmps4
    go_wp2_with fail
    refine (T1.out _).mono ?_
    rintro e w1 ⟨rfl, hB1⟩
    go_wp2_with fail
    refine (T2.out _).mono ?_
    rintro e w2 ⟨rfl, hB2⟩
    go_wp2_with fail
    refine (M1.out _).mono ?_
    rintro e w3 ⟨rfl, rfl⟩
    go_wp2_with fail
    refine (M2.out _).mono ?_
    rintro e w4 ⟨rfl, rfl⟩
    go_wp2_with fail
    refine (L.out _).mono ?_
    rintro e w5 ⟨rfl, hB5⟩
    go_wp2_with fail
    go_ret
    have h1 := hB1.size
    have h2 := hB2.size
    exact ⟨rfl, (hB1.trans (hB2.mono h1)).trans (hB5.mono (by omega))⟩

theorem walk (s : ByteArray) (k : Nat) (w : World) (hs : s.size ≤ maxLen) (h2 : k < 18446744073709551616) :
    Calls Try.prog 4 #[.string s, .int .u64 (k : Int)] w fun e w' => e = .returned (.bool true) ∧ Below w.heap.size w w' := by
  rw [u_lit k h2]
  exact walkB s _ w hs
end Go.Proofs.Ytdmfbhaojcoodaa.murmurTokens

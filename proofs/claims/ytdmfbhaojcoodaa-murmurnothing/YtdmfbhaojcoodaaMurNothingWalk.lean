/-
  THE LAW MurmurNothing: the walk.
-/
import Derived.Test.YtdmfbhaojcoodaaMurLaws
namespace Go.Proofs.Ytdmfbhaojcoodaa.murmurNothing
open Go.RowKit

theorem sum_none (seed : BitVec 64) : sumB [] seed = (mixB (seed * 2#64) + mixB (seed * 3#64), mixB (seed * 3#64) + (mixB (seed * 2#64) + mixB (seed * 3#64))) := by
  have e1 : seed + seed = seed * 2#64 := by rw [BitVec.mul_two]
  have e2 : seed + seed * 2#64 = seed * 3#64 := by
    rw [show (3#64 : BitVec 64) = 1#64 + 2#64 by decide, BitVec.mul_add, BitVec.mul_one]
  unfold sumB restB finishB crossB
  simp only [List.drop_nil, List.length_nil, Nat.zero_div, Nat.lt_irrefl, if_false, BitVec.xor_zero, blocksB]
  rw [if_neg (by decide), e1, e2]

set_option maxHeartbeats 400000 in
theorem walkB (s : BitVec 64) (w : World) :
    Calls Try.prog 7 #[.int .u64 (s.toNat : Int)] w fun e w' => e = .returned (.bool true) ∧ Below w.heap.size w w' := by
  obtain ⟨s2, h2, t2⟩ : ∃ x : BitVec 64, x = s * 2#64 ∧ IntKind.u64.wrap (2 * (s.toNat : Int)) = (x.toNat : Int) := ⟨_, rfl, by rw [Int.mul_comm]; exact u_mulc s 2 (by decide)⟩
  obtain ⟨s3, h3, t3⟩ : ∃ x : BitVec 64, x = s * 3#64 ∧ IntKind.u64.wrap (3 * (s.toNat : Int)) = (x.toNat : Int) := ⟨_, rfl, by rw [Int.mul_comm]; exact u_mulc s 3 (by decide)⟩
  obtain ⟨a, ha⟩ : ∃ m, m = mixB s2 := ⟨_, rfl⟩
  obtain ⟨b, hb⟩ : ∃ m, m = mixB s3 := ⟨_, rfl⟩
  obtain ⟨h, hh, th⟩ : ∃ x : BitVec 64, x = a + b ∧ IntKind.u64.wrap ((a.toNat : Int) + (b.toNat : Int)) = (x.toNat : Int) := ⟨_, rfl, u_add a b⟩
  obtain ⟨g, hg, tg⟩ : ∃ x : BitVec 64, x = b + h ∧ IntKind.u64.wrap ((b.toNat : Int) + (h.toNat : Int)) = (x.toNat : Int) := ⟨_, rfl, u_add b h⟩
  have hsum : sumB [] s = (h, g) := by rw [sum_none, hg, hh, ha, hb, h2, h3]
  have M1 : Hid (∀ w, Calls Try.prog 13 #[.int .u64 (s2.toNat : Int)] w fun e w' => e = .returned (.int .u64 (a.toNat : Int)) ∧ w' = w) := fun w => ha ▸ mix_any s2 w
  have M2 : Hid (∀ w, Calls Try.prog 13 #[.int .u64 (s3.toNat : Int)] w fun e w' => e = .returned (.int .u64 (b.toNat : Int)) ∧ w' = w) := fun w => hb ▸ mix_any s3 w
  have S : Hid (∀ (ao : Option Addr) (w : World), Calls Try.prog 9 #[.slice ao 0 0, .int .u64 (s.toNat : Int)] w fun e w' => e = .returned (.tuple #[.int .u64 (h.toNat : Int), .int .u64 (g.toNat : Int)]) ∧ Below w.heap.size w w') := fun ao w => by
    have := sum_any ao [] 0 s w (by simp) (by simp) (Sees.nil _ _)
    rw [hsum] at this
    exact this
  have L : Hid (∀ w : World, Calls Try.prog 8 #[] w fun e w' => e = .returned (.bool true) ∧ Below w.heap.size w w') := lives_any
  clear h2 h3 ha hb hh hg hsum
  go_enter Try.func7, Try.ntmps7
  go_wp2_with fail
  refine (M1.out _).mono ?_
  rintro e w1 ⟨rfl, rfl⟩
  go_wp2_with fail
  refine (M2.out _).mono ?_
  rintro e w1 ⟨rfl, rfl⟩
  go_wp2_with fail
  refine (S.out _ _).mono ?_
  rintro e w2 ⟨rfl, hB⟩
  go_wp2_with fail
  refine (S.out _ _).mono ?_
  rintro e w3 ⟨rfl, hB2⟩
  go_wp2_with fail
  refine (L.out _).mono ?_
  rintro e w4 ⟨rfl, hB3⟩
  go_wp2_with fail
  go_ret
  have h1 := hB.size
  have h2 := hB2.size
  try rw [World.size_alloc] at h2
  refine ⟨rfl, ((hB.trans ?_).trans (hB3.mono (by omega)))⟩
  first
  | exact hB2.mono h1
  | exact ((Below.refl _ _).alloc h1 _).trans (hB2.mono (by rw [World.size_alloc]; omega))

theorem walk (s : Nat) (w : World) (hs : s < 18446744073709551616) :
    Calls Try.prog 7 #[.int .u64 (s : Int)] w fun e w' => e = .returned (.bool true) ∧ Below w.heap.size w w' := by
  rw [u_lit s hs]
  exact walkB _ w
end Go.Proofs.Ytdmfbhaojcoodaa.murmurNothing

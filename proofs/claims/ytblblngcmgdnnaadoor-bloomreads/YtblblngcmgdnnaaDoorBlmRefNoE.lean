/-
  CONTRACTS: the document's Read.
-/
import Derived.Test.YtblblngcmgdnnaaDoorBlmRead
import Derived.Test.YtblblngcmgdnnaaDoorBlmCanon
import Derived.Test.YtblblngcmgdnnaaDoorBlmRef
import Derived.Test.YtblblngcmgdnnaaDoorRefLend
namespace Go.Proofs.YtblblngcmgdnnaaDoor
open Go.RowKit

theorem toHidRE {p : Prop} (h : p) : Hid p := h
set_option maxRecDepth 100000 in
set_option maxHeartbeats 2000000 in
theorem refRead_noE (b off k n N : Nat) (w : World) (hbm : N ≤ 140737488354000) (hp0 : 0 < N) (hk1 : 1 ≤ k) (hk2 : k ≤ 16)
    (G1 : Calls Tryd.prog 23 #[.slice (some ⟨b, off, none⟩) N N] w fun e w' => e = .returned (.tuple #[.int .u64 (k : Int), .int .i64 (N : Int)]) ∧ w' = w)
    (G2 : ∀ a c, Calls Tryd.prog 23 #[.slice a 0 c] w fun e w' => e = .returned (.tuple #[.int .u64 (n : Int), .int .i64 0]) ∧ w' = w) :
    Calls Tryd.prog 8 #[.slice (some ⟨b, off, none⟩) N N] w fun e w' => e = .returned (.tuple #[.pointer none, .int .i64 8]) ∧ w' = w := by
  have H1 := toHidRE G1
  have H2 := toHidRE G2
  clear G1 G2
  have hpb : ((N : Int) == 0) = false := by simp; omega
  go_enter Tryd.func8, Tryd.ntmps8
  go_wp2_with fail
  refine (Hid.out H1).mono ?_
  rintro e w1 ⟨rfl, rfl⟩
  go_wp2_with fail
  refine (Hid.out H2 _ _).mono ?_
  rintro e w2 ⟨rfl, rfl⟩
  go_wp2_with fail
  go_ret2
  exact ⟨rfl, rfl⟩
end Go.Proofs.YtblblngcmgdnnaaDoor

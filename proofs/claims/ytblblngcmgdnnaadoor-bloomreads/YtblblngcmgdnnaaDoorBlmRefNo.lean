/-
  CONTRACTS: the document's Read.
-/
import Derived.Test.YtblblngcmgdnnaaDoorBlmRead
import Derived.Test.YtblblngcmgdnnaaDoorBlmCanon
import Derived.Test.YtblblngcmgdnnaaDoorBlmRef
import Derived.Test.YtblblngcmgdnnaaDoorRefLend
namespace Go.Proofs.YtblblngcmgdnnaaDoor
open Go.RowKit

theorem toHidRA {p : Prop} (h : p) : Hid p := h
set_option maxRecDepth 100000 in
set_option maxHeartbeats 2000000 in
theorem refRead_noA (b off k n p q N : Nat) (cap : Nat) (w : World) (_hcap : N ≤ cap) (_hbm : N ≤ 140737488354000) (hpN : p ≤ N) (hp0 : 0 < p) (hqN : p + q ≤ N) (hk1 : 1 ≤ k) (hk2 : k ≤ 16) (_hn : n < 18446744073709551616)
    (G1 : Calls Tryd.prog 23 #[.slice (some ⟨b, off, none⟩) N cap] w fun e w' => e = .returned (.tuple #[.int .u64 (k : Int), .int .i64 (p : Int)]) ∧ w' = w)
    (G2 : ∀ a c, (p < N → a = some ⟨b, off + p, none⟩) → Calls Tryd.prog 23 #[.slice a (N - p) c] w fun e w' => e = .returned (.tuple #[.int .u64 (n : Int), .int .i64 (q : Int)]) ∧ w' = w)
    (hq : q = 0) (hpc : p < cap) :
    Calls Tryd.prog 8 #[.slice (some ⟨b, off, none⟩) N cap] w fun e w' => e = .returned (.tuple #[.pointer none, .int .i64 8]) ∧ w' = w := by
  subst hq
  have H1 := toHidRA G1
  have H2 := toHidRA G2
  clear G1 G2
  have hpb : ((p : Int) == 0) = false := by simp; omega
  go_enter Tryd.func8, Tryd.ntmps8
  go_wp2_with fail
  refine (Hid.out H1).mono ?_
  rintro e w1 ⟨rfl, rfl⟩
  go_wp2_with fail
  refine (Hid.out H2 _ _ (fun _ => rfl)).mono ?_
  rintro e w2 ⟨rfl, rfl⟩
  go_wp2_with fail
  go_ret2
  exact ⟨rfl, rfl⟩
theorem toHidRB {p : Prop} (h : p) : Hid p := h
set_option maxRecDepth 100000 in
set_option maxHeartbeats 2000000 in
theorem refRead_noB (b off k n p q N : Nat) (cap : Nat) (w : World) (hcap : N ≤ cap) (_hbm : N ≤ 140737488354000) (hpN : p ≤ N) (hp0 : 0 < p) (hqN : p + q ≤ N) (hk1 : 1 ≤ k) (hk2 : k ≤ 16) (hn : n < 18446744073709551616)
    (G1 : Calls Tryd.prog 23 #[.slice (some ⟨b, off, none⟩) N cap] w fun e w' => e = .returned (.tuple #[.int .u64 (k : Int), .int .i64 (p : Int)]) ∧ w' = w)
    (G2 : ∀ a c, (p < N → a = some ⟨b, off + p, none⟩) → Calls Tryd.prog 23 #[.slice a (N - p) c] w fun e w' => e = .returned (.tuple #[.int .u64 (n : Int), .int .i64 (q : Int)]) ∧ w' = w)
    (h1 : ((q : Int) == 0) = false) (h2 : n < 1) :
    Calls Tryd.prog 8 #[.slice (some ⟨b, off, none⟩) N cap] w fun e w' => e = .returned (.tuple #[.pointer none, .int .i64 8]) ∧ w' = w := by
  have H1 := toHidRB G1
  have H2 := toHidRB G2
  clear G1 G2
  have hq0 : q ≠ 0 := by simpa using h1
  have hpc : p < cap := by omega
  have hpb : ((p : Int) == 0) = false := by simp; omega
  go_enter Tryd.func8, Tryd.ntmps8
  go_wp2_with fail
  refine (Hid.out H1).mono ?_
  rintro e w1 ⟨rfl, rfl⟩
  go_wp2_with fail
  refine (Hid.out H2 _ _ (fun _ => rfl)).mono ?_
  rintro e w2 ⟨rfl, rfl⟩
  go_wp2_with fail
  go_ret2
  exact ⟨rfl, rfl⟩
theorem toHidRC {p : Prop} (h : p) : Hid p := h
set_option maxRecDepth 100000 in
set_option maxHeartbeats 2000000 in
theorem refRead_noC (b off k n p q N : Nat) (cap : Nat) (w : World) (hcap : N ≤ cap) (_hbm : N ≤ 140737488354000) (hpN : p ≤ N) (hp0 : 0 < p) (hqN : p + q ≤ N) (hk1 : 1 ≤ k) (hk2 : k ≤ 16) (hn : n < 18446744073709551616)
    (G1 : Calls Tryd.prog 23 #[.slice (some ⟨b, off, none⟩) N cap] w fun e w' => e = .returned (.tuple #[.int .u64 (k : Int), .int .i64 (p : Int)]) ∧ w' = w)
    (G2 : ∀ a c, (p < N → a = some ⟨b, off + p, none⟩) → Calls Tryd.prog 23 #[.slice a (N - p) c] w fun e w' => e = .returned (.tuple #[.int .u64 (n : Int), .int .i64 (q : Int)]) ∧ w' = w)
    (h1 : ((q : Int) == 0) = false) (h2 : 1 ≤ n) (h3 : 400000 < n) :
    Calls Tryd.prog 8 #[.slice (some ⟨b, off, none⟩) N cap] w fun e w' => e = .returned (.tuple #[.pointer none, .int .i64 8]) ∧ w' = w := by
  have H1 := toHidRC G1
  have H2 := toHidRC G2
  clear G1 G2
  have hq0 : q ≠ 0 := by simpa using h1
  have hpc : p < cap := by omega
  have hpb : ((p : Int) == 0) = false := by simp; omega
  go_enter Tryd.func8, Tryd.ntmps8
  go_wp2_with fail
  refine (Hid.out H1).mono ?_
  rintro e w1 ⟨rfl, rfl⟩
  go_wp2_with fail
  refine (Hid.out H2 _ _ (fun _ => rfl)).mono ?_
  rintro e w2 ⟨rfl, rfl⟩
  go_wp2_with fail
  go_ret2
  exact ⟨rfl, rfl⟩
theorem toHidRD {p : Prop} (h : p) : Hid p := h
set_option maxRecDepth 100000 in
set_option maxHeartbeats 2000000 in
theorem refRead_noD (b off k n p q N : Nat) (cap : Nat) (w : World) (hcap : N ≤ cap) (hbm : N ≤ 140737488354000) (hpN : p ≤ N) (hp0 : 0 < p) (hqN : p + q ≤ N) (hk1 : 1 ≤ k) (hk2 : k ≤ 16) (hn : n < 18446744073709551616)
    (G1 : Calls Tryd.prog 23 #[.slice (some ⟨b, off, none⟩) N cap] w fun e w' => e = .returned (.tuple #[.int .u64 (k : Int), .int .i64 (p : Int)]) ∧ w' = w)
    (G2 : ∀ a c, (p < N → a = some ⟨b, off + p, none⟩) → Calls Tryd.prog 23 #[.slice a (N - p) c] w fun e w' => e = .returned (.tuple #[.int .u64 (n : Int), .int .i64 (q : Int)]) ∧ w' = w)
    (h1 : ((q : Int) == 0) = false) (h2 : 1 ≤ n) (h3 : n ≤ 400000) (h4 : ((N : Int) - (p : Int) - (q : Int) != (n : Int)) = true) :
    Calls Tryd.prog 8 #[.slice (some ⟨b, off, none⟩) N cap] w fun e w' => e = .returned (.tuple #[.pointer none, .int .i64 8]) ∧ w' = w := by
  have H1 := toHidRD G1
  have H2 := toHidRD G2
  clear G1 G2
  have hq0 : q ≠ 0 := by simpa using h1
  have hpc : p < cap := by omega
  have hpb : ((p : Int) == 0) = false := by simp; omega
  go_enter Tryd.func8, Tryd.ntmps8
  go_wp2_with fail
  refine (Hid.out H1).mono ?_
  rintro e w1 ⟨rfl, rfl⟩
  go_wp2_with fail
  refine (Hid.out H2 _ _ (fun _ => rfl)).mono ?_
  rintro e w2 ⟨rfl, rfl⟩
  go_wp2_with fail
  go_ret2
  exact ⟨rfl, rfl⟩
end Go.Proofs.YtblblngcmgdnnaaDoor

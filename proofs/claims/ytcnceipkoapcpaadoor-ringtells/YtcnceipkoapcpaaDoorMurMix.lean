/-
  CONTRACTS: murmur's Mix, cross, finish, the library's RotateLeft64, the document's Mix and rotl, and the law's unmix, each for every argument.
-/
import Derived.Test.YtcnceipkoapcpaaDoorChecked
import Derived.Test.YtcnceipkoapcpaaDoorMurPlain
import Derived.Test.YtcnceipkoapcpaaDoorOwn
import Derived.WalkSpells
namespace Go.Proofs.YtcnceipkoapcpaaDoor
open Go.RowKit


theorem mix_any (a : BitVec 64) (w : World) :
    Calls Tryd.prog 56 #[.int .u64 (a.toNat : Int)] w fun e w' => e = .returned (.int .u64 ((mixB a).toNat : Int)) ∧ w' = w := by
  have h := mix_text a _ rfl
  have hb := bv_bd a
  generalize ((mixB a).toNat : Int) = M at *
  generalize (a.toNat : Int) = x at *
  go_enter Tryd.func56, Tryd.ntmps56
  go_wp2
  go_ret
  exact ⟨rfl, rfl⟩
theorem refMix_any (a : BitVec 64) (w : World) :
    Calls Tryd.prog 54 #[.int .u64 (a.toNat : Int)] w fun e w' => e = .returned (.int .u64 ((mixB a).toNat : Int)) ∧ w' = w := by
  have h := mix_text a _ rfl
  have hb := bv_bd a
  generalize ((mixB a).toNat : Int) = M at *
  generalize (a.toNat : Int) = x at *
  go_enter Tryd.func54, Tryd.ntmps54
  go_wp2
  go_ret
  exact ⟨rfl, rfl⟩
theorem rotate27_any (a : BitVec 64) (w : World) :
    Calls Tryd.prog 44 #[.int .u64 (a.toNat : Int), .int .i64 27] w fun e w' => e = .returned (.int .u64 ((rotB a 27).toNat : Int)) ∧ w' = w := by
  have h : bits BinOp.or IntKind.u64 (IntKind.u64.wrap ((a.toNat : Int) * (134217728 : Int))) ((a.toNat : Int) / (137438953472 : Int)) = ((rotB a 27).toNat : Int) := rot_text a 27 _ rfl
  have hb := bv_bd a
  have h63 : bits BinOp.and IntKind.u64 27 63 = 27 := by decide
  generalize ((rotB a _).toNat : Int) = M at *
  generalize (a.toNat : Int) = x at *
  go_enter Tryd.func44, Tryd.ntmps44
  go_wp2
  go_ret
  exact ⟨rfl, rfl⟩
theorem rotl27_any (a : BitVec 64) (w : World) :
    Calls Tryd.prog 53 #[.int .u64 (a.toNat : Int), .int .u64 27] w fun e w' => e = .returned (.int .u64 ((rotB a 27).toNat : Int)) ∧ w' = w := by
  have h : bits BinOp.or IntKind.u64 (IntKind.u64.wrap ((a.toNat : Int) * (134217728 : Int))) ((a.toNat : Int) / (137438953472 : Int)) = ((rotB a 27).toNat : Int) := rot_text a 27 _ rfl
  have hb := bv_bd a
  generalize ((rotB a _).toNat : Int) = M at *
  generalize (a.toNat : Int) = x at *
  go_enter Tryd.func53, Tryd.ntmps53
  go_wp2
  go_ret
  exact ⟨rfl, rfl⟩
theorem rotate31_any (a : BitVec 64) (w : World) :
    Calls Tryd.prog 44 #[.int .u64 (a.toNat : Int), .int .i64 31] w fun e w' => e = .returned (.int .u64 ((rotB a 31).toNat : Int)) ∧ w' = w := by
  have h : bits BinOp.or IntKind.u64 (IntKind.u64.wrap ((a.toNat : Int) * (2147483648 : Int))) ((a.toNat : Int) / (8589934592 : Int)) = ((rotB a 31).toNat : Int) := rot_text a 31 _ rfl
  have hb := bv_bd a
  have h63 : bits BinOp.and IntKind.u64 31 63 = 31 := by decide
  generalize ((rotB a _).toNat : Int) = M at *
  generalize (a.toNat : Int) = x at *
  go_enter Tryd.func44, Tryd.ntmps44
  go_wp2
  go_ret
  exact ⟨rfl, rfl⟩
theorem rotl31_any (a : BitVec 64) (w : World) :
    Calls Tryd.prog 53 #[.int .u64 (a.toNat : Int), .int .u64 31] w fun e w' => e = .returned (.int .u64 ((rotB a 31).toNat : Int)) ∧ w' = w := by
  have h : bits BinOp.or IntKind.u64 (IntKind.u64.wrap ((a.toNat : Int) * (2147483648 : Int))) ((a.toNat : Int) / (8589934592 : Int)) = ((rotB a 31).toNat : Int) := rot_text a 31 _ rfl
  have hb := bv_bd a
  generalize ((rotB a _).toNat : Int) = M at *
  generalize (a.toNat : Int) = x at *
  go_enter Tryd.func53, Tryd.ntmps53
  go_wp2
  go_ret
  exact ⟨rfl, rfl⟩
theorem rotate33_any (a : BitVec 64) (w : World) :
    Calls Tryd.prog 44 #[.int .u64 (a.toNat : Int), .int .i64 33] w fun e w' => e = .returned (.int .u64 ((rotB a 33).toNat : Int)) ∧ w' = w := by
  have h : bits BinOp.or IntKind.u64 (IntKind.u64.wrap ((a.toNat : Int) * (8589934592 : Int))) ((a.toNat : Int) / (2147483648 : Int)) = ((rotB a 33).toNat : Int) := rot_text a 33 _ rfl
  have hb := bv_bd a
  have h63 : bits BinOp.and IntKind.u64 33 63 = 33 := by decide
  generalize ((rotB a _).toNat : Int) = M at *
  generalize (a.toNat : Int) = x at *
  go_enter Tryd.func44, Tryd.ntmps44
  go_wp2
  go_ret
  exact ⟨rfl, rfl⟩
theorem rotl33_any (a : BitVec 64) (w : World) :
    Calls Tryd.prog 53 #[.int .u64 (a.toNat : Int), .int .u64 33] w fun e w' => e = .returned (.int .u64 ((rotB a 33).toNat : Int)) ∧ w' = w := by
  have h : bits BinOp.or IntKind.u64 (IntKind.u64.wrap ((a.toNat : Int) * (8589934592 : Int))) ((a.toNat : Int) / (2147483648 : Int)) = ((rotB a 33).toNat : Int) := rot_text a 33 _ rfl
  have hb := bv_bd a
  generalize ((rotB a _).toNat : Int) = M at *
  generalize (a.toNat : Int) = x at *
  go_enter Tryd.func53, Tryd.ntmps53
  go_wp2
  go_ret
  exact ⟨rfl, rfl⟩
theorem cross_any (a b : BitVec 64) (w : World) :
    Calls Tryd.prog 55 #[.int .u64 (a.toNat : Int), .int .u64 (b.toNat : Int)] w fun e w' => e = .returned (.tuple #[.int .u64 ((crossB (a, b)).1.toNat : Int), .int .u64 ((crossB (a, b)).2.toNat : Int)]) ∧ w' = w := by
  have h1 := u_add a b
  have h2 := u_add b (a + b)
  rw [← h1] at h2
  have e1 : (crossB (a, b)).1 = a + b := rfl
  have e2 : (crossB (a, b)).2 = b + (a + b) := rfl
  rw [e1, e2, ← h1, ← h2]
  clear h1 h2 e1 e2
  generalize (a.toNat : Int) = x at *
  generalize (b.toNat : Int) = y at *
  go_enter Tryd.func55, Tryd.ntmps55
  go_wp2
  go_ret2
  exact ⟨rfl, rfl⟩

theorem finish_any (a b n : BitVec 64) (w : World) :
    Calls Tryd.prog 47 #[.int .u64 (a.toNat : Int), .int .u64 (b.toNat : Int), .int .u64 (n.toNat : Int)] w fun e w' => e = .returned (.tuple #[.int .u64 ((finishB (a, b) n).1.toNat : Int), .int .u64 ((finishB (a, b) n).2.toNat : Int)]) ∧ w' = w := by
  have h1 := u_xor a n
  have h2 := u_xor b n
  have hc1 : Hid (finishB (a, b) n = crossB (mixB (crossB (a ^^^ n, b ^^^ n)).1, mixB (crossB (a ^^^ n, b ^^^ n)).2)) := rfl
  generalize finishB (a, b) n = F at *
  generalize a ^^^ n = p at *
  generalize b ^^^ n = q at *
  generalize (a.toNat : Int) = x at *
  generalize (b.toNat : Int) = y at *
  generalize (n.toNat : Int) = z at *
  go_enter Tryd.func47, Tryd.ntmps47
  go_wp2_with fail
  refine (cross_any p q _).mono ?_
  rintro e w1 ⟨rfl, rfl⟩
  go_wp2_with fail
  refine (mix_any _ _).mono ?_
  rintro e w2 ⟨rfl, rfl⟩
  go_wp2_with fail
  refine (mix_any _ _).mono ?_
  rintro e w3 ⟨rfl, rfl⟩
  go_wp2_with fail
  refine (cross_any _ _ _).mono ?_
  rintro e w4 ⟨rfl, rfl⟩
  go_wp2_with fail
  go_ret2
  rw [hc1.out]
  exact ⟨rfl, rfl⟩
end Go.Proofs.YtcnceipkoapcpaaDoor

/-
  CONTRACTS: the two closures of murmur's Sum, each for every word, whatever its half holds.
-/
import Derived.Test.YtcnceipkoapcpaaDoorMurMix
import Derived.Deep.RegionWith
namespace Go.Proofs.YtcnceipkoapcpaaDoor
open Go.RowKit

/-- A block that holds one word, and may be written. -/
def Half (w : World) (g : Nat) (h : BitVec 64) : Prop := w.heap[g]? = some (.cells #[.int .u64 (h.toNat : Int)] 61 (0, 0))
theorem Half.lt {w : World} {g : Nat} {h : BitVec 64} (k : Half w g h) : g < w.heap.size := (Array.getElem?_eq_some_iff.1 k).1
theorem Half.cell {w : World} {g : Nat} {h : BitVec 64} (k : Half w g h) : w.cell? ⟨g, 0, none⟩ = some (.int .u64 (h.toNat : Int)) := by
  unfold Half at k
  simp [World.cell?, k]
theorem Half.frozen {w : World} {g : Nat} {h : BitVec 64} (k : Half w g h) : w.frozen? ⟨g, 0, none⟩ = false := by
  unfold Half at k
  simp [World.frozen?, k]
theorem Half.grown {w w' : World} {g g' : Nat} {h : BitVec 64} (k : Half w g h) (hg : w.grownBy w' (some g')) (hne : g ≠ g') : Half w' g h := by
  unfold Half at k ⊢
  rw [hg.block g (Half.lt k) (fun e => hne (Option.some.inj e)), k]
/-- One store into a half. -/
theorem Half.put {w : World} {g : Nat} {h : BitVec 64} (k : Half w g h) (t : BitVec 64) : Half (w.setCell ⟨g, 0, none⟩ (.int .u64 (t.toNat : Int))).drew g t ∧ w.grownBy (w.setCell ⟨g, 0, none⟩ (.int .u64 (t.toNat : Int))).drew (some g) := by
  refine ⟨?_, rfl, rfl, rfl, by simp [World.setCell, World.drew], fun j hj hne => ?_⟩
  · unfold Half at k ⊢
    show (w.setCell ⟨g, 0, none⟩ (.int .u64 (t.toNat : Int))).heap[g]? = _
    simp only [World.setCell, Array.getElem?_modify, k]
    simp
  · exact Below.heap_setCell _ _ _ _ (fun e => hne (by rw [e]))
/-- One call of a turn, over plain numbers. -/
def Turns (f : FuncId) (k : IntKind) (r y z : Int) : Prop := ∀ w, Calls Tryd.prog f #[.int .u64 y, .int k r] w fun e w' => e = .returned (.int .u64 z) ∧ w' = w

theorem first_num (x y z v h t : Int) (g : Nat) (w : World) (hc : w.cell? ⟨g, 0, none⟩ = some (.int .u64 h)) (hf : w.frozen? ⟨g, 0, none⟩ = false)
    (m1 : IntKind.u64.wrap (x * 9782798678568883157) = y) (R : Turns 44 .i64 31 y z) (m2 : IntKind.u64.wrap (z * 5545529020109919103) = v) (m3 : bits BinOp.xor IntKind.u64 h v = t) :
    Calls Tryd.prog 43 #[.int .u64 x, .pointer (some ⟨g, 0, none⟩)] w fun e w' => e = .returned (.tuple #[]) ∧ w' = (w.setCell ⟨g, 0, none⟩ (.int .u64 t)).drew := by
  go_enter Tryd.func43, Tryd.ntmps43
  go_wp2
  go_region_with (go_at_call 44; refine (R _).mono ?_; rintro e w1 ⟨rfl, rfl⟩)
  all_goals (go_end0; exact ⟨rfl, rfl⟩)

theorem second_num (x y z v h t : Int) (g : Nat) (w : World) (hc : w.cell? ⟨g, 0, none⟩ = some (.int .u64 h)) (hf : w.frozen? ⟨g, 0, none⟩ = false)
    (m1 : IntKind.u64.wrap (x * 5545529020109919103) = y) (R : Turns 44 .i64 33 y z) (m2 : IntKind.u64.wrap (z * 9782798678568883157) = v) (m3 : bits BinOp.xor IntKind.u64 h v = t) :
    Calls Tryd.prog 45 #[.int .u64 x, .pointer (some ⟨g, 0, none⟩)] w fun e w' => e = .returned (.tuple #[]) ∧ w' = (w.setCell ⟨g, 0, none⟩ (.int .u64 t)).drew := by
  go_enter Tryd.func45, Tryd.ntmps45
  go_wp2
  go_region_with (go_at_call 44; refine (R _).mono ?_; rintro e w1 ⟨rfl, rfl⟩)
  all_goals (go_end0; exact ⟨rfl, rfl⟩)

theorem first_any (k h t : BitVec 64) (g : Nat) (w : World) (hh : Half w g h) (ht : t = h ^^^ firstB k) :
    Calls Tryd.prog 43 #[.int .u64 (k.toNat : Int), .pointer (some ⟨g, 0, none⟩)] w fun e w' => e = .returned (.tuple #[]) ∧ Half w' g t ∧ w.grownBy w' (some g) := by
  subst ht
  refine (first_num _ _ _ _ _ _ g w hh.cell hh.frozen (u_mulc k 9782798678568883157 (by decide)) (fun w => rotate31_any _ w) (u_mulc _ 5545529020109919103 (by decide)) (u_xor h (firstB k))).mono ?_
  rintro e w' ⟨rfl, rfl⟩
  exact ⟨rfl, hh.put _⟩

theorem second_any (k h t : BitVec 64) (g : Nat) (w : World) (hh : Half w g h) (ht : t = h ^^^ secondB k) :
    Calls Tryd.prog 45 #[.int .u64 (k.toNat : Int), .pointer (some ⟨g, 0, none⟩)] w fun e w' => e = .returned (.tuple #[]) ∧ Half w' g t ∧ w.grownBy w' (some g) := by
  subst ht
  refine (second_num _ _ _ _ _ _ g w hh.cell hh.frozen (u_mulc k 5545529020109919103 (by decide)) (fun w => rotate33_any _ w) (u_mulc _ 9782798678568883157 (by decide)) (u_xor h (secondB k))).mono ?_
  rintro e w' ⟨rfl, rfl⟩
  exact ⟨rfl, hh.put _⟩
end Go.Proofs.YtcnceipkoapcpaaDoor

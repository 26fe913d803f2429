/-
  A FILTER IS MADE: New.
-/
import Derived.Test.YtdookhmaiapclaaGreatDoorBlmMem
import Derived.Test.YtdookhmaiapclaaGreatDoorCodAdd
import Derived.Laws.OwnMore
namespace Go.Proofs.YtdookhmaiapclaaGreatDoor
open Go.RowKit

set_option maxRecDepth 100000 in
theorem made8m (m : Nat) : (madeCells (Value.int .u8 0).cells (m * 1)).toList = B8 (List.replicate m 0) := by
  have h : (Value.int .u8 0).cells = #[.int .u8 0] := rfl
  rw [h, Nat.mul_one]
  apply List.ext_getElem
  · simp [madeCells, B8]
  · intro i h1 h2
    simp [madeCells, B8, Nat.mod_one]
set_option maxRecDepth 100000 in
theorem make_row (n : Nat) (hn : n ≤ 1099511627776) (w : World) : ∃ w', (Instr.makeSlice 29 (.int .i64 (n : Int)) (.int .i64 (n : Int))).run Tryz.prog w = .ok (.slice (some ⟨w.heap.size, 0, none⟩) n n) w' ∧ Blk w' w.heap.size (B8 (List.replicate n 0)) 5 ∧ w.grownBy w' none := by
  obtain ⟨i0, hi, hz0, hz1, hz2⟩ := info_parts info8
  have := run_make_full (P := Tryz.prog) w w.heap.size 29 5 i0 (.int .u8 0) 1 Tryz.underlying29 hi hz0 hz1 .i64 .i64 n (by rw [hz2]; omega) (by unfold maxLen; omega) (Nat.le_refl _)
  rw [made8m] at this
  obtain ⟨w', h1, h2, h3⟩ := this
  exact ⟨w', h1, (Row.of_owns h2).1, h3⟩
def kOf (b : Nat) : Nat := min (max (b * 7 / 10) 1) 16
def nOf (n b : Nat) : Nat := max ((n * b + 7) / 8) 1
set_option maxRecDepth 100000 in
theorem new_bad (n b : Int) (h : n < 0 ∨ 100000 < n ∨ b < 1 ∨ 32 < b) (w : World) : Calls Tryz.prog 92 #[.int .i64 n, .int .i64 b] w fun e w' => e = .returned (.pointer none) ∧ w' = w := by
  go_enter Tryz.func92, Tryz.ntmps92
  go_wp2
  all_goals (go_ret; exact ⟨rfl, rfl⟩)
set_option maxRecDepth 100000 in
theorem new_num (n b p k q : Nat) (hn : n ≤ 100000) (hb1 : 1 ≤ b) (hb2 : b ≤ 32) (hm : wrap64 ((n : Int) * (b : Int)) = (p : Int)) (hp : p ≤ 3200000) (hk : k = kOf b) (hq : q = max ((p + 7) / 8) 1) (w w1 : World)
    (M : (Instr.makeSlice 29 (.int .i64 (q : Int)) (.int .i64 (q : Int))).run Tryz.prog w = .ok (.slice (some ⟨w.heap.size, 0, none⟩) q q) w1) :
    Calls Tryz.prog 92 #[.int .i64 (n : Int), .int .i64 (b : Int)] w fun e w' => e = .returned (.pointer (some ⟨w1.heap.size, 0, none⟩)) ∧ w' = w1.alloc (.cells #[.int .i64 (k : Int), .slice (some ⟨w.heap.size, 0, none⟩) q q] 122) := by
  unfold kOf at hk
  have M1 : (p + 7) / 8 < 1 → (Instr.makeSlice 29 (.int .i64 1) (.int .i64 1)).run Tryz.prog w = .ok (.slice (some ⟨w.heap.size, 0, none⟩) q q) w1 := fun h => by
    rw [← M, show (q : Int) = 1 by omega]
  have M2 : 1 ≤ (p + 7) / 8 → (Instr.makeSlice 29 (.int .i64 (((p : Int) + 7) / 8)) (.int .i64 (((p : Int) + 7) / 8))).run Tryz.prog w = .ok (.slice (some ⟨w.heap.size, 0, none⟩) q q) w1 := fun h => by
    rw [← M, show (q : Int) = ((p : Int) + 7) / 8 by omega]
  clear M
  go_enter Tryz.func92, Tryz.ntmps92
  go_wp2
  all_goals (first | rw [M1 (by omega)] | rw [M2 (by omega)])
  all_goals go_wp2
  all_goals go_ret
  all_goals (refine ⟨rfl, ?_⟩)
  all_goals (first | rw [show (k : Int) = 1 by omega] | rw [show (k : Int) = 16 by omega] | rw [show (k : Int) = (b : Int) * 7 / 10 by omega])
  all_goals rw [← hq]
set_option maxRecDepth 100000 in
theorem new_any (n b : Nat) (hn : n ≤ 100000) (hb1 : 1 ≤ b) (hb2 : b ≤ 32) (w : World) : Calls Tryz.prog 92 #[.int .i64 (n : Int), .int .i64 (b : Int)] w fun e w' => ∃ m : FM, e = .returned m.v ∧ FAt w' m (kOf b) (List.replicate (nOf n b) 0) ∧ w.heap.size ≤ m.d ∧ w.heap.size ≤ m.g ∧ w.grownBy w' none := by
  have hp : n * b ≤ 3200000 := Nat.le_trans (Nat.mul_le_mul hn hb2) (by decide)
  have hq1 : nOf n b ≤ 400000 := by unfold nOf; omega
  have hq0 : 1 ≤ nOf n b := by unfold nOf; omega
  have hk : 1 ≤ kOf b ∧ kOf b ≤ 16 := by unfold kOf; omega
  obtain ⟨w1, M, hb, hg⟩ := make_row (nOf n b) (by omega) w
  refine (new_num n b (n * b) (kOf b) (nOf n b) hn hb1 hb2 ?_ hp rfl rfl w w1 M).mono ?_
  · rw [← Int.natCast_mul]
    unfold wrap64
    omega
  · rintro e w' ⟨rfl, rfl⟩
    have hlt := hb.lt
    refine ⟨⟨w1.heap.size, w.heap.size, nOf n b, []⟩, rfl, ⟨?_, ?_, ?_, by rw [List.length_replicate]; exact hq0, by rw [List.length_replicate]; exact hq1, hk.1, hk.2⟩, hg.size, Nat.le_refl _, ?_⟩
    · rw [List.length_replicate]
      exact Blk.new w1 _ _
    · rw [List.append_nil]
      exact hb.alloc _
    · show w1.heap.size ≠ w.heap.size
      omega
    · exact ⟨hg.os, hg.tape, hg.output, Nat.le_trans hg.size (by simp), fun i hi hne => (Below.heap_alloc _ _ _ (Nat.lt_of_lt_of_le hi hg.size)).trans (hg.block i hi hne)⟩
end Go.Proofs.YtdookhmaiapclaaGreatDoor

/-
  CONTRACT: the law's 'lives' answers true, from whatever memory.
-/
import Derived.Test.YtbabepnoncpdlaaDskLives
namespace Go.Proofs.Ytbabepnoncpdlaa
open Go.RowKit Go.Maps

theorem Lv.below {w w1 : World} {d ops next wr : Nat} {on : Bool} {bs : List UInt8} {pl : List Nat} (h : Lv w d on ops next bs wr pl w1) : Below w.heap.size w w1 := by
  obtain ⟨bm, e, _, _, _, _, _, hM⟩ := h
  exact hM.below (Nat.le_refl _) (by simp)
def b20 : List UInt8 := List.replicate 20 0
def b50 : List UInt8 := b20 ++ List.replicate 30 0
def b32 : List UInt8 := b50.take 32
set_option maxRecDepth 100000 in
set_option maxHeartbeats 2000000 in
theorem lives_any (w : World) : Calls Try.prog 8 #[] w fun x w' => x = .returned (.bool true) ∧ Below w.heap.size w w' := by
  obtain ⟨f20, h20⟩ := make_bytes 20 (by omega)
  obtain ⟨f30, h30⟩ := make_bytes 30 (by omega)
  obtain ⟨f200, h200⟩ := make_bytes 200 (by omega)
  have m20 : ∀ w, (Instr.makeSlice 26 (.int .i64 20) (.int .i64 20)).run Try.prog w = .ok (.slice (some ⟨w.heap.size, 0, none⟩) 20 20) (f20 w) := fun w => (h20 w).1
  have m30 : ∀ w, (Instr.makeSlice 26 (.int .i64 30) (.int .i64 30)).run Try.prog w = .ok (.slice (some ⟨w.heap.size, 0, none⟩) 30 30) (f30 w) := fun w => (h30 w).1
  have m200 : ∀ w, (Instr.makeSlice 26 (.int .i64 200) (.int .i64 200)).run Try.prog w = .ok (.slice (some ⟨w.heap.size, 0, none⟩) 200 200) (f200 w) := fun w => (h200 w).1
  have N : Hid (Calls Try.prog 13 #[.int .i64 10] w fun x w1 => ∃ d, x = .returned (.pointer (some ⟨d, 0, none⟩)) ∧ Nv w d w1) := lv_new w
  have C1 : Hid (∀ d w1, Nv w d w1 → Calls Try.prog 14 #[.pointer (some ⟨d, 0, none⟩), .string ⟨#[97]⟩] w1 fun x w2 => x = .returned (.int .i64 0) ∧ Lv w d true 1 0 [] 0 [] w2) := fun d w1 h => lv_create h
  have A20 : Hid (∀ d w1, Lv w d true 1 0 [] 0 [] w1 → Calls Try.prog 15 #[.pointer (some ⟨d, 0, none⟩), .string ⟨#[97]⟩, .slice (some ⟨w1.heap.size, 0, none⟩) 20 20] (f20 w1) fun x w2 => x = .returned (.int .i64 0) ∧ Lv w d true 2 2 b20 0 [0, 1] w2) := fun d w1 h => lv_append h 20 2 (by omega) f20 (h20 w1).2 (by omega) (by omega) (by simp) (by simp) (by omega) (by decide) false (by decide)
  have Sy : Hid (∀ d w1, Lv w d true 2 2 b20 0 [0, 1] w1 → Calls Try.prog 16 #[.pointer (some ⟨d, 0, none⟩), .string ⟨#[97]⟩] w1 fun x w2 => x = .returned (.int .i64 0) ∧ Lv w d true 3 2 b20 20 [] w2) := fun d w1 h => lv_sync h (by omega)
  have A30 : Hid (∀ d w1, Lv w d true 3 2 b20 20 [] w1 → Calls Try.prog 15 #[.pointer (some ⟨d, 0, none⟩), .string ⟨#[97]⟩, .slice (some ⟨w1.heap.size, 0, none⟩) 30 30] (f30 w1) fun x w2 => x = .returned (.int .i64 0) ∧ Lv w d true 4 5 b50 20 [2, 3, 4] w2) := fun d w1 h => lv_append h 30 3 (by omega) f30 (h30 w1).2 (by omega) (by omega) (by decide) (by simp) (by omega) (by decide) false (by decide)
  have Di : Hid (∀ d w1, Lv w d true 4 5 b50 20 [2, 3, 4] w1 → Calls Try.prog 21 #[.pointer (some ⟨d, 0, none⟩)] w1 fun x w2 => x = .returned (.int .i64 3) ∧ Lv w d true 4 5 b50 20 [2, 3, 4] w2) := fun d w1 h => lv_dirty h (by simp)
  have Cr : Hid (∀ d w1, Lv w d true 4 5 b50 20 [2, 3, 4] w1 → Calls Try.prog 17 #[.pointer (some ⟨d, 0, none⟩), .int .i64 1] w1 fun x w2 => x = .returned (.tuple #[]) ∧ Lv w d false 4 5 b32 32 [] w2) := fun d w1 h => lv_crash h (by decide)
  have St : Hid (∀ d w1, Lv w d false 4 5 b32 32 [] w1 → Calls Try.prog 18 #[.pointer (some ⟨d, 0, none⟩)] w1 fun x w2 => x = .returned (.tuple #[]) ∧ Lv w d true 4 5 b32 32 [] w2) := fun d w1 h => lv_start h
  have Re : Hid (∀ d w1, Lv w d true 4 5 b32 32 [] w1 → Calls Try.prog 19 #[.pointer (some ⟨d, 0, none⟩), .string ⟨#[97]⟩] w1 fun x w2 => ∃ ao cap, x = .returned (.tuple #[.slice ao 32 cap, .int .i64 0]) ∧ Lv w d true 4 5 b32 32 [] w2) := fun d w1 h => lv_read h (by decide)
  have Us : Hid (∀ d w1, Lv w d true 4 5 b32 32 [] w1 → Calls Try.prog 23 #[.pointer (some ⟨d, 0, none⟩)] w1 fun x w2 => x = .returned (.int .i64 3) ∧ Lv w d true 4 5 b32 32 [] w2) := fun d w1 h => lv_used h (by decide)
  have A200 : Hid (∀ d w1, Lv w d true 4 5 b32 32 [] w1 → Calls Try.prog 15 #[.pointer (some ⟨d, 0, none⟩), .string ⟨#[97]⟩, .slice (some ⟨w1.heap.size, 0, none⟩) 200 200] (f200 w1) fun x w2 => x = .returned (.int .i64 7) ∧ Lv w d true 4 5 b32 32 [] w2) := fun d w1 h => lv_append h 200 _ (by omega) f200 (h200 w1).2 (by omega) (by omega) (by decide) (by simp) (by omega) rfl true (by decide)
  have Se : Hid (∀ w, Calls Try.prog 11 #[.int .i64 17] w fun x' w' => x' = .returned (.int .i64 2) ∧ w' = w) := fun w => sectors_in 17 w ⟨by omega, by omega⟩
  clear h20 h30 h200
  go_enter Try.func8, Try.ntmps8
  go_wp2_with (first
    | (go_at_call 13; go_fit N.out; rintro x w1 ⟨d, rfl, l1⟩)
    | (go_at_call 14; go_fit (C1.out _ _ l1); rintro x w2 ⟨rfl, l2⟩)
    | (go_at_call 15; first | (go_fit (A20.out _ _ l2); rintro x w3 ⟨rfl, l3⟩) | (go_fit (A30.out _ _ l4); rintro x w5 ⟨rfl, l5⟩) | (go_fit (A200.out _ _ l10); rintro x w11 ⟨rfl, l11⟩))
    | (go_at_call 16; go_fit (Sy.out _ _ l3); rintro x w4 ⟨rfl, l4⟩)
    | (go_at_call 21; go_fit (Di.out _ _ l5); rintro x w6 ⟨rfl, l6⟩)
    | (go_at_call 17; go_fit (Cr.out _ _ l6); rintro x w7 ⟨rfl, l7⟩)
    | (go_at_call 18; go_fit (St.out _ _ l7); rintro x w8 ⟨rfl, l8⟩)
    | (go_at_call 19; go_fit (Re.out _ _ l8); rintro x w9 ⟨ao9, cap9, rfl, l9⟩)
    | (go_at_call 23; go_fit (Us.out _ _ l9); rintro x w10 ⟨rfl, l10⟩)
    | (go_at_call 11; go_fit (Se.out _); rintro x w12 ⟨rfl, rfl⟩))
  go_ret
  exact ⟨rfl, l11.below⟩
end Go.Proofs.Ytbabepnoncpdlaa

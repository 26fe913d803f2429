/-
  CONTRACTS: a disk that no call made: each of its calls, nil or a zero value.
-/
import Derived.Test.YtbabepnoncpdlabDskCalls
namespace Go.Proofs.Ytbabepnoncpdlab
open Go.RowKit Go.Maps

/-- No call made the disk: nil, or a zero value. -/
def NM (p : Option Addr) (w : World) : Prop := p = none ∨ ∃ g, p = some ⟨g, 0, none⟩ ∧ w.cell? ⟨g, 0, none⟩ = some (.map none)
theorem NM.grown {p : Option Addr} {w w' : World} (h : NM p w) (hg : w.grownBy w' none) : NM p w' := h.imp id fun ⟨g, e, hc⟩ => ⟨g, e, hg.cell hc (by simp)⟩
theorem NM.alloc {p : Option Addr} {w : World} (h : NM p w) (o : Obj) : NM p (w.alloc o) := h.grown (World.grownBy_alloc _ _ _)
theorem grown_two {w w1 w2 : World} (h : w.grownBy w1 none) (k : w1.grownBy w2 none) : w.grownBy w2 none := h.andThen k (fun j hj => by cases hj)
theorem grown_a (w : World) (o : Obj) : w.grownBy (w.alloc o) none := World.grownBy_alloc _ _ _
theorem grown_z {w w1 : World} (h : w.grownBy w1 none) (o : Obj) : w.grownBy (w1.alloc o) none := grown_two h (grown_a _ _)
theorem made_no {p : Option Addr} {w : World} (h : NM p w) : Calls Try.prog 22 #[.pointer p] w fun e w' => e = .returned (.bool false) ∧ w' = w := by
  rcases h with rfl | ⟨g, rfl, hc⟩
  · exact made_nil w
  · exact made_zero g w hc
section
variable {p : Option Addr} {w : World} (h : NM p w)
include h
theorem on_no : Calls Try.prog 18 #[.pointer p] w fun x w' => x = .returned (.bool false) ∧ w' = w := by
  have M : Hid (Calls Try.prog 22 #[.pointer p] w fun e w' => e = .returned (.bool false) ∧ w' = w) := made_no h
  clear h
  go_enter Try.func18, Try.ntmps18
  go_wp2_with (go_at_call 22; go_fit M.out; rintro x w1 ⟨rfl, rfl⟩)
  go_ret
  exact ⟨rfl, rfl⟩
theorem ops_no : Calls Try.prog 17 #[.pointer p] w fun x w' => x = .returned (.int .i64 0) ∧ w' = w := by
  have M : Hid (Calls Try.prog 22 #[.pointer p] w fun e w' => e = .returned (.bool false) ∧ w' = w) := made_no h
  clear h
  go_enter Try.func17, Try.ntmps17
  go_wp2_with (go_at_call 22; go_fit M.out; rintro x w1 ⟨rfl, rfl⟩)
  go_ret
  exact ⟨rfl, rfl⟩
theorem start_no : Calls Try.prog 5 #[.pointer p] w fun x w' => x = .returned (.tuple #[]) ∧ w' = w := by
  have M : Hid (Calls Try.prog 22 #[.pointer p] w fun e w' => e = .returned (.bool false) ∧ w' = w) := made_no h
  clear h
  go_enter Try.func5, Try.ntmps5
  go_wp2_with (go_at_call 22; go_fit M.out; rintro x w1 ⟨rfl, rfl⟩)
  refine bodyPost_ret (results_none rfl _ _ _) rfl ?_
  exact ⟨rfl, rfl⟩
theorem crash_no (n : Int) : Calls Try.prog 4 #[.pointer p, .int .i64 n] w fun x w' => x = .returned (.tuple #[]) ∧ w' = w := by
  have M : Hid (Calls Try.prog 18 #[.pointer p] w fun e w' => e = .returned (.bool false) ∧ w' = w) := on_no h
  clear h
  go_enter Try.func4, Try.ntmps4
  go_wp2_with (go_at_call 18; go_fit M.out; rintro x w1 ⟨rfl, rfl⟩)
  refine bodyPost_ret (results_none rfl _ _ _) rfl ?_
  exact ⟨rfl, rfl⟩
theorem refusal_no (ao : Option Addr) (n c : Nat) : Calls Try.prog 25 #[.pointer p, .slice ao n c] w fun x w' => x = .returned (.int .i64 1) ∧ w' = w := by
  have M : Hid (Calls Try.prog 22 #[.pointer p] w fun e w' => e = .returned (.bool false) ∧ w' = w) := made_no h
  clear h
  go_enter Try.func25, Try.ntmps25
  go_wp2_with (go_at_call 22; go_fit M.out; rintro x w1 ⟨rfl, rfl⟩)
  go_ret
  exact ⟨rfl, rfl⟩
theorem list_no : Calls Try.prog 14 #[.pointer p] w fun x w' => x = .returned (.slice none 0 0) ∧ w' = w := by
  have M : Hid (Calls Try.prog 25 #[.pointer p, .slice none 0 0] w fun x w' => x = .returned (.int .i64 1) ∧ w' = w) := refusal_no h _ _ _
  clear h
  go_enter Try.func14, Try.ntmps14
  go_wp2_with (go_at_call 25; go_fit M.out; rintro x w1 ⟨rfl, rfl⟩)
  go_ret
  exact ⟨rfl, rfl⟩
theorem totalUsed_no : Calls Try.prog 39 #[.pointer p, .func (.func 40) #[] #[]] w fun x w' => x = .returned (.int .i64 0) ∧ w' = w := by
  have M : Hid (Calls Try.prog 25 #[.pointer p, .slice none 0 0] w fun x w' => x = .returned (.int .i64 1) ∧ w' = w) := refusal_no h _ _ _
  clear h
  go_enter Try.func39, Try.ntmps39
  go_wp2_with (go_at_call 25; go_fit M.out; rintro x w1 ⟨rfl, rfl⟩)
  go_ret
  exact ⟨rfl, rfl⟩
theorem totalDirty_no : Calls Try.prog 39 #[.pointer p, .func (.func 42) #[] #[]] w fun x w' => x = .returned (.int .i64 0) ∧ w' = w := by
  have M : Hid (Calls Try.prog 25 #[.pointer p, .slice none 0 0] w fun x w' => x = .returned (.int .i64 1) ∧ w' = w) := refusal_no h _ _ _
  clear h
  go_enter Try.func39, Try.ntmps39
  go_wp2_with (go_at_call 25; go_fit M.out; rintro x w1 ⟨rfl, rfl⟩)
  go_ret
  exact ⟨rfl, rfl⟩
theorem used_no : Calls Try.prog 15 #[.pointer p] w fun x w' => x = .returned (.int .i64 0) ∧ w' = w := by
  have M : Hid (Calls Try.prog 39 #[.pointer p, .func (.func 40) #[] #[]] w fun e w' => e = .returned (.int .i64 0) ∧ w' = w) := totalUsed_no h
  clear h
  go_enter Try.func15, Try.ntmps15
  go_wp2_with (go_at_call 39; go_fit M.out; rintro x w1 ⟨rfl, rfl⟩)
  go_ret
  exact ⟨rfl, rfl⟩
theorem dirty_no : Calls Try.prog 16 #[.pointer p] w fun x w' => x = .returned (.int .i64 0) ∧ w' = w := by
  have M : Hid (Calls Try.prog 39 #[.pointer p, .func (.func 42) #[] #[]] w fun e w' => e = .returned (.int .i64 0) ∧ w' = w) := totalDirty_no h
  clear h
  go_enter Try.func16, Try.ntmps16
  go_wp2_with (go_at_call 39; go_fit M.out; rintro x w1 ⟨rfl, rfl⟩)
  go_ret
  exact ⟨rfl, rfl⟩
theorem find_no (s : ByteArray) : Calls Try.prog 23 #[.pointer p, .string s] w fun x w' => x = .returned (.tuple #[.pointer none, .int .i64 1]) ∧ w.grownBy w' none := by
  have M : Hid (Calls Try.prog 25 #[.pointer p, .slice (some ⟨w.heap.size, 0, none⟩) 1 1] (w.alloc (.cells #[.string s] 9)) fun x w' => x = .returned (.int .i64 1) ∧ w' = w.alloc (.cells #[.string s] 9)) := refusal_no (h.alloc _) _ _ _
  clear h
  go_enter Try.func23, Try.ntmps23
  go_wp2_with (go_at_call 25; go_fit M.out; rintro x w1 ⟨rfl, rfl⟩)
  go_ret2
  exact ⟨rfl, grown_a _ _⟩
theorem arm_no (n m : Int) : Calls Try.prog 12 #[.pointer p, .int .i64 n, .int .i64 m] w fun x w' => x = .returned (.int .i64 1) ∧ w' = w := by
  have M : Hid (Calls Try.prog 25 #[.pointer p, .slice none 0 0] w fun x w' => x = .returned (.int .i64 1) ∧ w' = w) := refusal_no h _ _ _
  clear h
  go_enter Try.func12, Try.ntmps12
  go_wp2_with (go_at_call 25; go_fit M.out; rintro x w1 ⟨rfl, rfl⟩)
  go_ret
  exact ⟨rfl, rfl⟩
theorem create_no (s : ByteArray) : Calls Try.prog 7 #[.pointer p, .string s] w fun x w' => x = .returned (.int .i64 1) ∧ w.grownBy w' none := by
  have M : Hid (Calls Try.prog 25 #[.pointer p, .slice (some ⟨w.heap.size + 2, 0, none⟩) 1 1] (((w.alloc (.cells #[.pointer p] 28)).alloc (.cells #[.string s] 9)).alloc (.cells #[.string s] 9)) fun x w' => x = .returned (.int .i64 1) ∧ w' = ((w.alloc (.cells #[.pointer p] 28)).alloc (.cells #[.string s] 9)).alloc (.cells #[.string s] 9)) := refusal_no (((h.alloc _).alloc _).alloc _) _ _ _
  clear h
  go_enter Try.func7, Try.ntmps7
  go_wp2_with (go_at_call 25; go_fit M.out; rintro x w1 ⟨rfl, rfl⟩)
  go_ret
  exact ⟨rfl, grown_z (grown_z (grown_a _ _) _) _⟩
theorem rename_no (s t : ByteArray) : Calls Try.prog 10 #[.pointer p, .string s, .string t] w fun x w' => x = .returned (.int .i64 1) ∧ w.grownBy w' none := by
  have M : Hid (Calls Try.prog 25 #[.pointer p, .slice (some ⟨w.heap.size + 3, 0, none⟩) 2 2] ((((w.alloc (.cells #[.pointer p] 28)).alloc (.cells #[.string s] 9)).alloc (.cells #[.string t] 9)).alloc (.cells #[.string s, .string t] 9)) fun x w' => x = .returned (.int .i64 1) ∧ w' = (((w.alloc (.cells #[.pointer p] 28)).alloc (.cells #[.string s] 9)).alloc (.cells #[.string t] 9)).alloc (.cells #[.string s, .string t] 9)) := refusal_no ((((h.alloc _).alloc _).alloc _).alloc _) _ _ _
  clear h
  go_enter Try.func10, Try.ntmps10
  go_wp2_with (go_at_call 25; go_fit M.out; rintro x w1 ⟨rfl, rfl⟩)
  go_ret
  exact ⟨rfl, grown_z (grown_z (grown_z (grown_a _ _) _) _) _⟩
theorem read_no (s : ByteArray) : Calls Try.prog 6 #[.pointer p, .string s] w fun x w' => x = .returned (.tuple #[.slice none 0 0, .int .i64 1]) ∧ w.grownBy w' none := by
  have M : Hid (Calls Try.prog 23 #[.pointer p, .string s] w fun x w' => x = .returned (.tuple #[.pointer none, .int .i64 1]) ∧ w.grownBy w' none) := find_no h s
  clear h
  go_enter Try.func6, Try.ntmps6
  go_wp2_with (go_at_call 23; go_fit M.out; rintro x w1 ⟨rfl, hg⟩)
  go_ret2
  exact ⟨rfl, hg⟩
theorem spoil_no (s : ByteArray) (n m : Int) : Calls Try.prog 13 #[.pointer p, .string s, .int .i64 n, .int .i64 m] w fun x w' => x = .returned (.int .i64 1) ∧ w.grownBy w' none := by
  have M : Hid (Calls Try.prog 23 #[.pointer p, .string s] w fun x w' => x = .returned (.tuple #[.pointer none, .int .i64 1]) ∧ w.grownBy w' none) := find_no h s
  clear h
  go_enter Try.func13, Try.ntmps13
  go_wp2_with (go_at_call 23; go_fit M.out; rintro x w1 ⟨rfl, hg⟩)
  go_ret
  exact ⟨rfl, hg⟩
theorem sync_no (s : ByteArray) : Calls Try.prog 9 #[.pointer p, .string s] w fun x w' => x = .returned (.int .i64 1) ∧ w.grownBy w' none := by
  have M : Hid (Calls Try.prog 23 #[.pointer p, .string s] w fun x w' => x = .returned (.tuple #[.pointer none, .int .i64 1]) ∧ w.grownBy w' none) := find_no h s
  clear h
  go_enter Try.func9, Try.ntmps9
  go_wp2_with (go_at_call 23; go_fit M.out; rintro x w1 ⟨rfl, hg⟩)
  go_ret
  exact ⟨rfl, grown_z hg _⟩
theorem remove_no (s : ByteArray) : Calls Try.prog 11 #[.pointer p, .string s] w fun x w' => x = .returned (.int .i64 1) ∧ w.grownBy w' none := by
  have M : Hid (Calls Try.prog 23 #[.pointer p, .string s] ((w.alloc (.cells #[.pointer p] 28)).alloc (.cells #[.string s] 9)) fun x w' => x = .returned (.tuple #[.pointer none, .int .i64 1]) ∧ ((w.alloc (.cells #[.pointer p] 28)).alloc (.cells #[.string s] 9)).grownBy w' none) := find_no ((h.alloc _).alloc _) s
  clear h
  go_enter Try.func11, Try.ntmps11
  go_wp2_with (go_at_call 23; go_fit M.out; rintro x w1 ⟨rfl, hg⟩)
  go_ret
  exact ⟨rfl, grown_two (grown_z (grown_a _ _) _) hg⟩
theorem append_no (s : ByteArray) (ao : Option Addr) (n c : Nat) : Calls Try.prog 8 #[.pointer p, .string s, .slice ao n c] w fun x w' => x = .returned (.int .i64 1) ∧ w.grownBy w' none := by
  have M : Hid (Calls Try.prog 23 #[.pointer p, .string s] ((w.alloc (.cells #[.pointer p] 28)).alloc (.cells #[.slice ao n c] 22)) fun x w' => x = .returned (.tuple #[.pointer none, .int .i64 1]) ∧ ((w.alloc (.cells #[.pointer p] 28)).alloc (.cells #[.slice ao n c] 22)).grownBy w' none) := find_no ((h.alloc _).alloc _) s
  clear h
  go_enter Try.func8, Try.ntmps8
  go_wp2_with (go_at_call 23; go_fit M.out; rintro x w1 ⟨rfl, hg⟩)
  go_ret
  exact ⟨rfl, grown_z (grown_two (grown_z (grown_a _ _) _) hg) _⟩
end
end Go.Proofs.Ytbabepnoncpdlab

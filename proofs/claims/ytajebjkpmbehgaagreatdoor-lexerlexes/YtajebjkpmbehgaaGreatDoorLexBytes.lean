/-
  CONTRACTS: what a sign is (isBlank, isDigit, isLetter, isPlain).
-/
import Derived.Test.YtajebjkpmbehgaaGreatDoorLexTok
namespace Go.Proofs.YtajebjkpmbehgaaGreatDoor
open Go.RowKit

def blI (x : Int) : Bool := decide (x = 32 ∨ x = 9 ∨ x = 10 ∨ x = 13)
def dgI (x : Int) : Bool := decide (48 ≤ x ∧ x ≤ 57)
def ltI (x : Int) : Bool := decide ((97 ≤ x ∧ x ≤ 122) ∨ (65 ≤ x ∧ x ≤ 90))
def plI (x : Int) : Bool := decide (32 ≤ x ∧ x ≤ 126 ∧ x ≠ 39 ∧ x ≠ 37)
theorem blI_B (b : UInt8) : blI (b.toNat : Int) = blB b := by unfold blI blB; exact decide_eq_decide.2 (by omega)
theorem dgI_B (b : UInt8) : dgI (b.toNat : Int) = dgB b := by unfold dgI dgB; exact decide_eq_decide.2 (by omega)
theorem ltI_B (b : UInt8) : ltI (b.toNat : Int) = ltB b := by unfold ltI ltB; exact decide_eq_decide.2 (by omega)
theorem plI_B (b : UInt8) : plI (b.toNat : Int) = plB b := by unfold plI plB; exact decide_eq_decide.2 (by omega)
theorem blI_high {x : Int} (h : 128 ≤ x) : blI x = false := decide_eq_false (by omega)
theorem dgI_high {x : Int} (h : 128 ≤ x) : dgI x = false := decide_eq_false (by omega)
theorem ltI_high {x : Int} (h : 128 ≤ x) : ltI x = false := decide_eq_false (by omega)
theorem plI_high {x : Int} (h : 128 ≤ x) : plI x = false := decide_eq_false (by omega)
set_option maxRecDepth 100000 in
theorem blank_any (x : Int) (w : World) : Calls Tryz.prog 16 #[.int .i32 x] w fun e w' => e = .returned (.bool (blI x)) ∧ w' = w := by
  unfold blI
  by_cases h1 : x = 32
  · subst h1
    go_enter Tryz.func16, Tryz.ntmps16
    go_wp2_with fail
    go_ret
    exact ⟨ret_bool rfl, rfl⟩
  · by_cases h2 : x = 9
    · subst h2
      go_enter Tryz.func16, Tryz.ntmps16
      go_wp2_with fail
      go_ret
      exact ⟨ret_bool rfl, rfl⟩
    · by_cases h3 : x = 10
      · subst h3
        go_enter Tryz.func16, Tryz.ntmps16
        go_wp2_with fail
        go_ret
        exact ⟨ret_bool rfl, rfl⟩
      · have e1 : (x == 32) = false := beq_false_of_ne h1
        have e2 : (x == 9) = false := beq_false_of_ne h2
        have e3 : (x == 10) = false := beq_false_of_ne h3
        go_enter Tryz.func16, Tryz.ntmps16
        go_wp2_with fail
        go_ret
        refine ⟨ret_bool ?_, rfl⟩
        by_cases h4 : x = 13
        · subst h4; rfl
        · simp [h1, h2, h3, h4]
set_option maxRecDepth 100000 in
theorem digitL_any (x : Int) (w : World) : Calls Tryz.prog 19 #[.int .i32 x] w fun e w' => e = .returned (.bool (dgI x)) ∧ w' = w := by
  unfold dgI
  by_cases h : 48 ≤ x
  · have d : decide (48 ≤ x) = true := decide_eq_true h
    go_enter Tryz.func19, Tryz.ntmps19
    go_wp2_with fail
    go_ret
    exact ⟨ret_bool (by simp [h]), rfl⟩
  · have d : decide (48 ≤ x) = false := decide_eq_false h
    go_enter Tryz.func19, Tryz.ntmps19
    go_wp2_with fail
    go_ret
    exact ⟨ret_bool (by simp), rfl⟩
set_option maxRecDepth 100000 in
theorem letterL_any (x : Int) (w : World) : Calls Tryz.prog 22 #[.int .i32 x] w fun e w' => e = .returned (.bool (ltI x)) ∧ w' = w := by
  unfold ltI
  by_cases h : 97 ≤ x
  · have d : decide (97 ≤ x) = true := decide_eq_true h
    by_cases h2 : x ≤ 122
    · have d2 : decide (x ≤ 122) = true := decide_eq_true h2
      go_enter Tryz.func22, Tryz.ntmps22
      go_wp2_with fail
      go_ret
      exact ⟨ret_bool (by simp [h, h2]), rfl⟩
    · have d2 : decide (x ≤ 122) = false := decide_eq_false h2
      have h3 : 65 ≤ x := by omega
      have d3 : decide (65 ≤ x) = true := decide_eq_true h3
      go_enter Tryz.func22, Tryz.ntmps22
      go_wp2_with fail
      go_ret
      exact ⟨ret_bool (by simp), rfl⟩
  · have d : decide (97 ≤ x) = false := decide_eq_false h
    by_cases h3 : 65 ≤ x
    · have d3 : decide (65 ≤ x) = true := decide_eq_true h3
      go_enter Tryz.func22, Tryz.ntmps22
      go_wp2_with fail
      go_ret
      exact ⟨ret_bool (by simp), rfl⟩
    · have d3 : decide (65 ≤ x) = false := decide_eq_false h3
      go_enter Tryz.func22, Tryz.ntmps22
      go_wp2_with fail
      go_ret
      exact ⟨ret_bool (by simp), rfl⟩
set_option maxRecDepth 100000 in
theorem plain_any (x : Int) (w : World) : Calls Tryz.prog 33 #[.int .i32 x] w fun e w' => e = .returned (.bool (plI x)) ∧ w' = w := by
  unfold plI
  by_cases h : 32 ≤ x
  · have d : decide (32 ≤ x) = true := decide_eq_true h
    by_cases h2 : x ≤ 126
    · have d2 : decide (x ≤ 126) = true := decide_eq_true h2
      by_cases h3 : x = 39
      · subst h3
        go_enter Tryz.func33, Tryz.ntmps33
        go_wp2_with fail
        go_ret
        exact ⟨ret_bool rfl, rfl⟩
      · have d3 : (x == 39) = false := beq_false_of_ne h3
        by_cases h4 : x = 37
        · subst h4
          go_enter Tryz.func33, Tryz.ntmps33
          go_wp2_with fail
          go_ret
          exact ⟨ret_bool rfl, rfl⟩
        · have d4 : (x == 37) = false := beq_false_of_ne h4
          go_enter Tryz.func33, Tryz.ntmps33
          go_wp2_with fail
          go_ret
          exact ⟨ret_bool (by simp [h, h2, h3, h4]), rfl⟩
    · have d2 : decide (x ≤ 126) = false := decide_eq_false h2
      go_enter Tryz.func33, Tryz.ntmps33
      go_wp2_with fail
      go_ret
      exact ⟨ret_bool (by simp), rfl⟩
  · have d : decide (32 ≤ x) = false := decide_eq_false h
    go_enter Tryz.func33, Tryz.ntmps33
    go_wp2_with fail
    go_ret
    exact ⟨ret_bool (by simp), rfl⟩
end Go.Proofs.YtajebjkpmbehgaaGreatDoor

/-
  CONTRACTS: the calls of level (Good, Need, Name, Meet), the document's, and its examples (lives).
-/
import Derived.Test.YtljbaoaglpheoaaDoorChecked
import Derived.Test.YtljbaoaglpheoaaDoorOwn
namespace Go.Proofs.YtljbaoaglpheoaaDoor
open Go.RowKit

/-- How many answers. -/
def nd (l c : Int) : Int := if c < 1 then 0 else if l = 1 then 1 else if l = 2 then c / 2 + 1 else if l = 3 then c else 0
theorem nd_none {l c : Int} (h : c < 1) : nd l c = 0 := if_pos h
theorem nd_one {c : Int} (h : ¬ c < 1) : nd 1 c = 1 := by unfold nd; rw [if_neg h, if_pos rfl]
theorem nd_two {c : Int} (h : ¬ c < 1) : nd 2 c = c / 2 + 1 := by unfold nd; rw [if_neg h, if_neg (by omega), if_pos rfl]
theorem nd_all {c : Int} (h : ¬ c < 1) : nd 3 c = c := by unfold nd; rw [if_neg h, if_neg (by omega), if_neg (by omega), if_pos rfl]
theorem nd_no {l c : Int} (h1 : ¬ l = 1) (h2 : ¬ l = 2) (h3 : ¬ l = 3) : nd l c = 0 := by unfold nd; simp [h1, h2, h3]
theorem nd_low (l c : Int) : 0 ≤ nd l c := by unfold nd; repeat' split <;> omega
theorem nd_le (l c : Int) (h : 0 < c) : nd l c ≤ c := by unfold nd; repeat' split <;> omega
theorem nd_zero (l c : Int) (h : 0 < nd l c) : 0 < c := by unfold nd at h; split at h <;> omega
/-- Do reads meet writes? -/
def mt (a b c : Int) : Bool := decide (0 < nd a c) && decide (0 < nd b c) && decide (c - nd b c < nd a c)
/-- The names lie where they lie. -/
def nmL : List (List UInt8) := [[79, 78, 69], [81, 85, 79, 82, 85, 77], [65, 76, 76]]
def Nms (w : World) : Prop := w.cell? ⟨0, 0, none⟩ = some (.string ⟨#[79, 78, 69]⟩) ∧ w.cell? ⟨0, 1, none⟩ = some (.string ⟨#[81, 85, 79, 82, 85, 77]⟩) ∧ w.cell? ⟨0, 2, none⟩ = some (.string ⟨#[65, 76, 76]⟩)
/-- A level's name. -/
def nm (l : Int) : ByteArray := if l = 1 then ⟨#[79, 78, 69]⟩ else if l = 2 then ⟨#[81, 85, 79, 82, 85, 77]⟩ else if l = 3 then ⟨#[65, 76, 76]⟩ else ⟨#[]⟩

set_option maxRecDepth 100000 in
theorem good16_any (l : Int) (w : World) : Calls Tryd.prog 7 #[.int .i64 l] w fun e w' => e = .returned (.bool (decide (1 ≤ l) && decide (l ≤ 3))) ∧ w' = w := by
  by_cases h1 : 1 ≤ l
  · by_cases h2 : l ≤ 3
    all_goals (go_enter Tryd.func7, Tryd.ntmps7; go_wp2_with fail; go_ret; exact ⟨ret_bool (by simp [h1, h2]), rfl⟩)
  · go_enter Tryd.func7, Tryd.ntmps7
    go_wp2_with fail
    go_ret
    exact ⟨ret_bool (by rw [decide_eq_false (show ¬ 1 ≤ l by omega)]; simp), rfl⟩
set_option maxRecDepth 100000 in
theorem refGood16_any (l : Int) (w : World) : Calls Tryd.prog 8 #[.int .i64 l] w fun e w' => e = .returned (.bool (decide (1 ≤ l) && decide (l ≤ 3))) ∧ w' = w := by
  by_cases h1 : l = 1
  · subst h1
    go_enter Tryd.func8, Tryd.ntmps8
    go_wp2_with fail
    go_ret
    exact ⟨ret_bool rfl, rfl⟩
  · by_cases h2 : l = 2
    · subst h2
      go_enter Tryd.func8, Tryd.ntmps8
      go_wp2_with fail
      go_ret
      exact ⟨ret_bool rfl, rfl⟩
    · by_cases h3 : l = 3
      · subst h3
        go_enter Tryd.func8, Tryd.ntmps8
        go_wp2_with fail
        go_ret
        exact ⟨ret_bool rfl, rfl⟩
      · have e1 : (l == 1) = false := by simp [h1]
        have e2 : (l == 2) = false := by simp [h2]
        have e3 : (l == 3) = false := by simp [h3]
        have e : (decide (1 ≤ l) && decide (l ≤ 3)) = false := by
          by_cases h : 1 ≤ l
          · simp [h]; omega
          · simp [h]
        rw [e]
        clear e
        go_enter Tryd.func8, Tryd.ntmps8
        go_wp2_with fail
        go_ret
        exact ⟨rfl, rfl⟩
set_option maxRecDepth 100000 in
theorem need_any (l c : Int) (w : World) (hc : c ≤ 9223372036854775807) : Calls Tryd.prog 9 #[.int .i64 l, .int .i64 c] w fun e w' => e = .returned (.int .i64 (nd l c)) ∧ w' = w := by
  by_cases h0 : c < 1
  · rw [nd_none h0]
    go_enter Tryd.func9, Tryd.ntmps9
    go_wp2_with fail
    go_ret
    exact ⟨rfl, rfl⟩
  · by_cases h1 : l = 1
    · subst h1
      rw [nd_one h0]
      go_enter Tryd.func9, Tryd.ntmps9
      go_wp2_with fail
      go_ret
      exact ⟨rfl, rfl⟩
    · by_cases h2 : l = 2
      · subst h2
        rw [nd_two h0]
        have hq : c.tdiv 2 = c / 2 := Int.tdiv_eq_ediv_of_nonneg (by omega)
        have hb : 0 ≤ c / 2 ∧ c / 2 + 1 ≤ 9223372036854775807 := by omega
        generalize c / 2 = q at *
        go_enter Tryd.func9, Tryd.ntmps9
        go_wp2_with fail
        go_ret
        exact ⟨rfl, rfl⟩
      · by_cases h3 : l = 3
        · subst h3
          rw [nd_all h0]
          go_enter Tryd.func9, Tryd.ntmps9
          go_wp2_with fail
          go_ret
          exact ⟨rfl, rfl⟩
        · rw [nd_no h1 h2 h3]
          have e1 : (l == 1) = false := by simp [h1]
          have e2 : (l == 2) = false := by simp [h2]
          have e3 : (l == 3) = false := by simp [h3]
          go_enter Tryd.func9, Tryd.ntmps9
          go_wp2_with fail
          go_ret
          exact ⟨rfl, rfl⟩
set_option maxRecDepth 100000 in
theorem refNeed_any (l c : Int) (w : World) (hc : c ≤ 9223372036854775807) : Calls Tryd.prog 10 #[.int .i64 l, .int .i64 c] w fun e w' => e = .returned (.int .i64 (nd l c)) ∧ w' = w := by
  by_cases h0 : c < 1
  · rw [nd_none h0]
    go_enter Tryd.func10, Tryd.ntmps10
    go_wp2_with fail
    go_ret
    exact ⟨rfl, rfl⟩
  · by_cases h1 : l = 1
    · subst h1
      rw [nd_one h0]
      go_enter Tryd.func10, Tryd.ntmps10
      go_wp2_with fail
      go_ret
      exact ⟨rfl, rfl⟩
    · by_cases h2 : l = 2
      · subst h2
        rw [nd_two h0]
        have hq : c.tdiv 2 = c / 2 := Int.tdiv_eq_ediv_of_nonneg (by omega)
        have hb : 0 ≤ c / 2 ∧ c / 2 + 1 ≤ 9223372036854775807 := by omega
        generalize c / 2 = q at *
        go_enter Tryd.func10, Tryd.ntmps10
        go_wp2_with fail
        go_ret
        exact ⟨rfl, rfl⟩
      · by_cases h3 : l = 3
        · subst h3
          rw [nd_all h0]
          go_enter Tryd.func10, Tryd.ntmps10
          go_wp2_with fail
          go_ret
          exact ⟨rfl, rfl⟩
        · rw [nd_no h1 h2 h3]
          have e1 : (l == 1) = false := by simp [h1]
          have e2 : (l == 2) = false := by simp [h2]
          have e3 : (l == 3) = false := by simp [h3]
          go_enter Tryd.func10, Tryd.ntmps10
          go_wp2_with fail
          go_ret
          exact ⟨rfl, rfl⟩
set_option maxRecDepth 100000 in
theorem meet_any (a b c : Int) (w : World) (hc : -9223372036854775808 ≤ c ∧ c ≤ 9223372036854775807) : Calls Tryd.prog 13 #[.int .i64 a, .int .i64 b, .int .i64 c] w fun e w' => e = .returned (.bool (mt a b c)) ∧ w' = w := by
  have A := need_any a c w hc.2
  have B := need_any b c w hc.2
  have ba := nd_low a c
  have bb := nd_low b c
  have za := nd_zero b c
  have hB := nd_le b c
  unfold mt
  generalize nd a c = na at *
  generalize nd b c = nb at *
  by_cases h1 : 0 < na
  · by_cases h2 : 0 < nb
    · have hc0 := za h2
      have hB := hB hc0
      by_cases h3 : c - nb < na
      all_goals (go_enter Tryd.func13, Tryd.ntmps13; go_wp2_with (first | (go_at_call 9; refine A.mono ?_; rintro e _ ⟨rfl, hw⟩; obtain rfl := hw.symm; clear hw A) | (go_at_call 9; refine B.mono ?_; rintro e _ ⟨rfl, hw⟩; obtain rfl := hw.symm; clear hw B)); go_ret; exact ⟨ret_bool (by simp [h1, h2, h3]), rfl⟩)
    · go_enter Tryd.func13, Tryd.ntmps13
      go_wp2_with (first | (go_at_call 9; refine A.mono ?_; rintro e _ ⟨rfl, hw⟩; obtain rfl := hw.symm; clear hw A) | (go_at_call 9; refine B.mono ?_; rintro e _ ⟨rfl, hw⟩; obtain rfl := hw.symm; clear hw B))
      go_ret
      exact ⟨ret_bool (by rw [decide_eq_false (show ¬ 0 < nb by omega)]; simp), rfl⟩
  · go_enter Tryd.func13, Tryd.ntmps13
    go_wp2_with (first | (go_at_call 9; refine A.mono ?_; rintro e _ ⟨rfl, hw⟩; obtain rfl := hw.symm; clear hw A) | (go_at_call 9; refine B.mono ?_; rintro e _ ⟨rfl, hw⟩; obtain rfl := hw.symm; clear hw B))
    go_ret
    exact ⟨ret_bool (by rw [decide_eq_false (show ¬ 0 < na by omega)]; simp), rfl⟩
set_option maxRecDepth 100000 in
theorem refMeet_any (a b c : Int) (w : World) (hc : -9223372036854775808 ≤ c ∧ c ≤ 9223372036854775807) : Calls Tryd.prog 14 #[.int .i64 a, .int .i64 b, .int .i64 c] w fun e w' => e = .returned (.bool (mt a b c)) ∧ w' = w := by
  have A := refNeed_any a c w hc.2
  have B := refNeed_any b c w hc.2
  have ba := nd_low a c
  have bb := nd_low b c
  have za := nd_zero b c
  have hB := nd_le b c
  unfold mt
  generalize nd a c = na at *
  generalize nd b c = nb at *
  by_cases h1 : 0 < na
  · by_cases h2 : 0 < nb
    · have hc0 := za h2
      have hB := hB hc0
      by_cases h3 : c - nb < na
      all_goals (go_enter Tryd.func14, Tryd.ntmps14; go_wp2_with (first | (go_at_call 10; refine A.mono ?_; rintro e _ ⟨rfl, hw⟩; obtain rfl := hw.symm; clear hw A) | (go_at_call 10; refine B.mono ?_; rintro e _ ⟨rfl, hw⟩; obtain rfl := hw.symm; clear hw B)); go_ret; exact ⟨ret_bool (by simp [h1, h2, h3]), rfl⟩)
    · go_enter Tryd.func14, Tryd.ntmps14
      go_wp2_with (first | (go_at_call 10; refine A.mono ?_; rintro e _ ⟨rfl, hw⟩; obtain rfl := hw.symm; clear hw A) | (go_at_call 10; refine B.mono ?_; rintro e _ ⟨rfl, hw⟩; obtain rfl := hw.symm; clear hw B))
      go_ret
      exact ⟨ret_bool (by rw [decide_eq_false (show ¬ 0 < nb by omega)]; simp), rfl⟩
  · go_enter Tryd.func14, Tryd.ntmps14
    go_wp2_with (first | (go_at_call 10; refine A.mono ?_; rintro e _ ⟨rfl, hw⟩; obtain rfl := hw.symm; clear hw A) | (go_at_call 10; refine B.mono ?_; rintro e _ ⟨rfl, hw⟩; obtain rfl := hw.symm; clear hw B))
    go_ret
    exact ⟨ret_bool (by rw [decide_eq_false (show ¬ 0 < na by omega)]; simp), rfl⟩

theorem nm_no {l : Int} (h1 : ¬ l = 1) (h2 : ¬ l = 2) (h3 : ¬ l = 3) : nm l = ⟨#[]⟩ := by unfold nm; simp [h1, h2, h3]
set_option maxRecDepth 100000 in
theorem name_any (l : Int) (w : World) (hn : Nms w) : Calls Tryd.prog 11 #[.int .i64 l] w fun e w' => e = .returned (.string (nm l)) ∧ w' = w := by
  have G := good16_any l w
  obtain ⟨n0, n1, n2⟩ := hn
  by_cases h1 : l = 1
  · subst h1
    go_enter Tryd.func11, Tryd.ntmps11
    go_wp2_with (go_at_call 7; refine G.mono ?_; rintro e _ ⟨rfl, hw⟩; obtain rfl := hw.symm; clear hw G)
    go_ret
    exact ⟨rfl, rfl⟩
  · by_cases h2 : l = 2
    · subst h2
      go_enter Tryd.func11, Tryd.ntmps11
      go_wp2_with (go_at_call 7; refine G.mono ?_; rintro e _ ⟨rfl, hw⟩; obtain rfl := hw.symm; clear hw G)
      go_ret
      exact ⟨rfl, rfl⟩
    · by_cases h3 : l = 3
      · subst h3
        go_enter Tryd.func11, Tryd.ntmps11
        go_wp2_with (go_at_call 7; refine G.mono ?_; rintro e _ ⟨rfl, hw⟩; obtain rfl := hw.symm; clear hw G)
        go_ret
        exact ⟨rfl, rfl⟩
      · rw [nm_no h1 h2 h3]
        have e : (decide (1 ≤ l) && decide (l ≤ 3)) = false := by
          by_cases h : 1 ≤ l
          · simp [h]; omega
          · simp [h]
        rw [e] at G
        clear e n0 n1 n2
        go_enter Tryd.func11, Tryd.ntmps11
        go_wp2_with (go_at_call 7; refine G.mono ?_; rintro e _ ⟨rfl, hw⟩; obtain rfl := hw.symm; clear hw G)
        go_ret
        exact ⟨rfl, rfl⟩
set_option maxRecDepth 100000 in
theorem refName_any (l : Int) (w : World) : Calls Tryd.prog 12 #[.int .i64 l] w fun e w' => e = .returned (.string (nm l)) ∧ w' = w := by
  by_cases h1 : l = 1
  · subst h1
    go_enter Tryd.func12, Tryd.ntmps12
    go_wp2_with fail
    go_ret
    exact ⟨rfl, rfl⟩
  · by_cases h2 : l = 2
    · subst h2
      go_enter Tryd.func12, Tryd.ntmps12
      go_wp2_with fail
      go_ret
      exact ⟨rfl, rfl⟩
    · by_cases h3 : l = 3
      · subst h3
        go_enter Tryd.func12, Tryd.ntmps12
        go_wp2_with fail
        go_ret
        exact ⟨rfl, rfl⟩
      · rw [nm_no h1 h2 h3]
        have e1 : (l == 1) = false := by simp [h1]
        have e2 : (l == 2) = false := by simp [h2]
        have e3 : (l == 3) = false := by simp [h3]
        go_enter Tryd.func12, Tryd.ntmps12
        go_wp2_with fail
        go_ret
        exact ⟨rfl, rfl⟩
set_option maxRecDepth 100000 in
theorem lives16_any (w : World) (hn : Nms w) : Calls Tryd.prog 15 #[] w fun e w' => e = .returned (.bool true) ∧ w' = w := by
  have N := need_any 2 3 w (by omega)
  have M1 := meet_any 2 2 3 w (by omega)
  have M2 := meet_any 1 2 3 w (by omega)
  have Q := name_any 3 w hn
  rw [show nd 2 3 = 2 from rfl] at N
  rw [show mt 2 2 3 = true from rfl] at M1
  rw [show mt 1 2 3 = false from rfl] at M2
  rw [show nm 3 = ⟨#[65, 76, 76]⟩ from rfl] at Q
  clear hn
  go_enter Tryd.func15, Tryd.ntmps15
  go_wp2_with (first | (go_at_call 9; refine N.mono ?_; rintro e _ ⟨rfl, hw⟩; obtain rfl := hw.symm; clear hw N) | (go_at_call 13; refine M1.mono ?_; rintro e _ ⟨rfl, hw⟩; obtain rfl := hw.symm; clear hw M1) | (go_at_call 13; refine M2.mono ?_; rintro e _ ⟨rfl, hw⟩; obtain rfl := hw.symm; clear hw M2) | (go_at_call 11; refine Q.mono ?_; rintro e _ ⟨rfl, hw⟩; obtain rfl := hw.symm; clear hw Q))
  go_ret
  exact ⟨rfl, rfl⟩
end Go.Proofs.YtljbaoaglpheoaaDoor

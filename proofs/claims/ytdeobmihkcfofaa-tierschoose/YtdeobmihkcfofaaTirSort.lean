/-
  CONTRACTS: the comparison of two tables (the closure of bySize); the tables' numbers by their sizes (bySize).
-/
import Derived.Test.YtdeobmihkcfofaaTirLow
import Derived.Test.YtdeobmihkcfofaaTirShelf
import Derived.Sort.OwnSortedInts
namespace Go.Proofs.Ytdeobmihkcfofaa
open Go.RowKit Go.Lib Go.Sort

/-- Which of two tables comes first. -/
def cfT (l : List Int) (i j : Nat) : Int := if Lib.compareInt (cs l i) (cs l j) ≠ 0 then Lib.compareInt (cs l i) (cs l j) else Lib.compareInt i j
theorem ltT (l : List Int) (i j : Nat) : decide (cfT l i j < 0) = !leT l j i := by
  unfold cfT Lib.compareInt leT
  generalize cs l i = a
  generalize cs l j = b
  by_cases h1 : a < b
  · have h2 : (a : Int) < (b : Int) := by omega
    have h3 : ¬ (b < a ∨ b = a ∧ j ≤ i) := by omega
    simp [h2, h3]
  · by_cases h2 : b < a
    · have h3 : (b : Int) < (a : Int) := by omega
      have h4 : ¬ (a : Int) < (b : Int) := by omega
      simp [h2, h3, h4]
    · obtain rfl : a = b := by omega
      by_cases h5 : i < j
      · have h6 : (i : Int) < (j : Int) := by omega
        have h7 : ¬ j ≤ i := by omega
        simp [h6, h7]
      · by_cases h8 : j < i
        · have h6 : (j : Int) < (i : Int) := by omega
          have h9 : ¬ (i : Int) < (j : Int) := by omega
          have h7 : j ≤ i := by omega
          simp [h6, h7, h9]
        · obtain rfl : i = j := by omega
          simp
set_option maxRecDepth 100000 in
set_option maxHeartbeats 1000000 in
theorem cmpT_any (pb b o cap : Nat) (l : List Int) (i j : Nat) (w : World) (hp : w.cell? ⟨pb, 0, none⟩ = some (.slice (some ⟨b, o, none⟩) l.length cap)) (hs : ISees w (some ⟨b, o, none⟩) l) (hi : i < l.length) (hj : j < l.length) (hl : l.length ≤ 1000000) :
    Calls Try.prog 18 #[.int .i64 i, .int .i64 j, .pointer (some ⟨pb, 0, none⟩)] w fun e w' => e = .returned (.int .i64 (cfT l i j)) ∧ ∃ q, w' = w.drewN q := by
  have hci : l[i]? = some l[i] := List.getElem?_eq_getElem hi
  have hcj : l[j]? = some l[j] := List.getElem?_eq_getElem hj
  have e1 : cs l i = cz l[i] := by simp [cs, List.getD, hci]
  have e2 : cs l j = cz l[j] := by simp [cs, List.getD, hcj]
  have ci : w.cell? ⟨b, o + i, none⟩ = some (.int .i64 l[i]) := by obtain ⟨b', o', e, h⟩ := hs i _ hci; cases e; exact h
  have cj : w.cell? ⟨b, o + j, none⟩ = some (.int .i64 l[j]) := by obtain ⟨b', o', e, h⟩ := hs j _ hcj; cases e; exact h
  have hiz : (i : Int) < (l.length : Int) := by omega
  have hjz : (j : Int) < (l.length : Int) := by omega
  have hlz : (l.length : Int) ≤ 1000000 := by omega
  have CC : Hid (∀ (x : Int) (w : World), Calls Try.prog 20 #[.int .i64 x] w fun e w' => e = .returned (.int .i64 (cz x : Int)) ∧ w' = w) := counted_any
  have CM : Hid (∀ (x y : Int) (w : World), Calls Try.prog 19 #[.int .i64 x, .int .i64 y] w fun e w' => e = .returned (.int .i64 (Lib.compareInt x y)) ∧ w' = w) := Try.cmp_Compare_int
  unfold cfT
  rw [e1, e2]
  generalize l[i] = x at *
  generalize l[j] = y at *
  generalize hC : Lib.compareInt (cz x) (cz y) = C
  have HC : Hid (Lib.compareInt (cz x) (cz y) = C) := hC
  have HR0 : Hid (∀ K : Int, C = 0 → (if C ≠ 0 then C else K) = K) := fun K h => if_neg (fun h' => h' h)
  have HR1 : Hid (∀ K : Int, ¬ C = 0 → (if C ≠ 0 then C else K) = C) := fun K h => if_pos h
  clear e1 e2 hs hci hcj hC hl
  go_enter Try.func18, Try.ntmps18
  go_wp2_with fail
  go_quiet (first | (go_at_call 20; exact Calls.quiet_of_same (CC.out _ _)) | (go_at_call 19; exact Calls.quiet_of_same (CM.out _ _ _)))
  rw [HC.out]
  by_cases h0 : C = 0
  · have HR : Hid (∀ K : Int, (if C ≠ 0 then C else K) = K) := fun K => HR0.out K h0
    clear HC HR0 HR1
    go_wp2_with (go_at_call 19; refine (CM.out _ _ _).mono ?_; rintro e w1 ⟨rfl, rfl⟩)
    go_ret
    exact ⟨by first | rfl | exact ret_int (HR.out _).symm, _, rfl⟩
  · have HR : Hid (∀ K : Int, (if C ≠ 0 then C else K) = C) := fun K => HR1.out K h0
    clear HC HR0 HR1
    go_wp2_with fail
    go_ret
    exact ⟨by first | rfl | exact ret_int (HR.out _).symm, _, rfl⟩
end Go.Proofs.Ytdeobmihkcfofaa

/-
  CONTRACT: the document's Parse.
-/
import Derived.Test.YtljbaoaglpheoaaDoorLvlParse
namespace Go.Proofs.YtljbaoaglpheoaaDoor
open Go.RowKit

set_option maxRecDepth 100000 in
set_option maxHeartbeats 2000000 in
theorem refParse_any (s : ByteArray) (w : World) (hs : s.size ≤ 10000) : Calls Tryd.prog 17 #[.string s] w fun e w' => e = .returned (.tuple #[.int .i64 (prsN s.data.toList : Int), .bool (decide (prsN s.data.toList ≠ 0))]) ∧ Below w.heap.size w w' := by
  have N1 : Hid (∀ w : World, Calls Tryd.prog 12 #[.int .i64 1] w fun e w' => e = .returned (.string ⟨#[79, 78, 69]⟩) ∧ w' = w) := refName_any 1
  have N2 : Hid (∀ w : World, Calls Tryd.prog 12 #[.int .i64 2] w fun e w' => e = .returned (.string ⟨#[81, 85, 79, 82, 85, 77]⟩) ∧ w' = w) := refName_any 2
  have N3 : Hid (∀ w : World, Calls Tryd.prog 12 #[.int .i64 3] w fun e w' => e = .returned (.string ⟨#[65, 76, 76]⟩) ∧ w' = w) := refName_any 3
  have U := fun w => upper_any s w hs
  have H := prs_cases s.data.toList
  generalize prsN s.data.toList = p at *
  generalize s.data.toList.map upB = u at *
  rcases H with ⟨rfl, rfl⟩ | H
  · have G : Hid (∀ w : World, Calls Tryd.prog 18 #[.string s] w fun e w' => e = .returned (.string ⟨#[79, 78, 69]⟩) ∧ Below w.heap.size w w') := U
    clear U
    go_enter Tryd.func17, Tryd.ntmps17
    go_wp2_with fail
    go_loopw [4] (fun s4 wr => ∃ i : Nat, i ≤ 0 ∧ s4 = .int .i64 ((i : Int) + 1) ∧ Below w.heap.size w wr) (fun s4 _ => 4 - (intOf s4).toNat)
    case atStart => exact ⟨0, by omega, rfl, Below.refl _ _⟩
    case round =>
      obtain ⟨i, hi, rfl, hb⟩ := hrel
      obtain rfl : i = 0 := by omega
      rw [show ((0 : Nat) : Int) + 1 = 1 from rfl]
      go_wp2_with (first | (go_at_call 12; with_reducible (refine (N1.out _).mono ?_); rintro e _ ⟨rfl, hw⟩; obtain rfl := hw.symm; clear hw) | (go_at_call 18; refine (G.out _).mono ?_; rintro e w5 ⟨rfl, hb5⟩))
      go_ret2
      exact ⟨rfl, hb.trans (hb5.mono hb.size)⟩
  rcases H with ⟨rfl, rfl⟩ | H
  · have G : Hid (∀ w : World, Calls Tryd.prog 18 #[.string s] w fun e w' => e = .returned (.string ⟨#[81, 85, 79, 82, 85, 77]⟩) ∧ Below w.heap.size w w') := U
    clear U
    go_enter Tryd.func17, Tryd.ntmps17
    go_wp2_with fail
    go_loopw [4] (fun s4 wr => ∃ i : Nat, i ≤ 1 ∧ s4 = .int .i64 ((i : Int) + 1) ∧ Below w.heap.size w wr) (fun s4 _ => 4 - (intOf s4).toNat)
    case atStart => exact ⟨0, by omega, rfl, Below.refl _ _⟩
    case round =>
      obtain ⟨i, hi, rfl, hb⟩ := hrel
      obtain rfl | rfl : i = 0 ∨ i = 1 := by omega
      · rw [show ((0 : Nat) : Int) + 1 = 1 from rfl]
        go_wp2_with (first | (go_at_call 12; with_reducible (refine (N1.out _).mono ?_); rintro e _ ⟨rfl, hw⟩; obtain rfl := hw.symm; clear hw) | (go_at_call 18; refine (G.out _).mono ?_; rintro e w5 ⟨rfl, hb5⟩))
        go_roundw
        case rel => exact ⟨1, by omega, rfl, hb.trans (hb5.mono hb.size)⟩
        case measure => simp [intOf]
      · rw [show ((1 : Nat) : Int) + 1 = 2 from rfl]
        go_wp2_with (first | (go_at_call 12; with_reducible (refine (N2.out _).mono ?_); rintro e _ ⟨rfl, hw⟩; obtain rfl := hw.symm; clear hw) | (go_at_call 18; refine (G.out _).mono ?_; rintro e w5 ⟨rfl, hb5⟩))
        go_ret2
        exact ⟨rfl, hb.trans (hb5.mono hb.size)⟩
  rcases H with ⟨rfl, rfl⟩ | ⟨rfl, g1, g2, g3⟩
  · have G : Hid (∀ w : World, Calls Tryd.prog 18 #[.string s] w fun e w' => e = .returned (.string ⟨#[65, 76, 76]⟩) ∧ Below w.heap.size w w') := U
    clear U
    go_enter Tryd.func17, Tryd.ntmps17
    go_wp2_with fail
    go_loopw [4] (fun s4 wr => ∃ i : Nat, i ≤ 2 ∧ s4 = .int .i64 ((i : Int) + 1) ∧ Below w.heap.size w wr) (fun s4 _ => 4 - (intOf s4).toNat)
    case atStart => exact ⟨0, by omega, rfl, Below.refl _ _⟩
    case round =>
      obtain ⟨i, hi, rfl, hb⟩ := hrel
      obtain rfl | rfl | rfl : i = 0 ∨ i = 1 ∨ i = 2 := by omega
      · rw [show ((0 : Nat) : Int) + 1 = 1 from rfl]
        go_wp2_with (first | (go_at_call 12; with_reducible (refine (N1.out _).mono ?_); rintro e _ ⟨rfl, hw⟩; obtain rfl := hw.symm; clear hw) | (go_at_call 18; refine (G.out _).mono ?_; rintro e w5 ⟨rfl, hb5⟩))
        go_roundw
        case rel => exact ⟨1, by omega, rfl, hb.trans (hb5.mono hb.size)⟩
        case measure => simp [intOf]
      · rw [show ((1 : Nat) : Int) + 1 = 2 from rfl]
        go_wp2_with (first | (go_at_call 12; with_reducible (refine (N2.out _).mono ?_); rintro e _ ⟨rfl, hw⟩; obtain rfl := hw.symm; clear hw) | (go_at_call 18; refine (G.out _).mono ?_; rintro e w5 ⟨rfl, hb5⟩))
        go_roundw
        case rel => exact ⟨2, by omega, rfl, hb.trans (hb5.mono hb.size)⟩
        case measure => simp [intOf]
      · rw [show ((2 : Nat) : Int) + 1 = 3 from rfl]
        go_wp2_with (first | (go_at_call 12; with_reducible (refine (N3.out _).mono ?_); rintro e _ ⟨rfl, hw⟩; obtain rfl := hw.symm; clear hw) | (go_at_call 18; refine (G.out _).mono ?_; rintro e w5 ⟨rfl, hb5⟩))
        go_ret2
        exact ⟨rfl, hb.trans (hb5.mono hb.size)⟩
  · have G : Hid (∀ w : World, Calls Tryd.prog 18 #[.string s] w fun e w' => e = .returned (.string ⟨u.toArray⟩) ∧ Below w.heap.size w w') := U
    clear U
    have q1 : (([79, 78, 69] : List UInt8) == u) = false := beq_eq_false_iff_ne.2 fun e => g1 e.symm
    have q2 : (([81, 85, 79, 82, 85, 77] : List UInt8) == u) = false := beq_eq_false_iff_ne.2 fun e => g2 e.symm
    have q3 : (([65, 76, 76] : List UInt8) == u) = false := beq_eq_false_iff_ne.2 fun e => g3 e.symm
    go_enter Tryd.func17, Tryd.ntmps17
    go_wp2_with fail
    go_loopw [4] (fun s4 wr => ∃ i : Nat, i ≤ 3 ∧ s4 = .int .i64 ((i : Int) + 1) ∧ Below w.heap.size w wr) (fun s4 _ => 4 - (intOf s4).toNat)
    case atStart => exact ⟨0, by omega, rfl, Below.refl _ _⟩
    case round =>
      obtain ⟨i, hi, rfl, hb⟩ := hrel
      obtain rfl | rfl | rfl | rfl : i = 0 ∨ i = 1 ∨ i = 2 ∨ i = 3 := by omega
      · rw [show ((0 : Nat) : Int) + 1 = 1 from rfl]
        go_wp2_with (first | (go_at_call 12; with_reducible (refine (N1.out _).mono ?_); rintro e _ ⟨rfl, hw⟩; obtain rfl := hw.symm; clear hw) | (go_at_call 18; refine (G.out _).mono ?_; rintro e w5 ⟨rfl, hb5⟩))
        go_roundw
        case rel => exact ⟨1, by omega, rfl, hb.trans (hb5.mono hb.size)⟩
        case measure => simp [intOf]
      · rw [show ((1 : Nat) : Int) + 1 = 2 from rfl]
        go_wp2_with (first | (go_at_call 12; with_reducible (refine (N2.out _).mono ?_); rintro e _ ⟨rfl, hw⟩; obtain rfl := hw.symm; clear hw) | (go_at_call 18; refine (G.out _).mono ?_; rintro e w5 ⟨rfl, hb5⟩))
        go_roundw
        case rel => exact ⟨2, by omega, rfl, hb.trans (hb5.mono hb.size)⟩
        case measure => simp [intOf]
      · rw [show ((2 : Nat) : Int) + 1 = 3 from rfl]
        go_wp2_with (first | (go_at_call 12; with_reducible (refine (N3.out _).mono ?_); rintro e _ ⟨rfl, hw⟩; obtain rfl := hw.symm; clear hw) | (go_at_call 18; refine (G.out _).mono ?_; rintro e w5 ⟨rfl, hb5⟩))
        go_roundw
        case rel => exact ⟨3, by omega, rfl, hb.trans (hb5.mono hb.size)⟩
        case measure => simp [intOf]
      · rw [show ((3 : Nat) : Int) + 1 = 4 from rfl]
        go_wp2_with fail
        go_ret2
        exact ⟨rfl, hb⟩
end Go.Proofs.YtljbaoaglpheoaaDoor

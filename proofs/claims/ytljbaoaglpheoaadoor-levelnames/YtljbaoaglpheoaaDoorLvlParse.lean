/-
  CONTRACTS: Parse, and the document's.
-/
import Derived.Test.YtljbaoaglpheoaaDoorLvlFold
import Derived.Test.YtljbaoaglpheoaaDoorLvlBits
namespace Go.Proofs.YtljbaoaglpheoaaDoor
open Go.RowKit

/-- Which name's letters these are: 0, none. -/
def prsN (l : List UInt8) : Nat := if l.map upB = [79, 78, 69] then 1 else if l.map upB = [81, 85, 79, 82, 85, 77] then 2 else if l.map upB = [65, 76, 76] then 3 else 0
theorem prs_cases (l : List UInt8) : (prsN l = 1 ∧ l.map upB = [79, 78, 69]) ∨ (prsN l = 2 ∧ l.map upB = [81, 85, 79, 82, 85, 77]) ∨ (prsN l = 3 ∧ l.map upB = [65, 76, 76]) ∨
    (prsN l = 0 ∧ l.map upB ≠ [79, 78, 69] ∧ l.map upB ≠ [81, 85, 79, 82, 85, 77] ∧ l.map upB ≠ [65, 76, 76]) := by
  unfold prsN
  by_cases h1 : l.map upB = [79, 78, 69]
  · exact .inl ⟨if_pos h1, h1⟩
  · by_cases h2 : l.map upB = [81, 85, 79, 82, 85, 77]
    · exact .inr (.inl ⟨by rw [if_neg h1, if_pos h2], h2⟩)
    · by_cases h3 : l.map upB = [65, 76, 76]
      · exact .inr (.inr (.inl ⟨by rw [if_neg h1, if_neg h2, if_pos h3], h3⟩))
      · exact .inr (.inr (.inr ⟨by rw [if_neg h1, if_neg h2, if_neg h3], h1, h2, h3⟩))
theorem lett_of {ba : ByteArray} (h : ∀ b ∈ ba.data.toList, 65 ≤ b.toNat ∧ b.toNat ≤ 90 ∧ b.toNat ≠ 75 ∧ b.toNat ≠ 83) : ∀ (j : Nat) b, ba.data.toList[j]? = some b → 65 ≤ b.toNat ∧ b.toNat ≤ 90 ∧ b.toNat ≠ 75 ∧ b.toNat ≠ 83 :=
  fun _ b hb => h b (List.mem_of_getElem? hb)
theorem fold1 (s : ByteArray) (w : World) (hs : s.size ≤ 10000) (hF : FoldL w) : Calls Tryd.prog 20 #[.string s, .string ⟨#[79, 78, 69]⟩] w fun e w' => e = .returned (.bool (foldQ s.data.toList [79, 78, 69])) ∧ Below w.heap.size w w' :=
  fold_any s ⟨#[79, 78, 69]⟩ w hs (by decide) (lett_of (by decide)) hF
theorem fold2 (s : ByteArray) (w : World) (hs : s.size ≤ 10000) (hF : FoldL w) : Calls Tryd.prog 20 #[.string s, .string ⟨#[81, 85, 79, 82, 85, 77]⟩] w fun e w' => e = .returned (.bool (foldQ s.data.toList [81, 85, 79, 82, 85, 77])) ∧ Below w.heap.size w w' :=
  fold_any s ⟨#[81, 85, 79, 82, 85, 77]⟩ w hs (by decide) (lett_of (by decide)) hF
theorem fold3 (s : ByteArray) (w : World) (hs : s.size ≤ 10000) (hF : FoldL w) : Calls Tryd.prog 20 #[.string s, .string ⟨#[65, 76, 76]⟩] w fun e w' => e = .returned (.bool (foldQ s.data.toList [65, 76, 76])) ∧ Below w.heap.size w w' :=
  fold_any s ⟨#[65, 76, 76]⟩ w hs (by decide) (lett_of (by decide)) hF
theorem index16_0 (w : World) : (Instr.index 38 (.agg #[.string ⟨#[79, 78, 69]⟩, .string ⟨#[81, 85, 79, 82, 85, 77]⟩, .string ⟨#[65, 76, 76]⟩]) (.int .i64 0)).run Tryd.prog w = .ok (.string ⟨#[79, 78, 69]⟩) w := by kernel_rfl
theorem index16_1 (w : World) : (Instr.index 38 (.agg #[.string ⟨#[79, 78, 69]⟩, .string ⟨#[81, 85, 79, 82, 85, 77]⟩, .string ⟨#[65, 76, 76]⟩]) (.int .i64 1)).run Tryd.prog w = .ok (.string ⟨#[81, 85, 79, 82, 85, 77]⟩) w := by kernel_rfl
theorem index16_2 (w : World) : (Instr.index 38 (.agg #[.string ⟨#[79, 78, 69]⟩, .string ⟨#[81, 85, 79, 82, 85, 77]⟩, .string ⟨#[65, 76, 76]⟩]) (.int .i64 2)).run Tryd.prog w = .ok (.string ⟨#[65, 76, 76]⟩) w := by kernel_rfl
set_option maxRecDepth 100000 in
set_option maxHeartbeats 2000000 in
theorem parse_any (s : ByteArray) (w : World) (hs : s.size ≤ 10000) (hn : Nms w) (hF : FoldL w) : Calls Tryd.prog 16 #[.string s] w fun e w' => e = .returned (.tuple #[.int .i64 (prsN s.data.toList : Int), .bool (decide (prsN s.data.toList ≠ 0))]) ∧ Below w.heap.size w w' := by
  have F1 := fun wr (hb : Below w.heap.size w wr) => fold1 s wr hs (hF.below hb)
  have F2 := fun wr (hb : Below w.heap.size w wr) => fold2 s wr hs (hF.below hb)
  have F3 := fun wr (hb : Below w.heap.size w wr) => fold3 s wr hs (hF.below hb)
  obtain ⟨n0, n1, n2⟩ := hn
  have X0 := index16_0
  have X1 := index16_1
  have X2 := index16_2
  have H := prs_cases s.data.toList
  unfold foldQ at F1 F2 F3
  generalize prsN s.data.toList = p at *
  generalize s.data.toList.map upB = u at *
  rcases H with ⟨rfl, rfl⟩ | H
  · have G1 : Hid (∀ wr, Below w.heap.size w wr → Calls Tryd.prog 20 #[.string s, .string ⟨#[79, 78, 69]⟩] wr fun e w' => e = .returned (.bool true) ∧ Below wr.heap.size wr w') := by
      have e : decide (([79, 78, 69] : List UInt8) = [79, 78, 69]) = true := by decide
      rw [e] at F1; exact F1
    clear F1 F2 F3
    go_enter Tryd.func16, Tryd.ntmps16
    go_wp2_with fail
    go_loopw [7] (fun s7 wr => ∃ i : Nat, i ≤ 0 ∧ s7 = .int .i64 (i : Int) ∧ Below w.heap.size w wr) (fun s7 _ => 3 - (intOf s7).toNat)
    case atStart => exact ⟨0, by omega, rfl, Below.refl _ _⟩
    case round =>
      obtain ⟨i, hi, rfl, hb⟩ := hrel
      obtain rfl : i = 0 := by omega
      go_wp2_with (go_at_call 20; with_reducible (refine (G1.out _ hb).mono ?_); rintro e w5 ⟨rfl, hb5⟩)
      go_ret2
      exact ⟨rfl, hb.trans (hb5.mono hb.size)⟩
  rcases H with ⟨rfl, rfl⟩ | H
  · have G1 : Hid (∀ wr, Below w.heap.size w wr → Calls Tryd.prog 20 #[.string s, .string ⟨#[79, 78, 69]⟩] wr fun e w' => e = .returned (.bool false) ∧ Below wr.heap.size wr w') := by
      have e : decide (([81, 85, 79, 82, 85, 77] : List UInt8) = [79, 78, 69]) = false := by decide
      rw [e] at F1; exact F1
    have G2 : Hid (∀ wr, Below w.heap.size w wr → Calls Tryd.prog 20 #[.string s, .string ⟨#[81, 85, 79, 82, 85, 77]⟩] wr fun e w' => e = .returned (.bool true) ∧ Below wr.heap.size wr w') := by
      have e : decide (([81, 85, 79, 82, 85, 77] : List UInt8) = [81, 85, 79, 82, 85, 77]) = true := by decide
      rw [e] at F2; exact F2
    clear F1 F2 F3
    go_enter Tryd.func16, Tryd.ntmps16
    go_wp2_with fail
    go_loopw [7] (fun s7 wr => ∃ i : Nat, i ≤ 1 ∧ s7 = .int .i64 (i : Int) ∧ Below w.heap.size w wr) (fun s7 _ => 3 - (intOf s7).toNat)
    case atStart => exact ⟨0, by omega, rfl, Below.refl _ _⟩
    case round =>
      obtain ⟨i, hi, rfl, hb⟩ := hrel
      obtain rfl | rfl : i = 0 ∨ i = 1 := by omega
      · go_wp2_with (go_at_call 20; with_reducible (refine (G1.out _ hb).mono ?_); rintro e w5 ⟨rfl, hb5⟩)
        go_roundw
        case rel => exact ⟨1, by omega, rfl, hb.trans (hb5.mono hb.size)⟩
        case measure => simp [intOf]
      · go_wp2_with (go_at_call 20; with_reducible (refine (G2.out _ hb).mono ?_); rintro e w5 ⟨rfl, hb5⟩)
        go_ret2
        exact ⟨rfl, hb.trans (hb5.mono hb.size)⟩
  rcases H with ⟨rfl, rfl⟩ | ⟨rfl, g1, g2, g3⟩
  · have G1 : Hid (∀ wr, Below w.heap.size w wr → Calls Tryd.prog 20 #[.string s, .string ⟨#[79, 78, 69]⟩] wr fun e w' => e = .returned (.bool false) ∧ Below wr.heap.size wr w') := by
      have e : decide (([65, 76, 76] : List UInt8) = [79, 78, 69]) = false := by decide
      rw [e] at F1; exact F1
    have G2 : Hid (∀ wr, Below w.heap.size w wr → Calls Tryd.prog 20 #[.string s, .string ⟨#[81, 85, 79, 82, 85, 77]⟩] wr fun e w' => e = .returned (.bool false) ∧ Below wr.heap.size wr w') := by
      have e : decide (([65, 76, 76] : List UInt8) = [81, 85, 79, 82, 85, 77]) = false := by decide
      rw [e] at F2; exact F2
    have G3 : Hid (∀ wr, Below w.heap.size w wr → Calls Tryd.prog 20 #[.string s, .string ⟨#[65, 76, 76]⟩] wr fun e w' => e = .returned (.bool true) ∧ Below wr.heap.size wr w') := by
      have e : decide (([65, 76, 76] : List UInt8) = [65, 76, 76]) = true := by decide
      rw [e] at F3; exact F3
    clear F1 F2 F3
    go_enter Tryd.func16, Tryd.ntmps16
    go_wp2_with fail
    go_loopw [7] (fun s7 wr => ∃ i : Nat, i ≤ 2 ∧ s7 = .int .i64 (i : Int) ∧ Below w.heap.size w wr) (fun s7 _ => 3 - (intOf s7).toNat)
    case atStart => exact ⟨0, by omega, rfl, Below.refl _ _⟩
    case round =>
      obtain ⟨i, hi, rfl, hb⟩ := hrel
      obtain rfl | rfl | rfl : i = 0 ∨ i = 1 ∨ i = 2 := by omega
      · go_wp2_with (go_at_call 20; with_reducible (refine (G1.out _ hb).mono ?_); rintro e w5 ⟨rfl, hb5⟩)
        go_roundw
        case rel => exact ⟨1, by omega, rfl, hb.trans (hb5.mono hb.size)⟩
        case measure => simp [intOf]
      · go_wp2_with (go_at_call 20; with_reducible (refine (G2.out _ hb).mono ?_); rintro e w5 ⟨rfl, hb5⟩)
        go_roundw
        case rel => exact ⟨2, by omega, rfl, hb.trans (hb5.mono hb.size)⟩
        case measure => simp [intOf]
      · go_wp2_with (go_at_call 20; with_reducible (refine (G3.out _ hb).mono ?_); rintro e w5 ⟨rfl, hb5⟩)
        go_ret2
        exact ⟨rfl, hb.trans (hb5.mono hb.size)⟩
  · have G1 : Hid (∀ wr, Below w.heap.size w wr → Calls Tryd.prog 20 #[.string s, .string ⟨#[79, 78, 69]⟩] wr fun e w' => e = .returned (.bool false) ∧ Below wr.heap.size wr w') := by
      have e : decide ((u : List UInt8) = [79, 78, 69]) = false := decide_eq_false g1
      rw [e] at F1; exact F1
    have G2 : Hid (∀ wr, Below w.heap.size w wr → Calls Tryd.prog 20 #[.string s, .string ⟨#[81, 85, 79, 82, 85, 77]⟩] wr fun e w' => e = .returned (.bool false) ∧ Below wr.heap.size wr w') := by
      have e : decide ((u : List UInt8) = [81, 85, 79, 82, 85, 77]) = false := decide_eq_false g2
      rw [e] at F2; exact F2
    have G3 : Hid (∀ wr, Below w.heap.size w wr → Calls Tryd.prog 20 #[.string s, .string ⟨#[65, 76, 76]⟩] wr fun e w' => e = .returned (.bool false) ∧ Below wr.heap.size wr w') := by
      have e : decide ((u : List UInt8) = [65, 76, 76]) = false := decide_eq_false g3
      rw [e] at F3; exact F3
    clear F1 F2 F3
    go_enter Tryd.func16, Tryd.ntmps16
    go_wp2_with fail
    go_loopw [7] (fun s7 wr => ∃ i : Nat, i ≤ 3 ∧ s7 = .int .i64 (i : Int) ∧ Below w.heap.size w wr) (fun s7 _ => 3 - (intOf s7).toNat)
    case atStart => exact ⟨0, by omega, rfl, Below.refl _ _⟩
    case round =>
      obtain ⟨i, hi, rfl, hb⟩ := hrel
      obtain rfl | rfl | rfl | rfl : i = 0 ∨ i = 1 ∨ i = 2 ∨ i = 3 := by omega
      · go_wp2_with (go_at_call 20; with_reducible (refine (G1.out _ hb).mono ?_); rintro e w5 ⟨rfl, hb5⟩)
        go_roundw
        case rel => exact ⟨1, by omega, rfl, hb.trans (hb5.mono hb.size)⟩
        case measure => simp [intOf]
      · go_wp2_with (go_at_call 20; with_reducible (refine (G2.out _ hb).mono ?_); rintro e w5 ⟨rfl, hb5⟩)
        go_roundw
        case rel => exact ⟨2, by omega, rfl, hb.trans (hb5.mono hb.size)⟩
        case measure => simp [intOf]
      · go_wp2_with (go_at_call 20; with_reducible (refine (G3.out _ hb).mono ?_); rintro e w5 ⟨rfl, hb5⟩)
        go_roundw
        case rel => exact ⟨3, by omega, rfl, hb.trans (hb5.mono hb.size)⟩
        case measure => simp [intOf]
      · go_wp2_with fail
        go_ret2
        exact ⟨rfl, hb⟩
end Go.Proofs.YtljbaoaglpheoaaDoor

/-
  THE LAW LevelNames: the walk.
-/
import Derived.Test.YtljbaoaglpheoaaDoorLvlParseR
import Derived.Test.YtljbaoaglpheoaaDoorLvlDoor
namespace Go.Proofs.YtljbaoaglpheoaaDoor.levelNames
open Go.RowKit

theorem foldT_low : ∀ c, c < 91 → 65 ≤ c → c ≠ 75 → c ≠ 83 → foldT.getD c 0 = (c : Int) + 32 ∧ foldT.getD (c + 32) 0 = (c : Int) := by decide +kernel
theorem foldL_of {w : World} (h : Lib.TabIs Tryd.prog w "unicode.asciiFold" .u16 foldT) : FoldL w := by
  intro c h1 h2 h3 h4
  have e := foldT_low c (by omega) h1 h3 h4
  have hl : foldT.length = 128 := by decide +kernel
  rw [h.cell gFold c (by omega), h.cell gFold (c + 32) (by omega), e.1, e.2]
  exact ⟨rfl, rfl⟩
set_option maxRecDepth 100000 in
set_option maxHeartbeats 2000000 in
theorem walk (s : ByteArray) (w : World) (hs : s.size ≤ 140737488351232) (hn : Nms w) (hT : Lib.TabIs Tryd.prog w "unicode.asciiFold" .u16 foldT) :
    Calls Tryd.prog 4 #[.string s] w fun e w' => e = .returned (.bool true) ∧ Below w.heap.size w w' := by
  have hF : FoldL w := foldL_of hT
  have L : Hid (∀ wr, Below w.heap.size w wr → Calls Tryd.prog 15 #[] wr fun e w' => e = .returned (.bool true) ∧ w' = wr) := fun wr hb => lives16_any wr (hn.below hb)
  have N1 : Hid (∀ wr, Below w.heap.size w wr → Calls Tryd.prog 11 #[.int .i64 1] wr fun e w' => e = .returned (.string ⟨#[79, 78, 69]⟩) ∧ w' = wr) := fun wr hb => name_any 1 wr (hn.below hb)
  have Q1 : Hid (∀ wr, Below w.heap.size w wr → Calls Tryd.prog 16 #[.string ⟨#[79, 78, 69]⟩] wr fun e w' => e = .returned (.tuple #[.int .i64 1, .bool true]) ∧ Below wr.heap.size wr w') := fun wr hb => parse_any ⟨#[79, 78, 69]⟩ wr (by decide) (hn.below hb) (hF.below hb)
  have N2 : Hid (∀ wr, Below w.heap.size w wr → Calls Tryd.prog 11 #[.int .i64 2] wr fun e w' => e = .returned (.string ⟨#[81, 85, 79, 82, 85, 77]⟩) ∧ w' = wr) := fun wr hb => name_any 2 wr (hn.below hb)
  have Q2 : Hid (∀ wr, Below w.heap.size w wr → Calls Tryd.prog 16 #[.string ⟨#[81, 85, 79, 82, 85, 77]⟩] wr fun e w' => e = .returned (.tuple #[.int .i64 2, .bool true]) ∧ Below wr.heap.size wr w') := fun wr hb => parse_any ⟨#[81, 85, 79, 82, 85, 77]⟩ wr (by decide) (hn.below hb) (hF.below hb)
  have N3 : Hid (∀ wr, Below w.heap.size w wr → Calls Tryd.prog 11 #[.int .i64 3] wr fun e w' => e = .returned (.string ⟨#[65, 76, 76]⟩) ∧ w' = wr) := fun wr hb => name_any 3 wr (hn.below hb)
  have Q3 : Hid (∀ wr, Below w.heap.size w wr → Calls Tryd.prog 16 #[.string ⟨#[65, 76, 76]⟩] wr fun e w' => e = .returned (.tuple #[.int .i64 3, .bool true]) ∧ Below wr.heap.size wr w') := fun wr hb => parse_any ⟨#[65, 76, 76]⟩ wr (by decide) (hn.below hb) (hF.below hb)
  have P0 := fun (h : s.size ≤ 10000) wr (hb : Below w.heap.size w wr) => parse_any s wr h (hn.below hb) (hF.below hb)
  have R0 := fun (h : s.size ≤ 10000) wr => refParse_any s wr h
  have U0 := fun (h : s.size ≤ 10000) wr => upper_any s wr h
  have H := prs_cases s.data.toList
  clear hn hT hF
  by_cases hbig : 10000 < s.size
  · have i1 : (10000 : Int) < (s.size : Int) := by omega
    clear P0 R0 U0 H hs hbig
    go_enter Tryd.func4, Tryd.ntmps4
    go_wp2_with (go_at_call 15; refine (L.out _ (Below.refl _ _)).mono ?_; rintro e _ ⟨rfl, hw⟩; obtain rfl := hw.symm; clear hw)
    go_ret
    exact ⟨rfl, Below.refl _ _⟩
  · have i1 : ¬ (10000 : Int) < (s.size : Int) := by omega
    have P1 := P0 (by omega)
    have R1 := R0 (by omega)
    have U1 := U0 (by omega)
    clear P0 R0 U0 hs hbig
    generalize prsN s.data.toList = p at *
    generalize s.data.toList.map upB = u at *
    rcases H with ⟨rfl, rfl⟩ | H
    · have P : Hid (∀ wr, Below w.heap.size w wr → Calls Tryd.prog 16 #[.string s] wr fun e w' => e = .returned (.tuple #[.int .i64 1, .bool true]) ∧ Below wr.heap.size wr w') := P1
      have R : Hid (∀ wr : World, Calls Tryd.prog 17 #[.string s] wr fun e w' => e = .returned (.tuple #[.int .i64 1, .bool true]) ∧ Below wr.heap.size wr w') := R1
      have G : Hid (∀ wr : World, Calls Tryd.prog 18 #[.string s] wr fun e w' => e = .returned (.string ⟨#[79, 78, 69]⟩) ∧ Below wr.heap.size wr w') := U1
      clear P1 R1 U1
      go_enter Tryd.func4, Tryd.ntmps4
      go_wp2_with fail
      refine (P.out _ (Below.refl _ _)).mono ?_
      rintro e w1 ⟨rfl, hb1⟩
      go_wp2_with fail
      refine (R.out _).mono ?_
      rintro e w2 ⟨rfl, hb2⟩
      have hB2 := hb1.trans (hb2.mono hb1.size)
      clear hb2 hb1
      go_wp2_with (go_at_call 11; refine (N1.out _ hB2).mono ?_; rintro e _ ⟨rfl, hw⟩; obtain rfl := hw.symm; clear hw)
      refine (G.out _).mono ?_
      rintro e w3 ⟨rfl, hb3⟩
      have HB := hB2.trans (hb3.mono hB2.size)
      clear hb3
      go_wp2_with fail
      go_loopw [7] (fun s7 wr => ∃ i : Nat, i ≤ 3 ∧ s7 = .int .i64 ((i : Int) + 1) ∧ Below w.heap.size w wr) (fun s7 _ => 4 - (intOf s7).toNat)
      case atStart => exact ⟨0, by omega, rfl, HB⟩
      case round =>
        obtain ⟨i, hi, rfl, hb⟩ := hrel
        obtain rfl | rfl | rfl | rfl : i = 0 ∨ i = 1 ∨ i = 2 ∨ i = 3 := by omega
        · rw [show ((0 : Nat) : Int) + 1 = 1 from rfl]
          go_wp2_with (first | (go_at_call 11; with_reducible (refine (N1.out _ hb).mono ?_); rintro e _ ⟨rfl, hw⟩; obtain rfl := hw.symm; clear hw) | (go_at_call 16; with_reducible (refine (Q1.out _ hb).mono ?_); rintro e w5 ⟨rfl, hb5⟩))
          go_roundw
          case rel => exact ⟨1, by omega, rfl, hb.trans (hb5.mono hb.size)⟩
          case measure => simp [intOf]
        · rw [show ((1 : Nat) : Int) + 1 = 2 from rfl]
          go_wp2_with (first | (go_at_call 11; with_reducible (refine (N2.out _ hb).mono ?_); rintro e _ ⟨rfl, hw⟩; obtain rfl := hw.symm; clear hw) | (go_at_call 16; with_reducible (refine (Q2.out _ hb).mono ?_); rintro e w5 ⟨rfl, hb5⟩))
          go_roundw
          case rel => exact ⟨2, by omega, rfl, hb.trans (hb5.mono hb.size)⟩
          case measure => simp [intOf]
        · rw [show ((2 : Nat) : Int) + 1 = 3 from rfl]
          go_wp2_with (first | (go_at_call 11; with_reducible (refine (N3.out _ hb).mono ?_); rintro e _ ⟨rfl, hw⟩; obtain rfl := hw.symm; clear hw) | (go_at_call 16; with_reducible (refine (Q3.out _ hb).mono ?_); rintro e w5 ⟨rfl, hb5⟩))
          go_roundw
          case rel => exact ⟨3, by omega, rfl, hb.trans (hb5.mono hb.size)⟩
          case measure => simp [intOf]
        · rw [show ((3 : Nat) : Int) + 1 = 4 from rfl]
          go_wp2_with (go_at_call 15; refine (L.out _ hb).mono ?_; rintro e _ ⟨rfl, hw⟩; obtain rfl := hw.symm; clear hw)
          go_ret
          exact ⟨rfl, hb⟩
    rcases H with ⟨rfl, rfl⟩ | H
    · have P : Hid (∀ wr, Below w.heap.size w wr → Calls Tryd.prog 16 #[.string s] wr fun e w' => e = .returned (.tuple #[.int .i64 2, .bool true]) ∧ Below wr.heap.size wr w') := P1
      have R : Hid (∀ wr : World, Calls Tryd.prog 17 #[.string s] wr fun e w' => e = .returned (.tuple #[.int .i64 2, .bool true]) ∧ Below wr.heap.size wr w') := R1
      have G : Hid (∀ wr : World, Calls Tryd.prog 18 #[.string s] wr fun e w' => e = .returned (.string ⟨#[81, 85, 79, 82, 85, 77]⟩) ∧ Below wr.heap.size wr w') := U1
      clear P1 R1 U1
      go_enter Tryd.func4, Tryd.ntmps4
      go_wp2_with fail
      refine (P.out _ (Below.refl _ _)).mono ?_
      rintro e w1 ⟨rfl, hb1⟩
      go_wp2_with fail
      refine (R.out _).mono ?_
      rintro e w2 ⟨rfl, hb2⟩
      have hB2 := hb1.trans (hb2.mono hb1.size)
      clear hb2 hb1
      go_wp2_with (go_at_call 11; refine (N2.out _ hB2).mono ?_; rintro e _ ⟨rfl, hw⟩; obtain rfl := hw.symm; clear hw)
      refine (G.out _).mono ?_
      rintro e w3 ⟨rfl, hb3⟩
      have HB := hB2.trans (hb3.mono hB2.size)
      clear hb3
      go_wp2_with fail
      go_loopw [7] (fun s7 wr => ∃ i : Nat, i ≤ 3 ∧ s7 = .int .i64 ((i : Int) + 1) ∧ Below w.heap.size w wr) (fun s7 _ => 4 - (intOf s7).toNat)
      case atStart => exact ⟨0, by omega, rfl, HB⟩
      case round =>
        obtain ⟨i, hi, rfl, hb⟩ := hrel
        obtain rfl | rfl | rfl | rfl : i = 0 ∨ i = 1 ∨ i = 2 ∨ i = 3 := by omega
        · rw [show ((0 : Nat) : Int) + 1 = 1 from rfl]
          go_wp2_with (first | (go_at_call 11; with_reducible (refine (N1.out _ hb).mono ?_); rintro e _ ⟨rfl, hw⟩; obtain rfl := hw.symm; clear hw) | (go_at_call 16; with_reducible (refine (Q1.out _ hb).mono ?_); rintro e w5 ⟨rfl, hb5⟩))
          go_roundw
          case rel => exact ⟨1, by omega, rfl, hb.trans (hb5.mono hb.size)⟩
          case measure => simp [intOf]
        · rw [show ((1 : Nat) : Int) + 1 = 2 from rfl]
          go_wp2_with (first | (go_at_call 11; with_reducible (refine (N2.out _ hb).mono ?_); rintro e _ ⟨rfl, hw⟩; obtain rfl := hw.symm; clear hw) | (go_at_call 16; with_reducible (refine (Q2.out _ hb).mono ?_); rintro e w5 ⟨rfl, hb5⟩))
          go_roundw
          case rel => exact ⟨2, by omega, rfl, hb.trans (hb5.mono hb.size)⟩
          case measure => simp [intOf]
        · rw [show ((2 : Nat) : Int) + 1 = 3 from rfl]
          go_wp2_with (first | (go_at_call 11; with_reducible (refine (N3.out _ hb).mono ?_); rintro e _ ⟨rfl, hw⟩; obtain rfl := hw.symm; clear hw) | (go_at_call 16; with_reducible (refine (Q3.out _ hb).mono ?_); rintro e w5 ⟨rfl, hb5⟩))
          go_roundw
          case rel => exact ⟨3, by omega, rfl, hb.trans (hb5.mono hb.size)⟩
          case measure => simp [intOf]
        · rw [show ((3 : Nat) : Int) + 1 = 4 from rfl]
          go_wp2_with (go_at_call 15; refine (L.out _ hb).mono ?_; rintro e _ ⟨rfl, hw⟩; obtain rfl := hw.symm; clear hw)
          go_ret
          exact ⟨rfl, hb⟩
    rcases H with ⟨rfl, rfl⟩ | ⟨rfl, -, -, -⟩
    · have P : Hid (∀ wr, Below w.heap.size w wr → Calls Tryd.prog 16 #[.string s] wr fun e w' => e = .returned (.tuple #[.int .i64 3, .bool true]) ∧ Below wr.heap.size wr w') := P1
      have R : Hid (∀ wr : World, Calls Tryd.prog 17 #[.string s] wr fun e w' => e = .returned (.tuple #[.int .i64 3, .bool true]) ∧ Below wr.heap.size wr w') := R1
      have G : Hid (∀ wr : World, Calls Tryd.prog 18 #[.string s] wr fun e w' => e = .returned (.string ⟨#[65, 76, 76]⟩) ∧ Below wr.heap.size wr w') := U1
      clear P1 R1 U1
      go_enter Tryd.func4, Tryd.ntmps4
      go_wp2_with fail
      refine (P.out _ (Below.refl _ _)).mono ?_
      rintro e w1 ⟨rfl, hb1⟩
      go_wp2_with fail
      refine (R.out _).mono ?_
      rintro e w2 ⟨rfl, hb2⟩
      have hB2 := hb1.trans (hb2.mono hb1.size)
      clear hb2 hb1
      go_wp2_with (go_at_call 11; refine (N3.out _ hB2).mono ?_; rintro e _ ⟨rfl, hw⟩; obtain rfl := hw.symm; clear hw)
      refine (G.out _).mono ?_
      rintro e w3 ⟨rfl, hb3⟩
      have HB := hB2.trans (hb3.mono hB2.size)
      clear hb3
      go_wp2_with fail
      go_loopw [7] (fun s7 wr => ∃ i : Nat, i ≤ 3 ∧ s7 = .int .i64 ((i : Int) + 1) ∧ Below w.heap.size w wr) (fun s7 _ => 4 - (intOf s7).toNat)
      case atStart => exact ⟨0, by omega, rfl, HB⟩
      case round =>
        obtain ⟨i, hi, rfl, hb⟩ := hrel
        obtain rfl | rfl | rfl | rfl : i = 0 ∨ i = 1 ∨ i = 2 ∨ i = 3 := by omega
        · rw [show ((0 : Nat) : Int) + 1 = 1 from rfl]
          go_wp2_with (first | (go_at_call 11; with_reducible (refine (N1.out _ hb).mono ?_); rintro e _ ⟨rfl, hw⟩; obtain rfl := hw.symm; clear hw) | (go_at_call 16; with_reducible (refine (Q1.out _ hb).mono ?_); rintro e w5 ⟨rfl, hb5⟩))
          go_roundw
          case rel => exact ⟨1, by omega, rfl, hb.trans (hb5.mono hb.size)⟩
          case measure => simp [intOf]
        · rw [show ((1 : Nat) : Int) + 1 = 2 from rfl]
          go_wp2_with (first | (go_at_call 11; with_reducible (refine (N2.out _ hb).mono ?_); rintro e _ ⟨rfl, hw⟩; obtain rfl := hw.symm; clear hw) | (go_at_call 16; with_reducible (refine (Q2.out _ hb).mono ?_); rintro e w5 ⟨rfl, hb5⟩))
          go_roundw
          case rel => exact ⟨2, by omega, rfl, hb.trans (hb5.mono hb.size)⟩
          case measure => simp [intOf]
        · rw [show ((2 : Nat) : Int) + 1 = 3 from rfl]
          go_wp2_with (first | (go_at_call 11; with_reducible (refine (N3.out _ hb).mono ?_); rintro e _ ⟨rfl, hw⟩; obtain rfl := hw.symm; clear hw) | (go_at_call 16; with_reducible (refine (Q3.out _ hb).mono ?_); rintro e w5 ⟨rfl, hb5⟩))
          go_roundw
          case rel => exact ⟨3, by omega, rfl, hb.trans (hb5.mono hb.size)⟩
          case measure => simp [intOf]
        · rw [show ((3 : Nat) : Int) + 1 = 4 from rfl]
          go_wp2_with (go_at_call 15; refine (L.out _ hb).mono ?_; rintro e _ ⟨rfl, hw⟩; obtain rfl := hw.symm; clear hw)
          go_ret
          exact ⟨rfl, hb⟩
    · have P : Hid (∀ wr, Below w.heap.size w wr → Calls Tryd.prog 16 #[.string s] wr fun e w' => e = .returned (.tuple #[.int .i64 0, .bool false]) ∧ Below wr.heap.size wr w') := P1
      have R : Hid (∀ wr : World, Calls Tryd.prog 17 #[.string s] wr fun e w' => e = .returned (.tuple #[.int .i64 0, .bool false]) ∧ Below wr.heap.size wr w') := R1
      clear P1 R1 U1
      go_enter Tryd.func4, Tryd.ntmps4
      go_wp2_with fail
      refine (P.out _ (Below.refl _ _)).mono ?_
      rintro e w1 ⟨rfl, hb1⟩
      go_wp2_with fail
      refine (R.out _).mono ?_
      rintro e w2 ⟨rfl, hb2⟩
      have hB2 := hb1.trans (hb2.mono hb1.size)
      clear hb2 hb1
      have HB := hB2
      go_wp2_with fail
      go_loopw [7] (fun s7 wr => ∃ i : Nat, i ≤ 3 ∧ s7 = .int .i64 ((i : Int) + 1) ∧ Below w.heap.size w wr) (fun s7 _ => 4 - (intOf s7).toNat)
      case atStart => exact ⟨0, by omega, rfl, HB⟩
      case round =>
        obtain ⟨i, hi, rfl, hb⟩ := hrel
        obtain rfl | rfl | rfl | rfl : i = 0 ∨ i = 1 ∨ i = 2 ∨ i = 3 := by omega
        · rw [show ((0 : Nat) : Int) + 1 = 1 from rfl]
          go_wp2_with (first | (go_at_call 11; with_reducible (refine (N1.out _ hb).mono ?_); rintro e _ ⟨rfl, hw⟩; obtain rfl := hw.symm; clear hw) | (go_at_call 16; with_reducible (refine (Q1.out _ hb).mono ?_); rintro e w5 ⟨rfl, hb5⟩))
          go_roundw
          case rel => exact ⟨1, by omega, rfl, hb.trans (hb5.mono hb.size)⟩
          case measure => simp [intOf]
        · rw [show ((1 : Nat) : Int) + 1 = 2 from rfl]
          go_wp2_with (first | (go_at_call 11; with_reducible (refine (N2.out _ hb).mono ?_); rintro e _ ⟨rfl, hw⟩; obtain rfl := hw.symm; clear hw) | (go_at_call 16; with_reducible (refine (Q2.out _ hb).mono ?_); rintro e w5 ⟨rfl, hb5⟩))
          go_roundw
          case rel => exact ⟨2, by omega, rfl, hb.trans (hb5.mono hb.size)⟩
          case measure => simp [intOf]
        · rw [show ((2 : Nat) : Int) + 1 = 3 from rfl]
          go_wp2_with (first | (go_at_call 11; with_reducible (refine (N3.out _ hb).mono ?_); rintro e _ ⟨rfl, hw⟩; obtain rfl := hw.symm; clear hw) | (go_at_call 16; with_reducible (refine (Q3.out _ hb).mono ?_); rintro e w5 ⟨rfl, hb5⟩))
          go_roundw
          case rel => exact ⟨3, by omega, rfl, hb.trans (hb5.mono hb.size)⟩
          case measure => simp [intOf]
        · rw [show ((3 : Nat) : Int) + 1 = 4 from rfl]
          go_wp2_with (go_at_call 15; refine (L.out _ hb).mono ?_; rintro e _ ⟨rfl, hw⟩; obtain rfl := hw.symm; clear hw)
          go_ret
          exact ⟨rfl, hb⟩
end Go.Proofs.YtljbaoaglpheoaaDoor.levelNames

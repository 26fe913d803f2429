/-
  CONTRACT: the document's examples (lives).
-/
import Derived.Test.YtajebjkpmbehgaaGreatDoorLexLex
import Derived.Test.YtajebjkpmbehgaaGreatDoorLexQuote
namespace Go.Proofs.YtajebjkpmbehgaaGreatDoor
open Go.RowKit

theorem lex_r : lexT [114, 62, 61, 45, 53] = (some [⟨3, [114], 0, 0, [], 0, 1⟩, ⟨1, [62, 61], 0, 0, [], 1, 3⟩, ⟨4, [], 1, -5, [], 3, 5⟩, ⟨0, [], 0, 0, [], 5, 5⟩], 0, 0) := by decide +kernel
theorem lex_a : lexT [97, 32, 63, 32, 98] = (none, 2, 11) := by decide +kernel
theorem sel_low : ∀ b ∈ [(83 : UInt8), 101, 108, 101, 99, 116], b.toNat < 128 := by decide
theorem wd_sel : isWd [83, 101, 108, 101, 99, 116] = true := by decide +kernel
theorem quo_it : quT [105, 116, 39, 115, 32, 53, 37] = [39, 105, 116, 37, 50, 55, 115, 32, 53, 37, 50, 53, 39] := by decide +kernel
set_option maxRecDepth 100000 in
set_option maxHeartbeats 4000000 in
theorem lives18_any (w : World) (he : EnvL w) : Calls Tryz.prog 8 #[] w fun e w' => e = .returned (.bool true) ∧ Below w.heap.size w w' := by
  have C1 : Calls Tryz.prog 9 #[.string ⟨#[114, 62, 61, 45, 53]⟩] w fun e w' => ∃ g cap, e = .returned (.tuple #[.slice (some ⟨g, 0, none⟩) 4 cap, .int .i64 0, .int .i64 0]) ∧ (w'.cell? ⟨g, 0, none⟩ = some (.int .i64 3) ∧ w'.cell? ⟨g, 12, none⟩ = some (.int .i64 1) ∧ w'.cell? ⟨g, 8, none⟩ = some (.string ⟨#[62, 61]⟩) ∧ w'.cell? ⟨g, 17, none⟩ = some (.int .i64 (-5)) ∧ w'.cell? ⟨g, 26, none⟩ = some (.int .i64 5)) ∧ Below w.heap.size w w' := by
    refine (lex_any ⟨#[114, 62, 61, 45, 53]⟩ w he).mono ?_
    rintro e w' ⟨ao, cap, rfl, hT, -, hB⟩
    have el : (⟨#[114, 62, 61, 45, 53]⟩ : ByteArray).data.toList = [114, 62, 61, 45, 53] := rfl
    rw [el, lex_r] at hT ⊢
    obtain ⟨g, rfl, h0⟩ := hT 0 _ rfl
    obtain ⟨g1, e1, h1⟩ := hT 1 _ rfl
    obtain ⟨g2, e2, h2⟩ := hT 2 _ rfl
    obtain ⟨g3, e3, h3⟩ := hT 3 _ rfl
    cases e1
    cases e2
    cases e3
    exact ⟨g, cap, rfl, ⟨h0 0 _ rfl, h1 5 _ rfl, h1 1 _ rfl, h2 3 _ rfl, h3 5 _ rfl⟩, hB⟩
  have C2 : ∀ wr, Below w.heap.size w wr → Calls Tryz.prog 9 #[.string ⟨#[97, 32, 63, 32, 98]⟩] wr fun e w' => e = .returned (.tuple #[.slice none 0 0, .int .i64 2, .int .i64 11]) ∧ Below wr.heap.size wr w' := fun wr hb => by
    refine (lex_err ⟨#[97, 32, 63, 32, 98]⟩ wr (he.below hb) lex_a).mono ?_
    rintro e w' ⟨rfl, h⟩
    exact ⟨rfl, h⟩
  have C3 : ∀ wr, Below w.heap.size w wr → Calls Tryz.prog 14 #[.string ⟨#[83, 101, 108, 101, 99, 116]⟩] wr fun e w' => e = .returned (.bool true) ∧ w' = wr := fun wr hb => by
    have := wordL_any ⟨#[83, 101, 108, 101, 99, 116]⟩ wr (by decide) (fun j b hb => by
      have hb2 : b ∈ [(83 : UInt8), 101, 108, 101, 99, 116] := List.mem_of_getElem? hb
      exact sel_low b hb2) (he.below hb).wds
    have el : (⟨#[83, 101, 108, 101, 99, 116]⟩ : ByteArray).data.toList = [83, 101, 108, 101, 99, 116] := rfl
    rw [el, wd_sel] at this
    exact this
  have C4 : ∀ wr, Calls Tryz.prog 15 #[.string ⟨#[105, 116, 39, 115, 32, 53, 37]⟩] wr fun e w' => e = .returned (.string ⟨#[39, 105, 116, 37, 50, 55, 115, 32, 53, 37, 50, 53, 39]⟩) ∧ Below wr.heap.size wr w' := fun wr => by
    have := quote_any ⟨#[105, 116, 39, 115, 32, 53, 37]⟩ wr (by decide)
    have el : (⟨#[105, 116, 39, 115, 32, 53, 37]⟩ : ByteArray).data.toList = [105, 116, 39, 115, 32, 53, 37] := rfl
    rw [el, quo_it] at this
    exact this
  have HC : Hid (∀ wr w2 g, (wr.cell? ⟨g, 0, none⟩ = some (.int .i64 3) ∧ wr.cell? ⟨g, 12, none⟩ = some (.int .i64 1) ∧ wr.cell? ⟨g, 8, none⟩ = some (.string ⟨#[62, 61]⟩) ∧ wr.cell? ⟨g, 17, none⟩ = some (.int .i64 (-5)) ∧ wr.cell? ⟨g, 26, none⟩ = some (.int .i64 5)) → Below wr.heap.size wr w2 → w2.cell? ⟨g, 0, none⟩ = some (.int .i64 3) ∧ w2.cell? ⟨g, 12, none⟩ = some (.int .i64 1) ∧ w2.cell? ⟨g, 8, none⟩ = some (.string ⟨#[62, 61]⟩) ∧ w2.cell? ⟨g, 17, none⟩ = some (.int .i64 (-5)) ∧ w2.cell? ⟨g, 26, none⟩ = some (.int .i64 5)) := fun wr w2 g ⟨h1, h2, h3, h4, h5⟩ hb => by
    have k : ∀ (j : Nat) (v : Value), wr.cell? ⟨g, j, none⟩ = some v → w2.cell? ⟨g, j, none⟩ = some v := fun j v h => (hb.cell (p := ⟨g, j, none⟩) (World.block_lt_of_cell? _ _ h)).trans h
    exact ⟨k _ _ h1, k _ _ h2, k _ _ h3, k _ _ h4, k _ _ h5⟩
  have D1 : Hid _ := C1
  have D2 : Hid (∀ wr, Below w.heap.size w wr → Calls Tryz.prog 9 #[.string ⟨#[97, 32, 63, 32, 98]⟩] wr fun e w' => e = .returned (.tuple #[.slice none 0 0, .int .i64 2, .int .i64 11]) ∧ Below wr.heap.size wr w') := C2
  have D3 : Hid (∀ wr, Below w.heap.size w wr → Calls Tryz.prog 14 #[.string ⟨#[83, 101, 108, 101, 99, 116]⟩] wr fun e w' => e = .returned (.bool true) ∧ w' = wr) := C3
  have D4 : Hid (∀ wr, Calls Tryz.prog 15 #[.string ⟨#[105, 116, 39, 115, 32, 53, 37]⟩] wr fun e w' => e = .returned (.string ⟨#[39, 105, 116, 37, 50, 55, 115, 32, 53, 37, 50, 53, 39]⟩) ∧ Below wr.heap.size wr w') := C4
  clear C2 C3 C4 D1 he
  go_enter Tryz.func8, Tryz.ntmps8
  go_wp2_with (first
    | (go_at_call_of 9 (Value.string ⟨#[114, 62, 61, 45, 53]⟩); refine C1.mono ?_; rintro e w1 ⟨g, cap, rfl, hc1, hb1⟩; clear C1)
    | (go_at_call_of 9 (Value.string ⟨#[97, 32, 63, 32, 98]⟩); refine (D2.out _ hb1).mono ?_; rintro e w2 ⟨rfl, hb2⟩; obtain ⟨k0, k12, k8, k17, k26⟩ := HC.out w1 w2 g hc1 hb2; clear hc1; have hb12 := hb1.trans (hb2.mono hb1.size); clear hb1 hb2)
    | (go_at_call 14; refine (D3.out _ hb12).mono ?_; rintro e _ ⟨rfl, hw⟩; obtain rfl := hw.symm; clear hw)
    | (go_at_call 15; refine (D4.out _).mono ?_; rintro e w3 ⟨rfl, hb3⟩; have hb13 := hb12.trans (hb3.mono hb12.size); clear hb12 hb3))
  go_ret
  exact ⟨rfl, hb13⟩
end Go.Proofs.YtajebjkpmbehgaaGreatDoor

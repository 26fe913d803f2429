/-
  THE LAW BloomNone: the walk.
-/
import Derived.Test.YtblblngcmgdnnaaBlmLives
namespace Go.Proofs.Ytblblngcmgdnnaa
open Go.RowKit

theorem bytes_none {w : World} {v : Value} (h : FNo w v) : Calls Try.prog 18 #[v] w fun e w' => e = .returned (.slice none 0 0) ∧ w' = w := by
  have M := made_none h
  go_enter Try.func18, Try.ntmps18
  go_wp2_with (go_at_call 21; refine M.mono ?_; rintro e w1 ⟨rfl, rfl⟩)
  go_ret
  exact ⟨rfl, rfl⟩
namespace bloomNone
theorem index_0 (a : Option Addr) (w : World) : (Instr.index 43 (.agg #[.pointer none, .pointer a]) (.int .i64 0)).run Try.prog w = .ok (.pointer none) w := by kernel_rfl
theorem index_1 (a : Option Addr) (w : World) : (Instr.index 43 (.agg #[.pointer none, .pointer a]) (.int .i64 1)).run Try.prog w = .ok (.pointer a) w := by kernel_rfl
set_option maxRecDepth 100000 in
set_option maxHeartbeats 1000000 in
theorem walk (ao : Option Addr) (l : List UInt8) (cap : Nat) (w : World) (_ : Sees w ao l) (_ : ao = none → l.length = 0) (_ : l.length ≤ maxLen) (_ : l.length ≤ cap) :
    Calls Try.prog 4 #[.slice ao l.length cap] w fun e w' => e = .returned (.bool true) ∧ Below w.heap.size w w' := by
  have hi0 := index_0 (some ⟨w.heap.size, 0, none⟩)
  have hi1 := index_1 (some ⟨w.heap.size, 0, none⟩)
  go_enter Try.func4, Try.ntmps4
  go_wp2_with fail
  go_loopw [7] (fun s7 wr => ∃ i : Nat, i ≤ 2 ∧ s7 = .int .i64 (i : Int) ∧ Below (w.heap.size + 1) (w.alloc (.cells #[.int .i64 0, .slice none 0 0] 42)) wr) (fun s7 _ => 2 - (intOf s7).toNat)
  case atStart => exact ⟨0, by omega, rfl, Below.refl _ _⟩
  case round =>
    obtain ⟨i, hi, rfl, hB⟩ := hrel
    have h0 : FNo wr (.pointer none) := .inl rfl
    have h1 : FNo wr (.pointer (some ⟨w.heap.size, 0, none⟩)) := .inr ⟨_, rfl, by
      rw [hB.cell (by simp)]
      exact (Blk.new w [.int .i64 0, .slice none 0 0] 42).cell 1 rfl⟩
    have HB : Hid (Below (w.heap.size + 1) (w.alloc (.cells #[.int .i64 0, .slice none 0 0] 42)) wr) := hB
    clear hB
    have H0 : Hid (FNo wr (.pointer none)) := h0
    have H1 : Hid (FNo wr (.pointer (some ⟨w.heap.size, 0, none⟩))) := h1
    clear h0 h1
    obtain rfl | rfl | rfl : i = 0 ∨ i = 1 ∨ i = 2 := by omega
    · go_wp2_with fail
      refine (add_none H0.out _ _ _).mono ?_
      rintro e w2 ⟨rfl, rfl⟩
      go_wp2_with fail
      refine (may_none H0.out _ _ _).mono ?_
      rintro e w3 ⟨rfl, rfl⟩
      go_wp2_with fail
      refine (places_none H0.out _ _ _).mono ?_
      rintro e w4 ⟨rfl, rfl⟩
      go_wp2_with fail
      refine (bytes_none H0.out).mono ?_
      rintro e w5 ⟨rfl, rfl⟩
      go_wp2_with fail
      refine (size_none H0.out).mono ?_
      rintro e w6 ⟨rfl, rfl⟩
      go_wp2_with fail
      exact ⟨⟨1, by omega, rfl, HB.out⟩, by simp [intOf]⟩
    · go_wp2_with fail
      refine (add_none H1.out _ _ _).mono ?_
      rintro e w2 ⟨rfl, rfl⟩
      go_wp2_with fail
      refine (may_none H1.out _ _ _).mono ?_
      rintro e w3 ⟨rfl, rfl⟩
      go_wp2_with fail
      refine (places_none H1.out _ _ _).mono ?_
      rintro e w4 ⟨rfl, rfl⟩
      go_wp2_with fail
      refine (bytes_none H1.out).mono ?_
      rintro e w5 ⟨rfl, rfl⟩
      go_wp2_with fail
      refine (size_none H1.out).mono ?_
      rintro e w6 ⟨rfl, rfl⟩
      go_wp2_with fail
      exact ⟨⟨2, by omega, rfl, HB.out⟩, by simp [intOf]⟩
    · go_wp2_with fail
      refine (lives8_any _).mono ?_
      rintro e w2 ⟨rfl, hL⟩
      go_wp2_with fail
      go_ret
      have hA : Below w.heap.size w (w.alloc (.cells #[.int .i64 0, .slice none 0 0] 42)) := (Below.refl _ _).alloc (Nat.le_refl _) _
      have hs := HB.out.size
      rw [World.size_alloc] at hs
      exact ⟨rfl, (hA.trans (HB.out.mono (by omega))).trans (hL.mono (by omega))⟩
end bloomNone
end Go.Proofs.Ytblblngcmgdnnaa

/-
  CONTRACT: the document's examples are as it says.
-/
import Derived.Test.YtblblngcmgdnnaaBlmNew
import Derived.Test.YtblblngcmgdnnaaBlmAdd
import Derived.Test.YtblblngcmgdnnaaBlmMay
import Derived.Test.YtblblngcmgdnnaaBlmPlaces
import Derived.Lib.SlBytesConst
namespace Go.Proofs.Ytblblngcmgdnnaa
open Go.RowKit

abbrev litA : Obj := .cells #[.int .u8 97] 5 (1, 2)
theorem lit_sees (w : World) : Sees (w.alloc litA) (some ⟨w.heap.size, 0, none⟩) [97] := by
  intro i hi
  obtain rfl : i = 0 := by simpa using hi
  refine ⟨_, rfl, ?_⟩
  have h : (w.alloc litA).heap[w.heap.size]? = some litA := heap_alloc_new w _
  rw [Addr.add_lit]
  unfold World.cell?
  show (match (w.alloc litA).heap[w.heap.size]? with | some (.cells c _ _) => c[0]? | _ => none) = _
  rw [h]
  rfl
/-- The two filters of the examples. -/
structure Two (w0 w : World) (m1 m2 : FM) (l : List UInt8) : Prop where
  a : FAt w m1 7 l
  b : FAt w m2 1 [0]
  len : l.length = 2
  d : m2.d ≠ m1.g
  g : m2.g ≠ m1.g
  lo : w0.heap.size ≤ m1.g
  B : Below w0.heap.size w0 w
theorem Two.below {w0 w w' : World} {m1 m2 : FM} {l : List UInt8} (h : Two w0 w m1 m2 l) (k : Below w.heap.size w w') : Two w0 w' m1 m2 l :=
  ⟨h.a.below k (Nat.le_refl _), h.b.below k (Nat.le_refl _), h.len, h.d, h.g, h.lo, h.B.trans (k.mono h.B.size)⟩
theorem Two.lit {w0 w : World} {m1 m2 : FM} {l : List UInt8} (h : Two w0 w m1 m2 l) : Two w0 (w.alloc litA) m1 m2 l := h.below ((Below.refl _ _).alloc (Nat.le_refl _) _)
theorem two_add {w0 w : World} {m1 m2 : FM} {l : List UInt8} (h : Two w0 w m1 m2 l) : Calls Try.prog 15 #[m1.v, .slice (some ⟨w.heap.size, 0, none⟩) 1 1] (w.alloc litA) fun e w' => e = .returned (.tuple #[]) ∧ Two w0 w' m1 m2 (addK l (sumB [97] 0#64) 7) := by
  refine (add_any h.lit.a (some ⟨w.heap.size, 0, none⟩) [97] 1 (by simp) (by simp) (lit_sees w)).mono ?_
  rintro e w' ⟨rfl, hF, hg⟩
  have h2 := h.lit
  have l1 := h2.b.head.lt
  have l2 := h2.b.bits.lt
  refine ⟨rfl, hF, h2.b.carry (hg.block _ l1 (by simpa using h.d)) (hg.block _ l2 (by simpa using h.g)), by rw [addK_length]; exact h.len, h.d, h.g, h.lo, ?_⟩
  refine h2.B.trans ⟨hg.os, hg.tape, hg.output, hg.size, fun i hi => hg.block i (by have := h2.B.size; omega) (fun e => ?_)⟩
  have := h.lo
  cases e
  omega
theorem two_places {w0 w : World} {m1 m2 : FM} {l : List UInt8} (h : Two w0 w m1 m2 l) : Calls Try.prog 11 #[m1.v, .slice (some ⟨w.heap.size, 0, none⟩) 1 1] (w.alloc litA) fun e w' => ∃ g, e = .returned (.slice (some ⟨g, 0, none⟩) 7 7) ∧ Two w0 w' m1 m2 l := by
  refine (places_any h.lit.a (some ⟨w.heap.size, 0, none⟩) [97] 1 (by simp) (by simp) (lit_sees w)).mono ?_
  rintro e w' ⟨g, rfl, _, _, hB⟩
  exact ⟨g, rfl, h.lit.below hB⟩
theorem two_may {w0 w : World} {m1 m2 : FM} {l : List UInt8} (h : Two w0 w m1 m2 l) : Calls Try.prog 13 #[m1.v, .slice (some ⟨w.heap.size, 0, none⟩) 1 1] (w.alloc litA) fun e w' => e = .returned (.bool (mayK l (sumB [97] 0#64) 7)) ∧ Two w0 w' m1 m2 l := by
  refine (may_any h.lit.a (some ⟨w.heap.size, 0, none⟩) [97] 1 (by simp) (by simp) (lit_sees w)).mono ?_
  rintro e w' ⟨rfl, hB⟩
  exact ⟨rfl, h.lit.below hB⟩
theorem two_may2 {w0 w : World} {m1 m2 : FM} {l : List UInt8} (h : Two w0 w m1 m2 l) : Calls Try.prog 13 #[m2.v, .slice (some ⟨w.heap.size, 0, none⟩) 1 1] (w.alloc litA) fun e w' => e = .returned (.bool false) ∧ Two w0 w' m1 m2 l := by
  refine (may_any h.lit.b (some ⟨w.heap.size, 0, none⟩) [97] 1 (by simp) (by simp) (lit_sees w)).mono ?_
  rintro e w' ⟨rfl, hB⟩
  exact ⟨ret_bool (may_zero 1 1 _ (by decide)), h.lit.below hB⟩
theorem two_size {w0 w : World} {m1 m2 : FM} {l : List UInt8} (h : Two w0 w m1 m2 l) : Calls Try.prog 20 #[m1.v] w fun e w' => e = .returned (.int .i64 16) ∧ w' = w := by
  refine (size_any h.a).mono ?_
  rintro e w' ⟨rfl, rfl⟩
  rw [h.len]
  exact ⟨rfl, rfl⟩
theorem two_size2 {w0 w : World} {m1 m2 : FM} {l : List UInt8} (h : Two w0 w m1 m2 l) : Calls Try.prog 20 #[m2.v] w fun e w' => e = .returned (.int .i64 8) ∧ w' = w := size_any h.b
set_option maxRecDepth 100000 in
set_option maxHeartbeats 1000000 in
theorem lives8_any (w : World) : Calls Try.prog 9 #[] w fun e w' => e = .returned (.bool true) ∧ Below w.heap.size w w' := by
  have N1 : Hid (Calls Try.prog 6 #[.int .i64 1, .int .i64 10] w fun e w' => ∃ m : FM, e = .returned m.v ∧ FAt w' m 7 [0, 0] ∧ w.heap.size ≤ m.d ∧ w.heap.size ≤ m.g ∧ w.grownBy w' none) := new_any 1 10 (by decide) (by decide) (by decide) w
  have N2 : Hid (∀ w, Calls Try.prog 6 #[.int .i64 0, .int .i64 1] w fun e w' => ∃ m : FM, e = .returned m.v ∧ FAt w' m 1 [0] ∧ w.heap.size ≤ m.d ∧ w.heap.size ≤ m.g ∧ w.grownBy w' none) := fun w => new_any 0 1 (by decide) (by decide) (by decide) w
  have A1 : Hid (∀ {w0 w : World} {m1 m2 : FM} {l : List UInt8}, Two w0 w m1 m2 l → Calls Try.prog 15 #[m1.v, .slice (some ⟨w.heap.size, 0, none⟩) 1 1] (w.alloc litA) fun e w' => e = .returned (.tuple #[]) ∧ Two w0 w' m1 m2 (addK l (sumB [97] 0#64) 7)) := @two_add
  have CV : ∀ w : World, (convert 29 29 (.slice (some ⟨w.heap.size, 0, none⟩) 1 1)).run Try.prog (w.alloc (.cells #[.int .u8 97] 5)) = .ok (.slice (some ⟨w.heap.size, 0, none⟩) 1 1) (w.alloc litA) := fun w => Go.Lib.run_convert_bytes_const w _ _ _ _ _ Try.underlying29 Try.underlying5
  go_enter Try.func9, Try.ntmps9
  go_wp2_with fail
  refine N1.out.mono ?_
  rintro e w1 ⟨m1, rfl, F1, l1, l2, g1⟩
  go_wp2_with fail
  refine (N2.out _).mono ?_
  rintro e w2 ⟨m2, rfl, F2, l3, l4, g2⟩
  have hT : Hid (Two w w2 m1 m2 [0, 0]) := by
    have hB1 : Below w.heap.size w w1 := ⟨g1.os, g1.tape, g1.output, g1.size, fun i hi => g1.block i hi (by simp)⟩
    have hB2 : Below w1.heap.size w1 w2 := ⟨g2.os, g2.tape, g2.output, g2.size, fun i hi => g2.block i hi (by simp)⟩
    have := F1.bits.lt
    exact ⟨F1.below hB2 (Nat.le_refl _), F2, rfl, by omega, by omega, l2, hB1.trans (hB2.mono hB1.size)⟩
  clear F1 l1 l2 g1 F2 l3 l4 g2 N1 N2
  go_wp2_with fail
  refine (A1.out hT.out).mono ?_
  rintro e w3 ⟨rfl, h3⟩
  have hT3 : Hid (Two w w3 m1 m2 (addK [0, 0] (sumB [97] 0#64) 7)) := h3
  clear h3
  go_wp2_with fail
  refine (two_size hT3.out).mono ?_
  rintro e w4 ⟨rfl, rfl⟩
  go_wp2_with fail
  refine (two_places hT3.out).mono ?_
  rintro e w4 ⟨g, rfl, h4⟩
  have hT4 : Hid (Two w w4 m1 m2 (addK [0, 0] (sumB [97] 0#64) 7)) := h4
  clear h4
  go_wp2_with fail
  refine (two_may hT4.out).mono ?_
  rintro e w5 ⟨rfl, h5⟩
  have hT5 : Hid (Two w w5 m1 m2 (addK [0, 0] (sumB [97] 0#64) 7)) := h5
  clear h5
  rw [may_add _ _ _ (by simp)]
  go_wp2_with fail
  refine (two_size2 hT5.out).mono ?_
  rintro e w6 ⟨rfl, rfl⟩
  go_wp2_with fail
  refine (two_may2 hT5.out).mono ?_
  rintro e w6 ⟨rfl, h6⟩
  have hT6 : Hid (Two w w6 m1 m2 (addK [0, 0] (sumB [97] 0#64) 7)) := h6
  clear h6
  go_wp2_with fail
  go_ret
  exact ⟨rfl, hT6.out.B⟩
end Go.Proofs.Ytblblngcmgdnnaa

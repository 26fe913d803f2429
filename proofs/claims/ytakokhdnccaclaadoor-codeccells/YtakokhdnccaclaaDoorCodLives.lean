/-
  CONTRACT: the document's examples are as it says ('lives').
-/
import Derived.Test.YtakokhdnccaclaaDoorCodFrame
import Derived.Lib.SlBytesConst
namespace Go.Proofs.YtakokhdnccaclaaDoor
open Go.RowKit

theorem sees_lit (w : World) (l : List UInt8) (pr : Nat × Nat) : Sees (w.alloc (.cells (B8 l).toArray 5 pr)) (some ⟨w.heap.size, 0, none⟩) l := by
  intro i hi
  refine ⟨_, rfl, ?_⟩
  have h : (w.alloc (.cells (B8 l).toArray 5 pr)).heap[w.heap.size]? = some (.cells (B8 l).toArray 5 pr) := heap_alloc_new w _
  have e := B8_at l i hi
  rw [Addr.add_lit, Nat.zero_add]
  simp only [World.cell?, h]
  simpa using e

set_option maxRecDepth 100000 in
set_option maxHeartbeats 800000 in
theorem lives_any (w : World) (ht : Tab w) :
    Calls Tryd.prog 9 #[] w fun e w' => e = .returned (.bool true) ∧ Below w.heap.size w w' := by
  have hz : zigZ (-1) = 1 := by decide
  have e1 : (numL 300 == [172, 2]) = true := by decide
  have e2 : (txtL [97, 98] == [2, 97, 98]) = true := by decide
  have e3 : sumZ [49, 50, 51, 52, 53, 54, 55, 56, 57] = 3421780262 := by decide +kernel
  go_enter Tryd.func9, Tryd.ntmps9
  go_wp2_with fail
  refine (zig_any (-1) _ (by decide) (by decide)).mono ?_
  rintro e w' ⟨rfl, rfl⟩
  go_wp2_with fail
  refine (put_any none [] 0 300 _ (Sees.nil _ _) (fun _ => rfl) (by decide) (by decide)).mono ?_
  rintro e w1 ⟨v1, rfl, ho1, hb1⟩
  obtain ⟨ao1, cap1, rfl, hs1, hl1, hn1⟩ := owns_sees ho1
  have Hn1 : Hid (ao1 = none → (numL 300).length = 0) := fun h => by have := (hn1 h).1; simpa using this
  have hb1' := hb1.alloc hb1.size (.cells #[.int .u8 172, .int .u8 2] 5)
  have hs1' : Sees (w1.alloc (.cells #[.int .u8 172, .int .u8 2] 5)) ao1 (numL 300) := Sees.below (by simpa using hs1) ((Below.refl _ _).alloc (Nat.le_refl _) _) (Nat.le_refl _)
  clear hn1 hl1 ho1 hs1
  go_wp2_with fail
  refine (same_any ao1 (some ⟨w1.heap.size, 0, none⟩) (numL 300) [172, 2] cap1 2 _ hs1' (sees_lit w1 [172, 2] (0, 0)) Hn1.out (fun h => by cases h)).mono ?_
  rintro e w2 ⟨rfl, rfl⟩
  go_wp2_with fail
  refine (putText_any none [] 0 ⟨#[97, 98]⟩ _ (Sees.nil _ _) (fun _ => rfl) (by decide)).mono ?_
  rintro e w3 ⟨v3, rfl, ho3, hb3⟩
  obtain ⟨ao3, cap3, rfl, hs3, hl3, hn3⟩ := owns_sees ho3
  have Hn3 : Hid (ao3 = none → (txtL [97, 98]).length = 0) := fun h => by have := (hn3 h).1; simpa using this
  have hs3' : Sees (w3.alloc (.cells #[.int .u8 2, .int .u8 97, .int .u8 98] 5)) ao3 (txtL [97, 98]) := Sees.below (by simpa using hs3) ((Below.refl _ _).alloc (Nat.le_refl _) _) (Nat.le_refl _)
  have hb3' : Below w'.heap.size w' w3 := hb1'.trans (hb3.mono hb1'.size)
  have hb3'' := hb3'.alloc hb3'.size (.cells #[.int .u8 2, .int .u8 97, .int .u8 98] 5)
  have ht3 := ht.below hb3'' (Nat.le_refl _)
  clear hn3 hl3 ho3 hs3 hb1' hs1' hb1
  go_wp2_with fail
  refine (same_any ao3 (some ⟨w3.heap.size, 0, none⟩) (txtL [97, 98]) [2, 97, 98] cap3 3 _ hs3' (sees_lit w3 [2, 97, 98] (0, 0)) Hn3.out (fun h => by cases h)).mono ?_
  rintro e w4 ⟨rfl, rfl⟩
  go_wp2_with fail
  refine (frame_any none [] 0 _ (by decide) (Sees.nil _ _) (fun _ => rfl) ht3).mono ?_
  rintro e w5 ⟨rfl, hr5, hb5⟩
  have hb5' : Below w'.heap.size w' w5 := hb3''.trans (hb5.mono hb3''.size)
  have hb5'' := hb5'.alloc hb5'.size (.cells #[.int .u8 49, .int .u8 50, .int .u8 51, .int .u8 52, .int .u8 53, .int .u8 54, .int .u8 55, .int .u8 56, .int .u8 57] 5 (9, 10))
  have ht5 := ht.below hb5'' (Nat.le_refl _)
  clear hr5 hb5 hb3 hs3' hb3' hb3'' ht3
  have hcv := fun (w : World) (C : Array Value) (n c : Nat) => Lib.run_convert_bytes_const (P := Tryd.prog) w 22 5 C n c Tryd.underlying22 Tryd.underlying5
  go_wp2_with fail
  refine (sum_any (some ⟨w5.heap.size, 0, none⟩) [49, 50, 51, 52, 53, 54, 55, 56, 57] 9 _ (by decide) ht5 (sees_lit w5 [49, 50, 51, 52, 53, 54, 55, 56, 57] (9, 10))).mono ?_
  rintro e w6 ⟨rfl, rfl⟩
  go_wp2_with fail
  go_ret
  exact ⟨rfl, hb5''⟩
end Go.Proofs.YtakokhdnccaclaaDoor

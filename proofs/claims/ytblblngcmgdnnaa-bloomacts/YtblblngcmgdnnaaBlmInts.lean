/-
  CONTRACT: Ints of two rows that hold the same.
-/
import Derived.Test.YtblblngcmgdnnaaBlmIx
import Derived.Test.YtblblngcmgdnnaaBlmPlaces
namespace Go.Proofs.Ytblblngcmgdnnaa
open Go.RowKit

theorem elem_int : Try.prog.elem 31 = 3 := by kernel_rfl
theorem index_int (g n cap q : Nat) (h : q < n) (w : World) : (Instr.indexAt 31 (.slice (some ⟨g, 0, none⟩) n cap) (.int .i64 (q : Int))).run Try.prog w = .ok (.pointer (some ⟨g, q, none⟩)) w := by
  obtain ⟨i0, hi, hz0, hz1, hz2⟩ := info_parts info64
  rw [run_indexAt_slice (h := by rw [elem_int]; exact Try.underlying31), if_pos ⟨by omega, by omega⟩, elem_int]
  simp [sizeOf, typeInfo, hi, hz1, Addr.add_lit]
set_option maxRecDepth 100000 in
set_option maxHeartbeats 1000000 in
theorem ints_same (g1 g2 c1 c2 k : Nat) (ps : List Nat) (w : World) (hl : ps.length = k) (hk : k ≤ 100) (h1 : ∀ (i z : Nat), ps[i]? = some z → w.cell? ⟨g1, i, none⟩ = some (.int .i64 (z : Int))) (h2 : ∀ (i z : Nat), ps[i]? = some z → w.cell? ⟨g2, i, none⟩ = some (.int .i64 (z : Int))) :
    Calls Try.prog 10 #[.slice (some ⟨g1, 0, none⟩) k c1, .slice (some ⟨g2, 0, none⟩) k c2] w fun e w' => e = .returned (.bool true) ∧ Below w.heap.size w w' := by
  have H1 : Hid (∀ (i z : Nat), ps[i]? = some z → w.cell? ⟨g1, i, none⟩ = some (.int .i64 (z : Int))) := h1
  have H2 : Hid (∀ (i z : Nat), ps[i]? = some z → w.cell? ⟨g2, i, none⟩ = some (.int .i64 (z : Int))) := h2
  clear h1 h2
  go_enter Try.func10, Try.ntmps10
  go_wp2_with fail
  go_loopw [13] (fun s13 wr => ∃ i : Nat, i ≤ k ∧ s13 = .int .i64 (i : Int) ∧ wr.heap = w.heap ∧ Below w.heap.size w wr) (fun s13 _ => k - (intOf s13).toNat)
  case atStart => exact ⟨0, Nat.zero_le _, rfl, rfl, Below.refl _ _⟩
  case round =>
    obtain ⟨i, hi, rfl, hh, hB⟩ := hrel
    have HB : Hid (Below w.heap.size w wr) := hB
    have HH : Hid (wr.heap = w.heap) := hh
    rcases Nat.lt_or_ge i k with hlt | hge
    · obtain ⟨z, hz⟩ : ∃ z, ps[i]? = some z := ⟨_, List.getElem?_eq_getElem (by omega)⟩
      have d1 : wr.cell? ⟨g1, i, none⟩ = some (.int .i64 (z : Int)) := by rw [World.cell?_of_block (w := w) (by rw [hh])]; exact H1.out i z hz
      have d2 : wr.cell? ⟨g2, i, none⟩ = some (.int .i64 (z : Int)) := by rw [World.cell?_of_block (w := w) (by rw [hh])]; exact H2.out i z hz
      have I1 : Hid (∀ w, (Instr.indexAt 31 (.slice (some ⟨g1, 0, none⟩) k c1) (.int .i64 (i : Int))).run Try.prog w = .ok (.pointer (some ⟨g1, i, none⟩)) w) := fun w => index_int _ _ _ _ hlt w
      have I2 : Hid (∀ w, (Instr.indexAt 31 (.slice (some ⟨g2, 0, none⟩) k c2) (.int .i64 (i : Int))).run Try.prog w = .ok (.pointer (some ⟨g2, i, none⟩)) w) := fun w => index_int _ _ _ _ hlt w
      clear hh hB
      go_wp2_with fail
      refine wp_region_still_tail 8 (by kernel_rfl) (by kernel_rfl) ?_
      simp only [List.take_succ_cons, List.take_zero, List.drop_succ_cons, List.drop_zero]
      iterate 2 (refine wpStill_step (fun K hK => ?_); go_simp; refine hK _ ?_; clear hK K)
      refine still_ix rfl rfl rfl rfl (I1.out _) ?_
      iterate 3 (refine wpStill_step (fun K hK => ?_); go_simp; refine hK _ ?_; clear hK K)
      refine still_ix rfl rfl rfl rfl (I2.out _) ?_
      refine wpStill_step (fun K hK => ?_)
      go_simp
      refine hK _ ?_
      clear hK K
      refine wpStill_nil ?_
      go_wp2_with fail
      exact ⟨⟨i + 1, by omega, by simp, HH.out, HB.out.drew⟩, by simp only [intOf]; omega⟩
    · obtain rfl : i = k := by omega
      go_wp2_with fail
      go_ret
      exact ⟨rfl, HB.out⟩
end Go.Proofs.Ytblblngcmgdnnaa

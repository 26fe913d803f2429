/-
  CONTRACTS: the law's own weigh, few, dead and lives.
-/
import Derived.Test.YtkdeaogmifhnhaaPrgCells
import Derived.Test.YtkdeaogmifhnhaaCxRow
namespace Go.Proofs.Ytkdeaogmifhnhaa
open Go.RowKit

def dead11 (col : ByteArray) (n : Int) : Cx := ⟨⟨⟨#[116]⟩, ⟨#[120]⟩, 0, col⟩, ⟨1, true, n, 0, 0, ⟨#[]⟩⟩⟩
set_option maxRecDepth 100000 in
theorem dead11_any (s : ByteArray) (n : Int) (w : World) : Calls Try.prog 15 #[.string s, .int .i64 n] w fun x w' => x = .returned (dead11 s n).val ∧ Below w.heap.size w w' := by
  simp only [dead11, Cx.val, Cx.a]
  go_enter Try.func15, Try.ntmps15
  go_wp2_with fail
  refine bodyPost_ret (v := .agg #[.string ⟨#[116]⟩, .string ⟨#[120]⟩, .int .i64 0, .string s, .int .i64 1, .bool true, .int .i64 n, .int .i64 0, .int .i64 0, .string ⟨#[]⟩]) (results_cell_row Try.results15 _ _ w.heap.size 35 _ _ _ rfl (by exact heap_alloc_new w _) Try.underlying35 rfl (by kernel_rfl)) rfl ?_
  exact ⟨rfl, (Below.refl _ _).alloc (Nat.le_refl _) _⟩
def dA : Cx := dead11 ⟨#[97]⟩ 5
theorem dA_nrm : nrm [dA] = [dA] := by kernel_rfl
theorem dA_old : oldV dA.v 15 10 = true := by decide
theorem dA_young : oldV dA.v 14 10 = false := by decide
theorem dA_in : InI dA.v.loc := by unfold InI; decide
theorem kpt1 : kpt (goesX (keysL []) 15 10) (nrm [dA]) = [] := by
  have h : goesX (keysL []) 15 10 dA = true := by unfold goesX; rw [dA_old]; rfl
  rw [dA_nrm]
  simp [kpt, h]
theorem kpt2 (v : Lv) (hv : v.l = [dA]) : kpt (goesX (keysL [v]) 15 10) (nrm [dA]) = [dA] := by
  have h : goesX (keysL [v]) 15 10 dA = false := by
    have hk : hasK (keysL [v]) dA.k = true := by rw [hasK_iff]; unfold keysL keysX; simp [hv]
    unfold goesX
    rw [hk]
    simp
  rw [dA_nrm]
  simp [kpt, h]
theorem kpt3 : kpt (goesX (keysX []) 14 10) (nrm [dA]) = [dA] := by
  have h : goesX (keysX []) 14 10 dA = false := by unfold goesX; rw [dA_young]; rfl
  rw [dA_nrm]
  simp [kpt, h]
theorem xsees_one (w : World) (c : Cx) (ty : TypeId) : XSees (w.alloc (.cells c.a ty)) (some ⟨w.heap.size, 0, none⟩) [c] := fun i x hx => by
  have hi : i = 0 := by have := (List.getElem?_eq_some_iff.1 hx).1; simp at this; exact this
  subst hi
  obtain rfl := Option.some.inj hx
  exact ⟨w.heap.size, 0, rfl, by simpa using TenX.new w c ty⟩
set_option maxRecDepth 100000 in
set_option maxHeartbeats 2000000 in
theorem lives11_any (w : World) : Calls Try.prog 7 #[] w fun e w' => e = .returned (.bool true) ∧ Below w.heap.size w w' := by
  have AT : Hid (∀ (s : ByteArray) (n : Int) (w : World), Calls Try.prog 15 #[.string s, .int .i64 n] w fun x w' => x = .returned (.agg #[.string ⟨#[116]⟩, .string ⟨#[120]⟩, .int .i64 0, .string s, .int .i64 1, .bool true, .int .i64 n, .int .i64 0, .int .i64 0, .string ⟨#[]⟩]) ∧ Below w.heap.size w w') := dead11_any
  have O1 : Hid (∀ u : World, Calls Try.prog 8 #[.agg #[.int .i64 1, .bool true, .int .i64 5, .int .i64 0, .int .i64 0, .string ⟨#[]⟩], .int .i64 15, .int .i64 10] u fun x w' => x = .returned (.bool true) ∧ Below u.heap.size u w') := fun u => dA_old ▸ old_any dA.v 15 10 u dA_in (by unfold InI; decide) (by unfold InI; decide)
  have O2 : Hid (∀ u : World, Calls Try.prog 8 #[.agg #[.int .i64 1, .bool true, .int .i64 5, .int .i64 0, .int .i64 0, .string ⟨#[]⟩], .int .i64 14, .int .i64 10] u fun x w' => x = .returned (.bool false) ∧ Below u.heap.size u w') := fun u => dA_young ▸ old_any dA.v 14 10 u dA_in (by unfold InI; decide) (by unfold InI; decide)
  have hcl : ∀ c ∈ [dA], InI c.v.loc := fun c hc => by rw [List.mem_singleton] at hc; subst hc; exact dA_in
  have C1 : Hid (∀ (u : World) (b : Nat), XSees u (some ⟨b, 0, none⟩) [dA] → Calls Try.prog 11 #[.slice (some ⟨b, 0, none⟩) 1 1, .slice none 0 0, .int .i64 15, .int .i64 10] u fun e w' => (∃ ao' cap', e = .returned (.slice ao' 0 cap')) ∧ Below u.heap.size u w') := fun u b hx => by
    have h := cellsP_any (some ⟨b, 0, none⟩) [dA] 1 none [] 0 15 10 u hx (fun i v hv => by simp at hv) (fun v hv => by cases hv) (by simp) (by simp) (fun v hv => by cases hv) hcl (by unfold InI; decide) (by unfold InI; decide)
    rw [kpt1] at h
    exact h.mono fun e w' ⟨a, c, h1, _, h3⟩ => ⟨⟨a, c, h1⟩, h3⟩
  have C2 : Hid (∀ (u : World) (b : Nat), XSees u (some ⟨b, 0, none⟩) [dA] → Calls Try.prog 11 #[.slice (some ⟨b, 0, none⟩) 1 1, .slice (some ⟨u.heap.size, 0, none⟩) 1 1, .int .i64 15, .int .i64 10] (u.alloc (.cells #[.slice (some ⟨b, 0, none⟩) 1 1] 22)) fun e w' => (∃ ao' cap', e = .returned (.slice ao' 1 cap')) ∧ Below u.heap.size u w') := fun u b hx => by
    have hb : Below u.heap.size u (u.alloc (.cells #[.slice (some ⟨b, 0, none⟩) 1 1] 22)) := (Below.refl _ _).alloc (Nat.le_refl _) _
    have hx2 := hx.below hb (Nat.le_refl _)
    have h := cellsP_any (some ⟨b, 0, none⟩) [dA] 1 (some ⟨u.heap.size, 0, none⟩) [⟨some ⟨b, 0, none⟩, 1, [dA]⟩] 1 15 10 (u.alloc (.cells #[.slice (some ⟨b, 0, none⟩) 1 1] 22)) hx2 (lsees_one u ⟨some ⟨b, 0, none⟩, 1, [dA]⟩ _) (fun v hv => by rw [List.mem_singleton] at hv; subst hv; exact hx2) (by simp) (by simp) (fun v hv => by rw [List.mem_singleton] at hv; subst hv; simp) hcl (by unfold InI; decide) (by unfold InI; decide)
    rw [kpt2 _ rfl] at h
    exact h.mono fun e w' ⟨a, c, h1, _, h3⟩ => ⟨⟨a, c, h1⟩, hb.trans (h3.mono hb.size)⟩
  have C3 : Hid (∀ (u : World) (b : Nat), XSees u (some ⟨b, 0, none⟩) [dA] → Calls Try.prog 16 #[.slice (some ⟨b, 0, none⟩) 1 1, .slice none 0 0, .slice none 0 0, .int .i64 14, .int .i64 10] u fun e w' => (∃ ao' cap', e = .returned (.slice ao' 1 cap')) ∧ Below u.heap.size u w') := fun u b hx => by
    have h := table0_any (some ⟨b, 0, none⟩) [dA] 1 none none [] 0 0 14 10 u hx (fun i v hv => by simp at hv) (by simp) (by simp) hcl (by unfold InI; decide) (by unfold InI; decide)
    rw [kpt3] at h
    exact h.mono fun e w' ⟨a, c, h1, _, h3⟩ => ⟨⟨a, c, h1⟩, h3⟩
  clear hcl
  go_enter Try.func7, Try.ntmps7
  go_wp2_with fail
  refine (AT.out _ _ _).mono ?_
  rintro e u1 ⟨rfl, b1⟩
  have hx : XSees (u1.alloc (.cells #[.string ⟨#[116]⟩, .string ⟨#[120]⟩, .int .i64 0, .string ⟨#[97]⟩, .int .i64 1, .bool true, .int .i64 5, .int .i64 0, .int .i64 0, .string ⟨#[]⟩] 35)) (some ⟨u1.heap.size, 0, none⟩) [dA] := xsees_one u1 dA _
  have hB : Below w.heap.size w (u1.alloc (.cells #[.string ⟨#[116]⟩, .string ⟨#[120]⟩, .int .i64 0, .string ⟨#[97]⟩, .int .i64 1, .bool true, .int .i64 5, .int .i64 0, .int .i64 0, .string ⟨#[]⟩] 35)) := b1.alloc b1.size _
  go_wp2_with fail
  obtain ⟨wa, hwa⟩ : ∃ wa, wa = u1.alloc (.cells #[.string ⟨#[116]⟩, .string ⟨#[120]⟩, .int .i64 0, .string ⟨#[97]⟩, .int .i64 1, .bool true, .int .i64 5, .int .i64 0, .int .i64 0, .string ⟨#[]⟩] 35) := ⟨_, rfl⟩
  rw [← hwa] at hx hB ⊢
  clear hwa b1
  have HT : Hid (∀ u, Below wa.heap.size wa u → XSees u (some ⟨u1.heap.size, 0, none⟩) [dA] ∧ TenX u u1.heap.size 0 dA) := fun u hu => by
    have h := hx.below hu (Nat.le_refl _)
    refine ⟨h, ?_⟩
    obtain ⟨b, o, e, t⟩ := h 0 dA rfl
    cases e
    simpa using t
  refine (O1.out _).mono ?_
  rintro e u2 ⟨rfl, h2⟩
  obtain ⟨-, t2⟩ := HT.out u2 h2
  obtain ⟨k0, k1, k2, k3, k4, k5, k6, k7, k8, k9⟩ := t2
  simp only [dA, dead11, Nat.zero_add] at k0 k1 k2 k3 k4 k5 k6 k7 k8 k9
  go_wp2_with fail
  refine (O2.out _).mono ?_
  rintro e u3 ⟨rfl, h3⟩
  clear k0 k1 k2 k3 k4 k5 k6 k7 k8 k9
  have b3 : Below wa.heap.size wa u3 := h2.trans (h3.mono h2.size)
  clear h2 h3
  go_wp2_with fail
  refine (C1.out _ _ (HT.out u3 b3).1).mono ?_
  rintro e u4 ⟨⟨a4, c4, rfl⟩, h4⟩
  have b4 := b3.trans (h4.mono b3.size)
  clear h4 b3
  go_wp2_with fail
  refine (C2.out _ _ (HT.out u4 b4).1).mono ?_
  rintro e u5 ⟨⟨a5, c5, rfl⟩, h5⟩
  have b5 := b4.trans (h5.mono b4.size)
  clear h5 b4
  go_wp2_with fail
  refine (C3.out _ _ (HT.out u5 b5).1).mono ?_
  rintro e u6 ⟨⟨a6, c6, rfl⟩, h6⟩
  have b6 := b5.trans (h6.mono b5.size)
  clear h6 b5
  go_wp2_with fail
  go_ret
  exact ⟨rfl, hB.trans (b6.mono hB.size)⟩
end Go.Proofs.Ytkdeaogmifhnhaa

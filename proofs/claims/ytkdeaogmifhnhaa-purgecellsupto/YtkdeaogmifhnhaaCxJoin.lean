/-
  CONTRACT: the join of two cells of one key.
-/
import Derived.Test.YtkdeaogmifhnhaaCxSorted
import Derived.Test.YtkdeaogmifhnhaaCxPlain
import Derived.Deep.RegionLaw
namespace Go.Proofs.Ytkdeaogmifhnhaa
open Go.RowKit

def zeroX : Cx := ⟨⟨⟨#[]⟩, ⟨#[]⟩, 0, ⟨#[]⟩⟩, zeroV⟩
theorem set10_heap {w : World} {g : Nat} {a : Cx} {ty : TypeId} (h : w.heap[g]? = some (.cells a.a ty)) (v0 v1 v2 v3 v4 v5 v6 v7 v8 v9 : Value) :
    ((((((((((w.setCell ⟨g, 0, none⟩ v0).setCell ⟨g, 1, none⟩ v1).setCell ⟨g, 2, none⟩ v2).setCell ⟨g, 3, none⟩ v3).setCell ⟨g, 4, none⟩ v4).setCell ⟨g, 5, none⟩ v5).setCell ⟨g, 6, none⟩ v6).setCell ⟨g, 7, none⟩ v7).setCell ⟨g, 8, none⟩ v8).setCell ⟨g, 9, none⟩ v9).heap[g]? = some (.cells #[v0, v1, v2, v3, v4, v5, v6, v7, v8, v9] ty) := by
  simp only [World.setCell, Array.getElem?_modify, h, Cx.a]
  simp
theorem below10 {B : Nat} {w w1 : World} (h : Below B w w1) {g : Nat} (hg : B ≤ g) (v0 v1 v2 v3 v4 v5 v6 v7 v8 v9 : Value) : Below B w ((((((((((w1.setCell ⟨g, 0, none⟩ v0).setCell ⟨g, 1, none⟩ v1).setCell ⟨g, 2, none⟩ v2).setCell ⟨g, 3, none⟩ v3).setCell ⟨g, 4, none⟩ v4).setCell ⟨g, 5, none⟩ v5).setCell ⟨g, 6, none⟩ v6).setCell ⟨g, 7, none⟩ v7).setCell ⟨g, 8, none⟩ v8).setCell ⟨g, 9, none⟩ v9) :=
  ((((below6 h hg v0 v1 v2 v3 v4 v5).setCell (p := ⟨g, 6, none⟩) hg _).setCell (p := ⟨g, 7, none⟩) hg _).setCell (p := ⟨g, 8, none⟩) hg _).setCell (p := ⟨g, 9, none⟩) hg _
theorem boxesX3 (w : World) (a b c : Cx) : ∃ wa, wa = ((w.alloc (.cells a.a 35)).alloc (.cells b.a 35)).alloc (.cells c.a 35) ∧ TenX wa w.heap.size 0 a ∧ TenX wa (w.heap.size + 1) 0 b ∧ TenX wa (w.heap.size + 1 + 1) 0 c ∧ wa.heap[w.heap.size + 1 + 1]? = some (.cells c.a 35) ∧ Below w.heap.size w wa := by
  have h3 := heap_alloc_new ((w.alloc (.cells a.a 35)).alloc (.cells b.a 35)) (.cells c.a 35)
  rw [World.size_alloc, World.size_alloc] at h3
  refine ⟨_, rfl, ((TenX.new w a _).alloc _).alloc _, ?_, TenX.of h3, h3, (((Below.refl _ _).alloc (Nat.le_refl _) _).alloc (by simp) _).alloc (by rw [World.size_alloc, World.size_alloc]; omega) _⟩
  have := TenX.new (w.alloc (.cells a.a 35)) b 35
  rw [World.size_alloc] at this; exact this.alloc _
set_option maxRecDepth 100000 in
set_option maxHeartbeats 2000000 in
theorem joinCells_any (a b : Cx) (w : World) : Calls Try.prog 36 #[a.val, b.val] w fun x w' => x = .returned (jnC a b).val ∧ Below w.heap.size w w' := by
  obtain ⟨j, hj⟩ : ∃ j, jn a.v b.v = j := ⟨_, rfl⟩
  have J : Hid (∀ w : World, Calls Try.prog 48 #[a.v.v, b.v.v] w fun x w' => x = .returned j.v ∧ Below w.heap.size w w') := fun w => hj ▸ join_any a.v b.v w
  have hjc : jnC a b = ⟨a.k, j⟩ := by unfold jnC; rw [hj]
  rw [hjc]
  obtain ⟨wa, hwa, ta, tb, tc, hz, hB⟩ := boxesX3 w a b zeroX
  have la := ta.lt
  have lb := tb.lt
  have lc := tc.lt
  have HF : Hid (∀ w1, Below wa.heap.size wa w1 → TenX w1 w.heap.size 0 a ∧ TenX w1 (w.heap.size + 1) 0 b ∧ TenX w1 (w.heap.size + 1 + 1) 0 zeroX ∧ w1.heap[w.heap.size + 1 + 1]? = some (.cells zeroX.a 35) ∧ Below w.heap.size w w1) := fun w1 h => ⟨ta.below h la, tb.below h lb, tc.below h lc, by rw [h.block _ lc]; exact hz, hB.trans (h.mono hB.size)⟩
  clear ta tb tc hz hB hj hjc la lb lc
  obtain ⟨⟨a1, p1, r1, c1⟩, ⟨t1, d1, l1, k1, n1, s1⟩⟩ := a
  obtain ⟨⟨a2, p2, r2, c2⟩, ⟨t2, d2, l2, k2, n2, s2⟩⟩ := b
  obtain ⟨t4, d4, l4, k4, n4, s4⟩ := j
  simp only [Cx.val, Cx.a, Vr.v, zeroX, zeroV] at J hwa ⊢
  obtain ⟨⟨x0, x1, x2, x3, x4, x5, x6, x7, x8, x9⟩, ⟨y0, y1, y2, y3, y4, y5, y6, y7, y8, y9⟩, -⟩ := HF.out wa (Below.refl _ _)
  obtain ⟨⟨g0, g1, g2, g3, g4, g5, g6, g7, g8, g9⟩, ⟨h0, h1, h2, h3, h4, h5, h6, h7, h8, h9⟩, -⟩ := HF.out wa.drew (Below.refl _ _).drew
  simp only [Nat.zero_add] at *
  go_enter Try.func36, Try.ntmps36
  go_wp2_with fail
  rw [← hwa]
  clear hwa
  go_region_law (first
    | (go_simp; go_at_call 48; refine (J.out _).mono ?_; rintro x w1 ⟨rfl, hb1⟩; have hb1' := (Below.refl wa.heap.size wa).drew.trans hb1; obtain ⟨⟨q0, q1, q2, q3, q4, q5, q6, q7, q8, q9⟩, ⟨o0, o1, o2, o3, o4, o5, o6, o7, o8, o9⟩, ⟨e0, e1, e2, e3, e4, e5, e6, e7, e8, e9⟩, hz1, hB1⟩ := HF.out w1 hb1'; simp only [Nat.zero_add] at q0 q1 q2 q3 q4 q5 q6 q7 q8 q9 o0 o1 o2 o3 o4 o5 o6 o7 o8 o9 e0 e1 e2 e3 e4 e5 e6 e7 e8 e9; have f0 := frozen_at hz1 0; have f1 := frozen_at hz1 1; have f2 := frozen_at hz1 2; have f3 := frozen_at hz1 3; have f4 := frozen_at hz1 4; have f5 := frozen_at hz1 5; have f6 := frozen_at hz1 6; have f7 := frozen_at hz1 7; have f8 := frozen_at hz1 8; have f9 := frozen_at hz1 9; have HZ : Hid (w1.heap[w.heap.size + 1 + 1]? = some (.cells zeroX.a 35)) := hz1; have HB1 : Hid (Below w.heap.size w w1) := hB1; clear hz1 hB1))
  all_goals
    go_wp2_with fail
    refine bodyPost_ret (v := .agg #[.string a1, .string p1, .int .i64 r1, .string c1, .int .i64 t4, .bool d4, .int .i64 l4, .int .i64 k4, .int .i64 n4, .string s4]) (results_cell_row Try.results36 _ _ (w.heap.size + 1 + 1) 35 _ _ _ rfl (set10_heap HZ.out _ _ _ _ _ _ _ _ _ _) Try.underlying35 rfl (by kernel_rfl)) rfl ?_
    exact ⟨rfl, below10 HB1.out (by omega) _ _ _ _ _ _ _ _ _ _⟩
end Go.Proofs.Ytkdeaogmifhnhaa

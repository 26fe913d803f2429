/-
  CONTRACTS: the join of two versions, a version that lives, a good cell; the document's examples ('lives').
-/
import Derived.Test.YtkdeaogmifhnhaaVerCmp
namespace Go.Proofs.Ytkdeaogmifhnhaa
open Go.RowKit

theorem frozen_at {w : World} {g : Nat} {cs : Array Value} {ty : TypeId} (h : w.heap[g]? = some (.cells cs ty)) (i : Nat) : w.frozen? ⟨g, i, none⟩ = false := by simp [World.frozen?, h]
def zeroV : Vr := ⟨0, false, 0, 0, 0, ⟨#[]⟩⟩
theorem set6 {w : World} {g : Nat} {a : Vr} {ty : TypeId} (h : w.heap[g]? = some (.cells a.a ty)) (v0 v1 v2 v3 v4 v5 : Value) :
    ((((((w.setCell ⟨g, 0, none⟩ v0).setCell ⟨g, 1, none⟩ v1).setCell ⟨g, 2, none⟩ v2).setCell ⟨g, 3, none⟩ v3).setCell ⟨g, 4, none⟩ v4).setCell ⟨g, 5, none⟩ v5).heap[g]? = some (.cells #[v0, v1, v2, v3, v4, v5] ty) := by
  simp only [World.setCell, Array.getElem?_modify, h, Vr.a]
  simp
theorem boxes3 (w : World) (a b c : Vr) : ∃ wa, wa = ((w.alloc (.cells a.a 33)).alloc (.cells b.a 33)).alloc (.cells c.a 33) ∧ VAt wa w.heap.size 0 a ∧ VAt wa (w.heap.size + 1) 0 b ∧ VAt wa (w.heap.size + 1 + 1) 0 c ∧ wa.heap[w.heap.size + 1 + 1]? = some (.cells c.a 33) ∧ Below w.heap.size w wa := by
  refine ⟨_, rfl, ((VAt.new w a _).alloc _).alloc _, ?_, ?_, ?_, (((Below.refl _ _).alloc (Nat.le_refl _) _).alloc (by simp) _).alloc (by rw [World.size_alloc, World.size_alloc]; omega) _⟩
  · have := VAt.new (w.alloc (.cells a.a 33)) b 33
    rw [World.size_alloc] at this; exact this.alloc _
  · have := VAt.new ((w.alloc (.cells a.a 33)).alloc (.cells b.a 33)) c 33
    rw [World.size_alloc, World.size_alloc] at this; exact this
  · have := heap_alloc_new ((w.alloc (.cells a.a 33)).alloc (.cells b.a 33)) (.cells c.a 33)
    rw [World.size_alloc, World.size_alloc] at this; exact this
theorem below6 {B : Nat} {w w1 : World} (h : Below B w w1) {g : Nat} (hg : B ≤ g) (v0 v1 v2 v3 v4 v5 : Value) : Below B w ((((((w1.setCell ⟨g, 0, none⟩ v0).setCell ⟨g, 1, none⟩ v1).setCell ⟨g, 2, none⟩ v2).setCell ⟨g, 3, none⟩ v3).setCell ⟨g, 4, none⟩ v4).setCell ⟨g, 5, none⟩ v5) :=
  (((((h.setCell (p := ⟨g, 0, none⟩) hg _).setCell (p := ⟨g, 1, none⟩) hg _).setCell (p := ⟨g, 2, none⟩) hg _).setCell (p := ⟨g, 3, none⟩) hg _).setCell (p := ⟨g, 4, none⟩) hg _).setCell (p := ⟨g, 5, none⟩) hg _

set_option maxRecDepth 100000 in
set_option maxHeartbeats 1000000 in
theorem join_any (a b : Vr) (w : World) :
    Calls Try.prog 48 #[a.v, b.v] w fun x w' => x = .returned (jn a b).v ∧ Below w.heap.size w w' := by
  have C : Hid (∀ w : World, Calls Try.prog 60 #[a.v, b.v] w fun x w' => x = .returned (.int .i64 (cv a b)) ∧ Below w.heap.size w w') := fun w => vcmp_any a b w
  obtain ⟨wa, hwa, va, vb, vc, hz, hB⟩ := boxes3 w a b zeroV
  have la := va.lt
  have lb := vb.lt
  have lc := vc.lt
  have HF : Hid (∀ w1, Below wa.heap.size wa w1 → VAt w1 w.heap.size 0 a ∧ VAt w1 (w.heap.size + 1) 0 b ∧ VAt w1 (w.heap.size + 1 + 1) 0 zeroV ∧ w1.heap[w.heap.size + 1 + 1]? = some (.cells zeroV.a 33) ∧ Below w.heap.size w w1) := fun w1 h => ⟨va.below h la, vb.below h lb, vc.below h lc, by rw [h.block _ lc]; exact hz, hB.trans (h.mono hB.size)⟩
  have hj1 : Hid (cv a b < 0 → jn a b = b) := fun h => by unfold jn; rw [if_pos h]
  have hj2 : Hid (0 ≤ cv a b → jn a b = a) := fun h => by unfold jn; rw [if_neg (by omega)]
  clear va vb vc hz hB la lb lc
  generalize cv a b = R at *
  generalize jn a b = J at *
  obtain ⟨t1, d1, l1, k1, n1, s1⟩ := a
  obtain ⟨t2, d2, l2, k2, n2, s2⟩ := b
  simp only [Vr.v, Vr.a, zeroV] at C hwa ⊢
  go_enter Try.func48, Try.ntmps48
  go_wp2_with fail
  rw [← hwa]
  clear hwa
  refine (C.out _).mono ?_
  rintro x w1 ⟨rfl, hb1⟩
  obtain ⟨⟨x1, x2, x3, x4, x5, x6⟩, ⟨y1, y2, y3, y4, y5, y6⟩, ⟨c1, c2, c3, c4, c5, c6⟩, hz, hB⟩ := HF.out w1 hb1
  have z0 := frozen_at hz 0
  have z1 := frozen_at hz 1
  have z2 := frozen_at hz 2
  have z3 := frozen_at hz 3
  have z4 := frozen_at hz 4
  have z5 := frozen_at hz 5
  simp only [Nat.zero_add] at x1 x2 x3 x4 x5 x6 y1 y2 y3 y4 y5 y6 c1 c2 c3 c4 c5 c6
  have HS : Hid (∀ v0 v1 v2 v3 v4 v5 : Value, ((((((w1.setCell ⟨w.heap.size + 1 + 1, 0, none⟩ v0).setCell ⟨w.heap.size + 1 + 1, 1, none⟩ v1).setCell ⟨w.heap.size + 1 + 1, 2, none⟩ v2).setCell ⟨w.heap.size + 1 + 1, 3, none⟩ v3).setCell ⟨w.heap.size + 1 + 1, 4, none⟩ v4).setCell ⟨w.heap.size + 1 + 1, 5, none⟩ v5).heap[w.heap.size + 1 + 1]? = some (.cells #[v0, v1, v2, v3, v4, v5] 33)) := set6 hz
  have HB : Hid (∀ v0 v1 v2 v3 v4 v5 : Value, Below w.heap.size w ((((((w1.setCell ⟨w.heap.size + 1 + 1, 0, none⟩ v0).setCell ⟨w.heap.size + 1 + 1, 1, none⟩ v1).setCell ⟨w.heap.size + 1 + 1, 2, none⟩ v2).setCell ⟨w.heap.size + 1 + 1, 3, none⟩ v3).setCell ⟨w.heap.size + 1 + 1, 4, none⟩ v4).setCell ⟨w.heap.size + 1 + 1, 5, none⟩ v5)) := below6 hB (by omega)
  clear hz hB hb1 HF
  by_cases hR : R < 0
  · obtain rfl := hj1.out hR
    have hd : decide (R < 0) = true := decide_eq_true hR
    clear hj1 hj2 hR
    go_wp2_with fail
    refine bodyPost_ret (v := .agg #[.int .i64 t2, .bool d2, .int .i64 l2, .int .i64 k2, .int .i64 n2, .string s2]) (results_cell_row Try.results48 _ _ (w.heap.size + 1 + 1) 33 _ _ _ rfl (HS.out _ _ _ _ _ _) Try.underlying33 rfl (by kernel_rfl)) rfl ?_
    exact ⟨rfl, HB.out _ _ _ _ _ _⟩
  · obtain rfl := hj2.out (by omega)
    have hd : decide (R < 0) = false := decide_eq_false hR
    clear hj1 hj2 hR
    go_wp2_with fail
    refine bodyPost_ret (v := .agg #[.int .i64 t1, .bool d1, .int .i64 l1, .int .i64 k1, .int .i64 n1, .string s1]) (results_cell_row Try.results48 _ _ (w.heap.size + 1 + 1) 33 _ _ _ rfl (HS.out _ _ _ _ _ _) Try.underlying33 rfl (by kernel_rfl)) rfl ?_
    exact ⟨rfl, HB.out _ _ _ _ _ _⟩

theorem live_any (a : Vr) (w : World) : Calls Try.prog 17 #[a.v] w fun x w' => x = .returned (.bool (!a.dead)) ∧ Below w.heap.size w w' := by
  obtain ⟨t1, d1, l1, k1, n1, s1⟩ := a
  simp only [Vr.v]
  go_enter Try.func17, Try.ntmps17
  go_wp2_with fail
  go_ret
  exact ⟨rfl, (Below.refl _ _).alloc (Nat.le_refl _) _⟩
/-- Which values may be, of a version that lives. -/
def goodU (mark : Bool) (k n : Int) (s : ByteArray) : Bool := if mark then k == 0 && (n == 0 && decide (s.size = 0)) else (k == 1 && decide (s.size = 0)) || (k == 2 && (n == 0 && decide (s.size ≤ 64)))
end Go.Proofs.Ytkdeaogmifhnhaa

/-
  TWO CELLS COMPARED WITH '=='.
-/
import Derived.Test.YtdpglmgnbhpneaaMrgMore
namespace Go.Proofs.Ytdpglmgnbhpneaa
open Go.RowKit

noncomputable def eqC (a b : Cx) : Bool := @decide (a = b) (Classical.propDecidable _)
theorem eqC_iff {a b : Cx} : eqC a b = true ↔ a = b := by unfold eqC; simp
theorem cellEq_run (a b : Cx) (w : World) : (binOp BinOp.eql 39 (.agg a.a) (.agg b.a)).run Try.prog w = .ok (.bool (eqC a b)) w := by
  have h : eqC a b = (a.k.t.toList == b.k.t.toList && (a.k.p.toList == b.k.p.toList && (a.k.r == b.k.r && (a.k.c.toList == b.k.c.toList && eqV a.v b.v)))) := by
    rw [Bool.eq_iff_iff, eqC_iff]
    simp only [Bool.and_eq_true, eqV_iff, ba_same, decide_eq_true_eq, beq_iff_eq]
    obtain ⟨⟨a1, a2, a3, a4⟩, av⟩ := a
    obtain ⟨⟨b1, b2, b3, b4⟩, bv⟩ := b
    simp only [Cx.mk.injEq, Kb.mk.injEq, and_assoc]
  rw [h]
  unfold Cx.a eqV
  obtain ⟨⟨a1, a2, a3, a4⟩, ⟨t1, d1, l1, k1, n1, s1⟩⟩ := a
  obtain ⟨⟨b1, b2, b3, b4⟩, ⟨t2, d2, l2, k2, n2, s2⟩⟩ := b
  clear h
  go_simp
  by_cases e0 : a1.toList = b1.toList
  case neg => simp [e0]
  by_cases e1 : a2.toList = b2.toList
  case neg => simp [e0, e1]
  by_cases e2 : a3 = b3
  case neg => simp [e0, e1, e2]
  by_cases e3 : a4.toList = b4.toList
  case neg => simp [e0, e1, e2, e3]
  by_cases e4 : t1 = t2
  case neg => simp [e0, e1, e2, e3, e4]
  by_cases e5 : d1 = d2
  case neg => simp [e0, e1, e2, e3, e4, e5]
  by_cases e6 : l1 = l2
  case neg => simp [e0, e1, e2, e3, e4, e5, e6]
  by_cases e7 : k1 = k2
  case neg => simp [e0, e1, e2, e3, e4, e5, e6, e7]
  by_cases e8 : n1 = n2
  case neg => simp [e0, e1, e2, e3, e4, e5, e6, e7, e8]
  by_cases e9 : s1.toList = s2.toList
  case neg => simp [e0, e1, e2, e3, e4, e5, e6, e7, e8, e9]
  simp [e0, e1, e2, e3, e4, e5, e6, e7, e8, e9]
end Go.Proofs.Ytdpglmgnbhpneaa

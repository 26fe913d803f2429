/-
  CONTRACT: a key's version (Find), by the program and by the document.
-/
import Derived.Test.YtkdeaogmifhnhaaCxSorted
namespace Go.Proofs.Ytkdeaogmifhnhaa
open Go.RowKit

/-- The version of the first cell of a key. -/
noncomputable def fnd (k : Kb) : List Cx → Vr × Bool
  | [] => (zeroV, false)
  | c :: l => if @decide (c.k = k) (Classical.propDecidable _) then (c.v, true) else fnd k l
theorem fnd_hit {k : Kb} {c : Cx} (l : List Cx) (h : c.k = k) : fnd k (c :: l) = (c.v, true) := by unfold fnd; rw [if_pos (@decide_eq_true _ (Classical.propDecidable _) h)]
theorem fnd_miss {k : Kb} {c : Cx} (l : List Cx) (h : c.k ≠ k) : fnd k (c :: l) = fnd k l := by
  rw [fnd, if_neg (by rw [@decide_eq_false _ (Classical.propDecidable _) h]; simp)]
theorem fnd_drop {k : Kb} {l : List Cx} : ∀ i, i ≤ l.length → (∀ j c, j < i → l[j]? = some c → c.k ≠ k) → fnd k l = fnd k (l.drop i)
  | 0, _, _ => rfl
  | i + 1, hi, h => by
    have hlt : i < l.length := by omega
    rw [fnd_drop i (by omega) (fun j c hj hc => h j c (by omega) hc), List.drop_eq_getElem_cons hlt]
    exact fnd_miss _ (h i _ (by omega) (List.getElem?_eq_getElem hlt))
theorem key_first {t1 t2 p1 p2 c1 c2 : ByteArray} {r1 r2 : Int} (h : ¬ (⟨t1, p1, r1, c1⟩ : Kb) = ⟨t2, p2, r2, c2⟩) :
    ¬ t1.toList = t2.toList ∨ (t1 = t2 ∧ ¬ p1.toList = p2.toList) ∨ (t1 = t2 ∧ p1 = p2 ∧ ¬ r1 = r2) ∨ (t1 = t2 ∧ p1 = p2 ∧ r1 = r2 ∧ ¬ c1.toList = c2.toList) := by
  have e : ∀ {a b : ByteArray}, a.toList = b.toList → a = b := fun {a b} h => by rw [ba_list, ba_list] at h; exact nb_inj.1 h
  by_cases e1 : t1.toList = t2.toList
  · by_cases e2 : p1.toList = p2.toList
    · by_cases e3 : r1 = r2
      · refine Or.inr (Or.inr (Or.inr ⟨e e1, e e2, e3, fun e4 => h ?_⟩))
        rw [e e1, e e2, e3, e e4]
      · exact Or.inr (Or.inr (Or.inl ⟨e e1, e e2, e3⟩))
    · exact Or.inr (Or.inl ⟨e e1, e2⟩)
  · exact Or.inl e1
theorem find_box (w : World) (k : Kb) : ∃ wa, wa = (w.alloc (.cells #[.string k.t, .string k.p, .int .i64 k.r, .string k.c] 29)).alloc (.cells zeroV.a 33) ∧ (wa.cell? ⟨w.heap.size, 0, none⟩ = some (.string k.t) ∧ wa.cell? ⟨w.heap.size, 1, none⟩ = some (.string k.p) ∧ wa.cell? ⟨w.heap.size, 2, none⟩ = some (.int .i64 k.r) ∧ wa.cell? ⟨w.heap.size, 3, none⟩ = some (.string k.c)) ∧ wa.heap[w.heap.size + 1]? = some (.cells zeroV.a 33) ∧ wa.heap.size = w.heap.size + 1 + 1 ∧ Below w.heap.size w wa := by
  refine ⟨_, rfl, ⟨(box_cells w _ _ _ 0 _ rfl).1, (box_cells w _ _ _ 1 _ rfl).1, (box_cells w _ _ _ 2 _ rfl).1, (box_cells w _ _ _ 3 _ rfl).1⟩, ?_, by rw [World.size_alloc, World.size_alloc], ((Below.refl _ _).alloc (Nat.le_refl _) _).alloc (by simp) _⟩
  have := heap_alloc_new (w.alloc (.cells #[.string k.t, .string k.p, .int .i64 k.r, .string k.c] 29)) (.cells zeroV.a 33)
  rwa [World.size_alloc] at this
end Go.Proofs.Ytkdeaogmifhnhaa

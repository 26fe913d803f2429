/-
  ROWS OF RECORDS, over any program: a slice of structs in a row of a call's own.
-/
import Derived.Test.YtajebjkpmbehgaaGreatDoorOwn
import Derived.Laws.OwnMore
namespace Go.Proofs.YtajebjkpmbehgaaGreatDoor
open Go.RowKit

section
variable {α : Type} {c : α → List Value} {k : Nat} (hk : ∀ a, (c a).length = k)
include hk
theorem flat_lenR (l : List α) : (l.flatMap c).length = l.length * k := by
  induction l with
  | nil => simp
  | cons x r ih => rw [List.flatMap_cons, List.length_append, hk, ih, List.length_cons, Nat.add_mul]; omega
theorem flat_at : ∀ (l : List α) (i j : Nat) (a : α) (v : Value), l[i]? = some a → (c a)[j]? = some v → (l.flatMap c)[i * k + j]? = some v
  | [], i, j, a, v, h, _ => by simp at h
  | x :: r, 0, j, a, v, h, hv => by
    simp at h
    subst h
    have hj : j < (c x).length := (List.getElem?_eq_some_iff.1 hv).1
    rw [List.flatMap_cons, Nat.zero_mul, Nat.zero_add, List.getElem?_append_left hj, hv]
  | x :: r, i + 1, j, a, v, h, hv => by
    have h' : r[i]? = some a := by simpa using h
    rw [List.flatMap_cons, List.getElem?_append_right (by rw [hk, Nat.add_mul]; omega), hk]
    have : (i + 1) * k + j - k = i * k + j := by rw [Nat.add_mul]; omega
    rw [this]
    exact flat_at r i j a v h' hv
theorem flat_set : ∀ (l : List α) (i j : Nat) (a a' : α) (v : Value), l[i]? = some a → j < k → c a' = (c a).set j v → (l.flatMap c).set (i * k + j) v = (l.set i a').flatMap c
  | [], i, j, a, a', v, h, _, _ => by simp at h
  | x :: r, 0, j, a, a', v, h, hj, hc => by
    simp at h
    subst h
    rw [List.flatMap_cons, Nat.zero_mul, Nat.zero_add, List.set_append_left _ _ (by rw [hk]; exact hj), ← hc]
    simp
  | x :: r, i + 1, j, a, a', v, h, hj, hc => by
    have h' : r[i]? = some a := by simpa using h
    rw [List.flatMap_cons, List.set_append_right _ _ (by rw [hk, Nat.add_mul]; omega), hk]
    have : (i + 1) * k + j - k = i * k + j := by rw [Nat.add_mul]; omega
    rw [this, flat_set r i j a a' v h' hj hc]
    simp
theorem owns_recs {w : World} {base : Nat} {e : TypeId} {v : Value} {l : List α} (h : w.ownsRow base e k v l.length (l.flatMap c)) : ∃ ao cap, v = .slice ao l.length cap ∧ l.length ≤ cap ∧ ∀ i a, l[i]? = some a → ∃ g, ao = some ⟨g, 0, none⟩ ∧ v.ownBlock = some g ∧ ∀ j u, (c a)[j]? = some u → w.cell? ⟨g, i * k + j, none⟩ = some u := by
  have h0 := h
  rcases h.2 with ⟨rfl, h2⟩ | ⟨g, cap, cur, rfl, hb, hg, hn, _⟩
  · refine ⟨none, 0, by rw [h2], by omega, fun i a hi => ?_⟩
    have := (List.getElem?_eq_some_iff.1 hi).1
    omega
  · refine ⟨some ⟨g, 0, none⟩, cap, rfl, hn, fun i a hi => ⟨g, rfl, rfl, fun j u hu => ?_⟩⟩
    have := h0.cells (g := g) rfl _ _ (flat_at hk l i j a u hi hu)
    simpa [Addr.add_lit] using this
end
theorem flat_one {α : Type} {c : α → List Value} (h1 : ∀ a, ∀ u ∈ c a, u.oneCell' = true) (l : List α) : ∀ u ∈ l.flatMap c, u.oneCell' = true := fun u hu => by
  obtain ⟨a, _, ha⟩ := List.mem_flatMap.1 hu
  exact h1 a u ha
end Go.Proofs.YtajebjkpmbehgaaGreatDoor

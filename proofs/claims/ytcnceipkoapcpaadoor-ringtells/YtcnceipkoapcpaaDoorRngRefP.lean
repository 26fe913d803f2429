/-
  PLAIN: one more point, put where it belongs among points that stand by tokens.
-/
import Derived.Test.YtcnceipkoapcpaaDoorRngNew
namespace Go.Proofs.YtcnceipkoapcpaaDoor
open Go.RowKit

/-- Points with a gap at k that holds x. -/
def gapP (L : List Pt) (k : Nat) (x : Pt) : List Pt := L.take k ++ x :: L.drop k
theorem gapP_len (L : List Pt) {k : Nat} (x : Pt) (hk : k ≤ L.length) : (gapP L k x).length = L.length + 1 := by
  simp only [gapP, List.length_append, List.length_cons, List.length_take, List.length_drop]
  omega
theorem gapP_end (L : List Pt) (x : Pt) : gapP L L.length x = L ++ [x] := by simp [gapP]
theorem gapP_at (L : List Pt) {k : Nat} (x : Pt) (hk : k ≤ L.length) : (gapP L k x)[k]? = some x := by
  unfold gapP
  rw [List.getElem?_append_right (by simp; omega)]
  simp [Nat.min_eq_left hk]
theorem gapP_low (L : List Pt) {k j : Nat} (x : Pt) (hj : j < k) (hk : k ≤ L.length) : (gapP L k x)[j]? = L[j]? := by
  unfold gapP
  rw [List.getElem?_append_left (by simp; omega), List.getElem?_take_of_lt hj]
theorem gapP_put (L : List Pt) {k : Nat} (x y : Pt) (hk : k ≤ L.length) : (gapP L k x).set k y = gapP L k y := by
  unfold gapP
  rw [List.set_append_right _ _ (by simp; omega)]
  have : k - (L.take k).length = 0 := by simp; omega
  rw [this]
  rfl
/-- The gap goes down by one: what stood there was copied up. -/
theorem gapP_down (L : List Pt) {k : Nat} {y : Pt} (hy : L[k]? = some y) : gapP L (k + 1) y = gapP L k y := by
  have hk : k < L.length := (List.getElem?_eq_some_iff.1 hy).1
  unfold gapP
  have e1 : L.take (k + 1) = L.take k ++ [y] := by rw [List.take_add_one, hy]; rfl
  have e2 : L.drop k = y :: L.drop (k + 1) := by
    rw [List.drop_eq_getElem_cons hk]
    rw [List.getElem?_eq_getElem hk] at hy
    rw [Option.some.inj hy]
  rw [e1, e2]
  simp
theorem gapP_sort {raw : List Pt} {p : Pt} {k : Nat} (h1 : ∀ y, 0 < k → (srtP raw)[k - 1]? = some y → leP y p = true) (h2 : ∀ j y, k ≤ j → (srtP raw)[j]? = some y → leP p y = true) (hk : k ≤ (srtP raw).length) : gapP (srtP raw) k p = srtP (raw ++ [p]) := by
  have hso := srtP_sorted raw
  refine srtP_only ?_ ?_
  · unfold gapP
    refine (List.perm_middle).trans ?_
    rw [List.take_append_drop]
    exact ((srtP_perm raw).cons p).trans (List.perm_append_comm (l₁ := [p]))
  · unfold gapP
    have hso2 := hso
    rw [← List.take_append_drop k (srtP raw), List.pairwise_append] at hso2
    rw [List.pairwise_append]
    have hlow : ∀ a ∈ (srtP raw).take k, leP a p = true := fun a ha => by
      obtain ⟨j, hj, rfl⟩ := List.getElem_of_mem ha
      rw [List.getElem_take]
      simp only [List.length_take] at hj
      have hk0 : 0 < k := by omega
      have hkl : k - 1 < (srtP raw).length := by omega
      have hq := h1 _ hk0 (List.getElem?_eq_getElem hkl)
      by_cases he : j = k - 1
      · subst he; exact hq
      · exact leP_trans _ _ _ (List.pairwise_iff_getElem.1 hso j (k - 1) (by omega) hkl (by omega)) hq
    have hup : ∀ b ∈ (srtP raw).drop k, leP p b = true := fun b hb => by
      obtain ⟨j, hj, rfl⟩ := List.getElem_of_mem hb
      simp only [List.length_drop] at hj
      rw [List.getElem_drop]
      exact h2 (k + j) _ (by omega) (List.getElem?_eq_getElem (by omega))
    refine ⟨hso2.1, List.pairwise_cons.2 ⟨hup, hso2.2.1⟩, fun a ha b hb => ?_⟩
    rcases List.mem_cons.1 hb with rfl | hb
    · exact hlow a ha
    · exact hso2.2.2 a ha b hb
/-- A row of points of the call's own, one of them set. -/
theorem ptsV_set {l : List Pt} {i : Nat} {p q : Pt} (hp : l[i]? = some p) : ((ptsV l).set (i * 2) (.int .i64 q.tok)).set (i * 2 + 1) (.int .i64 (q.nd : Int)) = ptsV (l.set i q) := by
  have h1 := flat_set ptV_len l i 0 p ⟨q.tok, p.nd⟩ (.int .i64 q.tok) hp (by omega) rfl
  rw [Nat.add_zero] at h1
  have hi : i < l.length := (List.getElem?_eq_some_iff.1 hp).1
  have hp2 : (l.set i ⟨q.tok, p.nd⟩)[i]? = some ⟨q.tok, p.nd⟩ := by simp [hi]
  have h2 := flat_set ptV_len (l.set i ⟨q.tok, p.nd⟩) i 1 ⟨q.tok, p.nd⟩ q (.int .i64 (q.nd : Int)) hp2 (by omega) rfl
  unfold ptsV
  rw [h1, h2, List.set_set]
end Go.Proofs.YtcnceipkoapcpaaDoor

/-
  PLAIN: Norm of Norm, of doubles, of parts; what Find tells of it; no program.
-/
import Derived.Test.YtkdeaogmifhnhaaNormGood
namespace Go.Proofs.Ytkdeaogmifhnhaa
open Go.RowKit

theorem nrm_nrm (l : List Cx) : nrm (nrm l) = nrm l := nrm_of_rising (nrm_rising l)
/-- Each one twice. -/
def dbl (l : List Cx) : List Cx := l.flatMap fun c => [c, c]
theorem dbl_cons (c : Cx) (l : List Cx) : dbl (c :: l) = c :: c :: dbl l := rfl
theorem dbl_snoc (l : List Cx) (c : Cx) : dbl (l ++ [c]) = dbl l ++ [c, c] := by unfold dbl; rw [List.flatMap_append]; rfl
theorem dbl_len (l : List Cx) : (dbl l).length = 2 * l.length := by
  induction l with
  | nil => rfl
  | cons c l ih => rw [dbl_cons, List.length_cons, List.length_cons, ih, List.length_cons]; omega
theorem ofK_dbl (κ : Kb) (l : List Cx) : ofK κ (dbl l) = dbl (ofK κ l) := by
  induction l with
  | nil => rfl
  | cons c l ih =>
    rw [dbl_cons]
    by_cases h : c.k = κ
    · rw [ofK_cons_hit _ h, ofK_cons_hit _ h, ofK_cons_hit _ h, dbl_cons, ih]
    · rw [ofK_cons_miss _ h, ofK_cons_miss _ h, ofK_cons_miss _ h, ih]
theorem fK_dbl (l : List Cx) : fK (dbl l) = fK l := by
  induction l with
  | nil => rfl
  | cons c l ih =>
    have e1 : dbl (c :: l) = [c, c] ++ dbl l := rfl
    have e2 : c :: l = [c] ++ l := rfl
    have e3 : fK [c, c] = fK [c] := by show [jnC c c] = [c]; rw [jnC_self]
    rw [e1, e2, fK_append, fK_append, ih, e3]
theorem nrm_dbl (l : List Cx) : nrm (dbl l) = nrm l :=
  rise_ext (nrm_rising _) (nrm_rising _) fun κ => by rw [nrm_ofK, nrm_ofK, ofK_dbl, fK_dbl]
theorem fK_short {l : List Cx} (h : l.length ≤ 1) : fK l = l := by
  match l, h with
  | [], _ => rfl
  | [x], _ => rfl
theorem nrm_parts {G : List Cx} (h : ∀ c ∈ G, goodC c = true) (k : Nat) : nrm (nrm (G.drop k) ++ nrm (G.take k)) = nrm G :=
  rise_ext (nrm_rising _) (nrm_rising _) fun κ => by
    have e : ofK κ G = ofK κ (G.take k) ++ ofK κ (G.drop k) := by rw [← ofK_append, List.take_append_drop]
    rw [nrm_ofK, nrm_ofK, ofK_append, nrm_ofK, nrm_ofK, fK_append, fK_short (fK_one _), fK_short (fK_one _), ← fK_append, e]
    exact fK_comm (ofK_good fun c hc => h c (List.mem_of_mem_drop hc)) (ofK_good fun c hc => h c (List.mem_of_mem_take hc))
theorem fK_ge {c : Cx} (l : List Cx) : c ∈ l → ∃ y, fK l = [y] ∧ 0 ≤ cv y.v c.v := by
  refine snoc_ind (P := fun l => c ∈ l → ∃ y, fK l = [y] ∧ 0 ≤ cv y.v c.v) (fun h => by cases h) (fun l x ih h => ?_) l
  rw [fK_snoc]
  rcases List.mem_append.1 h with h1 | h1
  · obtain ⟨y, hy, hg⟩ := ih h1
    refine ⟨jnC y x, by rw [hy]; rfl, ?_⟩
    have g1 := (jn_ge y.v x.v).1
    show 0 ≤ cv (jn y.v x.v) c.v
    have a1 := cv_n c.v y.v
    have a2 := cv_n y.v (jn y.v x.v)
    have a3 := cv_t c.v y.v (jn y.v x.v) (by omega) (by omega)
    have a4 := cv_n c.v (jn y.v x.v)
    omega
  · obtain rfl : c = x := by simpa using h1
    have h1 := fK_one l
    match hl : fK l, h1 with
    | [], _ => exact ⟨c, rfl, by rw [cv_self]; omega⟩
    | [z], _ => exact ⟨jnC z c, rfl, (jn_ge z.v c.v).2⟩
theorem fnd_nrm {G : List Cx} {c : Cx} (h : c ∈ G) : ∃ v, fnd c.k (nrm G) = (v, true) ∧ 0 ≤ cv v c.v := by
  obtain ⟨y, hy, hg⟩ := fK_ge (ofK c.k G) (ofK_mem.2 ⟨h, rfl⟩)
  rw [← nrm_ofK] at hy
  have hm : y ∈ ofK c.k (nrm G) := by rw [hy]; simp
  obtain ⟨h1, h2⟩ := ofK_mem.1 hm
  refine ⟨y.v, ?_, hg⟩
  rw [← h2]; exact fnd_mem (nrm_rising G) h1
theorem srtB_nrm (G : List Cx) : srtB (nrm G) = true := by
  have h := nrm_rising G
  refine srtB_true fun j x y hj hx hy => ?_
  obtain ⟨a1, a2⟩ := List.getElem?_eq_some_iff.1 hx
  obtain ⟨b1, b2⟩ := List.getElem?_eq_some_iff.1 hy
  have := List.pairwise_iff_getElem.1 h j (j + 1) a1 b1 (by omega)
  rw [a2, b2] at this
  exact this
end Go.Proofs.Ytkdeaogmifhnhaa

/-
  PLAIN: the Norm of many lists, in any order (MergeWhole); a Norm's cells are the list's own (MergeRises).
-/
import Derived.Test.YtkdeaogmifhnhaaMrgPlain
import Derived.Test.YtkdeaogmifhnhaaNormWhole
namespace Go.Proofs.Ytkdeaogmifhnhaa

theorem fK_nrm (κ : Kb) (l : List Cx) : fK (ofK κ (nrm l)) = fK (ofK κ l) := by rw [nrm_ofK, fK_short (fK_one _)]
/-- The Norm of Norms, one behind the other, is the Norm of all. -/
theorem nrm_flat (L : List (List Cx)) : nrm (L.map nrm).flatten = nrm L.flatten :=
  rise_ext (nrm_rising _) (nrm_rising _) fun κ => by
    rw [nrm_ofK, nrm_ofK]
    induction L with
    | nil => rfl
    | cons l L ih => rw [List.map_cons, List.flatten_cons, List.flatten_cons, ofK_append, ofK_append, fK_append, fK_append, ih, fK_nrm]
/-- Lists of good cells: their order does not matter. -/
theorem nrm_revs {L : List (List Cx)} (h : ∀ l ∈ L, ∀ c ∈ l, goodC c = true) : nrm L.reverse.flatten = nrm L.flatten :=
  rise_ext (nrm_rising _) (nrm_rising _) fun κ => by
    rw [nrm_ofK, nrm_ofK]
    induction L with
    | nil => rfl
    | cons l L ih =>
      have h1 : ∀ c ∈ l, goodC c = true := h l (by simp)
      have h2 : ∀ c ∈ L.flatten, goodC c = true := fun c hc => by
        obtain ⟨x, hx, hcx⟩ := List.mem_flatten.1 hc
        exact h x (by simp [hx]) c hcx
      have e : (l :: L).reverse.flatten = L.reverse.flatten ++ l := by simp
      rw [e, List.flatten_cons, ofK_append, ofK_append, fK_append, ih (fun x hx => h x (by simp [hx])), ← fK_append, fK_comm (ofK_good h2) (ofK_good h1)]
/-- What All of good lists, the last first, gives. -/
theorem nrm_whole {L : List (List Cx)} (h : ∀ l ∈ L, ∀ c ∈ l, goodC c = true) : nrm (L.reverse.map nrm).flatten = nrm L.flatten := by rw [nrm_flat, nrm_revs h]

theorem jnC_or {a b : Cx} (hk : a.k = b.k) : jnC a b = a ∨ jnC a b = b := by
  unfold jnC
  rcases jn_or a.v b.v with e | e
  · left; rw [e]
  · right; rw [e, hk]
theorem fK_mem {κ : Kb} : ∀ (n : Nat) (l : List Cx), l.length = n → (∀ c ∈ l, c.k = κ) → ∀ c ∈ fK l, c ∈ l := fun n => by
  induction n with
  | zero => intro l hl _ c hc; obtain rfl := List.eq_nil_of_length_eq_zero hl; simp [fK] at hc
  | succ n ih =>
    intro l hl hk c hc
    rcases List.eq_nil_or_concat l with e | ⟨r, x, e⟩
    · subst e; simp at hl
    · rw [List.concat_eq_append] at e
      subst e
      have hr : r.length = n := by simp at hl; exact hl
      have i2 := ih r hr (fun y hy => hk y (by simp [hy]))
      have h1 := fK_one r
      rw [fK_snoc] at hc
      match hf : fK r, h1 with
      | [], _ =>
        rw [hf] at hc
        have : c = x := by simpa [fS] using hc
        subst this; simp
      | [y], _ =>
        rw [hf] at hc
        have e : c = jnC y x := by simpa [fS] using hc
        have hy : y ∈ r := i2 y (by rw [hf]; simp)
        rcases jnC_or ((hk y (by simp [hy])).trans (hk x (by simp)).symm) with e2 | e2
        · rw [e, e2]; simp [hy]
        · rw [e, e2]; simp
theorem nrm_mem {l : List Cx} {c : Cx} (hc : c ∈ nrm l) : c ∈ l := by
  have h1 : c ∈ ofK c.k (nrm l) := ofK_mem.2 ⟨hc, rfl⟩
  rw [nrm_ofK] at h1
  exact (ofK_mem.1 (fK_mem (κ := c.k) _ _ rfl (fun x hx => (ofK_mem.1 hx).2) c h1)).1
theorem nrm_flat_mem {L : List (List Cx)} {c : Cx} (hc : c ∈ nrm (L.map nrm).flatten) : ∃ l ∈ L, c ∈ l := by
  rw [nrm_flat] at hc
  exact List.mem_flatten.1 (nrm_mem hc)
/-- All counts together are the lengths of the Norms. -/
theorem j2_total {ls : List (List Cx)} {R : List (Cx × Nat)} (hp : R.Perm (prL ls)) : ((j2 (R.map Prod.fst)).map Prod.snd).sum = (ls.map List.length).sum := by
  rw [j2_sum, List.length_map, hp.length_eq, ← List.length_map (f := Prod.fst), prL_fst, List.length_flatten]
end Go.Proofs.Ytkdeaogmifhnhaa

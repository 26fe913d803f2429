/-
  PLAIN: the counts that Each tells are the document's.
-/
import Derived.Test.YtdpglmgnbhpneaaMrgRefCnt
namespace Go.Proofs.Ytdpglmgnbhpneaa

theorem fK_empty {l : List Cx} (h : fK l = []) : l = [] := by
  cases l with
  | nil => rfl
  | cons c l => simp [fK] at h
theorem ofK_other {κ : Kb} {x : Cx} (l : List Cx) (h : x.k ≠ κ) : ofK κ (l ++ [x]) = ofK κ l := by
  rw [ofK_append, ofK_cons_miss _ h]; show _ ++ [] = _; simp
theorem ofK_same {κ : Kb} {x : Cx} (l : List Cx) (h : x.k = κ) : (ofK κ (l ++ [x])).length = (ofK κ l).length + 1 := by
  rw [ofK_append, ofK_cons_hit _ h, List.length_append]; rfl
theorem kx_self0 (x : Cx) : kx x x = 0 := (kx_z x x).2 rfl
theorem j2_cnt {S : List Cx} : Up S → ∀ y ∈ j2 S, y.2 = (ofK y.1.k S).length := by
  refine snoc_ind (P := fun S => Up S → ∀ y ∈ j2 S, y.2 = (ofK y.1.k S).length) (fun _ y hy => by simp [j2] at hy) (fun l x ih hU => ?_) S
  have i := ih hU.left
  obtain ⟨h1, h2⟩ := jr_both hU.left
  have hov : ∀ z ∈ jr l, kx z x ≤ 0 := fun z hz => by
    obtain ⟨y, hy, e⟩ := jr_keys hz
    rw [← kx_left e]; exact hU.over y hy x (by simp)
  rw [j2_snoc]
  rcases List.eq_nil_or_concat (j2 l) with e | ⟨O, y, e⟩
  · have hl : l = [] := by
      cases l with
      | nil => rfl
      | cons c l => exact absurd e (j2_ne (by simp))
    subst hl
    rw [e, j2S_nil]
    intro y hy
    obtain rfl : y = (x, 1) := by simpa using hy
    show 1 = (ofK x.k ([] ++ [x])).length
    rw [ofK_same [] rfl]; rfl
  · rw [List.concat_eq_append] at e
    have hj : jr l = O.map Prod.fst ++ [y.1] := by rw [← j2_fst, e, List.map_append]; rfl
    rw [hj] at h1 hov
    have hP := List.pairwise_append.1 h1
    rw [e] at i ⊢
    by_cases hk : kx y.1 x = 0
    · have hyx := (kx_z y.1 x).1 hk
      rw [j2S_same hk]
      intro z hz
      rcases List.mem_append.1 hz with hz | hz
      · have hlt : kx z.1 y.1 < 0 := hP.2.2 z.1 (List.mem_map_of_mem hz) y.1 (by simp)
        have hne : x.k ≠ z.1.k := fun e2 => by
          have := (kx_z z.1 y.1).2 (e2.symm.trans hyx.symm)
          omega
        rw [ofK_other l hne]
        exact i z (by simp [hz])
      · obtain rfl : z = _ := by simpa using hz
        show y.2 + 1 = (ofK y.1.k (l ++ [x])).length
        rw [ofK_same l hyx.symm, ← i y (by simp)]
    · rw [j2S_other hk]
      have hyl : kx y.1 x < 0 := by have := hov y.1 (by simp); omega
      have hall : ∀ z ∈ O ++ [y], kx z.1 x < 0 := fun z hz => by
        rcases List.mem_append.1 hz with h | h
        · exact kx_strict (hP.2.2 z.1 (List.mem_map_of_mem h) y.1 (by simp)) hyl
        · obtain rfl : z = y := by simpa using h
          exact hyl
      intro z hz
      rcases List.mem_append.1 hz with hz | hz
      · have hne : x.k ≠ z.1.k := fun e2 => by
          have h3 := (kx_z z.1 x).2 e2.symm
          have h4 := hall z hz
          omega
        rw [ofK_other l hne]
        exact i z hz
      · obtain rfl : z = (x, 1) := by simpa using hz
        show 1 = (ofK x.k (l ++ [x])).length
        rw [ofK_same l rfl]
        have h5 : ofK x.k (jr l) = [] := ofK_nil fun u hu e2 => by
          rw [hj] at hu
          have h3 := (kx_z u x).2 e2
          have : kx u x < 0 := by
            rcases List.mem_append.1 hu with h | h
            · obtain ⟨q, hq, rfl⟩ := List.mem_map.1 h
              exact hall q (by simp [hq])
            · obtain rfl : u = y.1 := by simpa using h
              exact hyl
          omega
        rw [h2] at h5
        rw [fK_empty h5]; rfl
theorem fnd_yes {k : Kb} {l : List Cx} {c : Cx} (h : c ∈ l) (hk : c.k = k) : (fnd k l).2 = true := by
  induction l with
  | nil => cases h
  | cons x l ih =>
    by_cases hx : x.k = k
    · rw [fnd_hit l hx]
    · rw [fnd_miss l hx]
      rcases List.mem_cons.1 h with e | e
      · subst e; exact absurd hk hx
      · exact ih e
theorem nrm_one (κ : Kb) (l : List Cx) : (ofK κ (nrm l)).length = if (fnd κ l).2 then 1 else 0 := by
  rw [nrm_ofK]
  rcases List.eq_nil_or_concat (ofK κ l) with e | ⟨m, x, e⟩
  · rw [e, fnd_none (fun y hy hk => by have := (ofK_mem (κ := κ)).2 ⟨hy, hk⟩; rw [e] at this; cases this)]; rfl
  · have hx : x ∈ ofK κ l := by rw [e]; simp
    have h1 := ofK_mem.1 hx
    rw [fnd_yes h1.1 h1.2]
    have h2 := fK_one (ofK κ l)
    have h3 : fK (ofK κ l) ≠ [] := fun h => by rw [fK_empty h] at hx; cases hx
    have h4 := List.length_pos_iff.2 h3
    simp; omega
theorem flat_cnt (κ : Kb) (vs : List Lv) : (ofK κ (nfl vs)).length = cntK vs κ := by
  unfold nfl cntK
  induction vs with
  | nil => rfl
  | cons v r ih =>
    rw [List.map_cons, List.flatten_cons, ofK_append, List.length_append, ih, nrm_one, List.filter_cons]
    by_cases hb : (fnd κ v.l).2 = true
    · simp [hb]; omega
    · simp [hb]
theorem pair_all {f : Cx → Nat} {L : List (Cx × Nat)} (h : ∀ y ∈ L, y.2 = f y.1) : L = (L.map Prod.fst).map fun c => (c, f c) := by
  induction L with
  | nil => rfl
  | cons y L ih =>
    rw [List.map_cons, List.map_cons, ← ih (fun z hz => h z (by simp [hz])), ← h y (by simp)]
/-- What Each tells: the cells of All, each with the number of lists that have its key. -/
theorem j2_tells {vs ss : List Lv} (hsl : ss.map Lv.l = vs.map (fun v => nrm v.l)) {R : List (Cx × Nat)} (hs : SS R) (hp : R.Perm (prL (ss.map Lv.l))) :
    j2 (R.map Prod.fst) = (nrm (nfl vs)).map fun c => (c, cntK vs c.k) := by
  have hris : ∀ l ∈ ss.map Lv.l, Rising l := fun l hlm => by
    rw [hsl] at hlm
    obtain ⟨v, _, rfl⟩ := List.mem_map.1 hlm
    exact nrm_rising _
  have h1 : (j2 (R.map Prod.fst)).map Prod.fst = nrm (nfl vs) := by
    rw [j2_fst, ss_nrm hris hs hp, hsl]; rfl
  rw [← h1]
  refine pair_all fun y hy => ?_
  rw [j2_cnt (ss_up hs) y hy, ← flat_cnt]
  have h2 : (R.map Prod.fst).Perm (nfl vs) := by
    have := hp.map Prod.fst
    rw [prL_fst, hsl] at this
    exact this
  exact (h2.filter _).length_eq
end Go.Proofs.Ytdpglmgnbhpneaa

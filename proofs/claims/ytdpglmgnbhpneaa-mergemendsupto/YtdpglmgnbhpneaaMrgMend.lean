/-
  PLAIN: who gets what he lacks has what both have; who lacks nothing of each other has the same.
-/
import Derived.Test.YtdpglmgnbhpneaaMrgFar
import Derived.Test.YtdpglmgnbhpneaaNormWhole
namespace Go.Proofs.Ytdpglmgnbhpneaa
open Go.RowKit

theorem fnd_has {k : Kb} {L : List Cx} {v : Vr} (h : fnd k L = (v, true)) : ∃ d ∈ L, d.k = k ∧ d.v = v := by
  induction L with
  | nil => simp [fnd] at h
  | cons x L ih =>
    by_cases hx : x.k = k
    · rw [fnd_hit L hx] at h
      exact ⟨x, by simp, hx, by injection h⟩
    · rw [fnd_miss L hx] at h
      obtain ⟨d, hd, h2⟩ := ih h
      exact ⟨d, by simp [hd], h2⟩
theorem cov_true {B : List Cx} (hB : Rising B) {c : Cx} (h : cov (dw c B) c = true) : ∃ d ∈ B, d.k = c.k ∧ 0 ≤ cv d.v c.v := by
  rw [lck_look hB, Bool.and_eq_true] at h
  obtain ⟨d, hd, e1, e2⟩ := fnd_has (k := c.k) (L := B) (v := (fnd c.k B).1) (by rw [← h.1])
  exact ⟨d, hd, e1, by rw [e2]; simpa using h.2⟩
theorem cov_of {B : List Cx} (hB : Rising B) {c d : Cx} (hd : d ∈ B) (hk : d.k = c.k) (h : 0 ≤ cv d.v c.v) : cov (dw c B) c = true := by
  rw [lck_look hB, ← hk, fnd_mem hB hd]
  simpa using h
theorem rise_one {L : List Cx} (h : Rising L) (κ : Kb) : (ofK κ L).length ≤ 1 := by rw [← fK_of_rising h]; exact fK_one _
theorem rise_same {L : List Cx} (h : Rising L) {c d : Cx} (hc : c ∈ L) (hd : d ∈ L) (hk : c.k = d.k) : c = d := by
  have h1 : c ∈ ofK d.k L := ofK_mem.2 ⟨hc, hk⟩
  have h2 : d ∈ ofK d.k L := ofK_mem.2 ⟨hd, rfl⟩
  have h3 := rise_one h d.k
  match hl : ofK d.k L, h3 with
  | [], _ => rw [hl] at h1; cases h1
  | [x], _ =>
    rw [hl] at h1 h2
    rw [List.mem_singleton.1 h1, List.mem_singleton.1 h2]
theorem rise_mem {A B : List Cx} (hA : Rising A) (hB : Rising B) (h1 : ∀ c ∈ A, c ∈ B) (h2 : ∀ c ∈ B, c ∈ A) : A = B := by
  refine rise_ext hA hB fun κ => ?_
  have la := rise_one hA κ
  have lb := rise_one hB κ
  have m : ∀ c, c ∈ ofK κ A ↔ c ∈ ofK κ B := fun c => by
    rw [ofK_mem, ofK_mem]
    exact ⟨fun ⟨a, b⟩ => ⟨h1 c a, b⟩, fun ⟨a, b⟩ => ⟨h2 c a, b⟩⟩
  match ha : ofK κ A, hb : ofK κ B, la, lb with
  | [], [], _, _ => rfl
  | [], [y], _, _ => exact absurd ((m y).2 (by rw [hb]; simp)) (by rw [ha]; simp)
  | [x], [], _, _ => exact absurd ((m x).1 (by rw [ha]; simp)) (by rw [hb]; simp)
  | [x], [y], _, _ =>
    have := (m x).1 (by rw [ha]; simp)
    rw [hb] at this
    rw [List.mem_singleton.1 this]
theorem nrm_goods {G : List Cx} (h : ∀ c ∈ G, goodC c = true) : ∀ c ∈ nrm G, goodC c = true := fun c hc => by
  have h1 : c ∈ ofK c.k (nrm G) := ofK_mem.2 ⟨hc, rfl⟩
  rw [nrm_ofK] at h1
  exact ((ofK_good (κ := c.k) h).fK c h1).1
theorem good_same {c d : Cx} (hc : goodC c = true) (hd : goodC d = true) (hk : d.k = c.k) (h : cv d.v c.v = 0) : d = c := by
  have g1 := good_v hc
  have g2 := good_v hd
  rw [hk] at g2
  have := good_inj g2 g1 h
  cases c; cases d
  simp only at hk this
  rw [hk, this]
theorem lck_nil {B A : List Cx} (h : ∀ c ∈ A, cov (dw c B) c = true) : lck B A = [] := by
  unfold lck
  rw [List.filter_eq_nil_iff]
  intro c hc
  simp [h c hc]
theorem lck_all {B A : List Cx} (h : lck B A = []) : ∀ c ∈ A, cov (dw c B) c = true := fun c hc => by
  unfold lck at h
  rw [List.filter_eq_nil_iff] at h
  simpa using h c hc
/-- Nothing is lacking in what has all. -/
theorem lck_whole {G A : List Cx} (h : ∀ c ∈ A, c ∈ G) : lck (nrm G) A = [] := lck_nil fun c hc => by
  obtain ⟨v, h1, h2⟩ := fnd_nrm (h c hc)
  rw [lck_look (nrm_rising G), h1]
  simpa using h2
/-- Both ways: the same. -/
theorem lck_both {A B : List Cx} (hA : Rising A) (hB : Rising B) (gA : ∀ c ∈ A, goodC c = true) (gB : ∀ c ∈ B, goodC c = true) : (lck B A = [] ∧ lck A B = []) ↔ A = B := by
  constructor
  · rintro ⟨h1, h2⟩
    have key : ∀ {A B : List Cx}, Rising A → Rising B → (∀ c ∈ A, goodC c = true) → (∀ c ∈ B, goodC c = true) → lck B A = [] → lck A B = [] → ∀ c ∈ A, c ∈ B := fun {A B} hA hB gA gB h1 h2 c hc => by
      obtain ⟨d, hd, e1, e2⟩ := cov_true hB (lck_all h1 c hc)
      obtain ⟨c', hc', e3, e4⟩ := cov_true hA (lck_all h2 d hd)
      have : c' = c := rise_same hA hc' hc (e3.trans e1)
      subst this
      have h3 := cv_n d.v c'.v
      rw [← good_same (gA _ hc) (gB _ hd) e1 (by omega)]
      exact hd
    exact rise_mem hA hB (key hA hB gA gB h1 h2) (key hB hA gB gA h2 h1)
  · rintro rfl
    have h : lck A A = [] := lck_nil fun c hc => cov_of hA hc rfl (by rw [cv_self]; omega)
    exact ⟨h, h⟩
/-- Who gets what he lacks has what both have. -/
theorem lck_mends {A B : List Cx} (hA : Rising A) (hB : Rising B) (gA : ∀ c ∈ A, goodC c = true) (gB : ∀ c ∈ B, goodC c = true) : nrm (B ++ lck B A) = nrm (A ++ B) := by
  refine rise_ext (nrm_rising _) (nrm_rising _) fun κ => ?_
  rw [nrm_ofK, nrm_ofK, ofK_append, ofK_append]
  have es : ofK κ (lck B A) = (ofK κ A).filter fun c => !cov (dw c B) c := by
    unfold lck ofK
    rw [List.filter_filter, List.filter_filter]
    congr 1
    funext c
    rw [Bool.and_comm]
  rw [es]
  have la := rise_one hA κ
  have lb := rise_one hB κ
  have gA' := ofK_good (κ := κ) gA
  have gB' := ofK_good (κ := κ) gB
  match ha : ofK κ A, la with
  | [], _ => simp
  | [c], _ =>
    have hcm : c ∈ A ∧ c.k = κ := ofK_mem.1 (by rw [ha]; simp)
    by_cases hcv : cov (dw c B) c = true
    · have e0 : ([c] : List Cx).filter (fun c => !cov (dw c B) c) = [] := by simp [hcv]
      rw [e0, List.append_nil]
      obtain ⟨d, hd, e1, e2⟩ := cov_true hB hcv
      have hdb : d ∈ ofK κ B := ofK_mem.2 ⟨hd, e1.trans hcm.2⟩
      match hb : ofK κ B, lb with
      | [], _ => rw [hb] at hdb; cases hdb
      | [y], _ =>
        rw [hb] at hdb
        obtain rfl : d = y := List.mem_singleton.1 hdb
        show [d] = [jnC c d]
        have hn := cv_n c.v d.v
        by_cases h0 : cv c.v d.v < 0
        · have : jnC c d = d := by unfold jnC jn; rw [if_pos h0, ← e1]
          rw [this]
        · have : jnC c d = c := by unfold jnC jn; rw [if_neg h0]
          rw [this, good_same (gA _ hcm.1) (gB _ hd) e1 (by omega)]
    · have e0 : ([c] : List Cx).filter (fun c => !cov (dw c B) c) = [c] := by simp [hcv]
      rw [e0]
      rw [ha] at gA'
      exact fK_comm gB' gA'
theorem lck_rising {B A : List Cx} (hA : Rising A) : Rising (lck B A) := List.Pairwise.filter _ hA
end Go.Proofs.Ytdpglmgnbhpneaa

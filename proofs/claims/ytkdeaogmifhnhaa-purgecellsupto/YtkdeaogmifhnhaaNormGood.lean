/-
  PLAIN: of good cells, neither order nor doubling matters; no program.
-/
import Derived.Test.YtkdeaogmifhnhaaCxPlain
import Derived.Test.YtkdeaogmifhnhaaCxFind
namespace Go.Proofs.Ytkdeaogmifhnhaa
open Go.RowKit

theorem jnC_assoc (a b c : Cx) : jnC (jnC a b) c = jnC a (jnC b c) := by unfold jnC; rw [jn_assoc]
theorem jnC_self (a : Cx) : jnC a a = a := by unfold jnC; rw [jn_self]
theorem good_v {c : Cx} (h : goodC c = true) : goodV (decide (c.k.c.size = 0)) c.v = true := by
  unfold goodC at h; exact (Bool.and_eq_true_iff.1 h).2
theorem jnC_comm {a b : Cx} (ha : goodC a = true) (hb : goodC b = true) (hk : a.k = b.k) : jnC a b = jnC b a := by
  have h1 := good_v ha
  have h2 := good_v hb
  rw [hk] at h1
  unfold jnC
  rw [jn_comm h1 h2, hk]
theorem jnC_good {a b : Cx} (ha : goodC a = true) (hb : goodC b = true) (hk : a.k = b.k) : goodC (jnC a b) = true := by
  have h1 := good_v ha
  have h2 := good_v hb
  have h3 : goodK a.k.ky = true := by unfold goodC at ha; exact (Bool.and_eq_true_iff.1 ha).1
  rw [← hk] at h2
  have := jn_good h1 h2
  show (goodK a.k.ky && goodV (decide (a.k.c.size = 0)) (jn a.v b.v)) = true
  rw [h3, this]; rfl
/-- Two joins, one behind the other. -/
def jo : List Cx → List Cx → List Cx
  | [], y => y
  | x :: _, [] => [x]
  | x :: _, y :: _ => [jnC x y]
theorem fS_jo (a b : List Cx) (x : Cx) : fS (jo a b) x = jo a (fS b x) := by
  cases a with
  | nil => rfl
  | cons p a =>
    cases b with
    | nil => rfl
    | cons q b => show [jnC (jnC p q) x] = [jnC p (jnC q x)]; rw [jnC_assoc]
theorem fK_one (l : List Cx) : (fK l).length ≤ 1 := by cases l <;> simp [fK]
theorem jo_nil {a : List Cx} (h : a.length ≤ 1) : jo a [] = a := by
  match a, h with
  | [], _ => rfl
  | [x], _ => rfl
theorem fK_append (a b : List Cx) : fK (a ++ b) = jo (fK a) (fK b) := by
  refine snoc_ind (P := fun b => fK (a ++ b) = jo (fK a) (fK b)) ?_ (fun l x ih => ?_) b
  · rw [List.append_nil]; exact (jo_nil (fK_one a)).symm
  · rw [← List.append_assoc, fK_snoc, ih, fS_jo, ← fK_snoc]
/-- Good cells of one key. -/
def OneGood (κ : Kb) (l : List Cx) : Prop := ∀ c ∈ l, goodC c = true ∧ c.k = κ
theorem OneGood.fK {κ : Kb} {l : List Cx} (h : OneGood κ l) : OneGood κ (fK l) := by
  refine snoc_ind (P := fun l => OneGood κ l → OneGood κ (Go.Proofs.Ytkdeaogmifhnhaa.fK l)) (fun _ c hc => by cases hc) (fun l x ih h => ?_) l h
  have h1 := ih fun c hc => h c (by simp [hc])
  have hx := h x (by simp)
  rw [fK_snoc]
  intro c hc
  match hl : Go.Proofs.Ytkdeaogmifhnhaa.fK l, h1 with
  | [], _ =>
    rw [hl] at hc
    obtain rfl : c = x := by simpa [fS] using hc
    exact hx
  | y :: r, h1 =>
    rw [hl] at hc
    obtain rfl : c = jnC y x := by simpa [fS] using hc
    have hy := h1 y (by simp)
    exact ⟨jnC_good hy.1 hx.1 (hy.2.trans hx.2.symm), hy.2⟩
theorem jo_comm {κ : Kb} {a b : List Cx} (ha : OneGood κ a) (hb : OneGood κ b) (la : a.length ≤ 1) (lb : b.length ≤ 1) : jo a b = jo b a := by
  match a, la, b, lb with
  | [], _, [], _ => rfl
  | [], _, [y], _ => rfl
  | [x], _, [], _ => rfl
  | [x], _, [y], _ =>
    have h1 := ha x (by simp)
    have h2 := hb y (by simp)
    show [jnC x y] = [jnC y x]
    rw [jnC_comm h1.1 h2.1 (h1.2.trans h2.2.symm)]
theorem jo_self {a : List Cx} (h : a.length ≤ 1) : jo a a = a := by
  match a, h with
  | [], _ => rfl
  | [x], _ => show [jnC x x] = [x]; rw [jnC_self]
theorem fK_comm {κ : Kb} {a b : List Cx} (ha : OneGood κ a) (hb : OneGood κ b) : fK (a ++ b) = fK (b ++ a) := by
  rw [fK_append, fK_append, jo_comm ha.fK hb.fK (fK_one a) (fK_one b)]
theorem fK_rev {κ : Kb} : ∀ {l : List Cx}, OneGood κ l → fK l.reverse = fK l
  | [], _ => rfl
  | c :: l, h => by
    have hl : OneGood κ l := fun x hx => h x (by simp [hx])
    have hc : OneGood κ [c] := fun x hx => h x (by simp at hx; simp [hx])
    rw [List.reverse_cons, fK_append, fK_rev hl, ← fK_append, fK_comm hl hc]; rfl
theorem ofK_rev (κ : Kb) (l : List Cx) : ofK κ l.reverse = (ofK κ l).reverse := by unfold ofK; rw [List.filter_reverse]
theorem ofK_good {κ : Kb} {l : List Cx} (h : ∀ c ∈ l, goodC c = true) : OneGood κ (ofK κ l) := fun c hc => by
  obtain ⟨h1, h2⟩ := ofK_mem.1 hc
  exact ⟨h c h1, h2⟩
theorem nrm_rev {l : List Cx} (h : ∀ c ∈ l, goodC c = true) : nrm l.reverse = nrm l :=
  rise_ext (nrm_rising _) (nrm_rising _) fun κ => by rw [nrm_ofK, nrm_ofK, ofK_rev, fK_rev (ofK_good h)]
/-- A rising list is its own Norm. -/
theorem fK_of_rising {L : List Cx} (h : Rising L) (κ : Kb) : fK (ofK κ L) = ofK κ L := by
  induction L with
  | nil => rfl
  | cons x L ih =>
    obtain ⟨h1, h2⟩ := List.pairwise_cons.1 h
    by_cases hx : x.k = κ
    · have hn : ofK κ L = [] := ofK_nil fun z hz e => kx_ne (h1 z hz) (hx.trans e.symm)
      rw [ofK_cons_hit _ hx, hn]; rfl
    · rw [ofK_cons_miss _ hx]; exact ih h2
theorem nrm_of_rising {L : List Cx} (h : Rising L) : nrm L = L := rise_ext (nrm_rising _) h fun κ => by rw [nrm_ofK, fK_of_rising h]
theorem fnd_mem {L : List Cx} (h : Rising L) {c : Cx} (hc : c ∈ L) : fnd c.k L = (c.v, true) := by
  induction L with
  | nil => cases hc
  | cons x L ih =>
    obtain ⟨h1, h2⟩ := List.pairwise_cons.1 h
    rcases List.mem_cons.1 hc with rfl | hc
    · exact fnd_hit _ rfl
    · rw [fnd_miss _ (kx_ne (h1 c hc))]; exact ih h2 hc
def goods (l : List Cx) : List Cx := l.filter goodC
theorem goods_all (l : List Cx) : ∀ c ∈ goods l, goodC c = true := fun _ hc => (List.mem_filter.1 hc).2
theorem goods_snoc (l : List Cx) (x : Cx) : goods (l ++ [x]) = if goodC x then goods l ++ [x] else goods l := by
  unfold goods
  rw [List.filter_append]
  by_cases h : goodC x = true
  · rw [if_pos h, List.filter_cons_of_pos h]; rfl
  · rw [if_neg h, List.filter_cons_of_neg h]; simp
end Go.Proofs.Ytkdeaogmifhnhaa

/-
  PLAIN: many rising lists gone through at once: a heap of what is left of each, the cells in their order, and how many lists have each key; no program.
-/
import Derived.Test.YtkdeaogmifhnhaaCxPlain
namespace Go.Proofs.Ytkdeaogmifhnhaa
open Go.RowKit

/-! ### Cells with their list's place -/
def pc (x y : Cx × Nat) : Int := th (kx x.1 y.1) (ci x.2 y.2)
theorem pc_cmpr : Cmpr (lex kc ci) := kc_cmpr.lex ci_cmpr
theorem pc_lex (x y : Cx × Nat) : pc x y = lex kc ci (x.1.k.ky, (x.2 : Int)) (y.1.k.ky, (y.2 : Int)) := rfl
theorem pc_n (x y : Cx × Nat) : pc x y = - pc y x := by rw [pc_lex, pc_lex]; exact pc_cmpr.n _ _
theorem pc_t {x y z : Cx × Nat} (h : pc x y ≤ 0) (g : pc y z ≤ 0) : pc x z ≤ 0 := by rw [pc_lex] at *; exact pc_cmpr.t _ _ _ h g
theorem pc_self (x : Cx × Nat) : pc x x = 0 := by rw [pc_lex]; exact (pc_cmpr.z _ _).2 rfl
theorem pc_zero {x y : Cx × Nat} (h : pc x y = 0) : x.1.k = y.1.k ∧ x.2 = y.2 := by
  rw [pc_lex] at h
  have := (pc_cmpr.z _ _).1 h
  injection this with h1 h2
  exact ⟨Kb.ky_inj.1 h1, by omega⟩
theorem pc_lt {x y : Cx × Nat} (h : kx x.1 y.1 < 0) : pc x y < 0 := by unfold pc; rw [th_of (by omega)]; exact h
theorem pc_same {x y : Cx × Nat} (h : kx x.1 y.1 = 0) : pc x y = ci x.2 y.2 := by unfold pc; rw [h, th_zero]
theorem pc_place {x y : Cx × Nat} (h : pc x y < 0) (hk : x.1.k = y.1.k) : x.2 < y.2 := by
  rw [pc_same ((kx_z _ _).2 hk)] at h
  unfold ci at h
  split at h <;> omega
theorem pc_key {x y : Cx × Nat} (h : pc x y ≤ 0) : kx x.1 y.1 ≤ 0 := by
  unfold pc at h
  by_cases e : kx x.1 y.1 = 0
  · omega
  · rw [th_of e] at h; exact h

/-! ### What is left of a list -/
structure Hd where
  ao : Option Addr
  cap : Nat
  c : Cx
  r : List Cx
  pl : Nat
def Hd.p (h : Hd) : Cx × Nat := (h.c, h.pl)
def hc (a b : Hd) : Int := pc a.p b.p
def Hd.all (h : Hd) : List (Cx × Nat) := (h.c :: h.r).map fun x => (x, h.pl)
def prs (L : List Hd) : List (Cx × Nat) := L.flatMap Hd.all
theorem hc_n (x y : Hd) : hc x y = - hc y x := pc_n _ _
theorem hc_t {x y z : Hd} (h : hc x y ≤ 0) (g : hc y z ≤ 0) : hc x z ≤ 0 := pc_t h g

/-! ### The heap -/
def HAt (L : List Hd) (j : Nat) : Prop := ∀ c x y, (c = 2 * j + 1 ∨ c = 2 * j + 2) → L[c]? = some x → L[j]? = some y → hc y x ≤ 0
def HFrom (L : List Hd) (i : Nat) : Prop := ∀ j, i ≤ j → HAt L j
structure Snk (L0 M : List Hd) (i p : Nat) : Prop where
  perm : M.Perm L0
  le : i ≤ p
  ok : ∀ j, i ≤ j → j ≠ p → HAt M j
  up : ∀ q, i ≤ q → (p = 2 * q + 1 ∨ p = 2 * q + 2) → ∀ c x y, (c = 2 * p + 1 ∨ c = 2 * p + 2) → M[c]? = some x → M[q]? = some y → hc y x ≤ 0
theorem Snk.start {L : List Hd} {i : Nat} (h : HFrom L (i + 1)) : Snk L L i i := ⟨.refl _, Nat.le_refl _, fun j hj hn => h j (by omega), fun q hq h => by omega⟩
theorem Snk.done {L M : List Hd} {i p : Nat} (h : Snk L M i p) (hp : HAt M p) : HFrom M i := fun j hj => by
  by_cases e : j = p
  · subst e; exact hp
  · exact h.ok j hj e
theorem swap_at {M : List Hd} {p f : Nat} {x y : Hd} (hp : M[p]? = some x) (hf : M[f]? = some y) (hpf : p ≠ f) :
    ((M.set p y).set f x)[p]? = some y ∧ ((M.set p y).set f x)[f]? = some x ∧ ∀ k, k ≠ p → k ≠ f → ((M.set p y).set f x)[k]? = M[k]? := by
  have h1 := (List.getElem?_eq_some_iff.1 hp).1
  have h2 := (List.getElem?_eq_some_iff.1 hf).1
  refine ⟨?_, ?_, fun k hk hf' => ?_⟩
  · rw [List.getElem?_set_ne (Ne.symm hpf)]; simp [h1]
  · simp [h2]
  · rw [List.getElem?_set_ne (Ne.symm hf'), List.getElem?_set_ne (Ne.symm hk)]
theorem swap_perm {M : List Hd} {p f : Nat} {x y : Hd} (hp : M[p]? = some x) (hf : M[f]? = some y) : ((M.set p y).set f x).Perm M := by
  obtain ⟨h1, e1⟩ := List.getElem?_eq_some_iff.1 hp
  obtain ⟨h2, e2⟩ := List.getElem?_eq_some_iff.1 hf
  have := List.set_set_perm h1 h2
  rw [e1, e2] at this
  exact this
theorem Snk.step {L M : List Hd} {i p f : Nat} {x y : Hd} (h : Snk L M i p) (hf : f = 2 * p + 1 ∨ f = 2 * p + 2) (hx : M[p]? = some x) (hy : M[f]? = some y) (hyx : hc y x ≤ 0)
    (hl : ∀ c z, (c = 2 * p + 1 ∨ c = 2 * p + 2) → M[c]? = some z → hc y z ≤ 0) : Snk L ((M.set p y).set f x) i f := by
  have hpf : p ≠ f := by omega
  have hle := h.le
  obtain ⟨s1, s2, s3⟩ := swap_at hx hy hpf
  refine ⟨(swap_perm hx hy).trans h.perm, by omega, fun j hj hn c u v hc hu hv => ?_, fun q hq hq2 c u v hc hu hv => ?_⟩
  · by_cases e : j = p
    · subst e
      rw [s1] at hv; cases hv
      by_cases e2 : c = f
      · subst e2; rw [s2] at hu; cases hu; exact hyx
      · rw [s3 c (by omega) e2] at hu; exact hl c u hc hu
    · rw [s3 j e hn] at hv
      by_cases e2 : c = p
      · subst e2
        rw [s1] at hu; cases hu
        exact h.up j hj hc f _ _ hf hy hv
      · rw [s3 c e2 (by omega)] at hu
        exact h.ok j hj e c u v hc hu hv
  · have : q = p := by omega
    subst this
    rw [s1] at hv; cases hv
    rw [s3 c (by omega) (by omega)] at hu
    exact h.ok f (by omega) (Ne.symm hpf) c _ _ hc hu hy
theorem HFrom.top {L : List Hd} (h : HFrom L 0) {a : Hd} (ha : L[0]? = some a) : ∀ (j : Nat) (x : Hd), L[j]? = some x → hc a x ≤ 0 := fun j => by
  induction j using Nat.strongRecOn with
  | _ j ih =>
    intro x hx
    by_cases e : j = 0
    · subst e; rw [ha] at hx; cases hx; exact Int.le_of_eq (pc_self _)
    · have hj := (List.getElem?_eq_some_iff.1 hx).1
      have hq : (j - 1) / 2 < L.length := by omega
      exact hc_t (ih ((j - 1) / 2) (by omega) _ (List.getElem?_eq_getElem hq)) (h _ (Nat.zero_le _) j x _ (by omega) hx (List.getElem?_eq_getElem hq))
theorem HFrom.beyond {L : List Hd} {i : Nat} (h : L.length ≤ 2 * i + 1) : HFrom L i := fun j hj c x y hc hx _ => by
  have := (List.getElem?_eq_some_iff.1 hx).1; omega

/-! ### The cells in their order -/
def SS (R : List (Cx × Nat)) : Prop := R.Pairwise fun x y => pc x y < 0
theorem ss_next {a : Hd} {T : List Hd} {R : List (Cx × Nat)} (h : HFrom (a :: T) 0) (hr : ∀ x ∈ a :: T, Rising (x.c :: x.r)) (hs : SS R) (hp : R.Perm (prs (a :: T))) :
    ∃ R', R = a.p :: R' ∧ SS R' ∧ R'.Perm (a.r.map (fun x => (x, a.pl)) ++ prs T) := by
  have e : prs (a :: T) = a.p :: (a.r.map (fun x => (x, a.pl)) ++ prs T) := rfl
  cases R with
  | nil => rw [e] at hp; exact absurd hp.length_eq (by simp)
  | cons y R' =>
    have hle : pc a.p y ≤ 0 := by
      have hy : y ∈ prs (a :: T) := hp.subset (by simp)
      obtain ⟨x, hx, hyx⟩ := List.mem_flatMap.1 hy
      obtain ⟨d, hd, rfl⟩ := List.mem_map.1 hyx
      obtain ⟨j, hj, e2⟩ := List.getElem_of_mem hx
      have h1 : hc a x ≤ 0 := h.top rfl j x (by rw [List.getElem?_eq_getElem hj, e2])
      refine pc_t h1 ?_
      rcases List.mem_cons.1 hd with rfl | hd
      · exact Int.le_of_eq (pc_self _)
      · have h2 := (List.pairwise_cons.1 (hr x hx)).1 d hd
        exact Int.le_of_lt (pc_lt h2)
    have hm : a.p ∈ y :: R' := hp.symm.subset (by rw [e]; simp)
    have hya : y = a.p := by
      rcases List.mem_cons.1 hm with h1 | h1
      · exact h1.symm
      · have h2 := (List.pairwise_cons.1 hs).1 _ h1
        have h3 := pc_n a.p y
        omega
    subst hya
    refine ⟨R', rfl, (List.pairwise_cons.1 hs).2, ?_⟩
    rw [e] at hp
    exact List.Perm.cons_inv hp
/-- Whole lists, each with its place. -/
def prL (ls : List (List Cx)) : List (Cx × Nat) := ls.zipIdx.flatMap fun p => p.1.map fun x => (x, p.2)
theorem prL_snoc (ls : List (List Cx)) (l : List Cx) : prL (ls ++ [l]) = prL ls ++ l.map fun x => (x, ls.length) := by
  unfold prL; rw [List.zipIdx_append, List.flatMap_append]; simp
theorem prL_fst (ls : List (List Cx)) : (prL ls).map Prod.fst = ls.flatten := by
  have : ∀ n (ls : List (List Cx)), ((ls.zipIdx n).flatMap fun p => p.1.map fun x => (x, p.2)).map Prod.fst = ls.flatten := fun n ls => by
    induction ls generalizing n with
    | nil => rfl
    | cons l ls ih => rw [List.zipIdx_cons, List.flatMap_cons, List.map_append, ih, List.flatten_cons]; simp [Function.comp_def]
  exact this 0 ls
theorem prL_rise {ls : List (List Cx)} (hr : ∀ l ∈ ls, Rising l) : (prL ls).Pairwise fun x y => x.2 < y.2 ∨ (x.2 = y.2 ∧ kx x.1 y.1 < 0) := by
  have : ∀ n (ls : List (List Cx)), (∀ l ∈ ls, Rising l) → ((ls.zipIdx n).flatMap fun p => p.1.map fun x => (x, p.2)).Pairwise (fun x y => x.2 < y.2 ∨ (x.2 = y.2 ∧ kx x.1 y.1 < 0)) ∧ ∀ x ∈ ((ls.zipIdx n).flatMap fun p => p.1.map fun x => (x, p.2)), n ≤ x.2 := fun n ls => by
    induction ls generalizing n with
    | nil => intro _; exact ⟨by simp, by simp⟩
    | cons l ls ih =>
      intro h
      obtain ⟨h1, h2⟩ := ih (n + 1) fun l hl => h l (by simp [hl])
      rw [List.zipIdx_cons, List.flatMap_cons]
      refine ⟨List.pairwise_append.2 ⟨?_, h1, fun x hx y hy => ?_⟩, fun x hx => ?_⟩
      · exact List.pairwise_map.2 ((h l (by simp)).imp fun hk => .inr ⟨rfl, hk⟩)
      · obtain ⟨c, _, rfl⟩ := List.mem_map.1 hx
        exact .inl (h2 y hy)
      · rcases List.mem_append.1 hx with hx | hx
        · obtain ⟨c, _, rfl⟩ := List.mem_map.1 hx; exact Nat.le_refl _
        · have := h2 x hx; omega
  exact (this 0 ls hr).1
theorem ss_ex {ls : List (List Cx)} (hr : ∀ l ∈ ls, Rising l) : ∃ R, SS R ∧ R.Perm (prL ls) := by
  refine ⟨(prL ls).mergeSort fun x y => decide (pc x y ≤ 0), ?_, List.mergeSort_perm _ _⟩
  have h1 : ((prL ls).mergeSort fun x y => decide (pc x y ≤ 0)).Pairwise fun x y => decide (pc x y ≤ 0) = true :=
    List.pairwise_mergeSort (fun a b c h g => by simp only [decide_eq_true_eq] at *; exact pc_t h g) (fun a b => by
      have := pc_n a b
      by_cases h : pc a b ≤ 0
      · simp [h]
      · have h' : pc b a ≤ 0 := by omega
        simp [h']) _
  have h2 : (prL ls).Pairwise fun x y => pc x y ≠ 0 := (prL_rise hr).imp fun h e => by
    obtain ⟨e1, e2⟩ := pc_zero e
    rcases h with h | ⟨_, h⟩
    · omega
    · exact kx_ne h e1
  have h3 : ((prL ls).mergeSort fun x y => decide (pc x y ≤ 0)).Pairwise fun x y => pc x y ≠ 0 :=
    (List.Perm.pairwise_iff (fun {x y} h e => h (by rw [pc_n]; omega)) (List.mergeSort_perm _ _)).2 h2
  exact (h1.and h3).imp fun ⟨a, b⟩ => by simp only [decide_eq_true_eq] at a; omega
theorem ss_up {R : List (Cx × Nat)} (h : SS R) : Up (R.map Prod.fst) := List.pairwise_map.2 (h.imp fun g => pc_key (Int.le_of_lt g))
theorem ss_st {ls : List (List Cx)} (hr : ∀ l ∈ ls, Rising l) {R : List (Cx × Nat)} (hs : SS R) (hp : R.Perm (prL ls)) : St ls.flatten (R.map Prod.fst) := by
  refine ⟨?_, fun κ => ?_⟩
  · rw [List.length_map, hp.length_eq, ← prL_fst, List.length_map]
  · classical
    rw [← prL_fst]
    have hf : ∀ A : List (Cx × Nat), ofK κ (A.map Prod.fst) = (A.filter fun x => decide (x.1.k = κ)).map Prod.fst := fun A => by
      induction A with
      | nil => rfl
      | cons x A ih =>
        by_cases e : x.1.k = κ
        · rw [List.map_cons, ofK_cons_hit _ e, ih, List.filter_cons_of_pos (by simp [e]), List.map_cons]
        · rw [List.map_cons, ofK_cons_miss _ e, ih, List.filter_cons_of_neg (by simp [e])]
    rw [hf, hf]
    have h1 : (R.filter fun x => decide (x.1.k = κ)).Pairwise fun x y => x.2 < y.2 := by
      refine List.Pairwise.imp_of_mem (R := fun x y => pc x y < 0) (fun {x y} hx hy h => ?_) (List.Pairwise.filter _ hs)
      have := (List.mem_filter.1 hx).2; have := (List.mem_filter.1 hy).2
      simp only [decide_eq_true_eq] at *
      exact pc_place h (by simp [*])
    have h2 : ((prL ls).filter fun x => decide (x.1.k = κ)).Pairwise fun x y => x.2 < y.2 := by
      refine List.Pairwise.imp_of_mem (fun {x y} hx hy h => ?_) (List.Pairwise.filter _ (prL_rise hr))
      have := (List.mem_filter.1 hx).2; have := (List.mem_filter.1 hy).2
      simp only [decide_eq_true_eq] at *
      rcases h with h | ⟨_, h⟩
      · exact h
      · exact absurd (by simp [*]) (kx_ne h)
    rw [List.Perm.eq_of_pairwise (le := fun x y => x.2 < y.2) (fun a b _ _ h g => by omega) h1 h2 (hp.filter _)]
theorem ss_nrm {ls : List (List Cx)} (hr : ∀ l ∈ ls, Rising l) {R : List (Cx × Nat)} (hs : SS R) (hp : R.Perm (prL ls)) : jr (R.map Prod.fst) = nrm ls.flatten := jr_nrm (ss_st hr hs hp) (ss_up hs)

/-! ### With counts -/
def j2S (O : List (Cx × Nat)) (x : Cx) : List (Cx × Nat) := match O.getLast? with
  | none => [(x, 1)]
  | some y => if kx y.1 x = 0 then O.dropLast ++ [(jnC y.1 x, y.2 + 1)] else O ++ [(x, 1)]
theorem j2S_nil (x : Cx) : j2S [] x = [(x, 1)] := rfl
theorem j2S_same {O : List (Cx × Nat)} {y : Cx × Nat} {x : Cx} (h : kx y.1 x = 0) : j2S (O ++ [y]) x = O ++ [(jnC y.1 x, y.2 + 1)] := by unfold j2S; simp [h]
theorem j2S_other {O : List (Cx × Nat)} {y : Cx × Nat} {x : Cx} (h : ¬ kx y.1 x = 0) : j2S (O ++ [y]) x = (O ++ [y]) ++ [(x, 1)] := by unfold j2S; simp [h]
def j2 (l : List Cx) : List (Cx × Nat) := l.foldl j2S []
theorem j2_snoc (l : List Cx) (x : Cx) : j2 (l ++ [x]) = j2S (j2 l) x := by unfold j2; rw [List.foldl_append]; rfl
theorem j2_fst (l : List Cx) : (j2 l).map Prod.fst = jr l := by
  refine snoc_ind (P := fun l => (j2 l).map Prod.fst = jr l) rfl (fun l x h => ?_) l
  rw [j2_snoc, jr_snoc, ← h]
  rcases List.eq_nil_or_concat (j2 l) with e | ⟨O, y, e⟩
  · rw [e, j2S_nil]; rfl
  · rw [List.concat_eq_append] at e
    rw [e, List.map_append]
    by_cases hk : kx y.1 x = 0
    · rw [j2S_same hk, List.map_append]; exact (jrS_same hk).symm
    · rw [j2S_other hk, List.map_append, List.map_append]; exact (jrS_other hk).symm
theorem j2_ne {l : List Cx} (h : l ≠ []) : j2 l ≠ [] := by
  rcases List.eq_nil_or_concat l with e | ⟨m, x, e⟩
  · exact absurd e h
  · rw [e, List.concat_eq_append, j2_snoc]
    unfold j2S
    split
    · simp
    · split <;> simp
theorem j2_sum (l : List Cx) : ((j2 l).map Prod.snd).sum = l.length := by
  refine snoc_ind (P := fun l => ((j2 l).map Prod.snd).sum = l.length) rfl (fun l x h => ?_) l
  rw [j2_snoc, List.length_append, ← h]
  rcases List.eq_nil_or_concat (j2 l) with e | ⟨O, y, e⟩
  · rw [e, j2S_nil]; simp
  · rw [List.concat_eq_append] at e
    rw [e]
    by_cases hk : kx y.1 x = 0
    · rw [j2S_same hk]; simp; omega
    · rw [j2S_other hk]; simp; omega
theorem j2_pos (l : List Cx) : ∀ y ∈ j2 l, 1 ≤ y.2 := by
  refine snoc_ind (P := fun l => ∀ y ∈ j2 l, 1 ≤ y.2) (by simp [j2]) (fun l x h => ?_) l
  rw [j2_snoc]
  rcases List.eq_nil_or_concat (j2 l) with e | ⟨O, y, e⟩
  · rw [e, j2S_nil]; simp
  · rw [List.concat_eq_append] at e
    rw [e] at h ⊢
    by_cases hk : kx y.1 x = 0
    · rw [j2S_same hk]
      intro z hz
      rcases List.mem_append.1 hz with hz | hz
      · exact h z (by simp [hz])
      · obtain rfl : z = _ := by simpa using hz
        simp
    · rw [j2S_other hk]
      intro z hz
      rcases List.mem_append.1 hz with hz | hz
      · exact h z hz
      · obtain rfl : z = _ := by simpa using hz
        simp
end Go.Proofs.Ytkdeaogmifhnhaa

/-
  SEVERAL TEXTS IN ONE: MrgPlain, VerLaid.
-/
import Derived.Test.YtlamncldbnagmaaGreatDoorMany23
import Derived.Test.YtlamncldbnagmaaGreatDoorMany17
import Derived.Test.YtlamncldbnagmaaGreatDoorMany5
import Derived.Deep.Slices
import Derived.Deep.Strs
namespace Go.Proofs.YtlamncldbnagmaaGreatDoor
open Go.RowKit

/-! ### Cells with their list's place -/
def pc (x y : Cx × Nat) : Int := th (kx x.1 y.1) (ci x.2 y.2)
theorem pc_cmpr : Cmpr (lex kc ci) := kc_cmpr.lex ci_cmpr
theorem pc_lex (x y : Cx × Nat) : pc x y = lex kc ci (x.1.k.ky, (x.2 : Int)) (y.1.k.ky, (y.2 : Int)) := rfl
theorem pc_n (x y : Cx × Nat) : pc x y = - pc y x := by rw [pc_lex, pc_lex]; exact pc_cmpr.n _ _
theorem pc_t {x y z : Cx × Nat} (h : pc x y ≤ 0) (g : pc y z ≤ 0) : pc x z ≤ 0 := by rw [pc_lex] at *; exact pc_cmpr.t _ _ _ h g
theorem pc_self (x : Cx × Nat) : pc x x = 0 := by rw [pc_lex]; exact (pc_cmpr.z _ _).2 rfl
theorem pc_zero {x y : Cx × Nat} (h : pc x y = 0) : x.1.k = y.1.k ∧ x.2 = y.2 := by
  rw [pc_lex] at h
  have := (pc_cmpr.z _ _).1 h
  injection this with h1 h2
  exact ⟨Kb.ky_inj.1 h1, by omega⟩
theorem pc_lt {x y : Cx × Nat} (h : kx x.1 y.1 < 0) : pc x y < 0 := by unfold pc; rw [th_of (by omega)]; exact h
theorem pc_same {x y : Cx × Nat} (h : kx x.1 y.1 = 0) : pc x y = ci x.2 y.2 := by unfold pc; rw [h, th_zero]
theorem pc_place {x y : Cx × Nat} (h : pc x y < 0) (hk : x.1.k = y.1.k) : x.2 < y.2 := by
  rw [pc_same ((kx_z _ _).2 hk)] at h
  unfold ci at h
  split at h <;> omega
theorem pc_key {x y : Cx × Nat} (h : pc x y ≤ 0) : kx x.1 y.1 ≤ 0 := by
  unfold pc at h
  by_cases e : kx x.1 y.1 = 0
  · omega
  · rw [th_of e] at h; exact h

/-! ### What is left of a list -/
structure Hd where
  ao : Option Addr
  cap : Nat
  c : Cx
  r : List Cx
  pl : Nat
def Hd.p (h : Hd) : Cx × Nat := (h.c, h.pl)
def hc (a b : Hd) : Int := pc a.p b.p
def Hd.all (h : Hd) : List (Cx × Nat) := (h.c :: h.r).map fun x => (x, h.pl)
def prs (L : List Hd) : List (Cx × Nat) := L.flatMap Hd.all
theorem hc_n (x y : Hd) : hc x y = - hc y x := pc_n _ _
theorem hc_t {x y z : Hd} (h : hc x y ≤ 0) (g : hc y z ≤ 0) : hc x z ≤ 0 := pc_t h g

/-! ### The heap -/
def HAt (L : List Hd) (j : Nat) : Prop := ∀ c x y, (c = 2 * j + 1 ∨ c = 2 * j + 2) → L[c]? = some x → L[j]? = some y → hc y x ≤ 0
def HFrom (L : List Hd) (i : Nat) : Prop := ∀ j, i ≤ j → HAt L j
structure Snk (L0 M : List Hd) (i p : Nat) : Prop where
  perm : M.Perm L0
  le : i ≤ p
  ok : ∀ j, i ≤ j → j ≠ p → HAt M j
  up : ∀ q, i ≤ q → (p = 2 * q + 1 ∨ p = 2 * q + 2) → ∀ c x y, (c = 2 * p + 1 ∨ c = 2 * p + 2) → M[c]? = some x → M[q]? = some y → hc y x ≤ 0
theorem Snk.start {L : List Hd} {i : Nat} (h : HFrom L (i + 1)) : Snk L L i i := ⟨.refl _, Nat.le_refl _, fun j hj hn => h j (by omega), fun q hq h => by omega⟩
theorem Snk.done {L M : List Hd} {i p : Nat} (h : Snk L M i p) (hp : HAt M p) : HFrom M i := fun j hj => by
  by_cases e : j = p
  · subst e; exact hp
  · exact h.ok j hj e
theorem swap_at {M : List Hd} {p f : Nat} {x y : Hd} (hp : M[p]? = some x) (hf : M[f]? = some y) (hpf : p ≠ f) :
    ((M.set p y).set f x)[p]? = some y ∧ ((M.set p y).set f x)[f]? = some x ∧ ∀ k, k ≠ p → k ≠ f → ((M.set p y).set f x)[k]? = M[k]? := by
  have h1 := (List.getElem?_eq_some_iff.1 hp).1
  have h2 := (List.getElem?_eq_some_iff.1 hf).1
  refine ⟨?_, ?_, fun k hk hf' => ?_⟩
  · rw [List.getElem?_set_ne (Ne.symm hpf)]; simp [h1]
  · simp [h2]
  · rw [List.getElem?_set_ne (Ne.symm hf'), List.getElem?_set_ne (Ne.symm hk)]
theorem swap_perm {M : List Hd} {p f : Nat} {x y : Hd} (hp : M[p]? = some x) (hf : M[f]? = some y) : ((M.set p y).set f x).Perm M := by
  obtain ⟨h1, e1⟩ := List.getElem?_eq_some_iff.1 hp
  obtain ⟨h2, e2⟩ := List.getElem?_eq_some_iff.1 hf
  have := List.set_set_perm h1 h2
  rw [e1, e2] at this
  exact this
theorem Snk.step {L M : List Hd} {i p f : Nat} {x y : Hd} (h : Snk L M i p) (hf : f = 2 * p + 1 ∨ f = 2 * p + 2) (hx : M[p]? = some x) (hy : M[f]? = some y) (hyx : hc y x ≤ 0)
    (hl : ∀ c z, (c = 2 * p + 1 ∨ c = 2 * p + 2) → M[c]? = some z → hc y z ≤ 0) : Snk L ((M.set p y).set f x) i f := by
  have hpf : p ≠ f := by omega
  have hle := h.le
  obtain ⟨s1, s2, s3⟩ := swap_at hx hy hpf
  refine ⟨(swap_perm hx hy).trans h.perm, by omega, fun j hj hn c u v hc hu hv => ?_, fun q hq hq2 c u v hc hu hv => ?_⟩
  · by_cases e : j = p
    · subst e
      rw [s1] at hv; cases hv
      by_cases e2 : c = f
      · subst e2; rw [s2] at hu; cases hu; exact hyx
      · rw [s3 c (by omega) e2] at hu; exact hl c u hc hu
    · rw [s3 j e hn] at hv
      by_cases e2 : c = p
      · subst e2
        rw [s1] at hu; cases hu
        exact h.up j hj hc f _ _ hf hy hv
      · rw [s3 c e2 (by omega)] at hu
        exact h.ok j hj e c u v hc hu hv
  · have : q = p := by omega
    subst this
    rw [s1] at hv; cases hv
    rw [s3 c (by omega) (by omega)] at hu
    exact h.ok f (by omega) (Ne.symm hpf) c _ _ hc hu hy
theorem HFrom.top {L : List Hd} (h : HFrom L 0) {a : Hd} (ha : L[0]? = some a) : ∀ (j : Nat) (x : Hd), L[j]? = some x → hc a x ≤ 0 := fun j => by
  induction j using Nat.strongRecOn with
  | _ j ih =>
    intro x hx
    by_cases e : j = 0
    · subst e; rw [ha] at hx; cases hx; exact Int.le_of_eq (pc_self _)
    · have hj := (List.getElem?_eq_some_iff.1 hx).1
      have hq : (j - 1) / 2 < L.length := by omega
      exact hc_t (ih ((j - 1) / 2) (by omega) _ (List.getElem?_eq_getElem hq)) (h _ (Nat.zero_le _) j x _ (by omega) hx (List.getElem?_eq_getElem hq))
theorem HFrom.beyond {L : List Hd} {i : Nat} (h : L.length ≤ 2 * i + 1) : HFrom L i := fun j hj c x y hc hx _ => by
  have := (List.getElem?_eq_some_iff.1 hx).1; omega

/-! ### The cells in their order -/
def SS (R : List (Cx × Nat)) : Prop := R.Pairwise fun x y => pc x y < 0
theorem ss_next {a : Hd} {T : List Hd} {R : List (Cx × Nat)} (h : HFrom (a :: T) 0) (hr : ∀ x ∈ a :: T, Rising (x.c :: x.r)) (hs : SS R) (hp : R.Perm (prs (a :: T))) :
    ∃ R', R = a.p :: R' ∧ SS R' ∧ R'.Perm (a.r.map (fun x => (x, a.pl)) ++ prs T) := by
  have e : prs (a :: T) = a.p :: (a.r.map (fun x => (x, a.pl)) ++ prs T) := rfl
  cases R with
  | nil => rw [e] at hp; exact absurd hp.length_eq (by simp)
  | cons y R' =>
    have hle : pc a.p y ≤ 0 := by
      have hy : y ∈ prs (a :: T) := hp.subset (by simp)
      obtain ⟨x, hx, hyx⟩ := List.mem_flatMap.1 hy
      obtain ⟨d, hd, rfl⟩ := List.mem_map.1 hyx
      obtain ⟨j, hj, e2⟩ := List.getElem_of_mem hx
      have h1 : hc a x ≤ 0 := h.top rfl j x (by rw [List.getElem?_eq_getElem hj, e2])
      refine pc_t h1 ?_
      rcases List.mem_cons.1 hd with rfl | hd
      · exact Int.le_of_eq (pc_self _)
      · have h2 := (List.pairwise_cons.1 (hr x hx)).1 d hd
        exact Int.le_of_lt (pc_lt h2)
    have hm : a.p ∈ y :: R' := hp.symm.subset (by rw [e]; simp)
    have hya : y = a.p := by
      rcases List.mem_cons.1 hm with h1 | h1
      · exact h1.symm
      · have h2 := (List.pairwise_cons.1 hs).1 _ h1
        have h3 := pc_n a.p y
        omega
    subst hya
    refine ⟨R', rfl, (List.pairwise_cons.1 hs).2, ?_⟩
    rw [e] at hp
    exact List.Perm.cons_inv hp
/-- Whole lists, each with its place. -/
def prL (ls : List (List Cx)) : List (Cx × Nat) := ls.zipIdx.flatMap fun p => p.1.map fun x => (x, p.2)
theorem prL_snoc (ls : List (List Cx)) (l : List Cx) : prL (ls ++ [l]) = prL ls ++ l.map fun x => (x, ls.length) := by
  unfold prL; rw [List.zipIdx_append, List.flatMap_append]; simp
theorem prL_fst (ls : List (List Cx)) : (prL ls).map Prod.fst = ls.flatten := by
  have : ∀ n (ls : List (List Cx)), ((ls.zipIdx n).flatMap fun p => p.1.map fun x => (x, p.2)).map Prod.fst = ls.flatten := fun n ls => by
    induction ls generalizing n with
    | nil => rfl
    | cons l ls ih => rw [List.zipIdx_cons, List.flatMap_cons, List.map_append, ih, List.flatten_cons]; simp [Function.comp_def]
  exact this 0 ls
theorem prL_rise {ls : List (List Cx)} (hr : ∀ l ∈ ls, Rising l) : (prL ls).Pairwise fun x y => x.2 < y.2 ∨ (x.2 = y.2 ∧ kx x.1 y.1 < 0) := by
  have : ∀ n (ls : List (List Cx)), (∀ l ∈ ls, Rising l) → ((ls.zipIdx n).flatMap fun p => p.1.map fun x => (x, p.2)).Pairwise (fun x y => x.2 < y.2 ∨ (x.2 = y.2 ∧ kx x.1 y.1 < 0)) ∧ ∀ x ∈ ((ls.zipIdx n).flatMap fun p => p.1.map fun x => (x, p.2)), n ≤ x.2 := fun n ls => by
    induction ls generalizing n with
    | nil => intro _; exact ⟨by simp, by simp⟩
    | cons l ls ih =>
      intro h
      obtain ⟨h1, h2⟩ := ih (n + 1) fun l hl => h l (by simp [hl])
      rw [List.zipIdx_cons, List.flatMap_cons]
      refine ⟨List.pairwise_append.2 ⟨?_, h1, fun x hx y hy => ?_⟩, fun x hx => ?_⟩
      · exact List.pairwise_map.2 ((h l (by simp)).imp fun hk => .inr ⟨rfl, hk⟩)
      · obtain ⟨c, _, rfl⟩ := List.mem_map.1 hx
        exact .inl (h2 y hy)
      · rcases List.mem_append.1 hx with hx | hx
        · obtain ⟨c, _, rfl⟩ := List.mem_map.1 hx; exact Nat.le_refl _
        · have := h2 x hx; omega
  exact (this 0 ls hr).1
theorem ss_ex {ls : List (List Cx)} (hr : ∀ l ∈ ls, Rising l) : ∃ R, SS R ∧ R.Perm (prL ls) := by
  refine ⟨(prL ls).mergeSort fun x y => decide (pc x y ≤ 0), ?_, List.mergeSort_perm _ _⟩
  have h1 : ((prL ls).mergeSort fun x y => decide (pc x y ≤ 0)).Pairwise fun x y => decide (pc x y ≤ 0) = true :=
    List.pairwise_mergeSort (fun a b c h g => by simp only [decide_eq_true_eq] at *; exact pc_t h g) (fun a b => by
      have := pc_n a b
      by_cases h : pc a b ≤ 0
      · simp [h]
      · have h' : pc b a ≤ 0 := by omega
        simp [h']) _
  have h2 : (prL ls).Pairwise fun x y => pc x y ≠ 0 := (prL_rise hr).imp fun h e => by
    obtain ⟨e1, e2⟩ := pc_zero e
    rcases h with h | ⟨_, h⟩
    · omega
    · exact kx_ne h e1
  have h3 : ((prL ls).mergeSort fun x y => decide (pc x y ≤ 0)).Pairwise fun x y => pc x y ≠ 0 :=
    (List.Perm.pairwise_iff (fun {x y} h e => h (by rw [pc_n]; omega)) (List.mergeSort_perm _ _)).2 h2
  exact (h1.and h3).imp fun ⟨a, b⟩ => by simp only [decide_eq_true_eq] at a; omega
theorem ss_up {R : List (Cx × Nat)} (h : SS R) : Up (R.map Prod.fst) := List.pairwise_map.2 (h.imp fun g => pc_key (Int.le_of_lt g))
theorem ss_st {ls : List (List Cx)} (hr : ∀ l ∈ ls, Rising l) {R : List (Cx × Nat)} (hs : SS R) (hp : R.Perm (prL ls)) : Sbl ls.flatten (R.map Prod.fst) := by
  refine ⟨?_, fun κ => ?_⟩
  · rw [List.length_map, hp.length_eq, ← prL_fst, List.length_map]
  · classical
    rw [← prL_fst]
    have hf : ∀ A : List (Cx × Nat), ofK κ (A.map Prod.fst) = (A.filter fun x => decide (x.1.k = κ)).map Prod.fst := fun A => by
      induction A with
      | nil => rfl
      | cons x A ih =>
        by_cases e : x.1.k = κ
        · rw [List.map_cons, ofK_cons_hit _ e, ih, List.filter_cons_of_pos (by simp [e]), List.map_cons]
        · rw [List.map_cons, ofK_cons_miss _ e, ih, List.filter_cons_of_neg (by simp [e])]
    rw [hf, hf]
    have h1 : (R.filter fun x => decide (x.1.k = κ)).Pairwise fun x y => x.2 < y.2 := by
      refine List.Pairwise.imp_of_mem (R := fun x y => pc x y < 0) (fun {x y} hx hy h => ?_) (List.Pairwise.filter _ hs)
      have := (List.mem_filter.1 hx).2; have := (List.mem_filter.1 hy).2
      simp only [decide_eq_true_eq] at *
      exact pc_place h (by simp [*])
    have h2 : ((prL ls).filter fun x => decide (x.1.k = κ)).Pairwise fun x y => x.2 < y.2 := by
      refine List.Pairwise.imp_of_mem (fun {x y} hx hy h => ?_) (List.Pairwise.filter _ (prL_rise hr))
      have := (List.mem_filter.1 hx).2; have := (List.mem_filter.1 hy).2
      simp only [decide_eq_true_eq] at *
      rcases h with h | ⟨_, h⟩
      · exact h
      · exact absurd (by simp [*]) (kx_ne h)
    rw [List.Perm.eq_of_pairwise (le := fun x y => x.2 < y.2) (fun a b _ _ h g => by omega) h1 h2 (hp.filter _)]
theorem ss_nrm {ls : List (List Cx)} (hr : ∀ l ∈ ls, Rising l) {R : List (Cx × Nat)} (hs : SS R) (hp : R.Perm (prL ls)) : jr (R.map Prod.fst) = nrm ls.flatten := jr_nrm (ss_st hr hs hp) (ss_up hs)

/-! ### With counts -/
def j2S (O : List (Cx × Nat)) (x : Cx) : List (Cx × Nat) := match O.getLast? with
  | none => [(x, 1)]
  | some y => if kx y.1 x = 0 then O.dropLast ++ [(jnC y.1 x, y.2 + 1)] else O ++ [(x, 1)]
theorem j2S_nil (x : Cx) : j2S [] x = [(x, 1)] := rfl
theorem j2S_same {O : List (Cx × Nat)} {y : Cx × Nat} {x : Cx} (h : kx y.1 x = 0) : j2S (O ++ [y]) x = O ++ [(jnC y.1 x, y.2 + 1)] := by unfold j2S; simp [h]
theorem j2S_other {O : List (Cx × Nat)} {y : Cx × Nat} {x : Cx} (h : ¬ kx y.1 x = 0) : j2S (O ++ [y]) x = (O ++ [y]) ++ [(x, 1)] := by unfold j2S; simp [h]
def j2 (l : List Cx) : List (Cx × Nat) := l.foldl j2S []
theorem j2_snoc (l : List Cx) (x : Cx) : j2 (l ++ [x]) = j2S (j2 l) x := by unfold j2; rw [List.foldl_append]; rfl
theorem j2_fst (l : List Cx) : (j2 l).map Prod.fst = jr l := by
  refine snoc_ind (P := fun l => (j2 l).map Prod.fst = jr l) rfl (fun l x h => ?_) l
  rw [j2_snoc, jr_snoc, ← h]
  rcases List.eq_nil_or_concat (j2 l) with e | ⟨O, y, e⟩
  · rw [e, j2S_nil]; rfl
  · rw [List.concat_eq_append] at e
    rw [e, List.map_append]
    by_cases hk : kx y.1 x = 0
    · rw [j2S_same hk, List.map_append]; exact (jrS_same hk).symm
    · rw [j2S_other hk, List.map_append, List.map_append]; exact (jrS_other hk).symm
theorem j2_ne {l : List Cx} (h : l ≠ []) : j2 l ≠ [] := by
  rcases List.eq_nil_or_concat l with e | ⟨m, x, e⟩
  · exact absurd e h
  · rw [e, List.concat_eq_append, j2_snoc]
    unfold j2S
    split
    · simp
    · split <;> simp
theorem j2_sum (l : List Cx) : ((j2 l).map Prod.snd).sum = l.length := by
  refine snoc_ind (P := fun l => ((j2 l).map Prod.snd).sum = l.length) rfl (fun l x h => ?_) l
  rw [j2_snoc, List.length_append, ← h]
  rcases List.eq_nil_or_concat (j2 l) with e | ⟨O, y, e⟩
  · rw [e, j2S_nil]; simp
  · rw [List.concat_eq_append] at e
    rw [e]
    by_cases hk : kx y.1 x = 0
    · rw [j2S_same hk]; simp; omega
    · rw [j2S_other hk]; simp; omega
theorem j2_pos (l : List Cx) : ∀ y ∈ j2 l, 1 ≤ y.2 := by
  refine snoc_ind (P := fun l => ∀ y ∈ j2 l, 1 ≤ y.2) (by simp [j2]) (fun l x h => ?_) l
  rw [j2_snoc]
  rcases List.eq_nil_or_concat (j2 l) with e | ⟨O, y, e⟩
  · rw [e, j2S_nil]; simp
  · rw [List.concat_eq_append] at e
    rw [e] at h ⊢
    by_cases hk : kx y.1 x = 0
    · rw [j2S_same hk]
      intro z hz
      rcases List.mem_append.1 hz with hz | hz
      · exact h z (by simp [hz])
      · obtain rfl : z = _ := by simpa using hz
        simp
    · rw [j2S_other hk]
      intro z hz
      rcases List.mem_append.1 hz with hz | hz
      · exact h z hz
      · obtain rfl : z = _ := by simpa using hz
        simp
end Go.Proofs.YtlamncldbnagmaaGreatDoor
namespace Go.Proofs.YtlamncldbnagmaaGreatDoor
open Go.ChangeShapes Go.WideShapes Go.ChangeAt Go.RowKit Go.Deep

section
variable {H : Type} {enc : TypeId × Value → H} {P : Program} {w : World} {base : Nat} {spare : Nat → Bool} {held : Bool}
set_option maxRecDepth 100000 in
theorem trod_s4 {t : TypeId} {f0 f1 f2 f3 : Field} {fuel : Nat} {cs : List Value} {x : DataW H × List MemPlace} (ht : P.underlying t = some (.struct #[f0, f1, f2, f3])) (h : DataW.trod enc P w base spare held fuel t cs = some x) :
    ∃ y0 y1 y2 y3 n, x.1 = .agg [y0.1, y1.1, y2.1, y3.1] ∧ cs.length = P.cellsOf t ∧ DataW.trod enc P w base spare held n f0.type ((cs.drop f0.offset).take (P.cellsOf f0.type)) = some y0 ∧
      DataW.trod enc P w base spare held n f1.type ((cs.drop f1.offset).take (P.cellsOf f1.type)) = some y1 ∧ DataW.trod enc P w base spare held n f2.type ((cs.drop f2.offset).take (P.cellsOf f2.type)) = some y2 ∧
      DataW.trod enc P w base spare held n f3.type ((cs.drop f3.offset).take (P.cellsOf f3.type)) = some y3 := by
  obtain ⟨xs, n, _, rfl, hl, hlen, hf⟩ := DataW.trod_struct ht h
  match xs, hlen with
  | [y0, y1, y2, y3], _ => exact ⟨y0, y1, y2, y3, n, by simp, hl, by simpa using hf 0 f0 rfl, by simpa using hf 1 f1 rfl, by simpa using hf 2 f2 rfl, by simpa using hf 3 f3 rfl⟩
end
set_option maxRecDepth 100000 in
theorem cellsXK : Tryz.prog.cellsOf 61 = 4 := by kernel_rfl
set_option maxRecDepth 100000 in
theorem cellsXV : Tryz.prog.cellsOf 63 = 3 := by kernel_rfl
set_option maxRecDepth 100000 in
theorem cellsXR : Tryz.prog.cellsOf 65 = 6 := by kernel_rfl
set_option maxRecDepth 100000 in
theorem cellsXC : Tryz.prog.cellsOf 67 = 10 := by kernel_rfl
set_option maxRecDepth 100000 in
theorem cellsXI : Tryz.prog.cellsOf 3 = 1 := by kernel_rfl
set_option maxRecDepth 100000 in
theorem cellsXB : Tryz.prog.cellsOf 4 = 1 := by kernel_rfl
set_option maxRecDepth 100000 in
theorem cellsXS : Tryz.prog.cellsOf 9 = 1 := by kernel_rfl

def sD {H : Type} (s : ByteArray) : DataW H := .lit (.string s.data.toList)
def iD {H : Type} (n : Int) : DataW H := .lit (.int .i64 n)
def kxD {H : Type} (k : Kb) : DataW H := .agg [sD k.t, sD k.p, iD k.r, sD k.c]
def vxD {H : Type} (a : Vr) : DataW H := .agg [iD a.time, .lit (.bool a.dead), iD a.loc, .agg [iD a.kind, iD a.num, sD a.s]]
def cxD {H : Type} (c : Cx) : DataW H := .agg [kxD c.k, vxD c.v]

section
variable {H : Type} {enc : TypeId × Value → H} {w : World} {base : Nat} {spare : Nat → Bool} {held : Bool}
set_option maxRecDepth 100000 in
theorem kx_open {n : Nat} {c0 c1 c2 c3 : Value} {x : DataW H × List MemPlace} (h : DataW.trod enc Tryz.prog w base spare held n 61 [c0, c1, c2, c3] = some x) :
    ∃ k : Kb, [c0, c1, c2, c3] = [.string k.t, .string k.p, .int .i64 k.r, .string k.c] ∧ InI k.r ∧ x.1 = kxD k := by
  obtain ⟨y0, y1, y2, y3, m, hx, _, h0, h1, h2, h3⟩ := trod_s4 Tryz.underlying61 h
  simp only [cellsXS, cellsXI] at h0 h1 h2 h3
  obtain ⟨s0, e0, rfl, _⟩ := DataW.trod_string Tryz.underlying9 h0
  obtain ⟨s1, e1, rfl, _⟩ := DataW.trod_string Tryz.underlying9 h1
  obtain ⟨s2, e2, rfl, w2⟩ := DataW.trod_int Tryz.underlying3 h2
  obtain ⟨s3, e3, rfl, _⟩ := DataW.trod_string Tryz.underlying9 h3
  simp at e0 e1 e2 e3
  subst e0
  subst e1
  subst e2
  subst e3
  exact ⟨⟨s0, s1, s2, s3⟩, rfl, bounds_i64 w2, hx⟩
set_option maxRecDepth 100000 in
theorem vx_open {n : Nat} {c0 c1 c2 c3 c4 c5 : Value} {x : DataW H × List MemPlace} (h : DataW.trod enc Tryz.prog w base spare held n 65 [c0, c1, c2, c3, c4, c5] = some x) :
    ∃ a : Vr, [c0, c1, c2, c3, c4, c5] = a.a.toList ∧ InI a.time ∧ InI a.loc ∧ InI a.kind ∧ InI a.num ∧ x.1 = vxD a := by
  obtain ⟨y0, y1, y2, y3, m, hx, _, h0, h1, h2, h3⟩ := trod_s4 Tryz.underlying65 h
  simp only [cellsXI, cellsXB, cellsXV] at h0 h1 h2 h3
  obtain ⟨s0, e0, rfl, w0⟩ := DataW.trod_int Tryz.underlying3 h0
  obtain ⟨s1, e1, rfl⟩ := DataW.trod_bool Tryz.underlying4 h1
  obtain ⟨s2, e2, rfl, w2⟩ := DataW.trod_int Tryz.underlying3 h2
  simp at e0 e1 e2
  subst e0
  subst e1
  subst e2
  have h3' : DataW.trod enc Tryz.prog w base spare held m 63 [c3, c4, c5] = some y3 := h3
  obtain ⟨u0, u1, u2, m', hu, _, g0, g1, g2⟩ := trod_struct3 Tryz.underlying63 h3'
  simp only [cellsXS, cellsXI] at g0 g1 g2
  obtain ⟨r0, f0, rfl, q0⟩ := DataW.trod_int Tryz.underlying3 g0
  obtain ⟨r1, f1, rfl, q1⟩ := DataW.trod_int Tryz.underlying3 g1
  obtain ⟨r2, f2, rfl, _⟩ := DataW.trod_string Tryz.underlying9 g2
  simp at f0 f1 f2
  subst f0
  subst f1
  subst f2
  exact ⟨⟨s0, s1, s2, r0, r1, r2⟩, rfl, bounds_i64 w0, bounds_i64 w2, bounds_i64 q0, bounds_i64 q1, by rw [hx, hu]; rfl⟩
set_option maxRecDepth 100000 in
theorem cx_open {n : Nat} {cs : List Value} {x : DataW H × List MemPlace} (h : DataW.trod enc Tryz.prog w base spare held n 67 cs = some x) :
    ∃ c : Cx, cs = c.a.toList ∧ InI c.k.r ∧ (InI c.v.time ∧ InI c.v.loc ∧ InI c.v.kind ∧ InI c.v.num) ∧ x.1 = cxD c := by
  obtain ⟨y0, y1, m, rfl, hl, h0, h1⟩ := trod_struct2 Tryz.underlying67 h
  rw [cellsXC] at hl
  match cs, hl with
  | [c0, c1, c2, c3, c4, c5, c6, c7, c8, c9], _ =>
    simp only [cellsXK] at h0
    simp only [cellsXR] at h1
    obtain ⟨k, ek, ok, dk⟩ := kx_open (n := m) (c0 := c0) (c1 := c1) (c2 := c2) (c3 := c3) (x := y0) h0
    obtain ⟨v, ev, o1, o2, o3, o4, dv⟩ := vx_open (n := m) (c0 := c4) (c1 := c5) (c2 := c6) (c3 := c7) (c4 := c8) (c5 := c9) (x := y1) h1
    obtain ⟨table, part, row, col⟩ := k
    obtain ⟨time, dead, loc, kind, num, s⟩ := v
    simp at ek
    simp [Vr.a] at ev
    obtain ⟨rfl, rfl, rfl, rfl⟩ := ek
    obtain ⟨rfl, rfl, rfl, rfl, rfl, rfl⟩ := ev
    exact ⟨⟨⟨table, part, row, col⟩, ⟨time, dead, loc, kind, num, s⟩⟩, rfl, ok, ⟨o1, o2, o3, o4⟩, by rw [dk, dv]; rfl⟩
end
set_option maxRecDepth 100000 in
theorem array6 {α : Type} {cs : Array α} (h : cs.size = 6) : ∃ c0 c1 c2 c3 c4 c5, cs = #[c0, c1, c2, c3, c4, c5] := by
  obtain ⟨l⟩ := cs
  match l, h with
  | [c0, c1, c2, c3, c4, c5], _ => exact ⟨c0, c1, c2, c3, c4, c5, rfl⟩
set_option maxRecDepth 100000 in
theorem array4' {α : Type} {cs : Array α} (h : cs.size = 4) : ∃ c0 c1 c2 c3, cs = #[c0, c1, c2, c3] := by
  obtain ⟨l⟩ := cs
  match l, h with
  | [c0, c1, c2, c3], _ => exact ⟨c0, c1, c2, c3, rfl⟩
set_option maxRecDepth 100000 in
/-- A version that came in. -/
theorem ver_came {H : Type} {enc : TypeId × Value → H} {W : World} {base : Nat} {v : Value} {d : DataW H} {p : List MemPlace} (hv : Value.okWide Tryz.prog W .any base 65 v)
    (h : DataW.Trod enc Tryz.prog W 0 (fun _ => true) true 65 v d p) : ∃ a : Vr, v = a.v ∧ (InI a.time ∧ InI a.loc ∧ InI a.kind ∧ InI a.num) ∧ d = vxD a := by
  obtain ⟨cs, rfl, hsz⟩ := okWide_struct Tryz.underlying65 hv
  obtain ⟨c0, c1, c2, c3, c4, c5, rfl⟩ := array6 (hsz.trans cellsXR)
  obtain ⟨fuel, hf⟩ := h
  obtain ⟨a, ea, o1, o2, o3, o4, hd⟩ := vx_open (n := fuel) (c0 := c0) (c1 := c1) (c2 := c2) (c3 := c3) (c4 := c4) (c5 := c5) (x := (d, p)) hf
  obtain ⟨time, dead, loc, kind, num, s⟩ := a
  simp [Vr.a] at ea
  obtain ⟨rfl, rfl, rfl, rfl, rfl, rfl⟩ := ea
  exact ⟨_, rfl, ⟨o1, o2, o3, o4⟩, hd⟩
set_option maxRecDepth 100000 in
/-- A key that came in. -/
theorem key_came {H : Type} {enc : TypeId × Value → H} {W : World} {base : Nat} {v : Value} {d : DataW H} {p : List MemPlace} (hv : Value.okWide Tryz.prog W .any base 61 v)
    (h : DataW.Trod enc Tryz.prog W 0 (fun _ => true) true 61 v d p) : ∃ k : Kb, v = k.v ∧ InI k.r ∧ d = kxD k := by
  obtain ⟨cs, rfl, hsz⟩ := okWide_struct Tryz.underlying61 hv
  obtain ⟨c0, c1, c2, c3, rfl⟩ := array4' (hsz.trans cellsXK)
  obtain ⟨fuel, hf⟩ := h
  obtain ⟨k, ek, o1, hd⟩ := kx_open (n := fuel) (c0 := c0) (c1 := c1) (c2 := c2) (c3 := c3) (x := (d, p)) hf
  obtain ⟨t, pp, r, c⟩ := k
  simp at ek
  obtain ⟨rfl, rfl, rfl, rfl⟩ := ek
  exact ⟨_, rfl, o1, hd⟩
set_option maxRecDepth 100000 in
/-- A cell that came in. -/
theorem cell_came {H : Type} {enc : TypeId × Value → H} {W : World} {base : Nat} {v : Value} {d : DataW H} {p : List MemPlace} (hv : Value.okWide Tryz.prog W .any base 67 v)
    (h : DataW.Trod enc Tryz.prog W 0 (fun _ => true) true 67 v d p) : ∃ c : Cx, v = c.val ∧ InI c.k.r ∧ (InI c.v.time ∧ InI c.v.loc ∧ InI c.v.kind ∧ InI c.v.num) ∧ d = cxD c := by
  obtain ⟨cs, rfl, hsz⟩ := okWide_struct Tryz.underlying67 hv
  obtain ⟨fuel, hf⟩ := h
  obtain ⟨c, ec, o1, o2, hd⟩ := cx_open (n := fuel) (cs := cs.toList) (x := (d, p)) hf
  have : cs = c.a := by rw [← Array.toArray_toList (xs := cs), ec, Array.toArray_toList]
  rw [this]
  exact ⟨c, rfl, o1, o2, hd⟩
set_option maxRecDepth 100000 in
theorem vxD_weights {H : Type} (a : Vr) : (vxD (H := H) a).weights Tryz.prog 65 = [a.s.size] := by
  unfold vxD sD iD
  simp [DataW.weights, DataW.weightsEach, Tryz.underlying65, Tryz.underlying63]
set_option maxRecDepth 100000 in
theorem kxD_weights {H : Type} (k : Kb) : (kxD (H := H) k).weights Tryz.prog 61 = [k.t.size, k.p.size, k.c.size] := by
  unfold kxD sD iD
  simp [DataW.weights, DataW.weightsEach, Tryz.underlying61]
set_option maxRecDepth 100000 in
theorem cxD_weights {H : Type} (c : Cx) : (cxD (H := H) c).weights Tryz.prog 67 = [c.k.t.size, c.k.p.size, c.k.c.size, c.v.s.size] := by
  unfold cxD kxD vxD sD iD
  simp [DataW.weights, DataW.weightsEach, Tryz.underlying67, Tryz.underlying61, Tryz.underlying65, Tryz.underlying63]
def big : Nat := 140737488355328
set_option maxRecDepth 100000 in
theorem reach_mem {H : Type} {ts : List TypeId} {ds : List (DataW H)} {j : Nat} {t : TypeId} {d : DataW H} (h : (DataW.weightsEach Tryz.prog ts ds).all (· ≤ reachBytes) = true) (ht : ts[j]? = some t) (hd : ds[j]? = some d) {n : Nat} (hn : n ∈ d.weights Tryz.prog t) : n ≤ big := by
  have := List.all_eq_true.1 h n (DataW.weights_mem_each ht hd n hn)
  have := of_decide_eq_true this
  simp only [reachBytes] at this
  unfold big; omega
/-- What came in is not great. -/
structure Cx.Fits (c : Cx) : Prop where
  r : InI c.k.r
  n : InI c.v.time ∧ InI c.v.loc ∧ InI c.v.kind ∧ InI c.v.num
  bt : c.k.t.size ≤ big
  bp : c.k.p.size ≤ big
  bc : c.k.c.size ≤ big
  bs : c.v.s.size ≤ big
set_option maxRecDepth 100000 in
theorem ver_reach {H : Type} {ts : List TypeId} {ds : List (DataW H)} {j : Nat} {a : Vr} (h : (DataW.weightsEach Tryz.prog ts ds).all (· ≤ reachBytes) = true) (ht : ts[j]? = some 65) (hd : ds[j]? = some (vxD a)) : a.s.size ≤ big :=
  reach_mem h ht hd (by rw [vxD_weights]; simp)
set_option maxRecDepth 100000 in
theorem cell_reach {H : Type} {ts : List TypeId} {ds : List (DataW H)} {j : Nat} {c : Cx} (o1 : InI c.k.r) (o2 : InI c.v.time ∧ InI c.v.loc ∧ InI c.v.kind ∧ InI c.v.num) (h : (DataW.weightsEach Tryz.prog ts ds).all (· ≤ reachBytes) = true) (ht : ts[j]? = some 67) (hd : ds[j]? = some (cxD c)) : c.Fits :=
  ⟨o1, o2, reach_mem h ht hd (by rw [cxD_weights]; simp), reach_mem h ht hd (by rw [cxD_weights]; simp), reach_mem h ht hd (by rw [cxD_weights]; simp), reach_mem h ht hd (by rw [cxD_weights]; simp)⟩
end Go.Proofs.YtlamncldbnagmaaGreatDoor

/-
  SEVERAL TEXTS IN ONE: MrgPlain, MrgLow, CxLaid.
-/
import Derived.Test.YtglaocghcgcghaaGreatDoorMany26
import Derived.Test.YtglaocghcgcghaaGreatDoorMany18
import Derived.Test.YtglaocghcgcghaaGreatDoorMany19
import Derived.Test.YtglaocghcgcghaaGreatDoorMany14
import Derived.Test.YtglaocghcgcghaaGreatDoorMany9
import Derived.Test.YtglaocghcgcghaaGreatDoorMany16
import Derived.Test.YtglaocghcgcghaaGreatDoorMany22
import Derived.WalkSmall
import Derived.Test.YtglaocghcgcghaaGreatDoorVerLaid
namespace Go.Proofs.YtglaocghcgcghaaGreatDoor
open Go.RowKit

/-! ### Cells with their list's place -/
def pc (x y : Cx × Nat) : Int := th (kx x.1 y.1) (ci x.2 y.2)
theorem pc_cmpr : Cmpr (lex kc ci) := kc_cmpr.lex ci_cmpr
theorem pc_lex (x y : Cx × Nat) : pc x y = lex kc ci (x.1.k.ky, (x.2 : Int)) (y.1.k.ky, (y.2 : Int)) := rfl
theorem pc_n (x y : Cx × Nat) : pc x y = - pc y x := by rw [pc_lex, pc_lex]; exact pc_cmpr.n _ _
theorem pc_t {x y z : Cx × Nat} (h : pc x y ≤ 0) (g : pc y z ≤ 0) : pc x z ≤ 0 := by rw [pc_lex] at *; exact pc_cmpr.t _ _ _ h g
theorem pc_self (x : Cx × Nat) : pc x x = 0 := by rw [pc_lex]; exact (pc_cmpr.z _ _).2 rfl
theorem pc_zero {x y : Cx × Nat} (h : pc x y = 0) : x.1.k = y.1.k ∧ x.2 = y.2 := by
  rw [pc_lex] at h
  have := (pc_cmpr.z _ _).1 h
  injection this with h1 h2
  exact ⟨Kb.ky_inj.1 h1, by omega⟩
theorem pc_lt {x y : Cx × Nat} (h : kx x.1 y.1 < 0) : pc x y < 0 := by unfold pc; rw [th_of (by omega)]; exact h
theorem pc_same {x y : Cx × Nat} (h : kx x.1 y.1 = 0) : pc x y = ci x.2 y.2 := by unfold pc; rw [h, th_zero]
theorem pc_place {x y : Cx × Nat} (h : pc x y < 0) (hk : x.1.k = y.1.k) : x.2 < y.2 := by
  rw [pc_same ((kx_z _ _).2 hk)] at h
  unfold ci at h
  split at h <;> omega
theorem pc_key {x y : Cx × Nat} (h : pc x y ≤ 0) : kx x.1 y.1 ≤ 0 := by
  unfold pc at h
  by_cases e : kx x.1 y.1 = 0
  · omega
  · rw [th_of e] at h; exact h

/-! ### What is left of a list -/
structure Hd where
  ao : Option Addr
  cap : Nat
  c : Cx
  r : List Cx
  pl : Nat
def Hd.p (h : Hd) : Cx × Nat := (h.c, h.pl)
def hc (a b : Hd) : Int := pc a.p b.p
def Hd.all (h : Hd) : List (Cx × Nat) := (h.c :: h.r).map fun x => (x, h.pl)
def prs (L : List Hd) : List (Cx × Nat) := L.flatMap Hd.all
theorem hc_n (x y : Hd) : hc x y = - hc y x := pc_n _ _
theorem hc_t {x y z : Hd} (h : hc x y ≤ 0) (g : hc y z ≤ 0) : hc x z ≤ 0 := pc_t h g

/-! ### The heap -/
def HAt (L : List Hd) (j : Nat) : Prop := ∀ c x y, (c = 2 * j + 1 ∨ c = 2 * j + 2) → L[c]? = some x → L[j]? = some y → hc y x ≤ 0
def HFrom (L : List Hd) (i : Nat) : Prop := ∀ j, i ≤ j → HAt L j
structure Snk (L0 M : List Hd) (i p : Nat) : Prop where
  perm : M.Perm L0
  le : i ≤ p
  ok : ∀ j, i ≤ j → j ≠ p → HAt M j
  up : ∀ q, i ≤ q → (p = 2 * q + 1 ∨ p = 2 * q + 2) → ∀ c x y, (c = 2 * p + 1 ∨ c = 2 * p + 2) → M[c]? = some x → M[q]? = some y → hc y x ≤ 0
theorem Snk.start {L : List Hd} {i : Nat} (h : HFrom L (i + 1)) : Snk L L i i := ⟨.refl _, Nat.le_refl _, fun j hj hn => h j (by omega), fun q hq h => by omega⟩
theorem Snk.done {L M : List Hd} {i p : Nat} (h : Snk L M i p) (hp : HAt M p) : HFrom M i := fun j hj => by
  by_cases e : j = p
  · subst e; exact hp
  · exact h.ok j hj e
theorem swap_at {M : List Hd} {p f : Nat} {x y : Hd} (hp : M[p]? = some x) (hf : M[f]? = some y) (hpf : p ≠ f) :
    ((M.set p y).set f x)[p]? = some y ∧ ((M.set p y).set f x)[f]? = some x ∧ ∀ k, k ≠ p → k ≠ f → ((M.set p y).set f x)[k]? = M[k]? := by
  have h1 := (List.getElem?_eq_some_iff.1 hp).1
  have h2 := (List.getElem?_eq_some_iff.1 hf).1
  refine ⟨?_, ?_, fun k hk hf' => ?_⟩
  · rw [List.getElem?_set_ne (Ne.symm hpf)]; simp [h1]
  · simp [h2]
  · rw [List.getElem?_set_ne (Ne.symm hf'), List.getElem?_set_ne (Ne.symm hk)]
theorem swap_perm {M : List Hd} {p f : Nat} {x y : Hd} (hp : M[p]? = some x) (hf : M[f]? = some y) : ((M.set p y).set f x).Perm M := by
  obtain ⟨h1, e1⟩ := List.getElem?_eq_some_iff.1 hp
  obtain ⟨h2, e2⟩ := List.getElem?_eq_some_iff.1 hf
  have := List.set_set_perm h1 h2
  rw [e1, e2] at this
  exact this
theorem Snk.step {L M : List Hd} {i p f : Nat} {x y : Hd} (h : Snk L M i p) (hf : f = 2 * p + 1 ∨ f = 2 * p + 2) (hx : M[p]? = some x) (hy : M[f]? = some y) (hyx : hc y x ≤ 0)
    (hl : ∀ c z, (c = 2 * p + 1 ∨ c = 2 * p + 2) → M[c]? = some z → hc y z ≤ 0) : Snk L ((M.set p y).set f x) i f := by
  have hpf : p ≠ f := by omega
  have hle := h.le
  obtain ⟨s1, s2, s3⟩ := swap_at hx hy hpf
  refine ⟨(swap_perm hx hy).trans h.perm, by omega, fun j hj hn c u v hc hu hv => ?_, fun q hq hq2 c u v hc hu hv => ?_⟩
  · by_cases e : j = p
    · subst e
      rw [s1] at hv; cases hv
      by_cases e2 : c = f
      · subst e2; rw [s2] at hu; cases hu; exact hyx
      · rw [s3 c (by omega) e2] at hu; exact hl c u hc hu
    · rw [s3 j e hn] at hv
      by_cases e2 : c = p
      · subst e2
        rw [s1] at hu; cases hu
        exact h.up j hj hc f _ _ hf hy hv
      · rw [s3 c e2 (by omega)] at hu
        exact h.ok j hj e c u v hc hu hv
  · have : q = p := by omega
    subst this
    rw [s1] at hv; cases hv
    rw [s3 c (by omega) (by omega)] at hu
    exact h.ok f (by omega) (Ne.symm hpf) c _ _ hc hu hy
theorem HFrom.top {L : List Hd} (h : HFrom L 0) {a : Hd} (ha : L[0]? = some a) : ∀ (j : Nat) (x : Hd), L[j]? = some x → hc a x ≤ 0 := fun j => by
  induction j using Nat.strongRecOn with
  | _ j ih =>
    intro x hx
    by_cases e : j = 0
    · subst e; rw [ha] at hx; cases hx; exact Int.le_of_eq (pc_self _)
    · have hj := (List.getElem?_eq_some_iff.1 hx).1
      have hq : (j - 1) / 2 < L.length := by omega
      exact hc_t (ih ((j - 1) / 2) (by omega) _ (List.getElem?_eq_getElem hq)) (h _ (Nat.zero_le _) j x _ (by omega) hx (List.getElem?_eq_getElem hq))
theorem HFrom.beyond {L : List Hd} {i : Nat} (h : L.length ≤ 2 * i + 1) : HFrom L i := fun j hj c x y hc hx _ => by
  have := (List.getElem?_eq_some_iff.1 hx).1; omega

/-! ### The cells in their order -/
def SS (R : List (Cx × Nat)) : Prop := R.Pairwise fun x y => pc x y < 0
theorem ss_next {a : Hd} {T : List Hd} {R : List (Cx × Nat)} (h : HFrom (a :: T) 0) (hr : ∀ x ∈ a :: T, Rising (x.c :: x.r)) (hs : SS R) (hp : R.Perm (prs (a :: T))) :
    ∃ R', R = a.p :: R' ∧ SS R' ∧ R'.Perm (a.r.map (fun x => (x, a.pl)) ++ prs T) := by
  have e : prs (a :: T) = a.p :: (a.r.map (fun x => (x, a.pl)) ++ prs T) := rfl
  cases R with
  | nil => rw [e] at hp; exact absurd hp.length_eq (by simp)
  | cons y R' =>
    have hle : pc a.p y ≤ 0 := by
      have hy : y ∈ prs (a :: T) := hp.subset (by simp)
      obtain ⟨x, hx, hyx⟩ := List.mem_flatMap.1 hy
      obtain ⟨d, hd, rfl⟩ := List.mem_map.1 hyx
      obtain ⟨j, hj, e2⟩ := List.getElem_of_mem hx
      have h1 : hc a x ≤ 0 := h.top rfl j x (by rw [List.getElem?_eq_getElem hj, e2])
      refine pc_t h1 ?_
      rcases List.mem_cons.1 hd with rfl | hd
      · exact Int.le_of_eq (pc_self _)
      · have h2 := (List.pairwise_cons.1 (hr x hx)).1 d hd
        exact Int.le_of_lt (pc_lt h2)
    have hm : a.p ∈ y :: R' := hp.symm.subset (by rw [e]; simp)
    have hya : y = a.p := by
      rcases List.mem_cons.1 hm with h1 | h1
      · exact h1.symm
      · have h2 := (List.pairwise_cons.1 hs).1 _ h1
        have h3 := pc_n a.p y
        omega
    subst hya
    refine ⟨R', rfl, (List.pairwise_cons.1 hs).2, ?_⟩
    rw [e] at hp
    exact List.Perm.cons_inv hp
/-- Whole lists, each with its place. -/
def prL (ls : List (List Cx)) : List (Cx × Nat) := ls.zipIdx.flatMap fun p => p.1.map fun x => (x, p.2)
theorem prL_snoc (ls : List (List Cx)) (l : List Cx) : prL (ls ++ [l]) = prL ls ++ l.map fun x => (x, ls.length) := by
  unfold prL; rw [List.zipIdx_append, List.flatMap_append]; simp
theorem prL_fst (ls : List (List Cx)) : (prL ls).map Prod.fst = ls.flatten := by
  have : ∀ n (ls : List (List Cx)), ((ls.zipIdx n).flatMap fun p => p.1.map fun x => (x, p.2)).map Prod.fst = ls.flatten := fun n ls => by
    induction ls generalizing n with
    | nil => rfl
    | cons l ls ih => rw [List.zipIdx_cons, List.flatMap_cons, List.map_append, ih, List.flatten_cons]; simp [Function.comp_def]
  exact this 0 ls
theorem prL_rise {ls : List (List Cx)} (hr : ∀ l ∈ ls, Rising l) : (prL ls).Pairwise fun x y => x.2 < y.2 ∨ (x.2 = y.2 ∧ kx x.1 y.1 < 0) := by
  have : ∀ n (ls : List (List Cx)), (∀ l ∈ ls, Rising l) → ((ls.zipIdx n).flatMap fun p => p.1.map fun x => (x, p.2)).Pairwise (fun x y => x.2 < y.2 ∨ (x.2 = y.2 ∧ kx x.1 y.1 < 0)) ∧ ∀ x ∈ ((ls.zipIdx n).flatMap fun p => p.1.map fun x => (x, p.2)), n ≤ x.2 := fun n ls => by
    induction ls generalizing n with
    | nil => intro _; exact ⟨by simp, by simp⟩
    | cons l ls ih =>
      intro h
      obtain ⟨h1, h2⟩ := ih (n + 1) fun l hl => h l (by simp [hl])
      rw [List.zipIdx_cons, List.flatMap_cons]
      refine ⟨List.pairwise_append.2 ⟨?_, h1, fun x hx y hy => ?_⟩, fun x hx => ?_⟩
      · exact List.pairwise_map.2 ((h l (by simp)).imp fun hk => .inr ⟨rfl, hk⟩)
      · obtain ⟨c, _, rfl⟩ := List.mem_map.1 hx
        exact .inl (h2 y hy)
      · rcases List.mem_append.1 hx with hx | hx
        · obtain ⟨c, _, rfl⟩ := List.mem_map.1 hx; exact Nat.le_refl _
        · have := h2 x hx; omega
  exact (this 0 ls hr).1
theorem ss_ex {ls : List (List Cx)} (hr : ∀ l ∈ ls, Rising l) : ∃ R, SS R ∧ R.Perm (prL ls) := by
  refine ⟨(prL ls).mergeSort fun x y => decide (pc x y ≤ 0), ?_, List.mergeSort_perm _ _⟩
  have h1 : ((prL ls).mergeSort fun x y => decide (pc x y ≤ 0)).Pairwise fun x y => decide (pc x y ≤ 0) = true :=
    List.pairwise_mergeSort (fun a b c h g => by simp only [decide_eq_true_eq] at *; exact pc_t h g) (fun a b => by
      have := pc_n a b
      by_cases h : pc a b ≤ 0
      · simp [h]
      · have h' : pc b a ≤ 0 := by omega
        simp [h']) _
  have h2 : (prL ls).Pairwise fun x y => pc x y ≠ 0 := (prL_rise hr).imp fun h e => by
    obtain ⟨e1, e2⟩ := pc_zero e
    rcases h with h | ⟨_, h⟩
    · omega
    · exact kx_ne h e1
  have h3 : ((prL ls).mergeSort fun x y => decide (pc x y ≤ 0)).Pairwise fun x y => pc x y ≠ 0 :=
    (List.Perm.pairwise_iff (fun {x y} h e => h (by rw [pc_n]; omega)) (List.mergeSort_perm _ _)).2 h2
  exact (h1.and h3).imp fun ⟨a, b⟩ => by simp only [decide_eq_true_eq] at a; omega
theorem ss_up {R : List (Cx × Nat)} (h : SS R) : Up (R.map Prod.fst) := List.pairwise_map.2 (h.imp fun g => pc_key (Int.le_of_lt g))
theorem ss_st {ls : List (List Cx)} (hr : ∀ l ∈ ls, Rising l) {R : List (Cx × Nat)} (hs : SS R) (hp : R.Perm (prL ls)) : Sbl ls.flatten (R.map Prod.fst) := by
  refine ⟨?_, fun κ => ?_⟩
  · rw [List.length_map, hp.length_eq, ← prL_fst, List.length_map]
  · classical
    rw [← prL_fst]
    have hf : ∀ A : List (Cx × Nat), ofK κ (A.map Prod.fst) = (A.filter fun x => decide (x.1.k = κ)).map Prod.fst := fun A => by
      induction A with
      | nil => rfl
      | cons x A ih =>
        by_cases e : x.1.k = κ
        · rw [List.map_cons, ofK_cons_hit _ e, ih, List.filter_cons_of_pos (by simp [e]), List.map_cons]
        · rw [List.map_cons, ofK_cons_miss _ e, ih, List.filter_cons_of_neg (by simp [e])]
    rw [hf, hf]
    have h1 : (R.filter fun x => decide (x.1.k = κ)).Pairwise fun x y => x.2 < y.2 := by
      refine List.Pairwise.imp_of_mem (R := fun x y => pc x y < 0) (fun {x y} hx hy h => ?_) (List.Pairwise.filter _ hs)
      have := (List.mem_filter.1 hx).2; have := (List.mem_filter.1 hy).2
      simp only [decide_eq_true_eq] at *
      exact pc_place h (by simp [*])
    have h2 : ((prL ls).filter fun x => decide (x.1.k = κ)).Pairwise fun x y => x.2 < y.2 := by
      refine List.Pairwise.imp_of_mem (fun {x y} hx hy h => ?_) (List.Pairwise.filter _ (prL_rise hr))
      have := (List.mem_filter.1 hx).2; have := (List.mem_filter.1 hy).2
      simp only [decide_eq_true_eq] at *
      rcases h with h | ⟨_, h⟩
      · exact h
      · exact absurd (by simp [*]) (kx_ne h)
    rw [List.Perm.eq_of_pairwise (le := fun x y => x.2 < y.2) (fun a b _ _ h g => by omega) h1 h2 (hp.filter _)]
theorem ss_nrm {ls : List (List Cx)} (hr : ∀ l ∈ ls, Rising l) {R : List (Cx × Nat)} (hs : SS R) (hp : R.Perm (prL ls)) : jr (R.map Prod.fst) = nrm ls.flatten := jr_nrm (ss_st hr hs hp) (ss_up hs)

/-! ### With counts -/
def j2S (O : List (Cx × Nat)) (x : Cx) : List (Cx × Nat) := match O.getLast? with
  | none => [(x, 1)]
  | some y => if kx y.1 x = 0 then O.dropLast ++ [(jnC y.1 x, y.2 + 1)] else O ++ [(x, 1)]
theorem j2S_nil (x : Cx) : j2S [] x = [(x, 1)] := rfl
theorem j2S_same {O : List (Cx × Nat)} {y : Cx × Nat} {x : Cx} (h : kx y.1 x = 0) : j2S (O ++ [y]) x = O ++ [(jnC y.1 x, y.2 + 1)] := by unfold j2S; simp [h]
theorem j2S_other {O : List (Cx × Nat)} {y : Cx × Nat} {x : Cx} (h : ¬ kx y.1 x = 0) : j2S (O ++ [y]) x = (O ++ [y]) ++ [(x, 1)] := by unfold j2S; simp [h]
def j2 (l : List Cx) : List (Cx × Nat) := l.foldl j2S []
theorem j2_snoc (l : List Cx) (x : Cx) : j2 (l ++ [x]) = j2S (j2 l) x := by unfold j2; rw [List.foldl_append]; rfl
theorem j2_fst (l : List Cx) : (j2 l).map Prod.fst = jr l := by
  refine snoc_ind (P := fun l => (j2 l).map Prod.fst = jr l) rfl (fun l x h => ?_) l
  rw [j2_snoc, jr_snoc, ← h]
  rcases List.eq_nil_or_concat (j2 l) with e | ⟨O, y, e⟩
  · rw [e, j2S_nil]; rfl
  · rw [List.concat_eq_append] at e
    rw [e, List.map_append]
    by_cases hk : kx y.1 x = 0
    · rw [j2S_same hk, List.map_append]; exact (jrS_same hk).symm
    · rw [j2S_other hk, List.map_append, List.map_append]; exact (jrS_other hk).symm
theorem j2_ne {l : List Cx} (h : l ≠ []) : j2 l ≠ [] := by
  rcases List.eq_nil_or_concat l with e | ⟨m, x, e⟩
  · exact absurd e h
  · rw [e, List.concat_eq_append, j2_snoc]
    unfold j2S
    split
    · simp
    · split <;> simp
theorem j2_sum (l : List Cx) : ((j2 l).map Prod.snd).sum = l.length := by
  refine snoc_ind (P := fun l => ((j2 l).map Prod.snd).sum = l.length) rfl (fun l x h => ?_) l
  rw [j2_snoc, List.length_append, ← h]
  rcases List.eq_nil_or_concat (j2 l) with e | ⟨O, y, e⟩
  · rw [e, j2S_nil]; simp
  · rw [List.concat_eq_append] at e
    rw [e]
    by_cases hk : kx y.1 x = 0
    · rw [j2S_same hk]; simp; omega
    · rw [j2S_other hk]; simp; omega
theorem j2_pos (l : List Cx) : ∀ y ∈ j2 l, 1 ≤ y.2 := by
  refine snoc_ind (P := fun l => ∀ y ∈ j2 l, 1 ≤ y.2) (by simp [j2]) (fun l x h => ?_) l
  rw [j2_snoc]
  rcases List.eq_nil_or_concat (j2 l) with e | ⟨O, y, e⟩
  · rw [e, j2S_nil]; simp
  · rw [List.concat_eq_append] at e
    rw [e] at h ⊢
    by_cases hk : kx y.1 x = 0
    · rw [j2S_same hk]
      intro z hz
      rcases List.mem_append.1 hz with hz | hz
      · exact h z (by simp [hz])
      · obtain rfl : z = _ := by simpa using hz
        simp
    · rw [j2S_other hk]
      intro z hz
      rcases List.mem_append.1 hz with hz | hz
      · exact h z hz
      · obtain rfl : z = _ := by simpa using hz
        simp
end Go.Proofs.YtglaocghcgcghaaGreatDoor
namespace Go.Proofs.YtglaocghcgcghaaGreatDoor
open Go.RowKit

attribute [local go_sem] Oper.pureAt Oper.pureUpon
def Hd.a (h : Hd) : Array Value := #[.slice h.ao (h.r.length + 1) h.cap, .int .i64 h.pl]
def hv2 (h : Hd) : List Value := [.slice h.ao (h.r.length + 1) h.cap, .int .i64 h.pl]
theorem hv2_len (h : Hd) : (hv2 h).length = 2 := rfl
def Hd.In (w : World) (h : Hd) : Prop := XSees w h.ao (h.c :: h.r)
theorem Hd.In.ten {w : World} {h : Hd} (hi : h.In w) : ∃ b o, h.ao = some ⟨b, o, none⟩ ∧ TenX w b o h.c := by
  obtain ⟨b, o, e, t⟩ := hi 0 h.c rfl
  exact ⟨b, o, e, by simpa using t⟩
end Go.Proofs.YtglaocghcgcghaaGreatDoor
namespace Go.Proofs.YtglaocghcgcghaaGreatDoor
open Go.RowKit

def set2 (w : World) (g o : Nat) (x : Hd) : World := (w.setCell ⟨g, o, none⟩ (.slice x.ao (x.r.length + 1) x.cap)).setCell ⟨g, o + 1, none⟩ (.int .i64 x.pl)
/-- The lists lie in blocks that are Ok. -/
def HIn (w : World) (Ok : Nat → Prop) (L : List Hd) : Prop := ∀ x ∈ L, x.In w ∧ (∀ a, x.ao = some a → Ok a.block) ∧ x.r.length + 1 ≤ x.cap
theorem Hd.In.below {w w' : World} {B : Nat} {x : Hd} (h : x.In w) (hl : ∀ a, x.ao = some a → a.block < B) (hb : Below B w w') : x.In w' := fun i c hc => by
  obtain ⟨b, o, e, t⟩ := h i c hc
  exact ⟨b, o, e, t.below hb (hl _ e)⟩
theorem HIn.below {w w' : World} {B : Nat} {Ok : Nat → Prop} {L : List Hd} (h : HIn w Ok L) (hOk : ∀ k, Ok k → k < B) (hb : Below B w w') : HIn w' Ok L := fun x hx => ⟨(h x hx).1.below (fun a e => hOk _ ((h x hx).2.1 a e)) hb, (h x hx).2⟩
theorem HIn.perm {w : World} {Ok : Nat → Prop} {L M : List Hd} (h : HIn w Ok L) (hp : M.Perm L) : HIn w Ok M := fun x hx => h x (hp.subset hx)
theorem Zoned.below {a z B : Nat} {w w' : World} (h : Zoned a z w w') (hB : B ≤ a) (hw : B ≤ w.heap.size) : Below B w w' := ⟨h.os, h.tape, h.output, h.size, fun k hk => h.block k (by omega) (.inl (by omega))⟩
/-- The least of an entry and those below it, as far as they were looked at. -/
structure Fst (M : List Hd) (p f b : Nat) : Prop where
  bs : b = 2 * p + 1 ∨ b = 2 * p + 2 ∨ b = 2 * p + 3
  fs : f = p ∨ ((f = 2 * p + 1 ∨ f = 2 * p + 2) ∧ f < M.length)
  mn : ∀ c x y, (c = 2 * p + 1 ∨ c = 2 * p + 2) → c < b → M[c]? = some x → M[f]? = some y → hc y x ≤ 0
  up : ∀ x y, M[p]? = some x → M[f]? = some y → hc y x ≤ 0
theorem Fst.start (M : List Hd) (p : Nat) : Fst M p p (2 * p + 1) := ⟨.inl rfl, .inl rfl, fun c x y h1 h2 => by omega, fun x y hx hy => by rw [hx] at hy; cases hy; exact Int.le_of_eq (pc_self _)⟩
theorem Fst.keep {M : List Hd} {p f b : Nat} {x y : Hd} (h : Fst M p f b) (hb : b ≤ 2 * p + 2) (hx : M[b]? = some x) (hy : M[f]? = some y) (hn : ¬ hc x y < 0) : Fst M p f (b + 1) := by
  refine ⟨by have := h.bs; omega, h.fs, fun c u v hc hcb hu hv => ?_, h.up⟩
  by_cases e : c = b
  · subst e; rw [hx] at hu; cases hu; rw [hy] at hv; cases hv
    have := hc_n y x; omega
  · exact h.mn c u v hc (by omega) hu hv
theorem Fst.take {M : List Hd} {p f b : Nat} {x y : Hd} (h : Fst M p f b) (hb : b ≤ 2 * p + 2) (hx : M[b]? = some x) (hy : M[f]? = some y) (hn : hc x y < 0) : Fst M p b (b + 1) := by
  have hbl := (List.getElem?_eq_some_iff.1 hx).1
  have hbs := h.bs
  refine ⟨by omega, .inr ⟨by omega, hbl⟩, fun c u v hc hcb hu hv => ?_, fun u v hu hv => ?_⟩
  · rw [hx] at hv; cases hv
    by_cases e : c = b
    · subst e; rw [hx] at hu; cases hu; exact Int.le_of_eq (pc_self _)
    · exact hc_t (Int.le_of_lt hn) (h.mn c u y hc (by omega) hu hy)
  · rw [hx] at hv; cases hv
    exact hc_t (Int.le_of_lt hn) (h.up u y hu hy)
theorem Fst.all {M : List Hd} {p f b : Nat} {y : Hd} (h : Fst M p f b) (hb : 2 * p + 2 < b ∨ M.length ≤ b) (hy : M[f]? = some y) : ∀ c z, (c = 2 * p + 1 ∨ c = 2 * p + 2) → M[c]? = some z → hc y z ≤ 0 := fun c z hc hz => by
  have := (List.getElem?_eq_some_iff.1 hz).1
  exact h.mn c z y hc (by omega) hz hy
end Go.Proofs.YtglaocghcgcghaaGreatDoor
namespace Go.Proofs.YtglaocghcgcghaaGreatDoor
open Go.RowKit

theorem hfrom_set {a b : Hd} {T : List Hd} (h : HFrom (a :: T) 0) : HFrom (b :: T) 1 := fun j hj c x y hc hx hy => by
  obtain ⟨j, rfl⟩ : ∃ k, j = k + 1 := ⟨j - 1, by omega⟩
  obtain ⟨c, rfl⟩ : ∃ k, c = k + 1 := ⟨c - 1, by omega⟩
  exact h (j + 1) (Nat.zero_le _) (c + 1) x y hc (by simpa using hx) (by simpa using hy)
theorem hfrom_pop {a z : Hd} {T : List Hd} (h : HFrom (a :: (T ++ [z])) 0) : HFrom (z :: T) 1 := fun j hj c x y hc hx hy => by
  obtain ⟨j, rfl⟩ : ∃ k, j = k + 1 := ⟨j - 1, by omega⟩
  obtain ⟨c, rfl⟩ : ∃ k, c = k + 1 := ⟨c - 1, by omega⟩
  have hx' : T[c]? = some x := by simpa using hx
  have hy' : T[j]? = some y := by simpa using hy
  have h1 := (List.getElem?_eq_some_iff.1 hx').1
  have h2 := (List.getElem?_eq_some_iff.1 hy').1
  exact h (j + 1) (Nat.zero_le _) (c + 1) x y hc (by simp [List.getElem?_append_left h1, hx']) (by simp [List.getElem?_append_left h2, hy'])
theorem Hd.In.tail {w : World} {b o cap k : Nat} {c d : Cx} {r : List Cx} {p p' : Nat} (h : Hd.In w ⟨some ⟨b, o, none⟩, cap, c, d :: r, p⟩) : Hd.In w ⟨some ⟨b, o + 10, none⟩, k, d, r, p'⟩ := fun i x hx => by
  obtain ⟨b', o', e, t⟩ := h (i + 1) x (by simpa using hx)
  injection e with e
  injection e with e1 e2
  subst e1 e2
  refine ⟨b, o + 10, rfl, ?_⟩
  have : o + 10 + i * 10 = o + (i + 1) * 10 := by omega
  rw [this]; exact t
end Go.Proofs.YtglaocghcgcghaaGreatDoor
namespace Go.Proofs.YtglaocghcgcghaaGreatDoor
open Go.RowKit

/-- A list of cells in memory. -/
structure Lvx where
  ao : Option Addr
  cap : Nat
  l : List Cx
def Lvx.s (v : Lvx) : Value := .slice v.ao v.l.length v.cap
def Lvx.At (w : World) (Ok : Nat → Prop) (v : Lvx) : Prop := XSees w v.ao v.l ∧ (∀ a, v.ao = some a → Ok a.block) ∧ v.l.length ≤ v.cap
theorem Lvx.At.below {w w' : World} {B : Nat} {Ok : Nat → Prop} {v : Lvx} (h : v.At w Ok) (hOk : ∀ k, Ok k → k < B) (hb : Below B w w') : v.At w' Ok :=
  ⟨fun i c hc => by obtain ⟨b, o, e, t⟩ := h.1 i c hc; exact ⟨b, o, e, t.below hb (hOk _ (h.2.1 _ e))⟩, h.2⟩
/-- Many of them. -/
def LSees (w : World) (lo : Option Addr) (vs : List Lvx) : Prop := ∀ i v, vs[i]? = some v → ∃ b off, lo = some ⟨b, off, none⟩ ∧ w.cell? ⟨b, off + i, none⟩ = some v.s
theorem LSees.below {w w' : World} {lo : Option Addr} {vs : List Lvx} (h : LSees w lo vs) {B : Nat} (hb : Below B w w') (hB : w.heap.size ≤ B) : LSees w' lo vs := fun i v hv => by
  obtain ⟨b, off, e, hc⟩ := h i v hv
  have := World.block_lt_of_cell? _ _ hc
  exact ⟨b, off, e, (hb.cell (p := ⟨b, off + i, none⟩) (Nat.lt_of_lt_of_le this hB)).trans hc⟩
theorem hv2_one (h : Hd) : ∀ u ∈ hv2 h, u.oneCell' = true := by
  intro u hu
  simp only [hv2, List.mem_cons, List.not_mem_nil, or_false] at hu
  rcases hu with rfl | rfl <;> rfl
theorem prs_snoc (L : List Hd) (h : Hd) : prs (L ++ [h]) = prs L ++ h.all := by unfold prs; simp
end Go.Proofs.YtglaocghcgcghaaGreatDoor
namespace Go.Proofs.YtglaocghcgcghaaGreatDoor
open Go.ChangeShapes Go.WideShapes Go.ChangeAt Go.RowKit Go.Deep

set_option maxRecDepth 100000 in
theorem weightsX_mem {H : Type} {P : Program} {e : TypeId} {d : DataW H} : ∀ {l : List (DataW H)}, d ∈ l → ∀ n ∈ d.weights P e, n ∈ DataW.weightsAll P e l
  | [], h, _, _ => by cases h
  | a :: l, h, n, hn => by
    simp only [DataW.weightsAll, List.mem_append]
    rcases List.mem_cons.1 h with rfl | h
    · exact .inl hn
    · exact .inr (weightsX_mem h n hn)
/-- What numbers came in. -/
def Cx.In (c : Cx) : Prop := InI c.k.r ∧ (InI c.v.time ∧ InI c.v.loc ∧ InI c.v.kind ∧ InI c.v.num)
def noCx : Cx := ⟨⟨⟨#[]⟩, ⟨#[]⟩, 0, ⟨#[]⟩⟩, zeroV⟩
set_option maxRecDepth 100000 in
/-- Cells that came in. -/
theorem cells_came {H : Type} {enc : TypeId × Value → H} {W : World} {ao : Option Addr} {len cap : Nat} {d : DataW H} {p : List MemPlace}
    (h : DataW.Trod enc Tryz.prog W 0 (fun _ => true) true 26 (Value.slice ao len cap) d p) :
    ∃ l : List Cx, l.length = len ∧ XSees W ao l ∧ (ao = none → l.length = 0) ∧ (∀ c ∈ l, c.In) ∧ (l.length = 0 ∨ ∃ sp, d = .slice (l.map cxD) sp) := by
  obtain ⟨fuel, hf⟩ := h
  rcases open_slice Tryz.underlying26 hf with ⟨hcs, _⟩ | ⟨a, n, c, m, k, D, Pl, hcs, _, hle, _, hm, hx, hc⟩
  · simp [Value.cells] at hcs
    obtain ⟨rfl, rfl, rfl⟩ := hcs
    exact ⟨[], rfl, (fun i c hc => by simp at hc), fun _ => rfl, (fun c hc => by cases hc), .inl rfl⟩
  · simp [Value.cells] at hcs
    obtain ⟨rfl, rfl, rfl⟩ := hcs
    simp only [if_true] at hm
    subst hm
    rw [cellsXC] at hc
    haveI : Inhabited Cx := ⟨noCx⟩
    obtain ⟨C, hC⟩ := choose_lt (α := Cx) (n := len) (p := fun i c => W.cells? 0 (a.add (i * 10)) 10 = some c.a.toList ∧ c.In ∧ D i = cxD c) (fun i hi => by
      obtain ⟨cs', h1, h2⟩ := hc i (by omega)
      obtain ⟨c, rfl, h3, h4, h5⟩ := cx_open h2
      exact ⟨c, h1, ⟨h3, h4⟩, h5⟩)
    have hD : (List.range len).map D = ((List.range len).map C).map cxD := by
      rw [List.map_map]
      exact List.map_congr_left fun i hi => (hC i (List.mem_range.1 hi)).2.2
    have hd := congrArg Prod.fst hx
    simp only [hD] at hd
    refine ⟨(List.range len).map C, by simp, ?_, (fun h => by cases h), ?_, .inr ⟨_, hd⟩⟩
    · intro i c hi
      have hlt : i < len := by
        have := (List.getElem?_eq_some_iff.1 hi).1
        simpa using this
      simp [hlt] at hi
      subst hi
      obtain ⟨_, _, h3⟩ := World.cells?_some (hC i hlt).1
      obtain ⟨_, _, h30⟩ := World.cells?_some (hC 0 (by omega)).1
      have hz := h30 0 (by omega)
      obtain ⟨b, off, spot⟩ := a
      have hspot : spot = none := by
        have := World.cell?_spot (hz.trans (by rfl : (C 0).a.toList[0]? = some (.string (C 0).k.t)))
        simpa [Addr.add] using this
      subst hspot
      have hv : ∀ j v, (C i).a.toList[j]? = some v → W.cell? ⟨b, off + i * 10 + j, none⟩ = some v := fun j v hv => by
        have hj : j < 10 := (List.getElem?_eq_some_iff.1 hv).1
        have := h3 j hj
        rw [Addr.add_lit, Addr.add_lit, hv] at this
        exact this
      exact ⟨b, off, rfl, ⟨hv 0 _ rfl, hv 1 _ rfl, hv 2 _ rfl, hv 3 _ rfl, hv 4 _ rfl, hv 5 _ rfl, hv 6 _ rfl, hv 7 _ rfl, hv 8 _ rfl, hv 9 _ rfl⟩⟩
    · intro c hc
      obtain ⟨i, hi, rfl⟩ := List.mem_map.1 hc
      exact (hC i (List.mem_range.1 hi)).2.1
set_option maxRecDepth 100000 in
theorem bytesXC : Tryz.prog.bytesOf 50 = 112 := by kernel_rfl
set_option maxRecDepth 100000 in
theorem cells_fit {H : Type} {ts : List TypeId} {ds : List (DataW H)} {j : Nat} {d : DataW H} {l : List Cx} (h : (DataW.weightsEach Tryz.prog ts ds).all (· ≤ reachBytes) = true) (ht : ts[j]? = some 26) (hd : ds[j]? = some d)
    (hk : ∀ c ∈ l, c.In) (hn : l.length = 0 ∨ ∃ sp, d = .slice (l.map cxD) sp) : l.length ≤ 140737488355328 ∧ ∀ c ∈ l, c.In ∧ wtX c ≤ 562949953421312 := by
  rcases hn with h0 | ⟨sp, rfl⟩
  · obtain rfl : l = [] := List.eq_nil_of_length_eq_zero h0
    exact ⟨by simp, fun c hc => by cases hc⟩
  · have h1 := sized_slice h ht hd Tryz.underlying26
    rw [bytesXC] at h1
    simp only [reachBytes, List.length_map] at h1
    refine ⟨by omega, fun c hc => ⟨hk c hc, ?_⟩⟩
    have hw : ∀ n ∈ (cxD (H := H) c).weights Tryz.prog 50, n ≤ big := fun n hn =>
      reach_mem h ht hd (by
        simp only [DataW.weights, Tryz.underlying26, List.mem_cons, List.mem_append]
        exact .inr (.inl (weightsX_mem (List.mem_map_of_mem hc) n hn)))
    rw [cxD_weights] at hw
    have a0 := hw c.k.t.size (by simp)
    have a1 := hw c.k.p.size (by simp)
    have a2 := hw c.k.c.size (by simp)
    have a3 := hw c.v.s.size (by simp)
    unfold big at a0 a1 a2 a3
    unfold wtX
    omega
set_option maxRecDepth 100000 in
theorem array3 {α : Type} {cs : Array α} (h : cs.size = 3) : ∃ c0 c1 c2, cs = #[c0, c1, c2] := by
  obtain ⟨l⟩ := cs
  match l, h with
  | [c0, c1, c2], _ => exact ⟨c0, c1, c2, rfl⟩
set_option maxRecDepth 100000 in
/-- A value that came in. -/
theorem value_came {H : Type} {enc : TypeId × Value → H} {W : World} {base : Nat} {v : Value} {d : DataW H} {p : List MemPlace} (hv : Value.okWide Tryz.prog W .any base 46 v)
    (h : DataW.Trod enc Tryz.prog W 0 (fun _ => true) true 46 v d p) : ∃ (k n : Int) (s : ByteArray), v = .agg #[.int .i64 k, .int .i64 n, .string s] ∧ InI k ∧ InI n := by
  obtain ⟨cs, rfl, hsz⟩ := okWide_struct Tryz.underlying46 hv
  obtain ⟨c0, c1, c2, rfl⟩ := array3 (hsz.trans cellsXV)
  obtain ⟨fuel, hf⟩ := h
  obtain ⟨u0, u1, u2, m', hu, _, g0, g1, g2⟩ := trod_struct3 (cs := [c0, c1, c2]) Tryz.underlying46 hf
  simp only [cellsXS, cellsXI] at g0 g1 g2
  obtain ⟨r0, f0, rfl, q0⟩ := DataW.trod_int Tryz.underlying3 g0
  obtain ⟨r1, f1, rfl, q1⟩ := DataW.trod_int Tryz.underlying3 g1
  obtain ⟨r2, f2, rfl, _⟩ := DataW.trod_string Tryz.underlying9 g2
  simp at f0 f1 f2
  subst f0
  subst f1
  subst f2
  exact ⟨r0, r1, r2, rfl, bounds_i64 q0, bounds_i64 q1⟩
end Go.Proofs.YtglaocghcgcghaaGreatDoor

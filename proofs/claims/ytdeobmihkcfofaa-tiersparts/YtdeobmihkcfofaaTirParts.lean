/-
  PLAIN: what the buckets are like, for TiersParts.
-/
import Derived.Test.YtdeobmihkcfofaaTirLives
namespace Go.Proofs.Ytdeobmihkcfofaa.tiersParts
open Go.RowKit Go.Proofs.Ytdeobmihkcfofaa

/-- How often each number was seen. -/
def cnts (n : Nat) (X : List Nat) : List Int := (List.range n).map fun t => (X.count t : Int)
theorem cnts_len (n : Nat) (X : List Nat) : (cnts n X).length = n := by simp [cnts]
theorem cnts_at {n t : Nat} (X : List Nat) (h : t < n) : (cnts n X)[t]? = some (X.count t : Int) := by simp [cnts, h]
theorem cnts_nil (n : Nat) : cnts n [] = List.replicate n 0 := by
  apply List.ext_getElem
  · simp [cnts]
  · intro i h1 h2; simp [cnts]
theorem cnts_step (n t : Nat) (X : List Nat) : (cnts n X).set t ((X.count t : Int) + 1) = cnts n (X ++ [t]) := by
  apply List.ext_getElem
  · simp [cnts]
  · intro i h1 h2
    have hi : i < n := by simpa [cnts] using h2
    simp only [cnts, List.getElem_set, List.getElem_map, List.getElem_range, List.count_append, List.count_singleton]
    by_cases e : t = i
    · subst e; simp
    · simp [e]
/-- The least and the greatest size. -/
def loF (s : List Int) (X : List Nat) : Int := X.foldl (fun a t => min a (cs s t : Int)) 4611686018427387904
def hiF (s : List Int) (X : List Nat) : Int := X.foldl (fun a t => max a (cs s t : Int)) (-1)
theorem lo_step {s : List Int} {b : List Nat} {j x : Nat} (h : b[j]? = some x) : loF s (b.take (j + 1)) = min (loF s (b.take j)) (cs s x : Int) := by unfold loF; rw [take1 h]; simp
theorem hi_step {s : List Int} {b : List Nat} {j x : Nat} (h : b[j]? = some x) : hiF s (b.take (j + 1)) = max (hiF s (b.take j)) (cs s x : Int) := by unfold hiF; rw [take1 h]; simp
theorem lo_ge {s : List Int} {m : Int} : ∀ (X : List Nat) (a : Int), m ≤ a → (∀ t ∈ X, m ≤ (cs s t : Int)) → m ≤ X.foldl (fun a t => min a (cs s t : Int)) a
  | [], _, h, _ => h
  | t :: X, a, h, h2 => by
    rw [List.foldl_cons]
    refine lo_ge X _ ?_ fun u hu => h2 u (List.mem_cons_of_mem _ hu)
    have := h2 t List.mem_cons_self; omega
theorem hi_le {s : List Int} {m : Int} : ∀ (X : List Nat) (a : Int), a ≤ m → (∀ t ∈ X, (cs s t : Int) ≤ m) → X.foldl (fun a t => max a (cs s t : Int)) a ≤ m
  | [], _, h, _ => h
  | t :: X, a, h, h2 => by
    rw [List.foldl_cons]
    refine hi_le X _ ?_ fun u hu => h2 u (List.mem_cons_of_mem _ hu)
    have := h2 t List.mem_cons_self; omega
theorem lo_in (s : List Int) (X : List Nat) : 0 ≤ loF s X := lo_ge X _ (by omega) fun t _ => by omega
theorem lo_top (s : List Int) (X : List Nat) : loF s X ≤ 4611686018427387904 := by
  have : ∀ (X : List Nat) (a : Int), X.foldl (fun a t => min a (cs s t : Int)) a ≤ a := by
    intro X
    induction X with
    | nil => intro a; exact Int.le_refl _
    | cons t X ih => intro a; rw [List.foldl_cons]; have := ih (min a (cs s t : Int)); omega
  exact this X _
theorem hi_top (s : List Int) (X : List Nat) : hiF s X ≤ 1099511627776 := hi_le X _ (by omega) fun t _ => by have := cs_le s t; omega
theorem hi_low (s : List Int) (X : List Nat) : -1 ≤ hiF s X := by
  have : ∀ (X : List Nat) (a : Int), a ≤ X.foldl (fun a t => max a (cs s t : Int)) a := by
    intro X
    induction X with
    | nil => intro a; exact Int.le_refl _
    | cons t X ih => intro a; rw [List.foldl_cons]; have := ih (max a (cs s t : Int)); omega
  exact this X _
/-- What the buckets are like. -/
theorem bkts_perm (s : List Int) : (bkts s).flatten.Perm (List.range s.length) := by
  have h : ∀ L : List (List Nat), ((L.map srtN).flatten).Perm L.flatten := by
    intro L
    induction L with
    | nil => exact List.Perm.refl _
    | cons b L ih => simp only [List.map_cons, List.flatten_cons]; exact (srtN_perm b).append ih
  unfold bkts
  refine (h _).trans ?_
  rw [grps_flat]
  exact ordN_perm s s.length
theorem bkts_lt {s : List Int} {b : List Nat} (hb : b ∈ bkts s) {t : Nat} (ht : t ∈ b) : t < s.length :=
  List.mem_range.1 ((bkts_perm s).subset (List.mem_flatten.2 ⟨b, hb, ht⟩))
theorem bkts_rise {s : List Int} {b : List Nat} (hb : b ∈ bkts s) {j x y : Nat} (h1 : b[j]? = some x) (h2 : b[j + 1]? = some y) : x < y := by
  have hnd : (bkts s).flatten.Nodup := (bkts_perm s).nodup_iff.2 List.nodup_range
  have hn : b.Nodup := (List.pairwise_flatten.1 hnd).1 b hb
  obtain ⟨c, _, rfl⟩ := List.mem_map.1 hb
  have hs := srtN_sorted c
  obtain ⟨l1, e1⟩ := List.getElem?_eq_some_iff.1 h1
  obtain ⟨l2, e2⟩ := List.getElem?_eq_some_iff.1 h2
  have a1 := List.pairwise_iff_getElem.1 hs j (j + 1) l1 l2 (by omega)
  have a2 := List.pairwise_iff_getElem.1 hn j (j + 1) l1 l2 (by omega)
  rw [e1, e2] at a1 a2
  omega
theorem bkts_apart {s : List Int} {i k : Nat} {b c : List Nat} (hik : i < k) (hb : (bkts s)[i]? = some b) (hc : (bkts s)[k]? = some c) {p q : Nat} (hp : p ∈ b) (hq : q ∈ c) : cs s p ≤ cs s q := by
  unfold bkts at hb hc
  rw [List.getElem?_map] at hb hc
  obtain ⟨b', hb', rfl⟩ := Option.map_eq_some_iff.1 hb
  obtain ⟨c', hc', rfl⟩ := Option.map_eq_some_iff.1 hc
  have hp' := (srtN_perm b').subset hp
  have hq' := (srtN_perm c').subset hq
  have hso : (grps (cs s) (ordr s)).flatten.Pairwise fun i j => leT s i j = true := by rw [grps_flat]; exact ordN_sorted s s.length
  obtain ⟨l1, e1⟩ := List.getElem?_eq_some_iff.1 hb'
  obtain ⟨l2, e2⟩ := List.getElem?_eq_some_iff.1 hc'
  have := List.pairwise_iff_getElem.1 (List.pairwise_flatten.1 hso).2 i k l1 l2 hik
  rw [e1, e2] at this
  exact leT_le (this p hp' q hq')
theorem bkts_ne {s : List Int} {b : List Nat} (hb : b ∈ bkts s) : b ≠ [] := by
  obtain ⟨c, hc, rfl⟩ := List.mem_map.1 hb
  intro e
  have h1 := congrArg List.length e
  rw [srtN_len] at h1
  exact grps_ne _ _ c hc (List.eq_nil_of_length_eq_zero h1)
/-- The greatest size of the bucket ahead. -/
def lst (s : List Int) (L : List (List Nat)) : Nat → Int
  | 0 => -1
  | i + 1 => hiF s (L.getD i [])
theorem lst_ok {s : List Int} {i : Nat} {b : List Nat} (hb : (bkts s)[i]? = some b) : lst s (bkts s) i ≤ loF s b := by
  cases i with
  | zero => show (-1 : Int) ≤ _; have := lo_in s b; omega
  | succ i =>
    have hlt := (List.getElem?_eq_some_iff.1 hb).1
    have hc : (bkts s)[i]? = some (bkts s)[i] := List.getElem?_eq_getElem (by omega)
    show hiF s ((bkts s).getD i []) ≤ _
    rw [List.getD_eq_getElem?_getD, hc]
    show hiF s (bkts s)[i] ≤ _
    refine lo_ge b _ ?_ fun t ht => ?_
    · have := hi_top s (bkts s)[i]; omega
    · refine hi_le _ _ (by omega) fun p hp => ?_
      have := bkts_apart (Nat.lt_succ_self i) hc hb hp ht
      omega
theorem lst_in (s : List Int) (L : List (List Nat)) (i : Nat) : -1 ≤ lst s L i ∧ lst s L i ≤ 1099511627776 := by
  cases i with
  | zero => exact ⟨Int.le_refl _, by show (-1 : Int) ≤ _; omega⟩
  | succ i => exact ⟨hi_low s _, hi_top s _⟩
theorem count_ran (t : Nat) : ∀ n, (List.range n).count t = if t < n then 1 else 0
  | 0 => by simp
  | n + 1 => by
    rw [List.range_succ, List.count_append, count_ran t n, List.count_singleton]
    by_cases h : t < n
    · have h2 : ¬ n = t := by omega
      have h3 : t < n + 1 := by omega
      simp [h, h2, h3]
    · by_cases h2 : n = t
      · simp [h2]
      · have h3 : ¬ t < n + 1 := by omega
        simp [h, h2, h3]
theorem count_all {s : List Int} {t : Nat} (h : t < s.length) : (bkts s).flatten.count t = 1 := by
  rw [(bkts_perm s).count_eq, count_ran, if_pos h]
theorem count_small {s : List Int} {X Y : List Nat} (h : X ++ Y = (bkts s).flatten) (t : Nat) : X.count t ≤ s.length := by
  have h1 := congrArg List.length h
  rw [(bkts_perm s).length_eq, List.length_range, List.length_append] at h1
  have := List.count_le_length (a := t) (l := X)
  omega
end Go.Proofs.Ytdeobmihkcfofaa.tiersParts

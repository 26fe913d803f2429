/-
  PLAIN: the partitions of a rising list are its parts, one behind the other.
-/
import Derived.Test.YtdpglmgnbhpneaaMrgFar
namespace Go.Proofs.Ytdpglmgnbhpneaa
open Go.RowKit

/-- Of one partition. -/
def samePt (x y : Cx) : Prop := x.k.t = y.k.t ∧ x.k.p = y.k.p
theorem inPt_iff {t p : ByteArray} {c : Cx} : inPt t p c = true ↔ c.k.t = t ∧ c.k.p = p := by unfold inPt; simp
theorem same_mid {x y z : Cx} (h : samePt x z) (h1 : kx x y ≤ 0) (h2 : kx y z ≤ 0) : samePt y x := by
  have h3 := between (a := x.k.ky) (b := z.k.ky) (c := y.k.ky) (by show nb x.k.t = nb z.k.t; rw [h.1]) (by show nb x.k.p = nb z.k.p; rw [h.2]) h1 h2
  exact ⟨nb_inj.1 h3.1, nb_inj.1 h3.2.1⟩
theorem filter_while {p : Cx → Bool} : ∀ {D : List Cx}, D.Pairwise (fun x y => p y = true → p x = true) → D.filter p = D.takeWhile p
  | [], _ => rfl
  | x :: D, h => by
    obtain ⟨h1, h2⟩ := List.pairwise_cons.1 h
    by_cases hx : p x = true
    · rw [List.filter_cons_of_pos hx, List.takeWhile_cons_of_pos hx, filter_while h2]
    · rw [List.filter_cons_of_neg hx, List.takeWhile_cons_of_neg hx, List.filter_eq_nil_iff]
      exact fun y hy e => hx (h1 y hy e)
/-- Up to n all are of the partitions ahead of place i, or of the one that is at hand. -/
structure Seg (L : List Cx) (i n : Nat) : Prop where
  lo : i ≤ n
  hi : n ≤ L.length
  z : i = 0 → n = 0
  mid : ∀ j x y, i ≤ j → j < n → L[j]? = some x → L[i - 1]? = some y → samePt x y
  stop : ∀ x y, L[n]? = some x → 0 < i → L[i - 1]? = some y → ¬ samePt x y
theorem Seg.start (L : List Cx) : Seg L 0 0 := ⟨Nat.le_refl _, Nat.zero_le _, fun _ => rfl, fun j x y h1 h2 => by omega, fun x y _ h => by omega⟩
theorem Seg.same {L : List Cx} {i n : Nat} {x y : Cx} (h : Seg L i n) (hi : 0 < i) (hx : L[i]? = some x) (hy : L[i - 1]? = some y) (hs : samePt y x) : Seg L (i + 1) n := by
  have hs' : samePt x y := ⟨hs.1.symm, hs.2.symm⟩
  have hlo := h.lo
  have hlt : i < n := by
    rcases Nat.lt_or_ge i n with g | g
    · exact g
    · have : n = i := by omega
      subst this
      exact absurd hs' (h.stop x y hx hi hy)
  refine ⟨hlt, h.hi, fun e => by omega, fun j u v h1 h2 hu hv => ?_, fun u v hu _ hv => ?_⟩
  · have : v = x := by simp at hv; rw [hx] at hv; exact (Option.some.inj hv).symm
    subst this
    have h3 := h.mid j u y (by omega) h2 hu hy
    exact ⟨h3.1.trans hs.1, h3.2.trans hs.2⟩
  · have : v = x := by simp at hv; rw [hx] at hv; exact (Option.some.inj hv).symm
    subst this
    intro h3
    exact h.stop u y hu hi hy ⟨h3.1.trans hs'.1, h3.2.trans hs'.2⟩
theorem Seg.next {L : List Cx} {i n : Nat} {x : Cx} (h : Seg L i n) (hL : Rising L) (hx : L[i]? = some x) (hs : 0 < i → ∀ y, L[i - 1]? = some y → ¬ samePt y x) :
    n = i ∧ i + (prt x.k.t x.k.p L).length ≤ L.length ∧ prt x.k.t x.k.p L = (L.drop i).take (prt x.k.t x.k.p L).length ∧ Seg L (i + 1) (i + (prt x.k.t x.k.p L).length) := by
  have hil := (List.getElem?_eq_some_iff.1 hx).1
  have hn : n = i := by
    by_cases e : i = 0
    · rw [h.z e, e]
    · rcases Nat.lt_or_ge i n with g | g
      · obtain ⟨y, hy⟩ : ∃ y, L[i - 1]? = some y := ⟨_, List.getElem?_eq_getElem (by omega)⟩
        have h1 := h.mid i x y (Nat.le_refl _) g hx hy
        exact absurd ⟨h1.1.symm, h1.2.symm⟩ (hs (by omega) y hy)
      · have := h.lo; omega
  have hpair := List.pairwise_iff_getElem.1 hL
  have lt : ∀ {a b : Nat} {u v : Cx}, a < b → L[a]? = some u → L[b]? = some v → kx u v < 0 := fun {a b u v} hab hu hv => by
    obtain ⟨l1, rfl⟩ := List.getElem?_eq_some_iff.1 hu
    obtain ⟨l2, rfl⟩ := List.getElem?_eq_some_iff.1 hv
    exact hpair a b l1 l2 hab
  -- none ahead
  have hno : prt x.k.t x.k.p (L.take i) = [] := by
    unfold prt
    rw [List.filter_eq_nil_iff]
    intro u hu e
    have hu2 := inPt_iff.1 e
    obtain ⟨a, ha, rfl⟩ := List.getElem_of_mem hu
    rw [List.length_take] at ha
    rw [List.getElem_take] at hu2 
    have hua : L[a]? = some L[a] := List.getElem?_eq_getElem (by omega)
    obtain ⟨y, hy⟩ : ∃ y, L[i - 1]? = some y := ⟨_, List.getElem?_eq_getElem (by omega)⟩
    have h1 : kx L[a] y ≤ 0 := by
      rcases Nat.lt_or_ge a (i - 1) with g | g
      · exact Int.le_of_lt (lt g hua hy)
      · have : a = i - 1 := by omega
        subst this
        rw [hua] at hy; cases hy
        rw [kx_self]; omega
    have h2 := Int.le_of_lt (lt (by omega) hy hx)
    have h3 := same_mid (x := L[a]) (y := y) (z := x) hu2 h1 h2
    exact hs (by omega) y hy ⟨h3.1.trans hu2.1, h3.2.trans hu2.2⟩
  have hsp : prt x.k.t x.k.p L = prt x.k.t x.k.p (L.drop i) := by
    have : prt x.k.t x.k.p (L.take i ++ L.drop i) = prt x.k.t x.k.p (L.take i) ++ prt x.k.t x.k.p (L.drop i) := by unfold prt; rw [List.filter_append]
    rw [List.take_append_drop, hno] at this
    exact this
  have hd : L.drop i = x :: L.drop (i + 1) := by
    obtain ⟨l1, e⟩ := List.getElem?_eq_some_iff.1 hx
    rw [← e]; exact List.drop_eq_getElem_cons l1
  have hrd : Rising (L.drop i) := List.Pairwise.sublist (List.drop_sublist _ _) hL
  have hpw : (L.drop i).Pairwise (fun u v => inPt x.k.t x.k.p v = true → inPt x.k.t x.k.p u = true) := by
    refine List.Pairwise.imp_of_mem (fun {u v} hu hv huv e => ?_) hrd
    have hv2 := inPt_iff.1 e
    have hxu : kx x u ≤ 0 := by
      rw [hd] at hu hrd
      rcases List.mem_cons.1 hu with rfl | hu
      · rw [kx_self]; omega
      · exact Int.le_of_lt ((List.pairwise_cons.1 hrd).1 u hu)
    exact inPt_iff.2 (same_mid (x := x) (y := u) (z := v) ⟨hv2.1.symm, hv2.2.symm⟩ hxu (Int.le_of_lt huv))
  have hw : prt x.k.t x.k.p (L.drop i) = (L.drop i).takeWhile (inPt x.k.t x.k.p) := filter_while hpw
  rw [hsp, hw]
  have hpre := List.takeWhile_prefix (l := L.drop i) (inPt x.k.t x.k.p)
  have hle := hpre.length_le
  rw [List.length_drop] at hle
  have hx0 : inPt x.k.t x.k.p x = true := inPt_iff.2 ⟨rfl, rfl⟩
  have h1le : 1 ≤ ((L.drop i).takeWhile (inPt x.k.t x.k.p)).length := by
    rw [hd, List.takeWhile_cons_of_pos hx0]; simp
  refine ⟨hn, by omega, (List.prefix_iff_eq_take.1 hpre), ⟨by omega, by omega, fun e => by omega, fun j u v h1 h2 hu hv => ?_, fun u v hu _ hv => ?_⟩⟩
  · have : v = x := by simp at hv; rw [hx] at hv; exact (Option.some.inj hv).symm
    subst this
    have hm : u ∈ (L.drop i).takeWhile (inPt v.k.t v.k.p) := by
      have e1 : ((L.drop i).takeWhile (inPt v.k.t v.k.p))[j - i]? = some u := by
        obtain ⟨t, ht⟩ := hpre
        have e2 : (L.drop i)[j - i]? = some u := by rw [List.getElem?_drop, show i + (j - i) = j by omega]; exact hu
        rw [← ht, List.getElem?_append_left (by omega)] at e2
        exact e2
      exact List.mem_of_getElem? e1
    have := List.all_eq_true.1 (List.all_takeWhile (p := inPt v.k.t v.k.p) (l := L.drop i)) u hm
    exact inPt_iff.1 this
  · have : v = x := by simp at hv; rw [hx] at hv; exact (Option.some.inj hv).symm
    subst this
    intro h3
    -- the first one behind is none
    have h4 : inPt v.k.t v.k.p u = true := inPt_iff.2 h3
    have h5 : u ∈ (L.drop i).filter (inPt v.k.t v.k.p) := List.mem_filter.2 ⟨by
      refine List.mem_of_getElem? (i := ((L.drop i).takeWhile (inPt v.k.t v.k.p)).length) ?_
      rw [List.getElem?_drop]; exact hu, h4⟩
    rw [filter_while hpw] at h5
    obtain ⟨a, ha, e⟩ := List.getElem_of_mem h5
    have e2 : L[i + a]? = some u := by
      obtain ⟨t, ht⟩ := hpre
      have e3 : (L.drop i)[a]? = some u := by rw [← ht, List.getElem?_append_left ha, List.getElem?_eq_getElem ha, e]
      rw [List.getElem?_drop] at e3; exact e3
    have := lt (by omega) e2 hu
    rw [kx_self] at this
    omega
end Go.Proofs.Ytdpglmgnbhpneaa

/-
  PLAIN: where symMerge's search ends, two sorted halves are parted; no program.
-/
import Derived.Test.YtkdeaogmifhnhaaSrtSymB
namespace Go.Proofs.Ytkdeaogmifhnhaa
open Go.RowKit

/-- Sorted cells, by their places. -/
theorem up_le {A : List Cx} (h : Up A) {i j : Nat} {x y : Cx} (hij : i ≤ j) (hx : A[i]? = some x) (hy : A[j]? = some y) : kx x y ≤ 0 := by
  rcases Nat.lt_or_ge i j with g | g
  · obtain ⟨h1, e1⟩ := List.getElem?_eq_some_iff.1 hx
    obtain ⟨h2, e2⟩ := List.getElem?_eq_some_iff.1 hy
    have := List.pairwise_iff_getElem.1 h i j h1 h2 g
    rw [e1, e2] at this
    exact this
  · obtain rfl : i = j := by omega
    rw [hx] at hy
    obtain rfl := Option.some.inj hy
    rw [kx_self]; omega
theorem mid_at (P A R : List Cx) (i : Nat) (h1 : P.length ≤ i) (h2 : i < P.length + A.length) : (P ++ A ++ R)[i]? = A[i - P.length]? := by
  rw [List.append_assoc, List.getElem?_append_right h1, List.getElem?_append_left (by omega)]
/-- What the search has found: below s the first half's cells are not greater than those of the second that stand over against them; from r on they are. -/
structure Srch (L : List Cx) (p s0 r0 s r : Nat) : Prop where
  lo : ∀ c x y, s0 ≤ c → c < s → L[c]? = some x → L[p - c]? = some y → kx x y ≤ 0
  hi : ∀ c x y, r ≤ c → c < r0 → L[c]? = some x → L[p - c]? = some y → kx y x < 0
theorem Srch.start (L : List Cx) (p s0 r0 : Nat) : Srch L p s0 r0 s0 r0 := ⟨fun c x y h1 h2 => by omega, fun c x y h1 h2 => by omega⟩
/-- The places of the two halves, of the middle, and of the search's bounds. -/
structure Plc (a m b mid n p s0 r0 : Nat) : Prop where
  am : a + 1 < m
  mb : m + 1 < b
  hmid : mid = (a + b) / 2
  hn : n = mid + m
  hp : p + 1 = n
  hs0 : s0 = if mid < m then n - b else a
  hr0 : r0 = if mid < m then mid else m
theorem Plc.all {a m b mid n p s0 r0 : Nat} (h : Plc a m b mid n p s0 r0) : a ≤ s0 ∧ s0 ≤ r0 ∧ r0 ≤ m ∧ a < mid ∧ mid < b ∧ n ≤ s0 + b ∧ p < s0 + b ∧ m + r0 ≤ n ∧ (mid < m → s0 + b = n ∧ r0 = mid) ∧ (m ≤ mid → s0 = a ∧ r0 = m) := by
  have h1 := h.am; have h2 := h.mb; have h3 := h.hmid; have h4 := h.hn; have h5 := h.hp; have h6 := h.hs0; have h7 := h.hr0
  split at h6 <;> split at h7 <;> omega
theorem Srch.up {P A T Q : List Cx} {a m b mid n p s0 r0 s r c : Nat} {x y : Cx} (hp : Plc a m b mid n p s0 r0) (ha : P.length = a) (hm : a + A.length = m) (hb : m + T.length = b) (uA : Up A) (uT : Up T)
    (h : Srch (P ++ A ++ T ++ Q) p s0 r0 s r) (h1 : s0 ≤ s) (h2 : s ≤ c) (h3 : c < r) (h4 : r ≤ r0) (hx : (P ++ A ++ T ++ Q)[c]? = some x) (hy : (P ++ A ++ T ++ Q)[p - c]? = some y) (hk : ¬ kx y x < 0) : Srch (P ++ A ++ T ++ Q) p s0 r0 (c + 1) r := by
  have hP := hp.all
  have h5 := hp.hp
  refine ⟨fun c' x' y' g1 g2 gx gy => ?_, h.hi⟩
  have hk' : kx x y ≤ 0 := by have := kx_n x y; omega
  rw [show P ++ A ++ T ++ Q = P ++ A ++ (T ++ Q) by simp, mid_at P A _ c' (by omega) (by omega)] at gx
  rw [show P ++ A ++ T ++ Q = P ++ A ++ (T ++ Q) by simp, mid_at P A _ c (by omega) (by omega)] at hx
  rw [mid_at (P ++ A) T Q _ (by rw [List.length_append]; omega) (by rw [List.length_append]; omega)] at gy hy
  exact kx_t (up_le uA (by omega) gx hx) (kx_t hk' (up_le uT (by rw [List.length_append]; omega) hy gy))
theorem Srch.down {P A T Q : List Cx} {a m b mid n p s0 r0 s r c : Nat} {x y : Cx} (hp : Plc a m b mid n p s0 r0) (ha : P.length = a) (hm : a + A.length = m) (hb : m + T.length = b) (uA : Up A) (uT : Up T)
    (h : Srch (P ++ A ++ T ++ Q) p s0 r0 s r) (h1 : s0 ≤ s) (h2 : s ≤ c) (h3 : c < r) (h4 : r ≤ r0) (hx : (P ++ A ++ T ++ Q)[c]? = some x) (hy : (P ++ A ++ T ++ Q)[p - c]? = some y) (hk : kx y x < 0) : Srch (P ++ A ++ T ++ Q) p s0 r0 s c := by
  have hP := hp.all
  have h5 := hp.hp
  refine ⟨h.lo, fun c' x' y' g1 g2 gx gy => ?_⟩
  rw [show P ++ A ++ T ++ Q = P ++ A ++ (T ++ Q) by simp, mid_at P A _ c' (by omega) (by omega)] at gx
  rw [show P ++ A ++ T ++ Q = P ++ A ++ (T ++ Q) by simp, mid_at P A _ c (by omega) (by omega)] at hx
  rw [mid_at (P ++ A) T Q _ (by rw [List.length_append]; omega) (by rw [List.length_append]; omega)] at gy hy
  exact kx_lt2 (kx_lt (up_le uT (by rw [List.length_append]; omega) gy hy) hk) (up_le uA (by omega) hx gx)
/-- Where the search ends: the four ranges. -/
theorem Srch.parts {P A T Q : List Cx} {a m b mid n p s0 r0 s : Nat} (hp : Plc a m b mid n p s0 r0) (ha : P.length = a) (hm : a + A.length = m) (hb : m + T.length = b) (uA : Up A) (uT : Up T)
    (h : Srch (P ++ A ++ T ++ Q) p s0 r0 s s) (h1 : s0 ≤ s) (h4 : s ≤ r0) :
    ∃ A0 X Y B1, A = A0 ++ X ∧ T = Y ++ B1 ∧ a + A0.length = s ∧ m + Y.length + s = n ∧ s + X.length = m ∧ n - s + B1.length = b ∧ (∀ x ∈ X, ∀ y ∈ Y, kx y x < 0) ∧ (∀ u ∈ A0, ∀ v ∈ B1, kx u v ≤ 0) := by
  have hP := hp.all
  have h5 := hp.hp
  have h6 := hp.hn
  obtain ⟨A0, X, rfl, hA0⟩ : ∃ A0 X, A = A0 ++ X ∧ A0.length = s - a := ⟨A.take (s - a), A.drop (s - a), (List.take_append_drop _ _).symm, by rw [List.length_take]; omega⟩
  obtain ⟨Y, B1, rfl, hY⟩ : ∃ Y B1, T = Y ++ B1 ∧ Y.length = n - s - m := ⟨T.take (n - s - m), T.drop (n - s - m), (List.take_append_drop _ _).symm, by rw [List.length_take]; omega⟩
  rw [List.length_append] at hm hb
  refine ⟨A0, X, Y, B1, rfl, rfl, by omega, by omega, by omega, by omega, fun x hx y hy => ?_, fun u hu v hv => ?_⟩
  · cases X with
    | nil => cases hx
    | cons x0 X' =>
      rcases List.eq_nil_or_concat Y with rfl | ⟨Y', yl, rfl⟩
      · cases hy
      · rw [List.concat_eq_append] at *
        simp only [List.length_append, List.length_cons, List.length_nil] at hm hY hb
        have e1 : (P ++ (A0 ++ x0 :: X') ++ (Y' ++ [yl] ++ B1) ++ Q)[s]? = some x0 := by
          have := at_mid (P ++ A0) x0 (X' ++ (Y' ++ [yl] ++ B1) ++ Q)
          rw [List.length_append, ha, hA0, show a + (s - a) = s by omega] at this
          rw [← this]; simp
        have e2 : (P ++ (A0 ++ x0 :: X') ++ (Y' ++ [yl] ++ B1) ++ Q)[p - s]? = some yl := by
          have := at_mid (P ++ (A0 ++ x0 :: X') ++ Y') yl (B1 ++ Q)
          simp only [List.length_append, List.length_cons] at this
          rw [show P.length + (A0.length + (X'.length + 1)) + Y'.length = p - s by omega] at this
          rw [← this]; simp
        have k0 := h.hi s x0 yl (Nat.le_refl _) (by omega) e1 e2
        have k1 : kx y yl ≤ 0 := by
          rcases List.mem_append.1 hy with g | g
          · exact uT.left.over y g yl (by simp)
          · obtain rfl : y = yl := by simpa using g
            rw [kx_self]; omega
        have k2 : kx x0 x ≤ 0 := by
          rcases List.mem_cons.1 hx with rfl | g
          · rw [kx_self]; omega
          · exact (List.pairwise_cons.1 uA.right).1 x g
        exact kx_lt2 (kx_lt k1 k0) k2
  · cases B1 with
    | nil => cases hv
    | cons b0 B' =>
      rcases List.eq_nil_or_concat A0 with rfl | ⟨A', al, rfl⟩
      · cases hu
      · rw [List.concat_eq_append] at *
        simp only [List.length_append, List.length_cons, List.length_nil] at hm hA0 hb
        have e1 : (P ++ (A' ++ [al] ++ X) ++ (Y ++ b0 :: B') ++ Q)[s - 1]? = some al := by
          have := at_mid (P ++ A') al (X ++ (Y ++ b0 :: B') ++ Q)
          rw [List.length_append, show P.length + A'.length = s - 1 by omega] at this
          rw [← this]; simp
        have e2 : (P ++ (A' ++ [al] ++ X) ++ (Y ++ b0 :: B') ++ Q)[p - (s - 1)]? = some b0 := by
          have := at_mid (P ++ (A' ++ [al] ++ X) ++ Y) b0 (B' ++ Q)
          simp only [List.length_append, List.length_cons, List.length_nil] at this
          rw [show P.length + (A'.length + (0 + 1) + X.length) + Y.length = p - (s - 1) by omega] at this
          rw [← this]; simp
        have k0 := h.lo (s - 1) al b0 (by omega) (by omega) e1 e2
        have k1 : kx u al ≤ 0 := by
          rcases List.mem_append.1 hu with g | g
          · exact uA.left.over u g al (by simp)
          · obtain rfl : u = al := by simpa using g
            rw [kx_self]; omega
        have k2 : kx b0 v ≤ 0 := by
          rcases List.mem_cons.1 hv with rfl | g
          · rw [kx_self]; omega
          · exact (List.pairwise_cons.1 uT.right).1 v g
        exact kx_t (kx_t k1 k0) k2
end Go.Proofs.Ytkdeaogmifhnhaa

/-
  PLAIN: what a stable sort keeps, and when two halves are merged; no program.
-/
import Derived.Test.YtkdeaogmifhnhaaSrtSwap
namespace Go.Proofs.Ytkdeaogmifhnhaa
open Go.RowKit

/-- How two cells stand by their keys. -/
def kx (x y : Cx) : Int := kc x.k.ky y.k.ky
theorem kx_n (x y : Cx) : kx x y = - kx y x := kc_cmpr.n _ _
theorem kx_t {x y z : Cx} (h : kx x y ≤ 0) (g : kx y z ≤ 0) : kx x z ≤ 0 := kc_cmpr.t _ _ _ h g
theorem kx_z (x y : Cx) : kx x y = 0 ↔ x.k = y.k := (kc_cmpr.z _ _).trans Kb.ky_inj
theorem kx_self (x : Cx) : kx x x = 0 := (kx_z x x).2 rfl
theorem kx_ne {x y : Cx} (h : kx x y < 0) : x.k ≠ y.k := fun e => by have := (kx_z x y).2 e; omega
/-- The cells of one key, in their order. -/
noncomputable def ofK (κ : Kb) (L : List Cx) : List Cx := L.filter fun c => @decide (c.k = κ) (Classical.propDecidable _)
theorem ofK_append (κ : Kb) (A B : List Cx) : ofK κ (A ++ B) = ofK κ A ++ ofK κ B := List.filter_append ..
theorem ofK_nil {κ : Kb} {A : List Cx} (h : ∀ x ∈ A, x.k ≠ κ) : ofK κ A = [] := by
  unfold ofK
  rw [List.filter_eq_nil_iff]
  intro x hx
  simp only [decide_eq_true_eq]
  exact h x hx
theorem ofK_mem {κ : Kb} {A : List Cx} {x : Cx} : x ∈ ofK κ A ↔ x ∈ A ∧ x.k = κ := by
  unfold ofK
  rw [List.mem_filter]
  simp only [decide_eq_true_eq]
/-- Rearranged, so that the cells of each key stay in their order. -/
structure St (L L' : List Cx) : Prop where
  len : L'.length = L.length
  same : ∀ κ, ofK κ L' = ofK κ L
theorem St.refl (L : List Cx) : St L L := ⟨rfl, fun _ => rfl⟩
theorem St.trans {A B C : List Cx} (h : St A B) (g : St B C) : St A C := ⟨g.len.trans h.len, fun κ => (g.same κ).trans (h.same κ)⟩
theorem St.append {A A' B B' : List Cx} (h : St A A') (g : St B B') : St (A ++ B) (A' ++ B') :=
  ⟨by rw [List.length_append, List.length_append, h.len, g.len], fun κ => by rw [ofK_append, ofK_append, h.same, g.same]⟩
theorem St.mem {L L' : List Cx} (h : St L L') {x : Cx} : x ∈ L' ↔ x ∈ L := by
  have h1 : x ∈ ofK x.k L' ↔ x ∈ ofK x.k L := by rw [h.same]
  rw [ofK_mem, ofK_mem] at h1
  simpa using h1
/-- Two ranges with no key in common change their places. -/
theorem St.cross {X Y : List Cx} (h : ∀ x ∈ X, ∀ y ∈ Y, x.k ≠ y.k) : St (X ++ Y) (Y ++ X) := by
  refine ⟨by rw [List.length_append, List.length_append]; omega, fun κ => ?_⟩
  rw [ofK_append, ofK_append]
  by_cases hx : ∃ x ∈ X, x.k = κ
  · obtain ⟨x, hm, hk⟩ := hx
    have : ofK κ Y = [] := ofK_nil fun y hy e => h x hm y hy (hk.trans e.symm)
    rw [this]; simp
  · have : ofK κ X = [] := ofK_nil fun x hm hk => hx ⟨x, hm, hk⟩
    rw [this]; simp
/-- The keys do not fall. -/
def Up (L : List Cx) : Prop := L.Pairwise fun x y => kx x y ≤ 0
theorem Up.append {A B : List Cx} (ha : Up A) (hb : Up B) (h : ∀ x ∈ A, ∀ y ∈ B, kx x y ≤ 0) : Up (A ++ B) := List.pairwise_append.2 ⟨ha, hb, h⟩
theorem Up.left {A B : List Cx} (h : Up (A ++ B)) : Up A := (List.pairwise_append.1 h).1
theorem Up.right {A B : List Cx} (h : Up (A ++ B)) : Up B := (List.pairwise_append.1 h).2.1
theorem Up.over {A B : List Cx} (h : Up (A ++ B)) : ∀ x ∈ A, ∀ y ∈ B, kx x y ≤ 0 := (List.pairwise_append.1 h).2.2
/-- One cell is put among sorted ones. -/
theorem Up.insert {U V : List Cx} {x : Cx} (h : Up (U ++ V)) (hu : ∀ u ∈ U, kx u x ≤ 0) (hv : ∀ v ∈ V, kx x v ≤ 0) : Up (U ++ x :: V) := by
  refine h.left.append (List.pairwise_cons.2 ⟨hv, h.right⟩) fun u hu' y hy => ?_
  rcases List.mem_cons.1 hy with rfl | hy
  · exact hu u hu'
  · exact h.over u hu' y hy
theorem Up.last {U : List Cx} {l x : Cx} (h : Up (U ++ [l])) (hx : kx l x ≤ 0) : ∀ u ∈ U ++ [l], kx u x ≤ 0 := fun u hu => by
  rcases List.mem_append.1 hu with hu | hu
  · exact kx_t (h.over u hu l (by simp)) hx
  · obtain rfl : u = l := by simpa using hu
    exact hx
/-- Two sorted halves A0 X and Y B1 in which X stands behind Y, and A0 ahead of B1: what the rotation leaves. -/
theorem turned {A0 X Y B1 S1 S2 : List Cx} (ha : Up (A0 ++ X)) (hb : Up (Y ++ B1)) (hxy : ∀ x ∈ X, ∀ y ∈ Y, kx y x < 0) (hab : ∀ a ∈ A0, ∀ b ∈ B1, kx a b ≤ 0)
    (h1 : St (A0 ++ Y) S1) (h2 : St (X ++ B1) S2) (u1 : Up S1) (u2 : Up S2) : St (A0 ++ X ++ (Y ++ B1)) (S1 ++ S2) ∧ Up (S1 ++ S2) := by
  constructor
  · have c : St (X ++ Y) (Y ++ X) := St.cross fun x hx y hy e => kx_ne (hxy x hx y hy) e.symm
    have e : St (A0 ++ X ++ (Y ++ B1)) (A0 ++ Y ++ (X ++ B1)) := by
      have := ((St.refl A0).append c).append (St.refl B1)
      simpa [List.append_assoc] using this
    exact e.trans (h1.append h2)
  · refine u1.append u2 fun s hs t ht => ?_
    rcases List.mem_append.1 (h1.mem.1 hs) with hs | hs
    · rcases List.mem_append.1 (h2.mem.1 ht) with ht | ht
      · exact ha.over s hs t ht
      · exact hab s hs t ht
    · rcases List.mem_append.1 (h2.mem.1 ht) with ht | ht
      · have := hxy t ht s hs; omega
      · exact hb.over s hs t ht
/-- One cell ahead of sorted ones goes behind those that are less. -/
theorem moved_right {a : Cx} {U V : List Cx} (hb : Up (U ++ V)) (hu : ∀ u ∈ U, kx u a < 0) (hv : ∀ v ∈ V, kx a v ≤ 0) : St (a :: (U ++ V)) (U ++ a :: V) ∧ Up (U ++ a :: V) := by
  refine ⟨?_, hb.insert (fun u h => by have := hu u h; omega) hv⟩
  have c : St ([a] ++ U) (U ++ [a]) := St.cross fun x hx y hy e => by
    obtain rfl : x = a := by simpa using hx
    exact kx_ne (hu y hy) e.symm
  have := c.append (St.refl V)
  simpa using this
/-- One cell behind sorted ones goes ahead of those that are greater. -/
theorem moved_left {b : Cx} {U V : List Cx} (ha : Up (U ++ V)) (hu : ∀ u ∈ U, kx u b ≤ 0) (hv : ∀ v ∈ V, kx b v < 0) : St (U ++ V ++ [b]) (U ++ b :: V) ∧ Up (U ++ b :: V) := by
  refine ⟨?_, ha.insert hu (fun v h => by have := hv v h; omega)⟩
  have c : St (V ++ [b]) ([b] ++ V) := St.cross fun x hx y hy e => by
    obtain rfl : y = b := by simpa using hy
    exact kx_ne (hv x hx) e.symm
  have := (St.refl U).append c
  simpa using this
end Go.Proofs.Ytkdeaogmifhnhaa

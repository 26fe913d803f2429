/-
  LISTS THAT ARE PILED UP: 'append([][]api.Cell{g}, good...)'; the good cells of many lists.
-/
import Derived.Test.YtkdeaogmifhnhaaMrgMore
import Derived.Test.YtkdeaogmifhnhaaFarAll
import Derived.Test.YtkdeaogmifhnhaaLaidAll
namespace Go.Proofs.Ytkdeaogmifhnhaa
open Go.RowKit

theorem lsees_nil {u : World} {ao : Option Addr} {ss : List Lv} (h : LSees u ao ss) (e : ao = none) : ss.length = 0 := by
  cases ss with
  | nil => rfl
  | cons v r => obtain ⟨b, off, e2, _⟩ := h 0 v rfl; rw [e] at e2; cases e2
theorem lsees_src {u : World} {ao : Option Addr} {ss : List Lv} (h : LSees u ao ss) (cap : Nat) : Src Try.prog 1 23 (.slice ao ss.length cap) ss.length (ss.map Lv.s) u := by
  cases ao with
  | none =>
    obtain rfl : ss = [] := List.eq_nil_of_length_eq_zero (lsees_nil h rfl)
    exact Src.ofNil u Try.underlying23 cap
  | some a =>
    refine Src.ofSlice u Try.underlying23 a _ cap _ (by simp) (fun j x hx => ?_) (fun x hx => by obtain ⟨v, _, rfl⟩ := List.mem_map.1 hx; rfl)
    rw [List.getElem?_map] at hx
    obtain ⟨v, hv, rfl⟩ := Option.map_eq_some_iff.1 hx
    obtain ⟨b, off, e, t⟩ := h _ _ hv
    obtain rfl := Option.some.inj e
    rw [Addr.add_lit]; exact t
/-- The pile. -/
structure Pl (w wr : World) (ao : Option Addr) (ss : List Lv) : Prop where
  see : LSees wr ao ss
  ins : ∀ v ∈ ss, XSees wr v.ao v.l
  bel : Below w.heap.size w wr
theorem Pl.start (w : World) : Pl w w none [] := ⟨fun i v hv => by simp at hv, fun v hv => by (cases hv), Below.refl _ _⟩
theorem Pl.more {w wr u : World} {ao : Option Addr} {ss : List Lv} (h : Pl w wr ao ss) (hu : Below wr.heap.size wr u) : Pl w u ao ss :=
  ⟨h.see.below hu (Nat.le_refl _), fun v hv => (h.ins v hv).below hu (Nat.le_refl _), h.bel.trans (hu.mono h.bel.size)⟩
theorem Pl.put {w u w3 : World} {ao : Option Addr} {ss : List Lv} {y : Lv} {v' : Value} (h : Pl w u ao ss) (hy : XSees u y.ao y.l)
    (ho : w3.ownsRow u.heap.size 22 1 v' (1 + ss.length) ([y.s] ++ ss.map Lv.s)) (hg : Grew (u.alloc (.cells #[y.s] 22)) w3 (.slice (some ⟨u.heap.size, 0, none⟩) 1 1) v') :
    ∃ ao' cap', v' = .slice ao' (y :: ss).length cap' ∧ Pl w w3 ao' (y :: ss) := by
  have hB : Below u.heap.size u (u.alloc (.cells #[y.s] 22)) := (Below.refl _ _).alloc (Nat.le_refl _) _
  have hB3 : Below u.heap.size u w3 := hB.trans (hg.below (by simp) fun g e => by cases e; exact Nat.le_refl _)
  obtain ⟨a, c, rfl⟩ := ownsM_shape ho
  have hne : ∃ g, a = some ⟨g, 0, none⟩ := by
    rcases ho.2 with ⟨_, h2⟩ | ⟨g, cap', cur, h1, _⟩
    · omega
    · exact ⟨g, by injection h1⟩
  obtain ⟨g, rfl⟩ := hne
  refine ⟨some ⟨g, 0, none⟩, c, by rw [List.length_cons, Nat.add_comm], fun i v hv => ⟨g, 0, rfl, ?_⟩, fun v hv => ?_, h.bel.trans (hB3.mono h.bel.size)⟩
  · have hi : i < ss.length + 1 := (List.getElem?_eq_some_iff.1 hv).1
    rw [Nat.zero_add, ho.cellAt i (by omega), show [y.s] ++ ss.map Lv.s = (y :: ss).map Lv.s from rfl, List.getElem?_map, hv]
    rfl
  · rcases List.mem_cons.1 hv with e | e
    · subst e; exact hy.below hB3 (Nat.le_refl _)
    · exact (h.ins v e).below hB3 (Nat.le_refl _)
/-- The good cells of lists. -/
def gls (vs : List Lv) : List (List Cx) := vs.map fun v => goods v.l
def gl (vs : List Lv) : List Cx := (gls vs).flatten
theorem gls_succ {vs : List Lv} {j : Nat} {x : Lv} (h : vs[j]? = some x) : gls (vs.take (j + 1)) = gls (vs.take j) ++ [goods x.l] := by
  unfold gls; rw [List.take_add_one, h, List.map_append]; rfl
theorem gl_succ {vs : List Lv} {j : Nat} {x : Lv} (h : vs[j]? = some x) : gl (vs.take (j + 1)) = gl (vs.take j) ++ goods x.l := by
  unfold gl; rw [gls_succ h]; simp
theorem gl_len (vs : List Lv) : (gl vs).length ≤ (vs.map Lv.l).flatten.length := by
  unfold gl gls
  induction vs with
  | nil => simp
  | cons v r ih =>
    have := List.length_filter_le goodC v.l
    simp only [List.map_cons, List.flatten_cons, List.length_append, goods] at *
    omega
theorem gl_take (vs : List Lv) (j : Nat) : (gl (vs.take j)).length ≤ (gl vs).length := by
  have : gl vs = gl (vs.take j) ++ gl (vs.drop j) := by
    unfold gl gls; rw [← List.flatten_append, ← List.map_append, List.take_append_drop]
  rw [this, List.length_append]; omega
theorem gls_good (vs : List Lv) : ∀ l ∈ gls vs, ∀ c ∈ l, goodC c = true := fun l hl => by
  obtain ⟨v, _, rfl⟩ := List.mem_map.1 hl
  exact goods_all _
theorem flat_nrm_len (L : List (List Cx)) : (L.map nrm).flatten.length ≤ L.flatten.length := by
  induction L with
  | nil => simp
  | cons l L ih =>
    have := nrm_len l
    simp only [List.map_cons, List.flatten_cons, List.length_append]
    omega
theorem flat_rev_len (L : List (List Cx)) : L.reverse.flatten.length = L.flatten.length := by
  induction L with
  | nil => rfl
  | cons l L ih =>
    have e : (l :: L).reverse.flatten = L.reverse.flatten ++ l := by simp
    rw [e, List.length_append, List.flatten_cons, List.length_append, ih]; omega
end Go.Proofs.Ytkdeaogmifhnhaa

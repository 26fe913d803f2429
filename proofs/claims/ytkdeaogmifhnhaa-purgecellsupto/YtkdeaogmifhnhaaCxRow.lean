/-
  ROWS OF CELLS of a call's own.
-/
import Derived.Test.YtkdeaogmifhnhaaCxWeigh
import Derived.Test.YtkdeaogmifhnhaaRecs
namespace Go.Proofs.Ytkdeaogmifhnhaa
open Go.RowKit

def xs10 (c : Cx) : List Value := c.a.toList
theorem xs10_len (c : Cx) : (xs10 c).length = 10 := rfl
theorem xs10_one (c : Cx) : ∀ u ∈ xs10 c, u.oneCell' = true := by
  intro u hu
  simp only [xs10, Cx.a, List.mem_cons, List.not_mem_nil, or_false] at hu
  rcases hu with rfl | rfl | rfl | rfl | rfl | rfl | rfl | rfl | rfl | rfl <;> rfl
theorem infoCx : (Try.prog.info? 35).map (fun i => (i.zero, i.size, i.bytes)) = some (some (.agg (Cx.a ⟨⟨⟨#[]⟩, ⟨#[]⟩, 0, ⟨#[]⟩⟩, zeroV⟩)), 10, 112) := by kernel_rfl
theorem infoX {t : TypeId} {z : Value} {k b : Nat} (h : (Try.prog.info? t).map (fun i => (i.zero, i.size, i.bytes)) = some (some z, k, b)) : ∃ i, Try.prog.info? t = some i ∧ i.zero = some z ∧ i.size = k ∧ i.bytes = b := by
  cases hi : Try.prog.info? t with
  | none => rw [hi] at h; cases h
  | some i =>
    rw [hi] at h
    simp only [Option.map_some, Option.some.injEq, Prod.mk.injEq] at h
    exact ⟨i, rfl, h.1, h.2.1, h.2.2⟩
theorem flat_inv (l : List Cx) (j : Nat) (u : Value) (h : (l.flatMap xs10)[j]? = some u) : ∃ a, l[j / 10]? = some a ∧ (xs10 a)[j % 10]? = some u := by
  have hj := (List.getElem?_eq_some_iff.1 h).1
  rw [flat_lenR xs10_len] at hj
  have hi : j / 10 < l.length := by omega
  have hr : j % 10 < (xs10 l[j / 10]).length := by rw [xs10_len]; omega
  have h1 : l[j / 10]? = some l[j / 10] := List.getElem?_eq_getElem hi
  have h2 : (xs10 l[j / 10])[j % 10]? = some (xs10 l[j / 10])[j % 10] := List.getElem?_eq_getElem hr
  have h3 := flat_at xs10_len l (j / 10) (j % 10) _ _ h1 h2
  have h4 : j / 10 * 10 + j % 10 = j := by omega
  rw [h4, h] at h3
  exact ⟨_, h1, by rw [h2]; exact h3.symm⟩
theorem TenX.at {w : World} {b o : Nat} {c : Cx} (t : TenX w b o c) (j : Nat) (v : Value) (hv : (xs10 c)[j]? = some v) : w.cell? ⟨b, o + j, none⟩ = some v := by
  match j, hv with
  | 0, hv => obtain rfl := Option.some.inj hv; exact t.c0
  | 1, hv => obtain rfl := Option.some.inj hv; exact t.c1
  | 2, hv => obtain rfl := Option.some.inj hv; exact t.c2
  | 3, hv => obtain rfl := Option.some.inj hv; exact t.c3
  | 4, hv => obtain rfl := Option.some.inj hv; exact t.c4
  | 5, hv => obtain rfl := Option.some.inj hv; exact t.c5
  | 6, hv => obtain rfl := Option.some.inj hv; exact t.c6
  | 7, hv => obtain rfl := Option.some.inj hv; exact t.c7
  | 8, hv => obtain rfl := Option.some.inj hv; exact t.c8
  | 9, hv => obtain rfl := Option.some.inj hv; exact t.c9
  | j + 10, hv => exact absurd hv (by simp [xs10, Cx.a])
theorem src_cells {w : World} {ao : Option Addr} {l : List Cx} (h : XSees w ao l) (hn : ao = none → l.length = 0) (cap : Nat) : Src Try.prog 10 22 (.slice ao l.length cap) l.length (l.flatMap xs10) w := by
  cases ao with
  | none =>
    obtain rfl : l = [] := List.eq_nil_of_length_eq_zero (hn rfl)
    exact Src.ofNil w Try.underlying22 cap
  | some a =>
    refine Src.ofSlice w Try.underlying22 a _ cap _ (flat_lenR xs10_len l) (fun j u hu => ?_) (flat_one xs10_one l)
    obtain ⟨c, h1, h2⟩ := flat_inv l j u hu
    obtain ⟨b, off, e, t⟩ := h _ _ h1
    obtain rfl := Option.some.inj e
    have := t.at _ _ h2
    rw [Addr.add_lit]
    have e2 : off + j / 10 * 10 + j % 10 = off + j := by omega
    rwa [e2] at this
/-- Cells of a row of the call's own can be read. -/
theorem owns_xsees {w : World} {base : Nat} {v : Value} {l : List Cx} (h : w.ownsRow base 35 10 v l.length (l.flatMap xs10)) : ∃ ao cap, v = .slice ao l.length cap ∧ XSees w ao l ∧ ∀ i c, l[i]? = some c → ∃ g, ao = some ⟨g, 0, none⟩ ∧ base ≤ g ∧ TenX w g (i * 10) c := by
  obtain ⟨ao, cap, rfl, _, hr⟩ := owns_recs xs10_len h
  have hT : ∀ i c, l[i]? = some c → ∃ g, ao = some ⟨g, 0, none⟩ ∧ base ≤ g ∧ TenX w g (i * 10) c := fun i c hc => by
    obtain ⟨g, rfl, hg, hv⟩ := hr i c hc
    exact ⟨g, rfl, (h.lt g hg).1, ⟨hv 0 _ rfl, hv 1 _ rfl, hv 2 _ rfl, hv 3 _ rfl, hv 4 _ rfl, hv 5 _ rfl, hv 6 _ rfl, hv 7 _ rfl, hv 8 _ rfl, hv 9 _ rfl⟩⟩
  refine ⟨ao, cap, rfl, fun i c hc => ?_, hT⟩
  obtain ⟨g, rfl, _, t⟩ := hT i c hc
  exact ⟨g, 0, rfl, by rwa [Nat.zero_add]⟩
/-- An empty row. -/
theorem owns_noneX (w : World) (base : Nat) (hb : base ≤ w.heap.size) : (w.alloc (.cells #[] 35)).ownsRow base 35 10 (.slice (some ⟨w.heap.size, 0, none⟩) 0 0) 0 [] :=
  ⟨rfl, .inr ⟨w.heap.size, 0, #[], rfl, hb, heap_alloc_new w _, Nat.le_refl _, Nat.zero_le _, rfl, rfl⟩⟩
end Go.Proofs.Ytkdeaogmifhnhaa

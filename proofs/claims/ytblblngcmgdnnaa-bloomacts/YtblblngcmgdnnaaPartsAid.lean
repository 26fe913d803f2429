/-
  WHAT COMES IN: slices of bytes in a slice, as a row's reading gives them.
-/
import Derived.Test.YtblblngcmgdnnaaDskParts
import Derived.Test.YtblblngcmgdnnaaRowAid
import Derived.Deep.Slices
import Derived.Lib.SmallJoins
namespace Go.Proofs.Ytblblngcmgdnnaa
open Go.ChangeShapes Go.WideShapes Go.ChangeAt Go.RowKit Go.Deep Go.Joins

theorem cellsByte : Try.prog.cellsOf 29 = 1 := by kernel_rfl
theorem bytesByte : Try.prog.bytesOf 29 = 24 := by kernel_rfl
theorem weights_all_part {H : Type} {P : Program} {e : TypeId} {d : DataW H} : ∀ {l : List (DataW H)}, d ∈ l → ∀ n ∈ d.weights P e, n ∈ DataW.weightsAll P e l
  | [], h, _, _ => by cases h
  | a :: l, h, n, hn => by
    simp only [DataW.weightsAll, List.mem_append]
    rcases List.mem_cons.1 h with rfl | h
    · exact .inl hn
    · exact .inr (weights_all_part h n hn)
def PartV.fits {H : Type} (p : PartV) (y : DataW H) : Prop := p.bs.length = 0 ∨ ∃ el sp, y = .slice el sp ∧ el.length = p.bs.length
theorem parts_open {H : Type} {enc : TypeId × Value → H} {W : World} {ao : Option Addr} {len cap : Nat} {d : DataW H} {p : List MemPlace}
    (h : DataW.Trod enc Try.prog W 0 (fun _ => true) true 22 (Value.slice ao len cap) d p) :
    ∃ P : List PartV, P.length = len ∧ PSees W ao P ∧ (P.length = 0 ∨ ∃ el sp, d = .slice el sp ∧ el.length = P.length ∧ ∀ q ∈ P, ∃ y ∈ el, q.fits y) := by
  obtain ⟨fuel, hf⟩ := h
  rcases open_slice1 Try.underlying22 cellsByte hf with ⟨hcs, _⟩ | ⟨a, n, c, m, k, V, D, Pl, hcs, _, hle, _, hm, hx, hc⟩
  · simp [Value.cells] at hcs
    obtain ⟨rfl, rfl, rfl⟩ := hcs
    exact ⟨[], rfl, (fun i c hc => by simp at hc), .inl rfl⟩
  · simp [Value.cells] at hcs
    obtain ⟨rfl, rfl, rfl⟩ := hcs
    simp only [if_true] at hm
    subst hm
    haveI : Inhabited PartV := ⟨⟨none, [], 0⟩⟩
    obtain ⟨C, hC⟩ := choose_lt (α := PartV) (n := len) (p := fun i q => W.cell? (a.add i) = some (.slice q.ao q.bs.length q.cap) ∧ Sees W q.ao q.bs ∧ (q.ao = none → q.bs.length = 0) ∧ q.fits (D i)) (fun i hi => by
      obtain ⟨h1, h2⟩ := hc i (by omega)
      obtain ⟨a', l', c', e⟩ := slice_form Try.underlying29 h2
      have e' : V i = .slice a' l' c' := by simpa using e
      rw [e'] at h1 h2
      have h2' : DataW.trod enc Try.prog W 0 (fun _ => true) true k 29 (Value.slice a' l' c').cells.toList = some (D i, Pl i) := h2
      obtain ⟨l, rfl, hs, hz, _, _, hsz⟩ := bytes_open ⟨k, h2'⟩
      exact ⟨⟨a', l, c'⟩, h1, hs, hz, hsz⟩)
    have hd := congrArg Prod.fst hx
    simp only at hd
    refine ⟨(List.range len).map C, by simp, ?_, .inr ⟨_, _, hd, by simp, fun q hq => ?_⟩⟩
    · intro i q hi
      have hlt : i < len := by
        have := (List.getElem?_eq_some_iff.1 hi).1
        simpa using this
      simp [hlt] at hi
      subst hi
      obtain ⟨h1, h2, h3, _⟩ := hC i hlt
      obtain ⟨b, off, spot⟩ := a
      have hspot : spot = none := by
        have := World.cell?_spot (hC 0 (by omega)).1
        simpa [Addr.add] using this
      subst hspot
      rw [Addr.add_lit] at h1
      exact ⟨⟨b, off, rfl, h1⟩, h2, h3⟩
    · obtain ⟨i, hi, rfl⟩ := List.mem_map.1 hq
      exact ⟨D i, List.mem_map.2 ⟨i, hi, rfl⟩, (hC i (List.mem_range.1 hi)).2.2.2⟩
theorem parts_reach {H : Type} {ts : List TypeId} {ds : List (DataW H)} {j : Nat} {d : DataW H} {P : List PartV} (h : (DataW.weightsEach Try.prog ts ds).all (· ≤ reachBytes) = true) (ht : ts[j]? = some 22) (hd : ds[j]? = some d)
    (hn : P.length = 0 ∨ ∃ el sp, d = .slice el sp ∧ el.length = P.length ∧ ∀ q ∈ P, ∃ y ∈ el, q.fits y) : P.length ≤ 140737488351232 ∧ ∀ q ∈ P, q.bs.length ≤ 140737488351232 := by
  rcases hn with h0 | ⟨el, sp, rfl, hl, hq⟩
  · obtain rfl : P = [] := List.eq_nil_of_length_eq_zero h0
    exact ⟨by simp, fun c hc => by cases hc⟩
  · have h1 := sized_slice h ht hd Try.underlying22
    rw [bytesByte] at h1
    simp only [reachBytes] at h1
    refine ⟨by omega, fun q hq' => ?_⟩
    obtain ⟨y, hy, hf⟩ := hq q hq'
    rcases hf with h0 | ⟨el', sp', rfl, he⟩
    · omega
    · have := List.all_eq_true.1 h ((el'.length + sp'.length) * Try.prog.bytesOf 5) (DataW.weights_mem_each ht hd _ (by
        simp only [DataW.weights, Try.underlying22, List.mem_cons, List.mem_append]
        exact .inr (.inl (weights_all_part hy _ (by simp [DataW.weights, Try.underlying29])))))
      have := of_decide_eq_true this
      rw [bytes8] at this
      simp only [reachBytes] at this
      omega
end Go.Proofs.Ytblblngcmgdnnaa

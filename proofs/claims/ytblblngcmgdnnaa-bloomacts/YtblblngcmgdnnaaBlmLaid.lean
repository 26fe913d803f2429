/-
  ROWS OF BYTES IN A ROW, and two numbers, that came in.
-/
import Derived.Test.YtblblngcmgdnnaaPartsAid
namespace Go.Proofs.Ytblblngcmgdnnaa
open Go.ChangeShapes Go.WideShapes Go.ChangeAt Go.RowKit Go.Deep Go.Joins

theorem parts_open2 {H : Type} {enc : TypeId × Value → H} {W : World} {ao : Option Addr} {len cap : Nat} {d : DataW H} {p : List MemPlace}
    (h : DataW.Trod enc Try.prog W 0 (fun _ => true) true 22 (Value.slice ao len cap) d p) :
    ∃ P : List PartV, P.length = len ∧ PSees W ao P ∧ (∀ q ∈ P, q.bs.length ≤ q.cap) ∧ (P.length = 0 ∨ ∃ el sp, d = .slice el sp ∧ el.length = P.length ∧ ∀ q ∈ P, ∃ y ∈ el, q.fits y) := by
  obtain ⟨fuel, hf⟩ := h
  rcases open_slice1 Try.underlying22 cellsByte hf with ⟨hcs, _⟩ | ⟨a, n, c, m, k, V, D, Pl, hcs, _, hle, _, hm, hx, hc⟩
  · simp [Value.cells] at hcs
    obtain ⟨rfl, rfl, rfl⟩ := hcs
    exact ⟨[], rfl, (fun i c hc => by simp at hc), (fun q hq => by cases hq), .inl rfl⟩
  · simp [Value.cells] at hcs
    obtain ⟨rfl, rfl, rfl⟩ := hcs
    simp only [if_true] at hm
    subst hm
    haveI : Inhabited PartV := ⟨⟨none, [], 0⟩⟩
    obtain ⟨C, hC⟩ := choose_lt (α := PartV) (n := len) (p := fun i q => W.cell? (a.add i) = some (.slice q.ao q.bs.length q.cap) ∧ Sees W q.ao q.bs ∧ (q.ao = none → q.bs.length = 0) ∧ q.bs.length ≤ q.cap ∧ q.fits (D i)) (fun i hi => by
      obtain ⟨h1, h2⟩ := hc i (by omega)
      obtain ⟨a', l', c', e⟩ := slice_form Try.underlying29 h2
      have e' : V i = .slice a' l' c' := by simpa using e
      rw [e'] at h1 h2
      have h2' : DataW.trod enc Try.prog W 0 (fun _ => true) true k 29 (Value.slice a' l' c').cells.toList = some (D i, Pl i) := h2
      obtain ⟨l, rfl, hs, hz, _, hcp, hsz⟩ := bytes_open ⟨k, h2'⟩
      exact ⟨⟨a', l, c'⟩, h1, hs, hz, hcp, hsz⟩)
    have hd := congrArg Prod.fst hx
    simp only at hd
    refine ⟨(List.range len).map C, by simp, ?_, fun q hq => ?_, .inr ⟨_, _, hd, by simp, fun q hq => ?_⟩⟩
    · intro i q hi
      have hlt : i < len := by
        have := (List.getElem?_eq_some_iff.1 hi).1
        simpa using this
      simp [hlt] at hi
      subst hi
      obtain ⟨h1, h2, h3, _⟩ := hC i hlt
      obtain ⟨b, off, spot⟩ := a
      have hspot : spot = none := by
        have := World.cell?_spot (hC 0 (by omega)).1
        simpa [Addr.add] using this
      subst hspot
      rw [Addr.add_lit] at h1
      exact ⟨⟨b, off, rfl, h1⟩, h2, h3⟩
    · obtain ⟨i, hi, rfl⟩ := List.mem_map.1 hq
      exact (hC i (List.mem_range.1 hi)).2.2.2.1
    · obtain ⟨i, hi, rfl⟩ := List.mem_map.1 hq
      exact ⟨D i, List.mem_map.2 ⟨i, hi, rfl⟩, (hC i (List.mem_range.1 hi)).2.2.2.2⟩
theorem cellsMade : Try.prog.cellsOf 46 = 2 := by kernel_rfl
theorem cellsUint : Try.prog.cellsOf 44 = 1 := by kernel_rfl
theorem made_came {H : Type} {enc : TypeId × Value → H} {W : World} {base : Nat} {v : Value} {d : DataW H} {p : List MemPlace} (hv : Value.okWide Try.prog W .any base 46 v)
    (h : DataW.Trod enc Try.prog W 0 (fun _ => true) true 46 v d p) : ∃ (x y : Nat), v = .agg #[.int .u64 (x : Int), .int .u64 (y : Int)] ∧ x < 18446744073709551616 ∧ y < 18446744073709551616 := by
  obtain ⟨cs, rfl, hsz⟩ := okWide_struct Try.underlying46 hv
  obtain ⟨fuel, hf⟩ := h
  have hl := hsz.trans cellsMade
  obtain ⟨l⟩ := cs
  match l, hl with
  | [c0, c1], _ =>
    have hf' : DataW.trod enc Try.prog W 0 (fun _ => true) true fuel 46 [c0, c1] = some (d, p) := hf
    obtain ⟨u0, u1, m', hu, _, g0, g1⟩ := trod_struct2 Try.underlying46 hf'
    simp only [cellsUint] at g0 g1
    obtain ⟨r0, f0, rfl, q0⟩ := DataW.trod_int Try.underlying44 g0
    obtain ⟨r1, f1, rfl, q1⟩ := DataW.trod_int Try.underlying44 g1
    simp at f0 f1
    subst f0
    subst f1
    have b0 := bounds_u64 q0
    have b1 := bounds_u64 q1
    exact ⟨r0.toNat, r1.toNat, by rw [Int.toNat_of_nonneg b0.1, Int.toNat_of_nonneg b1.1], by omega, by omega⟩
end Go.Proofs.Ytblblngcmgdnnaa

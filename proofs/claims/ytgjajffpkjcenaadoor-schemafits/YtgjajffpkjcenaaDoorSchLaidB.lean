/-
  LISTS OF TABLES THAT CAME IN.
-/
import Derived.Test.YtgjajffpkjcenaaDoorSchLaid
import Derived.Test.YtgjajffpkjcenaaDoorSchFind
import Derived.Test.YtgjajffpkjcenaaDoorVerLaid
import Derived.Deep.Strs
namespace Go.Proofs.YtgjajffpkjcenaaDoor
open Go.ChangeShapes Go.WideShapes Go.ChangeAt Go.RowKit Go.Deep

def noTx : Tx := ⟨⟨⟨#[]⟩, ⟨#[]⟩, ⟨#[]⟩, []⟩, none, 0⟩
set_option maxRecDepth 100000 in
theorem tabs_came {H : Type} {enc : TypeId × Value → H} {W : World} {ao : Option Addr} {len cap : Nat} {d : DataW H} {p : List MemPlace}
    (h : DataW.Trod enc Tryd.prog W 0 (fun _ => true) true 39 (Value.slice ao len cap) d p) :
    ∃ l : List Tx, l.length = len ∧ TSee W ao l ∧ (∀ x ∈ l, TCame W x.o x.T) ∧ (l.length = 0 ∨ ∃ el sp, d = .slice el sp ∧ el.length = l.length) := by
  obtain ⟨fuel, hf⟩ := h
  rcases open_slice Tryd.underlying39 hf with ⟨hcs, _⟩ | ⟨a, n, c', m, k, D, Pl, hcs, _, hle, _, hm, hx, hc⟩
  · simp [Value.cells] at hcs
    obtain ⟨rfl, rfl, rfl⟩ := hcs
    exact ⟨[], rfl, (fun i x hx => by cases hx), (fun x hx => by cases hx), .inl rfl⟩
  · simp [Value.cells] at hcs
    obtain ⟨rfl, rfl, rfl⟩ := hcs
    simp only [if_true] at hm
    subst hm
    rw [cellsTb] at hc
    haveI : Inhabited Tx := ⟨noTx⟩
    obtain ⟨C, hC⟩ := choose_lt (α := Tx) (n := len) (p := fun i x => W.cells? 0 (a.add (i * 4)) 4 = some (x.T.a x.o x.k).toList ∧ TCame W x.o x.T) (fun i hi => by
      obtain ⟨cs', h1, h2⟩ := hc i (by omega)
      have hl4 : cs'.length = 4 := by
        obtain ⟨_, hll, _⟩ := World.cells?_some h1
        exact hll
      obtain ⟨o, cp, T, e, h3, _⟩ := tab_cells hl4 h2
      subst e
      exact ⟨⟨T, o, cp⟩, h1, h3⟩)
    have hd := congrArg Prod.fst hx
    refine ⟨(List.range len).map C, by simp, ?_, ?_, .inr ⟨_, _, hd, by simp⟩⟩
    · intro i x hi
      have hlt : i < len := by
        have := (List.getElem?_eq_some_iff.1 hi).1
        simpa using this
      simp [hlt] at hi
      subst hi
      obtain ⟨_, _, h3⟩ := World.cells?_some (hC i hlt).1
      obtain ⟨_, _, h30⟩ := World.cells?_some (hC 0 (by omega)).1
      have hz := h30 0 (by omega)
      obtain ⟨b, off, spot⟩ := a
      have hspot : spot = none := by
        have := World.cell?_spot (hz.trans (by rfl : ((C 0).T.a (C 0).o (C 0).k).toList[0]? = some (.string (C 0).T.t)))
        simpa [Addr.add] using this
      subst hspot
      have hv : ∀ j v, ((C i).T.a (C i).o (C i).k).toList[j]? = some v → W.cell? ⟨b, off + i * 4 + j, none⟩ = some v := fun j v hv => by
        have hj : j < 4 := (List.getElem?_eq_some_iff.1 hv).1
        have := h3 j hj
        rw [Addr.add_lit, Addr.add_lit, hv] at this
        exact this
      exact ⟨b, off, rfl, ⟨hv 0 _ rfl, hv 1 _ rfl, hv 2 _ rfl, hv 3 _ rfl⟩, (hC i hlt).2.see⟩
    · intro x hx
      obtain ⟨i, hi, rfl⟩ := List.mem_map.1 hx
      exact (hC i (List.mem_range.1 hi)).2
set_option maxRecDepth 100000 in
theorem tabs_fit {H : Type} {ts : List TypeId} {ds : List (DataW H)} {j n : Nat} {d : DataW H} (h : (DataW.weightsEach Tryd.prog ts ds).all (· ≤ reachBytes) = true) (ht : ts[j]? = some 39) (hd : ds[j]? = some d)
    (hn : n = 0 ∨ ∃ el sp, d = .slice el sp ∧ el.length = n) : n * 72 ≤ 140737488351232 := by
  rcases hn with rfl | ⟨el, sp, rfl, rfl⟩
  · omega
  · have h1 := sized_slice h ht hd Tryd.underlying39
    rw [show Tryd.prog.bytesOf 26 = 72 by kernel_rfl] at h1
    simp only [reachBytes] at h1
    omega
end Go.Proofs.YtgjajffpkjcenaaDoor

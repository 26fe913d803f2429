/-
  TABLES AND NAMES THAT CAME IN.
-/
import Derived.Test.YtgjajffpkjcenaaDoorSchMem
import Derived.Test.YtgjajffpkjcenaaDoorSchDoor
import Derived.Deep.Strs
namespace Go.Proofs.YtgjajffpkjcenaaDoor
open Go.ChangeShapes Go.WideShapes Go.ChangeAt Go.RowKit Go.Deep

set_option maxRecDepth 100000 in
theorem cellsTb : Tryd.prog.cellsOf 26 = 4 := by kernel_rfl
set_option maxRecDepth 100000 in
theorem cellsCo : Tryd.prog.cellsOf 29 = 2 := by kernel_rfl
set_option maxRecDepth 100000 in
theorem cellsCs : Tryd.prog.cellsOf 24 = 1 := by kernel_rfl
theorem cellsSt : Tryd.prog.cellsOf 9 = 1 := by kernel_rfl
theorem cellsIt : Tryd.prog.cellsOf 3 = 1 := by kernel_rfl
def noCo : Co := ⟨⟨#[]⟩, 0⟩
set_option maxRecDepth 100000 in
theorem co_open {H : Type} {enc : TypeId × Value → H} {W : World} {fuel : Nat} {cs : List Value} {y : DataW H × List MemPlace} (h : DataW.trod enc Tryd.prog W 0 (fun _ => true) true fuel 29 cs = some y) : ∃ c : Co, cs = c.a.toList ∧ c.n.size ≤ maxLen := by
  obtain ⟨y0, y1, n, _, hl, h0, h1⟩ := trod_struct2 Tryd.underlying29 h
  rw [cellsCo] at hl
  match cs, hl with
  | [c0, c1], _ =>
    simp only [cellsSt, cellsIt] at h0 h1
    obtain ⟨s, e0, _, hs⟩ := DataW.trod_string Tryd.underlying9 h0
    obtain ⟨k, e1, _, _⟩ := DataW.trod_int Tryd.underlying3 h1
    simp at e0 e1
    subst e0
    subst e1
    exact ⟨⟨s, k⟩, rfl, hs⟩
set_option maxRecDepth 100000 in
theorem cols_cells {H : Type} {enc : TypeId × Value → H} {W : World} {fuel : Nat} {c : Value} {y : DataW H × List MemPlace} (hf : DataW.trod enc Tryd.prog W 0 (fun _ => true) true fuel 24 [c] = some y) :
    ∃ ao cap, ∃ l : List Co, c = .slice ao l.length cap ∧ CSee W ao l ∧ (∀ c ∈ l, c.n.size ≤ maxLen) ∧ (l.length = 0 ∨ ∃ el sp, y.1 = .slice el sp ∧ el.length = l.length) := by
  rcases open_slice Tryd.underlying24 hf with ⟨hcs, _⟩ | ⟨a, n, c', m, k, D, Pl, hcs, _, hle, _, hm, hx, hc⟩
  · simp at hcs
    exact ⟨none, 0, [], hcs, (fun i c hc => by simp at hc), (fun c hc => by cases hc), .inl rfl⟩
  · simp at hcs
    simp only [if_true] at hm
    subst hm
    rw [cellsCo] at hc
    haveI : Inhabited Co := ⟨noCo⟩
    obtain ⟨C, hC⟩ := choose_lt (α := Co) (n := n) (p := fun i c => W.cells? 0 (a.add (i * 2)) 2 = some c.a.toList ∧ c.n.size ≤ maxLen) (fun i hi => by
      obtain ⟨cs', h1, h2⟩ := hc i (by omega)
      obtain ⟨c, rfl, h3⟩ := co_open h2
      exact ⟨c, h1, h3⟩)
    have hd := congrArg Prod.fst hx
    refine ⟨some a, m, (List.range n).map C, by simpa using hcs, ?_, ?_, .inr ⟨_, _, hd, by simp⟩⟩
    · intro i c hi
      have hlt : i < n := by
        have := (List.getElem?_eq_some_iff.1 hi).1
        simpa using this
      simp [hlt] at hi
      subst hi
      obtain ⟨_, _, h3⟩ := World.cells?_some (hC i hlt).1
      obtain ⟨_, _, h30⟩ := World.cells?_some (hC 0 (by omega)).1
      have hz := h30 0 (by omega)
      obtain ⟨b, off, spot⟩ := a
      have hspot : spot = none := by
        have := World.cell?_spot (hz.trans (by rfl : (C 0).a.toList[0]? = some (.string (C 0).n)))
        simpa [Addr.add] using this
      subst hspot
      have hv : ∀ j v, (C i).a.toList[j]? = some v → W.cell? ⟨b, off + i * 2 + j, none⟩ = some v := fun j v hv => by
        have hj : j < 2 := (List.getElem?_eq_some_iff.1 hv).1
        have := h3 j hj
        rw [Addr.add_lit, Addr.add_lit, hv] at this
        exact this
      exact ⟨b, off, rfl, hv 0 _ rfl, hv 1 _ rfl⟩
    · intro c hc
      obtain ⟨i, hi, rfl⟩ := List.mem_map.1 hc
      exact (hC i (List.mem_range.1 hi)).2
/-- A table that came in. -/
structure TCame (W : World) (ao : Option Addr) (T : Tb) : Prop where
  see : CSee W ao T.cs
  t : T.t.size ≤ maxLen
  p : T.p.size ≤ maxLen
  r : T.r.size ≤ maxLen
  c : ∀ c ∈ T.cs, c.n.size ≤ maxLen
theorem TCame.ok {W : World} {ao : Option Addr} {T : Tb} (h : TCame W ao T) (hl : T.cs.length * 24 ≤ 140737488351232) : T.Ok := ⟨h.t, h.p, h.r, h.c, hl⟩
set_option maxRecDepth 100000 in
theorem tab_cells {H : Type} {enc : TypeId × Value → H} {W : World} {fuel : Nat} {cs : List Value} {y : DataW H × List MemPlace} (hl : cs.length = 4) (h : DataW.trod enc Tryd.prog W 0 (fun _ => true) true fuel 26 cs = some y) :
    ∃ ao cap T, cs = (T.a ao cap).toList ∧ TCame W ao T ∧ (T.cs.length = 0 ∨ ∃ el sp a b c, y.1 = .agg [a, b, c, .slice el sp] ∧ el.length = T.cs.length) := by
  match cs, hl with
  | [c0, c1, c2, c3], _ =>
    obtain ⟨xs, n, _, hd, hl, hlen, hf⟩ := DataW.trod_struct Tryd.underlying26 h
    match xs, hlen with
    | [y0, y1, y2, y3], _ =>
      have h0 : DataW.trod enc Tryd.prog W 0 (fun _ => true) true n 9 ((([c0, c1, c2, c3] : List Value).drop 0).take (Tryd.prog.cellsOf 9)) = some y0 := hf 0 _ rfl
      have h1 : DataW.trod enc Tryd.prog W 0 (fun _ => true) true n 9 ((([c0, c1, c2, c3] : List Value).drop 1).take (Tryd.prog.cellsOf 9)) = some y1 := hf 1 _ rfl
      have h2 : DataW.trod enc Tryd.prog W 0 (fun _ => true) true n 9 ((([c0, c1, c2, c3] : List Value).drop 2).take (Tryd.prog.cellsOf 9)) = some y2 := hf 2 _ rfl
      have h3 : DataW.trod enc Tryd.prog W 0 (fun _ => true) true n 24 ((([c0, c1, c2, c3] : List Value).drop 3).take (Tryd.prog.cellsOf 24)) = some y3 := hf 3 _ rfl
      rw [cellsSt] at h0 h1 h2
      rw [cellsCs] at h3
      obtain ⟨s0, e0, _, q0⟩ := DataW.trod_string Tryd.underlying9 h0
      obtain ⟨s1, e1, _, q1⟩ := DataW.trod_string Tryd.underlying9 h1
      obtain ⟨s2, e2, _, q2⟩ := DataW.trod_string Tryd.underlying9 h2
      obtain ⟨ao, cap, l, e3, i1, i2, i3⟩ := cols_cells (fuel := n) (c := c3) (y := y3) h3
      cases e0
      cases e1
      cases e2
      subst e3
      refine ⟨ao, cap, ⟨s0, s1, s2, l⟩, rfl, ⟨i1, q0, q1, q2, i2⟩, i3.imp id fun ⟨el, sp, k1, k2⟩ => ⟨el, sp, y0.1, y1.1, y2.1, ?_, k2⟩⟩
      have := congrArg Prod.fst hd
      simp only [List.map_cons, List.map_nil] at this
      rw [this, k1]
set_option maxRecDepth 100000 in
theorem tab_came {H : Type} {enc : TypeId × Value → H} {W : World} {base : Nat} {v : Value} {d : DataW H} {p : List MemPlace} (hv : Value.okWide Tryd.prog W .any base 26 v)
    (h : DataW.Trod enc Tryd.prog W 0 (fun _ => true) true 26 v d p) : ∃ ao cap T, v = T.v ao cap ∧ TCame W ao T ∧ (T.cs.length = 0 ∨ ∃ el sp a b c, d = .agg [a, b, c, .slice el sp] ∧ el.length = T.cs.length) := by
  obtain ⟨cs, rfl, hsz⟩ := okWide_struct Tryd.underlying26 hv
  obtain ⟨fuel, hf⟩ := h
  obtain ⟨l⟩ := cs
  have hl : l.length = 4 := hsz.trans cellsTb
  obtain ⟨ao, cap, T, e, h1, h2⟩ := tab_cells hl (show DataW.trod enc Tryd.prog W 0 (fun _ => true) true fuel 26 l = some (d, p) from hf)
  refine ⟨ao, cap, T, ?_, h1, h2⟩
  rw [e]; rfl
set_option maxRecDepth 100000 in
theorem bytesCo : Tryd.prog.bytesOf 29 = 24 := by kernel_rfl
set_option maxRecDepth 100000 in
/-- How many columns can have come in. -/
theorem tab_fit {H : Type} {ts : List TypeId} {ds : List (DataW H)} {j n : Nat} {d : DataW H} (h : (DataW.weightsEach Tryd.prog ts ds).all (· ≤ reachBytes) = true) (ht : ts[j]? = some 26) (hd : ds[j]? = some d)
    (hn : n = 0 ∨ ∃ el sp a b c, d = .agg [a, b, c, .slice el sp] ∧ el.length = n) : n * 24 ≤ 140737488351232 := by
  rcases hn with rfl | ⟨el, sp, a, b, c, rfl, rfl⟩
  · omega
  · have hw : ∀ n ∈ (DataW.agg [a, b, c, .slice el sp] : DataW H).weights Tryd.prog 26, n ≤ reachBytes := fun n hn => by
      have := List.all_eq_true.1 h n (DataW.weights_mem_each ht hd n hn)
      simpa using this
    have a1 := hw ((el.length + sp.length) * Tryd.prog.bytesOf 29) (by simp [DataW.weights, DataW.weightsEach, Tryd.underlying26, Tryd.underlying24])
    rw [bytesCo] at a1
    simp only [reachBytes] at a1
    omega
set_option maxRecDepth 100000 in
theorem names_came {H : Type} {enc : TypeId × Value → H} {W : World} {ao : Option Addr} {len cap : Nat} {d : DataW H} {p : List MemPlace}
    (h : DataW.Trod enc Tryd.prog W 0 (fun _ => true) true 27 (Value.slice ao len cap) d p) :
    ∃ l : List ByteArray, l.length = len ∧ NSee W ao l ∧ (∀ s ∈ l, s.size ≤ maxLen) ∧ (l.length = 0 ∨ ∃ el sp, d = .slice el sp ∧ el.length = l.length) := by
  obtain ⟨fuel, hf⟩ := h
  rcases open_strs Tryd.underlying27 Tryd.underlying9 cellsSt hf with ⟨hcs, _⟩ | ⟨a, n, c, m, Sx, hcs, _, hl, _, hm, hx, hc⟩
  · simp [Value.cells] at hcs
    obtain ⟨rfl, rfl, rfl⟩ := hcs
    exact ⟨[], rfl, (fun i s hs => by cases hs), (fun s hs => by cases hs), .inl rfl⟩
  · simp [Value.cells] at hcs
    obtain ⟨rfl, rfl, rfl⟩ := hcs
    simp only [if_true] at hm
    subst hm
    have hd := congrArg Prod.fst hx
    refine ⟨(List.range len).map Sx, by simp, ?_, ?_, .inr ⟨_, _, hd, by simp⟩⟩
    · intro i s hi
      have hlt : i < len := by
        have := (List.getElem?_eq_some_iff.1 hi).1
        simpa using this
      simp [hlt] at hi
      subst hi
      have h0 := (hc 0 (by omega)).1
      have hi := (hc i (by omega)).1
      obtain ⟨b, off, spot⟩ := a
      have hspot : spot = none := by
        have := World.cell?_spot h0
        simpa [Addr.add] using this
      subst hspot
      rw [Addr.add_lit] at hi
      exact ⟨b, off, rfl, hi⟩
    · intro s hs
      obtain ⟨i, hi, rfl⟩ := List.mem_map.1 hs
      exact (hc i (by have := List.mem_range.1 hi; omega)).2
set_option maxRecDepth 100000 in
theorem names_fit {H : Type} {ts : List TypeId} {ds : List (DataW H)} {j n : Nat} {d : DataW H} (h : (DataW.weightsEach Tryd.prog ts ds).all (· ≤ reachBytes) = true) (ht : ts[j]? = some 27) (hd : ds[j]? = some d)
    (hn : n = 0 ∨ ∃ el sp, d = .slice el sp ∧ el.length = n) : n * 16 ≤ 140737488351232 := by
  rcases hn with rfl | ⟨el, sp, rfl, rfl⟩
  · omega
  · have h1 := sized_slice h ht hd Tryd.underlying27
    rw [show Tryd.prog.bytesOf 9 = 16 by kernel_rfl] at h1
    simp only [reachBytes] at h1
    omega
end Go.Proofs.YtgjajffpkjcenaaDoor

/-
  LISTS OF CELLS AND VALUES THAT CAME IN.
-/
import Derived.Test.YtdpglmgnbhpneaaVerLaid
import Derived.Test.YtdpglmgnbhpneaaCxWeigh
namespace Go.Proofs.Ytdpglmgnbhpneaa
open Go.ChangeShapes Go.WideShapes Go.ChangeAt Go.RowKit Go.Deep

set_option maxRecDepth 100000 in
theorem weightsX_mem {H : Type} {P : Program} {e : TypeId} {d : DataW H} : ∀ {l : List (DataW H)}, d ∈ l → ∀ n ∈ d.weights P e, n ∈ DataW.weightsAll P e l
  | [], h, _, _ => by cases h
  | a :: l, h, n, hn => by
    simp only [DataW.weightsAll, List.mem_append]
    rcases List.mem_cons.1 h with rfl | h
    · exact .inl hn
    · exact .inr (weightsX_mem h n hn)
/-- What numbers came in. -/
def Cx.In (c : Cx) : Prop := InI c.k.r ∧ (InI c.v.time ∧ InI c.v.loc ∧ InI c.v.kind ∧ InI c.v.num)
def noCx : Cx := ⟨⟨⟨#[]⟩, ⟨#[]⟩, 0, ⟨#[]⟩⟩, zeroV⟩
set_option maxRecDepth 100000 in
/-- Cells that came in. -/
theorem cells_came {H : Type} {enc : TypeId × Value → H} {W : World} {ao : Option Addr} {len cap : Nat} {d : DataW H} {p : List MemPlace}
    (h : DataW.Trod enc Try.prog W 0 (fun _ => true) true 25 (Value.slice ao len cap) d p) :
    ∃ l : List Cx, l.length = len ∧ XSees W ao l ∧ (ao = none → l.length = 0) ∧ (∀ c ∈ l, c.In) ∧ (l.length = 0 ∨ ∃ sp, d = .slice (l.map cxD) sp) := by
  obtain ⟨fuel, hf⟩ := h
  rcases open_slice Try.underlying25 hf with ⟨hcs, _⟩ | ⟨a, n, c, m, k, D, Pl, hcs, _, hle, _, hm, hx, hc⟩
  · simp [Value.cells] at hcs
    obtain ⟨rfl, rfl, rfl⟩ := hcs
    exact ⟨[], rfl, (fun i c hc => by simp at hc), fun _ => rfl, (fun c hc => by cases hc), .inl rfl⟩
  · simp [Value.cells] at hcs
    obtain ⟨rfl, rfl, rfl⟩ := hcs
    simp only [if_true] at hm
    subst hm
    rw [cellsXC] at hc
    haveI : Inhabited Cx := ⟨noCx⟩
    obtain ⟨C, hC⟩ := choose_lt (α := Cx) (n := len) (p := fun i c => W.cells? 0 (a.add (i * 10)) 10 = some c.a.toList ∧ c.In ∧ D i = cxD c) (fun i hi => by
      obtain ⟨cs', h1, h2⟩ := hc i (by omega)
      obtain ⟨c, rfl, h3, h4, h5⟩ := cx_open h2
      exact ⟨c, h1, ⟨h3, h4⟩, h5⟩)
    have hD : (List.range len).map D = ((List.range len).map C).map cxD := by
      rw [List.map_map]
      exact List.map_congr_left fun i hi => (hC i (List.mem_range.1 hi)).2.2
    have hd := congrArg Prod.fst hx
    simp only [hD] at hd
    refine ⟨(List.range len).map C, by simp, ?_, (fun h => by cases h), ?_, .inr ⟨_, hd⟩⟩
    · intro i c hi
      have hlt : i < len := by
        have := (List.getElem?_eq_some_iff.1 hi).1
        simpa using this
      simp [hlt] at hi
      subst hi
      obtain ⟨_, _, h3⟩ := World.cells?_some (hC i hlt).1
      obtain ⟨_, _, h30⟩ := World.cells?_some (hC 0 (by omega)).1
      have hz := h30 0 (by omega)
      obtain ⟨b, off, spot⟩ := a
      have hspot : spot = none := by
        have := World.cell?_spot (hz.trans (by rfl : (C 0).a.toList[0]? = some (.string (C 0).k.t)))
        simpa [Addr.add] using this
      subst hspot
      have hv : ∀ j v, (C i).a.toList[j]? = some v → W.cell? ⟨b, off + i * 10 + j, none⟩ = some v := fun j v hv => by
        have hj : j < 10 := (List.getElem?_eq_some_iff.1 hv).1
        have := h3 j hj
        rw [Addr.add_lit, Addr.add_lit, hv] at this
        exact this
      exact ⟨b, off, rfl, ⟨hv 0 _ rfl, hv 1 _ rfl, hv 2 _ rfl, hv 3 _ rfl, hv 4 _ rfl, hv 5 _ rfl, hv 6 _ rfl, hv 7 _ rfl, hv 8 _ rfl, hv 9 _ rfl⟩⟩
    · intro c hc
      obtain ⟨i, hi, rfl⟩ := List.mem_map.1 hc
      exact (hC i (List.mem_range.1 hi)).2.1
set_option maxRecDepth 100000 in
theorem bytesXC : Try.prog.bytesOf 39 = 112 := by kernel_rfl
set_option maxRecDepth 100000 in
theorem cells_fit {H : Type} {ts : List TypeId} {ds : List (DataW H)} {j : Nat} {d : DataW H} {l : List Cx} (h : (DataW.weightsEach Try.prog ts ds).all (· ≤ reachBytes) = true) (ht : ts[j]? = some 25) (hd : ds[j]? = some d)
    (hk : ∀ c ∈ l, c.In) (hn : l.length = 0 ∨ ∃ sp, d = .slice (l.map cxD) sp) : l.length ≤ 140737488355328 ∧ ∀ c ∈ l, c.In ∧ wtX c ≤ 562949953421312 := by
  rcases hn with h0 | ⟨sp, rfl⟩
  · obtain rfl : l = [] := List.eq_nil_of_length_eq_zero h0
    exact ⟨by simp, fun c hc => by cases hc⟩
  · have h1 := sized_slice h ht hd Try.underlying25
    rw [bytesXC] at h1
    simp only [reachBytes, List.length_map] at h1
    refine ⟨by omega, fun c hc => ⟨hk c hc, ?_⟩⟩
    have hw : ∀ n ∈ (cxD (H := H) c).weights Try.prog 39, n ≤ big := fun n hn =>
      reach_mem h ht hd (by
        simp only [DataW.weights, Try.underlying25, List.mem_cons, List.mem_append]
        exact .inr (.inl (weightsX_mem (List.mem_map_of_mem hc) n hn)))
    rw [cxD_weights] at hw
    have a0 := hw c.k.t.size (by simp)
    have a1 := hw c.k.p.size (by simp)
    have a2 := hw c.k.c.size (by simp)
    have a3 := hw c.v.s.size (by simp)
    unfold big at a0 a1 a2 a3
    unfold wtX
    omega
set_option maxRecDepth 100000 in
theorem array3 {α : Type} {cs : Array α} (h : cs.size = 3) : ∃ c0 c1 c2, cs = #[c0, c1, c2] := by
  obtain ⟨l⟩ := cs
  match l, h with
  | [c0, c1, c2], _ => exact ⟨c0, c1, c2, rfl⟩
set_option maxRecDepth 100000 in
/-- A value that came in. -/
theorem value_came {H : Type} {enc : TypeId × Value → H} {W : World} {base : Nat} {v : Value} {d : DataW H} {p : List MemPlace} (hv : Value.okWide Try.prog W .any base 35 v)
    (h : DataW.Trod enc Try.prog W 0 (fun _ => true) true 35 v d p) : ∃ (k n : Int) (s : ByteArray), v = .agg #[.int .i64 k, .int .i64 n, .string s] ∧ InI k ∧ InI n := by
  obtain ⟨cs, rfl, hsz⟩ := okWide_struct Try.underlying35 hv
  obtain ⟨c0, c1, c2, rfl⟩ := array3 (hsz.trans cellsXV)
  obtain ⟨fuel, hf⟩ := h
  obtain ⟨u0, u1, u2, m', hu, _, g0, g1, g2⟩ := trod_struct3 (cs := [c0, c1, c2]) Try.underlying35 hf
  simp only [cellsXS, cellsXI] at g0 g1 g2
  obtain ⟨r0, f0, rfl, q0⟩ := DataW.trod_int Try.underlying3 g0
  obtain ⟨r1, f1, rfl, q1⟩ := DataW.trod_int Try.underlying3 g1
  obtain ⟨r2, f2, rfl, _⟩ := DataW.trod_string Try.underlying9 g2
  simp at f0 f1 f2
  subst f0
  subst f1
  subst f2
  exact ⟨r0, r1, r2, rfl, bounds_i64 q0, bounds_i64 q1⟩
end Go.Proofs.Ytdpglmgnbhpneaa

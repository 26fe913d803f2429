/-
  WHAT COMES IN: a slice of acts, as a row's reading gives it.
-/
import Derived.Test.YtbabepnoncpdlaaDskActV
import Derived.Test.YtbabepnoncpdlaaActAid
import Derived.Deep.Slices
namespace Go.Proofs.Ytbabepnoncpdlaa
open Go.ChangeShapes Go.WideShapes Go.ChangeAt Go.RowKit Go.Deep Go.Joins

theorem weights_all_act {H : Type} {P : Program} {e : TypeId} {d : DataW H} : ∀ {l : List (DataW H)}, d ∈ l → ∀ n ∈ d.weights P e, n ∈ DataW.weightsAll P e l
  | [], h, _, _ => by cases h
  | a :: l, h, n, hn => by
    simp only [DataW.weightsAll, List.mem_append]
    rcases List.mem_cons.1 h with rfl | h
    · exact .inl hn
    · exact .inr (weights_all_act h n hn)
/-- What was read of the act. -/
def ActV.fits {H : Type} (c : ActV) (y : DataW H) : Prop := ∃ yd, y = .agg [.lit (.int .i64 c.kind), .lit (.string c.sa.data.toList), .lit (.string c.sb.data.toList), yd, .lit (.int .i64 c.n), .lit (.int .i64 c.m)] ∧ (c.data.length = 0 ∨ ∃ el sp, yd = .slice el sp ∧ el.length = c.data.length)
/-- Read so, without its sizes. -/
structure ActV.Seen (w : World) (c : ActV) : Prop where
  sees : Sees w c.ao c.data
  zero : c.ao = none → c.data.length = 0
  kind : -9223372036854775808 ≤ c.kind ∧ c.kind ≤ 9223372036854775807
  n : -9223372036854775808 ≤ c.n ∧ c.n ≤ 9223372036854775807
  m : -9223372036854775808 ≤ c.m ∧ c.m ≤ 9223372036854775807
set_option maxRecDepth 100000 in
theorem act_cells {H : Type} {enc : TypeId × Value → H} {W : World} {fuel : Nat} {cs : List Value} {x : DataW H × List MemPlace} (h : DataW.trod enc Try.prog W 0 (fun _ => true) true fuel 44 cs = some x) :
    ∃ c : ActV, cs = (actA c).toList ∧ c.Seen W ∧ c.fits x.1 := by
  obtain ⟨xs, n, _, hd, hl, hlen, hf⟩ := DataW.trod_struct Try.underlying44 h
  rw [cellsAct] at hl
  match cs, hl, xs, hlen with
  | [c0, c1, c2, c3, c4, c5], _, [y0, y1, y2, y3, y4, y5], _ =>
    have h0 : DataW.trod enc Try.prog W 0 (fun _ => true) true n 3 ((([c0, c1, c2, c3, c4, c5] : List Value).drop 0).take (Try.prog.cellsOf 3)) = some y0 := hf 0 _ rfl
    rw [cellsInt] at h0
    have h1 : DataW.trod enc Try.prog W 0 (fun _ => true) true n 9 ((([c0, c1, c2, c3, c4, c5] : List Value).drop 1).take (Try.prog.cellsOf 9)) = some y1 := hf 1 _ rfl
    rw [cellsStr] at h1
    have h2 : DataW.trod enc Try.prog W 0 (fun _ => true) true n 9 ((([c0, c1, c2, c3, c4, c5] : List Value).drop 2).take (Try.prog.cellsOf 9)) = some y2 := hf 2 _ rfl
    rw [cellsStr] at h2
    have h3 : DataW.trod enc Try.prog W 0 (fun _ => true) true n 26 ((([c0, c1, c2, c3, c4, c5] : List Value).drop 3).take (Try.prog.cellsOf 26)) = some y3 := hf 3 _ rfl
    rw [cellsByt] at h3
    have h4 : DataW.trod enc Try.prog W 0 (fun _ => true) true n 3 ((([c0, c1, c2, c3, c4, c5] : List Value).drop 4).take (Try.prog.cellsOf 3)) = some y4 := hf 4 _ rfl
    rw [cellsInt] at h4
    have h5 : DataW.trod enc Try.prog W 0 (fun _ => true) true n 3 ((([c0, c1, c2, c3, c4, c5] : List Value).drop 5).take (Try.prog.cellsOf 3)) = some y5 := hf 5 _ rfl
    rw [cellsInt] at h5
    obtain ⟨k, e0, rfl, w0⟩ := DataW.trod_int Try.underlying3 h0
    obtain ⟨sa, e1, rfl, _⟩ := DataW.trod_string Try.underlying9 h1
    obtain ⟨sb, e2, rfl, _⟩ := DataW.trod_string Try.underlying9 h2
    obtain ⟨a, l, c, e3⟩ := slice_form Try.underlying26 h3
    obtain ⟨n4, e4, rfl, w4⟩ := DataW.trod_int Try.underlying3 h4
    obtain ⟨n5, e5, rfl, w5⟩ := DataW.trod_int Try.underlying3 h5
    cases e0
    cases e1
    cases e2
    cases e3
    cases e4
    cases e5
    obtain ⟨y3d, y3p⟩ := y3
    have h3' : DataW.trod enc Try.prog W 0 (fun _ => true) true n 26 (Value.slice a l c).cells.toList = some (y3d, y3p) := h3
    obtain ⟨bl, rfl, hs, hz, _, _, hsz⟩ := bytes_open ⟨n, h3'⟩
    refine ⟨⟨k, sa, sb, a, bl, c, n4, n5⟩, rfl, ⟨hs, hz, bounds_i64 w0, bounds_i64 w4, bounds_i64 w5⟩, y3d, ?_, hsz⟩
    have hd1 := congrArg Prod.fst hd
    simpa using hd1
def noAct : ActV := ⟨0, ⟨#[]⟩, ⟨#[]⟩, none, [], 0, 0, 0⟩
/-- Acts that came in. -/
theorem acts_open {H : Type} {enc : TypeId × Value → H} {W : World} {ao : Option Addr} {len cap : Nat} {d : DataW H} {p : List MemPlace}
    (h : DataW.Trod enc Try.prog W 0 (fun _ => true) true 41 (Value.slice ao len cap) d p) :
    ∃ l : List ActV, l.length = len ∧ ASees W ao l ∧ (∀ c ∈ l, c.Seen W) ∧ (l.length = 0 ∨ ∃ el sp, d = .slice el sp ∧ el.length = l.length ∧ ∀ c ∈ l, ∃ y ∈ el, c.fits y) := by
  obtain ⟨fuel, hf⟩ := h
  rcases open_slice Try.underlying41 hf with ⟨hcs, _⟩ | ⟨a, n, c, m, k, D, Pl, hcs, _, hle, _, hm, hx, hc⟩
  · simp [Value.cells] at hcs
    obtain ⟨rfl, rfl, rfl⟩ := hcs
    exact ⟨[], rfl, (fun i c hc => by simp at hc), (fun c hc => by cases hc), .inl rfl⟩
  · simp [Value.cells] at hcs
    obtain ⟨rfl, rfl, rfl⟩ := hcs
    simp only [if_true] at hm
    subst hm
    rw [cellsAct] at hc
    haveI : Inhabited ActV := ⟨noAct⟩
    obtain ⟨C, hC⟩ := choose_lt (α := ActV) (n := len) (p := fun i c => W.cells? 0 (a.add (i * 6)) 6 = some (actA c).toList ∧ c.Seen W ∧ c.fits (D i)) (fun i hi => by
      obtain ⟨cs', h1, h2⟩ := hc i (by omega)
      obtain ⟨c, rfl, h3, h4⟩ := act_cells h2
      exact ⟨c, h1, h3, h4⟩)
    have hd := congrArg Prod.fst hx
    simp only at hd
    refine ⟨(List.range len).map C, by simp, ?_, ?_, .inr ⟨_, _, hd, by simp, fun q hq => ?_⟩⟩
    · intro i c hi
      have hlt : i < len := by
        have := (List.getElem?_eq_some_iff.1 hi).1
        simpa using this
      simp [hlt] at hi
      subst hi
      obtain ⟨_, _, h3⟩ := World.cells?_some (hC i hlt).1
      obtain ⟨_, _, h30⟩ := World.cells?_some (hC 0 (by omega)).1
      have hz := h30 0 (by omega)
      obtain ⟨b, off, spot⟩ := a
      have hspot : spot = none := by
        have := World.cell?_spot (hz.trans (by rfl : (actA (C 0)).toList[0]? = some (.int .i64 (C 0).kind)))
        simpa [Addr.add] using this
      subst hspot
      refine ⟨b, off, rfl, fun j v hv => ?_⟩
      have hj : j < 6 := (List.getElem?_eq_some_iff.1 hv).1
      have := h3 j hj
      rw [Addr.add_lit, Addr.add_lit, hv] at this
      exact this
    · intro c hc
      obtain ⟨i, hi, rfl⟩ := List.mem_map.1 hc
      exact (hC i (List.mem_range.1 hi)).2.1
    · obtain ⟨i, hi, rfl⟩ := List.mem_map.1 hq
      exact ⟨D i, List.mem_map.2 ⟨i, hi, rfl⟩, (hC i (List.mem_range.1 hi)).2.2⟩
theorem bytesAct : Try.prog.bytesOf 44 = 80 := by kernel_rfl
theorem acts_reach {H : Type} {W : World} {ts : List TypeId} {ds : List (DataW H)} {j : Nat} {d : DataW H} {l : List ActV} (h : (DataW.weightsEach Try.prog ts ds).all (· ≤ reachBytes) = true) (ht : ts[j]? = some 41) (hd : ds[j]? = some d) (hs : ∀ c ∈ l, c.Seen W)
    (hn : l.length = 0 ∨ ∃ el sp, d = .slice el sp ∧ el.length = l.length ∧ ∀ c ∈ l, ∃ y ∈ el, c.fits y) : l.length ≤ 140737488355328 ∧ ∀ c ∈ l, c.Ok W := by
  rcases hn with h0 | ⟨el, sp, rfl, hl, hq⟩
  · obtain rfl : l = [] := List.eq_nil_of_length_eq_zero h0
    exact ⟨by simp, fun c hc => by cases hc⟩
  · have h1 := sized_slice h ht hd Try.underlying41
    rw [bytesAct] at h1
    simp only [reachBytes] at h1
    refine ⟨by omega, fun c hc => ?_⟩
    obtain ⟨y, hy, yd, rfl, hf⟩ := hq c hc
    have hw : ∀ n ∈ (DataW.agg [.lit (.int .i64 c.kind), .lit (.string c.sa.data.toList), .lit (.string c.sb.data.toList), yd, .lit (.int .i64 c.n), .lit (.int .i64 c.m)] : DataW H).weights Try.prog 44, n ≤ reachBytes := fun n hn => by
      have := List.all_eq_true.1 h n (DataW.weights_mem_each ht hd n (by
        simp only [DataW.weights, Try.underlying41, List.mem_cons, List.mem_append]
        exact .inr (.inl (weights_all_act hy n hn))))
      simpa using this
    have a1 : c.sa.size ≤ reachBytes := hw c.sa.size (by simp [DataW.weights, DataW.weightsEach, Try.underlying44])
    have a2 : c.sb.size ≤ reachBytes := hw c.sb.size (by simp [DataW.weights, DataW.weightsEach, Try.underlying44])
    have a3 : c.data.length ≤ reachBytes := by
      rcases hf with h0 | ⟨el', sp', rfl, he⟩
      · omega
      · have := hw ((el'.length + sp'.length) * Try.prog.bytesOf 5) (by simp [DataW.weights, DataW.weightsEach, Try.underlying44, Try.underlying26])
        rw [bytes8] at this
        omega
    simp only [reachBytes] at a1 a2 a3
    obtain ⟨b1, b2, b3, b4, b5⟩ := hs c hc
    exact ⟨b1, b2, b3, b4, b5, by omega⟩
end Go.Proofs.Ytbabepnoncpdlaa

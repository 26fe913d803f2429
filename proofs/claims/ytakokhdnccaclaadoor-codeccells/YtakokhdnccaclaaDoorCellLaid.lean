/-
  CELLS THAT CAME IN: a slice of cells, opened.
-/
import Derived.Test.YtakokhdnccaclaaDoorCellMany
import Derived.Test.YtakokhdnccaclaaDoorCodLaid
import Derived.Deep.Slices
import Derived.Deep.Strs
namespace Go.Proofs.YtakokhdnccaclaaDoor
open Go.ChangeShapes Go.WideShapes Go.ChangeAt Go.RowKit Go.Deep

section
variable {H : Type} {enc : TypeId × Value → H} {P : Program} {w : World} {base : Nat} {spare : Nat → Bool} {held : Bool}
theorem trod_struct4 {t : TypeId} {f0 f1 f2 f3 : Field} {fuel : Nat} {cs : List Value} {x : DataW H × List MemPlace} (ht : P.underlying t = some (.struct #[f0, f1, f2, f3])) (h : DataW.trod enc P w base spare held fuel t cs = some x) :
    ∃ y0 y1 y2 y3 n, x.1 = .agg [y0.1, y1.1, y2.1, y3.1] ∧ cs.length = P.cellsOf t ∧ DataW.trod enc P w base spare held n f0.type ((cs.drop f0.offset).take (P.cellsOf f0.type)) = some y0 ∧
      DataW.trod enc P w base spare held n f1.type ((cs.drop f1.offset).take (P.cellsOf f1.type)) = some y1 ∧ DataW.trod enc P w base spare held n f2.type ((cs.drop f2.offset).take (P.cellsOf f2.type)) = some y2 ∧
      DataW.trod enc P w base spare held n f3.type ((cs.drop f3.offset).take (P.cellsOf f3.type)) = some y3 := by
  obtain ⟨xs, n, _, rfl, hl, hlen, hf⟩ := DataW.trod_struct ht h
  match xs, hlen with
  | [y0, y1, y2, y3], _ => exact ⟨y0, y1, y2, y3, n, by simp, hl, by simpa using hf 0 f0 rfl, by simpa using hf 1 f1 rfl, by simpa using hf 2 f2 rfl, by simpa using hf 3 f3 rfl⟩
theorem weights_all_mem {e : TypeId} {d : DataW H} : ∀ {l : List (DataW H)}, d ∈ l → ∀ n ∈ d.weights P e, n ∈ DataW.weightsAll P e l
  | [], h, _, _ => by cases h
  | a :: l, h, n, hn => by
    simp only [DataW.weightsAll, List.mem_append]
    rcases List.mem_cons.1 h with rfl | h
    · exact .inl hn
    · exact .inr (weights_all_mem h n hn)
end

theorem cells57 : Tryd.prog.cellsOf 57 = 4 := by kernel_rfl
theorem cells59 : Tryd.prog.cellsOf 59 = 3 := by kernel_rfl
theorem cells61 : Tryd.prog.cellsOf 61 = 6 := by kernel_rfl
theorem cells63 : Tryd.prog.cellsOf 63 = 10 := by kernel_rfl
theorem cellsI : Tryd.prog.cellsOf 3 = 1 := by kernel_rfl
theorem cellsB : Tryd.prog.cellsOf 4 = 1 := by kernel_rfl

def strD {H : Type} (s : ByteArray) : DataW H := .lit (.string s.data.toList)
def intD {H : Type} (n : Int) : DataW H := .lit (.int .i64 n)
def keyD {H : Type} (k : KeyV) : DataW H := .agg [strD k.table, strD k.part, intD k.row, strD k.col]
def valD {H : Type} (k : ValV) : DataW H := .agg [intD k.kind, intD k.num, strD k.s]
def verD {H : Type} (k : VerV) : DataW H := .agg [intD k.time, .lit (.bool k.dead), intD k.loc, valD k.val]
def cellD {H : Type} (c : CellV) : DataW H := .agg [keyD c.key, verD c.ver]

section
variable {H : Type} {enc : TypeId × Value → H} {w : World} {base : Nat} {spare : Nat → Bool} {held : Bool}
theorem key_open {n : Nat} {c0 c1 c2 c3 : Value} {x : DataW H × List MemPlace} (h : DataW.trod enc Tryd.prog w base spare held n 57 [c0, c1, c2, c3] = some x) :
    ∃ k : KeyV, [c0, c1, c2, c3] = (keyA k).toList ∧ k.Ok ∧ x.1 = keyD k := by
  obtain ⟨y0, y1, y2, y3, m, hx, _, h0, h1, h2, h3⟩ := trod_struct4 Tryd.underlying57 h
  simp only [cellsStr, cellsI] at h0 h1 h2 h3
  obtain ⟨s0, e0, rfl, _⟩ := DataW.trod_string Tryd.underlying9 h0
  obtain ⟨s1, e1, rfl, _⟩ := DataW.trod_string Tryd.underlying9 h1
  obtain ⟨s2, e2, rfl, w2⟩ := DataW.trod_int Tryd.underlying3 h2
  obtain ⟨s3, e3, rfl, _⟩ := DataW.trod_string Tryd.underlying9 h3
  simp at e0 e1 e2 e3
  subst e0
  subst e1
  subst e2
  subst e3
  exact ⟨⟨s0, s1, s2, s3⟩, rfl, ⟨bounds_i64 w2⟩, hx⟩
theorem val_open {n : Nat} {c0 c1 c2 : Value} {x : DataW H × List MemPlace} (h : DataW.trod enc Tryd.prog w base spare held n 59 [c0, c1, c2] = some x) :
    ∃ k : ValV, [c0, c1, c2] = (valA k).toList ∧ k.Ok ∧ x.1 = valD k := by
  obtain ⟨y0, y1, y2, m, rfl, _, h0, h1, h2⟩ := trod_struct3 Tryd.underlying59 h
  simp only [cellsStr, cellsI] at h0 h1 h2
  obtain ⟨s0, e0, rfl, w0⟩ := DataW.trod_int Tryd.underlying3 h0
  obtain ⟨s1, e1, rfl, w1⟩ := DataW.trod_int Tryd.underlying3 h1
  obtain ⟨s2, e2, rfl, _⟩ := DataW.trod_string Tryd.underlying9 h2
  simp at e0 e1 e2
  subst e0
  subst e1
  subst e2
  exact ⟨⟨s0, s1, s2⟩, rfl, ⟨bounds_i64 w0, bounds_i64 w1⟩, rfl⟩
theorem ver_open {n : Nat} {c0 c1 c2 c3 c4 c5 : Value} {x : DataW H × List MemPlace} (h : DataW.trod enc Tryd.prog w base spare held n 61 [c0, c1, c2, c3, c4, c5] = some x) :
    ∃ k : VerV, [c0, c1, c2, c3, c4, c5] = (verA k).toList ∧ k.Ok ∧ x.1 = verD k := by
  obtain ⟨y0, y1, y2, y3, m, hx, _, h0, h1, h2, h3⟩ := trod_struct4 Tryd.underlying61 h
  simp only [cellsI, cellsB, cells59] at h0 h1 h2 h3
  obtain ⟨s0, e0, rfl, w0⟩ := DataW.trod_int Tryd.underlying3 h0
  obtain ⟨s1, e1, rfl⟩ := DataW.trod_bool Tryd.underlying4 h1
  obtain ⟨s2, e2, rfl, w2⟩ := DataW.trod_int Tryd.underlying3 h2
  simp at e0 e1 e2
  subst e0
  subst e1
  subst e2
  have h3' : DataW.trod enc Tryd.prog w base spare held m 59 [c3, c4, c5] = some y3 := h3
  obtain ⟨k, ek, ok, dk⟩ := val_open h3'
  obtain ⟨kind, num, s⟩ := k
  simp [valA] at ek
  obtain ⟨rfl, rfl, rfl⟩ := ek
  exact ⟨⟨s0, s1, s2, kind, num, s⟩, rfl, ⟨bounds_i64 w0, bounds_i64 w2, ok⟩, by rw [hx, dk]; rfl⟩
theorem cell_open {n : Nat} {cs : List Value} {x : DataW H × List MemPlace} (h : DataW.trod enc Tryd.prog w base spare held n 63 cs = some x) :
    ∃ c : CellV, cs = (cellA c).toList ∧ c.Ok ∧ x.1 = cellD c := by
  obtain ⟨y0, y1, m, rfl, hl, h0, h1⟩ := trod_struct2 Tryd.underlying63 h
  rw [cells63] at hl
  match cs, hl with
  | [c0, c1, c2, c3, c4, c5, c6, c7, c8, c9], _ =>
    simp only [cells57] at h0
    simp only [cells61] at h1
    obtain ⟨k, ek, ok, dk⟩ := key_open (n := m) (c0 := c0) (c1 := c1) (c2 := c2) (c3 := c3) (x := y0) h0
    obtain ⟨v, ev, ov, dv⟩ := ver_open (n := m) (c0 := c4) (c1 := c5) (c2 := c6) (c3 := c7) (c4 := c8) (c5 := c9) (x := y1) h1
    obtain ⟨table, part, row, col⟩ := k
    obtain ⟨time, dead, loc, kind, num, s⟩ := v
    simp [keyA] at ek
    simp [verA] at ev
    obtain ⟨rfl, rfl, rfl, rfl⟩ := ek
    obtain ⟨rfl, rfl, rfl, rfl, rfl, rfl⟩ := ev
    exact ⟨⟨⟨table, part, row, col⟩, ⟨time, dead, loc, kind, num, s⟩⟩, rfl, ⟨ok, ov⟩, by rw [dk, dv]; rfl⟩
end

def noCell : CellV := ⟨⟨⟨#[]⟩, ⟨#[]⟩, 0, ⟨#[]⟩⟩, ⟨0, false, 0, noVal⟩⟩

/-- Cells that came in. -/
theorem cells_open {H : Type} {enc : TypeId × Value → H} {W : World} {ao : Option Addr} {len cap : Nat} {d : DataW H} {p : List MemPlace}
    (h : DataW.Trod enc Tryd.prog W 0 (fun _ => true) true 47 (Value.slice ao len cap) d p) :
    ∃ l : List CellV, l.length = len ∧ CSees W ao l ∧ (∀ c ∈ l, c.Ok) ∧ (l.length = 0 ∨ ∃ sp, d = .slice (l.map cellD) sp) := by
  obtain ⟨fuel, hf⟩ := h
  rcases open_slice Tryd.underlying47 hf with ⟨hcs, _⟩ | ⟨a, n, c, m, k, D, Pl, hcs, _, hle, _, hm, hx, hc⟩
  · simp [Value.cells] at hcs
    obtain ⟨rfl, rfl, rfl⟩ := hcs
    exact ⟨[], rfl, (fun i c hc => by simp at hc), (fun c hc => by cases hc), .inl rfl⟩
  · simp [Value.cells] at hcs
    obtain ⟨rfl, rfl, rfl⟩ := hcs
    simp only [if_true] at hm
    subst hm
    rw [cells63] at hc
    haveI : Inhabited CellV := ⟨noCell⟩
    obtain ⟨C, hC⟩ := choose_lt (α := CellV) (n := len) (p := fun i c => W.cells? 0 (a.add (i * 10)) 10 = some (cellA c).toList ∧ c.Ok ∧ D i = cellD c) (fun i hi => by
      obtain ⟨cs', h1, h2⟩ := hc i (by omega)
      obtain ⟨c, rfl, h3, h4⟩ := cell_open h2
      exact ⟨c, h1, h3, h4⟩)
    have hD : (List.range len).map D = ((List.range len).map C).map cellD := by
      rw [List.map_map]
      exact List.map_congr_left fun i hi => (hC i (List.mem_range.1 hi)).2.2
    have hd := congrArg Prod.fst hx
    simp only [hD] at hd
    refine ⟨(List.range len).map C, by simp, ?_, ?_, .inr ⟨_, hd⟩⟩
    · intro i c hi
      have hlt : i < len := by
        have := (List.getElem?_eq_some_iff.1 hi).1
        simpa using this
      simp [hlt] at hi
      subst hi
      obtain ⟨_, _, h3⟩ := World.cells?_some (hC i hlt).1
      obtain ⟨_, _, h30⟩ := World.cells?_some (hC 0 (by omega)).1
      have hz := h30 0 (by omega)
      obtain ⟨b, off, spot⟩ := a
      have hspot : spot = none := by
        have := World.cell?_spot (hz.trans (by rfl : (cellA (C 0)).toList[0]? = some (.string (C 0).key.table)))
        simpa [Addr.add] using this
      subst hspot
      refine ⟨b, off, rfl, fun j v hv => ?_⟩
      have hj : j < 10 := (List.getElem?_eq_some_iff.1 hv).1
      have := h3 j hj
      rw [Addr.add_lit, Addr.add_lit, hv] at this
      exact this
    · intro c hc
      obtain ⟨i, hi, rfl⟩ := List.mem_map.1 hc
      exact (hC i (List.mem_range.1 hi)).2.1

theorem bytes63 : Tryd.prog.bytesOf 63 = 112 := by kernel_rfl
theorem cellD_weights {H : Type} (c : CellV) : (cellD (H := H) c).weights Tryd.prog 63 = [c.key.table.size, c.key.part.size, c.key.col.size, c.ver.val.s.size] := by
  unfold cellD keyD verD valD strD intD
  simp [DataW.weights, DataW.weightsEach, Tryd.underlying63, Tryd.underlying57, Tryd.underlying61, Tryd.underlying59]
theorem cells_reach {H : Type} {ts : List TypeId} {ds : List (DataW H)} {j : Nat} {d : DataW H} {l : List CellV} (h : (DataW.weightsEach Tryd.prog ts ds).all (· ≤ reachBytes) = true) (ht : ts[j]? = some 47) (hd : ds[j]? = some d)
    (hn : l.length = 0 ∨ ∃ sp, d = .slice (l.map cellD) sp) : l.length ≤ 140737488355328 ∧ ∀ c ∈ l, wtC c ≤ 562949953421312 := by
  rcases hn with h0 | ⟨sp, rfl⟩
  · obtain rfl : l = [] := List.eq_nil_of_length_eq_zero h0
    exact ⟨by simp, fun c hc => by cases hc⟩
  · have h1 := sized_slice h ht hd Tryd.underlying47
    rw [bytes63] at h1
    simp only [reachBytes, List.length_map] at h1
    refine ⟨by omega, fun c hc => ?_⟩
    have hw : ∀ n ∈ (cellD (H := H) c).weights Tryd.prog 63, n ≤ reachBytes := fun n hn => by
      have := List.all_eq_true.1 h n (DataW.weights_mem_each ht hd n (by
        simp only [DataW.weights, Tryd.underlying47, List.mem_cons, List.mem_append]
        exact .inr (.inl (weights_all_mem (List.mem_map_of_mem hc) n hn))))
      simpa using this
    rw [cellD_weights] at hw
    have a0 := hw c.key.table.size (by simp)
    have a1 := hw c.key.part.size (by simp)
    have a2 := hw c.key.col.size (by simp)
    have a3 := hw c.ver.val.s.size (by simp)
    simp only [reachBytes] at a0 a1 a2 a3
    unfold wtC
    omega
end Go.Proofs.YtakokhdnccaclaaDoor

/-
  LISTS OF CELLS IN A LIST that came in, and what the bound gives of them.
-/
import Derived.Test.YtdpglmgnbhpneaaMrgBulk
import Derived.Test.YtdpglmgnbhpneaaMrgLow
import Derived.Deep.Slices
import Derived.Lib.SmallJoins
namespace Go.Proofs.Ytdpglmgnbhpneaa
open Go.ChangeShapes Go.WideShapes Go.ChangeAt Go.RowKit Go.Deep Go.Joins

theorem cellsListC : Try.prog.cellsOf 25 = 1 := by kernel_rfl
def LvD {H : Type} (q : Lv × DataW H) : Prop := q.1.l.length = 0 ∨ ∃ sp, q.2 = .slice (q.1.l.map cxD) sp
theorem lists_came {H : Type} {enc : TypeId × Value → H} {W : World} {ao : Option Addr} {len cap : Nat} {d : DataW H} {p : List MemPlace}
    (h : DataW.Trod enc Try.prog W 0 (fun _ => true) true 22 (Value.slice ao len cap) d p) :
    ∃ vs : List Lv, vs.length = len ∧ LSees W ao vs ∧ (∀ v ∈ vs, XSees W v.ao v.l) ∧ (vs.length = 0 ∨ ∃ (P : List (Lv × DataW H)) (sp : List (DataW H)), P.map Prod.fst = vs ∧ d = .slice (P.map Prod.snd) sp ∧ ∀ q ∈ P, LvD q) := by
  obtain ⟨fuel, hf⟩ := h
  rcases open_slice1 Try.underlying22 cellsListC hf with ⟨hcs, _⟩ | ⟨a, n, c, m, k, V, D, Pl, hcs, _, hle, _, hm, hx, hc⟩
  · simp [Value.cells] at hcs
    obtain ⟨rfl, rfl, rfl⟩ := hcs
    exact ⟨[], rfl, (fun i c hc => by simp at hc), (fun q hq => by cases hq), .inl rfl⟩
  · simp [Value.cells] at hcs
    obtain ⟨rfl, rfl, rfl⟩ := hcs
    simp only [if_true] at hm
    subst hm
    haveI : Inhabited Lv := ⟨⟨none, 0, []⟩⟩
    obtain ⟨C, hC⟩ := choose_lt (α := Lv) (n := len) (p := fun i q => W.cell? (a.add i) = some q.s ∧ XSees W q.ao q.l ∧ LvD (q, D i)) (fun i hi => by
      obtain ⟨h1, h2⟩ := hc i (by omega)
      obtain ⟨a', l', c', e⟩ := slice_form Try.underlying25 h2
      have e' : V i = .slice a' l' c' := by simpa using e
      rw [e'] at h1 h2
      have h2' : DataW.trod enc Try.prog W 0 (fun _ => true) true k 25 (Value.slice a' l' c').cells.toList = some (D i, Pl i) := h2
      obtain ⟨l, rfl, hs, _, _, hd⟩ := cells_came ⟨k, h2'⟩
      exact ⟨⟨a', c', l⟩, h1, hs, hd⟩)
    have hd := congrArg Prod.fst hx
    simp only at hd
    refine ⟨(List.range len).map C, by simp, ?_, fun q hq => ?_, .inr ⟨(List.range len).map fun i => (C i, D i), _, by rw [List.map_map]; rfl, by rw [List.map_map]; exact hd, fun q hq => ?_⟩⟩
    · intro i q hi
      have hlt : i < len := by
        have := (List.getElem?_eq_some_iff.1 hi).1
        simpa using this
      simp [hlt] at hi
      subst hi
      obtain ⟨h1, h2, h3⟩ := hC i hlt
      obtain ⟨b, off, spot⟩ := a
      have hspot : spot = none := by
        have := World.cell?_spot (hC 0 (by omega)).1
        simpa [Addr.add] using this
      subst hspot
      rw [Addr.add_lit] at h1
      exact ⟨b, off, rfl, h1⟩
    · obtain ⟨i, hi, rfl⟩ := List.mem_map.1 hq
      exact (hC i (List.mem_range.1 hi)).2.1
    · obtain ⟨i, hi, rfl⟩ := List.mem_map.1 hq
      exact (hC i (List.mem_range.1 hi)).2.2
theorem bulk_pos {H : Type} (d : DataW H) : 1 ≤ Rows.uptoBulk d := by
  cases d with
  | lit x => cases x <;> simp [Rows.uptoBulk]
  | _ => simp [Rows.uptoBulk]
/-- What the bound gives of lists in a list. -/
structure SmallLs (vs : List Lv) : Prop where
  n : vs.length ≤ 1048576
  each : ∀ v ∈ vs, v.l.length ≤ 100000 ∧ ∀ c ∈ v.l, wtX c ≤ 562949953421312
  tot : (vs.map Lv.l).flatten.length ≤ 110000
theorem bulk_rows {H : Type} (P : List (Lv × DataW H)) (B : Nat) (hB : B ≤ 1048576) (hb : Rows.uptoBulkAll (P.map Prod.snd) ≤ B) (hP : ∀ q ∈ P, LvD q) :
    P.length + 10 * ((P.map Prod.fst).map Lv.l).flatten.length ≤ B ∧ ∀ v ∈ P.map Prod.fst, v.l.length ≤ 100000 ∧ ∀ c ∈ v.l, wtX c ≤ 562949953421312 := by
  induction P generalizing B with
  | nil => exact ⟨by simp, fun v hv => by cases hv⟩
  | cons q P ih =>
    simp only [List.map_cons, Rows.uptoBulkAll] at hb
    have hp := bulk_pos q.2
    have h1 := bulk_list (B := Rows.uptoBulk q.2) (Nat.le_refl _) (by omega) (hP q (by simp))
    have h2 := ih (B - Rows.uptoBulk q.2) (by omega) (by omega) (fun x hx => hP x (by simp [hx]))
    constructor
    · simp only [List.map_cons, List.flatten_cons, List.length_append, List.length_cons]
      have := h2.1
      have := h1.1
      by_cases hz : q.1.l.length = 0 <;> omega
    · intro v hv
      rcases List.mem_cons.1 hv with e | e
      · subst e; exact ⟨by have := h1.1; omega, h1.2⟩
      · exact h2.2 v e
theorem bulk_lists {H : Type} {d : DataW H} {ds : List (DataW H)} {vs : List Lv} (hk : Rows.uptoSmall H ds = true) (hd : d ∈ ds) (h : vs.length = 0 ∨ ∃ (P : List (Lv × DataW H)) (sp : List (DataW H)), P.map Prod.fst = vs ∧ d = .slice (P.map Prod.snd) sp ∧ ∀ q ∈ P, LvD q) : SmallLs vs := by
  rcases h with h0 | ⟨P, sp, rfl, rfl, hP⟩
  · obtain rfl : vs = [] := List.eq_nil_of_length_eq_zero h0
    exact ⟨by simp, fun v hv => (by cases hv), by simp⟩
  · have h1 := bulk_bound hk
    have h2 := bulk_part hd
    simp only [Rows.uptoBulk] at h2
    have h3 := bulk_rows P 1048576 (Nat.le_refl _) (by omega) hP
    exact ⟨by have := h3.1; rw [List.length_map]; omega, h3.2, by have := h3.1; omega⟩
end Go.Proofs.Ytdpglmgnbhpneaa

/-
  PLAIN: rings with as many copies as nodes, and with one.
-/
import Derived.Test.YtcnceipkoapcpaaDoorRngAsk
namespace Go.Proofs.YtcnceipkoapcpaaDoor

/-- With as many copies as nodes each node is a replica of each range. -/
theorem reps_full {l : List Pt} {N i : Nat} (ok : RgOk l N N) (hi : i < l.length) {m : Nat} (h1 : 1 ≤ m) (h2 : m ≤ N) : m ∈ repsP l N i := by
  have hl := reps_len ok hi
  have hn : (repsP l N i).Nodup := repS_nodup l N i _
  have hnd := repS_nd ok (i := i) l.length
  by_cases hm : m ∈ repsP l N i
  · exact hm
  · exfalso
    have h3 : ∀ x ∈ m :: repsP l N i, x ∈ List.range' 1 N := fun x hx => by
      rw [List.mem_range'_1]
      rcases List.mem_cons.1 hx with rfl | hx
      · omega
      · have := hnd x hx; omega
    have h4 := nodup_len (List.nodup_cons.2 ⟨hm, hn⟩) h3
    rw [List.length_range', List.length_cons, hl] at h4
    omega
/-- With one copy a range is its point's node's alone. -/
theorem reps_one {l : List Pt} {N i : Nat} (ok : RgOk l N 1) (hi : i < l.length) : repsP l 1 i = [ndAt l i] := by
  have hl := reps_len ok hi
  have hh := reps_head ok hi
  match h : repsP l 1 i, hl, hh with
  | [x], _, hh => simp at hh; rw [hh]
theorem ranges_full {l : List Pt} {N : Nat} (ok : RgOk l N N) {m : Nat} (h1 : 1 ≤ m) (h2 : m ≤ N) : (rangesP l N m).length = l.length := by
  unfold rangesP
  rw [List.filter_eq_self.2 (fun i hi => decide_eq_true (reps_full ok (List.mem_range.1 hi) h1 h2)), List.length_range]
/-- How many points a node has. -/
theorem nd_countN (f : Nat → Nat → Int) (t m n : Nat) : ((rawN f t n).filter fun p => decide (p.nd = m)).length = if n = m then t else 0 := by
  unfold rawN
  rw [List.filter_map]
  by_cases h : n = m
  · subst h
    rw [if_pos rfl, List.length_map, List.filter_eq_self.2 (fun i _ => by simp), List.length_range]
  · rw [if_neg h, List.length_map, List.filter_eq_nil_iff.2 (fun i _ => by simp [h])]
    rfl
theorem nd_count (f : Nat → Nat → Int) (t m : Nat) : ∀ n, ((rawP f t n).filter fun p => decide (p.nd = m)).length = if 1 ≤ m ∧ m ≤ n then t else 0
  | 0 => by
    have : ¬ (1 ≤ m ∧ m ≤ 0) := by omega
    rw [if_neg this]; rfl
  | n + 1 => by
    rw [rawP, List.filter_append, List.length_append, nd_count f t m n, nd_countN]
    by_cases h1 : n + 1 = m
    · have h2 : ¬ (1 ≤ m ∧ m ≤ n) := by omega
      have h3 : 1 ≤ m ∧ m ≤ n + 1 := by omega
      rw [if_pos h1, if_neg h2, if_pos h3, Nat.zero_add]
    · by_cases h2 : 1 ≤ m ∧ m ≤ n
      · have h3 : 1 ≤ m ∧ m ≤ n + 1 := by omega
        rw [if_neg h1, if_pos h2, if_pos h3, Nat.add_zero]
      · have h3 : ¬ (1 ≤ m ∧ m ≤ n + 1) := by omega
        rw [if_neg h1, if_neg h2, if_neg h3]
theorem range_filter (l : List Pt) (m : Nat) : ((List.range l.length).filter fun i => decide (ndAt l i = m)).length = (l.filter fun p => decide (p.nd = m)).length := by
  induction l with
  | nil => rfl
  | cons p l ih =>
    rw [List.length_cons, List.range_succ_eq_map, List.filter_cons, List.filter_cons, List.filter_map]
    have e0 : ndAt (p :: l) 0 = p.nd := rfl
    have e1 : (fun i => decide (ndAt (p :: l) i = m)) ∘ Nat.succ = fun i => decide (ndAt l i = m) := by
      funext i
      show decide (ndAt (p :: l) (i + 1) = m) = _
      rfl
    rw [e0, e1]
    by_cases h : p.nd = m
    · simp only [h, decide_true, if_true, List.length_cons, List.length_map, ih]
    · simp only [h, decide_false, Bool.false_eq_true, if_false, List.length_map, ih]
theorem ranges_one (f : Nat → Nat → Int) {N t m : Nat} (ok : RgOk (ptsP f N t) N 1) (h1 : 1 ≤ m) (h2 : m ≤ N) : (rangesP (ptsP f N t) 1 m).length = t := by
  have e : rangesP (ptsP f N t) 1 m = (List.range (ptsP f N t).length).filter fun i => decide (ndAt (ptsP f N t) i = m) := by
    unfold rangesP
    refine List.filter_congr fun i hi => ?_
    rw [reps_one ok (List.mem_range.1 hi)]
    simp only [List.mem_singleton]
    exact decide_eq_decide.2 ⟨fun h => h.symm, fun h => h.symm⟩
  have hp := ((srtP_perm (rawP f t N)).filter (fun p => decide (p.nd = m))).length_eq
  rw [e, range_filter]
  exact (hp.trans (nd_count f t m N)).trans (if_pos ⟨h1, h2⟩)
end Go.Proofs.YtcnceipkoapcpaaDoor

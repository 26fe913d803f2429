/-
  SEVERAL TEXTS IN ONE: DskRefN, DskTieA, DskTieC, DskRefS, ManLaid.
-/
import Derived.Test.YtgkdodcidancpaaGreatDoorDskRefA
import Derived.Test.YtgkdodcidancpaaGreatDoorMany28
import Derived.Test.YtgkdodcidancpaaGreatDoorMany29
import Derived.Test.YtgkdodcidancpaaGreatDoorMany6
import Derived.Test.YtgkdodcidancpaaGreatDoorMany8
import Derived.Deep.Strs
namespace Go.Proofs.YtgkdodcidancpaaGreatDoor
open Go.RowKit Go.Maps Go.WideAt Go.WideShapes
attribute [local go_sem] Oper.pureAt Oper.pureUpon
attribute [local irreducible] wpQuiet

/-- A place of the line is stored anew. -/
theorem RefAt.putLine {w : World} {r : Nat} {R : RM} (h : RefAt w r R) {i : Nat} {p : List UInt8 × Nat} (hi : R.line[i]? = some p) {g c : Nat} (hv : R.vN = .slice (some ⟨g, 0, none⟩) R.line.length c) (j : Nat) (hj : j < 2) (v : Value) (p' : List UInt8 × Nat) (hc : plC p' = (plC p).set j v) :
    RefAt (w.setCell ⟨g, i * 2 + j, none⟩ v) r { R with line := R.line.set i p' } ∧ Moved w (w.setCell ⟨g, i * 2 + j, none⟩ v) (R.foot r) (R.foot r) := by
  have hgo : R.vN.ownBlock = some g := by rw [hv]; rfl
  have hk : ∀ k, k ≠ g → (w.setCell ⟨g, i * 2 + j, none⟩ v).heap[k]? = w.heap[k]? := fun k hk => Below.heap_setCell _ _ _ _ hk
  have hrow := h.rowN
  rw [hv] at hrow
  have st := (hrow.stored (i * 2 + j) v).1
  rw [flat_set plC_len R.line i j p p' v hi hj hc] at st
  refine ⟨⟨h.head.carry (hk r fun e => h.ne2 (by rw [hgo, e])), owns_carry h.rowL fun k hkk => hk k (fun e => h.ne3 k hkk (by rw [hgo, e])), ?_, fun x hx => (h.sees x hx).kept fun a ha _ => hk _ fun e => (h.apart x hx a.block (by simp [RF.blk, ha])).2.2 (by rw [hgo, e]), h.zero, fun x hx k hkb => by rw [size_setCell]; exact h.blt x hx k hkb, h.apart, h.ne1, h.ne2, h.ne3⟩, ?_⟩
  · show (w.setCell ⟨g, i * 2 + j, none⟩ v).ownsRow 0 109 2 R.vN (R.line.set i p').length ((R.line.set i p').flatMap plC)
    rw [List.length_set, hv]
    exact st
  · exact (Moved.of_set g _ v).wider (fun k hk => .inl (by simp at hk; rw [hk]; exact foot_iff.2 (.inr (.inr (.inl hgo))))) (fun k hk => .inl hk)
/-- A place under another name. -/
def renP (a b : List UInt8) (p : List UInt8 × Nat) : List UInt8 × Nat := if p.1 = a then (b, p.2) else p
def renTo (a b : List UInt8) (l : List (List UInt8 × Nat)) (k : Nat) : List (List UInt8 × Nat) := (l.take k).map (renP a b) ++ l.drop k
theorem renTo_len (a b : List UInt8) (l : List (List UInt8 × Nat)) (k : Nat) : (renTo a b l k).length = l.length := by simp [renTo]; omega
theorem renTo_at (a b : List UInt8) (l : List (List UInt8 × Nat)) {k : Nat} (h : k < l.length) : (renTo a b l k)[k]? = some l[k] := by
  unfold renTo
  rw [List.getElem?_append_right (by simp; omega)]
  simp [Nat.min_eq_left (Nat.le_of_lt h), h]
theorem renTo_step (a b : List UInt8) (l : List (List UInt8 × Nat)) {k : Nat} (h : k < l.length) : renTo a b l (k + 1) = (renTo a b l k).set k (renP a b l[k]) := by
  unfold renTo
  have e : ((l.take k).map (renP a b)).length = k := by rw [List.length_map, List.length_take]; omega
  rw [take_succ_ref h, List.map_append, List.drop_eq_getElem_cons h, List.set_append_right _ _ (by omega), e, Nat.sub_self, List.set_cons_zero, List.append_assoc]
  rfl
theorem renTo_zero (a b : List UInt8) (l : List (List UInt8 × Nat)) : renTo a b l 0 = l := by simp [renTo]
theorem renTo_all (a b : List UInt8) (l : List (List UInt8 × Nat)) : renTo a b l l.length = l.map (renP a b) := by simp [renTo]
theorem set_at_same {α : Type} {l : List α} {k : Nat} {x : α} (h : l[k]? = some x) : l.set k x = l := by
  apply List.ext_getElem?
  intro j
  by_cases e : k = j
  · subst e
    rw [List.getElem?_set_self (List.getElem?_eq_some_iff.1 h).1, h]
  · rw [List.getElem?_set_ne e]
/-- The disk with a file under another name. -/
def renQ (Q : RA) (a b : List UInt8) (t : Sig) : RA := { turnQ Q with L := insT ⟨b, t.bs, t.wr, t.pl⟩ (dropT (dropT Q.L b) a), line := (Q.line.filter (fun p => !(p.1 == b))).map (renP a b) }
def renameQ (Q : RA) (s u : ByteArray) : Int × RA :=
  if Q.off then (9, Q) else if goodB (nameOf s) && goodB (nameOf u) then
    match findT Q.L (nameOf s) with
    | none => (4, Q)
    | some t => if Q.fail = 1 then (9, crashQ (turnQ Q) Q.keep) else if s = u then (0, turnQ Q) else (0, renQ Q (nameOf s) (nameOf u) t)
  else (3, Q)
/-- The last part: the line's names, in place. -/
theorem src_places {w : World} {base : Nat} {v : Value} {l : List (List UInt8 × Nat)} (hr : w.ownsRow base 109 2 v l.length (l.flatMap plC)) : Src Tryz.prog 2 48 v l.length (l.flatMap plC) w := by
  rcases hr.2 with ⟨e, e2⟩ | ⟨g, cap, cur, e, _⟩
  · have h0 : l = [] := List.eq_nil_of_length_eq_zero e2
    rw [e, h0]
    exact Src.ofNil w Tryz.underlying48 0
  · rw [e]
    exact Src.ofSlice w Tryz.underlying48 _ _ _ _ hr.1 (hr.cells (g := g) (by rw [e]; rfl)) (flat_one plC_one _)
theorem rowPl (w : World) : (w.alloc (.cells #[] 109)).ownsRow w.heap.size 109 2 (.slice (some ⟨w.heap.size, 0, none⟩) 0 0) 0 [] :=
  ⟨rfl, .inr ⟨w.heap.size, 0, #[], rfl, Nat.le_refl _, heap_alloc_new w _, Nat.le_refl _, by unfold maxLen; omega, rfl, rfl⟩⟩
end Go.Proofs.YtgkdodcidancpaaGreatDoor
namespace Go.Proofs.YtgkdodcidancpaaGreatDoor
open Go.RowKit Go.Maps Go.WideAt Go.WideShapes

theorem dirty_iff (line : List (List UInt8 × Nat)) (nm : List UInt8) (j : Nat) : dirtyB line nm j = true ↔ (nm, j) ∈ line := by
  unfold dirtyB
  rw [List.any_eq_true]
  constructor
  · rintro ⟨⟨a, b⟩, h1, h2⟩
    simp only [Bool.and_eq_true, beq_iff_eq] at h2
    obtain ⟨rfl, rfl⟩ := h2
    exact h1
  · intro h
    exact ⟨_, h, by simp⟩
theorem secs_step {wr b : Nat} (h : wr ≤ b) : (secs wr (b + 1) = secs wr b ∧ b / 16 < wr / 16 + secs wr b ∧ wr / 16 ≤ b / 16) ∨ (secs wr (b + 1) = secs wr b + 1 ∧ b / 16 = wr / 16 + secs wr b) := by
  unfold secs
  rw [if_neg (show ¬ wr = b + 1 by omega)]
  by_cases e : wr = b
  · rw [if_pos e]; omega
  · rw [if_neg e]; omega
theorem secs_mono {wr a : Nat} (h : wr ≤ a) (n : Nat) : secs wr a ≤ secs wr (a + n) := by
  unfold secs
  by_cases e : wr = a
  · rw [if_pos e]; omega
  · rw [if_neg e, if_neg (by omega)]; omega
theorem addTo_eq {line : List (List UInt8 × Nat)} {nm : List UInt8} {wr old : Nat} (hwr : wr ≤ old) (hl : ∀ j, (nm, j) ∈ line ↔ (wr / 16 ≤ j ∧ j < wr / 16 + secs wr old)) :
    ∀ n, addTo line nm old n = line ++ (List.range (secs wr (old + n) - secs wr old)).map (fun i => (nm, wr / 16 + (secs wr old + i)))
  | 0 => by simp [addTo_zero]
  | n + 1 => by
    have ih := addTo_eq hwr hl n
    have hm := secs_mono hwr n
    have hmem : (nm, (old + n) / 16) ∈ addTo line nm old n ↔ (wr / 16 ≤ (old + n) / 16 ∧ (old + n) / 16 < wr / 16 + secs wr (old + n)) := by
      rw [ih, List.mem_append, hl, List.mem_map]
      constructor
      · rintro (h | ⟨i, hi, e⟩)
        · omega
        · have := List.mem_range.1 hi
          have e2 := (Prod.mk.inj e).2
          omega
      · intro h
        by_cases hc : (old + n) / 16 < wr / 16 + secs wr old
        · exact .inl ⟨h.1, hc⟩
        · exact .inr ⟨(old + n) / 16 - wr / 16 - secs wr old, List.mem_range.2 (by omega), by rw [Prod.mk.injEq]; exact ⟨rfl, by omega⟩⟩
    rw [addTo_step]
    unfold addN
    rcases secs_step (show wr ≤ old + n by omega) with ⟨e1, e2, e3⟩ | ⟨e1, e2⟩
    · rw [if_pos ((dirty_iff _ _ _).2 (hmem.2 ⟨e3, e2⟩)), ih]
      rw [show old + (n + 1) = old + n + 1 by omega, e1]
    · rw [if_neg (fun hh => by have := hmem.1 ((dirty_iff _ _ _).1 hh); omega), ih]
      rw [show old + (n + 1) = old + n + 1 by omega, e1, show secs wr (old + n) + 1 - secs wr old = secs wr (old + n) - secs wr old + 1 by omega, List.range_succ, List.map_append, List.append_assoc]
      congr 2
      simp only [List.map_cons, List.map_nil]
      congr 2
      omega
theorem mem_lnF {t : Sig} {nm : List UInt8} {j : Nat} (hn : t.nm = nm) : (∃ p, (p, (nm, j)) ∈ lnF t) ↔ (t.wr / 16 ≤ j ∧ j < t.wr / 16 + t.pl.length) := by
  unfold lnF
  constructor
  · rintro ⟨p, h⟩
    obtain ⟨⟨q, i⟩, h1, h2⟩ := List.mem_map.1 h
    have h3 := List.mem_zipIdx h1
    simp only [Prod.mk.injEq] at h2
    omega
  · rintro ⟨h1, h2⟩
    have hi : j - t.wr / 16 < t.pl.length := by omega
    refine ⟨t.pl[j - t.wr / 16], List.mem_map.2 ⟨(t.pl[j - t.wr / 16], j - t.wr / 16), ?_, ?_⟩⟩
    · rw [List.mem_zipIdx_iff_getElem?]
      exact List.getElem?_eq_getElem hi
    · simp only [Prod.mk.injEq]
      exact ⟨trivial, hn, by omega⟩
theorem grow_secs {t : Sig} (h : t.pl.length = secs t.wr t.bs.length) (hw : t.wr ≤ t.bs.length) (l : List UInt8) : growT t l = secs t.wr (t.bs.length + l.length) - secs t.wr t.bs.length := by
  unfold growT
  by_cases e : l = []
  · rw [if_pos e, e]
    simp
  · have hl : 0 < l.length := List.length_pos_iff.2 e
    rw [if_neg e]
    unfold growN
    rw [h]
    have : secs t.wr (t.bs.length + l.length) = (t.bs.length + l.length + 15) / 16 - t.wr / 16 := by
      unfold secs
      rw [if_neg (by omega)]
    rw [this]
theorem Tie.append {A : Ab} {Q : RA} (h : Tie A Q) {nm : List UInt8} {t : Sig} (ht : findT A.sp nm = some t) (l : List UInt8) : Tie (appT A nm t l) (appQ Q nm (strip t) l) := by
  obtain ⟨M, h1, h2, h3⟩ := h.line
  obtain ⟨a, b, hab, hn, ha, hb⟩ := find_split h.ne ht
  have htm : t ∈ A.sp := (findT_mem ht).1
  have hp := h.pls t htm
  have hw := h.wr t htm
  have hg := grow_secs hp hw l
  have hgm := secs_mono hw l.length
  have hsp : (appT A nm t l).sp = a ++ ⟨nm, t.bs ++ l, t.wr, t.pl ++ List.range' A.next (growT t l)⟩ :: b := by
    show upd A.sp nm _ = _
    rw [hab, upd_split hn ha hb]
  have hmem : ∀ x ∈ (appT A nm t l).sp, x = ⟨nm, t.bs ++ l, t.wr, t.pl ++ List.range' A.next (growT t l)⟩ ∨ x ∈ A.sp := fun x hx => mem_upd hx
  have hfst : ∀ x ∈ M, x.1 < A.next := fun x hx => by
    have h5 := h3.mem_iff.1 hx
    obtain ⟨t', ht', h6⟩ := List.mem_flatMap.1 h5
    have : x.1 ∈ (lnF t').map (·.1) := List.mem_map.2 ⟨x, h6, rfl⟩
    rw [lnF_fst] at this
    exact h.ahead t' ht' _ this
  have hline : ∀ j, (nm, j) ∈ Q.line ↔ (t.wr / 16 ≤ j ∧ j < t.wr / 16 + secs t.wr t.bs.length) := fun j => by
    rw [← hp, ← mem_lnF hn, ← h2, List.mem_map]
    constructor
    · rintro ⟨⟨p, q⟩, hx, e⟩
      simp only at e
      subst e
      have h5 := h3.mem_iff.1 hx
      rw [hab, lnOf_app, lnOf_cons] at h5
      refine ⟨p, ?_⟩
      rcases List.mem_append.1 h5 with h6 | h6
      · obtain ⟨t', ht', h7⟩ := List.mem_flatMap.1 h6
        exact absurd (lnF_name h7).symm (ha t' ht')
      · rcases List.mem_append.1 h6 with h7 | h7
        · exact h7
        · obtain ⟨t', ht', h8⟩ := List.mem_flatMap.1 h7
          exact absurd (lnF_name h8).symm (hb t' ht')
    · rintro ⟨p, hx⟩
      refine ⟨(p, (nm, j)), h3.mem_iff.2 ?_, rfl⟩
      rw [hab, lnOf_app, lnOf_cons]
      exact List.mem_append.2 (.inr (List.mem_append.2 (.inl hx)))
  refine ⟨?_, h.room, by show Q.ops + 1 = _; rw [h.ops]; rfl, fun hon => by show Q.fail - 1 = _; rw [h.fail hon]; rfl, h.keep, h.off, ⟨M ++ (List.range (growT t l)).map (fun i => (A.next + i, (nm, t.wr / 16 + (t.pl.length + i)))), ?_, ?_, ?_⟩, ?_, fun x hx => ?_, fun x hx => ?_, fun x hx => ?_, fun x hx => ?_⟩
  · show upd Q.L nm ⟨nm, t.bs ++ l, t.wr, []⟩ = (upd A.sp nm _).map strip
    rw [strip_upd, ← h.L]
    rfl
  · rw [List.pairwise_append]
    refine ⟨h1, ?_, fun x hx y hy => ?_⟩
    · rw [List.pairwise_map]
      exact List.pairwise_lt_range.imp fun h => by simp only; omega
    · obtain ⟨i, _, rfl⟩ := List.mem_map.1 hy
      have := hfst x hx
      simp only
      omega
  · show _ = addTo Q.line nm t.bs.length l.length
    rw [addTo_eq hw hline, List.map_append, h2, List.map_map, hg, hp]
    rfl
  · rw [hsp, lnOf_app, lnOf_cons, lnF_app nm t.bs (t.bs ++ l)]
    have e1 : lnF ⟨nm, t.bs, t.wr, t.pl⟩ = lnF t := by unfold lnF; simp only [hn]
    rw [e1]
    rw [hab, lnOf_app, lnOf_cons] at h3
    refine (h3.append_right _).trans ?_
    rw [List.append_assoc, List.append_assoc, List.append_assoc]
    refine List.Perm.append_left _ (List.Perm.append_left _ ?_)
    exact List.perm_append_comm
  · rw [hsp]
    have := h.sorted
    rw [hab] at this
    exact sorted_split (t' := ⟨nm, t.bs ++ l, t.wr, t.pl ++ List.range' A.next (growT t l)⟩) hn.symm this
  · rcases hmem x hx with rfl | h5
    · simp only [List.length_append, List.length_range']
      rw [hg, hp]
      omega
    · exact h.pls x h5
  · rcases hmem x hx with rfl | h5
    · simp only [List.length_append]
      omega
    · exact h.wr x h5
  · intro p hpp
    show p < A.next + growT t l
    rcases hmem x hx with rfl | h5
    · rcases List.mem_append.1 hpp with h6 | h6
      · have := h.ahead t htm p h6; omega
      · have := List.mem_range'_1.1 h6; omega
    · have := h.ahead x h5 p hpp; omega
  · rcases hmem x hx with rfl | h5
    · simp only
      rw [List.pairwise_append]
      refine ⟨h.rise t htm, List.pairwise_lt_range', fun p hpp q hq => ?_⟩
      have h6 := h.ahead t htm p hpp
      have := List.mem_range'_1.1 hq
      omega
    · exact h.rise x h5
end Go.Proofs.YtgkdodcidancpaaGreatDoor
namespace Go.Proofs.YtgkdodcidancpaaGreatDoor
open Go.RowKit Go.Maps Go.WideAt Go.WideShapes

theorem drop_comm (L : List Sig) (a b : List UInt8) : dropT (dropT L a) b = dropT (dropT L b) a := by
  unfold dropT
  rw [List.filter_filter, List.filter_filter]
  congr 1
  funext x
  exact Bool.and_comm _ _
theorem drop_split {a b : List Sig} {t : Sig} {nm : List UInt8} (h1 : t.nm = nm) (h2 : ∀ x ∈ a, x.nm ≠ nm) (h3 : ∀ x ∈ b, x.nm ≠ nm) : dropT (a ++ t :: b) nm = a ++ b := by
  have e : ∀ l : List Sig, (∀ x ∈ l, x.nm ≠ nm) → l.filter (fun x => !(x.nm == nm)) = l := fun l hl => by
    rw [List.filter_eq_self]
    intro x hx
    simp [hl x hx]
  unfold dropT
  rw [List.filter_append, List.filter_cons, e a h2, e b h3]
  simp [h1]
theorem ins_back : ∀ {a b : List Sig} {t : Sig}, (a ++ t :: b).Pairwise (fun x y => bytesBefore x.nm y.nm = true) → insT t (a ++ b) = a ++ t :: b
  | [], [], t, _ => rfl
  | [], y :: b, t, h => by
    simp only [List.nil_append] at h ⊢
    rw [List.pairwise_cons] at h
    rw [insT, if_pos (h.1 y List.mem_cons_self)]
  | x :: a, b, t, h => by
    simp only [List.cons_append] at h ⊢
    rw [List.pairwise_cons] at h
    have hx := h.1 t (List.mem_append.2 (.inr List.mem_cons_self))
    have hn : ¬ bytesBefore t.nm x.nm = true := fun hh => by
      have := bytes_trans _ _ _ hx hh
      rw [bytes_irrefl] at this
      cases this
    rw [insT, if_neg hn, ins_back h.2]
theorem map_ren_none {l : List Sig} {a b : List UInt8} (h : ∀ x ∈ l, x.nm ≠ a) : (lnOf l).map (fun x => (x.1, renP a b x.2)) = lnOf l := by
  have : ∀ x ∈ lnOf l, (x.1, renP a b x.2) = x := fun x hx => by
    obtain ⟨t, ht, hx⟩ := List.mem_flatMap.1 hx
    have := lnF_name hx
    unfold renP
    rw [if_neg (by rw [this]; exact h t ht)]
  rw [List.map_congr_left this, List.map_id']
theorem map_ren_file {t : Sig} {a b : List UInt8} (h : t.nm = a) : (lnF t).map (fun x => (x.1, renP a b x.2)) = lnF ⟨b, t.bs, t.wr, t.pl⟩ := by
  rw [show lnF ⟨b, t.bs, t.wr, t.pl⟩ = (lnF t).map (fun x => (x.1, (b, x.2.2))) from lnF_rename t b]
  refine List.map_congr_left fun x hx => ?_
  have := lnF_name hx
  unfold renP
  rw [if_pos (by rw [this]; exact h)]
theorem Tie.rename {A : Ab} {Q : RA} (h : Tie A Q) {nm nt : List UInt8} (hne : nm ≠ nt) {t : Sig} (ht : findT A.sp nm = some t) : Tie (rnT A nm nt t) (renQ Q nm nt (strip t)) := by
  have hd := h.drop nt
  obtain ⟨M, h1, h2, h3⟩ := hd.line
  have ht2 : findT (dropT A.sp nt) nm = some t := by rw [findT_drop hne, ht]
  obtain ⟨a, b, hab, hn, ha, hb⟩ := find_split hd.ne ht2
  have hab' : dropT A.sp nt = a ++ t :: b := hab
  have hsp : (rnT A nm nt t).sp = insT ⟨nt, t.bs, t.wr, t.pl⟩ (a ++ b) := by
    show insT _ (dropT (dropT A.sp nm) nt) = _
    rw [drop_comm, hab', drop_split hn ha hb]
  have htm : t ∈ dropT A.sp nt := (findT_mem ht2).1
  have hmem : ∀ x ∈ (rnT A nm nt t).sp, x = ⟨nt, t.bs, t.wr, t.pl⟩ ∨ x ∈ dropT A.sp nt := fun x hx => by
    rw [hsp] at hx
    rcases mem_ins.1 hx with h5 | h5
    · exact .inl h5
    · rw [hab']
      rcases List.mem_append.1 h5 with h6 | h6
      · exact .inr (List.mem_append.2 (.inl h6))
      · exact .inr (List.mem_append.2 (.inr (List.mem_cons_of_mem _ h6)))
  refine ⟨?_, h.room, hd.ops, hd.fail, h.keep, h.off, ⟨M.map (fun x => (x.1, renP nm nt x.2)), ?_, ?_, ?_⟩, ?_, fun x hx => ?_, fun x hx => ?_, fun x hx => ?_, fun x hx => ?_⟩
  · show insT ⟨nt, t.bs, t.wr, []⟩ (dropT (dropT Q.L nt) nm) = _
    rw [hsp, strip_ins, h.L, ← strip_drop, ← strip_drop, hab', drop_split hn ha hb]
    rfl
  · rw [List.pairwise_map]
    exact h1
  · show _ = (Q.line.filter (fun p => !(p.1 == nt))).map (renP nm nt)
    rw [← show M.map (·.2) = Q.line.filter (fun p => !(p.1 == nt)) from h2, List.map_map, List.map_map]
    rfl
  · have h4 : M.Perm (lnOf (dropT A.sp nt)) := h3
    refine (h4.map _).trans ?_
    rw [hab', lnOf_app, lnOf_cons, List.map_append, List.map_append, map_ren_none ha, map_ren_none hb, map_ren_file hn, hsp]
    refine List.Perm.trans ?_ (lnOf_ins _ _).symm
    rw [lnOf_app, ← List.append_assoc, ← List.append_assoc]
    exact List.perm_append_comm.append_right _
  · rw [hsp]
    have hs := hd.sorted
    have hs' : (a ++ t :: b).Pairwise (fun x y => bytesBefore x.nm y.nm = true) := by rw [← hab']; exact hs
    refine ins_sorted _ (hs'.sublist (List.Sublist.append_left (List.sublist_cons_self _ _) _)) fun x hx => ?_
    have hxm : x ∈ dropT A.sp nt := by
      rw [hab']
      rcases List.mem_append.1 hx with h6 | h6
      · exact List.mem_append.2 (.inl h6)
      · exact List.mem_append.2 (.inr (List.mem_cons_of_mem _ h6))
    exact drop_ne hxm
  · rcases hmem x hx with rfl | h5
    · exact hd.pls t htm
    · exact hd.pls x h5
  · rcases hmem x hx with rfl | h5
    · exact hd.wr t htm
    · exact hd.wr x h5
  · rcases hmem x hx with rfl | h5
    · exact hd.ahead t htm
    · exact hd.ahead x h5
  · rcases hmem x hx with rfl | h5
    · exact hd.rise t htm
    · exact hd.rise x h5
theorem Tie.renameSame {A : Ab} {Q : RA} (h : Tie A Q) {nm : List UInt8} {t : Sig} (ht : findT A.sp nm = some t) : Tie (rnT A nm nm t) (turnQ Q) := by
  obtain ⟨a, b, hab, hn, ha, hb⟩ := find_split h.ne ht
  have e : (rnT A nm nm t).sp = A.sp := by
    show insT ⟨nm, t.bs, t.wr, t.pl⟩ (dropT (dropT A.sp nm) nm) = _
    have e1 : dropT A.sp nm = a ++ b := by rw [hab, drop_split hn ha hb]
    have e2 : dropT (a ++ b) nm = a ++ b := by
      unfold dropT
      rw [List.filter_eq_self]
      intro x hx
      rcases List.mem_append.1 hx with h6 | h6
      · simp [ha x h6]
      · simp [hb x h6]
    have e3 : (⟨nm, t.bs, t.wr, t.pl⟩ : Sig) = t := by subst hn; rfl
    rw [e1, e2, e3, ins_back (by rw [← hab]; exact h.sorted), hab]
  have hs := h
  refine ⟨by rw [e]; exact h.L, h.room, by show Q.ops + 1 = _; rw [h.ops]; rfl, fun hon => by show Q.fail - 1 = _; rw [h.fail hon]; rfl, h.keep, h.off, by rw [e]; exact h.line, by rw [e]; exact h.sorted, by rw [e]; exact h.pls, by rw [e]; exact h.wr, by rw [e]; exact h.ahead, by rw [e]; exact h.rise⟩
theorem Tie.start {A : Ab} {Q : RA} (h : Tie A Q) : Tie { A with on := true, left := 0 } { Q with off := false, fail := 0 } := ⟨h.L, h.room, h.ops, fun _ => rfl, h.keep, rfl, h.line, h.sorted, h.pls, h.wr, h.ahead, h.rise⟩
theorem Tie.arm {A : Ab} {Q : RA} (h : Tie A Q) (n : Nat) (m : Int) : Tie { A with left := n, keep := m } { Q with fail := n, keep := m } := ⟨h.L, h.room, h.ops, fun _ => rfl, rfl, h.off, h.line, h.sorted, h.pls, h.wr, h.ahead, h.rise⟩
end Go.Proofs.YtgkdodcidancpaaGreatDoor
namespace Go.Proofs.YtgkdodcidancpaaGreatDoor
open Go.RowKit Go.Maps Go.WideAt Go.WideShapes

theorem owns_form1 {w : World} {base n : Nat} {xs : List Value} {v : Value} {e : TypeId} {k : Nat} (h : w.ownsRow base e k v n xs) (hn : 0 < n) : ∃ g cap, v = .slice (some ⟨g, 0, none⟩) n cap ∧ n ≤ cap := by
  rcases h.2 with ⟨rfl, rfl⟩ | ⟨g, cap, cur, rfl, hb, hg, hn, _⟩
  · omega
  · exact ⟨g, cap, rfl, hn⟩
def spoilQ (Q : RA) (s : ByteArray) (i k : Int) : Int × RA :=
  if knownQ Q s = 0 then
    match findT Q.L (nameOf s) with
    | none => (4, Q)
    | some t => if i < 0 ∨ (t.bs.length : Int) ≤ i ∨ k < 0 ∨ 7 < k then (2, Q) else (0, { Q with L := upd Q.L (nameOf s) ⟨nameOf s, t.bs.set i.toNat (flipB (t.bs.getD i.toNat 0) k.toNat), t.wr, t.pl⟩ })
  else (knownQ Q s, Q)
end Go.Proofs.YtgkdodcidancpaaGreatDoor
namespace Go.Proofs.YtgkdodcidancpaaGreatDoor
open Go.ChangeShapes Go.WideShapes Go.ChangeAt Go.RowKit

set_option maxRecDepth 100000 in
theorem cellsMf : Tryz.prog.cellsOf 36 = 3 := by kernel_rfl
set_option maxRecDepth 100000 in
theorem cellsIs : Tryz.prog.cellsOf 34 = 1 := by kernel_rfl
set_option maxRecDepth 100000 in
theorem cellsIn : Tryz.prog.cellsOf 3 = 1 := by kernel_rfl
/-- A manifest that came in. -/
structure MCame (W : World) (ao : Option Addr) (cap : Nat) (m : Mf) : Prop where
  see : MSees W ao cap m
  cap : cap ≤ 9223372036854775807
  nx : -9223372036854775808 ≤ m.nx ∧ m.nx ≤ 9223372036854775807
  fr : -9223372036854775808 ≤ m.fr ∧ m.fr ≤ 9223372036854775807
set_option maxRecDepth 100000 in
theorem ints_cells {H : Type} {enc : TypeId × Value → H} {W : World} {fuel : Nat} {c : Value} {y : DataW H × List MemPlace} (hf : DataW.trod enc Tryz.prog W 0 (fun _ => true) true fuel 34 [c] = some y) :
    ∃ ao cap, ∃ l : List Int, c = .slice ao l.length cap ∧ ISees W ao l ∧ (ao = none → l.length = 0) ∧ l.length ≤ cap ∧ cap ≤ 9223372036854775807 := by
  rcases open_ints Tryz.underlying34 Tryz.underlying3 (by kernel_rfl) hf with ⟨hcs, _⟩ | ⟨x, n, c', zs, hcs, _, hl, hm, hz, hx, hcell, hwz⟩
  · simp at hcs
    exact ⟨none, 0, [], hcs, (fun i c hc => by simp at hc), fun _ => rfl, Nat.le_refl _, by omega⟩
  · simp at hcs
    have hzl : zs.length = c' := by simpa using hz
    have hlen : (zs.take n).length = n := by simp; omega
    refine ⟨some x, c', zs.take n, by rw [hlen]; exact hcs, fun i y hy => ?_, (fun h => by cases h), by omega, by unfold maxLen at hm; omega⟩
    have hi : i < n := by have := (List.getElem?_eq_some_iff.1 hy).1; omega
    have hi' : i < zs.length := by omega
    have hc := hcell i hi'
    rw [List.getElem?_take_of_lt hi] at hy
    have e : zs.getD i 0 = y := by simp [List.getD, hy]
    rw [e] at hc
    obtain ⟨b, off, spot⟩ := x
    have hspot : spot = none := by
      have := World.cell?_spot (hcell 0 (by omega))
      simpa [Addr.add] using this
    subst hspot
    rw [Addr.add_lit] at hc
    exact ⟨b, off, rfl, hc⟩
set_option maxRecDepth 100000 in
theorem man_came {H : Type} {enc : TypeId × Value → H} {W : World} {base : Nat} {v : Value} {d : DataW H} {p : List MemPlace} (hv : Value.okWide Tryz.prog W .any base 36 v)
    (h : DataW.Trod enc Tryz.prog W 0 (fun _ => true) true 36 v d p) : ∃ ao cap m, v = mval ao cap m ∧ MCame W ao cap m := by
  obtain ⟨cs, rfl, hsz⟩ := okWide_struct Tryz.underlying36 hv
  obtain ⟨fuel, hf⟩ := h
  have hl := hsz.trans cellsMf
  obtain ⟨l⟩ := cs
  match l, hl with
  | [c0, c1, c2], _ =>
    have hf' : DataW.trod enc Tryz.prog W 0 (fun _ => true) true fuel 36 [c0, c1, c2] = some (d, p) := hf
    obtain ⟨y0, y1, y2, m', _, _, h0, h1, h2⟩ := Go.Deep.trod_struct3 Tryz.underlying36 hf'
    simp only [cellsIs, cellsIn] at h0 h1 h2
    obtain ⟨ao, cap, ts, e0, i1, i2, i3, i4⟩ := ints_cells (fuel := m') (c := c0) (y := y0) h0
    obtain ⟨r1, f1, rfl, q1⟩ := DataW.trod_int Tryz.underlying3 h1
    obtain ⟨r2, f2, rfl, q2⟩ := DataW.trod_int Tryz.underlying3 h2
    simp at f1 f2
    subst f1
    subst f2
    subst e0
    exact ⟨ao, cap, ⟨ts, r1, r2⟩, rfl, ⟨i1, i2, i3⟩, i4, bounds_i64 q1, bounds_i64 q2⟩
set_option maxRecDepth 100000 in
theorem man_came2 {H : Type} {enc : TypeId × Value → H} {W : World} {base : Nat} {v : Value} {d : DataW H} {p : List MemPlace} (hv : Value.okWide Tryz.prog W .any base 36 v)
    (h : DataW.Trod enc Tryz.prog W 0 (fun _ => true) true 36 v d p) : ∃ ao cap m, v = mval ao cap m ∧ MCame W ao cap m ∧ (m.ts.length = 0 ∨ ∃ el sp y z, d = .agg [.slice el sp, y, z] ∧ el.length = m.ts.length) := by
  obtain ⟨cs, rfl, hsz⟩ := okWide_struct Tryz.underlying36 hv
  obtain ⟨fuel, hf⟩ := h
  have hl := hsz.trans cellsMf
  obtain ⟨l⟩ := cs
  match l, hl with
  | [c0, c1, c2], _ =>
    have hf' : DataW.trod enc Tryz.prog W 0 (fun _ => true) true fuel 36 [c0, c1, c2] = some (d, p) := hf
    obtain ⟨y0, y1, y2, m', hd, _, h0, h1, h2⟩ := Go.Deep.trod_struct3 Tryz.underlying36 hf'
    simp only [cellsIs, cellsIn] at h0 h1 h2
    have hdat : ∀ ao' n' cap', c0 = Value.slice ao' n' cap' → n' = 0 ∨ ∃ el sp, y0.1 = .slice el sp ∧ el.length = n' := fun ao' n' cap' e => by
      rcases open_ints Tryz.underlying34 Tryz.underlying3 (by kernel_rfl) (show DataW.trod enc Tryz.prog W 0 (fun _ => true) true m' 34 [c0] = some y0 from h0) with ⟨hcs, _⟩ | ⟨x, n, c', zs, hcs, _, hl, hm, hz, hx, hcell, hwz⟩
      · simp at hcs
        rw [hcs] at e
        cases e
        exact .inl rfl
      · simp at hcs
        rw [hcs] at e
        have hzl : zs.length = c' := by simpa using hz
        simp only [Value.slice.injEq] at e
        obtain ⟨-, rfl, -⟩ := e
        exact .inr ⟨_, _, congrArg Prod.fst hx, by simp [lits]; omega⟩
    obtain ⟨ao, cap, ts, e0, i1, i2, i3, i4⟩ := ints_cells (fuel := m') (c := c0) (y := y0) h0
    obtain ⟨r1, f1, rfl, q1⟩ := DataW.trod_int Tryz.underlying3 h1
    obtain ⟨r2, f2, rfl, q2⟩ := DataW.trod_int Tryz.underlying3 h2
    simp at f1 f2
    subst f1
    subst f2
    have hq := hdat _ _ _ e0
    subst e0
    have hd1 : d = .agg [y0.1, .lit (.int .i64 r1), .lit (.int .i64 r2)] := congrArg Prod.fst hd
    exact ⟨ao, cap, ⟨ts, r1, r2⟩, rfl, ⟨⟨i1, i2, i3⟩, i4, bounds_i64 q1, bounds_i64 q2⟩, hq.imp id fun ⟨el, sp, e1, e2⟩ => ⟨el, sp, .lit (.int .i64 r1), .lit (.int .i64 r2), by rw [hd1, e1], e2⟩⟩
/-- How many tables can have come in. -/
theorem man_fit {H : Type} {ts : List TypeId} {ds : List (DataW H)} {j n : Nat} {d : DataW H} (h : (DataW.weightsEach Tryz.prog ts ds).all (· ≤ reachBytes) = true) (ht : ts[j]? = some 36) (hd : ds[j]? = some d)
    (hn : n = 0 ∨ ∃ el sp y z, d = .agg [.slice el sp, y, z] ∧ el.length = n) : n ≤ 140737488355328 := by
  rcases hn with rfl | ⟨el, sp, y, z, rfl, rfl⟩
  · omega
  · have hw : ∀ n ∈ (DataW.agg [.slice el sp, y, z] : DataW H).weights Tryz.prog 36, n ≤ reachBytes := fun n hn => by
      have := List.all_eq_true.1 h n (DataW.weights_mem_each ht hd n hn)
      simpa using this
    have a1 := hw ((el.length + sp.length) * Tryz.prog.bytesOf 3) (by simp [DataW.weights, DataW.weightsEach, Tryz.underlying36, Tryz.underlying34])
    rw [show Tryz.prog.bytesOf 3 = 8 by kernel_rfl] at a1
    simp only [reachBytes] at a1
    omega
set_option maxRecDepth 100000 in
theorem cellsFail : Tryz.prog.cellsOf 25 = 2 := by kernel_rfl
set_option maxRecDepth 100000 in
theorem fail_came {H : Type} {enc : TypeId × Value → H} {W : World} {base : Nat} {v : Value} {d : DataW H} {p : List MemPlace} (hv : Value.okWide Tryz.prog W .any base 25 v)
    (h : DataW.Trod enc Tryz.prog W 0 (fun _ => true) true 25 v d p) : ∃ x y : Int, v = .agg #[.int .i64 x, .int .i64 y] ∧ (-9223372036854775808 ≤ x ∧ x ≤ 9223372036854775807) ∧ (-9223372036854775808 ≤ y ∧ y ≤ 9223372036854775807) := by
  obtain ⟨cs, rfl, hsz⟩ := okWide_struct Tryz.underlying25 hv
  obtain ⟨fuel, hf⟩ := h
  have hl := hsz.trans cellsFail
  obtain ⟨l⟩ := cs
  match l, hl with
  | [c0, c1], _ =>
    have hf' : DataW.trod enc Tryz.prog W 0 (fun _ => true) true fuel 25 [c0, c1] = some (d, p) := hf
    obtain ⟨u0, u1, m', hu, _, g0, g1⟩ := trod_struct2 Tryz.underlying25 hf'
    simp only [cellsIn] at g0 g1
    obtain ⟨r0, f0, rfl, q0⟩ := DataW.trod_int Tryz.underlying3 g0
    obtain ⟨r1, f1, rfl, q1⟩ := DataW.trod_int Tryz.underlying3 g1
    simp at f0 f1
    subst f0
    subst f1
    exact ⟨r0, r1, rfl, bounds_i64 q0, bounds_i64 q1⟩
theorem bytes_capM {H : Type} {enc : TypeId × Value → H} {W : World} {ao : Option Addr} {len cap : Nat} {d : DataW H} {p : List MemPlace}
    (h : DataW.Trod enc Tryz.prog W 0 (fun _ => true) true 58 (Value.slice ao len cap) d p) : cap ≤ 9223372036854775807 := by
  obtain ⟨fuel, hf⟩ := h
  rcases open_ints Tryz.underlying58 Tryz.underlying5 (by kernel_rfl) hf with ⟨hcs, _⟩ | ⟨x, n, c, zs, hcs, _, hl, hm, hz, hx, hcell, hwz⟩
  · simp [Value.cells] at hcs; omega
  · simp [Value.cells] at hcs; unfold maxLen at hm; omega
end Go.Proofs.YtgkdodcidancpaaGreatDoor

/-
  SEVERAL TEXTS IN ONE: DskRefL, DskTieS, ManRef.
-/
import Derived.Test.YtgkdodcidancpaaGreatDoorMany27
import Derived.Test.YtgkdodcidancpaaGreatDoorMany26
import Derived.Test.YtgkdodcidancpaaGreatDoorMany15
import Derived.Test.YtgkdodcidancpaaGreatDoorMany25
namespace Go.Proofs.YtgkdodcidancpaaGreatDoor
open Go.RowKit Go.Maps Go.WideAt Go.WideShapes

/-- The line, longer. -/
theorem RefAt.growLine {w0 wr : World} {r : Nat} {R : RM} (h : RefAt w0 r R) {v' : Value} {l' : List (List UInt8 × Nat)} (ho : wr.ownsRow 0 109 2 v' l'.length (l'.flatMap plC)) (hg : Grew w0 wr R.vN v') :
    RefAt (wr.setCell ⟨r, 2, none⟩ v') r { R with vN := v', line := l' } ∧ Moved w0 (wr.setCell ⟨r, 2, none⟩ v') (R.foot r) (({ R with vN := v', line := l' } : RM).foot r) := by
  have hrl := h.head.lt
  have hk : ∀ k, k ≠ r → (wr.setCell ⟨r, 2, none⟩ v').heap[k]? = wr.heap[k]? := fun k hk => Below.heap_setCell _ _ _ _ hk
  have hold : ∀ k, k < w0.heap.size → R.vN.ownBlock ≠ some k → wr.heap[k]? = w0.heap[k]? := fun k hk hne => hg.rows.block k hk (fun e => hne e.symm)
  have hz := hg.rows.size
  have hown : ∀ k, k < w0.heap.size → R.vN.ownBlock ≠ some k → v'.ownBlock ≠ some k := fun k hk hne e => by
    rcases hg.own k e with h1 | h1
    · exact hne h1
    · omega
  have hwh : Blk wr r R.head 50 := h.head.carry (hold r hrl h.ne2)
  refine ⟨⟨hwh.setTo 2 v' _ rfl, ?_, owns_carry ho fun g hgg => hk g fun e => hown r hrl h.ne2 (e ▸ hgg), fun f hf => (h.sees f hf).kept fun a ha _ => ?_, h.zero, fun f hf g hgg => ?_, fun f hf g hgg => ⟨(h.apart f hf g hgg).1, (h.apart f hf g hgg).2.1, hown g (h.blt f hf g hgg) (h.apart f hf g hgg).2.2⟩, h.ne1, hown r hrl h.ne2, fun g hgg => hown g (h.rowL.lt g hgg).2 (h.ne3 g hgg)⟩, ?_⟩
  · exact owns_carry h.rowL fun g hgg => (hk g fun e => h.ne1 (e ▸ hgg)).trans (hold g (h.rowL.lt g hgg).2 (h.ne3 g hgg))
  · have hb : a.block ∈ f.blk := by simp [RF.blk, ha]
    exact (hk _ (h.apart f hf _ hb).1).trans (hold _ (h.blt f hf _ hb) (h.apart f hf _ hb).2.2)
  · rw [size_setCell]; exact Nat.lt_of_lt_of_le (h.blt f hf g hgg) hz
  · refine ⟨hg.rows.os, hg.rows.tape, hg.rows.output, by rw [size_setCell]; exact hz, fun k hk1 hk2 => (hk k fun e => hk2 (foot_iff.2 (.inl e))).trans (hold k hk1 fun e => hk2 (foot_iff.2 (.inr (.inr (.inl e))))), fun k hkf => ?_⟩
    rcases foot_iff.1 hkf with h1 | h1 | h1 | h1
    · exact .inl (foot_iff.2 (.inl h1))
    · exact .inl (foot_iff.2 (.inr (.inl h1)))
    · rcases hg.own k h1 with h2 | h2
      · exact .inl (foot_iff.2 (.inr (.inr (.inl h2))))
      · exact .inr h2
    · exact .inl (foot_iff.2 (.inr (.inr (.inr h1))))
/-- The line, with a byte's sector in it. -/
def addN (nm : List UInt8) (line : List (List UInt8 × Nat)) (k : Nat) : List (List UInt8 × Nat) := if dirtyB line nm (k / 16) then line else line ++ [(nm, k / 16)]
def addTo (line : List (List UInt8 × Nat)) (nm : List UInt8) (old n : Nat) : List (List UInt8 × Nat) := (List.range' old n).foldl (addN nm) line
theorem addTo_zero (line : List (List UInt8 × Nat)) (nm : List UInt8) (old : Nat) : addTo line nm old 0 = line := rfl
theorem addTo_step (line : List (List UInt8 × Nat)) (nm : List UInt8) (old n : Nat) : addTo line nm old (n + 1) = addN nm (addTo line nm old n) (old + n) := by
  unfold addTo
  rw [List.range'_concat, List.foldl_append, Nat.one_mul]
  rfl
theorem addN_len (nm : List UInt8) (line : List (List UInt8 × Nat)) (k : Nat) : line.length ≤ (addN nm line k).length := by
  unfold addN
  split
  · exact Nat.le_refl _
  · simp
theorem addTo_len (line : List (List UInt8 × Nat)) (nm : List UInt8) (old : Nat) {a b : Nat} (h : a ≤ b) : (addTo line nm old a).length ≤ (addTo line nm old b).length := by
  induction h with
  | refl => exact Nat.le_refl _
  | step _ ih => exact Nat.le_trans ih (by rw [addTo_step]; exact addN_len _ _ _)
/-- The disk with bytes at a file's end. -/
def appQ (Q : RA) (nm : List UInt8) (t : Sig) (b : List UInt8) : RA := { turnQ Q with L := upd Q.L nm ⟨nm, t.bs ++ b, t.wr, t.pl⟩, line := addTo Q.line nm t.bs.length b.length }
/-- Is there no room for so many bytes more? -/
def lackQ (Q : RA) (t : Sig) (b : List UInt8) : Bool := decide ((Q.room : Int) - (usedT Q.L : Int) < lackT t b)
def appendQ (Q : RA) (s : ByteArray) (b : List UInt8) : Int × RA :=
  if Q.off then (9, Q) else if goodB (nameOf s) then
    match findT Q.L (nameOf s) with
    | none => (4, Q)
    | some t => if lackQ Q t b then (7, Q) else if Q.fail = 1 then (9, crashQ (appQ Q (nameOf s) t b) Q.keep) else (0, appQ Q (nameOf s) t b)
  else (3, Q)
end Go.Proofs.YtgkdodcidancpaaGreatDoor
namespace Go.Proofs.YtgkdodcidancpaaGreatDoor
open Go.RowKit Go.Maps Go.WideAt Go.WideShapes

theorem strip_ins (t : Sig) (sp : List Sig) : (insT t sp).map strip = insT (strip t) (sp.map strip) := by
  induction sp with
  | nil => rfl
  | cons y r ih =>
    rw [insT, List.map_cons, insT, ← ih]
    have : bytesBefore (strip t).nm (strip y).nm = bytesBefore t.nm y.nm := rfl
    rw [this]
    split <;> rfl
theorem strip_drop (sp : List Sig) (nm : List UInt8) : (dropT sp nm).map strip = dropT (sp.map strip) nm := by
  unfold dropT
  rw [List.filter_map]
  rfl
theorem strip_find (sp : List Sig) (nm : List UInt8) : findT (sp.map strip) nm = (findT sp nm).map strip := by
  unfold findT
  rw [List.find?_map]
  rfl
theorem strip_upd (sp : List Sig) (nm : List UInt8) (t' : Sig) : (upd sp nm t').map strip = upd (sp.map strip) nm (strip t') := by
  unfold upd
  rw [List.map_map, List.map_map]
  refine List.map_congr_left fun x _ => ?_
  simp only [Function.comp]
  have : (strip x).nm = x.nm := rfl
  rw [this]
  split <;> rfl
theorem strip_used (sp : List Sig) : usedT (sp.map strip) = usedT sp := by
  unfold usedT
  rw [List.map_map]
  rfl
theorem sorted_ne {sp : List Sig} (h : sp.Pairwise (fun x y => bytesBefore x.nm y.nm = true)) : sp.Pairwise (fun x y => x.nm ≠ y.nm) := h.imp fun {x y} hxy e => by
  rw [e, bytes_irrefl] at hxy
  cases hxy
theorem ins_sorted (t : Sig) : ∀ {sp : List Sig}, sp.Pairwise (fun x y => bytesBefore x.nm y.nm = true) → (∀ x ∈ sp, x.nm ≠ t.nm) → (insT t sp).Pairwise (fun x y => bytesBefore x.nm y.nm = true)
  | [], _, _ => by simp [insT]
  | y :: r, hs, hn => by
    rw [List.pairwise_cons] at hs
    rw [insT]
    split
    · rename_i hb
      rw [List.pairwise_cons]
      refine ⟨fun x hx => ?_, List.pairwise_cons.2 hs⟩
      rcases List.mem_cons.1 hx with rfl | hx
      · exact hb
      · exact bytes_trans _ _ _ hb (hs.1 x hx)
    · rename_i hb
      rw [List.pairwise_cons]
      refine ⟨fun x hx => ?_, ins_sorted t hs.2 (fun x hx => hn x (List.mem_cons_of_mem _ hx))⟩
      rcases mem_ins.1 hx with rfl | hx
      · rcases bytes_total y.nm x.nm (hn y List.mem_cons_self) with h | h
        · exact h
        · exact absurd h hb
      · exact hs.1 x hx
theorem drop_ne {sp : List Sig} {nm : List UInt8} {x : Sig} (h : x ∈ dropT sp nm) : x.nm ≠ nm := by
  have := (List.mem_filter.1 h).2
  simpa using this
/-- A file among the others. -/
theorem find_split {sp : List Sig} {nm : List UInt8} {t : Sig} (hN : sp.Pairwise (fun x y => x.nm ≠ y.nm)) (h : findT sp nm = some t) : ∃ a b, sp = a ++ t :: b ∧ t.nm = nm ∧ (∀ x ∈ a, x.nm ≠ nm) ∧ (∀ x ∈ b, x.nm ≠ nm) := by
  induction sp with
  | nil => cases h
  | cons y r ih =>
    rw [List.pairwise_cons] at hN
    rw [findT_cons] at h
    by_cases e : y.nm = nm
    · rw [if_pos e] at h
      cases h
      exact ⟨[], r, rfl, e, by simp, fun x hx hh => hN.1 x hx (e.trans hh.symm)⟩
    · rw [if_neg e] at h
      obtain ⟨a, b, rfl, h1, h2, h3⟩ := ih hN.2 h
      exact ⟨y :: a, b, rfl, h1, fun x hx => by rcases List.mem_cons.1 hx with rfl | hx; exact e; exact h2 x hx, h3⟩
theorem upd_split {a b : List Sig} {t t' : Sig} {nm : List UInt8} (h1 : t.nm = nm) (h2 : ∀ x ∈ a, x.nm ≠ nm) (h3 : ∀ x ∈ b, x.nm ≠ nm) : upd (a ++ t :: b) nm t' = a ++ t' :: b := by
  have e : ∀ c d, upd (c ++ d) nm t' = upd c nm t' ++ upd d nm t' := fun c d => by unfold upd; rw [List.map_append]
  have e2 : upd (t :: b) nm t' = t' :: upd b nm t' := by
    have : upd (t :: b) nm t' = (if t.nm == nm then t' else t) :: upd b nm t' := rfl
    rw [this, h1]
    simp
  rw [e, e2, upd_none h2, upd_none h3]
theorem lnOf_app (a b : List Sig) : lnOf (a ++ b) = lnOf a ++ lnOf b := List.flatMap_append
theorem filter_none {l : List Sig} {nm : List UInt8} (h : ∀ x ∈ l, x.nm ≠ nm) : (lnOf l).filter (fun x => !(x.2.1 == nm)) = lnOf l := by
  rw [List.filter_eq_self]
  intro x hx
  obtain ⟨t, ht, hx⟩ := List.mem_flatMap.1 hx
  have := lnF_name hx
  simp [this, h t ht]
/-- Both disks are as one. -/
structure Tie (A : Ab) (Q : RA) : Prop where
  L : Q.L = A.sp.map strip
  room : Q.room = A.room
  ops : Q.ops = A.ops
  fail : A.on = true → Q.fail = A.left
  keep : Q.keep = A.keep
  off : Q.off = !A.on
  line : ∃ M : List Ln, M.Pairwise (fun x y => x.1 < y.1) ∧ M.map (·.2) = Q.line ∧ M.Perm (lnOf A.sp)
  sorted : A.sp.Pairwise (fun x y => bytesBefore x.nm y.nm = true)
  pls : ∀ t ∈ A.sp, t.pl.length = secs t.wr t.bs.length
  wr : ∀ t ∈ A.sp, t.wr ≤ t.bs.length
  ahead : ∀ t ∈ A.sp, ∀ p ∈ t.pl, p < A.next
  rise : ∀ t ∈ A.sp, t.pl.Pairwise (· < ·)
theorem Tie.ne {A : Ab} {Q : RA} (h : Tie A Q) : A.sp.Pairwise (fun x y => x.nm ≠ y.nm) := sorted_ne h.sorted
theorem Tie.lines {A : Ab} {Q : RA} (h : Tie A Q) : Q.line.length = dirtyT A.sp := by
  obtain ⟨M, _, h2, h3⟩ := h.line
  rw [← h2, List.length_map, h3.length_eq, ← List.length_map (f := (·.1)), lnOf_fst]
  unfold linesT dirtyT
  rw [List.length_flatMap]
theorem Tie.find {A : Ab} {Q : RA} (h : Tie A Q) (nm : List UInt8) : findT Q.L nm = (findT A.sp nm).map strip := by rw [h.L, strip_find]
theorem Tie.used {A : Ab} {Q : RA} (h : Tie A Q) : usedT Q.L = usedT A.sp := by rw [h.L, strip_used]
theorem Tie.count {A : Ab} {Q : RA} (h : Tie A Q) : Q.L.length = A.sp.length := by rw [h.L, List.length_map]
theorem tie_new (room : Nat) : Tie (newA room) (newR room) := ⟨rfl, rfl, rfl, fun _ => rfl, rfl, rfl, ⟨[], List.Pairwise.nil, rfl, List.Perm.refl _⟩, List.Pairwise.nil, by simp [newA], by simp [newA], by simp [newA], by simp [newA]⟩
theorem mem_line_filter {M : List Ln} {line : List (List UInt8 × Nat)} (h : M.map (·.2) = line) (nm : List UInt8) : (M.filter (fun x => !(x.2.1 == nm))).map (·.2) = line.filter (fun p => !(p.1 == nm)) := by
  rw [← h, List.filter_map]
  rfl
/-- A file is gone. -/
theorem Tie.drop {A : Ab} {Q : RA} (h : Tie A Q) (nm : List UInt8) : Tie { A with ops := A.ops + 1, left := A.left - 1, sp := dropT A.sp nm } { turnQ Q with L := dropT Q.L nm, line := Q.line.filter (fun p => !(p.1 == nm)) } := by
  obtain ⟨M, h1, h2, h3⟩ := h.line
  refine ⟨by show dropT Q.L nm = _; rw [h.L, strip_drop], h.room, by show Q.ops + 1 = _; rw [h.ops], fun hon => by show Q.fail - 1 = _; rw [h.fail hon], h.keep, h.off, ⟨M.filter (fun x => !(x.2.1 == nm)), h1.filter _, mem_line_filter h2 nm, ?_⟩, h.sorted.sublist List.filter_sublist, fun t ht => h.pls t (mem_drop ht), fun t ht => h.wr t (mem_drop ht), fun t ht => h.ahead t (mem_drop ht), fun t ht => h.rise t (mem_drop ht)⟩
  show (M.filter _).Perm (lnOf (dropT A.sp nm))
  rw [lnOf_drop]
  exact h3.filter _
theorem Tie.create {A : Ab} {Q : RA} (h : Tie A Q) (nm : List UInt8) : Tie (crT A nm) { turnQ Q with L := insT ⟨nm, [], 0, []⟩ (dropT Q.L nm), line := Q.line.filter (fun p => !(p.1 == nm)) } := by
  have hd := h.drop nm
  obtain ⟨M, h1, h2, h3⟩ := hd.line
  have hm : ∀ {t : Sig}, t ∈ insT ⟨nm, [], 0, []⟩ (dropT A.sp nm) → t = ⟨nm, [], 0, []⟩ ∨ t ∈ dropT A.sp nm := fun h => mem_ins.1 h
  refine ⟨?_, hd.room, hd.ops, hd.fail, hd.keep, hd.off, ⟨M, h1, h2, h3.trans ?_⟩, ins_sorted _ hd.sorted (fun x hx => drop_ne hx), fun t ht => ?_, fun t ht => ?_, fun t ht => ?_, fun t ht => ?_⟩
  · show insT ⟨nm, [], 0, []⟩ (dropT Q.L nm) = (insT ⟨nm, [], 0, []⟩ (dropT A.sp nm)).map strip
    rw [strip_ins, ← hd.L]
    rfl
  · exact (lnOf_ins ⟨nm, [], 0, []⟩ (dropT A.sp nm)).symm
  · rcases hm ht with rfl | h5
    · rfl
    · exact hd.pls t h5
  · rcases hm ht with rfl | h5
    · exact Nat.le_refl _
    · exact hd.wr t h5
  · rcases hm ht with rfl | h5
    · intro p hp; cases hp
    · exact hd.ahead t h5
  · rcases hm ht with rfl | h5
    · exact List.Pairwise.nil
    · exact hd.rise t h5
theorem sorted_split {a b : List Sig} {t t' : Sig} (hn : t'.nm = t.nm) (h : (a ++ t :: b).Pairwise (fun x y => bytesBefore x.nm y.nm = true)) : (a ++ t' :: b).Pairwise (fun x y => bytesBefore x.nm y.nm = true) := by
  rw [List.pairwise_append, List.pairwise_cons] at h ⊢
  refine ⟨h.1, ⟨fun x hx => by rw [hn]; exact h.2.1.1 x hx, h.2.1.2⟩, fun x hx y hy => ?_⟩
  rcases List.mem_cons.1 hy with rfl | hy
  · rw [hn]; exact h.2.2 x hx t List.mem_cons_self
  · exact h.2.2 x hx y (List.mem_cons_of_mem _ hy)
theorem Tie.sync {A : Ab} {Q : RA} (h : Tie A Q) {nm : List UInt8} {t : Sig} (ht : findT A.sp nm = some t) : Tie (syT A nm t) { turnQ Q with L := upd Q.L nm ⟨nm, t.bs, t.bs.length, []⟩, line := Q.line.filter (fun p => !(p.1 == nm)) } := by
  obtain ⟨M, h1, h2, h3⟩ := h.line
  obtain ⟨a, b, hab, hn, ha, hb⟩ := find_split h.ne ht
  have hu : upd A.sp nm ⟨nm, t.bs, t.bs.length, []⟩ = a ++ ⟨nm, t.bs, t.bs.length, []⟩ :: b := by rw [hab, upd_split hn ha hb]
  have hsp : (syT A nm t).sp = a ++ ⟨nm, t.bs, t.bs.length, []⟩ :: b := hu
  have hmem : ∀ x ∈ (syT A nm t).sp, x = ⟨nm, t.bs, t.bs.length, []⟩ ∨ x ∈ A.sp := fun x hx => by
    rw [hsp] at hx
    rw [hab]
    rcases List.mem_append.1 hx with h5 | h5
    · exact .inr (List.mem_append.2 (.inl h5))
    · rcases List.mem_cons.1 h5 with h6 | h6
      · exact .inl h6
      · exact .inr (List.mem_append.2 (.inr (List.mem_cons_of_mem _ h6)))
  refine ⟨by rw [show (syT A nm t).sp = upd A.sp nm ⟨nm, t.bs, t.bs.length, []⟩ from rfl, strip_upd, ← h.L]; rfl, h.room, by show Q.ops + 1 = _; rw [h.ops]; rfl, fun hon => by show Q.fail - 1 = _; rw [h.fail hon]; rfl, h.keep, h.off, ⟨M.filter (fun x => !(x.2.1 == nm)), h1.filter _, mem_line_filter h2 nm, ?_⟩, ?_, fun x hx => ?_, fun x hx => ?_, fun x hx => ?_, fun x hx => ?_⟩
  · have e1 : (lnOf A.sp).filter (fun x => !(x.2.1 == nm)) = lnOf (syT A nm t).sp := by
      rw [hsp, hab, lnOf_app, lnOf_cons, List.filter_append, List.filter_append, filter_none ha, filter_none hb, lnF_filter_same t nm hn, lnOf_app, lnOf_cons]
      rfl
    rw [← e1]
    exact h3.filter _
  · rw [hsp]
    have := h.sorted
    rw [hab] at this
    exact sorted_split (t' := ⟨nm, t.bs, t.bs.length, []⟩) hn.symm this
  · rcases hmem x hx with rfl | h5
    · simp [secs]
    · exact h.pls x h5
  · rcases hmem x hx with rfl | h5
    · exact Nat.le_refl _
    · exact h.wr x h5
  · rcases hmem x hx with rfl | h5
    · intro p hp; cases hp
    · exact h.ahead x h5
  · rcases hmem x hx with rfl | h5
    · exact List.Pairwise.nil
    · exact h.rise x h5
theorem Tie.spoil {A : Ab} {Q : RA} (h : Tie A Q) {nm : List UInt8} {t : Sig} (ht : findT A.sp nm = some t) (i k : Nat) : Tie (spT A nm t i k) { Q with L := upd Q.L nm ⟨nm, t.bs.set i (flipB (t.bs.getD i 0) k), t.wr, []⟩ } := by
  obtain ⟨M, h1, h2, h3⟩ := h.line
  obtain ⟨a, b, hab, hn, ha, hb⟩ := find_split h.ne ht
  have htm : t ∈ A.sp := (findT_mem ht).1
  have hu : upd A.sp nm ⟨nm, t.bs.set i (flipB (t.bs.getD i 0) k), t.wr, t.pl⟩ = a ++ ⟨nm, t.bs.set i (flipB (t.bs.getD i 0) k), t.wr, t.pl⟩ :: b := by rw [hab, upd_split hn ha hb]
  have hsp : (spT A nm t i k).sp = a ++ ⟨nm, t.bs.set i (flipB (t.bs.getD i 0) k), t.wr, t.pl⟩ :: b := hu
  have hmem : ∀ x ∈ (spT A nm t i k).sp, x = ⟨nm, t.bs.set i (flipB (t.bs.getD i 0) k), t.wr, t.pl⟩ ∨ x ∈ A.sp := fun x hx => mem_upd hx
  refine ⟨by rw [show (spT A nm t i k).sp = upd A.sp nm ⟨nm, t.bs.set i (flipB (t.bs.getD i 0) k), t.wr, t.pl⟩ from rfl, strip_upd, ← h.L]; rfl, h.room, h.ops, h.fail, h.keep, h.off, ⟨M, h1, h2, ?_⟩, ?_, fun x hx => ?_, fun x hx => ?_, fun x hx => ?_, fun x hx => ?_⟩
  · have e1 : lnOf A.sp = lnOf (spT A nm t i k).sp := by
      rw [hsp, hab, lnOf_app, lnOf_cons, lnOf_app, lnOf_cons]
      unfold lnF
      simp only [hn]
    rw [← e1]
    exact h3
  · rw [hsp]
    have := h.sorted
    rw [hab] at this
    exact sorted_split (t' := ⟨nm, t.bs.set i (flipB (t.bs.getD i 0) k), t.wr, t.pl⟩) hn.symm this
  · rcases hmem x hx with rfl | h5
    · simp only [List.length_set]; exact h.pls t htm
    · exact h.pls x h5
  · rcases hmem x hx with rfl | h5
    · simp only [List.length_set]; exact h.wr t htm
    · exact h.wr x h5
  · rcases hmem x hx with rfl | h5
    · exact h.ahead t htm
    · exact h.ahead x h5
  · rcases hmem x hx with rfl | h5
    · exact h.rise t htm
    · exact h.rise x h5
end Go.Proofs.YtgkdodcidancpaaGreatDoor
namespace Go.Proofs.YtgkdodcidancpaaGreatDoor
open Go.RowKit

theorem contains_iff (ts : List Int) (k : Nat) (x : Int) (hk : k ≤ ts.length) : (ts.take k).contains x = true ↔ ∃ j, j < k ∧ ts.getD j 0 = x := by
  rw [List.contains_iff_mem]
  constructor
  · intro h
    obtain ⟨j, hj, e⟩ := List.getElem_of_mem h
    rw [List.length_take] at hj
    refine ⟨j, by omega, ?_⟩
    rw [List.getElem_take] at e
    rw [List.getD_eq_getElem?_getD, List.getElem?_eq_getElem (by omega)]
    exact e
  · rintro ⟨j, hj, rfl⟩
    rw [List.getD_eq_getElem?_getD, List.getElem?_eq_getElem (by omega)]
    exact List.mem_take_iff_getElem.2 ⟨j, by omega, rfl⟩
set_option maxRecDepth 100000 in
set_option maxHeartbeats 2000000 in
theorem refGoodM_any (ao : Option Addr) (cap : Nat) (m : Mf) (w : World) (h : MSees w ao cap m) (hl : m.ts.length ≤ 1000000) :
    Calls Tryz.prog 65 #[mval ao cap m] w fun e w' => e = .returned (.bool (goodM m)) ∧ Below w.heap.size w w' := by
  obtain ⟨ts, nx, fr⟩ := m
  obtain ⟨hs, hn, hcap⟩ := h
  dsimp only at hs hn hcap hl
  unfold mval
  dsimp only
  have hk := Blk.new w [.slice ao ts.length cap, .int .i64 nx, .int .i64 fr] 39
  have c0 := hk.cell 0 rfl
  have c1 := hk.cell 1 rfl
  have c2 := hk.cell 2 rfl
  have HB : Hid (Below w.heap.size w (w.alloc (.cells #[.slice ao ts.length cap, .int .i64 nx, .int .i64 fr] 39))) := (Below.refl _ _).alloc (Nat.le_refl _) _
  have hs1 := hs.below HB.out (Nat.le_refl _)
  have HS : Hid (∀ k, k < ts.length → ∃ b off, ao = some ⟨b, off, none⟩ ∧ (w.alloc (.cells #[.slice ao ts.length cap, .int .i64 nx, .int .i64 fr] 39)).cell? ⟨b, off + k, none⟩ = some (.int .i64 (ts.getD k 0))) := fun k hk => by
    obtain ⟨b', off', e', hcs⟩ := isees_at hs1 (by omega)
    exact ⟨b', off', e', hcs k hk⟩
  have hli : (ts.length : Int) ≤ 1000000 := by omega
  have GN : Hid (possZ nx = false → goodM ⟨ts, nx, fr⟩ = false) := fun h => good_nx h
  have GF : Hid (possZ fr = false → goodM ⟨ts, nx, fr⟩ = false) := fun h => good_fr h
  have GM : Hid (30 < ts.length → goodM ⟨ts, nx, fr⟩ = false) := fun h => good_many h
  have GX : Hid (∀ k, k < ts.length → okT ts nx k = false → goodM ⟨ts, nx, fr⟩ = false) := fun k hk h => good_no hk h
  have GY : Hid (possZ nx = true → possZ fr = true → ts.length ≤ 30 → (∀ j, j < ts.length → okT ts nx j = true) → goodM ⟨ts, nx, fr⟩ = true) := fun h1 h2 h3 h4 => good_yes h1 h2 h3 h4
  have HK : Hid (∀ k x, ts.getD k 0 = x → okT ts nx k = (decide (1 ≤ x) && decide (x < nx) && !((ts.take k).contains x))) := fun k x e => by unfold okT; rw [e]
  have HCI : Hid (∀ k x, k ≤ ts.length → ((ts.take k).contains x = true ↔ ∃ j, j < k ∧ ts.getD j 0 = x)) := fun k x hk => contains_iff ts k x hk
  clear hk hs1 hn hcap hs
  generalize goodM ⟨ts, nx, fr⟩ = G at *
  by_cases a1 : nx < 1
  · have HG : Hid (G = false) := GN.out (by cases hp : possZ nx; rfl; exact absurd (possZ_iff.1 hp) (by omega))
    clear GN GF GM GX GY HS HK HCI
    go_enter Tryz.func65, Tryz.ntmps65
    go_wp2_with fail
    go_ret
    exact ⟨by rw [HG.out]; rfl, HB.out⟩
  by_cases a2 : 999999999 < nx
  · have HG : Hid (G = false) := GN.out (by cases hp : possZ nx; rfl; exact absurd (possZ_iff.1 hp) (by omega))
    clear GN GF GM GX GY HS HK HCI
    go_enter Tryz.func65, Tryz.ntmps65
    go_wp2_with fail
    go_ret
    exact ⟨by rw [HG.out]; rfl, HB.out⟩
  by_cases a3 : fr < 1
  · have HG : Hid (G = false) := GF.out (by cases hp : possZ fr; rfl; exact absurd (possZ_iff.1 hp) (by omega))
    clear GN GF GM GX GY HS HK HCI
    go_enter Tryz.func65, Tryz.ntmps65
    go_wp2_with fail
    go_ret
    exact ⟨by rw [HG.out]; rfl, HB.out⟩
  by_cases a4 : 999999999 < fr
  · have HG : Hid (G = false) := GF.out (by cases hp : possZ fr; rfl; exact absurd (possZ_iff.1 hp) (by omega))
    clear GN GF GM GX GY HS HK HCI
    go_enter Tryz.func65, Tryz.ntmps65
    go_wp2_with fail
    go_ret
    exact ⟨by rw [HG.out]; rfl, HB.out⟩
  rcases Nat.lt_or_ge 30 ts.length with hm | hm
  · have HG : Hid (G = false) := GM.out hm
    have hmi : (30 : Int) < (ts.length : Int) := by omega
    clear GN GF GM GX GY HS HK HCI
    go_enter Tryz.func65, Tryz.ntmps65
    go_wp2_with fail
    go_ret
    exact ⟨by rw [HG.out]; rfl, HB.out⟩
  have HY : Hid ((∀ j, j < ts.length → okT ts nx j = true) → G = true) := GY.out (possZ_iff.2 (by omega)) (possZ_iff.2 (by omega)) hm
  have hmi : ¬ (30 : Int) < (ts.length : Int) := by omega
  clear GM GY GN GF hm
  go_enter Tryz.func65, Tryz.ntmps65
  go_wp2_with fail
  go_loop [33] (fun i => ∃ k : Nat, k ≤ ts.length ∧ i = .int .i64 (k : Int) ∧ ∀ j, j < k → okT ts nx j = true) (fun i => ts.length - (intOf i).toNat)
  case atStart => exact ⟨0, Nat.zero_le _, rfl, fun j hj => absurd hj (Nat.not_lt_zero _)⟩
  case round =>
    obtain ⟨k, hk, rfl, hall⟩ := hrel
    have HA : Hid (∀ j, j < k → okT ts nx j = true) := hall
    clear hall
    rcases Nat.lt_or_ge k ts.length with hlt | hge
    · obtain ⟨b, off, rfl, hc⟩ := HS.out k hlt
      have HX := HK.out k _ rfl
      have HQ : Hid (okT ts nx k = false → G = false) := fun h => GX.out k hlt h
      have hlti : (k : Int) < (ts.length : Int) := by omega
      have HC2 := HCI.out k (ts.getD k 0) hk
      have hki : (k : Int) ≤ 1000000 := by omega
      generalize ts.getD k 0 = x at *
      obtain ⟨O, hO⟩ : ∃ O, okT ts nx k = O := ⟨_, rfl⟩
      have HO : Hid (okT ts nx k = O) := hO
      rw [hO] at HX HQ
      clear hO
      by_cases x1 : x < 1
      · have HG : Hid (G = false) := HQ.out (by rw [HX, decide_eq_false (p := 1 ≤ x) (by omega)]; rfl)
        clear HX HQ HY GX HK HS HC2 HCI
        go_wp2_with fail
        go_ret
        exact ⟨by rw [HG.out]; rfl, HB.out⟩
      by_cases x2 : nx ≤ x
      · have HG : Hid (G = false) := HQ.out (by rw [HX, decide_eq_false (p := x < nx) (by omega), Bool.and_false]; rfl)
        clear HX HQ HY GX HK HS HC2 HCI
        go_wp2_with fail
        go_ret
        exact ⟨by rw [HG.out]; rfl, HB.out⟩
      have HX2 : Hid (O = !((ts.take k).contains x)) := by show _ = _; rw [HX, decide_eq_true (p := 1 ≤ x) (by omega), decide_eq_true (p := x < nx) (by omega)]; rfl
      have HC3 : Hid ((ts.take k).contains x = true ↔ ∃ j, j < k ∧ ts.getD j 0 = x) := HC2
      clear HX HK HC2 HCI
      go_wp2_with fail
      go_loop [5] (fun i => ∃ j : Nat, j ≤ k ∧ i = .int .i64 (j : Int) ∧ ∀ q, q < j → ts.getD q 0 ≠ x) (fun i => k - (intOf i).toNat)
      case atStart => exact ⟨0, Nat.zero_le _, rfl, fun j hj => absurd hj (Nat.not_lt_zero _)⟩
      case round =>
        obtain ⟨j, hj, rfl, hno⟩ := hrel
        have HN : Hid (∀ q, q < j → ts.getD q 0 ≠ x) := hno
        clear hno
        rcases Nat.lt_or_ge j k with hjk | hjk
        · obtain ⟨b', off', e', hcj⟩ := HS.out j (by omega)
          cases e'
          have hjki : (j : Int) < (k : Int) := by omega
          have hjl : (j : Int) < (ts.length : Int) := by omega
          obtain ⟨y, hy⟩ : ∃ y, ts.getD j 0 = y := ⟨_, rfl⟩
          have HYY : Hid (ts.getD j 0 = y) := hy
          rw [hy] at hcj
          clear hy
          by_cases hxy : y = x
          · subst hxy
            have HG : Hid (G = false) := HQ.out (by rw [HX2.out, HC3.out.2 ⟨j, hjk, HYY.out⟩]; rfl)
            clear HQ HY GX HS HX2 HC3
            go_wp2_with fail
            go_ret
            exact ⟨by rw [HG.out]; rfl, HB.out⟩
          · have hxb : (y == x) = false := by rw [beq_eq_false_iff_ne]; exact hxy
            have HNE : Hid (y ≠ x) := hxy
            go_wp2_with fail
            go_round
            case rel =>
              refine ⟨j + 1, by omega, by go_num, fun q hq => ?_⟩
              by_cases e : q = j
              · subst e; rw [HYY.out]; exact HNE.out
              · exact HN.out q (by omega)
            case measure => (simp [intOf]; try omega)
        · obtain rfl : k = j := by omega
          have HG : Hid (O = true) := by
            show _ = _
            rw [HX2.out]
            cases hct : (ts.take k).contains x with
            | false => rfl
            | true =>
              obtain ⟨q, hq, e⟩ := HC3.out.1 hct
              exact absurd e (HN.out q hq)
          have hge' : ¬ (k : Int) < (k : Int) := by omega
          go_wp2_with fail
          go_round
          case rel =>
            refine ⟨k + 1, by omega, by go_num, fun q hq => ?_⟩
            by_cases e : q = k
            · subst e; exact HO.out.trans HG.out
            · exact HA.out q (by omega)
          case measure => (simp [intOf]; try omega)
    · obtain rfl : k = ts.length := by omega
      have HG : Hid (G = true) := HY.out HA.out
      clear HY GX HA HK HS HCI
      go_wp2_with fail
      go_ret
      exact ⟨by rw [HG.out]; rfl, HB.out⟩
end Go.Proofs.YtgkdodcidancpaaGreatDoor

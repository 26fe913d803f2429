/-
  SEVERAL TEXTS IN ONE: DskTieK, DskTurn.
-/
import Derived.Test.YtgkdodcidancpaaGreatDoorMany30
import Derived.Test.YtgkdodcidancpaaGreatDoorMany17
import Derived.Test.YtgkdodcidancpaaGreatDoorMany18
namespace Go.Proofs.YtgkdodcidancpaaGreatDoor
open Go.RowKit Go.Maps Go.WideAt Go.WideShapes

/-- How many of the first j lines are a file's. -/
def cntM (M : List Ln) (nm : List UInt8) (j : Nat) : Nat := ((M.take j).filter (fun x => x.2.1 == nm)).length
def lostC (t : Sig) (c : Nat) : Nat := if c = 0 then t.wr else min t.bs.length ((t.wr / 16 + c) * 16)
def keptC (t : Sig) (c : Nat) : Sig := ⟨t.nm, t.bs, lostC t c, []⟩
theorem lnF_sorted {t : Sig} (h : t.pl.Pairwise (· < ·)) : (lnF t).Pairwise (fun x y => x.1 < y.1) := by
  rw [← lnF_fst, List.pairwise_map] at h
  exact h
theorem lnF_filter_mine (t : Sig) (nm : List UInt8) (h : t.nm = nm) : (lnF t).filter (fun x => x.2.1 == nm) = lnF t := by
  rw [List.filter_eq_self]
  intro x hx
  have := lnF_name hx
  simp [this, h]
theorem lnOf_filter_none {l : List Sig} {nm : List UInt8} (h : ∀ x ∈ l, x.nm ≠ nm) : (lnOf l).filter (fun x => x.2.1 == nm) = [] := by
  rw [List.filter_eq_nil_iff]
  intro x hx
  obtain ⟨t, ht, hx⟩ := List.mem_flatMap.1 hx
  have := lnF_name hx
  simp [this, h t ht]
theorem find_mine {sp : List Sig} (hN : sp.Pairwise (fun x y => x.nm ≠ y.nm)) {t : Sig} (h : t ∈ sp) : findT sp t.nm = some t := by
  induction sp with
  | nil => cases h
  | cons y r ih =>
    rw [List.pairwise_cons] at hN
    rw [findT_cons]
    rcases List.mem_cons.1 h with rfl | h
    · rw [if_pos rfl]
    · rw [if_neg (hN.1 t h), ih hN.2 h]
/-- A file's own lines, in the order of all. -/
theorem mine_eq {sp : List Sig} {M : List Ln} (hM : M.Pairwise (fun x y => x.1 < y.1)) (hp : M.Perm (lnOf sp)) (hN : sp.Pairwise (fun x y => x.nm ≠ y.nm)) {t : Sig} (ht : t ∈ sp) (hr : t.pl.Pairwise (· < ·)) : M.filter (fun x => x.2.1 == t.nm) = lnF t := by
  obtain ⟨a, b, hab, hn, ha, hb⟩ := find_split hN (find_mine hN ht)
  have h1 : (M.filter (fun x => x.2.1 == t.nm)).Perm (lnF t) := by
    have := hp.filter (fun x => x.2.1 == t.nm)
    rw [hab, lnOf_app, lnOf_cons, List.filter_append, List.filter_append, lnOf_filter_none ha, lnOf_filter_none hb, lnF_filter_mine t t.nm rfl, List.nil_append, List.append_nil] at this
    exact this
  exact h1.eq_of_pairwise (fun x y _ _ h2 h3 => absurd h2 (by omega)) (hM.filter _) (lnF_sorted hr)
theorem mine_split {M : List Ln} {nm : List UInt8} {j : Nat} (h : j < M.length) : M.filter (fun x => x.2.1 == nm) = (M.take j).filter (fun x => x.2.1 == nm) ++ (M[j] :: M.drop (j + 1)).filter (fun x => x.2.1 == nm) := by
  conv => lhs; rw [← List.take_append_drop j M, List.drop_eq_getElem_cons h]
  rw [List.filter_append]
theorem cnt_step {M : List Ln} {nm : List UInt8} {j : Nat} (h : j < M.length) : cntM M nm (j + 1) = cntM M nm j + (if M[j].2.1 = nm then 1 else 0) := by
  unfold cntM
  rw [List.take_succ_eq_append_getElem h, List.filter_append, List.length_append]
  congr 1
  by_cases e : M[j].2.1 = nm
  · simp [e]
  · simp [e]
/-- The next line of a file is that of its next sector. -/
theorem mine_next {sp : List Sig} {M : List Ln} (hM : M.Pairwise (fun x y => x.1 < y.1)) (hp : M.Perm (lnOf sp)) (hN : sp.Pairwise (fun x y => x.nm ≠ y.nm)) {t : Sig} (ht : t ∈ sp) (hr : t.pl.Pairwise (· < ·)) {j : Nat} (h : j < M.length) (e : M[j].2.1 = t.nm) : M[j].2.2 = t.wr / 16 + cntM M t.nm j := by
  have h1 := mine_eq hM hp hN ht hr
  rw [mine_split h, List.filter_cons_of_pos (by simp [e])] at h1
  have h2 : (lnF t)[cntM M t.nm j]? = some M[j] := by
    rw [← h1, List.getElem?_append_right (by unfold cntM; omega)]
    unfold cntM
    simp
  unfold lnF at h2
  rw [List.getElem?_map, List.getElem?_zipIdx] at h2
  cases hq : t.pl[cntM M t.nm j]? with
  | none => rw [hq] at h2; cases h2
  | some q =>
    rw [hq] at h2
    simp only [Option.map_some, Option.some.injEq, Nat.zero_add] at h2
    rw [← h2]
theorem findT_keptC (sp : List Sig) (f : List UInt8 → Nat) (nm : List UInt8) : findT (sp.map fun t => keptC t (f t.nm)) nm = (findT sp nm).map fun t => keptC t (f t.nm) := by
  unfold findT
  rw [List.find?_map]
  rfl
/-- What is written behind the first j lines. -/
theorem kept_lines {sp : List Sig} {M : List Ln} (hM : M.Pairwise (fun x y => x.1 < y.1)) (hp : M.Perm (lnOf sp)) (hN : sp.Pairwise (fun x y => x.nm ≠ y.nm)) (hr : ∀ t ∈ sp, t.pl.Pairwise (· < ·)) :
    ∀ j, j ≤ M.length → keepL (sp.map strip) ((M.take j).map (·.2)) = sp.map fun t => keptC t (cntM M t.nm j)
  | 0, _ => by
    have : ∀ t : Sig, keptC t (cntM M t.nm 0) = strip t := fun t => rfl
    simp only [this]
    rfl
  | j + 1, hj => by
    have ih := kept_lines hM hp hN hr j (by omega)
    have hlt : j < M.length := by omega
    rw [List.take_succ_eq_append_getElem hlt, List.map_append]
    unfold keepL at ih ⊢
    rw [List.foldl_append, ih]
    show keepS _ M[j].2 = _
    obtain ⟨t, ht, hx⟩ := List.mem_flatMap.1 (hp.mem_iff.1 (List.getElem_mem hlt))
    have hn := lnF_name hx
    have hs := mine_next hM hp hN ht (hr t ht) hlt hn
    unfold keepS
    have hf : findT (sp.map fun t => keptC t (cntM M t.nm j)) M[j].2.1 = some (keptC t (cntM M t.nm j)) := by
      rw [findT_keptC sp (fun nm => cntM M nm j), hn, find_mine hN ht]
      rfl
    rw [hf]
    simp only
    unfold upd
    rw [List.map_map]
    refine List.map_congr_left fun x hx => ?_
    simp only [Function.comp]
    rw [cnt_step hlt]
    have en : (keptC x (cntM M x.nm j)).nm = x.nm := rfl
    rw [en, hn]
    by_cases e : x.nm = t.nm
    · have h5 := find_mine hN hx
      rw [e, find_mine hN ht] at h5
      cases h5
      have e2 : (t.nm == t.nm) = true := by simp
      have e3 : keptC t (cntM M t.nm j + 1) = ⟨t.nm, t.bs, min ((t.wr / 16 + cntM M t.nm j + 1) * 16) t.bs.length, []⟩ := by
        unfold keptC lostC
        rw [if_neg (Nat.succ_ne_zero _), Nat.min_comm]
        rfl
      simp only [e2, if_true, hs]
      rw [e3]
      rfl
    · have e2 : (x.nm == t.nm) = false := by simp [e]
      have e3 : ¬ t.nm = x.nm := fun h => e h.symm
      simp only [e2, if_neg e3, Nat.add_zero]
      rfl
/-- The places below the end are the first lines. -/
theorem kept_cnt {sp : List Sig} {M : List Ln} (hM : M.Pairwise (fun x y => x.1 < y.1)) (hp : M.Perm (lnOf sp)) (hN : sp.Pairwise (fun x y => x.nm ≠ y.nm)) {t : Sig} (ht : t ∈ sp) (hr : t.pl.Pairwise (· < ·)) {j x : Nat} (h1 : ∀ y ∈ M.take j, y.1 < x) (h2 : ∀ y ∈ M.drop j, x ≤ y.1) : keptT t x = cntM M t.nm j := by
  have h3 := mine_eq hM hp hN ht hr
  unfold keptT cntM
  rw [← lnF_fst, List.countP_map, ← h3]
  conv => lhs; rw [← List.take_append_drop j M]
  rw [List.filter_append, List.countP_append, List.countP_eq_length.2 (fun y hy => by
    have := h1 y (List.mem_filter.1 hy).1
    simpa using this)]
  rw [List.countP_eq_zero.2 (fun y hy => by
    have := h2 y (List.mem_filter.1 hy).1
    simpa using this)]
  rfl
theorem sorted_lines {sp : List Sig} {M : List Ln} (hM : M.Pairwise (fun x y => x.1 < y.1)) (hp : M.Perm (lnOf sp)) : (linesT sp).mergeSort (fun a b => decide (a ≤ b)) = M.map (·.1) := by
  have h1 : (linesT sp).Perm (M.map (·.1)) := by
    rw [← lnOf_fst]
    exact (hp.map _).symm
  refine ((List.mergeSort_perm _ _).trans h1).eq_of_pairwise (le := fun a b => decide (a ≤ b) = true) (fun a b _ _ h2 h3 => ?_) (List.pairwise_mergeSort (fun a b c h2 h3 => ?_) (fun a b => ?_) _) ?_
  · simp only [decide_eq_true_eq] at h2 h3; omega
  · simp only [decide_eq_true_eq] at h2 h3 ⊢; omega
  · simp only [Bool.or_eq_true, decide_eq_true_eq]; omega
  · rw [List.pairwise_map]
    exact hM.imp fun h => by simp only [decide_eq_true_eq]; omega
/-- Where a failure ends: behind the first lines. -/
theorem end_cuts {A : Ab} {M : List Ln} (hM : M.Pairwise (fun x y => x.1 < y.1)) (hp : M.Perm (lnOf A.sp)) (ha : ∀ y ∈ M, y.1 < A.next) (k : Nat) : (∀ y ∈ M.take k, y.1 < endT A k) ∧ ∀ y ∈ M.drop k, endT A k ≤ y.1 := by
  have hl : (linesT A.sp).length = M.length := by
    rw [← lnOf_fst, List.length_map, hp.length_eq]
  unfold endT
  rw [hl, sorted_lines hM hp]
  by_cases h : M.length ≤ k
  · rw [if_pos h, List.drop_of_length_le h]
    exact ⟨fun y hy => ha y (List.mem_of_mem_take hy), fun y hy => by cases hy⟩
  · have hk : k < M.length := by omega
    have e : (M.map (·.1)).getD k 0 = M[k].1 := by
      rw [List.getD_eq_getElem?_getD, List.getElem?_map, List.getElem?_eq_getElem hk]
      rfl
    rw [if_neg h, e]
    have h1 : (M.take k ++ M[k] :: M.drop (k + 1)).Pairwise (fun x y => x.1 < y.1) := by
      rw [← List.drop_eq_getElem_cons hk, List.take_append_drop]
      exact hM
    rw [List.pairwise_append, List.pairwise_cons] at h1
    refine ⟨fun y hy => h1.2.2 y hy _ List.mem_cons_self, fun y hy => ?_⟩
    rw [List.drop_eq_getElem_cons hk] at hy
    rcases List.mem_cons.1 hy with rfl | hy
    · exact Nat.le_refl _
    · have := h1.2.1.1 y hy
      omega
theorem Tie.places {A : Ab} {Q : RA} (h : Tie A Q) {M : List Ln} (hp : M.Perm (lnOf A.sp)) : ∀ y ∈ M, y.1 < A.next := fun x hx => by
  obtain ⟨t', ht', h6⟩ := List.mem_flatMap.1 (hp.mem_iff.1 hx)
  have : x.1 ∈ (lnF t').map (·.1) := List.mem_map.2 ⟨x, h6, rfl⟩
  rw [lnF_fst] at this
  exact h.ahead t' ht' _ this
theorem take_take_min {α : Type} (l : List α) (k : Nat) : l.take k = l.take (min k l.length) := by
  by_cases h : k ≤ l.length
  · rw [Nat.min_eq_left h]
  · rw [Nat.min_eq_right (by omega), List.take_of_length_le (by omega), List.take_length]
theorem lost_le {t : Sig} (h : t.wr ≤ t.bs.length) (x : Nat) : lostT t x ≤ t.bs.length := by
  unfold lostT
  split
  · exact h
  · exact Nat.min_le_left _ _
/-- The power fails. -/
theorem Tie.crash {A : Ab} {Q : RA} (h : Tie A Q) (hon : A.on = true) (k : Int) : Tie { A with on := false, sp := A.sp.map fun t => loseT t (endT A k.toNat) } (crashQ Q k) := by
  obtain ⟨M, h1, h2, h3⟩ := h.line
  have hoff : Q.off = false := by rw [h.off, hon]; rfl
  have hL : (keepL Q.L (Q.line.take k.toNat)).map cutS = (A.sp.map fun t => loseT t (endT A k.toNat)).map strip := by
    have e1 : Q.line.take k.toNat = (M.take (min k.toNat M.length)).map (·.2) := by
      rw [← h2, ← List.map_take, ← take_take_min]
    rw [e1, h.L, kept_lines h1 h3 h.ne h.rise _ (Nat.min_le_right _ _), List.map_map, List.map_map]
    obtain ⟨c1, c2⟩ := end_cuts h1 h3 (h.places h3) k.toNat
    refine List.map_congr_left fun t ht => ?_
    have hk : keptT t (endT A k.toNat) = cntM M t.nm (min k.toNat M.length) := by
      rw [kept_cnt h1 h3 h.ne ht (h.rise t ht) c1 c2]
      unfold cntM
      rw [← take_take_min]
    simp only [Function.comp]
    unfold cutS keptC strip loseT lostT lostC
    rw [hk]
  have e : crashQ Q k = { Q with L := (keepL Q.L (Q.line.take k.toNat)).map cutS, line := [], off := true } := by
    unfold crashQ
    rw [hoff]
    rfl
  rw [e]
  have hln : lnOf (A.sp.map fun t => loseT t (endT A k.toNat)) = [] := by
    unfold lnOf
    rw [List.flatMap_eq_nil_iff]
    intro x hx
    obtain ⟨t, _, rfl⟩ := List.mem_map.1 hx
    rfl
  refine ⟨hL, h.room, h.ops, fun hh => (by cases hh), h.keep, rfl, ⟨[], List.Pairwise.nil, rfl, by rw [hln]⟩, ?_, fun x hx => ?_, fun x hx => ?_, fun x hx => ?_, fun x hx => ?_⟩
  · show (A.sp.map fun t => loseT t (endT A k.toNat)).Pairwise _
    rw [List.pairwise_map]
    exact h.sorted
  · obtain ⟨t, ht, rfl⟩ := List.mem_map.1 hx
    have := lost_le (h.wr t ht) (endT A k.toNat)
    show 0 = secs (lostT t _) (t.bs.take (lostT t _)).length
    rw [List.length_take, Nat.min_eq_left this]
    simp [secs]
  · obtain ⟨t, ht, rfl⟩ := List.mem_map.1 hx
    have := lost_le (h.wr t ht) (endT A k.toNat)
    show lostT t _ ≤ (t.bs.take (lostT t _)).length
    rw [List.length_take, Nat.min_eq_left this]
    exact Nat.le_refl _
  · obtain ⟨t, ht, rfl⟩ := List.mem_map.1 hx
    intro p hp; cases hp
  · obtain ⟨t, ht, rfl⟩ := List.mem_map.1 hx
    exact List.Pairwise.nil
/-- The power fails within an operation that did nothing. -/
theorem Tie.cut {A : Ab} {Q : RA} (h : Tie A Q) (hon : A.on = true) : Tie { A with on := false, ops := A.ops + 1, sp := A.sp.map fun t => loseT t (endT A A.keep.toNat) } (crashQ (turnQ Q) Q.keep) := by
  have hoff : Q.off = false := by rw [h.off, hon]; rfl
  have c := h.crash hon Q.keep
  have ek := h.keep
  have e1 : crashQ Q Q.keep = { Q with L := (keepL Q.L (Q.line.take Q.keep.toNat)).map cutS, line := [], off := true } := by
    unfold crashQ
    rw [hoff]
    rfl
  have e2 : crashQ (turnQ Q) Q.keep = { turnQ Q with L := (keepL Q.L (Q.line.take Q.keep.toNat)).map cutS, line := [], off := true } := by
    unfold crashQ
    rw [show (turnQ Q).off = false from hoff]
    rfl
  rw [e1] at c
  rw [e2, ← ek]
  refine ⟨c.L, c.room, by show Q.ops + 1 = _; rw [h.ops], fun hh => (by cases hh), rfl, c.off, c.line, c.sorted, c.pls, c.wr, c.ahead, c.rise⟩
end Go.Proofs.YtgkdodcidancpaaGreatDoor
namespace Go.Proofs.YtgkdodcidancpaaGreatDoor
open Go.RowKit Go.Maps

/-- The power failed within an operation that did nothing. -/
def cutA (A : Ab) : Ab := { A with on := false, ops := A.ops + 1, sp := A.sp.map fun t => loseT t (endT A A.keep.toNat) }
/-- Bytes were appended, where a plan stands. -/
def apL (A : Ab) (nm : List UInt8) (t : Sig) (l : List UInt8) : Ab := { appT A nm t l with left := A.left }
/-- The power fails. -/
def offA (A : Ab) (k : Nat) : Ab := { A with on := false, sp := A.sp.map fun t => loseT t (endT A k) }
def turnX (A : Ab) (q : Int × Ab) : Int × Ab := if A.left = 1 ∧ q.1 = 0 then (9, cutA A) else q
def createX (A : Ab) (s : ByteArray) : Int × Ab := turnX A (createM A s)
def syncX (A : Ab) (s : ByteArray) : Int × Ab := turnX A (syncM A s)
def removeX (A : Ab) (s : ByteArray) : Int × Ab := turnX A (removeM A s)
def renameX (A : Ab) (s u : ByteArray) : Int × Ab := turnX A (renameM A s u)
def appendX (A : Ab) (s : ByteArray) (l : List UInt8) : Int × Ab :=
  if A.left = 1 ∧ (appendM A s l).1 = 0 then
    match findT A.sp (nameOf s) with
    | none => (4, A)
    | some t => (9, offA (apL A (nameOf s) t l) A.keep.toNat)
  else appendM A s l
def armX (A : Ab) (n m : Int) : Int × Ab := if A.on then (if n < 0 then (2, A) else (0, { A with left := n.toNat, keep := m })) else (9, A)
theorem turnX_bad {A : Ab} {q : Int × Ab} (h : q.1 ≠ 0) : turnX A q = q := by unfold turnX; rw [if_neg (fun hh => h hh.2)]
theorem turnX_ok {A : Ab} {q : Int × Ab} (h : A.left ≠ 1) : turnX A q = q := by unfold turnX; rw [if_neg (fun hh => h hh.1)]
theorem turnX_cut {A : Ab} {q : Int × Ab} (h : A.left = 1) (h2 : q.1 = 0) : turnX A q = (9, cutA A) := by unfold turnX; rw [if_pos ⟨h, h2⟩]
theorem end_st {A : Ab} {fs : List Ent} (hs : fs.map sig = A.sp) (k : Nat) : lineEndN (A.st fs) k = endT A k := by
  unfold lineEndN endT
  show (if (linesOf fs).length ≤ _ then _ else ((linesOf fs).mergeSort _).getD _ _) = _
  rw [lines_sig, hs]
  rfl
theorem lose_map {fs : List Ent} {sp : List Sig} (hs : fs.map sig = sp) (x : Nat) : (fs.map fun e => loseE e x).map sig = sp.map fun t => loseT t x := by
  rw [List.map_map, ← hs, List.map_map]
  rfl
theorem foot_lose {d bm : Nat} {fs : List Ent} {x : Nat} {i : Nat} (hi : i ∈ foot d bm (fs.map fun e => loseE e x)) : i ∈ foot d bm fs := by
  simp only [foot, List.mem_cons] at hi ⊢
  refine hi.imp id fun h => h.imp id fun h => ?_
  obtain ⟨y, hy, hi⟩ := feet_mem.1 h
  obtain ⟨e, he, rfl⟩ := List.mem_map.1 hy
  exact feet_mem.2 ⟨e, he, lose_foot hi⟩
theorem out_cut {w w' : World} {d bm : Nat} {A : Ab} {fs : List Ent} (hs : fs.map sig = A.sp) {x : Ending} (h : Cut w d bm (A.st fs) x w') : Out d (foot d bm fs) w (9, cutA A) x w' := by
  obtain ⟨rfl, h1, h2⟩ := h
  have he : lineEndN (A.st fs) (A.st fs).keep.toNat = endT A A.keep.toNat := end_st hs _
  rw [he] at h1
  refine ⟨rfl, _, ⟨bm, _, h1, lose_map hs _, rfl⟩, h2.sub fun i hi => foot_lose hi⟩
section
variable {d : Nat} {A : Ab} {ft : List Nat} {w : World} (h : At d A ft w) (s : ByteArray) (hs : s.size ≤ maxLen)
include h hs
theorem any_create (hF : A.Fine) (ho : A.ops ≤ 4611686018427387904) (hlm : A.left ≤ 9223372036854775807) (hkp : -9223372036854775808 ≤ A.keep ∧ A.keep ≤ 9223372036854775807) :
    Calls Tryz.prog 27 #[.pointer (some ⟨d, 0, none⟩), .string s] w (Out d ft w (createX A s)) := by
  by_cases hl : A.left = 1
  · have h0 := h
    obtain ⟨bm, fs, hD, hss, rfl⟩ := h
    have hlen : fs.length = A.sp.length := by rw [← hss, List.length_map]
    have hu : sumUsed fs = usedT A.sp := by rw [used_sig, hss]
    have keep : ∀ {c : Int} {x : Ending} {w' : World}, x = .returned (.int .i64 c) ∧ DiskAt w' d bm (A.st fs) ∧ Moved w w' (foot d bm (A.st fs).fs) (foot d bm (A.st fs).fs) → Out d (foot d bm fs) w (c, A) x w' := fun hh => ⟨hh.1, _, ⟨bm, fs, hh.2.1, hss, rfl⟩, hh.2.2⟩
    unfold createX createM
    by_cases hc : refuse A.on [s] = 0
    · rw [if_pos hc]
      cases ht : findT A.sp (nameOf s) with
      | none =>
        have hf := find_sig_none hss ht
        simp only
        by_cases hm : 48 ≤ A.sp.length
        · rw [if_pos (.inl hm), turnX_bad (by show (7 : Int) ≠ 0; decide)]
          exact (create_many hD s hs hc hf (by show 48 ≤ fs.length; omega)).mono fun _ _ hh => keep hh
        · by_cases hr : A.room ≤ usedT A.sp
          · rw [if_pos (.inr hr), turnX_bad (by show (7 : Int) ≠ 0; decide)]
            exact (create_full hD s hs hc hf (by show fs.length < 48; omega) (by show A.room ≤ sumUsed fs; omega) (hF.st hss).used hF.room).mono fun _ _ hh => keep hh
          · rw [if_neg (by omega), turnX_cut hl rfl]
            exact (create_new_cut hD s hs hc hf (by show fs.length < 48; omega) (by show sumUsed fs < A.room; omega) hF.room hl ho (hF.st hss) hkp).mono fun _ _ hh => out_cut hss hh
      | some t =>
        obtain ⟨e, he, _⟩ := find_sig_some hss ht
        simp only
        rw [turnX_cut hl rfl]
        by_cases hm : 48 ≤ A.sp.length
        · exact (create_again_many_cut hD s hs hc he (by show 48 ≤ fs.length; omega) hl ho (hF.st hss) hkp).mono fun _ _ hh => out_cut hss hh
        · exact (create_again_cut hD s hs hc he (by show fs.length < 48; omega) (hF.st hss).used hF.room hl ho (hF.st hss) hkp).mono fun _ _ hh => out_cut hss hh
    · rw [if_neg hc, turnX_bad hc]
      exact (create_refused hD s hs rfl hc).mono fun _ _ hh => keep hh
  · unfold createX
    rw [turnX_ok hl]
    exact abx_create h s hs hF hl ho hlm
theorem any_sync (hF : A.Fine) (ho : A.ops ≤ 4611686018427387904) (hlm : A.left ≤ 9223372036854775807) (hkp : -9223372036854775808 ≤ A.keep ∧ A.keep ≤ 9223372036854775807) :
    Calls Tryz.prog 31 #[.pointer (some ⟨d, 0, none⟩), .string s] w (Out d ft w (syncX A s)) := by
  by_cases hl : A.left = 1
  · have h0 := h
    obtain ⟨bm, fs, hD, hss, rfl⟩ := h
    unfold syncX syncM
    by_cases hc : refuse A.on [s] = 0
    · rw [if_pos hc]
      cases ht : findT A.sp (nameOf s) with
      | none =>
        simp only
        rw [turnX_bad (by show (4 : Int) ≠ 0; decide)]
        exact (sync_none hD s hs hc (find_sig_none hss ht)).mono fun _ _ hh => Out.same h0 hh
      | some t =>
        obtain ⟨e, he, _⟩ := find_sig_some hss ht
        simp only
        rw [turnX_cut hl rfl]
        exact (sync_cut hD s hs hc he hl ho (hF.st hss) hkp).mono fun _ _ hh => out_cut hss hh
    · rw [if_neg hc, turnX_bad hc]
      exact (sync_refused hD s hs rfl hc).mono fun _ _ hh => Out.same h0 hh
  · unfold syncX
    rw [turnX_ok hl]
    exact abx_sync h s hs hl ho hlm
theorem any_rename (u : ByteArray) (hu : u.size ≤ maxLen) (hF : A.Fine) (ho : A.ops ≤ 4611686018427387904) (hlm : A.left ≤ 9223372036854775807) (hkp : -9223372036854775808 ≤ A.keep ∧ A.keep ≤ 9223372036854775807) :
    Calls Tryz.prog 33 #[.pointer (some ⟨d, 0, none⟩), .string s, .string u] w (Out d ft w (renameX A s u)) := by
  by_cases hl : A.left = 1
  · have h0 := h
    obtain ⟨bm, fs, hD, hss, rfl⟩ := h
    have keep : ∀ {c : Int} {x : Ending} {w' : World}, x = .returned (.int .i64 c) ∧ DiskAt w' d bm (A.st fs) ∧ Moved w w' (foot d bm (A.st fs).fs) (foot d bm (A.st fs).fs) → Out d (foot d bm fs) w (c, A) x w' := fun hh => ⟨hh.1, _, ⟨bm, fs, hh.2.1, hss, rfl⟩, hh.2.2⟩
    unfold renameX renameM
    by_cases hc : refuse A.on [s, u] = 0
    · rw [if_pos hc]
      cases ht : findT A.sp (nameOf s) with
      | none =>
        simp only
        rw [turnX_bad (by show (4 : Int) ≠ 0; decide)]
        exact (rename_none hD s u hs hu hc (refuse_two hc) (find_sig_none hss ht)).mono fun _ _ hh => keep hh
      | some t =>
        obtain ⟨e, he, _⟩ := find_sig_some hss ht
        simp only
        rw [turnX_cut hl rfl]
        exact (rename_cut hD s u hs hu hc (refuse_two hc) he hl ho (hF.st hss) hkp).mono fun _ _ hh => out_cut hss hh
    · rw [if_neg hc, turnX_bad hc]
      exact (rename_refused hD s u hs hu rfl hc).mono fun _ _ hh => keep hh
  · unfold renameX
    rw [turnX_ok hl]
    exact abx_rename h s hs u hu hF hl ho hlm
theorem any_append (ao : Option Addr) (l : List UInt8) (c : Nat) (hb : Sees w ao l) (hne : ∀ a, ao = some a → 0 < l.length → a.block ∉ ft) (hF : A.Fine) (ho : A.ops ≤ 4611686018427387904) (hlm : A.left ≤ 9223372036854775807) (hkp : -9223372036854775808 ≤ A.keep ∧ A.keep ≤ 9223372036854775807) (hnx : A.next ≤ 4611686018427387904) (hlen : ∀ t ∈ A.sp, t.bs.length + l.length ≤ 1099511627776)
    (hF2 : ∀ t, findT A.sp (nameOf s) = some t → ¬ (A.room : Int) - (usedT A.sp : Int) < lackT t l → (apL A (nameOf s) t l).Fine) :
    Calls Tryz.prog 29 #[.pointer (some ⟨d, 0, none⟩), .string s, .slice ao l.length c] w (Out d ft w (appendX A s l)) := by
  by_cases hq : A.left = 1 ∧ (appendM A s l).1 = 0
  · obtain ⟨hl, h2⟩ := hq
    unfold appendX
    rw [if_pos ⟨hl, h2⟩]
    obtain ⟨bm, fs, hD, hss, rfl⟩ := h
    unfold appendM at h2
    by_cases hc : refuse A.on [s] = 0
    · rw [if_pos hc] at h2
      cases ht : findT A.sp (nameOf s) with
      | none => rw [ht] at h2; cases h2
      | some t =>
        rw [ht] at h2
        simp only at h2 ⊢
        by_cases hfull : (A.room : Int) - (usedT A.sp : Int) < lackT t l
        · rw [if_pos hfull] at h2; cases h2
        have hFA := hF2 t ht hfull
        obtain ⟨e, he, rfl⟩ := find_sig_some hss ht
        obtain ⟨hm, hn⟩ := find_some he
        have hme : sig e ∈ A.sp := hss ▸ List.mem_map.2 ⟨e, hm, rfl⟩
        have hu : sumUsed fs = usedT A.sp := by rw [used_sig, hss]
        have hfull' : decide ((A.room : Int) - (sumUsed fs : Int) < secI ((e.bs.length : Int) + (l.length : Int)) - secI (e.bs.length : Int)) = false := by
          rw [hu]
          exact decide_eq_false hfull
        have hsg : ∀ e' : Ent, e'.nm = e.nm → e'.bs = e.bs ++ l → e'.wr = e.wr → e'.pl = e.pl ++ List.range' A.next (growS e l) → (swap fs e e').map sig = (apL A (nameOf s) (sig e) l).sp := fun e' a1 a3 a4 a5 => by
          have hsw : (swap fs e e').map sig = upd (fs.map sig) e.nm (sig e') := swap_sig (S := A.st fs) hD hm
          rw [hsw, hss, hn]
          have : sig e' = ⟨nameOf s, (sig e).bs ++ l, (sig e).wr, (sig e).pl ++ List.range' A.next (growT (sig e) l)⟩ := by
            unfold sig
            rw [a1, a3, a4, a5, hn]
            rfl
          rw [this]
          rfl
        refine (append_cut hD s hs ao l c hb hc he hne hl ho hkp (fun e' a1 a2 a3 a4 a5 => hFA.st (fs := swap fs e e') (hsg e' a1 a3 a4 a5)) (hlen _ hme) hnx (hF.pln hme) (Nat.le_trans (hF.wr _ hme) (hF.len _ hme)) hF.room (hF.st hss).used hfull').mono ?_
        rintro x w' ⟨rfl, e', a1, a2, a3, a4, a5, S1, rfl, a6, a7⟩
        have hg := hsg e' a1 a3 a4 a5
        have he1 : lineEndN ((apL A (nameOf s) (sig e) l).st (swap fs e e')) A.keep.toNat = endT (apL A (nameOf s) (sig e) l) A.keep.toNat := end_st hg _
        refine ⟨rfl, foot d bm ((swap fs e e').map fun y => loseE y (endT (apL A (nameOf s) (sig e) l) A.keep.toNat)), ⟨bm, _, ?_, lose_map hg _, rfl⟩, ?_⟩
        · rw [← he1]
          exact a6
        · rw [← he1]
          exact a7
    · rw [if_neg hc] at h2
      exact absurd h2 hc
  · unfold appendX
    rw [if_neg hq]
    by_cases hl : A.left = 1
    · have h2 : (appendM A s l).1 ≠ 0 := fun hh => hq ⟨hl, hh⟩
      have h0 := h
      obtain ⟨bm, fs, hD, hss, rfl⟩ := h
      unfold appendM at h2 ⊢
      by_cases hc : refuse A.on [s] = 0
      · rw [if_pos hc] at h2 ⊢
        cases ht : findT A.sp (nameOf s) with
        | none => exact (append_none hD s hs ao l.length c hc (find_sig_none hss ht)).mono fun _ _ hh => Out.same h0 hh
        | some t =>
          rw [ht] at h2
          simp only at h2 ⊢
          by_cases hfull : (A.room : Int) - (usedT A.sp : Int) < lackT t l
          · rw [if_pos hfull]
            obtain ⟨e, he, rfl⟩ := find_sig_some hss ht
            have hme : sig e ∈ A.sp := hss ▸ List.mem_map.2 ⟨e, (find_some he).1, rfl⟩
            have hu : sumUsed fs = usedT A.sp := by rw [used_sig, hss]
            have hfull' : decide ((A.room : Int) - (sumUsed fs : Int) < secI ((e.bs.length : Int) + (l.length : Int)) - secI (e.bs.length : Int)) = true := by
              rw [hu]
              exact decide_eq_true hfull
            refine (append_full hD s hs ao l c hb hc he (hlen _ hme) hF.room (hF.st hss).used hfull').mono ?_
            rintro x w' ⟨rfl, h1, h2⟩
            exact ⟨rfl, _, ⟨bm, fs, h1, hss, rfl⟩, h2⟩
          · rw [if_neg hfull] at h2
            exact absurd rfl h2
      · rw [if_neg hc]
        exact (append_refused hD s hs ao l.length c rfl hc).mono fun _ _ hh => Out.same h0 hh
    · exact abx_append h s hs ao l c hb hne hF hl ho hlm hnx hlen
omit hs in
theorem any_crash (hF : A.Fine) (k : Int) (hk1 : -9223372036854775808 ≤ k) (hk2 : k ≤ 9223372036854775807) : Calls Tryz.prog 97 #[.pointer (some ⟨d, 0, none⟩), .int .i64 k] w fun x w' => x = .returned (.tuple #[]) ∧ ∃ ft', At d (if A.on then offA A k.toNat else A) ft' w' ∧ Moved w w' ft ft' := by
  cases hon : A.on
  · obtain ⟨bm, fs, hD, hss, rfl⟩ := h
    refine (crash_off hD hon k).mono ?_
    rintro x w' ⟨rfl, rfl⟩
    exact ⟨rfl, _, ⟨bm, fs, hD, hss, rfl⟩, Moved.refl _ _⟩
  · exact ab_crash h hon hF k hk1 hk2
omit hs in
theorem any_arm (n m : Int) : Calls Tryz.prog 7 #[.pointer (some ⟨d, 0, none⟩), .int .i64 n, .int .i64 m] w (Out d ft w (armX A n m)) := by
  have h0 := h
  obtain ⟨bm, fs, hD, hss, rfl⟩ := h
  unfold armX
  by_cases hon : A.on = true
  · rw [if_pos hon]
    by_cases hn : n < 0
    · rw [if_pos hn]
      refine (arm_arg hD n m hon hn).mono ?_
      rintro x w' ⟨rfl, rfl⟩
      exact ⟨rfl, _, h0, Moved.refl _ _⟩
    · rw [if_neg hn]
      obtain ⟨k, rfl⟩ : ∃ k : Nat, n = (k : Int) := ⟨n.toNat, by omega⟩
      refine (arm_ok hD k m hon).mono ?_
      rintro x w' ⟨rfl, h1, h2⟩
      exact ⟨rfl, _, ⟨bm, fs, h1, hss, rfl⟩, h2.wider (fun i hi => .inl (by simp at hi; simp [foot, hi])) (fun i hi => .inl hi)⟩
  · rw [if_neg hon]
    refine (arm_refused hD n m (by show A.on = false; simpa using hon)).mono ?_
    rintro x w' ⟨rfl, rfl⟩
    exact ⟨rfl, _, h0, Moved.refl _ _⟩
end
end Go.Proofs.YtgkdodcidancpaaGreatDoor

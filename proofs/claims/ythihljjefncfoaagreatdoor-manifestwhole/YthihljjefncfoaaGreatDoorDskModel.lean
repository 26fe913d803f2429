/-
  THE DISK, ABSTRACTLY: each call as a function of the disk, for every input, nothing planned.
-/
import Derived.Test.YthihljjefncfoaaGreatDoorDskKeepsP
import Derived.Test.YthihljjefncfoaaGreatDoorDskRename
import Derived.Test.YthihljjefncfoaaGreatDoorDskSpoilE
namespace Go.Proofs.YthihljjefncfoaaGreatDoor
open Go.RowKit Go.Maps

def rmT (A : Ab) (nm : List UInt8) : Ab := { A with ops := A.ops + 1, left := A.left - 1, sp := dropT A.sp nm }
def rnT (A : Ab) (nm to : List UInt8) (t : Sig) : Ab := { A with ops := A.ops + 1, left := A.left - 1, sp := putT (dropT A.sp nm) ⟨to, t.bs, t.wr, t.pl⟩ }
def spT (A : Ab) (nm : List UInt8) (t : Sig) (i k : Nat) : Ab := { A with sp := upd A.sp nm ⟨nm, t.bs.set i (flipB (t.bs.getD i 0) k), t.wr, t.pl⟩ }
def createM (A : Ab) (s : ByteArray) : Int × Ab :=
  if refuse A.on [s] = 0 then
    match findT A.sp (nameOf s) with
    | none => if 48 ≤ A.sp.length ∨ A.room ≤ usedT A.sp then (7, A) else (0, crT A (nameOf s))
    | some _ => (0, crT A (nameOf s))
  else (refuse A.on [s], A)
def appendM (A : Ab) (s : ByteArray) (l : List UInt8) : Int × Ab :=
  if refuse A.on [s] = 0 then
    match findT A.sp (nameOf s) with
    | none => (4, A)
    | some t => if (A.room : Int) - (usedT A.sp : Int) < lackT t l then (7, A) else (0, appT A (nameOf s) t l)
  else (refuse A.on [s], A)
def syncM (A : Ab) (s : ByteArray) : Int × Ab :=
  if refuse A.on [s] = 0 then
    match findT A.sp (nameOf s) with
    | none => (4, A)
    | some t => (0, syT A (nameOf s) t)
  else (refuse A.on [s], A)
def removeM (A : Ab) (s : ByteArray) : Int × Ab :=
  if refuse A.on [s] = 0 then
    match findT A.sp (nameOf s) with
    | none => (4, A)
    | some _ => (0, rmT A (nameOf s))
  else (refuse A.on [s], A)
def renameM (A : Ab) (s u : ByteArray) : Int × Ab :=
  if refuse A.on [s, u] = 0 then
    match findT A.sp (nameOf s) with
    | none => (4, A)
    | some t => (0, rnT A (nameOf s) (nameOf u) t)
  else (refuse A.on [s, u], A)
def spoilM (A : Ab) (s : ByteArray) (i k : Int) : Int × Ab :=
  if refuse A.on [s] = 0 then
    match findT A.sp (nameOf s) with
    | none => (4, A)
    | some t => if i < 0 ∨ (t.bs.length : Int) ≤ i ∨ k < 0 ∨ 7 < k then (2, A) else (0, spT A (nameOf s) t i.toNat k.toNat)
  else (refuse A.on [s], A)
/-- A call that answered a number. -/
def Out (d : Nat) (ft : List Nat) (w : World) (r : Int × Ab) (x : Ending) (w' : World) : Prop := x = .returned (.int .i64 r.1) ∧ ∃ ft', At d r.2 ft' w' ∧ Moved w w' ft ft'
theorem refuse_two {on : Bool} {s u : ByteArray} (h : refuse on [s, u] = 0) : refuse on [s] = 0 := by
  unfold refuse at h ⊢
  cases on
  · simp at h
  · simp only [if_true] at h ⊢
    split at h
    · rename_i h1
      rw [if_pos (by simp at h1 ⊢; exact h1.1)]
    · cases h
theorem used_len {sp : List Sig} {t : Sig} (h : t ∈ sp) : 1 + (t.bs.length + 15) / 16 ≤ usedT sp := List.single_le_sum_nat (List.mem_map.2 ⟨t, h, rfl⟩)
theorem findT_mem {sp : List Sig} {nm : List UInt8} {t : Sig} (h : findT sp nm = some t) : t ∈ sp ∧ t.nm = nm := ⟨List.mem_of_find?_eq_some h, by simpa using List.find?_some h⟩
theorem len_used (sp : List Sig) : sp.length ≤ usedT sp := by
  unfold usedT
  induction sp with
  | nil => exact Nat.zero_le _
  | cons x r ih => simp only [List.length_cons, List.map_cons, List.sum_cons]; omega
section
variable {d : Nat} {A : Ab} {ft : List Nat} {w : World} (h : At d A ft w) (s : ByteArray) (hs : s.size ≤ maxLen)
include h hs
theorem abx_create (hF : A.Fine) (hl : A.left ≠ 1) (ho : A.ops ≤ 4611686018427387904) (hlm : A.left ≤ 9223372036854775807) :
    Calls Tryz.prog 33 #[.pointer (some ⟨d, 0, none⟩), .string s] w (Out d ft w (createM A s)) := by
  have h0 := h
  obtain ⟨bm, fs, hD, hss, rfl⟩ := h
  have hlen : fs.length = A.sp.length := by rw [← hss, List.length_map]
  have hu : sumUsed fs = usedT A.sp := by rw [used_sig, hss]
  have hn : A.sp.length < maxLen := by have := len_used A.sp; have := hF.used; unfold maxLen; omega
  have keep : ∀ {c : Int} {x : Ending} {w' : World}, x = .returned (.int .i64 c) ∧ DiskAt w' d bm (A.st fs) ∧ Moved w w' (foot d bm (A.st fs).fs) (foot d bm (A.st fs).fs) → Out d (foot d bm fs) w (c, A) x w' := fun hh => ⟨hh.1, _, ⟨bm, fs, hh.2.1, hss, rfl⟩, hh.2.2⟩
  have done : ∀ {x : Ending} {w' : World}, (x = .returned (.int .i64 0) ∧ ∃ b, DiskAt w' d bm { A.st fs with ops := (A.st fs).ops + 1, left := (A.st fs).left - 1, fs := putE (A.st fs).fs (newE (nameOf s) b) } ∧ Moved w w' (foot d bm (A.st fs).fs) (foot d bm (putE (A.st fs).fs (newE (nameOf s) b)))) → Out d (foot d bm fs) w (0, crT A (nameOf s)) x w' := by
    rintro x w' ⟨rfl, b, h1, h2⟩
    refine ⟨rfl, _, ⟨bm, _, h1, ?_, rfl⟩, h2⟩
    show (putE fs _).map sig = _
    rw [put_sig, hss]
    rfl
  unfold createM
  by_cases hc : refuse A.on [s] = 0
  · rw [if_pos hc]
    cases ht : findT A.sp (nameOf s) with
    | none =>
      have hf := find_sig_none hss ht
      simp only
      by_cases hm : 48 ≤ A.sp.length
      · rw [if_pos (.inl hm)]
        exact (create_many hD s hs hc hf (by show 48 ≤ fs.length; omega)).mono fun _ _ hh => keep hh
      · by_cases hr : A.room ≤ usedT A.sp
        · rw [if_pos (.inr hr)]
          exact (create_full hD s hs hc hf (by show fs.length < 48; omega) (by show A.room ≤ sumUsed fs; omega) (hF.st hss).used hF.room).mono fun _ _ hh => keep hh
        · rw [if_neg (by omega)]
          exact (create_new hD s hs hc hf (by show fs.length < 48; omega) (by show sumUsed fs < A.room; omega) hF.room hl ho hlm).mono fun _ _ hh => done hh
    | some t =>
      obtain ⟨e, he, _⟩ := find_sig_some hss ht
      simp only
      by_cases hm : 48 ≤ A.sp.length
      · exact (create_again_many hD s hs hc he (by show 48 ≤ fs.length; omega) hl ho hlm (by show fs.length < maxLen; omega)).mono fun _ _ hh => done hh
      · exact (create_again hD s hs hc he (by show fs.length < 48; omega) (hF.st hss).used hF.room hl ho hlm (by show fs.length < maxLen; omega)).mono fun _ _ hh => done hh
  · rw [if_neg hc]
    exact (create_refused hD s hs rfl hc).mono fun _ _ hh => keep hh
omit hs in
theorem Out.same {c : Int} {x : Ending} {w' : World} (hh : x = .returned (.int .i64 c) ∧ w.grownBy w' none) : Out d ft w (c, A) x w' := ⟨hh.1, ft, h.grown hh.2, Moved.none_of hh.2 _⟩
theorem abx_sync (hl : A.left ≠ 1) (ho : A.ops ≤ 4611686018427387904) (hlm : A.left ≤ 9223372036854775807) :
    Calls Tryz.prog 37 #[.pointer (some ⟨d, 0, none⟩), .string s] w (Out d ft w (syncM A s)) := by
  have h0 := h
  obtain ⟨bm, fs, hD, hss, rfl⟩ := h
  unfold syncM
  by_cases hc : refuse A.on [s] = 0
  · rw [if_pos hc]
    cases ht : findT A.sp (nameOf s) with
    | none => exact (sync_none hD s hs hc (find_sig_none hss ht)).mono fun _ _ hh => Out.same h0 hh
    | some t => exact ab_sync h0 s hs hc ht hl ho hlm
  · rw [if_neg hc]
    exact (sync_refused hD s hs rfl hc).mono fun _ _ hh => Out.same h0 hh
theorem abx_rename (u : ByteArray) (hu : u.size ≤ maxLen) (hF : A.Fine) (hl : A.left ≠ 1) (ho : A.ops ≤ 4611686018427387904) (hlm : A.left ≤ 9223372036854775807) :
    Calls Tryz.prog 39 #[.pointer (some ⟨d, 0, none⟩), .string s, .string u] w (Out d ft w (renameM A s u)) := by
  have h0 := h
  obtain ⟨bm, fs, hD, hss, rfl⟩ := h
  have hlen : fs.length = A.sp.length := by rw [← hss, List.length_map]
  have hn : A.sp.length < maxLen := by have := len_used A.sp; have := hF.used; unfold maxLen; omega
  have keep : ∀ {c : Int} {x : Ending} {w' : World}, x = .returned (.int .i64 c) ∧ DiskAt w' d bm (A.st fs) ∧ Moved w w' (foot d bm (A.st fs).fs) (foot d bm (A.st fs).fs) → Out d (foot d bm fs) w (c, A) x w' := fun hh => ⟨hh.1, _, ⟨bm, fs, hh.2.1, hss, rfl⟩, hh.2.2⟩
  unfold renameM
  by_cases hc : refuse A.on [s, u] = 0
  · rw [if_pos hc]
    cases ht : findT A.sp (nameOf s) with
    | none => exact (rename_none hD s u hs hu hc (refuse_two hc) (find_sig_none hss ht)).mono fun _ _ hh => keep hh
    | some t =>
      obtain ⟨e, he, rfl⟩ := find_sig_some hss ht
      refine (rename_ok hD s u hs hu hc (refuse_two hc) he hl ho hlm (by show fs.length < maxLen; omega)).mono ?_
      rintro x w' ⟨rfl, h1, h2⟩
      refine ⟨rfl, _, ⟨bm, _, h1, ?_, rfl⟩, h2⟩
      show (putE (dropE fs _) _).map sig = _
      rw [put_sig, drop_sig, hss]
      rfl
  · rw [if_neg hc]
    exact (rename_refused hD s u hs hu rfl hc).mono fun _ _ hh => keep hh
theorem abx_append (ao : Option Addr) (l : List UInt8) (c : Nat) (hb : Sees w ao l) (hne : ∀ a, ao = some a → 0 < l.length → a.block ∉ ft) (hF : A.Fine) (hl : A.left ≠ 1) (ho : A.ops ≤ 4611686018427387904) (hlm : A.left ≤ 9223372036854775807) (hnx : A.next ≤ 4611686018427387904) (hlen : ∀ t ∈ A.sp, t.bs.length + l.length ≤ 1099511627776) :
    Calls Tryz.prog 35 #[.pointer (some ⟨d, 0, none⟩), .string s, .slice ao l.length c] w (Out d ft w (appendM A s l)) := by
  have h0 := h
  obtain ⟨bm, fs, hD, hss, rfl⟩ := h
  unfold appendM
  by_cases hc : refuse A.on [s] = 0
  · rw [if_pos hc]
    cases ht : findT A.sp (nameOf s) with
    | none => exact (append_none hD s hs ao l.length c hc (find_sig_none hss ht)).mono fun _ _ hh => Out.same h0 hh
    | some t =>
      simp only
      by_cases hfull : (A.room : Int) - (usedT A.sp : Int) < lackT t l
      · rw [if_pos hfull]
        obtain ⟨e, he, rfl⟩ := find_sig_some hss ht
        have hm := (find_some he).1
        have hme : sig e ∈ A.sp := hss ▸ List.mem_map.2 ⟨e, hm, rfl⟩
        have hu : sumUsed fs = usedT A.sp := by rw [used_sig, hss]
        have hfull' : decide ((A.room : Int) - (sumUsed fs : Int) < secI ((e.bs.length : Int) + (l.length : Int)) - secI (e.bs.length : Int)) = true := by
          rw [hu]
          exact decide_eq_true hfull
        refine (append_ok hD s hs ao l c hb hc he hne hl ho hlm (hlen _ hme) hnx (hF.pln hme) (Nat.le_trans (hF.wr _ hme) (hF.len _ hme)) hF.room (hF.st hss).used true hfull').mono ?_
        rintro x w' ⟨rfl, h1, h2⟩
        exact ⟨rfl, _, ⟨bm, fs, h1, hss, rfl⟩, h2⟩
      · rw [if_neg hfull]
        exact ab_append h0 s hs ao l c hb hne hc ht hl ho hlm hF (hlen t (findT_mem ht).1) hnx (by omega)
  · rw [if_neg hc]
    exact (append_refused hD s hs ao l.length c rfl hc).mono fun _ _ hh => Out.same h0 hh
end
end Go.Proofs.YthihljjefncfoaaGreatDoor

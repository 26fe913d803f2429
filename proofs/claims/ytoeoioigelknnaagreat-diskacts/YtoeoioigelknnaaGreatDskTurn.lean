/-
  THE DISK, ABSTRACTLY: each call, whatever is planned.
-/
import Derived.Test.YtoeoioigelknnaaGreatMany11
import Derived.Test.YtoeoioigelknnaaGreatDskCut
import Derived.Test.YtoeoioigelknnaaGreatMany12
namespace Go.Proofs.YtoeoioigelknnaaGreat
open Go.RowKit Go.Maps

/-- The power failed within an operation that did nothing. -/
def cutA (A : Ab) : Ab := { A with on := false, ops := A.ops + 1, sp := A.sp.map fun t => loseT t (endT A A.keep.toNat) }
/-- Bytes were appended, where a plan stands. -/
def apL (A : Ab) (nm : List UInt8) (t : Sig) (l : List UInt8) : Ab := { appT A nm t l with left := A.left }
/-- The power fails. -/
def offA (A : Ab) (k : Nat) : Ab := { A with on := false, sp := A.sp.map fun t => loseT t (endT A k) }
def turnX (A : Ab) (q : Int × Ab) : Int × Ab := if A.left = 1 ∧ q.1 = 0 then (9, cutA A) else q
def createX (A : Ab) (s : ByteArray) : Int × Ab := turnX A (createM A s)
def syncX (A : Ab) (s : ByteArray) : Int × Ab := turnX A (syncM A s)
def removeX (A : Ab) (s : ByteArray) : Int × Ab := turnX A (removeM A s)
def renameX (A : Ab) (s u : ByteArray) : Int × Ab := turnX A (renameM A s u)
def appendX (A : Ab) (s : ByteArray) (l : List UInt8) : Int × Ab :=
  if A.left = 1 ∧ (appendM A s l).1 = 0 then
    match findT A.sp (nameOf s) with
    | none => (4, A)
    | some t => (9, offA (apL A (nameOf s) t l) A.keep.toNat)
  else appendM A s l
def armX (A : Ab) (n m : Int) : Int × Ab := if A.on then (if n < 0 then (2, A) else (0, { A with left := n.toNat, keep := m })) else (9, A)
theorem turnX_bad {A : Ab} {q : Int × Ab} (h : q.1 ≠ 0) : turnX A q = q := by unfold turnX; rw [if_neg (fun hh => h hh.2)]
theorem turnX_ok {A : Ab} {q : Int × Ab} (h : A.left ≠ 1) : turnX A q = q := by unfold turnX; rw [if_neg (fun hh => h hh.1)]
theorem turnX_cut {A : Ab} {q : Int × Ab} (h : A.left = 1) (h2 : q.1 = 0) : turnX A q = (9, cutA A) := by unfold turnX; rw [if_pos ⟨h, h2⟩]
theorem end_st {A : Ab} {fs : List Ent} (hs : fs.map sig = A.sp) (k : Nat) : lineEndN (A.st fs) k = endT A k := by
  unfold lineEndN endT
  show (if (linesOf fs).length ≤ _ then _ else ((linesOf fs).mergeSort _).getD _ _) = _
  rw [lines_sig, hs]
  rfl
theorem lose_map {fs : List Ent} {sp : List Sig} (hs : fs.map sig = sp) (x : Nat) : (fs.map fun e => loseE e x).map sig = sp.map fun t => loseT t x := by
  rw [List.map_map, ← hs, List.map_map]
  rfl
theorem foot_lose {d bm : Nat} {fs : List Ent} {x : Nat} {i : Nat} (hi : i ∈ foot d bm (fs.map fun e => loseE e x)) : i ∈ foot d bm fs := by
  simp only [foot, List.mem_cons] at hi ⊢
  refine hi.imp id fun h => h.imp id fun h => ?_
  obtain ⟨y, hy, hi⟩ := feet_mem.1 h
  obtain ⟨e, he, rfl⟩ := List.mem_map.1 hy
  exact feet_mem.2 ⟨e, he, lose_foot hi⟩
theorem out_cut {w w' : World} {d bm : Nat} {A : Ab} {fs : List Ent} (hs : fs.map sig = A.sp) {x : Ending} (h : Cut w d bm (A.st fs) x w') : Out d (foot d bm fs) w (9, cutA A) x w' := by
  obtain ⟨rfl, h1, h2⟩ := h
  have he : lineEndN (A.st fs) (A.st fs).keep.toNat = endT A A.keep.toNat := end_st hs _
  rw [he] at h1
  refine ⟨rfl, _, ⟨bm, _, h1, lose_map hs _, rfl⟩, h2.sub fun i hi => foot_lose hi⟩
section
variable {d : Nat} {A : Ab} {ft : List Nat} {w : World} (h : At d A ft w) (s : ByteArray) (hs : s.size ≤ maxLen)
include h hs
theorem any_create (hF : A.Fine) (ho : A.ops ≤ 4611686018427387904) (hlm : A.left ≤ 9223372036854775807) (hkp : -9223372036854775808 ≤ A.keep ∧ A.keep ≤ 9223372036854775807) :
    Calls Tryz.prog 18 #[.pointer (some ⟨d, 0, none⟩), .string s] w (Out d ft w (createX A s)) := by
  by_cases hl : A.left = 1
  · have h0 := h
    obtain ⟨bm, fs, hD, hss, rfl⟩ := h
    have hlen : fs.length = A.sp.length := by rw [← hss, List.length_map]
    have hu : sumUsed fs = usedT A.sp := by rw [used_sig, hss]
    have keep : ∀ {c : Int} {x : Ending} {w' : World}, x = .returned (.int .i64 c) ∧ DiskAt w' d bm (A.st fs) ∧ Moved w w' (foot d bm (A.st fs).fs) (foot d bm (A.st fs).fs) → Out d (foot d bm fs) w (c, A) x w' := fun hh => ⟨hh.1, _, ⟨bm, fs, hh.2.1, hss, rfl⟩, hh.2.2⟩
    unfold createX createM
    by_cases hc : refuse A.on [s] = 0
    · rw [if_pos hc]
      cases ht : findT A.sp (nameOf s) with
      | none =>
        have hf := find_sig_none hss ht
        simp only
        by_cases hm : 48 ≤ A.sp.length
        · rw [if_pos (.inl hm), turnX_bad (by show (7 : Int) ≠ 0; decide)]
          exact (create_many hD s hs hc hf (by show 48 ≤ fs.length; omega)).mono fun _ _ hh => keep hh
        · by_cases hr : A.room ≤ usedT A.sp
          · rw [if_pos (.inr hr), turnX_bad (by show (7 : Int) ≠ 0; decide)]
            exact (create_full hD s hs hc hf (by show fs.length < 48; omega) (by show A.room ≤ sumUsed fs; omega) (hF.st hss).used hF.room).mono fun _ _ hh => keep hh
          · rw [if_neg (by omega), turnX_cut hl rfl]
            exact (create_new_cut hD s hs hc hf (by show fs.length < 48; omega) (by show sumUsed fs < A.room; omega) hF.room hl ho (hF.st hss) hkp).mono fun _ _ hh => out_cut hss hh
      | some t =>
        obtain ⟨e, he, _⟩ := find_sig_some hss ht
        simp only
        rw [turnX_cut hl rfl]
        by_cases hm : 48 ≤ A.sp.length
        · exact (create_again_many_cut hD s hs hc he (by show 48 ≤ fs.length; omega) hl ho (hF.st hss) hkp).mono fun _ _ hh => out_cut hss hh
        · exact (create_again_cut hD s hs hc he (by show fs.length < 48; omega) (hF.st hss).used hF.room hl ho (hF.st hss) hkp).mono fun _ _ hh => out_cut hss hh
    · rw [if_neg hc, turnX_bad hc]
      exact (create_refused hD s hs rfl hc).mono fun _ _ hh => keep hh
  · unfold createX
    rw [turnX_ok hl]
    exact abx_create h s hs hF hl ho hlm
theorem any_sync (hF : A.Fine) (ho : A.ops ≤ 4611686018427387904) (hlm : A.left ≤ 9223372036854775807) (hkp : -9223372036854775808 ≤ A.keep ∧ A.keep ≤ 9223372036854775807) :
    Calls Tryz.prog 20 #[.pointer (some ⟨d, 0, none⟩), .string s] w (Out d ft w (syncX A s)) := by
  by_cases hl : A.left = 1
  · have h0 := h
    obtain ⟨bm, fs, hD, hss, rfl⟩ := h
    unfold syncX syncM
    by_cases hc : refuse A.on [s] = 0
    · rw [if_pos hc]
      cases ht : findT A.sp (nameOf s) with
      | none =>
        simp only
        rw [turnX_bad (by show (4 : Int) ≠ 0; decide)]
        exact (sync_none hD s hs hc (find_sig_none hss ht)).mono fun _ _ hh => Out.same h0 hh
      | some t =>
        obtain ⟨e, he, _⟩ := find_sig_some hss ht
        simp only
        rw [turnX_cut hl rfl]
        exact (sync_cut hD s hs hc he hl ho (hF.st hss) hkp).mono fun _ _ hh => out_cut hss hh
    · rw [if_neg hc, turnX_bad hc]
      exact (sync_refused hD s hs rfl hc).mono fun _ _ hh => Out.same h0 hh
  · unfold syncX
    rw [turnX_ok hl]
    exact abx_sync h s hs hl ho hlm
theorem any_remove (hF : A.Fine) (ho : A.ops ≤ 4611686018427387904) (hlm : A.left ≤ 9223372036854775807) (hkp : -9223372036854775808 ≤ A.keep ∧ A.keep ≤ 9223372036854775807) :
    Calls Tryz.prog 32 #[.pointer (some ⟨d, 0, none⟩), .string s] w (Out d ft w (removeX A s)) := by
  by_cases hl : A.left = 1
  · have h0 := h
    obtain ⟨bm, fs, hD, hss, rfl⟩ := h
    unfold removeX removeM
    by_cases hc : refuse A.on [s] = 0
    · rw [if_pos hc]
      cases ht : findT A.sp (nameOf s) with
      | none =>
        simp only
        rw [turnX_bad (by show (4 : Int) ≠ 0; decide)]
        exact (remove_none hD s hs hc (find_sig_none hss ht)).mono fun _ _ hh => Out.same h0 hh
      | some t =>
        obtain ⟨e, he, _⟩ := find_sig_some hss ht
        simp only
        rw [turnX_cut hl rfl]
        exact (remove_cut hD s hs hc he hl ho (hF.st hss) hkp).mono fun _ _ hh => out_cut hss hh
    · rw [if_neg hc, turnX_bad hc]
      exact (remove_refused hD s hs rfl hc).mono fun _ _ hh => Out.same h0 hh
  · unfold removeX
    rw [turnX_ok hl]
    exact abx_remove h s hs hl ho hlm
theorem any_rename (u : ByteArray) (hu : u.size ≤ maxLen) (hF : A.Fine) (ho : A.ops ≤ 4611686018427387904) (hlm : A.left ≤ 9223372036854775807) (hkp : -9223372036854775808 ≤ A.keep ∧ A.keep ≤ 9223372036854775807) :
    Calls Tryz.prog 30 #[.pointer (some ⟨d, 0, none⟩), .string s, .string u] w (Out d ft w (renameX A s u)) := by
  by_cases hl : A.left = 1
  · have h0 := h
    obtain ⟨bm, fs, hD, hss, rfl⟩ := h
    have keep : ∀ {c : Int} {x : Ending} {w' : World}, x = .returned (.int .i64 c) ∧ DiskAt w' d bm (A.st fs) ∧ Moved w w' (foot d bm (A.st fs).fs) (foot d bm (A.st fs).fs) → Out d (foot d bm fs) w (c, A) x w' := fun hh => ⟨hh.1, _, ⟨bm, fs, hh.2.1, hss, rfl⟩, hh.2.2⟩
    unfold renameX renameM
    by_cases hc : refuse A.on [s, u] = 0
    · rw [if_pos hc]
      cases ht : findT A.sp (nameOf s) with
      | none =>
        simp only
        rw [turnX_bad (by show (4 : Int) ≠ 0; decide)]
        exact (rename_none hD s u hs hu hc (refuse_two hc) (find_sig_none hss ht)).mono fun _ _ hh => keep hh
      | some t =>
        obtain ⟨e, he, _⟩ := find_sig_some hss ht
        simp only
        rw [turnX_cut hl rfl]
        exact (rename_cut hD s u hs hu hc (refuse_two hc) he hl ho (hF.st hss) hkp).mono fun _ _ hh => out_cut hss hh
    · rw [if_neg hc, turnX_bad hc]
      exact (rename_refused hD s u hs hu rfl hc).mono fun _ _ hh => keep hh
  · unfold renameX
    rw [turnX_ok hl]
    exact abx_rename h s hs u hu hF hl ho hlm
theorem any_append (ao : Option Addr) (l : List UInt8) (c : Nat) (hb : Sees w ao l) (hne : ∀ a, ao = some a → 0 < l.length → a.block ∉ ft) (hF : A.Fine) (ho : A.ops ≤ 4611686018427387904) (hlm : A.left ≤ 9223372036854775807) (hkp : -9223372036854775808 ≤ A.keep ∧ A.keep ≤ 9223372036854775807) (hnx : A.next ≤ 4611686018427387904) (hlen : ∀ t ∈ A.sp, t.bs.length + l.length ≤ 1099511627776)
    (hF2 : ∀ t, findT A.sp (nameOf s) = some t → ¬ (A.room : Int) - (usedT A.sp : Int) < lackT t l → (apL A (nameOf s) t l).Fine) :
    Calls Tryz.prog 19 #[.pointer (some ⟨d, 0, none⟩), .string s, .slice ao l.length c] w (Out d ft w (appendX A s l)) := by
  by_cases hq : A.left = 1 ∧ (appendM A s l).1 = 0
  · obtain ⟨hl, h2⟩ := hq
    unfold appendX
    rw [if_pos ⟨hl, h2⟩]
    obtain ⟨bm, fs, hD, hss, rfl⟩ := h
    unfold appendM at h2
    by_cases hc : refuse A.on [s] = 0
    · rw [if_pos hc] at h2
      cases ht : findT A.sp (nameOf s) with
      | none => rw [ht] at h2; cases h2
      | some t =>
        rw [ht] at h2
        simp only at h2 ⊢
        by_cases hfull : (A.room : Int) - (usedT A.sp : Int) < lackT t l
        · rw [if_pos hfull] at h2; cases h2
        have hFA := hF2 t ht hfull
        obtain ⟨e, he, rfl⟩ := find_sig_some hss ht
        obtain ⟨hm, hn⟩ := find_some he
        have hme : sig e ∈ A.sp := hss ▸ List.mem_map.2 ⟨e, hm, rfl⟩
        have hu : sumUsed fs = usedT A.sp := by rw [used_sig, hss]
        have hfull' : decide ((A.room : Int) - (sumUsed fs : Int) < secI ((e.bs.length : Int) + (l.length : Int)) - secI (e.bs.length : Int)) = false := by
          rw [hu]
          exact decide_eq_false hfull
        have hsg : ∀ e' : Ent, e'.nm = e.nm → e'.bs = e.bs ++ l → e'.wr = e.wr → e'.pl = e.pl ++ List.range' A.next (growS e l) → (swap fs e e').map sig = (apL A (nameOf s) (sig e) l).sp := fun e' a1 a3 a4 a5 => by
          have hsw : (swap fs e e').map sig = upd (fs.map sig) e.nm (sig e') := swap_sig (S := A.st fs) hD hm
          rw [hsw, hss, hn]
          have : sig e' = ⟨nameOf s, (sig e).bs ++ l, (sig e).wr, (sig e).pl ++ List.range' A.next (growT (sig e) l)⟩ := by
            unfold sig
            rw [a1, a3, a4, a5, hn]
            rfl
          rw [this]
          rfl
        refine (append_cut hD s hs ao l c hb hc he hne hl ho hkp (fun e' a1 a2 a3 a4 a5 => hFA.st (fs := swap fs e e') (hsg e' a1 a3 a4 a5)) (hlen _ hme) hnx (hF.pln hme) (Nat.le_trans (hF.wr _ hme) (hF.len _ hme)) hF.room (hF.st hss).used hfull').mono ?_
        rintro x w' ⟨rfl, e', a1, a2, a3, a4, a5, S1, rfl, a6, a7⟩
        have hg := hsg e' a1 a3 a4 a5
        have he1 : lineEndN ((apL A (nameOf s) (sig e) l).st (swap fs e e')) A.keep.toNat = endT (apL A (nameOf s) (sig e) l) A.keep.toNat := end_st hg _
        refine ⟨rfl, foot d bm ((swap fs e e').map fun y => loseE y (endT (apL A (nameOf s) (sig e) l) A.keep.toNat)), ⟨bm, _, ?_, lose_map hg _, rfl⟩, ?_⟩
        · rw [← he1]
          exact a6
        · rw [← he1]
          exact a7
    · rw [if_neg hc] at h2
      exact absurd h2 hc
  · unfold appendX
    rw [if_neg hq]
    by_cases hl : A.left = 1
    · have h2 : (appendM A s l).1 ≠ 0 := fun hh => hq ⟨hl, hh⟩
      have h0 := h
      obtain ⟨bm, fs, hD, hss, rfl⟩ := h
      unfold appendM at h2 ⊢
      by_cases hc : refuse A.on [s] = 0
      · rw [if_pos hc] at h2 ⊢
        cases ht : findT A.sp (nameOf s) with
        | none => exact (append_none hD s hs ao l.length c hc (find_sig_none hss ht)).mono fun _ _ hh => Out.same h0 hh
        | some t =>
          rw [ht] at h2
          simp only at h2 ⊢
          by_cases hfull : (A.room : Int) - (usedT A.sp : Int) < lackT t l
          · rw [if_pos hfull]
            obtain ⟨e, he, rfl⟩ := find_sig_some hss ht
            have hme : sig e ∈ A.sp := hss ▸ List.mem_map.2 ⟨e, (find_some he).1, rfl⟩
            have hu : sumUsed fs = usedT A.sp := by rw [used_sig, hss]
            have hfull' : decide ((A.room : Int) - (sumUsed fs : Int) < secI ((e.bs.length : Int) + (l.length : Int)) - secI (e.bs.length : Int)) = true := by
              rw [hu]
              exact decide_eq_true hfull
            refine (append_full hD s hs ao l c hb hc he (hlen _ hme) hF.room (hF.st hss).used hfull').mono ?_
            rintro x w' ⟨rfl, h1, h2⟩
            exact ⟨rfl, _, ⟨bm, fs, h1, hss, rfl⟩, h2⟩
          · rw [if_neg hfull] at h2
            exact absurd rfl h2
      · rw [if_neg hc]
        exact (append_refused hD s hs ao l.length c rfl hc).mono fun _ _ hh => Out.same h0 hh
    · exact abx_append h s hs ao l c hb hne hF hl ho hlm hnx hlen
omit hs in
theorem any_crash (hF : A.Fine) (k : Int) (hk1 : -9223372036854775808 ≤ k) (hk2 : k ≤ 9223372036854775807) : Calls Tryz.prog 21 #[.pointer (some ⟨d, 0, none⟩), .int .i64 k] w fun x w' => x = .returned (.tuple #[]) ∧ ∃ ft', At d (if A.on then offA A k.toNat else A) ft' w' ∧ Moved w w' ft ft' := by
  cases hon : A.on
  · obtain ⟨bm, fs, hD, hss, rfl⟩ := h
    refine (crash_off hD hon k).mono ?_
    rintro x w' ⟨rfl, rfl⟩
    exact ⟨rfl, _, ⟨bm, fs, hD, hss, rfl⟩, Moved.refl _ _⟩
  · exact ab_crash h hon hF k hk1 hk2
omit hs in
theorem any_arm (n m : Int) : Calls Tryz.prog 38 #[.pointer (some ⟨d, 0, none⟩), .int .i64 n, .int .i64 m] w (Out d ft w (armX A n m)) := by
  have h0 := h
  obtain ⟨bm, fs, hD, hss, rfl⟩ := h
  unfold armX
  by_cases hon : A.on = true
  · rw [if_pos hon]
    by_cases hn : n < 0
    · rw [if_pos hn]
      refine (arm_arg hD n m hon hn).mono ?_
      rintro x w' ⟨rfl, rfl⟩
      exact ⟨rfl, _, h0, Moved.refl _ _⟩
    · rw [if_neg hn]
      obtain ⟨k, rfl⟩ : ∃ k : Nat, n = (k : Int) := ⟨n.toNat, by omega⟩
      refine (arm_ok hD k m hon).mono ?_
      rintro x w' ⟨rfl, h1, h2⟩
      exact ⟨rfl, _, ⟨bm, fs, h1, hss, rfl⟩, h2.wider (fun i hi => .inl (by simp at hi; simp [foot, hi])) (fun i hi => .inl hi)⟩
  · rw [if_neg hon]
    refine (arm_refused hD n m (by show A.on = false; simpa using hon)).mono ?_
    rintro x w' ⟨rfl, rfl⟩
    exact ⟨rfl, _, h0, Moved.refl _ _⟩
end
end Go.Proofs.YtoeoioigelknnaaGreat

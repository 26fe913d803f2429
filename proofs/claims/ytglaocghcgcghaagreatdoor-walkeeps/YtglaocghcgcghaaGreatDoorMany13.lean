/-
  SEVERAL TEXTS IN ONE: DskTurn, WkNice, NumPlain, KeyRow.
-/
import Derived.Test.YtglaocghcgcghaaGreatDoorMany10
import Derived.Test.YtglaocghcgcghaaGreatDoorMany11
import Derived.Test.YtglaocghcgcghaaGreatDoorMany12
namespace Go.Proofs.YtglaocghcgcghaaGreatDoor
open Go.RowKit Go.Maps

/-- The power failed within an operation that did nothing. -/
def cutA (A : Ab) : Ab := { A with on := false, ops := A.ops + 1, sp := A.sp.map fun t => loseT t (endT A A.keep.toNat) }
/-- Bytes were appended, where a plan stands. -/
def apL (A : Ab) (nm : List UInt8) (t : Sig) (l : List UInt8) : Ab := { appT A nm t l with left := A.left }
/-- The power fails. -/
def offA (A : Ab) (k : Nat) : Ab := { A with on := false, sp := A.sp.map fun t => loseT t (endT A k) }
def turnX (A : Ab) (q : Int × Ab) : Int × Ab := if A.left = 1 ∧ q.1 = 0 then (9, cutA A) else q
def createX (A : Ab) (s : ByteArray) : Int × Ab := turnX A (createM A s)
def syncX (A : Ab) (s : ByteArray) : Int × Ab := turnX A (syncM A s)
def removeX (A : Ab) (s : ByteArray) : Int × Ab := turnX A (removeM A s)
def renameX (A : Ab) (s u : ByteArray) : Int × Ab := turnX A (renameM A s u)
def appendX (A : Ab) (s : ByteArray) (l : List UInt8) : Int × Ab :=
  if A.left = 1 ∧ (appendM A s l).1 = 0 then
    match findT A.sp (nameOf s) with
    | none => (4, A)
    | some t => (9, offA (apL A (nameOf s) t l) A.keep.toNat)
  else appendM A s l
def armX (A : Ab) (n m : Int) : Int × Ab := if A.on then (if n < 0 then (2, A) else (0, { A with left := n.toNat, keep := m })) else (9, A)
theorem turnX_bad {A : Ab} {q : Int × Ab} (h : q.1 ≠ 0) : turnX A q = q := by unfold turnX; rw [if_neg (fun hh => h hh.2)]
theorem turnX_ok {A : Ab} {q : Int × Ab} (h : A.left ≠ 1) : turnX A q = q := by unfold turnX; rw [if_neg (fun hh => h hh.1)]
theorem turnX_cut {A : Ab} {q : Int × Ab} (h : A.left = 1) (h2 : q.1 = 0) : turnX A q = (9, cutA A) := by unfold turnX; rw [if_pos ⟨h, h2⟩]
theorem end_st {A : Ab} {fs : List Ent} (hs : fs.map sig = A.sp) (k : Nat) : lineEndN (A.st fs) k = endT A k := by
  unfold lineEndN endT
  show (if (linesOf fs).length ≤ _ then _ else ((linesOf fs).mergeSort _).getD _ _) = _
  rw [lines_sig, hs]
  rfl
theorem lose_map {fs : List Ent} {sp : List Sig} (hs : fs.map sig = sp) (x : Nat) : (fs.map fun e => loseE e x).map sig = sp.map fun t => loseT t x := by
  rw [List.map_map, ← hs, List.map_map]
  rfl
theorem foot_lose {d bm : Nat} {fs : List Ent} {x : Nat} {i : Nat} (hi : i ∈ foot d bm (fs.map fun e => loseE e x)) : i ∈ foot d bm fs := by
  simp only [foot, List.mem_cons] at hi ⊢
  refine hi.imp id fun h => h.imp id fun h => ?_
  obtain ⟨y, hy, hi⟩ := feet_mem.1 h
  obtain ⟨e, he, rfl⟩ := List.mem_map.1 hy
  exact feet_mem.2 ⟨e, he, lose_foot hi⟩
theorem out_cut {w w' : World} {d bm : Nat} {A : Ab} {fs : List Ent} (hs : fs.map sig = A.sp) {x : Ending} (h : Cut w d bm (A.st fs) x w') : Out d (foot d bm fs) w (9, cutA A) x w' := by
  obtain ⟨rfl, h1, h2⟩ := h
  have he : lineEndN (A.st fs) (A.st fs).keep.toNat = endT A A.keep.toNat := end_st hs _
  rw [he] at h1
  refine ⟨rfl, _, ⟨bm, _, h1, lose_map hs _, rfl⟩, h2.sub fun i hi => foot_lose hi⟩
section
variable {d : Nat} {A : Ab} {ft : List Nat} {w : World} (h : At d A ft w) (s : ByteArray) (hs : s.size ≤ maxLen)
include h hs
theorem any_create (hF : A.Fine) (ho : A.ops ≤ 4611686018427387904) (hlm : A.left ≤ 9223372036854775807) (hkp : -9223372036854775808 ≤ A.keep ∧ A.keep ≤ 9223372036854775807) :
    Calls Tryz.prog 60 #[.pointer (some ⟨d, 0, none⟩), .string s] w (Out d ft w (createX A s)) := by
  by_cases hl : A.left = 1
  · have h0 := h
    obtain ⟨bm, fs, hD, hss, rfl⟩ := h
    have hlen : fs.length = A.sp.length := by rw [← hss, List.length_map]
    have hu : sumUsed fs = usedT A.sp := by rw [used_sig, hss]
    have keep : ∀ {c : Int} {x : Ending} {w' : World}, x = .returned (.int .i64 c) ∧ DiskAt w' d bm (A.st fs) ∧ Moved w w' (foot d bm (A.st fs).fs) (foot d bm (A.st fs).fs) → Out d (foot d bm fs) w (c, A) x w' := fun hh => ⟨hh.1, _, ⟨bm, fs, hh.2.1, hss, rfl⟩, hh.2.2⟩
    unfold createX createM
    by_cases hc : refuse A.on [s] = 0
    · rw [if_pos hc]
      cases ht : findT A.sp (nameOf s) with
      | none =>
        have hf := find_sig_none hss ht
        simp only
        by_cases hm : 48 ≤ A.sp.length
        · rw [if_pos (.inl hm), turnX_bad (by show (7 : Int) ≠ 0; decide)]
          exact (create_many hD s hs hc hf (by show 48 ≤ fs.length; omega)).mono fun _ _ hh => keep hh
        · by_cases hr : A.room ≤ usedT A.sp
          · rw [if_pos (.inr hr), turnX_bad (by show (7 : Int) ≠ 0; decide)]
            exact (create_full hD s hs hc hf (by show fs.length < 48; omega) (by show A.room ≤ sumUsed fs; omega) (hF.st hss).used hF.room).mono fun _ _ hh => keep hh
          · rw [if_neg (by omega), turnX_cut hl rfl]
            exact (create_new_cut hD s hs hc hf (by show fs.length < 48; omega) (by show sumUsed fs < A.room; omega) hF.room hl ho (hF.st hss) hkp).mono fun _ _ hh => out_cut hss hh
      | some t =>
        obtain ⟨e, he, _⟩ := find_sig_some hss ht
        simp only
        rw [turnX_cut hl rfl]
        by_cases hm : 48 ≤ A.sp.length
        · exact (create_again_many_cut hD s hs hc he (by show 48 ≤ fs.length; omega) hl ho (hF.st hss) hkp).mono fun _ _ hh => out_cut hss hh
        · exact (create_again_cut hD s hs hc he (by show fs.length < 48; omega) (hF.st hss).used hF.room hl ho (hF.st hss) hkp).mono fun _ _ hh => out_cut hss hh
    · rw [if_neg hc, turnX_bad hc]
      exact (create_refused hD s hs rfl hc).mono fun _ _ hh => keep hh
  · unfold createX
    rw [turnX_ok hl]
    exact abx_create h s hs hF hl ho hlm
theorem any_sync (hF : A.Fine) (ho : A.ops ≤ 4611686018427387904) (hlm : A.left ≤ 9223372036854775807) (hkp : -9223372036854775808 ≤ A.keep ∧ A.keep ≤ 9223372036854775807) :
    Calls Tryz.prog 51 #[.pointer (some ⟨d, 0, none⟩), .string s] w (Out d ft w (syncX A s)) := by
  by_cases hl : A.left = 1
  · have h0 := h
    obtain ⟨bm, fs, hD, hss, rfl⟩ := h
    unfold syncX syncM
    by_cases hc : refuse A.on [s] = 0
    · rw [if_pos hc]
      cases ht : findT A.sp (nameOf s) with
      | none =>
        simp only
        rw [turnX_bad (by show (4 : Int) ≠ 0; decide)]
        exact (sync_none hD s hs hc (find_sig_none hss ht)).mono fun _ _ hh => Out.same h0 hh
      | some t =>
        obtain ⟨e, he, _⟩ := find_sig_some hss ht
        simp only
        rw [turnX_cut hl rfl]
        exact (sync_cut hD s hs hc he hl ho (hF.st hss) hkp).mono fun _ _ hh => out_cut hss hh
    · rw [if_neg hc, turnX_bad hc]
      exact (sync_refused hD s hs rfl hc).mono fun _ _ hh => Out.same h0 hh
  · unfold syncX
    rw [turnX_ok hl]
    exact abx_sync h s hs hl ho hlm
theorem any_remove (hF : A.Fine) (ho : A.ops ≤ 4611686018427387904) (hlm : A.left ≤ 9223372036854775807) (hkp : -9223372036854775808 ≤ A.keep ∧ A.keep ≤ 9223372036854775807) :
    Calls Tryz.prog 37 #[.pointer (some ⟨d, 0, none⟩), .string s] w (Out d ft w (removeX A s)) := by
  by_cases hl : A.left = 1
  · have h0 := h
    obtain ⟨bm, fs, hD, hss, rfl⟩ := h
    unfold removeX removeM
    by_cases hc : refuse A.on [s] = 0
    · rw [if_pos hc]
      cases ht : findT A.sp (nameOf s) with
      | none =>
        simp only
        rw [turnX_bad (by show (4 : Int) ≠ 0; decide)]
        exact (remove_none hD s hs hc (find_sig_none hss ht)).mono fun _ _ hh => Out.same h0 hh
      | some t =>
        obtain ⟨e, he, _⟩ := find_sig_some hss ht
        simp only
        rw [turnX_cut hl rfl]
        exact (remove_cut hD s hs hc he hl ho (hF.st hss) hkp).mono fun _ _ hh => out_cut hss hh
    · rw [if_neg hc, turnX_bad hc]
      exact (remove_refused hD s hs rfl hc).mono fun _ _ hh => Out.same h0 hh
  · unfold removeX
    rw [turnX_ok hl]
    exact abx_remove h s hs hl ho hlm
theorem any_rename (u : ByteArray) (hu : u.size ≤ maxLen) (hF : A.Fine) (ho : A.ops ≤ 4611686018427387904) (hlm : A.left ≤ 9223372036854775807) (hkp : -9223372036854775808 ≤ A.keep ∧ A.keep ≤ 9223372036854775807) :
    Calls Tryz.prog 73 #[.pointer (some ⟨d, 0, none⟩), .string s, .string u] w (Out d ft w (renameX A s u)) := by
  by_cases hl : A.left = 1
  · have h0 := h
    obtain ⟨bm, fs, hD, hss, rfl⟩ := h
    have keep : ∀ {c : Int} {x : Ending} {w' : World}, x = .returned (.int .i64 c) ∧ DiskAt w' d bm (A.st fs) ∧ Moved w w' (foot d bm (A.st fs).fs) (foot d bm (A.st fs).fs) → Out d (foot d bm fs) w (c, A) x w' := fun hh => ⟨hh.1, _, ⟨bm, fs, hh.2.1, hss, rfl⟩, hh.2.2⟩
    unfold renameX renameM
    by_cases hc : refuse A.on [s, u] = 0
    · rw [if_pos hc]
      cases ht : findT A.sp (nameOf s) with
      | none =>
        simp only
        rw [turnX_bad (by show (4 : Int) ≠ 0; decide)]
        exact (rename_none hD s u hs hu hc (refuse_two hc) (find_sig_none hss ht)).mono fun _ _ hh => keep hh
      | some t =>
        obtain ⟨e, he, _⟩ := find_sig_some hss ht
        simp only
        rw [turnX_cut hl rfl]
        exact (rename_cut hD s u hs hu hc (refuse_two hc) he hl ho (hF.st hss) hkp).mono fun _ _ hh => out_cut hss hh
    · rw [if_neg hc, turnX_bad hc]
      exact (rename_refused hD s u hs hu rfl hc).mono fun _ _ hh => keep hh
  · unfold renameX
    rw [turnX_ok hl]
    exact abx_rename h s hs u hu hF hl ho hlm
theorem any_append (ao : Option Addr) (l : List UInt8) (c : Nat) (hb : Sees w ao l) (hne : ∀ a, ao = some a → 0 < l.length → a.block ∉ ft) (hF : A.Fine) (ho : A.ops ≤ 4611686018427387904) (hlm : A.left ≤ 9223372036854775807) (hkp : -9223372036854775808 ≤ A.keep ∧ A.keep ≤ 9223372036854775807) (hnx : A.next ≤ 4611686018427387904) (hlen : ∀ t ∈ A.sp, t.bs.length + l.length ≤ 1099511627776)
    (hF2 : ∀ t, findT A.sp (nameOf s) = some t → ¬ (A.room : Int) - (usedT A.sp : Int) < lackT t l → (apL A (nameOf s) t l).Fine) :
    Calls Tryz.prog 50 #[.pointer (some ⟨d, 0, none⟩), .string s, .slice ao l.length c] w (Out d ft w (appendX A s l)) := by
  by_cases hq : A.left = 1 ∧ (appendM A s l).1 = 0
  · obtain ⟨hl, h2⟩ := hq
    unfold appendX
    rw [if_pos ⟨hl, h2⟩]
    obtain ⟨bm, fs, hD, hss, rfl⟩ := h
    unfold appendM at h2
    by_cases hc : refuse A.on [s] = 0
    · rw [if_pos hc] at h2
      cases ht : findT A.sp (nameOf s) with
      | none => rw [ht] at h2; cases h2
      | some t =>
        rw [ht] at h2
        simp only at h2 ⊢
        by_cases hfull : (A.room : Int) - (usedT A.sp : Int) < lackT t l
        · rw [if_pos hfull] at h2; cases h2
        have hFA := hF2 t ht hfull
        obtain ⟨e, he, rfl⟩ := find_sig_some hss ht
        obtain ⟨hm, hn⟩ := find_some he
        have hme : sig e ∈ A.sp := hss ▸ List.mem_map.2 ⟨e, hm, rfl⟩
        have hu : sumUsed fs = usedT A.sp := by rw [used_sig, hss]
        have hfull' : decide ((A.room : Int) - (sumUsed fs : Int) < secI ((e.bs.length : Int) + (l.length : Int)) - secI (e.bs.length : Int)) = false := by
          rw [hu]
          exact decide_eq_false hfull
        have hsg : ∀ e' : Ent, e'.nm = e.nm → e'.bs = e.bs ++ l → e'.wr = e.wr → e'.pl = e.pl ++ List.range' A.next (growS e l) → (swap fs e e').map sig = (apL A (nameOf s) (sig e) l).sp := fun e' a1 a3 a4 a5 => by
          have hsw : (swap fs e e').map sig = upd (fs.map sig) e.nm (sig e') := swap_sig (S := A.st fs) hD hm
          rw [hsw, hss, hn]
          have : sig e' = ⟨nameOf s, (sig e).bs ++ l, (sig e).wr, (sig e).pl ++ List.range' A.next (growT (sig e) l)⟩ := by
            unfold sig
            rw [a1, a3, a4, a5, hn]
            rfl
          rw [this]
          rfl
        refine (append_cut hD s hs ao l c hb hc he hne hl ho hkp (fun e' a1 a2 a3 a4 a5 => hFA.st (fs := swap fs e e') (hsg e' a1 a3 a4 a5)) (hlen _ hme) hnx (hF.pln hme) (Nat.le_trans (hF.wr _ hme) (hF.len _ hme)) hF.room (hF.st hss).used hfull').mono ?_
        rintro x w' ⟨rfl, e', a1, a2, a3, a4, a5, S1, rfl, a6, a7⟩
        have hg := hsg e' a1 a3 a4 a5
        have he1 : lineEndN ((apL A (nameOf s) (sig e) l).st (swap fs e e')) A.keep.toNat = endT (apL A (nameOf s) (sig e) l) A.keep.toNat := end_st hg _
        refine ⟨rfl, foot d bm ((swap fs e e').map fun y => loseE y (endT (apL A (nameOf s) (sig e) l) A.keep.toNat)), ⟨bm, _, ?_, lose_map hg _, rfl⟩, ?_⟩
        · rw [← he1]
          exact a6
        · rw [← he1]
          exact a7
    · rw [if_neg hc] at h2
      exact absurd h2 hc
  · unfold appendX
    rw [if_neg hq]
    by_cases hl : A.left = 1
    · have h2 : (appendM A s l).1 ≠ 0 := fun hh => hq ⟨hl, hh⟩
      have h0 := h
      obtain ⟨bm, fs, hD, hss, rfl⟩ := h
      unfold appendM at h2 ⊢
      by_cases hc : refuse A.on [s] = 0
      · rw [if_pos hc] at h2 ⊢
        cases ht : findT A.sp (nameOf s) with
        | none => exact (append_none hD s hs ao l.length c hc (find_sig_none hss ht)).mono fun _ _ hh => Out.same h0 hh
        | some t =>
          rw [ht] at h2
          simp only at h2 ⊢
          by_cases hfull : (A.room : Int) - (usedT A.sp : Int) < lackT t l
          · rw [if_pos hfull]
            obtain ⟨e, he, rfl⟩ := find_sig_some hss ht
            have hme : sig e ∈ A.sp := hss ▸ List.mem_map.2 ⟨e, (find_some he).1, rfl⟩
            have hu : sumUsed fs = usedT A.sp := by rw [used_sig, hss]
            have hfull' : decide ((A.room : Int) - (sumUsed fs : Int) < secI ((e.bs.length : Int) + (l.length : Int)) - secI (e.bs.length : Int)) = true := by
              rw [hu]
              exact decide_eq_true hfull
            refine (append_full hD s hs ao l c hb hc he (hlen _ hme) hF.room (hF.st hss).used hfull').mono ?_
            rintro x w' ⟨rfl, h1, h2⟩
            exact ⟨rfl, _, ⟨bm, fs, h1, hss, rfl⟩, h2⟩
          · rw [if_neg hfull] at h2
            exact absurd rfl h2
      · rw [if_neg hc]
        exact (append_refused hD s hs ao l.length c rfl hc).mono fun _ _ hh => Out.same h0 hh
    · exact abx_append h s hs ao l c hb hne hF hl ho hlm hnx hlen
omit hs in
theorem any_crash (hF : A.Fine) (k : Int) (hk1 : -9223372036854775808 ≤ k) (hk2 : k ≤ 9223372036854775807) : Calls Tryz.prog 12 #[.pointer (some ⟨d, 0, none⟩), .int .i64 k] w fun x w' => x = .returned (.tuple #[]) ∧ ∃ ft', At d (if A.on then offA A k.toNat else A) ft' w' ∧ Moved w w' ft ft' := by
  cases hon : A.on
  · obtain ⟨bm, fs, hD, hss, rfl⟩ := h
    refine (crash_off hD hon k).mono ?_
    rintro x w' ⟨rfl, rfl⟩
    exact ⟨rfl, _, ⟨bm, fs, hD, hss, rfl⟩, Moved.refl _ _⟩
  · exact ab_crash h hon hF k hk1 hk2
omit hs in
theorem any_arm (n m : Int) : Calls Tryz.prog 8 #[.pointer (some ⟨d, 0, none⟩), .int .i64 n, .int .i64 m] w (Out d ft w (armX A n m)) := by
  have h0 := h
  obtain ⟨bm, fs, hD, hss, rfl⟩ := h
  unfold armX
  by_cases hon : A.on = true
  · rw [if_pos hon]
    by_cases hn : n < 0
    · rw [if_pos hn]
      refine (arm_arg hD n m hon hn).mono ?_
      rintro x w' ⟨rfl, rfl⟩
      exact ⟨rfl, _, h0, Moved.refl _ _⟩
    · rw [if_neg hn]
      obtain ⟨k, rfl⟩ : ∃ k : Nat, n = (k : Int) := ⟨n.toNat, by omega⟩
      refine (arm_ok hD k m hon).mono ?_
      rintro x w' ⟨rfl, h1, h2⟩
      exact ⟨rfl, _, ⟨bm, fs, h1, hss, rfl⟩, h2.wider (fun i hi => .inl (by simp at hi; simp [foot, hi])) (fun i hi => .inl hi)⟩
  · rw [if_neg hon]
    refine (arm_refused hD n m (by show A.on = false; simpa using hon)).mono ?_
    rintro x w' ⟨rfl, rfl⟩
    exact ⟨rfl, _, h0, Moved.refl _ _⟩
end
end Go.Proofs.YtglaocghcgcghaaGreatDoor
namespace Go.Proofs.YtglaocghcgcghaaGreatDoor
open Go.RowKit Go.Maps

/-- A file that is no matter. -/
structure NiceT (nx : Nat) (t : Sig) : Prop where
  wr : t.wr ≤ t.bs.length
  len : t.bs.length ≤ 600000
  rise : t.pl.Pairwise (· < ·)
  ahead : ∀ q ∈ t.pl, q < nx
  pln : t.pl.length ≤ 40000
/-- A disk behind k operations. -/
structure Nice (A : Ab) (k : Nat) : Prop where
  cnt : A.sp.length ≤ k
  file : ∀ t ∈ A.sp, NiceT A.next t
  ops : A.ops ≤ k
  next : A.next ≤ 40000 * k
  room : A.room = 4194304
  left : A.left ≤ 9223372036854775807
  keep : -9223372036854775808 ≤ A.keep ∧ A.keep ≤ 9223372036854775807
theorem NiceT.mono {a b : Nat} {t : Sig} (h : NiceT a t) (hb : a ≤ b) : NiceT b t := ⟨h.wr, h.len, h.rise, fun q hq => Nat.lt_of_lt_of_le (h.ahead q hq) hb, h.pln⟩
theorem NiceT.sure (nx : Nat) (nm E : List UInt8) (h : E.length ≤ 600000) : NiceT nx ⟨nm, E, E.length, []⟩ := ⟨Nat.le_refl _, h, List.Pairwise.nil, (fun q hq => by cases hq), Nat.zero_le _⟩
theorem Nice.mono {A : Ab} {k m : Nat} (h : Nice A k) (hm : k ≤ m) : Nice A m := ⟨Nat.le_trans h.cnt hm, h.file, Nat.le_trans h.ops hm, Nat.le_trans h.next (Nat.mul_le_mul_left _ hm), h.room, h.left, h.keep⟩
theorem sum_leN (f : Sig → Nat) (B : Nat) : ∀ sp : List Sig, (∀ t ∈ sp, f t ≤ B) → (sp.map f).sum ≤ sp.length * B
  | [], _ => by simp
  | t :: r, h => by
    have h1 := h t List.mem_cons_self
    have h2 := sum_leN f B r fun x hx => h x (List.mem_cons_of_mem _ hx)
    simp only [List.map_cons, List.sum_cons, List.length_cons, Nat.add_mul, Nat.one_mul]
    omega
theorem Nice.fine {A : Ab} {k : Nat} (h : Nice A k) (hk : k ≤ 2000) : A.Fine := by
  refine ⟨fun t ht => (h.file t ht).wr, fun t ht => (by have := (h.file t ht).len; omega), fun t ht => (h.file t ht).rise, fun t ht => (h.file t ht).ahead, by have := h.room; omega, ?_, ?_⟩
  · have h1 := sum_leN (fun t => 1 + (t.bs.length + 15) / 16) 40000 A.sp (fun t ht => by have := (h.file t ht).len; show 1 + (t.bs.length + 15) / 16 ≤ 40000; omega)
    have h2 := h.cnt
    unfold usedT
    omega
  · have h1 := sum_leN (fun t => t.pl.length) 40000 A.sp (fun t ht => (h.file t ht).pln)
    have h2 := h.cnt
    unfold dirtyT
    omega
theorem Nice.opsB {A : Ab} {k : Nat} (h : Nice A k) (hk : k ≤ 2000) : A.ops ≤ 4611686018427387904 := by have := h.ops; omega
theorem Nice.nextB {A : Ab} {k : Nat} (h : Nice A k) (hk : k ≤ 2000) : A.next ≤ 4611686018427387904 := by have := h.next; omega
theorem lost_leN {t : Sig} (h : t.wr ≤ t.bs.length) (x : Nat) : lostT t x ≤ t.bs.length := by
  unfold lostT
  split
  · exact h
  · exact Nat.min_le_left _ _
theorem NiceT.lose {nx : Nat} {t : Sig} (h : NiceT nx t) (x : Nat) : NiceT nx (loseT t x) := by
  have h1 := lost_leN h.wr x
  have h2 := h.len
  refine ⟨?_, ?_, List.Pairwise.nil, (fun q hq => by cases hq), Nat.zero_le _⟩
  · show lostT t x ≤ (t.bs.take _).length
    rw [List.length_take]; omega
  · show (t.bs.take _).length ≤ _
    rw [List.length_take]; omega
theorem Nice.off {A : Ab} {k : Nat} (h : Nice A k) (x : Nat) : Nice (offA A x) k := by
  refine ⟨by show (A.sp.map _).length ≤ k; rw [List.length_map]; exact h.cnt, fun t ht => ?_, h.ops, h.next, h.room, h.left, h.keep⟩
  obtain ⟨t', h1, rfl⟩ := List.mem_map.1 ht
  exact (h.file t' h1).lose _
theorem Nice.cut {A : Ab} {k : Nat} (h : Nice A k) : Nice (cutA A) (k + 1) := by
  have h1 := (h.off A.keep.toNat).mono (Nat.le_succ k)
  exact ⟨h1.cnt, h1.file, Nat.succ_le_succ h.ops, h1.next, h1.room, h1.left, h1.keep⟩
theorem Nice.turn {A A' : Ab} {k : Nat} {c : Int} (h : Nice A k) (h' : Nice A' (k + 1)) : Nice (turnX A (c, A')).2 (k + 1) := by
  unfold turnX
  split
  · exact h.cut
  · exact h'
theorem Nice.step {A A' : Ab} {k : Nat} (h : Nice A k) (e1 : A'.ops = A.ops + 1) (e2 : A'.left = A.left - 1) (e3 : A'.keep = A.keep) (e4 : A'.room = A.room) (e5 : A'.next ≤ A.next + 40000) (c : A'.sp.length ≤ A.sp.length + 1) (l : ∀ t ∈ A'.sp, NiceT A'.next t) : Nice A' (k + 1) :=
  ⟨by have := h.cnt; omega, l, by have := h.ops; omega, by have := h.next; omega, by rw [e4]; exact h.room, by have := h.left; omega, by rw [e3]; exact h.keep⟩
theorem ins_lenN (t : Sig) (sp : List Sig) : (insT t sp).length = sp.length + 1 := by
  induction sp with
  | nil => rfl
  | cons y r ih =>
    rw [insT]
    split
    · rfl
    · rw [List.length_cons, ih, List.length_cons]
theorem drop_lenN (sp : List Sig) (nm : List UInt8) : (dropT sp nm).length ≤ sp.length := List.length_filter_le _ _
theorem upd_lenN (sp : List Sig) (nm : List UInt8) (t : Sig) : (upd sp nm t).length = sp.length := by unfold upd; rw [List.length_map]
theorem Nice.create {A : Ab} {k : Nat} (h : Nice A k) (s : ByteArray) : Nice (createX A s).2 (k + 1) := by
  have h1 := h.mono (Nat.le_succ k)
  have h2 : Nice (crT A (nameOf s)) (k + 1) := h.step rfl rfl rfl rfl (Nat.le_add_right _ _) (by
      show (insT _ (dropT A.sp (nameOf s))).length ≤ _
      rw [ins_lenN]
      have := drop_lenN A.sp (nameOf s)
      omega) (fun t ht => by
      rcases mem_ins.1 ht with rfl | ht
      · exact NiceT.sure _ _ [] (Nat.zero_le _)
      · exact h.file t (mem_drop ht))
  unfold createX createM
  split
  · split
    · split
      · exact h.turn h1
      · exact h.turn h2
    · exact h.turn h2
  · exact h.turn h1
theorem Nice.sync {A : Ab} {k : Nat} (h : Nice A k) (s : ByteArray) : Nice (syncX A s).2 (k + 1) := by
  have h1 := h.mono (Nat.le_succ k)
  unfold syncX syncM
  split
  · split
    · exact h.turn h1
    · rename_i t ht
      refine h.turn (h.step rfl rfl rfl rfl (Nat.le_add_right _ _) (by show (upd A.sp _ _).length ≤ _; rw [upd_lenN]; omega) fun x hx => ?_)
      rcases mem_upd hx with rfl | hx
      · exact NiceT.sure _ _ _ (h.file t (findT_mem ht).1).len
      · exact h.file x hx
  · exact h.turn h1
theorem Nice.rename {A : Ab} {k : Nat} (h : Nice A k) (s u : ByteArray) : Nice (renameX A s u).2 (k + 1) := by
  have h1 := h.mono (Nat.le_succ k)
  unfold renameX renameM
  split
  · split
    · exact h.turn h1
    · rename_i t ht
      refine h.turn (h.step rfl rfl rfl rfl (Nat.le_add_right _ _) (by
        have := drop_lenN A.sp (nameOf s)
        have := drop_lenN (dropT A.sp (nameOf s)) (nameOf u)
        show (insT _ (dropT (dropT A.sp _) _)).length ≤ _
        rw [ins_lenN]
        show (dropT (dropT A.sp (nameOf s)) (nameOf u)).length + 1 ≤ _
        omega) fun x hx => ?_)
      rcases mem_ins.1 hx with rfl | hx
      · have := h.file t (findT_mem ht).1
        exact ⟨this.wr, this.len, this.rise, this.ahead, this.pln⟩
      · exact h.file x (mem_drop (mem_drop hx))
  · exact h.turn h1
theorem Nice.apl {A : Ab} {k : Nat} (h : Nice A k) {nm l : List UInt8} {t : Sig} (ht : findT A.sp nm = some t) (hl : t.bs.length + l.length ≤ 600000) : Nice (apL A nm t l) (k + 1) := by
  have hf := h.file t (findT_mem ht).1
  have hg : growT t l ≤ 40000 := by
    unfold growT
    split
    · omega
    · unfold growN; omega
  have hp : t.pl.length + growT t l ≤ 40000 := by
    have := hf.pln
    unfold growT
    split
    · omega
    · unfold growN; omega
  refine ⟨by show (upd A.sp _ _).length ≤ _; rw [upd_lenN]; have := h.cnt; omega, fun x hx => ?_, Nat.succ_le_succ h.ops, by show A.next + growT t l ≤ _; have := h.next; omega, h.room, h.left, h.keep⟩
  rcases mem_upd hx with rfl | hx
  · refine ⟨?_, ?_, ?_, ?_, ?_⟩
    · show t.wr ≤ (t.bs ++ l).length
      rw [List.length_append]; have := hf.wr; omega
    · show (t.bs ++ l).length ≤ _
      rw [List.length_append]; exact hl
    · show (t.pl ++ List.range' A.next (growT t l)).Pairwise (· < ·)
      refine List.pairwise_append.2 ⟨hf.rise, List.pairwise_lt_range', fun a ha b hb => ?_⟩
      have h1 := hf.ahead a ha
      have h2 := (List.mem_range'_1.1 hb).1
      omega
    · intro q hq
      show q < A.next + growT t l
      have hq : q ∈ t.pl ++ List.range' A.next (growT t l) := hq
      rcases List.mem_append.1 hq with hq | hq
      · have := hf.ahead q hq; omega
      · exact (List.mem_range'_1.1 hq).2
    · show (t.pl ++ List.range' A.next (growT t l)).length ≤ _
      rw [List.length_append, List.length_range']; exact hp
  · exact (h.file x hx).mono (Nat.le_add_right _ _)
theorem Nice.append {A : Ab} {k : Nat} (h : Nice A k) (s : ByteArray) {l : List UInt8} (hl : ∀ t, findT A.sp (nameOf s) = some t → t.bs.length + l.length ≤ 600000) : Nice (appendX A s l).2 (k + 1) := by
  have h1 := h.mono (Nat.le_succ k)
  unfold appendX
  split
  · split
    · exact h1
    · rename_i t ht
      exact (Nice.apl h ht (hl t ht)).off _
  · unfold appendM
    split
    · split
      · exact h1
      · rename_i t ht
        split
        · exact h1
        · have := Nice.apl h ht (hl t ht)
          exact ⟨this.cnt, this.file, this.ops, this.next, this.room, by show A.left - 1 ≤ _; have := h.left; omega, this.keep⟩
    · exact h1
theorem Nice.start {A : Ab} {k : Nat} (h : Nice A k) : Nice { A with on := true, left := 0 } k := ⟨h.cnt, h.file, h.ops, h.next, h.room, Nat.zero_le _, h.keep⟩
theorem Nice.arm {A : Ab} {k : Nat} (h : Nice A k) {a m : Int} (ha : a ≤ 9223372036854775807) (hm : -9223372036854775808 ≤ m ∧ m ≤ 9223372036854775807) : Nice (armX A a m).2 k := by
  unfold armX
  split
  · split
    · exact h
    · exact ⟨h.cnt, h.file, h.ops, h.next, h.room, by show a.toNat ≤ _; omega, hm⟩
  · exact h
theorem nice_new : Nice (newA 4194304) 0 := ⟨Nat.le_refl _, (fun t ht => by cases ht), Nat.le_refl _, Nat.le_refl _, rfl, Nat.zero_le _, by show (-9223372036854775808 : Int) ≤ 0; decide, by show (0 : Int) ≤ 9223372036854775807; decide⟩
end Go.Proofs.YtglaocghcgcghaaGreatDoor
namespace Go.Proofs.YtglaocghcgcghaaGreatDoor
open Go.RowKit

/-! ### The number that bytes begin with. -/
/-- i digits, which come to acc, are read; l is left. -/
def getN : Nat → Nat → List UInt8 → Option (Nat × List UInt8)
  | _, _, [] => none
  | i, acc, b :: r =>
    if (i = 9 ∧ 1 < b.toNat) ∨ (0 < i ∧ b.toNat = 0) then none
    else if b.toNat < 128 then some (acc + b.toNat % 128 * 2 ^ (7 * i), r)
    else getN (i + 1) (acc + b.toNat % 128 * 2 ^ (7 * i)) r

theorem digit_bd (i acc x : Nat) (h : acc < 2 ^ (7 * i)) : acc + x % 128 * 2 ^ (7 * i) < 2 ^ (7 * (i + 1)) := by
  have e : 2 ^ (7 * (i + 1)) = 128 * 2 ^ (7 * i) := by rw [show 7 * (i + 1) = 7 + 7 * i by omega, Nat.pow_add]
  have h1 : x % 128 * 2 ^ (7 * i) ≤ 127 * 2 ^ (7 * i) := Nat.mul_le_mul_right _ (by omega)
  rw [e]
  omega
/-- What a round of number's text reckons. -/
theorem or_text (i acc x : Nat) (h : acc < 2 ^ (7 * i)) (hi : i ≤ 9) (h9 : i = 9 → x ≤ 1) :
    bits BinOp.or IntKind.u64 (acc : Int) (IntKind.u64.wrap ((x : Int) % 128 * 2 ^ (7 * i))) = ((acc + x % 128 * 2 ^ (7 * i) : Nat) : Int) := by
  have hp : 2 ^ (7 * i) ≤ 2 ^ 63 := Nat.pow_le_pow_right (by omega) (by omega)
  have hy : x % 128 * 2 ^ (7 * i) < 18446744073709551616 := by
    rcases Nat.lt_or_ge i 9 with h1 | h1
    · have h2 : 2 ^ (7 * i) ≤ 2 ^ 56 := Nat.pow_le_pow_right (by omega) (by omega)
      have h3 : x % 128 * 2 ^ (7 * i) ≤ 127 * 2 ^ 56 := Nat.mul_le_mul (by omega) h2
      omega
    · have hx := h9 (by omega)
      have h3 : x % 128 * 2 ^ (7 * i) ≤ 1 * 2 ^ 63 := Nat.mul_le_mul (by omega) hp
      omega
  have e : (x : Int) % 128 * 2 ^ (7 * i) = ((x % 128 * 2 ^ (7 * i) : Nat) : Int) := by simp
  rw [e, IntWalk.u64_in _ ⟨by omega, by omega⟩, u64_or_nat _ _ (by omega) hy]
  have h4 := Nat.two_pow_add_eq_or_of_lt h (x % 128)
  rw [Nat.or_comm, Nat.mul_comm, ← h4, Nat.mul_comm, Nat.add_comm]
end Go.Proofs.YtglaocghcgcghaaGreatDoor
namespace Go.Proofs.YtglaocghcgcghaaGreatDoor
open Go.RowKit

theorem be_succ (u : Nat) : ∀ (n k : Nat), k < n → (be n u).take (k + 1) = (be n u).take k ++ [UInt8.ofNat (u / 256 ^ (n - 1 - k) % 256)]
  | 0, k, h => by omega
  | n + 1, 0, _ => by simp [be]
  | n + 1, k + 1, h => by
    have := be_succ u n k (by omega)
    simp only [be, List.take_succ_cons, List.cons_append]
    rw [this]
    have e : n - 1 - k = n + 1 - 1 - (k + 1) := by omega
    rw [e]
theorem xor_top (a : Nat) (h : a < 18446744073709551616) : a ^^^ 9223372036854775808 = if a < 9223372036854775808 then a + 9223372036854775808 else a - 9223372036854775808 := by
  have h1 : (a ^^^ 2 ^ 63) % 2 ^ 63 = a % 2 ^ 63 := by rw [Nat.xor_mod_two_pow]; simp
  have h2 : (a ^^^ 2 ^ 63) / 2 ^ 63 = (a / 2 ^ 63) ^^^ 1 := by rw [Nat.xor_div_two_pow]
  have h3 := Nat.div_add_mod (a ^^^ 2 ^ 63) (2 ^ 63)
  have h4 := Nat.div_add_mod a (2 ^ 63)
  have e : (2 : Nat) ^ 63 = 9223372036854775808 := by decide
  rw [h1, h2] at h3
  rw [e] at h3 h4
  split
  · have h5 : a / 9223372036854775808 = 0 := by omega
    rw [h5] at h3 h4
    have : (0 ^^^ 1 : Nat) = 1 := rfl
    rw [this] at h3; omega
  · have h5 : a / 9223372036854775808 = 1 := by omega
    rw [h5] at h3 h4
    have : (1 ^^^ 1 : Nat) = 0 := rfl
    rw [this] at h3; omega
theorem row_bits (r : Int) (h : InI r) : bits BinOp.xor IntKind.u64 (IntKind.u64.wrap r) 9223372036854775808 = (((r + 9223372036854775808).toNat : Nat) : Int) := by
  unfold InI at h
  have e : IntKind.u64.wrap r = (((r % 18446744073709551616).toNat : Nat) : Int) := by rw [IntKind.wrap_u64]; omega
  have e2 : (9223372036854775808 : Int) = ((9223372036854775808 : Nat) : Int) := rfl
  rw [e, e2, u64_xor_nat _ _ (by omega) (by decide), xor_top _ (by omega)]
  split <;> omega
end Go.Proofs.YtglaocghcgcghaaGreatDoor

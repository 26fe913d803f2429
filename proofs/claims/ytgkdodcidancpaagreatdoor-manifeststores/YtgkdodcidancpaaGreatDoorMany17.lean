/-
  SEVERAL TEXTS IN ONE: DskModel, ManTurn, ManStore.
-/
import Derived.Test.YtgkdodcidancpaaGreatDoorMany16
import Derived.Test.YtgkdodcidancpaaGreatDoorDskRename
import Derived.Test.YtgkdodcidancpaaGreatDoorMany15
namespace Go.Proofs.YtgkdodcidancpaaGreatDoor
open Go.RowKit Go.Maps

def rmT (A : Ab) (nm : List UInt8) : Ab := { A with ops := A.ops + 1, left := A.left - 1, sp := dropT A.sp nm }
def rnT (A : Ab) (nm to : List UInt8) (t : Sig) : Ab := { A with ops := A.ops + 1, left := A.left - 1, sp := putT (dropT A.sp nm) ⟨to, t.bs, t.wr, t.pl⟩ }
def spT (A : Ab) (nm : List UInt8) (t : Sig) (i k : Nat) : Ab := { A with sp := upd A.sp nm ⟨nm, t.bs.set i (flipB (t.bs.getD i 0) k), t.wr, t.pl⟩ }
def createM (A : Ab) (s : ByteArray) : Int × Ab :=
  if refuse A.on [s] = 0 then
    match findT A.sp (nameOf s) with
    | none => if 48 ≤ A.sp.length ∨ A.room ≤ usedT A.sp then (7, A) else (0, crT A (nameOf s))
    | some _ => (0, crT A (nameOf s))
  else (refuse A.on [s], A)
def appendM (A : Ab) (s : ByteArray) (l : List UInt8) : Int × Ab :=
  if refuse A.on [s] = 0 then
    match findT A.sp (nameOf s) with
    | none => (4, A)
    | some t => if (A.room : Int) - (usedT A.sp : Int) < lackT t l then (7, A) else (0, appT A (nameOf s) t l)
  else (refuse A.on [s], A)
def syncM (A : Ab) (s : ByteArray) : Int × Ab :=
  if refuse A.on [s] = 0 then
    match findT A.sp (nameOf s) with
    | none => (4, A)
    | some t => (0, syT A (nameOf s) t)
  else (refuse A.on [s], A)
def removeM (A : Ab) (s : ByteArray) : Int × Ab :=
  if refuse A.on [s] = 0 then
    match findT A.sp (nameOf s) with
    | none => (4, A)
    | some _ => (0, rmT A (nameOf s))
  else (refuse A.on [s], A)
def renameM (A : Ab) (s u : ByteArray) : Int × Ab :=
  if refuse A.on [s, u] = 0 then
    match findT A.sp (nameOf s) with
    | none => (4, A)
    | some t => (0, rnT A (nameOf s) (nameOf u) t)
  else (refuse A.on [s, u], A)
def spoilM (A : Ab) (s : ByteArray) (i k : Int) : Int × Ab :=
  if refuse A.on [s] = 0 then
    match findT A.sp (nameOf s) with
    | none => (4, A)
    | some t => if i < 0 ∨ (t.bs.length : Int) ≤ i ∨ k < 0 ∨ 7 < k then (2, A) else (0, spT A (nameOf s) t i.toNat k.toNat)
  else (refuse A.on [s], A)
/-- A call that answered a number. -/
def Out (d : Nat) (ft : List Nat) (w : World) (r : Int × Ab) (x : Ending) (w' : World) : Prop := x = .returned (.int .i64 r.1) ∧ ∃ ft', At d r.2 ft' w' ∧ Moved w w' ft ft'
theorem refuse_two {on : Bool} {s u : ByteArray} (h : refuse on [s, u] = 0) : refuse on [s] = 0 := by
  unfold refuse at h ⊢
  cases on
  · simp at h
  · simp only [if_true] at h ⊢
    split at h
    · rename_i h1
      rw [if_pos (by simp at h1 ⊢; exact h1.1)]
    · cases h
theorem used_len {sp : List Sig} {t : Sig} (h : t ∈ sp) : 1 + (t.bs.length + 15) / 16 ≤ usedT sp := List.single_le_sum_nat (List.mem_map.2 ⟨t, h, rfl⟩)
theorem findT_mem {sp : List Sig} {nm : List UInt8} {t : Sig} (h : findT sp nm = some t) : t ∈ sp ∧ t.nm = nm := ⟨List.mem_of_find?_eq_some h, by simpa using List.find?_some h⟩
theorem len_used (sp : List Sig) : sp.length ≤ usedT sp := by
  unfold usedT
  induction sp with
  | nil => exact Nat.zero_le _
  | cons x r ih => simp only [List.length_cons, List.map_cons, List.sum_cons]; omega
section
variable {d : Nat} {A : Ab} {ft : List Nat} {w : World} (h : At d A ft w) (s : ByteArray) (hs : s.size ≤ maxLen)
include h hs
theorem abx_create (hF : A.Fine) (hl : A.left ≠ 1) (ho : A.ops ≤ 4611686018427387904) (hlm : A.left ≤ 9223372036854775807) :
    Calls Tryz.prog 27 #[.pointer (some ⟨d, 0, none⟩), .string s] w (Out d ft w (createM A s)) := by
  have h0 := h
  obtain ⟨bm, fs, hD, hss, rfl⟩ := h
  have hlen : fs.length = A.sp.length := by rw [← hss, List.length_map]
  have hu : sumUsed fs = usedT A.sp := by rw [used_sig, hss]
  have hn : A.sp.length < maxLen := by have := len_used A.sp; have := hF.used; unfold maxLen; omega
  have keep : ∀ {c : Int} {x : Ending} {w' : World}, x = .returned (.int .i64 c) ∧ DiskAt w' d bm (A.st fs) ∧ Moved w w' (foot d bm (A.st fs).fs) (foot d bm (A.st fs).fs) → Out d (foot d bm fs) w (c, A) x w' := fun hh => ⟨hh.1, _, ⟨bm, fs, hh.2.1, hss, rfl⟩, hh.2.2⟩
  have done : ∀ {x : Ending} {w' : World}, (x = .returned (.int .i64 0) ∧ ∃ b, DiskAt w' d bm { A.st fs with ops := (A.st fs).ops + 1, left := (A.st fs).left - 1, fs := putE (A.st fs).fs (newE (nameOf s) b) } ∧ Moved w w' (foot d bm (A.st fs).fs) (foot d bm (putE (A.st fs).fs (newE (nameOf s) b)))) → Out d (foot d bm fs) w (0, crT A (nameOf s)) x w' := by
    rintro x w' ⟨rfl, b, h1, h2⟩
    refine ⟨rfl, _, ⟨bm, _, h1, ?_, rfl⟩, h2⟩
    show (putE fs _).map sig = _
    rw [put_sig, hss]
    rfl
  unfold createM
  by_cases hc : refuse A.on [s] = 0
  · rw [if_pos hc]
    cases ht : findT A.sp (nameOf s) with
    | none =>
      have hf := find_sig_none hss ht
      simp only
      by_cases hm : 48 ≤ A.sp.length
      · rw [if_pos (.inl hm)]
        exact (create_many hD s hs hc hf (by show 48 ≤ fs.length; omega)).mono fun _ _ hh => keep hh
      · by_cases hr : A.room ≤ usedT A.sp
        · rw [if_pos (.inr hr)]
          exact (create_full hD s hs hc hf (by show fs.length < 48; omega) (by show A.room ≤ sumUsed fs; omega) (hF.st hss).used hF.room).mono fun _ _ hh => keep hh
        · rw [if_neg (by omega)]
          exact (create_new hD s hs hc hf (by show fs.length < 48; omega) (by show sumUsed fs < A.room; omega) hF.room hl ho hlm).mono fun _ _ hh => done hh
    | some t =>
      obtain ⟨e, he, _⟩ := find_sig_some hss ht
      simp only
      by_cases hm : 48 ≤ A.sp.length
      · exact (create_again_many hD s hs hc he (by show 48 ≤ fs.length; omega) hl ho hlm (by show fs.length < maxLen; omega)).mono fun _ _ hh => done hh
      · exact (create_again hD s hs hc he (by show fs.length < 48; omega) (hF.st hss).used hF.room hl ho hlm (by show fs.length < maxLen; omega)).mono fun _ _ hh => done hh
  · rw [if_neg hc]
    exact (create_refused hD s hs rfl hc).mono fun _ _ hh => keep hh
omit hs in
theorem Out.same {c : Int} {x : Ending} {w' : World} (hh : x = .returned (.int .i64 c) ∧ w.grownBy w' none) : Out d ft w (c, A) x w' := ⟨hh.1, ft, h.grown hh.2, Moved.none_of hh.2 _⟩
theorem abx_sync (hl : A.left ≠ 1) (ho : A.ops ≤ 4611686018427387904) (hlm : A.left ≤ 9223372036854775807) :
    Calls Tryz.prog 31 #[.pointer (some ⟨d, 0, none⟩), .string s] w (Out d ft w (syncM A s)) := by
  have h0 := h
  obtain ⟨bm, fs, hD, hss, rfl⟩ := h
  unfold syncM
  by_cases hc : refuse A.on [s] = 0
  · rw [if_pos hc]
    cases ht : findT A.sp (nameOf s) with
    | none => exact (sync_none hD s hs hc (find_sig_none hss ht)).mono fun _ _ hh => Out.same h0 hh
    | some t => exact ab_sync h0 s hs hc ht hl ho hlm
  · rw [if_neg hc]
    exact (sync_refused hD s hs rfl hc).mono fun _ _ hh => Out.same h0 hh
theorem abx_rename (u : ByteArray) (hu : u.size ≤ maxLen) (hF : A.Fine) (hl : A.left ≠ 1) (ho : A.ops ≤ 4611686018427387904) (hlm : A.left ≤ 9223372036854775807) :
    Calls Tryz.prog 33 #[.pointer (some ⟨d, 0, none⟩), .string s, .string u] w (Out d ft w (renameM A s u)) := by
  have h0 := h
  obtain ⟨bm, fs, hD, hss, rfl⟩ := h
  have hlen : fs.length = A.sp.length := by rw [← hss, List.length_map]
  have hn : A.sp.length < maxLen := by have := len_used A.sp; have := hF.used; unfold maxLen; omega
  have keep : ∀ {c : Int} {x : Ending} {w' : World}, x = .returned (.int .i64 c) ∧ DiskAt w' d bm (A.st fs) ∧ Moved w w' (foot d bm (A.st fs).fs) (foot d bm (A.st fs).fs) → Out d (foot d bm fs) w (c, A) x w' := fun hh => ⟨hh.1, _, ⟨bm, fs, hh.2.1, hss, rfl⟩, hh.2.2⟩
  unfold renameM
  by_cases hc : refuse A.on [s, u] = 0
  · rw [if_pos hc]
    cases ht : findT A.sp (nameOf s) with
    | none => exact (rename_none hD s u hs hu hc (refuse_two hc) (find_sig_none hss ht)).mono fun _ _ hh => keep hh
    | some t =>
      obtain ⟨e, he, rfl⟩ := find_sig_some hss ht
      refine (rename_ok hD s u hs hu hc (refuse_two hc) he hl ho hlm (by show fs.length < maxLen; omega)).mono ?_
      rintro x w' ⟨rfl, h1, h2⟩
      refine ⟨rfl, _, ⟨bm, _, h1, ?_, rfl⟩, h2⟩
      show (putE (dropE fs _) _).map sig = _
      rw [put_sig, drop_sig, hss]
      rfl
  · rw [if_neg hc]
    exact (rename_refused hD s u hs hu rfl hc).mono fun _ _ hh => keep hh
theorem abx_append (ao : Option Addr) (l : List UInt8) (c : Nat) (hb : Sees w ao l) (hne : ∀ a, ao = some a → 0 < l.length → a.block ∉ ft) (hF : A.Fine) (hl : A.left ≠ 1) (ho : A.ops ≤ 4611686018427387904) (hlm : A.left ≤ 9223372036854775807) (hnx : A.next ≤ 4611686018427387904) (hlen : ∀ t ∈ A.sp, t.bs.length + l.length ≤ 1099511627776) :
    Calls Tryz.prog 29 #[.pointer (some ⟨d, 0, none⟩), .string s, .slice ao l.length c] w (Out d ft w (appendM A s l)) := by
  have h0 := h
  obtain ⟨bm, fs, hD, hss, rfl⟩ := h
  unfold appendM
  by_cases hc : refuse A.on [s] = 0
  · rw [if_pos hc]
    cases ht : findT A.sp (nameOf s) with
    | none => exact (append_none hD s hs ao l.length c hc (find_sig_none hss ht)).mono fun _ _ hh => Out.same h0 hh
    | some t =>
      simp only
      by_cases hfull : (A.room : Int) - (usedT A.sp : Int) < lackT t l
      · rw [if_pos hfull]
        obtain ⟨e, he, rfl⟩ := find_sig_some hss ht
        have hm := (find_some he).1
        have hme : sig e ∈ A.sp := hss ▸ List.mem_map.2 ⟨e, hm, rfl⟩
        have hu : sumUsed fs = usedT A.sp := by rw [used_sig, hss]
        have hfull' : decide ((A.room : Int) - (sumUsed fs : Int) < secI ((e.bs.length : Int) + (l.length : Int)) - secI (e.bs.length : Int)) = true := by
          rw [hu]
          exact decide_eq_true hfull
        refine (append_ok hD s hs ao l c hb hc he hne hl ho hlm (hlen _ hme) hnx (hF.pln hme) (Nat.le_trans (hF.wr _ hme) (hF.len _ hme)) hF.room (hF.st hss).used true hfull').mono ?_
        rintro x w' ⟨rfl, h1, h2⟩
        exact ⟨rfl, _, ⟨bm, fs, h1, hss, rfl⟩, h2⟩
      · rw [if_neg hfull]
        exact ab_append h0 s hs ao l c hb hne hc ht hl ho hlm hF (hlen t (findT_mem ht).1) hnx (by omega)
  · rw [if_neg hc]
    exact (append_refused hD s hs ao l.length c rfl hc).mono fun _ _ hh => Out.same h0 hh
end
end Go.Proofs.YtgkdodcidancpaaGreatDoor
namespace Go.Proofs.YtgkdodcidancpaaGreatDoor
open Go.RowKit Go.Maps

/-- What a step leaves: it answered 0, or another number. -/
def Upon (R : World → Prop) (F : Int → World → Prop) (e : Ending) (u : World) : Prop := ∃ x : Int, e = .returned (.int .i64 x) ∧ ((x = 0 ∧ R u) ∨ (x ≠ 0 ∧ F x u))
/-- The row of the steps of a Store. -/
def stepsV (b2 b3 b5 : Nat) : List Value := [.func (.func 23) #[] #[.pointer (some ⟨b2, 0, none⟩)], .func (.func 25) #[] #[.pointer (some ⟨b3, 0, none⟩), .pointer (some ⟨b5, 0, none⟩)], .func (.func 26) #[] #[.pointer (some ⟨b2, 0, none⟩)], .func (.func 28) #[] #[.pointer (some ⟨b2, 0, none⟩), .pointer (some ⟨b5, 0, none⟩)], .func (.func 30) #[] #[.pointer (some ⟨b2, 0, none⟩)], .func (.func 32) #[] #[.pointer (some ⟨b2, 0, none⟩)]]
set_option maxRecDepth 100000 in
set_option maxHeartbeats 2000000 in
theorem inTurn_six (g b2 b3 b5 : Nat) (R : Nat → World → Prop) (F : Int → World → Prop) (w : World) (h0 : R 0 w) (ty : TypeId)
    (hc : ∀ k u, k < 6 → R k u → Blk u g (stepsV b2 b3 b5) ty)
    (C0 : ∀ u, R 0 u → Calls Tryz.prog 23 #[.pointer (some ⟨b2, 0, none⟩)] u (Upon (R 1) F))
    (C1 : ∀ u, R 1 u → Calls Tryz.prog 25 #[.pointer (some ⟨b3, 0, none⟩), .pointer (some ⟨b5, 0, none⟩)] u (Upon (R 2) F))
    (C2 : ∀ u, R 2 u → Calls Tryz.prog 26 #[.pointer (some ⟨b2, 0, none⟩)] u (Upon (R 3) F))
    (C3 : ∀ u, R 3 u → Calls Tryz.prog 28 #[.pointer (some ⟨b2, 0, none⟩), .pointer (some ⟨b5, 0, none⟩)] u (Upon (R 4) F))
    (C4 : ∀ u, R 4 u → Calls Tryz.prog 30 #[.pointer (some ⟨b2, 0, none⟩)] u (Upon (R 5) F))
    (C5 : ∀ u, R 5 u → Calls Tryz.prog 32 #[.pointer (some ⟨b2, 0, none⟩)] u (Upon (R 6) F)) :
    Calls Tryz.prog 22 #[.slice (some ⟨g, 0, none⟩) 6 6] w (Upon (R 6) F) := by
  have HC : Hid (∀ k u, k < 6 → R k u → Blk u g (stepsV b2 b3 b5) ty) := hc
  have H0 : Hid (R 0 w) := h0
  have D0 : Hid (∀ u, R 0 u → Calls Tryz.prog 23 #[.pointer (some ⟨b2, 0, none⟩)] u (Upon (R 1) F)) := C0
  have D1 : Hid (∀ u, R 1 u → Calls Tryz.prog 25 #[.pointer (some ⟨b3, 0, none⟩), .pointer (some ⟨b5, 0, none⟩)] u (Upon (R 2) F)) := C1
  have D2 : Hid (∀ u, R 2 u → Calls Tryz.prog 26 #[.pointer (some ⟨b2, 0, none⟩)] u (Upon (R 3) F)) := C2
  have D3 : Hid (∀ u, R 3 u → Calls Tryz.prog 28 #[.pointer (some ⟨b2, 0, none⟩), .pointer (some ⟨b5, 0, none⟩)] u (Upon (R 4) F)) := C3
  have D4 : Hid (∀ u, R 4 u → Calls Tryz.prog 30 #[.pointer (some ⟨b2, 0, none⟩)] u (Upon (R 5) F)) := C4
  have D5 : Hid (∀ u, R 5 u → Calls Tryz.prog 32 #[.pointer (some ⟨b2, 0, none⟩)] u (Upon (R 6) F)) := C5
  clear hc h0 C0 C1 C2 C3 C4 C5
  go_enter Tryz.func22, Tryz.ntmps22
  go_wp2_with fail
  go_loopw [8] (fun i wr => ∃ k : Nat, k ≤ 6 ∧ i = .int .i64 (k : Int) ∧ R k wr) (fun i _ => 6 - (intOf i).toNat)
  case atStart => exact ⟨0, by omega, rfl, H0.out⟩
  case round =>
    clear H0
    obtain ⟨k, hk, rfl, hR⟩ := hrel
    rcases (show k = 0 ∨ k = 1 ∨ k = 2 ∨ k = 3 ∨ k = 4 ∨ k = 5 ∨ k = 6 by omega) with rfl | rfl | rfl | rfl | rfl | rfl | rfl
    · have c0 := (HC.out 0 wr (by omega) hR).cell 0 rfl
      have Q := D0.out wr hR
      clear hR hk
      go_wp2_with fail
      go_fit Q
      rintro e w1 ⟨x, rfl, hx⟩
      by_cases hx0 : x = 0
      · subst hx0
        have HR : Hid (R 1 w1) := by
          rcases hx with h | h
          · exact h.2
          · exact absurd rfl h.1
        clear hx Q
        go_wp2_with fail
        go_roundw
        case rel => exact ⟨1, by omega, by go_num, HR.out⟩
        case measure => (simp [intOf]; try omega)
      · have HF : Hid (F x w1) := by
          rcases hx with h | h
          · exact absurd h.1 hx0
          · exact h.2
        have HX : Hid (x ≠ 0) := hx0
        have hxb : (x == 0) = false := by rw [beq_eq_false_iff_ne]; exact hx0
        clear hx Q hx0
        go_wp2_with fail
        go_ret
        exact ⟨x, rfl, .inr ⟨HX.out, HF.out⟩⟩
    · have c0 := (HC.out 1 wr (by omega) hR).cell 1 rfl
      have Q := D1.out wr hR
      clear hR hk
      go_wp2_with fail
      go_fit Q
      rintro e w1 ⟨x, rfl, hx⟩
      by_cases hx0 : x = 0
      · subst hx0
        have HR : Hid (R 2 w1) := by
          rcases hx with h | h
          · exact h.2
          · exact absurd rfl h.1
        clear hx Q
        go_wp2_with fail
        go_roundw
        case rel => exact ⟨2, by omega, by go_num, HR.out⟩
        case measure => (simp [intOf]; try omega)
      · have HF : Hid (F x w1) := by
          rcases hx with h | h
          · exact absurd h.1 hx0
          · exact h.2
        have HX : Hid (x ≠ 0) := hx0
        have hxb : (x == 0) = false := by rw [beq_eq_false_iff_ne]; exact hx0
        clear hx Q hx0
        go_wp2_with fail
        go_ret
        exact ⟨x, rfl, .inr ⟨HX.out, HF.out⟩⟩
    · have c0 := (HC.out 2 wr (by omega) hR).cell 2 rfl
      have Q := D2.out wr hR
      clear hR hk
      go_wp2_with fail
      go_fit Q
      rintro e w1 ⟨x, rfl, hx⟩
      by_cases hx0 : x = 0
      · subst hx0
        have HR : Hid (R 3 w1) := by
          rcases hx with h | h
          · exact h.2
          · exact absurd rfl h.1
        clear hx Q
        go_wp2_with fail
        go_roundw
        case rel => exact ⟨3, by omega, by go_num, HR.out⟩
        case measure => (simp [intOf]; try omega)
      · have HF : Hid (F x w1) := by
          rcases hx with h | h
          · exact absurd h.1 hx0
          · exact h.2
        have HX : Hid (x ≠ 0) := hx0
        have hxb : (x == 0) = false := by rw [beq_eq_false_iff_ne]; exact hx0
        clear hx Q hx0
        go_wp2_with fail
        go_ret
        exact ⟨x, rfl, .inr ⟨HX.out, HF.out⟩⟩
    · have c0 := (HC.out 3 wr (by omega) hR).cell 3 rfl
      have Q := D3.out wr hR
      clear hR hk
      go_wp2_with fail
      go_fit Q
      rintro e w1 ⟨x, rfl, hx⟩
      by_cases hx0 : x = 0
      · subst hx0
        have HR : Hid (R 4 w1) := by
          rcases hx with h | h
          · exact h.2
          · exact absurd rfl h.1
        clear hx Q
        go_wp2_with fail
        go_roundw
        case rel => exact ⟨4, by omega, by go_num, HR.out⟩
        case measure => (simp [intOf]; try omega)
      · have HF : Hid (F x w1) := by
          rcases hx with h | h
          · exact absurd h.1 hx0
          · exact h.2
        have HX : Hid (x ≠ 0) := hx0
        have hxb : (x == 0) = false := by rw [beq_eq_false_iff_ne]; exact hx0
        clear hx Q hx0
        go_wp2_with fail
        go_ret
        exact ⟨x, rfl, .inr ⟨HX.out, HF.out⟩⟩
    · have c0 := (HC.out 4 wr (by omega) hR).cell 4 rfl
      have Q := D4.out wr hR
      clear hR hk
      go_wp2_with fail
      go_fit Q
      rintro e w1 ⟨x, rfl, hx⟩
      by_cases hx0 : x = 0
      · subst hx0
        have HR : Hid (R 5 w1) := by
          rcases hx with h | h
          · exact h.2
          · exact absurd rfl h.1
        clear hx Q
        go_wp2_with fail
        go_roundw
        case rel => exact ⟨5, by omega, by go_num, HR.out⟩
        case measure => (simp [intOf]; try omega)
      · have HF : Hid (F x w1) := by
          rcases hx with h | h
          · exact absurd h.1 hx0
          · exact h.2
        have HX : Hid (x ≠ 0) := hx0
        have hxb : (x == 0) = false := by rw [beq_eq_false_iff_ne]; exact hx0
        clear hx Q hx0
        go_wp2_with fail
        go_ret
        exact ⟨x, rfl, .inr ⟨HX.out, HF.out⟩⟩
    · have c0 := (HC.out 5 wr (by omega) hR).cell 5 rfl
      have Q := D5.out wr hR
      clear hR hk
      go_wp2_with fail
      go_fit Q
      rintro e w1 ⟨x, rfl, hx⟩
      by_cases hx0 : x = 0
      · subst hx0
        have HR : Hid (R 6 w1) := by
          rcases hx with h | h
          · exact h.2
          · exact absurd rfl h.1
        clear hx Q
        go_wp2_with fail
        go_roundw
        case rel => exact ⟨6, by omega, by go_num, HR.out⟩
        case measure => (simp [intOf]; try omega)
      · have HF : Hid (F x w1) := by
          rcases hx with h | h
          · exact absurd h.1 hx0
          · exact h.2
        have HX : Hid (x ≠ 0) := hx0
        have hxb : (x == 0) = false := by rw [beq_eq_false_iff_ne]; exact hx0
        clear hx Q hx0
        go_wp2_with fail
        go_ret
        exact ⟨x, rfl, .inr ⟨HX.out, HF.out⟩⟩
    · have HR : Hid (R 6 wr) := hR
      clear hR
      go_wp2_with fail
      go_ret
      exact ⟨0, rfl, .inl ⟨rfl, HR.out⟩⟩
end Go.Proofs.YtgkdodcidancpaaGreatDoor
namespace Go.Proofs.YtgkdodcidancpaaGreatDoor
open Go.RowKit Go.Maps

def nmN : ByteArray := ⟨#[109, 97, 110, 105, 102, 101, 115, 116, 46, 110, 101, 119]⟩
theorem nmN_size : nmN.size ≤ maxLen := by show 12 ≤ maxLen; unfold maxLen; omega
theorem nmN_good : refuse true [nmN] = 0 := by decide
theorem nmNM_good : refuse true [nmN, nmM] = 0 := by decide
theorem moved_belowM {w u : World} {ft : List Nat} (h : Below w.heap.size w u) : Moved w u ft ft := ⟨h.os, h.tape, h.output, h.size, fun i hi _ => h.block i hi, fun _ hi => .inl hi⟩
set_option maxRecDepth 100000 in
theorem refusalM_on {d : Nat} {A : Ab} {ft : List Nat} {w : World} (h : At d A ft w) (hon : A.on = true) : Calls Tryz.prog 24 #[.pointer (some ⟨d, 0, none⟩)] w fun e w' => e = .returned (.int .i64 0) ∧ w.grownBy w' none := by
  have CR : Hid (Calls Tryz.prog 37 #[.pointer (some ⟨d, 0, none⟩), .string ⟨#[]⟩] w fun x w' => x = .returned (.tuple #[.slice none 0 0, .int .i64 3]) ∧ w.grownBy w' none) := by
    obtain ⟨bm, fs, hD, _, _⟩ := h
    exact read_refused hD ⟨#[]⟩ (by show 0 ≤ maxLen; exact Nat.zero_le _) (c := 3) (by show refuse A.on [⟨#[]⟩] = 3; rw [hon]; rfl) (by omega)
  clear h hon
  go_enter Tryz.func24, Tryz.ntmps24
  go_wp2_with fail
  go_fit CR.out
  rintro e w1 ⟨rfl, hg⟩
  have HG : Hid (w.grownBy w1 none) := hg
  clear hg
  go_wp2_with fail
  go_ret
  exact ⟨rfl, HG.out⟩
set_option maxRecDepth 100000 in
theorem step1 {d b2 : Nat} {A : Ab} {ft : List Nat} {w : World} (h : At d A ft w) (hon : A.on = true) (hk : Blk w b2 [.pointer (some ⟨d, 0, none⟩)] 26) : Calls Tryz.prog 23 #[.pointer (some ⟨b2, 0, none⟩)] w fun e w' => e = .returned (.int .i64 0) ∧ w.grownBy w' none := by
  have CR : Hid (Calls Tryz.prog 24 #[.pointer (some ⟨d, 0, none⟩)] w fun e w' => e = .returned (.int .i64 0) ∧ w.grownBy w' none) := refusalM_on h hon
  have c0 := hk.cell 0 rfl
  clear h hon hk
  go_enter Tryz.func23, Tryz.ntmps23
  go_wp2_with fail
  go_fit CR.out
  rintro e w1 ⟨rfl, hg⟩
  have HG : Hid (w.grownBy w1 none) := hg
  clear hg
  go_wp2_with fail
  go_ret
  exact ⟨rfl, HG.out⟩
set_option maxRecDepth 100000 in
theorem step2_ok (b3 b5 : Nat) (ao : Option Addr) (cap : Nat) (m : Mf) (w : World) (h : MSees w ao cap m) (hc : cap ≤ 9223372036854775807) (ht : Tab w) (hg : goodM m = true) (k3 : Blk w b3 [.slice ao m.ts.length cap, .int .i64 m.nx, .int .i64 m.fr] 36) (k5 : Blk w b5 [.slice none 0 0] 58) :
    Calls Tryz.prog 25 #[.pointer (some ⟨b3, 0, none⟩), .pointer (some ⟨b5, 0, none⟩)] w fun e w' => e = .returned (.int .i64 0) ∧ ∃ g, w.heap.size ≤ g ∧ Row w' g (encM m) ∧ Blk w' b5 [.slice (some ⟨g, 0, none⟩) (encM m).length (encM m).length] 58 ∧ w.grownBy w' (some b5) := by
  have CB : Hid (Calls Tryz.prog 19 #[.agg #[.slice ao m.ts.length cap, .int .i64 m.nx, .int .i64 m.fr]] w fun e w' => ∃ g, e = .returned (.tuple #[.slice (some ⟨g, 0, none⟩) (encM m).length (encM m).length, .int .i64 0]) ∧ w.heap.size ≤ g ∧ Row w' g (encM m) ∧ Below w.heap.size w w') := bytesM_ok ao cap m w h hc ht hg
  have c0 := k3.cell 0 rfl
  have c1 := k3.cell 1 rfl
  have c2 := k3.cell 2 rfl
  have H5 : Hid (Blk w b5 [.slice none 0 0] 58) := k5
  clear h hc ht hg k3 k5
  generalize encM m = E at *
  go_enter Tryz.func25, Tryz.ntmps25
  go_wp2_with fail
  go_fit CB.out
  rintro e w1 ⟨g, rfl, hgg, hr, hB⟩
  have k5' := H5.out.carry (hB.block _ H5.out.lt)
  have d0 := k5'.cell 0 rfl
  have f0 := k5'.frozen 0
  have hlt := H5.out.lt
  have HE : Hid (∃ q, w.heap.size ≤ q ∧ Row (w1.setCell ⟨b5, 0, none⟩ (.slice (some ⟨g, 0, none⟩) E.length E.length)) q E ∧ Blk (w1.setCell ⟨b5, 0, none⟩ (.slice (some ⟨g, 0, none⟩) E.length E.length)) b5 [.slice (some ⟨q, 0, none⟩) E.length E.length] 58 ∧ w.grownBy (w1.setCell ⟨b5, 0, none⟩ (.slice (some ⟨g, 0, none⟩) E.length E.length)) (some b5)) :=
    ⟨g, hgg, (Below.heap_setCell _ _ _ _ (by show g ≠ b5; omega)).trans hr, k5'.setTo 0 _ _ rfl, ⟨hB.os, hB.tape, hB.output, by rw [size_setCell]; exact hB.size, fun i hi hne => by rw [Below.heap_setCell _ _ _ _ (fun e => hne (by rw [e]))]; exact hB.block i hi⟩⟩
  clear k5' hr hB hgg hlt
  go_wp2_with fail
  go_ret
  exact ⟨rfl, HE.out⟩
set_option maxRecDepth 100000 in
theorem step2_bad (b3 b5 : Nat) (ao : Option Addr) (cap : Nat) (m : Mf) (w : World) (h : MSees w ao cap m) (hl : m.ts.length ≤ 1000000) (hc : cap ≤ 9223372036854775807) (hg : goodM m = false) (k3 : Blk w b3 [.slice ao m.ts.length cap, .int .i64 m.nx, .int .i64 m.fr] 36) (k5 : Blk w b5 [.slice none 0 0] 58) :
    Calls Tryz.prog 25 #[.pointer (some ⟨b3, 0, none⟩), .pointer (some ⟨b5, 0, none⟩)] w fun e w' => e = .returned (.int .i64 2) ∧ w.grownBy w' (some b5) := by
  have CB : Hid (Calls Tryz.prog 19 #[.agg #[.slice ao m.ts.length cap, .int .i64 m.nx, .int .i64 m.fr]] w fun e w' => e = .returned (.tuple #[.slice none 0 0, .int .i64 2]) ∧ Below w.heap.size w w') := bytesM_bad ao cap m w h hl hc hg
  have c0 := k3.cell 0 rfl
  have c1 := k3.cell 1 rfl
  have c2 := k3.cell 2 rfl
  have H5 : Hid (Blk w b5 [.slice none 0 0] 58) := k5
  clear h hc hl hg k3 k5
  go_enter Tryz.func25, Tryz.ntmps25
  go_wp2_with fail
  go_fit CB.out
  rintro e w1 ⟨rfl, hB⟩
  have k5' := H5.out.carry (hB.block _ H5.out.lt)
  have d0 := k5'.cell 0 rfl
  have f0 := k5'.frozen 0
  have HE : Hid (w.grownBy (w1.setCell ⟨b5, 0, none⟩ (.slice none 0 0)) (some b5)) := ⟨hB.os, hB.tape, hB.output, by rw [size_setCell]; exact hB.size, fun i hi hne => by rw [Below.heap_setCell _ _ _ _ (fun e => hne (by rw [e]))]; exact hB.block i hi⟩
  clear k5' hB
  go_wp2_with fail
  go_ret
  exact ⟨rfl, HE.out⟩
set_option maxRecDepth 100000 in
theorem step_disk {d b2 : Nat} {w : World} {R : World → Prop} {F : Int → World → Prop} (hk : w.cell? ⟨b2, 0, none⟩ = some (.pointer (some ⟨d, 0, none⟩))) (C : Calls Tryz.prog 27 #[.pointer (some ⟨d, 0, none⟩), .string nmN] w (Upon R F)) :
    Calls Tryz.prog 26 #[.pointer (some ⟨b2, 0, none⟩)] w (Upon R F) := by
  have HC : Hid (Calls Tryz.prog 27 #[.pointer (some ⟨d, 0, none⟩), .string ⟨#[109, 97, 110, 105, 102, 101, 115, 116, 46, 110, 101, 119]⟩] w (Upon R F)) := C
  clear C
  go_enter Tryz.func26, Tryz.ntmps26
  go_wp2_with fail
  go_fit HC.out
  rintro e w1 ⟨x, rfl, hq⟩
  have HQ : Hid ((x = 0 ∧ R w1) ∨ (x ≠ 0 ∧ F x w1)) := hq
  clear hq
  go_wp2_with fail
  go_ret
  exact ⟨x, rfl, HQ.out⟩
set_option maxRecDepth 100000 in
theorem step_sync {d b2 : Nat} {w : World} {R : World → Prop} {F : Int → World → Prop} (hk : w.cell? ⟨b2, 0, none⟩ = some (.pointer (some ⟨d, 0, none⟩))) (C : Calls Tryz.prog 31 #[.pointer (some ⟨d, 0, none⟩), .string nmN] w (Upon R F)) :
    Calls Tryz.prog 30 #[.pointer (some ⟨b2, 0, none⟩)] w (Upon R F) := by
  have HC : Hid (Calls Tryz.prog 31 #[.pointer (some ⟨d, 0, none⟩), .string ⟨#[109, 97, 110, 105, 102, 101, 115, 116, 46, 110, 101, 119]⟩] w (Upon R F)) := C
  clear C
  go_enter Tryz.func30, Tryz.ntmps30
  go_wp2_with fail
  go_fit HC.out
  rintro e w1 ⟨x, rfl, hq⟩
  have HQ : Hid ((x = 0 ∧ R w1) ∨ (x ≠ 0 ∧ F x w1)) := hq
  clear hq
  go_wp2_with fail
  go_ret
  exact ⟨x, rfl, HQ.out⟩
set_option maxRecDepth 100000 in
theorem step_rename {d b2 : Nat} {w : World} {R : World → Prop} {F : Int → World → Prop} (hk : w.cell? ⟨b2, 0, none⟩ = some (.pointer (some ⟨d, 0, none⟩))) (C : Calls Tryz.prog 33 #[.pointer (some ⟨d, 0, none⟩), .string nmN, .string nmM] w (Upon R F)) :
    Calls Tryz.prog 32 #[.pointer (some ⟨b2, 0, none⟩)] w (Upon R F) := by
  have HC : Hid (Calls Tryz.prog 33 #[.pointer (some ⟨d, 0, none⟩), .string ⟨#[109, 97, 110, 105, 102, 101, 115, 116, 46, 110, 101, 119]⟩, .string ⟨#[109, 97, 110, 105, 102, 101, 115, 116]⟩] w (Upon R F)) := C
  clear C
  go_enter Tryz.func32, Tryz.ntmps32
  go_wp2_with fail
  go_fit HC.out
  rintro e w1 ⟨x, rfl, hq⟩
  have HQ : Hid ((x = 0 ∧ R w1) ∨ (x ≠ 0 ∧ F x w1)) := hq
  clear hq
  go_wp2_with fail
  go_ret
  exact ⟨x, rfl, HQ.out⟩
set_option maxRecDepth 100000 in
theorem step_append {d b2 b5 n c : Nat} {a : Option Addr} {w : World} {R : World → Prop} {F : Int → World → Prop} (hk : w.cell? ⟨b2, 0, none⟩ = some (.pointer (some ⟨d, 0, none⟩))) (h5 : w.cell? ⟨b5, 0, none⟩ = some (.slice a n c)) (C : Calls Tryz.prog 29 #[.pointer (some ⟨d, 0, none⟩), .string nmN, .slice a n c] w (Upon R F)) :
    Calls Tryz.prog 28 #[.pointer (some ⟨b2, 0, none⟩), .pointer (some ⟨b5, 0, none⟩)] w (Upon R F) := by
  have HC : Hid (Calls Tryz.prog 29 #[.pointer (some ⟨d, 0, none⟩), .string ⟨#[109, 97, 110, 105, 102, 101, 115, 116, 46, 110, 101, 119]⟩, .slice a n c] w (Upon R F)) := C
  clear C
  go_enter Tryz.func28, Tryz.ntmps28
  go_wp2_with fail
  go_fit HC.out
  rintro e w1 ⟨x, rfl, hq⟩
  have HQ : Hid ((x = 0 ∧ R w1) ∨ (x ≠ 0 ∧ F x w1)) := hq
  clear hq
  go_wp2_with fail
  go_ret
  exact ⟨x, rfl, HQ.out⟩
end Go.Proofs.YtgkdodcidancpaaGreatDoor

/-
  SEVERAL TEXTS IN ONE: DskKeepsP, DskModel, DskArm, DskFull, KeyAdd.
-/
import Derived.Test.YtglaocghcgcghaaGreatDoorMany8
import Derived.Laws.BytesString
import Derived.Test.YtglaocghcgcghaaGreatDoorDskRename
import Derived.Test.YtglaocghcgcghaaGreatDoorDskMore
import Derived.Test.YtglaocghcgcghaaGreatDoorDskAppend
import Derived.Test.YtglaocghcgcghaaGreatDoorMany7
import Derived.Test.YtglaocghcgcghaaGreatDoorMany9
namespace Go.Proofs.YtglaocghcgcghaaGreatDoor
open Go.RowKit Go.Maps

theorem conv_seesD {w : World} {ao : Option Addr} {l : List UInt8} (h : Sees w ao l) (hn : ao = none → l.length = 0) (cap : Nat) :
    (convert 37 9 (.slice ao l.length cap)).run Tryz.prog w = .ok (.string ⟨l.toArray⟩) w := by
  cases ao with
  | none =>
    obtain rfl : l = [] := List.eq_nil_of_length_eq_zero (hn rfl)
    rw [run_convert_bytes_string w 37 9 5 none _ cap Tryz.underlying37 Tryz.underlying5 Tryz.underlying9]
    rfl
  | some a =>
    refine run_convert_bytes_back w 37 9 5 a cap l Tryz.underlying37 Tryz.underlying5 Tryz.underlying9 fun j hj => ?_
    obtain ⟨a', e, hc⟩ := h j hj
    obtain rfl := Option.some.inj e
    rw [hc]; simp [List.getD, hj]
/-- The disk lies in memory that is new since w0; all that was there is as it was. -/
def Kp (w0 : World) (d : Nat) (A : Ab) (w1 : World) : Prop := ∃ ft, At d A ft w1 ∧ Moved w0 w1 [] ft
theorem Kp.grown {w0 : World} {d : Nat} {A : Ab} {w1 w2 : World} (h : Kp w0 d A w1) (hg : w1.grownBy w2 none) : Kp w0 d A w2 := by
  obtain ⟨ft, h1, h2⟩ := h
  exact ⟨ft, h1.grown hg, h2.trans (Moved.none_of hg _)⟩
theorem Kp.below {w0 : World} {d : Nat} {A : Ab} {w1 : World} (h : Kp w0 d A w1) : Below w0.heap.size w0 w1 := by
  obtain ⟨ft, _, h2⟩ := h
  exact h2.below (Nat.le_refl _) (by simp)
theorem Kp.sees {w0 : World} {d : Nat} {A : Ab} {w1 : World} (h : Kp w0 d A w1) {ao : Option Addr} {l : List UInt8} (hs : Sees w0 ao l) : Sees w1 ao l := hs.below h.below (Nat.le_refl _)
def syT (A : Ab) (nm : List UInt8) (t : Sig) : Ab := { A with ops := A.ops + 1, left := A.left - 1, sp := upd A.sp nm ⟨nm, t.bs, t.bs.length, []⟩ }
def crT (A : Ab) (nm : List UInt8) : Ab := { A with ops := A.ops + 1, left := A.left - 1, sp := putT A.sp ⟨nm, [], 0, []⟩ }
section
variable {w0 : World} {d : Nat} {A : Ab} {w1 : World} (h : Kp w0 d A w1) (s : ByteArray) (hs : s.size ≤ maxLen)
include h
theorem kp_start : Calls Tryz.prog 13 #[.pointer (some ⟨d, 0, none⟩)] w1 fun x w' => x = .returned (.tuple #[]) ∧ Kp w0 d { A with on := true, left := 0 } w' := by
  obtain ⟨ft, h1, h2⟩ := h
  exact (ab_start h1).mono fun x w' hh => ⟨hh.1, ft, hh.2.1, h2.trans hh.2.2⟩
theorem kp_crash (hon : A.on = true) (hF : A.Fine) (keep : Int) (hk1 : -9223372036854775808 ≤ keep) (hk2 : keep ≤ 9223372036854775807) : Calls Tryz.prog 12 #[.pointer (some ⟨d, 0, none⟩), .int .i64 keep] w1 fun x w' => x = .returned (.tuple #[]) ∧ Kp w0 d { A with on := false, sp := A.sp.map fun t => loseT t (endT A keep.toNat) } w' := by
  obtain ⟨ft, h1, h2⟩ := h
  exact (ab_crash h1 hon hF keep hk1 hk2).mono fun x w' ⟨e, ft', a1, a2⟩ => ⟨e, ft', a1, h2.trans a2⟩
include hs
theorem kp_read (hc : refuse A.on [s] = 0) {t : Sig} (ht : findT A.sp (nameOf s) = some t) (hl : t.bs.length ≤ 1099511627776) : Calls Tryz.prog 21 #[.pointer (some ⟨d, 0, none⟩), .string s] w1 fun x w' => ∃ ao c, x = .returned (.tuple #[.slice ao t.bs.length c, .int .i64 0]) ∧ Sees w' ao t.bs ∧ (ao = none → t.bs.length = 0) ∧ t.bs.length ≤ c ∧ w1.grownBy w' none ∧ Kp w0 d A w' := by
  have h0 := h
  obtain ⟨ft, h1, h2⟩ := h
  refine (ab_read h1 s hs hc ht hl).mono ?_
  rintro x w' ⟨v, rfl, ho, hg⟩
  obtain ⟨ao, c, rfl, hsee, _, hn⟩ := owns_sees ho
  obtain ⟨_, _, he, hcap, _⟩ := owns_form ho
  cases he
  exact ⟨ao, c, rfl, hsee, fun e => (hn e).1, hcap, hg, h0.grown hg⟩
theorem kp_sync (hc : refuse A.on [s] = 0) {t : Sig} (ht : findT A.sp (nameOf s) = some t) (hl : A.left ≠ 1) (ho : A.ops ≤ 4611686018427387904) (hlm : A.left ≤ 9223372036854775807) : Calls Tryz.prog 51 #[.pointer (some ⟨d, 0, none⟩), .string s] w1 fun x w' => x = .returned (.int .i64 0) ∧ Kp w0 d (syT A (nameOf s) t) w' := by
  obtain ⟨ft, h1, h2⟩ := h
  exact (ab_sync h1 s hs hc ht hl ho hlm).mono fun x w' ⟨e, ft', a1, a2⟩ => ⟨e, ft', a1, h2.trans a2⟩
theorem kp_create (hc : refuse A.on [s] = 0) (ht : findT A.sp (nameOf s) = none) (hlen : A.sp.length < 48) (hu : usedT A.sp < A.room) (hr : A.room ≤ 1073741824) (hl : A.left ≠ 1) (ho : A.ops ≤ 4611686018427387904) (hlm : A.left ≤ 9223372036854775807) : Calls Tryz.prog 60 #[.pointer (some ⟨d, 0, none⟩), .string s] w1 fun x w' => x = .returned (.int .i64 0) ∧ Kp w0 d (crT A (nameOf s)) w' := by
  obtain ⟨ft, h1, h2⟩ := h
  exact (ab_create h1 s hs hc ht hlen hu hr hl ho hlm).mono fun x w' ⟨e, ft', a1, a2⟩ => ⟨e, ft', a1, h2.trans a2⟩
theorem kp_append (ao : Option Addr) (l : List UInt8) (c : Nat) (hb : Sees w0 ao l) (hc : refuse A.on [s] = 0) {t : Sig} (ht : findT A.sp (nameOf s) = some t) (hl : A.left ≠ 1) (ho : A.ops ≤ 4611686018427387904) (hlm : A.left ≤ 9223372036854775807) (hF : A.Fine) (hlen : t.bs.length + l.length ≤ 1099511627776) (hnx : A.next ≤ 4611686018427387904) (hroom : lackT t l ≤ (A.room : Int) - (usedT A.sp : Int)) :
    Calls Tryz.prog 50 #[.pointer (some ⟨d, 0, none⟩), .string s, .slice ao l.length c] w1 fun x w' => x = .returned (.int .i64 0) ∧ Kp w0 d (appT A (nameOf s) t l) w' := by
  have hsee := h.sees hb
  obtain ⟨ft, h1, h2⟩ := h
  refine (ab_append h1 s hs ao l c hsee (fun a ha h0 hi => ?_) hc ht hl ho hlm hF hlen hnx hroom).mono fun x w' ⟨e, ft', a1, a2⟩ => ⟨e, ft', a1, h2.trans a2⟩
  have := hb.lt ha h0
  rcases h2.news _ hi with h3 | h3
  · simp at h3
  · omega
end
theorem kp_new (room : Nat) (hr : room ≤ 1073741824) (w : World) : Calls Tryz.prog 6 #[.int .i64 (room : Int)] w fun x w' => ∃ d, x = .returned (.pointer (some ⟨d, 0, none⟩)) ∧ Kp w d (newA room) w' := by
  refine (ab_new room hr w).mono ?_
  rintro x w1 ⟨d, ft, rfl, hA, hg, hn⟩
  exact ⟨d, rfl, ft, hA, (Moved.of_grown hg).wider (by simp) (fun i hi => .inr (.inr (hn i hi)))⟩

/-! ### the states -/
def nmB : ByteArray := ⟨#[98]⟩
section
variable (l1 l2 l3 : List UInt8)
def kt1 : Sig := ⟨[97], [], 0, []⟩
def kA1 : Ab := crT (newA 10000) [97]
def kA2 : Ab := appT kA1 [97] kt1 l1
def kt2 : Sig := ⟨[97], l1, 0, List.range' 0 (growT kt1 l1)⟩
def kA3 : Ab := syT (kA2 l1) [97] (kt2 l1)
def kt3 : Sig := ⟨[97], l1, l1.length, []⟩
def kA4 : Ab := crT (kA3 l1) [98]
def ku4 : Sig := ⟨[98], [], 0, []⟩
def kA5 : Ab := appT (kA4 l1) [98] ku4 l3
def ku5 : Sig := ⟨[98], l3, 0, List.range' (kA4 l1).next (growT ku4 l3)⟩
def kA6 : Ab := appT (kA5 l1 l3) [97] (kt3 l1) l2
def kt6 : Sig := ⟨[97], l1 ++ l2, l1.length, List.range' (kA5 l1 l3).next (growT (kt3 l1) l2)⟩
def kA7 : Ab := syT (kA6 l1 l2 l3) [98] (ku5 l1 l3)
def ku7 : Sig := ⟨[98], l3, l3.length, []⟩
theorem sp1 : kA1.sp = [kt1] := rfl
theorem sp2 : (kA2 l1).sp = [kt2 l1] := by simp [kA2, appT, kA1, crT, upd, putT, insT, dropT, newA, kt1, kt2]
theorem sp3 : (kA3 l1).sp = [kt3 l1] := by simp [kA3, syT, sp2, upd, kt2, kt3]
theorem sp4 : (kA4 l1).sp = [kt3 l1, ku4] := by
  have : dropT [kt3 l1] [98] = [kt3 l1] := rfl
  simp only [kA4, crT, sp3, putT, this]
  rfl
theorem sp5 : (kA5 l1 l3).sp = [kt3 l1, ku5 l1 l3] := by simp [kA5, appT, sp4, upd, kt3, ku4, ku5]
theorem sp6 : (kA6 l1 l2 l3).sp = [kt6 l1 l2 l3, ku5 l1 l3] := by simp [kA6, appT, sp5, upd, kt3, ku5, kt6]
theorem sp7 : (kA7 l1 l2 l3).sp = [kt6 l1 l2 l3, ku7 l3] := by simp [kA7, syT, sp6, upd, kt6, ku5, ku7]
end
end Go.Proofs.YtglaocghcgcghaaGreatDoor
namespace Go.Proofs.YtglaocghcgcghaaGreatDoor
open Go.RowKit Go.Maps

def rmT (A : Ab) (nm : List UInt8) : Ab := { A with ops := A.ops + 1, left := A.left - 1, sp := dropT A.sp nm }
def rnT (A : Ab) (nm to : List UInt8) (t : Sig) : Ab := { A with ops := A.ops + 1, left := A.left - 1, sp := putT (dropT A.sp nm) ⟨to, t.bs, t.wr, t.pl⟩ }
def spT (A : Ab) (nm : List UInt8) (t : Sig) (i k : Nat) : Ab := { A with sp := upd A.sp nm ⟨nm, t.bs.set i (flipB (t.bs.getD i 0) k), t.wr, t.pl⟩ }
def createM (A : Ab) (s : ByteArray) : Int × Ab :=
  if refuse A.on [s] = 0 then
    match findT A.sp (nameOf s) with
    | none => if 48 ≤ A.sp.length ∨ A.room ≤ usedT A.sp then (7, A) else (0, crT A (nameOf s))
    | some _ => (0, crT A (nameOf s))
  else (refuse A.on [s], A)
def appendM (A : Ab) (s : ByteArray) (l : List UInt8) : Int × Ab :=
  if refuse A.on [s] = 0 then
    match findT A.sp (nameOf s) with
    | none => (4, A)
    | some t => if (A.room : Int) - (usedT A.sp : Int) < lackT t l then (7, A) else (0, appT A (nameOf s) t l)
  else (refuse A.on [s], A)
def syncM (A : Ab) (s : ByteArray) : Int × Ab :=
  if refuse A.on [s] = 0 then
    match findT A.sp (nameOf s) with
    | none => (4, A)
    | some t => (0, syT A (nameOf s) t)
  else (refuse A.on [s], A)
def removeM (A : Ab) (s : ByteArray) : Int × Ab :=
  if refuse A.on [s] = 0 then
    match findT A.sp (nameOf s) with
    | none => (4, A)
    | some _ => (0, rmT A (nameOf s))
  else (refuse A.on [s], A)
def renameM (A : Ab) (s u : ByteArray) : Int × Ab :=
  if refuse A.on [s, u] = 0 then
    match findT A.sp (nameOf s) with
    | none => (4, A)
    | some t => (0, rnT A (nameOf s) (nameOf u) t)
  else (refuse A.on [s, u], A)
def spoilM (A : Ab) (s : ByteArray) (i k : Int) : Int × Ab :=
  if refuse A.on [s] = 0 then
    match findT A.sp (nameOf s) with
    | none => (4, A)
    | some t => if i < 0 ∨ (t.bs.length : Int) ≤ i ∨ k < 0 ∨ 7 < k then (2, A) else (0, spT A (nameOf s) t i.toNat k.toNat)
  else (refuse A.on [s], A)
/-- A call that answered a number. -/
def Out (d : Nat) (ft : List Nat) (w : World) (r : Int × Ab) (x : Ending) (w' : World) : Prop := x = .returned (.int .i64 r.1) ∧ ∃ ft', At d r.2 ft' w' ∧ Moved w w' ft ft'
theorem refuse_two {on : Bool} {s u : ByteArray} (h : refuse on [s, u] = 0) : refuse on [s] = 0 := by
  unfold refuse at h ⊢
  cases on
  · simp at h
  · simp only [if_true] at h ⊢
    split at h
    · rename_i h1
      rw [if_pos (by simp at h1 ⊢; exact h1.1)]
    · cases h
theorem used_len {sp : List Sig} {t : Sig} (h : t ∈ sp) : 1 + (t.bs.length + 15) / 16 ≤ usedT sp := List.single_le_sum_nat (List.mem_map.2 ⟨t, h, rfl⟩)
theorem findT_mem {sp : List Sig} {nm : List UInt8} {t : Sig} (h : findT sp nm = some t) : t ∈ sp ∧ t.nm = nm := ⟨List.mem_of_find?_eq_some h, by simpa using List.find?_some h⟩
theorem len_used (sp : List Sig) : sp.length ≤ usedT sp := by
  unfold usedT
  induction sp with
  | nil => exact Nat.zero_le _
  | cons x r ih => simp only [List.length_cons, List.map_cons, List.sum_cons]; omega
section
variable {d : Nat} {A : Ab} {ft : List Nat} {w : World} (h : At d A ft w) (s : ByteArray) (hs : s.size ≤ maxLen)
include h hs
theorem abx_create (hF : A.Fine) (hl : A.left ≠ 1) (ho : A.ops ≤ 4611686018427387904) (hlm : A.left ≤ 9223372036854775807) :
    Calls Tryz.prog 60 #[.pointer (some ⟨d, 0, none⟩), .string s] w (Out d ft w (createM A s)) := by
  have h0 := h
  obtain ⟨bm, fs, hD, hss, rfl⟩ := h
  have hlen : fs.length = A.sp.length := by rw [← hss, List.length_map]
  have hu : sumUsed fs = usedT A.sp := by rw [used_sig, hss]
  have hn : A.sp.length < maxLen := by have := len_used A.sp; have := hF.used; unfold maxLen; omega
  have keep : ∀ {c : Int} {x : Ending} {w' : World}, x = .returned (.int .i64 c) ∧ DiskAt w' d bm (A.st fs) ∧ Moved w w' (foot d bm (A.st fs).fs) (foot d bm (A.st fs).fs) → Out d (foot d bm fs) w (c, A) x w' := fun hh => ⟨hh.1, _, ⟨bm, fs, hh.2.1, hss, rfl⟩, hh.2.2⟩
  have done : ∀ {x : Ending} {w' : World}, (x = .returned (.int .i64 0) ∧ ∃ b, DiskAt w' d bm { A.st fs with ops := (A.st fs).ops + 1, left := (A.st fs).left - 1, fs := putE (A.st fs).fs (newE (nameOf s) b) } ∧ Moved w w' (foot d bm (A.st fs).fs) (foot d bm (putE (A.st fs).fs (newE (nameOf s) b)))) → Out d (foot d bm fs) w (0, crT A (nameOf s)) x w' := by
    rintro x w' ⟨rfl, b, h1, h2⟩
    refine ⟨rfl, _, ⟨bm, _, h1, ?_, rfl⟩, h2⟩
    show (putE fs _).map sig = _
    rw [put_sig, hss]
    rfl
  unfold createM
  by_cases hc : refuse A.on [s] = 0
  · rw [if_pos hc]
    cases ht : findT A.sp (nameOf s) with
    | none =>
      have hf := find_sig_none hss ht
      simp only
      by_cases hm : 48 ≤ A.sp.length
      · rw [if_pos (.inl hm)]
        exact (create_many hD s hs hc hf (by show 48 ≤ fs.length; omega)).mono fun _ _ hh => keep hh
      · by_cases hr : A.room ≤ usedT A.sp
        · rw [if_pos (.inr hr)]
          exact (create_full hD s hs hc hf (by show fs.length < 48; omega) (by show A.room ≤ sumUsed fs; omega) (hF.st hss).used hF.room).mono fun _ _ hh => keep hh
        · rw [if_neg (by omega)]
          exact (create_new hD s hs hc hf (by show fs.length < 48; omega) (by show sumUsed fs < A.room; omega) hF.room hl ho hlm).mono fun _ _ hh => done hh
    | some t =>
      obtain ⟨e, he, _⟩ := find_sig_some hss ht
      simp only
      by_cases hm : 48 ≤ A.sp.length
      · exact (create_again_many hD s hs hc he (by show 48 ≤ fs.length; omega) hl ho hlm (by show fs.length < maxLen; omega)).mono fun _ _ hh => done hh
      · exact (create_again hD s hs hc he (by show fs.length < 48; omega) (hF.st hss).used hF.room hl ho hlm (by show fs.length < maxLen; omega)).mono fun _ _ hh => done hh
  · rw [if_neg hc]
    exact (create_refused hD s hs rfl hc).mono fun _ _ hh => keep hh
omit hs in
theorem Out.same {c : Int} {x : Ending} {w' : World} (hh : x = .returned (.int .i64 c) ∧ w.grownBy w' none) : Out d ft w (c, A) x w' := ⟨hh.1, ft, h.grown hh.2, Moved.none_of hh.2 _⟩
theorem abx_sync (hl : A.left ≠ 1) (ho : A.ops ≤ 4611686018427387904) (hlm : A.left ≤ 9223372036854775807) :
    Calls Tryz.prog 51 #[.pointer (some ⟨d, 0, none⟩), .string s] w (Out d ft w (syncM A s)) := by
  have h0 := h
  obtain ⟨bm, fs, hD, hss, rfl⟩ := h
  unfold syncM
  by_cases hc : refuse A.on [s] = 0
  · rw [if_pos hc]
    cases ht : findT A.sp (nameOf s) with
    | none => exact (sync_none hD s hs hc (find_sig_none hss ht)).mono fun _ _ hh => Out.same h0 hh
    | some t => exact ab_sync h0 s hs hc ht hl ho hlm
  · rw [if_neg hc]
    exact (sync_refused hD s hs rfl hc).mono fun _ _ hh => Out.same h0 hh
theorem abx_remove (hl : A.left ≠ 1) (ho : A.ops ≤ 4611686018427387904) (hlm : A.left ≤ 9223372036854775807) :
    Calls Tryz.prog 37 #[.pointer (some ⟨d, 0, none⟩), .string s] w (Out d ft w (removeM A s)) := by
  have h0 := h
  obtain ⟨bm, fs, hD, hss, rfl⟩ := h
  unfold removeM
  by_cases hc : refuse A.on [s] = 0
  · rw [if_pos hc]
    cases ht : findT A.sp (nameOf s) with
    | none => exact (remove_none hD s hs hc (find_sig_none hss ht)).mono fun _ _ hh => Out.same h0 hh
    | some t =>
      obtain ⟨e, he, _⟩ := find_sig_some hss ht
      refine (remove_ok hD s hs hc he hl ho hlm).mono ?_
      rintro x w' ⟨rfl, h1, h2⟩
      refine ⟨rfl, _, ⟨bm, _, h1, ?_, rfl⟩, h2⟩
      show (dropE fs _).map sig = _
      rw [drop_sig, hss]
      rfl
  · rw [if_neg hc]
    exact (remove_refused hD s hs rfl hc).mono fun _ _ hh => Out.same h0 hh
theorem abx_rename (u : ByteArray) (hu : u.size ≤ maxLen) (hF : A.Fine) (hl : A.left ≠ 1) (ho : A.ops ≤ 4611686018427387904) (hlm : A.left ≤ 9223372036854775807) :
    Calls Tryz.prog 73 #[.pointer (some ⟨d, 0, none⟩), .string s, .string u] w (Out d ft w (renameM A s u)) := by
  have h0 := h
  obtain ⟨bm, fs, hD, hss, rfl⟩ := h
  have hlen : fs.length = A.sp.length := by rw [← hss, List.length_map]
  have hn : A.sp.length < maxLen := by have := len_used A.sp; have := hF.used; unfold maxLen; omega
  have keep : ∀ {c : Int} {x : Ending} {w' : World}, x = .returned (.int .i64 c) ∧ DiskAt w' d bm (A.st fs) ∧ Moved w w' (foot d bm (A.st fs).fs) (foot d bm (A.st fs).fs) → Out d (foot d bm fs) w (c, A) x w' := fun hh => ⟨hh.1, _, ⟨bm, fs, hh.2.1, hss, rfl⟩, hh.2.2⟩
  unfold renameM
  by_cases hc : refuse A.on [s, u] = 0
  · rw [if_pos hc]
    cases ht : findT A.sp (nameOf s) with
    | none => exact (rename_none hD s u hs hu hc (refuse_two hc) (find_sig_none hss ht)).mono fun _ _ hh => keep hh
    | some t =>
      obtain ⟨e, he, rfl⟩ := find_sig_some hss ht
      refine (rename_ok hD s u hs hu hc (refuse_two hc) he hl ho hlm (by show fs.length < maxLen; omega)).mono ?_
      rintro x w' ⟨rfl, h1, h2⟩
      refine ⟨rfl, _, ⟨bm, _, h1, ?_, rfl⟩, h2⟩
      show (putE (dropE fs _) _).map sig = _
      rw [put_sig, drop_sig, hss]
      rfl
  · rw [if_neg hc]
    exact (rename_refused hD s u hs hu rfl hc).mono fun _ _ hh => keep hh
theorem abx_append (ao : Option Addr) (l : List UInt8) (c : Nat) (hb : Sees w ao l) (hne : ∀ a, ao = some a → 0 < l.length → a.block ∉ ft) (hF : A.Fine) (hl : A.left ≠ 1) (ho : A.ops ≤ 4611686018427387904) (hlm : A.left ≤ 9223372036854775807) (hnx : A.next ≤ 4611686018427387904) (hlen : ∀ t ∈ A.sp, t.bs.length + l.length ≤ 1099511627776) :
    Calls Tryz.prog 50 #[.pointer (some ⟨d, 0, none⟩), .string s, .slice ao l.length c] w (Out d ft w (appendM A s l)) := by
  have h0 := h
  obtain ⟨bm, fs, hD, hss, rfl⟩ := h
  unfold appendM
  by_cases hc : refuse A.on [s] = 0
  · rw [if_pos hc]
    cases ht : findT A.sp (nameOf s) with
    | none => exact (append_none hD s hs ao l.length c hc (find_sig_none hss ht)).mono fun _ _ hh => Out.same h0 hh
    | some t =>
      simp only
      by_cases hfull : (A.room : Int) - (usedT A.sp : Int) < lackT t l
      · rw [if_pos hfull]
        obtain ⟨e, he, rfl⟩ := find_sig_some hss ht
        have hm := (find_some he).1
        have hme : sig e ∈ A.sp := hss ▸ List.mem_map.2 ⟨e, hm, rfl⟩
        have hu : sumUsed fs = usedT A.sp := by rw [used_sig, hss]
        have hfull' : decide ((A.room : Int) - (sumUsed fs : Int) < secI ((e.bs.length : Int) + (l.length : Int)) - secI (e.bs.length : Int)) = true := by
          rw [hu]
          exact decide_eq_true hfull
        refine (append_ok hD s hs ao l c hb hc he hne hl ho hlm (hlen _ hme) hnx (hF.pln hme) (Nat.le_trans (hF.wr _ hme) (hF.len _ hme)) hF.room (hF.st hss).used true hfull').mono ?_
        rintro x w' ⟨rfl, h1, h2⟩
        exact ⟨rfl, _, ⟨bm, fs, h1, hss, rfl⟩, h2⟩
      · rw [if_neg hfull]
        exact ab_append h0 s hs ao l c hb hne hc ht hl ho hlm hF (hlen t (findT_mem ht).1) hnx (by omega)
  · rw [if_neg hc]
    exact (append_refused hD s hs ao l.length c rfl hc).mono fun _ _ hh => Out.same h0 hh
end
end Go.Proofs.YtglaocghcgcghaaGreatDoor
namespace Go.Proofs.YtglaocghcgcghaaGreatDoor
open Go.RowKit Go.Maps

theorem arm_refused {w : World} {d bm : Nat} {S : St} (h : DiskAt w d bm S) (n m : Int) (hon : S.on = false) :
    Calls Tryz.prog 8 #[.pointer (some ⟨d, 0, none⟩), .int .i64 n, .int .i64 m] w fun x w' => x = .returned (.int .i64 9) ∧ w' = w := by
  have R := refusal_nil h
  rw [hon] at R
  have R : Hid (Calls Tryz.prog 24 #[.pointer (some ⟨d, 0, none⟩), .slice none 0 0] w fun x w' => x = .returned (.int .i64 9) ∧ w' = w) := R
  clear h
  go_enter Tryz.func8, Tryz.ntmps8
  go_wp2_with (go_at_call 24; go_fit R.out; rintro x w1 ⟨rfl, rfl⟩)
  go_ret
  exact ⟨rfl, rfl⟩
theorem arm_arg {w : World} {d bm : Nat} {S : St} (h : DiskAt w d bm S) (n m : Int) (hon : S.on = true) (hn : n < 0) :
    Calls Tryz.prog 8 #[.pointer (some ⟨d, 0, none⟩), .int .i64 n, .int .i64 m] w fun x w' => x = .returned (.int .i64 2) ∧ w' = w := by
  have R := refusal_nil h
  rw [hon] at R
  have R : Hid (Calls Tryz.prog 24 #[.pointer (some ⟨d, 0, none⟩), .slice none 0 0] w fun x w' => x = .returned (.int .i64 0) ∧ w' = w) := R
  clear h
  go_enter Tryz.func8, Tryz.ntmps8
  go_wp2_with (go_at_call 24; go_fit R.out; rintro x w1 ⟨rfl, rfl⟩)
  go_ret
  exact ⟨rfl, rfl⟩
theorem arm_ok {w : World} {d bm : Nat} {S : St} (h : DiskAt w d bm S) (n : Nat) (m : Int) (hon : S.on = true) :
    Calls Tryz.prog 8 #[.pointer (some ⟨d, 0, none⟩), .int .i64 (n : Int), .int .i64 m] w fun x w' => x = .returned (.int .i64 0) ∧ DiskAt w' d bm { S with left := n, keep := m } ∧ Moved w w' [d] [d] := by
  have R := refusal_nil h
  rw [hon] at R
  have R : Hid (Calls Tryz.prog 24 #[.pointer (some ⟨d, 0, none⟩), .slice none 0 0] w fun x w' => x = .returned (.int .i64 0) ∧ w' = w) := R
  have c5 := h.c5
  have c6 := h.c6
  have f5 := h.head.frozen 5
  have f6 := h.head.frozen 6
  have k1 := h.put (S' := { S with left := n }) rfl 5 (.int .i64 (n : Int)) rfl
  have HE : Hid (DiskAt ((w.setCell ⟨d, 5, none⟩ (.int .i64 (n : Int))).setCell ⟨d, 6, none⟩ (.int .i64 m)) d bm { S with left := n, keep := m }) := k1.put (S' := { S with left := n, keep := m }) rfl 6 (.int .i64 m) rfl
  clear h k1
  go_enter Tryz.func8, Tryz.ntmps8
  go_wp2_with (go_at_call 24; go_fit R.out; rintro x w1 ⟨rfl, rfl⟩)
  go_ret
  exact ⟨rfl, HE.out, (Moved.of_set d 5 _).trans (Moved.of_set d 6 _)⟩

/-- The plan strikes, and the operation does nothing. -/
theorem operate_cut {w : World} {d bm : Nat} {S : St} (h : DiskAt w d bm S) (hon : S.on = true) (hl : S.left = 1) (ho : S.ops ≤ 4611686018427387904) (hF : S.Fine) (hk : -9223372036854775808 ≤ S.keep ∧ S.keep ≤ 9223372036854775807) (v : Value) :
    Calls Tryz.prog 62 #[.pointer (some ⟨d, 0, none⟩), v, .func (.func 64) #[] #[]] w fun x w' => x = .returned (.int .i64 9) ∧ DiskAt w' d bm { S with on := false, ops := S.ops + 1, fs := S.fs.map fun e => loseE e (lineEndN S S.keep.toNat) } ∧ Moved w w' (foot d bm S.fs) (foot d bm S.fs) := by
  have c3 := h.c3
  have f3 := h.head.frozen 3
  have c5 := h.c5
  rw [hl] at c5
  have c6 := h.c6
  have h1 := h.put (S' := { S with ops := S.ops + 1 }) rfl 3 (.int .i64 ((S.ops + 1 : Nat) : Int)) rfl
  have hF1 : St.Fine { S with ops := S.ops + 1 } := ⟨hF.files, hF.room, hF.used, hF.dirty⟩
  have M : Moved w (w.setCell ⟨d, 3, none⟩ (.int .i64 ((S.ops + 1 : Nat) : Int))) (foot d bm S.fs) (foot d bm S.fs) := (Moved.of_set d 3 _).wider (fun i hi => .inl (by simp at hi; simp [foot, hi])) (fun i hi => .inl hi)
  have hc := crash_on h1 hon hF1 S.keep hk.1 hk.2
  have t1 := ops_text S.ops ho
  generalize hA : ((S.ops + 1 : Nat) : Int) = A at *
  have HC : Hid (Calls Tryz.prog 12 #[.pointer (some ⟨d, 0, none⟩), .int .i64 S.keep] (w.setCell ⟨d, 3, none⟩ (.int .i64 A)) fun x w' => x = .returned (.tuple #[]) ∧ DiskAt w' d bm { S with on := false, ops := S.ops + 1, fs := S.fs.map fun e => loseE e (lineEndN S S.keep.toNat) } ∧ Moved w w' (foot d bm S.fs) (foot d bm S.fs)) := hc.mono fun x w' hh => ⟨hh.1, hh.2.1, M.trans hh.2.2⟩
  have NO : Hid (∀ w, Calls Tryz.prog 64 #[] w fun e w' => e = .returned (.tuple #[]) ∧ w' = w) := nothing_any
  clear h h1 M hc ho hl hA hF hF1 hon
  go_enter Tryz.func62, Tryz.ntmps62
  go_wp2_with (first | (go_at_call 64; go_fit (NO.out _); rintro x w1 ⟨rfl, rfl⟩) | (go_at_call 12; go_fit HC.out; rintro x w2 ⟨rfl, hQ⟩))
  go_ret
  exact ⟨rfl, hQ⟩
end Go.Proofs.YtglaocghcgcghaaGreatDoor
namespace Go.Proofs.YtglaocghcgcghaaGreatDoor
open Go.RowKit Go.Maps

section
variable {w : World} {d bm : Nat} {S : St} (h : DiskAt w d bm S) (s : ByteArray) (hs : s.size ≤ maxLen) (ao : Option Addr) (l : List UInt8) (c : Nat) (hb : Sees w ao l)
include h hs hb
set_option maxRecDepth 100000 in
set_option maxHeartbeats 2000000 in
theorem append_full (hc : refuse S.on [s] = 0) {e : Ent} (hf : find S.fs (nameOf s) = some e) (hlen : e.bs.length + l.length ≤ 1099511627776) (hr : S.room ≤ 1073741824) (hu : sumUsed S.fs ≤ 1099511627776) (hfull : decide ((S.room : Int) - (sumUsed S.fs : Int) < secI ((e.bs.length : Int) + (l.length : Int)) - secI (e.bs.length : Int)) = true) :
    Calls Tryz.prog 50 #[.pointer (some ⟨d, 0, none⟩), .string s, .slice ao l.length c] w fun x w' => AppOut w d bm S e l true x w' := by
  have hmf : ∀ (fn : Fn) (first cap : Array Value) (w : World), (Instr.makeFunc fn first cap).run Tryz.prog w = .ok (.func fn first cap) w := fun _ _ _ _ => rfl
  have he := (find_some hf).1
  have FN : Hid (Calls Tryz.prog 43 #[.pointer (some ⟨d, 0, none⟩), .string s] ((w.alloc (.cells #[.pointer (some ⟨d, 0, none⟩)] 29)).alloc (.cells #[.slice ao l.length c] 37)) fun x w' => x = .returned (.tuple #[.pointer (some ⟨e.b, 0, none⟩), .int .i64 0]) ∧ ((w.alloc (.cells #[.pointer (some ⟨d, 0, none⟩)] 29)).alloc (.cells #[.slice ao l.length c] 37)).grownBy w' none) := find_ok ((h.alloc _).alloc _) s hs hc hf
  have BX : Hid (∀ w1, ((w.alloc (.cells #[.pointer (some ⟨d, 0, none⟩)] 29)).alloc (.cells #[.slice ao l.length c] 37)).grownBy w1 none → Boxed3 w d bm S e ao l c w1.heap.size (w1.alloc (.cells #[.pointer (some ⟨e.b, 0, none⟩)] 76))) := fun w1 hg => boxes_two h c hb hg e
  have LC : Hid (∀ g w3, Boxed3 w d bm S e ao l c g w3 → ∀ k, Calls Tryz.prog 76 #[.pointer (some ⟨e.b, 0, none⟩), .int .i64 (l.length : Int)] (w3.drewN k) fun x w4 => x = .returned (.int .i64 (secI ((e.bs.length : Int) + (l.length : Int)) - secI (e.bs.length : Int))) ∧ Boxed3 w d bm S e ao l c g w4) := fun g w3 hB k => (lacks_any ((hB.drewN k).disk.ents e he) l.length (by omega)).mono fun x w4 hh => ⟨hh.1, by obtain ⟨k', hk'⟩ := hh.2; rw [hk']; exact (hB.drewN k).drewN k'⟩
  have FC : Hid (∀ g w3, Boxed3 w d bm S e ao l c g w3 → ∀ k, Calls Tryz.prog 77 #[.pointer (some ⟨d, 0, none⟩)] (w3.drewN k) fun x w4 => x = .returned (.int .i64 ((S.room : Int) - (sumUsed S.fs : Int))) ∧ Boxed3 w d bm S e ao l c g w4) := fun g w3 hB k => (free_any (hB.drewN k).disk (refuse_on hc) hu hr).mono fun x w4 hh => ⟨hh.1, (hB.drewN k).grown hh.2⟩
  have LP : Hid (∀ g w3, Boxed3 w d bm S e ao l c g w3 → Calls Tryz.prog 76 #[.pointer (some ⟨e.b, 0, none⟩), .int .i64 (l.length : Int)] w3 fun x w4 => x = .returned (.int .i64 (secI ((e.bs.length : Int) + (l.length : Int)) - secI (e.bs.length : Int))) ∧ Boxed3 w d bm S e ao l c g w4) := fun g w3 hB => LC.out g w3 hB 0
  have FP : Hid (∀ g w3, Boxed3 w d bm S e ao l c g w3 → Calls Tryz.prog 77 #[.pointer (some ⟨d, 0, none⟩)] w3 fun x w4 => x = .returned (.int .i64 ((S.room : Int) - (sumUsed S.fs : Int))) ∧ Boxed3 w d bm S e ao l c g w4) := fun g w3 hB => FC.out g w3 hB 0
  have hd := h.head.lt
  have ha := secI_bd (x := (e.bs.length : Int) + (l.length : Int)) ⟨by omega, by omega⟩
  clear hb he hf hc hs hlen h
  generalize (S.room : Int) - (sumUsed S.fs : Int) = fr at *
  generalize secI ((e.bs.length : Int) + (l.length : Int)) - secI (e.bs.length : Int) = lk at *
  clear ha
  go_enter Tryz.func50, Tryz.ntmps50
  go_wp2_with (go_at_call 43; go_fit FN.out; rintro x w1 ⟨rfl, hg⟩)
  have hB := BX.out w1 hg
  have k1 := hB.k1
  have k2 := hB.k2
  have k3 := hB.k3
  generalize w1.alloc (.cells #[.pointer (some ⟨e.b, 0, none⟩)] 76) = wb at *
  generalize w1.heap.size = g at *
  clear hg FN BX
  go_region_law (first
    | (go_simp; go_at_call 76; first | (have hX := hBF; go_fit (LP.out g _ hBF); rintro x w5 ⟨rfl, hBL⟩) | (go_fit (LC.out g _ hB _); rintro x w5 ⟨rfl, hBL⟩; have m1 := hBL.k1; have m2 := hBL.k2; have m3 := hBL.k3))
    | (go_simp; go_at_call 77; first | (have hX := hBL; go_fit (FP.out g _ hBL); rintro x w6 ⟨rfl, hBF⟩) | (go_fit (FC.out g _ hB _); rintro x w6 ⟨rfl, hBF⟩; have n1 := hBF.k1; have n2 := hBF.k2; have n3 := hBF.k3)))
  all_goals
    have z1 := hBF.k1
    go_wp2
    go_ret
    exact ⟨rfl, hBF.disk, hBF.moved⟩
end
end Go.Proofs.YtglaocghcgcghaaGreatDoor
namespace Go.Proofs.YtglaocghcgcghaaGreatDoor
open Go.RowKit

theorem info8K : (Tryz.prog.info? 5).map (fun i => (i.zero, i.size, i.bytes)) = some (some (.int .u8 0), 1, 1) := by kernel_rfl
/-- One byte, laid in a block of its own, as a source. -/
theorem src_oneK (w : World) (z : Int) (b : UInt8) (h : (b.toNat : Int) = z) :
    Src Tryz.prog 1 37 (.slice (some ⟨w.heap.size, 0, none⟩) 1 1) 1 (B8 [b]) (w.alloc (.cells #[.int .u8 z] 5)) := by
  refine Src.ofSlice _ Tryz.underlying37 _ 1 1 _ (by simp [B8_length]) ?_ (B8_one _)
  intro j u hu
  match j, hu with
  | 0, hu => simp [B8] at hu; subst hu; simp [Addr.add, h]
  | j + 1, hu => simp [B8] at hu
theorem sees_litK (w : World) (l : List UInt8) (pr : Nat × Nat) : Sees (w.alloc (.cells (B8 l).toArray 5 pr)) (some ⟨w.heap.size, 0, none⟩) l := by
  intro i hi
  refine ⟨_, rfl, ?_⟩
  have h : (w.alloc (.cells (B8 l).toArray 5 pr)).heap[w.heap.size]? = some (.cells (B8 l).toArray 5 pr) := heap_alloc_new w _
  have e := B8_at l i hi
  rw [Addr.add_lit, Nat.zero_add]
  simp only [World.cell?, h]
  simpa using e
theorem esc_len : ∀ l : List UInt8, (esc l).length ≤ 2 * l.length
  | [] => by simp [esc]
  | b :: l => by have := esc_len l; simp only [esc]; split <;> simp only [List.length_cons] <;> omega
theorem esc_succ (l : List UInt8) (k : Nat) (hk : k < l.length) : esc (l.take (k + 1)) = esc (l.take k) ++ (if l.getD k 0 = 0 then [0, 255] else [l.getD k 0]) := by
  have e : l.getD k 0 = l[k] := by simp [List.getD, hk]
  rw [List.take_succ_eq_append_getElem hk, esc_append, e]
  simp only [esc]
theorem encT_len (l : List UInt8) : (encT l).length = (esc l).length + 2 := by simp [encT]

end Go.Proofs.YtglaocghcgcghaaGreatDoor

/-
  SEVERAL TEXTS IN ONE: DskKeepsP, DskModel, DskList, ShortPlain.
-/
import Derived.Test.YtlamncldbnagmaaGreatDoorMany8
import Derived.Laws.BytesString
import Derived.Test.YtlamncldbnagmaaGreatDoorDskRename
import Derived.Test.YtlamncldbnagmaaGreatDoorMany2
import Derived.Test.YtlamncldbnagmaaGreatDoorMany7
namespace Go.Proofs.YtlamncldbnagmaaGreatDoor
open Go.RowKit Go.Maps

theorem conv_seesD {w : World} {ao : Option Addr} {l : List UInt8} (h : Sees w ao l) (hn : ao = none → l.length = 0) (cap : Nat) :
    (convert 23 9 (.slice ao l.length cap)).run Tryz.prog w = .ok (.string ⟨l.toArray⟩) w := by
  cases ao with
  | none =>
    obtain rfl : l = [] := List.eq_nil_of_length_eq_zero (hn rfl)
    rw [run_convert_bytes_string w 23 9 5 none _ cap Tryz.underlying23 Tryz.underlying5 Tryz.underlying9]
    rfl
  | some a =>
    refine run_convert_bytes_back w 23 9 5 a cap l Tryz.underlying23 Tryz.underlying5 Tryz.underlying9 fun j hj => ?_
    obtain ⟨a', e, hc⟩ := h j hj
    obtain rfl := Option.some.inj e
    rw [hc]; simp [List.getD, hj]
set_option maxHeartbeats 400000 in
theorem same_anyD (ao bo : Option Addr) (la lb : List UInt8) (ca cb : Nat) (w : World) (ha : Sees w ao la) (hb : Sees w bo lb) (hna : ao = none → la.length = 0) (hnb : bo = none → lb.length = 0) :
    Calls Tryz.prog 14 #[.slice ao la.length ca, .slice bo lb.length cb] w fun e w' => e = .returned (.bool (la == lb)) ∧ w' = w := by
  have c1 := conv_seesD ha hna ca
  have c2 := conv_seesD hb hnb cb
  go_enter Tryz.func14, Tryz.ntmps14
  go_wp2
  go_ret
  exact ⟨rfl, rfl⟩

/-- The disk lies in memory that is new since w0; all that was there is as it was. -/
def Kp (w0 : World) (d : Nat) (A : Ab) (w1 : World) : Prop := ∃ ft, At d A ft w1 ∧ Moved w0 w1 [] ft
theorem Kp.grown {w0 : World} {d : Nat} {A : Ab} {w1 w2 : World} (h : Kp w0 d A w1) (hg : w1.grownBy w2 none) : Kp w0 d A w2 := by
  obtain ⟨ft, h1, h2⟩ := h
  exact ⟨ft, h1.grown hg, h2.trans (Moved.none_of hg _)⟩
theorem Kp.below {w0 : World} {d : Nat} {A : Ab} {w1 : World} (h : Kp w0 d A w1) : Below w0.heap.size w0 w1 := by
  obtain ⟨ft, _, h2⟩ := h
  exact h2.below (Nat.le_refl _) (by simp)
theorem Kp.sees {w0 : World} {d : Nat} {A : Ab} {w1 : World} (h : Kp w0 d A w1) {ao : Option Addr} {l : List UInt8} (hs : Sees w0 ao l) : Sees w1 ao l := hs.below h.below (Nat.le_refl _)
def syT (A : Ab) (nm : List UInt8) (t : Sig) : Ab := { A with ops := A.ops + 1, left := A.left - 1, sp := upd A.sp nm ⟨nm, t.bs, t.bs.length, []⟩ }
def crT (A : Ab) (nm : List UInt8) : Ab := { A with ops := A.ops + 1, left := A.left - 1, sp := putT A.sp ⟨nm, [], 0, []⟩ }
section
variable {w0 : World} {d : Nat} {A : Ab} {w1 : World} (h : Kp w0 d A w1) (s : ByteArray) (hs : s.size ≤ maxLen)
include h
theorem kp_crash (hon : A.on = true) (hF : A.Fine) (keep : Int) (hk1 : -9223372036854775808 ≤ keep) (hk2 : keep ≤ 9223372036854775807) : Calls Tryz.prog 130 #[.pointer (some ⟨d, 0, none⟩), .int .i64 keep] w1 fun x w' => x = .returned (.tuple #[]) ∧ Kp w0 d { A with on := false, sp := A.sp.map fun t => loseT t (endT A keep.toNat) } w' := by
  obtain ⟨ft, h1, h2⟩ := h
  exact (ab_crash h1 hon hF keep hk1 hk2).mono fun x w' ⟨e, ft', a1, a2⟩ => ⟨e, ft', a1, h2.trans a2⟩
include hs
theorem kp_read (hc : refuse A.on [s] = 0) {t : Sig} (ht : findT A.sp (nameOf s) = some t) (hl : t.bs.length ≤ 1099511627776) : Calls Tryz.prog 52 #[.pointer (some ⟨d, 0, none⟩), .string s] w1 fun x w' => ∃ ao c, x = .returned (.tuple #[.slice ao t.bs.length c, .int .i64 0]) ∧ Sees w' ao t.bs ∧ (ao = none → t.bs.length = 0) ∧ t.bs.length ≤ c ∧ w1.grownBy w' none ∧ Kp w0 d A w' := by
  have h0 := h
  obtain ⟨ft, h1, h2⟩ := h
  refine (ab_read h1 s hs hc ht hl).mono ?_
  rintro x w' ⟨v, rfl, ho, hg⟩
  obtain ⟨ao, c, rfl, hsee, _, hn⟩ := owns_sees ho
  obtain ⟨_, _, he, hcap, _⟩ := owns_form ho
  cases he
  exact ⟨ao, c, rfl, hsee, fun e => (hn e).1, hcap, hg, h0.grown hg⟩
theorem kp_sync (hc : refuse A.on [s] = 0) {t : Sig} (ht : findT A.sp (nameOf s) = some t) (hl : A.left ≠ 1) (ho : A.ops ≤ 4611686018427387904) (hlm : A.left ≤ 9223372036854775807) : Calls Tryz.prog 83 #[.pointer (some ⟨d, 0, none⟩), .string s] w1 fun x w' => x = .returned (.int .i64 0) ∧ Kp w0 d (syT A (nameOf s) t) w' := by
  obtain ⟨ft, h1, h2⟩ := h
  exact (ab_sync h1 s hs hc ht hl ho hlm).mono fun x w' ⟨e, ft', a1, a2⟩ => ⟨e, ft', a1, h2.trans a2⟩
theorem kp_create (hc : refuse A.on [s] = 0) (ht : findT A.sp (nameOf s) = none) (hlen : A.sp.length < 48) (hu : usedT A.sp < A.room) (hr : A.room ≤ 1073741824) (hl : A.left ≠ 1) (ho : A.ops ≤ 4611686018427387904) (hlm : A.left ≤ 9223372036854775807) : Calls Tryz.prog 82 #[.pointer (some ⟨d, 0, none⟩), .string s] w1 fun x w' => x = .returned (.int .i64 0) ∧ Kp w0 d (crT A (nameOf s)) w' := by
  obtain ⟨ft, h1, h2⟩ := h
  exact (ab_create h1 s hs hc ht hlen hu hr hl ho hlm).mono fun x w' ⟨e, ft', a1, a2⟩ => ⟨e, ft', a1, h2.trans a2⟩
theorem kp_append (ao : Option Addr) (l : List UInt8) (c : Nat) (hb : Sees w0 ao l) (hc : refuse A.on [s] = 0) {t : Sig} (ht : findT A.sp (nameOf s) = some t) (hl : A.left ≠ 1) (ho : A.ops ≤ 4611686018427387904) (hlm : A.left ≤ 9223372036854775807) (hF : A.Fine) (hlen : t.bs.length + l.length ≤ 1099511627776) (hnx : A.next ≤ 4611686018427387904) (hroom : lackT t l ≤ (A.room : Int) - (usedT A.sp : Int)) :
    Calls Tryz.prog 84 #[.pointer (some ⟨d, 0, none⟩), .string s, .slice ao l.length c] w1 fun x w' => x = .returned (.int .i64 0) ∧ Kp w0 d (appT A (nameOf s) t l) w' := by
  have hsee := h.sees hb
  obtain ⟨ft, h1, h2⟩ := h
  refine (ab_append h1 s hs ao l c hsee (fun a ha h0 hi => ?_) hc ht hl ho hlm hF hlen hnx hroom).mono fun x w' ⟨e, ft', a1, a2⟩ => ⟨e, ft', a1, h2.trans a2⟩
  have := hb.lt ha h0
  rcases h2.news _ hi with h3 | h3
  · simp at h3
  · omega
end
theorem kp_new (room : Nat) (hr : room ≤ 1073741824) (w : World) : Calls Tryz.prog 25 #[.int .i64 (room : Int)] w fun x w' => ∃ d, x = .returned (.pointer (some ⟨d, 0, none⟩)) ∧ Kp w d (newA room) w' := by
  refine (ab_new room hr w).mono ?_
  rintro x w1 ⟨d, ft, rfl, hA, hg, hn⟩
  exact ⟨d, rfl, ft, hA, (Moved.of_grown hg).wider (by simp) (fun i hi => .inr (.inr (hn i hi)))⟩

/-! ### the states -/
def nmB : ByteArray := ⟨#[98]⟩
section
variable (l1 l2 l3 : List UInt8)
def kt1 : Sig := ⟨[97], [], 0, []⟩
def kA1 : Ab := crT (newA 10000) [97]
def kA2 : Ab := appT kA1 [97] kt1 l1
def kt2 : Sig := ⟨[97], l1, 0, List.range' 0 (growT kt1 l1)⟩
def kA3 : Ab := syT (kA2 l1) [97] (kt2 l1)
def kt3 : Sig := ⟨[97], l1, l1.length, []⟩
def kA4 : Ab := crT (kA3 l1) [98]
def ku4 : Sig := ⟨[98], [], 0, []⟩
def kA5 : Ab := appT (kA4 l1) [98] ku4 l3
def ku5 : Sig := ⟨[98], l3, 0, List.range' (kA4 l1).next (growT ku4 l3)⟩
def kA6 : Ab := appT (kA5 l1 l3) [97] (kt3 l1) l2
def kt6 : Sig := ⟨[97], l1 ++ l2, l1.length, List.range' (kA5 l1 l3).next (growT (kt3 l1) l2)⟩
def kA7 : Ab := syT (kA6 l1 l2 l3) [98] (ku5 l1 l3)
def ku7 : Sig := ⟨[98], l3, l3.length, []⟩
theorem sp1 : kA1.sp = [kt1] := rfl
theorem sp2 : (kA2 l1).sp = [kt2 l1] := by simp [kA2, appT, kA1, crT, upd, putT, insT, dropT, newA, kt1, kt2]
theorem sp3 : (kA3 l1).sp = [kt3 l1] := by simp [kA3, syT, sp2, upd, kt2, kt3]
theorem sp4 : (kA4 l1).sp = [kt3 l1, ku4] := by
  have : dropT [kt3 l1] [98] = [kt3 l1] := rfl
  simp only [kA4, crT, sp3, putT, this]
  rfl
theorem sp5 : (kA5 l1 l3).sp = [kt3 l1, ku5 l1 l3] := by simp [kA5, appT, sp4, upd, kt3, ku4, ku5]
theorem sp6 : (kA6 l1 l2 l3).sp = [kt6 l1 l2 l3, ku5 l1 l3] := by simp [kA6, appT, sp5, upd, kt3, ku5, kt6]
theorem sp7 : (kA7 l1 l2 l3).sp = [kt6 l1 l2 l3, ku7 l3] := by simp [kA7, syT, sp6, upd, kt6, ku5, ku7]
end
end Go.Proofs.YtlamncldbnagmaaGreatDoor
namespace Go.Proofs.YtlamncldbnagmaaGreatDoor
open Go.RowKit Go.Maps

def rmT (A : Ab) (nm : List UInt8) : Ab := { A with ops := A.ops + 1, left := A.left - 1, sp := dropT A.sp nm }
def rnT (A : Ab) (nm to : List UInt8) (t : Sig) : Ab := { A with ops := A.ops + 1, left := A.left - 1, sp := putT (dropT A.sp nm) ⟨to, t.bs, t.wr, t.pl⟩ }
def spT (A : Ab) (nm : List UInt8) (t : Sig) (i k : Nat) : Ab := { A with sp := upd A.sp nm ⟨nm, t.bs.set i (flipB (t.bs.getD i 0) k), t.wr, t.pl⟩ }
def createM (A : Ab) (s : ByteArray) : Int × Ab :=
  if refuse A.on [s] = 0 then
    match findT A.sp (nameOf s) with
    | none => if 48 ≤ A.sp.length ∨ A.room ≤ usedT A.sp then (7, A) else (0, crT A (nameOf s))
    | some _ => (0, crT A (nameOf s))
  else (refuse A.on [s], A)
def appendM (A : Ab) (s : ByteArray) (l : List UInt8) : Int × Ab :=
  if refuse A.on [s] = 0 then
    match findT A.sp (nameOf s) with
    | none => (4, A)
    | some t => if (A.room : Int) - (usedT A.sp : Int) < lackT t l then (7, A) else (0, appT A (nameOf s) t l)
  else (refuse A.on [s], A)
def syncM (A : Ab) (s : ByteArray) : Int × Ab :=
  if refuse A.on [s] = 0 then
    match findT A.sp (nameOf s) with
    | none => (4, A)
    | some t => (0, syT A (nameOf s) t)
  else (refuse A.on [s], A)
def removeM (A : Ab) (s : ByteArray) : Int × Ab :=
  if refuse A.on [s] = 0 then
    match findT A.sp (nameOf s) with
    | none => (4, A)
    | some _ => (0, rmT A (nameOf s))
  else (refuse A.on [s], A)
def renameM (A : Ab) (s u : ByteArray) : Int × Ab :=
  if refuse A.on [s, u] = 0 then
    match findT A.sp (nameOf s) with
    | none => (4, A)
    | some t => (0, rnT A (nameOf s) (nameOf u) t)
  else (refuse A.on [s, u], A)
def spoilM (A : Ab) (s : ByteArray) (i k : Int) : Int × Ab :=
  if refuse A.on [s] = 0 then
    match findT A.sp (nameOf s) with
    | none => (4, A)
    | some t => if i < 0 ∨ (t.bs.length : Int) ≤ i ∨ k < 0 ∨ 7 < k then (2, A) else (0, spT A (nameOf s) t i.toNat k.toNat)
  else (refuse A.on [s], A)
/-- A call that answered a number. -/
def Out (d : Nat) (ft : List Nat) (w : World) (r : Int × Ab) (x : Ending) (w' : World) : Prop := x = .returned (.int .i64 r.1) ∧ ∃ ft', At d r.2 ft' w' ∧ Moved w w' ft ft'
theorem refuse_two {on : Bool} {s u : ByteArray} (h : refuse on [s, u] = 0) : refuse on [s] = 0 := by
  unfold refuse at h ⊢
  cases on
  · simp at h
  · simp only [if_true] at h ⊢
    split at h
    · rename_i h1
      rw [if_pos (by simp at h1 ⊢; exact h1.1)]
    · cases h
theorem used_len {sp : List Sig} {t : Sig} (h : t ∈ sp) : 1 + (t.bs.length + 15) / 16 ≤ usedT sp := List.single_le_sum_nat (List.mem_map.2 ⟨t, h, rfl⟩)
theorem findT_mem {sp : List Sig} {nm : List UInt8} {t : Sig} (h : findT sp nm = some t) : t ∈ sp ∧ t.nm = nm := ⟨List.mem_of_find?_eq_some h, by simpa using List.find?_some h⟩
theorem len_used (sp : List Sig) : sp.length ≤ usedT sp := by
  unfold usedT
  induction sp with
  | nil => exact Nat.zero_le _
  | cons x r ih => simp only [List.length_cons, List.map_cons, List.sum_cons]; omega
section
variable {d : Nat} {A : Ab} {ft : List Nat} {w : World} (h : At d A ft w) (s : ByteArray) (hs : s.size ≤ maxLen)
include h hs
theorem abx_create (hF : A.Fine) (hl : A.left ≠ 1) (ho : A.ops ≤ 4611686018427387904) (hlm : A.left ≤ 9223372036854775807) :
    Calls Tryz.prog 82 #[.pointer (some ⟨d, 0, none⟩), .string s] w (Out d ft w (createM A s)) := by
  have h0 := h
  obtain ⟨bm, fs, hD, hss, rfl⟩ := h
  have hlen : fs.length = A.sp.length := by rw [← hss, List.length_map]
  have hu : sumUsed fs = usedT A.sp := by rw [used_sig, hss]
  have hn : A.sp.length < maxLen := by have := len_used A.sp; have := hF.used; unfold maxLen; omega
  have keep : ∀ {c : Int} {x : Ending} {w' : World}, x = .returned (.int .i64 c) ∧ DiskAt w' d bm (A.st fs) ∧ Moved w w' (foot d bm (A.st fs).fs) (foot d bm (A.st fs).fs) → Out d (foot d bm fs) w (c, A) x w' := fun hh => ⟨hh.1, _, ⟨bm, fs, hh.2.1, hss, rfl⟩, hh.2.2⟩
  have done : ∀ {x : Ending} {w' : World}, (x = .returned (.int .i64 0) ∧ ∃ b, DiskAt w' d bm { A.st fs with ops := (A.st fs).ops + 1, left := (A.st fs).left - 1, fs := putE (A.st fs).fs (newE (nameOf s) b) } ∧ Moved w w' (foot d bm (A.st fs).fs) (foot d bm (putE (A.st fs).fs (newE (nameOf s) b)))) → Out d (foot d bm fs) w (0, crT A (nameOf s)) x w' := by
    rintro x w' ⟨rfl, b, h1, h2⟩
    refine ⟨rfl, _, ⟨bm, _, h1, ?_, rfl⟩, h2⟩
    show (putE fs _).map sig = _
    rw [put_sig, hss]
    rfl
  unfold createM
  by_cases hc : refuse A.on [s] = 0
  · rw [if_pos hc]
    cases ht : findT A.sp (nameOf s) with
    | none =>
      have hf := find_sig_none hss ht
      simp only
      by_cases hm : 48 ≤ A.sp.length
      · rw [if_pos (.inl hm)]
        exact (create_many hD s hs hc hf (by show 48 ≤ fs.length; omega)).mono fun _ _ hh => keep hh
      · by_cases hr : A.room ≤ usedT A.sp
        · rw [if_pos (.inr hr)]
          exact (create_full hD s hs hc hf (by show fs.length < 48; omega) (by show A.room ≤ sumUsed fs; omega) (hF.st hss).used hF.room).mono fun _ _ hh => keep hh
        · rw [if_neg (by omega)]
          exact (create_new hD s hs hc hf (by show fs.length < 48; omega) (by show sumUsed fs < A.room; omega) hF.room hl ho hlm).mono fun _ _ hh => done hh
    | some t =>
      obtain ⟨e, he, _⟩ := find_sig_some hss ht
      simp only
      by_cases hm : 48 ≤ A.sp.length
      · exact (create_again_many hD s hs hc he (by show 48 ≤ fs.length; omega) hl ho hlm (by show fs.length < maxLen; omega)).mono fun _ _ hh => done hh
      · exact (create_again hD s hs hc he (by show fs.length < 48; omega) (hF.st hss).used hF.room hl ho hlm (by show fs.length < maxLen; omega)).mono fun _ _ hh => done hh
  · rw [if_neg hc]
    exact (create_refused hD s hs rfl hc).mono fun _ _ hh => keep hh
omit hs in
theorem Out.same {c : Int} {x : Ending} {w' : World} (hh : x = .returned (.int .i64 c) ∧ w.grownBy w' none) : Out d ft w (c, A) x w' := ⟨hh.1, ft, h.grown hh.2, Moved.none_of hh.2 _⟩
theorem abx_sync (hl : A.left ≠ 1) (ho : A.ops ≤ 4611686018427387904) (hlm : A.left ≤ 9223372036854775807) :
    Calls Tryz.prog 83 #[.pointer (some ⟨d, 0, none⟩), .string s] w (Out d ft w (syncM A s)) := by
  have h0 := h
  obtain ⟨bm, fs, hD, hss, rfl⟩ := h
  unfold syncM
  by_cases hc : refuse A.on [s] = 0
  · rw [if_pos hc]
    cases ht : findT A.sp (nameOf s) with
    | none => exact (sync_none hD s hs hc (find_sig_none hss ht)).mono fun _ _ hh => Out.same h0 hh
    | some t => exact ab_sync h0 s hs hc ht hl ho hlm
  · rw [if_neg hc]
    exact (sync_refused hD s hs rfl hc).mono fun _ _ hh => Out.same h0 hh
theorem abx_remove (hl : A.left ≠ 1) (ho : A.ops ≤ 4611686018427387904) (hlm : A.left ≤ 9223372036854775807) :
    Calls Tryz.prog 50 #[.pointer (some ⟨d, 0, none⟩), .string s] w (Out d ft w (removeM A s)) := by
  have h0 := h
  obtain ⟨bm, fs, hD, hss, rfl⟩ := h
  unfold removeM
  by_cases hc : refuse A.on [s] = 0
  · rw [if_pos hc]
    cases ht : findT A.sp (nameOf s) with
    | none => exact (remove_none hD s hs hc (find_sig_none hss ht)).mono fun _ _ hh => Out.same h0 hh
    | some t =>
      obtain ⟨e, he, _⟩ := find_sig_some hss ht
      refine (remove_ok hD s hs hc he hl ho hlm).mono ?_
      rintro x w' ⟨rfl, h1, h2⟩
      refine ⟨rfl, _, ⟨bm, _, h1, ?_, rfl⟩, h2⟩
      show (dropE fs _).map sig = _
      rw [drop_sig, hss]
      rfl
  · rw [if_neg hc]
    exact (remove_refused hD s hs rfl hc).mono fun _ _ hh => Out.same h0 hh
theorem abx_rename (u : ByteArray) (hu : u.size ≤ maxLen) (hF : A.Fine) (hl : A.left ≠ 1) (ho : A.ops ≤ 4611686018427387904) (hlm : A.left ≤ 9223372036854775807) :
    Calls Tryz.prog 133 #[.pointer (some ⟨d, 0, none⟩), .string s, .string u] w (Out d ft w (renameM A s u)) := by
  have h0 := h
  obtain ⟨bm, fs, hD, hss, rfl⟩ := h
  have hlen : fs.length = A.sp.length := by rw [← hss, List.length_map]
  have hn : A.sp.length < maxLen := by have := len_used A.sp; have := hF.used; unfold maxLen; omega
  have keep : ∀ {c : Int} {x : Ending} {w' : World}, x = .returned (.int .i64 c) ∧ DiskAt w' d bm (A.st fs) ∧ Moved w w' (foot d bm (A.st fs).fs) (foot d bm (A.st fs).fs) → Out d (foot d bm fs) w (c, A) x w' := fun hh => ⟨hh.1, _, ⟨bm, fs, hh.2.1, hss, rfl⟩, hh.2.2⟩
  unfold renameM
  by_cases hc : refuse A.on [s, u] = 0
  · rw [if_pos hc]
    cases ht : findT A.sp (nameOf s) with
    | none => exact (rename_none hD s u hs hu hc (refuse_two hc) (find_sig_none hss ht)).mono fun _ _ hh => keep hh
    | some t =>
      obtain ⟨e, he, rfl⟩ := find_sig_some hss ht
      refine (rename_ok hD s u hs hu hc (refuse_two hc) he hl ho hlm (by show fs.length < maxLen; omega)).mono ?_
      rintro x w' ⟨rfl, h1, h2⟩
      refine ⟨rfl, _, ⟨bm, _, h1, ?_, rfl⟩, h2⟩
      show (putE (dropE fs _) _).map sig = _
      rw [put_sig, drop_sig, hss]
      rfl
  · rw [if_neg hc]
    exact (rename_refused hD s u hs hu rfl hc).mono fun _ _ hh => keep hh
theorem abx_append (ao : Option Addr) (l : List UInt8) (c : Nat) (hb : Sees w ao l) (hne : ∀ a, ao = some a → 0 < l.length → a.block ∉ ft) (hF : A.Fine) (hl : A.left ≠ 1) (ho : A.ops ≤ 4611686018427387904) (hlm : A.left ≤ 9223372036854775807) (hnx : A.next ≤ 4611686018427387904) (hlen : ∀ t ∈ A.sp, t.bs.length + l.length ≤ 1099511627776) :
    Calls Tryz.prog 84 #[.pointer (some ⟨d, 0, none⟩), .string s, .slice ao l.length c] w (Out d ft w (appendM A s l)) := by
  have h0 := h
  obtain ⟨bm, fs, hD, hss, rfl⟩ := h
  unfold appendM
  by_cases hc : refuse A.on [s] = 0
  · rw [if_pos hc]
    cases ht : findT A.sp (nameOf s) with
    | none => exact (append_none hD s hs ao l.length c hc (find_sig_none hss ht)).mono fun _ _ hh => Out.same h0 hh
    | some t =>
      simp only
      by_cases hfull : (A.room : Int) - (usedT A.sp : Int) < lackT t l
      · rw [if_pos hfull]
        obtain ⟨e, he, rfl⟩ := find_sig_some hss ht
        have hm := (find_some he).1
        have hme : sig e ∈ A.sp := hss ▸ List.mem_map.2 ⟨e, hm, rfl⟩
        have hu : sumUsed fs = usedT A.sp := by rw [used_sig, hss]
        have hfull' : decide ((A.room : Int) - (sumUsed fs : Int) < secI ((e.bs.length : Int) + (l.length : Int)) - secI (e.bs.length : Int)) = true := by
          rw [hu]
          exact decide_eq_true hfull
        refine (append_ok hD s hs ao l c hb hc he hne hl ho hlm (hlen _ hme) hnx (hF.pln hme) (Nat.le_trans (hF.wr _ hme) (hF.len _ hme)) hF.room (hF.st hss).used true hfull').mono ?_
        rintro x w' ⟨rfl, h1, h2⟩
        exact ⟨rfl, _, ⟨bm, fs, h1, hss, rfl⟩, h2⟩
      · rw [if_neg hfull]
        exact ab_append h0 s hs ao l c hb hne hc ht hl ho hlm hF (hlen t (findT_mem ht).1) hnx (by omega)
  · rw [if_neg hc]
    exact (append_refused hD s hs ao l.length c rfl hc).mono fun _ _ hh => Out.same h0 hh
end
end Go.Proofs.YtlamncldbnagmaaGreatDoor
namespace Go.Proofs.YtlamncldbnagmaaGreatDoor
open Go.RowKit Go.Maps Go.Sort Go.Shelf

theorem keys_datum (fs : List Ent) : strKeys (datum fs) = fs.map Ent.nm := by
  unfold strKeys datum
  simp
  intro a _
  rfl
theorem size_datum (fs : List Ent) : Maps.size (datum fs) = fs.length := by
  unfold Maps.size datum
  simp
set_option maxHeartbeats 1000000 in
theorem list_on {w : World} {d bm : Nat} {S : St} (h : DiskAt w d bm S) (hon : S.on = true) (hn : S.fs.length ≤ 1000000) :
    Calls Tryz.prog 28 #[.pointer (some ⟨d, 0, none⟩)] w fun e w' => ∃ (v : Value) (ss : List (List UInt8)), e = .returned v ∧ ss.Perm (S.fs.map Ent.nm) ∧
      w'.ownsRow w.heap.size 9 1 v ss.length ((ss.mergeSort (fun x y => decide (x ≤ y))).map encStr) ∧ Below w.heap.size w w' := by
  have R := refusal_nil h
  rw [hon] at R
  have R : Hid (CallsIn Fence.wide 5 Tryz.prog 55 #[.pointer (some ⟨d, 0, none⟩), .slice none 0 0] w fun x w' => x = .returned (.int .i64 0) ∧ w' = w) := callsIn_wide.2 R
  have c0 := h.c0
  have hown := h.map
  have hz := size_datum S.fs
  have hmax : Maps.size (datum S.fs) ≤ maxLen := by rw [hz]; unfold maxLen; omega
  have hbytes : Maps.size (datum S.fs) * 16 ≤ 140737488355328 := by rw [hz]; omega
  clear h hz hon hn
  refine (callsIn_wide (n := 6)).1 ?_
  have hfR : Fence.wide.fn 55 := trivial
  have hfK : Fence.wide.fn 57 := trivial
  have hfS : Fence.wide.fn 56 := trivial
  refine callsIn_of_wp Tryz.func28 rfl trivial ?_ rfl
  simp only [Tryz.ntmps28, List.size_toArray, List.length_cons, List.length_nil, Nat.reduceAdd, Nat.reduceSub, Array.replicate_succ, Array.replicate_zero, List.push_toArray, List.append_toArray, List.nil_append, List.cons_append]
  gi_wp2_with (first
    | (gi_at_call 55; refine R.out.mono ?_; rintro e w1 ⟨rfl, rfl⟩)
    | (gi_at_call 57; refine (Tryz.maps_Keys_57 _ _).mono ?_; rintro e w' ⟨rfl, rfl⟩)
    | (gi_at_call 56; refine (Tryz.slices_Sorted_keys_56_57 bm S.fs.length (datum S.fs) ptrElem w1 hown hmax hbytes).mono ?_; rintro e w' ⟨v, ss, rfl, hS, hrow, hnil, hb⟩))
  go_ret
  rw [keys_datum] at hS
  exact ⟨v, ss, rfl, hS, ownsRow_base_a hrow (by simp), ((Below.refl _ w1).alloc (Nat.le_refl _) _).trans (hb.mono (by simp))⟩
theorem list_off {w : World} {d bm : Nat} {S : St} (h : DiskAt w d bm S) (hon : S.on = false) :
    Calls Tryz.prog 28 #[.pointer (some ⟨d, 0, none⟩)] w fun e w' => e = .returned (.slice none 0 0) ∧ w' = w := by
  have R := refusal_nil h
  rw [hon] at R
  have R : Hid (Calls Tryz.prog 55 #[.pointer (some ⟨d, 0, none⟩), .slice none 0 0] w fun x w' => x = .returned (.int .i64 9) ∧ w' = w) := R
  clear h hon
  go_enter Tryz.func28, Tryz.ntmps28
  go_wp2_with (go_at_call 55; refine R.out.mono ?_; rintro x w1 ⟨rfl, rfl⟩)
  go_ret
  exact ⟨rfl, rfl⟩
end Go.Proofs.YtlamncldbnagmaaGreatDoor
namespace Go.Proofs.YtlamncldbnagmaaGreatDoor
open Go.RowKit

theorem ofNat_toNat8 (x : Nat) (h : x < 256) : (UInt8.ofNat x).toNat = x := by simp; omega
theorem pow7 (i : Nat) : 2 ^ (7 * (i + 1)) = 128 * 2 ^ (7 * i) := by rw [show 7 * (i + 1) = 7 + 7 * i by omega, Nat.pow_add]
theorem digits (x p : Nat) : x % 128 * p + x / 128 * (128 * p) = x * p := by
  have h := Nat.div_add_mod x 128
  calc x % 128 * p + x / 128 * (128 * p) = (128 * (x / 128) + x % 128) * p := by rw [Nat.add_mul, Nat.mul_assoc, Nat.mul_left_comm, Nat.add_comm]
    _ = x * p := by rw [h]

theorem getN_back (k : Nat) : ∀ (i acc x : Nat) (rest : List UInt8), i + k = 9 → x < 2 * 128 ^ k → (0 < i → 0 < x) → getN i acc (numF k x ++ rest) = some (acc + x * 2 ^ (7 * i), rest) := by
  induction k with
  | zero =>
    intro i acc x rest hi hx hp
    have hx' : x < 2 := by simpa using hx
    have e : (UInt8.ofNat x).toNat = x := ofNat_toNat8 x (by omega)
    rw [numF, List.singleton_append, getN, e, if_neg (by omega), if_pos (by omega), Nat.mod_eq_of_lt (by omega)]
  | succ k ih =>
    intro i acc x rest hi hx hp
    by_cases h : x < 128
    · rw [numF_small _ _ h, List.singleton_append, getN, ofNat_toNat8 x (by omega), if_neg (by omega), if_pos h, Nat.mod_eq_of_lt h]
    · have hb : (UInt8.ofNat (x % 128 + 128)).toNat = x % 128 + 128 := ofNat_toNat8 _ (by omega)
      rw [numF_great _ _ (by omega), List.cons_append, getN, hb, if_neg (by omega), if_neg (by omega), ih (i + 1) _ (x / 128) rest (by omega) ?_ (by omega)]
      · rw [show (x % 128 + 128) % 128 = x % 128 by omega, pow7, Nat.add_assoc, digits]
      · rw [Nat.div_lt_iff_lt_mul (by omega)]
        rw [Nat.pow_succ] at hx
        omega
theorem getN_early (k : Nat) : ∀ (i acc x : Nat), i + k = 9 → x < 2 * 128 ^ k → getN i acc (numF k x).dropLast = none := by
  induction k with
  | zero => intro i acc x _ _; rfl
  | succ k ih =>
    intro i acc x hi hx
    by_cases h : x < 128
    · rw [numF_small _ _ h]; rfl
    · have hb : (UInt8.ofNat (x % 128 + 128)).toNat = x % 128 + 128 := ofNat_toNat8 _ (by omega)
      have hne : numF k (x / 128) ≠ [] := fun e => by have := (numF_length k (x / 128)).1; rw [e] at this; simp at this
      rw [numF_great _ _ (by omega), List.dropLast_cons_of_ne_nil hne, getN, hb, if_neg (by omega), if_neg (by omega)]
      refine ih (i + 1) _ (x / 128) (by omega) ?_
      rw [Nat.div_lt_iff_lt_mul (by omega)]
      rw [Nat.pow_succ] at hx
      omega
theorem getN_longer (k : Nat) : ∀ (i acc x : Nat) (y : UInt8), i + k = 9 → x < 2 * 128 ^ k → 128 ≤ y.toNat → getN i acc ((numF k x).dropLast ++ [y, 0]) = none := by
  induction k with
  | zero =>
    intro i acc x y hi _ hy
    show getN i acc [y, 0] = none
    rw [getN, if_pos (.inl ⟨by omega, by omega⟩)]
  | succ k ih =>
    intro i acc x y hi hx hy
    by_cases h : x < 128
    · rw [numF_small _ _ h]
      show getN i acc [y, 0] = none
      have h0 : (0 : UInt8).toNat = 0 := rfl
      rw [getN, if_neg (by omega), if_neg (by omega), getN, h0, if_pos (.inr ⟨by omega, rfl⟩)]
    · have hb : (UInt8.ofNat (x % 128 + 128)).toNat = x % 128 + 128 := ofNat_toNat8 _ (by omega)
      have hne : numF k (x / 128) ≠ [] := fun e => by have := (numF_length k (x / 128)).1; rw [e] at this; simp at this
      rw [numF_great _ _ (by omega), List.dropLast_cons_of_ne_nil hne, List.cons_append, getN, hb, if_neg (by omega), if_neg (by omega)]
      refine ih (i + 1) _ (x / 128) y (by omega) ?_ hy
      rw [Nat.div_lt_iff_lt_mul (by omega)]
      rw [Nat.pow_succ] at hx
      omega

theorem get_back (u : Nat) (h : u < 18446744073709551616) (rest : List UInt8) : getN 0 0 (numL u ++ rest) = some (u, rest) := by
  have := getN_back 9 0 0 u rest rfl h (by omega)
  unfold numL
  simpa using this
theorem get_early (u : Nat) (h : u < 18446744073709551616) : getN 0 0 ((numL u).take ((numL u).length - 1)) = none := by
  rw [← List.dropLast_eq_take]; exact getN_early 9 0 0 u rfl h
theorem get_longer (u : Nat) (h : u < 18446744073709551616) (y : UInt8) (hy : 128 ≤ y.toNat) : getN 0 0 ((numL u).set ((numL u).length - 1) y ++ [0]) = none := by
  have hl := numL_length u
  have e : (numL u).set ((numL u).length - 1) y ++ [0] = (numL u).dropLast ++ [y, 0] := by
    rw [List.set_eq_take_append_cons_drop, if_pos (by omega), List.dropLast_eq_take, List.drop_eq_nil_of_le (by omega)]
    simp
  rw [e]; exact getN_longer 9 0 0 u y rfl h hy
theorem or128 (x : Nat) (h : x < 128) : bits BinOp.or IntKind.u8 (x : Int) 128 = (x : Int) + 128 := by
  have h1 := u8_or_nat x 128 (by omega) (by omega)
  have h2 := Nat.two_pow_add_eq_or_of_lt (i := 7) (b := x) h 1
  rw [show ((128 : Nat) : Int) = 128 from rfl] at h1
  rw [h1, Nat.or_comm]
  have e : 128 ||| x = 128 + x := h2.symm
  rw [e]
  omega
end Go.Proofs.YtlamncldbnagmaaGreatDoor

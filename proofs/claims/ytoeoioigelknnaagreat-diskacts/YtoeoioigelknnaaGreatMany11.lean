/-
  SEVERAL TEXTS IN ONE: DskModel, DskArm.
-/
import Derived.Test.YtoeoioigelknnaaGreatMany10
import Derived.Test.YtoeoioigelknnaaGreatDskRename
import Derived.Test.YtoeoioigelknnaaGreatDskMore
namespace Go.Proofs.YtoeoioigelknnaaGreat
open Go.RowKit Go.Maps

def rmT (A : Ab) (nm : List UInt8) : Ab := { A with ops := A.ops + 1, left := A.left - 1, sp := dropT A.sp nm }
def rnT (A : Ab) (nm to : List UInt8) (t : Sig) : Ab := { A with ops := A.ops + 1, left := A.left - 1, sp := putT (dropT A.sp nm) ⟨to, t.bs, t.wr, t.pl⟩ }
def spT (A : Ab) (nm : List UInt8) (t : Sig) (i k : Nat) : Ab := { A with sp := upd A.sp nm ⟨nm, t.bs.set i (flipB (t.bs.getD i 0) k), t.wr, t.pl⟩ }
def createM (A : Ab) (s : ByteArray) : Int × Ab :=
  if refuse A.on [s] = 0 then
    match findT A.sp (nameOf s) with
    | none => if 48 ≤ A.sp.length ∨ A.room ≤ usedT A.sp then (7, A) else (0, crT A (nameOf s))
    | some _ => (0, crT A (nameOf s))
  else (refuse A.on [s], A)
def appendM (A : Ab) (s : ByteArray) (l : List UInt8) : Int × Ab :=
  if refuse A.on [s] = 0 then
    match findT A.sp (nameOf s) with
    | none => (4, A)
    | some t => if (A.room : Int) - (usedT A.sp : Int) < lackT t l then (7, A) else (0, appT A (nameOf s) t l)
  else (refuse A.on [s], A)
def syncM (A : Ab) (s : ByteArray) : Int × Ab :=
  if refuse A.on [s] = 0 then
    match findT A.sp (nameOf s) with
    | none => (4, A)
    | some t => (0, syT A (nameOf s) t)
  else (refuse A.on [s], A)
def removeM (A : Ab) (s : ByteArray) : Int × Ab :=
  if refuse A.on [s] = 0 then
    match findT A.sp (nameOf s) with
    | none => (4, A)
    | some _ => (0, rmT A (nameOf s))
  else (refuse A.on [s], A)
def renameM (A : Ab) (s u : ByteArray) : Int × Ab :=
  if refuse A.on [s, u] = 0 then
    match findT A.sp (nameOf s) with
    | none => (4, A)
    | some t => (0, rnT A (nameOf s) (nameOf u) t)
  else (refuse A.on [s, u], A)
def spoilM (A : Ab) (s : ByteArray) (i k : Int) : Int × Ab :=
  if refuse A.on [s] = 0 then
    match findT A.sp (nameOf s) with
    | none => (4, A)
    | some t => if i < 0 ∨ (t.bs.length : Int) ≤ i ∨ k < 0 ∨ 7 < k then (2, A) else (0, spT A (nameOf s) t i.toNat k.toNat)
  else (refuse A.on [s], A)
/-- A call that answered a number. -/
def Out (d : Nat) (ft : List Nat) (w : World) (r : Int × Ab) (x : Ending) (w' : World) : Prop := x = .returned (.int .i64 r.1) ∧ ∃ ft', At d r.2 ft' w' ∧ Moved w w' ft ft'
theorem refuse_two {on : Bool} {s u : ByteArray} (h : refuse on [s, u] = 0) : refuse on [s] = 0 := by
  unfold refuse at h ⊢
  cases on
  · simp at h
  · simp only [if_true] at h ⊢
    split at h
    · rename_i h1
      rw [if_pos (by simp at h1 ⊢; exact h1.1)]
    · cases h
theorem used_len {sp : List Sig} {t : Sig} (h : t ∈ sp) : 1 + (t.bs.length + 15) / 16 ≤ usedT sp := List.single_le_sum_nat (List.mem_map.2 ⟨t, h, rfl⟩)
theorem findT_mem {sp : List Sig} {nm : List UInt8} {t : Sig} (h : findT sp nm = some t) : t ∈ sp ∧ t.nm = nm := ⟨List.mem_of_find?_eq_some h, by simpa using List.find?_some h⟩
theorem len_used (sp : List Sig) : sp.length ≤ usedT sp := by
  unfold usedT
  induction sp with
  | nil => exact Nat.zero_le _
  | cons x r ih => simp only [List.length_cons, List.map_cons, List.sum_cons]; omega
section
variable {d : Nat} {A : Ab} {ft : List Nat} {w : World} (h : At d A ft w) (s : ByteArray) (hs : s.size ≤ maxLen)
include h hs
theorem abx_create (hF : A.Fine) (hl : A.left ≠ 1) (ho : A.ops ≤ 4611686018427387904) (hlm : A.left ≤ 9223372036854775807) :
    Calls Tryz.prog 18 #[.pointer (some ⟨d, 0, none⟩), .string s] w (Out d ft w (createM A s)) := by
  have h0 := h
  obtain ⟨bm, fs, hD, hss, rfl⟩ := h
  have hlen : fs.length = A.sp.length := by rw [← hss, List.length_map]
  have hu : sumUsed fs = usedT A.sp := by rw [used_sig, hss]
  have hn : A.sp.length < maxLen := by have := len_used A.sp; have := hF.used; unfold maxLen; omega
  have keep : ∀ {c : Int} {x : Ending} {w' : World}, x = .returned (.int .i64 c) ∧ DiskAt w' d bm (A.st fs) ∧ Moved w w' (foot d bm (A.st fs).fs) (foot d bm (A.st fs).fs) → Out d (foot d bm fs) w (c, A) x w' := fun hh => ⟨hh.1, _, ⟨bm, fs, hh.2.1, hss, rfl⟩, hh.2.2⟩
  have done : ∀ {x : Ending} {w' : World}, (x = .returned (.int .i64 0) ∧ ∃ b, DiskAt w' d bm { A.st fs with ops := (A.st fs).ops + 1, left := (A.st fs).left - 1, fs := putE (A.st fs).fs (newE (nameOf s) b) } ∧ Moved w w' (foot d bm (A.st fs).fs) (foot d bm (putE (A.st fs).fs (newE (nameOf s) b)))) → Out d (foot d bm fs) w (0, crT A (nameOf s)) x w' := by
    rintro x w' ⟨rfl, b, h1, h2⟩
    refine ⟨rfl, _, ⟨bm, _, h1, ?_, rfl⟩, h2⟩
    show (putE fs _).map sig = _
    rw [put_sig, hss]
    rfl
  unfold createM
  by_cases hc : refuse A.on [s] = 0
  · rw [if_pos hc]
    cases ht : findT A.sp (nameOf s) with
    | none =>
      have hf := find_sig_none hss ht
      simp only
      by_cases hm : 48 ≤ A.sp.length
      · rw [if_pos (.inl hm)]
        exact (create_many hD s hs hc hf (by show 48 ≤ fs.length; omega)).mono fun _ _ hh => keep hh
      · by_cases hr : A.room ≤ usedT A.sp
        · rw [if_pos (.inr hr)]
          exact (create_full hD s hs hc hf (by show fs.length < 48; omega) (by show A.room ≤ sumUsed fs; omega) (hF.st hss).used hF.room).mono fun _ _ hh => keep hh
        · rw [if_neg (by omega)]
          exact (create_new hD s hs hc hf (by show fs.length < 48; omega) (by show sumUsed fs < A.room; omega) hF.room hl ho hlm).mono fun _ _ hh => done hh
    | some t =>
      obtain ⟨e, he, _⟩ := find_sig_some hss ht
      simp only
      by_cases hm : 48 ≤ A.sp.length
      · exact (create_again_many hD s hs hc he (by show 48 ≤ fs.length; omega) hl ho hlm (by show fs.length < maxLen; omega)).mono fun _ _ hh => done hh
      · exact (create_again hD s hs hc he (by show fs.length < 48; omega) (hF.st hss).used hF.room hl ho hlm (by show fs.length < maxLen; omega)).mono fun _ _ hh => done hh
  · rw [if_neg hc]
    exact (create_refused hD s hs rfl hc).mono fun _ _ hh => keep hh
omit hs in
theorem Out.same {c : Int} {x : Ending} {w' : World} (hh : x = .returned (.int .i64 c) ∧ w.grownBy w' none) : Out d ft w (c, A) x w' := ⟨hh.1, ft, h.grown hh.2, Moved.none_of hh.2 _⟩
theorem abx_sync (hl : A.left ≠ 1) (ho : A.ops ≤ 4611686018427387904) (hlm : A.left ≤ 9223372036854775807) :
    Calls Tryz.prog 20 #[.pointer (some ⟨d, 0, none⟩), .string s] w (Out d ft w (syncM A s)) := by
  have h0 := h
  obtain ⟨bm, fs, hD, hss, rfl⟩ := h
  unfold syncM
  by_cases hc : refuse A.on [s] = 0
  · rw [if_pos hc]
    cases ht : findT A.sp (nameOf s) with
    | none => exact (sync_none hD s hs hc (find_sig_none hss ht)).mono fun _ _ hh => Out.same h0 hh
    | some t => exact ab_sync h0 s hs hc ht hl ho hlm
  · rw [if_neg hc]
    exact (sync_refused hD s hs rfl hc).mono fun _ _ hh => Out.same h0 hh
theorem abx_remove (hl : A.left ≠ 1) (ho : A.ops ≤ 4611686018427387904) (hlm : A.left ≤ 9223372036854775807) :
    Calls Tryz.prog 32 #[.pointer (some ⟨d, 0, none⟩), .string s] w (Out d ft w (removeM A s)) := by
  have h0 := h
  obtain ⟨bm, fs, hD, hss, rfl⟩ := h
  unfold removeM
  by_cases hc : refuse A.on [s] = 0
  · rw [if_pos hc]
    cases ht : findT A.sp (nameOf s) with
    | none => exact (remove_none hD s hs hc (find_sig_none hss ht)).mono fun _ _ hh => Out.same h0 hh
    | some t =>
      obtain ⟨e, he, _⟩ := find_sig_some hss ht
      refine (remove_ok hD s hs hc he hl ho hlm).mono ?_
      rintro x w' ⟨rfl, h1, h2⟩
      refine ⟨rfl, _, ⟨bm, _, h1, ?_, rfl⟩, h2⟩
      show (dropE fs _).map sig = _
      rw [drop_sig, hss]
      rfl
  · rw [if_neg hc]
    exact (remove_refused hD s hs rfl hc).mono fun _ _ hh => Out.same h0 hh
theorem abx_rename (u : ByteArray) (hu : u.size ≤ maxLen) (hF : A.Fine) (hl : A.left ≠ 1) (ho : A.ops ≤ 4611686018427387904) (hlm : A.left ≤ 9223372036854775807) :
    Calls Tryz.prog 30 #[.pointer (some ⟨d, 0, none⟩), .string s, .string u] w (Out d ft w (renameM A s u)) := by
  have h0 := h
  obtain ⟨bm, fs, hD, hss, rfl⟩ := h
  have hlen : fs.length = A.sp.length := by rw [← hss, List.length_map]
  have hn : A.sp.length < maxLen := by have := len_used A.sp; have := hF.used; unfold maxLen; omega
  have keep : ∀ {c : Int} {x : Ending} {w' : World}, x = .returned (.int .i64 c) ∧ DiskAt w' d bm (A.st fs) ∧ Moved w w' (foot d bm (A.st fs).fs) (foot d bm (A.st fs).fs) → Out d (foot d bm fs) w (c, A) x w' := fun hh => ⟨hh.1, _, ⟨bm, fs, hh.2.1, hss, rfl⟩, hh.2.2⟩
  unfold renameM
  by_cases hc : refuse A.on [s, u] = 0
  · rw [if_pos hc]
    cases ht : findT A.sp (nameOf s) with
    | none => exact (rename_none hD s u hs hu hc (refuse_two hc) (find_sig_none hss ht)).mono fun _ _ hh => keep hh
    | some t =>
      obtain ⟨e, he, rfl⟩ := find_sig_some hss ht
      refine (rename_ok hD s u hs hu hc (refuse_two hc) he hl ho hlm (by show fs.length < maxLen; omega)).mono ?_
      rintro x w' ⟨rfl, h1, h2⟩
      refine ⟨rfl, _, ⟨bm, _, h1, ?_, rfl⟩, h2⟩
      show (putE (dropE fs _) _).map sig = _
      rw [put_sig, drop_sig, hss]
      rfl
  · rw [if_neg hc]
    exact (rename_refused hD s u hs hu rfl hc).mono fun _ _ hh => keep hh
theorem abx_append (ao : Option Addr) (l : List UInt8) (c : Nat) (hb : Sees w ao l) (hne : ∀ a, ao = some a → 0 < l.length → a.block ∉ ft) (hF : A.Fine) (hl : A.left ≠ 1) (ho : A.ops ≤ 4611686018427387904) (hlm : A.left ≤ 9223372036854775807) (hnx : A.next ≤ 4611686018427387904) (hlen : ∀ t ∈ A.sp, t.bs.length + l.length ≤ 1099511627776) :
    Calls Tryz.prog 19 #[.pointer (some ⟨d, 0, none⟩), .string s, .slice ao l.length c] w (Out d ft w (appendM A s l)) := by
  have h0 := h
  obtain ⟨bm, fs, hD, hss, rfl⟩ := h
  unfold appendM
  by_cases hc : refuse A.on [s] = 0
  · rw [if_pos hc]
    cases ht : findT A.sp (nameOf s) with
    | none => exact (append_none hD s hs ao l.length c hc (find_sig_none hss ht)).mono fun _ _ hh => Out.same h0 hh
    | some t =>
      simp only
      by_cases hfull : (A.room : Int) - (usedT A.sp : Int) < lackT t l
      · rw [if_pos hfull]
        obtain ⟨e, he, rfl⟩ := find_sig_some hss ht
        have hm := (find_some he).1
        have hme : sig e ∈ A.sp := hss ▸ List.mem_map.2 ⟨e, hm, rfl⟩
        have hu : sumUsed fs = usedT A.sp := by rw [used_sig, hss]
        have hfull' : decide ((A.room : Int) - (sumUsed fs : Int) < secI ((e.bs.length : Int) + (l.length : Int)) - secI (e.bs.length : Int)) = true := by
          rw [hu]
          exact decide_eq_true hfull
        refine (append_ok hD s hs ao l c hb hc he hne hl ho hlm (hlen _ hme) hnx (hF.pln hme) (Nat.le_trans (hF.wr _ hme) (hF.len _ hme)) hF.room (hF.st hss).used true hfull').mono ?_
        rintro x w' ⟨rfl, h1, h2⟩
        exact ⟨rfl, _, ⟨bm, fs, h1, hss, rfl⟩, h2⟩
      · rw [if_neg hfull]
        exact ab_append h0 s hs ao l c hb hne hc ht hl ho hlm hF (hlen t (findT_mem ht).1) hnx (by omega)
  · rw [if_neg hc]
    exact (append_refused hD s hs ao l.length c rfl hc).mono fun _ _ hh => Out.same h0 hh
theorem abx_spoil (hF : A.Fine) (i k : Int) :
    Calls Tryz.prog 36 #[.pointer (some ⟨d, 0, none⟩), .string s, .int .i64 i, .int .i64 k] w (Out d ft w (spoilM A s i k)) := by
  have h0 := h
  obtain ⟨bm, fs, hD, hss, rfl⟩ := h
  unfold spoilM
  by_cases hc : refuse A.on [s] = 0
  · rw [if_pos hc]
    cases ht : findT A.sp (nameOf s) with
    | none => exact (spoil_none hD s hs i k hc (find_sig_none hss ht)).mono fun _ _ hh => Out.same h0 hh
    | some t =>
      obtain ⟨e, he, rfl⟩ := find_sig_some hss ht
      have hm := (find_some he).1
      have hnm := (find_some he).2
      have hlen : e.bs.length ≤ 1099511627776 := hF.len (sig e) (hss ▸ List.mem_map.2 ⟨e, hm, rfl⟩)
      simp only
      by_cases h1 : i < 0
      · rw [if_pos (.inl h1)]
        exact (spoil_arg1 hD s hs i k hc he h1).mono fun _ _ hh => Out.same h0 hh
      by_cases h2 : ((sig e).bs.length : Int) ≤ i
      · rw [if_pos (.inr (.inl h2))]
        exact (spoil_arg2 hD s hs i k hc he (by omega) h2).mono fun _ _ hh => Out.same h0 hh
      by_cases h3 : k < 0
      · rw [if_pos (.inr (.inr (.inl h3)))]
        exact (spoil_arg3 hD s hs i k hc he (by omega) (by show i < ((sig e).bs.length : Int); omega) h3).mono fun _ _ hh => Out.same h0 hh
      by_cases h4 : 7 < k
      · rw [if_pos (.inr (.inr (.inr h4)))]
        exact (spoil_arg4 hD s hs i k hc he (by omega) (by show i < ((sig e).bs.length : Int); omega) (by omega) h4).mono fun _ _ hh => Out.same h0 hh
      rw [if_neg (by omega)]
      obtain ⟨n, rfl⟩ : ∃ n : Nat, i = (n : Int) := ⟨i.toNat, by omega⟩
      have hn : n < e.bs.length := by have : (e.bs.length : Int) = ((sig e).bs.length : Int) := rfl; omega
      have fin : ∀ j : Nat, ∀ {x : Ending} {w' : World}, (x = .returned (.int .i64 0) ∧ DiskAt w' d bm { A.st fs with fs := swap (A.st fs).fs e { e with bs := e.bs.set n (flipB (e.bs.getD n 0) j) } } ∧ Moved w w' (foot d bm (A.st fs).fs) (foot d bm (A.st fs).fs)) → Out d (foot d bm fs) w (0, spT A (nameOf s) (sig e) n j) x w' := by
        rintro j x w' ⟨rfl, a1, a2⟩
        refine ⟨rfl, _, ⟨bm, _, a1, ?_, rfl⟩, a2.sub fun i hi => ?_⟩
        · have hsw : (swap fs e { e with bs := e.bs.set n (flipB (e.bs.getD n 0) j) }).map sig = upd (fs.map sig) e.nm (sig { e with bs := e.bs.set n (flipB (e.bs.getD n 0) j) }) := swap_sig (S := A.st fs) hD hm
          show (swap fs e _).map sig = _
          rw [hsw, hss, hnm]
          unfold spT sig
          rw [hnm]
        · simp only [foot, List.mem_cons] at hi ⊢
          refine hi.imp id fun h => h.imp id fun h => ?_
          obtain ⟨y, hy, hi⟩ := feet_mem.1 h
          obtain ⟨z, hz, rfl⟩ := List.mem_map.1 hy
          refine feet_mem.2 ⟨z, hz, ?_⟩
          by_cases hb : z.b = e.b
          · rw [if_pos hb] at hi
            have : z = e := feet_same (nodup_d hD.apart).2.2.2 hz hm (i := e.b) (hb ▸ b_mem) b_mem
            rw [this]
            exact hi
          · rw [if_neg hb] at hi
            exact hi
      have e1 : (n : Int).toNat = n := by omega
      rw [e1]
      rcases (by omega : k = 0 ∨ k = 1 ∨ k = 2 ∨ k = 3 ∨ k = 4 ∨ k = 5 ∨ k = 6 ∨ k = 7) with rfl | rfl | rfl | rfl | rfl | rfl | rfl | rfl
      · exact (spoil0 hD s hs hc he n hn hlen).mono fun _ _ hh => fin 0 hh
      · exact (spoil1 hD s hs hc he n hn hlen).mono fun _ _ hh => fin 1 hh
      · exact (spoil2 hD s hs hc he n hn hlen).mono fun _ _ hh => fin 2 hh
      · exact (spoil3 hD s hs hc he n hn hlen).mono fun _ _ hh => fin 3 hh
      · exact (spoil4 hD s hs hc he n hn hlen).mono fun _ _ hh => fin 4 hh
      · exact (spoil5 hD s hs hc he n hn hlen).mono fun _ _ hh => fin 5 hh
      · exact (spoil6 hD s hs hc he n hn hlen).mono fun _ _ hh => fin 6 hh
      · exact (spoil7 hD s hs hc he n hn hlen).mono fun _ _ hh => fin 7 hh
  · rw [if_neg hc]
    exact (spoil_refused hD s hs i k rfl hc).mono fun _ _ hh => Out.same h0 hh
end
end Go.Proofs.YtoeoioigelknnaaGreat
namespace Go.Proofs.YtoeoioigelknnaaGreat
open Go.RowKit Go.Maps

theorem arm_refused {w : World} {d bm : Nat} {S : St} (h : DiskAt w d bm S) (n m : Int) (hon : S.on = false) :
    Calls Tryz.prog 38 #[.pointer (some ⟨d, 0, none⟩), .int .i64 n, .int .i64 m] w fun x w' => x = .returned (.int .i64 9) ∧ w' = w := by
  have R := refusal_nil h
  rw [hon] at R
  have R : Hid (Calls Tryz.prog 42 #[.pointer (some ⟨d, 0, none⟩), .slice none 0 0] w fun x w' => x = .returned (.int .i64 9) ∧ w' = w) := R
  clear h
  go_enter Tryz.func38, Tryz.ntmps38
  go_wp2_with (go_at_call 42; go_fit R.out; rintro x w1 ⟨rfl, rfl⟩)
  go_ret
  exact ⟨rfl, rfl⟩
theorem arm_arg {w : World} {d bm : Nat} {S : St} (h : DiskAt w d bm S) (n m : Int) (hon : S.on = true) (hn : n < 0) :
    Calls Tryz.prog 38 #[.pointer (some ⟨d, 0, none⟩), .int .i64 n, .int .i64 m] w fun x w' => x = .returned (.int .i64 2) ∧ w' = w := by
  have R := refusal_nil h
  rw [hon] at R
  have R : Hid (Calls Tryz.prog 42 #[.pointer (some ⟨d, 0, none⟩), .slice none 0 0] w fun x w' => x = .returned (.int .i64 0) ∧ w' = w) := R
  clear h
  go_enter Tryz.func38, Tryz.ntmps38
  go_wp2_with (go_at_call 42; go_fit R.out; rintro x w1 ⟨rfl, rfl⟩)
  go_ret
  exact ⟨rfl, rfl⟩
theorem arm_ok {w : World} {d bm : Nat} {S : St} (h : DiskAt w d bm S) (n : Nat) (m : Int) (hon : S.on = true) :
    Calls Tryz.prog 38 #[.pointer (some ⟨d, 0, none⟩), .int .i64 (n : Int), .int .i64 m] w fun x w' => x = .returned (.int .i64 0) ∧ DiskAt w' d bm { S with left := n, keep := m } ∧ Moved w w' [d] [d] := by
  have R := refusal_nil h
  rw [hon] at R
  have R : Hid (Calls Tryz.prog 42 #[.pointer (some ⟨d, 0, none⟩), .slice none 0 0] w fun x w' => x = .returned (.int .i64 0) ∧ w' = w) := R
  have c5 := h.c5
  have c6 := h.c6
  have f5 := h.head.frozen 5
  have f6 := h.head.frozen 6
  have k1 := h.put (S' := { S with left := n }) rfl 5 (.int .i64 (n : Int)) rfl
  have HE : Hid (DiskAt ((w.setCell ⟨d, 5, none⟩ (.int .i64 (n : Int))).setCell ⟨d, 6, none⟩ (.int .i64 m)) d bm { S with left := n, keep := m }) := k1.put (S' := { S with left := n, keep := m }) rfl 6 (.int .i64 m) rfl
  clear h k1
  go_enter Tryz.func38, Tryz.ntmps38
  go_wp2_with (go_at_call 42; go_fit R.out; rintro x w1 ⟨rfl, rfl⟩)
  go_ret
  exact ⟨rfl, HE.out, (Moved.of_set d 5 _).trans (Moved.of_set d 6 _)⟩

/-- The plan strikes, and the operation does nothing. -/
theorem operate_cut {w : World} {d bm : Nat} {S : St} (h : DiskAt w d bm S) (hon : S.on = true) (hl : S.left = 1) (ho : S.ops ≤ 4611686018427387904) (hF : S.Fine) (hk : -9223372036854775808 ≤ S.keep ∧ S.keep ≤ 9223372036854775807) (v : Value) :
    Calls Tryz.prog 51 #[.pointer (some ⟨d, 0, none⟩), v, .func (.func 53) #[] #[]] w fun x w' => x = .returned (.int .i64 9) ∧ DiskAt w' d bm { S with on := false, ops := S.ops + 1, fs := S.fs.map fun e => loseE e (lineEndN S S.keep.toNat) } ∧ Moved w w' (foot d bm S.fs) (foot d bm S.fs) := by
  have c3 := h.c3
  have f3 := h.head.frozen 3
  have c5 := h.c5
  rw [hl] at c5
  have c6 := h.c6
  have h1 := h.put (S' := { S with ops := S.ops + 1 }) rfl 3 (.int .i64 ((S.ops + 1 : Nat) : Int)) rfl
  have hF1 : St.Fine { S with ops := S.ops + 1 } := ⟨hF.files, hF.room, hF.used, hF.dirty⟩
  have M : Moved w (w.setCell ⟨d, 3, none⟩ (.int .i64 ((S.ops + 1 : Nat) : Int))) (foot d bm S.fs) (foot d bm S.fs) := (Moved.of_set d 3 _).wider (fun i hi => .inl (by simp at hi; simp [foot, hi])) (fun i hi => .inl hi)
  have hc := crash_on h1 hon hF1 S.keep hk.1 hk.2
  have t1 := ops_text S.ops ho
  generalize hA : ((S.ops + 1 : Nat) : Int) = A at *
  have HC : Hid (Calls Tryz.prog 21 #[.pointer (some ⟨d, 0, none⟩), .int .i64 S.keep] (w.setCell ⟨d, 3, none⟩ (.int .i64 A)) fun x w' => x = .returned (.tuple #[]) ∧ DiskAt w' d bm { S with on := false, ops := S.ops + 1, fs := S.fs.map fun e => loseE e (lineEndN S S.keep.toNat) } ∧ Moved w w' (foot d bm S.fs) (foot d bm S.fs)) := hc.mono fun x w' hh => ⟨hh.1, hh.2.1, M.trans hh.2.2⟩
  have NO : Hid (∀ w, Calls Tryz.prog 53 #[] w fun e w' => e = .returned (.tuple #[]) ∧ w' = w) := nothing_any
  clear h h1 M hc ho hl hA hF hF1 hon
  go_enter Tryz.func51, Tryz.ntmps51
  go_wp2_with (first | (go_at_call 53; go_fit (NO.out _); rintro x w1 ⟨rfl, rfl⟩) | (go_at_call 21; go_fit HC.out; rintro x w2 ⟨rfl, hQ⟩))
  go_ret
  exact ⟨rfl, hQ⟩
end Go.Proofs.YtoeoioigelknnaaGreat

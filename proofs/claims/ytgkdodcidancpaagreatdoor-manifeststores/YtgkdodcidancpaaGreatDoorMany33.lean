/-
  SEVERAL TEXTS IN ONE: DskActA, ManAny, DskActL, DskObs.
-/
import Derived.Test.YtgkdodcidancpaaGreatDoorMany32
import Derived.Test.YtgkdodcidancpaaGreatDoorMany29
import Derived.Test.YtgkdodcidancpaaGreatDoorDskRefA
import Derived.Test.YtgkdodcidancpaaGreatDoorMany22
import Derived.Test.YtgkdodcidancpaaGreatDoorMany16
namespace Go.Proofs.YtgkdodcidancpaaGreatDoor
open Go.RowKit Go.Maps Go.WideAt Go.WideShapes

theorem ra_Crash {w : World} {r : Nat} {Q : RA} {fr : List Nat} (h : RAt r Q fr w) (hF : Q.Fit) (k : Int) : Calls Tryz.prog 105 #[.pointer (some ⟨r, 0, none⟩), .int .i64 k] w fun x w' => x = .returned (.tuple #[]) ∧ ∃ fr', RAt r (crashQ Q k) fr' w' ∧ Moved w w' fr fr' := by
  obtain ⟨R, h1, rfl, rfl, hcap⟩ := h
  cases hoff : R.off
  · refine (ref_Crash h1 hoff (by have := hF.few; rwa [show R.abs.L.length = R.fs.length from len_sig _] at this) hF.line hF.sorted hF.lin hF.pn hF.wr (fun f hf => hF.len f.sig (List.mem_map.2 ⟨f, hf, rfl⟩)) hcap k).mono ?_
    rintro x w' ⟨rfl, R', a1, a2, a3, a4⟩
    exact ⟨rfl, _, ⟨R', a1, a2, rfl, a3⟩, a4⟩
  · refine (crash_off_ref h1 hoff k).mono ?_
    rintro x w' ⟨rfl, rfl⟩
    refine ⟨rfl, _, ⟨R, h1, ?_, rfl, hcap⟩, Moved.refl _ _⟩
    unfold crashQ
    rw [show R.abs.off = true from hoff]
    rfl
/-- What Read answers. -/
def readM (A : Ab) (s : ByteArray) : Int × List UInt8 := if refuse A.on [s] = 0 then (match findT A.sp (nameOf s) with | none => (4, []) | some t => (0, t.bs)) else (refuse A.on [s], [])
/-- A call that answered bytes of the call's own, and an error. -/
def Bys (w : World) (q : Int × List UInt8) (x : Ending) (w' : World) : Prop := ∃ a1 c1, x = .returned (.tuple #[.slice a1 q.2.length c1, .int .i64 q.1]) ∧ Sees w' a1 q.2 ∧ (a1 = none → q.2.length = 0) ∧ w.grownBy w' none
theorem Bys.none {w w' : World} {c : Int} {x : Ending} (h : x = .returned (.tuple #[.slice none 0 0, .int .i64 c]) ∧ w.grownBy w' none) : Bys w (c, []) x w' := ⟨Option.none, 0, h.1, fun _ hi => absurd hi (Nat.not_lt_zero _), fun _ => rfl, h.2⟩
theorem any_read {d : Nat} {A : Ab} {ft : List Nat} {w : World} (h : At d A ft w) (s : ByteArray) (hs : s.size ≤ maxLen) (hF : A.Fine) : Calls Tryz.prog 37 #[.pointer (some ⟨d, 0, Option.none⟩), .string s] w (Bys w (readM A s)) := by
  have h0 := h
  obtain ⟨bm, fs, hD, hss, rfl⟩ := h
  unfold readM
  by_cases hc : refuse A.on [s] = 0
  · rw [if_pos hc]
    cases ht : findT A.sp (nameOf s) with
    | none => exact (read_none hD s hs hc (find_sig_none hss ht)).mono fun _ _ hh => Bys.none hh
    | some t =>
      refine (ab_read h0 s hs hc ht (hF.len t (findT_mem ht).1)).mono ?_
      rintro x w' ⟨v, rfl, ho, hg⟩
      obtain ⟨ao, c, rfl, hsee, _, hn⟩ := owns_sees ho
      exact ⟨ao, c, rfl, hsee, fun e => (hn e).1, hg⟩
  · rw [if_neg hc]
    exact (read_refused hD s hs rfl hc).mono fun _ _ hh => Bys.none hh
theorem ra_read {A : Ab} {r : Nat} {Q : RA} {fr : List Nat} {w : World} (hT : Tie A Q) (h : RAt r Q fr w) (s : ByteArray) (hs : s.size ≤ maxLen) (hF : Q.Fit) : Calls Tryz.prog 40 #[.pointer (some ⟨r, 0, Option.none⟩), .string s] w (Bys w (readM A s)) := by
  have hk : knownQ Q s = (readM A s).1 ∧ (knownQ Q s ≠ 0 → (readM A s).2 = []) ∧ ∀ t, knownQ Q s = 0 → findT Q.L (nameOf s) = some t → (readM A s).2 = t.bs := by
    unfold readM
    rw [refuse_one]
    by_cases hon : A.on = true
    · cases hg : goodB (nameOf s)
      · have := known_bad hT hon hg
        rw [this, hon]
        simp
      · have hq := known_eq hT hon hg
        rw [hq, hon, hT.find]
        cases findT A.sp (nameOf s) with
        | none => simp
        | some t =>
          simp only [if_true, Option.map_some, Option.some.injEq, ne_eq, not_true_eq_false, false_imp_iff, true_and]
          rintro t' _ rfl
          rfl
    · have hof : A.on = false := by simpa using hon
      rw [known_offA hT hof s, hof]
      simp
  refine (ra_Read h hF s hs).mono ?_
  rintro x w' (⟨h1, rfl, rfl⟩ | ⟨t, ⟨h1, h2⟩, v, rfl, ho, hg⟩)
  · refine ⟨Option.none, 0, ?_, fun i hi => ?_, fun _ => by rw [hk.2.1 h1]; rfl, World.grownBy.refl _ _⟩
    · rw [hk.2.1 h1, hk.1]
      rfl
    · rw [hk.2.1 h1] at hi
      exact absurd hi (Nat.not_lt_zero _)
  · obtain ⟨ao, c, rfl, hsee, _, hn⟩ := owns_sees ho
    have e := hk.2.2 t h1 h2
    refine ⟨ao, c, ?_, by rw [e]; exact hsee, fun e2 => by rw [e]; exact (hn e2).1, hg⟩
    rw [e, ← hk.1, h1]
end Go.Proofs.YtgkdodcidancpaaGreatDoor
namespace Go.Proofs.YtgkdodcidancpaaGreatDoor
open Go.RowKit Go.Maps

set_option maxRecDepth 100000 in
set_option maxHeartbeats 2000000 in
theorem loadM_bytes {d : Nat} {A : Ab} {ft : List Nat} {w : World} (h : At d A ft w) (hon : A.on = true) {t : Sig} (hf : findT A.sp lM = some t) (hEl : t.bs.length ≤ 1000000) (ht : Tab w) (ue : TypeId) (pv : Value) (he : Err w ue pv) :
    Calls Tryz.prog 12 #[.pointer (some ⟨d, 0, none⟩)] w fun e w' => ∃ a5 c5, e = .returned (.tuple #[mval a5 c5 (rdF t.bs), .int .i64 (rdE t.bs)]) ∧ MSees w' a5 c5 (rdF t.bs) ∧ Below w.heap.size w w' := by
  have k0 := Blk.new w [.slice none 0 0, .int .i64 0, .int .i64 0] 36
  have hB0 : Below w.heap.size w (w.alloc (.cells #[.slice none 0 0, .int .i64 0, .int .i64 0] 36)) := (Below.refl _ _).alloc (Nat.le_refl _) _
  have hA0 : At d A ft (w.alloc (.cells #[.slice none 0 0, .int .i64 0, .int .i64 0] 36)) := h.moved (moved_belowM (ft := []) hB0) (by simp)
  have CR : Hid (Calls Tryz.prog 37 #[.pointer (some ⟨d, 0, none⟩), .string ⟨#[109, 97, 110, 105, 102, 101, 115, 116]⟩] (w.alloc (.cells #[.slice none 0 0, .int .i64 0, .int .i64 0] 36)) fun x w' => ∃ a c, x = .returned (.tuple #[.slice a (t.bs).length c, .int .i64 0]) ∧ Sees w' a (t.bs) ∧ (a = none → (t.bs).length = 0) ∧ (t.bs).length ≤ c ∧ c ≤ 9223372036854775807 ∧ Below w.heap.size w w' ∧ Blk w' w.heap.size [.slice none 0 0, .int .i64 0, .int .i64 0] 36) := by
    refine (ab_read hA0 nmM nmM_size (by rw [hon]; exact nmM_good) (t := t) hf (by omega)).mono ?_
    rintro x w' ⟨v, rfl, ho, hg'⟩
    have ho' : w'.ownsRow _ 5 1 v (t.bs).length (B8 (t.bs)) := ho
    obtain ⟨a, c, rfl, hs, hl', hn⟩ := owns_sees ho'
    obtain ⟨_, _, e2, hc1, hc2⟩ := owns_form ho'
    cases e2
    exact ⟨a, c, rfl, hs, fun e => (hn e).1, hc1, hc2, hB0.grown hg' hB0.size (fun k hk => by cases hk), k0.carry (hg'.block _ k0.lt (by simp))⟩
  have CD : Hid (∀ u a c, Below w.heap.size w u → Sees u a (t.bs) → (a = none → (t.bs).length = 0) → (t.bs).length ≤ c → c ≤ 9223372036854775807 → Calls Tryz.prog 38 #[.slice a (t.bs).length c] u fun e w' => ∃ a5 c5, e = .returned (.tuple #[mval a5 c5 (rdF t.bs), .int .i64 (rdE t.bs)]) ∧ MSees w' a5 c5 (rdF t.bs) ∧ (∀ q, a5 = some q → u.heap.size ≤ q.block) ∧ Below u.heap.size u w') := fun u a c hu hs hn h1 h2 => by
    have he' : Err u ue pv := by unfold Err at he ⊢; rw [hu.cell (World.block_lt_of_cell? _ _ he)]; exact he
    refine (readM_any a (t.bs) c u hs hn h1 h2 (by omega) (ht.below hu (Nat.le_refl _)) ue pv he').mono ?_
    rintro e w' ⟨a5, c5, rfl, hm, _, ha, hb⟩
    exact ⟨a5, c5, rfl, hm, ha, hb⟩
  clear h hon hf ht he k0 hB0 hA0 hEl
  generalize t.bs = E at *
  generalize rdE E = ec at *
  generalize rdF E = m at *
  obtain ⟨ts, nx, fr⟩ := m
  unfold mval at *
  dsimp only at *
  go_enter Tryz.func12, Tryz.ntmps12
  go_wp2_with fail
  go_fit CR.out
  rintro e w2 ⟨a, c, rfl, hs, hn, h1, h2, hB2, hk2⟩
  have C2 := CD.out w2 a c hB2 hs hn h1 h2
  clear hs hn h1 h2 CD CR
  generalize E.length = n at *
  go_wp2_with fail
  go_fit C2
  rintro e w5 ⟨a5, c5, rfl, hm5, ha5, hB5⟩
  have hB5' : Below w.heap.size w w5 := hB2.trans (hB5.mono hB2.size)
  have hk5 := hk2.carry (hB5.block _ hk2.lt)
  have ha5' : ∀ q, a5 = some q → w.heap.size < q.block := fun q e => Nat.lt_of_lt_of_le hk2.lt (ha5 q e)
  have f0 := hk5.frozen 0
  have f1 := hk5.frozen 1
  have f2 := hk5.frozen 2
  have n0 := hk5.cell 0 rfl
  have n1 := hk5.cell 1 rfl
  have n2 := hk5.cell 2 rfl
  have HK : Hid (Blk (((w5.setCell ⟨w.heap.size, 0, none⟩ (.slice a5 ts.length c5)).setCell ⟨w.heap.size, 1, none⟩ (.int .i64 nx)).setCell ⟨w.heap.size, 2, none⟩ (.int .i64 fr)) w.heap.size [.slice a5 ts.length c5, .int .i64 nx, .int .i64 fr] 36) := ((hk5.setTo 0 _ _ rfl).setTo 1 _ _ rfl).setTo 2 _ _ rfl
  have HE : Hid (MSees (((w5.setCell ⟨w.heap.size, 0, none⟩ (.slice a5 ts.length c5)).setCell ⟨w.heap.size, 1, none⟩ (.int .i64 nx)).setCell ⟨w.heap.size, 2, none⟩ (.int .i64 fr)) a5 c5 ⟨ts, nx, fr⟩ ∧ Below w.heap.size w (((w5.setCell ⟨w.heap.size, 0, none⟩ (.slice a5 ts.length c5)).setCell ⟨w.heap.size, 1, none⟩ (.int .i64 nx)).setCell ⟨w.heap.size, 2, none⟩ (.int .i64 fr))) := by
    refine ⟨⟨fun i x hx => ?_, hm5.nil, hm5.cap⟩, ((hB5'.setCell (Nat.le_refl _) _).setCell (Nat.le_refl _) _).setCell (Nat.le_refl _) _⟩
    obtain ⟨q, off, e, hc⟩ := hm5.see i x hx
    have hq := ha5' _ e
    refine ⟨q, off, e, ?_⟩
    rw [World.cell?_of_block (w := w5)]
    · exact hc
    · show (((w5.setCell _ _).setCell _ _).setCell _ _).heap[q]? = _
      rw [Below.heap_setCell _ _ _ _ (by show q ≠ w.heap.size; exact Nat.ne_of_gt hq), Below.heap_setCell _ _ _ _ (by show q ≠ w.heap.size; exact Nat.ne_of_gt hq), Below.heap_setCell _ _ _ _ (by show q ≠ w.heap.size; exact Nat.ne_of_gt hq)]
  clear hk5 hB5 hB5' hB2 hk2 hm5 ha5 ha5' C2
  go_wp2_with fail
  refine bodyPost_ret (v := .tuple #[.agg #[.slice a5 ts.length c5, .int .i64 nx, .int .i64 fr], .int .i64 ec]) (results_row_tmpM Tryz.results12 _ _ w.heap.size 36 _ _ _ _ rfl rfl HK.out Tryz.underlying36 rfl (by kernel_rfl)) rfl ?_
  exact ⟨a5, c5, rfl, HE.out⟩
set_option maxRecDepth 100000 in
set_option maxHeartbeats 2000000 in
theorem loadM_off {d : Nat} {A : Ab} {ft : List Nat} {w : World} (h : At d A ft w) (hon : A.on = false) :
    Calls Tryz.prog 12 #[.pointer (some ⟨d, 0, none⟩)] w fun e w' => e = .returned (.tuple #[.agg #[.slice none 0 0, .int .i64 0, .int .i64 0], .int .i64 9]) ∧ Below w.heap.size w w' := by
  have k0 := Blk.new w [.slice none 0 0, .int .i64 0, .int .i64 0] 36
  have hB0 : Below w.heap.size w (w.alloc (.cells #[.slice none 0 0, .int .i64 0, .int .i64 0] 36)) := (Below.refl _ _).alloc (Nat.le_refl _) _
  have CR : Hid (Calls Tryz.prog 37 #[.pointer (some ⟨d, 0, none⟩), .string ⟨#[109, 97, 110, 105, 102, 101, 115, 116]⟩] (w.alloc (.cells #[.slice none 0 0, .int .i64 0, .int .i64 0] 36)) fun x w' => x = .returned (.tuple #[.slice none 0 0, .int .i64 9]) ∧ Below w.heap.size w w' ∧ Blk w' w.heap.size [.slice none 0 0, .int .i64 0, .int .i64 0] 36) := by
    obtain ⟨bm, fs, hD, _, _⟩ := h
    exact (read_refused (hD.alloc _) nmM nmM_size (c := 9) (by show refuse A.on [nmM] = 9; rw [hon]; rfl) (by omega)).mono fun x w' hh => ⟨hh.1, hB0.grown hh.2 hB0.size (fun j hj => by cases hj), k0.carry (hh.2.block _ k0.lt (by simp))⟩
  clear h hon k0 hB0
  go_enter Tryz.func12, Tryz.ntmps12
  go_wp2_with fail
  go_fit CR.out
  rintro e w5 ⟨rfl, hB5, hk5⟩
  have f0 := hk5.frozen 0
  have f1 := hk5.frozen 1
  have f2 := hk5.frozen 2
  have n0 := hk5.cell 0 rfl
  have n1 := hk5.cell 1 rfl
  have n2 := hk5.cell 2 rfl
  have HK : Hid (Blk (((w5.setCell ⟨w.heap.size, 0, none⟩ (.slice none 0 0)).setCell ⟨w.heap.size, 1, none⟩ (.int .i64 0)).setCell ⟨w.heap.size, 2, none⟩ (.int .i64 0)) w.heap.size [.slice none 0 0, .int .i64 0, .int .i64 0] 36) := ((hk5.setTo 0 _ _ rfl).setTo 1 _ _ rfl).setTo 2 _ _ rfl
  have HG : Hid (Below w.heap.size w (((w5.setCell ⟨w.heap.size, 0, none⟩ (.slice none 0 0)).setCell ⟨w.heap.size, 1, none⟩ (.int .i64 0)).setCell ⟨w.heap.size, 2, none⟩ (.int .i64 0))) := ((hB5.setCell (Nat.le_refl _) _).setCell (Nat.le_refl _) _).setCell (Nat.le_refl _) _
  clear hk5 hB5 CR
  go_wp2_with fail
  refine bodyPost_ret (v := .tuple #[.agg #[.slice none 0 0, .int .i64 0, .int .i64 0], .int .i64 9]) (results_row_tmpM Tryz.results12 _ _ w.heap.size 36 _ _ _ _ rfl rfl HK.out Tryz.underlying36 rfl (by kernel_rfl)) rfl ?_
  exact ⟨rfl, HG.out⟩
/-- What Load tells of a disk. -/
def ldF (A : Ab) : Mf := if A.on then (match findT A.sp lM with | none => begM | some t => rdF t.bs) else ⟨[], 0, 0⟩
def ldE (A : Ab) : Int := if A.on then (match findT A.sp lM with | none => 0 | some t => rdE t.bs) else 9
theorem MSees.none (w : World) (n f : Int) : MSees w none 0 ⟨[], n, f⟩ := ⟨(fun i x hx => by cases hx), fun _ => rfl, Nat.zero_le _⟩
theorem loadM_any {d : Nat} {A : Ab} {ft : List Nat} {w : World} (h : At d A ft w) (hl : ∀ t ∈ A.sp, t.bs.length ≤ 1000000) (ht : Tab w) (ue : TypeId) (pv : Value) (he : Err w ue pv) :
    Calls Tryz.prog 12 #[.pointer (some ⟨d, 0, none⟩)] w fun e w' => ∃ a5 c5, e = .returned (.tuple #[mval a5 c5 (ldF A), .int .i64 (ldE A)]) ∧ MSees w' a5 c5 (ldF A) ∧ Below w.heap.size w w' := by
  unfold ldF ldE
  by_cases hon : A.on = true
  · rw [if_pos hon, if_pos hon]
    cases hf : findT A.sp lM with
    | none =>
      obtain ⟨bm, fs, hD, hss, _⟩ := h
      exact (load_none hD hon (find_sig_none hss hf)).mono fun e w' hh => ⟨none, 0, hh.1, MSees.none _ _ _, (Below.refl _ _).grown hh.2 (Nat.le_refl _) (fun j hj => by cases hj)⟩
    | some t => exact loadM_bytes h hon hf (hl t (findT_mem hf).1) ht ue pv he
  · rw [if_neg hon, if_neg hon]
    exact (loadM_off h (by simpa using hon)).mono fun e w' hh => ⟨none, 0, hh.1, MSees.none _ _ _, hh.2⟩
set_option maxRecDepth 100000 in
theorem refusalM_off {d : Nat} {A : Ab} {ft : List Nat} {w : World} (h : At d A ft w) (hon : A.on = false) : Calls Tryz.prog 24 #[.pointer (some ⟨d, 0, none⟩)] w fun e w' => e = .returned (.int .i64 9) ∧ w.grownBy w' none := by
  have CR : Hid (Calls Tryz.prog 37 #[.pointer (some ⟨d, 0, none⟩), .string ⟨#[]⟩] w fun x w' => x = .returned (.tuple #[.slice none 0 0, .int .i64 9]) ∧ w.grownBy w' none) := by
    obtain ⟨bm, fs, hD, _, _⟩ := h
    exact read_refused hD ⟨#[]⟩ (by show 0 ≤ maxLen; exact Nat.zero_le _) (c := 9) (by show refuse A.on [⟨#[]⟩] = 9; rw [hon]; rfl) (by omega)
  clear h hon
  go_enter Tryz.func24, Tryz.ntmps24
  go_wp2_with fail
  go_fit CR.out
  rintro e w1 ⟨rfl, hg⟩
  have HG : Hid (w.grownBy w1 none) := hg
  clear hg
  go_wp2_with fail
  go_ret
  exact ⟨rfl, HG.out⟩
set_option maxRecDepth 100000 in
theorem step1_off {d b2 : Nat} {A : Ab} {ft : List Nat} {w : World} (h : At d A ft w) (hon : A.on = false) (hk : Blk w b2 [.pointer (some ⟨d, 0, none⟩)] 26) : Calls Tryz.prog 23 #[.pointer (some ⟨b2, 0, none⟩)] w fun e w' => e = .returned (.int .i64 9) ∧ w.grownBy w' none := by
  have CR : Hid (Calls Tryz.prog 24 #[.pointer (some ⟨d, 0, none⟩)] w fun e w' => e = .returned (.int .i64 9) ∧ w.grownBy w' none) := refusalM_off h hon
  have c0 := hk.cell 0 rfl
  clear h hon hk
  go_enter Tryz.func23, Tryz.ntmps23
  go_wp2_with fail
  go_fit CR.out
  rintro e w1 ⟨rfl, hg⟩
  have HG : Hid (w.grownBy w1 none) := hg
  clear hg
  go_wp2_with fail
  go_ret
  exact ⟨rfl, HG.out⟩
set_option maxRecDepth 100000 in
set_option maxHeartbeats 2000000 in
theorem storeM_off {d : Nat} {A : Ab} {ft : List Nat} {w : World} (hA : At d A ft w) (hon : A.on = false) (ao : Option Addr) (cap : Nat) (m : Mf) :
    Calls Tryz.prog 9 #[.pointer (some ⟨d, 0, none⟩), mval ao cap m] w fun e w' => e = .returned (.int .i64 9) ∧ Below w.heap.size w w' := by
  obtain ⟨w3, hw3⟩ : ∃ w3, w3 = ((w.alloc (.cells #[.pointer (some ⟨d, 0, none⟩)] 26)).alloc (.cells #[.slice ao m.ts.length cap, .int .i64 m.nx, .int .i64 m.fr] 36)).alloc (.cells #[.slice none 0 0] 58) := ⟨_, rfl⟩
  have b1 := Blk.new w [.pointer (some ⟨d, 0, none⟩)] 26
  have b2 := Blk.new (w.alloc (.cells #[.pointer (some ⟨d, 0, none⟩)] 26)) [.slice ao m.ts.length cap, .int .i64 m.nx, .int .i64 m.fr] 36
  have b3 := Blk.new ((w.alloc (.cells #[.pointer (some ⟨d, 0, none⟩)] 26)).alloc (.cells #[.slice ao m.ts.length cap, .int .i64 m.nx, .int .i64 m.fr] 36)) [.slice none 0 0] 58
  rw [World.size_alloc] at b2
  rw [World.size_alloc, World.size_alloc] at b3
  have k1 : Blk w3 w.heap.size [.pointer (some ⟨d, 0, none⟩)] 26 := by rw [hw3]; exact (b1.alloc _).alloc _
  have k2 : Blk w3 (w.heap.size + 1) [.slice ao m.ts.length cap, .int .i64 m.nx, .int .i64 m.fr] 36 := by rw [hw3]; exact b2.alloc _
  have k3 : Blk w3 (w.heap.size + 2) [.slice none 0 0] 58 := by rw [hw3]; exact b3
  have hs3 : w3.heap.size = w.heap.size + 3 := by rw [hw3]; simp
  have hB3 : Below w.heap.size w w3 := by
    rw [hw3]
    exact (((Below.refl _ _).alloc (Nat.le_refl _) _).alloc (by simp) _).alloc (by simp; omega) _
  clear b1 b2 b3
  have k4 : Blk (w3.alloc (.cells (stepsV w.heap.size (w.heap.size + 1) (w.heap.size + 2)).toArray 65)) (w.heap.size + 3) (stepsV w.heap.size (w.heap.size + 1) (w.heap.size + 2)) 65 := by
    have := Blk.new w3 (stepsV w.heap.size (w.heap.size + 1) (w.heap.size + 2)) 65
    rw [hs3] at this; exact this
  have hB4 : Below w.heap.size w (w3.alloc (.cells (stepsV w.heap.size (w.heap.size + 1) (w.heap.size + 2)).toArray 65)) := hB3.alloc hB3.size _
  have kk1 := k1.alloc (.cells (stepsV w.heap.size (w.heap.size + 1) (w.heap.size + 2)).toArray 65)
  obtain ⟨w4, hw4⟩ : ∃ w4, w4 = w3.alloc (.cells (stepsV w.heap.size (w.heap.size + 1) (w.heap.size + 2)).toArray 65) := ⟨_, rfl⟩
  rw [← hw4] at k4 hB4 kk1
  have hA4 : At d A ft w4 := hA.moved (moved_belowM (ft := []) hB4) (by simp)
  have CT : Calls Tryz.prog 22 #[.slice (some ⟨w.heap.size + 3, 0, none⟩) 6 6] w4 (Upon (fun _ => False) (fun x u => x = 9 ∧ Below w.heap.size w u)) := by
    refine (inTurn_six (w.heap.size + 3) w.heap.size (w.heap.size + 1) (w.heap.size + 2) (fun k u => match k with | 0 => u = w4 | _ => False) (fun x u => x = 9 ∧ Below w.heap.size w u) w4 rfl 65 ?_ ?_ ?_ ?_ ?_ ?_ ?_).mono ?_
    · intro k u hk hR
      match k, hR with
      | 0, hR => cases hR; exact k4
      | k + 1, hR => exact hR.elim
    · rintro u rfl
      refine (step1_off hA4 hon kk1).mono ?_
      rintro e u' ⟨rfl, hg'⟩
      exact ⟨9, rfl, .inr ⟨by decide, rfl, hB4.grown hg' hB4.size (fun k hk => by cases hk)⟩⟩
    · intro u hu; exact hu.elim
    · intro u hu; exact hu.elim
    · intro u hu; exact hu.elim
    · intro u hu; exact hu.elim
    · intro u hu; exact hu.elim
    · rintro e u' ⟨x, rfl, hx⟩
      exact ⟨x, rfl, hx.imp (fun h => ⟨h.1, h.2.elim⟩) id⟩
  have hmf : ∀ (fn : Fn) (first cap : Array Value) (w : World), (Instr.makeFunc fn first cap).run Tryz.prog w = .ok (.func fn first cap) w := fun _ _ _ _ => rfl
  rw [hw4, hw3] at CT
  clear hA hon k1 k2 k3 hs3 hB3 k4 hB4 kk1 hA4 hw4 hw3
  unfold stepsV at CT
  have HCT : Hid (Calls Tryz.prog 22 #[.slice (some ⟨w.heap.size + 3, 0, none⟩) 6 6] _ (Upon (fun _ => False) (fun x u => x = 9 ∧ Below w.heap.size w u))) := CT
  unfold mval
  go_enter Tryz.func9, Tryz.ntmps9
  go_wp2_with fail
  go_fit HCT.out
  rintro e w9 ⟨x, rfl, hx⟩
  have HX : Hid (x = 9 ∧ Below w.heap.size w w9) := by
    rcases hx with h | h
    · exact h.2.elim
    · exact h.2
  clear hx HCT CT
  go_wp2_with fail
  go_ret
  exact ⟨ret_int HX.out.1, HX.out.2⟩
end Go.Proofs.YtgkdodcidancpaaGreatDoor
namespace Go.Proofs.YtgkdodcidancpaaGreatDoor
open Go.RowKit Go.Maps Go.WideAt Go.WideShapes

section
variable {d r : Nat} {A A' : Ab} {Q Q' : RA} {fs : List Nat} {w : World} (h : Two d r A Q fs w)
include h
theorem Two.progU {F : Nat} {args : Array Value} (hc : ∀ ft, At d A ft w → Calls Tryz.prog F args w fun x w' => x = .returned (.tuple #[]) ∧ ∃ ft', At d A' ft' w' ∧ Moved w w' ft ft') : Calls Tryz.prog F args w fun x w' => x = .returned (.tuple #[]) ∧ ∃ fs', Two d r A' Q fs' w' ∧ Moved w w' fs fs' := by
  obtain ⟨ft, fr, h1, h2, h3, rfl⟩ := h
  refine (hc ft h1).mono ?_
  rintro x w' ⟨rfl, ft', a1, a2⟩
  refine ⟨rfl, _, ⟨ft', fr, a1, h2.moved a2 (fun i hi hh => h3 i hh hi), fun i hi hh => ?_, rfl⟩, a2.wider (fun i hi => .inl (List.mem_append.2 (.inl hi))) (fun i hi => ?_)⟩
  · rcases a2.news i hi with h5 | h5
    · exact h3 i h5 hh
    · have := h2.lt i hh; omega
  · rcases List.mem_append.1 hi with h5 | h5
    · exact .inr (.inl h5)
    · exact .inl (List.mem_append.2 (.inr h5))
theorem Two.refU {F : Nat} {args : Array Value} (hc : ∀ fr, RAt r Q fr w → Calls Tryz.prog F args w fun x w' => x = .returned (.tuple #[]) ∧ ∃ fr', RAt r Q' fr' w' ∧ Moved w w' fr fr') : Calls Tryz.prog F args w fun x w' => x = .returned (.tuple #[]) ∧ ∃ fs', Two d r A Q' fs' w' ∧ Moved w w' fs fs' := by
  obtain ⟨ft, fr, h1, h2, h3, rfl⟩ := h
  refine (hc fr h2).mono ?_
  rintro x w' ⟨rfl, fr', a1, a2⟩
  refine ⟨rfl, _, ⟨ft, fr', h1.moved a2 (fun i hi hh => h3 i hi hh), a1, fun i hi hh => ?_, rfl⟩, a2.wider (fun i hi => .inl (List.mem_append.2 (.inr hi))) (fun i hi => ?_)⟩
  · rcases a2.news i hh with h5 | h5
    · exact h3 i hi h5
    · have := h1.lt i hi; omega
  · rcases List.mem_append.1 hi with h5 | h5
    · exact .inl (List.mem_append.2 (.inl h5))
    · exact .inr (.inl h5)
end
/-- Both disks in memory, as one, behind acts of so much weight. -/
def Duo (d r n : Nat) (fs : List Nat) (w : World) : Prop := ∃ A Q, Two d r A Q fs w ∧ Tie A Q ∧ Sml A n ∧ Q.fail ≤ 9223372036854775807
theorem Duo.moved {d r n : Nat} {fs : List Nat} {w w' : World} {a b : List Nat} (h : Duo d r n fs w) (hm : Moved w w' a b) (hd : ∀ i ∈ fs, i ∉ a) : Duo d r n fs w' := by
  obtain ⟨A, Q, h1, h2⟩ := h
  exact ⟨A, Q, h1.moved hm hd, h2⟩
theorem Duo.lt {d r n : Nat} {fs : List Nat} {w : World} (h : Duo d r n fs w) : ∀ i ∈ fs, i < w.heap.size := by
  obtain ⟨A, Q, h1, _⟩ := h
  exact h1.lt
theorem apl_fine {A : Ab} {nm : List UInt8} {t : Sig} {l : List UInt8} (h : (appT A nm t l).Fine) : (apL A nm t l).Fine := ⟨h.wr, h.len, h.rise, h.ahead, h.room, h.used, h.dirty⟩
end Go.Proofs.YtgkdodcidancpaaGreatDoor
namespace Go.Proofs.YtgkdodcidancpaaGreatDoor
open Go.RowKit Go.Maps Go.WideAt Go.WideShapes

/-- Texts in memory. -/
def TS (w : World) (ao : Option Addr) (l : List ByteArray) : Prop := ∀ i s, l[i]? = some s → ∃ b, ao = some ⟨b, 0, none⟩ ∧ w.cell? ⟨b, i, none⟩ = some (.string s)
theorem TS.grown {w w' : World} {ao : Option Addr} {l : List ByteArray} (h : TS w ao l) (hg : w.grownBy w' none) : TS w' ao l := fun i s hi => by
  obtain ⟨b, e, hc⟩ := h i s hi
  exact ⟨b, e, hg.cell hc (by simp)⟩
theorem TS.of_row {w : World} {base : Nat} {v : Value} {l : List ByteArray} (h : w.ownsRow base 9 1 v l.length (l.map Value.string)) : ∃ ao c, v = .slice ao l.length c ∧ TS w ao l := by
  rcases h.2 with ⟨rfl, h0⟩ | ⟨g, cap, cur, rfl, hb, hg, hn, _⟩
  · rw [h0]
    exact ⟨none, 0, rfl, fun i s hi => by rw [List.eq_nil_of_length_eq_zero h0] at hi; cases hi⟩
  · refine ⟨_, cap, rfl, fun i s hi => ⟨g, rfl, ?_⟩⟩
    have hc := h.cells (g := g) rfl i (.string s) (by rw [List.getElem?_map, hi]; rfl)
    have e : (({ block := g, off := 0 } : Addr).add i) = ⟨g, i, none⟩ := by unfold Addr.add; simp; omega
    rwa [e] at hc
set_option maxRecDepth 100000 in
set_option maxHeartbeats 1000000 in
theorem texts_same (ao bo : Option Addr) (l : List ByteArray) (c c' : Nat) (w : World) (h1 : TS w ao l) (h2 : TS w bo l) (hl : l.length ≤ 1000000) :
    Calls Tryz.prog 16 #[.slice ao l.length c, .slice bo l.length c'] w fun e w' => e = .returned (.bool true) ∧ Below w.heap.size w w' := by
  have hlz : (l.length : Int) ≤ 1000000 := by omega
  go_enter Tryz.func16, Tryz.ntmps16
  go_wp2_with fail
  go_loopw [13] (fun s13 wr => ∃ i : Nat, i ≤ l.length ∧ s13 = .int .i64 (i : Int) ∧ Below w.heap.size w wr) (fun s13 _ => l.length - (intOf s13).toNat)
  case atStart => exact ⟨0, by omega, rfl, Below.refl _ _⟩
  case round =>
    obtain ⟨i, hi, rfl, hbr⟩ := hrel
    rcases Nat.lt_or_ge i l.length with hlt | hge
    · have hc : l[i]? = some l[i] := List.getElem?_eq_getElem hlt
      obtain ⟨b, rfl, k1⟩ := h1 i _ hc
      obtain ⟨b', rfl, k2⟩ := h2 i _ hc
      generalize l[i] = s at *
      have q0 : ∀ z : Cl wr.heap.size wr, z.u.cell? ⟨b, i, none⟩ = some (.string s) := fun z => by
        have e : wr.cell? ⟨b, i, none⟩ = some (.string s) := by rw [hbr.cell (World.block_lt_of_cell? _ _ k1)]; exact k1
        exact z.cell (World.block_lt_of_cell? _ _ e) e
      have q1 : ∀ z : Cl wr.heap.size wr, z.u.cell? ⟨b', i, none⟩ = some (.string s) := fun z => by
        have e : wr.cell? ⟨b', i, none⟩ = some (.string s) := by rw [hbr.cell (World.block_lt_of_cell? _ _ k2)]; exact k2
        exact z.cell (World.block_lt_of_cell? _ _ e) e
      have HE : Hid (∀ w', Below wr.heap.size wr w' → Below w.heap.size w w') := fun w' h => hbr.trans (h.mono hbr.size)
      have hiz : (i : Int) < (l.length : Int) := by omega
      clear h1 h2 hbr hc k1 k2
      haveI := Cl.inh wr.heap.size wr
      go_wp2_with fail
      refine wp_region_cl wr.heap.size (by kernel_rfl) (by kernel_rfl) ?_
      repeat quiet_step (fail)
      refine wpQuiet_nil ?_
      rintro w0 ⟨z, rfl⟩
      have hz := HE.out _ z.h
      go_wp2_with fail
      go_roundw
      case rel => exact ⟨i + 1, by omega, by go_num, hz⟩
      case measure => (simp [intOf]; try omega)
    · obtain rfl : i = l.length := by omega
      clear h1 h2
      have hiz : ¬ (l.length : Int) < (l.length : Int) := by omega
      go_wp2_with fail
      go_ret
      exact ⟨rfl, hbr⟩
/-! ### what they tell -/
def namesV (A : Ab) : List ByteArray := if A.on then A.sp.map fun t => strBD t.nm else []
def usedV (A : Ab) : Int := if A.on then (usedT A.sp : Int) else 0
def dirtyV (A : Ab) : Int := if A.on then (dirtyT A.sp : Int) else 0
section
variable {d : Nat} {A : Ab} {Q : RA} {ft : List Nat} {w : World} (hT : Tie A Q) (hF : A.Fine) (h : At d A ft w)
include h
theorem ob_ops : Calls Tryz.prog 15 #[.pointer (some ⟨d, 0, none⟩)] w fun x w' => x = .returned (.int .i64 (A.ops : Int)) ∧ w' = w := by
  obtain ⟨bm, fs, hD, hss, rfl⟩ := h
  exact ops_any hD
theorem ob_on : Calls Tryz.prog 118 #[.pointer (some ⟨d, 0, none⟩)] w fun x w' => x = .returned (.bool A.on) ∧ w' = w := by
  obtain ⟨bm, fs, hD, hss, rfl⟩ := h
  exact on_any hD
include hF
theorem ob_used : Calls Tryz.prog 96 #[.pointer (some ⟨d, 0, none⟩)] w fun x w' => x = .returned (.int .i64 (usedV A)) ∧ w.grownBy w' none := by
  unfold usedV
  by_cases hon : A.on = true
  · rw [if_pos hon]
    exact ab_used h hF hon
  · rw [if_neg hon]
    obtain ⟨bm, fs, hD, hss, rfl⟩ := h
    refine (used_off hD (by show A.on = false; simpa using hon)).mono ?_
    rintro x w' ⟨rfl, rfl⟩
    exact ⟨rfl, World.grownBy.refl _ _⟩
include hT
omit hF in
theorem ob_list (hn : A.sp.length ≤ 1000000) : Calls Tryz.prog 17 #[.pointer (some ⟨d, 0, none⟩)] w fun x w' => ∃ ao c, x = .returned (.slice ao (namesV A).length c) ∧ TS w' ao (namesV A) ∧ w.grownBy w' none := by
  unfold namesV
  obtain ⟨bm, fs, hD, hss, rfl⟩ := h
  by_cases hon : A.on = true
  · rw [if_pos hon]
    have hlen : fs.length = A.sp.length := by rw [← hss, List.length_map]
    refine (list_on hD hon (by show fs.length ≤ _; omega)).mono ?_
    rintro x w' ⟨v, ss, rfl, hp, hrow, hb⟩
    have hp2 : ss.Perm (A.sp.map Sig.nm) := by
      rw [← hss, List.map_map]
      exact hp
    have hsn := hT.sorted
    rw [names_sorted hp2 (by rw [List.pairwise_map]; exact hsn)] at hrow
    have e : (A.sp.map Sig.nm).map encStr = (A.sp.map fun t => strBD t.nm).map Value.string := by
      rw [List.map_map, List.map_map]
      rfl
    rw [e, hp2.length_eq, List.length_map, ← List.length_map (f := fun t : Sig => strBD t.nm)] at hrow
    obtain ⟨ao, c, rfl, hts⟩ := TS.of_row hrow
    exact ⟨ao, c, rfl, hts, grown_of_below hb⟩
  · rw [if_neg hon]
    refine (list_off hD (by show A.on = false; simpa using hon)).mono ?_
    rintro x w' ⟨rfl, rfl⟩
    exact ⟨none, 0, rfl, (fun i s hi => by cases hi), World.grownBy.refl _ _⟩
end
section
variable {r : Nat} {A : Ab} {Q : RA} {fr : List Nat} {w : World} (hT : Tie A Q) (hF : Q.Fit) (h : RAt r Q fr w)
include hT h
theorem ob_rops : w.cell? ⟨r, 4, none⟩ = some (.int .i64 (A.ops : Int)) ∧ w.cell? ⟨r, 3, none⟩ = some (.bool (!A.on)) := by
  have e1 := hT.ops
  have e2 := hT.off
  obtain ⟨R, h1, rfl, rfl, _⟩ := h
  have e1' : R.ops = A.ops := e1
  have e2' : R.off = !A.on := e2
  rw [← e1', ← e2']
  exact ⟨h1.c4, h1.c3⟩
include hF
theorem ob_rlist : Calls Tryz.prog 18 #[.pointer (some ⟨r, 0, none⟩)] w fun x w' => ∃ ao c, x = .returned (.slice ao (namesV A).length c) ∧ TS w' ao (namesV A) ∧ w.grownBy w' none := by
  refine (ra_List h hF).mono ?_
  rintro x w' ⟨v, rfl, hg, ⟨ho, hrow⟩ | ⟨ho, rfl⟩⟩
  · have hon : A.on = true := by have := hT.off; rw [ho] at this; simpa using this.symm
    unfold namesV
    rw [if_pos hon]
    have e : nameRow Q.L = (A.sp.map fun t => strBD t.nm).map Value.string := by
      unfold nameRow
      rw [hT.L, List.map_map, List.map_map]
      rfl
    rw [e, hT.count, ← List.length_map (f := fun t : Sig => strBD t.nm)] at hrow
    obtain ⟨ao, c, rfl, hts⟩ := TS.of_row hrow
    exact ⟨ao, c, rfl, hts, hg⟩
  · have hon : ¬ A.on = true := by have := hT.off; rw [ho] at this; simpa using this.symm
    unfold namesV
    rw [if_neg hon]
    exact ⟨none, 0, rfl, (fun i s hi => by cases hi), hg⟩
end
end Go.Proofs.YtgkdodcidancpaaGreatDoor

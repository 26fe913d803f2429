/-
  SEVERAL TEXTS IN ONE: DskTie, DskRef9.
-/
import Derived.Test.YtoeoioigelknnaaGreatMany16
import Derived.Test.YtoeoioigelknnaaGreatDskRef8
import Derived.Deep.CutRange
namespace Go.Proofs.YtoeoioigelknnaaGreat

/-- A file's sectors that are not synced: its number, and which. -/
def secs (wr len : Nat) : Nat := if wr = len then 0 else (len + 15) / 16 - wr / 16
abbrev Ln := Nat × (List UInt8 × Nat)
def lnF (t : Sig) : List Ln := t.pl.zipIdx.map fun x => (x.1, (t.nm, t.wr / 16 + x.2))
def lnOf (sp : List Sig) : List Ln := sp.flatMap lnF
def strip (t : Sig) : Sig := ⟨t.nm, t.bs, t.wr, []⟩
theorem lnF_name {t : Sig} {x : Ln} (h : x ∈ lnF t) : x.2.1 = t.nm := by
  obtain ⟨y, _, rfl⟩ := List.mem_map.1 h
  rfl
theorem lnF_fst (t : Sig) : (lnF t).map (·.1) = t.pl := by
  unfold lnF
  rw [List.map_map]
  show t.pl.zipIdx.map (fun x => x.1) = t.pl
  rw [List.zipIdx_map_fst]
theorem lnF_len (t : Sig) : (lnF t).length = t.pl.length := by
  unfold lnF
  rw [List.length_map, List.length_zipIdx]
theorem lnOf_cons (t : Sig) (r : List Sig) : lnOf (t :: r) = lnF t ++ lnOf r := List.flatMap_cons
theorem lnOf_fst (sp : List Sig) : (lnOf sp).map (·.1) = linesT sp := by
  unfold linesT
  induction sp with
  | nil => rfl
  | cons t r ih => rw [lnOf_cons, List.map_append, ih, lnF_fst, List.flatMap_cons]
theorem lnF_filter_same (t : Sig) (nm : List UInt8) (h : t.nm = nm) : (lnF t).filter (fun x => !(x.2.1 == nm)) = [] := by
  rw [List.filter_eq_nil_iff]
  intro x hx
  have := lnF_name hx
  simp [this, h]
theorem lnF_filter_other (t : Sig) (nm : List UInt8) (h : t.nm ≠ nm) : (lnF t).filter (fun x => !(x.2.1 == nm)) = lnF t := by
  rw [List.filter_eq_self]
  intro x hx
  have := lnF_name hx
  simp [this, h]
theorem lnOf_drop (sp : List Sig) (nm : List UInt8) : lnOf (dropT sp nm) = (lnOf sp).filter (fun x => !(x.2.1 == nm)) := by
  unfold dropT
  induction sp with
  | nil => rfl
  | cons t r ih =>
    rw [List.filter_cons, lnOf_cons, List.filter_append]
    by_cases e : t.nm = nm
    · have h1 : (!(t.nm == nm)) = false := by simp [e]
      rw [h1, lnF_filter_same t nm e]
      simpa using ih
    · have h1 : (!(t.nm == nm)) = true := by simp [e]
      rw [h1, lnF_filter_other t nm e]
      simp only [if_true]
      rw [lnOf_cons, ih]
theorem lnOf_ins (t : Sig) (sp : List Sig) : (lnOf (insT t sp)).Perm (lnF t ++ lnOf sp) := by
  induction sp with
  | nil => rw [insT, lnOf_cons]
  | cons y r ih =>
    rw [insT]
    split
    · rw [lnOf_cons]
    · rw [lnOf_cons, lnOf_cons]
      refine (ih.append_left (lnF y)).trans ?_
      rw [← List.append_assoc, ← List.append_assoc]
      exact (List.perm_append_comm).append_right _
theorem lnF_rename (t : Sig) (nm : List UInt8) : lnF ⟨nm, t.bs, t.wr, t.pl⟩ = (lnF t).map fun x => (x.1, (nm, x.2.2)) := by
  unfold lnF
  rw [List.map_map]
  rfl
theorem lnF_app (nm bs bs' : List UInt8) (wr : Nat) (pl : List Nat) (next n : Nat) : lnF ⟨nm, bs', wr, pl ++ List.range' next n⟩ = lnF ⟨nm, bs, wr, pl⟩ ++ (List.range n).map fun i => (next + i, (nm, wr / 16 + (pl.length + i))) := by
  unfold lnF
  rw [List.zipIdx_append, List.map_append]
  congr 1
  apply List.ext_getElem?
  intro i
  rw [List.getElem?_map, List.getElem?_map, List.getElem?_zipIdx]
  by_cases h : i < n
  · rw [List.getElem?_range' h, List.getElem?_range h]
    simp
  · rw [List.getElem?_eq_none (by simp; omega), List.getElem?_eq_none (by simp; omega)]
    rfl
end Go.Proofs.YtoeoioigelknnaaGreat
namespace Go.Proofs.YtoeoioigelknnaaGreat
open Go.RowKit Go.Maps Go.WideAt Go.WideShapes
attribute [local go_sem] Oper.pureAt Oper.pureUpon
attribute [local irreducible] wpQuiet

theorem below_of_grown {w w' : World} (h : w.grownBy w' none) : Below w.heap.size w w' := ⟨h.os, h.tape, h.output, h.size, fun k hk => h.block k hk (by simp)⟩
theorem RefAt.cl {w wx : World} {r : Nat} {R : RM} (h : RefAt w r R) (hb : Below w.heap.size w wx) : RefAt wx r R := h.carry (fun i hi => hb.block i (h.lt i hi)) hb.size
theorem moved_below {w wx : World} (hb : Below w.heap.size w wx) (ft : List Nat) : Moved w wx ft ft := ⟨hb.os, hb.tape, hb.output, hb.size, fun i hi _ => hb.block i hi, fun _ h => .inl h⟩
theorem moved_feet {w w' : World} {r : Nat} {ft ft' : List Nat} (h : Moved w w' [r] []) (hr : r ∈ ft) (hf : ∀ i ∈ ft', i ∈ ft ∨ w.heap.size ≤ i) : Moved w w' ft ft' :=
  ⟨h.os, h.tape, h.output, h.size, fun i hi hn => h.kept i hi (fun e => hn (by simp at e; rw [e]; exact hr)), hf⟩
theorem mem_insR {f x : RF} : ∀ {l : List RF}, x ∈ insR f l → x = f ∨ x ∈ l
  | [], h => by simp [insR] at h; exact .inl h
  | y :: r, h => by
    rw [insR] at h
    split at h
    · rcases List.mem_cons.1 h with h | h
      · exact .inl h
      · exact .inr h
    · rcases List.mem_cons.1 h with h | h
      · exact .inr (by rw [h]; exact List.mem_cons_self)
      · exact (mem_insR h).imp id (fun h => List.mem_cons_of_mem _ h)
theorem drop_sorted {L : List Sig} (h : L.Pairwise (fun x y => bytesBefore x.nm y.nm = true)) (nm : List UInt8) : (dropT L nm).Pairwise (fun x y => bytesBefore x.nm y.nm = true) := h.sublist List.filter_sublist
/-- Is there no room for a new file? -/
def fullQ (Q : RA) (nm : List UInt8) : Bool := decide (findT Q.L nm = none ∧ (48 ≤ Q.L.length ∨ Q.room ≤ usedT Q.L))
def createQ (Q : RA) (s : ByteArray) : Int × RA :=
  if Q.off then (9, Q) else if goodB (nameOf s) then (if fullQ Q (nameOf s) then (7, Q) else if Q.fail = 1 then (9, crashQ (turnQ Q) Q.keep) else
    (0, { turnQ Q with L := insT ⟨nameOf s, [], 0, []⟩ (dropT Q.L (nameOf s)), line := Q.line.filter (fun p => !(p.1 == nameOf s)) })) else (3, Q)
set_option maxRecDepth 100000 in
set_option maxHeartbeats 1200000 in
theorem ra_Create {w : World} {r : Nat} {Q : RA} {fr : List Nat} (h : RAt r Q fr w) (hF : Q.Fit) (s : ByteArray) (hs : s.size ≤ maxLen) :
    Calls Tryz.prog 25 #[.pointer (some ⟨r, 0, none⟩), .string s] w (ROut r fr w (createQ Q s)) := by
  obtain ⟨R, h1, rfl, rfl, hcap⟩ := h
  have hn : R.fs.length ≤ 1000000 := by have := hF.few; rwa [show R.abs.L.length = R.fs.length from len_sig _] at this
  have G : Hid (∀ w, Calls Tryz.prog 63 #[.string s] w fun e w' => e = .returned (.bool (goodB (nameOf s))) ∧ w' = w) := fun w => refGood_any s w hs
  have T : Hid (∀ wx, Below w.heap.size w wx → Calls Tryz.prog 65 #[.pointer (some ⟨r, 0, none⟩)] wx fun x w' => x = .returned (.bool (decide (R.fail = 1))) ∧ RefAt w' r (turnR R).2 ∧ Moved wx w' (R.foot r) ((turnR R).2.foot r)) := fun wx hb => ref_turn (h1.cl hb) hF.ops hF.fail
  have H1 : Hid (RefAt w r R) := h1
  have HF : Hid R.abs.Fit := hF
  have HC : Hid (CapOk R.fs) := hcap
  have HQ : Hid (createQ R.abs s = if R.off then ((9 : Int), R.abs) else if goodB (nameOf s) then (if fullQ R.abs (nameOf s) then ((7 : Int), R.abs) else if R.fail = 1 then (9, crashQ (turnQ R.abs) R.keep) else
    (0, { turnQ R.abs with L := insT ⟨nameOf s, [], 0, []⟩ (dropT (R.fs.map RF.sig) (nameOf s)), line := R.line.filter (fun p => !(p.1 == nameOf s)) })) else (3, R.abs)) := rfl
  generalize hq : createQ R.abs s = q at *
  clear hq
  have c3 := h1.c3
  cases hoff : R.off
  · rw [hoff] at c3 HQ
    cases hgd : goodB (nameOf s)
    · rw [hgd] at G HQ
      clear h1 hF hcap hs hn
      go_enter Tryz.func25, Tryz.ntmps25
      go_wp2_with fail
      refine (G.out _).mono ?_
      rintro x _ ⟨rfl, hw⟩
      obtain rfl := hw.symm
      go_wp2_with fail
      go_ret
      rw [HQ.out]
      exact ⟨rfl, _, ⟨R, H1.out, rfl, rfl, HC.out⟩, Moved.refl _ _⟩
    · rw [hgd] at G HQ
      have hUs : usedF R.fs = usedT (R.fs.map RF.sig) := usedF_sig _
      have A : Hid (∀ p : Cl w.heap.size w, Calls Tryz.prog 64 #[.pointer (some ⟨r, 0, none⟩), .string s] p.u fun x w' => x = .returned (.int .i64 (atI R.fs (nameOf s))) ∧ Below p.u.heap.size p.u w') := fun p => (ref_at (h1.cl p.h) hn s).mono fun _ _ hh => ⟨hh.1, by rw [hh.2]; exact Below.refl _ _⟩
      have U : Hid (∀ p : Cl w.heap.size w, Calls Tryz.prog 47 #[.pointer (some ⟨r, 0, none⟩)] p.u fun x w' => x = .returned (.int .i64 (usedT (R.fs.map RF.sig) : Int)) ∧ Below p.u.heap.size p.u w') := fun p => by
        have := ref_used (h1.cl p.h) hn (by rw [hUs]; exact hF.used)
        rw [hUs] at this
        exact this.mono fun _ _ hh => ⟨hh.1, below_of_grown hh.2⟩
      obtain ⟨aL, cL, hvL, hcL, -⟩ := h1.files
      have hrl := h1.head.lt
      have q1 : ∀ q : Cl w.heap.size w, q.u.cell? ⟨r, 1, none⟩ = some (.slice aL R.fs.length cL) := fun q => q.cell hrl (by rw [← hvL]; exact h1.c1)
      have q0 : ∀ q : Cl w.heap.size w, q.u.cell? ⟨r, 0, none⟩ = some (.int .i64 (R.room : Int)) := fun q => q.cell hrl h1.c0
      have hac := at_cases R.fs (nameOf s)
      have hrz : (R.room : Int) ≤ 1073741824 := by have := hF.room; have e : R.abs.room = R.room := rfl; omega
      have huz : (usedT (R.fs.map RF.sig) : Int) ≤ 1099511627776 := by have := hF.used; have e : R.abs.L = R.fs.map RF.sig := rfl; rw [e] at this; omega
      have hnz : (R.fs.length : Int) ≤ 1000000 := by omega
      have HFU : Hid (fullQ R.abs (nameOf s) = decide (findT (R.fs.map RF.sig) (nameOf s) = none ∧ (48 ≤ R.fs.length ∨ R.room ≤ usedT (R.fs.map RF.sig)))) := by
        show _ = _
        unfold fullQ
        rw [show R.abs.L.length = R.fs.length from len_sig _]
        rfl
      have HN : Hid (R.fs.length ≤ 1000000) := hn
      haveI := Cl.inh w.heap.size w
      generalize usedT (R.fs.map RF.sig) = ud at *
      clear h1 hF hcap hs hn hUs hvL hcL hrl
      go_enter Tryz.func25, Tryz.ntmps25
      go_wp2_with fail
      refine (G.out _).mono ?_
      rintro x _ ⟨rfl, hw⟩
      obtain rfl := hw.symm
      go_wp2_with fail
      go_cut [14] from 15 to 36 (fun s14 wx => s14 = .bool (fullQ R.abs (nameOf s)) ∧ Below w.heap.size w wx)
      case rest =>
        obtain ⟨rfl, hbx⟩ := hcut
        cases hfu : fullQ R.abs (nameOf s)
        · rw [hfu] at HQ
          by_cases hf : R.fail = 1
          · have T2 := T.out _ hbx
            rw [decide_eq_true hf] at T2
            rw [if_pos hf] at HQ
            have D : Hid (∀ w1, RefAt w1 r (turnR R).2 → Calls Tryz.prog 66 #[.pointer (some ⟨r, 0, none⟩)] w1 (ROut r ((turnR R).2.foot r) w1 (9, crashQ (turnQ R.abs) R.keep))) := fun w1 h => ref_dies h HC.out hoff HF.out rfl rfl
            clear hf hac q1 q0 A U T HFU
            go_wp2_with fail
            refine T2.mono ?_
            rintro x w1 ⟨rfl, h2, hM⟩
            go_wp2_with fail
            refine (D.out w1 h2).mono ?_
            rintro x w2 ⟨rfl, fr', h3, hM2⟩
            go_wp2_with fail
            go_ret
            rw [HQ.out]
            exact ⟨rfl, fr', h3, (moved_below hbx _).trans (hM.trans hM2)⟩
          · have T2 := T.out _ hbx
            rw [decide_eq_false hf] at T2
            rw [if_neg hf] at HQ
            have D : Hid (∀ w1, RefAt w1 r (turnR R).2 → Calls Tryz.prog 67 #[.pointer (some ⟨r, 0, none⟩), .string s] w1 fun x w' => x = .returned (.tuple #[]) ∧ ∃ v v2, Ch w1 w' r (turnR R).2 { (turnR R).2 with vL := v, fs := R.fs.filter (fun p => !(p.nm == nameOf s)), vN := v2, line := R.line.filter (fun p => !(p.1 == nameOf s)) }) := fun w1 h => ref_drop h HN.out HF.out.line s
            have I : Hid (∀ w1 (R1 : RM), RefAt w1 r R1 → R1.fs = R.fs.filter (fun p => !(p.nm == nameOf s)) → Calls Tryz.prog 68 #[.pointer (some ⟨r, 0, none⟩), .agg #[.string s, .slice none 0 0, .int .i64 0]] w1 fun x w' => x = .returned (.tuple #[]) ∧ ∃ v, RefAt w' r { R1 with vL := v, fs := insR ⟨nameOf s, none, 0, [], 0⟩ R1.fs } ∧ Moved w1 w' (R1.foot r) (({ R1 with vL := v, fs := insR ⟨nameOf s, none, 0, [], 0⟩ R1.fs } : RM).foot r)) := fun w1 R1 h e => by
              have hso : R1.fs.Pairwise (fun x y => bytesBefore x.nm y.nm = true) := sorted_sig (by rw [e, drop_sigR]; exact drop_sorted HF.out.sorted _)
              have := ref_insert h (by rw [e]; exact Nat.le_trans (List.length_filter_le _ _) HN.out) ⟨nameOf s, none, 0, [], 0⟩ hso ⟨Sees.nil _ _, fun _ => rfl, fun g hg => by simp [RF.blk] at hg⟩
              rw [show strB (⟨nameOf s, none, 0, [], 0⟩ : RF).nm = s from strB_nameOf s] at this
              refine this.mono fun x w' ⟨hx, v, a1, a2, a3⟩ => ⟨hx, v, a1, moved_feet a2 (foot_iff.2 (.inl rfl)) fun i hi => ?_⟩
              rcases a3 i hi with h5 | h5 | h5
              · exact .inl h5
              · simp [RF.blk] at h5
              · exact .inr h5
            clear hf hac q1 q0 A U T HFU
            go_wp2_with fail
            refine T2.mono ?_
            rintro x w1 ⟨rfl, h2, hM⟩
            go_wp2_with fail
            refine (D.out w1 h2).mono ?_
            rintro x w2 ⟨rfl, v, v2, hC⟩
            go_wp2_with fail
            refine (I.out _ _ hC.at_ rfl).mono ?_
            rintro x w3 ⟨rfl, v3, h5, hM3⟩
            go_wp2_with fail
            go_ret
            rw [HQ.out]
            refine ⟨rfl, _, ⟨_, h5, ?_, rfl, fun x hx => ?_⟩, (moved_below hbx _).trans (hM.trans (hC.moved.trans hM3))⟩
            · show RA.mk ((insR ⟨nameOf s, none, 0, [], 0⟩ (R.fs.filter (fun p => !(p.nm == nameOf s)))).map RF.sig) _ _ _ _ _ _ = _
              rw [ins_sigR, drop_sigR]
              rfl
            · rcases mem_insR hx with rfl | hx
              · exact Nat.le_refl _
              · exact cap_filter HC.out _ _ hx
        · rw [hfu] at HQ
          clear hac q1 q0 A U T HFU
          go_wp2_with fail
          go_ret
          rw [HQ.out]
          exact ⟨rfl, _, ⟨R, H1.out.cl hbx, rfl, rfl, HC.out⟩, moved_below hbx _⟩
      case first =>
        clear HQ T H1 HF HC G HN
        rcases hac with ⟨e1, e2⟩ | ⟨i, f, e1, -, -, e2⟩
        · rw [e1] at A
          rw [e2] at HFU
          by_cases h48 : 48 ≤ R.fs.length
          · have h48z : (48 : Int) ≤ (R.fs.length : Int) := by omega
            rw [decide_eq_true (show none = none ∧ (48 ≤ R.fs.length ∨ R.room ≤ ud) from ⟨rfl, .inl h48⟩)] at HFU
            clear e1 e2 h48
            refine wp_region_cl w.heap.size (by kernel_rfl) (by kernel_rfl) ?_
            quiet_step (fail)
            quiet_step (fail)
            quiet_step ((go_at_call 64; exact Cl.calls (Nat.le_refl _) (A.out _)))
            quiet_step (fail)
            quiet_step (fail)
            quiet_step (fail)
            quiet_step (fail)
            quiet_step (fail)
            quiet_step (fail)
            quiet_step (fail)
            quiet_step (fail)
            quiet_step (fail)
            quiet_step (fail)
            quiet_step (fail)
            quiet_step (fail)
            quiet_step (fail)
            quiet_step (fail)
            quiet_step (fail)
            quiet_step (fail)
            quiet_step (fail)
            quiet_step (fail)
            quiet_step (fail)
            refine wpQuiet_nil ?_
            rintro _ ⟨qq, rfl⟩
            go_wp2_with fail
            go_meet
            case rel => exact ⟨by rw [HFU.out], qq.h⟩
          · have h48z : ¬ (48 : Int) ≤ (R.fs.length : Int) := by omega
            have hde : fullQ R.abs (nameOf s) = decide ((R.room : Int) ≤ (ud : Int)) := by
              rw [HFU.out]
              exact decide_eq_decide.2 ⟨fun h => by have := h.2; omega, fun h => ⟨rfl, .inr (by omega)⟩⟩
            have HDE : Hid (fullQ R.abs (nameOf s) = decide ((R.room : Int) ≤ (ud : Int))) := hde
            clear e1 e2 h48 HFU hde
            refine wp_region_cl w.heap.size (by kernel_rfl) (by kernel_rfl) ?_
            quiet_step (fail)
            quiet_step (fail)
            quiet_step ((go_at_call 64; exact Cl.calls (Nat.le_refl _) (A.out _)))
            quiet_step (fail)
            quiet_step (fail)
            quiet_step (fail)
            quiet_step (fail)
            quiet_step (fail)
            quiet_step (fail)
            quiet_step (fail)
            quiet_step (fail)
            quiet_step (fail)
            quiet_step (fail)
            quiet_step ((go_at_call 47; exact Cl.calls (Nat.le_refl _) (U.out _)))
            quiet_step (fail)
            quiet_step (fail)
            quiet_step (fail)
            quiet_step (fail)
            quiet_step (fail)
            quiet_step (fail)
            quiet_step (fail)
            quiet_step (fail)
            refine wpQuiet_nil ?_
            rintro _ ⟨qq, rfl⟩
            go_wp2_with fail
            go_meet
            case rel => exact ⟨by rw [HDE.out]; exact congrArg Value.bool (decide_eq_decide.2 (by omega)), qq.h⟩
        · rw [e1] at A
          rw [e2] at HFU
          rw [decide_eq_false (show ¬ (some f.sig = none ∧ (48 ≤ R.fs.length ∨ R.room ≤ ud)) from fun h => by cases h.1)] at HFU
          clear e1 e2
          have hi0 : ¬ (i : Int) < 0 := by omega
          refine wp_region_cl w.heap.size (by kernel_rfl) (by kernel_rfl) ?_
          quiet_step (fail)
          quiet_step (fail)
          quiet_step ((go_at_call 64; exact Cl.calls (Nat.le_refl _) (A.out _)))
          quiet_step (fail)
          quiet_step (fail)
          quiet_step (fail)
          quiet_step (fail)
          quiet_step (fail)
          quiet_step (fail)
          quiet_step (fail)
          quiet_step (fail)
          quiet_step (fail)
          quiet_step (fail)
          quiet_step (fail)
          quiet_step (fail)
          quiet_step (fail)
          quiet_step (fail)
          quiet_step (fail)
          quiet_step (fail)
          quiet_step (fail)
          quiet_step (fail)
          quiet_step (fail)
          refine wpQuiet_nil ?_
          rintro _ ⟨qq, rfl⟩
          go_wp2_with fail
          go_meet
          case rel => exact ⟨by rw [HFU.out], qq.h⟩
  · rw [hoff] at c3 HQ
    clear h1 hF hcap hs hn
    go_enter Tryz.func25, Tryz.ntmps25
    go_wp2_with fail
    go_ret
    rw [HQ.out]
    exact ⟨rfl, _, ⟨R, H1.out, rfl, rfl, HC.out⟩, Moved.refl _ _⟩
end Go.Proofs.YtoeoioigelknnaaGreat

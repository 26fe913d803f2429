/-
  SEVERAL TEXTS IN ONE: DskRef8, DskRef9.
-/
import Derived.Test.YtgkdodcidancpaaGreatDoorDskRef7
import Derived.Deep.CutRange
namespace Go.Proofs.YtgkdodcidancpaaGreatDoor
open Go.RowKit Go.Maps Go.WideAt Go.WideShapes
attribute [local go_sem] Oper.pureAt Oper.pureUpon

/-- What the document's disk must be like for its operations. -/
structure RA.Fit (Q : RA) : Prop where
  few : Q.L.length ≤ 1000000
  line : Q.line.length ≤ 1000000
  used : usedT Q.L ≤ 1099511627776
  sorted : Q.L.Pairwise (fun x y => bytesBefore x.nm y.nm = true)
  room : Q.room ≤ 1073741824
  ops : Q.ops ≤ 4611686018427387904
  fail : Q.fail ≤ 9223372036854775807
  wr : WrOk Q.L
  lin : ∀ p ∈ Q.line, findT Q.L p.1 ≠ none
  pn : ∀ p ∈ Q.line, p.2 ≤ 1099511627776
  len : ∀ t ∈ Q.L, t.bs.length ≤ 1099511627776
def turnQ (Q : RA) : RA := { Q with ops := Q.ops + 1, fail := Q.fail - 1 }
theorem turn_abs (R : RM) : (turnR R).2.abs = turnQ R.abs := rfl
theorem ref_dies {w : World} {r : Nat} {R : RM} (h : RefAt w r R) (hcap : CapOk R.fs) (hoff : R.off = false) {Q : RA} (hF : Q.Fit) (eL : R.abs.L = Q.L) (eN : R.line = Q.line) :
    Calls Tryz.prog 74 #[.pointer (some ⟨r, 0, none⟩)] w (ROut r (R.foot r) w (9, crashQ R.abs R.keep)) := by
  have eL' : R.fs.map RF.sig = Q.L := eL
  have C := ref_Crash h hoff (by have := hF.few; rw [← eL', len_sig] at this; exact this) (by rw [eN]; exact hF.line) (by rw [eL']; exact hF.sorted) (by rw [eL', eN]; exact hF.lin) (by rw [eN]; exact hF.pn) (by rw [eL']; exact hF.wr)
    (fun f hf => by
      have h1 : f.sig ∈ R.fs.map RF.sig := List.mem_map.2 ⟨f, hf, rfl⟩
      rw [eL'] at h1
      exact hF.len _ h1) hcap R.keep
  have HC : Hid (Calls Tryz.prog 105 #[.pointer (some ⟨r, 0, none⟩), .int .i64 R.keep] w fun x w' => x = .returned (.tuple #[]) ∧ ∃ R', RefAt w' r R' ∧ R'.abs = crashQ R.abs R.keep ∧ CapOk R'.fs ∧ Moved w w' (R.foot r) (R'.foot r)) := C
  have c6 := h.c6
  clear C h hoff eL eL' eN hF hcap
  go_enter Tryz.func74, Tryz.ntmps74
  go_wp2_with fail
  refine HC.out.mono ?_
  rintro x w1 ⟨rfl, R', h1, h2, h3, h4⟩
  go_wp2_with fail
  go_ret
  exact ⟨rfl, _, ⟨R', h1, h2, rfl, h3⟩, h4⟩
def removeQ (Q : RA) (s : ByteArray) : Int × RA :=
  if knownQ Q s = 0 then (if Q.fail = 1 then (9, crashQ (turnQ Q) Q.keep) else (0, { turnQ Q with L := dropT Q.L (nameOf s), line := Q.line.filter (fun p => !(p.1 == nameOf s)) })) else (knownQ Q s, Q)
def syncQ (Q : RA) (s : ByteArray) : Int × RA :=
  if knownQ Q s = 0 then (if Q.fail = 1 then (9, crashQ (turnQ Q) Q.keep) else
    match findT Q.L (nameOf s) with
    | some t => (0, { turnQ Q with L := upd Q.L (nameOf s) ⟨nameOf s, t.bs, t.bs.length, t.pl⟩, line := Q.line.filter (fun p => !(p.1 == nameOf s)) })
    | none => (4, Q)) else (knownQ Q s, Q)
theorem known_off {Q : RA} {s : ByteArray} (h : knownQ Q s = 0) : Q.off = false := by
  unfold knownQ at h
  cases hq : Q.off
  · rfl
  · rw [hq] at h; simp at h
theorem known_find {Q : RA} {s : ByteArray} (h : knownQ Q s = 0) : ∃ t, findT Q.L (nameOf s) = some t := by
  have ho := known_off h
  unfold knownQ at h
  rw [ho] at h
  cases hg : goodB (nameOf s)
  · rw [hg] at h; simp at h
  · rw [hg] at h
    cases hf : findT Q.L (nameOf s) with
    | none => rw [hf] at h; simp at h
    | some t => exact ⟨t, rfl⟩
theorem cap_filter {fs : List RF} (h : CapOk fs) (p : RF → Bool) : CapOk (fs.filter p) := fun f hf => h f (List.mem_filter.1 hf).1
set_option maxRecDepth 100000 in
set_option maxHeartbeats 3200000 in
theorem ra_Sync {w : World} {r : Nat} {Q : RA} {fr : List Nat} (h : RAt r Q fr w) (hF : Q.Fit) (s : ByteArray) (hs : s.size ≤ maxLen) :
    Calls Tryz.prog 70 #[.pointer (some ⟨r, 0, none⟩), .string s] w (ROut r fr w (syncQ Q s)) := by
  obtain ⟨R, h1, rfl, rfl, hcap⟩ := h
  have hn : R.fs.length ≤ 1000000 := by have := hF.few; rwa [show R.abs.L.length = R.fs.length from len_sig _] at this
  have K : Hid (Calls Tryz.prog 81 #[.pointer (some ⟨r, 0, none⟩), .string s] w fun x w' => x = .returned (.int .i64 (knownQ R.abs s)) ∧ w' = w) := ref_known h1 hn s hs
  have T : Hid (Calls Tryz.prog 73 #[.pointer (some ⟨r, 0, none⟩)] w fun x w' => x = .returned (.bool (decide (R.fail = 1))) ∧ RefAt w' r (turnR R).2 ∧ Moved w w' (R.foot r) ((turnR R).2.foot r)) := ref_turn h1 hF.ops hF.fail
  have H1 : Hid (RefAt w r R) := h1
  have HF : Hid R.abs.Fit := hF
  have HC : Hid (CapOk R.fs) := hcap
  have HQ : Hid (syncQ R.abs s = if knownQ R.abs s = 0 then (if R.fail = 1 then ((9 : Int), crashQ (turnQ R.abs) R.keep) else
    match findT (R.fs.map RF.sig) (nameOf s) with
    | some t => ((0 : Int), { turnQ R.abs with L := upd (R.fs.map RF.sig) (nameOf s) ⟨nameOf s, t.bs, t.bs.length, t.pl⟩, line := R.line.filter (fun p => !(p.1 == nameOf s)) })
    | none => ((4 : Int), R.abs)) else (knownQ R.abs s, R.abs)) := rfl
  generalize hq : syncQ R.abs s = q at *
  clear hq h1 hF hcap hs
  by_cases hk : knownQ R.abs s = 0
  · have hoff := known_off hk
    obtain ⟨t0, ht0⟩ := known_find hk
    rw [hk] at K
    rw [if_pos hk] at HQ
    by_cases hf : R.fail = 1
    · rw [decide_eq_true hf] at T
      rw [if_pos hf] at HQ
      have D : Hid (∀ w1, RefAt w1 r (turnR R).2 → Calls Tryz.prog 74 #[.pointer (some ⟨r, 0, none⟩)] w1 (ROut r ((turnR R).2.foot r) w1 (9, crashQ (turnQ R.abs) R.keep))) := fun w1 h => ref_dies h HC.out hoff HF.out rfl rfl
      clear hf hk hn hoff ht0
      go_enter Tryz.func70, Tryz.ntmps70
      go_wp2_with fail
      refine K.out.mono ?_
      rintro x _ ⟨rfl, hw⟩
      obtain rfl := hw.symm
      go_wp2_with fail
      refine T.out.mono ?_
      rintro x w1 ⟨rfl, h2, hM⟩
      go_wp2_with fail
      refine (D.out w1 h2).mono ?_
      rintro x w2 ⟨rfl, fr', h3, hM2⟩
      go_wp2_with fail
      go_ret
      rw [HQ.out]
      exact ⟨rfl, fr', h3, hM.trans hM2⟩
    · rw [decide_eq_false hf] at T
      rw [if_neg hf] at HQ
      rcases at_cases R.fs (nameOf s) with ⟨_, e2⟩ | ⟨i, f, e1, e2, e3, e4⟩
      · have : findT (R.fs.map RF.sig) (nameOf s) = some t0 := ht0
        rw [this] at e2
        cases e2
      rw [e4] at HQ
      have A : Hid (∀ w1, RefAt w1 r (turnR R).2 → Calls Tryz.prog 72 #[.pointer (some ⟨r, 0, none⟩), .string s] w1 fun x w' => x = .returned (.int .i64 (i : Int)) ∧ w' = w1) := fun w1 h => by
        have := ref_at h hn s
        rwa [show (turnR R).2.fs = R.fs from rfl, e1] at this
      have CL : Hid (∀ w1 R1, RefAt w1 r R1 → R1.line = R.line → Calls Tryz.prog 104 #[.pointer (some ⟨r, 0, none⟩), .string s] w1 fun x w' => x = .returned (.tuple #[]) ∧ ∃ v, Ch w1 w' r R1 { R1 with vN := v, line := R.line.filter (fun p => !(p.1 == nameOf s)) }) := fun w1 R1 h e => by
        have := ref_clean h (by rw [e]; exact HF.out.line) s
        rwa [e] at this
      have hso : (R.fs.map RF.sig).Pairwise (fun x y => bytesBefore x.nm y.nm = true) := HF.out.sorted
      have HS : Hid ((R.fs.set i ⟨f.nm, f.ao, f.cap, f.bs, f.bs.length⟩).map RF.sig = upd (R.fs.map RF.sig) (nameOf s) ⟨nameOf s, f.bs, f.bs.length, []⟩) := by
        show _ = _
        rw [set_sig R.fs i f _ hso e2]
        show upd _ f.nm ⟨f.nm, f.bs, f.bs.length, []⟩ = _
        rw [e3]
      have hil : i < R.fs.length := (List.getElem?_eq_some_iff.1 e2).1
      have hmem : f ∈ R.fs := List.mem_of_getElem? e2
      have HM : Hid (R.fs[i]? = some f) := e2
      have hmc : CapOk (R.fs.set i ⟨f.nm, f.ao, f.cap, f.bs, f.bs.length⟩) := fun x hx => (List.mem_or_eq_of_mem_set hx).elim (fun h => HC.out x h) (fun e => by subst e; exact HC.out f hmem)
      have HMC : Hid _ := hmc
      clear hf hk hoff ht0 e1 e2 e3 e4 hso hmc
      go_enter Tryz.func70, Tryz.ntmps70
      go_wp2_with fail
      refine K.out.mono ?_
      rintro x _ ⟨rfl, hw⟩
      obtain rfl := hw.symm
      go_wp2_with fail
      refine T.out.mono ?_
      rintro x w1 ⟨rfl, h2, hMo⟩
      go_wp2_with fail
      refine (A.out w1 h2).mono ?_
      rintro x _ ⟨rfl, hw⟩
      obtain rfl := hw.symm
      obtain ⟨aL, cL, hvL, hcL, hfc⟩ := h2.files
      obtain ⟨g, rfl, hg, m0, m1, m2⟩ := hfc i f HM.out
      have hgl := (h2.rowL.lt g hg).2
      have hrl := h2.head.lt
      have c1 := h2.c1
      rw [hvL] at c1
      have H2 : Hid (RefAt w1 r (turnR R).2) := h2
      have HMO : Hid (Moved w w1 (R.foot r) ((turnR R).2.foot r)) := hMo
      have HCl : Hid (∃ p : Cl w1.heap.size w1, w1.drew = p.u) := ⟨⟨w1.drew, (Below.refl _ w1).drew⟩, rfl⟩
      have q1 : ∀ q : Cl w1.heap.size w1, q.u.cell? ⟨r, 1, none⟩ = some (.slice (some ⟨g, 0, none⟩) R.fs.length cL) := fun q => q.cell hrl c1
      have q2 : ∀ q : Cl w1.heap.size w1, q.u.cell? ⟨g, i * 3 + 1, none⟩ = some (.slice f.ao f.bs.length f.cap) := fun q => q.cell hgl m1
      have z1 : w1.drew.cell? ⟨g, i * 3 + 2, none⟩ = some (.int .i64 (f.wr : Int)) := m2
      have z2 : w1.drew.frozen? ⟨g, i * 3 + 2, none⟩ = false := by
        have hr := h2.rowL
        rw [hvL] at hr
        exact owns_frozen (w := w1) hr _
      have P := h2.putFile (wr := w1.drew) ⟨rfl, rfl, rfl, Nat.le_refl _, fun _ _ _ => rfl⟩ (i := i) (f := f) HM.out hvL 2 (by omega) (.int .i64 (f.bs.length : Int)) ⟨f.nm, f.ao, f.cap, f.bs, f.bs.length⟩ rfl (h2.sees f hmem) (h2.zero f hmem) (fun k hk => .inl hk)
      have HP : Hid (RefAt (w1.drew.setCell ⟨g, i * 3 + 2, none⟩ (.int .i64 (f.bs.length : Int))) r { (turnR R).2 with fs := R.fs.set i ⟨f.nm, f.ao, f.cap, f.bs, f.bs.length⟩ } ∧ Moved w1 (w1.drew.setCell ⟨g, i * 3 + 2, none⟩ (.int .i64 (f.bs.length : Int))) ((turnR R).2.foot r) (({ (turnR R).2 with fs := R.fs.set i ⟨f.nm, f.ao, f.cap, f.bs, f.bs.length⟩ } : RM).foot r)) := P
      have hilz : (i : Int) < (R.fs.length : Int) := by omega
      have hRz : (R.fs.length : Int) ≤ 1000000 := by omega
      have hbz : (f.bs.length : Int) ≤ 1099511627776 := by
        have := HF.out.len f.sig (List.mem_map.2 ⟨f, hmem, rfl⟩)
        have e : f.sig.bs.length = f.bs.length := rfl
        omega
      haveI := Cl.inh w1.heap.size w1
      clear P hvL hcL hfc hg m0 m1 m2 hgl hrl c1 h2 hMo hn
      go_wp2_with fail
      refine wp_region_C (fun u => ∃ p : Cl w1.heap.size w1, u = p.u) 16 _ (by kernel_rfl) ?reg (fun _ _ h => h)
      refine anyC_pure 0 rfl (by kernel_rfl) (by kernel_rfl) (by kernel_rfl) HCl.out (fun K hK => ?_)
      go_simp
      refine hK _ ?_
      clear hK K
      refine anyC_pure 1 rfl (by kernel_rfl) (by kernel_rfl) (by kernel_rfl) HCl.out (fun K hK => ?_)
      go_simp
      refine hK _ ?_
      clear hK K
      refine anyC_pure 2 rfl (by kernel_rfl) (by kernel_rfl) (by kernel_rfl) HCl.out (fun K hK => ?_)
      go_simp
      refine hK _ ?_
      clear hK K
      refine anyC_pure 3 rfl (by kernel_rfl) (by kernel_rfl) (by kernel_rfl) HCl.out (fun K hK => ?_)
      go_simp
      refine hK _ ?_
      clear hK K
      refine anyC_pure 4 rfl (by kernel_rfl) (by kernel_rfl) (by kernel_rfl) HCl.out (fun K hK => ?_)
      go_simp
      refine hK _ ?_
      clear hK K
      refine anyC_pure 5 rfl (by kernel_rfl) (by kernel_rfl) (by kernel_rfl) HCl.out (fun K hK => ?_)
      go_simp
      refine hK _ ?_
      clear hK K
      refine anyC_pure 6 rfl (by kernel_rfl) (by kernel_rfl) (by kernel_rfl) HCl.out (fun K hK => ?_)
      go_simp
      refine hK _ ?_
      clear hK K
      refine anyC_pure 7 rfl (by kernel_rfl) (by kernel_rfl) (by kernel_rfl) HCl.out (fun K hK => ?_)
      go_simp
      refine hK _ ?_
      clear hK K
      refine anyC_pure 8 rfl (by kernel_rfl) (by kernel_rfl) (by kernel_rfl) HCl.out (fun K hK => ?_)
      go_simp
      refine hK _ ?_
      clear hK K
      refine anyC_pure 9 rfl (by kernel_rfl) (by kernel_rfl) (by kernel_rfl) HCl.out (fun K hK => ?_)
      go_simp
      refine hK _ ?_
      clear hK K
      refine anyC_pure 10 rfl (by kernel_rfl) (by kernel_rfl) (by kernel_rfl) HCl.out (fun K hK => ?_)
      go_simp
      refine hK _ ?_
      clear hK K
      refine anyC_pure 11 rfl (by kernel_rfl) (by kernel_rfl) (by kernel_rfl) HCl.out (fun K hK => ?_)
      go_simp
      refine hK _ ?_
      clear hK K
      refine anyC_pure 12 rfl (by kernel_rfl) (by kernel_rfl) (by kernel_rfl) HCl.out (fun K hK => ?_)
      go_simp
      refine hK _ ?_
      clear hK K
      refine anyC_pure 13 rfl (by kernel_rfl) (by kernel_rfl) (by kernel_rfl) HCl.out (fun K hK => ?_)
      go_simp
      refine hK _ ?_
      clear hK K
      refine anyC_pure 14 rfl (by kernel_rfl) (by kernel_rfl) (by kernel_rfl) HCl.out (fun K hK => ?_)
      go_simp
      refine hK _ ?_
      clear hK K
      refine anyC_pure 15 rfl (by kernel_rfl) (by kernel_rfl) (by kernel_rfl) HCl.out (fun K hK => ?_)
      go_simp
      refine hK _ ?_
      clear hK K
      refine anyC_loud 16 (by kernel_rfl) ?_
      refine lou_of rfl (fun K hK => ?_)
      go_simp
      refine hK _ _ ⟨fun h => absurd rfl h, ?_⟩
      clear hK K
      refine anyC_done (by kernel_rfl) ?_
      clear z1 z2 q1 q2
      go_wp2_with fail
      refine (CL.out _ _ HP.out.1 rfl).mono ?_
      rintro x w3 ⟨rfl, v, hC⟩
      go_wp2_with fail
      go_ret
      rw [HQ.out]
      refine ⟨rfl, _, ⟨_, hC.at_, ?_, rfl, HMC.out⟩, HMO.out.trans (HP.out.2.trans hC.moved)⟩
      show RA.mk ((R.fs.set i ⟨f.nm, f.ao, f.cap, f.bs, f.bs.length⟩).map RF.sig) _ _ _ _ _ _ = _
      rw [HS.out]
      rfl
  · have hkb : (knownQ R.abs s == 0) = false := beq_eq_false_iff_ne.2 hk
    rw [if_neg hk] at HQ
    generalize knownQ R.abs s = kq at *
    clear hk hn
    go_enter Tryz.func70, Tryz.ntmps70
    go_wp2_with fail
    refine K.out.mono ?_
    rintro x _ ⟨rfl, rfl⟩
    go_wp2_with fail
    go_ret
    rw [HQ.out]
    exact ⟨rfl, _, ⟨R, H1.out, rfl, rfl, HC.out⟩, Moved.refl _ _⟩
end Go.Proofs.YtgkdodcidancpaaGreatDoor
namespace Go.Proofs.YtgkdodcidancpaaGreatDoor
open Go.RowKit Go.Maps Go.WideAt Go.WideShapes
attribute [local go_sem] Oper.pureAt Oper.pureUpon
attribute [local irreducible] wpQuiet

theorem below_of_grown {w w' : World} (h : w.grownBy w' none) : Below w.heap.size w w' := ⟨h.os, h.tape, h.output, h.size, fun k hk => h.block k hk (by simp)⟩
theorem RefAt.cl {w wx : World} {r : Nat} {R : RM} (h : RefAt w r R) (hb : Below w.heap.size w wx) : RefAt wx r R := h.carry (fun i hi => hb.block i (h.lt i hi)) hb.size
theorem moved_below {w wx : World} (hb : Below w.heap.size w wx) (ft : List Nat) : Moved w wx ft ft := ⟨hb.os, hb.tape, hb.output, hb.size, fun i hi _ => hb.block i hi, fun _ h => .inl h⟩
theorem moved_feet {w w' : World} {r : Nat} {ft ft' : List Nat} (h : Moved w w' [r] []) (hr : r ∈ ft) (hf : ∀ i ∈ ft', i ∈ ft ∨ w.heap.size ≤ i) : Moved w w' ft ft' :=
  ⟨h.os, h.tape, h.output, h.size, fun i hi hn => h.kept i hi (fun e => hn (by simp at e; rw [e]; exact hr)), hf⟩
theorem mem_insR {f x : RF} : ∀ {l : List RF}, x ∈ insR f l → x = f ∨ x ∈ l
  | [], h => by simp [insR] at h; exact .inl h
  | y :: r, h => by
    rw [insR] at h
    split at h
    · rcases List.mem_cons.1 h with h | h
      · exact .inl h
      · exact .inr h
    · rcases List.mem_cons.1 h with h | h
      · exact .inr (by rw [h]; exact List.mem_cons_self)
      · exact (mem_insR h).imp id (fun h => List.mem_cons_of_mem _ h)
theorem drop_sorted {L : List Sig} (h : L.Pairwise (fun x y => bytesBefore x.nm y.nm = true)) (nm : List UInt8) : (dropT L nm).Pairwise (fun x y => bytesBefore x.nm y.nm = true) := h.sublist List.filter_sublist
/-- Is there no room for a new file? -/
def fullQ (Q : RA) (nm : List UInt8) : Bool := decide (findT Q.L nm = none ∧ (48 ≤ Q.L.length ∨ Q.room ≤ usedT Q.L))
def createQ (Q : RA) (s : ByteArray) : Int × RA :=
  if Q.off then (9, Q) else if goodB (nameOf s) then (if fullQ Q (nameOf s) then (7, Q) else if Q.fail = 1 then (9, crashQ (turnQ Q) Q.keep) else
    (0, { turnQ Q with L := insT ⟨nameOf s, [], 0, []⟩ (dropT Q.L (nameOf s)), line := Q.line.filter (fun p => !(p.1 == nameOf s)) })) else (3, Q)
set_option maxRecDepth 100000 in
set_option maxHeartbeats 1200000 in
theorem ra_Create {w : World} {r : Nat} {Q : RA} {fr : List Nat} (h : RAt r Q fr w) (hF : Q.Fit) (s : ByteArray) (hs : s.size ≤ maxLen) :
    Calls Tryz.prog 68 #[.pointer (some ⟨r, 0, none⟩), .string s] w (ROut r fr w (createQ Q s)) := by
  obtain ⟨R, h1, rfl, rfl, hcap⟩ := h
  have hn : R.fs.length ≤ 1000000 := by have := hF.few; rwa [show R.abs.L.length = R.fs.length from len_sig _] at this
  have G : Hid (∀ w, Calls Tryz.prog 71 #[.string s] w fun e w' => e = .returned (.bool (goodB (nameOf s))) ∧ w' = w) := fun w => refGood_any s w hs
  have T : Hid (∀ wx, Below w.heap.size w wx → Calls Tryz.prog 73 #[.pointer (some ⟨r, 0, none⟩)] wx fun x w' => x = .returned (.bool (decide (R.fail = 1))) ∧ RefAt w' r (turnR R).2 ∧ Moved wx w' (R.foot r) ((turnR R).2.foot r)) := fun wx hb => ref_turn (h1.cl hb) hF.ops hF.fail
  have H1 : Hid (RefAt w r R) := h1
  have HF : Hid R.abs.Fit := hF
  have HC : Hid (CapOk R.fs) := hcap
  have HQ : Hid (createQ R.abs s = if R.off then ((9 : Int), R.abs) else if goodB (nameOf s) then (if fullQ R.abs (nameOf s) then ((7 : Int), R.abs) else if R.fail = 1 then (9, crashQ (turnQ R.abs) R.keep) else
    (0, { turnQ R.abs with L := insT ⟨nameOf s, [], 0, []⟩ (dropT (R.fs.map RF.sig) (nameOf s)), line := R.line.filter (fun p => !(p.1 == nameOf s)) })) else (3, R.abs)) := rfl
  generalize hq : createQ R.abs s = q at *
  clear hq
  have c3 := h1.c3
  cases hoff : R.off
  · rw [hoff] at c3 HQ
    cases hgd : goodB (nameOf s)
    · rw [hgd] at G HQ
      clear h1 hF hcap hs hn
      go_enter Tryz.func68, Tryz.ntmps68
      go_wp2_with fail
      refine (G.out _).mono ?_
      rintro x _ ⟨rfl, hw⟩
      obtain rfl := hw.symm
      go_wp2_with fail
      go_ret
      rw [HQ.out]
      exact ⟨rfl, _, ⟨R, H1.out, rfl, rfl, HC.out⟩, Moved.refl _ _⟩
    · rw [hgd] at G HQ
      have hUs : usedF R.fs = usedT (R.fs.map RF.sig) := usedF_sig _
      have A : Hid (∀ p : Cl w.heap.size w, Calls Tryz.prog 72 #[.pointer (some ⟨r, 0, none⟩), .string s] p.u fun x w' => x = .returned (.int .i64 (atI R.fs (nameOf s))) ∧ Below p.u.heap.size p.u w') := fun p => (ref_at (h1.cl p.h) hn s).mono fun _ _ hh => ⟨hh.1, by rw [hh.2]; exact Below.refl _ _⟩
      have U : Hid (∀ p : Cl w.heap.size w, Calls Tryz.prog 101 #[.pointer (some ⟨r, 0, none⟩)] p.u fun x w' => x = .returned (.int .i64 (usedT (R.fs.map RF.sig) : Int)) ∧ Below p.u.heap.size p.u w') := fun p => by
        have := ref_used (h1.cl p.h) hn (by rw [hUs]; exact hF.used)
        rw [hUs] at this
        exact this.mono fun _ _ hh => ⟨hh.1, below_of_grown hh.2⟩
      obtain ⟨aL, cL, hvL, hcL, -⟩ := h1.files
      have hrl := h1.head.lt
      have q1 : ∀ q : Cl w.heap.size w, q.u.cell? ⟨r, 1, none⟩ = some (.slice aL R.fs.length cL) := fun q => q.cell hrl (by rw [← hvL]; exact h1.c1)
      have q0 : ∀ q : Cl w.heap.size w, q.u.cell? ⟨r, 0, none⟩ = some (.int .i64 (R.room : Int)) := fun q => q.cell hrl h1.c0
      have hac := at_cases R.fs (nameOf s)
      have hrz : (R.room : Int) ≤ 1073741824 := by have := hF.room; have e : R.abs.room = R.room := rfl; omega
      have huz : (usedT (R.fs.map RF.sig) : Int) ≤ 1099511627776 := by have := hF.used; have e : R.abs.L = R.fs.map RF.sig := rfl; rw [e] at this; omega
      have hnz : (R.fs.length : Int) ≤ 1000000 := by omega
      have HFU : Hid (fullQ R.abs (nameOf s) = decide (findT (R.fs.map RF.sig) (nameOf s) = none ∧ (48 ≤ R.fs.length ∨ R.room ≤ usedT (R.fs.map RF.sig)))) := by
        show _ = _
        unfold fullQ
        rw [show R.abs.L.length = R.fs.length from len_sig _]
        rfl
      have HN : Hid (R.fs.length ≤ 1000000) := hn
      haveI := Cl.inh w.heap.size w
      generalize usedT (R.fs.map RF.sig) = ud at *
      clear h1 hF hcap hs hn hUs hvL hcL hrl
      go_enter Tryz.func68, Tryz.ntmps68
      go_wp2_with fail
      refine (G.out _).mono ?_
      rintro x _ ⟨rfl, hw⟩
      obtain rfl := hw.symm
      go_wp2_with fail
      go_cut [14] from 15 to 36 (fun s14 wx => s14 = .bool (fullQ R.abs (nameOf s)) ∧ Below w.heap.size w wx)
      case rest =>
        obtain ⟨rfl, hbx⟩ := hcut
        cases hfu : fullQ R.abs (nameOf s)
        · rw [hfu] at HQ
          by_cases hf : R.fail = 1
          · have T2 := T.out _ hbx
            rw [decide_eq_true hf] at T2
            rw [if_pos hf] at HQ
            have D : Hid (∀ w1, RefAt w1 r (turnR R).2 → Calls Tryz.prog 74 #[.pointer (some ⟨r, 0, none⟩)] w1 (ROut r ((turnR R).2.foot r) w1 (9, crashQ (turnQ R.abs) R.keep))) := fun w1 h => ref_dies h HC.out hoff HF.out rfl rfl
            clear hf hac q1 q0 A U T HFU
            go_wp2_with fail
            refine T2.mono ?_
            rintro x w1 ⟨rfl, h2, hM⟩
            go_wp2_with fail
            refine (D.out w1 h2).mono ?_
            rintro x w2 ⟨rfl, fr', h3, hM2⟩
            go_wp2_with fail
            go_ret
            rw [HQ.out]
            exact ⟨rfl, fr', h3, (moved_below hbx _).trans (hM.trans hM2)⟩
          · have T2 := T.out _ hbx
            rw [decide_eq_false hf] at T2
            rw [if_neg hf] at HQ
            have D : Hid (∀ w1, RefAt w1 r (turnR R).2 → Calls Tryz.prog 75 #[.pointer (some ⟨r, 0, none⟩), .string s] w1 fun x w' => x = .returned (.tuple #[]) ∧ ∃ v v2, Ch w1 w' r (turnR R).2 { (turnR R).2 with vL := v, fs := R.fs.filter (fun p => !(p.nm == nameOf s)), vN := v2, line := R.line.filter (fun p => !(p.1 == nameOf s)) }) := fun w1 h => ref_drop h HN.out HF.out.line s
            have I : Hid (∀ w1 (R1 : RM), RefAt w1 r R1 → R1.fs = R.fs.filter (fun p => !(p.nm == nameOf s)) → Calls Tryz.prog 76 #[.pointer (some ⟨r, 0, none⟩), .agg #[.string s, .slice none 0 0, .int .i64 0]] w1 fun x w' => x = .returned (.tuple #[]) ∧ ∃ v, RefAt w' r { R1 with vL := v, fs := insR ⟨nameOf s, none, 0, [], 0⟩ R1.fs } ∧ Moved w1 w' (R1.foot r) (({ R1 with vL := v, fs := insR ⟨nameOf s, none, 0, [], 0⟩ R1.fs } : RM).foot r)) := fun w1 R1 h e => by
              have hso : R1.fs.Pairwise (fun x y => bytesBefore x.nm y.nm = true) := sorted_sig (by rw [e, drop_sigR]; exact drop_sorted HF.out.sorted _)
              have := ref_insert h (by rw [e]; exact Nat.le_trans (List.length_filter_le _ _) HN.out) ⟨nameOf s, none, 0, [], 0⟩ hso ⟨Sees.nil _ _, fun _ => rfl, fun g hg => by simp [RF.blk] at hg⟩
              rw [show strBD (⟨nameOf s, none, 0, [], 0⟩ : RF).nm = s from strB_nameOf s] at this
              refine this.mono fun x w' ⟨hx, v, a1, a2, a3⟩ => ⟨hx, v, a1, moved_feet a2 (foot_iff.2 (.inl rfl)) fun i hi => ?_⟩
              rcases a3 i hi with h5 | h5 | h5
              · exact .inl h5
              · simp [RF.blk] at h5
              · exact .inr h5
            clear hf hac q1 q0 A U T HFU
            go_wp2_with fail
            refine T2.mono ?_
            rintro x w1 ⟨rfl, h2, hM⟩
            go_wp2_with fail
            refine (D.out w1 h2).mono ?_
            rintro x w2 ⟨rfl, v, v2, hC⟩
            go_wp2_with fail
            refine (I.out _ _ hC.at_ rfl).mono ?_
            rintro x w3 ⟨rfl, v3, h5, hM3⟩
            go_wp2_with fail
            go_ret
            rw [HQ.out]
            refine ⟨rfl, _, ⟨_, h5, ?_, rfl, fun x hx => ?_⟩, (moved_below hbx _).trans (hM.trans (hC.moved.trans hM3))⟩
            · show RA.mk ((insR ⟨nameOf s, none, 0, [], 0⟩ (R.fs.filter (fun p => !(p.nm == nameOf s)))).map RF.sig) _ _ _ _ _ _ = _
              rw [ins_sigR, drop_sigR]
              rfl
            · rcases mem_insR hx with rfl | hx
              · exact Nat.le_refl _
              · exact cap_filter HC.out _ _ hx
        · rw [hfu] at HQ
          clear hac q1 q0 A U T HFU
          go_wp2_with fail
          go_ret
          rw [HQ.out]
          exact ⟨rfl, _, ⟨R, H1.out.cl hbx, rfl, rfl, HC.out⟩, moved_below hbx _⟩
      case first =>
        clear HQ T H1 HF HC G HN
        rcases hac with ⟨e1, e2⟩ | ⟨i, f, e1, -, -, e2⟩
        · rw [e1] at A
          rw [e2] at HFU
          by_cases h48 : 48 ≤ R.fs.length
          · have h48z : (48 : Int) ≤ (R.fs.length : Int) := by omega
            rw [decide_eq_true (show none = none ∧ (48 ≤ R.fs.length ∨ R.room ≤ ud) from ⟨rfl, .inl h48⟩)] at HFU
            clear e1 e2 h48
            refine wp_region_cl w.heap.size (by kernel_rfl) (by kernel_rfl) ?_
            quiet_step (fail)
            quiet_step (fail)
            quiet_step ((go_at_call 72; exact Cl.calls (Nat.le_refl _) (A.out _)))
            quiet_step (fail)
            quiet_step (fail)
            quiet_step (fail)
            quiet_step (fail)
            quiet_step (fail)
            quiet_step (fail)
            quiet_step (fail)
            quiet_step (fail)
            quiet_step (fail)
            quiet_step (fail)
            quiet_step (fail)
            quiet_step (fail)
            quiet_step (fail)
            quiet_step (fail)
            quiet_step (fail)
            quiet_step (fail)
            quiet_step (fail)
            quiet_step (fail)
            quiet_step (fail)
            refine wpQuiet_nil ?_
            rintro _ ⟨qq, rfl⟩
            go_wp2_with fail
            go_meet
            case rel => exact ⟨by rw [HFU.out], qq.h⟩
          · have h48z : ¬ (48 : Int) ≤ (R.fs.length : Int) := by omega
            have hde : fullQ R.abs (nameOf s) = decide ((R.room : Int) ≤ (ud : Int)) := by
              rw [HFU.out]
              exact decide_eq_decide.2 ⟨fun h => by have := h.2; omega, fun h => ⟨rfl, .inr (by omega)⟩⟩
            have HDE : Hid (fullQ R.abs (nameOf s) = decide ((R.room : Int) ≤ (ud : Int))) := hde
            clear e1 e2 h48 HFU hde
            refine wp_region_cl w.heap.size (by kernel_rfl) (by kernel_rfl) ?_
            quiet_step (fail)
            quiet_step (fail)
            quiet_step ((go_at_call 72; exact Cl.calls (Nat.le_refl _) (A.out _)))
            quiet_step (fail)
            quiet_step (fail)
            quiet_step (fail)
            quiet_step (fail)
            quiet_step (fail)
            quiet_step (fail)
            quiet_step (fail)
            quiet_step (fail)
            quiet_step (fail)
            quiet_step (fail)
            quiet_step ((go_at_call 101; exact Cl.calls (Nat.le_refl _) (U.out _)))
            quiet_step (fail)
            quiet_step (fail)
            quiet_step (fail)
            quiet_step (fail)
            quiet_step (fail)
            quiet_step (fail)
            quiet_step (fail)
            quiet_step (fail)
            refine wpQuiet_nil ?_
            rintro _ ⟨qq, rfl⟩
            go_wp2_with fail
            go_meet
            case rel => exact ⟨by rw [HDE.out]; exact congrArg Value.bool (decide_eq_decide.2 (by omega)), qq.h⟩
        · rw [e1] at A
          rw [e2] at HFU
          rw [decide_eq_false (show ¬ (some f.sig = none ∧ (48 ≤ R.fs.length ∨ R.room ≤ ud)) from fun h => by cases h.1)] at HFU
          clear e1 e2
          have hi0 : ¬ (i : Int) < 0 := by omega
          refine wp_region_cl w.heap.size (by kernel_rfl) (by kernel_rfl) ?_
          quiet_step (fail)
          quiet_step (fail)
          quiet_step ((go_at_call 72; exact Cl.calls (Nat.le_refl _) (A.out _)))
          quiet_step (fail)
          quiet_step (fail)
          quiet_step (fail)
          quiet_step (fail)
          quiet_step (fail)
          quiet_step (fail)
          quiet_step (fail)
          quiet_step (fail)
          quiet_step (fail)
          quiet_step (fail)
          quiet_step (fail)
          quiet_step (fail)
          quiet_step (fail)
          quiet_step (fail)
          quiet_step (fail)
          quiet_step (fail)
          quiet_step (fail)
          quiet_step (fail)
          quiet_step (fail)
          refine wpQuiet_nil ?_
          rintro _ ⟨qq, rfl⟩
          go_wp2_with fail
          go_meet
          case rel => exact ⟨by rw [HFU.out], qq.h⟩
  · rw [hoff] at c3 HQ
    clear h1 hF hcap hs hn
    go_enter Tryz.func68, Tryz.ntmps68
    go_wp2_with fail
    go_ret
    rw [HQ.out]
    exact ⟨rfl, _, ⟨R, H1.out, rfl, rfl, HC.out⟩, Moved.refl _ _⟩
end Go.Proofs.YtgkdodcidancpaaGreatDoor

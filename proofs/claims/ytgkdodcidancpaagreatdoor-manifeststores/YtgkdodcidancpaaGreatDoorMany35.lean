/-
  SEVERAL TEXTS IN ONE: ManPairS, ManLst, ManLaidL.
-/
import Derived.Test.YtgkdodcidancpaaGreatDoorMany34
import Derived.Test.YtgkdodcidancpaaGreatDoorMany15
import Derived.Test.YtgkdodcidancpaaGreatDoorMany30
import Derived.Deep.Strs
namespace Go.Proofs.YtgkdodcidancpaaGreatDoor
open Go.RowKit

theorem RAt.offC {r : Nat} {Q : RA} {fr : List Nat} {w : World} (h : RAt r Q fr w) : w.cell? ⟨r, 3, none⟩ = some (.bool Q.off) := by
  obtain ⟨R, h1, rfl, rfl, _⟩ := h
  exact h1.c3
set_option maxRecDepth 100000 in
set_option maxHeartbeats 2000000 in
theorem ref_store {A : Ab} {Q : RA} {n r : Nat} {fr : List Nat} {w : World} (h : Pr A Q n) (hR : RAt r Q fr w) (ao : Option Addr) (cap : Nat) (m : Mf) (hm : MSees w ao cap m) (hl : m.ts.length ≤ 1000000) (hn : n + 12 ≤ 251) :
    Calls Tryz.prog 10 #[.pointer (some ⟨r, 0, none⟩), mval ao cap m] w (ROut r fr w (storeQ Q m)) := by
  have c3 := hR.offC
  have hltr := hR.lt
  obtain ⟨w0, hw0⟩ : ∃ w0, w0 = w.alloc (.cells #[.slice ao m.ts.length cap, .int .i64 m.nx, .int .i64 m.fr] 39) := ⟨_, rfl⟩
  have HB : Below w.heap.size w w0 := by rw [hw0]; exact (Below.refl _ _).alloc (Nat.le_refl _) _
  have hk : Blk w0 w.heap.size [.slice ao m.ts.length cap, .int .i64 m.nx, .int .i64 m.fr] 39 := by rw [hw0]; exact Blk.new w _ _
  have d3 := (hR.below HB).offC
  have e0 := hk.cell 0 rfl
  have e1 := hk.cell 1 rfl
  have e2 := hk.cell 2 rfl
  have HS : Hid (∀ u, Below w.heap.size w u → RAt r Q fr u ∧ Moved w u fr fr) := fun u hu => ⟨hR.below hu, moved_belowM hu⟩
  cases hoff : Q.off
  · rw [hoff] at c3 d3
    cases hg : goodM m
    · have e : storeQ Q m = (2, Q) := by unfold storeQ; rw [hoff, hg]; rfl
      rw [e]
      have CB : Hid (Calls Tryz.prog 34 #[.agg #[.slice ao m.ts.length cap, .int .i64 m.nx, .int .i64 m.fr]] w0 fun e w' => e = .returned (.tuple #[.slice none 0 0, .int .i64 2]) ∧ Below w0.heap.size w0 w') := refBytesM_bad ao cap m w0 (hm.below HB (Nat.le_refl _)) hl hg
      have HB0 : Hid (Below w.heap.size w w0) := HB
      clear h hR hm hl hn hoff hg hltr HB hk e
      unfold mval
      rw [hw0] at d3 e0 e1 e2
      go_enter Tryz.func10, Tryz.ntmps10
      go_wp2_with fail
      rw [← hw0]
      refine CB.out.mono ?_
      rintro e w1 ⟨rfl, hb1⟩
      have H1 := HS.out w1 (HB0.out.trans (hb1.mono HB0.out.size))
      clear hw0 e0 e1 e2 d3 c3 CB
      go_wp2_with fail
      go_ret
      exact ⟨rfl, fr, H1⟩
    · have F1 : Hid ((fillQ Q (encM m)).1 ≠ 0 → storeQ Q m = fillQ Q (encM m)) := fun h1 => by unfold storeQ; rw [hoff, hg]; exact (chain_no (f := fun Q3 => renameQ Q3 nmN nmM) h1)
      have F2 : Hid ((fillQ Q (encM m)).1 = 0 → storeQ Q m = renameQ (fillQ Q (encM m)).2 nmN nmM) := fun h1 => by unfold storeQ; rw [hoff, hg]; exact (chain_ok (f := fun Q3 => renameQ Q3 nmN nmM) h1)
      have hE : (encM m).length ≤ 360 := by have := enc_le hg; omega
      have P1 := h.fill hE (by omega)
      have CB : Hid (Calls Tryz.prog 34 #[.agg #[.slice ao m.ts.length cap, .int .i64 m.nx, .int .i64 m.fr]] w0 fun e w' => ∃ a5 c5, e = .returned (.tuple #[.slice a5 (encM m).length c5, .int .i64 0]) ∧ Sees w' a5 (encM m) ∧ (a5 = none → (encM m).length = 0) ∧ (∀ q, a5 = some q → w0.heap.size ≤ q.block) ∧ Below w0.heap.size w0 w') := refBytesM_new ao cap m w0 (hm.below HB (Nat.le_refl _)) hg
      have CP : Hid (∀ u a c, Below w.heap.size w u → Sees u a (encM m) → (a = none → (encM m).length = 0) → (∀ q, a = some q → w0.heap.size ≤ q.block) → Calls Tryz.prog 35 #[.pointer (some ⟨r, 0, none⟩), .string ⟨#[109, 97, 110, 105, 102, 101, 115, 116, 46, 110, 101, 119]⟩, .slice a (encM m).length c] u (ROut r fr u (fillQ Q (encM m)))) := fun u a c hu hs hz hq => ref_put h (hR.below hu) a c hs hz (fun p hp _ hh => by have := hq p hp; have := hltr _ hh; have := HB.size; omega) hE (by omega)
      have CR : Hid (∀ u f, RAt r (fillQ Q (encM m)).2 f u → Calls Tryz.prog 36 #[.pointer (some ⟨r, 0, none⟩), .string ⟨#[109, 97, 110, 105, 102, 101, 115, 116, 46, 110, 101, 119]⟩, .string ⟨#[109, 97, 110, 105, 102, 101, 115, 116]⟩] u (ROut r f u (renameQ (fillQ Q (encM m)).2 nmN nmM))) := fun u f hu => ra_Rename hu P1.2.fit nmN nmM nmN_size nmM_size
      have HB0 : Hid (Below w.heap.size w w0) := HB
      clear h hR hm hl hn hoff hg hltr HB hk P1 hE
      generalize storeQ Q m = S at *
      generalize fillQ Q (encM m) = q1 at *
      generalize renameQ q1.2 nmN nmM = q2 at *
      generalize encM m = E at *
      unfold mval
      rw [hw0] at d3 e0 e1 e2
      go_enter Tryz.func10, Tryz.ntmps10
      go_wp2_with fail
      rw [← hw0]
      refine CB.out.mono ?_
      rintro e w1 ⟨a5, c5, rfl, s5, z5, q5, hb1⟩
      have hB1 := HB0.out.trans (hb1.mono HB0.out.size)
      have C2 := CP.out w1 a5 c5 hB1 s5 z5 q5
      have M1 : Hid (Moved w w1 fr fr) := (HS.out w1 hB1).2
      clear hw0 e0 e1 e2 d3 c3 CB CP s5 z5 q5 hb1 hB1 HS HB0
      generalize E.length = len at *
      go_wp2_with fail
      go_fit C2
      rintro e w2 ⟨rfl, f2, h2, m2⟩
      have C3 := CR.out w2 f2 h2
      have M2 : Hid (Moved w w2 fr f2) := M1.out.trans m2
      clear CR C2 M1
      by_cases hc : q1.1 = 0
      · have e2 : S = q2 := F2.out hc
        subst e2
        clear h2 m2 F1 F2
        rw [hc]
        clear hc
        go_wp2_with fail
        go_fit C3
        rintro e w3 ⟨rfl, f3, h3, m3⟩
        have HE : Hid (∃ fr', RAt r S.2 fr' w3 ∧ Moved w w3 fr fr') := ⟨f3, h3, M2.out.trans m3⟩
        clear h3 m3 C3 M2
        go_wp2_with fail
        go_ret
        exact ⟨rfl, HE.out⟩
      · have e1 : S = q1 := F1.out hc
        subst e1
        have HE : Hid (∃ fr', RAt r S.2 fr' w2 ∧ Moved w w2 fr fr') := ⟨f2, h2, M2.out⟩
        have hz1 : (S.1 == 0) = false := by rw [beq_eq_false_iff_ne]; exact hc
        clear h2 m2 C3 M2 F1 F2
        go_wp2_with fail
        go_ret
        exact ⟨rfl, HE.out⟩
  · have e : storeQ Q m = (9, Q) := by unfold storeQ; rw [hoff]; rfl
    rw [e]
    rw [hoff] at c3 d3
    have H1 := HS.out w0 HB
    clear h hR hm hl hn hoff hltr HB hk e HS
    rw [hw0] at d3 e0 e1 e2 H1
    unfold mval
    go_enter Tryz.func10, Tryz.ntmps10
    go_wp2_with fail
    go_ret
    exact ⟨rfl, fr, H1⟩
theorem ts_pos {m : Mf} (hg : goodM m = true) {i : Nat} {x : Int} (h : m.ts[i]? = some x) : 1 ≤ x := by
  obtain ⟨hi, rfl⟩ := List.getElem?_eq_some_iff.1 h
  have := (goodM_iff.1 hg).2.2.2 i hi
  unfold okT at this
  rw [Bool.and_eq_true, Bool.and_eq_true, decide_eq_true_eq, decide_eq_true_eq, List.getD_eq_getElem?_getD, List.getElem?_eq_getElem hi] at this
  simp only [Option.getD_some] at this
  omega
theorem ra_read_cap {A : Ab} {r : Nat} {Q : RA} {fr : List Nat} {w : World} (hT : Tie A Q) (h : RAt r Q fr w) (s : ByteArray) (hs : s.size ≤ maxLen) (hF : Q.Fit) : Calls Tryz.prog 40 #[.pointer (some ⟨r, 0, Option.none⟩), .string s] w (fun x w' => ∃ a1 c1, x = .returned (.tuple #[.slice a1 (readM A s).2.length c1, .int .i64 (readM A s).1]) ∧ Sees w' a1 (readM A s).2 ∧ (readM A s).2.length ≤ c1 ∧ w.grownBy w' Option.none) := by
  have hk : knownQ Q s = (readM A s).1 ∧ (knownQ Q s ≠ 0 → (readM A s).2 = []) ∧ ∀ t, knownQ Q s = 0 → findT Q.L (nameOf s) = some t → (readM A s).2 = t.bs := by
    unfold readM
    rw [refuse_one]
    by_cases hon : A.on = true
    · cases hg : goodB (nameOf s)
      · have := known_bad hT hon hg
        rw [this, hon]
        simp
      · have hq := known_eq hT hon hg
        rw [hq, hon, hT.find]
        cases findT A.sp (nameOf s) with
        | none => simp
        | some t =>
          simp only [if_true, Option.map_some, Option.some.injEq, ne_eq, not_true_eq_false, false_imp_iff, true_and]
          rintro t' _ rfl
          rfl
    · have hof : A.on = false := by simpa using hon
      rw [known_offA hT hof s, hof]
      simp
  refine (ra_Read h hF s hs).mono ?_
  rintro x w' (⟨h1, rfl, rfl⟩ | ⟨t, ⟨h1, h2⟩, v, rfl, ho, hg⟩)
  · refine ⟨Option.none, 0, ?_, fun i hi => ?_, by rw [hk.2.1 h1]; exact Nat.le_refl _, World.grownBy.refl _ _⟩
    · rw [hk.2.1 h1, hk.1]
      rfl
    · rw [hk.2.1 h1] at hi
      exact absurd hi (Nat.not_lt_zero _)
  · obtain ⟨ao, c, rfl, hsee, _, hcp, _⟩ := owns_seesR ho
    have e := hk.2.2 t h1 h2
    refine ⟨ao, c, ?_, by rw [e]; exact hsee, by rw [e]; exact hcp, hg⟩
    rw [e, ← hk.1, h1]
theorem cell_apart {w : World} {B j : Nat} {ty : TypeId} {x : Int} (h : Blk w B [.slice none 0 0, .int .i64 0, .int .i64 0] ty) (hz : x ≠ 0) (hc : w.cell? ⟨B, j, none⟩ = some (.int .i64 x)) : False := by
  match j, hc with
  | 0, hc => rw [h.cell 0 rfl] at hc; cases hc
  | 1, hc => rw [h.cell 1 rfl] at hc; cases hc; exact hz rfl
  | 2, hc => rw [h.cell 2 rfl] at hc; cases hc; exact hz rfl
  | j + 3, hc =>
    unfold Blk at h
    simp [World.cell?, h] at hc
theorem rdF_some {b : List UInt8} {i : Nat} {x : Int} (h : (rdF b).ts[i]? = some x) : x ≠ 0 := by
  cases hr : rdM b with
  | none => rw [(rd_none hr).1] at h; cases h
  | some m =>
    rw [(rd_some hr).1] at h
    have hg := (rdM_iff.1 hr).1
    have := ts_pos hg h
    omega
set_option maxRecDepth 100000 in
set_option maxHeartbeats 2000000 in
theorem ref_load {A : Ab} {Q : RA} {n r : Nat} {fr : List Nat} {w : World} (h : Pr A Q n) (hR : RAt r Q fr w) :
    Calls Tryz.prog 13 #[.pointer (some ⟨r, 0, none⟩)] w fun e w' => ∃ a5 c5, e = .returned (.tuple #[mval a5 c5 (ldF A), .int .i64 (ldE A)]) ∧ MSees w' a5 c5 (ldF A) ∧ Below w.heap.size w w' := by
  have k0 := Blk.new w [.slice none 0 0, .int .i64 0, .int .i64 0] 39
  have hB0 : Below w.heap.size w (w.alloc (.cells #[.slice none 0 0, .int .i64 0, .int .i64 0] 39)) := (Below.refl _ _).alloc (Nat.le_refl _) _
  have C1 : Hid (Calls Tryz.prog 40 #[.pointer (some ⟨r, 0, none⟩), .string ⟨#[109, 97, 110, 105, 102, 101, 115, 116]⟩] (w.alloc (.cells #[.slice none 0 0, .int .i64 0, .int .i64 0] 39)) fun x w' => ∃ a1 c1, x = .returned (.tuple #[.slice a1 (readM A nmM).2.length c1, .int .i64 (readM A nmM).1]) ∧ Sees w' a1 (readM A nmM).2 ∧ (readM A nmM).2.length ≤ c1 ∧ Below w.heap.size w w' ∧ Blk w' w.heap.size [.slice none 0 0, .int .i64 0, .int .i64 0] 39) :=
    (ra_read_cap h.tie (hR.below hB0) nmM nmM_size h.fit).mono fun x w' ⟨a1, c1, h1, h2, h3, h4⟩ => ⟨a1, c1, h1, h2, h3, hB0.grown h4 hB0.size (fun j hj => by cases hj), k0.carry (h4.block _ k0.lt (by simp))⟩
  clear k0 hB0
  unfold ldF ldE
  cases hon : A.on
  · have e : readM A nmM = (9, []) := by unfold readM; rw [hon]; rfl
    rw [e] at C1
    clear h hR hon e
    go_enter Tryz.func13, Tryz.ntmps13
    go_wp2_with fail
    refine C1.out.mono ?_
    rintro e w5 ⟨a1, c1, rfl, -, -, hB5, hk5⟩
    clear C1
    have f0 := hk5.frozen 0
    have f1 := hk5.frozen 1
    have f2 := hk5.frozen 2
    have n0 := hk5.cell 0 rfl
    have n1 := hk5.cell 1 rfl
    have n2 := hk5.cell 2 rfl
    have HK : Hid (Blk (((w5.setCell ⟨w.heap.size, 0, none⟩ (.slice none 0 0)).setCell ⟨w.heap.size, 1, none⟩ (.int .i64 0)).setCell ⟨w.heap.size, 2, none⟩ (.int .i64 0)) w.heap.size [.slice none 0 0, .int .i64 0, .int .i64 0] 39) := ((hk5.setTo 0 _ _ rfl).setTo 1 _ _ rfl).setTo 2 _ _ rfl
    have HG : Hid (Below w.heap.size w (((w5.setCell ⟨w.heap.size, 0, none⟩ (.slice none 0 0)).setCell ⟨w.heap.size, 1, none⟩ (.int .i64 0)).setCell ⟨w.heap.size, 2, none⟩ (.int .i64 0))) := ((hB5.setCell (Nat.le_refl _) _).setCell (Nat.le_refl _) _).setCell (Nat.le_refl _) _
    clear hk5 hB5
    go_wp2_with fail
    refine bodyPost_ret (v := .tuple #[.agg #[.slice none 0 0, .int .i64 0, .int .i64 0], .int .i64 9]) (results_row_tmpM Tryz.results13 _ _ w.heap.size 39 _ _ _ _ rfl rfl HK.out Tryz.underlying39 rfl (by kernel_rfl)) rfl ?_
    exact ⟨none, 0, rfl, MSees.none _ _ _, HG.out⟩
  · cases hf : findT A.sp lM with
    | none =>
      have e : readM A nmM = (4, []) := by unfold readM; rw [hon, if_pos nmM_good, nameM, hf]
      rw [e] at C1
      have CB : Hid (∀ u, Calls Tryz.prog 41 #[] u fun e w' => e = .returned (.agg #[.slice none 0 0, .int .i64 1, .int .i64 1]) ∧ Below u.heap.size u w') := fun u => refBeginM_any u
      clear h hR hon e hf
      go_enter Tryz.func13, Tryz.ntmps13
      go_wp2_with fail
      refine C1.out.mono ?_
      rintro e w1 ⟨a1, c1, rfl, -, -, hB1, hk1⟩
      have C2 := CB.out w1
      clear C1 CB
      go_wp2_with fail
      go_fit C2
      rintro e w5 ⟨rfl, hb⟩
      have hB5 : Below w.heap.size w w5 := hB1.trans (hb.mono hB1.size)
      have hk5 := hk1.carry (hb.block _ hk1.lt)
      clear hb C2 hB1 hk1
      have f0 := hk5.frozen 0
      have f1 := hk5.frozen 1
      have f2 := hk5.frozen 2
      have n0 := hk5.cell 0 rfl
      have n1 := hk5.cell 1 rfl
      have n2 := hk5.cell 2 rfl
      have HK : Hid (Blk (((w5.setCell ⟨w.heap.size, 0, none⟩ (.slice none 0 0)).setCell ⟨w.heap.size, 1, none⟩ (.int .i64 1)).setCell ⟨w.heap.size, 2, none⟩ (.int .i64 1)) w.heap.size [.slice none 0 0, .int .i64 1, .int .i64 1] 39) := ((hk5.setTo 0 _ _ rfl).setTo 1 _ _ rfl).setTo 2 _ _ rfl
      have HG : Hid (Below w.heap.size w (((w5.setCell ⟨w.heap.size, 0, none⟩ (.slice none 0 0)).setCell ⟨w.heap.size, 1, none⟩ (.int .i64 1)).setCell ⟨w.heap.size, 2, none⟩ (.int .i64 1))) := ((hB5.setCell (Nat.le_refl _) _).setCell (Nat.le_refl _) _).setCell (Nat.le_refl _) _
      clear hk5 hB5
      go_wp2_with fail
      refine bodyPost_ret (v := .tuple #[.agg #[.slice none 0 0, .int .i64 1, .int .i64 1], .int .i64 0]) (results_row_tmpM Tryz.results13 _ _ w.heap.size 39 _ _ _ _ rfl rfl HK.out Tryz.underlying39 rfl (by kernel_rfl)) rfl ?_
      exact ⟨none, 0, rfl, MSees.none _ _ _, HG.out⟩
    | some t =>
      have e : readM A nmM = (0, t.bs) := by unfold readM; rw [hon, if_pos nmM_good, nameM, hf]
      rw [e] at C1
      have hlb : t.bs.length ≤ 1000000 := by have := h.sml.len t (findT_mem hf).1; have := h.le; omega
      simp only [if_true]
      have CR : Hid (∀ u a c, Sees u a t.bs → t.bs.length ≤ c → Calls Tryz.prog 42 #[.slice a t.bs.length c] u fun e w' => ∃ a5 c5, e = .returned (.tuple #[mval a5 c5 (rdF t.bs), .int .i64 (rdE t.bs)]) ∧ MSees w' a5 c5 (rdF t.bs) ∧ Below u.heap.size u w') := fun u a c hs hc => refReadM_any a t.bs c u hs hc hlb
      have HZ : Hid (∀ (i : Nat) (x : Int), (rdF t.bs).ts[i]? = some x → x ≠ 0) := fun i x hx => rdF_some hx
      clear h hR hon e hf hlb
      generalize t.bs = E at *
      generalize rdE E = ec at *
      generalize rdF E = m at *
      obtain ⟨ts, nx, fr⟩ := m
      unfold mval at *
      dsimp only at *
      go_enter Tryz.func13, Tryz.ntmps13
      go_wp2_with fail
      refine C1.out.mono ?_
      rintro e w1 ⟨a1, c1, rfl, s1, cp1, hB1, hk1⟩
      have C2 := CR.out w1 a1 c1 s1 cp1
      clear C1 CR s1 cp1
      generalize E.length = len at *
      go_wp2_with fail
      go_fit C2
      rintro e w5 ⟨a5, c5, rfl, hm5, hb⟩
      have hB5 : Below w.heap.size w w5 := hB1.trans (hb.mono hB1.size)
      have hk5 := hk1.carry (hb.block _ hk1.lt)
      clear hb C2 hB1 hk1
      have f0 := hk5.frozen 0
      have f1 := hk5.frozen 1
      have f2 := hk5.frozen 2
      have n0 := hk5.cell 0 rfl
      have n1 := hk5.cell 1 rfl
      have n2 := hk5.cell 2 rfl
      have HK : Hid (Blk (((w5.setCell ⟨w.heap.size, 0, none⟩ (.slice a5 ts.length c5)).setCell ⟨w.heap.size, 1, none⟩ (.int .i64 nx)).setCell ⟨w.heap.size, 2, none⟩ (.int .i64 fr)) w.heap.size [.slice a5 ts.length c5, .int .i64 nx, .int .i64 fr] 39) := ((hk5.setTo 0 _ _ rfl).setTo 1 _ _ rfl).setTo 2 _ _ rfl
      have HE : Hid (MSees (((w5.setCell ⟨w.heap.size, 0, none⟩ (.slice a5 ts.length c5)).setCell ⟨w.heap.size, 1, none⟩ (.int .i64 nx)).setCell ⟨w.heap.size, 2, none⟩ (.int .i64 fr)) a5 c5 ⟨ts, nx, fr⟩ ∧ Below w.heap.size w (((w5.setCell ⟨w.heap.size, 0, none⟩ (.slice a5 ts.length c5)).setCell ⟨w.heap.size, 1, none⟩ (.int .i64 nx)).setCell ⟨w.heap.size, 2, none⟩ (.int .i64 fr))) := by
        refine ⟨⟨fun i x hx => ?_, hm5.nil, hm5.cap⟩, ((hB5.setCell (Nat.le_refl _) _).setCell (Nat.le_refl _) _).setCell (Nat.le_refl _) _⟩
        obtain ⟨q, off, e, hc⟩ := hm5.see i x hx
        have hq : q ≠ w.heap.size := fun hh => by subst hh; exact cell_apart hk5 (HZ.out i x hx) hc
        refine ⟨q, off, e, ?_⟩
        rw [World.cell?_of_block (w := w5)]
        · exact hc
        · show (((w5.setCell _ _).setCell _ _).setCell _ _).heap[q]? = _
          rw [Below.heap_setCell _ _ _ _ hq, Below.heap_setCell _ _ _ _ hq, Below.heap_setCell _ _ _ _ hq]
      clear hk5 hB5 hm5 HZ
      go_wp2_with fail
      refine bodyPost_ret (v := .tuple #[.agg #[.slice a5 ts.length c5, .int .i64 nx, .int .i64 fr], .int .i64 ec]) (results_row_tmpM Tryz.results13 _ _ w.heap.size 39 _ _ _ _ rfl rfl HK.out Tryz.underlying39 rfl (by kernel_rfl)) rfl ?_
      exact ⟨a5, c5, rfl, HE.out⟩
end Go.Proofs.YtgkdodcidancpaaGreatDoor
namespace Go.Proofs.YtgkdodcidancpaaGreatDoor
open Go.RowKit

/-- A manifest, and where its numbers lie. -/
structure Mx where
  o : Option Addr
  c : Nat
  m : Mf
def MLs (w : World) (po : Option Addr) (l : List Mx) : Prop := ∀ (i : Nat) (x : Mx), l[i]? = some x → ∃ b off, po = some ⟨b, off, none⟩ ∧ (w.cell? ⟨b, off + i * 3, none⟩ = some (.slice x.o x.m.ts.length x.c) ∧ w.cell? ⟨b, off + i * 3 + 1, none⟩ = some (.int .i64 x.m.nx) ∧ w.cell? ⟨b, off + i * 3 + 2, none⟩ = some (.int .i64 x.m.fr)) ∧ MCame w x.o x.c x.m
theorem MCame.below {w w' : World} {ao : Option Addr} {cap : Nat} {m : Mf} (h : MCame w ao cap m) (hb : Below w.heap.size w w') : MCame w' ao cap m := ⟨h.see.below hb (Nat.le_refl _), h.cap, h.nx, h.fr⟩
theorem MLs.below {w w' : World} {po : Option Addr} {l : List Mx} (h : MLs w po l) (hb : Below w.heap.size w w') : MLs w' po l := fun i x hx => by
  obtain ⟨b, off, e, ⟨h0, h1, h2⟩, h3⟩ := h i x hx
  refine ⟨b, off, e, ⟨?_, ?_, ?_⟩, h3.below hb⟩
  · rw [hb.cell (World.block_lt_of_cell? _ _ h0)]; exact h0
  · rw [hb.cell (World.block_lt_of_cell? _ _ h1)]; exact h1
  · rw [hb.cell (World.block_lt_of_cell? _ _ h2)]; exact h2
theorem ldF_few (A : Ab) : (ldF A).ts.length ≤ 30 := by
  unfold ldF
  split
  · split
    · exact Nat.zero_le _
    · rename_i t _
      cases hr : rdM t.bs with
      | none => rw [(rd_none hr).1]; exact Nat.zero_le _
      | some m => rw [(rd_some hr).1]; exact (goodM_iff.1 (rdM_iff.1 hr).1).2.2.1
  · exact Nat.zero_le _
/-- Both disks in memory, alike. -/
def DuoM (d r n : Nat) (fs : List Nat) (u : World) : Prop := ∃ A Q, Two d r A Q fs u ∧ Pr A Q n
theorem DuoM.grown {d r n : Nat} {fs : List Nat} {u u' : World} (h : DuoM d r n fs u) (hg : u.grownBy u' none) : DuoM d r n fs u' := by
  obtain ⟨A, Q, h1, h2⟩ := h
  exact ⟨A, Q, h1.grown hg, h2⟩
/-- What both disks tell of themselves. -/
structure Say (d r : Nat) (fs : List Nat) (A : Ab) (Q : RA) (M : Mf) (ec ov : Int) (nv : List ByteArray) : Prop where
  l1 : ∀ u, Two d r A Q fs u → Tab u → ∀ ue pv, Err u ue pv → Calls Tryz.prog 12 #[.pointer (some ⟨d, 0, none⟩)] u fun e w' => ∃ a5 c5, e = .returned (.tuple #[mval a5 c5 M, .int .i64 ec]) ∧ MSees w' a5 c5 M ∧ Below u.heap.size u w'
  l2 : ∀ u, Two d r A Q fs u → Calls Tryz.prog 13 #[.pointer (some ⟨r, 0, none⟩)] u fun e w' => ∃ a5 c5, e = .returned (.tuple #[mval a5 c5 M, .int .i64 ec]) ∧ MSees w' a5 c5 M ∧ Below u.heap.size u w'
  sm : ∀ u a b ca cb, MSees u a ca M → MSees u b cb M → Calls Tryz.prog 14 #[mval a ca M, mval b cb M] u fun e w' => e = .returned (.bool true) ∧ Below u.heap.size u w'
  n1 : ∀ u, Two d r A Q fs u → Calls Tryz.prog 17 #[.pointer (some ⟨d, 0, none⟩)] u fun x w' => ∃ ao c, x = .returned (.slice ao nv.length c) ∧ TS w' ao nv ∧ u.grownBy w' none
  n2 : ∀ u, Two d r A Q fs u → Calls Tryz.prog 18 #[.pointer (some ⟨r, 0, none⟩)] u fun x w' => ∃ ao c, x = .returned (.slice ao nv.length c) ∧ TS w' ao nv ∧ u.grownBy w' none
  tx : ∀ u a1 a2 c1 c2, TS u a1 nv → TS u a2 nv → Calls Tryz.prog 16 #[.slice a1 nv.length c1, .slice a2 nv.length c2] u fun e w' => e = .returned (.bool true) ∧ Below u.heap.size u w'
  o1 : ∀ u, Two d r A Q fs u → Calls Tryz.prog 15 #[.pointer (some ⟨d, 0, none⟩)] u fun x w' => x = .returned (.int .i64 ov) ∧ w' = u
  o2 : ∀ u, Two d r A Q fs u → u.cell? ⟨r, 4, none⟩ = some (.int .i64 ov)
theorem say_any {d r n : Nat} {A : Ab} {Q : RA} (fs : List Nat) (h : Pr A Q n) : Say d r fs A Q (ldF A) (ldE A) (A.ops : Int) (namesV A) := by
  have hn : A.sp.length ≤ 1000000 := by have := h.sml.cnt; have := h.le; omega
  have hnl : (namesV A).length ≤ 1000000 := by
    unfold namesV
    split
    · rw [List.length_map]; exact hn
    · exact Nat.zero_le _
  have hf := ldF_few A
  refine ⟨fun u ⟨ft, fr, g1, g2, _, _⟩ ht ue pv he => loadM_any g1 (fun t ht => by have := h.sml.len t ht; have := h.le; omega) ht ue pv he, fun u ⟨ft, fr, g1, g2, _, _⟩ => ref_load h g2, fun u a b ca cb ha hb => ?_, fun u ⟨ft, fr, g1, g2, _, _⟩ => ob_list h.tie g1 hn, fun u ⟨ft, fr, g1, g2, _, _⟩ => ob_rlist h.tie h.fit g2, fun u a1 a2 c1 c2 t1 t2 => texts_same a1 a2 (namesV A) c1 c2 u t1 t2 hnl, fun u ⟨ft, fr, g1, g2, _, _⟩ => ob_ops g1, fun u ⟨ft, fr, g1, g2, _, _⟩ => (ob_rops h.tie g2).1⟩
  have := sameM_any a b ca cb (ldF A) (ldF A) u ha.see hb.see (by omega) (by omega)
  rw [sameB_self] at this
  exact this
/-- One manifest is stored on both. -/
theorem duo_store {d r n : Nat} {A : Ab} {Q : RA} {fs : List Nat} (h : Pr A Q n) (hn : n + 12 ≤ 251) (o : Option Addr) (cap : Nat) (m : Mf) (hl : m.ts.length ≤ 1000000) :
    ∃ (c : Int) (A' : Ab) (Q' : RA), Pr A' Q' (n + 12) ∧
      (∀ u, Two d r A Q fs u → MCame u o cap m → Tab u → Calls Tryz.prog 9 #[.pointer (some ⟨d, 0, none⟩), mval o cap m] u fun x w' => x = .returned (.int .i64 c) ∧ ∃ fs', Two d r A' Q fs' w' ∧ Moved u w' fs fs') ∧
      (∀ u fs1, Two d r A' Q fs1 u → MCame u o cap m → Calls Tryz.prog 10 #[.pointer (some ⟨r, 0, none⟩), mval o cap m] u fun x w' => x = .returned (.int .i64 c) ∧ ∃ fs', Two d r A' Q' fs' w' ∧ Moved u w' fs1 fs') := by
  obtain ⟨e1, e2⟩ := h.store m hn
  refine ⟨(storeX A m).1, (storeX A m).2, (storeQ Q m).2, e2, fun u hT hm ht => hT.prog fun ft g1 _ => prog_store h g1 o cap m hm.see hl hm.cap ht hn, fun u fs1 hT hm => ?_⟩
  rw [e1]
  exact hT.ref fun fr g2 _ => ref_store h g2 o cap m hm.see hl hn
/-- Both are armed. -/
theorem duo_new {rm : Nat} (hr : rm ≤ 1073741824) {N K : Int} (hN : N ≤ 9223372036854775807) (hK : -9223372036854775808 ≤ K ∧ K ≤ 9223372036854775807) {d r : Nat} :
    ∃ (A' : Ab) (Q' : RA), Pr A' Q' 0 ∧
      (∀ u fs, Two d r (newA rm) (newR rm) fs u → Calls Tryz.prog 7 #[.pointer (some ⟨d, 0, none⟩), .int .i64 N, .int .i64 K] u fun x w' => (∃ c, x = .returned (.int .i64 c)) ∧ ∃ fs', Two d r A' (newR rm) fs' w' ∧ Moved u w' fs fs') ∧
      (∀ u fs, Two d r A' (newR rm) fs u → Calls Tryz.prog 8 #[.pointer (some ⟨r, 0, none⟩), .int .i64 N, .int .i64 K] u fun x w' => (∃ c, x = .returned (.int .i64 c)) ∧ ∃ fs', Two d r A' Q' fs' w' ∧ Moved u w' fs fs') := by
  have B := both_arm (tie_new rm) N K
  refine ⟨(armX (newA rm) N K).2, (armQ (newR rm) N K).2, ⟨B.2, (sml_new hr 0).arm (Nat.le_refl _) hN hK, by omega, fail_arm (by show (0 : Nat) ≤ _; omega) hN⟩, fun u fs hT => ?_, fun u fs hT => ?_⟩
  · exact (hT.prog (q := armX (newA rm) N K) fun ft g1 _ => any_arm g1 N K).mono fun _ _ hh => ⟨⟨_, hh.1⟩, hh.2⟩
  · exact (hT.ref (q := armQ (newR rm) N K) fun fr g2 _ => ra_Arm g2 N K).mono fun _ _ hh => ⟨⟨_, hh.1⟩, hh.2⟩
end Go.Proofs.YtgkdodcidancpaaGreatDoor
namespace Go.Proofs.YtgkdodcidancpaaGreatDoor
open Go.ChangeShapes Go.WideShapes Go.ChangeAt Go.RowKit Go.Deep

def Mx.a (x : Mx) : List Value := [.slice x.o x.m.ts.length x.c, .int .i64 x.m.nx, .int .i64 x.m.fr]
set_option maxRecDepth 100000 in
theorem man_cells {H : Type} {enc : TypeId × Value → H} {W : World} {fuel : Nat} {cs : List Value} {y : DataW H × List MemPlace} (hl : cs.length = 3) (h : DataW.trod enc Tryz.prog W 0 (fun _ => true) true fuel 36 cs = some y) :
    ∃ x : Mx, cs = x.a ∧ MCame W x.o x.c x.m := by
  match cs, hl with
  | [c0, c1, c2], _ =>
    obtain ⟨y0, y1, y2, m', _, _, h0, h1, h2⟩ := Go.Deep.trod_struct3 Tryz.underlying36 h
    simp only [cellsIs, cellsIn] at h0 h1 h2
    obtain ⟨ao, cap, ts, e0, i1, i2, i3, i4⟩ := ints_cells (fuel := m') (c := c0) (y := y0) h0
    obtain ⟨r1, f1, rfl, q1⟩ := DataW.trod_int Tryz.underlying3 h1
    obtain ⟨r2, f2, rfl, q2⟩ := DataW.trod_int Tryz.underlying3 h2
    simp at f1 f2
    subst f1
    subst f2
    subst e0
    exact ⟨⟨ao, cap, ⟨ts, r1, r2⟩⟩, rfl, ⟨i1, i2, i3⟩, i4, bounds_i64 q1, bounds_i64 q2⟩
def noMx : Mx := ⟨none, 0, ⟨[], 0, 0⟩⟩
set_option maxRecDepth 100000 in
theorem mans_came {H : Type} {enc : TypeId × Value → H} {W : World} {ao : Option Addr} {len cap : Nat} {d : DataW H} {p : List MemPlace}
    (h : DataW.Trod enc Tryz.prog W 0 (fun _ => true) true 23 (Value.slice ao len cap) d p) :
    ∃ l : List Mx, l.length = len ∧ MLs W ao l ∧ (l.length = 0 ∨ ∃ el sp, d = .slice el sp ∧ el.length = l.length) := by
  obtain ⟨fuel, hf⟩ := h
  rcases open_slice Tryz.underlying23 hf with ⟨hcs, _⟩ | ⟨a, n, c', m, k, D, Pl, hcs, _, hle, _, hm, hx, hc⟩
  · simp [Value.cells] at hcs
    obtain ⟨rfl, rfl, rfl⟩ := hcs
    exact ⟨[], rfl, (fun i x hx => by cases hx), .inl rfl⟩
  · simp [Value.cells] at hcs
    obtain ⟨rfl, rfl, rfl⟩ := hcs
    simp only [if_true] at hm
    subst hm
    rw [cellsMf] at hc
    haveI : Inhabited Mx := ⟨noMx⟩
    obtain ⟨C, hC⟩ := choose_lt (α := Mx) (n := len) (p := fun i x => W.cells? 0 (a.add (i * 3)) 3 = some x.a ∧ MCame W x.o x.c x.m) (fun i hi => by
      obtain ⟨cs', h1, h2⟩ := hc i (by omega)
      have hl3 : cs'.length = 3 := by
        obtain ⟨_, hll, _⟩ := World.cells?_some h1
        exact hll
      obtain ⟨x, e, h3⟩ := man_cells hl3 h2
      subst e
      exact ⟨x, h1, h3⟩)
    have hd := congrArg Prod.fst hx
    refine ⟨(List.range len).map C, by simp, ?_, .inr ⟨_, _, hd, by simp⟩⟩
    intro i x hi
    have hlt : i < len := by
      have := (List.getElem?_eq_some_iff.1 hi).1
      simpa using this
    simp [hlt] at hi
    subst hi
    obtain ⟨_, _, h3⟩ := World.cells?_some (hC i hlt).1
    obtain ⟨_, _, h30⟩ := World.cells?_some (hC 0 (by omega)).1
    have hz := h30 0 (by omega)
    obtain ⟨b, off, spot⟩ := a
    have hspot : spot = none := by
      have := World.cell?_spot (hz.trans (by rfl : (C 0).a[0]? = some (.slice (C 0).o (C 0).m.ts.length (C 0).c)))
      simpa [Addr.add] using this
    subst hspot
    have hv : ∀ j v, (C i).a[j]? = some v → W.cell? ⟨b, off + i * 3 + j, none⟩ = some v := fun j v hv => by
      have hj : j < 3 := (List.getElem?_eq_some_iff.1 hv).1
      have := h3 j hj
      rw [Addr.add_lit, Addr.add_lit, hv] at this
      exact this
    exact ⟨b, off, rfl, ⟨hv 0 _ rfl, hv 1 _ rfl, hv 2 _ rfl⟩, (hC i hlt).2⟩
set_option maxRecDepth 100000 in
theorem mans_fit {H : Type} {ts : List TypeId} {ds : List (DataW H)} {j n : Nat} {d : DataW H} (h : (DataW.weightsEach Tryz.prog ts ds).all (· ≤ reachBytes) = true) (ht : ts[j]? = some 23) (hd : ds[j]? = some d)
    (hn : n = 0 ∨ ∃ el sp, d = .slice el sp ∧ el.length = n) : n ≤ 140737488355328 := by
  rcases hn with rfl | ⟨el, sp, rfl, rfl⟩
  · omega
  · have h1 := sized_slice h ht hd Tryz.underlying23
    rw [show Tryz.prog.bytesOf 36 = 40 by kernel_rfl] at h1
    simp only [reachBytes] at h1
    omega
end Go.Proofs.YtgkdodcidancpaaGreatDoor

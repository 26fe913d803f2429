/-
  THE DOCUMENT'S DISK: Rename, the call.
-/
import Derived.Test.YtgkdodcidancpaaGreatDoorMany30
namespace Go.Proofs.YtgkdodcidancpaaGreatDoor
open Go.RowKit Go.Maps Go.WideAt Go.WideShapes
attribute [local go_sem] Oper.pureAt Oper.pureUpon
attribute [local irreducible] wpQuiet

set_option maxRecDepth 100000 in
set_option maxHeartbeats 2400000 in
theorem ra_Rename {w : World} {r : Nat} {Q : RA} {fr : List Nat} (h : RAt r Q fr w) (hF : Q.Fit) (s u : ByteArray) (hs : s.size ≤ maxLen) (hu : u.size ≤ maxLen) :
    Calls Tryz.prog 36 #[.pointer (some ⟨r, 0, none⟩), .string s, .string u] w (ROut r fr w (renameQ Q s u)) := by
  obtain ⟨R, h1, rfl, rfl, hcap⟩ := h
  have hn : R.fs.length ≤ 1000000 := by have := hF.few; rwa [show R.abs.L.length = R.fs.length from len_sig _] at this
  have G1 : Hid (∀ w, Calls Tryz.prog 71 #[.string s] w fun e w' => e = .returned (.bool (goodB (nameOf s))) ∧ w' = w) := fun w => refGood_any s w hs
  have G2 : Hid (∀ w, Calls Tryz.prog 71 #[.string u] w fun e w' => e = .returned (.bool (goodB (nameOf u))) ∧ w' = w) := fun w => refGood_any u w hu
  have T : Hid (Calls Tryz.prog 73 #[.pointer (some ⟨r, 0, none⟩)] w fun x w' => x = .returned (.bool (decide (R.fail = 1))) ∧ RefAt w' r (turnR R).2 ∧ Moved w w' (R.foot r) ((turnR R).2.foot r)) := ref_turn h1 hF.ops hF.fail
  have A : Hid (Calls Tryz.prog 72 #[.pointer (some ⟨r, 0, none⟩), .string s] w fun x w' => x = .returned (.int .i64 (atI R.fs (nameOf s))) ∧ w' = w) := ref_at h1 hn s
  have H1 : Hid (RefAt w r R) := h1
  have HF : Hid R.abs.Fit := hF
  have HC : Hid (CapOk R.fs) := hcap
  have HN : Hid (R.fs.length ≤ 1000000) := hn
  have HQ : Hid (renameQ R.abs s u = if R.off then ((9 : Int), R.abs) else if goodB (nameOf s) && goodB (nameOf u) then
    (match findT (R.fs.map RF.sig) (nameOf s) with
    | none => ((4 : Int), R.abs)
    | some t => if R.fail = 1 then ((9 : Int), crashQ (turnQ R.abs) R.keep) else if s = u then ((0 : Int), turnQ R.abs) else ((0 : Int), renQ R.abs (nameOf s) (nameOf u) t))
    else ((3 : Int), R.abs)) := rfl
  generalize hq : renameQ R.abs s u = q at *
  clear hq
  have c3 := h1.c3
  cases hoff : R.off
  · rw [hoff] at c3 HQ
    by_cases hgd : (goodB (nameOf s) && goodB (nameOf u)) = true
    · have hg1 : goodB (nameOf s) = true := by simp at hgd; exact hgd.1
      have hg2 : goodB (nameOf u) = true := by simp at hgd; exact hgd.2
      rw [hg1, hg2] at HQ
      rw [hg1] at G1
      rw [hg2] at G2
      rcases at_cases R.fs (nameOf s) with ⟨e1, e2⟩ | ⟨i, f, e1, e2, e3, e4⟩
      · rw [e2] at HQ
        rw [e1] at A
        clear h1 hF hcap hs hu hn e1 e2 hgd hg1 hg2
        go_enter Tryz.func36, Tryz.ntmps36
        go_wp2_with (first | (go_at_call 71; with_reducible (refine (G1.out _).mono ?_); rintro x _ ⟨rfl, hw⟩; obtain rfl := hw.symm; clear hw) | (go_at_call 71; with_reducible (refine (G2.out _).mono ?_); rintro x _ ⟨rfl, hw⟩; obtain rfl := hw.symm; clear hw) | (go_at_call 72; refine A.out.mono ?_; rintro x _ ⟨rfl, hw⟩; obtain rfl := hw.symm; clear hw))
        go_ret
        rw [HQ.out]
        exact ⟨rfl, _, ⟨R, H1.out, rfl, rfl, HC.out⟩, Moved.refl _ _⟩
      · rw [e4] at HQ
        rw [e1] at A
        have hi0 : ¬ (i : Int) < 0 := by omega
        by_cases hf : R.fail = 1
        · rw [decide_eq_true hf] at T
          have HQ2 : Hid (q = (9, crashQ (turnQ R.abs) R.keep)) := by
            have := HQ
            simp only [Bool.and_self, Bool.false_eq_true, if_false, if_true, hf] at this
            exact this
          have D : Hid (∀ w1, RefAt w1 r (turnR R).2 → Calls Tryz.prog 74 #[.pointer (some ⟨r, 0, none⟩)] w1 (ROut r ((turnR R).2.foot r) w1 (9, crashQ (turnQ R.abs) R.keep))) := fun w1 h => ref_dies h HC.out hoff HF.out rfl rfl
          clear h1 hF hcap hs hu hn e1 e2 e3 e4 hgd hg1 hg2 hf HQ
          go_enter Tryz.func36, Tryz.ntmps36
          go_wp2_with (first | (go_at_call 71; with_reducible (refine (G1.out _).mono ?_); rintro x _ ⟨rfl, hw⟩; obtain rfl := hw.symm; clear hw) | (go_at_call 71; with_reducible (refine (G2.out _).mono ?_); rintro x _ ⟨rfl, hw⟩; obtain rfl := hw.symm; clear hw) | (go_at_call 72; refine A.out.mono ?_; rintro x _ ⟨rfl, hw⟩; obtain rfl := hw.symm; clear hw))
          refine T.out.mono ?_
          rintro x w1 ⟨rfl, h2, hM⟩
          go_wp2_with fail
          refine (D.out w1 h2).mono ?_
          rintro x w2 ⟨rfl, fr', h3, hM2⟩
          go_wp2_with fail
          go_ret
          rw [HQ2.out]
          exact ⟨rfl, fr', h3, hM.trans hM2⟩
        · rw [decide_eq_false hf] at T
          by_cases hsu : s = u
          · have HQ2 : Hid (q = (0, turnQ R.abs)) := by
              have := HQ
              simp only [Bool.and_self, Bool.false_eq_true, if_false, if_true, hf, hsu] at this
              exact this
            subst hsu
            clear h1 hF hcap hs hu hn e1 e2 e3 e4 hgd hg1 hg2 hf HQ
            go_enter Tryz.func36, Tryz.ntmps36
            go_wp2_with (first | (go_at_call 71; with_reducible (refine (G1.out _).mono ?_); rintro x _ ⟨rfl, hw⟩; obtain rfl := hw.symm; clear hw) | (go_at_call 72; refine A.out.mono ?_; rintro x _ ⟨rfl, hw⟩; obtain rfl := hw.symm; clear hw))
            refine T.out.mono ?_
            rintro x w1 ⟨rfl, h2, hM⟩
            go_wp2_with fail
            go_ret
            rw [HQ2.out]
            exact ⟨rfl, _, ⟨_, h2, rfl, rfl, HC.out⟩, hM⟩
          · have hne : nameOf s ≠ nameOf u := fun e => hsu (by rw [← strB_nameOf s, e, strB_nameOf])
            have HQ2 : Hid (q = (0, renQ R.abs (nameOf s) (nameOf u) f.sig)) := by
              have := HQ
              simp only [Bool.and_self, Bool.false_eq_true, if_false, if_true, hf, hsu] at this
              exact this
            have hsb : (s.toList == u.toList) = false := ba_toList_ne hsu
            obtain ⟨F1, hF1⟩ : ∃ F1, R.fs.filter (fun p => !(p.nm == nameOf u)) = F1 := ⟨_, rfl⟩
            obtain ⟨N1, hN1⟩ : ∃ N1, R.line.filter (fun p => !(p.1 == nameOf u)) = N1 := ⟨_, rfl⟩
            have hF1s : F1.map RF.sig = dropT (R.fs.map RF.sig) (nameOf u) := by rw [← hF1]; exact drop_sigR _ _
            have hF1l : F1.length ≤ 1000000 := by rw [← hF1]; exact Nat.le_trans (List.length_filter_le _ _) hn
            have hN1l : N1.length ≤ 1000000 := by rw [← hN1]; exact Nat.le_trans (List.length_filter_le _ _) hF.line
            have hfind : findT (F1.map RF.sig) (nameOf s) = some f.sig := by rw [hF1s, findT_drop hne, e4]
            rcases at_cases F1 (nameOf s) with ⟨_, e6⟩ | ⟨p, f1, e5, e6, e7, e8⟩
            · rw [hfind] at e6
              cases e6
            have hsig : f1.sig = f.sig := by rw [hfind] at e8; exact (Option.some.inj e8).symm
            have hm1 : f1 ∈ F1 := List.mem_of_getElem? e6
            have hpl : p < F1.length := (List.getElem?_eq_some_iff.1 e6).1
            have hb1 : f1.bs.length ≤ 1099511627776 := hF.len f1.sig (by rw [hsig]; exact List.mem_map.2 ⟨f, List.mem_of_getElem? e2, rfl⟩)
            have HSIG : Hid (f1.sig = f.sig ∧ f1.nm = nameOf s ∧ f1 ∈ F1 ∧ F1[p]? = some f1) := ⟨hsig, e7, hm1, e6⟩
            have D1 : Hid (∀ w1, RefAt w1 r (turnR R).2 → Calls Tryz.prog 75 #[.pointer (some ⟨r, 0, none⟩), .string u] w1 fun x w' => x = .returned (.tuple #[]) ∧ ∃ v v2, Ch w1 w' r (turnR R).2 { (turnR R).2 with vL := v, fs := F1, vN := v2, line := N1 }) := fun w1 h => by
              have := ref_drop h hn HF.out.line u
              rw [show (turnR R).2.fs = R.fs from rfl, show (turnR R).2.line = R.line from rfl, hF1, hN1] at this
              exact this
            have HF1 : Hid (R.fs.filter (fun p => !(p.nm == nameOf u)) = F1 ∧ F1.map RF.sig = dropT (R.fs.map RF.sig) (nameOf u)) := ⟨hF1, hF1s⟩
            have HN1 : Hid (R.line.filter (fun p => !(p.1 == nameOf u)) = N1) := hN1
            have HLE : Hid (F1.length ≤ 1000000 ∧ N1.length ≤ 1000000) := ⟨hF1l, hN1l⟩
            have hplz : (p : Int) < (F1.length : Int) := by omega
            have hF1z : (F1.length : Int) ≤ 1000000 := by omega
            have hN1z : (N1.length : Int) ≤ 1000000 := by omega
            have hb1z : (f1.bs.length : Int) ≤ 1099511627776 := by omega
            have HSU : Hid (s ≠ u) := hsu
            clear h1 hF hcap hs hu hn e1 e2 e3 e4 hgd hg1 hg2 hf HQ hF1 hN1 hF1s hfind e6 e7 e8 hsig hm1 hpl hb1 hF1l hN1l
            go_enter Tryz.func36, Tryz.ntmps36
            go_wp2_with (first | (go_at_call 71; with_reducible (refine (G1.out _).mono ?_); rintro x _ ⟨rfl, hw⟩; obtain rfl := hw.symm; clear hw) | (go_at_call 71; with_reducible (refine (G2.out _).mono ?_); rintro x _ ⟨rfl, hw⟩; obtain rfl := hw.symm; clear hw) | (go_at_call 72; refine A.out.mono ?_; rintro x _ ⟨rfl, hw⟩; obtain rfl := hw.symm; clear hw))
            refine T.out.mono ?_
            rintro x w1 ⟨rfl, h2, hM⟩
            have HM : Hid (Moved w w1 (R.foot r) ((turnR R).2.foot r)) := hM
            clear hM T A G1 G2
            go_wp2_with fail
            refine (D1.out w1 h2).mono ?_
            rintro x w2 ⟨rfl, v1, v2, hC1⟩
            obtain ⟨R1, hR1⟩ : ∃ R1 : RM, ({ (turnR R).2 with vL := v1, fs := F1, vN := v2, line := N1 } : RM) = R1 := ⟨_, rfl⟩
            rw [hR1] at hC1
            have hfs1 : R1.fs = F1 := by rw [← hR1]
            have hln1 : R1.line = N1 := by rw [← hR1]
            have HC1 : Hid (Ch w1 w2 r (turnR R).2 R1) := hC1
            have HR1 : Hid (R1.fs = F1 ∧ R1.line = N1 ∧ ({ (turnR R).2 with vL := v1, fs := F1, vN := v2, line := N1 } : RM) = R1) := ⟨hfs1, hln1, hR1⟩
            have H2 : Hid (RefAt w2 r R1) := hC1.at_
            obtain ⟨aL, cL, hvL, hcL, hfc⟩ := hC1.at_.files
            rw [hfs1] at hvL hfc hcL
            obtain ⟨g, rfl, hg, m0, m1, m2⟩ := hfc p f1 HSIG.out.2.2.2
            have hgl := (hC1.at_.rowL.lt g hg).2
            have hrl := hC1.at_.head.lt
            have c1 := hC1.at_.c1
            rw [hvL] at c1
            have A1 : Hid (∀ wx, Below w2.heap.size w2 wx → Calls Tryz.prog 72 #[.pointer (some ⟨r, 0, none⟩), .string s] wx fun x w' => x = .returned (.int .i64 (p : Int)) ∧ w' = wx) := fun wx hb => by
              have := ref_at (H2.out.cl hb) (by rw [HR1.out.1]; exact HLE.out.1) s
              rwa [HR1.out.1, e5] at this
            have HCl : Hid (∀ u : World, Below w2.heap.size w2 u → ∃ p : Cl w2.heap.size w2, u = p.u) := fun u hu => ⟨⟨u, hu⟩, rfl⟩
            have HB0 : Hid (Below w2.heap.size w2 w2.drew) := (Below.refl _ w2).drew
            have HB1 : Hid (Below w2.heap.size w2 (w2.drew.alloc (.cells #[.string ⟨#[]⟩, .slice none 0 0, .int .i64 0] 86))) := HB0.out.alloc (Nat.le_refl _) _
            have q1 : ∀ q : Cl w2.heap.size w2, q.u.cell? ⟨r, 1, none⟩ = some (.slice (some ⟨g, 0, none⟩) F1.length cL) := fun q => q.cell hrl c1
            have y0 : ∀ q : Cl w2.heap.size w2, q.u.cell? ⟨g, p * 3, none⟩ = some (.string (strBD f1.nm)) := fun q => q.cell hgl m0
            have y1 : ∀ q : Cl w2.heap.size w2, q.u.cell? ⟨g, p * 3 + 1, none⟩ = some (.slice f1.ao f1.bs.length f1.cap) := fun q => q.cell hgl m1
            have y2 : ∀ q : Cl w2.heap.size w2, q.u.cell? ⟨g, p * 3 + 2, none⟩ = some (.int .i64 (f1.wr : Int)) := fun q => q.cell hgl m2
            have HBK : Hid (Blk (w2.alloc (.cells #[.string (strBD f1.nm), .slice f1.ao f1.bs.length f1.cap, .int .i64 (f1.wr : Int)] 86)).drew w2.heap.size [.string (strBD f1.nm), .slice f1.ao f1.bs.length f1.cap, .int .i64 (f1.wr : Int)] 86) := Blk.new w2 _ _
            have HGW : Hid (w2.grownBy (w2.alloc (.cells #[.string (strBD f1.nm), .slice f1.ao f1.bs.length f1.cap, .int .i64 (f1.wr : Int)] 86)).drew none) := by
              have h0 := World.grownBy_alloc w2 (.cells #[.string (strBD f1.nm), .slice f1.ao f1.bs.length f1.cap, .int .i64 (f1.wr : Int)] 86) none
              exact ⟨h0.os, h0.tape, h0.output, h0.size, h0.block⟩
            haveI := Cl.inh w2.heap.size w2
            clear hC1 h2 hfs1 hln1 hR1 hvL hcL hfc m0 m1 m2 hg hgl hrl c1 e5
            go_wp2_with fail
            go_cut [7] from 39 to 48 (fun s7 wx => s7 = .pointer (some ⟨w2.heap.size, 0, none⟩) ∧ Blk wx w2.heap.size [.string (strBD f1.nm), .slice f1.ao f1.bs.length f1.cap, .int .i64 (f1.wr : Int)] 86 ∧ w2.grownBy wx none)
            case first =>
              refine wp_region_C (fun u => ∃ p : Cl w2.heap.size w2, u = p.u) 10 _ (by kernel_rfl) ?reg (fun _ _ h => h)
              refine anyC_pure 0 rfl (by kernel_rfl) (by kernel_rfl) (by kernel_rfl) (HCl.out _ HB0.out) (fun K hK => ?_)
              go_simp
              refine hK _ ?_
              clear hK K
              refine anyC_pure 1 rfl (by kernel_rfl) (by kernel_rfl) (by kernel_rfl) (HCl.out _ HB0.out) (fun K hK => ?_)
              go_simp
              refine hK _ ?_
              clear hK K
              refine anyC_pure 2 rfl (by kernel_rfl) (by kernel_rfl) (by kernel_rfl) (HCl.out _ HB0.out) (fun K hK => ?_)
              go_simp
              refine hK _ ?_
              clear hK K
              refine anyC_pure 3 rfl (by kernel_rfl) (by kernel_rfl) (by kernel_rfl) (HCl.out _ HB0.out) (fun K hK => ?_)
              go_simp
              refine hK _ ?_
              clear hK K
              refine anyC_pure 4 rfl (by kernel_rfl) (by kernel_rfl) (by kernel_rfl) (HCl.out _ HB0.out) (fun K hK => ?_)
              go_simp
              refine hK _ ?_
              clear hK K
              refine anyC_pure 5 rfl (by kernel_rfl) (by kernel_rfl) (by kernel_rfl) (HCl.out _ HB0.out) (fun K hK => ?_)
              go_simp
              refine hK _ ?_
              clear hK K
              refine anyC_loud2 6 9 (by kernel_rfl) ?_ ?_
              · refine lou_of rfl (fun K hK => ?_)
                go_simp
                refine (A1.out _ HB0.out).mono ?_
                rintro x _ ⟨rfl, hw⟩
                obtain rfl := hw.symm
                refine hK _ _ ⟨fun _ => HCl.out _ HB0.out, ?_⟩
                clear hK K
                refine anyC_pure 7 rfl (by kernel_rfl) (by kernel_rfl) (by kernel_rfl) (HCl.out _ HB0.out) (fun K hK => ?_)
                go_simp
                refine hK _ ?_
                clear hK K
                refine anyC_pure 8 rfl (by kernel_rfl) (by kernel_rfl) (by kernel_rfl) (HCl.out _ HB0.out) (fun K hK => ?_)
                go_simp
                refine hK _ ?_
                clear hK K
                refine anyC_loud 9 (by kernel_rfl) ?_
                refine lou_of rfl (fun K hK => ?_)
                go_simp
                refine hK _ _ ⟨fun _ => HCl.out _ HB1.out, ?_⟩
                clear hK K
                refine anyC_loud 10 (by kernel_rfl) ?_
                refine lou_of rfl (fun K hK => ?_)
                go_simp
                refine hK _ _ ⟨fun h => absurd rfl h, ?_⟩
                clear hK K
                refine anyC_done (by kernel_rfl) ?_
                go_wp2_with fail
                go_meet
                case rel => exact ⟨rfl, HBK.out, HGW.out⟩
              · refine lou_of rfl (fun K hK => ?_)
                go_simp
                refine hK _ _ ⟨fun _ => HCl.out _ HB1.out, ?_⟩
                clear hK K
                refine anyC_loud 6 (by kernel_rfl) ?_
                refine lou_of rfl (fun K hK => ?_)
                go_simp
                refine (A1.out _ HB1.out).mono ?_
                rintro x _ ⟨rfl, hw⟩
                obtain rfl := hw.symm
                refine hK _ _ ⟨fun _ => HCl.out _ HB1.out, ?_⟩
                clear hK K
                refine anyC_pure 7 rfl (by kernel_rfl) (by kernel_rfl) (by kernel_rfl) (HCl.out _ HB1.out) (fun K hK => ?_)
                go_simp
                refine hK _ ?_
                clear hK K
                refine anyC_pure 8 rfl (by kernel_rfl) (by kernel_rfl) (by kernel_rfl) (HCl.out _ HB1.out) (fun K hK => ?_)
                go_simp
                refine hK _ ?_
                clear hK K
                refine anyC_loud 10 (by kernel_rfl) ?_
                refine lou_of rfl (fun K hK => ?_)
                go_simp
                refine hK _ _ ⟨fun h => absurd rfl h, ?_⟩
                clear hK K
                refine anyC_done (by kernel_rfl) ?_
                go_wp2_with fail
                go_meet
                case rel => exact ⟨rfl, HBK.out, HGW.out⟩
            case rest =>
              obtain ⟨rfl, hbk, hgw⟩ := hcut
              clear q1 y0 y1 y2 HBK HGW HB0 HB1 HCl A1 D1
              have h3 := H2.out.grown hgw
              have hrl := H2.out.head.lt
              have D2 : Hid (∀ w3, RefAt w3 r R1 → Calls Tryz.prog 75 #[.pointer (some ⟨r, 0, none⟩), .string s] w3 fun x w' => x = .returned (.tuple #[]) ∧ ∃ v v2, Ch w3 w' r R1 { R1 with vL := v, fs := F1.filter (fun p => !(p.nm == nameOf s)), vN := v2, line := N1.filter (fun p => !(p.1 == nameOf s)) } ∧ ∀ g, v2.ownBlock = some g → w3.heap.size ≤ g) := fun w3 h => by
                have := ref_dropS h (by rw [HR1.out.1]; exact HLE.out.1) (by rw [HR1.out.2.1]; exact HLE.out.2) s
                rwa [HR1.out.1, HR1.out.2.1] at this
              obtain ⟨aN, cN, hvN, hcN, -⟩ := h3.lines
              rw [HR1.out.2.1] at hvN hcN
              have c2 := h3.c2
              rw [hvN] at c2
              have HVN : Hid (R1.vN = .slice aN N1.length cN) := hvN
              have H3 : Hid _ := h3
              have HGW : Hid _ := hgw
              have HBK : Hid _ := hbk
              clear hvN hcN
              go_wp2_with fail
              refine (D2.out _ h3).mono ?_
              rintro x w4 ⟨rfl, v3, v4, hC2, hnew⟩
              obtain ⟨R2, hR2⟩ : ∃ R2 : RM, ({ R1 with vL := v3, fs := F1.filter (fun p => !(p.nm == nameOf s)), vN := v4, line := N1.filter (fun p => !(p.1 == nameOf s)) } : RM) = R2 := ⟨_, rfl⟩
              rw [hR2] at hC2
              have hz3 := hgw.size
              have hb2lt : w2.heap.size < _ := hbk.lt
              -- the box behind the drop
              have hbk4 : Blk w4 w2.heap.size [.string (strBD f1.nm), .slice f1.ao f1.bs.length f1.cap, .int .i64 (f1.wr : Int)] 86 := hbk.carry (hC2.only.kept _ hb2lt (by simp; omega))
              have b0 := hbk4.cell 0 rfl
              have bf0 := hbk4.frozen 0
              have hbk5 : Blk (w4.setCell ⟨w2.heap.size, 0, none⟩ (.string u)) w2.heap.size [.string u, .slice f1.ao f1.bs.length f1.cap, .int .i64 (f1.wr : Int)] 86 := hbk4.setTo 0 (.string u) _ rfl
              have b50 := hbk5.cell 0 rfl
              have b51 := hbk5.cell 1 rfl
              have b52 := hbk5.cell 2 rfl
              -- the disk behind it
              have hb2f : ∀ j ∈ R2.foot r, j ∉ [w2.heap.size] := fun j hj => by
                simp only [List.mem_singleton]
                rcases hC2.feet j hj with h5 | h5
                · have := H2.out.lt j h5; omega
                · omega
              have h5 : RefAt (w4.setCell ⟨w2.heap.size, 0, none⟩ (.string u)) r R2 := hC2.at_.moved (Moved.of_set _ _ _) hb2f
              have hsee : Sees (w4.setCell ⟨w2.heap.size, 0, none⟩ (.string u)) f1.ao f1.bs := by
                have hm1 : f1 ∈ R1.fs := by rw [HR1.out.1]; exact HSIG.out.2.2.1
                refine (h3.sees f1 hm1).kept fun a ha _ => ?_
                have hbb : a.block ∈ f1.blk := by simp [RF.blk, ha]
                have hlt2 := H2.out.blt f1 hm1 _ hbb
                have hner := (h3.apart f1 hm1 _ hbb).1
                rw [Below.heap_setCell _ _ _ _ (by show a.block ≠ w2.heap.size; omega)]
                exact hC2.only.kept _ (h3.blt f1 hm1 _ hbb) (by simpa using hner)
              have hins : Hid (∀ g ∈ f1.blk, g < (w4.setCell ⟨w2.heap.size, 0, none⟩ (.string u)).heap.size ∧ g ≠ r ∧ R2.vN.ownBlock ≠ some g) := fun g hg => by
                have hm1 : f1 ∈ R1.fs := by rw [HR1.out.1]; exact HSIG.out.2.2.1
                have h6 := h3.blt f1 hm1 g hg
                have h7 := hC2.only.size
                rw [size_setCell]
                refine ⟨by omega, (h3.apart f1 hm1 g hg).1, fun e => ?_⟩
                have e9 : R2.vN = v4 := by rw [← hR2]
                rw [e9] at e
                have := hnew g e
                omega
              have hR2s : R2.fs.map RF.sig = dropT (dropT (R.fs.map RF.sig) (nameOf u)) (nameOf s) := by
                rw [← hR2]
                show (F1.filter (fun p => !(p.nm == nameOf s))).map RF.sig = _
                rw [drop_sigR, HF1.out.2]
              have hso2 : R2.fs.Pairwise (fun x y => bytesBefore x.nm y.nm = true) := sorted_sig (by rw [hR2s]; exact drop_sorted (drop_sorted HF.out.sorted _) _)
              have hR2l : R2.fs.length ≤ 1000000 := by
                rw [← hR2]
                exact Nat.le_trans (List.length_filter_le _ _) HLE.out.1
              have INS : Hid (Calls Tryz.prog 76 #[.pointer (some ⟨r, 0, none⟩), .agg #[.string u, .slice f1.ao f1.bs.length f1.cap, .int .i64 (f1.wr : Int)]] (w4.setCell ⟨w2.heap.size, 0, none⟩ (.string u)) fun x w' => x = .returned (.tuple #[]) ∧ ∃ v, RefAt w' r { R2 with vL := v, fs := insR ⟨nameOf u, f1.ao, f1.cap, f1.bs, f1.wr⟩ R2.fs } ∧ Moved (w4.setCell ⟨w2.heap.size, 0, none⟩ (.string u)) w' [r] [] ∧ ∀ i ∈ ({ R2 with vL := v, fs := insR ⟨nameOf u, f1.ao, f1.cap, f1.bs, f1.wr⟩ R2.fs } : RM).foot r, i ∈ R2.foot r ∨ i ∈ f1.blk ∨ (w4.setCell ⟨w2.heap.size, 0, none⟩ (.string u)).heap.size ≤ i) := by
                have hz1 : f1.ao = none → f1.bs.length = 0 := h3.zero f1 (by rw [HR1.out.1]; exact HSIG.out.2.2.1)
                have := ref_insert h5 hR2l ⟨nameOf u, f1.ao, f1.cap, f1.bs, f1.wr⟩ hso2 ⟨hsee, hz1, fun g hg => ⟨hg, hins.out g hg⟩⟩
                rw [show strBD (⟨nameOf u, f1.ao, f1.cap, f1.bs, f1.wr⟩ : RF).nm = u from strB_nameOf u] at this
                exact this
              have HM25 : Hid (Moved w2 (w4.setCell ⟨w2.heap.size, 0, none⟩ (.string u)) (R1.foot r) (R2.foot r)) := by
                have a1 := (Moved.none_of hgw (R1.foot r)).trans hC2.moved
                refine ⟨a1.os, a1.tape, a1.output, by rw [size_setCell]; exact a1.size, fun k hk1 hk2 => ?_, a1.news⟩
                rw [Below.heap_setCell _ _ _ _ (by show k ≠ w2.heap.size; omega)]
                exact a1.kept k hk1 hk2
              -- the old line, whatever was done since
              have HOLD : Hid (∀ w6, Moved (w4.setCell ⟨w2.heap.size, 0, none⟩ (.string u)) w6 [r] [] → w6.ownsRow 0 109 2 (.slice aN N1.length cN) N1.length (N1.flatMap plC)) := fun w6 hm6 => by
                have hr3 := H2.out.rowN
                rw [HR1.out.2.1, HVN.out] at hr3
                refine owns_carry hr3 fun k hk => ?_
                have hkl := (hr3.lt k hk).2
                have hkr : k ≠ r := fun e => H2.out.ne2 (by rw [HVN.out, hk, e])
                have hkz : k < (w4.setCell ⟨w2.heap.size, 0, none⟩ (.string u)).heap.size := by rw [size_setCell]; have := hC2.only.size; omega
                rw [hm6.kept k hkz (by simpa using hkr), Below.heap_setCell _ _ _ _ (by show k ≠ w2.heap.size; omega), hC2.only.kept k (by omega) (by simpa using hkr)]
                exact hgw.block k hkl (by simp)
              have HR2 : Hid (({ R1 with vL := v3, fs := F1.filter (fun p => !(p.nm == nameOf s)), vN := v4, line := N1.filter (fun p => !(p.1 == nameOf s)) } : RM) = R2) := hR2
              have HR2S : Hid (R2.fs.map RF.sig = dropT (dropT (R.fs.map RF.sig) (nameOf u)) (nameOf s)) := hR2s
              have HCP2 : Hid (CapOk (insR ⟨nameOf u, f1.ao, f1.cap, f1.bs, f1.wr⟩ R2.fs)) := fun x hx => by
                have hcF : CapOk F1 := by rw [← HF1.out.1]; exact cap_filter HC.out _
                rcases mem_insR hx with rfl | hx
                · exact hcF f1 HSIG.out.2.2.1
                · rw [← hR2] at hx
                  exact cap_filter hcF _ _ hx
              obtain ⟨i1, hinf, hp0, hp1, hp2⟩ := info_of infoPl
              clear hR2 hC2 hnew hz3 hb2lt hbk4 hbk5 hb2f h5 hsee hins hR2s hso2 hR2l c2 h3 hgw hbk
              go_wp2_with fail
              refine INS.out.mono ?_
              rintro x w6 ⟨rfl, v6, h6, hM6, hft6⟩
              have hold := HOLD.out w6 hM6
              have HM6 : Hid (Moved w2 w6 (R1.foot r) (({ R2 with vL := v6, fs := insR ⟨nameOf u, f1.ao, f1.cap, f1.bs, f1.wr⟩ R2.fs } : RM).foot r)) := by
                have a1 := HM25.out
                refine ⟨hM6.os.trans a1.os, hM6.tape.trans a1.tape, hM6.output.trans a1.output, Nat.le_trans a1.size hM6.size, fun k hk1 hk2 => ?_, fun k hk => ?_⟩
                · rw [hM6.kept k (by have := a1.size; omega) (by simp; exact fun e => hk2 (foot_iff.2 (.inl e)))]
                  exact a1.kept k hk1 hk2
                · rcases hft6 k hk with h7 | h7 | h7
                  · exact a1.news k h7
                  · exact .inl (foot_iff.2 (.inr (.inr (.inr ⟨f1, by rw [HR1.out.1]; exact HSIG.out.2.2.1, h7⟩))))
                  · exact .inr (Nat.le_trans a1.size h7)
              have H6 : Hid (RefAt w6 r { R2 with vL := v6, fs := insR ⟨nameOf u, f1.ao, f1.cap, f1.bs, f1.wr⟩ R2.fs }) := h6
              have HROW : Hid ((w6.alloc (.cells #[] 109)).ownsRow w6.heap.size 109 2 (.slice (some ⟨w6.heap.size, 0, none⟩) 0 0) 0 []) := rowPl w6
              have HSRC : Hid (Src Tryz.prog 2 48 (.slice aN N1.length cN) N1.length (N1.flatMap plC) (w6.alloc (.cells #[] 109))) := src_places (owns_up hold (World.grownBy_alloc _ _ _))
              have HZ6 : Hid (w6.heap.size ≤ (w6.alloc (.cells #[] 109)).heap.size) := by show _ ≤ _; simp
              have HEN : Hid (∀ w7 v7, w7.ownsRow w6.heap.size 109 2 v7 (0 + N1.length) ([] ++ N1.flatMap plC) → Grew (w6.alloc (.cells #[] 109)) w7 (.slice (some ⟨w6.heap.size, 0, none⟩) 0 0) v7 →
                  (∃ a7 c7, v7 = .slice a7 N1.length c7) ∧ (∃ z, w7.cell? ⟨r, 2, none⟩ = some z) ∧ w7.frozen? ⟨r, 2, none⟩ = false ∧ Ch w6 (w7.setCell ⟨r, 2, none⟩ v7) r { R2 with vL := v6, fs := insR ⟨nameOf u, f1.ao, f1.cap, f1.bs, f1.wr⟩ R2.fs } { R2 with vL := v6, fs := insR ⟨nameOf u, f1.ao, f1.cap, f1.bs, f1.wr⟩ R2.fs, vN := v7, line := N1 }) := fun w7 v7 ho hgr => by
                rw [Nat.zero_add, List.nil_append] at ho
                have hg7 : w6.grownBy w7 none := (World.grownBy_alloc w6 (.cells #[] 109) none).andThen hgr.rows (fun j hj => .inl (by cases hj; exact Nat.le_refl _))
                have h7 := H6.out.grown hg7
                obtain ⟨a7, c7, e7, -⟩ := owns_recsB ho
                exact ⟨⟨a7, c7, e7⟩, ⟨_, h7.c2⟩, h7.head.frozen 2, H6.out.newLine hg7 v7 N1 ho⟩
              have hmx : 0 + N1.length ≤ maxLen := by have := HLE.out.2; unfold maxLen; omega
              have hmy : (0 + N1.length) * 24 ≤ 140737488355328 := by have := HLE.out.2; omega
              clear h6 hold hM6 hft6 HOLD HM25 INS b0 bf0 b50 b51 b52 D2
              go_wp2_with (at_builtin; go_must (refine wpList_append_grew _ rfl (.tmp 61) (.tmp 62) 48 48 rfl w6.heap.size 109 i1 (.agg #[.string ⟨#[]⟩, .int .i64 0]) 2 24 Tryz.underlying48 hinf hp0 hp1 hp2 rfl _ 0 [] rfl HROW.out (.slice aN N1.length cN) N1.length (N1.flatMap plC) rfl HSRC.out hmx hmy HZ6.out ?_; intro v7 w7 ho7 hg7; obtain ⟨⟨a7, c7, rfl⟩, ⟨z7, k7⟩, k8, hC7⟩ := HEN.out _ _ ho7 hg7; clear ho7 hg7))
              obtain ⟨R4, hR4⟩ : ∃ R4 : RM, ({ R2 with vL := v6, fs := insR ⟨nameOf u, f1.ao, f1.cap, f1.bs, f1.wr⟩ R2.fs, vN := .slice a7 N1.length c7, line := N1 } : RM) = R4 := ⟨_, rfl⟩
              rw [hR4] at hC7
              have hM8 : Moved w (w7.setCell ⟨r, 2, none⟩ (.slice a7 N1.length c7)) (R.foot r) (R4.foot r) := HM.out.trans (HC1.out.moved.trans (HM6.out.trans hC7.moved))
              have h8 : RefAt (w7.setCell ⟨r, 2, none⟩ (.slice a7 N1.length c7)) r R4 := hC7.at_
              have h4n : R4.vN = .slice a7 N1.length c7 := by rw [← hR4]
              have h4l : R4.line = N1 := by rw [← hR4]
              have H4 : Hid (({ R2 with vL := v6, fs := insR ⟨nameOf u, f1.ao, f1.cap, f1.bs, f1.wr⟩ R2.fs, vN := .slice a7 N1.length c7, line := N1 } : RM) = R4 ∧ R4.vN = .slice a7 N1.length c7 ∧ R4.line = N1) := ⟨hR4, h4n, h4l⟩
              have c28 : (w7.setCell ⟨r, 2, none⟩ (.slice a7 N1.length c7)).cell? ⟨r, 2, none⟩ = some (.slice a7 N1.length c7) := by have := h8.c2; rwa [h4n] at this
              have HH8 : Hid (RefAt (w7.setCell ⟨r, 2, none⟩ (.slice a7 N1.length c7)) r R4 ∧ Moved w (w7.setCell ⟨r, 2, none⟩ (.slice a7 N1.length c7)) (R.foot r) (R4.foot r)) := ⟨h8, hM8⟩
              clear k7 k8 hC7 HEN HROW HSRC HZ6 H6 HM6 hmx hmy hR4 hM8 h8 h4n h4l HC1 HM H2
              generalize w7.setCell ⟨r, 2, none⟩ (.slice a7 N1.length c7) = w8 at *
              go_wp2_with fail
              go_loopw [71] (fun s71 wx => ∃ k : Nat, k ≤ N1.length ∧ s71 = .int .i64 (k : Int) ∧ RefAt wx r { R4 with line := renTo (nameOf s) (nameOf u) N1 k } ∧ Moved w wx (R.foot r) (R4.foot r)) (fun s71 _ => N1.length - (intOf s71).toNat)
              case atStart =>
                refine ⟨0, Nat.zero_le _, rfl, ?_, HH8.out.2⟩
                rw [renTo_zero, ← H4.out.2.2]
                exact HH8.out.1
              case round =>
                obtain ⟨k, hk, rfl, hRk, hMk⟩ := hrel
                have hkz : (k : Int) ≤ 1000000 := by omega
                have HRK : Hid (RefAt wr r { R4 with line := renTo (nameOf s) (nameOf u) N1 k }) := hRk
                have HMK : Hid (Moved w wr (R.foot r) (R4.foot r)) := hMk
                rcases Nat.lt_or_ge k N1.length with hlt | hge
                · have hlen := renTo_len (nameOf s) (nameOf u) N1 k
                  have hat := renTo_at (nameOf s) (nameOf u) N1 hlt
                  have hstep := renTo_step (nameOf s) (nameOf u) N1 hlt
                  obtain ⟨a9, c9, e9, hc9, hcell⟩ := hRk.lines
                  have e9' : R4.vN = .slice a9 (renTo (nameOf s) (nameOf u) N1 k).length c9 := e9
                  rw [hlen, H4.out.2.1] at e9'
                  cases e9'
                  obtain ⟨g7, rfl, hg7, k0, k1⟩ := hcell k _ hat
                  have c2k := hRk.c2
                  rw [show ({ R4 with line := renTo (nameOf s) (nameOf u) N1 k } : RM).vN = R4.vN from rfl, H4.out.2.1] at c2k
                  have hfz : wr.frozen? ⟨g7, k * 2, none⟩ = false := by
                    have hr := hRk.rowN
                    rw [show ({ R4 with line := renTo (nameOf s) (nameOf u) N1 k } : RM).vN = R4.vN from rfl, H4.out.2.1, hlen] at hr
                    exact owns_frozen hr _
                  have HVK : Hid (({ R4 with line := renTo (nameOf s) (nameOf u) N1 k } : RM).vN = .slice (some ⟨g7, 0, none⟩) (renTo (nameOf s) (nameOf u) N1 k).length c7) := by
                    show R4.vN = _
                    rw [hlen]
                    exact H4.out.2.1
                  generalize N1[k] = pp at *
                  obtain ⟨pn, pk⟩ := pp
                  simp only at k0 k1
                  have HAT : Hid ((renTo (nameOf s) (nameOf u) N1 k)[k]? = some (pn, pk)) := hat
                  have hkl : (k : Int) < (N1.length : Int) := by omega
                  by_cases hpn : pn = nameOf s
                  · have hren : renTo (nameOf s) (nameOf u) N1 (k + 1) = (renTo (nameOf s) (nameOf u) N1 k).set k (nameOf u, pk) := by
                      rw [hstep]
                      unfold renP
                      rw [if_pos hpn]
                    have hpl := HRK.out.putLine HAT.out HVK.out 0 (by omega) (.string u) (nameOf u, pk) (by simp [plC, strB_nameOf])
                    have HPL : Hid (RefAt (wr.setCell ⟨g7, k * 2, none⟩ (.string u)) r { R4 with line := renTo (nameOf s) (nameOf u) N1 (k + 1) } ∧ Moved w (wr.setCell ⟨g7, k * 2, none⟩ (.string u)) (R.foot r) (R4.foot r)) := by
                      show _ ∧ _
                      rw [hren]
                      exact ⟨hpl.1, HMK.out.trans hpl.2⟩
                    rw [hpn, strB_nameOf] at k0
                    clear hRk hMk hlen hat hstep e9 hc9 hcell hg7 hren hpl hpn
                    go_wp2_with fail
                    go_roundw
                    case rel => exact ⟨k + 1, by omega, by go_num, HPL.out.1, HPL.out.2⟩
                    case measure => simp [intOf]; omega
                  · have hren : renTo (nameOf s) (nameOf u) N1 (k + 1) = renTo (nameOf s) (nameOf u) N1 k := by
                      rw [hstep]
                      unfold renP
                      rw [if_neg hpn]
                      exact set_at_same HAT.out
                    have hbe := strB_ne2 hpn
                    have HST : Hid (renTo (nameOf s) (nameOf u) N1 (k + 1) = renTo (nameOf s) (nameOf u) N1 k) := hren
                    generalize strBD pn = sp at *
                    clear hRk hMk hlen hat hstep e9 hc9 hcell hg7 hren hpn
                    go_wp2_with fail
                    go_roundw
                    case rel => exact ⟨k + 1, by omega, by go_num, by rw [HST.out]; exact HRK.out, HMK.out⟩
                    case measure => simp [intOf]; omega
                · obtain rfl : k = N1.length := by omega
                  have HFIN : Hid (({ R4 with line := renTo (nameOf s) (nameOf u) N1 N1.length } : RM).abs = renQ R.abs (nameOf s) (nameOf u) f.sig ∧ CapOk R4.fs) := by
                    refine ⟨?_, ?_⟩
                    · rw [← H4.out.1, ← HR2.out, ← HR1.out.2.2, renTo_all, ← HN1.out]
                      show RA.mk ((insR ⟨nameOf u, f1.ao, f1.cap, f1.bs, f1.wr⟩ (F1.filter (fun p => !(p.nm == nameOf s)))).map RF.sig) _ _ _ _ _ _ = _
                      rw [ins_sigR, drop_sigR, HF1.out.2, ← HSIG.out.1]
                      rfl
                    · rw [← H4.out.1]
                      exact HCP2.out
                  clear hRk hMk
                  go_wp2_with fail
                  go_ret
                  rw [HQ2.out]
                  exact ⟨rfl, _, ⟨_, HRK.out, HFIN.out.1, rfl, HFIN.out.2⟩, HMK.out⟩
    · have HQ3 : Hid (q = (3, R.abs)) := by
        have := HQ
        simp only [hgd, Bool.false_eq_true, if_false] at this
        exact this
      clear HQ
      cases hg1 : goodB (nameOf s)
      · rw [hg1] at G1
        clear h1 hF hcap hs hu hn hgd
        go_enter Tryz.func36, Tryz.ntmps36
        go_wp2_with (go_at_call 71; with_reducible (refine (G1.out _).mono ?_); rintro x _ ⟨rfl, hw⟩; obtain rfl := hw.symm; clear hw)
        go_ret
        rw [HQ3.out]
        exact ⟨rfl, _, ⟨R, H1.out, rfl, rfl, HC.out⟩, Moved.refl _ _⟩
      · have hg2 : goodB (nameOf u) = false := by rw [hg1] at hgd; simpa using hgd
        rw [hg1] at G1
        rw [hg2] at G2
        clear h1 hF hcap hs hu hn hgd
        go_enter Tryz.func36, Tryz.ntmps36
        go_wp2_with (first | (go_at_call 71; with_reducible (refine (G1.out _).mono ?_); rintro x _ ⟨rfl, hw⟩; obtain rfl := hw.symm; clear hw) | (go_at_call 71; with_reducible (refine (G2.out _).mono ?_); rintro x _ ⟨rfl, hw⟩; obtain rfl := hw.symm; clear hw))
        go_ret
        rw [HQ3.out]
        exact ⟨rfl, _, ⟨R, H1.out, rfl, rfl, HC.out⟩, Moved.refl _ _⟩
  · have HQ3 : Hid (q = (9, R.abs)) := by
      have := HQ
      simp only [hoff, if_true] at this
      exact this
    rw [hoff] at c3
    clear h1 hF hcap hs hu hn HQ
    go_enter Tryz.func36, Tryz.ntmps36
    go_wp2_with fail
    go_ret
    rw [HQ3.out]
    exact ⟨rfl, _, ⟨R, H1.out, rfl, rfl, HC.out⟩, Moved.refl _ _⟩
end Go.Proofs.YtgkdodcidancpaaGreatDoor

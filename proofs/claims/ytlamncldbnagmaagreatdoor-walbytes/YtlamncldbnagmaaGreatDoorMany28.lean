/-
  SEVERAL TEXTS IN ONE: RefCell, RefReads, WalIter, KeyEnv, KeyPrint.
-/
import Derived.Test.YtlamncldbnagmaaGreatDoorMany27
import Derived.Test.YtlamncldbnagmaaGreatDoorMany22
import Derived.Test.YtlamncldbnagmaaGreatDoorMany26
import Derived.Test.YtlamncldbnagmaaGreatDoorMany12
import Derived.Test.YtlamncldbnagmaaGreatDoorMany15
import Derived.Test.YtlamncldbnagmaaGreatDoorMany1
import Derived.Test.YtlamncldbnagmaaGreatDoorMany3
import Derived.Lib.ItoaLen
namespace Go.Proofs.YtlamncldbnagmaaGreatDoor
open Go.RowKit

def cellZ : Array Value := #[.string ⟨#[]⟩, .string ⟨#[]⟩, .int .i64 0, .string ⟨#[]⟩, .int .i64 0, .bool false, .int .i64 0, .int .i64 0, .int .i64 0, .string ⟨#[]⟩]
set_option maxRecDepth 100000 in
set_option maxHeartbeats 3200000 in
theorem refCell_any (R : Nat) (lb : List UInt8) (w : World) (h : RS w R lb false) :
    Calls Tryz.prog 76 #[.pointer (some ⟨R, 0, none⟩)] w fun e w' => ∃ c lb' g', e = .returned (.agg (cellA c)) ∧ RS w' R lb' g' ∧ w.grownBy w' (some R) ∧ Took lb c lb' g' := by
  have HR : Hid (R < w.heap.size) := h.lt
  have H0 : Hid (MidR _ _ _ _ _ _ _ _) := MidR.start h 67 cellZ
  clear h
  unfold cellZ at *
  go_enter Tryz.func76, Tryz.ntmps76
  go_wp2_with fail
  have Hc : Hid _ := refTextR_any R lb false _ H0.out.rs
  generalize hy1 : tS (lb, false) = y at Hc
  obtain ⟨s1, lb1, g1⟩ := y
  have Hy1 : Hid (tS (lb, false) = (s1, (lb1, g1))) := hy1
  clear hy1
  refine Calls.mono (Hid.out Hc) ?_
  rintro e w1 ⟨rfl, hR1, hg1⟩
  have H1a : Hid (MidR _ _ _ _ _ _ _ _) := H0.out.call HR.out hR1 hg1
  clear Hc hR1 hg1
  have p0 := H1a.out.box.cell 0
  have q0 := H1a.out.box.frozen 0
  have H1 : Hid (MidR _ _ _ _ _ _ _ #[.string (bytesOf s1), .string ⟨#[]⟩, .int .i64 0, .string ⟨#[]⟩, .int .i64 0, .bool false, .int .i64 0, .int .i64 0, .int .i64 0, .string ⟨#[]⟩]) := H1a.out.set HR.out 0 (.string (bytesOf s1))
  go_wp2_with fail
  clear p0 q0
  have Hc : Hid _ := refTextR_any R lb1 g1 _ H1.out.rs
  generalize hy2 : tS (lb1, g1) = y at Hc
  obtain ⟨s2, lb2, g2⟩ := y
  have Hy2 : Hid (tS (lb1, g1) = (s2, (lb2, g2))) := hy2
  clear hy2
  refine Calls.mono (Hid.out Hc) ?_
  rintro e w2 ⟨rfl, hR2, hg2⟩
  have H2a : Hid (MidR _ _ _ _ _ _ _ _) := H1.out.call HR.out hR2 hg2
  clear Hc hR2 hg2
  have p1 := H2a.out.box.cell 1
  have q1 := H2a.out.box.frozen 1
  have H2 : Hid (MidR _ _ _ _ _ _ _ #[.string (bytesOf s1), .string (bytesOf s2), .int .i64 0, .string ⟨#[]⟩, .int .i64 0, .bool false, .int .i64 0, .int .i64 0, .int .i64 0, .string ⟨#[]⟩]) := H2a.out.set HR.out 1 (.string (bytesOf s2))
  go_wp2_with fail
  clear p1 q1
  have Hc : Hid _ := refNum_any R lb2 g2 _ H2.out.rs
  have Hb3 : Hid _ := nS_lt (lb2, g2)
  generalize hy3 : nS (lb2, g2) = y at Hc Hb3
  obtain ⟨n3, lb3, g3⟩ := y
  have Hy3 : Hid (nS (lb2, g2) = (n3, (lb3, g3))) := hy3
  clear hy3
  refine Calls.mono (Hid.out Hc) ?_
  rintro e w3 ⟨rfl, hR3, hg3⟩
  have H3a : Hid (MidR _ _ _ _ _ _ _ _) := H2.out.call HR.out hR3 hg3
  clear Hc hR3 hg3
  go_wp2_with fail
  refine Calls.mono (refZag_any (n3 : Int) _ (by omega) (by have h2 : n3 < 18446744073709551616 := Hb3.out; omega)) ?_
  rintro e w3b ⟨rfl, rfl⟩
  have p2 := H3a.out.box.cell 2
  have q2 := H3a.out.box.frozen 2
  have H3 : Hid (MidR _ _ _ _ _ _ _ #[.string (bytesOf s1), .string (bytesOf s2), .int .i64 (zagZ n3), .string ⟨#[]⟩, .int .i64 0, .bool false, .int .i64 0, .int .i64 0, .int .i64 0, .string ⟨#[]⟩]) := H3a.out.set HR.out 2 (.int .i64 (zagZ n3))
  go_wp2_with fail
  clear p2 q2
  have Hc : Hid _ := refTextR_any R lb3 g3 _ H3.out.rs
  generalize hy4 : tS (lb3, g3) = y at Hc
  obtain ⟨s4, lb4, g4⟩ := y
  have Hy4 : Hid (tS (lb3, g3) = (s4, (lb4, g4))) := hy4
  clear hy4
  refine Calls.mono (Hid.out Hc) ?_
  rintro e w4 ⟨rfl, hR4, hg4⟩
  have H4a : Hid (MidR _ _ _ _ _ _ _ _) := H3.out.call HR.out hR4 hg4
  clear Hc hR4 hg4
  have p3 := H4a.out.box.cell 3
  have q3 := H4a.out.box.frozen 3
  have H4 : Hid (MidR _ _ _ _ _ _ _ #[.string (bytesOf s1), .string (bytesOf s2), .int .i64 (zagZ n3), .string (bytesOf s4), .int .i64 0, .bool false, .int .i64 0, .int .i64 0, .int .i64 0, .string ⟨#[]⟩]) := H4a.out.set HR.out 3 (.string (bytesOf s4))
  go_wp2_with fail
  clear p3 q3
  have Hc : Hid _ := refNum_any R lb4 g4 _ H4.out.rs
  have Hb5 : Hid _ := nS_lt (lb4, g4)
  generalize hy5 : nS (lb4, g4) = y at Hc Hb5
  obtain ⟨n5, lb5, g5⟩ := y
  have Hy5 : Hid (nS (lb4, g4) = (n5, (lb5, g5))) := hy5
  clear hy5
  refine Calls.mono (Hid.out Hc) ?_
  rintro e w5 ⟨rfl, hR5, hg5⟩
  have H5a : Hid (MidR _ _ _ _ _ _ _ _) := H4.out.call HR.out hR5 hg5
  clear Hc hR5 hg5
  go_wp2_with fail
  refine Calls.mono (refZag_any (n5 : Int) _ (by omega) (by have h2 : n5 < 18446744073709551616 := Hb5.out; omega)) ?_
  rintro e w5b ⟨rfl, rfl⟩
  have p4 := H5a.out.box.cell 4
  have q4 := H5a.out.box.frozen 4
  have H5 : Hid (MidR _ _ _ _ _ _ _ #[.string (bytesOf s1), .string (bytesOf s2), .int .i64 (zagZ n3), .string (bytesOf s4), .int .i64 (zagZ n5), .bool false, .int .i64 0, .int .i64 0, .int .i64 0, .string ⟨#[]⟩]) := H5a.out.set HR.out 4 (.int .i64 (zagZ n5))
  have hhead := head_of Hy1.out Hy2.out Hy3.out Hy4.out Hy5.out
  obtain ⟨ao, cap, hB, hs, hn, hc, ho⟩ := H5.out.rs.ex
  have hmx := H5.out.rs.max
  have c0 := hB.cell 0
  have c1 := hB.cell 1
  have f0 := hB.frozen 0
  have f1 := hB.frozen 1
  have Hhead : Hid _ := hhead
  clear hhead
  cases lb5 with
  | nil =>
    have H6 : Hid (MidR _ _ _ _ _ _ _ _) := H5.out.turn HR.out H5.out.rs.bad
    clear hs hn hc ho
    have z0 := H6.out.res.cell 0
    have y0 := H6.out.res.frozen 0
    have x0 := H6.out.box.cell 0
    have z1 := H6.out.res.cell 1
    have y1 := H6.out.res.frozen 1
    have x1 := H6.out.box.cell 1
    have z2 := H6.out.res.cell 2
    have y2 := H6.out.res.frozen 2
    have x2 := H6.out.box.cell 2
    have z3 := H6.out.res.cell 3
    have y3 := H6.out.res.frozen 3
    have x3 := H6.out.box.cell 3
    have z4 := H6.out.res.cell 4
    have y4 := H6.out.res.frozen 4
    have x4 := H6.out.box.cell 4
    have z5 := H6.out.res.cell 5
    have y5 := H6.out.res.frozen 5
    have x5 := H6.out.box.cell 5
    have z6 := H6.out.res.cell 6
    have y6 := H6.out.res.frozen 6
    have x6 := H6.out.box.cell 6
    have z7 := H6.out.res.cell 7
    have y7 := H6.out.res.frozen 7
    have x7 := H6.out.box.cell 7
    have z8 := H6.out.res.cell 8
    have y8 := H6.out.res.frozen 8
    have x8 := H6.out.box.cell 8
    have z9 := H6.out.res.cell 9
    have y9 := H6.out.res.frozen 9
    have x9 := H6.out.box.cell 9
    go_wp2_with fail
    have HF : MidR _ _ _ _ _ _ _ _ := H6.out.put10 HR.out (.string (bytesOf s1)) (.string (bytesOf s2)) (.int .i64 (zagZ n3)) (.string (bytesOf s4)) (.int .i64 (zagZ n5)) (.bool false) (.int .i64 0) (.int .i64 0) (.int .i64 0) (.string ⟨#[]⟩)
    refine bodyPost_ret (v := .agg (cellA (⟨⟨bytesOf s1, bytesOf s2, zagZ n3, bytesOf s4⟩, ⟨zagZ n5, false, 0, noVal⟩⟩ : CellV))) (results_cell_row Tryz.results76 _ _ w.heap.size 67 _ _ _ rfl (by exact HF.res.heap) Tryz.underlying67 rfl (by kernel_rfl)) rfl ?_
    refine ⟨(⟨⟨bytesOf s1, bytesOf s2, zagZ n3, bytesOf s4⟩, ⟨zagZ n5, false, 0, noVal⟩⟩ : CellV), [], true, rfl, HF.rs, HF.grown, ?_⟩
    have hcn : cellN lb = none := by
      rcases Hhead.out with ⟨_, e⟩ | ⟨_, _, e⟩
      · obtain ⟨r0, e1, e2⟩ := cell_of_head e
        unfold cellN verN
        simp only [e1, e2]
      · exact cell_of_none e
    unfold Took
    rw [hcn]
  | cons b r =>
    obtain ⟨bb, off, rfl, hcell⟩ := sees_at hs (n := 0) (by simp)
    have Hh : Hid (headN lb = some ((⟨bytesOf s1, bytesOf s2, zagZ n3, bytesOf s4⟩, zagZ n5), b :: r) ∧ g5 = false) := by
      rcases Hhead.out with ⟨e1, e⟩ | ⟨_, e1, _⟩
      · exact ⟨e, e1⟩
      · cases e1
    have hcell2 := hcell
    simp only [List.getD_cons_zero, Nat.add_zero] at hcell2
    have hlI : ((r.length : Int) + 1 == 0) = false := by simp; omega
    simp only [List.length_cons] at c0
    simp only [List.length_cons] at hc
    simp only [List.length_cons] at hmx
    have hg5 : g5 = false := Hh.out.2
    subst hg5
    clear hcell hn
    by_cases hb2 : 1 < b.toNat
    · have t1 : (1 : Int) < (b.toNat : Int) := by omega
      have H6 : Hid (MidR _ _ _ _ _ _ _ _) := H5.out.turn HR.out H5.out.rs.bad
      have Hb2 : Hid _ := hb2
      clear hs hc ho hb2
      have z0 := H6.out.res.cell 0
      have y0 := H6.out.res.frozen 0
      have x0 := H6.out.box.cell 0
      have z1 := H6.out.res.cell 1
      have y1 := H6.out.res.frozen 1
      have x1 := H6.out.box.cell 1
      have z2 := H6.out.res.cell 2
      have y2 := H6.out.res.frozen 2
      have x2 := H6.out.box.cell 2
      have z3 := H6.out.res.cell 3
      have y3 := H6.out.res.frozen 3
      have x3 := H6.out.box.cell 3
      have z4 := H6.out.res.cell 4
      have y4 := H6.out.res.frozen 4
      have x4 := H6.out.box.cell 4
      have z5 := H6.out.res.cell 5
      have y5 := H6.out.res.frozen 5
      have x5 := H6.out.box.cell 5
      have z6 := H6.out.res.cell 6
      have y6 := H6.out.res.frozen 6
      have x6 := H6.out.box.cell 6
      have z7 := H6.out.res.cell 7
      have y7 := H6.out.res.frozen 7
      have x7 := H6.out.box.cell 7
      have z8 := H6.out.res.cell 8
      have y8 := H6.out.res.frozen 8
      have x8 := H6.out.box.cell 8
      have z9 := H6.out.res.cell 9
      have y9 := H6.out.res.frozen 9
      have x9 := H6.out.box.cell 9
      go_wp2_with fail
      have HF : MidR _ _ _ _ _ _ _ _ := H6.out.put10 HR.out (.string (bytesOf s1)) (.string (bytesOf s2)) (.int .i64 (zagZ n3)) (.string (bytesOf s4)) (.int .i64 (zagZ n5)) (.bool false) (.int .i64 0) (.int .i64 0) (.int .i64 0) (.string ⟨#[]⟩)
      refine bodyPost_ret (v := .agg (cellA (⟨⟨bytesOf s1, bytesOf s2, zagZ n3, bytesOf s4⟩, ⟨zagZ n5, false, 0, noVal⟩⟩ : CellV))) (results_cell_row Tryz.results76 _ _ w.heap.size 67 _ _ _ rfl (by exact HF.res.heap) Tryz.underlying67 rfl (by kernel_rfl)) rfl ?_
      refine ⟨(⟨⟨bytesOf s1, bytesOf s2, zagZ n3, bytesOf s4⟩, ⟨zagZ n5, false, 0, noVal⟩⟩ : CellV), (b :: r), true, rfl, HF.rs, HF.grown, ?_⟩
      have hcn : cellN lb = none := by
        obtain ⟨r0, e1, e2⟩ := cell_of_head Hh.out.1
        have h0 : ¬ b = 0 := fun e => by have h2 : 1 < b.toNat := Hb2.out; subst e; simp at h2
        have h1 : ¬ b = 1 := fun e => by have h2 : 1 < b.toNat := Hb2.out; subst e; simp at h2
        unfold cellN verN
        simp only [e1, e2, h0, h1, if_false]
      unfold Took
      rw [hcn]
    have hb01 : b = 0 ∨ b = 1 := by
      rcases (show b.toNat = 0 ∨ b.toNat = 1 by omega) with e | e
      · exact .inl (UInt8.toNat_inj.1 (by simpa using e))
      · exact .inr (UInt8.toNat_inj.1 (by simpa using e))
    clear hb2
    have hck : (cap = 1 ∧ r = []) ∨ cap ≠ 1 := by
      by_cases h : cap = 1
      · exact .inl ⟨h, List.eq_nil_of_length_eq_zero (by omega)⟩
      · exact .inr h
    rcases hck with ⟨rfl, rfl⟩ | hck
    · have H6 : Hid (MidR _ _ _ _ _ _ _ _) := H5.out.turn HR.out (RS.off (lb := []) (ao' := some ⟨bb, off, none⟩) hB rfl)
      clear hs ho
      rcases hb01 with rfl | rfl
      · go_wp2_with fail
        have Hc : Hid _ := refNum_any R [] false _ H6.out.rs
        have Hb16 : Hid _ := nS_lt ([], false)
        generalize hy16 : nS ([], false) = y at Hc Hb16
        obtain ⟨n16, lb16, g16⟩ := y
        have Hy16 : Hid (nS ([], false) = (n16, (lb16, g16))) := hy16
        clear hy16
        refine Calls.mono (Hid.out Hc) ?_
        rintro e w16 ⟨rfl, hR16, hg16⟩
        have H16a : Hid (MidR _ _ _ _ _ _ _ _) := H6.out.call HR.out hR16 hg16
        clear Hc hR16 hg16
        have hkz16 := kindZ_wrap (v := n16) Hb16.out
        have p7 := H16a.out.box.cell 7
        have q7 := H16a.out.box.frozen 7
        have H16 : Hid (MidR _ _ _ _ _ _ _ #[.string (bytesOf s1), .string (bytesOf s2), .int .i64 (zagZ n3), .string (bytesOf s4), .int .i64 (zagZ n5), .bool false, .int .i64 0, .int .i64 (kindZ n16), .int .i64 0, .string ⟨#[]⟩]) := H16a.out.set HR.out 7 (.int .i64 (kindZ n16))
        go_wp2_with fail
        clear p7 q7
        have Hc : Hid _ := refNum_any R lb16 g16 _ H16.out.rs
        have Hb17 : Hid _ := nS_lt (lb16, g16)
        generalize hy17 : nS (lb16, g16) = y at Hc Hb17
        obtain ⟨n17, lb17, g17⟩ := y
        have Hy17 : Hid (nS (lb16, g16) = (n17, (lb17, g17))) := hy17
        clear hy17
        refine Calls.mono (Hid.out Hc) ?_
        rintro e w17 ⟨rfl, hR17, hg17⟩
        have H17a : Hid (MidR _ _ _ _ _ _ _ _) := H16.out.call HR.out hR17 hg17
        clear Hc hR17 hg17
        go_wp2_with fail
        refine Calls.mono (refZag_any (n17 : Int) _ (by omega) (by have h2 : n17 < 18446744073709551616 := Hb17.out; omega)) ?_
        rintro e w17b ⟨rfl, rfl⟩
        have p8 := H17a.out.box.cell 8
        have q8 := H17a.out.box.frozen 8
        have H17 : Hid (MidR _ _ _ _ _ _ _ #[.string (bytesOf s1), .string (bytesOf s2), .int .i64 (zagZ n3), .string (bytesOf s4), .int .i64 (zagZ n5), .bool false, .int .i64 0, .int .i64 (kindZ n16), .int .i64 (zagZ n17), .string ⟨#[]⟩]) := H17a.out.set HR.out 8 (.int .i64 (zagZ n17))
        go_wp2_with fail
        clear p8 q8
        have Hc : Hid _ := refTextR_any R lb17 g17 _ H17.out.rs
        generalize hy18 : tS (lb17, g17) = y at Hc
        obtain ⟨s18, lb18, g18⟩ := y
        have Hy18 : Hid (tS (lb17, g17) = (s18, (lb18, g18))) := hy18
        clear hy18
        refine Calls.mono (Hid.out Hc) ?_
        rintro e w18 ⟨rfl, hR18, hg18⟩
        have H18a : Hid (MidR _ _ _ _ _ _ _ _) := H17.out.call HR.out hR18 hg18
        clear Hc hR18 hg18
        have p9 := H18a.out.box.cell 9
        have q9 := H18a.out.box.frozen 9
        have H18 : Hid (MidR _ _ _ _ _ _ _ #[.string (bytesOf s1), .string (bytesOf s2), .int .i64 (zagZ n3), .string (bytesOf s4), .int .i64 (zagZ n5), .bool false, .int .i64 0, .int .i64 (kindZ n16), .int .i64 (zagZ n17), .string (bytesOf s18)]) := H18a.out.set HR.out 9 (.string (bytesOf s18))
        have z0 := H18.out.res.cell 0
        have y0 := H18.out.res.frozen 0
        have x0 := H18.out.box.cell 0
        have z1 := H18.out.res.cell 1
        have y1 := H18.out.res.frozen 1
        have x1 := H18.out.box.cell 1
        have z2 := H18.out.res.cell 2
        have y2 := H18.out.res.frozen 2
        have x2 := H18.out.box.cell 2
        have z3 := H18.out.res.cell 3
        have y3 := H18.out.res.frozen 3
        have x3 := H18.out.box.cell 3
        have z4 := H18.out.res.cell 4
        have y4 := H18.out.res.frozen 4
        have x4 := H18.out.box.cell 4
        have z5 := H18.out.res.cell 5
        have y5 := H18.out.res.frozen 5
        have x5 := H18.out.box.cell 5
        have z6 := H18.out.res.cell 6
        have y6 := H18.out.res.frozen 6
        have x6 := H18.out.box.cell 6
        have z7 := H18.out.res.cell 7
        have y7 := H18.out.res.frozen 7
        have x7 := H18.out.box.cell 7
        have z8 := H18.out.res.cell 8
        have y8 := H18.out.res.frozen 8
        have x8 := H18.out.box.cell 8
        have z9 := H18.out.res.cell 9
        have y9 := H18.out.res.frozen 9
        have x9 := H18.out.box.cell 9
        go_wp2_with fail
        have HF : MidR _ _ _ _ _ _ _ _ := H18.out.put10 HR.out (.string (bytesOf s1)) (.string (bytesOf s2)) (.int .i64 (zagZ n3)) (.string (bytesOf s4)) (.int .i64 (zagZ n5)) (.bool false) (.int .i64 0) (.int .i64 (kindZ n16)) (.int .i64 (zagZ n17)) (.string (bytesOf s18))
        refine bodyPost_ret (v := .agg (cellA (⟨⟨bytesOf s1, bytesOf s2, zagZ n3, bytesOf s4⟩, ⟨zagZ n5, false, 0, ⟨kindZ n16, zagZ n17, bytesOf s18⟩⟩⟩ : CellV))) (results_cell_row Tryz.results76 _ _ w.heap.size 67 _ _ _ rfl (by exact HF.res.heap) Tryz.underlying67 rfl (by kernel_rfl)) rfl ?_
        refine ⟨(⟨⟨bytesOf s1, bytesOf s2, zagZ n3, bytesOf s4⟩, ⟨zagZ n5, false, 0, ⟨kindZ n16, zagZ n17, bytesOf s18⟩⟩⟩ : CellV), lb18, g18, rfl, HF.rs, HF.grown, ?_⟩
        obtain ⟨r0, e1, e2⟩ := cell_of_head Hh.out.1
        rcases val_of Hy16.out Hy17.out Hy18.out with ⟨e3, e4⟩ | ⟨e3, e4⟩
        · have hcn : cellN lb = some (⟨⟨bytesOf s1, bytesOf s2, zagZ n3, bytesOf s4⟩, ⟨zagZ n5, false, 0, ⟨kindZ n16, zagZ n17, bytesOf s18⟩⟩⟩, lb18) := by
            unfold cellN verN
            simp only [e1, e2, if_true, e4]
          unfold Took
          rw [hcn]
          exact ⟨rfl, rfl, e3⟩
        · have hcn : cellN lb = none := by
            unfold cellN verN
            simp only [e1, e2, if_true, e4]
          unfold Took
          rw [hcn]
          exact e3
      · have p5 := H6.out.box.cell 5
        have q5 := H6.out.box.frozen 5
        have H7 : Hid (MidR _ _ _ _ _ _ _ #[.string (bytesOf s1), .string (bytesOf s2), .int .i64 (zagZ n3), .string (bytesOf s4), .int .i64 (zagZ n5), .bool true, .int .i64 0, .int .i64 0, .int .i64 0, .string ⟨#[]⟩]) := H6.out.set HR.out 5 (.bool true)
        go_wp2_with fail
        clear p5 q5
        have Hc : Hid _ := refNum_any R [] false _ H7.out.rs
        have Hb16 : Hid _ := nS_lt ([], false)
        generalize hy16 : nS ([], false) = y at Hc Hb16
        obtain ⟨n16, lb16, g16⟩ := y
        have Hy16 : Hid (nS ([], false) = (n16, (lb16, g16))) := hy16
        clear hy16
        refine Calls.mono (Hid.out Hc) ?_
        rintro e w16 ⟨rfl, hR16, hg16⟩
        have H16a : Hid (MidR _ _ _ _ _ _ _ _) := H7.out.call HR.out hR16 hg16
        clear Hc hR16 hg16
        go_wp2_with fail
        refine Calls.mono (refZag_any (n16 : Int) _ (by omega) (by have h2 : n16 < 18446744073709551616 := Hb16.out; omega)) ?_
        rintro e w16b ⟨rfl, rfl⟩
        have p6 := H16a.out.box.cell 6
        have q6 := H16a.out.box.frozen 6
        have H16 : Hid (MidR _ _ _ _ _ _ _ #[.string (bytesOf s1), .string (bytesOf s2), .int .i64 (zagZ n3), .string (bytesOf s4), .int .i64 (zagZ n5), .bool true, .int .i64 (zagZ n16), .int .i64 0, .int .i64 0, .string ⟨#[]⟩]) := H16a.out.set HR.out 6 (.int .i64 (zagZ n16))
        have z0 := H16.out.res.cell 0
        have y0 := H16.out.res.frozen 0
        have x0 := H16.out.box.cell 0
        have z1 := H16.out.res.cell 1
        have y1 := H16.out.res.frozen 1
        have x1 := H16.out.box.cell 1
        have z2 := H16.out.res.cell 2
        have y2 := H16.out.res.frozen 2
        have x2 := H16.out.box.cell 2
        have z3 := H16.out.res.cell 3
        have y3 := H16.out.res.frozen 3
        have x3 := H16.out.box.cell 3
        have z4 := H16.out.res.cell 4
        have y4 := H16.out.res.frozen 4
        have x4 := H16.out.box.cell 4
        have z5 := H16.out.res.cell 5
        have y5 := H16.out.res.frozen 5
        have x5 := H16.out.box.cell 5
        have z6 := H16.out.res.cell 6
        have y6 := H16.out.res.frozen 6
        have x6 := H16.out.box.cell 6
        have z7 := H16.out.res.cell 7
        have y7 := H16.out.res.frozen 7
        have x7 := H16.out.box.cell 7
        have z8 := H16.out.res.cell 8
        have y8 := H16.out.res.frozen 8
        have x8 := H16.out.box.cell 8
        have z9 := H16.out.res.cell 9
        have y9 := H16.out.res.frozen 9
        have x9 := H16.out.box.cell 9
        go_wp2_with fail
        have HF : MidR _ _ _ _ _ _ _ _ := H16.out.put10 HR.out (.string (bytesOf s1)) (.string (bytesOf s2)) (.int .i64 (zagZ n3)) (.string (bytesOf s4)) (.int .i64 (zagZ n5)) (.bool true) (.int .i64 (zagZ n16)) (.int .i64 0) (.int .i64 0) (.string ⟨#[]⟩)
        refine bodyPost_ret (v := .agg (cellA (⟨⟨bytesOf s1, bytesOf s2, zagZ n3, bytesOf s4⟩, ⟨zagZ n5, true, zagZ n16, noVal⟩⟩ : CellV))) (results_cell_row Tryz.results76 _ _ w.heap.size 67 _ _ _ rfl (by exact HF.res.heap) Tryz.underlying67 rfl (by kernel_rfl)) rfl ?_
        refine ⟨(⟨⟨bytesOf s1, bytesOf s2, zagZ n3, bytesOf s4⟩, ⟨zagZ n5, true, zagZ n16, noVal⟩⟩ : CellV), lb16, g16, rfl, HF.rs, HF.grown, ?_⟩
        obtain ⟨r0, e1, e2⟩ := cell_of_head Hh.out.1
        cases g16
        · obtain ⟨_, f1⟩ := nS_false Hy16.out
          simp only at f1
          have hcn : cellN lb = some (⟨⟨bytesOf s1, bytesOf s2, zagZ n3, bytesOf s4⟩, ⟨zagZ n5, true, zagZ n16, noVal⟩⟩, lb16) := by
            unfold cellN verN signN
            unfold signN at e2
            simp only [e1, e2, show ¬ ((1 : UInt8) = 0) by decide, if_true, if_false, f1]
          unfold Took
          rw [hcn]
          exact ⟨rfl, rfl, rfl⟩
        · have f1 := (nS_true Hy16.out).1.resolve_left (by simp)
          simp only at f1
          have hcn : cellN lb = none := by
            unfold cellN verN signN
            unfold signN at e2
            simp only [e1, e2, show ¬ ((1 : UInt8) = 0) by decide, if_true, if_false, f1]
          unfold Took
          rw [hcn]
    · have H6 : Hid (MidR w (World.setCell _ ⟨R, 0, none⟩ (.slice (some ⟨bb, off + 1, none⟩) r.length (cap - 1))) R r false _ _ _) := H5.out.turn HR.out (RS.on (n := 1) (r := r) hB hs hc ho hmx rfl (by simp) (by simp))
      have hc1 : 1 ≤ cap := by omega
      clear hs ho
      rcases hb01 with rfl | rfl
      · go_wp2_with fail
        have Hc : Hid _ := refNum_any R r false _ H6.out.rs
        have Hb16 : Hid _ := nS_lt (r, false)
        generalize hy16 : nS (r, false) = y at Hc Hb16
        obtain ⟨n16, lb16, g16⟩ := y
        have Hy16 : Hid (nS (r, false) = (n16, (lb16, g16))) := hy16
        clear hy16
        refine Calls.mono (Hid.out Hc) ?_
        rintro e w16 ⟨rfl, hR16, hg16⟩
        have H16a : Hid (MidR _ _ _ _ _ _ _ _) := H6.out.call HR.out hR16 hg16
        clear Hc hR16 hg16
        have hkz16 := kindZ_wrap (v := n16) Hb16.out
        have p7 := H16a.out.box.cell 7
        have q7 := H16a.out.box.frozen 7
        have H16 : Hid (MidR _ _ _ _ _ _ _ #[.string (bytesOf s1), .string (bytesOf s2), .int .i64 (zagZ n3), .string (bytesOf s4), .int .i64 (zagZ n5), .bool false, .int .i64 0, .int .i64 (kindZ n16), .int .i64 0, .string ⟨#[]⟩]) := H16a.out.set HR.out 7 (.int .i64 (kindZ n16))
        go_wp2_with fail
        clear p7 q7
        have Hc : Hid _ := refNum_any R lb16 g16 _ H16.out.rs
        have Hb17 : Hid _ := nS_lt (lb16, g16)
        generalize hy17 : nS (lb16, g16) = y at Hc Hb17
        obtain ⟨n17, lb17, g17⟩ := y
        have Hy17 : Hid (nS (lb16, g16) = (n17, (lb17, g17))) := hy17
        clear hy17
        refine Calls.mono (Hid.out Hc) ?_
        rintro e w17 ⟨rfl, hR17, hg17⟩
        have H17a : Hid (MidR _ _ _ _ _ _ _ _) := H16.out.call HR.out hR17 hg17
        clear Hc hR17 hg17
        go_wp2_with fail
        refine Calls.mono (refZag_any (n17 : Int) _ (by omega) (by have h2 : n17 < 18446744073709551616 := Hb17.out; omega)) ?_
        rintro e w17b ⟨rfl, rfl⟩
        have p8 := H17a.out.box.cell 8
        have q8 := H17a.out.box.frozen 8
        have H17 : Hid (MidR _ _ _ _ _ _ _ #[.string (bytesOf s1), .string (bytesOf s2), .int .i64 (zagZ n3), .string (bytesOf s4), .int .i64 (zagZ n5), .bool false, .int .i64 0, .int .i64 (kindZ n16), .int .i64 (zagZ n17), .string ⟨#[]⟩]) := H17a.out.set HR.out 8 (.int .i64 (zagZ n17))
        go_wp2_with fail
        clear p8 q8
        have Hc : Hid _ := refTextR_any R lb17 g17 _ H17.out.rs
        generalize hy18 : tS (lb17, g17) = y at Hc
        obtain ⟨s18, lb18, g18⟩ := y
        have Hy18 : Hid (tS (lb17, g17) = (s18, (lb18, g18))) := hy18
        clear hy18
        refine Calls.mono (Hid.out Hc) ?_
        rintro e w18 ⟨rfl, hR18, hg18⟩
        have H18a : Hid (MidR _ _ _ _ _ _ _ _) := H17.out.call HR.out hR18 hg18
        clear Hc hR18 hg18
        have p9 := H18a.out.box.cell 9
        have q9 := H18a.out.box.frozen 9
        have H18 : Hid (MidR _ _ _ _ _ _ _ #[.string (bytesOf s1), .string (bytesOf s2), .int .i64 (zagZ n3), .string (bytesOf s4), .int .i64 (zagZ n5), .bool false, .int .i64 0, .int .i64 (kindZ n16), .int .i64 (zagZ n17), .string (bytesOf s18)]) := H18a.out.set HR.out 9 (.string (bytesOf s18))
        have z0 := H18.out.res.cell 0
        have y0 := H18.out.res.frozen 0
        have x0 := H18.out.box.cell 0
        have z1 := H18.out.res.cell 1
        have y1 := H18.out.res.frozen 1
        have x1 := H18.out.box.cell 1
        have z2 := H18.out.res.cell 2
        have y2 := H18.out.res.frozen 2
        have x2 := H18.out.box.cell 2
        have z3 := H18.out.res.cell 3
        have y3 := H18.out.res.frozen 3
        have x3 := H18.out.box.cell 3
        have z4 := H18.out.res.cell 4
        have y4 := H18.out.res.frozen 4
        have x4 := H18.out.box.cell 4
        have z5 := H18.out.res.cell 5
        have y5 := H18.out.res.frozen 5
        have x5 := H18.out.box.cell 5
        have z6 := H18.out.res.cell 6
        have y6 := H18.out.res.frozen 6
        have x6 := H18.out.box.cell 6
        have z7 := H18.out.res.cell 7
        have y7 := H18.out.res.frozen 7
        have x7 := H18.out.box.cell 7
        have z8 := H18.out.res.cell 8
        have y8 := H18.out.res.frozen 8
        have x8 := H18.out.box.cell 8
        have z9 := H18.out.res.cell 9
        have y9 := H18.out.res.frozen 9
        have x9 := H18.out.box.cell 9
        go_wp2_with fail
        have HF : MidR _ _ _ _ _ _ _ _ := H18.out.put10 HR.out (.string (bytesOf s1)) (.string (bytesOf s2)) (.int .i64 (zagZ n3)) (.string (bytesOf s4)) (.int .i64 (zagZ n5)) (.bool false) (.int .i64 0) (.int .i64 (kindZ n16)) (.int .i64 (zagZ n17)) (.string (bytesOf s18))
        refine bodyPost_ret (v := .agg (cellA (⟨⟨bytesOf s1, bytesOf s2, zagZ n3, bytesOf s4⟩, ⟨zagZ n5, false, 0, ⟨kindZ n16, zagZ n17, bytesOf s18⟩⟩⟩ : CellV))) (results_cell_row Tryz.results76 _ _ w.heap.size 67 _ _ _ rfl (by exact HF.res.heap) Tryz.underlying67 rfl (by kernel_rfl)) rfl ?_
        refine ⟨(⟨⟨bytesOf s1, bytesOf s2, zagZ n3, bytesOf s4⟩, ⟨zagZ n5, false, 0, ⟨kindZ n16, zagZ n17, bytesOf s18⟩⟩⟩ : CellV), lb18, g18, rfl, HF.rs, HF.grown, ?_⟩
        obtain ⟨r0, e1, e2⟩ := cell_of_head Hh.out.1
        rcases val_of Hy16.out Hy17.out Hy18.out with ⟨e3, e4⟩ | ⟨e3, e4⟩
        · have hcn : cellN lb = some (⟨⟨bytesOf s1, bytesOf s2, zagZ n3, bytesOf s4⟩, ⟨zagZ n5, false, 0, ⟨kindZ n16, zagZ n17, bytesOf s18⟩⟩⟩, lb18) := by
            unfold cellN verN
            simp only [e1, e2, if_true, e4]
          unfold Took
          rw [hcn]
          exact ⟨rfl, rfl, e3⟩
        · have hcn : cellN lb = none := by
            unfold cellN verN
            simp only [e1, e2, if_true, e4]
          unfold Took
          rw [hcn]
          exact e3
      · have p5 := H6.out.box.cell 5
        have q5 := H6.out.box.frozen 5
        have H7 : Hid (MidR _ _ _ _ _ _ _ #[.string (bytesOf s1), .string (bytesOf s2), .int .i64 (zagZ n3), .string (bytesOf s4), .int .i64 (zagZ n5), .bool true, .int .i64 0, .int .i64 0, .int .i64 0, .string ⟨#[]⟩]) := H6.out.set HR.out 5 (.bool true)
        go_wp2_with fail
        clear p5 q5
        have Hc : Hid _ := refNum_any R r false _ H7.out.rs
        have Hb16 : Hid _ := nS_lt (r, false)
        generalize hy16 : nS (r, false) = y at Hc Hb16
        obtain ⟨n16, lb16, g16⟩ := y
        have Hy16 : Hid (nS (r, false) = (n16, (lb16, g16))) := hy16
        clear hy16
        refine Calls.mono (Hid.out Hc) ?_
        rintro e w16 ⟨rfl, hR16, hg16⟩
        have H16a : Hid (MidR _ _ _ _ _ _ _ _) := H7.out.call HR.out hR16 hg16
        clear Hc hR16 hg16
        go_wp2_with fail
        refine Calls.mono (refZag_any (n16 : Int) _ (by omega) (by have h2 : n16 < 18446744073709551616 := Hb16.out; omega)) ?_
        rintro e w16b ⟨rfl, rfl⟩
        have p6 := H16a.out.box.cell 6
        have q6 := H16a.out.box.frozen 6
        have H16 : Hid (MidR _ _ _ _ _ _ _ #[.string (bytesOf s1), .string (bytesOf s2), .int .i64 (zagZ n3), .string (bytesOf s4), .int .i64 (zagZ n5), .bool true, .int .i64 (zagZ n16), .int .i64 0, .int .i64 0, .string ⟨#[]⟩]) := H16a.out.set HR.out 6 (.int .i64 (zagZ n16))
        have z0 := H16.out.res.cell 0
        have y0 := H16.out.res.frozen 0
        have x0 := H16.out.box.cell 0
        have z1 := H16.out.res.cell 1
        have y1 := H16.out.res.frozen 1
        have x1 := H16.out.box.cell 1
        have z2 := H16.out.res.cell 2
        have y2 := H16.out.res.frozen 2
        have x2 := H16.out.box.cell 2
        have z3 := H16.out.res.cell 3
        have y3 := H16.out.res.frozen 3
        have x3 := H16.out.box.cell 3
        have z4 := H16.out.res.cell 4
        have y4 := H16.out.res.frozen 4
        have x4 := H16.out.box.cell 4
        have z5 := H16.out.res.cell 5
        have y5 := H16.out.res.frozen 5
        have x5 := H16.out.box.cell 5
        have z6 := H16.out.res.cell 6
        have y6 := H16.out.res.frozen 6
        have x6 := H16.out.box.cell 6
        have z7 := H16.out.res.cell 7
        have y7 := H16.out.res.frozen 7
        have x7 := H16.out.box.cell 7
        have z8 := H16.out.res.cell 8
        have y8 := H16.out.res.frozen 8
        have x8 := H16.out.box.cell 8
        have z9 := H16.out.res.cell 9
        have y9 := H16.out.res.frozen 9
        have x9 := H16.out.box.cell 9
        go_wp2_with fail
        have HF : MidR _ _ _ _ _ _ _ _ := H16.out.put10 HR.out (.string (bytesOf s1)) (.string (bytesOf s2)) (.int .i64 (zagZ n3)) (.string (bytesOf s4)) (.int .i64 (zagZ n5)) (.bool true) (.int .i64 (zagZ n16)) (.int .i64 0) (.int .i64 0) (.string ⟨#[]⟩)
        refine bodyPost_ret (v := .agg (cellA (⟨⟨bytesOf s1, bytesOf s2, zagZ n3, bytesOf s4⟩, ⟨zagZ n5, true, zagZ n16, noVal⟩⟩ : CellV))) (results_cell_row Tryz.results76 _ _ w.heap.size 67 _ _ _ rfl (by exact HF.res.heap) Tryz.underlying67 rfl (by kernel_rfl)) rfl ?_
        refine ⟨(⟨⟨bytesOf s1, bytesOf s2, zagZ n3, bytesOf s4⟩, ⟨zagZ n5, true, zagZ n16, noVal⟩⟩ : CellV), lb16, g16, rfl, HF.rs, HF.grown, ?_⟩
        obtain ⟨r0, e1, e2⟩ := cell_of_head Hh.out.1
        cases g16
        · obtain ⟨_, f1⟩ := nS_false Hy16.out
          simp only at f1
          have hcn : cellN lb = some (⟨⟨bytesOf s1, bytesOf s2, zagZ n3, bytesOf s4⟩, ⟨zagZ n5, true, zagZ n16, noVal⟩⟩, lb16) := by
            unfold cellN verN signN
            unfold signN at e2
            simp only [e1, e2, show ¬ ((1 : UInt8) = 0) by decide, if_true, if_false, f1]
          unfold Took
          rw [hcn]
          exact ⟨rfl, rfl, rfl⟩
        · have f1 := (nS_true Hy16.out).1.resolve_left (by simp)
          simp only at f1
          have hcn : cellN lb = none := by
            unfold cellN verN signN
            unfold signN at e2
            simp only [e1, e2, show ¬ ((1 : UInt8) = 0) by decide, if_true, if_false, f1]
          unfold Took
          rw [hcn]
end Go.Proofs.YtlamncldbnagmaaGreatDoor
namespace Go.Proofs.YtlamncldbnagmaaGreatDoor
open Go.RowKit

theorem signN_lt {l : List UInt8} {n : Int} {r : List UInt8} (h : signN l = some (n, r)) : r.length < l.length := by
  unfold signN at h
  split at h
  · cases h
  · rename_i v r' e
    simp only [Option.some.injEq, Prod.mk.injEq] at h
    obtain ⟨_, rfl⟩ := h
    exact (get_bd e).2
theorem keyN_lt {l : List UInt8} {k : KeyV} {r : List UInt8} (h : keyN l = some (k, r)) : r.length < l.length := by
  unfold keyN at h
  split at h
  · cases h
  · rename_i t r1 e1
    split at h
    · cases h
    · rename_i p r2 e2
      split at h
      · cases h
      · rename_i n r3 e3
        split at h
        · cases h
        · rename_i c r4 e4
          simp only [Option.some.injEq, Prod.mk.injEq] at h
          obtain ⟨_, rfl⟩ := h
          have h1 := (textN_drop e1).2
          have h2 := (textN_drop e2).2
          have h3 := signN_lt e3
          have h4 := (textN_drop e4).2
          omega
theorem valN_lt {l : List UInt8} {k : ValV} {r : List UInt8} (h : valN l = some (k, r)) : r.length < l.length := by
  unfold valN at h
  split at h
  · cases h
  · rename_i t r1 e1
    split at h
    · cases h
    · rename_i p r2 e2
      split at h
      · cases h
      · rename_i n r3 e3
        simp only [Option.some.injEq, Prod.mk.injEq] at h
        obtain ⟨_, rfl⟩ := h
        have h1 := (get_bd e1).2
        have h2 := signN_lt e2
        have h3 := (textN_drop e3).2
        omega
theorem verN_lt {l : List UInt8} {k : VerV} {r : List UInt8} (h : verN l = some (k, r)) : r.length < l.length := by
  unfold verN at h
  split at h
  · cases h
  · rename_i t r1 e1
    have h1 := signN_lt e1
    split at h
    · cases h
    · rename_i m r2
      rw [List.length_cons] at h1
      split at h
      · split at h
        · cases h
        · rename_i v r3 e3
          simp only [Option.some.injEq, Prod.mk.injEq] at h
          obtain ⟨_, rfl⟩ := h
          have h3 := valN_lt e3
          omega
      · split at h
        · split at h
          · cases h
          · rename_i n r3 e3
            simp only [Option.some.injEq, Prod.mk.injEq] at h
            obtain ⟨_, rfl⟩ := h
            have h3 := signN_lt e3
            omega
        · cases h
theorem cellN_lt {l : List UInt8} {c : CellV} {r : List UInt8} (h : cellN l = some (c, r)) : r.length < l.length := by
  unfold cellN at h
  split at h
  · cases h
  · rename_i k r1 e1
    split at h
    · cases h
    · rename_i v r2 e2
      simp only [Option.some.injEq, Prod.mk.injEq] at h
      obtain ⟨_, rfl⟩ := h
      have h1 := keyN_lt e1
      have h2 := verN_lt e2
      omega

theorem RS.made {w : World} {ao : Option Addr} {l : List UInt8} {cap : Nat} (hs : Sees w ao l) (hn : ao = none → l.length = 0) (hcap : l.length ≤ cap) (hl : l.length ≤ 1000000000) : RS (w.alloc (.cells #[.slice ao l.length cap, .bool false] 123)) w.heap.size l false := by
  refine ⟨⟨ao, cap, Box.new _ _ _, hs.below ((Below.refl _ _).alloc (Nat.le_refl _) _) (Nat.le_refl _), hn, hcap, fun hne a e => ?_⟩, hl⟩
  obtain ⟨a', e', hc⟩ := hs 0 (by omega)
  obtain rfl := Option.some.inj (e.symm.trans e')
  have := World.block_lt_of_cell? _ _ hc
  rwa [Addr.add_block] at this

/-- What is read so far. -/
def Far (l : List UInt8) (n i : Nat) (cs : List CellV) (lb : List UInt8) (g : Bool) : Prop :=
  (g = false ∧ i + lb.length ≤ l.length ∧ ∃ r1, getN 0 0 l = some (n, r1) ∧ manyN n r1 = (manyN (n - i) lb).map fun x => (cs ++ x.1, x.2)) ∨ (g = true ∧ cellsN l = none)
theorem Far.start (l : List UInt8) {n : Nat} {lb : List UInt8} {g : Bool} (h : nS (l, false) = (n, (lb, g))) : Far l n 0 [] lb g := by
  cases g
  · obtain ⟨_, f1⟩ := nS_false h
    simp only at f1
    have := (get_bd f1).2
    exact .inl ⟨rfl, by omega, lb, f1, by simp⟩
  · have f1 := (nS_true h).1.resolve_left (by simp)
    simp only at f1
    exact .inr ⟨rfl, by unfold cellsN; simp only [f1]⟩
theorem Far.step {l : List UInt8} {n i : Nat} {cs : List CellV} {lb lb' : List UInt8} {c : CellV} {g' : Bool} (h : Far l n i cs lb false) (hi : i < n) (ht : Took lb c lb' g') : Far l n (i + 1) (cs ++ [c]) lb' g' := by
  rcases h with ⟨_, h2, r1, h3, h4⟩ | ⟨h1, _⟩
  · unfold Took at ht
    obtain ⟨k, hk⟩ : ∃ k, n - i = k + 1 := ⟨n - i - 1, by omega⟩
    rw [hk, manyN] at h4
    split at ht
    · rename_i c0 r e
      obtain ⟨rfl, rfl, rfl⟩ := ht
      have := cellN_lt e
      refine .inl ⟨rfl, by omega, r1, h3, ?_⟩
      rw [h4, e, show n - (i + 1) = k by omega]
      simp only []
      cases manyN k lb' <;> simp
    · rename_i e
      refine .inr ⟨ht, ?_⟩
      rw [e] at h4
      unfold cellsN
      simp only [h3, h4, Option.map_none]
  · cases h1

set_option maxRecDepth 100000 in
set_option maxHeartbeats 1600000 in
theorem refReadCells_any (ao : Option Addr) (l : List UInt8) (cap : Nat) (w : World) (hs : Sees w ao l) (hn : ao = none → l.length = 0) (hcap : l.length ≤ cap) (hl : l.length ≤ 1000000000) :
    Calls Tryz.prog 38 #[.slice ao l.length cap] w fun e w' => ∃ v, e = .returned (.tuple #[v, .int .i64 (redE l)]) ∧ w'.ownsRow w.heap.size 67 10 v (redC l).length (C10 (redC l)) ∧ Below w.heap.size w w' := by
  obtain ⟨i0, hi, hz0, hz1, hz2⟩ := info_parts infoCell
  have HR : Hid (RS _ _ _ _) := RS.made (cap := cap) hs hn hcap hl
  have Hc : Hid _ := refNum_any w.heap.size l false _ HR.out
  have Hb : Hid _ := nS_lt (l, false)
  generalize hy : nS (l, false) = y at Hc Hb
  obtain ⟨n, lb1, g1⟩ := y
  have Hf : Hid (Far l n 0 [] lb1 g1) := Far.start l hy
  clear hs hn hy
  go_enter Tryz.func38, Tryz.ntmps38
  go_wp2_with fail
  refine Calls.mono (Hid.out Hc) ?_
  rintro e w1 ⟨rfl, hR1, hg1⟩
  have hb1 : Below w.heap.size w w1 := below_made hg1
  have hnI : (n : Int) ≤ 18446744073709551615 := by have h2 : n < 18446744073709551616 := Hb.out; omega
  clear Hc
  go_wp2_with fail
  go_loopw [6, 7] (fun s6 s7 wr => ∃ (i : Nat) (cs : List CellV) (lb : List UInt8) (g : Bool), i ≤ n ∧ i ≤ l.length + 1 ∧ s7 = .int .u64 i ∧ cs.length = i ∧ RS wr w.heap.size lb g ∧ wr.ownsRow (w.heap.size + 1) 67 10 s6 i (C10 cs) ∧ Below w.heap.size w wr ∧ Far l n i cs lb g) (fun _ s7 _ => n - (intOf s7).toNat)
  case atStart => exact ⟨0, [], lb1, g1, by omega, by omega, rfl, rfl, hR1, World.ownsRow_nil _ _ _ _, hb1, Hf.out⟩
  case round =>
    obtain ⟨i, cs, lb, g, hin, hil, rfl, hcl, hR, ho, hbr, hf⟩ := hrel
    obtain ⟨ao', cap', hB, _, _, _, _⟩ := hR.ex
    have c0 := hB.cell 0
    have c1 := hB.cell 1
    have hmx := hR.max
    have Hfr : Hid (Far l n i cs lb g) := hf
    clear hf hB
    cases g
    · rcases Nat.lt_or_ge i n with hlt | hge
      · have hltI : (i : Int) < (n : Int) := by omega
        have Hce : Hid _ := refCell_any w.heap.size lb wr hR
        have hil2 : i + lb.length ≤ l.length := by
          rcases Hfr.out with ⟨_, h2, _⟩ | ⟨h1, _⟩
          · exact h2
          · cases h1
        go_wp2_with fail
        refine Calls.mono (Hid.out Hce) ?_
        rintro e w2 ⟨c, lb', g', rfl, hR2, hg2, htk⟩
        have ho2 := owns_heap (w' := w2) ho (fun k hk => hg2.block k (ho.lt k hk).2 (fun e => by have := Option.some.inj e; have := (ho.lt k hk).1; omega))
        have hb2 : Below w.heap.size w w2 := hbr.trans ⟨hg2.os, hg2.tape, hg2.output, hg2.size, fun k hk => hg2.block k (Nat.lt_of_lt_of_le hk hbr.size) (fun e => by have := Option.some.inj e; omega)⟩
        have Htk : Hid (Took lb c lb' g') := htk
        have hlt2 := hR2.lt
        clear Hce c0 c1 htk hg2
        obtain ⟨⟨table, part, row, col⟩, ⟨time, dead, loc, kind, num, s⟩⟩ := c
        unfold cellA
        go_wp2_with (at_builtin; go_must (refine wpList_append_grew _ rfl (.tmp 25) (.tmp 28) 22 22 rfl (w.heap.size + 1) 67 i0 _ 10 112 Tryz.underlying22 hi hz0 hz1 hz2 rfl _ i _ rfl (ho2.alloc _) _ 1 (C10 [⟨⟨table, part, row, col⟩, ⟨time, dead, loc, kind, num, s⟩⟩]) rfl (src_cell ⟨⟨table, part, row, col⟩, ⟨time, dead, loc, kind, num, s⟩⟩ (heap_alloc_new _ _)) (by unfold maxLen; omega) (by omega) (by simp; omega) ?_; intro v4 w4 ho4 hg4))
        have g4 := hg4.alloc
        clear hg4
        go_wp2
        go_roundw
        case rel =>
          refine ⟨i + 1, cs ++ [⟨⟨table, part, row, col⟩, ⟨time, dead, loc, kind, num, s⟩⟩], lb', g', by omega, by omega, by go_num, by simp [hcl], ?_, ?_, ?_, Hfr.out.step hlt Htk.out⟩
          · exact hR2.carry (fun k hk => g4.rows.block k (by omega) (fun e => by have := (ho2.lt k e.symm).1; omega))
          · rw [C10_append]
            exact ho4
          · exact hb2.trans (g4.below hb2.size (fun k hk => by have := (ho2.lt k hk).1; omega))
        case measure => simp [intOf]; omega
      · obtain rfl : i = n := by omega
        have hm : ∃ r1, getN 0 0 l = some (i, r1) ∧ manyN i r1 = some (cs, lb) := by
          rcases Hfr.out with ⟨_, _, r1, h3, h4⟩ | ⟨h1, _⟩
          · rw [Nat.sub_self, manyN] at h4
            exact ⟨r1, h3, by simpa using h4⟩
          · cases h1
        obtain ⟨r1, hm1, hm2⟩ := hm
        cases lb with
        | nil =>
          have e1 : cellsN l = some cs := by unfold cellsN; simp only [hm1, hm2]
          have E2 : Hid (redC l = cs) := by show _ = _; unfold redC; rw [e1]; rfl
          have E3 : Hid (redE l = 0) := by show _ = _; unfold redE; rw [e1]
          clear e1 hm1 hm2 hge hin
          go_wp2
          go_ret2
          refine ⟨_, by rw [E3.out]; rfl, ?_, hbr⟩
          rw [E2.out, hcl]
          exact owns_mono ho (by omega)
        | cons b r =>
          have e1 : cellsN l = none := by unfold cellsN; simp only [hm1, hm2]
          have E2 : Hid (redC l = []) := by show _ = _; unfold redC; rw [e1]; rfl
          have E3 : Hid (redE l = 8) := by show _ = _; unfold redE; rw [e1]
          simp only [List.length_cons] at c0 hmx
          have hpos : (0 : Int) < (r.length : Int) + 1 := by omega
          clear e1 hm1 hm2 hge hin
          go_wp2
          go_ret2
          exact ⟨_, by rw [E3.out]; rfl, by rw [E2.out]; exact World.ownsRow_nil _ _ _ _, hbr⟩
    · have e1 : cellsN l = none := by
        rcases Hfr.out with ⟨h1, _⟩ | ⟨_, h1⟩
        · cases h1
        · exact h1
      have E2 : Hid (redC l = []) := by show _ = _; unfold redC; rw [e1]; rfl
      have E3 : Hid (redE l = 8) := by show _ = _; unfold redE; rw [e1]
      clear e1
      rcases Nat.lt_or_ge i n with hlt | hge
      · have hltI : (i : Int) < (n : Int) := by omega
        go_wp2
        go_ret2
        exact ⟨_, by rw [E3.out]; rfl, by rw [E2.out]; exact World.ownsRow_nil _ _ _ _, hbr⟩
      · have hltI : ¬ (i : Int) < (n : Int) := by omega
        go_wp2
        go_ret2
        exact ⟨_, by rw [E3.out]; rfl, by rw [E2.out]; exact World.ownsRow_nil _ _ _ _, hbr⟩
end Go.Proofs.YtlamncldbnagmaaGreatDoor
namespace Go.Proofs.YtlamncldbnagmaaGreatDoor
open Go.RowKit Go.Shelf

attribute [local go_sem] Oper.semAt_some

/-- A record that is yielded: where its cells lie, and the place behind its end. -/
structure Yl where
  a : Option Addr
  c : Nat
  r : List Cx
  e : Nat
def Yl.v (x : Yl) : Value := .slice x.a x.r.length x.c
/-- Its cells lie there. -/
def YIn (n0 : Nat) (x : Yl) (W : World) : Prop := W.ownsRow n0 67 10 x.v x.r.length (x.r.flatMap xs10) ∧ 0 < x.r.length ∧ x.e ≤ 1000000000
/-- What a round keeps: what lay ahead of all, one block, and every row of cells. -/
structure Kpt (n0 b1 : Nat) (A B : World) : Prop where
  low : Below n0 A B
  box : B.heap[b1]? = A.heap[b1]?
  rows : ∀ (g : Nat) (cs : Array Value) (fr : Nat × Nat), A.heap[g]? = some (Obj.cells cs 67 fr) → B.heap[g]? = some (Obj.cells cs 67 fr)
theorem Kpt.refl (n0 b1 : Nat) (A : World) : Kpt n0 b1 A A := ⟨Below.refl _ _, rfl, fun _ _ _ h => h⟩
theorem Kpt.trans {n0 b1 : Nat} {A B C : World} (h : Kpt n0 b1 A B) (k : Kpt n0 b1 B C) : Kpt n0 b1 A C := ⟨h.low.trans k.low, k.box.trans h.box, fun g cs fr e => k.rows g cs fr (h.rows g cs fr e)⟩
theorem Kpt.below {n0 b1 : Nat} {A B : World} (h : Below A.heap.size A B) (hn : n0 ≤ A.heap.size) (hb : b1 < A.heap.size) : Kpt n0 b1 A B :=
  ⟨h.mono hn, h.block _ hb, fun g cs fr e => by rw [h.block g (Array.getElem?_eq_some_iff.1 e).1]; exact e⟩
theorem kptK_b {n0 b1 : Nat} {w : World} (hn : n0 ≤ w.heap.size) (hb : b1 < w.heap.size) (W : World) (l : Nat) (o o' : Obj) (hl : w.heap.size ≤ l) (ho : W.heap[l]? = some o) (hc : o.isCells = false) (hw : o.isWalk = false) : Kpt n0 b1 W (W.putObj l o') :=
  ⟨belowK_b (w := w) hn W l o o' hl ho hc hw, World.putObj_heap_other (by omega), fun g cs fr e => by
    have hne : g ≠ l := fun h => by subst h; rw [ho] at e; cases e; cases hc
    rw [World.putObj_heap_other hne]; exact e⟩
theorem YIn.kept {n0 b1 : Nat} {x : Yl} {A B : World} (h : YIn n0 x A) (k : Kpt n0 b1 A B) : YIn n0 x B := by
  refine ⟨⟨h.1.1, ?_⟩, h.2⟩
  rcases h.1.2 with ⟨e, h0⟩ | ⟨g, cap, cur, e, hg, hh, r⟩
  · exact .inl ⟨e, h0⟩
  · exact .inr ⟨g, cap, cur, e, hg, k.rows _ _ _ hh, r⟩
/-- What has come: the first records. -/
def Came (b : List UInt8) (xs : List Yl) : Prop := xs.map (fun x => (x.r, x.e)) = (List.range xs.length).map (fun k => (recW b k, endW b (k + 1))) ∧ ∀ k < xs.length, (fstW (b.drop (endW b k))).2 ≠ 0
theorem Came.nil (b : List UInt8) : Came b [] := ⟨rfl, fun _ hk => absurd hk (Nat.not_lt_zero _)⟩
theorem Came.snoc {b : List UInt8} {xs : List Yl} (h : Came b xs) (x : Yl) (h0 : (fstW (b.drop (endW b xs.length))).2 ≠ 0) (hr : x.r = recW b xs.length) (he : x.e = endW b (xs.length + 1)) : Came b (xs ++ [x]) := by
  refine ⟨?_, fun k hk => ?_⟩
  · rw [List.map_append, h.1, List.length_append, List.length_singleton, List.range_succ, List.map_append]
    simp only [List.map_cons, List.map_nil, hr, he]
  · rw [List.length_append, List.length_singleton] at hk
    rcases Nat.lt_or_ge k xs.length with h' | h'
    · exact h.2 k h'
    · obtain rfl : k = xs.length := by omega
      exact h0
theorem Came.told {b : List UInt8} {xs : List Yl} (h : Came b xs) (hl : (fstW (b.drop (endW b xs.length))).2 = 0) : ToldW b (xs.map Yl.r) (endW b xs.length) := by
  refine ⟨?_, by rw [List.length_map], by rw [List.length_map]; exact h.2, by rw [List.length_map]; exact hl⟩
  have := congrArg (List.map Prod.fst) h.1
  rw [List.map_map, List.map_map] at this
  rw [List.length_map]
  exact this
theorem Came.last {b : List UInt8} {xs : List Yl} (h : Came b xs) {x : Yl} (hx : xs.getLast? = some x) : x.e = endW b xs.length := by
  have hp : 0 < xs.length := by cases xs with | nil => simp at hx | cons a r => simp
  have h1 := congrArg (fun l => l[xs.length - 1]?) h.1
  simp only [List.getElem?_map] at h1
  rw [List.getLast?_eq_getElem?] at hx
  rw [hx, List.getElem?_range (by omega)] at h1
  simp only [Option.map_some, Option.some.injEq, Prod.mk.injEq] at h1
  rw [h1.2]
  congr 1
  omega
theorem sees_dropW {w : World} {b off : Nat} {l : List UInt8} (h : Sees w (some ⟨b, off, none⟩) l) (k : Nat) (hk : k ≤ l.length) : Sees w (some ⟨b, off + k, none⟩) (l.drop k) := by
  have := sees_cut h k (l.length - k) (by omega)
  rwa [List.take_of_length_le (by rw [List.length_drop]; omega)] at this
theorem Tab.belowW {w w' : World} (h : Tab w) {B : Nat} (hb : Below B w w') (hB : 2 < B) : Tab w' := fun j hj => by
  rw [hb.cell (p := ⟨2, j, none⟩) hB]; exact h j hj
theorem Err.belowW {w w' : World} {u : TypeId} {pv : Value} (he : Err w u pv) {B : Nat} (hb : Below B w w') (hB : 3 < B) : Err w' u pv := by
  unfold Err at he ⊢
  rw [hb.cell (p := ⟨3, 0, none⟩) hB, he]
theorem Sees.belowW {w w' : World} {b off : Nat} {l : List UInt8} (h : Sees w (some ⟨b, off, none⟩) l) {B : Nat} (hb : Below B w w') (hB : b < B) : Sees w' (some ⟨b, off, none⟩) l := fun i hi => by
  obtain ⟨a, e, hc⟩ := h i hi
  cases e
  refine ⟨_, rfl, ?_⟩
  rw [hb.cell (by rw [Addr.add_block]; exact hB)]
  exact hc
/-- Where a slice of bytes lies. -/
def Lies (n0 : Nat) (ao : Option Addr) (m : Nat) : Prop := m = 0 ∨ ∃ b off, ao = some ⟨b, off, none⟩ ∧ b < n0
set_option maxRecDepth 100000 in
set_option maxHeartbeats 2000000 in
theorem records1_in (n : Nat) (hn : 1 ≤ n) (l n0 b1 : Nat) (ao : Option Addr) (L : List UInt8) (cap : Nat) (hL : L.length ≤ 100000000) (hcap : L.length ≤ cap) (hcm : cap ≤ 9223372036854775807) (J : List Yl → World → Prop) (W : World)
    (hY : ∀ pre x W1, J pre W1 → YIn n0 x W1 → pre.length < 100000000 → YieldAt Fence.wide (n - 1) Tryz.prog l #[x.v, .int .i64 (x.e : Int)] W1 fun e W' => e = .returned (.bool true) ∧ J (pre ++ [x]) W' ∧ Kpt n0 b1 W1 W')
    (hc1 : Boxed W b1 23 (.slice ao L.length cap)) (hs : Sees W ao L) (hao : Lies n0 ao L.length) (hn0 : n0 ≤ W.heap.size) (ht : Tab W) (hgT : 2 < n0) (ue : TypeId) (pv : Value) (he : Err W ue pv) (hgE : 3 < n0) (hA : AbidesFrom W.heap.size J) (h0 : J [] W) :
    CallsIn Fence.wide n Tryz.prog 72 #[.func (.yield l) #[] #[], .pointer (some ⟨b1, 0, none⟩)] W fun e W' => (∃ v, e = .returned v) ∧ ∃ xs, (Came L xs ∧ (fstW (L.drop (endW L xs.length))).2 = 0) ∧ J xs W' := by
  have hro : Fence.wide.round = none := rfl
  have HX : Hid (∀ u, Kpt n0 b1 W u → u.cell? ⟨b1, 0, none⟩ = some (.slice ao L.length cap) ∧ W.heap.size ≤ u.heap.size ∧ b1 < u.heap.size) := fun u hu => ⟨by rw [World.cell?_of_block hu.box]; exact hc1.cell, hu.low.size, Nat.lt_of_lt_of_le hc1.lt hu.low.size⟩
  have HF : Hid (∀ (u : World) (k : Nat) (a' : Option Addr) (c' : Nat), Kpt n0 b1 W u → k ≤ L.length → ((∃ b off, ao = some ⟨b, off, none⟩ ∧ b < n0 ∧ a' = some ⟨b, off + k, none⟩) ∨ k = L.length) → L.length - k ≤ c' → c' ≤ 9223372036854775807 → Calls Tryz.prog 73 #[.slice a' (L.length - k) c'] u fun e w' => ∃ v, e = .returned (.tuple #[v, .int .i64 ((fstW (L.drop k)).2 : Int)]) ∧ w'.ownsRow u.heap.size 67 10 v (fstW (L.drop k)).1.length ((fstW (L.drop k)).1.flatMap xs10) ∧ Below u.heap.size u w') := fun u k a' c' hu hk ha hc hcm' => by
    have hsd : Sees u a' (L.drop k) := by
      rcases ha with ⟨b, off, e, hb, rfl⟩ | rfl
      · rw [e] at hs
        exact sees_dropW (hs.belowW hu.low hb) k hk
      · intro i hi
        rw [List.length_drop] at hi
        omega
    have := firstW_any a' (L.drop k) c' u ue pv hsd (by rw [List.length_drop]; omega) (by rw [List.length_drop]; exact hc) hcm' (ht.belowW hu.low hgT) (he.belowW hu.low hgE)
    rw [List.length_drop] at this
    exact this
  refine callsIn_of_wp Tryz.func72 rfl trivial ?_ hro
  simp only [Tryz.ntmps72, List.size_toArray, List.length_cons, List.length_nil, Nat.reduceAdd, Nat.reduceSub, Array.replicate_succ, Array.replicate_zero, List.push_toArray, List.append_toArray, List.nil_append, List.cons_append]
  have hLz : (L.length : Int) ≤ 100000000 := by omega
  clear hs ht he hc1
  gi_wp2
  gi_loopw [3] (fun i wr => ∃ xs : List Yl, i = .int .i64 (endW L xs.length : Int) ∧ Came L xs ∧ J xs wr ∧ Kpt n0 b1 W wr) (fun i _ => L.length - (intOf i).toNat)
  case atStart => exact ⟨[], rfl, Came.nil _, h0, Kpt.refl _ _ _⟩
  case round =>
    obtain ⟨xs, rfl, hC, hJs, hK⟩ := hrel
    have hE := endW_le L xs.length
    have hM := endW_many hC.2
    obtain ⟨c1, hsz, hb1⟩ := HX.out wr hK
    obtain ⟨E, hEe⟩ : ∃ E, E = endW L xs.length := ⟨_, rfl⟩
    rw [← hEe] at hE hM ⊢
    obtain ⟨N, hN⟩ : ∃ N, N = (fstW (L.drop E)).2 := ⟨_, rfl⟩
    have hNl : E + N ≤ L.length := by
      have := fstW_le (L.drop E)
      rw [List.length_drop] at this
      omega
    obtain ⟨v9, c9, hv9, hc9, hfit⟩ : ∃ (v9 : Option Addr) (c9 : Nat), ((cap = E ∧ v9 = ao ∧ c9 = 0) ∨ (¬ cap = E ∧ v9 = ao.map (fun x => x.add E) ∧ c9 = cap - E)) ∧ c9 = cap - E ∧ ((∃ b off, ao = some ⟨b, off, none⟩ ∧ b < n0 ∧ v9 = some ⟨b, off + E, none⟩) ∨ E = L.length) := by
      by_cases hce : cap = E
      · exact ⟨ao, 0, .inl ⟨hce, rfl, rfl⟩, by omega, .inr (by omega)⟩
      · refine ⟨_, _, .inr ⟨hce, rfl, rfl⟩, rfl, ?_⟩
        rcases hao with h1 | ⟨b, off, rfl, hb⟩
        · exact .inr (by omega)
        · exact .inl ⟨b, off, rfl, hb, by rw [Option.map_some, Addr.add_lit]⟩
    have F1 := HF.out wr E v9 c9 hK hE hfit (by omega) (by omega)
    rw [← hN] at F1
    have HF1 : Hid (Calls Tryz.prog 73 #[.slice v9 (L.length - E) c9] wr fun e w' => ∃ v, e = .returned (.tuple #[v, .int .i64 (N : Int)]) ∧ w'.ownsRow wr.heap.size 67 10 v (fstW (L.drop E)).1.length ((fstW (L.drop E)).1.flatMap xs10) ∧ Below wr.heap.size wr w') := F1
    have HEe : Hid (E = endW L xs.length) := hEe
    have HNe : Hid (N = (fstW (L.drop E)).2) := hN
    have HY : Hid (∀ pre x W1, J pre W1 → YIn n0 x W1 → pre.length < 100000000 → YieldAt Fence.wide (n - 1) Tryz.prog l #[x.v, .int .i64 (x.e : Int)] W1 fun e W' => e = .returned (.bool true) ∧ J (pre ++ [x]) W' ∧ Kpt n0 b1 W1 W') := hY
    have hEz : (E : Int) + (N : Int) ≤ 100000000 := by omega
    clear F1 HF hfit hN hEe hao hY hc9
    rcases hv9 with ⟨hce, rfl, rfl⟩ | ⟨hce, rfl, rfl⟩
    · gi_wp2
      refine ⟨trivial, ?_⟩
      refine callsIn_wide.2 ?_
      go_fit HF1.out
      rintro e w1 ⟨v1, rfl, ho1, hB1⟩
      have hJ1 : J xs w1 := hA xs wr w1 none hJs ⟨hB1.os, hB1.tape, hB1.output, hB1.size, fun k hk _ => hB1.block k hk⟩ (fun r e => by cases e)
      have hK1 : Kpt n0 b1 W w1 := hK.trans (Kpt.below hB1 (by omega) hb1)
      have hN0 : N = 0 := by omega
      subst hN0
      gi_wp2
      refine ⟨fun f hf => (by cases hf), ?_⟩
      gi_wp2
      refine bodyPost_ret (results_none rfl _ _ _) rfl ?_
      exact ⟨⟨_, rfl⟩, xs, ⟨hC, by rw [← HEe.out]; exact HNe.out.symm⟩, hJ1⟩
    · gi_wp2
      refine ⟨trivial, ?_⟩
      refine callsIn_wide.2 ?_
      go_fit HF1.out
      rintro e w1 ⟨v1, rfl, ho1, hB1⟩
      have hJ1 : J xs w1 := hA xs wr w1 none hJs ⟨hB1.os, hB1.tape, hB1.output, hB1.size, fun k hk _ => hB1.block k hk⟩ (fun r e => by cases e)
      have hK1 : Kpt n0 b1 W w1 := hK.trans (Kpt.below hB1 (by omega) hb1)
      by_cases hN0 : N = 0
      · subst hN0
        gi_wp2
        refine ⟨fun f hf => (by cases hf), ?_⟩
        gi_wp2
        refine bodyPost_ret (results_none rfl _ _ _) rfl ?_
        exact ⟨⟨_, rfl⟩, xs, ⟨hC, by rw [← HEe.out]; exact HNe.out.symm⟩, hJ1⟩
      · have hp := fstW_pos (b := L.drop E) (by rw [← HNe.out]; exact hN0)
        have hr0 := (recB_good hp.2).1.1
        obtain ⟨g, c2, rfl⟩ : ∃ g c2, v1 = .slice (some ⟨g, 0, none⟩) (fstW (L.drop E)).1.length c2 := by
          rcases ho1.2 with ⟨_, h⟩ | ⟨g, c2, _, h, _⟩
          · omega
          · exact ⟨g, c2, h⟩
        have hin : YIn n0 ⟨some ⟨g, 0, none⟩, c2, (fstW (L.drop E)).1, E + N⟩ w1 := ⟨owMono ho1 (by omega), hr0, by show E + N ≤ 1000000000; omega⟩
        obtain ⟨fn, tmps, assign, body, hy, hR⟩ := HY.out xs _ w1 hJ1 hin (by omega)
        have hCm : Came L (xs ++ [⟨some ⟨g, 0, none⟩, c2, (fstW (L.drop E)).1, E + N⟩]) := hC.snoc _ (by rw [← HEe.out, ← HNe.out]; exact hN0) (by unfold recW; rw [← HEe.out]) (by show E + N = endW L xs.length + _; rw [← HEe.out, ← HNe.out])
        have HEm : Hid (E + N = endW L (xs ++ [(⟨some ⟨g, 0, none⟩, c2, (fstW (L.drop E)).1, E + N⟩ : Yl)]).length) := by
          show _ = _
          rw [List.length_append, List.length_singleton]
          show E + N = endW L xs.length + _
          rw [← HEe.out, ← HNe.out]
        have hNz : ¬ (N : Int) = 0 := by omega
        simp only [Yl.v, Int.natCast_add] at hy
        have HR : Hid (RoundIn Fence.wide (n - 1) Tryz.prog l fn tmps assign body w1 fun e W' => e = Ending.returned (.bool true) ∧ J (xs ++ [⟨some ⟨g, 0, none⟩, c2, (fstW (L.drop E)).1, E + N⟩]) W' ∧ Kpt n0 b1 w1 W') := hR
        have hN8 := hp.1
        rw [← HNe.out] at hN8
        clear hR ho1 hB1 hin hp HF1 hJs hC HX hA
        generalize (fstW (L.drop E)).1.length = m at *
        gi_wp2
        refine HR.out.mono ?_
        rintro e W3 ⟨rfl, hJ3, hk3⟩
        dsimp only
        gi_wp2
        go_roundw
        case rel => exact ⟨_, by rw [← HEm.out]; simp, hCm, hJ3, hK1.trans hk3⟩
        case measure => (simp [intOf]; try omega)
end Go.Proofs.YtlamncldbnagmaaGreatDoor
namespace Go.Proofs.YtlamncldbnagmaaGreatDoor
open Go.RowKit

/-- What a key that came in is like. -/
structure Kb.Fits (k : Kb) : Prop where
  r : InI k.r
  t : k.t.size ≤ 140737488351232
  p : k.p.size ≤ 140737488351232
  c : k.c.size ≤ 140737488351232
theorem gPow : Tryz.prog.globalNamed "internal/strconv.uint64pow10" = some 4 := by kernel_rfl
theorem countB_le (s : ByteArray) (c : ByteArray) : Lib.countB s c ≤ s.size + 1 := by
  have := Lib.count_le (nb s) (nb c)
  rw [nb_size] at this
  exact this
theorem strB_size (l : List UInt8) : (strB l).size = l.length := by show l.toArray.size = _; simp
theorem ret_str {a b : ByteArray} (h : a = b) : Ending.returned (.string a) = .returned (.string b) := by rw [h]

end Go.Proofs.YtlamncldbnagmaaGreatDoor
namespace Go.Proofs.YtlamncldbnagmaaGreatDoor
open Go.RowKit

/-- The texts that hang together. -/
def catP (a b c d : ByteArray) : ByteArray := a ++ ⟨#[47]⟩ ++ b ++ ⟨#[47]⟩ ++ c ++ ⟨#[47]⟩ ++ d
theorem nb_app (a b : ByteArray) : nb (a ++ b) = nb a ++ nb b := by
  show (a ++ b).data.toList = a.data.toList ++ b.data.toList
  rw [ByteArray.data_append, Array.toList_append]
theorem catP_eq (a b c d : List UInt8) : catP (strB a) (strB b) (strB c) (strB d) = strB (a ++ (47 :: (b ++ (47 :: (c ++ (47 :: d)))))) := by
  rw [← nb_inj]
  unfold catP
  simp only [nb_app, nb_strB]
  simp [nb]

theorem msk_size (s : ByteArray) (h : s.size ≤ 5000) : (strB (msk (nb s))).size ≤ 15000 := by
  have l1 : ∀ b, (m1 b).length ≤ 3 := fun b => by unfold m1; split; · decide
                                                  split; · decide
                                                  simp
  have l2 : ∀ l : List UInt8, (msk l).length ≤ 3 * l.length := by
    intro l
    induction l with
    | nil => simp [msk]
    | cons b l ih => rw [msk_cons, List.length_append, List.length_cons]; have := l1 b; omega
  rw [strB_size]; have := l2 (nb s); rw [nb_size] at this; omega

end Go.Proofs.YtlamncldbnagmaaGreatDoor

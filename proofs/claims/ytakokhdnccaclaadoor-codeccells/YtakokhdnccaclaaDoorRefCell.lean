/-
  CONTRACTS: the document's reader reads a cell, in every state.
-/
import Derived.Test.YtakokhdnccaclaaDoorRefCellP
namespace Go.Proofs.YtakokhdnccaclaaDoor
open Go.RowKit

def cellZ : Array Value := #[.string ⟨#[]⟩, .string ⟨#[]⟩, .int .i64 0, .string ⟨#[]⟩, .int .i64 0, .bool false, .int .i64 0, .int .i64 0, .int .i64 0, .string ⟨#[]⟩]
set_option maxRecDepth 100000 in
set_option maxHeartbeats 3200000 in
theorem refCell_any (R : Nat) (lb : List UInt8) (w : World) (h : RS w R lb false) :
    Calls Tryd.prog 53 #[.pointer (some ⟨R, 0, none⟩)] w fun e w' => ∃ c lb' g', e = .returned (.agg (cellA c)) ∧ RS w' R lb' g' ∧ w.grownBy w' (some R) ∧ Took lb c lb' g' := by
  have HR : Hid (R < w.heap.size) := h.lt
  have H0 : Hid (MidR _ _ _ _ _ _ _ _) := MidR.start h 63 cellZ
  clear h
  unfold cellZ at *
  go_enter Tryd.func53, Tryd.ntmps53
  go_wp2_with fail
  have Hc : Hid _ := refTextR_any R lb false _ H0.out.rs
  generalize hy1 : tS (lb, false) = y at Hc
  obtain ⟨s1, lb1, g1⟩ := y
  have Hy1 : Hid (tS (lb, false) = (s1, (lb1, g1))) := hy1
  clear hy1
  refine Calls.mono (Hid.out Hc) ?_
  rintro e w1 ⟨rfl, hR1, hg1⟩
  have H1a : Hid (MidR _ _ _ _ _ _ _ _) := H0.out.call HR.out hR1 hg1
  clear Hc hR1 hg1
  have p0 := H1a.out.box.cell 0
  have q0 := H1a.out.box.frozen 0
  have H1 : Hid (MidR _ _ _ _ _ _ _ #[.string (bytesOf s1), .string ⟨#[]⟩, .int .i64 0, .string ⟨#[]⟩, .int .i64 0, .bool false, .int .i64 0, .int .i64 0, .int .i64 0, .string ⟨#[]⟩]) := H1a.out.set HR.out 0 (.string (bytesOf s1))
  go_wp2_with fail
  clear p0 q0
  have Hc : Hid _ := refTextR_any R lb1 g1 _ H1.out.rs
  generalize hy2 : tS (lb1, g1) = y at Hc
  obtain ⟨s2, lb2, g2⟩ := y
  have Hy2 : Hid (tS (lb1, g1) = (s2, (lb2, g2))) := hy2
  clear hy2
  refine Calls.mono (Hid.out Hc) ?_
  rintro e w2 ⟨rfl, hR2, hg2⟩
  have H2a : Hid (MidR _ _ _ _ _ _ _ _) := H1.out.call HR.out hR2 hg2
  clear Hc hR2 hg2
  have p1 := H2a.out.box.cell 1
  have q1 := H2a.out.box.frozen 1
  have H2 : Hid (MidR _ _ _ _ _ _ _ #[.string (bytesOf s1), .string (bytesOf s2), .int .i64 0, .string ⟨#[]⟩, .int .i64 0, .bool false, .int .i64 0, .int .i64 0, .int .i64 0, .string ⟨#[]⟩]) := H2a.out.set HR.out 1 (.string (bytesOf s2))
  go_wp2_with fail
  clear p1 q1
  have Hc : Hid _ := refNum_any R lb2 g2 _ H2.out.rs
  have Hb3 : Hid _ := nS_lt (lb2, g2)
  generalize hy3 : nS (lb2, g2) = y at Hc Hb3
  obtain ⟨n3, lb3, g3⟩ := y
  have Hy3 : Hid (nS (lb2, g2) = (n3, (lb3, g3))) := hy3
  clear hy3
  refine Calls.mono (Hid.out Hc) ?_
  rintro e w3 ⟨rfl, hR3, hg3⟩
  have H3a : Hid (MidR _ _ _ _ _ _ _ _) := H2.out.call HR.out hR3 hg3
  clear Hc hR3 hg3
  go_wp2_with fail
  refine Calls.mono (refZag_any (n3 : Int) _ (by omega) (by have h2 : n3 < 18446744073709551616 := Hb3.out; omega)) ?_
  rintro e w3b ⟨rfl, rfl⟩
  have p2 := H3a.out.box.cell 2
  have q2 := H3a.out.box.frozen 2
  have H3 : Hid (MidR _ _ _ _ _ _ _ #[.string (bytesOf s1), .string (bytesOf s2), .int .i64 (zagZ n3), .string ⟨#[]⟩, .int .i64 0, .bool false, .int .i64 0, .int .i64 0, .int .i64 0, .string ⟨#[]⟩]) := H3a.out.set HR.out 2 (.int .i64 (zagZ n3))
  go_wp2_with fail
  clear p2 q2
  have Hc : Hid _ := refTextR_any R lb3 g3 _ H3.out.rs
  generalize hy4 : tS (lb3, g3) = y at Hc
  obtain ⟨s4, lb4, g4⟩ := y
  have Hy4 : Hid (tS (lb3, g3) = (s4, (lb4, g4))) := hy4
  clear hy4
  refine Calls.mono (Hid.out Hc) ?_
  rintro e w4 ⟨rfl, hR4, hg4⟩
  have H4a : Hid (MidR _ _ _ _ _ _ _ _) := H3.out.call HR.out hR4 hg4
  clear Hc hR4 hg4
  have p3 := H4a.out.box.cell 3
  have q3 := H4a.out.box.frozen 3
  have H4 : Hid (MidR _ _ _ _ _ _ _ #[.string (bytesOf s1), .string (bytesOf s2), .int .i64 (zagZ n3), .string (bytesOf s4), .int .i64 0, .bool false, .int .i64 0, .int .i64 0, .int .i64 0, .string ⟨#[]⟩]) := H4a.out.set HR.out 3 (.string (bytesOf s4))
  go_wp2_with fail
  clear p3 q3
  have Hc : Hid _ := refNum_any R lb4 g4 _ H4.out.rs
  have Hb5 : Hid _ := nS_lt (lb4, g4)
  generalize hy5 : nS (lb4, g4) = y at Hc Hb5
  obtain ⟨n5, lb5, g5⟩ := y
  have Hy5 : Hid (nS (lb4, g4) = (n5, (lb5, g5))) := hy5
  clear hy5
  refine Calls.mono (Hid.out Hc) ?_
  rintro e w5 ⟨rfl, hR5, hg5⟩
  have H5a : Hid (MidR _ _ _ _ _ _ _ _) := H4.out.call HR.out hR5 hg5
  clear Hc hR5 hg5
  go_wp2_with fail
  refine Calls.mono (refZag_any (n5 : Int) _ (by omega) (by have h2 : n5 < 18446744073709551616 := Hb5.out; omega)) ?_
  rintro e w5b ⟨rfl, rfl⟩
  have p4 := H5a.out.box.cell 4
  have q4 := H5a.out.box.frozen 4
  have H5 : Hid (MidR _ _ _ _ _ _ _ #[.string (bytesOf s1), .string (bytesOf s2), .int .i64 (zagZ n3), .string (bytesOf s4), .int .i64 (zagZ n5), .bool false, .int .i64 0, .int .i64 0, .int .i64 0, .string ⟨#[]⟩]) := H5a.out.set HR.out 4 (.int .i64 (zagZ n5))
  have hhead := head_of Hy1.out Hy2.out Hy3.out Hy4.out Hy5.out
  obtain ⟨ao, cap, hB, hs, hn, hc, ho⟩ := H5.out.rs.ex
  have hmx := H5.out.rs.max
  have c0 := hB.cell 0
  have c1 := hB.cell 1
  have f0 := hB.frozen 0
  have f1 := hB.frozen 1
  have Hhead : Hid _ := hhead
  clear hhead
  cases lb5 with
  | nil =>
    have H6 : Hid (MidR _ _ _ _ _ _ _ _) := H5.out.turn HR.out H5.out.rs.bad
    clear hs hn hc ho
    have z0 := H6.out.res.cell 0
    have y0 := H6.out.res.frozen 0
    have x0 := H6.out.box.cell 0
    have z1 := H6.out.res.cell 1
    have y1 := H6.out.res.frozen 1
    have x1 := H6.out.box.cell 1
    have z2 := H6.out.res.cell 2
    have y2 := H6.out.res.frozen 2
    have x2 := H6.out.box.cell 2
    have z3 := H6.out.res.cell 3
    have y3 := H6.out.res.frozen 3
    have x3 := H6.out.box.cell 3
    have z4 := H6.out.res.cell 4
    have y4 := H6.out.res.frozen 4
    have x4 := H6.out.box.cell 4
    have z5 := H6.out.res.cell 5
    have y5 := H6.out.res.frozen 5
    have x5 := H6.out.box.cell 5
    have z6 := H6.out.res.cell 6
    have y6 := H6.out.res.frozen 6
    have x6 := H6.out.box.cell 6
    have z7 := H6.out.res.cell 7
    have y7 := H6.out.res.frozen 7
    have x7 := H6.out.box.cell 7
    have z8 := H6.out.res.cell 8
    have y8 := H6.out.res.frozen 8
    have x8 := H6.out.box.cell 8
    have z9 := H6.out.res.cell 9
    have y9 := H6.out.res.frozen 9
    have x9 := H6.out.box.cell 9
    go_wp2_with fail
    have HF : MidR _ _ _ _ _ _ _ _ := H6.out.put10 HR.out (.string (bytesOf s1)) (.string (bytesOf s2)) (.int .i64 (zagZ n3)) (.string (bytesOf s4)) (.int .i64 (zagZ n5)) (.bool false) (.int .i64 0) (.int .i64 0) (.int .i64 0) (.string ⟨#[]⟩)
    refine bodyPost_ret (v := .agg (cellA (⟨⟨bytesOf s1, bytesOf s2, zagZ n3, bytesOf s4⟩, ⟨zagZ n5, false, 0, noVal⟩⟩ : CellV))) (results_cell_row Tryd.results53 _ _ w.heap.size 63 _ _ _ rfl (by exact HF.res.heap) Tryd.underlying63 rfl (by kernel_rfl)) rfl ?_
    refine ⟨(⟨⟨bytesOf s1, bytesOf s2, zagZ n3, bytesOf s4⟩, ⟨zagZ n5, false, 0, noVal⟩⟩ : CellV), [], true, rfl, HF.rs, HF.grown, ?_⟩
    have hcn : cellN lb = none := by
      rcases Hhead.out with ⟨_, e⟩ | ⟨_, _, e⟩
      · obtain ⟨r0, e1, e2⟩ := cell_of_head e
        unfold cellN verN
        simp only [e1, e2]
      · exact cell_of_none e
    unfold Took
    rw [hcn]
  | cons b r =>
    obtain ⟨bb, off, rfl, hcell⟩ := sees_at hs (n := 0) (by simp)
    have Hh : Hid (headN lb = some ((⟨bytesOf s1, bytesOf s2, zagZ n3, bytesOf s4⟩, zagZ n5), b :: r) ∧ g5 = false) := by
      rcases Hhead.out with ⟨e1, e⟩ | ⟨_, e1, _⟩
      · exact ⟨e, e1⟩
      · cases e1
    have hcell2 := hcell
    simp only [List.getD_cons_zero, Nat.add_zero] at hcell2
    have hlI : ((r.length : Int) + 1 == 0) = false := by simp; omega
    simp only [List.length_cons] at c0
    simp only [List.length_cons] at hc
    simp only [List.length_cons] at hmx
    have hg5 : g5 = false := Hh.out.2
    subst hg5
    clear hcell hn
    by_cases hb2 : 1 < b.toNat
    · have t1 : (1 : Int) < (b.toNat : Int) := by omega
      have H6 : Hid (MidR _ _ _ _ _ _ _ _) := H5.out.turn HR.out H5.out.rs.bad
      have Hb2 : Hid _ := hb2
      clear hs hc ho hb2
      have z0 := H6.out.res.cell 0
      have y0 := H6.out.res.frozen 0
      have x0 := H6.out.box.cell 0
      have z1 := H6.out.res.cell 1
      have y1 := H6.out.res.frozen 1
      have x1 := H6.out.box.cell 1
      have z2 := H6.out.res.cell 2
      have y2 := H6.out.res.frozen 2
      have x2 := H6.out.box.cell 2
      have z3 := H6.out.res.cell 3
      have y3 := H6.out.res.frozen 3
      have x3 := H6.out.box.cell 3
      have z4 := H6.out.res.cell 4
      have y4 := H6.out.res.frozen 4
      have x4 := H6.out.box.cell 4
      have z5 := H6.out.res.cell 5
      have y5 := H6.out.res.frozen 5
      have x5 := H6.out.box.cell 5
      have z6 := H6.out.res.cell 6
      have y6 := H6.out.res.frozen 6
      have x6 := H6.out.box.cell 6
      have z7 := H6.out.res.cell 7
      have y7 := H6.out.res.frozen 7
      have x7 := H6.out.box.cell 7
      have z8 := H6.out.res.cell 8
      have y8 := H6.out.res.frozen 8
      have x8 := H6.out.box.cell 8
      have z9 := H6.out.res.cell 9
      have y9 := H6.out.res.frozen 9
      have x9 := H6.out.box.cell 9
      go_wp2_with fail
      have HF : MidR _ _ _ _ _ _ _ _ := H6.out.put10 HR.out (.string (bytesOf s1)) (.string (bytesOf s2)) (.int .i64 (zagZ n3)) (.string (bytesOf s4)) (.int .i64 (zagZ n5)) (.bool false) (.int .i64 0) (.int .i64 0) (.int .i64 0) (.string ⟨#[]⟩)
      refine bodyPost_ret (v := .agg (cellA (⟨⟨bytesOf s1, bytesOf s2, zagZ n3, bytesOf s4⟩, ⟨zagZ n5, false, 0, noVal⟩⟩ : CellV))) (results_cell_row Tryd.results53 _ _ w.heap.size 63 _ _ _ rfl (by exact HF.res.heap) Tryd.underlying63 rfl (by kernel_rfl)) rfl ?_
      refine ⟨(⟨⟨bytesOf s1, bytesOf s2, zagZ n3, bytesOf s4⟩, ⟨zagZ n5, false, 0, noVal⟩⟩ : CellV), (b :: r), true, rfl, HF.rs, HF.grown, ?_⟩
      have hcn : cellN lb = none := by
        obtain ⟨r0, e1, e2⟩ := cell_of_head Hh.out.1
        have h0 : ¬ b = 0 := fun e => by have h2 : 1 < b.toNat := Hb2.out; subst e; simp at h2
        have h1 : ¬ b = 1 := fun e => by have h2 : 1 < b.toNat := Hb2.out; subst e; simp at h2
        unfold cellN verN
        simp only [e1, e2, h0, h1, if_false]
      unfold Took
      rw [hcn]
    have hb01 : b = 0 ∨ b = 1 := by
      rcases (show b.toNat = 0 ∨ b.toNat = 1 by omega) with e | e
      · exact .inl (UInt8.toNat_inj.1 (by simpa using e))
      · exact .inr (UInt8.toNat_inj.1 (by simpa using e))
    clear hb2
    have hck : (cap = 1 ∧ r = []) ∨ cap ≠ 1 := by
      by_cases h : cap = 1
      · exact .inl ⟨h, List.eq_nil_of_length_eq_zero (by omega)⟩
      · exact .inr h
    rcases hck with ⟨rfl, rfl⟩ | hck
    · have H6 : Hid (MidR _ _ _ _ _ _ _ _) := H5.out.turn HR.out (RS.off (lb := []) (ao' := some ⟨bb, off, none⟩) hB rfl)
      clear hs ho
      rcases hb01 with rfl | rfl
      · go_wp2_with fail
        have Hc : Hid _ := refNum_any R [] false _ H6.out.rs
        have Hb16 : Hid _ := nS_lt ([], false)
        generalize hy16 : nS ([], false) = y at Hc Hb16
        obtain ⟨n16, lb16, g16⟩ := y
        have Hy16 : Hid (nS ([], false) = (n16, (lb16, g16))) := hy16
        clear hy16
        refine Calls.mono (Hid.out Hc) ?_
        rintro e w16 ⟨rfl, hR16, hg16⟩
        have H16a : Hid (MidR _ _ _ _ _ _ _ _) := H6.out.call HR.out hR16 hg16
        clear Hc hR16 hg16
        have hkz16 := kindZ_wrap (v := n16) Hb16.out
        have p7 := H16a.out.box.cell 7
        have q7 := H16a.out.box.frozen 7
        have H16 : Hid (MidR _ _ _ _ _ _ _ #[.string (bytesOf s1), .string (bytesOf s2), .int .i64 (zagZ n3), .string (bytesOf s4), .int .i64 (zagZ n5), .bool false, .int .i64 0, .int .i64 (kindZ n16), .int .i64 0, .string ⟨#[]⟩]) := H16a.out.set HR.out 7 (.int .i64 (kindZ n16))
        go_wp2_with fail
        clear p7 q7
        have Hc : Hid _ := refNum_any R lb16 g16 _ H16.out.rs
        have Hb17 : Hid _ := nS_lt (lb16, g16)
        generalize hy17 : nS (lb16, g16) = y at Hc Hb17
        obtain ⟨n17, lb17, g17⟩ := y
        have Hy17 : Hid (nS (lb16, g16) = (n17, (lb17, g17))) := hy17
        clear hy17
        refine Calls.mono (Hid.out Hc) ?_
        rintro e w17 ⟨rfl, hR17, hg17⟩
        have H17a : Hid (MidR _ _ _ _ _ _ _ _) := H16.out.call HR.out hR17 hg17
        clear Hc hR17 hg17
        go_wp2_with fail
        refine Calls.mono (refZag_any (n17 : Int) _ (by omega) (by have h2 : n17 < 18446744073709551616 := Hb17.out; omega)) ?_
        rintro e w17b ⟨rfl, rfl⟩
        have p8 := H17a.out.box.cell 8
        have q8 := H17a.out.box.frozen 8
        have H17 : Hid (MidR _ _ _ _ _ _ _ #[.string (bytesOf s1), .string (bytesOf s2), .int .i64 (zagZ n3), .string (bytesOf s4), .int .i64 (zagZ n5), .bool false, .int .i64 0, .int .i64 (kindZ n16), .int .i64 (zagZ n17), .string ⟨#[]⟩]) := H17a.out.set HR.out 8 (.int .i64 (zagZ n17))
        go_wp2_with fail
        clear p8 q8
        have Hc : Hid _ := refTextR_any R lb17 g17 _ H17.out.rs
        generalize hy18 : tS (lb17, g17) = y at Hc
        obtain ⟨s18, lb18, g18⟩ := y
        have Hy18 : Hid (tS (lb17, g17) = (s18, (lb18, g18))) := hy18
        clear hy18
        refine Calls.mono (Hid.out Hc) ?_
        rintro e w18 ⟨rfl, hR18, hg18⟩
        have H18a : Hid (MidR _ _ _ _ _ _ _ _) := H17.out.call HR.out hR18 hg18
        clear Hc hR18 hg18
        have p9 := H18a.out.box.cell 9
        have q9 := H18a.out.box.frozen 9
        have H18 : Hid (MidR _ _ _ _ _ _ _ #[.string (bytesOf s1), .string (bytesOf s2), .int .i64 (zagZ n3), .string (bytesOf s4), .int .i64 (zagZ n5), .bool false, .int .i64 0, .int .i64 (kindZ n16), .int .i64 (zagZ n17), .string (bytesOf s18)]) := H18a.out.set HR.out 9 (.string (bytesOf s18))
        have z0 := H18.out.res.cell 0
        have y0 := H18.out.res.frozen 0
        have x0 := H18.out.box.cell 0
        have z1 := H18.out.res.cell 1
        have y1 := H18.out.res.frozen 1
        have x1 := H18.out.box.cell 1
        have z2 := H18.out.res.cell 2
        have y2 := H18.out.res.frozen 2
        have x2 := H18.out.box.cell 2
        have z3 := H18.out.res.cell 3
        have y3 := H18.out.res.frozen 3
        have x3 := H18.out.box.cell 3
        have z4 := H18.out.res.cell 4
        have y4 := H18.out.res.frozen 4
        have x4 := H18.out.box.cell 4
        have z5 := H18.out.res.cell 5
        have y5 := H18.out.res.frozen 5
        have x5 := H18.out.box.cell 5
        have z6 := H18.out.res.cell 6
        have y6 := H18.out.res.frozen 6
        have x6 := H18.out.box.cell 6
        have z7 := H18.out.res.cell 7
        have y7 := H18.out.res.frozen 7
        have x7 := H18.out.box.cell 7
        have z8 := H18.out.res.cell 8
        have y8 := H18.out.res.frozen 8
        have x8 := H18.out.box.cell 8
        have z9 := H18.out.res.cell 9
        have y9 := H18.out.res.frozen 9
        have x9 := H18.out.box.cell 9
        go_wp2_with fail
        have HF : MidR _ _ _ _ _ _ _ _ := H18.out.put10 HR.out (.string (bytesOf s1)) (.string (bytesOf s2)) (.int .i64 (zagZ n3)) (.string (bytesOf s4)) (.int .i64 (zagZ n5)) (.bool false) (.int .i64 0) (.int .i64 (kindZ n16)) (.int .i64 (zagZ n17)) (.string (bytesOf s18))
        refine bodyPost_ret (v := .agg (cellA (⟨⟨bytesOf s1, bytesOf s2, zagZ n3, bytesOf s4⟩, ⟨zagZ n5, false, 0, ⟨kindZ n16, zagZ n17, bytesOf s18⟩⟩⟩ : CellV))) (results_cell_row Tryd.results53 _ _ w.heap.size 63 _ _ _ rfl (by exact HF.res.heap) Tryd.underlying63 rfl (by kernel_rfl)) rfl ?_
        refine ⟨(⟨⟨bytesOf s1, bytesOf s2, zagZ n3, bytesOf s4⟩, ⟨zagZ n5, false, 0, ⟨kindZ n16, zagZ n17, bytesOf s18⟩⟩⟩ : CellV), lb18, g18, rfl, HF.rs, HF.grown, ?_⟩
        obtain ⟨r0, e1, e2⟩ := cell_of_head Hh.out.1
        rcases val_of Hy16.out Hy17.out Hy18.out with ⟨e3, e4⟩ | ⟨e3, e4⟩
        · have hcn : cellN lb = some (⟨⟨bytesOf s1, bytesOf s2, zagZ n3, bytesOf s4⟩, ⟨zagZ n5, false, 0, ⟨kindZ n16, zagZ n17, bytesOf s18⟩⟩⟩, lb18) := by
            unfold cellN verN
            simp only [e1, e2, if_true, e4]
          unfold Took
          rw [hcn]
          exact ⟨rfl, rfl, e3⟩
        · have hcn : cellN lb = none := by
            unfold cellN verN
            simp only [e1, e2, if_true, e4]
          unfold Took
          rw [hcn]
          exact e3
      · have p5 := H6.out.box.cell 5
        have q5 := H6.out.box.frozen 5
        have H7 : Hid (MidR _ _ _ _ _ _ _ #[.string (bytesOf s1), .string (bytesOf s2), .int .i64 (zagZ n3), .string (bytesOf s4), .int .i64 (zagZ n5), .bool true, .int .i64 0, .int .i64 0, .int .i64 0, .string ⟨#[]⟩]) := H6.out.set HR.out 5 (.bool true)
        go_wp2_with fail
        clear p5 q5
        have Hc : Hid _ := refNum_any R [] false _ H7.out.rs
        have Hb16 : Hid _ := nS_lt ([], false)
        generalize hy16 : nS ([], false) = y at Hc Hb16
        obtain ⟨n16, lb16, g16⟩ := y
        have Hy16 : Hid (nS ([], false) = (n16, (lb16, g16))) := hy16
        clear hy16
        refine Calls.mono (Hid.out Hc) ?_
        rintro e w16 ⟨rfl, hR16, hg16⟩
        have H16a : Hid (MidR _ _ _ _ _ _ _ _) := H7.out.call HR.out hR16 hg16
        clear Hc hR16 hg16
        go_wp2_with fail
        refine Calls.mono (refZag_any (n16 : Int) _ (by omega) (by have h2 : n16 < 18446744073709551616 := Hb16.out; omega)) ?_
        rintro e w16b ⟨rfl, rfl⟩
        have p6 := H16a.out.box.cell 6
        have q6 := H16a.out.box.frozen 6
        have H16 : Hid (MidR _ _ _ _ _ _ _ #[.string (bytesOf s1), .string (bytesOf s2), .int .i64 (zagZ n3), .string (bytesOf s4), .int .i64 (zagZ n5), .bool true, .int .i64 (zagZ n16), .int .i64 0, .int .i64 0, .string ⟨#[]⟩]) := H16a.out.set HR.out 6 (.int .i64 (zagZ n16))
        have z0 := H16.out.res.cell 0
        have y0 := H16.out.res.frozen 0
        have x0 := H16.out.box.cell 0
        have z1 := H16.out.res.cell 1
        have y1 := H16.out.res.frozen 1
        have x1 := H16.out.box.cell 1
        have z2 := H16.out.res.cell 2
        have y2 := H16.out.res.frozen 2
        have x2 := H16.out.box.cell 2
        have z3 := H16.out.res.cell 3
        have y3 := H16.out.res.frozen 3
        have x3 := H16.out.box.cell 3
        have z4 := H16.out.res.cell 4
        have y4 := H16.out.res.frozen 4
        have x4 := H16.out.box.cell 4
        have z5 := H16.out.res.cell 5
        have y5 := H16.out.res.frozen 5
        have x5 := H16.out.box.cell 5
        have z6 := H16.out.res.cell 6
        have y6 := H16.out.res.frozen 6
        have x6 := H16.out.box.cell 6
        have z7 := H16.out.res.cell 7
        have y7 := H16.out.res.frozen 7
        have x7 := H16.out.box.cell 7
        have z8 := H16.out.res.cell 8
        have y8 := H16.out.res.frozen 8
        have x8 := H16.out.box.cell 8
        have z9 := H16.out.res.cell 9
        have y9 := H16.out.res.frozen 9
        have x9 := H16.out.box.cell 9
        go_wp2_with fail
        have HF : MidR _ _ _ _ _ _ _ _ := H16.out.put10 HR.out (.string (bytesOf s1)) (.string (bytesOf s2)) (.int .i64 (zagZ n3)) (.string (bytesOf s4)) (.int .i64 (zagZ n5)) (.bool true) (.int .i64 (zagZ n16)) (.int .i64 0) (.int .i64 0) (.string ⟨#[]⟩)
        refine bodyPost_ret (v := .agg (cellA (⟨⟨bytesOf s1, bytesOf s2, zagZ n3, bytesOf s4⟩, ⟨zagZ n5, true, zagZ n16, noVal⟩⟩ : CellV))) (results_cell_row Tryd.results53 _ _ w.heap.size 63 _ _ _ rfl (by exact HF.res.heap) Tryd.underlying63 rfl (by kernel_rfl)) rfl ?_
        refine ⟨(⟨⟨bytesOf s1, bytesOf s2, zagZ n3, bytesOf s4⟩, ⟨zagZ n5, true, zagZ n16, noVal⟩⟩ : CellV), lb16, g16, rfl, HF.rs, HF.grown, ?_⟩
        obtain ⟨r0, e1, e2⟩ := cell_of_head Hh.out.1
        cases g16
        · obtain ⟨_, f1⟩ := nS_false Hy16.out
          simp only at f1
          have hcn : cellN lb = some (⟨⟨bytesOf s1, bytesOf s2, zagZ n3, bytesOf s4⟩, ⟨zagZ n5, true, zagZ n16, noVal⟩⟩, lb16) := by
            unfold cellN verN signN
            unfold signN at e2
            simp only [e1, e2, show ¬ ((1 : UInt8) = 0) by decide, if_true, if_false, f1]
          unfold Took
          rw [hcn]
          exact ⟨rfl, rfl, rfl⟩
        · have f1 := (nS_true Hy16.out).1.resolve_left (by simp)
          simp only at f1
          have hcn : cellN lb = none := by
            unfold cellN verN signN
            unfold signN at e2
            simp only [e1, e2, show ¬ ((1 : UInt8) = 0) by decide, if_true, if_false, f1]
          unfold Took
          rw [hcn]
    · have H6 : Hid (MidR w (World.setCell _ ⟨R, 0, none⟩ (.slice (some ⟨bb, off + 1, none⟩) r.length (cap - 1))) R r false _ _ _) := H5.out.turn HR.out (RS.on (n := 1) (r := r) hB hs hc ho hmx rfl (by simp) (by simp))
      have hc1 : 1 ≤ cap := by omega
      clear hs ho
      rcases hb01 with rfl | rfl
      · go_wp2_with fail
        have Hc : Hid _ := refNum_any R r false _ H6.out.rs
        have Hb16 : Hid _ := nS_lt (r, false)
        generalize hy16 : nS (r, false) = y at Hc Hb16
        obtain ⟨n16, lb16, g16⟩ := y
        have Hy16 : Hid (nS (r, false) = (n16, (lb16, g16))) := hy16
        clear hy16
        refine Calls.mono (Hid.out Hc) ?_
        rintro e w16 ⟨rfl, hR16, hg16⟩
        have H16a : Hid (MidR _ _ _ _ _ _ _ _) := H6.out.call HR.out hR16 hg16
        clear Hc hR16 hg16
        have hkz16 := kindZ_wrap (v := n16) Hb16.out
        have p7 := H16a.out.box.cell 7
        have q7 := H16a.out.box.frozen 7
        have H16 : Hid (MidR _ _ _ _ _ _ _ #[.string (bytesOf s1), .string (bytesOf s2), .int .i64 (zagZ n3), .string (bytesOf s4), .int .i64 (zagZ n5), .bool false, .int .i64 0, .int .i64 (kindZ n16), .int .i64 0, .string ⟨#[]⟩]) := H16a.out.set HR.out 7 (.int .i64 (kindZ n16))
        go_wp2_with fail
        clear p7 q7
        have Hc : Hid _ := refNum_any R lb16 g16 _ H16.out.rs
        have Hb17 : Hid _ := nS_lt (lb16, g16)
        generalize hy17 : nS (lb16, g16) = y at Hc Hb17
        obtain ⟨n17, lb17, g17⟩ := y
        have Hy17 : Hid (nS (lb16, g16) = (n17, (lb17, g17))) := hy17
        clear hy17
        refine Calls.mono (Hid.out Hc) ?_
        rintro e w17 ⟨rfl, hR17, hg17⟩
        have H17a : Hid (MidR _ _ _ _ _ _ _ _) := H16.out.call HR.out hR17 hg17
        clear Hc hR17 hg17
        go_wp2_with fail
        refine Calls.mono (refZag_any (n17 : Int) _ (by omega) (by have h2 : n17 < 18446744073709551616 := Hb17.out; omega)) ?_
        rintro e w17b ⟨rfl, rfl⟩
        have p8 := H17a.out.box.cell 8
        have q8 := H17a.out.box.frozen 8
        have H17 : Hid (MidR _ _ _ _ _ _ _ #[.string (bytesOf s1), .string (bytesOf s2), .int .i64 (zagZ n3), .string (bytesOf s4), .int .i64 (zagZ n5), .bool false, .int .i64 0, .int .i64 (kindZ n16), .int .i64 (zagZ n17), .string ⟨#[]⟩]) := H17a.out.set HR.out 8 (.int .i64 (zagZ n17))
        go_wp2_with fail
        clear p8 q8
        have Hc : Hid _ := refTextR_any R lb17 g17 _ H17.out.rs
        generalize hy18 : tS (lb17, g17) = y at Hc
        obtain ⟨s18, lb18, g18⟩ := y
        have Hy18 : Hid (tS (lb17, g17) = (s18, (lb18, g18))) := hy18
        clear hy18
        refine Calls.mono (Hid.out Hc) ?_
        rintro e w18 ⟨rfl, hR18, hg18⟩
        have H18a : Hid (MidR _ _ _ _ _ _ _ _) := H17.out.call HR.out hR18 hg18
        clear Hc hR18 hg18
        have p9 := H18a.out.box.cell 9
        have q9 := H18a.out.box.frozen 9
        have H18 : Hid (MidR _ _ _ _ _ _ _ #[.string (bytesOf s1), .string (bytesOf s2), .int .i64 (zagZ n3), .string (bytesOf s4), .int .i64 (zagZ n5), .bool false, .int .i64 0, .int .i64 (kindZ n16), .int .i64 (zagZ n17), .string (bytesOf s18)]) := H18a.out.set HR.out 9 (.string (bytesOf s18))
        have z0 := H18.out.res.cell 0
        have y0 := H18.out.res.frozen 0
        have x0 := H18.out.box.cell 0
        have z1 := H18.out.res.cell 1
        have y1 := H18.out.res.frozen 1
        have x1 := H18.out.box.cell 1
        have z2 := H18.out.res.cell 2
        have y2 := H18.out.res.frozen 2
        have x2 := H18.out.box.cell 2
        have z3 := H18.out.res.cell 3
        have y3 := H18.out.res.frozen 3
        have x3 := H18.out.box.cell 3
        have z4 := H18.out.res.cell 4
        have y4 := H18.out.res.frozen 4
        have x4 := H18.out.box.cell 4
        have z5 := H18.out.res.cell 5
        have y5 := H18.out.res.frozen 5
        have x5 := H18.out.box.cell 5
        have z6 := H18.out.res.cell 6
        have y6 := H18.out.res.frozen 6
        have x6 := H18.out.box.cell 6
        have z7 := H18.out.res.cell 7
        have y7 := H18.out.res.frozen 7
        have x7 := H18.out.box.cell 7
        have z8 := H18.out.res.cell 8
        have y8 := H18.out.res.frozen 8
        have x8 := H18.out.box.cell 8
        have z9 := H18.out.res.cell 9
        have y9 := H18.out.res.frozen 9
        have x9 := H18.out.box.cell 9
        go_wp2_with fail
        have HF : MidR _ _ _ _ _ _ _ _ := H18.out.put10 HR.out (.string (bytesOf s1)) (.string (bytesOf s2)) (.int .i64 (zagZ n3)) (.string (bytesOf s4)) (.int .i64 (zagZ n5)) (.bool false) (.int .i64 0) (.int .i64 (kindZ n16)) (.int .i64 (zagZ n17)) (.string (bytesOf s18))
        refine bodyPost_ret (v := .agg (cellA (⟨⟨bytesOf s1, bytesOf s2, zagZ n3, bytesOf s4⟩, ⟨zagZ n5, false, 0, ⟨kindZ n16, zagZ n17, bytesOf s18⟩⟩⟩ : CellV))) (results_cell_row Tryd.results53 _ _ w.heap.size 63 _ _ _ rfl (by exact HF.res.heap) Tryd.underlying63 rfl (by kernel_rfl)) rfl ?_
        refine ⟨(⟨⟨bytesOf s1, bytesOf s2, zagZ n3, bytesOf s4⟩, ⟨zagZ n5, false, 0, ⟨kindZ n16, zagZ n17, bytesOf s18⟩⟩⟩ : CellV), lb18, g18, rfl, HF.rs, HF.grown, ?_⟩
        obtain ⟨r0, e1, e2⟩ := cell_of_head Hh.out.1
        rcases val_of Hy16.out Hy17.out Hy18.out with ⟨e3, e4⟩ | ⟨e3, e4⟩
        · have hcn : cellN lb = some (⟨⟨bytesOf s1, bytesOf s2, zagZ n3, bytesOf s4⟩, ⟨zagZ n5, false, 0, ⟨kindZ n16, zagZ n17, bytesOf s18⟩⟩⟩, lb18) := by
            unfold cellN verN
            simp only [e1, e2, if_true, e4]
          unfold Took
          rw [hcn]
          exact ⟨rfl, rfl, e3⟩
        · have hcn : cellN lb = none := by
            unfold cellN verN
            simp only [e1, e2, if_true, e4]
          unfold Took
          rw [hcn]
          exact e3
      · have p5 := H6.out.box.cell 5
        have q5 := H6.out.box.frozen 5
        have H7 : Hid (MidR _ _ _ _ _ _ _ #[.string (bytesOf s1), .string (bytesOf s2), .int .i64 (zagZ n3), .string (bytesOf s4), .int .i64 (zagZ n5), .bool true, .int .i64 0, .int .i64 0, .int .i64 0, .string ⟨#[]⟩]) := H6.out.set HR.out 5 (.bool true)
        go_wp2_with fail
        clear p5 q5
        have Hc : Hid _ := refNum_any R r false _ H7.out.rs
        have Hb16 : Hid _ := nS_lt (r, false)
        generalize hy16 : nS (r, false) = y at Hc Hb16
        obtain ⟨n16, lb16, g16⟩ := y
        have Hy16 : Hid (nS (r, false) = (n16, (lb16, g16))) := hy16
        clear hy16
        refine Calls.mono (Hid.out Hc) ?_
        rintro e w16 ⟨rfl, hR16, hg16⟩
        have H16a : Hid (MidR _ _ _ _ _ _ _ _) := H7.out.call HR.out hR16 hg16
        clear Hc hR16 hg16
        go_wp2_with fail
        refine Calls.mono (refZag_any (n16 : Int) _ (by omega) (by have h2 : n16 < 18446744073709551616 := Hb16.out; omega)) ?_
        rintro e w16b ⟨rfl, rfl⟩
        have p6 := H16a.out.box.cell 6
        have q6 := H16a.out.box.frozen 6
        have H16 : Hid (MidR _ _ _ _ _ _ _ #[.string (bytesOf s1), .string (bytesOf s2), .int .i64 (zagZ n3), .string (bytesOf s4), .int .i64 (zagZ n5), .bool true, .int .i64 (zagZ n16), .int .i64 0, .int .i64 0, .string ⟨#[]⟩]) := H16a.out.set HR.out 6 (.int .i64 (zagZ n16))
        have z0 := H16.out.res.cell 0
        have y0 := H16.out.res.frozen 0
        have x0 := H16.out.box.cell 0
        have z1 := H16.out.res.cell 1
        have y1 := H16.out.res.frozen 1
        have x1 := H16.out.box.cell 1
        have z2 := H16.out.res.cell 2
        have y2 := H16.out.res.frozen 2
        have x2 := H16.out.box.cell 2
        have z3 := H16.out.res.cell 3
        have y3 := H16.out.res.frozen 3
        have x3 := H16.out.box.cell 3
        have z4 := H16.out.res.cell 4
        have y4 := H16.out.res.frozen 4
        have x4 := H16.out.box.cell 4
        have z5 := H16.out.res.cell 5
        have y5 := H16.out.res.frozen 5
        have x5 := H16.out.box.cell 5
        have z6 := H16.out.res.cell 6
        have y6 := H16.out.res.frozen 6
        have x6 := H16.out.box.cell 6
        have z7 := H16.out.res.cell 7
        have y7 := H16.out.res.frozen 7
        have x7 := H16.out.box.cell 7
        have z8 := H16.out.res.cell 8
        have y8 := H16.out.res.frozen 8
        have x8 := H16.out.box.cell 8
        have z9 := H16.out.res.cell 9
        have y9 := H16.out.res.frozen 9
        have x9 := H16.out.box.cell 9
        go_wp2_with fail
        have HF : MidR _ _ _ _ _ _ _ _ := H16.out.put10 HR.out (.string (bytesOf s1)) (.string (bytesOf s2)) (.int .i64 (zagZ n3)) (.string (bytesOf s4)) (.int .i64 (zagZ n5)) (.bool true) (.int .i64 (zagZ n16)) (.int .i64 0) (.int .i64 0) (.string ⟨#[]⟩)
        refine bodyPost_ret (v := .agg (cellA (⟨⟨bytesOf s1, bytesOf s2, zagZ n3, bytesOf s4⟩, ⟨zagZ n5, true, zagZ n16, noVal⟩⟩ : CellV))) (results_cell_row Tryd.results53 _ _ w.heap.size 63 _ _ _ rfl (by exact HF.res.heap) Tryd.underlying63 rfl (by kernel_rfl)) rfl ?_
        refine ⟨(⟨⟨bytesOf s1, bytesOf s2, zagZ n3, bytesOf s4⟩, ⟨zagZ n5, true, zagZ n16, noVal⟩⟩ : CellV), lb16, g16, rfl, HF.rs, HF.grown, ?_⟩
        obtain ⟨r0, e1, e2⟩ := cell_of_head Hh.out.1
        cases g16
        · obtain ⟨_, f1⟩ := nS_false Hy16.out
          simp only at f1
          have hcn : cellN lb = some (⟨⟨bytesOf s1, bytesOf s2, zagZ n3, bytesOf s4⟩, ⟨zagZ n5, true, zagZ n16, noVal⟩⟩, lb16) := by
            unfold cellN verN signN
            unfold signN at e2
            simp only [e1, e2, show ¬ ((1 : UInt8) = 0) by decide, if_true, if_false, f1]
          unfold Took
          rw [hcn]
          exact ⟨rfl, rfl, rfl⟩
        · have f1 := (nS_true Hy16.out).1.resolve_left (by simp)
          simp only at f1
          have hcn : cellN lb = none := by
            unfold cellN verN signN
            unfold signN at e2
            simp only [e1, e2, show ¬ ((1 : UInt8) = 0) by decide, if_true, if_false, f1]
          unfold Took
          rw [hcn]
end Go.Proofs.YtakokhdnccaclaaDoor

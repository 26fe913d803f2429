/-
  SEVERAL TEXTS IN ONE: RefCell, RefReads, TabRefO, TabRefT, TabTellP, TabEnds, TabAsk, TabTell, TabTellN, MrgBulk, TabAskB.
-/
import Derived.Test.YtdookhmaiapclaaGreatDoorTabM4
import Derived.Test.YtdookhmaiapclaaGreatDoorCellGet
import Derived.Test.YtdookhmaiapclaaGreatDoorRefUnframe
import Derived.Test.YtdookhmaiapclaaGreatDoorTabM2
import Derived.Laws.ResultCell
import Derived.Test.YtdookhmaiapclaaGreatDoorTabM3
import Derived.JoinedCond
namespace Go.Proofs.YtdookhmaiapclaaGreatDoor
open Go.RowKit

def cellZ : Array Value := #[.string ⟨#[]⟩, .string ⟨#[]⟩, .int .i64 0, .string ⟨#[]⟩, .int .i64 0, .bool false, .int .i64 0, .int .i64 0, .int .i64 0, .string ⟨#[]⟩]
set_option maxRecDepth 100000 in
set_option maxHeartbeats 3200000 in
theorem refCell_any (R : Nat) (lb : List UInt8) (w : World) (h : RS w R lb false) :
    Calls Tryz.prog 101 #[.pointer (some ⟨R, 0, none⟩)] w fun e w' => ∃ c lb' g', e = .returned (.agg (cellA c)) ∧ RS w' R lb' g' ∧ w.grownBy w' (some R) ∧ Took lb c lb' g' := by
  have HR : Hid (R < w.heap.size) := h.lt
  have H0 : Hid (MidR _ _ _ _ _ _ _ _) := MidR.start h 59 cellZ
  clear h
  unfold cellZ at *
  go_enter Tryz.func101, Tryz.ntmps101
  go_wp2_with fail
  have Hc : Hid _ := refTextR_any R lb false _ H0.out.rs
  generalize hy1 : tS (lb, false) = y at Hc
  obtain ⟨s1, lb1, g1⟩ := y
  have Hy1 : Hid (tS (lb, false) = (s1, (lb1, g1))) := hy1
  clear hy1
  refine Calls.mono (Hid.out Hc) ?_
  rintro e w1 ⟨rfl, hR1, hg1⟩
  have H1a : Hid (MidR _ _ _ _ _ _ _ _) := H0.out.call HR.out hR1 hg1
  clear Hc hR1 hg1
  have p0 := H1a.out.box.cell 0
  have q0 := H1a.out.box.frozen 0
  have H1 : Hid (MidR _ _ _ _ _ _ _ #[.string (bytesOf s1), .string ⟨#[]⟩, .int .i64 0, .string ⟨#[]⟩, .int .i64 0, .bool false, .int .i64 0, .int .i64 0, .int .i64 0, .string ⟨#[]⟩]) := H1a.out.set HR.out 0 (.string (bytesOf s1))
  go_wp2_with fail
  clear p0 q0
  have Hc : Hid _ := refTextR_any R lb1 g1 _ H1.out.rs
  generalize hy2 : tS (lb1, g1) = y at Hc
  obtain ⟨s2, lb2, g2⟩ := y
  have Hy2 : Hid (tS (lb1, g1) = (s2, (lb2, g2))) := hy2
  clear hy2
  refine Calls.mono (Hid.out Hc) ?_
  rintro e w2 ⟨rfl, hR2, hg2⟩
  have H2a : Hid (MidR _ _ _ _ _ _ _ _) := H1.out.call HR.out hR2 hg2
  clear Hc hR2 hg2
  have p1 := H2a.out.box.cell 1
  have q1 := H2a.out.box.frozen 1
  have H2 : Hid (MidR _ _ _ _ _ _ _ #[.string (bytesOf s1), .string (bytesOf s2), .int .i64 0, .string ⟨#[]⟩, .int .i64 0, .bool false, .int .i64 0, .int .i64 0, .int .i64 0, .string ⟨#[]⟩]) := H2a.out.set HR.out 1 (.string (bytesOf s2))
  go_wp2_with fail
  clear p1 q1
  have Hc : Hid _ := refNum_any R lb2 g2 _ H2.out.rs
  have Hb3 : Hid _ := nS_lt (lb2, g2)
  generalize hy3 : nS (lb2, g2) = y at Hc Hb3
  obtain ⟨n3, lb3, g3⟩ := y
  have Hy3 : Hid (nS (lb2, g2) = (n3, (lb3, g3))) := hy3
  clear hy3
  refine Calls.mono (Hid.out Hc) ?_
  rintro e w3 ⟨rfl, hR3, hg3⟩
  have H3a : Hid (MidR _ _ _ _ _ _ _ _) := H2.out.call HR.out hR3 hg3
  clear Hc hR3 hg3
  go_wp2_with fail
  refine Calls.mono (refZag_any (n3 : Int) _ (by omega) (by have h2 : n3 < 18446744073709551616 := Hb3.out; omega)) ?_
  rintro e w3b ⟨rfl, rfl⟩
  have p2 := H3a.out.box.cell 2
  have q2 := H3a.out.box.frozen 2
  have H3 : Hid (MidR _ _ _ _ _ _ _ #[.string (bytesOf s1), .string (bytesOf s2), .int .i64 (zagZ n3), .string ⟨#[]⟩, .int .i64 0, .bool false, .int .i64 0, .int .i64 0, .int .i64 0, .string ⟨#[]⟩]) := H3a.out.set HR.out 2 (.int .i64 (zagZ n3))
  go_wp2_with fail
  clear p2 q2
  have Hc : Hid _ := refTextR_any R lb3 g3 _ H3.out.rs
  generalize hy4 : tS (lb3, g3) = y at Hc
  obtain ⟨s4, lb4, g4⟩ := y
  have Hy4 : Hid (tS (lb3, g3) = (s4, (lb4, g4))) := hy4
  clear hy4
  refine Calls.mono (Hid.out Hc) ?_
  rintro e w4 ⟨rfl, hR4, hg4⟩
  have H4a : Hid (MidR _ _ _ _ _ _ _ _) := H3.out.call HR.out hR4 hg4
  clear Hc hR4 hg4
  have p3 := H4a.out.box.cell 3
  have q3 := H4a.out.box.frozen 3
  have H4 : Hid (MidR _ _ _ _ _ _ _ #[.string (bytesOf s1), .string (bytesOf s2), .int .i64 (zagZ n3), .string (bytesOf s4), .int .i64 0, .bool false, .int .i64 0, .int .i64 0, .int .i64 0, .string ⟨#[]⟩]) := H4a.out.set HR.out 3 (.string (bytesOf s4))
  go_wp2_with fail
  clear p3 q3
  have Hc : Hid _ := refNum_any R lb4 g4 _ H4.out.rs
  have Hb5 : Hid _ := nS_lt (lb4, g4)
  generalize hy5 : nS (lb4, g4) = y at Hc Hb5
  obtain ⟨n5, lb5, g5⟩ := y
  have Hy5 : Hid (nS (lb4, g4) = (n5, (lb5, g5))) := hy5
  clear hy5
  refine Calls.mono (Hid.out Hc) ?_
  rintro e w5 ⟨rfl, hR5, hg5⟩
  have H5a : Hid (MidR _ _ _ _ _ _ _ _) := H4.out.call HR.out hR5 hg5
  clear Hc hR5 hg5
  go_wp2_with fail
  refine Calls.mono (refZag_any (n5 : Int) _ (by omega) (by have h2 : n5 < 18446744073709551616 := Hb5.out; omega)) ?_
  rintro e w5b ⟨rfl, rfl⟩
  have p4 := H5a.out.box.cell 4
  have q4 := H5a.out.box.frozen 4
  have H5 : Hid (MidR _ _ _ _ _ _ _ #[.string (bytesOf s1), .string (bytesOf s2), .int .i64 (zagZ n3), .string (bytesOf s4), .int .i64 (zagZ n5), .bool false, .int .i64 0, .int .i64 0, .int .i64 0, .string ⟨#[]⟩]) := H5a.out.set HR.out 4 (.int .i64 (zagZ n5))
  have hhead := head_of Hy1.out Hy2.out Hy3.out Hy4.out Hy5.out
  obtain ⟨ao, cap, hB, hs, hn, hc, ho⟩ := H5.out.rs.ex
  have hmx := H5.out.rs.max
  have c0 := hB.cell 0
  have c1 := hB.cell 1
  have f0 := hB.frozen 0
  have f1 := hB.frozen 1
  have Hhead : Hid _ := hhead
  clear hhead
  cases lb5 with
  | nil =>
    have H6 : Hid (MidR _ _ _ _ _ _ _ _) := H5.out.turn HR.out H5.out.rs.bad
    clear hs hn hc ho
    have z0 := H6.out.res.cell 0
    have y0 := H6.out.res.frozen 0
    have x0 := H6.out.box.cell 0
    have z1 := H6.out.res.cell 1
    have y1 := H6.out.res.frozen 1
    have x1 := H6.out.box.cell 1
    have z2 := H6.out.res.cell 2
    have y2 := H6.out.res.frozen 2
    have x2 := H6.out.box.cell 2
    have z3 := H6.out.res.cell 3
    have y3 := H6.out.res.frozen 3
    have x3 := H6.out.box.cell 3
    have z4 := H6.out.res.cell 4
    have y4 := H6.out.res.frozen 4
    have x4 := H6.out.box.cell 4
    have z5 := H6.out.res.cell 5
    have y5 := H6.out.res.frozen 5
    have x5 := H6.out.box.cell 5
    have z6 := H6.out.res.cell 6
    have y6 := H6.out.res.frozen 6
    have x6 := H6.out.box.cell 6
    have z7 := H6.out.res.cell 7
    have y7 := H6.out.res.frozen 7
    have x7 := H6.out.box.cell 7
    have z8 := H6.out.res.cell 8
    have y8 := H6.out.res.frozen 8
    have x8 := H6.out.box.cell 8
    have z9 := H6.out.res.cell 9
    have y9 := H6.out.res.frozen 9
    have x9 := H6.out.box.cell 9
    go_wp2_with fail
    have HF : MidR _ _ _ _ _ _ _ _ := H6.out.put10 HR.out (.string (bytesOf s1)) (.string (bytesOf s2)) (.int .i64 (zagZ n3)) (.string (bytesOf s4)) (.int .i64 (zagZ n5)) (.bool false) (.int .i64 0) (.int .i64 0) (.int .i64 0) (.string ⟨#[]⟩)
    refine bodyPost_ret (v := .agg (cellA (⟨⟨bytesOf s1, bytesOf s2, zagZ n3, bytesOf s4⟩, ⟨zagZ n5, false, 0, noVal⟩⟩ : CellV))) (results_cell_row Tryz.results101 _ _ w.heap.size 59 _ _ _ rfl (by exact HF.res.heap) Tryz.underlying59 rfl (by kernel_rfl)) rfl ?_
    refine ⟨(⟨⟨bytesOf s1, bytesOf s2, zagZ n3, bytesOf s4⟩, ⟨zagZ n5, false, 0, noVal⟩⟩ : CellV), [], true, rfl, HF.rs, HF.grown, ?_⟩
    have hcn : cellN lb = none := by
      rcases Hhead.out with ⟨_, e⟩ | ⟨_, _, e⟩
      · obtain ⟨r0, e1, e2⟩ := cell_of_head e
        unfold cellN verN
        simp only [e1, e2]
      · exact cell_of_none e
    unfold Took
    rw [hcn]
  | cons b r =>
    obtain ⟨bb, off, rfl, hcell⟩ := sees_at hs (n := 0) (by simp)
    have Hh : Hid (headN lb = some ((⟨bytesOf s1, bytesOf s2, zagZ n3, bytesOf s4⟩, zagZ n5), b :: r) ∧ g5 = false) := by
      rcases Hhead.out with ⟨e1, e⟩ | ⟨_, e1, _⟩
      · exact ⟨e, e1⟩
      · cases e1
    have hcell2 := hcell
    simp only [List.getD_cons_zero, Nat.add_zero] at hcell2
    have hlI : ((r.length : Int) + 1 == 0) = false := by simp; omega
    simp only [List.length_cons] at c0
    simp only [List.length_cons] at hc
    simp only [List.length_cons] at hmx
    have hg5 : g5 = false := Hh.out.2
    subst hg5
    clear hcell hn
    by_cases hb2 : 1 < b.toNat
    · have t1 : (1 : Int) < (b.toNat : Int) := by omega
      have H6 : Hid (MidR _ _ _ _ _ _ _ _) := H5.out.turn HR.out H5.out.rs.bad
      have Hb2 : Hid _ := hb2
      clear hs hc ho hb2
      have z0 := H6.out.res.cell 0
      have y0 := H6.out.res.frozen 0
      have x0 := H6.out.box.cell 0
      have z1 := H6.out.res.cell 1
      have y1 := H6.out.res.frozen 1
      have x1 := H6.out.box.cell 1
      have z2 := H6.out.res.cell 2
      have y2 := H6.out.res.frozen 2
      have x2 := H6.out.box.cell 2
      have z3 := H6.out.res.cell 3
      have y3 := H6.out.res.frozen 3
      have x3 := H6.out.box.cell 3
      have z4 := H6.out.res.cell 4
      have y4 := H6.out.res.frozen 4
      have x4 := H6.out.box.cell 4
      have z5 := H6.out.res.cell 5
      have y5 := H6.out.res.frozen 5
      have x5 := H6.out.box.cell 5
      have z6 := H6.out.res.cell 6
      have y6 := H6.out.res.frozen 6
      have x6 := H6.out.box.cell 6
      have z7 := H6.out.res.cell 7
      have y7 := H6.out.res.frozen 7
      have x7 := H6.out.box.cell 7
      have z8 := H6.out.res.cell 8
      have y8 := H6.out.res.frozen 8
      have x8 := H6.out.box.cell 8
      have z9 := H6.out.res.cell 9
      have y9 := H6.out.res.frozen 9
      have x9 := H6.out.box.cell 9
      go_wp2_with fail
      have HF : MidR _ _ _ _ _ _ _ _ := H6.out.put10 HR.out (.string (bytesOf s1)) (.string (bytesOf s2)) (.int .i64 (zagZ n3)) (.string (bytesOf s4)) (.int .i64 (zagZ n5)) (.bool false) (.int .i64 0) (.int .i64 0) (.int .i64 0) (.string ⟨#[]⟩)
      refine bodyPost_ret (v := .agg (cellA (⟨⟨bytesOf s1, bytesOf s2, zagZ n3, bytesOf s4⟩, ⟨zagZ n5, false, 0, noVal⟩⟩ : CellV))) (results_cell_row Tryz.results101 _ _ w.heap.size 59 _ _ _ rfl (by exact HF.res.heap) Tryz.underlying59 rfl (by kernel_rfl)) rfl ?_
      refine ⟨(⟨⟨bytesOf s1, bytesOf s2, zagZ n3, bytesOf s4⟩, ⟨zagZ n5, false, 0, noVal⟩⟩ : CellV), (b :: r), true, rfl, HF.rs, HF.grown, ?_⟩
      have hcn : cellN lb = none := by
        obtain ⟨r0, e1, e2⟩ := cell_of_head Hh.out.1
        have h0 : ¬ b = 0 := fun e => by have h2 : 1 < b.toNat := Hb2.out; subst e; simp at h2
        have h1 : ¬ b = 1 := fun e => by have h2 : 1 < b.toNat := Hb2.out; subst e; simp at h2
        unfold cellN verN
        simp only [e1, e2, h0, h1, if_false]
      unfold Took
      rw [hcn]
    have hb01 : b = 0 ∨ b = 1 := by
      rcases (show b.toNat = 0 ∨ b.toNat = 1 by omega) with e | e
      · exact .inl (UInt8.toNat_inj.1 (by simpa using e))
      · exact .inr (UInt8.toNat_inj.1 (by simpa using e))
    clear hb2
    have hck : (cap = 1 ∧ r = []) ∨ cap ≠ 1 := by
      by_cases h : cap = 1
      · exact .inl ⟨h, List.eq_nil_of_length_eq_zero (by omega)⟩
      · exact .inr h
    rcases hck with ⟨rfl, rfl⟩ | hck
    · have H6 : Hid (MidR _ _ _ _ _ _ _ _) := H5.out.turn HR.out (RS.off (lb := []) (ao' := some ⟨bb, off, none⟩) hB rfl)
      clear hs ho
      rcases hb01 with rfl | rfl
      · go_wp2_with fail
        have Hc : Hid _ := refNum_any R [] false _ H6.out.rs
        have Hb16 : Hid _ := nS_lt ([], false)
        generalize hy16 : nS ([], false) = y at Hc Hb16
        obtain ⟨n16, lb16, g16⟩ := y
        have Hy16 : Hid (nS ([], false) = (n16, (lb16, g16))) := hy16
        clear hy16
        refine Calls.mono (Hid.out Hc) ?_
        rintro e w16 ⟨rfl, hR16, hg16⟩
        have H16a : Hid (MidR _ _ _ _ _ _ _ _) := H6.out.call HR.out hR16 hg16
        clear Hc hR16 hg16
        have hkz16 := kindZ_wrap (v := n16) Hb16.out
        have p7 := H16a.out.box.cell 7
        have q7 := H16a.out.box.frozen 7
        have H16 : Hid (MidR _ _ _ _ _ _ _ #[.string (bytesOf s1), .string (bytesOf s2), .int .i64 (zagZ n3), .string (bytesOf s4), .int .i64 (zagZ n5), .bool false, .int .i64 0, .int .i64 (kindZ n16), .int .i64 0, .string ⟨#[]⟩]) := H16a.out.set HR.out 7 (.int .i64 (kindZ n16))
        go_wp2_with fail
        clear p7 q7
        have Hc : Hid _ := refNum_any R lb16 g16 _ H16.out.rs
        have Hb17 : Hid _ := nS_lt (lb16, g16)
        generalize hy17 : nS (lb16, g16) = y at Hc Hb17
        obtain ⟨n17, lb17, g17⟩ := y
        have Hy17 : Hid (nS (lb16, g16) = (n17, (lb17, g17))) := hy17
        clear hy17
        refine Calls.mono (Hid.out Hc) ?_
        rintro e w17 ⟨rfl, hR17, hg17⟩
        have H17a : Hid (MidR _ _ _ _ _ _ _ _) := H16.out.call HR.out hR17 hg17
        clear Hc hR17 hg17
        go_wp2_with fail
        refine Calls.mono (refZag_any (n17 : Int) _ (by omega) (by have h2 : n17 < 18446744073709551616 := Hb17.out; omega)) ?_
        rintro e w17b ⟨rfl, rfl⟩
        have p8 := H17a.out.box.cell 8
        have q8 := H17a.out.box.frozen 8
        have H17 : Hid (MidR _ _ _ _ _ _ _ #[.string (bytesOf s1), .string (bytesOf s2), .int .i64 (zagZ n3), .string (bytesOf s4), .int .i64 (zagZ n5), .bool false, .int .i64 0, .int .i64 (kindZ n16), .int .i64 (zagZ n17), .string ⟨#[]⟩]) := H17a.out.set HR.out 8 (.int .i64 (zagZ n17))
        go_wp2_with fail
        clear p8 q8
        have Hc : Hid _ := refTextR_any R lb17 g17 _ H17.out.rs
        generalize hy18 : tS (lb17, g17) = y at Hc
        obtain ⟨s18, lb18, g18⟩ := y
        have Hy18 : Hid (tS (lb17, g17) = (s18, (lb18, g18))) := hy18
        clear hy18
        refine Calls.mono (Hid.out Hc) ?_
        rintro e w18 ⟨rfl, hR18, hg18⟩
        have H18a : Hid (MidR _ _ _ _ _ _ _ _) := H17.out.call HR.out hR18 hg18
        clear Hc hR18 hg18
        have p9 := H18a.out.box.cell 9
        have q9 := H18a.out.box.frozen 9
        have H18 : Hid (MidR _ _ _ _ _ _ _ #[.string (bytesOf s1), .string (bytesOf s2), .int .i64 (zagZ n3), .string (bytesOf s4), .int .i64 (zagZ n5), .bool false, .int .i64 0, .int .i64 (kindZ n16), .int .i64 (zagZ n17), .string (bytesOf s18)]) := H18a.out.set HR.out 9 (.string (bytesOf s18))
        have z0 := H18.out.res.cell 0
        have y0 := H18.out.res.frozen 0
        have x0 := H18.out.box.cell 0
        have z1 := H18.out.res.cell 1
        have y1 := H18.out.res.frozen 1
        have x1 := H18.out.box.cell 1
        have z2 := H18.out.res.cell 2
        have y2 := H18.out.res.frozen 2
        have x2 := H18.out.box.cell 2
        have z3 := H18.out.res.cell 3
        have y3 := H18.out.res.frozen 3
        have x3 := H18.out.box.cell 3
        have z4 := H18.out.res.cell 4
        have y4 := H18.out.res.frozen 4
        have x4 := H18.out.box.cell 4
        have z5 := H18.out.res.cell 5
        have y5 := H18.out.res.frozen 5
        have x5 := H18.out.box.cell 5
        have z6 := H18.out.res.cell 6
        have y6 := H18.out.res.frozen 6
        have x6 := H18.out.box.cell 6
        have z7 := H18.out.res.cell 7
        have y7 := H18.out.res.frozen 7
        have x7 := H18.out.box.cell 7
        have z8 := H18.out.res.cell 8
        have y8 := H18.out.res.frozen 8
        have x8 := H18.out.box.cell 8
        have z9 := H18.out.res.cell 9
        have y9 := H18.out.res.frozen 9
        have x9 := H18.out.box.cell 9
        go_wp2_with fail
        have HF : MidR _ _ _ _ _ _ _ _ := H18.out.put10 HR.out (.string (bytesOf s1)) (.string (bytesOf s2)) (.int .i64 (zagZ n3)) (.string (bytesOf s4)) (.int .i64 (zagZ n5)) (.bool false) (.int .i64 0) (.int .i64 (kindZ n16)) (.int .i64 (zagZ n17)) (.string (bytesOf s18))
        refine bodyPost_ret (v := .agg (cellA (⟨⟨bytesOf s1, bytesOf s2, zagZ n3, bytesOf s4⟩, ⟨zagZ n5, false, 0, ⟨kindZ n16, zagZ n17, bytesOf s18⟩⟩⟩ : CellV))) (results_cell_row Tryz.results101 _ _ w.heap.size 59 _ _ _ rfl (by exact HF.res.heap) Tryz.underlying59 rfl (by kernel_rfl)) rfl ?_
        refine ⟨(⟨⟨bytesOf s1, bytesOf s2, zagZ n3, bytesOf s4⟩, ⟨zagZ n5, false, 0, ⟨kindZ n16, zagZ n17, bytesOf s18⟩⟩⟩ : CellV), lb18, g18, rfl, HF.rs, HF.grown, ?_⟩
        obtain ⟨r0, e1, e2⟩ := cell_of_head Hh.out.1
        rcases val_of Hy16.out Hy17.out Hy18.out with ⟨e3, e4⟩ | ⟨e3, e4⟩
        · have hcn : cellN lb = some (⟨⟨bytesOf s1, bytesOf s2, zagZ n3, bytesOf s4⟩, ⟨zagZ n5, false, 0, ⟨kindZ n16, zagZ n17, bytesOf s18⟩⟩⟩, lb18) := by
            unfold cellN verN
            simp only [e1, e2, if_true, e4]
          unfold Took
          rw [hcn]
          exact ⟨rfl, rfl, e3⟩
        · have hcn : cellN lb = none := by
            unfold cellN verN
            simp only [e1, e2, if_true, e4]
          unfold Took
          rw [hcn]
          exact e3
      · have p5 := H6.out.box.cell 5
        have q5 := H6.out.box.frozen 5
        have H7 : Hid (MidR _ _ _ _ _ _ _ #[.string (bytesOf s1), .string (bytesOf s2), .int .i64 (zagZ n3), .string (bytesOf s4), .int .i64 (zagZ n5), .bool true, .int .i64 0, .int .i64 0, .int .i64 0, .string ⟨#[]⟩]) := H6.out.set HR.out 5 (.bool true)
        go_wp2_with fail
        clear p5 q5
        have Hc : Hid _ := refNum_any R [] false _ H7.out.rs
        have Hb16 : Hid _ := nS_lt ([], false)
        generalize hy16 : nS ([], false) = y at Hc Hb16
        obtain ⟨n16, lb16, g16⟩ := y
        have Hy16 : Hid (nS ([], false) = (n16, (lb16, g16))) := hy16
        clear hy16
        refine Calls.mono (Hid.out Hc) ?_
        rintro e w16 ⟨rfl, hR16, hg16⟩
        have H16a : Hid (MidR _ _ _ _ _ _ _ _) := H7.out.call HR.out hR16 hg16
        clear Hc hR16 hg16
        go_wp2_with fail
        refine Calls.mono (refZag_any (n16 : Int) _ (by omega) (by have h2 : n16 < 18446744073709551616 := Hb16.out; omega)) ?_
        rintro e w16b ⟨rfl, rfl⟩
        have p6 := H16a.out.box.cell 6
        have q6 := H16a.out.box.frozen 6
        have H16 : Hid (MidR _ _ _ _ _ _ _ #[.string (bytesOf s1), .string (bytesOf s2), .int .i64 (zagZ n3), .string (bytesOf s4), .int .i64 (zagZ n5), .bool true, .int .i64 (zagZ n16), .int .i64 0, .int .i64 0, .string ⟨#[]⟩]) := H16a.out.set HR.out 6 (.int .i64 (zagZ n16))
        have z0 := H16.out.res.cell 0
        have y0 := H16.out.res.frozen 0
        have x0 := H16.out.box.cell 0
        have z1 := H16.out.res.cell 1
        have y1 := H16.out.res.frozen 1
        have x1 := H16.out.box.cell 1
        have z2 := H16.out.res.cell 2
        have y2 := H16.out.res.frozen 2
        have x2 := H16.out.box.cell 2
        have z3 := H16.out.res.cell 3
        have y3 := H16.out.res.frozen 3
        have x3 := H16.out.box.cell 3
        have z4 := H16.out.res.cell 4
        have y4 := H16.out.res.frozen 4
        have x4 := H16.out.box.cell 4
        have z5 := H16.out.res.cell 5
        have y5 := H16.out.res.frozen 5
        have x5 := H16.out.box.cell 5
        have z6 := H16.out.res.cell 6
        have y6 := H16.out.res.frozen 6
        have x6 := H16.out.box.cell 6
        have z7 := H16.out.res.cell 7
        have y7 := H16.out.res.frozen 7
        have x7 := H16.out.box.cell 7
        have z8 := H16.out.res.cell 8
        have y8 := H16.out.res.frozen 8
        have x8 := H16.out.box.cell 8
        have z9 := H16.out.res.cell 9
        have y9 := H16.out.res.frozen 9
        have x9 := H16.out.box.cell 9
        go_wp2_with fail
        have HF : MidR _ _ _ _ _ _ _ _ := H16.out.put10 HR.out (.string (bytesOf s1)) (.string (bytesOf s2)) (.int .i64 (zagZ n3)) (.string (bytesOf s4)) (.int .i64 (zagZ n5)) (.bool true) (.int .i64 (zagZ n16)) (.int .i64 0) (.int .i64 0) (.string ⟨#[]⟩)
        refine bodyPost_ret (v := .agg (cellA (⟨⟨bytesOf s1, bytesOf s2, zagZ n3, bytesOf s4⟩, ⟨zagZ n5, true, zagZ n16, noVal⟩⟩ : CellV))) (results_cell_row Tryz.results101 _ _ w.heap.size 59 _ _ _ rfl (by exact HF.res.heap) Tryz.underlying59 rfl (by kernel_rfl)) rfl ?_
        refine ⟨(⟨⟨bytesOf s1, bytesOf s2, zagZ n3, bytesOf s4⟩, ⟨zagZ n5, true, zagZ n16, noVal⟩⟩ : CellV), lb16, g16, rfl, HF.rs, HF.grown, ?_⟩
        obtain ⟨r0, e1, e2⟩ := cell_of_head Hh.out.1
        cases g16
        · obtain ⟨_, f1⟩ := nS_false Hy16.out
          simp only at f1
          have hcn : cellN lb = some (⟨⟨bytesOf s1, bytesOf s2, zagZ n3, bytesOf s4⟩, ⟨zagZ n5, true, zagZ n16, noVal⟩⟩, lb16) := by
            unfold cellN verN signN
            unfold signN at e2
            simp only [e1, e2, show ¬ ((1 : UInt8) = 0) by decide, if_true, if_false, f1]
          unfold Took
          rw [hcn]
          exact ⟨rfl, rfl, rfl⟩
        · have f1 := (nS_true Hy16.out).1.resolve_left (by simp)
          simp only at f1
          have hcn : cellN lb = none := by
            unfold cellN verN signN
            unfold signN at e2
            simp only [e1, e2, show ¬ ((1 : UInt8) = 0) by decide, if_true, if_false, f1]
          unfold Took
          rw [hcn]
    · have H6 : Hid (MidR w (World.setCell _ ⟨R, 0, none⟩ (.slice (some ⟨bb, off + 1, none⟩) r.length (cap - 1))) R r false _ _ _) := H5.out.turn HR.out (RS.on (n := 1) (r := r) hB hs hc ho hmx rfl (by simp) (by simp))
      have hc1 : 1 ≤ cap := by omega
      clear hs ho
      rcases hb01 with rfl | rfl
      · go_wp2_with fail
        have Hc : Hid _ := refNum_any R r false _ H6.out.rs
        have Hb16 : Hid _ := nS_lt (r, false)
        generalize hy16 : nS (r, false) = y at Hc Hb16
        obtain ⟨n16, lb16, g16⟩ := y
        have Hy16 : Hid (nS (r, false) = (n16, (lb16, g16))) := hy16
        clear hy16
        refine Calls.mono (Hid.out Hc) ?_
        rintro e w16 ⟨rfl, hR16, hg16⟩
        have H16a : Hid (MidR _ _ _ _ _ _ _ _) := H6.out.call HR.out hR16 hg16
        clear Hc hR16 hg16
        have hkz16 := kindZ_wrap (v := n16) Hb16.out
        have p7 := H16a.out.box.cell 7
        have q7 := H16a.out.box.frozen 7
        have H16 : Hid (MidR _ _ _ _ _ _ _ #[.string (bytesOf s1), .string (bytesOf s2), .int .i64 (zagZ n3), .string (bytesOf s4), .int .i64 (zagZ n5), .bool false, .int .i64 0, .int .i64 (kindZ n16), .int .i64 0, .string ⟨#[]⟩]) := H16a.out.set HR.out 7 (.int .i64 (kindZ n16))
        go_wp2_with fail
        clear p7 q7
        have Hc : Hid _ := refNum_any R lb16 g16 _ H16.out.rs
        have Hb17 : Hid _ := nS_lt (lb16, g16)
        generalize hy17 : nS (lb16, g16) = y at Hc Hb17
        obtain ⟨n17, lb17, g17⟩ := y
        have Hy17 : Hid (nS (lb16, g16) = (n17, (lb17, g17))) := hy17
        clear hy17
        refine Calls.mono (Hid.out Hc) ?_
        rintro e w17 ⟨rfl, hR17, hg17⟩
        have H17a : Hid (MidR _ _ _ _ _ _ _ _) := H16.out.call HR.out hR17 hg17
        clear Hc hR17 hg17
        go_wp2_with fail
        refine Calls.mono (refZag_any (n17 : Int) _ (by omega) (by have h2 : n17 < 18446744073709551616 := Hb17.out; omega)) ?_
        rintro e w17b ⟨rfl, rfl⟩
        have p8 := H17a.out.box.cell 8
        have q8 := H17a.out.box.frozen 8
        have H17 : Hid (MidR _ _ _ _ _ _ _ #[.string (bytesOf s1), .string (bytesOf s2), .int .i64 (zagZ n3), .string (bytesOf s4), .int .i64 (zagZ n5), .bool false, .int .i64 0, .int .i64 (kindZ n16), .int .i64 (zagZ n17), .string ⟨#[]⟩]) := H17a.out.set HR.out 8 (.int .i64 (zagZ n17))
        go_wp2_with fail
        clear p8 q8
        have Hc : Hid _ := refTextR_any R lb17 g17 _ H17.out.rs
        generalize hy18 : tS (lb17, g17) = y at Hc
        obtain ⟨s18, lb18, g18⟩ := y
        have Hy18 : Hid (tS (lb17, g17) = (s18, (lb18, g18))) := hy18
        clear hy18
        refine Calls.mono (Hid.out Hc) ?_
        rintro e w18 ⟨rfl, hR18, hg18⟩
        have H18a : Hid (MidR _ _ _ _ _ _ _ _) := H17.out.call HR.out hR18 hg18
        clear Hc hR18 hg18
        have p9 := H18a.out.box.cell 9
        have q9 := H18a.out.box.frozen 9
        have H18 : Hid (MidR _ _ _ _ _ _ _ #[.string (bytesOf s1), .string (bytesOf s2), .int .i64 (zagZ n3), .string (bytesOf s4), .int .i64 (zagZ n5), .bool false, .int .i64 0, .int .i64 (kindZ n16), .int .i64 (zagZ n17), .string (bytesOf s18)]) := H18a.out.set HR.out 9 (.string (bytesOf s18))
        have z0 := H18.out.res.cell 0
        have y0 := H18.out.res.frozen 0
        have x0 := H18.out.box.cell 0
        have z1 := H18.out.res.cell 1
        have y1 := H18.out.res.frozen 1
        have x1 := H18.out.box.cell 1
        have z2 := H18.out.res.cell 2
        have y2 := H18.out.res.frozen 2
        have x2 := H18.out.box.cell 2
        have z3 := H18.out.res.cell 3
        have y3 := H18.out.res.frozen 3
        have x3 := H18.out.box.cell 3
        have z4 := H18.out.res.cell 4
        have y4 := H18.out.res.frozen 4
        have x4 := H18.out.box.cell 4
        have z5 := H18.out.res.cell 5
        have y5 := H18.out.res.frozen 5
        have x5 := H18.out.box.cell 5
        have z6 := H18.out.res.cell 6
        have y6 := H18.out.res.frozen 6
        have x6 := H18.out.box.cell 6
        have z7 := H18.out.res.cell 7
        have y7 := H18.out.res.frozen 7
        have x7 := H18.out.box.cell 7
        have z8 := H18.out.res.cell 8
        have y8 := H18.out.res.frozen 8
        have x8 := H18.out.box.cell 8
        have z9 := H18.out.res.cell 9
        have y9 := H18.out.res.frozen 9
        have x9 := H18.out.box.cell 9
        go_wp2_with fail
        have HF : MidR _ _ _ _ _ _ _ _ := H18.out.put10 HR.out (.string (bytesOf s1)) (.string (bytesOf s2)) (.int .i64 (zagZ n3)) (.string (bytesOf s4)) (.int .i64 (zagZ n5)) (.bool false) (.int .i64 0) (.int .i64 (kindZ n16)) (.int .i64 (zagZ n17)) (.string (bytesOf s18))
        refine bodyPost_ret (v := .agg (cellA (⟨⟨bytesOf s1, bytesOf s2, zagZ n3, bytesOf s4⟩, ⟨zagZ n5, false, 0, ⟨kindZ n16, zagZ n17, bytesOf s18⟩⟩⟩ : CellV))) (results_cell_row Tryz.results101 _ _ w.heap.size 59 _ _ _ rfl (by exact HF.res.heap) Tryz.underlying59 rfl (by kernel_rfl)) rfl ?_
        refine ⟨(⟨⟨bytesOf s1, bytesOf s2, zagZ n3, bytesOf s4⟩, ⟨zagZ n5, false, 0, ⟨kindZ n16, zagZ n17, bytesOf s18⟩⟩⟩ : CellV), lb18, g18, rfl, HF.rs, HF.grown, ?_⟩
        obtain ⟨r0, e1, e2⟩ := cell_of_head Hh.out.1
        rcases val_of Hy16.out Hy17.out Hy18.out with ⟨e3, e4⟩ | ⟨e3, e4⟩
        · have hcn : cellN lb = some (⟨⟨bytesOf s1, bytesOf s2, zagZ n3, bytesOf s4⟩, ⟨zagZ n5, false, 0, ⟨kindZ n16, zagZ n17, bytesOf s18⟩⟩⟩, lb18) := by
            unfold cellN verN
            simp only [e1, e2, if_true, e4]
          unfold Took
          rw [hcn]
          exact ⟨rfl, rfl, e3⟩
        · have hcn : cellN lb = none := by
            unfold cellN verN
            simp only [e1, e2, if_true, e4]
          unfold Took
          rw [hcn]
          exact e3
      · have p5 := H6.out.box.cell 5
        have q5 := H6.out.box.frozen 5
        have H7 : Hid (MidR _ _ _ _ _ _ _ #[.string (bytesOf s1), .string (bytesOf s2), .int .i64 (zagZ n3), .string (bytesOf s4), .int .i64 (zagZ n5), .bool true, .int .i64 0, .int .i64 0, .int .i64 0, .string ⟨#[]⟩]) := H6.out.set HR.out 5 (.bool true)
        go_wp2_with fail
        clear p5 q5
        have Hc : Hid _ := refNum_any R r false _ H7.out.rs
        have Hb16 : Hid _ := nS_lt (r, false)
        generalize hy16 : nS (r, false) = y at Hc Hb16
        obtain ⟨n16, lb16, g16⟩ := y
        have Hy16 : Hid (nS (r, false) = (n16, (lb16, g16))) := hy16
        clear hy16
        refine Calls.mono (Hid.out Hc) ?_
        rintro e w16 ⟨rfl, hR16, hg16⟩
        have H16a : Hid (MidR _ _ _ _ _ _ _ _) := H7.out.call HR.out hR16 hg16
        clear Hc hR16 hg16
        go_wp2_with fail
        refine Calls.mono (refZag_any (n16 : Int) _ (by omega) (by have h2 : n16 < 18446744073709551616 := Hb16.out; omega)) ?_
        rintro e w16b ⟨rfl, rfl⟩
        have p6 := H16a.out.box.cell 6
        have q6 := H16a.out.box.frozen 6
        have H16 : Hid (MidR _ _ _ _ _ _ _ #[.string (bytesOf s1), .string (bytesOf s2), .int .i64 (zagZ n3), .string (bytesOf s4), .int .i64 (zagZ n5), .bool true, .int .i64 (zagZ n16), .int .i64 0, .int .i64 0, .string ⟨#[]⟩]) := H16a.out.set HR.out 6 (.int .i64 (zagZ n16))
        have z0 := H16.out.res.cell 0
        have y0 := H16.out.res.frozen 0
        have x0 := H16.out.box.cell 0
        have z1 := H16.out.res.cell 1
        have y1 := H16.out.res.frozen 1
        have x1 := H16.out.box.cell 1
        have z2 := H16.out.res.cell 2
        have y2 := H16.out.res.frozen 2
        have x2 := H16.out.box.cell 2
        have z3 := H16.out.res.cell 3
        have y3 := H16.out.res.frozen 3
        have x3 := H16.out.box.cell 3
        have z4 := H16.out.res.cell 4
        have y4 := H16.out.res.frozen 4
        have x4 := H16.out.box.cell 4
        have z5 := H16.out.res.cell 5
        have y5 := H16.out.res.frozen 5
        have x5 := H16.out.box.cell 5
        have z6 := H16.out.res.cell 6
        have y6 := H16.out.res.frozen 6
        have x6 := H16.out.box.cell 6
        have z7 := H16.out.res.cell 7
        have y7 := H16.out.res.frozen 7
        have x7 := H16.out.box.cell 7
        have z8 := H16.out.res.cell 8
        have y8 := H16.out.res.frozen 8
        have x8 := H16.out.box.cell 8
        have z9 := H16.out.res.cell 9
        have y9 := H16.out.res.frozen 9
        have x9 := H16.out.box.cell 9
        go_wp2_with fail
        have HF : MidR _ _ _ _ _ _ _ _ := H16.out.put10 HR.out (.string (bytesOf s1)) (.string (bytesOf s2)) (.int .i64 (zagZ n3)) (.string (bytesOf s4)) (.int .i64 (zagZ n5)) (.bool true) (.int .i64 (zagZ n16)) (.int .i64 0) (.int .i64 0) (.string ⟨#[]⟩)
        refine bodyPost_ret (v := .agg (cellA (⟨⟨bytesOf s1, bytesOf s2, zagZ n3, bytesOf s4⟩, ⟨zagZ n5, true, zagZ n16, noVal⟩⟩ : CellV))) (results_cell_row Tryz.results101 _ _ w.heap.size 59 _ _ _ rfl (by exact HF.res.heap) Tryz.underlying59 rfl (by kernel_rfl)) rfl ?_
        refine ⟨(⟨⟨bytesOf s1, bytesOf s2, zagZ n3, bytesOf s4⟩, ⟨zagZ n5, true, zagZ n16, noVal⟩⟩ : CellV), lb16, g16, rfl, HF.rs, HF.grown, ?_⟩
        obtain ⟨r0, e1, e2⟩ := cell_of_head Hh.out.1
        cases g16
        · obtain ⟨_, f1⟩ := nS_false Hy16.out
          simp only at f1
          have hcn : cellN lb = some (⟨⟨bytesOf s1, bytesOf s2, zagZ n3, bytesOf s4⟩, ⟨zagZ n5, true, zagZ n16, noVal⟩⟩, lb16) := by
            unfold cellN verN signN
            unfold signN at e2
            simp only [e1, e2, show ¬ ((1 : UInt8) = 0) by decide, if_true, if_false, f1]
          unfold Took
          rw [hcn]
          exact ⟨rfl, rfl, rfl⟩
        · have f1 := (nS_true Hy16.out).1.resolve_left (by simp)
          simp only at f1
          have hcn : cellN lb = none := by
            unfold cellN verN signN
            unfold signN at e2
            simp only [e1, e2, show ¬ ((1 : UInt8) = 0) by decide, if_true, if_false, f1]
          unfold Took
          rw [hcn]
end Go.Proofs.YtdookhmaiapclaaGreatDoor
namespace Go.Proofs.YtdookhmaiapclaaGreatDoor
open Go.RowKit

theorem signN_lt {l : List UInt8} {n : Int} {r : List UInt8} (h : signN l = some (n, r)) : r.length < l.length := by
  unfold signN at h
  split at h
  · cases h
  · rename_i v r' e
    simp only [Option.some.injEq, Prod.mk.injEq] at h
    obtain ⟨_, rfl⟩ := h
    exact (get_bd e).2
theorem keyN_lt {l : List UInt8} {k : KeyV} {r : List UInt8} (h : keyN l = some (k, r)) : r.length < l.length := by
  unfold keyN at h
  split at h
  · cases h
  · rename_i t r1 e1
    split at h
    · cases h
    · rename_i p r2 e2
      split at h
      · cases h
      · rename_i n r3 e3
        split at h
        · cases h
        · rename_i c r4 e4
          simp only [Option.some.injEq, Prod.mk.injEq] at h
          obtain ⟨_, rfl⟩ := h
          have h1 := (textN_drop e1).2
          have h2 := (textN_drop e2).2
          have h3 := signN_lt e3
          have h4 := (textN_drop e4).2
          omega
theorem valN_lt {l : List UInt8} {k : ValV} {r : List UInt8} (h : valN l = some (k, r)) : r.length < l.length := by
  unfold valN at h
  split at h
  · cases h
  · rename_i t r1 e1
    split at h
    · cases h
    · rename_i p r2 e2
      split at h
      · cases h
      · rename_i n r3 e3
        simp only [Option.some.injEq, Prod.mk.injEq] at h
        obtain ⟨_, rfl⟩ := h
        have h1 := (get_bd e1).2
        have h2 := signN_lt e2
        have h3 := (textN_drop e3).2
        omega
theorem verN_lt {l : List UInt8} {k : VerV} {r : List UInt8} (h : verN l = some (k, r)) : r.length < l.length := by
  unfold verN at h
  split at h
  · cases h
  · rename_i t r1 e1
    have h1 := signN_lt e1
    split at h
    · cases h
    · rename_i m r2
      rw [List.length_cons] at h1
      split at h
      · split at h
        · cases h
        · rename_i v r3 e3
          simp only [Option.some.injEq, Prod.mk.injEq] at h
          obtain ⟨_, rfl⟩ := h
          have h3 := valN_lt e3
          omega
      · split at h
        · split at h
          · cases h
          · rename_i n r3 e3
            simp only [Option.some.injEq, Prod.mk.injEq] at h
            obtain ⟨_, rfl⟩ := h
            have h3 := signN_lt e3
            omega
        · cases h
theorem cellN_lt {l : List UInt8} {c : CellV} {r : List UInt8} (h : cellN l = some (c, r)) : r.length < l.length := by
  unfold cellN at h
  split at h
  · cases h
  · rename_i k r1 e1
    split at h
    · cases h
    · rename_i v r2 e2
      simp only [Option.some.injEq, Prod.mk.injEq] at h
      obtain ⟨_, rfl⟩ := h
      have h1 := keyN_lt e1
      have h2 := verN_lt e2
      omega

theorem RS.made {w : World} {ao : Option Addr} {l : List UInt8} {cap : Nat} (hs : Sees w ao l) (hn : ao = none → l.length = 0) (hcap : l.length ≤ cap) (hl : l.length ≤ 1000000000) : RS (w.alloc (.cells #[.slice ao l.length cap, .bool false] 150)) w.heap.size l false := by
  refine ⟨⟨ao, cap, Box.new _ _ _, hs.below ((Below.refl _ _).alloc (Nat.le_refl _) _) (Nat.le_refl _), hn, hcap, fun hne a e => ?_⟩, hl⟩
  obtain ⟨a', e', hc⟩ := hs 0 (by omega)
  obtain rfl := Option.some.inj (e.symm.trans e')
  have := World.block_lt_of_cell? _ _ hc
  rwa [Addr.add_block] at this

/-- What is read so far. -/
def Far (l : List UInt8) (n i : Nat) (cs : List CellV) (lb : List UInt8) (g : Bool) : Prop :=
  (g = false ∧ i + lb.length ≤ l.length ∧ ∃ r1, getN 0 0 l = some (n, r1) ∧ manyN n r1 = (manyN (n - i) lb).map fun x => (cs ++ x.1, x.2)) ∨ (g = true ∧ cellsN l = none)
theorem Far.start (l : List UInt8) {n : Nat} {lb : List UInt8} {g : Bool} (h : nS (l, false) = (n, (lb, g))) : Far l n 0 [] lb g := by
  cases g
  · obtain ⟨_, f1⟩ := nS_false h
    simp only at f1
    have := (get_bd f1).2
    exact .inl ⟨rfl, by omega, lb, f1, by simp⟩
  · have f1 := (nS_true h).1.resolve_left (by simp)
    simp only at f1
    exact .inr ⟨rfl, by unfold cellsN; simp only [f1]⟩
theorem Far.step {l : List UInt8} {n i : Nat} {cs : List CellV} {lb lb' : List UInt8} {c : CellV} {g' : Bool} (h : Far l n i cs lb false) (hi : i < n) (ht : Took lb c lb' g') : Far l n (i + 1) (cs ++ [c]) lb' g' := by
  rcases h with ⟨_, h2, r1, h3, h4⟩ | ⟨h1, _⟩
  · unfold Took at ht
    obtain ⟨k, hk⟩ : ∃ k, n - i = k + 1 := ⟨n - i - 1, by omega⟩
    rw [hk, manyN] at h4
    split at ht
    · rename_i c0 r e
      obtain ⟨rfl, rfl, rfl⟩ := ht
      have := cellN_lt e
      refine .inl ⟨rfl, by omega, r1, h3, ?_⟩
      rw [h4, e, show n - (i + 1) = k by omega]
      simp only []
      cases manyN k lb' <;> simp
    · rename_i e
      refine .inr ⟨ht, ?_⟩
      rw [e] at h4
      unfold cellsN
      simp only [h3, h4, Option.map_none]
  · cases h1

set_option maxRecDepth 100000 in
set_option maxHeartbeats 1600000 in
theorem refReadCells_any (ao : Option Addr) (l : List UInt8) (cap : Nat) (w : World) (hs : Sees w ao l) (hn : ao = none → l.length = 0) (hcap : l.length ≤ cap) (hl : l.length ≤ 1000000000) :
    Calls Tryz.prog 69 #[.slice ao l.length cap] w fun e w' => ∃ v, e = .returned (.tuple #[v, .int .i64 (redE l)]) ∧ w'.ownsRow w.heap.size 59 10 v (redC l).length (C10 (redC l)) ∧ Below w.heap.size w w' := by
  obtain ⟨i0, hi, hz0, hz1, hz2⟩ := info_parts infoCell
  have HR : Hid (RS _ _ _ _) := RS.made (cap := cap) hs hn hcap hl
  have Hc : Hid _ := refNum_any w.heap.size l false _ HR.out
  have Hb : Hid _ := nS_lt (l, false)
  generalize hy : nS (l, false) = y at Hc Hb
  obtain ⟨n, lb1, g1⟩ := y
  have Hf : Hid (Far l n 0 [] lb1 g1) := Far.start l hy
  clear hs hn hy
  go_enter Tryz.func69, Tryz.ntmps69
  go_wp2_with fail
  refine Calls.mono (Hid.out Hc) ?_
  rintro e w1 ⟨rfl, hR1, hg1⟩
  have hb1 : Below w.heap.size w w1 := below_made hg1
  have hnI : (n : Int) ≤ 18446744073709551615 := by have h2 : n < 18446744073709551616 := Hb.out; omega
  clear Hc
  go_wp2_with fail
  go_loopw [6, 7] (fun s6 s7 wr => ∃ (i : Nat) (cs : List CellV) (lb : List UInt8) (g : Bool), i ≤ n ∧ i ≤ l.length + 1 ∧ s7 = .int .u64 i ∧ cs.length = i ∧ RS wr w.heap.size lb g ∧ wr.ownsRow (w.heap.size + 1) 59 10 s6 i (C10 cs) ∧ Below w.heap.size w wr ∧ Far l n i cs lb g) (fun _ s7 _ => n - (intOf s7).toNat)
  case atStart => exact ⟨0, [], lb1, g1, by omega, by omega, rfl, rfl, hR1, World.ownsRow_nil _ _ _ _, hb1, Hf.out⟩
  case round =>
    obtain ⟨i, cs, lb, g, hin, hil, rfl, hcl, hR, ho, hbr, hf⟩ := hrel
    obtain ⟨ao', cap', hB, _, _, _, _⟩ := hR.ex
    have c0 := hB.cell 0
    have c1 := hB.cell 1
    have hmx := hR.max
    have Hfr : Hid (Far l n i cs lb g) := hf
    clear hf hB
    cases g
    · rcases Nat.lt_or_ge i n with hlt | hge
      · have hltI : (i : Int) < (n : Int) := by omega
        have Hce : Hid _ := refCell_any w.heap.size lb wr hR
        have hil2 : i + lb.length ≤ l.length := by
          rcases Hfr.out with ⟨_, h2, _⟩ | ⟨h1, _⟩
          · exact h2
          · cases h1
        go_wp2_with fail
        refine Calls.mono (Hid.out Hce) ?_
        rintro e w2 ⟨c, lb', g', rfl, hR2, hg2, htk⟩
        have ho2 := owns_heap (w' := w2) ho (fun k hk => hg2.block k (ho.lt k hk).2 (fun e => by have := Option.some.inj e; have := (ho.lt k hk).1; omega))
        have hb2 : Below w.heap.size w w2 := hbr.trans ⟨hg2.os, hg2.tape, hg2.output, hg2.size, fun k hk => hg2.block k (Nat.lt_of_lt_of_le hk hbr.size) (fun e => by have := Option.some.inj e; omega)⟩
        have Htk : Hid (Took lb c lb' g') := htk
        have hlt2 := hR2.lt
        clear Hce c0 c1 htk hg2
        obtain ⟨⟨table, part, row, col⟩, ⟨time, dead, loc, kind, num, s⟩⟩ := c
        unfold cellA
        go_wp2_with (at_builtin; go_must (refine wpList_append_grew _ rfl (.tmp 25) (.tmp 28) 22 22 rfl (w.heap.size + 1) 59 i0 _ 10 112 Tryz.underlying22 hi hz0 hz1 hz2 rfl _ i _ rfl (ho2.alloc _) _ 1 (C10 [⟨⟨table, part, row, col⟩, ⟨time, dead, loc, kind, num, s⟩⟩]) rfl (src_cell ⟨⟨table, part, row, col⟩, ⟨time, dead, loc, kind, num, s⟩⟩ (heap_alloc_new _ _)) (by unfold maxLen; omega) (by omega) (by simp; omega) ?_; intro v4 w4 ho4 hg4))
        have g4 := hg4.alloc
        clear hg4
        go_wp2
        go_roundw
        case rel =>
          refine ⟨i + 1, cs ++ [⟨⟨table, part, row, col⟩, ⟨time, dead, loc, kind, num, s⟩⟩], lb', g', by omega, by omega, by go_num, by simp [hcl], ?_, ?_, ?_, Hfr.out.step hlt Htk.out⟩
          · exact hR2.carry (fun k hk => g4.rows.block k (by omega) (fun e => by have := (ho2.lt k e.symm).1; omega))
          · rw [C10_append]
            exact ho4
          · exact hb2.trans (g4.below hb2.size (fun k hk => by have := (ho2.lt k hk).1; omega))
        case measure => simp [intOf]; omega
      · obtain rfl : i = n := by omega
        have hm : ∃ r1, getN 0 0 l = some (i, r1) ∧ manyN i r1 = some (cs, lb) := by
          rcases Hfr.out with ⟨_, _, r1, h3, h4⟩ | ⟨h1, _⟩
          · rw [Nat.sub_self, manyN] at h4
            exact ⟨r1, h3, by simpa using h4⟩
          · cases h1
        obtain ⟨r1, hm1, hm2⟩ := hm
        cases lb with
        | nil =>
          have e1 : cellsN l = some cs := by unfold cellsN; simp only [hm1, hm2]
          have E2 : Hid (redC l = cs) := by show _ = _; unfold redC; rw [e1]; rfl
          have E3 : Hid (redE l = 0) := by show _ = _; unfold redE; rw [e1]
          clear e1 hm1 hm2 hge hin
          go_wp2
          go_ret2
          refine ⟨_, by rw [E3.out]; rfl, ?_, hbr⟩
          rw [E2.out, hcl]
          exact owns_mono ho (by omega)
        | cons b r =>
          have e1 : cellsN l = none := by unfold cellsN; simp only [hm1, hm2]
          have E2 : Hid (redC l = []) := by show _ = _; unfold redC; rw [e1]; rfl
          have E3 : Hid (redE l = 8) := by show _ = _; unfold redE; rw [e1]
          simp only [List.length_cons] at c0 hmx
          have hpos : (0 : Int) < (r.length : Int) + 1 := by omega
          clear e1 hm1 hm2 hge hin
          go_wp2
          go_ret2
          exact ⟨_, by rw [E3.out]; rfl, by rw [E2.out]; exact World.ownsRow_nil _ _ _ _, hbr⟩
    · have e1 : cellsN l = none := by
        rcases Hfr.out with ⟨h1, _⟩ | ⟨_, h1⟩
        · cases h1
        · exact h1
      have E2 : Hid (redC l = []) := by show _ = _; unfold redC; rw [e1]; rfl
      have E3 : Hid (redE l = 8) := by show _ = _; unfold redE; rw [e1]
      clear e1
      rcases Nat.lt_or_ge i n with hlt | hge
      · have hltI : (i : Int) < (n : Int) := by omega
        go_wp2
        go_ret2
        exact ⟨_, by rw [E3.out]; rfl, by rw [E2.out]; exact World.ownsRow_nil _ _ _ _, hbr⟩
      · have hltI : ¬ (i : Int) < (n : Int) := by omega
        go_wp2
        go_ret2
        exact ⟨_, by rw [E3.out]; rfl, by rw [E2.out]; exact World.ownsRow_nil _ _ _ _, hbr⟩
end Go.Proofs.YtdookhmaiapclaaGreatDoor
namespace Go.Proofs.YtdookhmaiapclaaGreatDoor
open Go.RowKit

/-- The document's table in memory. -/
structure RTAt (w : World) (T : Nat) (l : List Cx) : Prop where
  ex : ∃ (ao : Option Addr) (cap : Nat) (m : FM), Blk w T [.slice ao l.length cap, m.v] 85 ∧ XSees w ao l ∧ RAt w m 7 (filB l.length l)
  wrt : Wrt l
  pos : wrtB l = true
theorem ow_belowR {w w' : World} {B n : Nat} {v : Value} {xs : List Value} (h : w.ownsRow B 59 10 v n xs) (hb : Below w.heap.size w w') : w'.ownsRow B 59 10 v n xs := owns_carryX h fun g hg => hb.block g (h.lt g hg).2
theorem sees_dropR {w : World} {b off : Nat} {r : List UInt8} (h : Sees w (some ⟨b, off, none⟩) r) (a : Nat) : Sees w (some ⟨b, off + a, none⟩) (r.drop a) := by
  intro j hj
  rw [List.length_drop] at hj
  obtain ⟨a', e, hc⟩ := h (a + j) (by omega)
  obtain rfl := Option.some.inj e
  refine ⟨_, rfl, ?_⟩
  have e2 : (⟨b, off + a, none⟩ : Addr).add j = (⟨b, off, none⟩ : Addr).add (a + j) := by rw [Addr.add_lit, Addr.add_lit]; congr 1; omega
  rw [e2, hc]
  simp [List.getD, List.getElem?_drop]
set_option maxRecDepth 100000 in
set_option maxHeartbeats 4000000 in
theorem ropen_any (b off cap : Nat) (r : List UInt8) (w : World) (hs : Sees w (some ⟨b, off, none⟩) r) (hr : r.length ≤ 60000) (hcap : r.length ≤ cap) :
    Calls Tryz.prog 35 #[.slice (some ⟨b, off, none⟩) r.length cap] w fun e w' => Below w.heap.size w w' ∧
      ((NoTab r ∧ e = .returned (.tuple #[.pointer none, .int .i64 8])) ∨ ∃ l T, e = .returned (.tuple #[.pointer (some ⟨T, 0, none⟩), .int .i64 0]) ∧ RTAt w' T l ∧ encTb l = r) := by
  obtain ⟨i1, hi1, hy0, hy1, hy2⟩ := infoX infoCx
  have HS : Hid (∀ u, Below w.heap.size w u → Sees u (some ⟨b, off, none⟩) r) := fun u hu => hs.below hu (Nat.le_refl _)
  have hrz : (r.length : Int) ≤ 60000 := by omega
  have HK0 : Hid (Kst r [] 0) := kst_start r
  clear hs
  go_enter Tryz.func35, Tryz.ntmps35
  go_wp2_with fail
  go_loopw [4, 5] (fun s4 s5 wr => ∃ (L : List Cx) (a : Nat), s5 = .int .i64 (a : Int) ∧ a ≤ r.length ∧ wr.ownsRow w.heap.size 59 10 s4 L.length (L.flatMap xs10) ∧ Below w.heap.size w wr ∧ Kst r L a ∧ 7 * L.length ≤ a ∧ ∀ c ∈ L, ReadX 60000 c) (fun _ s5 _ => r.length - (intOf s5).toNat)
  case atStart => exact ⟨[], 0, rfl, by omega, World.ownsRow_nil _ _ _ _, Below.refl _ _, HK0.out, by simp, fun c hc => by cases hc⟩
  case round =>
    obtain ⟨L, a, rfl, ha, ho, hbr, hK, hL7, hRX⟩ := hrel
    clear HK0
    have haz : (a : Int) ≤ (r.length : Int) := by omega
    have UF := fun (o : Nat) (c : Nat) (ho : o = off + a ∨ a = r.length) (hc : r.length - a ≤ c) => (show Calls Tryz.prog 68 #[.slice (some ⟨b, o, none⟩) (r.length - a) c] wr fun e w' => ∃ v', e = .returned (.tuple #[v', .int .i64 (unfN (r.drop a)), .int .i64 (unfE (r.drop a))]) ∧ w'.ownsRow wr.heap.size 5 1 v' (unfB (r.drop a)).length (B8 (unfB (r.drop a))) ∧ Below wr.heap.size wr w' from by
      have hS : Sees wr (some ⟨b, o, none⟩) (r.drop a) := by
        rcases ho with rfl | rfl
        · exact sees_dropR (HS.out wr hbr) a
        · rw [List.drop_length]; exact Sees.nil _ _
      have h := refUnframe_any (some ⟨b, o, none⟩) (r.drop a) c wr hS (by rw [List.length_drop]; omega) (by rw [List.length_drop]; exact hc)
      rw [List.length_drop] at h
      exact h)
    have HUF : Hid (∀ (o c : Nat), (o = off + a ∨ a = r.length) → r.length - a ≤ c → Calls Tryz.prog 68 #[.slice (some ⟨b, o, none⟩) (r.length - a) c] wr fun e w' => ∃ v', e = .returned (.tuple #[v', .int .i64 (unfN (r.drop a)), .int .i64 (unfE (r.drop a))]) ∧ w'.ownsRow wr.heap.size 5 1 v' (unfB (r.drop a)).length (B8 (unfB (r.drop a))) ∧ Below wr.heap.size wr w') := UF
    clear UF
    have HOW : Hid (wr.ownsRow w.heap.size 59 10 u4 L.length (L.flatMap xs10)) := ho
    have HBR : Hid (Below w.heap.size w wr) := hbr
    have HK : Hid (Kst r L a) := hK
    have HRX : Hid (∀ c ∈ L, ReadX 60000 c) := hRX
    clear ho hbr hK hRX
    by_cases hca : cap = a
    · have hal : a = r.length := by omega
      have hE : unfE (r.drop a) = 10 := by rw [hal, List.drop_length]; rfl
      have HNT : Hid (NoTab r) := HK.out.bad (by rw [hE]; decide)
      have U0 := HUF.out off 0 (.inr hal) (by omega)
      rw [hE] at U0
      have U1 : Hid (Calls Tryz.prog 68 #[.slice (some ⟨b, off, none⟩) (r.length - a) 0] wr fun e w' => ∃ v', e = .returned (.tuple #[v', .int .i64 (unfN (r.drop a) : Nat), .int .i64 (10 : Nat)]) ∧ w'.ownsRow wr.heap.size 5 1 v' (unfB (r.drop a)).length (B8 (unfB (r.drop a))) ∧ Below wr.heap.size wr w') := U0
      clear hal hE HUF U0
      go_wp2_with fail
      refine U1.out.mono ?_
      rintro e u1 ⟨v1, rfl, ho1, hb1⟩
      obtain ⟨a1, k1, e1, -, -, -⟩ := owns_sees ho1
      subst e1
      clear ho1
      go_wp2_with fail
      go_ret2
      exact ⟨HBR.out.trans (hb1.mono HBR.out.size), .inl ⟨HNT.out, rfl⟩⟩
    have U0 := HUF.out (off + a) (cap - a) (.inl rfl) (by omega)
    by_cases hE : unfE (r.drop a) = 0
    case neg =>
      have HNT : Hid (NoTab r) := HK.out.bad hE
      have U1 : Hid (Calls Tryz.prog 68 #[.slice (some ⟨b, off + a, none⟩) (r.length - a) (cap - a)] wr fun e w' => ∃ v', e = .returned (.tuple #[v', .int .i64 (unfN (r.drop a) : Nat), .int .i64 (unfE (r.drop a) : Nat)]) ∧ w'.ownsRow wr.heap.size 5 1 v' (unfB (r.drop a)).length (B8 (unfB (r.drop a))) ∧ Below wr.heap.size wr w') := U0
      generalize unfE (r.drop a) = E at *
      have hEz : ((E : Int) == 0) = false := by rw [beq_eq_false_iff_ne]; omega
      have hEz2 : ¬ (E : Int) = 0 := by omega
      clear HUF U0
      go_wp2_with fail
      refine U1.out.mono ?_
      rintro e u1 ⟨v1, rfl, ho1, hb1⟩
      obtain ⟨a1, k1, e1, -, -, -⟩ := owns_sees ho1
      subst e1
      clear ho1
      go_wp2_with fail
      go_ret2
      exact ⟨HBR.out.trans (hb1.mono HBR.out.size), .inl ⟨HNT.out, rfl⟩⟩
    case pos =>
      obtain ⟨hN1, hN2, hN3⟩ := unfN_of hE
      rw [List.length_drop] at hN2
      rw [hE] at U0
      have U1 : Hid (Calls Tryz.prog 68 #[.slice (some ⟨b, off + a, none⟩) (r.length - a) (cap - a)] wr fun e w' => ∃ v', e = .returned (.tuple #[v', .int .i64 (unfN (r.drop a) : Nat), .int .i64 (0 : Nat)]) ∧ w'.ownsRow wr.heap.size 5 1 v' (unfB (r.drop a)).length (B8 (unfB (r.drop a))) ∧ Below wr.heap.size wr w') := U0
      have RC : Hid (∀ (u : World) (ao : Option Addr) (c : Nat), Sees u ao (unfB (r.drop a)) → (ao = none → (unfB (r.drop a)).length = 0) → (unfB (r.drop a)).length ≤ c → Calls Tryz.prog 69 #[.slice ao (unfB (r.drop a)).length c] u fun e w' => ∃ v, e = .returned (.tuple #[v, .int .i64 (redE (unfB (r.drop a)))]) ∧ w'.ownsRow u.heap.size 59 10 v (redC (unfB (r.drop a))).length (C10 (redC (unfB (r.drop a)))) ∧ Below u.heap.size u w') := fun u ao c h1 h2 h3 => refReadCells_any ao _ c u h1 h2 h3 (by omega)
      cases hcs : cellsN (unfB (r.drop a)) with
      | none =>
        have HNT : Hid (NoTab r) := HK.out.bad2 hcs
        have hRE : redE (unfB (r.drop a)) = 8 := by unfold redE; rw [hcs]
        rw [hRE] at RC
        clear HUF U0 hE hcs hRE hN1 hN3
        generalize unfN (r.drop a) = N at *
        generalize unfB (r.drop a) = ub at *
        go_wp2_with fail
        refine U1.out.mono ?_
        rintro e u1 ⟨v1, rfl, ho1, hb1⟩
        obtain ⟨a1, k1, e1, s1, -, n1⟩ := owns_sees ho1
        have hk1 : ub.length ≤ k1 := by
          rcases ho1.2 with ⟨h1, h2⟩ | ⟨g, cap', cur, h, _, _, hn, _⟩
          · omega
          · rw [e1] at h; injection h with x1 x2 x3; omega
        subst e1
        have R1 := toHidW (RC.out u1 a1 k1 s1 (fun e => (n1 e).1) hk1)
        clear ho1 s1 n1 RC U1
        go_wp2_with fail
        refine (Hid.out R1).mono ?_
        rintro e u2 ⟨v2, rfl, ho2, hb2⟩
        have hb02 : Below w.heap.size w u2 := HBR.out.trans ((hb1.trans (hb2.mono hb1.size)).mono HBR.out.size)
        clear ho2 R1
        go_wp2_with fail
        go_ret2
        exact ⟨hb02, .inl ⟨HNT.out, rfl⟩⟩
      | some cs =>
        have hRE : redE (unfB (r.drop a)) = 0 := by unfold redE; rw [hcs]
        have hRC : redC (unfB (r.drop a)) = cs := by unfold redC; rw [hcs]; rfl
        obtain ⟨hc7, hcR⟩ := cellsN_facts hcs
        obtain ⟨ds, hds⟩ : ∃ ds, ds = cs.map ofC := ⟨_, rfl⟩
        have hdl : ds.length = cs.length := by rw [hds, List.length_map]
        rw [hRE, hRC, C10_ofC, ← hds, ← hdl] at RC
        have HB3 : Hid (ds.length = 0 → NoTab r) := fun h0 => HK.out.bad3 hcs (by omega)
        have HNX : Hid ((wrtB (L ++ ds) = true → encTb (L ++ ds) ≠ r) → Kst r (L ++ ds) (a + unfN (r.drop a))) := fun h => by
          rw [hds] at h ⊢
          exact HK.out.next hcs h
        have HRD : Hid (∀ c ∈ L ++ ds, ReadX 60000 c) := fun c hc => by
          rcases List.mem_append.1 hc with h | h
          · exact HRX.out c h
          · rw [hds] at h
            obtain ⟨x, hx, rfl⟩ := List.mem_map.1 h
            exact (hcR x hx).mono (by omega)
        have h7 : 7 * (L.length + ds.length) + 8 ≤ a + unfN (r.drop a) := by omega
        have hN8 : 8 ≤ unfN (r.drop a) := by omega
        clear HUF U0 hE hcs hRE hRC hN1 hN3 hc7 hcR hds hdl HRX
        generalize unfN (r.drop a) = N at *
        generalize unfB (r.drop a) = ub at *
        obtain ⟨a4, c4, e4, -, -⟩ := owns_xsees HOW.out
        subst e4
        have hNz : (N : Int) ≤ (r.length : Int) - (a : Int) := by omega
        have hLn : L.length + ds.length ≤ 8600 := by omega
        have hLz : (L.length : Int) + (ds.length : Int) ≤ 8600 := by omega
        go_wp2_with fail
        refine U1.out.mono ?_
        rintro e u1 ⟨v1, rfl, ho1, hb1⟩
        obtain ⟨a1, k1, e1, s1, -, n1⟩ := owns_sees ho1
        have hk1 : ub.length ≤ k1 := by
          rcases ho1.2 with ⟨h1, h2⟩ | ⟨g, cap', cur, h, _, _, hn, _⟩
          · omega
          · rw [e1] at h; injection h with x1 x2 x3; omega
        subst e1
        have R1 := toHidW (RC.out u1 a1 k1 s1 (fun e => (n1 e).1) hk1)
        clear ho1 s1 n1 RC U1
        go_wp2_with fail
        refine (Hid.out R1).mono ?_
        rintro e u2 ⟨v2, rfl, ho2, hb2⟩
        have hb12 : Below wr.heap.size wr u2 := hb1.trans (hb2.mono hb1.size)
        have hb02 : Below w.heap.size w u2 := HBR.out.trans (hb12.mono HBR.out.size)
        obtain ⟨a2, c2, e2, xs2, -⟩ := owns_xsees ho2
        subst e2
        have HOW2 : Hid (u2.ownsRow w.heap.size 59 10 (.slice a4 L.length c4) L.length (L.flatMap xs10)) := ow_belowR HOW.out hb12
        have HB02 : Hid (Below w.heap.size w u2) := hb02
        have SR : Hid (Src Tryz.prog 10 22 (.slice a2 ds.length c2) ds.length (ds.flatMap xs10) u2) := src_cells xs2 (fun e => by
          cases ds with
          | nil => rfl
          | cons c t => obtain ⟨b', o', e', _⟩ := xs2 0 c rfl; rw [e] at e'; cases e') c2
        clear ho2 R1 hb1 hb2 hb12 hb02 xs2 HOW
        by_cases hd0 : ds.length = 0
        · have HNT : Hid (NoTab r) := HB3.out hd0
          have hd0z : ((ds.length : Int) == 0) = true := by rw [hd0]; rfl
          have hd0i : (ds.length : Int) = 0 := by omega
          clear hd0
          go_wp2_with fail
          go_ret2
          exact ⟨HB02.out, .inl ⟨HNT.out, rfl⟩⟩
        have hd0z : ((ds.length : Int) == 0) = false := by rw [beq_eq_false_iff_ne]; omega
        have hd0i : ¬ (ds.length : Int) = 0 := by omega
        have hgt : ¬ (20000 : Int) < (L.length : Int) + (ds.length : Int) := by omega
        go_wp2_with (at_builtin; refine wpList_append_grew _ rfl _ _ 22 22 rfl w.heap.size 59 i1 _ 10 112 Tryz.underlying22 hi1 hy0 hy1 hy2 rfl _ L.length _ rfl HOW2.out _ ds.length (ds.flatMap xs10) rfl SR.out (by unfold maxLen; omega) (by omega) HB02.out.size ?_; intro v3 u3 ho3 hg3)
        have HB03 : Hid (Below w.heap.size w u3) := HB02.out.trans (hg3.below HB02.out.size fun g hg => (HOW2.out.lt g hg).1)
        obtain ⟨L2, hL2⟩ : ∃ L2, L2 = L ++ ds := ⟨_, rfl⟩
        have hl2 : L2.length = L.length + ds.length := by rw [hL2, List.length_append]
        have ho4 : u3.ownsRow w.heap.size 59 10 v3 L2.length (L2.flatMap xs10) := by rw [hl2, hL2, List.flatMap_append]; exact ho3
        rw [← hL2] at HNX HRD
        obtain ⟨a3, c3, e3, xs3, hT3⟩ := owns_xsees ho4
        have hc3 : L2.length ≤ c3 := by
          obtain ⟨ao2, cap2, e2, h2, _⟩ := owns_recs xs10_len ho4
          rw [e3] at e2
          cases e2
          exact h2
        obtain ⟨g, e5, -⟩ := hT3 0 L2[0] (List.getElem?_eq_getElem (by omega))
        subst e5
        subst e3
        have HL9 : L2.length ≤ 9000 := by omega
        have h72 : 7 * L2.length ≤ a + N := by omega
        have HO3 : Hid (u3.ownsRow w.heap.size 59 10 (.slice (some ⟨g, 0, none⟩) L2.length c3) L2.length (L2.flatMap xs10)) := ho4
        have HX3 : Hid (XSees u3 (some ⟨g, 0, none⟩) L2) := xs3
        have HFT : Hid (∀ c ∈ L2, c.Fit) := fun c hc => (HRD.out c hc).fit (by unfold maxLen; omega)
        have HNM : Hid (∀ c ∈ L2, c.Nums) := fun c hc => (HRD.out c hc).num
        have waN : IntKind.i64.wrap ((a : Int) + (N : Int)) = ((a + N : Nat) : Int) := by rw [IntKind.wrap_i64]; omega
        have haN : a + N ≤ r.length := by omega
        clear ho3 hg3 ho4 xs3 hT3 hL2 hl2 HOW2 SR HB3 HB02 hd0 hd0i hgt h7
        cases hw : wrtB L2
        · have HK2 : Hid (Kst r L2 (a + N)) := HNX.out fun h => by rw [hw] at h; cases h
          have WB := toHidW (rwrite_bad (some ⟨g, 0, none⟩) L2 c3 u3 HX3.out (by omega) HFT.out hw)
          clear HNX hw
          refine (Hid.out WB).mono ?_
          rintro e u4 ⟨rfl, hb4⟩
          have HR : Hid (u4.ownsRow w.heap.size 59 10 (.slice (some ⟨g, 0, none⟩) L2.length c3) L2.length (L2.flatMap xs10) ∧ Below w.heap.size w u4) := ⟨ow_belowR HO3.out hb4, HB03.out.trans (hb4.mono HB03.out.size)⟩
          clear WB hb4
          go_wp2_with fail
          go_roundw
          case rel => exact ⟨L2, a + N, by go_num, haN, HR.out.1, HR.out.2, HK2.out, h72, HRD.out⟩
          case measure => (simp [intOf]; try omega)
        · have HWR : Hid (wrtB L2 = true) := hw
          have WG := toHidW (rwrite_any g 0 c3 L2 u3 HX3.out HL9 hc3 HFT.out HNM.out hw)
          have HEN : Hid (encTb L2 ≠ r → Kst r L2 (a + N)) := fun h => HNX.out fun _ => h
          have hgd : ∀ c ∈ L2, goodC c = true := by
            unfold wrtB at hw
            simp only [Bool.and_eq_true] at hw
            exact List.all_eq_true.1 hw.2.2
          have HWT : Hid (Wrt L2) := ⟨hgd, HNM.out, HL9⟩
          have HOK : Hid (∀ c ∈ L2, c.k.Ok) := fun c hc => (good_small (hgd c hc)).ok (HNM.out c hc).r
          obtain ⟨TB, hTB⟩ : ∃ TB, TB = encTb L2 := ⟨_, rfl⟩
          rw [← hTB] at WG HEN
          have HTB : Hid (TB = encTb L2) := hTB
          clear HNX hw hgd hTB
          refine (Hid.out WG).mono ?_
          rintro e u4 ⟨v10, rfl, A10⟩
          have hb4 := A10.bel
          obtain ⟨a10, c10, e10, s10, n10⟩ := A10.shape
          subst e10
          have cv1 := conv_sees s10 n10 c10
          have HB04 : Hid (Below w.heap.size w u4) := HB03.out.trans (hb4.mono HB03.out.size)
          have cv2 := conv_sees (HS.out u4 HB04.out) (fun e => by cases e) cap
          have HR : Hid (u4.ownsRow w.heap.size 59 10 (.slice (some ⟨g, 0, none⟩) L2.length c3) L2.length (L2.flatMap xs10)) := ow_belowR HO3.out hb4
          have HX4 : Hid (XSees u4 (some ⟨g, 0, none⟩) L2) := HX3.out.below hb4 (Nat.le_refl _)
          clear WG A10 s10 n10 hb4
          by_cases heq : TB = r
          · have hq : ((⟨TB.toArray⟩ : ByteArray).toList == (⟨r.toArray⟩ : ByteArray).toList) = true := by rw [heq]; exact beq_self_eq_true _
            have hq2 : (TB == r) = true := by rw [heq]; exact beq_self_eq_true _
            have HEQ : Hid (encTb L2 = r) := HTB.out.symm.trans heq
            have FL := toHidW (rfilter_any (some ⟨g, 0, none⟩) L2 c3 u4 HX4.out (by omega) HOK.out)
            clear heq HEN
            go_wp2_with fail
            refine (Hid.out FL).mono ?_
            rintro e u5 ⟨m, rfl, hm, _, _, hb5⟩
            have HRT : Hid (RTAt (u5.alloc (.cells #[.slice (some ⟨g, 0, none⟩) L2.length c3, m.v] 85)) u5.heap.size L2 ∧ Below w.heap.size w (u5.alloc (.cells #[.slice (some ⟨g, 0, none⟩) L2.length c3, m.v] 85))) := by
              have hba : Below u5.heap.size u5 (u5.alloc (.cells #[.slice (some ⟨g, 0, none⟩) L2.length c3, m.v] 85)) := (Below.refl _ _).alloc (Nat.le_refl _) _
              have hb05 := HB04.out.trans (hb5.mono HB04.out.size)
              exact ⟨⟨⟨some ⟨g, 0, none⟩, c3, m, Blk.new u5 _ _, (HX4.out.below hb5 (Nat.le_refl _)).below hba (Nat.le_refl _), hm.below hba (Nat.le_refl _)⟩, HWT.out, HWR.out⟩, hb05.alloc hb05.size _⟩
            obtain ⟨md, mg, mcap, mrest⟩ := m
            simp only [FM.v] at HRT ⊢
            clear FL hm hb5 cv1 cv2 hq hq2
            go_wp2_with fail
            go_ret2
            exact ⟨HRT.out.2, .inr ⟨L2, u5.heap.size, rfl, HRT.out.1, HEQ.out⟩⟩
          · have hq : ((⟨TB.toArray⟩ : ByteArray).toList == (⟨r.toArray⟩ : ByteArray).toList) = false := by
              rw [ba_same]
              refine decide_eq_false fun h => heq ?_
              have h2 := congrArg (fun x : ByteArray => x.data.toList) h
              simpa using h2
            have hq2 : (TB == r) = false := by rw [beq_eq_false_iff_ne]; exact heq
            have HK2 : Hid (Kst r L2 (a + N)) := by
              have h := HEN.out
              exact h heq
            clear heq HEN
            go_wp2_with fail
            go_roundw
            case rel => exact ⟨L2, a + N, by go_num, haN, HR.out, HB04.out, HK2.out, h72, HRD.out⟩
            case measure => (simp [intOf]; try omega)
end Go.Proofs.YtdookhmaiapclaaGreatDoor
namespace Go.Proofs.YtdookhmaiapclaaGreatDoor
open Go.RowKit

attribute [local go_sem] Oper.pureAt Oper.pureUpon
theorem RTAt.below {w w' : World} {T : Nat} {l : List Cx} (h : RTAt w T l) (hb : Below w.heap.size w w') : RTAt w' T l := by
  obtain ⟨ao, cap, m, h1, h2, h3⟩ := h.ex
  exact ⟨⟨ao, cap, m, h1.carry (hb.block _ h1.lt), h2.below hb (Nat.le_refl _), h3.below hb (Nat.le_refl _)⟩, h.wrt, h.pos⟩
/-- A scan, as the document says it. -/
def inX (f u : Kb) (c : Cx) : Bool := decide (0 ≤ kc c.k.ky f.ky) && decide (kc c.k.ky u.ky < 0)
theorem filt_succ {p : Cx → Bool} {l : List Cx} {i : Nat} {c : Cx} (h : l[i]? = some c) : (l.take (i + 1)).filter p = if p c then (l.take i).filter p ++ [c] else (l.take i).filter p := by
  rw [takeX_succ h, List.filter_append]
  cases hp : p c <;> simp [hp]
set_option maxRecDepth 100000 in
set_option maxHeartbeats 2000000 in
theorem rscan_any {w : World} {T : Nat} {l : List Cx} (h : RTAt w T l) (f u : Kb) :
    Calls Tryz.prog 38 #[.pointer (some ⟨T, 0, none⟩), f.v, u.v] w fun e w' => ∃ v, e = .returned v ∧ w'.ownsRow w.heap.size 59 10 v (l.filter (inX f u)).length ((l.filter (inX f u)).flatMap xs10) ∧ Below w.heap.size w w' := by
  obtain ⟨i1, hi1, hy0, hy1, hy2⟩ := infoX infoCx
  have hl9 := h.wrt.len
  obtain ⟨ao, cap, m, hB, hx, -⟩ := h.ex
  obtain ⟨wx, hwx⟩ : ∃ wx, wx = (w.alloc (.cells #[.string f.t, .string f.p, .int .i64 f.r, .string f.c] 24)).alloc (.cells #[.string u.t, .string u.p, .int .i64 u.r, .string u.c] 24) := ⟨_, rfl⟩
  have hbx : Below w.heap.size w wx := by rw [hwx]; exact ((Below.refl _ _).alloc (Nat.le_refl _) _).alloc (by simp) _
  have hF : Blk wx w.heap.size [.string f.t, .string f.p, .int .i64 f.r, .string f.c] 24 := by rw [hwx]; exact (Blk.new w _ _).alloc _
  have hU : Blk wx (w.heap.size + 1) [.string u.t, .string u.p, .int .i64 u.r, .string u.c] 24 := by
    have := Blk.new (w.alloc (.cells #[.string f.t, .string f.p, .int .i64 f.r, .string f.c] 24)) [.string u.t, .string u.p, .int .i64 u.r, .string u.c] 24
    rw [World.size_alloc] at this
    rw [hwx]; exact this
  have hT : Blk wx T [.slice ao l.length cap, m.v] 85 := hB.carry (hbx.block _ hB.lt)
  have HB : Hid (∀ x, Below wx.heap.size wx x → Blk x w.heap.size [.string f.t, .string f.p, .int .i64 f.r, .string f.c] 24 ∧ Blk x (w.heap.size + 1) [.string u.t, .string u.p, .int .i64 u.r, .string u.c] 24 ∧ XSees x ao l ∧ Below w.heap.size w x) := fun x hx' =>
    ⟨hF.carry (hx'.block _ hF.lt), hU.carry (hx'.block _ hU.lt), (hx.below hbx (Nat.le_refl _)).below hx' (Nat.le_refl _), hbx.trans (hx'.mono hbx.size)⟩
  have CF : Hid (∀ (c : Cx) (x : World), Calls Tryz.prog 61 #[c.k.v, f.v] x fun e w' => e = .returned (.int .i64 (kc c.k.ky f.ky)) ∧ Below x.heap.size x w') := fun c x => refCmp_any _ _ x
  have CU : Hid (∀ (c : Cx) (x : World), Calls Tryz.prog 61 #[c.k.v, u.v] x fun e w' => e = .returned (.int .i64 (kc c.k.ky u.ky)) ∧ Below x.heap.size x w') := fun c x => refCmp_any _ _ x
  have HP : Hid (∀ c : Cx, inX f u c = (decide (0 ≤ kc c.k.ky f.ky) && decide (kc c.k.ky u.ky < 0))) := fun c => rfl
  obtain ⟨p, hp⟩ : ∃ p, p = inX f u := ⟨_, rfl⟩
  rw [← hp] at HP
  have HPP : Hid (p = inX f u) := hp
  have t0 := hT.cell 0 rfl
  have hlz : (l.length : Int) ≤ 9000 := by omega
  have HSZ : Hid (wx.heap.size = w.heap.size + 1 + 1) := by
    have h : wx.heap.size = w.heap.size + 1 + 1 := by rw [hwx]; simp
    exact h
  clear h hB hx hF hU hT hp
  obtain ⟨ft, fp, fr, fc⟩ := f
  obtain ⟨ut, up, ur, uc⟩ := u
  simp only [Kb.v] at CF CU HB hwx ⊢
  have t0' := t0
  rw [hwx] at t0'
  go_enter Tryz.func38, Tryz.ntmps38
  go_wp2_with fail
  rw [← hwx]
  clear hwx t0 t0'
  have HG0 : Hid (wx.ownsRow wx.heap.size 59 10 (.slice none 0 0) ((l.take 0).filter p).length (((l.take 0).filter p).flatMap xs10)) := World.ownsRow_nil _ _ _ _
  go_loopw [7, 15] (fun s7 s15 wr => ∃ i : Nat, i ≤ l.length ∧ s15 = .int .i64 i ∧ wr.ownsRow wx.heap.size 59 10 s7 ((l.take i).filter p).length (((l.take i).filter p).flatMap xs10) ∧ Below wx.heap.size wx wr) (fun _ s15 _ => l.length - (intOf s15).toNat)
  case atStart => exact ⟨0, by omega, rfl, HG0.out, Below.refl _ _⟩
  case round =>
    obtain ⟨i, hi, rfl, ho, hbr⟩ := hrel
    clear HG0
    obtain ⟨bF, bU, hxr, hb0⟩ := HB.out wr hbr
    rcases Nat.lt_or_ge i l.length with hlt | hge
    · obtain ⟨c, hc⟩ : ∃ c, l[i]? = some c := ⟨_, List.getElem?_eq_getElem hlt⟩
      obtain ⟨b, off, rfl, t⟩ := hxr i c hc
      have HST : Hid ((l.take (i + 1)).filter p = if p c then (l.take i).filter p ++ [c] else (l.take i).filter p) := filt_succ hc
      have hpc := HP.out c
      have hgl : ((l.take i).filter p).length ≤ 9000 := by
        have h1 := List.length_filter_le p (l.take i)
        rw [List.length_take] at h1; omega
      obtain ⟨wv, hwv⟩ : ∃ wv, wv = wr.alloc (.cells c.a 59) := ⟨_, rfl⟩
      have hbv : Below wr.heap.size wr wv := by rw [hwv]; exact (Below.refl _ _).alloc (Nat.le_refl _) _
      have tv : TenX wv wr.heap.size 0 c := by rw [hwv]; exact TenX.new wr c _
      have HV : Hid (∀ x, Below wv.heap.size wv x → TenX x wr.heap.size 0 c ∧ Below wx.heap.size wx x ∧ x.ownsRow wx.heap.size 59 10 u7 ((l.take i).filter p).length (((l.take i).filter p).flatMap xs10)) := fun x hx => by
        have h1 : Below wr.heap.size wr x := hbv.trans (hx.mono hbv.size)
        exact ⟨tv.below hx tv.lt, hbr.trans (h1.mono hbr.size), ow_belowR ho h1⟩
      have CF1 := CF.out c
      have CU1 := CU.out c
      have hltz : (i : Int) < (l.length : Int) := by omega
      generalize kc c.k.ky (Kb.ky ⟨ft, fp, fr, fc⟩) = K1 at *
      generalize kc c.k.ky (Kb.ky ⟨ut, up, ur, uc⟩) = K2 at *
      have HPC : Hid (p c = (decide (0 ≤ K1) && decide (K2 < 0))) := hpc
      obtain ⟨g0, g1, g2, g3⟩ : wv.cell? ⟨w.heap.size, 0, none⟩ = some (.string ft) ∧ wv.cell? ⟨w.heap.size, 1, none⟩ = some (.string fp) ∧ wv.cell? ⟨w.heap.size, 2, none⟩ = some (.int .i64 fr) ∧ wv.cell? ⟨w.heap.size, 3, none⟩ = some (.string fc) := by
        obtain ⟨q, -, -, -⟩ := HB.out wv (hbr.trans (hbv.mono hbr.size))
        exact ⟨q.cell 0 rfl, q.cell 1 rfl, q.cell 2 rfl, q.cell 3 rfl⟩
      rw [hwv] at g0 g1 g2 g3
      clear hc hpc hxr bF bU hb0 hbv ho
      obtain ⟨⟨ct, cp, cr, cc⟩, ⟨cti, cd, cl, ck, cn, cstr⟩⟩ := c
      obtain ⟨k0, k1, k2, k3, k4, k5, k6, k7, k8, k9⟩ := t
      simp only [Cx.a] at k0 k1 k2 k3 k4 k5 k6 k7 k8 k9 CF1 CU1 hwv g0 g1 g2 g3
      have C1 := toHidW CF1
      have C2 := toHidW CU1
      clear CF1 CU1
      go_wp2_with fail
      rw [← hwv]
      clear hwv k0 k1 k2 k3 k4 k5 k6 k7 k8 k9 g0 g1 g2 g3
      refine (Hid.out C1 _).mono ?_
      rintro e x1 ⟨rfl, hx1⟩
      obtain ⟨t1, hbx1, ho1⟩ := HV.out x1 hx1
      obtain ⟨k0, k1, k2, k3, k4, k5, k6, k7, k8, k9⟩ := t1
      simp only [Nat.zero_add] at k0 k1 k2 k3 k4 k5 k6 k7 k8 k9
      by_cases hK1 : 0 ≤ K1
      case neg =>
        have hK1' : K1 < 0 := by omega
        have HE : Hid ((l.take (i + 1)).filter p = (l.take i).filter p) := by
          have h := HST.out
          rw [if_neg (by rw [HPC.out, decide_eq_false hK1]; simp)] at h
          exact h
        have HR : Hid (x1.ownsRow wx.heap.size 59 10 u7 ((l.take i).filter p).length (((l.take i).filter p).flatMap xs10) ∧ Below wx.heap.size wx x1) := ⟨ho1, hbx1⟩
        clear HST k0 k1 k2 k3 k4 k5 k6 k7 k8 k9 ho1 hbx1
        go_wp2_with fail
        go_roundw
        case rel => exact ⟨i + 1, by omega, by go_num, by rw [HE.out]; exact HR.out.1, HR.out.2⟩
        case measure => (simp [intOf]; try omega)
      case pos =>
        have hK1' : ¬ K1 < 0 := by omega
        obtain ⟨-, qU, -, -⟩ := HB.out x1 hbx1
        have j0 := qU.cell 0 rfl
        have j1 := qU.cell 1 rfl
        have j2 := qU.cell 2 rfl
        have j3 := qU.cell 3 rfl
        clear qU
        go_wp2_with fail
        refine (Hid.out C2 _).mono ?_
        rintro e x2 ⟨rfl, hx2⟩
        obtain ⟨t2, hbx2, ho2⟩ := HV.out x2 (hx1.trans (hx2.mono hx1.size))
        clear k0 k1 k2 k3 k4 k5 k6 k7 k8 k9 j0 j1 j2 j3 ho1 hbx1
        obtain ⟨k0, k1, k2, k3, k4, k5, k6, k7, k8, k9⟩ := t2
        simp only [Nat.zero_add] at k0 k1 k2 k3 k4 k5 k6 k7 k8 k9
        by_cases hK2 : K2 < 0
        case neg =>
          have HE : Hid ((l.take (i + 1)).filter p = (l.take i).filter p) := by
            have h := HST.out
            rw [if_neg (by rw [HPC.out, decide_eq_false hK2]; simp)] at h
            exact h
          have HR : Hid (x2.ownsRow wx.heap.size 59 10 u7 ((l.take i).filter p).length (((l.take i).filter p).flatMap xs10) ∧ Below wx.heap.size wx x2) := ⟨ho2, hbx2⟩
          clear HST k0 k1 k2 k3 k4 k5 k6 k7 k8 k9 ho2 hbx2
          go_wp2_with fail
          go_roundw
          case rel => exact ⟨i + 1, by omega, by go_num, by rw [HE.out]; exact HR.out.1, HR.out.2⟩
          case measure => (simp [intOf]; try omega)
        case pos =>
          have HE : Hid ((l.take (i + 1)).filter p = (l.take i).filter p ++ [(⟨⟨ct, cp, cr, cc⟩, ⟨cti, cd, cl, ck, cn, cstr⟩⟩ : Cx)]) := by
            have h := HST.out
            rw [if_pos (by rw [HPC.out, decide_eq_true hK1, decide_eq_true hK2]; rfl)] at h
            exact h
          obtain ⟨a7, c7, e7, -, -⟩ := owns_xsees ho2
          subst e7
          have HO2 : Hid (x2.ownsRow wx.heap.size 59 10 (.slice a7 ((l.take i).filter p).length c7) ((l.take i).filter p).length (((l.take i).filter p).flatMap xs10)) := ho2
          have hsz2 := hbx2.size
          have HNW : Hid (∀ (v3 : Value) (w3 : World), w3.ownsRow wx.heap.size 59 10 v3 (((l.take i).filter p).length + 1) (((l.take i).filter p).flatMap xs10 ++ ([(⟨⟨ct, cp, cr, cc⟩, ⟨cti, cd, cl, ck, cn, cstr⟩⟩ : Cx)] : List Cx).flatMap xs10) → Grew (x2.alloc (.cells #[.string ct, .string cp, .int .i64 cr, .string cc, .int .i64 cti, .bool cd, .int .i64 cl, .int .i64 ck, .int .i64 cn, .string cstr] 59)) w3 (.slice a7 ((l.take i).filter p).length c7) v3 → w3.ownsRow wx.heap.size 59 10 v3 ((l.take (i + 1)).filter p).length (((l.take (i + 1)).filter p).flatMap xs10) ∧ Below wx.heap.size wx w3) := fun v3 w3 h1 h2 => by
            rw [HE.out, List.length_append, List.flatMap_append]
            exact ⟨h1, (hbx2.alloc hbx2.size _).trans (h2.below (by rw [World.size_alloc]; omega) fun g hg => (HO2.out.lt g hg).1)⟩
          clear HST ho2 hbx2
          go_wp2_with (at_builtin; go_must (refine wpList_append_grew _ rfl _ _ 22 22 rfl wx.heap.size 59 i1 _ 10 112 Tryz.underlying22 hi1 hy0 hy1 hy2 rfl _ ((l.take i).filter p).length _ rfl (HO2.out.alloc _) _ 1 (([(⟨⟨ct, cp, cr, cc⟩, ⟨cti, cd, cl, ck, cn, cstr⟩⟩ : Cx)] : List Cx).flatMap xs10) rfl (src_cellX x2 ⟨⟨ct, cp, cr, cc⟩, ⟨cti, cd, cl, ck, cn, cstr⟩⟩) (by unfold maxLen; omega) (by omega) (by rw [World.size_alloc]; omega) ?_; intro v3 w3 ho3 hg3; have hM := toHidE (HNW.out v3 w3 ho3 hg3); clear ho3 hg3))
          go_roundw
          case rel => exact ⟨i + 1, by omega, by go_num, hM.out.1, hM.out.2⟩
          case measure => (simp [intOf]; try omega)
    · obtain rfl : i = l.length := by omega
      have hgez : ¬ (l.length : Int) < (l.length : Int) := by omega
      have HR : Hid (wr.ownsRow w.heap.size 59 10 u7 (l.filter p).length ((l.filter p).flatMap xs10)) := by
        have h := owns_monoB ho (show w.heap.size ≤ wx.heap.size by have := HSZ.out; omega)
        rw [List.take_length] at h
        exact h
      obtain ⟨a7, c7, e7, -, -⟩ := owns_xsees HR.out
      subst e7
      clear ho bF bU hxr
      go_wp2_with fail
      go_ret
      refine ⟨_, rfl, ?_, hb0⟩
      rw [← HPP.out]
      exact HR.out
set_option maxRecDepth 100000 in
set_option maxHeartbeats 1000000 in
theorem rmay_any {w : World} {T : Nat} {l : List Cx} (h : RTAt w T l) (k : Kb) (hk : k.Big) :
    Calls Tryz.prog 39 #[.pointer (some ⟨T, 0, none⟩), k.v] w fun e w' => e = .returned (.bool (mayK (filB l.length l) (sumB (encK k.ky) 0#64) 7)) ∧ Below w.heap.size w w' := by
  obtain ⟨ao, cap, m, hB, -, hm⟩ := h.ex
  obtain ⟨w0, hw0⟩ : ∃ w0, w0 = w.alloc (.cells #[.string k.t, .string k.p, .int .i64 k.r, .string k.c] 24) := ⟨_, rfl⟩
  have hb0 : Below w.heap.size w w0 := by rw [hw0]; exact (Below.refl _ _).alloc (Nat.le_refl _) _
  have hK0 : Blk w0 w.heap.size [.string k.t, .string k.p, .int .i64 k.r, .string k.c] 24 := by rw [hw0]; exact Blk.new w _ _
  have hT0 : Blk w0 T [.slice ao l.length cap, m.v] 85 := hB.carry (hb0.block _ hB.lt)
  have hkl : (encK k.ky).length ≤ 20000000 := by
    have h1 := encT_le k.t (Nat.le_trans hk.t (by decide))
    have h2 := encT_le k.p (Nat.le_trans hk.p (by decide))
    have h3 := encT_le k.c (Nat.le_trans hk.c (by decide))
    have h4 : (encR k.r).length = 8 := be_length _ _
    have h5 := hk.t
    have h6 := hk.p
    have h7 := hk.c
    unfold encK Kb.ky
    simp only [List.length_append]
    omega
  have KB : Hid (∀ u, Calls Tryz.prog 30 #[k.v] u fun e w' => ∃ v, e = .returned v ∧ Aw u w' v (encK k.ky)) := fun u => refBytes_big k u hk
  have MY : Hid (∀ (u : World) (ao : Option Addr) (c : Nat), Below w0.heap.size w0 u → Sees u ao (encK k.ky) → Calls Tryz.prog 70 #[m.v, .slice ao (encK k.ky).length c] u fun e w' => e = .returned (.bool (mayK (filB l.length l) (sumB (encK k.ky) 0#64) 7)) ∧ Below u.heap.size u w') := fun u ao c hu hs => refMay_any ((hm.below hb0 (Nat.le_refl _)).below hu (Nat.le_refl _)) ao (encK k.ky) c (by omega) hs
  generalize mayK (filB l.length l) (sumB (encK k.ky) 0#64) 7 = res at *
  generalize encK k.ky = bs at *
  have lt1 := hK0.lt
  have lt2 := hT0.lt
  have p0 : ∀ q : Cl w0.heap.size w0, q.u.cell? ⟨w.heap.size, 0, none⟩ = some (.string k.t) := fun q => q.cell lt1 (hK0.cell 0 rfl)
  have p1 : ∀ q : Cl w0.heap.size w0, q.u.cell? ⟨w.heap.size, 1, none⟩ = some (.string k.p) := fun q => q.cell lt1 (hK0.cell 1 rfl)
  have p2 : ∀ q : Cl w0.heap.size w0, q.u.cell? ⟨w.heap.size, 2, none⟩ = some (.int .i64 k.r) := fun q => q.cell lt1 (hK0.cell 2 rfl)
  have p3 : ∀ q : Cl w0.heap.size w0, q.u.cell? ⟨w.heap.size, 3, none⟩ = some (.string k.c) := fun q => q.cell lt1 (hK0.cell 3 rfl)
  have q1 : ∀ q : Cl w0.heap.size w0, q.u.cell? ⟨T, 1, none⟩ = some m.v := fun q => q.cell lt2 (hT0.cell 1 rfl)
  obtain ⟨k1, k2, k3, k4⟩ := k
  obtain ⟨md, mg, mcap, mrest⟩ := m
  simp only [Kb.v, FM.v] at hw0 KB MY p0 p1 p2 p3 q1 ⊢
  clear hK0 hT0 hB hm lt1 lt2 h hk
  haveI := Cl.inh w0.heap.size w0
  go_enter Tryz.func39, Tryz.ntmps39
  go_wp2_with fail
  rw [← hw0]
  clear hw0
  refine wp_region_sched (fun w' => ∃ p : Cl w0.heap.size w0, w' = p.u) [(0, true), (1, true), (2, true), (3, true), (4, true), (5, false), (6, false), (7, true)] rfl (by kernel_rfl) (by kernel_rfl) (by kernel_rfl) ⟨⟨_, (Below.refl _ _).drew⟩, rfl⟩ ?_
  iterate 5 (refine sched_pure rfl (fun K hK => ?_); go_simp; refine hK _ ?_; clear hK K)
  refine sched_loud rfl (fun K' hK => ?_)
  go_simp
  refine (KB.out _).mono ?_
  rintro e x1 ⟨v1, rfl, hA⟩
  have b1 : Below w0.heap.size w0 x1 := (Below.refl _ _).drew.trans hA.bel
  obtain ⟨a1, c1, e1, s1, -, -⟩ := owns_sees hA.own
  subst e1
  refine hK _ _ ⟨⟨x1, b1⟩, rfl⟩ ?_
  clear hK
  have M1 := toHidW (MY.out x1 a1 c1 b1 s1)
  clear hA s1
  refine sched_loud rfl (fun K' hK => ?_)
  go_simp
  refine (Hid.out M1).mono ?_
  rintro e x2 ⟨rfl, hx2⟩
  have b2 : Below w0.heap.size w0 x2 := b1.trans (hx2.mono b1.size)
  refine hK _ _ ⟨⟨_, b2⟩, rfl⟩ ?_
  clear hK
  refine sched_pure rfl (fun K hK => ?_)
  go_simp
  refine hK _ ?_
  clear hK
  refine sched_nil ?_
  go_wp2_with fail
  go_ret
  exact ⟨rfl, hb0.trans (b2.mono hb0.size)⟩
end Go.Proofs.YtdookhmaiapclaaGreatDoor
namespace Go.Proofs.YtdookhmaiapclaaGreatDoor
open Go.RowKit

theorem filter_betw : ∀ (N : List Cx) (p : Cx → Bool) (a1 a2 : Nat), (∀ j c, N[j]? = some c → p c = (decide (a1 ≤ j) && decide (j < a2))) → N.filter p = betw N a1 a2
  | [], p, a1, a2, _ => by simp [betw]
  | c :: N, p, a1, a2, h => by
    have h0 := h 0 c rfl
    have ih := filter_betw N p (a1 - 1) (a2 - 1) fun j x hj => by
      have h1 := h (j + 1) x (by simpa using hj)
      rw [h1]
      congr 1
      · exact decide_eq_decide.2 (by omega)
      · exact decide_eq_decide.2 (by omega)
    unfold betw at ih ⊢
    rcases Nat.eq_zero_or_pos a1 with rfl | hp
    · rcases Nat.eq_zero_or_pos a2 with rfl | hq
      · have hf : p c = false := by rw [h0]; simp
        rw [List.filter_cons_of_neg (by rw [hf]; decide), ih]
        simp
      · have ht : p c = true := by rw [h0]; simp; omega
        obtain ⟨b, rfl⟩ : ∃ b, a2 = b + 1 := ⟨a2 - 1, by omega⟩
        rw [List.filter_cons_of_pos ht, ih]
        simp
    · have hf : p c = false := by rw [h0, decide_eq_false (by omega)]; rfl
      obtain ⟨d, rfl⟩ : ∃ d, a1 = d + 1 := ⟨a1 - 1, by omega⟩
      rw [List.filter_cons_of_neg (by rw [hf]; decide), ih]
      simp only [Nat.add_sub_cancel, List.drop_succ_cons]
      congr 1
      omega
theorem scan_doc {N : List Cx} {f u : Kb} {a1 a2 : Nat} (h1 : CutAt N f a1) (h2 : CutAt N u a2) : N.filter (inX f u) = betw N a1 a2 := by
  refine filter_betw N (inX f u) a1 a2 fun j c hj => ?_
  unfold inX
  congr 1
  · refine decide_eq_decide.2 ⟨fun h => ?_, fun h => h1.hi j c h hj⟩
    rcases Nat.lt_or_ge j a1 with hlt | hge
    · have := h1.lo j c hlt hj
      omega
    · exact hge
  · refine decide_eq_decide.2 ⟨fun h => ?_, fun h => h2.lo j c h hj⟩
    rcases Nat.lt_or_ge j a2 with hlt | hge
    · exact hlt
    · have := h2.hi j c hge hj
      omega
end Go.Proofs.YtdookhmaiapclaaGreatDoor
namespace Go.Proofs.YtdookhmaiapclaaGreatDoor
open Go.RowKit

attribute [local go_sem] Oper.pureAt Oper.pureUpon
theorem resX_rows {P : Program} {fn : Func} {p q u : Tmp} {ty : TypeId} (h : fn.results = #[.cell p ty, .cell q ty, .tmp u]) (tmps : Array Value) (w : World) (g1 g2 : Nat) (t : TypeId) (cs1 cs2 : Array Value) (fr1 fr2 : Nat × Nat) (d : TypeDesc) (v : Value)
    (hp : tmps.getD p undef = .pointer (some ⟨g1, 0, none⟩)) (hq : tmps.getD q undef = .pointer (some ⟨g2, 0, none⟩)) (hv : tmps.getD u undef = v) (hg1 : w.heap[g1]? = some (.cells cs1 t fr1)) (hg2 : w.heap[g2]? = some (.cells cs2 t fr2))
    (hu : P.underlying ty = some d) (hd : (match d with | .struct _ | .array _ _ => true | _ => false) = true) (hi1 : (P.info? ty).map (·.size) = some cs1.size) (hi2 : (P.info? ty).map (·.size) = some cs2.size) :
    (results fn tmps).run P w = .ok (.tuple #[.agg cs1, .agg cs2, v]) w := by
  rw [Array.getD_eq_getD_getElem?] at hp hq hv
  simp only [results, h]
  simp [Sem.run_bind, Result.andThen, hp, hq, hv, asAddr, run_loadVar_row w g1 t ty cs1 fr1 d hg1 hu hd hi1, run_loadVar_row w g2 t ty cs2 fr2 d hg2 hu hd hi2]
theorem set_other {w : World} {g : Nat} {cs : List Value} {t : TypeId} (h : Blk w g cs t) {g' : Nat} (hne : g' ≠ g) (i : Nat) (v : Value) : Blk (w.setCell ⟨g', i, none⟩ v) g cs t := h.carry (by
  simp only [World.setCell, Array.getElem?_modify]
  rw [if_neg (by simpa using hne)])
theorem set4 {w : World} {g : Nat} {a b c d : Value} {t : TypeId} (h : Blk w g [a, b, c, d] t) (v0 v1 v2 v3 : Value) :
    Blk ((((w.setCell ⟨g, 0, none⟩ v0).setCell ⟨g, 1, none⟩ v1).setCell ⟨g, 2, none⟩ v2).setCell ⟨g, 3, none⟩ v3) g [v0, v1, v2, v3] t := (((h.set 0 v0).set 1 v1).set 2 v2).set 3 v3
theorem set4_other {w : World} {g : Nat} {cs : List Value} {t : TypeId} (h : Blk w g cs t) {g' : Nat} (hne : g' ≠ g) (v0 v1 v2 v3 : Value) :
    Blk ((((w.setCell ⟨g', 0, none⟩ v0).setCell ⟨g', 1, none⟩ v1).setCell ⟨g', 2, none⟩ v2).setCell ⟨g', 3, none⟩ v3) g cs t := set_other (set_other (set_other (set_other h hne 0 v0) hne 1 v1) hne 2 v2) hne 3 v3
theorem below4 {B : Nat} {w w1 : World} (h : Below B w w1) {g : Nat} (hg : B ≤ g) (v0 v1 v2 v3 : Value) : Below B w ((((w1.setCell ⟨g, 0, none⟩ v0).setCell ⟨g, 1, none⟩ v1).setCell ⟨g, 2, none⟩ v2).setCell ⟨g, 3, none⟩ v3) := (((h.setCell hg v0).setCell hg v1).setCell hg v2).setCell hg v3
set_option maxRecDepth 100000 in
set_option maxHeartbeats 2000000 in
theorem endsT_any {w : World} {T : Nat} {l : List Cx} (h : TAt w T l) {c d : Cx} (hc : l[0]? = some c) (hd : l[l.length - 1]? = some d) :
    Calls Tryz.prog 15 #[.pointer (some ⟨T, 0, none⟩)] w fun e w' => e = .returned (.tuple #[c.k.v, d.k.v, .bool true]) ∧ Below w.heap.size w w' := by
  have hl9 := h.wrt.len
  have hpos := h.pos
  obtain ⟨fm, g, cap, hB, hx, hcap, hctop, hgl, -⟩ := h.cells
  obtain ⟨wa, hwa⟩ : ∃ wa, wa = (w.alloc (.cells #[.string ⟨#[]⟩, .string ⟨#[]⟩, .int .i64 0, .string ⟨#[]⟩] 24)).alloc (.cells #[.string ⟨#[]⟩, .string ⟨#[]⟩, .int .i64 0, .string ⟨#[]⟩] 24) := ⟨_, rfl⟩
  have hba : Below w.heap.size w wa := by rw [hwa]; exact ((Below.refl _ _).alloc (Nat.le_refl _) _).alloc (by simp) _
  have hK : Blk wa w.heap.size [.string ⟨#[]⟩, .string ⟨#[]⟩, .int .i64 0, .string ⟨#[]⟩] 24 := by rw [hwa]; exact (Blk.new w _ _).alloc _
  have hJ : Blk wa (w.heap.size + 1) [.string ⟨#[]⟩, .string ⟨#[]⟩, .int .i64 0, .string ⟨#[]⟩] 24 := by
    have := Blk.new (w.alloc (.cells #[.string ⟨#[]⟩, .string ⟨#[]⟩, .int .i64 0, .string ⟨#[]⟩] 24)) [.string ⟨#[]⟩, .string ⟨#[]⟩, .int .i64 0, .string ⟨#[]⟩] 24
    rw [World.size_alloc] at this
    rw [hwa]; exact this
  have SO : Hid (Calls Tryz.prog 41 #[.pointer (some ⟨T, 0, none⟩)] wa fun e w' => e = .returned (.slice (some ⟨g, 0, none⟩) l.length cap) ∧ w' = wa) := sorted_at (hB.carry (hba.block _ hB.lt))
  have hxa := hx.below hba (Nat.le_refl _)
  obtain ⟨b1, o1, e1, t1⟩ := hxa 0 c hc
  cases e1
  obtain ⟨b2, o2, e2, t2⟩ := hxa (l.length - 1) d hd
  cases e2
  obtain ⟨n, hn⟩ : ∃ n, l.length = n + 1 := ⟨l.length - 1, by omega⟩
  rw [hn, Nat.add_sub_cancel] at t2
  rw [Nat.zero_mul, Nat.add_zero] at t1
  rw [Nat.zero_add] at t2
  rw [hn] at SO hcap hl9
  have hnz : ((n : Int) + 1) - 1 = (n : Int) := by omega
  have hnz2 : (((n + 1 : Nat)) : Int) - 1 = (n : Int) := by omega
  have hn0 : (((n + 1 : Nat) : Int) == 0) = false := by rw [beq_eq_false_iff_ne]; omega
  have hn02 : (((n : Int) + 1) == 0) = false := by rw [beq_eq_false_iff_ne]; omega
  have hgw : g < w.heap.size := hgl
  obtain ⟨⟨ct, cp, cr, cc⟩, cv⟩ := c
  obtain ⟨⟨dt, dp, dr, dc⟩, dv⟩ := d
  obtain ⟨s0, s1, s2, s3, -, -, -, -, -, -⟩ := t1
  obtain ⟨u0, u1, u2, u3, -, -, -, -, -, -⟩ := t2
  simp only at s0 s1 s2 s3 u0 u1 u2 u3
  have HEND : Hid (∀ u, Below wa.heap.size wa u → Blk u w.heap.size [.string ⟨#[]⟩, .string ⟨#[]⟩, .int .i64 0, .string ⟨#[]⟩] 24 ∧ Blk u (w.heap.size + 1) [.string ⟨#[]⟩, .string ⟨#[]⟩, .int .i64 0, .string ⟨#[]⟩] 24 ∧ Below w.heap.size w u) := fun u hu => ⟨hK.carry (hu.block _ hK.lt), hJ.carry (hu.block _ hJ.lt), hba.trans (hu.mono hba.size)⟩
  have p0 : ∀ q : Cl w.heap.size wa, q.u.cell? ⟨g, 0, none⟩ = some (.string ct) := fun q => q.cell hgw s0
  have p1 : ∀ q : Cl w.heap.size wa, q.u.cell? ⟨g, 1, none⟩ = some (.string cp) := fun q => q.cell hgw s1
  have p2 : ∀ q : Cl w.heap.size wa, q.u.cell? ⟨g, 2, none⟩ = some (.int .i64 cr) := fun q => q.cell hgw s2
  have p3 : ∀ q : Cl w.heap.size wa, q.u.cell? ⟨g, 3, none⟩ = some (.string cc) := fun q => q.cell hgw s3
  have q0 : ∀ q : Cl w.heap.size wa, q.u.cell? ⟨g, n * 10, none⟩ = some (.string dt) := fun q => q.cell hgw u0
  have q1 : ∀ q : Cl w.heap.size wa, q.u.cell? ⟨g, n * 10 + 1, none⟩ = some (.string dp) := fun q => q.cell hgw u1
  have q2 : ∀ q : Cl w.heap.size wa, q.u.cell? ⟨g, n * 10 + 2, none⟩ = some (.int .i64 dr) := fun q => q.cell hgw u2
  have q3 : ∀ q : Cl w.heap.size wa, q.u.cell? ⟨g, n * 10 + 3, none⟩ = some (.string dc) := fun q => q.cell hgw u3
  clear s0 s1 s2 s3 u0 u1 u2 u3 hx hxa hB h hc hd hK hJ hba
  simp only [Kb.v]
  haveI := Cl.inh w.heap.size wa
  go_enter Tryz.func15, Tryz.ntmps15
  go_wp2_with fail
  rw [← hwa]
  clear hwa
  refine SO.out.mono ?_
  rintro e w1 ⟨rfl, he0⟩
  have he1 : wa = w1 := he0.symm
  subst he1
  clear SO he0
  go_wp2_with fail
  obtain ⟨K1, J1, B1⟩ := HEND.out _ (Below.refl _ _)
  clear HEND
  have HW : Hid (IntKind.i64.wrap (n : Int) = (n : Int)) := by show _ = _; rw [IntKind.wrap_i64]; omega
  have hn00 : (0 : Int) ≤ (n : Int) := by omega
  have hn01 : (n : Int) < (n : Int) + 1 := by omega
  have f0 := K1.frozen 0
  have f1 := K1.frozen 1
  have f2 := K1.frozen 2
  have f3 := K1.frozen 3
  have k0 := K1.cell 0 rfl
  have k1 := K1.cell 1 rfl
  have k2 := K1.cell 2 rfl
  have k3 := K1.cell 3 rfl
  refine wp_region_sched (fun w' => ∃ p : Cl w.heap.size wa, w' = p.u) [(0, true), (1, true), (2, true), (3, true), (4, true), (5, true), (6, true), (7, true), (8, true), (9, true), (10, true), (11, false), (12, false), (13, true)] rfl (by kernel_rfl) (by kernel_rfl) (by kernel_rfl) ⟨⟨_, (Below.refl _ _).drew⟩, rfl⟩ ?_
  iterate 8 (refine sched_pure rfl (fun K hK => ?_); go_simp; refine hK _ ?_; clear hK K)
  rw [HW.out]
  iterate 3 (refine sched_pure rfl (fun K hK => ?_); go_simp; refine hK _ ?_; clear hK K)
  refine sched_loud rfl (fun KK hK => ?_)
  go_simp
  obtain ⟨W5, hW5⟩ : ∃ W5, W5 = (((wa.setCell ⟨w.heap.size, 0, none⟩ (.string ct)).setCell ⟨w.heap.size, 1, none⟩ (.string cp)).setCell ⟨w.heap.size, 2, none⟩ (.int .i64 cr)).setCell ⟨w.heap.size, 3, none⟩ (.string cc) := ⟨_, rfl⟩
  have K5 : Blk W5 w.heap.size [.string ct, .string cp, .int .i64 cr, .string cc] 24 := by rw [hW5]; exact set4 K1 _ _ _ _
  have J5 : Blk W5 (w.heap.size + 1) [.string ⟨#[]⟩, .string ⟨#[]⟩, .int .i64 0, .string ⟨#[]⟩] 24 := by rw [hW5]; exact set4_other J1 (by omega) _ _ _ _
  have B5 : Below w.heap.size w W5 := by rw [hW5]; exact below4 B1 (Nat.le_refl _) _ _ _ _
  have C5 : Below w.heap.size wa W5 := by rw [hW5]; exact below4 (Below.refl _ _) (Nat.le_refl _) _ _ _ _
  rw [← hW5]
  refine hK _ _ ⟨⟨_, C5.drew⟩, rfl⟩ ?_
  clear hK KK hW5 f0 f1 f2 f3 k0 k1 k2 k3 K1 J1
  have f0 := J5.frozen 0
  have f1 := J5.frozen 1
  have f2 := J5.frozen 2
  have f3 := J5.frozen 3
  have k0 := J5.cell 0 rfl
  have k1 := J5.cell 1 rfl
  have k2 := J5.cell 2 rfl
  have k3 := J5.cell 3 rfl
  refine sched_loud rfl (fun KK hK => ?_)
  go_simp
  obtain ⟨W9, hW9⟩ : ∃ W9, W9 = (((W5.setCell ⟨w.heap.size + 1, 0, none⟩ (.string dt)).setCell ⟨w.heap.size + 1, 1, none⟩ (.string dp)).setCell ⟨w.heap.size + 1, 2, none⟩ (.int .i64 dr)).setCell ⟨w.heap.size + 1, 3, none⟩ (.string dc) := ⟨_, rfl⟩
  have J9 : Blk W9 (w.heap.size + 1) [.string dt, .string dp, .int .i64 dr, .string dc] 24 := by rw [hW9]; exact set4 J5 _ _ _ _
  have K9 : Blk W9 w.heap.size [.string ct, .string cp, .int .i64 cr, .string cc] 24 := by rw [hW9]; exact set4_other K5 (by omega) _ _ _ _
  have B9 : Below w.heap.size w W9 := by rw [hW9]; exact below4 B5 (by omega) _ _ _ _
  have C9 : Below w.heap.size wa W9 := by rw [hW9]; exact below4 C5 (by omega) _ _ _ _
  rw [← hW9]
  refine hK _ _ ⟨⟨_, C9.drew⟩, rfl⟩ ?_
  clear hK KK hW9 f0 f1 f2 f3 k0 k1 k2 k3 K5 J5
  iterate 1 (refine sched_pure rfl (fun K hK => ?_); go_simp; refine hK _ ?_; clear hK K)
  refine sched_nil ?_
  have K10 : Blk W9.drew w.heap.size [.string ct, .string cp, .int .i64 cr, .string cc] 24 := K9
  have J10 : Blk W9.drew (w.heap.size + 1) [.string dt, .string dp, .int .i64 dr, .string dc] 24 := J9
  have B10 : Below w.heap.size w W9.drew := B9.drew
  clear K9 J9 B9 C9 C5 B5 B1
  generalize W9.drew = WX at *
  go_wp2_with fail
  refine bodyPost_ret (v := .tuple #[.agg #[.string ct, .string cp, .int .i64 cr, .string cc], .agg #[.string dt, .string dp, .int .i64 dr, .string dc], .bool true]) (resX_rows Tryz.results15 _ _ w.heap.size (w.heap.size + 1) 24 _ _ _ _ _ _ rfl rfl rfl K10 J10 Tryz.underlying24 rfl (by kernel_rfl) (by kernel_rfl)) rfl ?_
  exact ⟨rfl, B10⟩
end Go.Proofs.YtdookhmaiapclaaGreatDoor
namespace Go.Proofs.YtdookhmaiapclaaGreatDoor
open Go.ChangeShapes Go.WideShapes Go.ChangeAt Go.RowKit Go.Deep

/-- An ask: its key, and a scan's ends. -/
def askV (k f u : Kb) : Value := .agg #[.string k.t, .string k.p, .int .i64 k.r, .string k.c, .string f.t, .string f.p, .int .i64 f.r, .string f.c, .string u.t, .string u.p, .int .i64 u.r, .string u.c]
set_option maxRecDepth 100000 in
theorem cellsAsk : Tryz.prog.cellsOf 26 = 12 := by kernel_rfl
set_option maxRecDepth 100000 in
theorem ask_came {H : Type} {enc : TypeId × Value → H} {W : World} {base : Nat} {v : Value} {d : DataW H} {p : List MemPlace} (hv : Value.okWide Tryz.prog W .any base 26 v)
    (h : DataW.Trod enc Tryz.prog W 0 (fun _ => true) true 26 v d p) : ∃ k f u : Kb, v = askV k f u ∧ (InI k.r ∧ InI f.r ∧ InI u.r) := by
  obtain ⟨cs, rfl, hsz⟩ := okWide_struct Tryz.underlying26 hv
  obtain ⟨fuel, hf⟩ := h
  have hl := hsz.trans cellsAsk
  obtain ⟨l⟩ := cs
  match l, hl with
  | [c0, c1, c2, c3, c4, c5, c6, c7, c8, c9, c10, c11], _ =>
    have hf' : DataW.trod enc Tryz.prog W 0 (fun _ => true) true fuel 26 [c0, c1, c2, c3, c4, c5, c6, c7, c8, c9, c10, c11] = some (d, p) := hf
    obtain ⟨y0, y1, y2, m, _, _, h0, h1, h2⟩ := trod_struct3 Tryz.underlying26 hf'
    simp only [cellsXK] at h0 h1 h2
    obtain ⟨k, ek, o1, _⟩ := kx_open (n := m) (c0 := c0) (c1 := c1) (c2 := c2) (c3 := c3) (x := y0) h0
    obtain ⟨f, ef, o2, _⟩ := kx_open (n := m) (c0 := c4) (c1 := c5) (c2 := c6) (c3 := c7) (x := y1) h1
    obtain ⟨u, eu, o3, _⟩ := kx_open (n := m) (c0 := c8) (c1 := c9) (c2 := c10) (c3 := c11) (x := y2) h2
    simp at ek ef eu
    obtain ⟨rfl, rfl, rfl, rfl⟩ := ek
    obtain ⟨rfl, rfl, rfl, rfl⟩ := ef
    obtain ⟨rfl, rfl, rfl, rfl⟩ := eu
    exact ⟨k, f, u, rfl, o1, o2, o3⟩
end Go.Proofs.YtdookhmaiapclaaGreatDoor
namespace Go.Proofs.YtdookhmaiapclaaGreatDoor
open Go.RowKit

attribute [local go_sem] Oper.pureAt Oper.pureUpon
theorem set6B {w : World} {g : Nat} {a b c d e f : Value} {t : TypeId} (h : Blk w g [a, b, c, d, e, f] t) (v0 v1 v2 v3 v4 v5 : Value) :
    Blk ((((((w.setCell ⟨g, 0, none⟩ v0).setCell ⟨g, 1, none⟩ v1).setCell ⟨g, 2, none⟩ v2).setCell ⟨g, 3, none⟩ v3).setCell ⟨g, 4, none⟩ v4).setCell ⟨g, 5, none⟩ v5) g [v0, v1, v2, v3, v4, v5] t := (((((h.set 0 v0).set 1 v1).set 2 v2).set 3 v3).set 4 v4).set 5 v5
theorem below6B {B : Nat} {w w1 : World} (h : Below B w w1) {g : Nat} (hg : B ≤ g) (v0 v1 v2 v3 v4 v5 : Value) : Below B w ((((((w1.setCell ⟨g, 0, none⟩ v0).setCell ⟨g, 1, none⟩ v1).setCell ⟨g, 2, none⟩ v2).setCell ⟨g, 3, none⟩ v3).setCell ⟨g, 4, none⟩ v4).setCell ⟨g, 5, none⟩ v5) := (((((h.setCell hg v0).setCell hg v1).setCell hg v2).setCell hg v3).setCell hg v4).setCell hg v5
theorem blk8 (n : Nat) (h : n + 1 ≤ 9000) : IntKind.i64.wrap ((IntKind.i64.wrap ((n : Int) + 1 + 7)).tdiv 8) = ((nBk (n + 1) : Nat) : Int) := by
  have h1 : IntKind.i64.wrap ((n : Int) + 1 + 7) = (n : Int) + 1 + 7 := by rw [IntKind.wrap_i64]; omega
  have h2 : ((n : Int) + 1 + 7).tdiv 8 = ((nBk (n + 1) : Nat) : Int) := by
    rw [Int.tdiv_eq_ediv_of_nonneg (by omega)]
    unfold nBk
    omega
  have h3 : nBk (n + 1) ≤ 9000 := by unfold nBk; omega
  rw [h1, h2, IntKind.wrap_i64]
  omega
set_option maxRecDepth 100000 in
set_option maxHeartbeats 4000000 in
theorem tells_some (b off cap : Nat) (r : List UInt8) (k f u : Kb) (w : World) (hs : Sees w (some ⟨b, off, none⟩) r) (hr0 : 0 < r.length) (hr : r.length ≤ 60000) (hcap : r.length ≤ cap) (htop : cap ≤ 9223372036854775807) (hb : b < w.heap.size) (hk : k.Big) (ht : Tab w) (ue : TypeId) (pv : Value) (he : Err w ue pv) :
    Calls Tryz.prog 11 #[.slice (some ⟨b, off, none⟩) r.length cap, askV k f u] w fun e w' => e = .returned (.bool true) ∧ Below w.heap.size w w' := by
  obtain ⟨wa, hwa⟩ : ∃ wa, wa = w.alloc (.cells #[.string k.t, .string k.p, .int .i64 k.r, .string k.c, .string f.t, .string f.p, .int .i64 f.r, .string f.c, .string u.t, .string u.p, .int .i64 u.r, .string u.c] 26) := ⟨_, rfl⟩
  have hba : Below w.heap.size w wa := by rw [hwa]; exact (Below.refl _ _).alloc (Nat.le_refl _) _
  have hA : Blk wa w.heap.size [.string k.t, .string k.p, .int .i64 k.r, .string k.c, .string f.t, .string f.p, .int .i64 f.r, .string f.c, .string u.t, .string u.p, .int .i64 u.r, .string u.c] 26 := by rw [hwa]; exact Blk.new w _ _
  have hgT : 0 < w.heap.size := World.block_lt_of_cell? _ _ (ht 0 (by decide))
  have OP : Hid (Calls Tryz.prog 22 #[.slice (some ⟨b, off, none⟩) r.length cap] wa fun e w' => Below wa.heap.size wa w' ∧
      ((NoTab r ∧ e = .returned (.tuple #[.pointer none, .int .i64 8])) ∨ ∃ l T, e = .returned (.tuple #[.pointer (some ⟨T, 0, none⟩), .int .i64 0]) ∧ TAt w' T l ∧ encTb l = r)) :=
    (open_any b off cap r wa (hs.below hba (Nat.le_refl _)) hr0 hr hcap htop (Nat.lt_of_lt_of_le hb hba.size) (ht.belowB hba hgT) ue pv (he.below hba (Nat.le_refl _))).mono fun e w' ⟨h1, h2⟩ => ⟨h1, h2.imp id fun ⟨l, h3, h4, h5⟩ => ⟨l, _, h3, h4, h5⟩⟩
  have RO : Hid (∀ x, Below wa.heap.size wa x → Calls Tryz.prog 35 #[.slice (some ⟨b, off, none⟩) r.length cap] x fun e w' => Below x.heap.size x w' ∧
      ((NoTab r ∧ e = .returned (.tuple #[.pointer none, .int .i64 8])) ∨ ∃ l T, e = .returned (.tuple #[.pointer (some ⟨T, 0, none⟩), .int .i64 0]) ∧ RTAt w' T l ∧ encTb l = r)) := fun x hx => ropen_any b off cap r x ((hs.below hba (Nat.le_refl _)).below hx (Nat.le_refl _)) hr hcap
  have HA : Hid (∀ x, Below wa.heap.size wa x → Blk x w.heap.size [.string k.t, .string k.p, .int .i64 k.r, .string k.c, .string f.t, .string f.p, .int .i64 f.r, .string f.c, .string u.t, .string u.p, .int .i64 u.r, .string u.c] 26 ∧ Below w.heap.size w x) := fun x hx => ⟨hA.carry (hx.block _ hA.lt), hba.trans (hx.mono hba.size)⟩
  have HKB : Hid k.Big := hk
  clear hs ht he hA hgT hk hr hr0 htop hb
  obtain ⟨kt, kp, kr, kc⟩ := k
  obtain ⟨ft, fp, fr, fc⟩ := f
  obtain ⟨ut, up, ur, uc⟩ := u
  simp only [askV] at hwa HA ⊢
  go_enter Tryz.func11, Tryz.ntmps11
  go_wp2_with fail
  rw [← hwa]
  clear hwa
  refine OP.out.mono ?_
  rintro e u1 ⟨hb1, hcase⟩
  have RO1 := toHidW (RO.out u1 hb1)
  clear OP RO
  rcases hcase with ⟨hNT, rfl⟩ | ⟨l, T, rfl, hT1, hE1⟩
  · have HNT : Hid (NoTab r) := hNT
    go_wp2_with fail
    refine (Hid.out RO1).mono ?_
    rintro e u2 ⟨hb2, hcase2⟩
    rcases hcase2 with ⟨-, rfl⟩ | ⟨l, T, rfl, hT2, hE2⟩
    · have HB2 := (HA.out u2 (hb1.trans (hb2.mono hb1.size))).2
      have HB3 := toHidW HB2
      clear HB2 RO1
      go_wp2_with fail
      go_ret
      exact ⟨rfl, Hid.out HB3⟩
    · exact absurd hE2 (HNT.out l hT2.wrt hT2.pos)
  have HT1 : Hid (TAt u1 T l) := hT1
  have HE1 : Hid (encTb l = r) := hE1
  clear hT1 hE1
  go_wp2_with fail
  refine (Hid.out RO1).mono ?_
  rintro e u2 ⟨hb2, hcase2⟩
  clear RO1
  rcases hcase2 with ⟨hNT, rfl⟩ | ⟨l', R, rfl, hT2, hE2⟩
  · exact absurd HE1.out (hNT l HT1.out.wrt HT1.out.ok)
  obtain rfl : l' = l := encTb_inj hT2.wrt HT1.out.wrt (hE2.trans HE1.out.symm)
  have hb12 : Below wa.heap.size wa u2 := hb1.trans (hb2.mono hb1.size)
  have HT2 : Hid (TAt u2 T l') := HT1.out.below hb2
  have HR2 : Hid (RTAt u2 R l') := hT2
  have HB2 : Hid (Below wa.heap.size wa u2) := hb12
  clear HT1 HE1 hT2 hE2 hb1 hb2 hb12
  obtain ⟨c0, hc0⟩ : ∃ c, l'[0]? = some c := ⟨_, List.getElem?_eq_getElem HT2.out.pos⟩
  obtain ⟨d0, hd0⟩ : ∃ d, l'[l'.length - 1]? = some d := ⟨_, List.getElem?_eq_getElem (by have := HT2.out.pos; omega)⟩
  have hl9 := HT2.out.wrt.len
  have hlp := HT2.out.pos
  have GT : Hid (Calls Tryz.prog 14 #[.pointer (some ⟨T, 0, none⟩), .agg #[.string kt, .string kp, .int .i64 kr, .string kc]] u2 fun e w' => e = .returned (.tuple #[(fnd ⟨kt, kp, kr, kc⟩ l').1.v, .bool (fnd ⟨kt, kp, kr, kc⟩ l').2]) ∧ Below u2.heap.size u2 w') := getT_any HT2.out ⟨kt, kp, kr, kc⟩
  have FD : Hid (∀ (x : World) (ao : Option Addr) (c : Nat), XSees x ao l' → Calls Tryz.prog 36 #[.slice ao l'.length c, .agg #[.string kt, .string kp, .int .i64 kr, .string kc]] x fun e w' => e = .returned (.tuple #[(fnd ⟨kt, kp, kr, kc⟩ l').1.v, .bool (fnd ⟨kt, kp, kr, kc⟩ l').2]) ∧ Below x.heap.size x w') := fun x ao c hx => refFind_any ao l' c ⟨kt, kp, kr, kc⟩ x hx (by omega)
  generalize fnd ⟨kt, kp, kr, kc⟩ l' = fr' at *
  obtain ⟨⟨gti, gd, gl, gk, gn, gs⟩, fb⟩ := fr'
  simp only [Vr.v] at GT FD
  obtain ⟨b9, -⟩ := HA.out u2 HB2.out
  have m0 := b9.cell 0 rfl
  have m1 := b9.cell 1 rfl
  have m2 := b9.cell 2 rfl
  have m3 := b9.cell 3 rfl
  have m4 := b9.cell 4 rfl
  have m5 := b9.cell 5 rfl
  have m6 := b9.cell 6 rfl
  have m7 := b9.cell 7 rfl
  have m8 := b9.cell 8 rfl
  have m9 := b9.cell 9 rfl
  have m10 := b9.cell 10 rfl
  have m11 := b9.cell 11 rfl
  go_wp2_with fail
  refine GT.out.mono ?_
  rintro e u3 ⟨rfl, hb3⟩
  clear m0 m1 m2 m3 m4 m5 m6 m7 m8 m9 m10 m11
  clear b9 GT
  have hb23 : Below wa.heap.size wa (u3.alloc (.cells #[.int .i64 gti, .bool gd, .int .i64 gl, .int .i64 gk, .int .i64 gn, .string gs] 48)) := by
    have h := HB2.out.trans (hb3.mono HB2.out.size)
    exact h.alloc h.size _
  obtain ⟨x3, hx3⟩ : ∃ x3, x3 = u3.alloc (.cells #[.int .i64 gti, .bool gd, .int .i64 gl, .int .i64 gk, .int .i64 gn, .string gs] 48) := ⟨_, rfl⟩
  have hV9 : Blk x3 u3.heap.size [.int .i64 gti, .bool gd, .int .i64 gl, .int .i64 gk, .int .i64 gn, .string gs] 48 := by rw [hx3]; exact Blk.new u3 _ _
  have hb2x : Below u2.heap.size u2 x3 := by rw [hx3]; exact hb3.alloc hb3.size _
  rw [← hx3] at hb23
  obtain ⟨n, hn⟩ : ∃ n, l'.length = n + 1 := ⟨l'.length - 1, by omega⟩
  obtain ⟨aoR, capR, mR, hRB, hRX, -⟩ := HR2.out.ex
  obtain ⟨bR, oR, eR, tR0⟩ := hRX 0 c0 hc0
  subst eR
  rw [hn] at hRB hd0 FD
  rw [Nat.add_sub_cancel] at hd0
  have HTX : Hid (∀ x, Below x3.heap.size x3 x → TAt x T l' ∧ RTAt x R l' ∧ Blk x R [.slice (some ⟨bR, oR, none⟩) (n + 1) capR, mR.v] 85 ∧ XSees x (some ⟨bR, oR, none⟩) l' ∧ Blk x u3.heap.size [.int .i64 gti, .bool gd, .int .i64 gl, .int .i64 gk, .int .i64 gn, .string gs] 48 ∧ Blk x w.heap.size [.string kt, .string kp, .int .i64 kr, .string kc, .string ft, .string fp, .int .i64 fr, .string fc, .string ut, .string up, .int .i64 ur, .string uc] 26 ∧ Below w.heap.size w x) := fun x hx => by
    have h2 : Below u2.heap.size u2 x := hb2x.trans (hx.mono hb2x.size)
    have ha : Below wa.heap.size wa x := hb23.trans (hx.mono hb23.size)
    exact ⟨HT2.out.below h2, HR2.out.below h2, hRB.carry (h2.block _ hRB.lt), hRX.below h2 (Nat.le_refl _), hV9.carry (hx.block _ hV9.lt), (HA.out x ha).1, (HA.out x ha).2⟩
  have EN : Hid (∀ x, Below x3.heap.size x3 x → Calls Tryz.prog 15 #[.pointer (some ⟨T, 0, none⟩)] x fun e w' => e = .returned (.tuple #[c0.k.v, d0.k.v, .bool true]) ∧ Below x.heap.size x w') := fun x hx => endsT_any (HTX.out x hx).1 hc0 (by rw [hn, Nat.add_sub_cancel]; exact hd0)
  have FD1 : Hid (∀ x, Below x3.heap.size x3 x → Calls Tryz.prog 36 #[.slice (some ⟨bR, oR, none⟩) (n + 1) capR, .agg #[.string kt, .string kp, .int .i64 kr, .string kc]] x fun e w' => e = .returned (.tuple #[.agg #[.int .i64 gti, .bool gd, .int .i64 gl, .int .i64 gk, .int .i64 gn, .string gs], .bool fb]) ∧ Below x.heap.size x w') := fun x hx => FD.out x _ capR (HTX.out x hx).2.2.2.1
  have hn9 : n + 1 ≤ 9000 := by omega
  have hnz : (n : Int) + 1 ≤ 9000 := by omega
  have TEN : Hid (∀ x, Below x3.heap.size x3 x → TenX x bR (oR + 0 * 10) c0 ∧ TenX x bR (oR + n * 10) d0) := fun x hx => by
    have h := (HTX.out x hx).2.2.2.1
    obtain ⟨b1, o1, e1, t1⟩ := h 0 c0 hc0
    cases e1
    obtain ⟨b2, o2, e2, t2⟩ := h n d0 hd0
    cases e2
    exact ⟨t1, t2⟩
  obtain ⟨mA, mB, mC, mD⟩ := mR
  simp only [FM.v] at HTX
  have HHC : Hid (l'[0]? = some c0 ∧ l'[n]? = some d0 ∧ l'.length = n + 1) := ⟨hc0, hd0, hn⟩
  obtain ⟨⟨ct, cp, cr, cc⟩, cv⟩ := c0
  obtain ⟨⟨dt, dp, dr, dc⟩, dv⟩ := d0
  simp only [Kb.v] at EN
  clear hV9 hb2x hb23 hb3 hRB hRX tR0 FD HT2 HR2 HB2 hc0 hd0 hn hl9 hlp HA hba hcap
  have HCW : Hid (∀ x, Below x3.heap.size x3 x → ∃ p : Cl x3.heap.size x3, x = p.u) := fun x hx => ⟨⟨x, hx⟩, rfl⟩
  haveI := Cl.inh x3.heap.size x3
  have q0 : ∀ z : Cl x3.heap.size x3, z.u.cell? ⟨w.heap.size, 0, none⟩ = some (.string kt) := fun z => (HTX.out z.u z.h).2.2.2.2.2.1.cell 0 rfl
  have q1 : ∀ z : Cl x3.heap.size x3, z.u.cell? ⟨w.heap.size, 1, none⟩ = some (.string kp) := fun z => (HTX.out z.u z.h).2.2.2.2.2.1.cell 1 rfl
  have q2 : ∀ z : Cl x3.heap.size x3, z.u.cell? ⟨w.heap.size, 2, none⟩ = some (.int .i64 kr) := fun z => (HTX.out z.u z.h).2.2.2.2.2.1.cell 2 rfl
  have q3 : ∀ z : Cl x3.heap.size x3, z.u.cell? ⟨w.heap.size, 3, none⟩ = some (.string kc) := fun z => (HTX.out z.u z.h).2.2.2.2.2.1.cell 3 rfl
  have q4 : ∀ z : Cl x3.heap.size x3, z.u.cell? ⟨w.heap.size, 4, none⟩ = some (.string ft) := fun z => (HTX.out z.u z.h).2.2.2.2.2.1.cell 4 rfl
  have q5 : ∀ z : Cl x3.heap.size x3, z.u.cell? ⟨w.heap.size, 5, none⟩ = some (.string fp) := fun z => (HTX.out z.u z.h).2.2.2.2.2.1.cell 5 rfl
  have q6 : ∀ z : Cl x3.heap.size x3, z.u.cell? ⟨w.heap.size, 6, none⟩ = some (.int .i64 fr) := fun z => (HTX.out z.u z.h).2.2.2.2.2.1.cell 6 rfl
  have q7 : ∀ z : Cl x3.heap.size x3, z.u.cell? ⟨w.heap.size, 7, none⟩ = some (.string fc) := fun z => (HTX.out z.u z.h).2.2.2.2.2.1.cell 7 rfl
  have q8 : ∀ z : Cl x3.heap.size x3, z.u.cell? ⟨w.heap.size, 8, none⟩ = some (.string ut) := fun z => (HTX.out z.u z.h).2.2.2.2.2.1.cell 8 rfl
  have q9 : ∀ z : Cl x3.heap.size x3, z.u.cell? ⟨w.heap.size, 9, none⟩ = some (.string up) := fun z => (HTX.out z.u z.h).2.2.2.2.2.1.cell 9 rfl
  have q10 : ∀ z : Cl x3.heap.size x3, z.u.cell? ⟨w.heap.size, 10, none⟩ = some (.int .i64 ur) := fun z => (HTX.out z.u z.h).2.2.2.2.2.1.cell 10 rfl
  have q11 : ∀ z : Cl x3.heap.size x3, z.u.cell? ⟨w.heap.size, 11, none⟩ = some (.string uc) := fun z => (HTX.out z.u z.h).2.2.2.2.2.1.cell 11 rfl
  have qR : ∀ z : Cl x3.heap.size x3, z.u.cell? ⟨R, 0, none⟩ = some (.slice (some ⟨bR, oR, none⟩) (n + 1) capR) := fun z => (HTX.out z.u z.h).2.2.1.cell 0 rfl
  go_wp2_with fail
  rw [← hx3]
  clear hx3
  refine wp_region_C (fun x => ∃ p : Cl x3.heap.size x3, x = p.u) 13 _ (by kernel_rfl) ?reg (fun _ _ h => h)
  refine anyC_pure 0 rfl (by kernel_rfl) (by kernel_rfl) (by kernel_rfl) (HCW.out _ (Below.refl x3.heap.size x3).drew) (fun K hK => ?_)
  go_simp
  refine hK _ ?_
  clear hK K
  refine anyC_pure 1 rfl (by kernel_rfl) (by kernel_rfl) (by kernel_rfl) (HCW.out _ (Below.refl x3.heap.size x3).drew) (fun K hK => ?_)
  go_simp
  refine hK _ ?_
  clear hK K
  refine anyC_pure 2 rfl (by kernel_rfl) (by kernel_rfl) (by kernel_rfl) (HCW.out _ (Below.refl x3.heap.size x3).drew) (fun K hK => ?_)
  go_simp
  refine hK _ ?_
  clear hK K
  refine anyC_pure 3 rfl (by kernel_rfl) (by kernel_rfl) (by kernel_rfl) (HCW.out _ (Below.refl x3.heap.size x3).drew) (fun K hK => ?_)
  go_simp
  refine hK _ ?_
  clear hK K
  refine anyC_pure 4 rfl (by kernel_rfl) (by kernel_rfl) (by kernel_rfl) (HCW.out _ (Below.refl x3.heap.size x3).drew) (fun K hK => ?_)
  go_simp
  refine hK _ ?_
  clear hK K
  refine anyC_pure 5 rfl (by kernel_rfl) (by kernel_rfl) (by kernel_rfl) (HCW.out _ (Below.refl x3.heap.size x3).drew) (fun K hK => ?_)
  go_simp
  refine hK _ ?_
  clear hK K
  refine anyC_loud2 6 10 (by kernel_rfl) ?_ ?_
  · refine lou_of rfl (fun K hK => ?_)
    go_simp
    refine (FD1.out _ (Below.refl _ _).drew).mono ?_
    rintro e y1 ⟨rfl, hy1⟩
    have b1 : Below x3.heap.size x3 y1 := (Below.refl _ _).drew.trans hy1
    refine hK _ _ ⟨fun _ => HCW.out _ b1, ?_⟩
    clear hK K
    refine anyC_pure 7 rfl (by kernel_rfl) (by kernel_rfl) (by kernel_rfl) (HCW.out _ b1) (fun K hK => ?_)
    go_simp
    refine hK _ ?_
    clear hK K
    refine anyC_pure 8 rfl (by kernel_rfl) (by kernel_rfl) (by kernel_rfl) (HCW.out _ b1) (fun K hK => ?_)
    go_simp
    refine hK _ ?_
    clear hK K
    refine anyC_pure 9 rfl (by kernel_rfl) (by kernel_rfl) (by kernel_rfl) (HCW.out _ b1) (fun K hK => ?_)
    go_simp
    refine hK _ ?_
    clear hK K
    refine anyC_loud 10 (by kernel_rfl) ?_
    refine lou_of rfl (fun K hK => ?_)
    go_simp
    have b2 := b1.alloc b1.size (.cells #[.int .i64 0, .bool false, .int .i64 0, .int .i64 0, .int .i64 0, .string ⟨#[]⟩] 48)
    have V11 : Blk (y1.alloc (.cells #[.int .i64 0, .bool false, .int .i64 0, .int .i64 0, .int .i64 0, .string ⟨#[]⟩] 48)) y1.heap.size [.int .i64 0, .bool false, .int .i64 0, .int .i64 0, .int .i64 0, .string ⟨#[]⟩] 48 := Blk.new y1 _ _
    refine hK _ _ ⟨fun _ => HCW.out _ b2, ?_⟩
    clear hK K
    obtain ⟨Y, hY⟩ : ∃ Y, Y = y1.alloc (.cells #[.int .i64 0, .bool false, .int .i64 0, .int .i64 0, .int .i64 0, .string ⟨#[]⟩] 48) := ⟨_, rfl⟩
    rw [← hY] at V11 b2 ⊢
    clear hY
    obtain ⟨G, hG⟩ : ∃ G, G = y1.heap.size := ⟨_, rfl⟩
    rw [← hG] at V11 ⊢
    have hG3 : x3.heap.size ≤ G := by rw [hG]; exact b1.size
    clear hG
    have z0 := V11.cell 0 rfl
    have f0 := V11.frozen 0
    have z1 := V11.cell 1 rfl
    have f1 := V11.frozen 1
    have z2 := V11.cell 2 rfl
    have f2 := V11.frozen 2
    have z3 := V11.cell 3 rfl
    have f3 := V11.frozen 3
    have z4 := V11.cell 4 rfl
    have f4 := V11.frozen 4
    have z5 := V11.cell 5 rfl
    have f5 := V11.frozen 5
    have V12 := set6B V11 (.int .i64 gti) (.bool gd) (.int .i64 gl) (.int .i64 gk) (.int .i64 gn) (.string gs)
    have bZ := below6B b2 hG3 (.int .i64 gti) (.bool gd) (.int .i64 gl) (.int .i64 gk) (.int .i64 gn) (.string gs)
    refine anyC_loud 11 (by kernel_rfl) ?_
    refine lou_of rfl (fun K hK => ?_)
    go_simp
    refine hK _ _ ⟨fun _ => HCW.out _ bZ, ?_⟩
    clear hK K z0 z1 z2 z3 z4 z5 f0 f1 f2 f3 f4 f5 V11 b2
    refine anyC_pure 12 rfl (by kernel_rfl) (by kernel_rfl) (by kernel_rfl) (HCW.out _ bZ) (fun K hK => ?_)
    go_simp
    refine hK _ ?_
    clear hK K
    refine anyC_done (by kernel_rfl) ?_
    generalize ((((((Y.setCell ⟨G, 0, none⟩ (.int .i64 gti)).setCell ⟨G, 1, none⟩ (.bool gd)).setCell ⟨G, 2, none⟩ (.int .i64 gl)).setCell ⟨G, 3, none⟩ (.int .i64 gk)).setCell ⟨G, 4, none⟩ (.int .i64 gn)).setCell ⟨G, 5, none⟩ (.string gs)) = Z at V12 bZ ⊢
    clear q0 q1 q2 q3 q4 q5 q6 q7 q8 q9 q10 q11 qR
    go_wp2_with fail
    refine (EN.out Z bZ).mono ?_
    rintro e x4 ⟨rfl, h4⟩
    have b4 : Below x3.heap.size x3 x4 := bZ.trans (h4.mono bZ.size)
    obtain ⟨x5, hx5⟩ : ∃ x5, x5 = (x4.alloc (.cells #[.string ct, .string cp, .int .i64 cr, .string cc] 24)).alloc (.cells #[.string dt, .string dp, .int .i64 dr, .string dc] 24) := ⟨_, rfl⟩
    have h45 : Below x4.heap.size x4 x5 := by rw [hx5]; exact ((Below.refl _ _).alloc (Nat.le_refl _) _).alloc (by simp) _
    have hP : Blk x5 x4.heap.size [.string ct, .string cp, .int .i64 cr, .string cc] 24 := by rw [hx5]; exact (Blk.new x4 _ _).alloc _
    have hQ : Blk x5 (x4.heap.size + 1) [.string dt, .string dp, .int .i64 dr, .string dc] 24 := by
      have := Blk.new (x4.alloc (.cells #[.string ct, .string cp, .int .i64 cr, .string cc] 24)) [.string dt, .string dp, .int .i64 dr, .string dc] 24
      rw [World.size_alloc] at this
      rw [hx5]; exact this
    have b5 : Below x3.heap.size x3 x5 := b4.trans (h45.mono b4.size)
    have hV5 : Blk x5 G [.int .i64 gti, .bool gd, .int .i64 gl, .int .i64 gk, .int .i64 gn, .string gs] 48 := (V12.carry (h4.block _ V12.lt)).carry (h45.block _ (V12.carry (h4.block _ V12.lt)).lt)
    have HX5 : Hid (∀ x, Below x5.heap.size x5 x → Below x3.heap.size x3 x) := fun x hx => b5.trans (hx.mono b5.size)
    have a0 : ∀ z : Cl x5.heap.size x5, z.u.cell? ⟨u3.heap.size, 0, none⟩ = some (.int .i64 gti) := fun z => (HTX.out z.u (HX5.out z.u z.h)).2.2.2.2.1.cell 0 rfl
    have a1 : ∀ z : Cl x5.heap.size x5, z.u.cell? ⟨u3.heap.size, 1, none⟩ = some (.bool gd) := fun z => (HTX.out z.u (HX5.out z.u z.h)).2.2.2.2.1.cell 1 rfl
    have a2 : ∀ z : Cl x5.heap.size x5, z.u.cell? ⟨u3.heap.size, 2, none⟩ = some (.int .i64 gl) := fun z => (HTX.out z.u (HX5.out z.u z.h)).2.2.2.2.1.cell 2 rfl
    have a3 : ∀ z : Cl x5.heap.size x5, z.u.cell? ⟨u3.heap.size, 3, none⟩ = some (.int .i64 gk) := fun z => (HTX.out z.u (HX5.out z.u z.h)).2.2.2.2.1.cell 3 rfl
    have a4 : ∀ z : Cl x5.heap.size x5, z.u.cell? ⟨u3.heap.size, 4, none⟩ = some (.int .i64 gn) := fun z => (HTX.out z.u (HX5.out z.u z.h)).2.2.2.2.1.cell 4 rfl
    have a5 : ∀ z : Cl x5.heap.size x5, z.u.cell? ⟨u3.heap.size, 5, none⟩ = some (.string gs) := fun z => (HTX.out z.u (HX5.out z.u z.h)).2.2.2.2.1.cell 5 rfl
    have b0' : ∀ z : Cl x5.heap.size x5, z.u.cell? ⟨G, 0, none⟩ = some (.int .i64 gti) := fun z => z.cell hV5.lt (hV5.cell 0 rfl)
    have b1' : ∀ z : Cl x5.heap.size x5, z.u.cell? ⟨G, 1, none⟩ = some (.bool gd) := fun z => z.cell hV5.lt (hV5.cell 1 rfl)
    have b2' : ∀ z : Cl x5.heap.size x5, z.u.cell? ⟨G, 2, none⟩ = some (.int .i64 gl) := fun z => z.cell hV5.lt (hV5.cell 2 rfl)
    have b3' : ∀ z : Cl x5.heap.size x5, z.u.cell? ⟨G, 3, none⟩ = some (.int .i64 gk) := fun z => z.cell hV5.lt (hV5.cell 3 rfl)
    have b4' : ∀ z : Cl x5.heap.size x5, z.u.cell? ⟨G, 4, none⟩ = some (.int .i64 gn) := fun z => z.cell hV5.lt (hV5.cell 4 rfl)
    have b5' : ∀ z : Cl x5.heap.size x5, z.u.cell? ⟨G, 5, none⟩ = some (.string gs) := fun z => z.cell hV5.lt (hV5.cell 5 rfl)
    have p0 : ∀ z : Cl x5.heap.size x5, z.u.cell? ⟨x4.heap.size, 0, none⟩ = some (.string ct) := fun z => z.cell hP.lt (hP.cell 0 rfl)
    have p1 : ∀ z : Cl x5.heap.size x5, z.u.cell? ⟨x4.heap.size, 1, none⟩ = some (.string cp) := fun z => z.cell hP.lt (hP.cell 1 rfl)
    have p2 : ∀ z : Cl x5.heap.size x5, z.u.cell? ⟨x4.heap.size, 2, none⟩ = some (.int .i64 cr) := fun z => z.cell hP.lt (hP.cell 2 rfl)
    have p3 : ∀ z : Cl x5.heap.size x5, z.u.cell? ⟨x4.heap.size, 3, none⟩ = some (.string cc) := fun z => z.cell hP.lt (hP.cell 3 rfl)
    have r0 : ∀ z : Cl x5.heap.size x5, z.u.cell? ⟨x4.heap.size + 1, 0, none⟩ = some (.string dt) := fun z => z.cell hQ.lt (hQ.cell 0 rfl)
    have r1 : ∀ z : Cl x5.heap.size x5, z.u.cell? ⟨x4.heap.size + 1, 1, none⟩ = some (.string dp) := fun z => z.cell hQ.lt (hQ.cell 1 rfl)
    have r2 : ∀ z : Cl x5.heap.size x5, z.u.cell? ⟨x4.heap.size + 1, 2, none⟩ = some (.int .i64 dr) := fun z => z.cell hQ.lt (hQ.cell 2 rfl)
    have r3 : ∀ z : Cl x5.heap.size x5, z.u.cell? ⟨x4.heap.size + 1, 3, none⟩ = some (.string dc) := fun z => z.cell hQ.lt (hQ.cell 3 rfl)
    have qR : ∀ z : Cl x5.heap.size x5, z.u.cell? ⟨R, 0, none⟩ = some (.slice (some ⟨bR, oR, none⟩) (n + 1) capR) := fun z => (HTX.out z.u (HX5.out z.u z.h)).2.2.1.cell 0 rfl
    have s0 : ∀ z : Cl x5.heap.size x5, z.u.cell? ⟨bR, oR, none⟩ = some (.string ct) := fun z => by have h := (TEN.out z.u (HX5.out z.u z.h)).1.c0; simpa using h
    have s1 : ∀ z : Cl x5.heap.size x5, z.u.cell? ⟨bR, oR + 1, none⟩ = some (.string cp) := fun z => by have h := (TEN.out z.u (HX5.out z.u z.h)).1.c1; simpa using h
    have s2 : ∀ z : Cl x5.heap.size x5, z.u.cell? ⟨bR, oR + 2, none⟩ = some (.int .i64 cr) := fun z => by have h := (TEN.out z.u (HX5.out z.u z.h)).1.c2; simpa using h
    have s3 : ∀ z : Cl x5.heap.size x5, z.u.cell? ⟨bR, oR + 3, none⟩ = some (.string cc) := fun z => by have h := (TEN.out z.u (HX5.out z.u z.h)).1.c3; simpa using h
    have t0 : ∀ z : Cl x5.heap.size x5, z.u.cell? ⟨bR, oR + n * 10, none⟩ = some (.string dt) := fun z => by have h := (TEN.out z.u (HX5.out z.u z.h)).2.c0; simpa using h
    have t1 : ∀ z : Cl x5.heap.size x5, z.u.cell? ⟨bR, oR + n * 10 + 1, none⟩ = some (.string dp) := fun z => by have h := (TEN.out z.u (HX5.out z.u z.h)).2.c1; simpa using h
    have t2 : ∀ z : Cl x5.heap.size x5, z.u.cell? ⟨bR, oR + n * 10 + 2, none⟩ = some (.int .i64 dr) := fun z => by have h := (TEN.out z.u (HX5.out z.u z.h)).2.c2; simpa using h
    have t3 : ∀ z : Cl x5.heap.size x5, z.u.cell? ⟨bR, oR + n * 10 + 3, none⟩ = some (.string dc) := fun z => by have h := (TEN.out z.u (HX5.out z.u z.h)).2.c3; simpa using h
    clear hP hQ hV5 V12 h4 h45 b4 bZ
    haveI := Cl.inh x5.heap.size x5
    have hn00 : (0 : Int) < (n : Int) + 1 := by omega
    have hn01 : (n : Int) < (n : Int) + 1 := by omega
    have hwn : IntKind.i64.wrap (n : Int) = (n : Int) := by rw [IntKind.wrap_i64]; omega
    go_wp2_with fail
    rw [← hx5]
    clear hx5
    refine wp_region_sched (fun w' => ∃ p : Cl x5.heap.size x5, w' = p.u) [(0, true), (1, true), (2, true), (3, true), (4, true), (5, true), (6, true), (7, true), (8, true), (9, true), (10, true), (11, true), (12, true), (13, true), (14, true), (15, true), (16, true), (17, true), (18, true), (19, true), (20, true), (21, true), (22, true), (23, true), (24, true), (25, true), (26, true), (27, true), (28, true), (29, true), (30, true), (31, true), (32, true), (33, true), (34, true), (35, true), (36, true), (37, true), (38, true), (39, true)] rfl (by kernel_rfl) (by kernel_rfl) (by kernel_rfl) ⟨⟨_, (Below.refl _ _).drew⟩, rfl⟩ ?_
    iterate 40 (refine sched_pure rfl (fun K hK => ?_); go_simp; refine hK _ ?_; clear hK K)
    refine sched_nil ?_
    clear a0 a1 a2 a3 a4 a5 b0' b1' b2' b3' b4' b5' p0 p1 p2 p3 r0 r1 r2 r3 s0 s1 s2 s3 t0 t1 t2 t3
    have q0 : ∀ z : Cl x5.heap.size x5, z.u.cell? ⟨w.heap.size, 0, none⟩ = some (.string kt) := fun z => (HTX.out z.u (HX5.out z.u z.h)).2.2.2.2.2.1.cell 0 rfl
    have q1 : ∀ z : Cl x5.heap.size x5, z.u.cell? ⟨w.heap.size, 1, none⟩ = some (.string kp) := fun z => (HTX.out z.u (HX5.out z.u z.h)).2.2.2.2.2.1.cell 1 rfl
    have q2 : ∀ z : Cl x5.heap.size x5, z.u.cell? ⟨w.heap.size, 2, none⟩ = some (.int .i64 kr) := fun z => (HTX.out z.u (HX5.out z.u z.h)).2.2.2.2.2.1.cell 2 rfl
    have q3 : ∀ z : Cl x5.heap.size x5, z.u.cell? ⟨w.heap.size, 3, none⟩ = some (.string kc) := fun z => (HTX.out z.u (HX5.out z.u z.h)).2.2.2.2.2.1.cell 3 rfl
    have q4 : ∀ z : Cl x5.heap.size x5, z.u.cell? ⟨w.heap.size, 4, none⟩ = some (.string ft) := fun z => (HTX.out z.u (HX5.out z.u z.h)).2.2.2.2.2.1.cell 4 rfl
    have q5 : ∀ z : Cl x5.heap.size x5, z.u.cell? ⟨w.heap.size, 5, none⟩ = some (.string fp) := fun z => (HTX.out z.u (HX5.out z.u z.h)).2.2.2.2.2.1.cell 5 rfl
    have q6 : ∀ z : Cl x5.heap.size x5, z.u.cell? ⟨w.heap.size, 6, none⟩ = some (.int .i64 fr) := fun z => (HTX.out z.u (HX5.out z.u z.h)).2.2.2.2.2.1.cell 6 rfl
    have q7 : ∀ z : Cl x5.heap.size x5, z.u.cell? ⟨w.heap.size, 7, none⟩ = some (.string fc) := fun z => (HTX.out z.u (HX5.out z.u z.h)).2.2.2.2.2.1.cell 7 rfl
    have q8 : ∀ z : Cl x5.heap.size x5, z.u.cell? ⟨w.heap.size, 8, none⟩ = some (.string ut) := fun z => (HTX.out z.u (HX5.out z.u z.h)).2.2.2.2.2.1.cell 8 rfl
    have q9 : ∀ z : Cl x5.heap.size x5, z.u.cell? ⟨w.heap.size, 9, none⟩ = some (.string up) := fun z => (HTX.out z.u (HX5.out z.u z.h)).2.2.2.2.2.1.cell 9 rfl
    have q10 : ∀ z : Cl x5.heap.size x5, z.u.cell? ⟨w.heap.size, 10, none⟩ = some (.int .i64 ur) := fun z => (HTX.out z.u (HX5.out z.u z.h)).2.2.2.2.2.1.cell 10 rfl
    have q11 : ∀ z : Cl x5.heap.size x5, z.u.cell? ⟨w.heap.size, 11, none⟩ = some (.string uc) := fun z => (HTX.out z.u (HX5.out z.u z.h)).2.2.2.2.2.1.cell 11 rfl
    obtain ⟨F, hF⟩ : ∃ F, F = l'.filter (inX ⟨ft, fp, fr, fc⟩ ⟨ut, up, ur, uc⟩) := ⟨_, rfl⟩
    obtain ⟨mb, hmb⟩ : ∃ mb, mb = mayK (filB l'.length l') (sumB (encK (Kb.ky ⟨kt, kp, kr, kc⟩)) 0#64) 7 := ⟨_, rfl⟩
    have SC : Hid (∀ x, Below x5.heap.size x5 x → Calls Tryz.prog 17 #[.pointer (some ⟨T, 0, none⟩), .agg #[.string ft, .string fp, .int .i64 fr, .string fc], .agg #[.string ut, .string up, .int .i64 ur, .string uc]] x fun e w' => ∃ ao cap, e = .returned (.slice ao F.length cap) ∧ XSees w' ao F ∧ Below x.heap.size x w') := fun x hx => by
      refine (scanT_any (HTX.out x (HX5.out x hx)).1 ⟨ft, fp, fr, fc⟩ ⟨ut, up, ur, uc⟩).mono fun e w' ⟨a1, a2, v, h1, h2, h3, h4, h5⟩ => ?_
      have hF2 : F = betw l' a1 a2 := hF.trans (scan_doc h2 h3)
      have hlen : (betw l' a1 a2).length = a2 - a1 := by unfold betw; rw [List.length_take, List.length_drop]; have := h3.le; omega
      have h4' : w'.ownsRow x.heap.size 59 10 v F.length (F.flatMap xs10) := by rw [hF2, hlen]; exact h4
      obtain ⟨a, c, e2, hx2, _⟩ := owns_xsees h4'
      subst e2
      exact ⟨a, c, h1, hx2, h5⟩
    have RS : Hid (∀ x, Below x5.heap.size x5 x → Calls Tryz.prog 38 #[.pointer (some ⟨R, 0, none⟩), .agg #[.string ft, .string fp, .int .i64 fr, .string fc], .agg #[.string ut, .string up, .int .i64 ur, .string uc]] x fun e w' => ∃ ao cap, e = .returned (.slice ao F.length cap) ∧ XSees w' ao F ∧ Below x.heap.size x w') := fun x hx => by
      refine (rscan_any (HTX.out x (HX5.out x hx)).2.1 ⟨ft, fp, fr, fc⟩ ⟨ut, up, ur, uc⟩).mono fun e w' ⟨v, h1, h4, h5⟩ => ?_
      rw [← hF] at h4
      obtain ⟨a, c, e2, hx2, _⟩ := owns_xsees h4
      subst e2
      exact ⟨a, c, h1, hx2, h5⟩
    have hFl : F.length ≤ 1000000 := by
      have h1 := HHC.out.2.2
      have h2 := List.length_filter_le (inX ⟨ft, fp, fr, fc⟩ ⟨ut, up, ur, uc⟩) l'
      rw [← hF] at h2
      omega
    have LK : Hid (∀ x ao bo ca cb, XSees x ao F → XSees x bo F → Calls Tryz.prog 37 #[.slice ao F.length ca, .slice bo F.length cb] x fun e w' => e = .returned (.bool true) ∧ Below x.heap.size x w') := fun x ao bo ca cb ha hb => likeX_same ao bo F ca cb x ha hb hFl
    have LA : Hid (∀ x ao bo ca cb, XSees x ao l' → XSees x bo l' → Calls Tryz.prog 37 #[.slice ao (n + 1) ca, .slice bo (n + 1) cb] x fun e w' => e = .returned (.bool true) ∧ Below x.heap.size x w') := fun x ao bo ca cb ha hb => by
      have h := likeX_same ao bo l' ca cb x ha hb (by have := HHC.out.2.2; omega)
      rw [HHC.out.2.2] at h
      exact h
    have AA : Hid (∀ x, Below x5.heap.size x5 x → Calls Tryz.prog 18 #[.pointer (some ⟨T, 0, none⟩)] x fun e w' => ∃ ao cap, e = .returned (.slice ao (n + 1) cap) ∧ XSees w' ao l' ∧ Below x.heap.size x w') := fun x hx => by
      refine (allT_any (HTX.out x (HX5.out x hx)).1).mono fun e w' ⟨v, h1, h4, h5⟩ => ?_
      obtain ⟨a, c, e2, hx2, _⟩ := owns_xsees h4
      subst e2
      rw [HHC.out.2.2] at h1
      exact ⟨a, c, h1, hx2, h5⟩
    have LN : Hid (∀ x, Below x5.heap.size x5 x → Calls Tryz.prog 19 #[.pointer (some ⟨T, 0, none⟩)] x fun e w' => e = .returned (.int .i64 ((n : Int) + 1)) ∧ w' = x) := fun x hx => by
      have h := len_at (HTX.out x (HX5.out x hx)).1
      rw [HHC.out.2.2, Int.natCast_add] at h
      exact h
    have BL : Hid (∀ x, Below x5.heap.size x5 x → Calls Tryz.prog 20 #[.pointer (some ⟨T, 0, none⟩)] x fun e w' => e = .returned (.int .i64 (nBk (n + 1) : Int)) ∧ w' = x) := fun x hx => by
      have h := blocks_at (HTX.out x (HX5.out x hx)).1
      rw [HHC.out.2.2] at h
      exact h
    have MY : Hid (∀ x, Below x5.heap.size x5 x → Calls Tryz.prog 16 #[.pointer (some ⟨T, 0, none⟩), .agg #[.string kt, .string kp, .int .i64 kr, .string kc]] x fun e w' => e = .returned (.bool mb) ∧ Below x.heap.size x w') := fun x hx => by
      rw [hmb]; exact mayT_any (HTX.out x (HX5.out x hx)).1 ⟨kt, kp, kr, kc⟩ HKB.out
    have RM : Hid (∀ x, Below x5.heap.size x5 x → Calls Tryz.prog 39 #[.pointer (some ⟨R, 0, none⟩), .agg #[.string kt, .string kp, .int .i64 kr, .string kc]] x fun e w' => e = .returned (.bool mb) ∧ Below x.heap.size x w') := fun x hx => by
      rw [hmb]; exact rmay_any (HTX.out x (HX5.out x hx)).2.1 ⟨kt, kp, kr, kc⟩ HKB.out
    have XR : Hid (∀ x, Below x5.heap.size x5 x → XSees x (some ⟨bR, oR, none⟩) l' ∧ Below w.heap.size w x) := fun x hx => ⟨(HTX.out x (HX5.out x hx)).2.2.2.1, (HTX.out x (HX5.out x hx)).2.2.2.2.2.2⟩
    clear hF hmb EN FD1 TEN b5 HCW HKB
    obtain ⟨x6, hx6⟩ : ∃ x6, x6 = x5.drew := ⟨_, rfl⟩
    have d6 : Below x5.heap.size x5 x6 := by rw [hx6]; exact (Below.refl _ _).drew
    rw [← hx6]
    clear hx6
    go_wp2_with fail
    refine wp_region_sched (fun w' => ∃ p : Cl x5.heap.size x5, w' = p.u) [(0, true), (1, true), (2, true), (3, true), (4, true), (6, true), (7, true), (8, true), (9, true), (10, true), (5, false), (11, false), (12, false), (13, true), (14, true), (16, true), (17, true), (18, true), (19, true), (15, false), (20, false), (21, true), (22, true), (23, true), (25, true), (26, true), (27, true), (28, true), (29, true), (24, false), (30, true), (31, true), (32, true), (33, true), (34, true), (35, true), (37, true), (38, true), (39, true), (36, false), (40, false), (41, true), (42, true), (43, true), (44, true), (46, true), (47, true), (48, true), (49, true), (50, true), (51, true), (52, true), (45, false), (53, true), (54, true), (55, true)] rfl (by kernel_rfl) (by kernel_rfl) (by kernel_rfl) ⟨⟨_, d6.drew⟩, rfl⟩ ?_
    iterate 10 (refine sched_pure rfl (fun K hK => ?_); go_simp; refine hK _ ?_; clear hK K)
    refine sched_loud rfl (fun K hK => ?_)
    go_simp
    refine (SC.out _ d6.drew).mono ?_
    rintro e z1 ⟨o1, k1, rfl, sa, g1⟩
    have d1 : Below x5.heap.size x5 z1 := d6.drew.trans (g1.mono d6.drew.size)
    refine hK _ _ ⟨⟨_, d1⟩, rfl⟩ ?_
    clear hK K
    refine sched_loud rfl (fun K hK => ?_)
    go_simp
    refine (RS.out _ d1).mono ?_
    rintro e z2 ⟨o2, k2, rfl, sb, g2⟩
    have d2 : Below x5.heap.size x5 z2 := d1.trans (g2.mono d1.size)
    refine hK _ _ ⟨⟨_, d2⟩, rfl⟩ ?_
    clear hK K
    refine sched_loud rfl (fun K hK => ?_)
    go_simp
    refine (LK.out _ o1 o2 k1 k2 (sa.below g2 (Nat.le_refl _)) sb).mono ?_
    rintro e z3 ⟨rfl, g3⟩
    have d3 : Below x5.heap.size x5 z3 := d2.trans (g3.mono d2.size)
    refine hK _ _ ⟨⟨_, d3⟩, rfl⟩ ?_
    clear hK K
    iterate 6 (refine sched_pure rfl (fun K hK => ?_); go_simp; refine hK _ ?_; clear hK K)
    refine sched_loud rfl (fun K hK => ?_)
    go_simp
    refine (AA.out _ d3).mono ?_
    rintro e z4 ⟨o4, k4, rfl, sd, g4⟩
    have d4 : Below x5.heap.size x5 z4 := d3.trans (g4.mono d3.size)
    refine hK _ _ ⟨⟨_, d4⟩, rfl⟩ ?_
    clear hK K
    refine sched_loud rfl (fun K hK => ?_)
    go_simp
    refine (LA.out _ o4 (some ⟨bR, oR, none⟩) k4 capR sd (XR.out _ d4).1).mono ?_
    rintro e z5 ⟨rfl, g5⟩
    have d5 : Below x5.heap.size x5 z5 := d4.trans (g5.mono d4.size)
    refine hK _ _ ⟨⟨_, d5⟩, rfl⟩ ?_
    clear hK K
    iterate 8 (refine sched_pure rfl (fun K hK => ?_); go_simp; refine hK _ ?_; clear hK K)
    refine sched_loud rfl (fun K hK => ?_)
    go_simp
    refine (LN.out _ d5).mono ?_
    rintro e z6 ⟨rfl, rfl⟩
    refine hK _ _ ⟨⟨_, d5⟩, rfl⟩ ?_
    clear hK K
    iterate 9 (refine sched_pure rfl (fun K hK => ?_); go_simp; refine hK _ ?_; clear hK K)
    refine sched_loud rfl (fun K hK => ?_)
    go_simp
    refine (MY.out _ d5).mono ?_
    rintro e z7 ⟨rfl, g7⟩
    have d7 : Below x5.heap.size x5 z7 := d5.trans (g7.mono d5.size)
    refine hK _ _ ⟨⟨_, d7⟩, rfl⟩ ?_
    clear hK K
    refine sched_loud rfl (fun K hK => ?_)
    go_simp
    refine (RM.out _ d7).mono ?_
    rintro e z8 ⟨rfl, g8⟩
    have d8 : Below x5.heap.size x5 z8 := d7.trans (g8.mono d7.size)
    refine hK _ _ ⟨⟨_, d8⟩, rfl⟩ ?_
    clear hK K
    iterate 11 (refine sched_pure rfl (fun K hK => ?_); go_simp; refine hK _ ?_; clear hK K)
    refine sched_loud rfl (fun K hK => ?_)
    go_simp
    refine (BL.out _ d8).mono ?_
    rintro e z9 ⟨rfl, rfl⟩
    refine hK _ _ ⟨⟨_, d8⟩, rfl⟩ ?_
    clear hK K
    have hnb := blk8 n hn9
    iterate 3 (refine sched_pure rfl (fun K hK => ?_); go_simp; refine hK _ ?_; clear hK K)
    refine sched_nil ?_
    go_wp2_with fail
    go_ret
    exact ⟨rfl, (XR.out _ d8).2⟩
  · refine lou_of rfl (fun K hK => ?_)
    go_simp
    have c1 := (Below.refl x3.heap.size x3).drew.alloc (Nat.le_refl _) (.cells #[.int .i64 0, .bool false, .int .i64 0, .int .i64 0, .int .i64 0, .string ⟨#[]⟩] 48)
    have V10 : Blk (x3.drew.alloc (.cells #[.int .i64 0, .bool false, .int .i64 0, .int .i64 0, .int .i64 0, .string ⟨#[]⟩] 48)) x3.heap.size [.int .i64 0, .bool false, .int .i64 0, .int .i64 0, .int .i64 0, .string ⟨#[]⟩] 48 := Blk.new x3.drew _ _
    refine hK _ _ ⟨fun _ => HCW.out _ c1, ?_⟩
    clear hK K
    refine anyC_loud 6 (by kernel_rfl) ?_
    refine lou_of rfl (fun K hK => ?_)
    go_simp
    refine (FD1.out _ c1).mono ?_
    rintro e y1 ⟨rfl, hy1⟩
    have b2 : Below x3.heap.size x3 y1 := c1.trans (hy1.mono c1.size)
    have V11 : Blk y1 x3.heap.size [.int .i64 0, .bool false, .int .i64 0, .int .i64 0, .int .i64 0, .string ⟨#[]⟩] 48 := V10.carry (hy1.block _ V10.lt)
    have b1 := b2
    refine hK _ _ ⟨fun _ => HCW.out _ b2, ?_⟩
    clear hK K V10 hy1 c1
    refine anyC_pure 7 rfl (by kernel_rfl) (by kernel_rfl) (by kernel_rfl) (HCW.out _ b1) (fun K hK => ?_)
    go_simp
    refine hK _ ?_
    clear hK K
    refine anyC_pure 8 rfl (by kernel_rfl) (by kernel_rfl) (by kernel_rfl) (HCW.out _ b1) (fun K hK => ?_)
    go_simp
    refine hK _ ?_
    clear hK K
    refine anyC_pure 9 rfl (by kernel_rfl) (by kernel_rfl) (by kernel_rfl) (HCW.out _ b1) (fun K hK => ?_)
    go_simp
    refine hK _ ?_
    clear hK K

    obtain ⟨Y, hY⟩ : ∃ Y, Y = y1 := ⟨_, rfl⟩
    rw [← hY] at V11 b2 ⊢
    clear hY
    have hG3 : x3.heap.size ≤ x3.heap.size := Nat.le_refl _
    have z0 := V11.cell 0 rfl
    have f0 := V11.frozen 0
    have z1 := V11.cell 1 rfl
    have f1 := V11.frozen 1
    have z2 := V11.cell 2 rfl
    have f2 := V11.frozen 2
    have z3 := V11.cell 3 rfl
    have f3 := V11.frozen 3
    have z4 := V11.cell 4 rfl
    have f4 := V11.frozen 4
    have z5 := V11.cell 5 rfl
    have f5 := V11.frozen 5
    have V12 := set6B V11 (.int .i64 gti) (.bool gd) (.int .i64 gl) (.int .i64 gk) (.int .i64 gn) (.string gs)
    have bZ := below6B b2 hG3 (.int .i64 gti) (.bool gd) (.int .i64 gl) (.int .i64 gk) (.int .i64 gn) (.string gs)
    refine anyC_loud 11 (by kernel_rfl) ?_
    refine lou_of rfl (fun K hK => ?_)
    go_simp
    refine hK _ _ ⟨fun _ => HCW.out _ bZ, ?_⟩
    clear hK K z0 z1 z2 z3 z4 z5 f0 f1 f2 f3 f4 f5 V11 b2
    refine anyC_pure 12 rfl (by kernel_rfl) (by kernel_rfl) (by kernel_rfl) (HCW.out _ bZ) (fun K hK => ?_)
    go_simp
    refine hK _ ?_
    clear hK K
    refine anyC_done (by kernel_rfl) ?_
    generalize ((((((Y.setCell ⟨x3.heap.size, 0, none⟩ (.int .i64 gti)).setCell ⟨x3.heap.size, 1, none⟩ (.bool gd)).setCell ⟨x3.heap.size, 2, none⟩ (.int .i64 gl)).setCell ⟨x3.heap.size, 3, none⟩ (.int .i64 gk)).setCell ⟨x3.heap.size, 4, none⟩ (.int .i64 gn)).setCell ⟨x3.heap.size, 5, none⟩ (.string gs)) = Z at V12 bZ ⊢
    clear q0 q1 q2 q3 q4 q5 q6 q7 q8 q9 q10 q11 qR
    go_wp2_with fail
    refine (EN.out Z bZ).mono ?_
    rintro e x4 ⟨rfl, h4⟩
    have b4 : Below x3.heap.size x3 x4 := bZ.trans (h4.mono bZ.size)
    obtain ⟨x5, hx5⟩ : ∃ x5, x5 = (x4.alloc (.cells #[.string ct, .string cp, .int .i64 cr, .string cc] 24)).alloc (.cells #[.string dt, .string dp, .int .i64 dr, .string dc] 24) := ⟨_, rfl⟩
    have h45 : Below x4.heap.size x4 x5 := by rw [hx5]; exact ((Below.refl _ _).alloc (Nat.le_refl _) _).alloc (by simp) _
    have hP : Blk x5 x4.heap.size [.string ct, .string cp, .int .i64 cr, .string cc] 24 := by rw [hx5]; exact (Blk.new x4 _ _).alloc _
    have hQ : Blk x5 (x4.heap.size + 1) [.string dt, .string dp, .int .i64 dr, .string dc] 24 := by
      have := Blk.new (x4.alloc (.cells #[.string ct, .string cp, .int .i64 cr, .string cc] 24)) [.string dt, .string dp, .int .i64 dr, .string dc] 24
      rw [World.size_alloc] at this
      rw [hx5]; exact this
    have b5 : Below x3.heap.size x3 x5 := b4.trans (h45.mono b4.size)
    have hV5 : Blk x5 x3.heap.size [.int .i64 gti, .bool gd, .int .i64 gl, .int .i64 gk, .int .i64 gn, .string gs] 48 := (V12.carry (h4.block _ V12.lt)).carry (h45.block _ (V12.carry (h4.block _ V12.lt)).lt)
    have HX5 : Hid (∀ x, Below x5.heap.size x5 x → Below x3.heap.size x3 x) := fun x hx => b5.trans (hx.mono b5.size)
    have a0 : ∀ z : Cl x5.heap.size x5, z.u.cell? ⟨u3.heap.size, 0, none⟩ = some (.int .i64 gti) := fun z => (HTX.out z.u (HX5.out z.u z.h)).2.2.2.2.1.cell 0 rfl
    have a1 : ∀ z : Cl x5.heap.size x5, z.u.cell? ⟨u3.heap.size, 1, none⟩ = some (.bool gd) := fun z => (HTX.out z.u (HX5.out z.u z.h)).2.2.2.2.1.cell 1 rfl
    have a2 : ∀ z : Cl x5.heap.size x5, z.u.cell? ⟨u3.heap.size, 2, none⟩ = some (.int .i64 gl) := fun z => (HTX.out z.u (HX5.out z.u z.h)).2.2.2.2.1.cell 2 rfl
    have a3 : ∀ z : Cl x5.heap.size x5, z.u.cell? ⟨u3.heap.size, 3, none⟩ = some (.int .i64 gk) := fun z => (HTX.out z.u (HX5.out z.u z.h)).2.2.2.2.1.cell 3 rfl
    have a4 : ∀ z : Cl x5.heap.size x5, z.u.cell? ⟨u3.heap.size, 4, none⟩ = some (.int .i64 gn) := fun z => (HTX.out z.u (HX5.out z.u z.h)).2.2.2.2.1.cell 4 rfl
    have a5 : ∀ z : Cl x5.heap.size x5, z.u.cell? ⟨u3.heap.size, 5, none⟩ = some (.string gs) := fun z => (HTX.out z.u (HX5.out z.u z.h)).2.2.2.2.1.cell 5 rfl
    have b0' : ∀ z : Cl x5.heap.size x5, z.u.cell? ⟨x3.heap.size, 0, none⟩ = some (.int .i64 gti) := fun z => z.cell hV5.lt (hV5.cell 0 rfl)
    have b1' : ∀ z : Cl x5.heap.size x5, z.u.cell? ⟨x3.heap.size, 1, none⟩ = some (.bool gd) := fun z => z.cell hV5.lt (hV5.cell 1 rfl)
    have b2' : ∀ z : Cl x5.heap.size x5, z.u.cell? ⟨x3.heap.size, 2, none⟩ = some (.int .i64 gl) := fun z => z.cell hV5.lt (hV5.cell 2 rfl)
    have b3' : ∀ z : Cl x5.heap.size x5, z.u.cell? ⟨x3.heap.size, 3, none⟩ = some (.int .i64 gk) := fun z => z.cell hV5.lt (hV5.cell 3 rfl)
    have b4' : ∀ z : Cl x5.heap.size x5, z.u.cell? ⟨x3.heap.size, 4, none⟩ = some (.int .i64 gn) := fun z => z.cell hV5.lt (hV5.cell 4 rfl)
    have b5' : ∀ z : Cl x5.heap.size x5, z.u.cell? ⟨x3.heap.size, 5, none⟩ = some (.string gs) := fun z => z.cell hV5.lt (hV5.cell 5 rfl)
    have p0 : ∀ z : Cl x5.heap.size x5, z.u.cell? ⟨x4.heap.size, 0, none⟩ = some (.string ct) := fun z => z.cell hP.lt (hP.cell 0 rfl)
    have p1 : ∀ z : Cl x5.heap.size x5, z.u.cell? ⟨x4.heap.size, 1, none⟩ = some (.string cp) := fun z => z.cell hP.lt (hP.cell 1 rfl)
    have p2 : ∀ z : Cl x5.heap.size x5, z.u.cell? ⟨x4.heap.size, 2, none⟩ = some (.int .i64 cr) := fun z => z.cell hP.lt (hP.cell 2 rfl)
    have p3 : ∀ z : Cl x5.heap.size x5, z.u.cell? ⟨x4.heap.size, 3, none⟩ = some (.string cc) := fun z => z.cell hP.lt (hP.cell 3 rfl)
    have r0 : ∀ z : Cl x5.heap.size x5, z.u.cell? ⟨x4.heap.size + 1, 0, none⟩ = some (.string dt) := fun z => z.cell hQ.lt (hQ.cell 0 rfl)
    have r1 : ∀ z : Cl x5.heap.size x5, z.u.cell? ⟨x4.heap.size + 1, 1, none⟩ = some (.string dp) := fun z => z.cell hQ.lt (hQ.cell 1 rfl)
    have r2 : ∀ z : Cl x5.heap.size x5, z.u.cell? ⟨x4.heap.size + 1, 2, none⟩ = some (.int .i64 dr) := fun z => z.cell hQ.lt (hQ.cell 2 rfl)
    have r3 : ∀ z : Cl x5.heap.size x5, z.u.cell? ⟨x4.heap.size + 1, 3, none⟩ = some (.string dc) := fun z => z.cell hQ.lt (hQ.cell 3 rfl)
    have qR : ∀ z : Cl x5.heap.size x5, z.u.cell? ⟨R, 0, none⟩ = some (.slice (some ⟨bR, oR, none⟩) (n + 1) capR) := fun z => (HTX.out z.u (HX5.out z.u z.h)).2.2.1.cell 0 rfl
    have s0 : ∀ z : Cl x5.heap.size x5, z.u.cell? ⟨bR, oR, none⟩ = some (.string ct) := fun z => by have h := (TEN.out z.u (HX5.out z.u z.h)).1.c0; simpa using h
    have s1 : ∀ z : Cl x5.heap.size x5, z.u.cell? ⟨bR, oR + 1, none⟩ = some (.string cp) := fun z => by have h := (TEN.out z.u (HX5.out z.u z.h)).1.c1; simpa using h
    have s2 : ∀ z : Cl x5.heap.size x5, z.u.cell? ⟨bR, oR + 2, none⟩ = some (.int .i64 cr) := fun z => by have h := (TEN.out z.u (HX5.out z.u z.h)).1.c2; simpa using h
    have s3 : ∀ z : Cl x5.heap.size x5, z.u.cell? ⟨bR, oR + 3, none⟩ = some (.string cc) := fun z => by have h := (TEN.out z.u (HX5.out z.u z.h)).1.c3; simpa using h
    have t0 : ∀ z : Cl x5.heap.size x5, z.u.cell? ⟨bR, oR + n * 10, none⟩ = some (.string dt) := fun z => by have h := (TEN.out z.u (HX5.out z.u z.h)).2.c0; simpa using h
    have t1 : ∀ z : Cl x5.heap.size x5, z.u.cell? ⟨bR, oR + n * 10 + 1, none⟩ = some (.string dp) := fun z => by have h := (TEN.out z.u (HX5.out z.u z.h)).2.c1; simpa using h
    have t2 : ∀ z : Cl x5.heap.size x5, z.u.cell? ⟨bR, oR + n * 10 + 2, none⟩ = some (.int .i64 dr) := fun z => by have h := (TEN.out z.u (HX5.out z.u z.h)).2.c2; simpa using h
    have t3 : ∀ z : Cl x5.heap.size x5, z.u.cell? ⟨bR, oR + n * 10 + 3, none⟩ = some (.string dc) := fun z => by have h := (TEN.out z.u (HX5.out z.u z.h)).2.c3; simpa using h
    clear hP hQ hV5 V12 h4 h45 b4 bZ
    haveI := Cl.inh x5.heap.size x5
    have hn00 : (0 : Int) < (n : Int) + 1 := by omega
    have hn01 : (n : Int) < (n : Int) + 1 := by omega
    have hwn : IntKind.i64.wrap (n : Int) = (n : Int) := by rw [IntKind.wrap_i64]; omega
    go_wp2_with fail
    rw [← hx5]
    clear hx5
    refine wp_region_sched (fun w' => ∃ p : Cl x5.heap.size x5, w' = p.u) [(0, true), (1, true), (2, true), (3, true), (4, true), (5, true), (6, true), (7, true), (8, true), (9, true), (10, true), (11, true), (12, true), (13, true), (14, true), (15, true), (16, true), (17, true), (18, true), (19, true), (20, true), (21, true), (22, true), (23, true), (24, true), (25, true), (26, true), (27, true), (28, true), (29, true), (30, true), (31, true), (32, true), (33, true), (34, true), (35, true), (36, true), (37, true), (38, true), (39, true)] rfl (by kernel_rfl) (by kernel_rfl) (by kernel_rfl) ⟨⟨_, (Below.refl _ _).drew⟩, rfl⟩ ?_
    iterate 40 (refine sched_pure rfl (fun K hK => ?_); go_simp; refine hK _ ?_; clear hK K)
    refine sched_nil ?_
    clear a0 a1 a2 a3 a4 a5 b0' b1' b2' b3' b4' b5' p0 p1 p2 p3 r0 r1 r2 r3 s0 s1 s2 s3 t0 t1 t2 t3
    have q0 : ∀ z : Cl x5.heap.size x5, z.u.cell? ⟨w.heap.size, 0, none⟩ = some (.string kt) := fun z => (HTX.out z.u (HX5.out z.u z.h)).2.2.2.2.2.1.cell 0 rfl
    have q1 : ∀ z : Cl x5.heap.size x5, z.u.cell? ⟨w.heap.size, 1, none⟩ = some (.string kp) := fun z => (HTX.out z.u (HX5.out z.u z.h)).2.2.2.2.2.1.cell 1 rfl
    have q2 : ∀ z : Cl x5.heap.size x5, z.u.cell? ⟨w.heap.size, 2, none⟩ = some (.int .i64 kr) := fun z => (HTX.out z.u (HX5.out z.u z.h)).2.2.2.2.2.1.cell 2 rfl
    have q3 : ∀ z : Cl x5.heap.size x5, z.u.cell? ⟨w.heap.size, 3, none⟩ = some (.string kc) := fun z => (HTX.out z.u (HX5.out z.u z.h)).2.2.2.2.2.1.cell 3 rfl
    have q4 : ∀ z : Cl x5.heap.size x5, z.u.cell? ⟨w.heap.size, 4, none⟩ = some (.string ft) := fun z => (HTX.out z.u (HX5.out z.u z.h)).2.2.2.2.2.1.cell 4 rfl
    have q5 : ∀ z : Cl x5.heap.size x5, z.u.cell? ⟨w.heap.size, 5, none⟩ = some (.string fp) := fun z => (HTX.out z.u (HX5.out z.u z.h)).2.2.2.2.2.1.cell 5 rfl
    have q6 : ∀ z : Cl x5.heap.size x5, z.u.cell? ⟨w.heap.size, 6, none⟩ = some (.int .i64 fr) := fun z => (HTX.out z.u (HX5.out z.u z.h)).2.2.2.2.2.1.cell 6 rfl
    have q7 : ∀ z : Cl x5.heap.size x5, z.u.cell? ⟨w.heap.size, 7, none⟩ = some (.string fc) := fun z => (HTX.out z.u (HX5.out z.u z.h)).2.2.2.2.2.1.cell 7 rfl
    have q8 : ∀ z : Cl x5.heap.size x5, z.u.cell? ⟨w.heap.size, 8, none⟩ = some (.string ut) := fun z => (HTX.out z.u (HX5.out z.u z.h)).2.2.2.2.2.1.cell 8 rfl
    have q9 : ∀ z : Cl x5.heap.size x5, z.u.cell? ⟨w.heap.size, 9, none⟩ = some (.string up) := fun z => (HTX.out z.u (HX5.out z.u z.h)).2.2.2.2.2.1.cell 9 rfl
    have q10 : ∀ z : Cl x5.heap.size x5, z.u.cell? ⟨w.heap.size, 10, none⟩ = some (.int .i64 ur) := fun z => (HTX.out z.u (HX5.out z.u z.h)).2.2.2.2.2.1.cell 10 rfl
    have q11 : ∀ z : Cl x5.heap.size x5, z.u.cell? ⟨w.heap.size, 11, none⟩ = some (.string uc) := fun z => (HTX.out z.u (HX5.out z.u z.h)).2.2.2.2.2.1.cell 11 rfl
    obtain ⟨F, hF⟩ : ∃ F, F = l'.filter (inX ⟨ft, fp, fr, fc⟩ ⟨ut, up, ur, uc⟩) := ⟨_, rfl⟩
    obtain ⟨mb, hmb⟩ : ∃ mb, mb = mayK (filB l'.length l') (sumB (encK (Kb.ky ⟨kt, kp, kr, kc⟩)) 0#64) 7 := ⟨_, rfl⟩
    have SC : Hid (∀ x, Below x5.heap.size x5 x → Calls Tryz.prog 17 #[.pointer (some ⟨T, 0, none⟩), .agg #[.string ft, .string fp, .int .i64 fr, .string fc], .agg #[.string ut, .string up, .int .i64 ur, .string uc]] x fun e w' => ∃ ao cap, e = .returned (.slice ao F.length cap) ∧ XSees w' ao F ∧ Below x.heap.size x w') := fun x hx => by
      refine (scanT_any (HTX.out x (HX5.out x hx)).1 ⟨ft, fp, fr, fc⟩ ⟨ut, up, ur, uc⟩).mono fun e w' ⟨a1, a2, v, h1, h2, h3, h4, h5⟩ => ?_
      have hF2 : F = betw l' a1 a2 := hF.trans (scan_doc h2 h3)
      have hlen : (betw l' a1 a2).length = a2 - a1 := by unfold betw; rw [List.length_take, List.length_drop]; have := h3.le; omega
      have h4' : w'.ownsRow x.heap.size 59 10 v F.length (F.flatMap xs10) := by rw [hF2, hlen]; exact h4
      obtain ⟨a, c, e2, hx2, _⟩ := owns_xsees h4'
      subst e2
      exact ⟨a, c, h1, hx2, h5⟩
    have RS : Hid (∀ x, Below x5.heap.size x5 x → Calls Tryz.prog 38 #[.pointer (some ⟨R, 0, none⟩), .agg #[.string ft, .string fp, .int .i64 fr, .string fc], .agg #[.string ut, .string up, .int .i64 ur, .string uc]] x fun e w' => ∃ ao cap, e = .returned (.slice ao F.length cap) ∧ XSees w' ao F ∧ Below x.heap.size x w') := fun x hx => by
      refine (rscan_any (HTX.out x (HX5.out x hx)).2.1 ⟨ft, fp, fr, fc⟩ ⟨ut, up, ur, uc⟩).mono fun e w' ⟨v, h1, h4, h5⟩ => ?_
      rw [← hF] at h4
      obtain ⟨a, c, e2, hx2, _⟩ := owns_xsees h4
      subst e2
      exact ⟨a, c, h1, hx2, h5⟩
    have hFl : F.length ≤ 1000000 := by
      have h1 := HHC.out.2.2
      have h2 := List.length_filter_le (inX ⟨ft, fp, fr, fc⟩ ⟨ut, up, ur, uc⟩) l'
      rw [← hF] at h2
      omega
    have LK : Hid (∀ x ao bo ca cb, XSees x ao F → XSees x bo F → Calls Tryz.prog 37 #[.slice ao F.length ca, .slice bo F.length cb] x fun e w' => e = .returned (.bool true) ∧ Below x.heap.size x w') := fun x ao bo ca cb ha hb => likeX_same ao bo F ca cb x ha hb hFl
    have LA : Hid (∀ x ao bo ca cb, XSees x ao l' → XSees x bo l' → Calls Tryz.prog 37 #[.slice ao (n + 1) ca, .slice bo (n + 1) cb] x fun e w' => e = .returned (.bool true) ∧ Below x.heap.size x w') := fun x ao bo ca cb ha hb => by
      have h := likeX_same ao bo l' ca cb x ha hb (by have := HHC.out.2.2; omega)
      rw [HHC.out.2.2] at h
      exact h
    have AA : Hid (∀ x, Below x5.heap.size x5 x → Calls Tryz.prog 18 #[.pointer (some ⟨T, 0, none⟩)] x fun e w' => ∃ ao cap, e = .returned (.slice ao (n + 1) cap) ∧ XSees w' ao l' ∧ Below x.heap.size x w') := fun x hx => by
      refine (allT_any (HTX.out x (HX5.out x hx)).1).mono fun e w' ⟨v, h1, h4, h5⟩ => ?_
      obtain ⟨a, c, e2, hx2, _⟩ := owns_xsees h4
      subst e2
      rw [HHC.out.2.2] at h1
      exact ⟨a, c, h1, hx2, h5⟩
    have LN : Hid (∀ x, Below x5.heap.size x5 x → Calls Tryz.prog 19 #[.pointer (some ⟨T, 0, none⟩)] x fun e w' => e = .returned (.int .i64 ((n : Int) + 1)) ∧ w' = x) := fun x hx => by
      have h := len_at (HTX.out x (HX5.out x hx)).1
      rw [HHC.out.2.2, Int.natCast_add] at h
      exact h
    have BL : Hid (∀ x, Below x5.heap.size x5 x → Calls Tryz.prog 20 #[.pointer (some ⟨T, 0, none⟩)] x fun e w' => e = .returned (.int .i64 (nBk (n + 1) : Int)) ∧ w' = x) := fun x hx => by
      have h := blocks_at (HTX.out x (HX5.out x hx)).1
      rw [HHC.out.2.2] at h
      exact h
    have MY : Hid (∀ x, Below x5.heap.size x5 x → Calls Tryz.prog 16 #[.pointer (some ⟨T, 0, none⟩), .agg #[.string kt, .string kp, .int .i64 kr, .string kc]] x fun e w' => e = .returned (.bool mb) ∧ Below x.heap.size x w') := fun x hx => by
      rw [hmb]; exact mayT_any (HTX.out x (HX5.out x hx)).1 ⟨kt, kp, kr, kc⟩ HKB.out
    have RM : Hid (∀ x, Below x5.heap.size x5 x → Calls Tryz.prog 39 #[.pointer (some ⟨R, 0, none⟩), .agg #[.string kt, .string kp, .int .i64 kr, .string kc]] x fun e w' => e = .returned (.bool mb) ∧ Below x.heap.size x w') := fun x hx => by
      rw [hmb]; exact rmay_any (HTX.out x (HX5.out x hx)).2.1 ⟨kt, kp, kr, kc⟩ HKB.out
    have XR : Hid (∀ x, Below x5.heap.size x5 x → XSees x (some ⟨bR, oR, none⟩) l' ∧ Below w.heap.size w x) := fun x hx => ⟨(HTX.out x (HX5.out x hx)).2.2.2.1, (HTX.out x (HX5.out x hx)).2.2.2.2.2.2⟩
    clear hF hmb EN FD1 TEN b5 HCW HKB
    obtain ⟨x6, hx6⟩ : ∃ x6, x6 = x5.drew := ⟨_, rfl⟩
    have d6 : Below x5.heap.size x5 x6 := by rw [hx6]; exact (Below.refl _ _).drew
    rw [← hx6]
    clear hx6
    go_wp2_with fail
    refine wp_region_sched (fun w' => ∃ p : Cl x5.heap.size x5, w' = p.u) [(0, true), (1, true), (2, true), (3, true), (4, true), (6, true), (7, true), (8, true), (9, true), (10, true), (5, false), (11, false), (12, false), (13, true), (14, true), (16, true), (17, true), (18, true), (19, true), (15, false), (20, false), (21, true), (22, true), (23, true), (25, true), (26, true), (27, true), (28, true), (29, true), (24, false), (30, true), (31, true), (32, true), (33, true), (34, true), (35, true), (37, true), (38, true), (39, true), (36, false), (40, false), (41, true), (42, true), (43, true), (44, true), (46, true), (47, true), (48, true), (49, true), (50, true), (51, true), (52, true), (45, false), (53, true), (54, true), (55, true)] rfl (by kernel_rfl) (by kernel_rfl) (by kernel_rfl) ⟨⟨_, d6.drew⟩, rfl⟩ ?_
    iterate 10 (refine sched_pure rfl (fun K hK => ?_); go_simp; refine hK _ ?_; clear hK K)
    refine sched_loud rfl (fun K hK => ?_)
    go_simp
    refine (SC.out _ d6.drew).mono ?_
    rintro e z1 ⟨o1, k1, rfl, sa, g1⟩
    have d1 : Below x5.heap.size x5 z1 := d6.drew.trans (g1.mono d6.drew.size)
    refine hK _ _ ⟨⟨_, d1⟩, rfl⟩ ?_
    clear hK K
    refine sched_loud rfl (fun K hK => ?_)
    go_simp
    refine (RS.out _ d1).mono ?_
    rintro e z2 ⟨o2, k2, rfl, sb, g2⟩
    have d2 : Below x5.heap.size x5 z2 := d1.trans (g2.mono d1.size)
    refine hK _ _ ⟨⟨_, d2⟩, rfl⟩ ?_
    clear hK K
    refine sched_loud rfl (fun K hK => ?_)
    go_simp
    refine (LK.out _ o1 o2 k1 k2 (sa.below g2 (Nat.le_refl _)) sb).mono ?_
    rintro e z3 ⟨rfl, g3⟩
    have d3 : Below x5.heap.size x5 z3 := d2.trans (g3.mono d2.size)
    refine hK _ _ ⟨⟨_, d3⟩, rfl⟩ ?_
    clear hK K
    iterate 6 (refine sched_pure rfl (fun K hK => ?_); go_simp; refine hK _ ?_; clear hK K)
    refine sched_loud rfl (fun K hK => ?_)
    go_simp
    refine (AA.out _ d3).mono ?_
    rintro e z4 ⟨o4, k4, rfl, sd, g4⟩
    have d4 : Below x5.heap.size x5 z4 := d3.trans (g4.mono d3.size)
    refine hK _ _ ⟨⟨_, d4⟩, rfl⟩ ?_
    clear hK K
    refine sched_loud rfl (fun K hK => ?_)
    go_simp
    refine (LA.out _ o4 (some ⟨bR, oR, none⟩) k4 capR sd (XR.out _ d4).1).mono ?_
    rintro e z5 ⟨rfl, g5⟩
    have d5 : Below x5.heap.size x5 z5 := d4.trans (g5.mono d4.size)
    refine hK _ _ ⟨⟨_, d5⟩, rfl⟩ ?_
    clear hK K
    iterate 8 (refine sched_pure rfl (fun K hK => ?_); go_simp; refine hK _ ?_; clear hK K)
    refine sched_loud rfl (fun K hK => ?_)
    go_simp
    refine (LN.out _ d5).mono ?_
    rintro e z6 ⟨rfl, rfl⟩
    refine hK _ _ ⟨⟨_, d5⟩, rfl⟩ ?_
    clear hK K
    iterate 9 (refine sched_pure rfl (fun K hK => ?_); go_simp; refine hK _ ?_; clear hK K)
    refine sched_loud rfl (fun K hK => ?_)
    go_simp
    refine (MY.out _ d5).mono ?_
    rintro e z7 ⟨rfl, g7⟩
    have d7 : Below x5.heap.size x5 z7 := d5.trans (g7.mono d5.size)
    refine hK _ _ ⟨⟨_, d7⟩, rfl⟩ ?_
    clear hK K
    refine sched_loud rfl (fun K hK => ?_)
    go_simp
    refine (RM.out _ d7).mono ?_
    rintro e z8 ⟨rfl, g8⟩
    have d8 : Below x5.heap.size x5 z8 := d7.trans (g8.mono d7.size)
    refine hK _ _ ⟨⟨_, d8⟩, rfl⟩ ?_
    clear hK K
    iterate 11 (refine sched_pure rfl (fun K hK => ?_); go_simp; refine hK _ ?_; clear hK K)
    refine sched_loud rfl (fun K hK => ?_)
    go_simp
    refine (BL.out _ d8).mono ?_
    rintro e z9 ⟨rfl, rfl⟩
    refine hK _ _ ⟨⟨_, d8⟩, rfl⟩ ?_
    clear hK K
    have hnb := blk8 n hn9
    iterate 3 (refine sched_pure rfl (fun K hK => ?_); go_simp; refine hK _ ?_; clear hK K)
    refine sched_nil ?_
    go_wp2_with fail
    go_ret
    exact ⟨rfl, (XR.out _ d8).2⟩
end Go.Proofs.YtdookhmaiapclaaGreatDoor
namespace Go.Proofs.YtdookhmaiapclaaGreatDoor
open Go.RowKit

set_option maxRecDepth 100000 in
set_option maxHeartbeats 4000000 in
theorem ropen_nil (ao : Option Addr) (cap : Nat) (w : World) :
    Calls Tryz.prog 35 #[.slice ao 0 cap] w fun e w' => e = .returned (.tuple #[.pointer none, .int .i64 8]) ∧ Below w.heap.size w w' := by
  have U : Hid (∀ (o : Option Addr) (c : Nat) (x : World), Calls Tryz.prog 68 #[.slice o 0 c] x fun e w' => ∃ (a1 : Option Addr) (n1 k1 : Nat) (N : Nat), e = .returned (.tuple #[.slice a1 n1 k1, .int .i64 (N : Int), .int .i64 10]) ∧ Below x.heap.size x w') := fun o c x => by
    refine (refUnframe_any o [] c x (Sees.nil _ _) (by decide) (Nat.zero_le _)).mono fun e w' ⟨v, h1, h2, h3⟩ => ?_
    obtain ⟨a1, k1, e1, -, -, -⟩ := owns_sees h2
    subst e1
    exact ⟨_, _, _, _, h1, h3⟩
  go_enter Tryz.func35, Tryz.ntmps35
  go_wp2_with fail
  go_loopw [4, 5] (fun s4 s5 wr => s4 = .slice none 0 0 ∧ s5 = .int .i64 0 ∧ Below w.heap.size w wr) (fun _ _ _ => 0)
  case atStart => exact ⟨rfl, rfl, Below.refl _ _⟩
  case round =>
    obtain ⟨rfl, rfl, hbr⟩ := hrel
    have HBR : Hid (Below w.heap.size w wr) := hbr
    clear hbr
    rcases ao with _ | ao
    · go_wp2_with fail
      refine (U.out _ _ _).mono ?_
      rintro e u1 ⟨a1, n1, k1, N, rfl, hb1⟩
      go_wp2_with fail
      go_ret2
      exact ⟨rfl, HBR.out.trans (hb1.mono HBR.out.size)⟩
    rcases Nat.eq_zero_or_pos cap with rfl | hc
    · go_wp2_with fail
      refine (U.out _ _ _).mono ?_
      rintro e u1 ⟨a1, n1, k1, N, rfl, hb1⟩
      go_wp2_with fail
      go_ret2
      exact ⟨rfl, HBR.out.trans (hb1.mono HBR.out.size)⟩
    · have hc0 : cap ≠ 0 := by omega
      go_wp2_with fail
      refine (U.out _ _ _).mono ?_
      rintro e u1 ⟨a1, n1, k1, N, rfl, hb1⟩
      go_wp2_with fail
      go_ret2
      exact ⟨rfl, HBR.out.trans (hb1.mono HBR.out.size)⟩
set_option maxRecDepth 100000 in
set_option maxHeartbeats 4000000 in
theorem tells_nil (ao : Option Addr) (cap : Nat) (k f u : Kb) (w : World) :
    Calls Tryz.prog 11 #[.slice ao 0 cap, askV k f u] w fun e w' => e = .returned (.bool true) ∧ Below w.heap.size w w' := by
  have OP : Hid (∀ x : World, Calls Tryz.prog 22 #[.slice ao 0 cap] x fun e w' => e = .returned (.tuple #[.pointer none, .int .i64 8]) ∧ Below x.heap.size x w') := fun x => open_nil ao cap x
  have RO : Hid (∀ x : World, Calls Tryz.prog 35 #[.slice ao 0 cap] x fun e w' => e = .returned (.tuple #[.pointer none, .int .i64 8]) ∧ Below x.heap.size x w') := fun x => ropen_nil ao cap x
  obtain ⟨wa, hwa⟩ : ∃ wa, wa = w.alloc (.cells #[.string k.t, .string k.p, .int .i64 k.r, .string k.c, .string f.t, .string f.p, .int .i64 f.r, .string f.c, .string u.t, .string u.p, .int .i64 u.r, .string u.c] 26) := ⟨_, rfl⟩
  have hba : Below w.heap.size w wa := by rw [hwa]; exact (Below.refl _ _).alloc (Nat.le_refl _) _
  simp only [askV] at hwa ⊢
  go_enter Tryz.func11, Tryz.ntmps11
  go_wp2_with fail
  rw [← hwa]
  clear hwa
  refine (OP.out _).mono ?_
  rintro e u1 ⟨rfl, hb1⟩
  go_wp2_with fail
  refine (RO.out _).mono ?_
  rintro e u2 ⟨rfl, hb2⟩
  have hb := hba.trans ((hb1.trans (hb2.mono hb1.size)).mono hba.size)
  go_wp2_with fail
  go_ret
  exact ⟨rfl, hb⟩
end Go.Proofs.YtdookhmaiapclaaGreatDoor
namespace Go.Proofs.YtdookhmaiapclaaGreatDoor
open Go.ChangeShapes Go.WideShapes Go.ChangeAt Go.RowKit

theorem bulk_part {H : Type} {d : DataW H} {l : List (DataW H)} (h : d ∈ l) : Rows.uptoBulk d ≤ Rows.uptoBulkAll l := by
  induction l with
  | nil => cases h
  | cons x r ih =>
    simp only [Rows.uptoBulkAll]
    rcases List.mem_cons.1 h with e | e
    · subst e; omega
    · have := ih e; omega
theorem bulk_cx {H : Type} (c : Cx) : 11 + wtX c ≤ Rows.uptoBulk (cxD (H := H) c) := by
  have e : ∀ s : ByteArray, s.data.toList.length = s.size := fun s => by rw [Array.length_toList]; rfl
  simp only [cxD, kxD, vxD, sD, iD, Rows.uptoBulk, Rows.uptoBulkAll, wtX, e]
  omega
theorem bulk_cxs {H : Type} (l : List Cx) : 11 * l.length ≤ Rows.uptoBulkAll (l.map (cxD (H := H))) := by
  induction l with
  | nil => simp [Rows.uptoBulkAll]
  | cons c r ih =>
    have := bulk_cx (H := H) c
    simp only [List.map_cons, Rows.uptoBulkAll, List.length_cons]
    omega
theorem bulk_bound {H : Type} {l : List (DataW H)} (hk : Rows.uptoSmall H l = true) : Rows.uptoBulkAll l ≤ 1048576 := of_decide_eq_true hk
theorem bulk_list {H : Type} {d : DataW H} {l : List Cx} {B : Nat} (hb : Rows.uptoBulk d ≤ B) (hB : B ≤ 1048576) (h : l.length = 0 ∨ ∃ sp, d = .slice (l.map cxD) sp) : 11 * l.length ≤ B ∧ ∀ c ∈ l, wtX c ≤ 562949953421312 := by
  rcases h with h0 | ⟨sp, rfl⟩
  · obtain rfl : l = [] := List.eq_nil_of_length_eq_zero h0
    exact ⟨by simp, fun c hc => by cases hc⟩
  · simp only [Rows.uptoBulk] at hb
    have h1 := bulk_cxs (H := H) l
    refine ⟨by omega, fun c hc => ?_⟩
    have h2 := bulk_part (List.mem_map_of_mem (f := cxD (H := H)) hc)
    have h3 := bulk_cx (H := H) c
    omega
/-- A list of cells that came in, where all that came in is small. -/
theorem bulk_cells {H : Type} {d : DataW H} {ds : List (DataW H)} {l : List Cx} (hk : Rows.uptoSmall H ds = true) (hd : d ∈ ds) (h : l.length = 0 ∨ ∃ sp, d = .slice (l.map cxD) sp) : l.length ≤ 100000 ∧ ∀ c ∈ l, wtX c ≤ 562949953421312 := by
  have h1 := bulk_bound hk
  have h2 := bulk_part hd
  have h3 := bulk_list (B := 1048576) (by omega) (Nat.le_refl _) h
  exact ⟨by omega, h3.2⟩
end Go.Proofs.YtdookhmaiapclaaGreatDoor
namespace Go.Proofs.YtdookhmaiapclaaGreatDoor
open Go.ChangeShapes Go.WideShapes Go.ChangeAt Go.RowKit Go.Deep

set_option maxRecDepth 100000 in
theorem ask_came2 {H : Type} {enc : TypeId × Value → H} {W : World} {base : Nat} {v : Value} {d : DataW H} {p : List MemPlace} (hv : Value.okWide Tryz.prog W .any base 26 v)
    (h : DataW.Trod enc Tryz.prog W 0 (fun _ => true) true 26 v d p) : ∃ k f u : Kb, v = askV k f u ∧ (InI k.r ∧ InI f.r ∧ InI u.r) ∧ d = .agg [kxD k, kxD f, kxD u] := by
  obtain ⟨cs, rfl, hsz⟩ := okWide_struct Tryz.underlying26 hv
  obtain ⟨fuel, hf⟩ := h
  have hl := hsz.trans cellsAsk
  obtain ⟨l⟩ := cs
  match l, hl with
  | [c0, c1, c2, c3, c4, c5, c6, c7, c8, c9, c10, c11], _ =>
    have hf' : DataW.trod enc Tryz.prog W 0 (fun _ => true) true fuel 26 [c0, c1, c2, c3, c4, c5, c6, c7, c8, c9, c10, c11] = some (d, p) := hf
    obtain ⟨y0, y1, y2, m, hd, _, h0, h1, h2⟩ := trod_struct3 Tryz.underlying26 hf'
    simp only [cellsXK] at h0 h1 h2
    obtain ⟨k, ek, o1, x0⟩ := kx_open (n := m) (c0 := c0) (c1 := c1) (c2 := c2) (c3 := c3) (x := y0) h0
    obtain ⟨f, ef, o2, x1⟩ := kx_open (n := m) (c0 := c4) (c1 := c5) (c2 := c6) (c3 := c7) (x := y1) h1
    obtain ⟨u, eu, o3, x2⟩ := kx_open (n := m) (c0 := c8) (c1 := c9) (c2 := c10) (c3 := c11) (x := y2) h2
    simp at ek ef eu
    obtain ⟨rfl, rfl, rfl, rfl⟩ := ek
    obtain ⟨rfl, rfl, rfl, rfl⟩ := ef
    obtain ⟨rfl, rfl, rfl, rfl⟩ := eu
    refine ⟨k, f, u, rfl, ⟨o1, o2, o3⟩, ?_⟩
    have hd1 := congrArg Prod.fst hd
    rw [← x0, ← x1, ← x2]
    exact hd1
theorem bulk_kx {H : Type} (k : Kb) : k.t.size + k.p.size + k.c.size ≤ Rows.uptoBulk (kxD (H := H) k) := by
  have e : ∀ s : ByteArray, s.data.toList.length = s.size := fun s => by rw [Array.length_toList]; rfl
  simp only [kxD, sD, iD, Rows.uptoBulk, Rows.uptoBulkAll, e]
  omega
theorem bulk_ask {H : Type} {k f u : Kb} {ds : List (DataW H)} (hk : Rows.uptoSmall H ds = true) (hd : (.agg [kxD k, kxD f, kxD u] : DataW H) ∈ ds) (hr : InI k.r ∧ InI f.r ∧ InI u.r) : k.Big ∧ f.Big ∧ u.Big := by
  have h1 := bulk_bound hk
  have h2 := bulk_part hd
  have b1 := bulk_kx (H := H) k
  have b2 := bulk_kx (H := H) f
  have b3 := bulk_kx (H := H) u
  simp only [Rows.uptoBulk, Rows.uptoBulkAll] at h2
  exact ⟨⟨by omega, by omega, by omega, hr.1⟩, ⟨by omega, by omega, by omega, hr.2.1⟩, ⟨by omega, by omega, by omega, hr.2.2⟩⟩
end Go.Proofs.YtdookhmaiapclaaGreatDoor

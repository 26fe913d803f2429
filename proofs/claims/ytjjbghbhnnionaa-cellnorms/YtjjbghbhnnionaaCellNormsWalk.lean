/-
  THE LAW CellNorms: the walk.
-/
import Derived.Test.YtjjbghbhnnionaaCxNorm
import Derived.Test.YtjjbghbhnnionaaCxRefMore
import Derived.Test.YtjjbghbhnnionaaCxFound
import Derived.Test.YtjjbghbhnnionaaCxLaid
import Derived.Test.YtjjbghbhnnionaaBlk
namespace Go.Proofs.Ytjjbghbhnnionaa.cellNorms
open Go.RowKit

theorem nums_of {c : Cx} (h : c.In) : c.Nums := ⟨h.1, h.2⟩
theorem key_box (w : World) (k : Kb) : ∃ wa, wa = w.alloc (.cells #[.string k.t, .string k.p, .int .i64 k.r, .string k.c] 24) ∧ (∀ w', Below wa.heap.size wa w' → w'.cell? ⟨w.heap.size, 0, none⟩ = some (.string k.t) ∧ w'.cell? ⟨w.heap.size, 1, none⟩ = some (.string k.p) ∧ w'.cell? ⟨w.heap.size, 2, none⟩ = some (.int .i64 k.r) ∧ w'.cell? ⟨w.heap.size, 3, none⟩ = some (.string k.c)) ∧ Below w.heap.size w wa := by
  have h := heap_alloc_new w (.cells #[.string k.t, .string k.p, .int .i64 k.r, .string k.c] 24)
  have hlt : w.heap.size < (w.alloc (.cells #[.string k.t, .string k.p, .int .i64 k.r, .string k.c] 24)).heap.size := by rw [World.size_alloc]; omega
  exact ⟨_, rfl, fun w' hb => ⟨by rw [hb.cell hlt]; simp only [World.cell?, h]; rfl, by rw [hb.cell hlt]; simp only [World.cell?, h]; rfl, by rw [hb.cell hlt]; simp only [World.cell?, h]; rfl, by rw [hb.cell hlt]; simp only [World.cell?, h]; rfl⟩, (Below.refl _ _).alloc (Nat.le_refl _) _⟩
set_option maxRecDepth 100000 in
set_option maxHeartbeats 4000000 in
theorem walk (ao : Option Addr) (l : List Cx) (cap : Nat) (k : Kb) (w : World) (hs : XSees w ao l) (hn : ao = none → l.length = 0) (hl : l.length ≤ 140737488355328) (hc : ∀ c ∈ l, c.In ∧ wtX c ≤ 562949953421312) (_hk : InI k.r) :
    Calls Try.prog 3 #[.slice ao l.length cap, k.v] w fun e w' => e = .returned (.bool true) ∧ Below w.heap.size w w' := by
  obtain ⟨i1, hi1, hy0, hy1, hy2⟩ := infoX infoCx
  have LV : Hid (∀ w : World, Calls Try.prog 10 #[] w fun x w' => x = .returned (.bool true) ∧ Below w.heap.size w w') := lives_any
  obtain ⟨wa, hwa, hkb, hB⟩ := key_box w k
  have W1 : Hid (Calls Try.prog 9 #[.slice ao l.length cap, .int .i64 400] wa fun e w' => (∃ z : Nat, e = .returned (.int .i64 z) ∧ z ≤ 1000000000000000 ∧ (z ≤ 400 → l.length ≤ 400 ∧ wtXs l ≤ 20 * 400)) ∧ Below wa.heap.size wa w') :=
    weighX_any ao l cap 400 wa (hs.below hB (Nat.le_refl _)) (by omega) hl (fun c h => (hc c h).2)
  have HN : Hid (∀ c ∈ l, c.Nums) := fun c h => nums_of (hc c h).1
  have HS : Hid (∀ w', Below w.heap.size w w' → XSees w' ao l) := fun w' h => hs.below h (Nat.le_refl _)
  have HK : Hid (∀ w', Below wa.heap.size wa w' → w'.cell? ⟨w.heap.size, 0, none⟩ = some (.string k.t) ∧ w'.cell? ⟨w.heap.size, 1, none⟩ = some (.string k.p) ∧ w'.cell? ⟨w.heap.size, 2, none⟩ = some (.int .i64 k.r) ∧ w'.cell? ⟨w.heap.size, 3, none⟩ = some (.string k.c)) := hkb
  have HB : Hid (∀ w', Below wa.heap.size wa w' → Below w.heap.size w w') := fun w' h => hB.trans (h.mono hB.size)
  have hlz : (l.length : Int) ≤ 140737488355328 := by omega
  have HNn : Hid (ao = none → l.length = 0) := hn
  obtain ⟨fv, hfv⟩ : ∃ fv, (fnd k l).1 = fv := ⟨_, rfl⟩
  obtain ⟨fb, hfb⟩ : ∃ fb, (fnd k l).2 = fb := ⟨_, rfl⟩
  have F1 : Hid (∀ w', Below w.heap.size w w' → l.length ≤ 1000000 → Calls Try.prog 12 #[.slice ao l.length cap, k.v] w' fun e w'' => e = .returned (.tuple #[fv.v, .bool fb]) ∧ Below w'.heap.size w' w'') := fun w' h h2 => by
    have := find_any ao l cap k w' (HS.out w' h) h2
    rw [hfv, hfb] at this; exact this
  have F2 : Hid (∀ w', Below w.heap.size w w' → l.length ≤ 1000000 → Calls Try.prog 13 #[.slice ao l.length cap, k.v] w' fun e w'' => e = .returned (.tuple #[fv.v, .bool fb]) ∧ Below w'.heap.size w' w'') := fun w' h h2 => by
    have := refFind_any ao l cap k w' (HS.out w' h) h2
    rw [hfv, hfb] at this; exact this
  clear hc hs hkb hB hn hfv hfb
  obtain ⟨kt, kp, kr, kcc⟩ := k
  obtain ⟨f1, f2, f3, f4, f5, f6⟩ := fv
  simp only [Kb.v, Vr.v] at *
  go_enter Try.func3, Try.ntmps3
  go_wp2_with fail
  rw [← hwa]
  clear hwa
  refine W1.out.mono ?_
  rintro e w1 ⟨⟨z, rfl, hz, hzm⟩, hb1⟩
  have hB1 := HB.out w1 hb1
  by_cases hbig : 400 < z
  · have hbz : (400 : Int) < (z : Int) := by omega
    clear hzm
    go_wp2_with fail
    refine (LV.out _).mono ?_
    rintro e w2 ⟨rfl, hb2⟩
    go_wp2_with fail
    go_ret
    exact ⟨rfl, hB1.trans (hb2.mono hB1.size)⟩
  · have hbz : ¬ (400 : Int) < (z : Int) := by omega
    obtain ⟨hl4, hw4⟩ := hzm (by omega)
    clear hzm hbig
    have s1 := HS.out w1 hB1
    have hbe : Below w1.heap.size w1 (w1.alloc (.cells #[] 41)) := (Below.refl _ _).alloc (Nat.le_refl _) _
    have s2 := s1.below hbe (Nat.le_refl _)
    have hnn := HNn.out
    go_wp2_with (at_builtin; go_must (refine wpList_append_grew _ rfl _ _ 22 22 rfl w1.heap.size 41 i1 _ 10 112 Try.underlying22 hi1 hy0 hy1 hy2 rfl _ 0 [] rfl (owns_none w1 w1.heap.size (Nat.le_refl _)) _ l.length (l.flatMap xs10) rfl (src_cells s2 hnn cap) (by unfold maxLen; omega) (by omega) (by rw [World.size_alloc]; omega) ?_; intro v2 w2 ho2 hg2; simp only [Nat.zero_add, List.nil_append] at ho2))
    have hb2 : Below w1.heap.size w1 w2 := hbe.trans (hg2.below (by rw [World.size_alloc]; omega) (fun g hg => by obtain rfl := Option.some.inj hg; exact Nat.le_refl _))
    obtain ⟨ag, cg, rfl, xg, hag⟩ := owns_xsees ho2
    have hng : ag = none → l.length = 0 := fun e => by
      cases l with
      | nil => rfl
      | cons c r => obtain ⟨g, e2, _⟩ := hag 0 c rfl; rw [e] at e2; cases e2
    have hb12 := hb1.trans (hb2.mono hb1.size)
    have hB2 := HB.out w2 hb12
    have NM : Hid (Calls Try.prog 11 #[.slice ag l.length cg] w2 fun e w' => ∃ v, e = .returned v ∧ w'.ownsRow w2.heap.size 41 10 v (nrm l).length ((nrm l).flatMap xs10) ∧ Below w2.heap.size w2 w') := norm_any ag l cg w2 xg hng (by omega)
    have HG : Hid (∀ w', Below w2.heap.size w2 w' → XSees w' ag l) := fun w' h => xg.below h (Nat.le_refl _)
    clear ho2 hg2 hbe s1 s2 xg hag hng hb2 hnn
    go_wp2_with fail
    refine NM.out.mono ?_
    rintro e w3 ⟨v3, rfl, ho3, hb3⟩
    obtain ⟨ax, cx, rfl, xx, -⟩ := owns_xsees ho3
    have hb13 := hb12.trans (hb3.mono hb12.size)
    have hB3 := HB.out w3 hb13
    have HX : Hid (∀ w', Below w3.heap.size w3 w' → XSees w' ax (nrm l)) := fun w' h => xx.below h (Nat.le_refl _)
    obtain ⟨k0, k1, k2, k3⟩ := HK.out w3 hb13
    have HG3 : Hid (∀ w', Below w3.heap.size w3 w' → XSees w' ag l) := fun w' h => HG.out w' (hb3.trans (h.mono hb3.size))
    clear NM ho3 xx HG hb12 hB2 hb1 hB1
    go_wp2_with fail
    refine (F1.out _ hB3 (by omega)).mono ?_
    rintro e w4 ⟨rfl, hb4⟩
    obtain ⟨w4b, hw4b⟩ : ∃ w', w' = w4.alloc (.cells (Vr.a ⟨f1, f2, f3, f4, f5, f6⟩) 31) := ⟨_, rfl⟩
    have hb4b : Below w4.heap.size w4 w4b := by rw [hw4b]; exact (Below.refl _ _).alloc (Nat.le_refl _) _
    have bv : Blk w4b w4.heap.size (Vr.a ⟨f1, f2, f3, f4, f5, f6⟩).toList 31 := by rw [hw4b]; exact Blk.new w4 _ _
    have hb34 := hb4.trans (hb4b.mono hb4.size)
    have hb14 := hb13.trans (hb34.mono hb13.size)
    have hB4 := HB.out w4b hb14
    obtain ⟨m0, m1, m2, m3⟩ := HK.out w4b hb14
    rw [hw4b] at m0 m1 m2 m3
    simp only [Vr.a] at hw4b m0 m1 m2 m3
    clear k0 k1 k2 k3 hb4 hb4b
    go_wp2_with fail
    rw [← hw4b]
    clear hw4b m0 m1 m2 m3
    refine (F2.out _ hB4 (by omega)).mono ?_
    rintro e w5 ⟨rfl, hb5⟩
    obtain ⟨w5b, hw5b⟩ : ∃ w', w' = w5.alloc (.cells (Vr.a ⟨f1, f2, f3, f4, f5, f6⟩) 31) := ⟨_, rfl⟩
    have hb5b : Below w5.heap.size w5 w5b := by rw [hw5b]; exact (Below.refl _ _).alloc (Nat.le_refl _) _
    have bw : Blk w5b w5.heap.size (Vr.a ⟨f1, f2, f3, f4, f5, f6⟩).toList 31 := by rw [hw5b]; exact Blk.new w5 _ _
    have hb45 := hb5.trans (hb5b.mono hb5.size)
    have hb35 := hb34.trans (hb45.mono hb34.size)
    have hb15 := hb13.trans (hb35.mono hb13.size)
    have hB5 := HB.out w5b hb15
    have HBX : Hid (∀ w', Below w5b.heap.size w5b w' → Blk w' w4.heap.size (Vr.a ⟨f1, f2, f3, f4, f5, f6⟩).toList 31 ∧ Blk w' w5.heap.size (Vr.a ⟨f1, f2, f3, f4, f5, f6⟩).toList 31) := fun w' h => ⟨(bv.carry ((h.block _ (Nat.lt_of_lt_of_le bv.lt hb45.size)).trans (hb45.block _ bv.lt))), bw.carry (h.block _ bw.lt)⟩
    have HX5 : Hid (∀ w', Below w5b.heap.size w5b w' → XSees w' ax (nrm l) ∧ XSees w' ag l ∧ XSees w' ao l ∧ Below w.heap.size w w') := fun w' h => ⟨HX.out w' (hb35.trans (h.mono hb35.size)), HG3.out w' (hb35.trans (h.mono hb35.size)), HS.out w' (hB5.trans (h.mono hB5.size)), hB5.trans (h.mono hB5.size)⟩
    simp only [Vr.a] at hw5b
    have RN : Hid (Calls Try.prog 15 #[.slice ao l.length cap] w5b fun e w' => ∃ v, e = .returned v ∧ w'.ownsRow w5b.heap.size 41 10 v (nrm l).length ((nrm l).flatMap xs10) ∧ Below w5b.heap.size w5b w') := refNorm_any ao l cap w5b (HS.out _ hB5) (by omega)
    clear hb5 hb5b bv bw HX HG3 hb45 hb35 hb15 hB5 hb34 hb14 hB4 hb13 hB3 hb3
    go_wp2_with fail
    rw [← hw5b]
    clear hw5b
    refine RN.out.mono ?_
    rintro e w6 ⟨v6, rfl, ho6, hb6⟩
    obtain ⟨an, cn, rfl, xn, -⟩ := owns_xsees ho6
    obtain ⟨x1, -, -, -⟩ := HX5.out w6 hb6
    have hnl := nrm_len l
    have L1 : Hid (Calls Try.prog 14 #[.slice ax (nrm l).length cx, .slice an (nrm l).length cn] w6 fun e w' => e = .returned (.bool true) ∧ Below w6.heap.size w6 w') := likeX_same ax an (nrm l) cx cn w6 x1 xn (by omega)
    clear RN ho6 xn x1
    go_wp2_with fail
    refine L1.out.mono ?_
    rintro e w7 ⟨rfl, hb7'⟩
    have hb7 := hb6.trans (hb7'.mono hb6.size)
    obtain ⟨-, g7, s7, -⟩ := HX5.out w7 hb7
    have L2 : Hid (Calls Try.prog 14 #[.slice ag l.length cg, .slice ao l.length cap] w7 fun e w' => e = .returned (.bool true) ∧ Below w7.heap.size w7 w') := likeX_same ag ao l cg cap w7 g7 s7 (by omega)
    clear L1 hb7' hb6 g7 s7
    go_wp2_with fail
    refine L2.out.mono ?_
    rintro e w8 ⟨rfl, hb8'⟩
    have hb8 := hb7.trans (hb8'.mono hb7.size)
    obtain ⟨-, -, s8, -⟩ := HX5.out w8 hb8
    have S1 : Hid (Calls Try.prog 16 #[.slice ao l.length cap] w8 fun e w' => e = .returned (.bool (srtB l)) ∧ Below w8.heap.size w8 w') := sorted_any ao l cap w8 s8 (by omega)
    clear L2 hb8' hb7 s8
    go_wp2_with fail
    refine S1.out.mono ?_
    rintro e w9 ⟨rfl, hb9'⟩
    have hb9 := hb8.trans (hb9'.mono hb8.size)
    obtain ⟨-, -, s9, -⟩ := HX5.out w9 hb9
    have S2 : Hid (Calls Try.prog 17 #[.slice ao l.length cap] w9 fun e w' => e = .returned (.bool (srtB l)) ∧ Below w9.heap.size w9 w') := refSorted_any ao l cap w9 s9 (by omega)
    clear S1 hb9' hb8 s9
    generalize srtB l = sb at *
    go_wp2_with fail
    refine S2.out.mono ?_
    rintro e wx ⟨rfl, hbx'⟩
    have hbx := hb9.trans (hbx'.mono hb9.size)
    obtain ⟨-, -, sx, -⟩ := HX5.out wx hbx
    obtain ⟨bv, bw⟩ := HBX.out wx hbx
    have v0 := bv.cell 0 rfl
    have v1 := bv.cell 1 rfl
    have v2 := bv.cell 2 rfl
    have v3 := bv.cell 3 rfl
    have v4 := bv.cell 4 rfl
    have v5 := bv.cell 5 rfl
    have q0 := bw.cell 0 rfl
    have q1 := bw.cell 1 rfl
    have q2 := bw.cell 2 rfl
    have q3 := bw.cell 3 rfl
    have q4 := bw.cell 4 rfl
    have q5 := bw.cell 5 rfl
    have D1 : Hid (Calls Try.prog 18 #[.slice ao l.length cap] wx fun e w' => e = .returned (.int .u64 (dgB (cellsL (l.map toC)))) ∧ Below wx.heap.size wx w') := digest_any ao l cap wx sx HN.out (by have := wtYs_le l; omega)
    clear S2 hbx' hb9 sx bv bw
    have hsb : (sb == sb) = true := by cases sb <;> rfl
    have hfb : (fb == fb) = true := by cases fb <;> rfl
    go_wp2_with fail
    refine D1.out.mono ?_
    rintro e wy ⟨rfl, hby'⟩
    have hby := hbx.trans (hby'.mono hbx.size)
    obtain ⟨-, -, sy, -⟩ := HX5.out wy hby
    have D2 : Hid (Calls Try.prog 19 #[.slice ao l.length cap] wy fun e w' => e = .returned (.int .u64 (dgB (cellsL (l.map toC)))) ∧ Below wy.heap.size wy w') := refDigest_any ao l cap wy sy HN.out (by omega)
    clear D1 hby' hbx sy
    generalize dgB (cellsL (l.map toC)) = dg at *
    go_wp2_with fail
    refine D2.out.mono ?_
    rintro e wz ⟨rfl, hbz'⟩
    have hbz2 := hby.trans (hbz'.mono hby.size)
    obtain ⟨-, -, -, hE⟩ := HX5.out wz hbz2
    clear D2 hbz' hby
    go_wp2_with fail
    refine (LV.out _).mono ?_
    rintro e we ⟨rfl, hbe⟩
    go_wp2_with fail
    go_ret
    exact ⟨rfl, hE.trans (hbe.mono hE.size)⟩
end Go.Proofs.Ytjjbghbhnnionaa.cellNorms

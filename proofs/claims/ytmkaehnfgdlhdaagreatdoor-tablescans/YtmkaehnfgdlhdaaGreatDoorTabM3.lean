/-
  SEVERAL TEXTS IN ONE: SrtIns, CxRuns, SrtSymA, SrtSymB, SrtSplit, SrtSym, SrtStable, SrtClone, CxNorm, CxFind, NormGood, TabLaw, TabTellsP, RowAid, VerLaid, CxLaid.
-/
import Derived.Test.YtmkaehnfgdlhdaaGreatDoorTabM2
import Derived.Test.YtmkaehnfgdlhdaaGreatDoorTabM1
import Derived.Deep.RegionLaw
import Derived.Test.YtmkaehnfgdlhdaaGreatDoorOwn
import Derived.Test.YtmkaehnfgdlhdaaGreatDoorRows
import Derived.ProofKit
import Derived.OpenShut
import Derived.ShutString
import Derived.ChangeOld
import Derived.SizedLaws
import Derived.Deep.Slices
import Derived.Deep.Strs
namespace Go.Proofs.YtmkaehnfgdlhdaaGreatDoor
open Go.RowKit

theorem grown_below {w w' : World} (h : Below w.heap.size w w') (g : Nat) : w.grownBy w' (some g) := ⟨h.os, h.tape, h.output, h.size, fun k hk _ => h.block k hk⟩
theorem Rx.below {w w' : World} {B g cap : Nat} {L : List Cx} (h : Rx w B g cap L) (hb : Below w.heap.size w w') : Rx w' B g cap L := by
  obtain ⟨h1, h2⟩ := h
  refine ⟨h1, ?_⟩
  rcases h2 with ⟨h2, _⟩ | ⟨g', cap', cur, h2, h3, h4, h5⟩
  · cases h2
  · have hlt : g' < w.heap.size := (Array.getElem?_eq_some_iff.1 h4).1
    exact .inr ⟨g', cap', cur, h2, h3, by rw [hb.block _ hlt]; exact h4, h5⟩
theorem at_mid (A : List Cx) (x : Cx) (Z : List Cx) : (A ++ x :: Z)[A.length]? = some x := by simp
theorem at_mid2 (A : List Cx) (l x : Cx) (Z : List Cx) : (A ++ l :: x :: Z)[A.length + 1]? = some x := by
  rw [List.getElem?_append_right (by omega)]
  simp
theorem set_two_mid (A : List Cx) (l x : Cx) (Z : List Cx) : ((A ++ l :: x :: Z).set (A.length + 1) l).set A.length x = A ++ x :: l :: Z := by
  rw [List.set_append_right _ _ (by omega), List.set_append_right _ _ (Nat.le_refl _)]
  simp
attribute [local irreducible] wpQuiet
set_option maxRecDepth 100000 in
set_option maxHeartbeats 4000000 in
/-- The inner loop's test and exchange, and its end: see 'insertion_any'. -/
theorem insertion_any (B g cap N : Nat) (P : List Cx) (s0 : Cx) (S Q : List Cx) (w : World) (hR0 : Rx w B g cap (P ++ (s0 :: S) ++ Q)) (hN : (P ++ (s0 :: S) ++ Q).length = N) (hL : N ≤ 1000000) :
    Calls Tryz.prog 67 #[.slice (some ⟨g, 0, none⟩) N cap, .int .i64 P.length, .int .i64 (P.length + S.length + 1 : Nat), .func (.func 22) #[] #[]] w fun e w' => e = .returned (.tuple #[]) ∧ (∃ S', St (s0 :: S) S' ∧ Up S' ∧ Rx w' B g cap (P ++ S' ++ Q)) ∧ w.grownBy w' (some g) := by
  obtain ⟨a, ha⟩ : ∃ a, a = P.length := ⟨_, rfl⟩
  obtain ⟨b, hb⟩ : ∃ b, b = P.length + S.length + 1 := ⟨_, rfl⟩
  rw [← hb, ← ha]
  have hNl := hN
  simp only [List.length_append, List.length_cons] at hNl
  have hbz : (b : Int) ≤ 1000000 := by omega
  have haz : (a : Int) < (b : Int) := by omega
  have HA : Hid (P.length = a) := ha.symm
  have HB : Hid (P.length + S.length + 1 = b ∧ b ≤ N) := ⟨hb.symm, by omega⟩
  have hNz : (N : Int) ≤ 1000000 := by omega
  clear ha hb hNl
  go_enter Tryz.func67, Tryz.ntmps67
  go_wp2_with fail
  go_loopw [8] (fun s8 wr => ∃ A R : List Cx, s8 = .int .i64 (a + A.length : Nat) ∧ 1 ≤ A.length ∧ St (s0 :: S) (A ++ R) ∧ Up A ∧ Rx wr B g cap (P ++ (A ++ R) ++ Q) ∧ w.grownBy wr (some g)) (fun s8 _ => b - (intOf s8).toNat)
  case atStart => exact ⟨[s0], S, by go_num, by simp, St.refl _, List.pairwise_singleton _ _, hR0, ⟨rfl, rfl, rfl, Nat.le_refl _, fun _ _ _ => rfl⟩⟩
  case round =>
    obtain ⟨A, R, rfl, hA1, hSt, hUp, hR, hG⟩ := hrel
    have hlen := hSt.len
    simp only [List.length_append, List.length_cons] at hlen
    have hab : a + A.length + R.length = b := by have := HA.out; have := HB.out.1; omega
    obtain ⟨i, hi⟩ : ∃ i, i = a + A.length := ⟨_, rfl⟩
    rw [← hi]
    cases R with
    | nil =>
      have hge : ¬ (i : Int) < (b : Int) := by simp only [List.length_nil] at hab; omega
      rw [List.append_nil] at hSt hR
      have HR : Hid ((∃ S', St (s0 :: S) S' ∧ Up S' ∧ Rx wr B g cap (P ++ S' ++ Q)) ∧ w.grownBy wr (some g)) := ⟨⟨A, hSt, hUp, hR⟩, hG⟩
      clear hSt hUp hR hG hlen hab hi
      go_wp2_with fail
      go_end0
      exact ⟨rfl, by simpa [List.append_assoc] using HR.out⟩
    | cons x R =>
      have hltz : (i : Int) < (b : Int) := by simp only [List.length_cons] at hab; omega
      have HI : Hid (i = a + A.length ∧ a + A.length + R.length + 1 = b) := ⟨hi, by simp only [List.length_cons] at hab; omega⟩
      have HS : Hid (St (s0 :: S) (A ++ x :: R)) := hSt
      have HU : Hid (Up A) := hUp
      have hR' : Rx wr B g cap (P ++ (A ++ x :: ([] ++ R)) ++ Q) := hR
      have hiz : (i : Int) ≤ 1000000 := by omega
      clear hSt hUp hR hlen hab hi
      go_wp2_with fail
      go_loopw [9] (fun s9 wj => ∃ U V : List Cx, s9 = .int .i64 (a + U.length : Nat) ∧ U ++ V = A ∧ (∀ v ∈ V, kx x v < 0) ∧ Rx wj B g cap (P ++ (U ++ x :: (V ++ R)) ++ Q) ∧ w.grownBy wj (some g)) (fun s9 _ => (intOf s9).toNat)
      case atStart => exact ⟨A, [], by rw [HI.out.1], by simp, (fun v hv => by cases hv), hR', hG⟩
      case round =>
        obtain ⟨U, V, rfl, hUV, hV, hRj, hGj⟩ := hrel
        generalize wr = wj at *
        rcases List.eq_nil_or_concat U with rfl | ⟨U', l, hU⟩
        · rw [List.nil_append] at hUV
          subst hUV
          have hend : Hid (St (s0 :: S) ((x :: V) ++ R) ∧ Up (x :: V) ∧ Rx wj B g cap (P ++ ((x :: V) ++ R) ++ Q)) := by
            have m := moved_left (U := []) (V := V) (b := x) HU.out (fun u hu => by cases hu) hV
            refine ⟨HS.out.trans ?_, m.2, hRj⟩
            have := m.1.append (St.refl R)
            simpa using this
          have d0 : decide ((a : Int) < (a : Int)) = false := decide_eq_false (by omega)
          clear hRj hV
          haveI := Cl.inh wj.heap.size wj
          have HG : Hid (w.grownBy wj (some g)) := hGj
          have HRx : Hid (∀ w', Below wj.heap.size wj w' → Rx w' B g cap (P ++ ((x :: V) ++ R) ++ Q) ∧ w.grownBy w' (some g)) := fun w' h => ⟨hend.out.2.2.below h, hGj.trans (grown_below h g)⟩
          clear hGj
          rw [List.length_nil, Nat.add_zero]
          go_wp2_with fail
          refine wp_region_cl wj.heap.size (by kernel_rfl) (by kernel_rfl) ?_
          quiet_step (fail)
          quiet_step (fail)
          quiet_step (fail)
          quiet_step (fail)
          quiet_step (fail)
          quiet_step (fail)
          quiet_step (fail)
          quiet_step (fail)
          quiet_step (fail)
          quiet_step (fail)
          quiet_step (fail)
          quiet_step (fail)
          quiet_step (fail)
          quiet_step (fail)
          quiet_step (fail)
          quiet_step (fail)
          quiet_step (fail)
          refine wpQuiet_nil ?_
          rintro w0 ⟨z, rfl⟩
          have hz := HRx.out _ z.h
          go_wp2_with fail
          go_roundw
          case rel => exact ⟨x :: V, R, by rw [HI.out.1]; go_num, by simp, hend.out.1, hend.out.2.1, hz.1, hz.2⟩
          case measure => simp [intOf]; have := HI.out; omega
        · rw [List.concat_eq_append] at hU
          subst hU
          obtain ⟨q, hq⟩ : ∃ q, q = (P ++ U').length := ⟨_, rfl⟩
          have hqa : q = a + U'.length := by rw [hq, List.length_append, HA.out]
          have hRj' : Rx wj B g cap ((P ++ U') ++ l :: x :: (V ++ R ++ Q)) := by simpa [List.append_assoc] using hRj
          have e9 : ((a + (U' ++ [l]).length : Nat) : Int) = (q : Int) + 1 := by rw [hqa]; simp; omega
          have hqN : q + 1 < N := by
            have h1 := HI.out.2
            have h2 := HB.out.2
            rw [← hUV] at h1
            simp only [List.length_append, List.length_cons, List.length_nil] at h1
            omega
          have tl : TenX wj g (q * 10) l := by rw [hq]; exact hRj'.ten (at_mid _ _ _)
          have tx : TenX wj g ((q + 1) * 10) x := by rw [hq]; exact hRj'.ten (at_mid2 _ _ _ _)
          have C : Hid (∀ w : World, Calls Tryz.prog 22 #[x.val, l.val] w fun e w' => e = .returned (.int .i64 (kx x l)) ∧ Below w.heap.size w w') := fun w => cmpKeys_any x l w
          have HRx : Hid (∀ w', Below wj.heap.size wj w' → Rx w' B g cap ((P ++ U') ++ l :: x :: (V ++ R ++ Q)) ∧ w.grownBy w' (some g)) := fun w' h => ⟨hRj'.below h, hGj.trans (grown_below h g)⟩
          have hyes : Hid (kx x l < 0 → ∀ v ∈ l :: V, kx x v < 0) := fun h v hv => by
            rcases List.mem_cons.1 hv with rfl | hv
            · exact h
            · exact hV v hv
          have hno : Hid (¬ kx x l < 0 → St (s0 :: S) (((U' ++ [l]) ++ x :: V) ++ R) ∧ Up ((U' ++ [l]) ++ x :: V)) := fun h => by
            have hU2 : Up ((U' ++ [l]) ++ V) := by rw [hUV]; exact HU.out
            have m := moved_left (U := U' ++ [l]) (V := V) (b := x) hU2 (hU2.left.last (by have := kx_n l x; omega)) hV
            refine ⟨HS.out.trans ?_, m.2⟩
            have := m.1.append (St.refl R)
            rw [hUV] at this
            simpa [List.append_assoc] using this
          have HUV : Hid ((U' ++ [l]) ++ V = A) := hUV
          have HP : Hid (q = (P ++ U').length) := hq
          have HQA : Hid (q = a + U'.length) := hqa
          generalize hkx : kx x l = K at *
          clear hkx hRj hRj' hV hUV hq hGj
          have hqz : (q : Int) + 1 < (N : Int) := by omega
          have hqz2 : (q : Int) < (N : Int) := by omega
          have hwp : IntKind.i64.wrap (q : Int) = (q : Int) := by rw [IntKind.wrap_i64]; omega
          have p0 : (0 : Int) ≤ (q : Int) + 1 := by omega
          have e0 : ((q : Int) + 1).toNat = q + 1 := by omega
          have d0 : decide ((a : Int) < (q : Int) + 1) = true := decide_eq_true (by omega)
          have hag : (a : Int) < (q : Int) + 1 := by omega
          rw [e9]
          clear e9 hqa hqN
          obtain ⟨⟨xa, xp, xr, xc⟩, ⟨xt, xd, xl, xk, xn, xs⟩⟩ := x
          obtain ⟨⟨la, lp, lr, lc⟩, ⟨lt, ld, ll, lk, ln, ls⟩⟩ := l
          simp only [Cx.val, Cx.a] at C
          have ql0 : ∀ z : Cl wj.heap.size wj, z.u.cell? ⟨g, q * 10, none⟩ = some (.string la) := fun z => (tl.below z.h tl.lt).c0
          have ql1 : ∀ z : Cl wj.heap.size wj, z.u.cell? ⟨g, q * 10 + 1, none⟩ = some (.string lp) := fun z => (tl.below z.h tl.lt).c1
          have ql2 : ∀ z : Cl wj.heap.size wj, z.u.cell? ⟨g, q * 10 + 2, none⟩ = some (.int .i64 lr) := fun z => (tl.below z.h tl.lt).c2
          have ql3 : ∀ z : Cl wj.heap.size wj, z.u.cell? ⟨g, q * 10 + 3, none⟩ = some (.string lc) := fun z => (tl.below z.h tl.lt).c3
          have ql4 : ∀ z : Cl wj.heap.size wj, z.u.cell? ⟨g, q * 10 + 4, none⟩ = some (.int .i64 lt) := fun z => (tl.below z.h tl.lt).c4
          have ql5 : ∀ z : Cl wj.heap.size wj, z.u.cell? ⟨g, q * 10 + 5, none⟩ = some (.bool ld) := fun z => (tl.below z.h tl.lt).c5
          have ql6 : ∀ z : Cl wj.heap.size wj, z.u.cell? ⟨g, q * 10 + 6, none⟩ = some (.int .i64 ll) := fun z => (tl.below z.h tl.lt).c6
          have ql7 : ∀ z : Cl wj.heap.size wj, z.u.cell? ⟨g, q * 10 + 7, none⟩ = some (.int .i64 lk) := fun z => (tl.below z.h tl.lt).c7
          have ql8 : ∀ z : Cl wj.heap.size wj, z.u.cell? ⟨g, q * 10 + 8, none⟩ = some (.int .i64 ln) := fun z => (tl.below z.h tl.lt).c8
          have ql9 : ∀ z : Cl wj.heap.size wj, z.u.cell? ⟨g, q * 10 + 9, none⟩ = some (.string ls) := fun z => (tl.below z.h tl.lt).c9
          have qx0 : ∀ z : Cl wj.heap.size wj, z.u.cell? ⟨g, (q + 1) * 10, none⟩ = some (.string xa) := fun z => (tx.below z.h tx.lt).c0
          have qx1 : ∀ z : Cl wj.heap.size wj, z.u.cell? ⟨g, (q + 1) * 10 + 1, none⟩ = some (.string xp) := fun z => (tx.below z.h tx.lt).c1
          have qx2 : ∀ z : Cl wj.heap.size wj, z.u.cell? ⟨g, (q + 1) * 10 + 2, none⟩ = some (.int .i64 xr) := fun z => (tx.below z.h tx.lt).c2
          have qx3 : ∀ z : Cl wj.heap.size wj, z.u.cell? ⟨g, (q + 1) * 10 + 3, none⟩ = some (.string xc) := fun z => (tx.below z.h tx.lt).c3
          have qx4 : ∀ z : Cl wj.heap.size wj, z.u.cell? ⟨g, (q + 1) * 10 + 4, none⟩ = some (.int .i64 xt) := fun z => (tx.below z.h tx.lt).c4
          have qx5 : ∀ z : Cl wj.heap.size wj, z.u.cell? ⟨g, (q + 1) * 10 + 5, none⟩ = some (.bool xd) := fun z => (tx.below z.h tx.lt).c5
          have qx6 : ∀ z : Cl wj.heap.size wj, z.u.cell? ⟨g, (q + 1) * 10 + 6, none⟩ = some (.int .i64 xl) := fun z => (tx.below z.h tx.lt).c6
          have qx7 : ∀ z : Cl wj.heap.size wj, z.u.cell? ⟨g, (q + 1) * 10 + 7, none⟩ = some (.int .i64 xk) := fun z => (tx.below z.h tx.lt).c7
          have qx8 : ∀ z : Cl wj.heap.size wj, z.u.cell? ⟨g, (q + 1) * 10 + 8, none⟩ = some (.int .i64 xn) := fun z => (tx.below z.h tx.lt).c8
          have qx9 : ∀ z : Cl wj.heap.size wj, z.u.cell? ⟨g, (q + 1) * 10 + 9, none⟩ = some (.string xs) := fun z => (tx.below z.h tx.lt).c9
          clear tl tx
          haveI := Cl.inh wj.heap.size wj
          by_cases hK : K < 0
          · have hKd : decide (K < 0) = true := decide_eq_true hK
            have HY : Hid (∀ v ∈ (⟨⟨la, lp, lr, lc⟩, ⟨lt, ld, ll, lk, ln, ls⟩⟩ : Cx) :: V, kx ⟨⟨xa, xp, xr, xc⟩, ⟨xt, xd, xl, xk, xn, xs⟩⟩ v < 0) := hyes.out hK
            clear hyes hno hK
            go_wp2_with fail
            refine wp_region_cl wj.heap.size (by kernel_rfl) (by kernel_rfl) ?_
            quiet_step (fail)
            quiet_step (fail)
            quiet_step (fail)
            quiet_step (fail)
            quiet_step (fail)
            quiet_step (fail)
            quiet_step (fail)
            quiet_step (fail)
            quiet_step (fail)
            quiet_step (fail)
            quiet_step (fail)
            quiet_step (fail)
            quiet_step (fail)
            quiet_step (fail)
            quiet_step ((go_at_call 22; exact Cl.calls (Nat.le_refl _) (C.out _)))
            quiet_step (fail)
            quiet_step (fail)
            refine wpQuiet_nil ?_
            rintro w0 ⟨z, rfl⟩
            obtain ⟨hR1, hG1⟩ := HRx.out _ z.h
            have hqP := HP.out
            have tl2 : TenX z.u g (q * 10) ⟨⟨la, lp, lr, lc⟩, ⟨lt, ld, ll, lk, ln, ls⟩⟩ := by rw [hqP]; exact hR1.ten (at_mid _ _ _)
            have tx2 : TenX z.u g ((q + 1) * 10) ⟨⟨xa, xp, xr, xc⟩, ⟨xt, xd, xl, xk, xn, xs⟩⟩ := by rw [hqP]; exact hR1.ten (at_mid2 _ _ _ _)
            have h0 : z.u.ownsRow B 34 10 (.slice (some ⟨g, 0, none⟩) (P ++ U' ++ ⟨⟨la, lp, lr, lc⟩, ⟨lt, ld, ll, lk, ln, ls⟩⟩ :: ⟨⟨xa, xp, xr, xc⟩, ⟨xt, xd, xl, xk, xn, xs⟩⟩ :: (V ++ R ++ Q)).length cap) (P ++ U' ++ ⟨⟨la, lp, lr, lc⟩, ⟨lt, ld, ll, lk, ln, ls⟩⟩ :: ⟨⟨xa, xp, xr, xc⟩, ⟨xt, xd, xl, xk, xn, xs⟩⟩ :: (V ++ R ++ Q)).length ((P ++ U' ++ ⟨⟨la, lp, lr, lc⟩, ⟨lt, ld, ll, lk, ln, ls⟩⟩ :: ⟨⟨xa, xp, xr, xc⟩, ⟨xt, xd, xl, xk, xn, xs⟩⟩ :: (V ++ R ++ Q)).flatMap xs10) := hR1
            have fz : ∀ j, z.u.frozen? ⟨g, j, none⟩ = false := fun j => h0.frozenAt j
            have P1 : Hid (Rx (set10 (set10 z.u g ((q + 1) * 10) ⟨⟨la, lp, lr, lc⟩, ⟨lt, ld, ll, lk, ln, ls⟩⟩) g (q * 10) ⟨⟨xa, xp, xr, xc⟩, ⟨xt, xd, xl, xk, xn, xs⟩⟩) B g cap (P ++ (U' ++ ⟨⟨xa, xp, xr, xc⟩, ⟨xt, xd, xl, xk, xn, xs⟩⟩ :: ((⟨⟨la, lp, lr, lc⟩, ⟨lt, ld, ll, lk, ln, ls⟩⟩ :: V) ++ R)) ++ Q) ∧ w.grownBy (set10 (set10 z.u g ((q + 1) * 10) ⟨⟨la, lp, lr, lc⟩, ⟨lt, ld, ll, lk, ln, ls⟩⟩) g (q * 10) ⟨⟨xa, xp, xr, xc⟩, ⟨xt, xd, xl, xk, xn, xs⟩⟩) (some g)) := by
              have p1 := hR1.put (i := q + 1) (a := ⟨⟨xa, xp, xr, xc⟩, ⟨xt, xd, xl, xk, xn, xs⟩⟩) (by rw [hqP]; exact at_mid2 _ _ _ _) ⟨⟨la, lp, lr, lc⟩, ⟨lt, ld, ll, lk, ln, ls⟩⟩
              have p2 := p1.1.put (i := q) (a := ⟨⟨la, lp, lr, lc⟩, ⟨lt, ld, ll, lk, ln, ls⟩⟩) (by rw [List.getElem?_set_ne (by omega), hqP]; exact at_mid _ _ _) ⟨⟨xa, xp, xr, xc⟩, ⟨xt, xd, xl, xk, xn, xs⟩⟩
              refine ⟨?_, (hG1.trans p1.2).trans p2.2⟩
              have e := set_two_mid (P ++ U') ⟨⟨la, lp, lr, lc⟩, ⟨lt, ld, ll, lk, ln, ls⟩⟩ ⟨⟨xa, xp, xr, xc⟩, ⟨xt, xd, xl, xk, xn, xs⟩⟩ (V ++ R ++ Q)
              rw [← hqP] at e
              have e3 : P ++ (U' ++ ⟨⟨xa, xp, xr, xc⟩, ⟨xt, xd, xl, xk, xn, xs⟩⟩ :: ((⟨⟨la, lp, lr, lc⟩, ⟨lt, ld, ll, lk, ln, ls⟩⟩ :: V) ++ R)) ++ Q = P ++ U' ++ ⟨⟨xa, xp, xr, xc⟩, ⟨xt, xd, xl, xk, xn, xs⟩⟩ :: ⟨⟨la, lp, lr, lc⟩, ⟨lt, ld, ll, lk, ln, ls⟩⟩ :: (V ++ R ++ Q) := by simp
              rw [e3, ← e]; exact p2.1
            clear hR1 hG1 h0 hqP
            have fa0 := fz (q * 10)
            have fa1 := fz (q * 10 + 1)
            have fa2 := fz (q * 10 + 2)
            have fa3 := fz (q * 10 + 3)
            have fa4 := fz (q * 10 + 4)
            have fa5 := fz (q * 10 + 5)
            have fa6 := fz (q * 10 + 6)
            have fa7 := fz (q * 10 + 7)
            have fa8 := fz (q * 10 + 8)
            have fa9 := fz (q * 10 + 9)
            have fb0 := fz ((q + 1) * 10)
            have fb1 := fz ((q + 1) * 10 + 1)
            have fb2 := fz ((q + 1) * 10 + 2)
            have fb3 := fz ((q + 1) * 10 + 3)
            have fb4 := fz ((q + 1) * 10 + 4)
            have fb5 := fz ((q + 1) * 10 + 5)
            have fb6 := fz ((q + 1) * 10 + 6)
            have fb7 := fz ((q + 1) * 10 + 7)
            have fb8 := fz ((q + 1) * 10 + 8)
            have fb9 := fz ((q + 1) * 10 + 9)
            clear fz
            obtain ⟨y0, y1, y2, y3, y4, y5, y6, y7, y8, y9⟩ := tl2
            obtain ⟨z0, z1, z2, z3, z4, z5, z6, z7, z8, z9⟩ := tx2
            simp only at y0 y1 y2 y3 y4 y5 y6 y7 y8 y9 z0 z1 z2 z3 z4 z5 z6 z7 z8 z9
            clear ql0 ql1 ql2 ql3 ql4 ql5 ql6 ql7 ql8 ql9 qx0 qx1 qx2 qx3 qx4 qx5 qx6 qx7 qx8 qx9
            go_wp2_with fail
            go_region
            go_wp2_with fail
            go_roundw
            case rel => exact ⟨U', _ :: V, by rw [HQA.out], by rw [← HUV.out]; simp, HY.out, Rx.drew P1.out.1, grown_drew P1.out.2⟩
            case measure => (simp [intOf]; try omega)
          · have hKd : decide (K < 0) = false := decide_eq_false hK
            obtain ⟨n1, n2⟩ := hno.out hK
            have HN1 : Hid (St (s0 :: S) (((U' ++ [(⟨⟨la, lp, lr, lc⟩, ⟨lt, ld, ll, lk, ln, ls⟩⟩ : Cx)]) ++ (⟨⟨xa, xp, xr, xc⟩, ⟨xt, xd, xl, xk, xn, xs⟩⟩ : Cx) :: V) ++ R)) := n1
            have HN2 : Hid (Up ((U' ++ [(⟨⟨la, lp, lr, lc⟩, ⟨lt, ld, ll, lk, ln, ls⟩⟩ : Cx)]) ++ (⟨⟨xa, xp, xr, xc⟩, ⟨xt, xd, xl, xk, xn, xs⟩⟩ : Cx) :: V)) := n2
            clear hyes hno hK n1 n2
            go_wp2_with fail
            refine wp_region_cl wj.heap.size (by kernel_rfl) (by kernel_rfl) ?_
            quiet_step (fail)
            quiet_step (fail)
            quiet_step (fail)
            quiet_step (fail)
            quiet_step (fail)
            quiet_step (fail)
            quiet_step (fail)
            quiet_step (fail)
            quiet_step (fail)
            quiet_step (fail)
            quiet_step (fail)
            quiet_step (fail)
            quiet_step (fail)
            quiet_step (fail)
            quiet_step ((go_at_call 22; exact Cl.calls (Nat.le_refl _) (C.out _)))
            quiet_step (fail)
            quiet_step (fail)
            refine wpQuiet_nil ?_
            rintro w0 ⟨z, rfl⟩
            obtain ⟨hR1, hG1⟩ := HRx.out _ z.h
            go_wp2_with fail
            go_roundw
            case rel => exact ⟨_, R, by have h1 := HI.out.1; rw [← HUV.out] at h1; simp only [List.length_append, List.length_cons, List.length_nil] at h1 ⊢; congr 1; omega, by simp; omega, HN1.out, HN2.out, by simpa [List.append_assoc] using hR1, hG1⟩
            case measure => simp [intOf]; have := HI.out; omega
end Go.Proofs.YtmkaehnfgdlhdaaGreatDoor
namespace Go.Proofs.YtmkaehnfgdlhdaaGreatDoor
open Go.RowKit

theorem ow_below {w w' : World} {B : Nat} {e : TypeId} {k n : Nat} {v : Value} {xs : List Value} (h : w.ownsRow B e k v n xs) (hb : Below w.heap.size w w') : w'.ownsRow B e k v n xs :=
  h.kept (row := none) ⟨hb.os, hb.tape, hb.output, hb.size, fun k hk _ => hb.block k hk⟩ (by cases hv : v.ownBlock <;> simp)
theorem set_last (O : List Cx) (y z : Cx) : (O ++ [y]).set O.length z = O ++ [z] := by
  rw [List.set_append_right _ _ (Nat.le_refl _), Nat.sub_self]; rfl
attribute [local irreducible] wpQuiet
set_option maxRecDepth 100000 in
set_option maxHeartbeats 4000000 in
theorem joinRuns_any (ao : Option Addr) (l : List Cx) (cap : Nat) (w : World) (hs : XSees w ao l) (hl : l.length ≤ 1000000) :
    Calls Tryz.prog 23 #[.slice ao l.length cap, .func (.func 22) #[] #[], .func (.func 24) #[] #[]] w fun e w' => ∃ v, e = .returned v ∧ w'.ownsRow w.heap.size 34 10 v (jr l).length ((jr l).flatMap xs10) ∧ Below w.heap.size w w' := by
  obtain ⟨i1, hi1, hy0, hy1, hy2⟩ := infoX infoCx
  have hlz : (l.length : Int) ≤ 1000000 := by omega
  go_enter Tryz.func23, Tryz.ntmps23
  go_wp2_with fail
  go_loopw [7, 13] (fun s7 s13 wr => ∃ (i : Nat) (O : List Cx), i ≤ l.length ∧ s13 = .int .i64 i ∧ jr (l.take i) = O ∧ wr.ownsRow w.heap.size 34 10 s7 O.length (O.flatMap xs10) ∧ Below w.heap.size w wr) (fun _ s13 _ => l.length - (intOf s13).toNat)
  case atStart => exact ⟨0, [], by omega, rfl, rfl, World.ownsRow_nil _ _ _ _, Below.refl _ _⟩
  case round =>
    obtain ⟨i, O, hi, rfl, hO, ho, hbr⟩ := hrel
    have hOl : O.length ≤ i := by rw [← hO]; exact jr_len l i
    obtain ⟨ao', cap', hv, hx, hT⟩ := owns_xsees ho
    rcases Nat.lt_or_ge i l.length with hlt | hge
    · have hc : l[i]? = some l[i] := List.getElem?_eq_getElem hlt
      have hnx : jr (l.take (i + 1)) = jrS O l[i] := by rw [takeX_succ hc, jr_snoc, hO]
      obtain ⟨b, off, rfl, t⟩ := (hs.below hbr (Nat.le_refl _)) i _ hc
      generalize l[i] = x at *
      obtain ⟨wv, hwv⟩ : ∃ wv, wv = wr.alloc (.cells x.a 34) := ⟨_, rfl⟩
      have hBr : Below wr.heap.size wr wv := by rw [hwv]; exact (Below.refl _ _).alloc (Nat.le_refl _) _
      have hBv : Below w.heap.size w wv := hbr.trans (hBr.mono hbr.size)
      have tv : TenX wv wr.heap.size 0 x := by rw [hwv]; exact TenX.new wr x _
      have hov : wv.ownsRow w.heap.size 34 10 u7 O.length (O.flatMap xs10) := ow_below ho hBr
      have HBv : Hid (Below w.heap.size w wv) := hBv
      have HOw : Hid (∀ u, Below wv.heap.size wv u → u.ownsRow w.heap.size 34 10 u7 O.length (O.flatMap xs10)) := fun u h => ow_below hov h
      have hltz : (i : Int) < (l.length : Int) := by omega
      have hOz : (O.length : Int) ≤ 1000000 := by omega
      haveI := Cl.inh wv.heap.size wv
      rcases List.eq_nil_or_concat O with rfl | ⟨P, y, hP⟩
      · have hApp : jr (l.take (i + 1)) = [] ++ [x] := by rw [hnx]; rfl
        subst hv
        clear hs hO hnx hx hT ho hov hBr hBv hbr hc
        obtain ⟨⟨xa, xp, xr, xc⟩, ⟨xt, xd, xl, xk, xn, xs⟩⟩ := x
        have HAp : Hid (jr (l.take (i + 1)) = [] ++ [(⟨⟨xa, xp, xr, xc⟩, ⟨xt, xd, xl, xk, xn, xs⟩⟩ : Cx)]) := hApp
        clear hApp
        obtain ⟨x0, x1, x2, x3, x4, x5, x6, x7, x8, x9⟩ := t
        simp only at x0 x1 x2 x3 x4 x5 x6 x7 x8 x9
        simp only [Cx.a] at hwv
        have hw1 : IntKind.i64.wrap (-1) = -1 := by decide
        go_wp2_with fail
        rw [← hwv]
        clear hwv x0 x1 x2 x3 x4 x5 x6 x7 x8 x9
        refine wp_region_cl wv.heap.size (by kernel_rfl) (by kernel_rfl) ?_
        quiet_step (fail)
        quiet_step (fail)
        quiet_step (fail)
        quiet_step (fail)
        quiet_step (fail)
        quiet_step (fail)
        quiet_step (fail)
        quiet_step (fail)
        quiet_step (fail)
        quiet_step (fail)
        quiet_step (fail)
        quiet_step (fail)
        refine wpQuiet_nil ?_
        rintro w0 ⟨z, rfl⟩
        have tz : TenX z.u wr.heap.size 0 ⟨⟨xa, xp, xr, xc⟩, ⟨xt, xd, xl, xk, xn, xs⟩⟩ := tv.below z.h tv.lt
        have oz := HOw.out z.u z.h
        have hBz : Below w.heap.size w z.u := HBv.out.trans (z.h.mono HBv.out.size)
        obtain ⟨x0, x1, x2, x3, x4, x5, x6, x7, x8, x9⟩ := tz
        simp only [Nat.zero_add] at x0 x1 x2 x3 x4 x5 x6 x7 x8 x9
        have HBz : Hid (Below w.heap.size w z.u) := hBz
        have oz2 : ∀ ob : Obj, (z.u.alloc ob).ownsRow w.heap.size 34 10 (.slice ao' 0 cap') 0 (([] : List Cx).flatMap xs10) := fun ob => oz.alloc ob
        have hsr : XSees (z.u.alloc (.cells (Cx.a ⟨⟨xa, xp, xr, xc⟩, ⟨xt, xd, xl, xk, xn, xs⟩⟩) 34)) (some ⟨z.u.heap.size, 0, none⟩) [⟨⟨xa, xp, xr, xc⟩, ⟨xt, xd, xl, xk, xn, xs⟩⟩] := fun i c hc => by
          have hi : i = 0 := by have := (List.getElem?_eq_some_iff.1 hc).1; simp at this; exact this
          subst hi
          obtain rfl := Option.some.inj hc
          exact ⟨z.u.heap.size, 0, rfl, TenX.new z.u _ _⟩
        have hbz : w.heap.size ≤ (z.u.alloc (.cells (Cx.a ⟨⟨xa, xp, xr, xc⟩, ⟨xt, xd, xl, xk, xn, xs⟩⟩) 34)).heap.size := by rw [World.size_alloc]; have := hBz.size; omega
        clear hBz oz
        simp only [Cx.a] at hsr oz2 hbz
        skip
        go_wp2_with (at_builtin; go_must (refine wpList_append_grew _ rfl _ _ 22 22 rfl w.heap.size 34 i1 _ 10 112 Tryz.underlying22 hi1 hy0 hy1 hy2 rfl (.slice ao' 0 cap') 0 (([] : List Cx).flatMap xs10) rfl (oz2 _) _ 1 (([⟨⟨xa, xp, xr, xc⟩, ⟨xt, xd, xl, xk, xn, xs⟩⟩] : List Cx).flatMap xs10) rfl (src_cells hsr (fun h => by cases h) 1) (by unfold maxLen; omega) (by omega) hbz ?_; intro v2 w2 ho2 hg2))
        have HG : Hid (w2.ownsRow w.heap.size 34 10 v2 (([] : List Cx) ++ [(⟨⟨xa, xp, xr, xc⟩, ⟨xt, xd, xl, xk, xn, xs⟩⟩ : Cx)]).length ((([] : List Cx) ++ [(⟨⟨xa, xp, xr, xc⟩, ⟨xt, xd, xl, xk, xn, xs⟩⟩ : Cx)]).flatMap xs10) ∧ Below w.heap.size w w2) := by
          refine ⟨by rw [List.flatMap_append]; have el : (([] : List Cx) ++ [(⟨⟨xa, xp, xr, xc⟩, ⟨xt, xd, xl, xk, xn, xs⟩⟩ : Cx)]).length = 0 + 1 := rfl; rw [el]; exact ho2, ?_⟩
          have hb3 : Below w.heap.size w (z.u.alloc (.cells (Cx.a ⟨⟨xa, xp, xr, xc⟩, ⟨xt, xd, xl, xk, xn, xs⟩⟩) 34)) := HBz.out.alloc HBz.out.size _
          exact hb3.trans (hg2.below hb3.size (fun g hg => ((oz2 (.cells (Cx.a ⟨⟨xa, xp, xr, xc⟩, ⟨xt, xd, xl, xk, xn, xs⟩⟩) 34)).lt g hg).1))
        clear ho2 hg2
        go_wp2_with fail
        go_roundw
        case rel => exact ⟨i + 1, ([] : List Cx) ++ [(⟨⟨xa, xp, xr, xc⟩, ⟨xt, xd, xl, xk, xn, xs⟩⟩ : Cx)], by omega, by go_num, HAp.out, HG.out.1, HG.out.2⟩
        case measure => (simp [intOf]; try omega)
      · rw [List.concat_eq_append] at hP
        subst hP
        obtain ⟨n, hn⟩ : ∃ n, n = P.length := ⟨_, rfl⟩
        have hat : (P ++ [y])[n]? = some y := by rw [hn]; exact at_mid P y []
        obtain ⟨g, rfl, hgb, -⟩ := hT n y hat
        subst hv
        have hRx : ∀ u, Below wv.heap.size wv u → Rx u w.heap.size g cap' (P ++ [y]) := fun u h => HOw.out u h
        have ty : TenX wv g (n * 10) y := (hRx wv (Below.refl _ _)).ten hat
        have elen : ((P ++ [y]).length : Int) = (n : Int) + 1 := by rw [List.length_append, hn]; simp
        have elenN : (P ++ [y]).length = n + 1 := by rw [List.length_append, hn]; simp
        have HOw2 : Hid (∀ u, Below wv.heap.size wv u → u.ownsRow w.heap.size 34 10 (.slice (some ⟨g, 0, none⟩) (n + 1) cap') (n + 1) ((P ++ [y]).flatMap xs10)) := fun u h => by have h2 := HOw.out u h; rw [elenN] at h2; exact h2
        clear HOw
        have C : Hid (∀ w : World, Calls Tryz.prog 22 #[y.val, x.val] w fun e w' => e = .returned (.int .i64 (kx y x)) ∧ Below w.heap.size w w') := fun w => cmpKeys_any y x w
        have J : Hid (∀ w : World, Calls Tryz.prog 24 #[y.val, x.val] w fun e w' => e = .returned (jnC y x).val ∧ Below w.heap.size w w') := fun w => joinCells_any y x w
        have hyes : Hid (kx y x = 0 → jr (l.take (i + 1)) = P ++ [jnC y x]) := fun h => by rw [hnx, jrS_same h]
        have hno : Hid (¬ kx y x = 0 → jr (l.take (i + 1)) = (P ++ [y]) ++ [x]) := fun h => by rw [hnx, jrS_other h]
        have HRx : Hid (∀ u, Below wv.heap.size wv u → Rx u w.heap.size g cap' (P ++ [y])) := hRx
        have HN : Hid (n = P.length ∧ (P ++ [y])[n]? = some y ∧ w.heap.size ≤ g) := ⟨hn, hat, hgb⟩
        obtain ⟨jc, hjc⟩ : ∃ jc, jc = jnC y x := ⟨_, rfl⟩
        rw [← hjc] at J hyes
        generalize kx y x = K at *
        have hnz : (n : Int) + 1 ≤ 1000000 := by omega
        have hwp : IntKind.i64.wrap (n : Int) = (n : Int) := by rw [IntKind.wrap_i64]; omega
        have hnn : n + 1 ≤ 1000000 := by omega
        have hn1 : (n : Int) < (n : Int) + 1 := by omega
        rw [elenN] at *
        clear hs hO hnx hx hT ho hov hBr hBv hbr hc hRx hn hat hgb hjc elen elenN hOz hOl
        obtain ⟨⟨xa, xp, xr, xc⟩, ⟨xt, xd, xl, xk, xn, xs⟩⟩ := x
        obtain ⟨⟨ya, yp, yr, yc⟩, ⟨yt, yd, yl, yk, yn, ys⟩⟩ := y
        simp only [Cx.val, Cx.a] at C J hwv
        obtain ⟨x0, x1, x2, x3, x4, x5, x6, x7, x8, x9⟩ := t
        simp only at x0 x1 x2 x3 x4 x5 x6 x7 x8 x9
        have qx0 : ∀ z : Cl wv.heap.size wv, z.u.cell? ⟨wr.heap.size, 0, none⟩ = some (.string xa) := fun z => (tv.below z.h tv.lt).c0
        have qx1 : ∀ z : Cl wv.heap.size wv, z.u.cell? ⟨wr.heap.size, 1, none⟩ = some (.string xp) := fun z => (tv.below z.h tv.lt).c1
        have qx2 : ∀ z : Cl wv.heap.size wv, z.u.cell? ⟨wr.heap.size, 2, none⟩ = some (.int .i64 xr) := fun z => (tv.below z.h tv.lt).c2
        have qx3 : ∀ z : Cl wv.heap.size wv, z.u.cell? ⟨wr.heap.size, 3, none⟩ = some (.string xc) := fun z => (tv.below z.h tv.lt).c3
        have qx4 : ∀ z : Cl wv.heap.size wv, z.u.cell? ⟨wr.heap.size, 4, none⟩ = some (.int .i64 xt) := fun z => (tv.below z.h tv.lt).c4
        have qx5 : ∀ z : Cl wv.heap.size wv, z.u.cell? ⟨wr.heap.size, 5, none⟩ = some (.bool xd) := fun z => (tv.below z.h tv.lt).c5
        have qx6 : ∀ z : Cl wv.heap.size wv, z.u.cell? ⟨wr.heap.size, 6, none⟩ = some (.int .i64 xl) := fun z => (tv.below z.h tv.lt).c6
        have qx7 : ∀ z : Cl wv.heap.size wv, z.u.cell? ⟨wr.heap.size, 7, none⟩ = some (.int .i64 xk) := fun z => (tv.below z.h tv.lt).c7
        have qx8 : ∀ z : Cl wv.heap.size wv, z.u.cell? ⟨wr.heap.size, 8, none⟩ = some (.int .i64 xn) := fun z => (tv.below z.h tv.lt).c8
        have qx9 : ∀ z : Cl wv.heap.size wv, z.u.cell? ⟨wr.heap.size, 9, none⟩ = some (.string xs) := fun z => (tv.below z.h tv.lt).c9
        have qy0 : ∀ z : Cl wv.heap.size wv, z.u.cell? ⟨g, n * 10, none⟩ = some (.string ya) := fun z => (ty.below z.h ty.lt).c0
        have qy1 : ∀ z : Cl wv.heap.size wv, z.u.cell? ⟨g, n * 10 + 1, none⟩ = some (.string yp) := fun z => (ty.below z.h ty.lt).c1
        have qy2 : ∀ z : Cl wv.heap.size wv, z.u.cell? ⟨g, n * 10 + 2, none⟩ = some (.int .i64 yr) := fun z => (ty.below z.h ty.lt).c2
        have qy3 : ∀ z : Cl wv.heap.size wv, z.u.cell? ⟨g, n * 10 + 3, none⟩ = some (.string yc) := fun z => (ty.below z.h ty.lt).c3
        have qy4 : ∀ z : Cl wv.heap.size wv, z.u.cell? ⟨g, n * 10 + 4, none⟩ = some (.int .i64 yt) := fun z => (ty.below z.h ty.lt).c4
        have qy5 : ∀ z : Cl wv.heap.size wv, z.u.cell? ⟨g, n * 10 + 5, none⟩ = some (.bool yd) := fun z => (ty.below z.h ty.lt).c5
        have qy6 : ∀ z : Cl wv.heap.size wv, z.u.cell? ⟨g, n * 10 + 6, none⟩ = some (.int .i64 yl) := fun z => (ty.below z.h ty.lt).c6
        have qy7 : ∀ z : Cl wv.heap.size wv, z.u.cell? ⟨g, n * 10 + 7, none⟩ = some (.int .i64 yk) := fun z => (ty.below z.h ty.lt).c7
        have qy8 : ∀ z : Cl wv.heap.size wv, z.u.cell? ⟨g, n * 10 + 8, none⟩ = some (.int .i64 yn) := fun z => (ty.below z.h ty.lt).c8
        have qy9 : ∀ z : Cl wv.heap.size wv, z.u.cell? ⟨g, n * 10 + 9, none⟩ = some (.string ys) := fun z => (ty.below z.h ty.lt).c9
        by_cases hK : K = 0
        · subst hK
          have hY := hyes.out rfl
          have HYes : Hid (jr (l.take (i + 1)) = P ++ [jc]) := hY
          clear hyes hno hY
          go_wp2_with fail
          rw [← hwv]
          clear hwv x0 x1 x2 x3 x4 x5 x6 x7 x8 x9
          refine wp_region_cl wv.heap.size (by kernel_rfl) (by kernel_rfl) ?_
          quiet_step (fail)
          quiet_step (fail)
          quiet_step (fail)
          quiet_step (fail)
          quiet_step (fail)
          quiet_step (fail)
          quiet_step (fail)
          quiet_step (fail)
          quiet_step (fail)
          quiet_step ((go_at_call 22; exact Cl.calls (Nat.le_refl _) (C.out _)))
          quiet_step (fail)
          quiet_step (fail)
          refine wpQuiet_nil ?_
          rintro w0 ⟨z, rfl⟩
          have zy : TenX z.u g (n * 10) ⟨⟨ya, yp, yr, yc⟩, ⟨yt, yd, yl, yk, yn, ys⟩⟩ := ty.below z.h ty.lt
          have zx : TenX z.u wr.heap.size 0 ⟨⟨xa, xp, xr, xc⟩, ⟨xt, xd, xl, xk, xn, xs⟩⟩ := tv.below z.h tv.lt
          have zy2 : TenX z.u.drew g (n * 10) ⟨⟨ya, yp, yr, yc⟩, ⟨yt, yd, yl, yk, yn, ys⟩⟩ := zy.below (Below.refl z.u.heap.size z.u).drew zy.lt
          have zx2 : TenX z.u.drew wr.heap.size 0 ⟨⟨xa, xp, xr, xc⟩, ⟨xt, xd, xl, xk, xn, xs⟩⟩ := zx.below (Below.refl z.u.heap.size z.u).drew zx.lt
          obtain ⟨⟨ja, jp, jr, jc⟩, ⟨jt, jd, jl, jk, jn, js⟩⟩ := jc
          simp only at J
          have HE : Hid (∀ w1, Below z.u.heap.size z.u w1 → Rx w1 w.heap.size g cap' (P ++ [(⟨⟨ya, yp, yr, yc⟩, ⟨yt, yd, yl, yk, yn, ys⟩⟩ : Cx)]) ∧ Below w.heap.size w w1) := fun w1 h => ⟨(HRx.out _ z.h).below h, HBv.out.trans ((z.h.trans (h.mono z.h.size)).mono HBv.out.size)⟩
          have HFin : Hid (∀ w1, Rx w1 w.heap.size g cap' (P ++ [(⟨⟨ya, yp, yr, yc⟩, ⟨yt, yd, yl, yk, yn, ys⟩⟩ : Cx)]) → Below w.heap.size w w1 → (set10 w1 g (n * 10) ⟨⟨ja, jp, jr, jc⟩, ⟨jt, jd, jl, jk, jn, js⟩⟩).ownsRow w.heap.size 34 10 (.slice (some ⟨g, 0, none⟩) (n + 1) cap') (P ++ [(⟨⟨ja, jp, jr, jc⟩, ⟨jt, jd, jl, jk, jn, js⟩⟩ : Cx)]).length ((P ++ [(⟨⟨ja, jp, jr, jc⟩, ⟨jt, jd, jl, jk, jn, js⟩⟩ : Cx)]).flatMap xs10) ∧ Below w.heap.size w (set10 w1 g (n * 10) ⟨⟨ja, jp, jr, jc⟩, ⟨jt, jd, jl, jk, jn, js⟩⟩)) := fun w1 hR hB => by
            obtain ⟨h1, h2, h3⟩ := HN.out
            have p1 := hR.put h2 ⟨⟨ja, jp, jr, jc⟩, ⟨jt, jd, jl, jk, jn, js⟩⟩
            have e1 : (P ++ [(⟨⟨ya, yp, yr, yc⟩, ⟨yt, yd, yl, yk, yn, ys⟩⟩ : Cx)]).set n ⟨⟨ja, jp, jr, jc⟩, ⟨jt, jd, jl, jk, jn, js⟩⟩ = P ++ [⟨⟨ja, jp, jr, jc⟩, ⟨jt, jd, jl, jk, jn, js⟩⟩] := by rw [h1]; exact set_last P _ _
            have p2 := p1.1
            rw [e1] at p2
            have e2 : (P ++ [(⟨⟨ja, jp, jr, jc⟩, ⟨jt, jd, jl, jk, jn, js⟩⟩ : Cx)]).length = n + 1 := by rw [List.length_append, h1]; rfl
            refine ⟨?_, ?_⟩
            · have p3 : (set10 w1 g (n * 10) ⟨⟨ja, jp, jr, jc⟩, ⟨jt, jd, jl, jk, jn, js⟩⟩).ownsRow w.heap.size 34 10 (.slice (some ⟨g, 0, none⟩) (P ++ [(⟨⟨ja, jp, jr, jc⟩, ⟨jt, jd, jl, jk, jn, js⟩⟩ : Cx)]).length cap') (P ++ [(⟨⟨ja, jp, jr, jc⟩, ⟨jt, jd, jl, jk, jn, js⟩⟩ : Cx)]).length ((P ++ [(⟨⟨ja, jp, jr, jc⟩, ⟨jt, jd, jl, jk, jn, js⟩⟩ : Cx)]).flatMap xs10) := p2
              rw [e2] at p3 ⊢
              exact p3
            · exact hB.trans ⟨p1.2.os, p1.2.tape, p1.2.output, p1.2.size, fun k hk => p1.2.block k (Nat.lt_of_lt_of_le hk hB.size) (fun e => by have := Option.some.inj e; omega)⟩
          obtain ⟨a0, a1, a2, a3, a4, a5, a6, a7, a8, a9⟩ := zy
          obtain ⟨b0, b1, b2, b3, b4, b5, b6, b7, b8, b9⟩ := zx
          obtain ⟨c0, c1, c2, c3, c4, c5, c6, c7, c8, c9⟩ := zy2
          obtain ⟨d0, d1, d2, d3, d4, d5, d6, d7, d8, d9⟩ := zx2
          simp only [Nat.zero_add] at a0 a1 a2 a3 a4 a5 a6 a7 a8 a9 b0 b1 b2 b3 b4 b5 b6 b7 b8 b9 c0 c1 c2 c3 c4 c5 c6 c7 c8 c9 d0 d1 d2 d3 d4 d5 d6 d7 d8 d9
          clear qx0 qx1 qx2 qx3 qx4 qx5 qx6 qx7 qx8 qx9 qy0 qy1 qy2 qy3 qy4 qy5 qy6 qy7 qy8 qy9 tv ty
          go_wp2_with fail
          go_region_law (first
            | (go_simp; go_at_call 24; refine (J.out _).mono ?_; rintro e w1 ⟨rfl, hb1⟩; obtain ⟨hR1, hB1⟩ := HE.out w1 ((Below.refl z.u.heap.size z.u).drew.trans hb1); have h0 : w1.ownsRow w.heap.size 34 10 (.slice (some ⟨g, 0, none⟩) (P ++ [(⟨⟨ya, yp, yr, yc⟩, ⟨yt, yd, yl, yk, yn, ys⟩⟩ : Cx)]).length cap') (P ++ [(⟨⟨ya, yp, yr, yc⟩, ⟨yt, yd, yl, yk, yn, ys⟩⟩ : Cx)]).length ((P ++ [(⟨⟨ya, yp, yr, yc⟩, ⟨yt, yd, yl, yk, yn, ys⟩⟩ : Cx)]).flatMap xs10) := hR1; have fz : ∀ j, w1.frozen? ⟨g, j, none⟩ = false := fun j => h0.frozenAt j; have tz := hR1.ten HN.out.2.1; obtain ⟨e0, e1, e2, e3, e4, e5, e6, e7, e8, e9⟩ := tz; simp only at e0 e1 e2 e3 e4 e5 e6 e7 e8 e9; have HW := HFin.out w1 hR1 hB1; have HW1 : Hid ((set10 w1 g (n * 10) ⟨⟨ja, jp, jr, jc⟩, ⟨jt, jd, jl, jk, jn, js⟩⟩).ownsRow w.heap.size 34 10 (.slice (some ⟨g, 0, none⟩) (n + 1) cap') (P ++ [(⟨⟨ja, jp, jr, jc⟩, ⟨jt, jd, jl, jk, jn, js⟩⟩ : Cx)]).length ((P ++ [(⟨⟨ja, jp, jr, jc⟩, ⟨jt, jd, jl, jk, jn, js⟩⟩ : Cx)]).flatMap xs10) ∧ Below w.heap.size w (set10 w1 g (n * 10) ⟨⟨ja, jp, jr, jc⟩, ⟨jt, jd, jl, jk, jn, js⟩⟩)) := HW; clear HW hR1 hB1 h0 hb1))
          all_goals
            go_wp2_with fail
            go_roundw
            case rel => exact ⟨i + 1, P ++ [(⟨⟨ja, jp, jr, jc⟩, ⟨jt, jd, jl, jk, jn, js⟩⟩ : Cx)], by omega, by go_num, HYes.out, HW1.out.1, HW1.out.2⟩
            case measure => (simp [intOf]; try omega)
        · have hKd : decide (K = 0) = false := decide_eq_false hK
          have hKb : (K == 0) = false := beq_false_of_ne hK
          have hY := hno.out hK
          have HAp : Hid (jr (l.take (i + 1)) = (P ++ [(⟨⟨ya, yp, yr, yc⟩, ⟨yt, yd, yl, yk, yn, ys⟩⟩ : Cx)]) ++ [(⟨⟨xa, xp, xr, xc⟩, ⟨xt, xd, xl, xk, xn, xs⟩⟩ : Cx)]) := hY
          clear hyes hno hY J
          go_wp2_with fail
          rw [← hwv]
          clear hwv x0 x1 x2 x3 x4 x5 x6 x7 x8 x9
          refine wp_region_cl wv.heap.size (by kernel_rfl) (by kernel_rfl) ?_
          quiet_step (fail)
          quiet_step (fail)
          quiet_step (fail)
          quiet_step (fail)
          quiet_step (fail)
          quiet_step (fail)
          quiet_step (fail)
          quiet_step (fail)
          quiet_step (fail)
          quiet_step ((go_at_call 22; exact Cl.calls (Nat.le_refl _) (C.out _)))
          quiet_step (fail)
          quiet_step (fail)
          refine wpQuiet_nil ?_
          rintro w0 ⟨z, rfl⟩
          have tz : TenX z.u wr.heap.size 0 ⟨⟨xa, xp, xr, xc⟩, ⟨xt, xd, xl, xk, xn, xs⟩⟩ := tv.below z.h tv.lt
          have oz := HOw2.out z.u z.h
          have hBz : Below w.heap.size w z.u := HBv.out.trans (z.h.mono HBv.out.size)
          obtain ⟨x0, x1, x2, x3, x4, x5, x6, x7, x8, x9⟩ := tz
          simp only [Nat.zero_add] at x0 x1 x2 x3 x4 x5 x6 x7 x8 x9
          have HBz : Hid (Below w.heap.size w z.u) := hBz
          have oz2 : ∀ ob : Obj, (z.u.alloc ob).ownsRow w.heap.size 34 10 (.slice (some ⟨g, 0, none⟩) (n + 1) cap') (n + 1) ((P ++ [(⟨⟨ya, yp, yr, yc⟩, ⟨yt, yd, yl, yk, yn, ys⟩⟩ : Cx)]).flatMap xs10) := fun ob => oz.alloc ob
          have hsr : XSees (z.u.alloc (.cells (Cx.a ⟨⟨xa, xp, xr, xc⟩, ⟨xt, xd, xl, xk, xn, xs⟩⟩) 34)) (some ⟨z.u.heap.size, 0, none⟩) [⟨⟨xa, xp, xr, xc⟩, ⟨xt, xd, xl, xk, xn, xs⟩⟩] := fun i c hc => by
            have hi : i = 0 := by have := (List.getElem?_eq_some_iff.1 hc).1; simp at this; exact this
            subst hi
            obtain rfl := Option.some.inj hc
            exact ⟨z.u.heap.size, 0, rfl, TenX.new z.u _ _⟩
          have hbz : w.heap.size ≤ (z.u.alloc (.cells (Cx.a ⟨⟨xa, xp, xr, xc⟩, ⟨xt, xd, xl, xk, xn, xs⟩⟩) 34)).heap.size := by rw [World.size_alloc]; have := hBz.size; omega
          clear hBz oz
          simp only [Cx.a] at hsr oz2 hbz
          clear qx0 qx1 qx2 qx3 qx4 qx5 qx6 qx7 qx8 qx9 qy0 qy1 qy2 qy3 qy4 qy5 qy6 qy7 qy8 qy9
          go_wp2_with (at_builtin; go_must (refine wpList_append_grew _ rfl _ _ 22 22 rfl w.heap.size 34 i1 _ 10 112 Tryz.underlying22 hi1 hy0 hy1 hy2 rfl (.slice (some ⟨g, 0, none⟩) (n + 1) cap') (n + 1) ((P ++ [(⟨⟨ya, yp, yr, yc⟩, ⟨yt, yd, yl, yk, yn, ys⟩⟩ : Cx)]).flatMap xs10) rfl (oz2 _) _ 1 (([⟨⟨xa, xp, xr, xc⟩, ⟨xt, xd, xl, xk, xn, xs⟩⟩] : List Cx).flatMap xs10) rfl (src_cells hsr (fun h => by cases h) 1) (by unfold maxLen; omega) (by omega) hbz ?_; intro v2 w2 ho2 hg2))
          have HG : Hid (w2.ownsRow w.heap.size 34 10 v2 ((P ++ [(⟨⟨ya, yp, yr, yc⟩, ⟨yt, yd, yl, yk, yn, ys⟩⟩ : Cx)]) ++ [(⟨⟨xa, xp, xr, xc⟩, ⟨xt, xd, xl, xk, xn, xs⟩⟩ : Cx)]).length (((P ++ [(⟨⟨ya, yp, yr, yc⟩, ⟨yt, yd, yl, yk, yn, ys⟩⟩ : Cx)]) ++ [(⟨⟨xa, xp, xr, xc⟩, ⟨xt, xd, xl, xk, xn, xs⟩⟩ : Cx)]).flatMap xs10) ∧ Below w.heap.size w w2) := by
            refine ⟨by rw [List.flatMap_append]; have el : ((P ++ [(⟨⟨ya, yp, yr, yc⟩, ⟨yt, yd, yl, yk, yn, ys⟩⟩ : Cx)]) ++ [(⟨⟨xa, xp, xr, xc⟩, ⟨xt, xd, xl, xk, xn, xs⟩⟩ : Cx)]).length = (n + 1) + 1 := (by rw [List.length_append, List.length_append, HN.out.1]; rfl); rw [el]; exact ho2, ?_⟩
            have hb3 : Below w.heap.size w (z.u.alloc (.cells (Cx.a ⟨⟨xa, xp, xr, xc⟩, ⟨xt, xd, xl, xk, xn, xs⟩⟩) 34)) := HBz.out.alloc HBz.out.size _
            exact hb3.trans (hg2.below hb3.size (fun g hg => ((oz2 (.cells (Cx.a ⟨⟨xa, xp, xr, xc⟩, ⟨xt, xd, xl, xk, xn, xs⟩⟩) 34)).lt g hg).1))
          clear ho2 hg2
          go_wp2_with fail
          go_roundw
          case rel => exact ⟨i + 1, (P ++ [(⟨⟨ya, yp, yr, yc⟩, ⟨yt, yd, yl, yk, yn, ys⟩⟩ : Cx)]) ++ [(⟨⟨xa, xp, xr, xc⟩, ⟨xt, xd, xl, xk, xn, xs⟩⟩ : Cx)], by omega, by go_num, HAp.out, HG.out.1, HG.out.2⟩
          case measure => (simp [intOf]; try omega)
    · obtain rfl : i = l.length := by omega
      have hgez : ¬ ((l.length : Nat) : Int) < (l.length : Int) := by omega
      have HO : Hid (jr l = O) := by rw [← hO, List.take_of_length_le (Nat.le_refl _)]; exact rfl
      clear hO hs hx hT hv
      go_wp2_with fail
      go_ret
      exact ⟨_, rfl, by rw [HO.out]; exact ho, hbr⟩
end Go.Proofs.YtmkaehnfgdlhdaaGreatDoor
namespace Go.Proofs.YtmkaehnfgdlhdaaGreatDoor
open Go.RowKit

theorem kx_lt {x y z : Cx} (h : kx x y ≤ 0) (g : kx y z < 0) : kx x z < 0 := by
  have h1 := kx_t h (show kx y z ≤ 0 by omega)
  by_cases e : kx x z = 0
  · have e2 := (kx_z x z).1 e
    have e3 : kx y z = kx y x := by unfold kx; rw [e2]
    have e4 := kx_n x y
    omega
  · omega
theorem set_mid2 (A : List Cx) (x l : Cx) (Z : List Cx) : ((A ++ x :: l :: Z).set A.length l).set (A.length + 1) x = A ++ l :: x :: Z := by
  rw [List.set_append_right _ _ (Nat.le_refl _), List.set_append_right _ _ (by omega)]
  simp
attribute [local irreducible] wpQuiet
set_option maxRecDepth 100000 in
set_option maxHeartbeats 4000000 in
theorem symOne_any (B g cap N : Nat) (P : List Cx) (c0 : Cx) (T Q : List Cx) (w : World) (hR0 : Rx w B g cap (P ++ (c0 :: T) ++ Q)) (hN : (P ++ (c0 :: T) ++ Q).length = N) (hL : N ≤ 1000000) (hT : 1 ≤ T.length) (hU : Up T) :
    Calls Tryz.prog 68 #[.slice (some ⟨g, 0, none⟩) N cap, .int .i64 P.length, .int .i64 (P.length + 1 : Nat), .int .i64 (P.length + 1 + T.length : Nat), .func (.func 22) #[] #[]] w fun e w' => e = .returned (.tuple #[]) ∧ (∃ S', St (c0 :: T) S' ∧ Up S' ∧ Rx w' B g cap (P ++ S' ++ Q)) ∧ w.grownBy w' (some g) := by
  obtain ⟨a, ha⟩ : ∃ a, a = P.length := ⟨_, rfl⟩
  obtain ⟨b, hb⟩ : ∃ b, b = P.length + 1 + T.length := ⟨_, rfl⟩
  rw [← hb, ← ha]
  have hNl := hN
  simp only [List.length_append, List.length_cons] at hNl
  have hbz : (b : Int) ≤ 1000000 := by omega
  have haz : (a : Int) + 1 < (b : Int) := by omega
  have HA : Hid (P.length = a) := ha.symm
  have HB : Hid (P.length + 1 + T.length = b ∧ b ≤ N) := ⟨hb.symm, by omega⟩
  have hNz : (N : Int) ≤ 1000000 := by omega
  have e1 : ((a + 1 : Nat) : Int) = (a : Int) + 1 := by omega
  rw [e1]
  have e2 : (a : Int) + 1 - (a : Int) = 1 := by omega
  clear ha hb hNl
  go_enter Tryz.func68, Tryz.ntmps68
  go_wp2_with fail
  go_loopw [10, 11] (fun s10 s11 wr => ∃ U W V : List Cx, T = U ++ W ++ V ∧ s10 = .int .i64 (a + 1 + U.length : Nat) ∧ s11 = .int .i64 (a + 1 + U.length + W.length : Nat) ∧ (∀ u ∈ U, kx u c0 < 0) ∧ (∀ v ∈ V, kx c0 v ≤ 0) ∧ Rx wr B g cap (P ++ (c0 :: T) ++ Q) ∧ w.grownBy wr (some g)) (fun s10 s11 _ => (intOf s11).toNat - (intOf s10).toNat)
  case atStart => exact ⟨[], T, [], by simp, by go_num, by have := HA.out; have := HB.out.1; simp; omega, (fun u hu => by cases hu), (fun v hv => by cases hv), hR0, ⟨rfl, rfl, rfl, Nat.le_refl _, fun _ _ _ => rfl⟩⟩
  case round =>
    obtain ⟨U, W, V, hT3, rfl, rfl, hu, hv, hR, hG⟩ := hrel
    obtain ⟨i, hi⟩ : ∃ i, i = a + 1 + U.length := ⟨_, rfl⟩
    obtain ⟨j, hj⟩ : ∃ j, j = a + 1 + U.length + W.length := ⟨_, rfl⟩
    rw [← hj, ← hi]
    by_cases hij : i < j
    · have hijz : (i : Int) < (j : Int) := by omega
      have hjz : (j : Int) ≤ 1000000 := by
        have h1 := HB.out
        have h2 := HA.out
        have h3 := congrArg List.length hT3
        simp only [List.length_append] at h3
        omega
      obtain ⟨h, hh⟩ : ∃ h, h = (i + j) / 2 := ⟨_, rfl⟩
      have hhi : i ≤ h := by omega
      have hhj : h < j := by omega
      have eh : ((i : Int) + (j : Int)) / 2 = (h : Int) := by omega
      obtain ⟨W1, c, W2, hW, hW1⟩ : ∃ W1 c W2, W = W1 ++ c :: W2 ∧ W1.length = h - i := by
        have hlt : h - i < W.length := by omega
        exact ⟨W.take (h - i), W[h - i], W.drop (h - i + 1), by rw [← List.drop_eq_getElem_cons hlt, List.take_append_drop], by rw [List.length_take]; omega⟩
      subst hW
      have hUT : Up (U ++ (W1 ++ c :: W2) ++ V) := hT3 ▸ hU
      have hW1c : ∀ u ∈ W1, kx u c ≤ 0 := fun u hu' => (hUT.left.right.over) u hu' c (by simp)
      have hcW2 : ∀ v ∈ W2, kx c v ≤ 0 := fun v hv' => (List.pairwise_cons.1 (hUT.left.right.right)).1 v hv'
      have hR2 : Rx wr B g cap ((P ++ c0 :: (U ++ W1)) ++ c :: (W2 ++ V ++ Q)) := by rw [hT3] at hR; simpa [List.append_assoc] using hR
      have hR3 : Rx wr B g cap (P ++ c0 :: (T ++ Q)) := by simpa [List.append_assoc] using hR
      have hpos : (P ++ c0 :: (U ++ W1)).length = h := by have := HA.out; simp only [List.length_append, List.length_cons]; omega
      have tc : TenX wr g (h * 10) c := by rw [← hpos]; exact hR2.ten (at_mid _ _ _)
      have t0 : TenX wr g (a * 10) c0 := by rw [← HA.out]; exact hR3.ten (at_mid _ _ _)
      have C : Hid (∀ w : World, Calls Tryz.prog 22 #[c.val, c0.val] w fun e w' => e = .returned (.int .i64 (kx c c0)) ∧ Below w.heap.size w w') := fun w => cmpKeys_any c c0 w
      have HRx : Hid (∀ w', Below wr.heap.size wr w' → Rx w' B g cap (P ++ (c0 :: T) ++ Q) ∧ w.grownBy w' (some g)) := fun w' h => ⟨hR.below h, hG.trans (grown_below h g)⟩
      have HY : Hid (kx c c0 < 0 → ∀ u ∈ U ++ W1 ++ [c], kx u c0 < 0) := fun hk u hu' => by
        rcases List.mem_append.1 hu' with hu' | hu'
        · rcases List.mem_append.1 hu' with hu' | hu'
          · exact hu u hu'
          · exact kx_lt (hW1c u hu') hk
        · obtain rfl : u = c := by simpa using hu'
          exact hk
      have HZ : Hid (¬ kx c c0 < 0 → ∀ v ∈ c :: W2 ++ V, kx c0 v ≤ 0) := fun hk v hv' => by
        have hk2 : kx c0 c ≤ 0 := by have := kx_n c c0; omega
        rcases List.mem_append.1 hv' with hv' | hv'
        · rcases List.mem_cons.1 hv' with rfl | hv'
          · exact hk2
          · exact kx_t hk2 (hcW2 v hv')
        · exact hv v hv'
      have HL : Hid (i = a + 1 + U.length ∧ j = a + 1 + U.length + (W1 ++ c :: W2).length ∧ W1.length = h - i ∧ i ≤ h ∧ h < j) := ⟨hi, hj, hW1, hhi, hhj⟩
      have HT3 : Hid (T = U ++ (W1 ++ c :: W2) ++ V) := hT3
      have Hu : Hid (∀ u ∈ U, kx u c0 < 0) := hu
      have Hv : Hid (∀ v ∈ V, kx c0 v ≤ 0) := hv
      have hhz : (h : Int) < (N : Int) := by have := HB.out; have h3 := congrArg List.length hT3; simp only [List.length_append, List.length_cons] at h3 hj; have := HA.out; omega
      have haN : (a : Int) < (N : Int) := by omega
      generalize hkx : kx c c0 = K at *
      clear hkx hi hj hh hhi hhj hW1 hUT hW1c hcW2 hR2 hR3 hpos hR hG hT3 hu hv hij hR0 hN
      obtain ⟨⟨xa, xp, xr, xc⟩, ⟨xt, xd, xl, xk, xn, xs⟩⟩ := c
      obtain ⟨⟨ya, yp, yr, yc⟩, ⟨yt, yd, yl, yk, yn, ys⟩⟩ := c0
      simp only [Cx.val, Cx.a] at C
      have qx0 : ∀ z : Cl wr.heap.size wr, z.u.cell? ⟨g, h * 10, none⟩ = some (.string xa) := fun z => (tc.below z.h tc.lt).c0
      have qx1 : ∀ z : Cl wr.heap.size wr, z.u.cell? ⟨g, h * 10 + 1, none⟩ = some (.string xp) := fun z => (tc.below z.h tc.lt).c1
      have qx2 : ∀ z : Cl wr.heap.size wr, z.u.cell? ⟨g, h * 10 + 2, none⟩ = some (.int .i64 xr) := fun z => (tc.below z.h tc.lt).c2
      have qx3 : ∀ z : Cl wr.heap.size wr, z.u.cell? ⟨g, h * 10 + 3, none⟩ = some (.string xc) := fun z => (tc.below z.h tc.lt).c3
      have qx4 : ∀ z : Cl wr.heap.size wr, z.u.cell? ⟨g, h * 10 + 4, none⟩ = some (.int .i64 xt) := fun z => (tc.below z.h tc.lt).c4
      have qx5 : ∀ z : Cl wr.heap.size wr, z.u.cell? ⟨g, h * 10 + 5, none⟩ = some (.bool xd) := fun z => (tc.below z.h tc.lt).c5
      have qx6 : ∀ z : Cl wr.heap.size wr, z.u.cell? ⟨g, h * 10 + 6, none⟩ = some (.int .i64 xl) := fun z => (tc.below z.h tc.lt).c6
      have qx7 : ∀ z : Cl wr.heap.size wr, z.u.cell? ⟨g, h * 10 + 7, none⟩ = some (.int .i64 xk) := fun z => (tc.below z.h tc.lt).c7
      have qx8 : ∀ z : Cl wr.heap.size wr, z.u.cell? ⟨g, h * 10 + 8, none⟩ = some (.int .i64 xn) := fun z => (tc.below z.h tc.lt).c8
      have qx9 : ∀ z : Cl wr.heap.size wr, z.u.cell? ⟨g, h * 10 + 9, none⟩ = some (.string xs) := fun z => (tc.below z.h tc.lt).c9
      have qy0 : ∀ z : Cl wr.heap.size wr, z.u.cell? ⟨g, a * 10, none⟩ = some (.string ya) := fun z => (t0.below z.h t0.lt).c0
      have qy1 : ∀ z : Cl wr.heap.size wr, z.u.cell? ⟨g, a * 10 + 1, none⟩ = some (.string yp) := fun z => (t0.below z.h t0.lt).c1
      have qy2 : ∀ z : Cl wr.heap.size wr, z.u.cell? ⟨g, a * 10 + 2, none⟩ = some (.int .i64 yr) := fun z => (t0.below z.h t0.lt).c2
      have qy3 : ∀ z : Cl wr.heap.size wr, z.u.cell? ⟨g, a * 10 + 3, none⟩ = some (.string yc) := fun z => (t0.below z.h t0.lt).c3
      have qy4 : ∀ z : Cl wr.heap.size wr, z.u.cell? ⟨g, a * 10 + 4, none⟩ = some (.int .i64 yt) := fun z => (t0.below z.h t0.lt).c4
      have qy5 : ∀ z : Cl wr.heap.size wr, z.u.cell? ⟨g, a * 10 + 5, none⟩ = some (.bool yd) := fun z => (t0.below z.h t0.lt).c5
      have qy6 : ∀ z : Cl wr.heap.size wr, z.u.cell? ⟨g, a * 10 + 6, none⟩ = some (.int .i64 yl) := fun z => (t0.below z.h t0.lt).c6
      have qy7 : ∀ z : Cl wr.heap.size wr, z.u.cell? ⟨g, a * 10 + 7, none⟩ = some (.int .i64 yk) := fun z => (t0.below z.h t0.lt).c7
      have qy8 : ∀ z : Cl wr.heap.size wr, z.u.cell? ⟨g, a * 10 + 8, none⟩ = some (.int .i64 yn) := fun z => (t0.below z.h t0.lt).c8
      have qy9 : ∀ z : Cl wr.heap.size wr, z.u.cell? ⟨g, a * 10 + 9, none⟩ = some (.string ys) := fun z => (t0.below z.h t0.lt).c9
      clear tc t0
      haveI := Cl.inh wr.heap.size wr
      by_cases hK : K < 0
      · have hKd : decide (K < 0) = true := decide_eq_true hK
        have hY := HY.out hK
        have HY2 : Hid (∀ u ∈ U ++ W1 ++ [(⟨⟨xa, xp, xr, xc⟩, ⟨xt, xd, xl, xk, xn, xs⟩⟩ : Cx)], kx u ⟨⟨ya, yp, yr, yc⟩, ⟨yt, yd, yl, yk, yn, ys⟩⟩ < 0) := hY
        clear HY HZ hY hK
        go_wp2_with fail
        refine wp_region_cl wr.heap.size (by kernel_rfl) (by kernel_rfl) ?_
        quiet_step (fail)
        quiet_step (fail)
        quiet_step (fail)
        quiet_step (fail)
        quiet_step (fail)
        quiet_step (fail)
        quiet_step (fail)
        quiet_step (fail)
        quiet_step (fail)
        quiet_step ((go_at_call 22; exact Cl.calls (Nat.le_refl _) (C.out _)))
        quiet_step (fail)
        refine wpQuiet_nil ?_
        rintro w0 ⟨z, rfl⟩
        obtain ⟨hR1, hG1⟩ := HRx.out _ z.h
        go_wp2_with fail
        go_roundw
        case rel => exact ⟨U ++ W1 ++ [⟨⟨xa, xp, xr, xc⟩, ⟨xt, xd, xl, xk, xn, xs⟩⟩], W2, V, by rw [HT3.out]; simp, by have := HL.out; simp only [List.length_append, List.length_cons, List.length_nil] at *; congr 1; omega, by have := HL.out; simp only [List.length_append, List.length_cons, List.length_nil] at *; congr 1; omega, HY2.out, Hv.out, hR1, hG1⟩
        case measure => have := HL.out; (simp [intOf]; try omega)
      · have hKd : decide (K < 0) = false := decide_eq_false hK
        have hZ := HZ.out hK
        have HZ2 : Hid (∀ v ∈ (⟨⟨xa, xp, xr, xc⟩, ⟨xt, xd, xl, xk, xn, xs⟩⟩ : Cx) :: W2 ++ V, kx ⟨⟨ya, yp, yr, yc⟩, ⟨yt, yd, yl, yk, yn, ys⟩⟩ v ≤ 0) := hZ
        clear HY HZ hZ hK
        go_wp2_with fail
        refine wp_region_cl wr.heap.size (by kernel_rfl) (by kernel_rfl) ?_
        quiet_step (fail)
        quiet_step (fail)
        quiet_step (fail)
        quiet_step (fail)
        quiet_step (fail)
        quiet_step (fail)
        quiet_step (fail)
        quiet_step (fail)
        quiet_step (fail)
        quiet_step ((go_at_call 22; exact Cl.calls (Nat.le_refl _) (C.out _)))
        quiet_step (fail)
        refine wpQuiet_nil ?_
        rintro w0 ⟨z, rfl⟩
        obtain ⟨hR1, hG1⟩ := HRx.out _ z.h
        go_wp2_with fail
        go_roundw
        case rel => exact ⟨U, W1, ⟨⟨xa, xp, xr, xc⟩, ⟨xt, xd, xl, xk, xn, xs⟩⟩ :: W2 ++ V, by rw [HT3.out]; simp, by rw [HL.out.1], by have := HL.out; congr 1; omega, Hu.out, HZ2.out, hR1, hG1⟩
        case measure => have := HL.out; (simp [intOf]; try omega)
    · have hWn : W = [] := List.eq_nil_of_length_eq_zero (by omega)
      subst hWn
      have hTV : T = U ++ V := by rw [hT3]; simp
      obtain ⟨n0, hn0⟩ : ∃ n0, n0 = a + U.length := ⟨_, rfl⟩
      have ei : (i : Int) = (n0 : Int) + 1 := by omega
      have hn0z : (n0 : Int) < (N : Int) := by
        have h1 := HB.out
        have h2 := HA.out
        have h3 := congrArg List.length hTV
        simp only [List.length_append] at h3
        omega
      have hwp : IntKind.i64.wrap (n0 : Int) = (n0 : Int) := by rw [IntKind.wrap_i64]; omega
      have hijz : ¬ (i : Int) < (j : Int) := by omega
      have HM : Hid (St (c0 :: T) (U ++ c0 :: V) ∧ Up (U ++ c0 :: V)) := by
        have := moved_right (a := c0) (U := U) (V := V) (hTV ▸ hU) hu hv
        rw [hTV]; exact this
      have HN0 : Hid (n0 = a + U.length) := hn0
      have hR4 : Rx wr B g cap (P ++ ([] ++ c0 :: (U ++ V)) ++ Q) := by rw [← hTV]; exact hR
      rw [ei] at hijz ⊢
      have HTV : Hid (T = U ++ V) := hTV
      clear hT3 hi hj hij hn0 ei hu hv hR hR0 hN hTV
      go_wp2_with fail
      go_loopw [13] (fun s13 wk => ∃ U1 U2 : List Cx, U = U1 ++ U2 ∧ s13 = .int .i64 (a + U1.length : Nat) ∧ Rx wk B g cap (P ++ (U1 ++ c0 :: (U2 ++ V)) ++ Q) ∧ w.grownBy wk (some g)) (fun s13 _ => n0 - (intOf s13).toNat)
      case atStart => exact ⟨[], U, by simp, by simp, hR4, hG⟩
      case round =>
        obtain ⟨U1, U2, hU12, rfl, hRk, hGk⟩ := hrel
        obtain ⟨k, hk⟩ : ∃ k, k = a + U1.length := ⟨_, rfl⟩
        rw [← hk]
        cases U2 with
        | nil =>
          have hkn : ¬ (k : Int) < (n0 : Int) := by have h1 := HN0.out; rw [hU12] at h1; simp only [List.append_nil] at h1; omega
          rw [List.append_nil] at hU12
          have HF : Hid ((∃ S', St (c0 :: T) S' ∧ Up S' ∧ Rx wr B g cap (P ++ S' ++ Q)) ∧ w.grownBy wr (some g)) := ⟨⟨U ++ c0 :: V, HM.out.1, HM.out.2, by rw [hU12]; exact hRk⟩, hGk⟩
          clear hRk hGk hk hU12
          go_wp2_with fail
          refine bodyPost_ret (results_none rfl _ _ _) rfl ?_
          exact ⟨rfl, by simpa [List.append_assoc] using HF.out⟩
        | cons u U2 =>
          have hkn : (k : Int) < (n0 : Int) := by have h1 := HN0.out; rw [hU12] at h1; simp only [List.length_append, List.length_cons] at h1; omega
          have hRk' : Rx wr B g cap ((P ++ U1) ++ c0 :: u :: (U2 ++ V ++ Q)) := by simpa [List.append_assoc] using hRk
          have hpos : (P ++ U1).length = k := by rw [List.length_append, HA.out]; exact hk.symm
          have t0 : TenX wr g (k * 10) c0 := by rw [← hpos]; exact hRk'.ten (at_mid _ _ _)
          have tu : TenX wr g ((k + 1) * 10) u := by rw [← hpos]; exact hRk'.ten (at_mid2 _ _ _ _)
          have h0 : wr.ownsRow B 34 10 (.slice (some ⟨g, 0, none⟩) ((P ++ U1) ++ c0 :: u :: (U2 ++ V ++ Q)).length cap) ((P ++ U1) ++ c0 :: u :: (U2 ++ V ++ Q)).length (((P ++ U1) ++ c0 :: u :: (U2 ++ V ++ Q)).flatMap xs10) := hRk'
          have fz : ∀ j, wr.frozen? ⟨g, j, none⟩ = false := fun j => h0.frozenAt j
          have P1 : Hid (Rx (set10 (set10 wr g (k * 10) u) g ((k + 1) * 10) c0) B g cap (P ++ ((U1 ++ [u]) ++ c0 :: (U2 ++ V)) ++ Q) ∧ w.grownBy (set10 (set10 wr g (k * 10) u) g ((k + 1) * 10) c0) (some g)) := by
            have p1 := hRk'.put (i := k) (a := c0) (by rw [← hpos]; exact at_mid _ _ _) u
            have p2 := p1.1.put (i := k + 1) (a := u) (by rw [List.getElem?_set_ne (by omega), ← hpos]; exact at_mid2 _ _ _ _) c0
            refine ⟨?_, (hGk.trans p1.2).trans p2.2⟩
            have e := set_mid2 (P ++ U1) c0 u (U2 ++ V ++ Q)
            rw [hpos] at e
            have e3 : P ++ ((U1 ++ [u]) ++ c0 :: (U2 ++ V)) ++ Q = P ++ U1 ++ u :: c0 :: (U2 ++ V ++ Q) := by simp
            rw [e3, ← e]; exact p2.1
          have HUU : Hid (U = (U1 ++ [u]) ++ U2) := by rw [hU12]; show _ = _; simp
          have HK : Hid (k = a + U1.length) := hk
          have hkz : (k : Int) + 1 < (N : Int) := by omega
          have hkz2 : (k : Int) < (N : Int) := by omega
          have p0 : (0 : Int) ≤ (k : Int) + 1 := by omega
          have e0 : ((k : Int) + 1).toNat = k + 1 := by omega
          clear hRk hRk' hGk hk hU12 h0 hpos
          obtain ⟨⟨xa, xp, xr, xc⟩, ⟨xt, xd, xl, xk, xn, xs⟩⟩ := u
          obtain ⟨⟨ya, yp, yr, yc⟩, ⟨yt, yd, yl, yk, yn, ys⟩⟩ := c0
          obtain ⟨y0, y1, y2, y3, y4, y5, y6, y7, y8, y9⟩ := t0
          obtain ⟨z0, z1, z2, z3, z4, z5, z6, z7, z8, z9⟩ := tu
          simp only at y0 y1 y2 y3 y4 y5 y6 y7 y8 y9 z0 z1 z2 z3 z4 z5 z6 z7 z8 z9
          have fa0 := fz (k * 10)
          have fa1 := fz (k * 10 + 1)
          have fa2 := fz (k * 10 + 2)
          have fa3 := fz (k * 10 + 3)
          have fa4 := fz (k * 10 + 4)
          have fa5 := fz (k * 10 + 5)
          have fa6 := fz (k * 10 + 6)
          have fa7 := fz (k * 10 + 7)
          have fa8 := fz (k * 10 + 8)
          have fa9 := fz (k * 10 + 9)
          have fb0 := fz ((k + 1) * 10)
          have fb1 := fz ((k + 1) * 10 + 1)
          have fb2 := fz ((k + 1) * 10 + 2)
          have fb3 := fz ((k + 1) * 10 + 3)
          have fb4 := fz ((k + 1) * 10 + 4)
          have fb5 := fz ((k + 1) * 10 + 5)
          have fb6 := fz ((k + 1) * 10 + 6)
          have fb7 := fz ((k + 1) * 10 + 7)
          have fb8 := fz ((k + 1) * 10 + 8)
          have fb9 := fz ((k + 1) * 10 + 9)
          clear fz
          go_wp2_with fail
          go_region
          go_wp2_with fail
          go_roundw
          case rel => exact ⟨U1 ++ [(⟨⟨xa, xp, xr, xc⟩, ⟨xt, xd, xl, xk, xn, xs⟩⟩ : Cx)], U2, HUU.out, by rw [HK.out]; simp; omega, Rx.drew P1.out.1, grown_drew P1.out.2⟩
          case measure => (simp [intOf]; try omega)
end Go.Proofs.YtmkaehnfgdlhdaaGreatDoor
namespace Go.Proofs.YtmkaehnfgdlhdaaGreatDoor
open Go.RowKit

theorem kx_lt2 {x y z : Cx} (h : kx x y < 0) (g : kx y z ≤ 0) : kx x z < 0 := by
  have h1 := kx_t (show kx x y ≤ 0 by omega) g
  by_cases e : kx x z = 0
  · have e2 := (kx_z x z).1 e
    have e3 : kx y z = kx y x := by unfold kx; rw [e2]
    have e4 := kx_n x y
    omega
  · omega
attribute [local irreducible] wpQuiet
set_option maxRecDepth 100000 in
set_option maxHeartbeats 4000000 in
theorem symLast_any (B g cap N : Nat) (P : List Cx) (c0 : Cx) (T Q : List Cx) (w : World) (hR0 : Rx w B g cap (P ++ (T ++ [c0]) ++ Q)) (hN : (P ++ (T ++ [c0]) ++ Q).length = N) (hL : N ≤ 1000000) (hT : 2 ≤ T.length) (hU : Up T) :
    Calls Tryz.prog 68 #[.slice (some ⟨g, 0, none⟩) N cap, .int .i64 P.length, .int .i64 (P.length + T.length : Nat), .int .i64 (P.length + T.length + 1 : Nat), .func (.func 22) #[] #[]] w fun e w' => e = .returned (.tuple #[]) ∧ (∃ S', St (T ++ [c0]) S' ∧ Up S' ∧ Rx w' B g cap (P ++ S' ++ Q)) ∧ w.grownBy w' (some g) := by
  obtain ⟨a, ha⟩ : ∃ a, a = P.length := ⟨_, rfl⟩
  obtain ⟨m, hm⟩ : ∃ m, m = P.length + T.length := ⟨_, rfl⟩
  rw [← hm, ← ha]
  have hNl := hN
  simp only [List.length_append, List.length_cons, List.length_nil] at hNl
  have hmz : (m : Int) + 1 ≤ 1000000 := by omega
  have hmN : (m : Int) < (N : Int) := by omega
  have haz : (a : Int) < (m : Int) := by omega
  have HA : Hid (P.length = a) := ha.symm
  have HB : Hid (a + T.length = m ∧ m + 1 ≤ N) := ⟨by omega, by omega⟩
  have hNz : (N : Int) ≤ 1000000 := by omega
  have e1 : ((m + 1 : Nat) : Int) = (m : Int) + 1 := by omega
  rw [e1]
  have e2 : ((m : Int) - (a : Int) == 1) = false := by rw [beq_eq_false_iff_ne]; omega
  have e2' : ¬ (m : Int) - (a : Int) = 1 := by omega
  have e3 : (m : Int) + 1 - (m : Int) = 1 := by omega
  clear ha hm hNl
  go_enter Tryz.func68, Tryz.ntmps68
  go_wp2_with fail
  go_loopw [14, 15] (fun s14 s15 wr => ∃ U W V : List Cx, T = U ++ W ++ V ∧ s14 = .int .i64 (a + U.length : Nat) ∧ s15 = .int .i64 (a + U.length + W.length : Nat) ∧ (∀ u ∈ U, kx u c0 ≤ 0) ∧ (∀ v ∈ V, kx c0 v < 0) ∧ Rx wr B g cap (P ++ (T ++ [c0]) ++ Q) ∧ w.grownBy wr (some g)) (fun s14 s15 _ => (intOf s15).toNat - (intOf s14).toNat)
  case atStart => exact ⟨[], T, [], by simp, by simp, by have := HB.out.1; simp; omega, (fun u hu => by cases hu), (fun v hv => by cases hv), hR0, ⟨rfl, rfl, rfl, Nat.le_refl _, fun _ _ _ => rfl⟩⟩
  case round =>
    obtain ⟨U, W, V, hT3, rfl, rfl, hu, hv, hR, hG⟩ := hrel
    obtain ⟨i, hi⟩ : ∃ i, i = a + U.length := ⟨_, rfl⟩
    obtain ⟨j, hj⟩ : ∃ j, j = a + U.length + W.length := ⟨_, rfl⟩
    rw [← hj, ← hi]
    by_cases hij : i < j
    · have hijz : (i : Int) < (j : Int) := by omega
      have hjm : j ≤ m := by
        have h1 := HB.out
        have h3 := congrArg List.length hT3
        simp only [List.length_append] at h3
        omega
      have hjz : (j : Int) ≤ 1000000 := by omega
      obtain ⟨h, hh⟩ : ∃ h, h = (i + j) / 2 := ⟨_, rfl⟩
      have hhi : i ≤ h := by omega
      have hhj : h < j := by omega
      have eh : ((i : Int) + (j : Int)) / 2 = (h : Int) := by omega
      obtain ⟨W1, c, W2, hW, hW1⟩ : ∃ W1 c W2, W = W1 ++ c :: W2 ∧ W1.length = h - i := by
        have hlt : h - i < W.length := by omega
        exact ⟨W.take (h - i), W[h - i], W.drop (h - i + 1), by rw [← List.drop_eq_getElem_cons hlt, List.take_append_drop], by rw [List.length_take]; omega⟩
      subst hW
      have hUT : Up (U ++ (W1 ++ c :: W2) ++ V) := hT3 ▸ hU
      have hW1c : ∀ u ∈ W1, kx u c ≤ 0 := fun u hu' => (hUT.left.right.over) u hu' c (by simp)
      have hcW2 : ∀ v ∈ W2, kx c v ≤ 0 := fun v hv' => (List.pairwise_cons.1 (hUT.left.right.right)).1 v hv'
      have hR2 : Rx wr B g cap ((P ++ (U ++ W1)) ++ c :: (W2 ++ V ++ [c0] ++ Q)) := by rw [hT3] at hR; simpa [List.append_assoc] using hR
      have hR3 : Rx wr B g cap ((P ++ T) ++ c0 :: Q) := by simpa [List.append_assoc] using hR
      have hpos : (P ++ (U ++ W1)).length = h := by have := HA.out; simp only [List.length_append]; omega
      have hpos0 : (P ++ T).length = m := by rw [List.length_append, HA.out]; exact HB.out.1
      have tc : TenX wr g (h * 10) c := by rw [← hpos]; exact hR2.ten (at_mid _ _ _)
      have t0 : TenX wr g (m * 10) c0 := by rw [← hpos0]; exact hR3.ten (at_mid _ _ _)
      have C : Hid (∀ w : World, Calls Tryz.prog 22 #[c0.val, c.val] w fun e w' => e = .returned (.int .i64 (kx c0 c)) ∧ Below w.heap.size w w') := fun w => cmpKeys_any c0 c w
      have HRx : Hid (∀ w', Below wr.heap.size wr w' → Rx w' B g cap (P ++ (T ++ [c0]) ++ Q) ∧ w.grownBy w' (some g)) := fun w' h => ⟨hR.below h, hG.trans (grown_below h g)⟩
      have HY : Hid (¬ kx c0 c < 0 → ∀ u ∈ U ++ W1 ++ [c], kx u c0 ≤ 0) := fun hk u hu' => by
        have hk2 : kx c c0 ≤ 0 := by have := kx_n c c0; omega
        rcases List.mem_append.1 hu' with hu' | hu'
        · rcases List.mem_append.1 hu' with hu' | hu'
          · exact hu u hu'
          · exact kx_t (hW1c u hu') hk2
        · obtain rfl : u = c := by simpa using hu'
          exact hk2
      have HZ : Hid (kx c0 c < 0 → ∀ v ∈ c :: W2 ++ V, kx c0 v < 0) := fun hk v hv' => by
        rcases List.mem_append.1 hv' with hv' | hv'
        · rcases List.mem_cons.1 hv' with rfl | hv'
          · exact hk
          · exact kx_lt2 hk (hcW2 v hv')
        · exact hv v hv'
      have HL : Hid (i = a + U.length ∧ j = a + U.length + (W1 ++ c :: W2).length ∧ W1.length = h - i ∧ i ≤ h ∧ h < j) := ⟨hi, hj, hW1, hhi, hhj⟩
      have HT3 : Hid (T = U ++ (W1 ++ c :: W2) ++ V) := hT3
      have Hu : Hid (∀ u ∈ U, kx u c0 ≤ 0) := hu
      have Hv : Hid (∀ v ∈ V, kx c0 v < 0) := hv
      have hhz : (h : Int) < (N : Int) := by omega
      generalize hkx : kx c0 c = K at *
      clear hkx hi hj hh hhi hhj hW1 hUT hW1c hcW2 hR2 hR3 hpos hpos0 hR hG hT3 hu hv hij hR0 hN hjm
      obtain ⟨⟨xa, xp, xr, xc⟩, ⟨xt, xd, xl, xk, xn, xs⟩⟩ := c
      obtain ⟨⟨ya, yp, yr, yc⟩, ⟨yt, yd, yl, yk, yn, ys⟩⟩ := c0
      simp only [Cx.val, Cx.a] at C
      have qx0 : ∀ z : Cl wr.heap.size wr, z.u.cell? ⟨g, h * 10, none⟩ = some (.string xa) := fun z => (tc.below z.h tc.lt).c0
      have qx1 : ∀ z : Cl wr.heap.size wr, z.u.cell? ⟨g, h * 10 + 1, none⟩ = some (.string xp) := fun z => (tc.below z.h tc.lt).c1
      have qx2 : ∀ z : Cl wr.heap.size wr, z.u.cell? ⟨g, h * 10 + 2, none⟩ = some (.int .i64 xr) := fun z => (tc.below z.h tc.lt).c2
      have qx3 : ∀ z : Cl wr.heap.size wr, z.u.cell? ⟨g, h * 10 + 3, none⟩ = some (.string xc) := fun z => (tc.below z.h tc.lt).c3
      have qx4 : ∀ z : Cl wr.heap.size wr, z.u.cell? ⟨g, h * 10 + 4, none⟩ = some (.int .i64 xt) := fun z => (tc.below z.h tc.lt).c4
      have qx5 : ∀ z : Cl wr.heap.size wr, z.u.cell? ⟨g, h * 10 + 5, none⟩ = some (.bool xd) := fun z => (tc.below z.h tc.lt).c5
      have qx6 : ∀ z : Cl wr.heap.size wr, z.u.cell? ⟨g, h * 10 + 6, none⟩ = some (.int .i64 xl) := fun z => (tc.below z.h tc.lt).c6
      have qx7 : ∀ z : Cl wr.heap.size wr, z.u.cell? ⟨g, h * 10 + 7, none⟩ = some (.int .i64 xk) := fun z => (tc.below z.h tc.lt).c7
      have qx8 : ∀ z : Cl wr.heap.size wr, z.u.cell? ⟨g, h * 10 + 8, none⟩ = some (.int .i64 xn) := fun z => (tc.below z.h tc.lt).c8
      have qx9 : ∀ z : Cl wr.heap.size wr, z.u.cell? ⟨g, h * 10 + 9, none⟩ = some (.string xs) := fun z => (tc.below z.h tc.lt).c9
      have qy0 : ∀ z : Cl wr.heap.size wr, z.u.cell? ⟨g, m * 10, none⟩ = some (.string ya) := fun z => (t0.below z.h t0.lt).c0
      have qy1 : ∀ z : Cl wr.heap.size wr, z.u.cell? ⟨g, m * 10 + 1, none⟩ = some (.string yp) := fun z => (t0.below z.h t0.lt).c1
      have qy2 : ∀ z : Cl wr.heap.size wr, z.u.cell? ⟨g, m * 10 + 2, none⟩ = some (.int .i64 yr) := fun z => (t0.below z.h t0.lt).c2
      have qy3 : ∀ z : Cl wr.heap.size wr, z.u.cell? ⟨g, m * 10 + 3, none⟩ = some (.string yc) := fun z => (t0.below z.h t0.lt).c3
      have qy4 : ∀ z : Cl wr.heap.size wr, z.u.cell? ⟨g, m * 10 + 4, none⟩ = some (.int .i64 yt) := fun z => (t0.below z.h t0.lt).c4
      have qy5 : ∀ z : Cl wr.heap.size wr, z.u.cell? ⟨g, m * 10 + 5, none⟩ = some (.bool yd) := fun z => (t0.below z.h t0.lt).c5
      have qy6 : ∀ z : Cl wr.heap.size wr, z.u.cell? ⟨g, m * 10 + 6, none⟩ = some (.int .i64 yl) := fun z => (t0.below z.h t0.lt).c6
      have qy7 : ∀ z : Cl wr.heap.size wr, z.u.cell? ⟨g, m * 10 + 7, none⟩ = some (.int .i64 yk) := fun z => (t0.below z.h t0.lt).c7
      have qy8 : ∀ z : Cl wr.heap.size wr, z.u.cell? ⟨g, m * 10 + 8, none⟩ = some (.int .i64 yn) := fun z => (t0.below z.h t0.lt).c8
      have qy9 : ∀ z : Cl wr.heap.size wr, z.u.cell? ⟨g, m * 10 + 9, none⟩ = some (.string ys) := fun z => (t0.below z.h t0.lt).c9
      clear tc t0
      haveI := Cl.inh wr.heap.size wr
      by_cases hK : K < 0
      · have hKd : decide (K < 0) = true := decide_eq_true hK
        have hZ := HZ.out hK
        have HZ2 : Hid (∀ v ∈ (⟨⟨xa, xp, xr, xc⟩, ⟨xt, xd, xl, xk, xn, xs⟩⟩ : Cx) :: W2 ++ V, kx ⟨⟨ya, yp, yr, yc⟩, ⟨yt, yd, yl, yk, yn, ys⟩⟩ v < 0) := hZ
        clear HY HZ hZ hK
        go_wp2_with fail
        refine wp_region_cl wr.heap.size (by kernel_rfl) (by kernel_rfl) ?_
        quiet_step (fail)
        quiet_step (fail)
        quiet_step (fail)
        quiet_step (fail)
        quiet_step (fail)
        quiet_step (fail)
        quiet_step (fail)
        quiet_step (fail)
        quiet_step (fail)
        quiet_step ((go_at_call 22; exact Cl.calls (Nat.le_refl _) (C.out _)))
        quiet_step (fail)
        quiet_step (fail)
        refine wpQuiet_nil ?_
        rintro w0 ⟨z, rfl⟩
        obtain ⟨hR1, hG1⟩ := HRx.out _ z.h
        go_wp2_with fail
        go_roundw
        case rel => exact ⟨U, W1, (⟨⟨xa, xp, xr, xc⟩, ⟨xt, xd, xl, xk, xn, xs⟩⟩ : Cx) :: W2 ++ V, by rw [HT3.out]; simp, by rw [HL.out.1], by have := HL.out; congr 1; omega, Hu.out, HZ2.out, hR1, hG1⟩
        case measure => have := HL.out; (simp [intOf]; try omega)
      · have hKd : decide (K < 0) = false := decide_eq_false hK
        have hY := HY.out hK
        have HY2 : Hid (∀ u ∈ U ++ W1 ++ [(⟨⟨xa, xp, xr, xc⟩, ⟨xt, xd, xl, xk, xn, xs⟩⟩ : Cx)], kx u ⟨⟨ya, yp, yr, yc⟩, ⟨yt, yd, yl, yk, yn, ys⟩⟩ ≤ 0) := hY
        clear HY HZ hY hK
        go_wp2_with fail
        refine wp_region_cl wr.heap.size (by kernel_rfl) (by kernel_rfl) ?_
        quiet_step (fail)
        quiet_step (fail)
        quiet_step (fail)
        quiet_step (fail)
        quiet_step (fail)
        quiet_step (fail)
        quiet_step (fail)
        quiet_step (fail)
        quiet_step (fail)
        quiet_step ((go_at_call 22; exact Cl.calls (Nat.le_refl _) (C.out _)))
        quiet_step (fail)
        quiet_step (fail)
        refine wpQuiet_nil ?_
        rintro w0 ⟨z, rfl⟩
        obtain ⟨hR1, hG1⟩ := HRx.out _ z.h
        go_wp2_with fail
        go_roundw
        case rel => exact ⟨U ++ W1 ++ [(⟨⟨xa, xp, xr, xc⟩, ⟨xt, xd, xl, xk, xn, xs⟩⟩ : Cx)], W2, V, by rw [HT3.out]; simp, by have := HL.out; simp only [List.length_append, List.length_cons, List.length_nil] at *; congr 1; omega, by have := HL.out; simp only [List.length_append, List.length_cons, List.length_nil] at *; congr 1; omega, HY2.out, Hv.out, hR1, hG1⟩
        case measure => have := HL.out; (simp [intOf]; try omega)
    · have hWn : W = [] := List.eq_nil_of_length_eq_zero (by omega)
      subst hWn
      have hTV : T = U ++ V := by rw [hT3]; simp
      have hijz : ¬ (i : Int) < (j : Int) := by omega
      have hmi : m = i + V.length := by
        have h1 := HB.out.1
        have h3 := congrArg List.length hTV
        simp only [List.length_append] at h3
        omega
      have HM : Hid (St (T ++ [c0]) (U ++ c0 :: V) ∧ Up (U ++ c0 :: V)) := by
        have := moved_left (b := c0) (U := U) (V := V) (hTV ▸ hU) hu hv
        rw [hTV]; exact this
      have HI : Hid (i = a + U.length) := hi
      have hR4 : Rx wr B g cap (P ++ (U ++ (V ++ c0 :: [])) ++ Q) := by rw [hTV] at hR; simpa [List.append_assoc] using hR
      have hiz : (i : Int) ≤ 1000000 := by omega
      have HMI : Hid (m = i + V.length) := hmi
      clear hT3 hi hj hij hu hv hR hR0 hN hTV hmi
      go_wp2_with fail
      go_loopw [17] (fun s17 wk => ∃ V1 V2 : List Cx, V = V1 ++ V2 ∧ s17 = .int .i64 (i + V1.length : Nat) ∧ Rx wk B g cap (P ++ (U ++ (V1 ++ c0 :: V2)) ++ Q) ∧ w.grownBy wk (some g)) (fun s17 _ => (intOf s17).toNat)
      case atStart => exact ⟨V, [], by simp, by rw [HMI.out], hR4, hG⟩
      case round =>
        obtain ⟨V1, V2, hV12, rfl, hRk, hGk⟩ := hrel
        rcases List.eq_nil_or_concat V1 with rfl | ⟨V3, v, hV3⟩
        · rw [List.nil_append] at hV12
          have HF : Hid ((∃ S', St (T ++ [c0]) S' ∧ Up S' ∧ Rx wr B g cap (P ++ S' ++ Q)) ∧ w.grownBy wr (some g)) := ⟨⟨U ++ c0 :: V, HM.out.1, HM.out.2, by rw [hV12]; exact hRk⟩, hGk⟩
          have hii : ¬ (i : Int) < (i : Int) := by omega
          clear hRk hGk hV12
          rw [List.length_nil, Nat.add_zero]
          go_wp2_with fail
          refine bodyPost_ret (results_none rfl _ _ _) rfl ?_
          exact ⟨rfl, by simpa [List.append_assoc] using HF.out⟩
        · rw [List.concat_eq_append] at hV3
          subst hV3
          obtain ⟨q, hq⟩ : ∃ q, q = i + V3.length := ⟨_, rfl⟩
          have hqm : q + 1 ≤ m := by have h1 := HMI.out; rw [hV12] at h1; simp only [List.length_append, List.length_cons, List.length_nil] at h1; omega
          have e9 : ((i + (V3 ++ [v]).length : Nat) : Int) = (q : Int) + 1 := by rw [hq]; simp; omega
          have hRk' : Rx wr B g cap ((P ++ (U ++ V3)) ++ v :: c0 :: (V2 ++ Q)) := by simpa [List.append_assoc] using hRk
          have hpos : q = (P ++ (U ++ V3)).length := by have := HA.out; have := HI.out; simp only [List.length_append]; omega
          have tv : TenX wr g (q * 10) v := by rw [hpos]; exact hRk'.ten (at_mid _ _ _)
          have t0 : TenX wr g ((q + 1) * 10) c0 := by rw [hpos]; exact hRk'.ten (at_mid2 _ _ _ _)
          have h0 : wr.ownsRow B 34 10 (.slice (some ⟨g, 0, none⟩) ((P ++ (U ++ V3)) ++ v :: c0 :: (V2 ++ Q)).length cap) ((P ++ (U ++ V3)) ++ v :: c0 :: (V2 ++ Q)).length (((P ++ (U ++ V3)) ++ v :: c0 :: (V2 ++ Q)).flatMap xs10) := hRk'
          have fz : ∀ j, wr.frozen? ⟨g, j, none⟩ = false := fun j => h0.frozenAt j
          have P1 : Hid (Rx (set10 (set10 wr g ((q + 1) * 10) v) g (q * 10) c0) B g cap (P ++ (U ++ (V3 ++ c0 :: (v :: V2))) ++ Q) ∧ w.grownBy (set10 (set10 wr g ((q + 1) * 10) v) g (q * 10) c0) (some g)) := by
            have p1 := hRk'.put (i := q + 1) (a := c0) (by rw [hpos]; exact at_mid2 _ _ _ _) v
            have p2 := p1.1.put (i := q) (a := v) (by rw [List.getElem?_set_ne (by omega), hpos]; exact at_mid _ _ _) c0
            refine ⟨?_, (hGk.trans p1.2).trans p2.2⟩
            have e := set_two_mid (P ++ (U ++ V3)) v c0 (V2 ++ Q)
            rw [← hpos] at e
            have e3 : P ++ (U ++ (V3 ++ c0 :: (v :: V2))) ++ Q = P ++ (U ++ V3) ++ c0 :: v :: (V2 ++ Q) := by simp
            rw [e3, ← e]; exact p2.1
          have HVV : Hid (V = V3 ++ (v :: V2)) := by rw [hV12]; show _ = _; simp
          have HQ : Hid (q = i + V3.length) := hq
          have hqz : (q : Int) + 1 < (N : Int) := by omega
          have hqz2 : (q : Int) < (N : Int) := by omega
          have hiq : (i : Int) < (q : Int) + 1 := by omega
          have hwp : IntKind.i64.wrap (q : Int) = (q : Int) := by rw [IntKind.wrap_i64]; omega
          have p0 : (0 : Int) ≤ (q : Int) + 1 := by omega
          have e0 : ((q : Int) + 1).toNat = q + 1 := by omega
          rw [e9]
          clear hRk hRk' hGk hq hV12 h0 hpos e9 hqm
          obtain ⟨⟨xa, xp, xr, xc⟩, ⟨xt, xd, xl, xk, xn, xs⟩⟩ := v
          obtain ⟨⟨ya, yp, yr, yc⟩, ⟨yt, yd, yl, yk, yn, ys⟩⟩ := c0
          obtain ⟨y0, y1, y2, y3, y4, y5, y6, y7, y8, y9⟩ := tv
          obtain ⟨z0, z1, z2, z3, z4, z5, z6, z7, z8, z9⟩ := t0
          simp only at y0 y1 y2 y3 y4 y5 y6 y7 y8 y9 z0 z1 z2 z3 z4 z5 z6 z7 z8 z9
          have fa0 := fz (q * 10)
          have fa1 := fz (q * 10 + 1)
          have fa2 := fz (q * 10 + 2)
          have fa3 := fz (q * 10 + 3)
          have fa4 := fz (q * 10 + 4)
          have fa5 := fz (q * 10 + 5)
          have fa6 := fz (q * 10 + 6)
          have fa7 := fz (q * 10 + 7)
          have fa8 := fz (q * 10 + 8)
          have fa9 := fz (q * 10 + 9)
          have fb0 := fz ((q + 1) * 10)
          have fb1 := fz ((q + 1) * 10 + 1)
          have fb2 := fz ((q + 1) * 10 + 2)
          have fb3 := fz ((q + 1) * 10 + 3)
          have fb4 := fz ((q + 1) * 10 + 4)
          have fb5 := fz ((q + 1) * 10 + 5)
          have fb6 := fz ((q + 1) * 10 + 6)
          have fb7 := fz ((q + 1) * 10 + 7)
          have fb8 := fz ((q + 1) * 10 + 8)
          have fb9 := fz ((q + 1) * 10 + 9)
          clear fz
          go_wp2_with fail
          go_region
          go_wp2_with fail
          go_roundw
          case rel => exact ⟨V3, (⟨⟨xa, xp, xr, xc⟩, ⟨xt, xd, xl, xk, xn, xs⟩⟩ : Cx) :: V2, HVV.out, by rw [HQ.out], Rx.drew P1.out.1, grown_drew P1.out.2⟩
          case measure => (simp [intOf]; try omega)
end Go.Proofs.YtmkaehnfgdlhdaaGreatDoor
namespace Go.Proofs.YtmkaehnfgdlhdaaGreatDoor
open Go.RowKit

/-- Sorted cells, by their places. -/
theorem up_le {A : List Cx} (h : Up A) {i j : Nat} {x y : Cx} (hij : i ≤ j) (hx : A[i]? = some x) (hy : A[j]? = some y) : kx x y ≤ 0 := by
  rcases Nat.lt_or_ge i j with g | g
  · obtain ⟨h1, e1⟩ := List.getElem?_eq_some_iff.1 hx
    obtain ⟨h2, e2⟩ := List.getElem?_eq_some_iff.1 hy
    have := List.pairwise_iff_getElem.1 h i j h1 h2 g
    rw [e1, e2] at this
    exact this
  · obtain rfl : i = j := by omega
    rw [hx] at hy
    obtain rfl := Option.some.inj hy
    rw [kx_self]; omega
theorem mid_at (P A R : List Cx) (i : Nat) (h1 : P.length ≤ i) (h2 : i < P.length + A.length) : (P ++ A ++ R)[i]? = A[i - P.length]? := by
  rw [List.append_assoc, List.getElem?_append_right h1, List.getElem?_append_left (by omega)]
/-- What the search has found: below s the first half's cells are not greater than those of the second that stand over against them; from r on they are. -/
structure Srch (L : List Cx) (p s0 r0 s r : Nat) : Prop where
  lo : ∀ c x y, s0 ≤ c → c < s → L[c]? = some x → L[p - c]? = some y → kx x y ≤ 0
  hi : ∀ c x y, r ≤ c → c < r0 → L[c]? = some x → L[p - c]? = some y → kx y x < 0
theorem Srch.start (L : List Cx) (p s0 r0 : Nat) : Srch L p s0 r0 s0 r0 := ⟨fun c x y h1 h2 => by omega, fun c x y h1 h2 => by omega⟩
/-- The places of the two halves, of the middle, and of the search's bounds. -/
structure Plc (a m b mid n p s0 r0 : Nat) : Prop where
  am : a + 1 < m
  mb : m + 1 < b
  hmid : mid = (a + b) / 2
  hn : n = mid + m
  hp : p + 1 = n
  hs0 : s0 = if mid < m then n - b else a
  hr0 : r0 = if mid < m then mid else m
theorem Plc.all {a m b mid n p s0 r0 : Nat} (h : Plc a m b mid n p s0 r0) : a ≤ s0 ∧ s0 ≤ r0 ∧ r0 ≤ m ∧ a < mid ∧ mid < b ∧ n ≤ s0 + b ∧ p < s0 + b ∧ m + r0 ≤ n ∧ (mid < m → s0 + b = n ∧ r0 = mid) ∧ (m ≤ mid → s0 = a ∧ r0 = m) := by
  have h1 := h.am; have h2 := h.mb; have h3 := h.hmid; have h4 := h.hn; have h5 := h.hp; have h6 := h.hs0; have h7 := h.hr0
  split at h6 <;> split at h7 <;> omega
theorem Srch.up {P A T Q : List Cx} {a m b mid n p s0 r0 s r c : Nat} {x y : Cx} (hp : Plc a m b mid n p s0 r0) (ha : P.length = a) (hm : a + A.length = m) (hb : m + T.length = b) (uA : Up A) (uT : Up T)
    (h : Srch (P ++ A ++ T ++ Q) p s0 r0 s r) (h1 : s0 ≤ s) (h2 : s ≤ c) (h3 : c < r) (h4 : r ≤ r0) (hx : (P ++ A ++ T ++ Q)[c]? = some x) (hy : (P ++ A ++ T ++ Q)[p - c]? = some y) (hk : ¬ kx y x < 0) : Srch (P ++ A ++ T ++ Q) p s0 r0 (c + 1) r := by
  have hP := hp.all
  have h5 := hp.hp
  refine ⟨fun c' x' y' g1 g2 gx gy => ?_, h.hi⟩
  have hk' : kx x y ≤ 0 := by have := kx_n x y; omega
  rw [show P ++ A ++ T ++ Q = P ++ A ++ (T ++ Q) by simp, mid_at P A _ c' (by omega) (by omega)] at gx
  rw [show P ++ A ++ T ++ Q = P ++ A ++ (T ++ Q) by simp, mid_at P A _ c (by omega) (by omega)] at hx
  rw [mid_at (P ++ A) T Q _ (by rw [List.length_append]; omega) (by rw [List.length_append]; omega)] at gy hy
  exact kx_t (up_le uA (by omega) gx hx) (kx_t hk' (up_le uT (by rw [List.length_append]; omega) hy gy))
theorem Srch.down {P A T Q : List Cx} {a m b mid n p s0 r0 s r c : Nat} {x y : Cx} (hp : Plc a m b mid n p s0 r0) (ha : P.length = a) (hm : a + A.length = m) (hb : m + T.length = b) (uA : Up A) (uT : Up T)
    (h : Srch (P ++ A ++ T ++ Q) p s0 r0 s r) (h1 : s0 ≤ s) (h2 : s ≤ c) (h3 : c < r) (h4 : r ≤ r0) (hx : (P ++ A ++ T ++ Q)[c]? = some x) (hy : (P ++ A ++ T ++ Q)[p - c]? = some y) (hk : kx y x < 0) : Srch (P ++ A ++ T ++ Q) p s0 r0 s c := by
  have hP := hp.all
  have h5 := hp.hp
  refine ⟨h.lo, fun c' x' y' g1 g2 gx gy => ?_⟩
  rw [show P ++ A ++ T ++ Q = P ++ A ++ (T ++ Q) by simp, mid_at P A _ c' (by omega) (by omega)] at gx
  rw [show P ++ A ++ T ++ Q = P ++ A ++ (T ++ Q) by simp, mid_at P A _ c (by omega) (by omega)] at hx
  rw [mid_at (P ++ A) T Q _ (by rw [List.length_append]; omega) (by rw [List.length_append]; omega)] at gy hy
  exact kx_lt2 (kx_lt (up_le uT (by rw [List.length_append]; omega) gy hy) hk) (up_le uA (by omega) hx gx)
/-- Where the search ends: the four ranges. -/
theorem Srch.parts {P A T Q : List Cx} {a m b mid n p s0 r0 s : Nat} (hp : Plc a m b mid n p s0 r0) (ha : P.length = a) (hm : a + A.length = m) (hb : m + T.length = b) (uA : Up A) (uT : Up T)
    (h : Srch (P ++ A ++ T ++ Q) p s0 r0 s s) (h1 : s0 ≤ s) (h4 : s ≤ r0) :
    ∃ A0 X Y B1, A = A0 ++ X ∧ T = Y ++ B1 ∧ a + A0.length = s ∧ m + Y.length + s = n ∧ s + X.length = m ∧ n - s + B1.length = b ∧ (∀ x ∈ X, ∀ y ∈ Y, kx y x < 0) ∧ (∀ u ∈ A0, ∀ v ∈ B1, kx u v ≤ 0) := by
  have hP := hp.all
  have h5 := hp.hp
  have h6 := hp.hn
  obtain ⟨A0, X, rfl, hA0⟩ : ∃ A0 X, A = A0 ++ X ∧ A0.length = s - a := ⟨A.take (s - a), A.drop (s - a), (List.take_append_drop _ _).symm, by rw [List.length_take]; omega⟩
  obtain ⟨Y, B1, rfl, hY⟩ : ∃ Y B1, T = Y ++ B1 ∧ Y.length = n - s - m := ⟨T.take (n - s - m), T.drop (n - s - m), (List.take_append_drop _ _).symm, by rw [List.length_take]; omega⟩
  rw [List.length_append] at hm hb
  refine ⟨A0, X, Y, B1, rfl, rfl, by omega, by omega, by omega, by omega, fun x hx y hy => ?_, fun u hu v hv => ?_⟩
  · cases X with
    | nil => cases hx
    | cons x0 X' =>
      rcases List.eq_nil_or_concat Y with rfl | ⟨Y', yl, rfl⟩
      · cases hy
      · rw [List.concat_eq_append] at *
        simp only [List.length_append, List.length_cons, List.length_nil] at hm hY hb
        have e1 : (P ++ (A0 ++ x0 :: X') ++ (Y' ++ [yl] ++ B1) ++ Q)[s]? = some x0 := by
          have := at_mid (P ++ A0) x0 (X' ++ (Y' ++ [yl] ++ B1) ++ Q)
          rw [List.length_append, ha, hA0, show a + (s - a) = s by omega] at this
          rw [← this]; simp
        have e2 : (P ++ (A0 ++ x0 :: X') ++ (Y' ++ [yl] ++ B1) ++ Q)[p - s]? = some yl := by
          have := at_mid (P ++ (A0 ++ x0 :: X') ++ Y') yl (B1 ++ Q)
          simp only [List.length_append, List.length_cons] at this
          rw [show P.length + (A0.length + (X'.length + 1)) + Y'.length = p - s by omega] at this
          rw [← this]; simp
        have k0 := h.hi s x0 yl (Nat.le_refl _) (by omega) e1 e2
        have k1 : kx y yl ≤ 0 := by
          rcases List.mem_append.1 hy with g | g
          · exact uT.left.over y g yl (by simp)
          · obtain rfl : y = yl := by simpa using g
            rw [kx_self]; omega
        have k2 : kx x0 x ≤ 0 := by
          rcases List.mem_cons.1 hx with rfl | g
          · rw [kx_self]; omega
          · exact (List.pairwise_cons.1 uA.right).1 x g
        exact kx_lt2 (kx_lt k1 k0) k2
  · cases B1 with
    | nil => cases hv
    | cons b0 B' =>
      rcases List.eq_nil_or_concat A0 with rfl | ⟨A', al, rfl⟩
      · cases hu
      · rw [List.concat_eq_append] at *
        simp only [List.length_append, List.length_cons, List.length_nil] at hm hA0 hb
        have e1 : (P ++ (A' ++ [al] ++ X) ++ (Y ++ b0 :: B') ++ Q)[s - 1]? = some al := by
          have := at_mid (P ++ A') al (X ++ (Y ++ b0 :: B') ++ Q)
          rw [List.length_append, show P.length + A'.length = s - 1 by omega] at this
          rw [← this]; simp
        have e2 : (P ++ (A' ++ [al] ++ X) ++ (Y ++ b0 :: B') ++ Q)[p - (s - 1)]? = some b0 := by
          have := at_mid (P ++ (A' ++ [al] ++ X) ++ Y) b0 (B' ++ Q)
          simp only [List.length_append, List.length_cons, List.length_nil] at this
          rw [show P.length + (A'.length + (0 + 1) + X.length) + Y.length = p - (s - 1) by omega] at this
          rw [← this]; simp
        have k0 := h.lo (s - 1) al b0 (by omega) (by omega) e1 e2
        have k1 : kx u al ≤ 0 := by
          rcases List.mem_append.1 hu with g | g
          · exact uA.left.over u g al (by simp)
          · obtain rfl : u = al := by simpa using g
            rw [kx_self]; omega
        have k2 : kx b0 v ≤ 0 := by
          rcases List.mem_cons.1 hv with rfl | g
          · rw [kx_self]; omega
          · exact (List.pairwise_cons.1 uT.right).1 v g
        exact kx_t (kx_t k1 k0) k2
end Go.Proofs.YtmkaehnfgdlhdaaGreatDoor
namespace Go.Proofs.YtmkaehnfgdlhdaaGreatDoor
open Go.RowKit

attribute [local irreducible] wpQuiet
set_option maxRecDepth 100000 in
set_option maxHeartbeats 8000000 in
theorem symStep_any (B g cap N K a m b : Nat) (P A T Q : List Cx) (w : World) (IH : Hid (∀ (a m b : Nat) (P A T Q : List Cx) (w : World), A.length + T.length < K → 1 ≤ A.length → 1 ≤ T.length → Up A → Up T → P.length = a → a + A.length = m → m + T.length = b → (P ++ (A ++ T) ++ Q).length = N → Rx w B g cap (P ++ (A ++ T) ++ Q) → Calls Tryz.prog 68 #[.slice (some ⟨g, 0, none⟩) N cap, .int .i64 (a : Nat), .int .i64 (m : Nat), .int .i64 (b : Nat), .func (.func 22) #[] #[]] w fun e w' => e = .returned (.tuple #[]) ∧ (∃ S', St (A ++ T) S' ∧ Up S' ∧ Rx w' B g cap (P ++ S' ++ Q)) ∧ w.grownBy w' (some g)))
    (hK : A.length + T.length ≤ K) (hA2 : 2 ≤ A.length) (hT2 : 2 ≤ T.length) (uA : Up A) (uT : Up T) (ha : P.length = a) (hm : a + A.length = m) (hb : m + T.length = b) (hN : (P ++ (A ++ T) ++ Q).length = N) (hL : N ≤ 1000000) (hR0 : Rx w B g cap (P ++ (A ++ T) ++ Q)) :
    Calls Tryz.prog 68 #[.slice (some ⟨g, 0, none⟩) N cap, .int .i64 (a : Nat), .int .i64 (m : Nat), .int .i64 (b : Nat), .func (.func 22) #[] #[]] w fun e w' => e = .returned (.tuple #[]) ∧ (∃ S', St (A ++ T) S' ∧ Up S' ∧ Rx w' B g cap (P ++ S' ++ Q)) ∧ w.grownBy w' (some g) := by
  obtain ⟨mid, hmid⟩ : ∃ mid, mid = (a + b) / 2 := ⟨_, rfl⟩
  obtain ⟨n, hn⟩ : ∃ n, n = mid + m := ⟨_, rfl⟩
  obtain ⟨p, hp⟩ : ∃ p, p + 1 = n := ⟨n - 1, by omega⟩
  obtain ⟨s0, hs0⟩ : ∃ s0, s0 = if mid < m then n - b else a := ⟨_, rfl⟩
  obtain ⟨r0, hr0⟩ : ∃ r0, r0 = if mid < m then mid else m := ⟨_, rfl⟩
  have hp : Plc a m b mid n p s0 r0 := ⟨by omega, by omega, hmid, hn, hp, hs0, hr0⟩
  have hpa := hp.all
  have hbN : b ≤ N := by simp only [List.length_append] at hN; omega
  have hNz : (N : Int) ≤ 1000000 := by omega
  have eL : P ++ (A ++ T) ++ Q = P ++ A ++ T ++ Q := by simp
  have emid : ((a : Int) + (b : Int)) / 2 = (mid : Int) := by omega
  have en : (mid : Int) + (m : Int) = (n : Int) := by omega
  have ep : (n : Int) - 1 = (p : Int) := by have := hp.hp; omega
  have e1 : ¬ (m : Int) - (a : Int) = 1 := by omega
  have e2 : ¬ (b : Int) - (m : Int) = 1 := by omega
  have e1' : ((m : Int) - (a : Int) == 1) = false := by rw [beq_eq_false_iff_ne]; omega
  have e2' : ((b : Int) - (m : Int) == 1) = false := by rw [beq_eq_false_iff_ne]; omega
  have haz : (a : Int) ≤ 1000000 := by omega
  have hmz : (m : Int) ≤ 1000000 := by omega
  have hbz : (b : Int) ≤ 1000000 := by omega
  have hmd : (mid : Int) ≤ 1000000 := by omega
  have HP : Hid (Plc a m b mid n p s0 r0) := hp
  have HPA : Hid (a ≤ s0 ∧ s0 ≤ r0 ∧ r0 ≤ m ∧ a < mid ∧ mid < b ∧ n ≤ s0 + b ∧ p < s0 + b ∧ m + r0 ≤ n ∧ (mid < m → s0 + b = n ∧ r0 = mid) ∧ (m ≤ mid → s0 = a ∧ r0 = m)) := hpa
  have HZ : Hid (P.length = a ∧ a + A.length = m ∧ m + T.length = b ∧ A.length + T.length ≤ K ∧ (P ++ (A ++ T) ++ Q).length = N ∧ b ≤ N ∧ N ≤ 1000000) := ⟨ha, hm, hb, hK, hN, hbN, hL⟩
  have HUA : Hid (Up A) := uA
  have HUT : Hid (Up T) := uT
  have HS0 : Hid (Srch (P ++ A ++ T ++ Q) p s0 r0 s0 r0) := Srch.start _ _ _ _
  rw [eL] at hR0
  have HG0 : Hid (w.grownBy w (some g)) := ⟨rfl, rfl, rfl, Nat.le_refl _, fun _ _ _ => rfl⟩
  have HR0 : Hid (Rx w B g cap (P ++ A ++ T ++ Q)) := hR0
  clear hp hmid hn hs0 hr0 ha hm hb hN hL hR0 uA uT hA2 hT2 hK eL
  have cases2 : (mid < m ∧ (mid : Int) < (m : Int) ∧ (n : Int) - (b : Int) = (s0 : Int) ∧ r0 = mid) ∨ (¬ mid < m ∧ ¬ (mid : Int) < (m : Int) ∧ s0 = a ∧ r0 = m) := by
    rcases Nat.lt_or_ge mid m with h | h
    · exact .inl ⟨h, by omega, by omega, by omega⟩
    · exact .inr ⟨by omega, by omega, by omega, by omega⟩
  clear hpa
  rcases cases2 with ⟨h1, h2, h3, h4⟩ | ⟨h1, h2, h3, h4⟩
  · have h4 := h4.symm
    subst h4
    clear h1
    go_enter Tryz.func68, Tryz.ntmps68
    go_wp2_with fail
    go_loopw [20, 21] (fun s20 s21 wr => ∃ s r : Nat, s20 = .int .i64 s ∧ s21 = .int .i64 r ∧ s0 ≤ s ∧ s ≤ r ∧ r ≤ mid ∧ Srch (P ++ A ++ T ++ Q) p s0 mid s r ∧ Rx wr B g cap (P ++ A ++ T ++ Q) ∧ w.grownBy wr (some g)) (fun s20 s21 _ => (intOf s21).toNat - (intOf s20).toNat)
    case atStart => exact ⟨_, _, rfl, rfl, Nat.le_refl _, HPA.out.2.1, Nat.le_refl _, HS0.out, HR0.out, HG0.out⟩
    case round =>
      obtain ⟨s, r, rfl, rfl, hs1, hsr, hr1, hS, hR, hG⟩ := hrel
      clear HS0 HR0 HG0
      by_cases hlt : s < r
      · have hltz : (s : Int) < (r : Int) := by omega
        have h8 := HPA.out
        have h9 := HP.out.hp
        have h10 := HZ.out
        obtain ⟨c, hc⟩ : ∃ c, c = (s + r) / 2 := ⟨_, rfl⟩
        have ec : ((s : Int) + (r : Int)) / 2 = (c : Int) := by omega
        obtain ⟨pc, hpc⟩ : ∃ pc, pc = p - c := ⟨_, rfl⟩
        have epc : (p : Int) - (c : Int) = (pc : Int) := by omega
        have hc1 : s ≤ c := by omega
        have hc2 : c < r := by omega
        have hlen : (P ++ A ++ T ++ Q).length = N := by have := h10.2.2.2.2.1; simpa using this
        obtain ⟨x, hx⟩ : ∃ x, (P ++ A ++ T ++ Q)[c]? = some x := ⟨_, List.getElem?_eq_getElem (by rw [hlen]; omega)⟩
        obtain ⟨y, hy⟩ : ∃ y, (P ++ A ++ T ++ Q)[pc]? = some y := ⟨_, List.getElem?_eq_getElem (by rw [hlen]; omega)⟩
        have tx : TenX wr g (c * 10) x := hR.ten hx
        have ty : TenX wr g (pc * 10) y := hR.ten hy
        have C : Hid (∀ w : World, Calls Tryz.prog 22 #[y.val, x.val] w fun e w' => e = .returned (.int .i64 (kx y x)) ∧ Below w.heap.size w w') := fun w => cmpKeys_any y x w
        have HRx : Hid (∀ w', Below wr.heap.size wr w' → Rx w' B g cap (P ++ A ++ T ++ Q) ∧ w.grownBy w' (some g)) := fun w' h => ⟨hR.below h, hG.trans (grown_below h g)⟩
        have HY : Hid (¬ kx y x < 0 → Srch (P ++ A ++ T ++ Q) p s0 mid (c + 1) r) := fun hk => hS.up HP.out h10.1 h10.2.1 h10.2.2.1 HUA.out HUT.out hs1 hc1 hc2 hr1 hx (hpc ▸ hy) hk
        have HN : Hid (kx y x < 0 → Srch (P ++ A ++ T ++ Q) p s0 mid s c) := fun hk => hS.down HP.out h10.1 h10.2.1 h10.2.2.1 HUA.out HUT.out hs1 hc1 hc2 hr1 hx (hpc ▸ hy) hk
        have hcN : (c : Int) < (N : Int) := by omega
        have hwp : IntKind.i64.wrap (pc : Int) = (pc : Int) := by rw [IntKind.wrap_i64]; omega
        have hpN : (pc : Int) < (N : Int) := by omega
        have hpz : (p : Int) ≤ 3000000 := by omega
        have hsz : (s : Int) ≤ 1000000 := by omega
        have hrz : (r : Int) ≤ 1000000 := by omega
        have HL : Hid (s0 ≤ s ∧ s ≤ c ∧ c < r ∧ r ≤ mid) := ⟨hs1, hc1, hc2, hr1⟩
        generalize hkx : kx y x = K2 at *
        clear hkx hx hy hR hG hS hs1 hsr hr1 hlt hc hpc hc1 hc2 hlen h8 h9 h10
        obtain ⟨⟨xa, xp, xr, xc⟩, ⟨xt, xd, xl, xk, xn, xs⟩⟩ := x
        obtain ⟨⟨ya, yp, yr, yc⟩, ⟨yt, yd, yl, yk, yn, ys⟩⟩ := y
        simp only [Cx.val, Cx.a] at C
        have qx0 : ∀ z : Cl wr.heap.size wr, z.u.cell? ⟨g, c * 10, none⟩ = some (.string xa) := fun z => (tx.below z.h tx.lt).c0
        have qx1 : ∀ z : Cl wr.heap.size wr, z.u.cell? ⟨g, c * 10 + 1, none⟩ = some (.string xp) := fun z => (tx.below z.h tx.lt).c1
        have qx2 : ∀ z : Cl wr.heap.size wr, z.u.cell? ⟨g, c * 10 + 2, none⟩ = some (.int .i64 xr) := fun z => (tx.below z.h tx.lt).c2
        have qx3 : ∀ z : Cl wr.heap.size wr, z.u.cell? ⟨g, c * 10 + 3, none⟩ = some (.string xc) := fun z => (tx.below z.h tx.lt).c3
        have qx4 : ∀ z : Cl wr.heap.size wr, z.u.cell? ⟨g, c * 10 + 4, none⟩ = some (.int .i64 xt) := fun z => (tx.below z.h tx.lt).c4
        have qx5 : ∀ z : Cl wr.heap.size wr, z.u.cell? ⟨g, c * 10 + 5, none⟩ = some (.bool xd) := fun z => (tx.below z.h tx.lt).c5
        have qx6 : ∀ z : Cl wr.heap.size wr, z.u.cell? ⟨g, c * 10 + 6, none⟩ = some (.int .i64 xl) := fun z => (tx.below z.h tx.lt).c6
        have qx7 : ∀ z : Cl wr.heap.size wr, z.u.cell? ⟨g, c * 10 + 7, none⟩ = some (.int .i64 xk) := fun z => (tx.below z.h tx.lt).c7
        have qx8 : ∀ z : Cl wr.heap.size wr, z.u.cell? ⟨g, c * 10 + 8, none⟩ = some (.int .i64 xn) := fun z => (tx.below z.h tx.lt).c8
        have qx9 : ∀ z : Cl wr.heap.size wr, z.u.cell? ⟨g, c * 10 + 9, none⟩ = some (.string xs) := fun z => (tx.below z.h tx.lt).c9
        have qy0 : ∀ z : Cl wr.heap.size wr, z.u.cell? ⟨g, pc * 10, none⟩ = some (.string ya) := fun z => (ty.below z.h ty.lt).c0
        have qy1 : ∀ z : Cl wr.heap.size wr, z.u.cell? ⟨g, pc * 10 + 1, none⟩ = some (.string yp) := fun z => (ty.below z.h ty.lt).c1
        have qy2 : ∀ z : Cl wr.heap.size wr, z.u.cell? ⟨g, pc * 10 + 2, none⟩ = some (.int .i64 yr) := fun z => (ty.below z.h ty.lt).c2
        have qy3 : ∀ z : Cl wr.heap.size wr, z.u.cell? ⟨g, pc * 10 + 3, none⟩ = some (.string yc) := fun z => (ty.below z.h ty.lt).c3
        have qy4 : ∀ z : Cl wr.heap.size wr, z.u.cell? ⟨g, pc * 10 + 4, none⟩ = some (.int .i64 yt) := fun z => (ty.below z.h ty.lt).c4
        have qy5 : ∀ z : Cl wr.heap.size wr, z.u.cell? ⟨g, pc * 10 + 5, none⟩ = some (.bool yd) := fun z => (ty.below z.h ty.lt).c5
        have qy6 : ∀ z : Cl wr.heap.size wr, z.u.cell? ⟨g, pc * 10 + 6, none⟩ = some (.int .i64 yl) := fun z => (ty.below z.h ty.lt).c6
        have qy7 : ∀ z : Cl wr.heap.size wr, z.u.cell? ⟨g, pc * 10 + 7, none⟩ = some (.int .i64 yk) := fun z => (ty.below z.h ty.lt).c7
        have qy8 : ∀ z : Cl wr.heap.size wr, z.u.cell? ⟨g, pc * 10 + 8, none⟩ = some (.int .i64 yn) := fun z => (ty.below z.h ty.lt).c8
        have qy9 : ∀ z : Cl wr.heap.size wr, z.u.cell? ⟨g, pc * 10 + 9, none⟩ = some (.string ys) := fun z => (ty.below z.h ty.lt).c9
        clear tx ty
        haveI := Cl.inh wr.heap.size wr
        by_cases hk : K2 < 0
        · have hKd : decide (K2 < 0) = true := decide_eq_true hk
          have HN2 : Hid (Srch (P ++ A ++ T ++ Q) p s0 mid s c) := HN.out hk
          clear HY HN hk
          go_wp2_with fail
          refine wp_region_cl wr.heap.size (by kernel_rfl) (by kernel_rfl) ?_
          quiet_step (fail)
          quiet_step (fail)
          quiet_step (fail)
          quiet_step (fail)
          quiet_step (fail)
          quiet_step (fail)
          quiet_step (fail)
          quiet_step (fail)
          quiet_step (fail)
          quiet_step (fail)
          quiet_step (fail)
          quiet_step ((go_at_call 22; exact Cl.calls (Nat.le_refl _) (C.out _)))
          quiet_step (fail)
          quiet_step (fail)
          refine wpQuiet_nil ?_
          rintro w0 ⟨z, rfl⟩
          obtain ⟨hR1, hG1⟩ := HRx.out _ z.h
          go_wp2_with fail
          go_roundw
          case rel => exact ⟨s, c, rfl, rfl, HL.out.1, HL.out.2.1, by have := HL.out; omega, HN2.out, hR1, hG1⟩
          case measure => have := HL.out; (simp [intOf]; try omega)
        · have hKd : decide (K2 < 0) = false := decide_eq_false hk
          have HY2 : Hid (Srch (P ++ A ++ T ++ Q) p s0 mid (c + 1) r) := HY.out hk
          clear HY HN hk
          go_wp2_with fail
          refine wp_region_cl wr.heap.size (by kernel_rfl) (by kernel_rfl) ?_
          quiet_step (fail)
          quiet_step (fail)
          quiet_step (fail)
          quiet_step (fail)
          quiet_step (fail)
          quiet_step (fail)
          quiet_step (fail)
          quiet_step (fail)
          quiet_step (fail)
          quiet_step (fail)
          quiet_step (fail)
          quiet_step ((go_at_call 22; exact Cl.calls (Nat.le_refl _) (C.out _)))
          quiet_step (fail)
          quiet_step (fail)
          refine wpQuiet_nil ?_
          rintro w0 ⟨z, rfl⟩
          obtain ⟨hR1, hG1⟩ := HRx.out _ z.h
          go_wp2_with fail
          go_roundw
          case rel => exact ⟨c + 1, r, by go_num, rfl, by have := HL.out; omega, by have := HL.out; omega, HL.out.2.2.2, HY2.out, hR1, hG1⟩
          case measure => have := HL.out; (simp [intOf]; try omega)
      · obtain rfl : s = r := by omega
        have hltz : ¬ (s : Int) < (s : Int) := by omega
        have h10 := HZ.out
        have h8 := HPA.out
        have h9 := HP.out.hp
        have h11 := HP.out.hn
        have h12 := HP.out.am
        have h13 := HP.out.mb
        obtain ⟨A0, X, Y, B1, hAX, hYB, l1, l2, l3, l4, hxy, hab⟩ := hS.parts HP.out h10.1 h10.2.1 h10.2.2.1 HUA.out HUT.out hs1 hr1
        obtain ⟨q, hq⟩ : ∃ q, q = n - s := ⟨_, rfl⟩
        have eq : (n : Int) - (s : Int) = (q : Int) := by omega
        have hRR : Rx wr B g cap (P ++ (A0 ++ X) ++ (Y ++ B1) ++ Q) := by rw [← hAX, ← hYB]; exact hR
        have uA : Up (A0 ++ X) := hAX ▸ HUA.out
        have uT : Up (Y ++ B1) := hYB ▸ HUT.out
        have hlen : P.length + (A0.length + X.length) + (Y.length + B1.length) + Q.length = N := by
          have := h10.2.2.2.2.1
          rw [hAX, hYB] at this
          simp only [List.length_append] at this
          omega
        have hKK : A0.length + X.length + (Y.length + B1.length) ≤ K := by have := h10.2.2.2.1; rw [hAX, hYB] at this; simp only [List.length_append] at this; omega
        have END : Hid (∀ S1 S2 w', St (A0 ++ Y) S1 → Up S1 → St (X ++ B1) S2 → Up S2 → Rx w' B g cap (P ++ S1 ++ S2 ++ Q) → ∃ S', St (A ++ T) S' ∧ Up S' ∧ Rx w' B g cap (P ++ S' ++ Q)) := fun S1 S2 w' s1 u1 s2 u2 hR => by
          obtain ⟨t1, t2⟩ := turned uA uT hxy hab s1 s2 u1 u2
          rw [← hAX, ← hYB] at t1
          exact ⟨S1 ++ S2, t1, t2, by simpa using hR⟩
        have SY1 : Hid (1 ≤ A0.length → 1 ≤ Y.length → ∀ w, Rx w B g cap (P ++ (A0 ++ Y) ++ (X ++ (B1 ++ Q))) → Calls Tryz.prog 68 #[.slice (some ⟨g, 0, none⟩) N cap, .int .i64 (a : Nat), .int .i64 (s : Nat), .int .i64 (mid : Nat), .func (.func 22) #[] #[]] w fun e w' => e = .returned (.tuple #[]) ∧ (∃ S', St (A0 ++ Y) S' ∧ Up S' ∧ Rx w' B g cap (P ++ S' ++ (X ++ (B1 ++ Q)))) ∧ w.grownBy w' (some g)) := fun g1 g2 w hR => IH.out a s mid P A0 Y (X ++ (B1 ++ Q)) w (by omega) g1 g2 uA.left uT.left h10.1 l1 (by omega) (by simp only [List.length_append]; omega) hR
        have SY2 : Hid (1 ≤ X.length → 1 ≤ B1.length → ∀ S1 w, S1.length = (A0 ++ Y).length → Rx w B g cap (P ++ S1 ++ (X ++ (B1 ++ Q))) → Calls Tryz.prog 68 #[.slice (some ⟨g, 0, none⟩) N cap, .int .i64 (mid : Nat), .int .i64 (q : Nat), .int .i64 (b : Nat), .func (.func 22) #[] #[]] w fun e w' => e = .returned (.tuple #[]) ∧ (∃ S', St (X ++ B1) S' ∧ Up S' ∧ Rx w' B g cap (P ++ S1 ++ S' ++ Q)) ∧ w.grownBy w' (some g)) := fun g1 g2 S1 w hl hR => IH.out mid q b (P ++ S1) X B1 Q w (by omega) g1 g2 uA.right uT.right (by rw [List.length_append, hl, List.length_append]; omega) (by omega) (by omega) (by simp only [List.length_append] at hl ⊢; omega) (by simpa using hR)
        have RO : Hid (1 ≤ X.length → 1 ≤ Y.length → ∀ w, Rx w B g cap (P ++ (A0 ++ X) ++ (Y ++ B1) ++ Q) → Calls Tryz.prog 91 #[.slice (some ⟨g, 0, none⟩) N cap, .int .i64 (s : Nat), .int .i64 (m : Nat), .int .i64 (q : Nat), .func (.func 22) #[] #[]] w fun e w' => e = .returned (.tuple #[]) ∧ Rx w' B g cap (P ++ (A0 ++ Y) ++ (X ++ (B1 ++ Q))) ∧ w.grownBy w' (some g)) := fun g1 g2 w hR => by
          have h := rotate_any B g cap N (P ++ A0) X Y (B1 ++ Q) (.func (.func 22) #[] #[]) w (by simpa using hR) (by simp only [List.length_append]; omega) g1 g2 (by omega)
          rw [show (P ++ A0).length = s by rw [List.length_append]; omega, show s + X.length = m by omega, show m + Y.length = q by omega] at h
          exact h.mono fun e w' ⟨r1, r2, r3⟩ => ⟨r1, by simpa using r2, r3⟩
        have HRR : Hid (Rx wr B g cap (P ++ (A0 ++ X) ++ (Y ++ B1) ++ Q)) := hRR
        have HG : Hid (w.grownBy wr (some g)) := hG
        have UU : Hid (Up A0 ∧ Up Y ∧ Up X ∧ Up B1) := ⟨uA.left, uT.left, uA.right, uT.right⟩
        have hqz : (q : Int) ≤ 1000000 := by omega
        have hsz : (s : Int) ≤ 1000000 := by omega
        have cA : (A0 = [] ∧ ¬ (a : Int) < (s : Int)) ∨ (1 ≤ A0.length ∧ (a : Int) < (s : Int)) := by
          cases A0 with
          | nil => exact .inl ⟨rfl, by simp at l1; omega⟩
          | cons u U => exact .inr ⟨by simp, by simp at l1; omega⟩
        have cX : (X = [] ∧ ¬ (s : Int) < (m : Int) ∧ ¬ (mid : Int) < (q : Int)) ∨ (1 ≤ X.length ∧ (s : Int) < (m : Int) ∧ (mid : Int) < (q : Int)) := by
          cases X with
          | nil => exact .inl ⟨rfl, by simp at l3; omega, by simp at l3; omega⟩
          | cons u U => exact .inr ⟨by simp, by simp at l3; omega, by simp at l3; omega⟩
        have cY : (Y = [] ∧ ¬ (m : Int) < (q : Int) ∧ ¬ (s : Int) < (mid : Int)) ∨ (1 ≤ Y.length ∧ (m : Int) < (q : Int) ∧ (s : Int) < (mid : Int)) := by
          cases Y with
          | nil => exact .inl ⟨rfl, by simp at l2; omega, by simp at l2; omega⟩
          | cons u U => exact .inr ⟨by simp, by simp at l2; omega, by simp at l2; omega⟩
        have cB : (B1 = [] ∧ ¬ (q : Int) < (b : Int)) ∨ (1 ≤ B1.length ∧ (q : Int) < (b : Int)) := by
          cases B1 with
          | nil => exact .inl ⟨rfl, by simp at l4; omega⟩
          | cons u U => exact .inr ⟨by simp, by simp at l4; omega⟩
        have nAY : ¬ (A0 = [] ∧ Y = []) := by rintro ⟨rfl, rfl⟩; simp at l1 l2; omega
        have nXB : ¬ (X = [] ∧ B1 = []) := by rintro ⟨rfl, rfl⟩; simp at l3 l4; omega
        clear hAX hYB hR hRR hG hS hxy hab uA uT hlen hKK IH h8 h9 h10 h11 h12 h13 hs1 hsr hr1 hlt hq l1 l2 l3 l4
        rcases cA with ⟨rfl, gA⟩ | ⟨gA0, gA⟩
        · rcases cY with ⟨rfl, gY, gY2⟩ | ⟨gY0, gY, gY2⟩
          · rcases cX with ⟨rfl, gX, gX2⟩ | ⟨gX0, gX, gX2⟩
            · rcases cB with ⟨rfl, gB⟩ | ⟨gB0, gB⟩
              · exact absurd ⟨rfl, rfl⟩ nAY
              · exact absurd ⟨rfl, rfl⟩ nAY
            · rcases cB with ⟨rfl, gB⟩ | ⟨gB0, gB⟩
              · exact absurd ⟨rfl, rfl⟩ nAY
              · exact absurd ⟨rfl, rfl⟩ nAY
          · rcases cX with ⟨rfl, gX, gX2⟩ | ⟨gX0, gX, gX2⟩
            · rcases cB with ⟨rfl, gB⟩ | ⟨gB0, gB⟩
              · exact absurd ⟨rfl, rfl⟩ nXB
              · (try (exfalso; omega))
                all_goals
                  clear nAY nXB
                  have S0 := HRR.out
                  have G0 := HG.out
                  clear HRR HG
                  have U0 := UU.out
                  clear UU
                  have S1x : Rx wr B g cap (P ++ ([] ++ Y) ++ ([] ++ (B1 ++ Q))) := by simpa using S0
                  have S1 : Hid (Rx wr B g cap (P ++ ([] ++ Y) ++ ([] ++ (B1 ++ Q)))) := S1x
                  have G1 : Hid (w.grownBy wr (some g)) := G0
                  clear S0 S1x G0 RO
                  have U0 : Hid (Up ([] : List Cx) ∧ Up Y ∧ Up ([] : List Cx) ∧ Up B1) := U0
                  clear SY1
                  clear SY2
                  go_wp2_with fail
                  obtain ⟨S, hS⟩ : ∃ S, S = ([] ++ Y) := ⟨_, rfl⟩
                  have T1 : Hid (St ([] ++ Y) S ∧ Up S ∧ Rx wr B g cap (P ++ S ++ ([] ++ (B1 ++ Q)))) := by rw [hS]; exact ⟨St.refl _, by simpa using U0.out.2.1, S1.out⟩
                  have G2 : Hid (w.grownBy wr (some g)) := G1.out
                  clear G1 S1 hS
                  obtain ⟨V, hV⟩ : ∃ V, V = ([] ++ B1) := ⟨_, rfl⟩
                  have T2 : Hid (St ([] ++ B1) V ∧ Up V ∧ Rx wr B g cap (P ++ S ++ V ++ Q)) := by rw [hV]; exact ⟨St.refl _, by simpa using U0.out.2.2.2, by simpa using T1.out.2.2⟩
                  have G3 : Hid (w.grownBy wr (some g)) := G2.out
                  clear G2 hV
                  go_end0
                  have hend := END.out S V wr T1.out.1 T1.out.2.1 T2.out.1 T2.out.2.1 T2.out.2.2
                  exact ⟨rfl, by simpa [List.append_assoc] using hend, G3.out⟩
            · rcases cB with ⟨rfl, gB⟩ | ⟨gB0, gB⟩
              · (try (exfalso; omega))
                all_goals
                  clear nAY nXB
                  have S0 := HRR.out
                  have G0 := HG.out
                  clear HRR HG
                  have U0 := UU.out
                  clear UU
                  have S0 : Hid (Rx wr B g cap (P ++ ([] ++ X) ++ (Y ++ []) ++ Q)) := S0
                  have G0 : Hid (w.grownBy wr (some g)) := G0
                  have U0 : Hid (Up ([] : List Cx) ∧ Up Y ∧ Up X ∧ Up ([] : List Cx)) := U0
                  clear SY1
                  clear SY2
                  go_wp2_with fail
                  go_fit (RO.out gX0 gY0 wr S0.out)
                  rintro e w1 ⟨rfl, S1, G1⟩
                  have G1 := G0.out.trans G1
                  clear S0 G0 RO
                  have S1 : Hid (Rx w1 B g cap (P ++ ([] ++ Y) ++ (X ++ ([] ++ Q)))) := S1
                  have G1 : Hid (w.grownBy w1 (some g)) := G1
                  go_wp2_with fail
                  obtain ⟨S, hS⟩ : ∃ S, S = ([] ++ Y) := ⟨_, rfl⟩
                  have T1 : Hid (St ([] ++ Y) S ∧ Up S ∧ Rx w1 B g cap (P ++ S ++ (X ++ ([] ++ Q)))) := by rw [hS]; exact ⟨St.refl _, by simpa using U0.out.2.1, S1.out⟩
                  have G2 : Hid (w.grownBy w1 (some g)) := G1.out
                  clear G1 S1 hS
                  obtain ⟨V, hV⟩ : ∃ V, V = (X ++ []) := ⟨_, rfl⟩
                  have T2 : Hid (St (X ++ []) V ∧ Up V ∧ Rx w1 B g cap (P ++ S ++ V ++ Q)) := by rw [hV]; exact ⟨St.refl _, by simpa using U0.out.2.2.1, by simpa using T1.out.2.2⟩
                  have G3 : Hid (w.grownBy w1 (some g)) := G2.out
                  clear G2 hV
                  go_end0
                  have hend := END.out S V w1 T1.out.1 T1.out.2.1 T2.out.1 T2.out.2.1 T2.out.2.2
                  exact ⟨rfl, by simpa [List.append_assoc] using hend, G3.out⟩
              · (try (exfalso; omega))
                all_goals
                  clear nAY nXB
                  have S0 := HRR.out
                  have G0 := HG.out
                  clear HRR HG
                  have U0 := UU.out
                  clear UU
                  have S0 : Hid (Rx wr B g cap (P ++ ([] ++ X) ++ (Y ++ B1) ++ Q)) := S0
                  have G0 : Hid (w.grownBy wr (some g)) := G0
                  have U0 : Hid (Up ([] : List Cx) ∧ Up Y ∧ Up X ∧ Up B1) := U0
                  clear SY1
                  go_wp2_with fail
                  go_fit (RO.out gX0 gY0 wr S0.out)
                  rintro e w1 ⟨rfl, S1, G1⟩
                  have G1 := G0.out.trans G1
                  clear S0 G0 RO
                  have S1 : Hid (Rx w1 B g cap (P ++ ([] ++ Y) ++ (X ++ (B1 ++ Q)))) := S1
                  have G1 : Hid (w.grownBy w1 (some g)) := G1
                  go_wp2_with fail
                  obtain ⟨S, hS⟩ : ∃ S, S = ([] ++ Y) := ⟨_, rfl⟩
                  have T1 : Hid (St ([] ++ Y) S ∧ Up S ∧ Rx w1 B g cap (P ++ S ++ (X ++ (B1 ++ Q)))) := by rw [hS]; exact ⟨St.refl _, by simpa using U0.out.2.1, S1.out⟩
                  have G2 : Hid (w.grownBy w1 (some g)) := G1.out
                  clear G1 S1 hS
                  go_fit (SY2.out gX0 gB0 S w1 T1.out.1.len T1.out.2.2)
                  rintro e w3 ⟨rfl, ⟨V, t1, t2, t3⟩, G3⟩
                  have G3 := G2.out.trans G3
                  clear G2 SY2
                  have T2 : Hid (St (X ++ B1) V ∧ Up V ∧ Rx w3 B g cap (P ++ S ++ V ++ Q)) := ⟨t1, t2, t3⟩
                  clear t1 t2 t3
                  have G3 : Hid (w.grownBy w3 (some g)) := G3
                  go_wp2_with fail
                  go_end0
                  have hend := END.out S V w3 T1.out.1 T1.out.2.1 T2.out.1 T2.out.2.1 T2.out.2.2
                  exact ⟨rfl, by simpa [List.append_assoc] using hend, G3.out⟩
        · rcases cY with ⟨rfl, gY, gY2⟩ | ⟨gY0, gY, gY2⟩
          · rcases cX with ⟨rfl, gX, gX2⟩ | ⟨gX0, gX, gX2⟩
            · rcases cB with ⟨rfl, gB⟩ | ⟨gB0, gB⟩
              · exact absurd ⟨rfl, rfl⟩ nXB
              · (try (exfalso; omega))
                all_goals
                  clear nAY nXB
                  have S0 := HRR.out
                  have G0 := HG.out
                  clear HRR HG
                  have U0 := UU.out
                  clear UU
                  have S1x : Rx wr B g cap (P ++ (A0 ++ []) ++ ([] ++ (B1 ++ Q))) := by simpa using S0
                  have S1 : Hid (Rx wr B g cap (P ++ (A0 ++ []) ++ ([] ++ (B1 ++ Q)))) := S1x
                  have G1 : Hid (w.grownBy wr (some g)) := G0
                  clear S0 S1x G0 RO
                  have U0 : Hid (Up A0 ∧ Up ([] : List Cx) ∧ Up ([] : List Cx) ∧ Up B1) := U0
                  clear SY1
                  clear SY2
                  go_wp2_with fail
                  obtain ⟨S, hS⟩ : ∃ S, S = (A0 ++ []) := ⟨_, rfl⟩
                  have T1 : Hid (St (A0 ++ []) S ∧ Up S ∧ Rx wr B g cap (P ++ S ++ ([] ++ (B1 ++ Q)))) := by rw [hS]; exact ⟨St.refl _, by simpa using U0.out.1, S1.out⟩
                  have G2 : Hid (w.grownBy wr (some g)) := G1.out
                  clear G1 S1 hS
                  obtain ⟨V, hV⟩ : ∃ V, V = ([] ++ B1) := ⟨_, rfl⟩
                  have T2 : Hid (St ([] ++ B1) V ∧ Up V ∧ Rx wr B g cap (P ++ S ++ V ++ Q)) := by rw [hV]; exact ⟨St.refl _, by simpa using U0.out.2.2.2, by simpa using T1.out.2.2⟩
                  have G3 : Hid (w.grownBy wr (some g)) := G2.out
                  clear G2 hV
                  go_end0
                  have hend := END.out S V wr T1.out.1 T1.out.2.1 T2.out.1 T2.out.2.1 T2.out.2.2
                  exact ⟨rfl, by simpa [List.append_assoc] using hend, G3.out⟩
            · rcases cB with ⟨rfl, gB⟩ | ⟨gB0, gB⟩
              · (try (exfalso; omega))
                all_goals
                  clear nAY nXB
                  have S0 := HRR.out
                  have G0 := HG.out
                  clear HRR HG
                  have U0 := UU.out
                  clear UU
                  have S1x : Rx wr B g cap (P ++ (A0 ++ []) ++ (X ++ ([] ++ Q))) := by simpa using S0
                  have S1 : Hid (Rx wr B g cap (P ++ (A0 ++ []) ++ (X ++ ([] ++ Q)))) := S1x
                  have G1 : Hid (w.grownBy wr (some g)) := G0
                  clear S0 S1x G0 RO
                  have U0 : Hid (Up A0 ∧ Up ([] : List Cx) ∧ Up X ∧ Up ([] : List Cx)) := U0
                  clear SY1
                  clear SY2
                  go_wp2_with fail
                  obtain ⟨S, hS⟩ : ∃ S, S = (A0 ++ []) := ⟨_, rfl⟩
                  have T1 : Hid (St (A0 ++ []) S ∧ Up S ∧ Rx wr B g cap (P ++ S ++ (X ++ ([] ++ Q)))) := by rw [hS]; exact ⟨St.refl _, by simpa using U0.out.1, S1.out⟩
                  have G2 : Hid (w.grownBy wr (some g)) := G1.out
                  clear G1 S1 hS
                  obtain ⟨V, hV⟩ : ∃ V, V = (X ++ []) := ⟨_, rfl⟩
                  have T2 : Hid (St (X ++ []) V ∧ Up V ∧ Rx wr B g cap (P ++ S ++ V ++ Q)) := by rw [hV]; exact ⟨St.refl _, by simpa using U0.out.2.2.1, by simpa using T1.out.2.2⟩
                  have G3 : Hid (w.grownBy wr (some g)) := G2.out
                  clear G2 hV
                  go_end0
                  have hend := END.out S V wr T1.out.1 T1.out.2.1 T2.out.1 T2.out.2.1 T2.out.2.2
                  exact ⟨rfl, by simpa [List.append_assoc] using hend, G3.out⟩
              · (try (exfalso; omega))
                all_goals
                  clear nAY nXB
                  have S0 := HRR.out
                  have G0 := HG.out
                  clear HRR HG
                  have U0 := UU.out
                  clear UU
                  have S1x : Rx wr B g cap (P ++ (A0 ++ []) ++ (X ++ (B1 ++ Q))) := by simpa using S0
                  have S1 : Hid (Rx wr B g cap (P ++ (A0 ++ []) ++ (X ++ (B1 ++ Q)))) := S1x
                  have G1 : Hid (w.grownBy wr (some g)) := G0
                  clear S0 S1x G0 RO
                  have U0 : Hid (Up A0 ∧ Up ([] : List Cx) ∧ Up X ∧ Up B1) := U0
                  clear SY1
                  go_wp2_with fail
                  obtain ⟨S, hS⟩ : ∃ S, S = (A0 ++ []) := ⟨_, rfl⟩
                  have T1 : Hid (St (A0 ++ []) S ∧ Up S ∧ Rx wr B g cap (P ++ S ++ (X ++ (B1 ++ Q)))) := by rw [hS]; exact ⟨St.refl _, by simpa using U0.out.1, S1.out⟩
                  have G2 : Hid (w.grownBy wr (some g)) := G1.out
                  clear G1 S1 hS
                  go_fit (SY2.out gX0 gB0 S wr T1.out.1.len T1.out.2.2)
                  rintro e w3 ⟨rfl, ⟨V, t1, t2, t3⟩, G3⟩
                  have G3 := G2.out.trans G3
                  clear G2 SY2
                  have T2 : Hid (St (X ++ B1) V ∧ Up V ∧ Rx w3 B g cap (P ++ S ++ V ++ Q)) := ⟨t1, t2, t3⟩
                  clear t1 t2 t3
                  have G3 : Hid (w.grownBy w3 (some g)) := G3
                  go_wp2_with fail
                  go_end0
                  have hend := END.out S V w3 T1.out.1 T1.out.2.1 T2.out.1 T2.out.2.1 T2.out.2.2
                  exact ⟨rfl, by simpa [List.append_assoc] using hend, G3.out⟩
          · rcases cX with ⟨rfl, gX, gX2⟩ | ⟨gX0, gX, gX2⟩
            · rcases cB with ⟨rfl, gB⟩ | ⟨gB0, gB⟩
              · exact absurd ⟨rfl, rfl⟩ nXB
              · (try (exfalso; omega))
                all_goals
                  clear nAY nXB
                  have S0 := HRR.out
                  have G0 := HG.out
                  clear HRR HG
                  have U0 := UU.out
                  clear UU
                  have S1x : Rx wr B g cap (P ++ (A0 ++ Y) ++ ([] ++ (B1 ++ Q))) := by simpa using S0
                  have S1 : Hid (Rx wr B g cap (P ++ (A0 ++ Y) ++ ([] ++ (B1 ++ Q)))) := S1x
                  have G1 : Hid (w.grownBy wr (some g)) := G0
                  clear S0 S1x G0 RO
                  have U0 : Hid (Up A0 ∧ Up Y ∧ Up ([] : List Cx) ∧ Up B1) := U0
                  clear SY2
                  go_wp2_with fail
                  go_fit (SY1.out gA0 gY0 wr S1.out)
                  rintro e w2 ⟨rfl, ⟨S, t1, t2, t3⟩, G2⟩
                  have G2 := G1.out.trans G2
                  clear G1 SY1
                  have T1 : Hid (St (A0 ++ Y) S ∧ Up S ∧ Rx w2 B g cap (P ++ S ++ ([] ++ (B1 ++ Q)))) := ⟨t1, t2, t3⟩
                  clear t1 t2 t3 S1
                  have G2 : Hid (w.grownBy w2 (some g)) := G2
                  go_wp2_with fail
                  obtain ⟨V, hV⟩ : ∃ V, V = ([] ++ B1) := ⟨_, rfl⟩
                  have T2 : Hid (St ([] ++ B1) V ∧ Up V ∧ Rx w2 B g cap (P ++ S ++ V ++ Q)) := by rw [hV]; exact ⟨St.refl _, by simpa using U0.out.2.2.2, by simpa using T1.out.2.2⟩
                  have G3 : Hid (w.grownBy w2 (some g)) := G2.out
                  clear G2 hV
                  go_end0
                  have hend := END.out S V w2 T1.out.1 T1.out.2.1 T2.out.1 T2.out.2.1 T2.out.2.2
                  exact ⟨rfl, by simpa [List.append_assoc] using hend, G3.out⟩
            · rcases cB with ⟨rfl, gB⟩ | ⟨gB0, gB⟩
              · (try (exfalso; omega))
                all_goals
                  clear nAY nXB
                  have S0 := HRR.out
                  have G0 := HG.out
                  clear HRR HG
                  have U0 := UU.out
                  clear UU
                  have S0 : Hid (Rx wr B g cap (P ++ (A0 ++ X) ++ (Y ++ []) ++ Q)) := S0
                  have G0 : Hid (w.grownBy wr (some g)) := G0
                  have U0 : Hid (Up A0 ∧ Up Y ∧ Up X ∧ Up ([] : List Cx)) := U0
                  clear SY2
                  go_wp2_with fail
                  go_fit (RO.out gX0 gY0 wr S0.out)
                  rintro e w1 ⟨rfl, S1, G1⟩
                  have G1 := G0.out.trans G1
                  clear S0 G0 RO
                  have S1 : Hid (Rx w1 B g cap (P ++ (A0 ++ Y) ++ (X ++ ([] ++ Q)))) := S1
                  have G1 : Hid (w.grownBy w1 (some g)) := G1
                  go_wp2_with fail
                  go_fit (SY1.out gA0 gY0 w1 S1.out)
                  rintro e w2 ⟨rfl, ⟨S, t1, t2, t3⟩, G2⟩
                  have G2 := G1.out.trans G2
                  clear G1 SY1
                  have T1 : Hid (St (A0 ++ Y) S ∧ Up S ∧ Rx w2 B g cap (P ++ S ++ (X ++ ([] ++ Q)))) := ⟨t1, t2, t3⟩
                  clear t1 t2 t3 S1
                  have G2 : Hid (w.grownBy w2 (some g)) := G2
                  go_wp2_with fail
                  obtain ⟨V, hV⟩ : ∃ V, V = (X ++ []) := ⟨_, rfl⟩
                  have T2 : Hid (St (X ++ []) V ∧ Up V ∧ Rx w2 B g cap (P ++ S ++ V ++ Q)) := by rw [hV]; exact ⟨St.refl _, by simpa using U0.out.2.2.1, by simpa using T1.out.2.2⟩
                  have G3 : Hid (w.grownBy w2 (some g)) := G2.out
                  clear G2 hV
                  go_end0
                  have hend := END.out S V w2 T1.out.1 T1.out.2.1 T2.out.1 T2.out.2.1 T2.out.2.2
                  exact ⟨rfl, by simpa [List.append_assoc] using hend, G3.out⟩
              · (try (exfalso; omega))
                all_goals
                  clear nAY nXB
                  have S0 := HRR.out
                  have G0 := HG.out
                  clear HRR HG
                  have U0 := UU.out
                  clear UU
                  have S0 : Hid (Rx wr B g cap (P ++ (A0 ++ X) ++ (Y ++ B1) ++ Q)) := S0
                  have G0 : Hid (w.grownBy wr (some g)) := G0
                  have U0 : Hid (Up A0 ∧ Up Y ∧ Up X ∧ Up B1) := U0
                  go_wp2_with fail
                  go_fit (RO.out gX0 gY0 wr S0.out)
                  rintro e w1 ⟨rfl, S1, G1⟩
                  have G1 := G0.out.trans G1
                  clear S0 G0 RO
                  have S1 : Hid (Rx w1 B g cap (P ++ (A0 ++ Y) ++ (X ++ (B1 ++ Q)))) := S1
                  have G1 : Hid (w.grownBy w1 (some g)) := G1
                  go_wp2_with fail
                  go_fit (SY1.out gA0 gY0 w1 S1.out)
                  rintro e w2 ⟨rfl, ⟨S, t1, t2, t3⟩, G2⟩
                  have G2 := G1.out.trans G2
                  clear G1 SY1
                  have T1 : Hid (St (A0 ++ Y) S ∧ Up S ∧ Rx w2 B g cap (P ++ S ++ (X ++ (B1 ++ Q)))) := ⟨t1, t2, t3⟩
                  clear t1 t2 t3 S1
                  have G2 : Hid (w.grownBy w2 (some g)) := G2
                  go_wp2_with fail
                  go_fit (SY2.out gX0 gB0 S w2 T1.out.1.len T1.out.2.2)
                  rintro e w3 ⟨rfl, ⟨V, t1, t2, t3⟩, G3⟩
                  have G3 := G2.out.trans G3
                  clear G2 SY2
                  have T2 : Hid (St (X ++ B1) V ∧ Up V ∧ Rx w3 B g cap (P ++ S ++ V ++ Q)) := ⟨t1, t2, t3⟩
                  clear t1 t2 t3
                  have G3 : Hid (w.grownBy w3 (some g)) := G3
                  go_wp2_with fail
                  go_end0
                  have hend := END.out S V w3 T1.out.1 T1.out.2.1 T2.out.1 T2.out.2.1 T2.out.2.2
                  exact ⟨rfl, by simpa [List.append_assoc] using hend, G3.out⟩
  · have h3 := h3.symm
    have h4 := h4.symm
    subst h3
    subst h4
    clear h1
    go_enter Tryz.func68, Tryz.ntmps68
    go_wp2_with fail
    go_loopw [20, 21] (fun s20 s21 wr => ∃ s r : Nat, s20 = .int .i64 s ∧ s21 = .int .i64 r ∧ a ≤ s ∧ s ≤ r ∧ r ≤ m ∧ Srch (P ++ A ++ T ++ Q) p a m s r ∧ Rx wr B g cap (P ++ A ++ T ++ Q) ∧ w.grownBy wr (some g)) (fun s20 s21 _ => (intOf s21).toNat - (intOf s20).toNat)
    case atStart => exact ⟨_, _, rfl, rfl, Nat.le_refl _, HPA.out.2.1, Nat.le_refl _, HS0.out, HR0.out, HG0.out⟩
    case round =>
      obtain ⟨s, r, rfl, rfl, hs1, hsr, hr1, hS, hR, hG⟩ := hrel
      clear HS0 HR0 HG0
      by_cases hlt : s < r
      · have hltz : (s : Int) < (r : Int) := by omega
        have h8 := HPA.out
        have h9 := HP.out.hp
        have h10 := HZ.out
        obtain ⟨c, hc⟩ : ∃ c, c = (s + r) / 2 := ⟨_, rfl⟩
        have ec : ((s : Int) + (r : Int)) / 2 = (c : Int) := by omega
        obtain ⟨pc, hpc⟩ : ∃ pc, pc = p - c := ⟨_, rfl⟩
        have epc : (p : Int) - (c : Int) = (pc : Int) := by omega
        have hc1 : s ≤ c := by omega
        have hc2 : c < r := by omega
        have hlen : (P ++ A ++ T ++ Q).length = N := by have := h10.2.2.2.2.1; simpa using this
        obtain ⟨x, hx⟩ : ∃ x, (P ++ A ++ T ++ Q)[c]? = some x := ⟨_, List.getElem?_eq_getElem (by rw [hlen]; omega)⟩
        obtain ⟨y, hy⟩ : ∃ y, (P ++ A ++ T ++ Q)[pc]? = some y := ⟨_, List.getElem?_eq_getElem (by rw [hlen]; omega)⟩
        have tx : TenX wr g (c * 10) x := hR.ten hx
        have ty : TenX wr g (pc * 10) y := hR.ten hy
        have C : Hid (∀ w : World, Calls Tryz.prog 22 #[y.val, x.val] w fun e w' => e = .returned (.int .i64 (kx y x)) ∧ Below w.heap.size w w') := fun w => cmpKeys_any y x w
        have HRx : Hid (∀ w', Below wr.heap.size wr w' → Rx w' B g cap (P ++ A ++ T ++ Q) ∧ w.grownBy w' (some g)) := fun w' h => ⟨hR.below h, hG.trans (grown_below h g)⟩
        have HY : Hid (¬ kx y x < 0 → Srch (P ++ A ++ T ++ Q) p a m (c + 1) r) := fun hk => hS.up HP.out h10.1 h10.2.1 h10.2.2.1 HUA.out HUT.out hs1 hc1 hc2 hr1 hx (hpc ▸ hy) hk
        have HN : Hid (kx y x < 0 → Srch (P ++ A ++ T ++ Q) p a m s c) := fun hk => hS.down HP.out h10.1 h10.2.1 h10.2.2.1 HUA.out HUT.out hs1 hc1 hc2 hr1 hx (hpc ▸ hy) hk
        have hcN : (c : Int) < (N : Int) := by omega
        have hwp : IntKind.i64.wrap (pc : Int) = (pc : Int) := by rw [IntKind.wrap_i64]; omega
        have hpN : (pc : Int) < (N : Int) := by omega
        have hpz : (p : Int) ≤ 3000000 := by omega
        have hsz : (s : Int) ≤ 1000000 := by omega
        have hrz : (r : Int) ≤ 1000000 := by omega
        have HL : Hid (a ≤ s ∧ s ≤ c ∧ c < r ∧ r ≤ m) := ⟨hs1, hc1, hc2, hr1⟩
        generalize hkx : kx y x = K2 at *
        clear hkx hx hy hR hG hS hs1 hsr hr1 hlt hc hpc hc1 hc2 hlen h8 h9 h10
        obtain ⟨⟨xa, xp, xr, xc⟩, ⟨xt, xd, xl, xk, xn, xs⟩⟩ := x
        obtain ⟨⟨ya, yp, yr, yc⟩, ⟨yt, yd, yl, yk, yn, ys⟩⟩ := y
        simp only [Cx.val, Cx.a] at C
        have qx0 : ∀ z : Cl wr.heap.size wr, z.u.cell? ⟨g, c * 10, none⟩ = some (.string xa) := fun z => (tx.below z.h tx.lt).c0
        have qx1 : ∀ z : Cl wr.heap.size wr, z.u.cell? ⟨g, c * 10 + 1, none⟩ = some (.string xp) := fun z => (tx.below z.h tx.lt).c1
        have qx2 : ∀ z : Cl wr.heap.size wr, z.u.cell? ⟨g, c * 10 + 2, none⟩ = some (.int .i64 xr) := fun z => (tx.below z.h tx.lt).c2
        have qx3 : ∀ z : Cl wr.heap.size wr, z.u.cell? ⟨g, c * 10 + 3, none⟩ = some (.string xc) := fun z => (tx.below z.h tx.lt).c3
        have qx4 : ∀ z : Cl wr.heap.size wr, z.u.cell? ⟨g, c * 10 + 4, none⟩ = some (.int .i64 xt) := fun z => (tx.below z.h tx.lt).c4
        have qx5 : ∀ z : Cl wr.heap.size wr, z.u.cell? ⟨g, c * 10 + 5, none⟩ = some (.bool xd) := fun z => (tx.below z.h tx.lt).c5
        have qx6 : ∀ z : Cl wr.heap.size wr, z.u.cell? ⟨g, c * 10 + 6, none⟩ = some (.int .i64 xl) := fun z => (tx.below z.h tx.lt).c6
        have qx7 : ∀ z : Cl wr.heap.size wr, z.u.cell? ⟨g, c * 10 + 7, none⟩ = some (.int .i64 xk) := fun z => (tx.below z.h tx.lt).c7
        have qx8 : ∀ z : Cl wr.heap.size wr, z.u.cell? ⟨g, c * 10 + 8, none⟩ = some (.int .i64 xn) := fun z => (tx.below z.h tx.lt).c8
        have qx9 : ∀ z : Cl wr.heap.size wr, z.u.cell? ⟨g, c * 10 + 9, none⟩ = some (.string xs) := fun z => (tx.below z.h tx.lt).c9
        have qy0 : ∀ z : Cl wr.heap.size wr, z.u.cell? ⟨g, pc * 10, none⟩ = some (.string ya) := fun z => (ty.below z.h ty.lt).c0
        have qy1 : ∀ z : Cl wr.heap.size wr, z.u.cell? ⟨g, pc * 10 + 1, none⟩ = some (.string yp) := fun z => (ty.below z.h ty.lt).c1
        have qy2 : ∀ z : Cl wr.heap.size wr, z.u.cell? ⟨g, pc * 10 + 2, none⟩ = some (.int .i64 yr) := fun z => (ty.below z.h ty.lt).c2
        have qy3 : ∀ z : Cl wr.heap.size wr, z.u.cell? ⟨g, pc * 10 + 3, none⟩ = some (.string yc) := fun z => (ty.below z.h ty.lt).c3
        have qy4 : ∀ z : Cl wr.heap.size wr, z.u.cell? ⟨g, pc * 10 + 4, none⟩ = some (.int .i64 yt) := fun z => (ty.below z.h ty.lt).c4
        have qy5 : ∀ z : Cl wr.heap.size wr, z.u.cell? ⟨g, pc * 10 + 5, none⟩ = some (.bool yd) := fun z => (ty.below z.h ty.lt).c5
        have qy6 : ∀ z : Cl wr.heap.size wr, z.u.cell? ⟨g, pc * 10 + 6, none⟩ = some (.int .i64 yl) := fun z => (ty.below z.h ty.lt).c6
        have qy7 : ∀ z : Cl wr.heap.size wr, z.u.cell? ⟨g, pc * 10 + 7, none⟩ = some (.int .i64 yk) := fun z => (ty.below z.h ty.lt).c7
        have qy8 : ∀ z : Cl wr.heap.size wr, z.u.cell? ⟨g, pc * 10 + 8, none⟩ = some (.int .i64 yn) := fun z => (ty.below z.h ty.lt).c8
        have qy9 : ∀ z : Cl wr.heap.size wr, z.u.cell? ⟨g, pc * 10 + 9, none⟩ = some (.string ys) := fun z => (ty.below z.h ty.lt).c9
        clear tx ty
        haveI := Cl.inh wr.heap.size wr
        by_cases hk : K2 < 0
        · have hKd : decide (K2 < 0) = true := decide_eq_true hk
          have HN2 : Hid (Srch (P ++ A ++ T ++ Q) p a m s c) := HN.out hk
          clear HY HN hk
          go_wp2_with fail
          refine wp_region_cl wr.heap.size (by kernel_rfl) (by kernel_rfl) ?_
          quiet_step (fail)
          quiet_step (fail)
          quiet_step (fail)
          quiet_step (fail)
          quiet_step (fail)
          quiet_step (fail)
          quiet_step (fail)
          quiet_step (fail)
          quiet_step (fail)
          quiet_step (fail)
          quiet_step (fail)
          quiet_step ((go_at_call 22; exact Cl.calls (Nat.le_refl _) (C.out _)))
          quiet_step (fail)
          quiet_step (fail)
          refine wpQuiet_nil ?_
          rintro w0 ⟨z, rfl⟩
          obtain ⟨hR1, hG1⟩ := HRx.out _ z.h
          go_wp2_with fail
          go_roundw
          case rel => exact ⟨s, c, rfl, rfl, HL.out.1, HL.out.2.1, by have := HL.out; omega, HN2.out, hR1, hG1⟩
          case measure => have := HL.out; (simp [intOf]; try omega)
        · have hKd : decide (K2 < 0) = false := decide_eq_false hk
          have HY2 : Hid (Srch (P ++ A ++ T ++ Q) p a m (c + 1) r) := HY.out hk
          clear HY HN hk
          go_wp2_with fail
          refine wp_region_cl wr.heap.size (by kernel_rfl) (by kernel_rfl) ?_
          quiet_step (fail)
          quiet_step (fail)
          quiet_step (fail)
          quiet_step (fail)
          quiet_step (fail)
          quiet_step (fail)
          quiet_step (fail)
          quiet_step (fail)
          quiet_step (fail)
          quiet_step (fail)
          quiet_step (fail)
          quiet_step ((go_at_call 22; exact Cl.calls (Nat.le_refl _) (C.out _)))
          quiet_step (fail)
          quiet_step (fail)
          refine wpQuiet_nil ?_
          rintro w0 ⟨z, rfl⟩
          obtain ⟨hR1, hG1⟩ := HRx.out _ z.h
          go_wp2_with fail
          go_roundw
          case rel => exact ⟨c + 1, r, by go_num, rfl, by have := HL.out; omega, by have := HL.out; omega, HL.out.2.2.2, HY2.out, hR1, hG1⟩
          case measure => have := HL.out; (simp [intOf]; try omega)
      · obtain rfl : s = r := by omega
        have hltz : ¬ (s : Int) < (s : Int) := by omega
        have h10 := HZ.out
        have h8 := HPA.out
        have h9 := HP.out.hp
        have h11 := HP.out.hn
        have h12 := HP.out.am
        have h13 := HP.out.mb
        obtain ⟨A0, X, Y, B1, hAX, hYB, l1, l2, l3, l4, hxy, hab⟩ := hS.parts HP.out h10.1 h10.2.1 h10.2.2.1 HUA.out HUT.out hs1 hr1
        obtain ⟨q, hq⟩ : ∃ q, q = n - s := ⟨_, rfl⟩
        have eq : (n : Int) - (s : Int) = (q : Int) := by omega
        have hRR : Rx wr B g cap (P ++ (A0 ++ X) ++ (Y ++ B1) ++ Q) := by rw [← hAX, ← hYB]; exact hR
        have uA : Up (A0 ++ X) := hAX ▸ HUA.out
        have uT : Up (Y ++ B1) := hYB ▸ HUT.out
        have hlen : P.length + (A0.length + X.length) + (Y.length + B1.length) + Q.length = N := by
          have := h10.2.2.2.2.1
          rw [hAX, hYB] at this
          simp only [List.length_append] at this
          omega
        have hKK : A0.length + X.length + (Y.length + B1.length) ≤ K := by have := h10.2.2.2.1; rw [hAX, hYB] at this; simp only [List.length_append] at this; omega
        have END : Hid (∀ S1 S2 w', St (A0 ++ Y) S1 → Up S1 → St (X ++ B1) S2 → Up S2 → Rx w' B g cap (P ++ S1 ++ S2 ++ Q) → ∃ S', St (A ++ T) S' ∧ Up S' ∧ Rx w' B g cap (P ++ S' ++ Q)) := fun S1 S2 w' s1 u1 s2 u2 hR => by
          obtain ⟨t1, t2⟩ := turned uA uT hxy hab s1 s2 u1 u2
          rw [← hAX, ← hYB] at t1
          exact ⟨S1 ++ S2, t1, t2, by simpa using hR⟩
        have SY1 : Hid (1 ≤ A0.length → 1 ≤ Y.length → ∀ w, Rx w B g cap (P ++ (A0 ++ Y) ++ (X ++ (B1 ++ Q))) → Calls Tryz.prog 68 #[.slice (some ⟨g, 0, none⟩) N cap, .int .i64 (a : Nat), .int .i64 (s : Nat), .int .i64 (mid : Nat), .func (.func 22) #[] #[]] w fun e w' => e = .returned (.tuple #[]) ∧ (∃ S', St (A0 ++ Y) S' ∧ Up S' ∧ Rx w' B g cap (P ++ S' ++ (X ++ (B1 ++ Q)))) ∧ w.grownBy w' (some g)) := fun g1 g2 w hR => IH.out a s mid P A0 Y (X ++ (B1 ++ Q)) w (by omega) g1 g2 uA.left uT.left h10.1 l1 (by omega) (by simp only [List.length_append]; omega) hR
        have SY2 : Hid (1 ≤ X.length → 1 ≤ B1.length → ∀ S1 w, S1.length = (A0 ++ Y).length → Rx w B g cap (P ++ S1 ++ (X ++ (B1 ++ Q))) → Calls Tryz.prog 68 #[.slice (some ⟨g, 0, none⟩) N cap, .int .i64 (mid : Nat), .int .i64 (q : Nat), .int .i64 (b : Nat), .func (.func 22) #[] #[]] w fun e w' => e = .returned (.tuple #[]) ∧ (∃ S', St (X ++ B1) S' ∧ Up S' ∧ Rx w' B g cap (P ++ S1 ++ S' ++ Q)) ∧ w.grownBy w' (some g)) := fun g1 g2 S1 w hl hR => IH.out mid q b (P ++ S1) X B1 Q w (by omega) g1 g2 uA.right uT.right (by rw [List.length_append, hl, List.length_append]; omega) (by omega) (by omega) (by simp only [List.length_append] at hl ⊢; omega) (by simpa using hR)
        have RO : Hid (1 ≤ X.length → 1 ≤ Y.length → ∀ w, Rx w B g cap (P ++ (A0 ++ X) ++ (Y ++ B1) ++ Q) → Calls Tryz.prog 91 #[.slice (some ⟨g, 0, none⟩) N cap, .int .i64 (s : Nat), .int .i64 (m : Nat), .int .i64 (q : Nat), .func (.func 22) #[] #[]] w fun e w' => e = .returned (.tuple #[]) ∧ Rx w' B g cap (P ++ (A0 ++ Y) ++ (X ++ (B1 ++ Q))) ∧ w.grownBy w' (some g)) := fun g1 g2 w hR => by
          have h := rotate_any B g cap N (P ++ A0) X Y (B1 ++ Q) (.func (.func 22) #[] #[]) w (by simpa using hR) (by simp only [List.length_append]; omega) g1 g2 (by omega)
          rw [show (P ++ A0).length = s by rw [List.length_append]; omega, show s + X.length = m by omega, show m + Y.length = q by omega] at h
          exact h.mono fun e w' ⟨r1, r2, r3⟩ => ⟨r1, by simpa using r2, r3⟩
        have HRR : Hid (Rx wr B g cap (P ++ (A0 ++ X) ++ (Y ++ B1) ++ Q)) := hRR
        have HG : Hid (w.grownBy wr (some g)) := hG
        have UU : Hid (Up A0 ∧ Up Y ∧ Up X ∧ Up B1) := ⟨uA.left, uT.left, uA.right, uT.right⟩
        have hqz : (q : Int) ≤ 1000000 := by omega
        have hsz : (s : Int) ≤ 1000000 := by omega
        have cA : (A0 = [] ∧ ¬ (a : Int) < (s : Int)) ∨ (1 ≤ A0.length ∧ (a : Int) < (s : Int)) := by
          cases A0 with
          | nil => exact .inl ⟨rfl, by simp at l1; omega⟩
          | cons u U => exact .inr ⟨by simp, by simp at l1; omega⟩
        have cX : (X = [] ∧ ¬ (s : Int) < (m : Int) ∧ ¬ (mid : Int) < (q : Int)) ∨ (1 ≤ X.length ∧ (s : Int) < (m : Int) ∧ (mid : Int) < (q : Int)) := by
          cases X with
          | nil => exact .inl ⟨rfl, by simp at l3; omega, by simp at l3; omega⟩
          | cons u U => exact .inr ⟨by simp, by simp at l3; omega, by simp at l3; omega⟩
        have cY : (Y = [] ∧ ¬ (m : Int) < (q : Int) ∧ ¬ (s : Int) < (mid : Int)) ∨ (1 ≤ Y.length ∧ (m : Int) < (q : Int) ∧ (s : Int) < (mid : Int)) := by
          cases Y with
          | nil => exact .inl ⟨rfl, by simp at l2; omega, by simp at l2; omega⟩
          | cons u U => exact .inr ⟨by simp, by simp at l2; omega, by simp at l2; omega⟩
        have cB : (B1 = [] ∧ ¬ (q : Int) < (b : Int)) ∨ (1 ≤ B1.length ∧ (q : Int) < (b : Int)) := by
          cases B1 with
          | nil => exact .inl ⟨rfl, by simp at l4; omega⟩
          | cons u U => exact .inr ⟨by simp, by simp at l4; omega⟩
        have nAY : ¬ (A0 = [] ∧ Y = []) := by rintro ⟨rfl, rfl⟩; simp at l1 l2; omega
        have nXB : ¬ (X = [] ∧ B1 = []) := by rintro ⟨rfl, rfl⟩; simp at l3 l4; omega
        clear hAX hYB hR hRR hG hS hxy hab uA uT hlen hKK IH h8 h9 h10 h11 h12 h13 hs1 hsr hr1 hlt hq l1 l2 l3 l4
        rcases cA with ⟨rfl, gA⟩ | ⟨gA0, gA⟩
        · rcases cY with ⟨rfl, gY, gY2⟩ | ⟨gY0, gY, gY2⟩
          · rcases cX with ⟨rfl, gX, gX2⟩ | ⟨gX0, gX, gX2⟩
            · rcases cB with ⟨rfl, gB⟩ | ⟨gB0, gB⟩
              · exact absurd ⟨rfl, rfl⟩ nAY
              · exact absurd ⟨rfl, rfl⟩ nAY
            · rcases cB with ⟨rfl, gB⟩ | ⟨gB0, gB⟩
              · exact absurd ⟨rfl, rfl⟩ nAY
              · exact absurd ⟨rfl, rfl⟩ nAY
          · rcases cX with ⟨rfl, gX, gX2⟩ | ⟨gX0, gX, gX2⟩
            · rcases cB with ⟨rfl, gB⟩ | ⟨gB0, gB⟩
              · exact absurd ⟨rfl, rfl⟩ nXB
              · (try (exfalso; omega))
                all_goals
                  clear nAY nXB
                  have S0 := HRR.out
                  have G0 := HG.out
                  clear HRR HG
                  have U0 := UU.out
                  clear UU
                  have S1x : Rx wr B g cap (P ++ ([] ++ Y) ++ ([] ++ (B1 ++ Q))) := by simpa using S0
                  have S1 : Hid (Rx wr B g cap (P ++ ([] ++ Y) ++ ([] ++ (B1 ++ Q)))) := S1x
                  have G1 : Hid (w.grownBy wr (some g)) := G0
                  clear S0 S1x G0 RO
                  have U0 : Hid (Up ([] : List Cx) ∧ Up Y ∧ Up ([] : List Cx) ∧ Up B1) := U0
                  clear SY1
                  clear SY2
                  go_wp2_with fail
                  obtain ⟨S, hS⟩ : ∃ S, S = ([] ++ Y) := ⟨_, rfl⟩
                  have T1 : Hid (St ([] ++ Y) S ∧ Up S ∧ Rx wr B g cap (P ++ S ++ ([] ++ (B1 ++ Q)))) := by rw [hS]; exact ⟨St.refl _, by simpa using U0.out.2.1, S1.out⟩
                  have G2 : Hid (w.grownBy wr (some g)) := G1.out
                  clear G1 S1 hS
                  obtain ⟨V, hV⟩ : ∃ V, V = ([] ++ B1) := ⟨_, rfl⟩
                  have T2 : Hid (St ([] ++ B1) V ∧ Up V ∧ Rx wr B g cap (P ++ S ++ V ++ Q)) := by rw [hV]; exact ⟨St.refl _, by simpa using U0.out.2.2.2, by simpa using T1.out.2.2⟩
                  have G3 : Hid (w.grownBy wr (some g)) := G2.out
                  clear G2 hV
                  go_end0
                  have hend := END.out S V wr T1.out.1 T1.out.2.1 T2.out.1 T2.out.2.1 T2.out.2.2
                  exact ⟨rfl, by simpa [List.append_assoc] using hend, G3.out⟩
            · rcases cB with ⟨rfl, gB⟩ | ⟨gB0, gB⟩
              · (try (exfalso; omega))
                all_goals
                  clear nAY nXB
                  have S0 := HRR.out
                  have G0 := HG.out
                  clear HRR HG
                  have U0 := UU.out
                  clear UU
                  have S0 : Hid (Rx wr B g cap (P ++ ([] ++ X) ++ (Y ++ []) ++ Q)) := S0
                  have G0 : Hid (w.grownBy wr (some g)) := G0
                  have U0 : Hid (Up ([] : List Cx) ∧ Up Y ∧ Up X ∧ Up ([] : List Cx)) := U0
                  clear SY1
                  clear SY2
                  go_wp2_with fail
                  go_fit (RO.out gX0 gY0 wr S0.out)
                  rintro e w1 ⟨rfl, S1, G1⟩
                  have G1 := G0.out.trans G1
                  clear S0 G0 RO
                  have S1 : Hid (Rx w1 B g cap (P ++ ([] ++ Y) ++ (X ++ ([] ++ Q)))) := S1
                  have G1 : Hid (w.grownBy w1 (some g)) := G1
                  go_wp2_with fail
                  obtain ⟨S, hS⟩ : ∃ S, S = ([] ++ Y) := ⟨_, rfl⟩
                  have T1 : Hid (St ([] ++ Y) S ∧ Up S ∧ Rx w1 B g cap (P ++ S ++ (X ++ ([] ++ Q)))) := by rw [hS]; exact ⟨St.refl _, by simpa using U0.out.2.1, S1.out⟩
                  have G2 : Hid (w.grownBy w1 (some g)) := G1.out
                  clear G1 S1 hS
                  obtain ⟨V, hV⟩ : ∃ V, V = (X ++ []) := ⟨_, rfl⟩
                  have T2 : Hid (St (X ++ []) V ∧ Up V ∧ Rx w1 B g cap (P ++ S ++ V ++ Q)) := by rw [hV]; exact ⟨St.refl _, by simpa using U0.out.2.2.1, by simpa using T1.out.2.2⟩
                  have G3 : Hid (w.grownBy w1 (some g)) := G2.out
                  clear G2 hV
                  go_end0
                  have hend := END.out S V w1 T1.out.1 T1.out.2.1 T2.out.1 T2.out.2.1 T2.out.2.2
                  exact ⟨rfl, by simpa [List.append_assoc] using hend, G3.out⟩
              · (try (exfalso; omega))
                all_goals
                  clear nAY nXB
                  have S0 := HRR.out
                  have G0 := HG.out
                  clear HRR HG
                  have U0 := UU.out
                  clear UU
                  have S0 : Hid (Rx wr B g cap (P ++ ([] ++ X) ++ (Y ++ B1) ++ Q)) := S0
                  have G0 : Hid (w.grownBy wr (some g)) := G0
                  have U0 : Hid (Up ([] : List Cx) ∧ Up Y ∧ Up X ∧ Up B1) := U0
                  clear SY1
                  go_wp2_with fail
                  go_fit (RO.out gX0 gY0 wr S0.out)
                  rintro e w1 ⟨rfl, S1, G1⟩
                  have G1 := G0.out.trans G1
                  clear S0 G0 RO
                  have S1 : Hid (Rx w1 B g cap (P ++ ([] ++ Y) ++ (X ++ (B1 ++ Q)))) := S1
                  have G1 : Hid (w.grownBy w1 (some g)) := G1
                  go_wp2_with fail
                  obtain ⟨S, hS⟩ : ∃ S, S = ([] ++ Y) := ⟨_, rfl⟩
                  have T1 : Hid (St ([] ++ Y) S ∧ Up S ∧ Rx w1 B g cap (P ++ S ++ (X ++ (B1 ++ Q)))) := by rw [hS]; exact ⟨St.refl _, by simpa using U0.out.2.1, S1.out⟩
                  have G2 : Hid (w.grownBy w1 (some g)) := G1.out
                  clear G1 S1 hS
                  go_fit (SY2.out gX0 gB0 S w1 T1.out.1.len T1.out.2.2)
                  rintro e w3 ⟨rfl, ⟨V, t1, t2, t3⟩, G3⟩
                  have G3 := G2.out.trans G3
                  clear G2 SY2
                  have T2 : Hid (St (X ++ B1) V ∧ Up V ∧ Rx w3 B g cap (P ++ S ++ V ++ Q)) := ⟨t1, t2, t3⟩
                  clear t1 t2 t3
                  have G3 : Hid (w.grownBy w3 (some g)) := G3
                  go_wp2_with fail
                  go_end0
                  have hend := END.out S V w3 T1.out.1 T1.out.2.1 T2.out.1 T2.out.2.1 T2.out.2.2
                  exact ⟨rfl, by simpa [List.append_assoc] using hend, G3.out⟩
        · rcases cY with ⟨rfl, gY, gY2⟩ | ⟨gY0, gY, gY2⟩
          · rcases cX with ⟨rfl, gX, gX2⟩ | ⟨gX0, gX, gX2⟩
            · rcases cB with ⟨rfl, gB⟩ | ⟨gB0, gB⟩
              · exact absurd ⟨rfl, rfl⟩ nXB
              · (try (exfalso; omega))
                all_goals
                  clear nAY nXB
                  have S0 := HRR.out
                  have G0 := HG.out
                  clear HRR HG
                  have U0 := UU.out
                  clear UU
                  have S1x : Rx wr B g cap (P ++ (A0 ++ []) ++ ([] ++ (B1 ++ Q))) := by simpa using S0
                  have S1 : Hid (Rx wr B g cap (P ++ (A0 ++ []) ++ ([] ++ (B1 ++ Q)))) := S1x
                  have G1 : Hid (w.grownBy wr (some g)) := G0
                  clear S0 S1x G0 RO
                  have U0 : Hid (Up A0 ∧ Up ([] : List Cx) ∧ Up ([] : List Cx) ∧ Up B1) := U0
                  clear SY1
                  clear SY2
                  go_wp2_with fail
                  obtain ⟨S, hS⟩ : ∃ S, S = (A0 ++ []) := ⟨_, rfl⟩
                  have T1 : Hid (St (A0 ++ []) S ∧ Up S ∧ Rx wr B g cap (P ++ S ++ ([] ++ (B1 ++ Q)))) := by rw [hS]; exact ⟨St.refl _, by simpa using U0.out.1, S1.out⟩
                  have G2 : Hid (w.grownBy wr (some g)) := G1.out
                  clear G1 S1 hS
                  obtain ⟨V, hV⟩ : ∃ V, V = ([] ++ B1) := ⟨_, rfl⟩
                  have T2 : Hid (St ([] ++ B1) V ∧ Up V ∧ Rx wr B g cap (P ++ S ++ V ++ Q)) := by rw [hV]; exact ⟨St.refl _, by simpa using U0.out.2.2.2, by simpa using T1.out.2.2⟩
                  have G3 : Hid (w.grownBy wr (some g)) := G2.out
                  clear G2 hV
                  go_end0
                  have hend := END.out S V wr T1.out.1 T1.out.2.1 T2.out.1 T2.out.2.1 T2.out.2.2
                  exact ⟨rfl, by simpa [List.append_assoc] using hend, G3.out⟩
            · rcases cB with ⟨rfl, gB⟩ | ⟨gB0, gB⟩
              · (try (exfalso; omega))
                all_goals
                  clear nAY nXB
                  have S0 := HRR.out
                  have G0 := HG.out
                  clear HRR HG
                  have U0 := UU.out
                  clear UU
                  have S1x : Rx wr B g cap (P ++ (A0 ++ []) ++ (X ++ ([] ++ Q))) := by simpa using S0
                  have S1 : Hid (Rx wr B g cap (P ++ (A0 ++ []) ++ (X ++ ([] ++ Q)))) := S1x
                  have G1 : Hid (w.grownBy wr (some g)) := G0
                  clear S0 S1x G0 RO
                  have U0 : Hid (Up A0 ∧ Up ([] : List Cx) ∧ Up X ∧ Up ([] : List Cx)) := U0
                  clear SY1
                  clear SY2
                  go_wp2_with fail
                  obtain ⟨S, hS⟩ : ∃ S, S = (A0 ++ []) := ⟨_, rfl⟩
                  have T1 : Hid (St (A0 ++ []) S ∧ Up S ∧ Rx wr B g cap (P ++ S ++ (X ++ ([] ++ Q)))) := by rw [hS]; exact ⟨St.refl _, by simpa using U0.out.1, S1.out⟩
                  have G2 : Hid (w.grownBy wr (some g)) := G1.out
                  clear G1 S1 hS
                  obtain ⟨V, hV⟩ : ∃ V, V = (X ++ []) := ⟨_, rfl⟩
                  have T2 : Hid (St (X ++ []) V ∧ Up V ∧ Rx wr B g cap (P ++ S ++ V ++ Q)) := by rw [hV]; exact ⟨St.refl _, by simpa using U0.out.2.2.1, by simpa using T1.out.2.2⟩
                  have G3 : Hid (w.grownBy wr (some g)) := G2.out
                  clear G2 hV
                  go_end0
                  have hend := END.out S V wr T1.out.1 T1.out.2.1 T2.out.1 T2.out.2.1 T2.out.2.2
                  exact ⟨rfl, by simpa [List.append_assoc] using hend, G3.out⟩
              · (try (exfalso; omega))
                all_goals
                  clear nAY nXB
                  have S0 := HRR.out
                  have G0 := HG.out
                  clear HRR HG
                  have U0 := UU.out
                  clear UU
                  have S1x : Rx wr B g cap (P ++ (A0 ++ []) ++ (X ++ (B1 ++ Q))) := by simpa using S0
                  have S1 : Hid (Rx wr B g cap (P ++ (A0 ++ []) ++ (X ++ (B1 ++ Q)))) := S1x
                  have G1 : Hid (w.grownBy wr (some g)) := G0
                  clear S0 S1x G0 RO
                  have U0 : Hid (Up A0 ∧ Up ([] : List Cx) ∧ Up X ∧ Up B1) := U0
                  clear SY1
                  go_wp2_with fail
                  obtain ⟨S, hS⟩ : ∃ S, S = (A0 ++ []) := ⟨_, rfl⟩
                  have T1 : Hid (St (A0 ++ []) S ∧ Up S ∧ Rx wr B g cap (P ++ S ++ (X ++ (B1 ++ Q)))) := by rw [hS]; exact ⟨St.refl _, by simpa using U0.out.1, S1.out⟩
                  have G2 : Hid (w.grownBy wr (some g)) := G1.out
                  clear G1 S1 hS
                  go_fit (SY2.out gX0 gB0 S wr T1.out.1.len T1.out.2.2)
                  rintro e w3 ⟨rfl, ⟨V, t1, t2, t3⟩, G3⟩
                  have G3 := G2.out.trans G3
                  clear G2 SY2
                  have T2 : Hid (St (X ++ B1) V ∧ Up V ∧ Rx w3 B g cap (P ++ S ++ V ++ Q)) := ⟨t1, t2, t3⟩
                  clear t1 t2 t3
                  have G3 : Hid (w.grownBy w3 (some g)) := G3
                  go_wp2_with fail
                  go_end0
                  have hend := END.out S V w3 T1.out.1 T1.out.2.1 T2.out.1 T2.out.2.1 T2.out.2.2
                  exact ⟨rfl, by simpa [List.append_assoc] using hend, G3.out⟩
          · rcases cX with ⟨rfl, gX, gX2⟩ | ⟨gX0, gX, gX2⟩
            · rcases cB with ⟨rfl, gB⟩ | ⟨gB0, gB⟩
              · exact absurd ⟨rfl, rfl⟩ nXB
              · (try (exfalso; omega))
                all_goals
                  clear nAY nXB
                  have S0 := HRR.out
                  have G0 := HG.out
                  clear HRR HG
                  have U0 := UU.out
                  clear UU
                  have S1x : Rx wr B g cap (P ++ (A0 ++ Y) ++ ([] ++ (B1 ++ Q))) := by simpa using S0
                  have S1 : Hid (Rx wr B g cap (P ++ (A0 ++ Y) ++ ([] ++ (B1 ++ Q)))) := S1x
                  have G1 : Hid (w.grownBy wr (some g)) := G0
                  clear S0 S1x G0 RO
                  have U0 : Hid (Up A0 ∧ Up Y ∧ Up ([] : List Cx) ∧ Up B1) := U0
                  clear SY2
                  go_wp2_with fail
                  go_fit (SY1.out gA0 gY0 wr S1.out)
                  rintro e w2 ⟨rfl, ⟨S, t1, t2, t3⟩, G2⟩
                  have G2 := G1.out.trans G2
                  clear G1 SY1
                  have T1 : Hid (St (A0 ++ Y) S ∧ Up S ∧ Rx w2 B g cap (P ++ S ++ ([] ++ (B1 ++ Q)))) := ⟨t1, t2, t3⟩
                  clear t1 t2 t3 S1
                  have G2 : Hid (w.grownBy w2 (some g)) := G2
                  go_wp2_with fail
                  obtain ⟨V, hV⟩ : ∃ V, V = ([] ++ B1) := ⟨_, rfl⟩
                  have T2 : Hid (St ([] ++ B1) V ∧ Up V ∧ Rx w2 B g cap (P ++ S ++ V ++ Q)) := by rw [hV]; exact ⟨St.refl _, by simpa using U0.out.2.2.2, by simpa using T1.out.2.2⟩
                  have G3 : Hid (w.grownBy w2 (some g)) := G2.out
                  clear G2 hV
                  go_end0
                  have hend := END.out S V w2 T1.out.1 T1.out.2.1 T2.out.1 T2.out.2.1 T2.out.2.2
                  exact ⟨rfl, by simpa [List.append_assoc] using hend, G3.out⟩
            · rcases cB with ⟨rfl, gB⟩ | ⟨gB0, gB⟩
              · (try (exfalso; omega))
                all_goals
                  clear nAY nXB
                  have S0 := HRR.out
                  have G0 := HG.out
                  clear HRR HG
                  have U0 := UU.out
                  clear UU
                  have S0 : Hid (Rx wr B g cap (P ++ (A0 ++ X) ++ (Y ++ []) ++ Q)) := S0
                  have G0 : Hid (w.grownBy wr (some g)) := G0
                  have U0 : Hid (Up A0 ∧ Up Y ∧ Up X ∧ Up ([] : List Cx)) := U0
                  clear SY2
                  go_wp2_with fail
                  go_fit (RO.out gX0 gY0 wr S0.out)
                  rintro e w1 ⟨rfl, S1, G1⟩
                  have G1 := G0.out.trans G1
                  clear S0 G0 RO
                  have S1 : Hid (Rx w1 B g cap (P ++ (A0 ++ Y) ++ (X ++ ([] ++ Q)))) := S1
                  have G1 : Hid (w.grownBy w1 (some g)) := G1
                  go_wp2_with fail
                  go_fit (SY1.out gA0 gY0 w1 S1.out)
                  rintro e w2 ⟨rfl, ⟨S, t1, t2, t3⟩, G2⟩
                  have G2 := G1.out.trans G2
                  clear G1 SY1
                  have T1 : Hid (St (A0 ++ Y) S ∧ Up S ∧ Rx w2 B g cap (P ++ S ++ (X ++ ([] ++ Q)))) := ⟨t1, t2, t3⟩
                  clear t1 t2 t3 S1
                  have G2 : Hid (w.grownBy w2 (some g)) := G2
                  go_wp2_with fail
                  obtain ⟨V, hV⟩ : ∃ V, V = (X ++ []) := ⟨_, rfl⟩
                  have T2 : Hid (St (X ++ []) V ∧ Up V ∧ Rx w2 B g cap (P ++ S ++ V ++ Q)) := by rw [hV]; exact ⟨St.refl _, by simpa using U0.out.2.2.1, by simpa using T1.out.2.2⟩
                  have G3 : Hid (w.grownBy w2 (some g)) := G2.out
                  clear G2 hV
                  go_end0
                  have hend := END.out S V w2 T1.out.1 T1.out.2.1 T2.out.1 T2.out.2.1 T2.out.2.2
                  exact ⟨rfl, by simpa [List.append_assoc] using hend, G3.out⟩
              · (try (exfalso; omega))
                all_goals
                  clear nAY nXB
                  have S0 := HRR.out
                  have G0 := HG.out
                  clear HRR HG
                  have U0 := UU.out
                  clear UU
                  have S0 : Hid (Rx wr B g cap (P ++ (A0 ++ X) ++ (Y ++ B1) ++ Q)) := S0
                  have G0 : Hid (w.grownBy wr (some g)) := G0
                  have U0 : Hid (Up A0 ∧ Up Y ∧ Up X ∧ Up B1) := U0
                  go_wp2_with fail
                  go_fit (RO.out gX0 gY0 wr S0.out)
                  rintro e w1 ⟨rfl, S1, G1⟩
                  have G1 := G0.out.trans G1
                  clear S0 G0 RO
                  have S1 : Hid (Rx w1 B g cap (P ++ (A0 ++ Y) ++ (X ++ (B1 ++ Q)))) := S1
                  have G1 : Hid (w.grownBy w1 (some g)) := G1
                  go_wp2_with fail
                  go_fit (SY1.out gA0 gY0 w1 S1.out)
                  rintro e w2 ⟨rfl, ⟨S, t1, t2, t3⟩, G2⟩
                  have G2 := G1.out.trans G2
                  clear G1 SY1
                  have T1 : Hid (St (A0 ++ Y) S ∧ Up S ∧ Rx w2 B g cap (P ++ S ++ (X ++ (B1 ++ Q)))) := ⟨t1, t2, t3⟩
                  clear t1 t2 t3 S1
                  have G2 : Hid (w.grownBy w2 (some g)) := G2
                  go_wp2_with fail
                  go_fit (SY2.out gX0 gB0 S w2 T1.out.1.len T1.out.2.2)
                  rintro e w3 ⟨rfl, ⟨V, t1, t2, t3⟩, G3⟩
                  have G3 := G2.out.trans G3
                  clear G2 SY2
                  have T2 : Hid (St (X ++ B1) V ∧ Up V ∧ Rx w3 B g cap (P ++ S ++ V ++ Q)) := ⟨t1, t2, t3⟩
                  clear t1 t2 t3
                  have G3 : Hid (w.grownBy w3 (some g)) := G3
                  go_wp2_with fail
                  go_end0
                  have hend := END.out S V w3 T1.out.1 T1.out.2.1 T2.out.1 T2.out.2.1 T2.out.2.2
                  exact ⟨rfl, by simpa [List.append_assoc] using hend, G3.out⟩
set_option maxHeartbeats 1000000 in
theorem symMerge_any (B g cap N : Nat) (hL : N ≤ 1000000) : ∀ K : Nat, ∀ (a m b : Nat) (P A T Q : List Cx) (w : World), A.length + T.length < K → 1 ≤ A.length → 1 ≤ T.length → Up A → Up T → P.length = a → a + A.length = m → m + T.length = b → (P ++ (A ++ T) ++ Q).length = N → Rx w B g cap (P ++ (A ++ T) ++ Q) → Calls Tryz.prog 68 #[.slice (some ⟨g, 0, none⟩) N cap, .int .i64 (a : Nat), .int .i64 (m : Nat), .int .i64 (b : Nat), .func (.func 22) #[] #[]] w fun e w' => e = .returned (.tuple #[]) ∧ (∃ S', St (A ++ T) S' ∧ Up S' ∧ Rx w' B g cap (P ++ S' ++ Q)) ∧ w.grownBy w' (some g)
  | 0, a, m, b, P, A, T, Q, w, h, _, _, _, _, _, _, _, _, _ => by omega
  | K + 1, a, m, b, P, A, T, Q, w, h, h1, h2, uA, uT, ha, hm, hb, hN, hR => by
    rcases Nat.lt_or_ge 1 A.length with hA | hA
    · rcases Nat.lt_or_ge 1 T.length with hT | hT
      · exact symStep_any B g cap N K a m b P A T Q w (symMerge_any B g cap N hL K) (by omega) hA hT uA uT ha hm hb hN hL hR
      · obtain ⟨c0, rfl⟩ : ∃ c0, T = [c0] := List.length_eq_one_iff.1 (by omega)
        have := symLast_any B g cap N P c0 A Q w hR hN hL hA uA
        rw [ha, hm, show m + 1 = b by simpa using hb] at this
        exact this
    · obtain ⟨c0, rfl⟩ : ∃ c0, A = [c0] := List.length_eq_one_iff.1 (by omega)
      have := symOne_any B g cap N P c0 T Q w hR hN hL h2 uT
      rw [ha, show a + 1 = m by simpa using hm, show m + T.length = b by simpa using hb] at this
      exact this
end Go.Proofs.YtmkaehnfgdlhdaaGreatDoor
namespace Go.Proofs.YtmkaehnfgdlhdaaGreatDoor
open Go.RowKit

/-- Ranges of bs cells, each sorted. -/
def Runs (bs : Nat) (L : List Cx) : Prop := ∀ q, Up ((L.drop (q * bs)).take bs)
theorem Up.sub {A B : List Cx} (h : Up B) (hs : A.Sublist B) : Up A := List.Pairwise.sublist hs h
theorem Runs.snoc {bs q : Nat} {D S : List Cx} (h : Runs bs D) (hq : D.length = q * bs) (hS : Up S) (hl : S.length ≤ bs) : Runs bs (D ++ S) := by
  intro q'
  rcases Nat.lt_trichotomy q' q with g | g | g
  · have h1 : q' * bs + bs ≤ q * bs := by
      have := Nat.mul_le_mul_right bs (show q' + 1 ≤ q from g)
      rwa [Nat.add_mul, Nat.one_mul] at this
    rw [List.drop_append_of_le_length (by omega), List.take_append_of_le_length (by rw [List.length_drop]; omega)]
    exact h q'
  · subst g
    rw [← hq, List.drop_left]
    exact hS.sub (List.take_sublist _ _)
  · have h1 : q * bs + bs ≤ q' * bs := by
      have := Nat.mul_le_mul_right bs (show q + 1 ≤ q' from g)
      rwa [Nat.add_mul, Nat.one_mul] at this
    rw [List.drop_eq_nil_of_le (by rw [List.length_append]; omega)]
    simp [Up]
theorem Runs.nil (bs : Nat) : Runs bs [] := fun q => by simp [Up]
theorem Runs.all {bs : Nat} {L : List Cx} (h : Runs bs L) (hl : L.length ≤ bs) : Up L := by
  have := h 0
  rwa [Nat.zero_mul, List.drop_zero, List.take_of_length_le hl] at this
/-- The rest of sorted ranges: its first range, its second one. -/
theorem Runs.rest {bs k : Nat} {L E : List Cx} (h : Runs bs L) (hE : L.drop (k * bs) = E) : Runs bs E := by
  intro q
  have := h (k + q)
  rw [Nat.add_mul, ← List.drop_drop, hE] at this
  exact this
theorem Runs.first {bs : Nat} {X R : List Cx} (h : Runs bs (X ++ R)) (hX : X.length ≤ bs) (hR : X.length = bs ∨ R = []) : Up X := by
  have := h 0
  rw [Nat.zero_mul, List.drop_zero] at this
  rcases hR with hR | rfl
  · rwa [List.take_append_of_le_length (by omega), List.take_of_length_le (by omega)] at this
  · rwa [List.append_nil, List.take_of_length_le hX] at this
theorem Runs.second {bs : Nat} {X Y R : List Cx} (h : Runs bs (X ++ (Y ++ R))) (hX : X.length = bs) (hY : Y.length ≤ bs) (hR : Y.length = bs ∨ R = []) : Up Y := by
  have h1 := h.rest (k := 1) (E := Y ++ R) (by rw [Nat.one_mul, ← hX, List.drop_left])
  exact h1.first hY hR
theorem insertNone_any (v fv : Value) (a b : Nat) (w : World) (h : b ≤ a + 1) (hb : a ≤ 1000000) :
    Calls Tryz.prog 67 #[v, .int .i64 a, .int .i64 b, fv] w fun e w' => e = .returned (.tuple #[]) ∧ w' = w := by
  have h1 : ¬ (a : Int) + 1 < (b : Int) := by omega
  have h2 : (a : Int) ≤ 1000000 := by omega
  go_enter Tryz.func67, Tryz.ntmps67
  go_wp2_with fail
  go_loop [8] (fun s8 => s8 = .int .i64 ((a : Int) + 1)) (fun _ => 0)
  case atStart => rfl
  case round =>
    subst hrel
    go_wp2_with fail
    go_end0
    exact ⟨rfl, rfl⟩
theorem insSeg_any (B g cap N a b : Nat) (P S Q : List Cx) (w : World) (hR0 : Rx w B g cap (P ++ S ++ Q)) (hN : (P ++ S ++ Q).length = N) (hL : N ≤ 1000000) (ha : P.length = a) (hb : a + S.length = b) :
    Calls Tryz.prog 67 #[.slice (some ⟨g, 0, none⟩) N cap, .int .i64 (a : Nat), .int .i64 (b : Nat), .func (.func 22) #[] #[]] w fun e w' => e = .returned (.tuple #[]) ∧ (∃ S', St S S' ∧ Up S' ∧ Rx w' B g cap (P ++ S' ++ Q)) ∧ w.grownBy w' (some g) := by
  cases S with
  | nil =>
    simp only [List.length_nil, Nat.add_zero] at hb
    subst hb
    simp only [List.length_append] at hN
    exact (insertNone_any _ _ a a w (by omega) (by omega)).mono fun e w' ⟨h1, h2⟩ => ⟨h1, ⟨[], St.refl _, by simp [Up], by rw [h2]; exact hR0⟩, by rw [h2]; exact ⟨rfl, rfl, rfl, Nat.le_refl _, fun _ _ _ => rfl⟩⟩
  | cons s0 S =>
    have := insertion_any B g cap N P s0 S Q w hR0 hN hL
    rw [ha, show a + S.length + 1 = b by simp only [List.length_cons] at hb; omega] at this
    exact this
set_option maxRecDepth 100000 in
set_option maxHeartbeats 4000000 in
theorem stable_any (B g cap N : Nat) (L : List Cx) (w : World) (hR0 : Rx w B g cap L) (hN : L.length = N) (hL : N ≤ 1000000) :
    Calls Tryz.prog 44 #[.slice (some ⟨g, 0, none⟩) N cap, .int .i64 (N : Nat), .func (.func 22) #[] #[]] w fun e w' => e = .returned (.tuple #[]) ∧ (∃ L', St L L' ∧ Up L' ∧ Rx w' B g cap L') ∧ w.grownBy w' (some g) := by
  have hNz : (N : Int) ≤ 1000000 := by omega
  have IS : Hid (∀ (a b : Nat) (P S Q : List Cx) (w : World), Rx w B g cap (P ++ S ++ Q) → (P ++ S ++ Q).length = N → P.length = a → a + S.length = b → Calls Tryz.prog 67 #[.slice (some ⟨g, 0, none⟩) N cap, .int .i64 (a : Nat), .int .i64 (b : Nat), .func (.func 22) #[] #[]] w fun e w' => e = .returned (.tuple #[]) ∧ (∃ S', St S S' ∧ Up S' ∧ Rx w' B g cap (P ++ S' ++ Q)) ∧ w.grownBy w' (some g)) := fun a b P S Q w h1 h2 h3 h4 => insSeg_any B g cap N a b P S Q w h1 h2 hL h3 h4
  have SM : Hid (∀ (a m b : Nat) (P A T Q : List Cx) (w : World), 1 ≤ A.length → 1 ≤ T.length → Up A → Up T → P.length = a → a + A.length = m → m + T.length = b → (P ++ (A ++ T) ++ Q).length = N → Rx w B g cap (P ++ (A ++ T) ++ Q) → Calls Tryz.prog 68 #[.slice (some ⟨g, 0, none⟩) N cap, .int .i64 (a : Nat), .int .i64 (m : Nat), .int .i64 (b : Nat), .func (.func 22) #[] #[]] w fun e w' => e = .returned (.tuple #[]) ∧ (∃ S', St (A ++ T) S' ∧ Up S' ∧ Rx w' B g cap (P ++ S' ++ Q)) ∧ w.grownBy w' (some g)) := fun a m b P A T Q w h1 h2 h3 h4 h5 h6 h7 h8 h9 => symMerge_any B g cap N hL (A.length + T.length + 1) a m b P A T Q w (by omega) h1 h2 h3 h4 h5 h6 h7 h8 h9
  have HN : Hid (L.length = N ∧ N ≤ 1000000) := ⟨hN, hL⟩
  have HR0 : Hid (Rx w B g cap L) := hR0
  clear hR0 hN hL
  go_enter Tryz.func44, Tryz.ntmps44
  go_wp2_with fail
  go_loopw [7, 8] (fun s7 s8 wr => ∃ (a : Nat) (D E : List Cx), s7 = .int .i64 (a : Nat) ∧ s8 = .int .i64 (a + 20 : Nat) ∧ (∃ q, a = q * 20) ∧ D.length = a ∧ Runs 20 D ∧ St L (D ++ E) ∧ Rx wr B g cap (D ++ E) ∧ w.grownBy wr (some g)) (fun _ s8 _ => N + 20 - (intOf s8).toNat)
  case atStart => exact ⟨0, [], L, rfl, rfl, ⟨0, rfl⟩, rfl, Runs.nil _, St.refl _, HR0.out, ⟨rfl, rfl, rfl, Nat.le_refl _, fun _ _ _ => rfl⟩⟩
  case round =>
    obtain ⟨a, D, E, rfl, rfl, ⟨q, hq⟩, hD, hru, hSt, hR, hG⟩ := hrel
    have hlen : (D ++ E).length = N := by rw [hSt.len]; exact HN.out.1
    have hDE : a + E.length = N := by rw [List.length_append] at hlen; omega
    clear HR0
    by_cases hlt : a + 20 ≤ N
    · obtain ⟨X, E', rfl, hX⟩ : ∃ X E', E = X ++ E' ∧ X.length = 20 := ⟨E.take 20, E.drop 20, (List.take_append_drop _ _).symm, by rw [List.length_take]; omega⟩
      have C1 : Hid (Calls Tryz.prog 67 #[.slice (some ⟨g, 0, none⟩) N cap, .int .i64 (a : Nat), .int .i64 (a + 20 : Nat), .func (.func 22) #[] #[]] wr fun e w' => e = .returned (.tuple #[]) ∧ (∃ S', St X S' ∧ Up S' ∧ Rx w' B g cap (D ++ S' ++ E')) ∧ wr.grownBy w' (some g)) := IS.out a (a + 20) D X E' wr (by rw [List.append_assoc]; exact hR) (by rw [List.append_assoc]; exact hlen) hD (by omega)
      have HF : Hid (∀ S' w', St X S' → Up S' → Rx w' B g cap (D ++ S' ++ E') → wr.grownBy w' (some g) → (∃ q, a + 20 = q * 20) ∧ (D ++ S').length = a + 20 ∧ Runs 20 (D ++ S') ∧ St L ((D ++ S') ++ E') ∧ Rx w' B g cap ((D ++ S') ++ E') ∧ w.grownBy w' (some g)) := fun S' w' s1 u1 r1 g1 => ⟨⟨q + 1, by omega⟩, by rw [List.length_append, s1.len]; omega, hru.snoc (q := q) (by omega) u1 (by rw [s1.len]; omega), hSt.trans (by rw [List.append_assoc]; exact (St.refl D).append (s1.append (St.refl E'))), r1, hG.trans g1⟩
      have hltz : ((a + 20 : Nat) : Int) ≤ (N : Int) := by omega
      have ea : ((a + 20 : Nat) : Int) = (a : Int) + 20 := by omega
      have hlt2 : a + 20 ≤ N := hlt
      clear hSt hR hG hru hlen hDE hD hq hX IS SM
      rw [ea] at hltz C1 ⊢
      go_wp2_with fail
      go_fit C1.out
      rintro e w3 ⟨rfl, ⟨S', s1, u1, r1⟩, g1⟩
      have hf := HF.out S' w3 s1 u1 r1 g1
      have HF2 : Hid ((∃ q, a + 20 = q * 20) ∧ (D ++ S').length = a + 20 ∧ Runs 20 (D ++ S') ∧ St L ((D ++ S') ++ E') ∧ Rx w3 B g cap ((D ++ S') ++ E') ∧ w.grownBy w3 (some g)) := hf
      clear hf HF s1 u1 r1 g1
      go_wp2_with fail
      go_roundw
      case rel => exact ⟨a + 20, D ++ S', E', by go_num, by go_num, HF2.out.1, HF2.out.2.1, HF2.out.2.2.1, HF2.out.2.2.2.1, HF2.out.2.2.2.2.1, HF2.out.2.2.2.2.2⟩
      case measure => (simp [intOf]; try omega)
    · have C1 : Hid (Calls Tryz.prog 67 #[.slice (some ⟨g, 0, none⟩) N cap, .int .i64 (a : Nat), .int .i64 (N : Nat), .func (.func 22) #[] #[]] wr fun e w' => e = .returned (.tuple #[]) ∧ (∃ S', St E S' ∧ Up S' ∧ Rx w' B g cap (D ++ S' ++ [])) ∧ wr.grownBy w' (some g)) := IS.out a N D E [] wr (by rw [List.append_nil]; exact hR) (by rw [List.append_nil]; exact hlen) hD hDE
      have HF : Hid (∀ S' w', St E S' → Up S' → Rx w' B g cap (D ++ S' ++ []) → wr.grownBy w' (some g) → ∃ M, Runs 20 M ∧ St L M ∧ Rx w' B g cap M ∧ w.grownBy w' (some g)) := fun S' w' s1 u1 r1 g1 => ⟨D ++ S', hru.snoc (q := q) (by omega) u1 (by rw [s1.len]; omega), hSt.trans ((St.refl D).append s1), by simpa using r1, hG.trans g1⟩
      have hltz : ¬ ((a + 20 : Nat) : Int) ≤ (N : Int) := by omega
      have ea : ((a + 20 : Nat) : Int) = (a : Int) + 20 := by omega
      have haz : (a : Int) ≤ 1000000 := by omega
      clear hSt hR hG hru hlen hDE hD hq IS
      rw [ea] at hltz ⊢
      go_wp2_with fail
      go_fit C1.out
      rintro e w3 ⟨rfl, ⟨S', s1, u1, r1⟩, g1⟩
      obtain ⟨M, hM⟩ := HF.out S' w3 s1 u1 r1 g1
      have HM : Hid (Runs 20 M ∧ St L M ∧ Rx w3 B g cap M ∧ w.grownBy w3 (some g)) := hM
      clear hM HF s1 u1 r1 g1 C1 hltz
      go_wp2_with fail
      go_loopw [6] (fun s6 wq => ∃ (bs : Nat) (M : List Cx), s6 = .int .i64 (bs : Nat) ∧ 20 ≤ bs ∧ bs ≤ 2000000 ∧ Runs bs M ∧ St L M ∧ Rx wq B g cap M ∧ w.grownBy wq (some g)) (fun s6 _ => N - (intOf s6).toNat)
      case atStart => exact ⟨20, M, rfl, by omega, by omega, HM.out⟩
      case round =>
        clear HM
        obtain ⟨bs, M, rfl, hb1, hb2, hru, hSt, hR, hG⟩ := hrel
        have hlen : M.length = N := by rw [hSt.len]; exact HN.out.1
        by_cases hbn : bs < N
        · have hbz : (bs : Int) < (N : Int) := by omega
          obtain ⟨c, hc⟩ : ∃ c, c = 2 * bs := ⟨_, rfl⟩
          have ec : 2 * (bs : Int) = (c : Int) := by omega
          have ec2 : (bs : Int) * 2 = (c : Int) := by omega
          have hcz : (c : Int) ≤ 2000000 := by omega
          have HC : Hid (c = 2 * bs ∧ 20 ≤ bs ∧ bs < N) := ⟨hc, hb1, hbn⟩
          have HM : Hid (Runs bs M ∧ St L M ∧ Rx wr B g cap M ∧ w.grownBy wr (some g)) := ⟨hru, hSt, hR, hG⟩
          clear hc hru hSt hR hG hlen hb1 hb2 hbn
          go_wp2_with fail
          go_loopw [7, 8] (fun s7 s8 wj => ∃ (a : Nat) (D E : List Cx), s7 = .int .i64 (a : Nat) ∧ s8 = .int .i64 (a + c : Nat) ∧ (∃ q, a = q * c) ∧ D.length = a ∧ Runs c D ∧ Runs bs E ∧ St L (D ++ E) ∧ Rx wj B g cap (D ++ E) ∧ w.grownBy wj (some g)) (fun _ s8 _ => N + c - (intOf s8).toNat)
          case atStart => exact ⟨0, [], M, rfl, by simp, ⟨0, by simp⟩, rfl, Runs.nil _, HM.out.1, by simpa using HM.out.2.1, by simpa using HM.out.2.2.1, HM.out.2.2.2⟩
          case round =>
            clear HM
            obtain ⟨a, D, E, rfl, rfl, ⟨q, hq⟩, hD, hru, hrE, hSt, hR, hG⟩ := hrel
            have hlen : (D ++ E).length = N := by rw [hSt.len]; exact HN.out.1
            have hDE : a + E.length = N := by rw [List.length_append] at hlen; omega
            obtain ⟨b, hb⟩ : ∃ b, b = a + c := ⟨_, rfl⟩
            rw [← hb]
            obtain ⟨m, hm⟩ : ∃ m, m = a + bs := ⟨_, rfl⟩
            have em : (a : Int) + (bs : Int) = (m : Int) := by omega
            have hc := HC.out
            by_cases hlt : b ≤ N
            · obtain ⟨X, E1, rfl, hX⟩ : ∃ X E', E = X ++ E' ∧ X.length = bs := ⟨E.take bs, E.drop bs, (List.take_append_drop _ _).symm, by rw [List.length_take]; omega⟩
              rw [List.length_append] at hDE
              obtain ⟨Y, E2, rfl, hY⟩ : ∃ Y E', E1 = Y ++ E' ∧ Y.length = bs := ⟨E1.take bs, E1.drop bs, (List.take_append_drop _ _).symm, by rw [List.length_take]; omega⟩
              have uX : Up X := hrE.first (by omega) (.inl hX)
              have uY : Up Y := hrE.second hX (by omega) (.inl hY)
              have rE : Runs bs E2 := by
                have := hrE.rest (k := 2) (E := E2) (by rw [show 2 * bs = (X ++ Y).length by rw [List.length_append]; omega, ← List.append_assoc, List.drop_left])
                exact this
              have C1 : Hid (Calls Tryz.prog 68 #[.slice (some ⟨g, 0, none⟩) N cap, .int .i64 (a : Nat), .int .i64 (m : Nat), .int .i64 (b : Nat), .func (.func 22) #[] #[]] wr fun e w' => e = .returned (.tuple #[]) ∧ (∃ S', St (X ++ Y) S' ∧ Up S' ∧ Rx w' B g cap (D ++ S' ++ E2)) ∧ wr.grownBy w' (some g)) := SM.out a m b D X Y E2 wr (by omega) (by omega) uX uY hD (by omega) (by omega) (by rw [← hlen]; simp) (by simpa using hR)
              have HF : Hid (∀ S' w', St (X ++ Y) S' → Up S' → Rx w' B g cap (D ++ S' ++ E2) → wr.grownBy w' (some g) → (∃ q, b = q * c) ∧ (D ++ S').length = b ∧ Runs c (D ++ S') ∧ Runs bs E2 ∧ St L ((D ++ S') ++ E2) ∧ Rx w' B g cap ((D ++ S') ++ E2) ∧ w.grownBy w' (some g)) := fun S' w' s1 u1 r1 g1 => ⟨⟨q + 1, by rw [hb, hq, Nat.add_mul, Nat.one_mul]⟩, by rw [List.length_append, s1.len, List.length_append]; omega, hru.snoc (q := q) (by omega) u1 (by rw [s1.len, List.length_append]; omega), rE, hSt.trans (by rw [List.append_assoc, ← List.append_assoc X]; exact (St.refl D).append (s1.append (St.refl E2))), r1, hG.trans g1⟩
              have hltz : (b : Int) ≤ (N : Int) := by omega
              have hmz : (m : Int) ≤ 2000000 := by omega
              obtain ⟨b2, hb2⟩ : ∃ b2, b2 = b + c := ⟨_, rfl⟩
              have eb : (b : Int) + (c : Int) = (b2 : Int) := by omega
              have HB2 : Hid (b2 = b + c) := hb2
              have hb2z : (b2 : Int) ≤ 4000000 := by omega
              have HBC : Hid (b = a + c ∧ 20 ≤ bs ∧ c = 2 * bs ∧ b ≤ N) := ⟨hb, by omega, hc.1, hlt⟩
              clear hSt hR hG hru hlen hDE hD hq hX hY SM hb hm hrE uX uY rE hc hb2
              go_wp2_with fail
              go_fit C1.out
              rintro e w5 ⟨rfl, ⟨S', s1, u1, r1⟩, g1⟩
              have hf := HF.out S' w5 s1 u1 r1 g1
              have HF2 : Hid ((∃ q, b = q * c) ∧ (D ++ S').length = b ∧ Runs c (D ++ S') ∧ Runs bs E2 ∧ St L ((D ++ S') ++ E2) ∧ Rx w5 B g cap ((D ++ S') ++ E2) ∧ w.grownBy w5 (some g)) := hf
              clear hf HF s1 u1 r1 g1
              go_wp2_with fail
              go_roundw
              case rel => exact ⟨b, D ++ S', E2, rfl, by rw [HB2.out], HF2.out⟩
              case measure => have := HBC.out; have := HB2.out; (simp [intOf]; try omega)
            · have hltz : ¬ (b : Int) ≤ (N : Int) := by omega
              have hmz : (m : Int) ≤ 2000000 := by omega
              have hmeas : Hid (bs < c ∧ bs < N) := ⟨by omega, by omega⟩
              have HB2 : Hid (20 ≤ c ∧ c ≤ 2000000) := ⟨by omega, by omega⟩
              by_cases hmn : m < N
              · obtain ⟨X, Y, rfl, hX⟩ : ∃ X E', E = X ++ E' ∧ X.length = bs := ⟨E.take bs, E.drop bs, (List.take_append_drop _ _).symm, by rw [List.length_take]; omega⟩
                rw [List.length_append] at hDE
                have uX : Up X := hrE.first (by omega) (.inl hX)
                have uY : Up Y := by
                  have h2 : Runs bs (X ++ (Y ++ [])) := by rw [List.append_nil]; exact hrE
                  exact h2.second hX (by omega) (.inr rfl)
                have C1 : Hid (Calls Tryz.prog 68 #[.slice (some ⟨g, 0, none⟩) N cap, .int .i64 (a : Nat), .int .i64 (m : Nat), .int .i64 (N : Nat), .func (.func 22) #[] #[]] wr fun e w' => e = .returned (.tuple #[]) ∧ (∃ S', St (X ++ Y) S' ∧ Up S' ∧ Rx w' B g cap (D ++ S' ++ [])) ∧ wr.grownBy w' (some g)) := SM.out a m N D X Y [] wr (by omega) (by omega) uX uY hD (by omega) (by omega) (by rw [← hlen]; simp) (by simpa using hR)
                have HF : Hid (∀ S' w', St (X ++ Y) S' → Up S' → Rx w' B g cap (D ++ S' ++ []) → wr.grownBy w' (some g) → Runs c (D ++ S') ∧ St L (D ++ S') ∧ Rx w' B g cap (D ++ S') ∧ w.grownBy w' (some g)) := fun S' w' s1 u1 r1 g1 => ⟨hru.snoc (q := q) (by omega) u1 (by rw [s1.len, List.length_append]; omega), hSt.trans ((St.refl D).append s1), by simpa using r1, hG.trans g1⟩
                have hmz2 : (m : Int) < (N : Int) := by omega
                clear hSt hR hG hru hlen hDE hD hq hX SM hb hm hrE uX uY hc hlt hmn
                go_wp2_with fail
                go_fit C1.out
                rintro e w5 ⟨rfl, ⟨S', s1, u1, r1⟩, g1⟩
                have hf := HF.out S' w5 s1 u1 r1 g1
                have HF2 : Hid (Runs c (D ++ S') ∧ St L (D ++ S') ∧ Rx w5 B g cap (D ++ S') ∧ w.grownBy w5 (some g)) := hf
                clear hf HF s1 u1 r1 g1
                go_wp2_with fail
                go_roundw
                case rel => exact ⟨c, D ++ S', rfl, HB2.out.1, HB2.out.2, HF2.out⟩
                case measure => have := hmeas.out; (simp [intOf]; try omega)
              · have hmz2 : ¬ (m : Int) < (N : Int) := by omega
                have uE : Up E := by
                  have h2 : Runs bs (E ++ []) := by rw [List.append_nil]; exact hrE
                  exact h2.first (by omega) (.inr rfl)
                have HF2 : Hid (Runs c (D ++ E) ∧ St L (D ++ E) ∧ Rx wr B g cap (D ++ E) ∧ w.grownBy wr (some g)) := ⟨hru.snoc (q := q) (by omega) uE (by omega), hSt, hR, hG⟩
                clear hSt hR hG hru hlen hDE hD hq SM hb hm hrE uE hc hlt hmn
                go_wp2_with fail
                go_roundw
                case rel => exact ⟨c, D ++ E, rfl, HB2.out.1, HB2.out.2, HF2.out⟩
                case measure => have := hmeas.out; (simp [intOf]; try omega)
        · have hbz : ¬ (bs : Int) < (N : Int) := by omega
          have HF : Hid (∃ L', St L L' ∧ Up L' ∧ Rx wr B g cap L') := ⟨M, hSt, hru.all (by omega), hR⟩
          clear hru hSt hR hlen
          go_wp2_with fail
          go_end0
          exact ⟨rfl, HF.out, hG⟩
end Go.Proofs.YtmkaehnfgdlhdaaGreatDoor
namespace Go.Proofs.YtmkaehnfgdlhdaaGreatDoor
open Go.RowKit

theorem isNil (cap : Nat) (w : World) : (binOp BinOp.eql 22 (.slice none 0 cap) (.slice none 0 0)).run Tryz.prog w = .ok (.bool true) w := by kernel_rfl
theorem notNil (a : Addr) (n cap : Nat) (w : World) : (binOp BinOp.eql 22 (.slice (some a) n cap) (.slice none 0 0)).run Tryz.prog w = .ok (.bool false) w := by kernel_rfl
set_option maxRecDepth 100000 in
set_option maxHeartbeats 1000000 in
theorem cloneX_any (ao : Option Addr) (l : List Cx) (cap : Nat) (w : World) (hs : XSees w ao l) (hn : ao = none → l.length = 0) (hl : l.length ≤ 1000000) :
    Calls Tryz.prog 20 #[.slice ao l.length cap] w fun e w' => ∃ v, e = .returned v ∧ w'.ownsRow w.heap.size 34 10 v l.length (l.flatMap xs10) ∧ Below w.heap.size w w' := by
  obtain ⟨i1, hi1, hy0, hy1, hy2⟩ := infoX infoCx
  cases ao with
  | none =>
    obtain rfl : l = [] := List.eq_nil_of_length_eq_zero (hn rfl)
    simp only [List.length_nil]
    clear hs hn
    have hq := isNil cap w
    go_enter Tryz.func20, Tryz.ntmps20
    go_wp2_with fail
    go_ret
    exact ⟨_, rfl, World.ownsRow_nil _ _ _ _, Below.refl _ _⟩
  | some a =>
    have hlz : (l.length : Int) ≤ 1000000 := by omega
    have hq := notNil a l.length cap w
    have hbe : Below w.heap.size w (w.alloc (.cells #[] 34)) := (Below.refl _ _).alloc (Nat.le_refl _) _
    have hs2 := hs.below hbe (Nat.le_refl _)
    go_enter Tryz.func20, Tryz.ntmps20
    go_wp2_with (at_builtin; go_must (refine wpList_append_grew _ rfl _ _ 22 22 rfl w.heap.size 34 i1 _ 10 112 Tryz.underlying22 hi1 hy0 hy1 hy2 rfl _ 0 [] rfl (owns_noneX w w.heap.size (Nat.le_refl _)) _ l.length (l.flatMap xs10) rfl (src_cells hs2 hn cap) (by unfold maxLen; omega) (by omega) (by rw [World.size_alloc]; omega) ?_; intro v2 w2 ho2 hg2; simp only [Nat.zero_add, List.nil_append] at ho2))
    go_ret
    refine ⟨_, rfl, ho2, hbe.trans (hg2.below (by rw [World.size_alloc]; omega) (fun g hg => ?_))⟩
    obtain rfl := Option.some.inj hg
    exact Nat.le_refl _
end Go.Proofs.YtmkaehnfgdlhdaaGreatDoor
namespace Go.Proofs.YtmkaehnfgdlhdaaGreatDoor
open Go.RowKit

theorem stableNone_any (v : Value) (w : World) :
    Calls Tryz.prog 44 #[v, .int .i64 0, .func (.func 22) #[] #[]] w fun e w' => e = .returned (.tuple #[]) ∧ w' = w := by
  have C : Hid (∀ w : World, Calls Tryz.prog 67 #[v, .int .i64 0, .int .i64 0, .func (.func 22) #[] #[]] w fun e w' => e = .returned (.tuple #[]) ∧ w' = w) := fun w => insertNone_any v _ 0 0 w (by omega) (by omega)
  go_enter Tryz.func44, Tryz.ntmps44
  go_wp2_with fail
  go_loop [7, 8] (fun s7 s8 => s7 = .int .i64 0 ∧ s8 = .int .i64 20) (fun _ _ => 0)
  case atStart => exact ⟨rfl, rfl⟩
  case round =>
    obtain ⟨rfl, rfl⟩ := hrel
    go_wp2_with fail
    refine (C.out _).mono ?_
    rintro e w1 ⟨rfl, rfl⟩
    go_wp2_with fail
    go_loop [6] (fun s6 => s6 = .int .i64 20) (fun _ => 0)
    case atStart => rfl
    case round =>
      subst hrel
      go_wp2_with fail
      go_end0
      exact ⟨rfl, rfl⟩
set_option maxHeartbeats 1000000 in
theorem sortStable_any (B : Nat) (v : Value) (L : List Cx) (w : World) (ho : w.ownsRow B 34 10 v L.length (L.flatMap xs10)) (hL : L.length ≤ 1000000) :
    Calls Tryz.prog 21 #[v, .func (.func 22) #[] #[]] w fun e w' => e = .returned (.tuple #[]) ∧ (∃ S, St L S ∧ Up S ∧ w'.ownsRow B 34 10 v S.length (S.flatMap xs10)) ∧ w.grownBy w' v.ownBlock := by
  have hlz : (L.length : Int) ≤ 1000000 := by omega
  rcases ho.2 with ⟨rfl, hn⟩ | ⟨g, cap, cur, hv, _⟩
  · obtain rfl : L = [] := List.eq_nil_of_length_eq_zero hn
    have C : Hid (∀ w : World, Calls Tryz.prog 44 #[.slice none 0 0, .int .i64 0, .func (.func 22) #[] #[]] w fun e w' => e = .returned (.tuple #[]) ∧ w' = w) := fun w => stableNone_any _ w
    have HF : Hid (∃ S, St ([] : List Cx) S ∧ Up S ∧ w.ownsRow B 34 10 (.slice none 0 0) S.length (S.flatMap xs10)) := ⟨[], St.refl _, by simp [Up], ho⟩
    clear ho
    go_enter Tryz.func21, Tryz.ntmps21
    go_wp2_with fail
    refine (C.out _).mono ?_
    rintro e w1 ⟨rfl, rfl⟩
    go_wp2_with fail
    go_end0
    exact ⟨rfl, HF.out, ⟨rfl, rfl, rfl, Nat.le_refl _, fun _ _ _ => rfl⟩⟩
  · subst hv
    obtain ⟨N, hN⟩ : ∃ N, L.length = N := ⟨_, rfl⟩
    have ho' : Rx w B g cap L := ho
    rw [hN]
    have C : Hid (Calls Tryz.prog 44 #[.slice (some ⟨g, 0, none⟩) N cap, .int .i64 (N : Nat), .func (.func 22) #[] #[]] w fun e w' => e = .returned (.tuple #[]) ∧ (∃ L', St L L' ∧ Up L' ∧ Rx w' B g cap L') ∧ w.grownBy w' (some g)) := stable_any B g cap N L w ho' hN (by omega)
    have HN : Hid (L.length = N) := hN
    clear ho ho' hlz hN
    go_enter Tryz.func21, Tryz.ntmps21
    go_wp2_with fail
    refine C.out.mono ?_
    rintro e w1 ⟨rfl, ⟨S, s1, u1, r1⟩, g1⟩
    have HF : Hid (∃ S, St L S ∧ Up S ∧ w1.ownsRow B 34 10 (.slice (some ⟨g, 0, none⟩) N cap) S.length (S.flatMap xs10)) := ⟨S, s1, u1, by
      have r2 : w1.ownsRow B 34 10 (.slice (some ⟨g, 0, none⟩) S.length cap) S.length (S.flatMap xs10) := r1
      have e1 : S.length = N := s1.len.trans HN.out
      rw [e1] at r2 ⊢; exact r2⟩
    clear s1 u1 r1
    go_wp2_with fail
    go_end0
    exact ⟨rfl, HF.out, g1⟩
set_option maxRecDepth 100000 in
set_option maxHeartbeats 1000000 in
theorem norm_any (ao : Option Addr) (l : List Cx) (cap : Nat) (w : World) (hs : XSees w ao l) (hn : ao = none → l.length = 0) (hl : l.length ≤ 1000000) :
    Calls Tryz.prog 8 #[.slice ao l.length cap] w fun e w' => ∃ v, e = .returned v ∧ w'.ownsRow w.heap.size 34 10 v (nrm l).length ((nrm l).flatMap xs10) ∧ Below w.heap.size w w' := by
  have C : Hid (Calls Tryz.prog 20 #[.slice ao l.length cap] w fun e w' => ∃ v, e = .returned v ∧ w'.ownsRow w.heap.size 34 10 v l.length (l.flatMap xs10) ∧ Below w.heap.size w w') := cloneX_any ao l cap w hs hn hl
  have HL : Hid (l.length ≤ 1000000) := hl
  clear hs hn hl
  go_enter Tryz.func8, Tryz.ntmps8
  go_wp2_with fail
  refine C.out.mono ?_
  rintro e w1 ⟨v, rfl, ho1, hb1⟩
  have S1 : Hid (Calls Tryz.prog 21 #[v, .func (.func 22) #[] #[]] w1 fun e w' => e = .returned (.tuple #[]) ∧ (∃ S, St l S ∧ Up S ∧ w'.ownsRow w.heap.size 34 10 v S.length (S.flatMap xs10)) ∧ w1.grownBy w' v.ownBlock) := sortStable_any w.heap.size v l w1 ho1 HL.out
  have HO : Hid (∀ g, v.ownBlock = some g → w.heap.size ≤ g) := fun g hg => (ho1.lt g hg).1
  have HB1 : Hid (Below w.heap.size w w1) := hb1
  clear ho1 hb1 C
  go_wp2_with fail
  refine S1.out.mono ?_
  rintro e w2 ⟨rfl, ⟨S, s1, u1, r1⟩, g1⟩
  obtain ⟨ao2, cap2, hv, hx, -⟩ := owns_xsees r1
  have J1 : Hid (Calls Tryz.prog 23 #[.slice ao2 S.length cap2, .func (.func 22) #[] #[], .func (.func 24) #[] #[]] w2 fun e w' => ∃ v, e = .returned v ∧ w'.ownsRow w2.heap.size 34 10 v (jr S).length ((jr S).flatMap xs10) ∧ Below w2.heap.size w2 w') := joinRuns_any ao2 S cap2 w2 hx (by rw [s1.len]; exact HL.out)
  have HB2 : Hid (Below w.heap.size w w2) := HB1.out.trans ⟨g1.os, g1.tape, g1.output, g1.size, fun k hk => g1.block k (Nat.lt_of_lt_of_le hk HB1.out.size) (fun e => by have := HO.out k e.symm; omega)⟩
  have HE : Hid (jr S = nrm l) := jr_nrm s1 u1
  rw [hv]
  clear hv r1 s1 u1 g1 hx S1 HO HB1
  go_wp2_with fail
  refine J1.out.mono ?_
  rintro e w3 ⟨v3, rfl, o3, b3⟩
  rw [HE.out] at o3
  have HF : Hid (w3.ownsRow w.heap.size 34 10 v3 (nrm l).length ((nrm l).flatMap xs10) ∧ Below w.heap.size w w3) := by
    refine ⟨?_, HB2.out.trans (b3.mono HB2.out.size)⟩
    obtain ⟨h1, h2⟩ := o3
    refine ⟨h1, ?_⟩
    rcases h2 with h2 | ⟨g', cap', cur, h2, h3, h4⟩
    · exact .inl h2
    · exact .inr ⟨g', cap', cur, h2, Nat.le_trans HB2.out.size h3, h4⟩
  clear o3 b3
  go_wp2_with fail
  go_ret
  exact ⟨_, rfl, HF.out.1, HF.out.2⟩
end Go.Proofs.YtmkaehnfgdlhdaaGreatDoor
namespace Go.Proofs.YtmkaehnfgdlhdaaGreatDoor
open Go.RowKit

/-- The version of the first cell of a key. -/
noncomputable def fnd (k : Kb) : List Cx → Vr × Bool
  | [] => (zeroV, false)
  | c :: l => if @decide (c.k = k) (Classical.propDecidable _) then (c.v, true) else fnd k l
theorem fnd_hit {k : Kb} {c : Cx} (l : List Cx) (h : c.k = k) : fnd k (c :: l) = (c.v, true) := by unfold fnd; rw [if_pos (@decide_eq_true _ (Classical.propDecidable _) h)]
theorem fnd_miss {k : Kb} {c : Cx} (l : List Cx) (h : c.k ≠ k) : fnd k (c :: l) = fnd k l := by
  rw [fnd, if_neg (by rw [@decide_eq_false _ (Classical.propDecidable _) h]; simp)]
theorem fnd_drop {k : Kb} {l : List Cx} : ∀ i, i ≤ l.length → (∀ j c, j < i → l[j]? = some c → c.k ≠ k) → fnd k l = fnd k (l.drop i)
  | 0, _, _ => rfl
  | i + 1, hi, h => by
    have hlt : i < l.length := by omega
    rw [fnd_drop i (by omega) (fun j c hj hc => h j c (by omega) hc), List.drop_eq_getElem_cons hlt]
    exact fnd_miss _ (h i _ (by omega) (List.getElem?_eq_getElem hlt))
theorem key_first {t1 t2 p1 p2 c1 c2 : ByteArray} {r1 r2 : Int} (h : ¬ (⟨t1, p1, r1, c1⟩ : Kb) = ⟨t2, p2, r2, c2⟩) :
    ¬ t1.toList = t2.toList ∨ (t1 = t2 ∧ ¬ p1.toList = p2.toList) ∨ (t1 = t2 ∧ p1 = p2 ∧ ¬ r1 = r2) ∨ (t1 = t2 ∧ p1 = p2 ∧ r1 = r2 ∧ ¬ c1.toList = c2.toList) := by
  have e : ∀ {a b : ByteArray}, a.toList = b.toList → a = b := fun {a b} h => by rw [ba_list, ba_list] at h; exact nb_inj.1 h
  by_cases e1 : t1.toList = t2.toList
  · by_cases e2 : p1.toList = p2.toList
    · by_cases e3 : r1 = r2
      · refine Or.inr (Or.inr (Or.inr ⟨e e1, e e2, e3, fun e4 => h ?_⟩))
        rw [e e1, e e2, e3, e e4]
      · exact Or.inr (Or.inr (Or.inl ⟨e e1, e e2, e3⟩))
    · exact Or.inr (Or.inl ⟨e e1, e2⟩)
  · exact Or.inl e1
theorem find_box (w : World) (k : Kb) : ∃ wa, wa = (w.alloc (.cells #[.string k.t, .string k.p, .int .i64 k.r, .string k.c] 24)).alloc (.cells zeroV.a 32) ∧ (wa.cell? ⟨w.heap.size, 0, none⟩ = some (.string k.t) ∧ wa.cell? ⟨w.heap.size, 1, none⟩ = some (.string k.p) ∧ wa.cell? ⟨w.heap.size, 2, none⟩ = some (.int .i64 k.r) ∧ wa.cell? ⟨w.heap.size, 3, none⟩ = some (.string k.c)) ∧ wa.heap[w.heap.size + 1]? = some (.cells zeroV.a 32) ∧ wa.heap.size = w.heap.size + 1 + 1 ∧ Below w.heap.size w wa := by
  refine ⟨_, rfl, ⟨(box_cells w _ _ _ 0 _ rfl).1, (box_cells w _ _ _ 1 _ rfl).1, (box_cells w _ _ _ 2 _ rfl).1, (box_cells w _ _ _ 3 _ rfl).1⟩, ?_, by rw [World.size_alloc, World.size_alloc], ((Below.refl _ _).alloc (Nat.le_refl _) _).alloc (by simp) _⟩
  have := heap_alloc_new (w.alloc (.cells #[.string k.t, .string k.p, .int .i64 k.r, .string k.c] 24)) (.cells zeroV.a 32)
  rwa [World.size_alloc] at this
end Go.Proofs.YtmkaehnfgdlhdaaGreatDoor
namespace Go.Proofs.YtmkaehnfgdlhdaaGreatDoor
open Go.RowKit

theorem jnC_assoc (a b c : Cx) : jnC (jnC a b) c = jnC a (jnC b c) := by unfold jnC; rw [jn_assoc]
theorem jnC_self (a : Cx) : jnC a a = a := by unfold jnC; rw [jn_self]
theorem good_v {c : Cx} (h : goodC c = true) : goodV (decide (c.k.c.size = 0)) c.v = true := by
  unfold goodC at h; exact (Bool.and_eq_true_iff.1 h).2
theorem jnC_comm {a b : Cx} (ha : goodC a = true) (hb : goodC b = true) (hk : a.k = b.k) : jnC a b = jnC b a := by
  have h1 := good_v ha
  have h2 := good_v hb
  rw [hk] at h1
  unfold jnC
  rw [jn_comm h1 h2, hk]
theorem jnC_good {a b : Cx} (ha : goodC a = true) (hb : goodC b = true) (hk : a.k = b.k) : goodC (jnC a b) = true := by
  have h1 := good_v ha
  have h2 := good_v hb
  have h3 : goodK a.k.ky = true := by unfold goodC at ha; exact (Bool.and_eq_true_iff.1 ha).1
  rw [← hk] at h2
  have := jn_good h1 h2
  show (goodK a.k.ky && goodV (decide (a.k.c.size = 0)) (jn a.v b.v)) = true
  rw [h3, this]; rfl
/-- Two joins, one behind the other. -/
def jo : List Cx → List Cx → List Cx
  | [], y => y
  | x :: _, [] => [x]
  | x :: _, y :: _ => [jnC x y]
theorem fS_jo (a b : List Cx) (x : Cx) : fS (jo a b) x = jo a (fS b x) := by
  cases a with
  | nil => rfl
  | cons p a =>
    cases b with
    | nil => rfl
    | cons q b => show [jnC (jnC p q) x] = [jnC p (jnC q x)]; rw [jnC_assoc]
theorem fK_one (l : List Cx) : (fK l).length ≤ 1 := by cases l <;> simp [fK]
theorem jo_nil {a : List Cx} (h : a.length ≤ 1) : jo a [] = a := by
  match a, h with
  | [], _ => rfl
  | [x], _ => rfl
theorem fK_append (a b : List Cx) : fK (a ++ b) = jo (fK a) (fK b) := by
  refine snoc_ind (P := fun b => fK (a ++ b) = jo (fK a) (fK b)) ?_ (fun l x ih => ?_) b
  · rw [List.append_nil]; exact (jo_nil (fK_one a)).symm
  · rw [← List.append_assoc, fK_snoc, ih, fS_jo, ← fK_snoc]
/-- Good cells of one key. -/
def OneGood (κ : Kb) (l : List Cx) : Prop := ∀ c ∈ l, goodC c = true ∧ c.k = κ
theorem OneGood.fK {κ : Kb} {l : List Cx} (h : OneGood κ l) : OneGood κ (fK l) := by
  refine snoc_ind (P := fun l => OneGood κ l → OneGood κ (Go.Proofs.YtmkaehnfgdlhdaaGreatDoor.fK l)) (fun _ c hc => by cases hc) (fun l x ih h => ?_) l h
  have h1 := ih fun c hc => h c (by simp [hc])
  have hx := h x (by simp)
  rw [fK_snoc]
  intro c hc
  match hl : Go.Proofs.YtmkaehnfgdlhdaaGreatDoor.fK l, h1 with
  | [], _ =>
    rw [hl] at hc
    obtain rfl : c = x := by simpa [fS] using hc
    exact hx
  | y :: r, h1 =>
    rw [hl] at hc
    obtain rfl : c = jnC y x := by simpa [fS] using hc
    have hy := h1 y (by simp)
    exact ⟨jnC_good hy.1 hx.1 (hy.2.trans hx.2.symm), hy.2⟩
theorem jo_comm {κ : Kb} {a b : List Cx} (ha : OneGood κ a) (hb : OneGood κ b) (la : a.length ≤ 1) (lb : b.length ≤ 1) : jo a b = jo b a := by
  match a, la, b, lb with
  | [], _, [], _ => rfl
  | [], _, [y], _ => rfl
  | [x], _, [], _ => rfl
  | [x], _, [y], _ =>
    have h1 := ha x (by simp)
    have h2 := hb y (by simp)
    show [jnC x y] = [jnC y x]
    rw [jnC_comm h1.1 h2.1 (h1.2.trans h2.2.symm)]
theorem jo_self {a : List Cx} (h : a.length ≤ 1) : jo a a = a := by
  match a, h with
  | [], _ => rfl
  | [x], _ => show [jnC x x] = [x]; rw [jnC_self]
theorem fK_comm {κ : Kb} {a b : List Cx} (ha : OneGood κ a) (hb : OneGood κ b) : fK (a ++ b) = fK (b ++ a) := by
  rw [fK_append, fK_append, jo_comm ha.fK hb.fK (fK_one a) (fK_one b)]
theorem fK_rev {κ : Kb} : ∀ {l : List Cx}, OneGood κ l → fK l.reverse = fK l
  | [], _ => rfl
  | c :: l, h => by
    have hl : OneGood κ l := fun x hx => h x (by simp [hx])
    have hc : OneGood κ [c] := fun x hx => h x (by simp at hx; simp [hx])
    rw [List.reverse_cons, fK_append, fK_rev hl, ← fK_append, fK_comm hl hc]; rfl
theorem ofK_rev (κ : Kb) (l : List Cx) : ofK κ l.reverse = (ofK κ l).reverse := by unfold ofK; rw [List.filter_reverse]
theorem ofK_good {κ : Kb} {l : List Cx} (h : ∀ c ∈ l, goodC c = true) : OneGood κ (ofK κ l) := fun c hc => by
  obtain ⟨h1, h2⟩ := ofK_mem.1 hc
  exact ⟨h c h1, h2⟩
theorem nrm_rev {l : List Cx} (h : ∀ c ∈ l, goodC c = true) : nrm l.reverse = nrm l :=
  rise_ext (nrm_rising _) (nrm_rising _) fun κ => by rw [nrm_ofK, nrm_ofK, ofK_rev, fK_rev (ofK_good h)]
/-- A rising list is its own Norm. -/
theorem fK_of_rising {L : List Cx} (h : Rising L) (κ : Kb) : fK (ofK κ L) = ofK κ L := by
  induction L with
  | nil => rfl
  | cons x L ih =>
    obtain ⟨h1, h2⟩ := List.pairwise_cons.1 h
    by_cases hx : x.k = κ
    · have hn : ofK κ L = [] := ofK_nil fun z hz e => kx_ne (h1 z hz) (hx.trans e.symm)
      rw [ofK_cons_hit _ hx, hn]; rfl
    · rw [ofK_cons_miss _ hx]; exact ih h2
theorem nrm_of_rising {L : List Cx} (h : Rising L) : nrm L = L := rise_ext (nrm_rising _) h fun κ => by rw [nrm_ofK, fK_of_rising h]
theorem fnd_mem {L : List Cx} (h : Rising L) {c : Cx} (hc : c ∈ L) : fnd c.k L = (c.v, true) := by
  induction L with
  | nil => cases hc
  | cons x L ih =>
    obtain ⟨h1, h2⟩ := List.pairwise_cons.1 h
    rcases List.mem_cons.1 hc with rfl | hc
    · exact fnd_hit _ rfl
    · rw [fnd_miss _ (kx_ne (h1 c hc))]; exact ih h2 hc
def goods (l : List Cx) : List Cx := l.filter goodC
theorem goods_all (l : List Cx) : ∀ c ∈ goods l, goodC c = true := fun _ hc => (List.mem_filter.1 hc).2
theorem goods_snoc (l : List Cx) (x : Cx) : goods (l ++ [x]) = if goodC x then goods l ++ [x] else goods l := by
  unfold goods
  rw [List.filter_append]
  by_cases h : goodC x = true
  · rw [if_pos h, List.filter_cons_of_pos h]; rfl
  · rw [if_neg h, List.filter_cons_of_neg h]; simp
end Go.Proofs.YtmkaehnfgdlhdaaGreatDoor
namespace Go.Proofs.YtmkaehnfgdlhdaaGreatDoor
open Go.RowKit

set_option maxRecDepth 100000 in
set_option maxHeartbeats 1600000 in
theorem weigh9_any (ao : Option Addr) (l : List Cx) (cap m : Nat) (w : World) (ha : XSees w ao l) (hm : m ≤ 500) (hl : l.length ≤ 140737488355328) (hw : ∀ c ∈ l, wtX c ≤ 562949953421312) :
    Calls Tryz.prog 4 #[.slice ao l.length cap, .int .i64 m] w fun e w' => (∃ z : Nat, e = .returned (.int .i64 z) ∧ z ≤ 1000000000000000 ∧ (z ≤ m → l.length ≤ m ∧ wtXs l ≤ 20 * m)) ∧ Below w.heap.size w w' := by
  go_enter Tryz.func4, Tryz.ntmps4
  go_wp2
  go_loopw [5, 10] (fun s5 s10 wr => ∃ i z : Nat, i ≤ l.length ∧ s5 = .int .i64 z ∧ s10 = .int .i64 i ∧ i ≤ z ∧ z ≤ m ∧ wtXs (l.take i) ≤ 20 * z ∧ Below w.heap.size w wr) (fun _ s10 _ => l.length - (intOf s10).toNat)
  case atStart => exact ⟨0, 0, by omega, rfl, rfl, by omega, by omega, by simp [wtXs], Below.refl _ _⟩
  case round =>
    obtain ⟨i, z, hi, rfl, rfl, hiz, hz, hwz, hbr⟩ := hrel
    rcases Nat.lt_or_ge i l.length with hlt | hge
    · have hc : l[i]? = some l[i] := List.getElem?_eq_getElem hlt
      have hcw := hw l[i] (List.getElem_mem hlt)
      have hst : wtXs (l.take (i + 1)) = wtXs (l.take i) + wtX l[i] := by
        rw [takeX_succ hc]
        unfold wtXs
        rw [List.map_append, List.sum_append]
        simp
      obtain ⟨b1, o1, rfl, h1⟩ := (ha.below hbr (Nat.le_refl _)) i _ hc
      generalize l[i] = c at *
      obtain ⟨⟨table, part, row, col⟩, ⟨time, dead, loc, kind, num, s⟩⟩ := c
      obtain ⟨k0, k1, k2, k3, k4, k5, k6, k7, k8, k9⟩ := h1
      simp only at k0 k1 k2 k3 k4 k5 k6 k7 k8 k9
      unfold wtX at hcw hst
      simp only at hcw hst
      have hb2 : Below w.heap.size w (wr.alloc (.cells (Cx.a ⟨⟨table, part, row, col⟩, ⟨time, dead, loc, kind, num, s⟩⟩) 34)) := hbr.alloc hbr.size _
      have Hst : Hid (wtXs (l.take (i + 1)) = wtXs (l.take i) + (table.size + part.size + col.size + s.size)) := hst
      clear hc ha hst hw
      have hsum : (table.size : Int) + part.size + col.size + s.size ≤ 562949953421312 := by omega
      by_cases hbig : z + (1 + (table.size + part.size + col.size + s.size) / 20) ≤ m
      · have hq : ¬ ((m : Int) < (z : Int) + (1 + ((table.size : Int) + part.size + col.size + s.size) / 20)) := by omega
        go_wp2
        go_roundw
        case rel =>
          refine ⟨i + 1, z + (1 + (table.size + part.size + col.size + s.size) / 20), by omega, ?_, by go_num, by omega, hbig, ?_, hb2⟩
          · congr 1
          · rw [Hst.out]
            omega
        case measure => simp [intOf]; omega
      · have hq : ((m : Int) < (z : Int) + (1 + ((table.size : Int) + part.size + col.size + s.size) / 20)) := by omega
        go_wp2
        go_ret
        refine ⟨⟨z + (1 + (table.size + part.size + col.size + s.size) / 20), ret_int (by omega), by omega, fun h => absurd h hbig⟩, hb2⟩
    · obtain rfl : i = l.length := by omega
      rw [List.take_length] at hwz
      clear ha hw
      go_wp2
      go_ret
      exact ⟨⟨z, rfl, by omega, fun _ => ⟨by omega, by omega⟩⟩, hbr⟩

theorem wt_mem9 {l : List Cx} {c : Cx} (hc : c ∈ l) {m : Nat} (h : wtXs l ≤ m) : c.k.t.size ≤ m ∧ c.k.p.size ≤ m ∧ c.k.c.size ≤ m ∧ c.v.s.size ≤ m := by
  have h1 : wtX c ≤ wtXs l := by
    unfold wtXs
    obtain ⟨s, t, rfl⟩ := List.append_of_mem hc
    rw [List.map_append, List.sum_append, List.map_cons, List.sum_cons]; omega
  unfold wtX at h1
  omega
theorem addC_all {P : Cx → Prop} (hj : ∀ a b, P a → P b → a.k = b.k → P (jnC a b)) : ∀ {O : List Cx} {c : Cx}, (∀ x ∈ O, P x) → P c → ∀ x ∈ addC O c, P x
  | [], c, _, hc, x, hx => by simp only [addC, List.mem_singleton] at hx; subst hx; exact hc
  | y :: O, c, hO, hc, x, hx => by
    by_cases h0 : kx y c = 0
    · rw [addC_same O h0] at hx
      rcases List.mem_cons.1 hx with rfl | hx
      · exact hj y c (hO y (by simp)) hc ((kx_z y c).1 h0)
      · exact hO x (by simp [hx])
    · rcases (show 0 < kx y c ∨ kx y c < 0 by omega) with h1 | h1
      · rw [addC_ahead O h1] at hx
        rcases List.mem_cons.1 hx with rfl | hx
        · exact hc
        · exact hO x hx
      · rw [addC_behind O h1] at hx
        rcases List.mem_cons.1 hx with rfl | hx
        · exact hO _ (by simp)
        · exact addC_all hj (fun z hz => hO z (by simp [hz])) hc x hx
theorem nrm_all {P : Cx → Prop} (hj : ∀ a b, P a → P b → a.k = b.k → P (jnC a b)) {l : List Cx} (h : ∀ c ∈ l, P c) : ∀ c ∈ nrm l, P c := by
  have H : ∀ (l O : List Cx), (∀ c ∈ O, P c) → (∀ c ∈ l, P c) → ∀ c ∈ l.foldl addC O, P c := by
    intro l
    induction l with
    | nil => intro O hO _; exact hO
    | cons x l ih => intro O hO hl; exact ih _ (addC_all hj hO (hl x (by simp))) fun c hc => hl c (by simp [hc])
  exact H l [] (fun c hc => by cases hc) h
theorem nums_join (a b : Cx) (ha : a.Nums) (hb : b.Nums) (_ : a.k = b.k) : (jnC a b).Nums := by
  refine ⟨ha.r, ?_⟩
  show InI (jn a.v b.v).time ∧ _
  rcases jn_or a.v b.v with e | e
  · rw [show (jnC a b).v = a.v from e, e]; exact ha.n
  · rw [show (jnC a b).v = b.v from e, e]; exact hb.n
theorem addC_ne (O : List Cx) (c : Cx) : addC O c ≠ [] := by
  cases O with
  | nil => simp [addC]
  | cons x O => unfold addC; split <;> (try split) <;> simp
theorem nrm_pos {l : List Cx} (h : 0 < l.length) : 0 < (nrm l).length := by
  obtain ⟨x, r, rfl⟩ : ∃ x r, l = r ++ [x] := ⟨l.getLast (by intro e; rw [e] at h; simp at h), l.dropLast, (List.dropLast_concat_getLast _).symm⟩
  rw [nrm_snoc]
  exact List.length_pos_iff.2 (addC_ne _ _)
theorem addC_le : ∀ (O : List Cx) (c : Cx), (addC O c).length ≤ O.length + 1
  | [], c => by simp [addC]
  | x :: O, c => by
    have := addC_le O c
    unfold addC
    split
    · simp
    · split
      · simp
      · simp only [List.length_cons]; omega
theorem nrm_le (l : List Cx) : (nrm l).length ≤ l.length := by
  have H : ∀ (l O : List Cx), (l.foldl addC O).length ≤ O.length + l.length := by
    intro l
    induction l with
    | nil => intro O; simp
    | cons x l ih => intro O; have h1 := ih (addC O x); have h2 := addC_le O x; simp only [List.foldl_cons, List.length_cons]; omega
  have := H l []
  simpa [nrm] using this
theorem rise_of {L : List Cx} (h : Rising L) : srtB L = true := srtB_true fun j x y hj hx hy => by
  have h1 : j < L.length := by omega
  rw [List.getElem?_eq_getElem h1] at hx
  rw [List.getElem?_eq_getElem hj] at hy
  obtain rfl := Option.some.inj hx
  obtain rfl := Option.some.inj hy
  exact List.pairwise_iff_getElem.1 h j (j + 1) h1 hj (by omega)
/-- The good ones of cells that came in, by their keys: they may be a table. -/
theorem norm_wrt {l : List Cx} (hn : ∀ c ∈ l, c.Nums) (hl : l.length ≤ 400) : Wrt (nrm (goods l)) := by
  have h1 : (goods l).length ≤ l.length := List.length_filter_le _ _
  have h2 := nrm_le (goods l)
  exact ⟨nrm_all (P := fun c => goodC c = true) (fun a b ha hb hk => jnC_good ha hb hk) (goods_all l), nrm_all nums_join fun c hc => hn c (List.mem_filter.1 hc).1, by omega⟩
theorem norm_ok {l : List Cx} (hn : ∀ c ∈ l, c.Nums) (hl : l.length ≤ 400) (hp : 0 < (goods l).length) : wrtB (nrm (goods l)) = true := by
  have h1 := norm_wrt hn hl
  unfold wrtB
  rw [rise_of (nrm_rising _), decide_eq_true (nrm_pos hp)]
  simp only [Bool.true_and, List.all_eq_true]
  exact h1.good
theorem norm_bad {l : List Cx} (hp : (goods l).length = 0) : wrtB (nrm (goods l)) = false := by
  rw [List.eq_nil_of_length_eq_zero hp]
  unfold wrtB
  simp [nrm]
theorem Wrt.fit {l : List Cx} (h : Wrt l) : ∀ c ∈ l, c.Fit := fun c hc => by
  obtain ⟨a1, a2, a3, a4⟩ := h.small c hc
  exact ⟨by unfold maxLen; omega, by unfold maxLen; omega, by unfold maxLen; omega, by unfold maxLen; omega⟩
/-- A row of bytes with room behind them. -/
def Row9 (w : World) (g : Nat) (b : List UInt8) (cap : Nat) : Prop := ∃ cur : Array Value, w.heap[g]? = some (.cells cur 5 (0, 0)) ∧ b.length ≤ cap ∧ cap ≤ maxLen ∧ cur.size = cap ∧ cur.toList.take b.length = B8 b
theorem Row9.lt {w : World} {g : Nat} {b : List UInt8} {cap : Nat} (h : Row9 w g b cap) : g < w.heap.size := by obtain ⟨cur, hh, _⟩ := h; exact (Array.getElem?_eq_some_iff.1 hh).1
theorem Row9.carry {w w' : World} {g : Nat} {b : List UInt8} {cap : Nat} (h : Row9 w g b cap) (e : w'.heap[g]? = w.heap[g]?) : Row9 w' g b cap := by obtain ⟨cur, hh, r⟩ := h; exact ⟨cur, e.trans hh, r⟩
theorem Row9.sees {w : World} {g : Nat} {b : List UInt8} {cap : Nat} (h : Row9 w g b cap) : Sees w (some ⟨g, 0, none⟩) b := fun i hi => by
  obtain ⟨cur, hh, h1, h2, h3, h4⟩ := h
  refine ⟨_, rfl, ?_⟩
  rw [Addr.add_lit, Nat.zero_add]
  have e := B8_at b i hi
  rw [← h4, List.getElem?_take_of_lt hi] at e
  simp only [World.cell?, hh]
  simpa using e
theorem Row9.frozen {w : World} {g : Nat} {b : List UInt8} {cap : Nat} (h : Row9 w g b cap) (i : Nat) : w.frozen? ⟨g, i, none⟩ = false := by
  obtain ⟨cur, hh, _⟩ := h
  simp [World.frozen?, hh]
theorem Row9.set {w : World} {g : Nat} {b : List UInt8} {cap : Nat} (h : Row9 w g b cap) (i : Nat) (y : UInt8) : Row9 (w.setCell ⟨g, i, none⟩ (.int .u8 (y.toNat : Int))) g (b.set i y) cap := by
  obtain ⟨cur, hh, h1, h2, h3, h4⟩ := h
  refine ⟨cur.setIfInBounds i (.int .u8 (y.toNat : Int)), ?_, by rw [List.length_set]; exact h1, h2, by simp [h3], ?_⟩
  · simp only [World.setCell, Array.getElem?_modify, hh]
    simp
  · rw [List.length_set, Array.toList_setIfInBounds, List.take_set, h4]
    simp [B8, List.map_set]
/-- Write, whatever cells in a row of the call's own. -/
theorem write_row {w : World} {base : Nat} {v : Value} {l : List Cx} (ho : w.ownsRow base 34 10 v l.length (l.flatMap xs10)) (h : Wrt l) (ht : Tab w) (hw : wrtB l = true) :
    Calls Tryz.prog 7 #[v] w fun e w' => ∃ g cap, e = .returned (.tuple #[.slice (some ⟨g, 0, none⟩) (encTb l).length cap, .int .i64 0]) ∧ Row9 w' g (encTb l) cap ∧ w.heap.size ≤ g ∧ Below w.heap.size w w' := by
  obtain ⟨ao, cap, rfl, hx, -⟩ := owns_xsees ho
  have hp : 0 < l.length := by unfold wrtB at hw; simp only [Bool.and_eq_true, decide_eq_true_eq] at hw; exact hw.1
  rcases ho.2 with ⟨h1, h2⟩ | ⟨g, cap', cur, e, _, _, hn, _⟩
  · injection h1 with e1 e2 e3; omega
  · injection e with e1 e2 e3
    subst e1
    subst e3
    refine (write_any g 0 cap l w hx h.len hn h.fit h.num (ho.lt g rfl).2 ht hw).mono ?_
    rintro e w' ⟨v, rfl, ho2, hb⟩
    have hep := encTb_pos l
    rcases ho2.2 with ⟨h1, h2⟩ | ⟨g2, cap2, cur2, e, hb2, hh, hn2, hm2, hcs, htk⟩
    · omega
    · subst e
      exact ⟨g2, cap2, rfl, ⟨cur2, hh, hn2, hm2, by omega, by simpa using htk⟩, hb2, hb⟩
theorem write_rowB {w : World} {base : Nat} {v : Value} {l : List Cx} (ho : w.ownsRow base 34 10 v l.length (l.flatMap xs10)) (h : Wrt l) (hw : wrtB l = false) :
    Calls Tryz.prog 7 #[v] w fun e w' => e = .returned (.tuple #[.slice none 0 0, .int .i64 2]) ∧ Below w.heap.size w w' := by
  obtain ⟨ao, cap, rfl, hx, -⟩ := owns_xsees ho
  exact write_bad ao l cap w hx (by have := h.len; omega) h.fit hw
end Go.Proofs.YtmkaehnfgdlhdaaGreatDoor
namespace Go.Proofs.YtmkaehnfgdlhdaaGreatDoor
open Go.RowKit

theorem frame_inj {a a' x y : List UInt8} (ha : a.length ≤ 262144) (ha' : a'.length ≤ 262144) (h : frameL a ++ x = frameL a' ++ y) : a = a' ∧ x = y := by
  have h1 := (tells_whole a ha x).2.2
  have h2 := (tells_whole a' ha' y).2.2
  rw [h, h2] at h1
  subst h1
  exact ⟨rfl, List.append_cancel_left h⟩
theorem num_inj {u v : Nat} {x y : List UInt8} (hu : u < 18446744073709551616) (hv : v < 18446744073709551616) (h : numL u ++ x = numL v ++ y) : u = v ∧ x = y := by
  have h1 := get_back u hu x
  rw [h, get_back v hv y] at h1
  simp only [Option.some.injEq, Prod.mk.injEq] at h1
  exact ⟨h1.1.symm, h1.2.symm⟩
theorem txt_inj {s t x y : List UInt8} (hs : s.length < 18446744073709551616) (ht : t.length < 18446744073709551616) (h : txtL s ++ x = txtL t ++ y) : s = t ∧ x = y := by
  unfold txtL at h
  rw [List.append_assoc, List.append_assoc] at h
  have h1 := textN_back s x hs
  rw [h, textN_back t y ht] at h1
  simp only [Option.some.injEq, Prod.mk.injEq] at h1
  exact ⟨h1.1.symm, h1.2.symm⟩
theorem name_no_zero {l : List UInt8} (h : nameB l = true) : (0 : UInt8) ∉ l := fun h0 => by
  unfold nameB at h
  simp only [Bool.and_eq_true, List.all_eq_true] at h
  have := h.2 0 h0
  revert this
  decide
theorem encK_zero (k : Ky) : (0 : UInt8) ∈ encK k := by
  unfold encK encT
  simp
theorem good_table {c : Cx} (h : goodC c = true) : nameB (nb c.k.t) = true := by
  unfold goodC goodK Kb.ky at h
  simp only [Bool.and_eq_true] at h
  exact h.1.1.1.1
/-- An index is no block. -/
theorem idx_ne {l m : List Cx} (h : Wrt l) (hm : Wrt m) (hpos : 0 < l.length) {j : Nat} (hj : j < nBk m.length) : idxB l (allK l) ≠ cxB (chk m j) := fun e => by
  obtain ⟨c, r, hc⟩ := chk_cons hj
  obtain ⟨d, r2, hd⟩ := chk_cons (l := l) (k := 0) (by unfold nBk; omega)
  have hk : ∃ ks, allK l = 0 :: ks := by
    unfold allK
    obtain ⟨n, hn⟩ : ∃ n, nBk l.length = n + 1 := ⟨nBk l.length - 1, by unfold nBk; omega⟩
    rw [hn, List.range_succ_eq_map]
    exact ⟨_, rfl⟩
  obtain ⟨ks, hks⟩ := hk
  have hnl : nBk l.length < 18446744073709551616 := by have := h.len; unfold nBk; omega
  have hcm : c ∈ m := chk_mem (k := j) (by rw [hc]; simp)
  have hdm : d ∈ l := chk_mem (k := 0) (by rw [hd]; simp)
  have e1 : idxB l (allK l) = numL (nBk l.length) ++ (txtL (encK d.k.ky) ++ (numL (blkB l 0).length ++ ks.flatMap (ixB l))) := by
    unfold idxB
    rw [hks, List.flatMap_cons, ixB, hd]
    simp [kyB, List.append_assoc]
  have e2 : ∃ z, cxB (chk m j) = numL (chk m j).length ++ (txtL (nb c.k.t) ++ z) := by
    rw [hc]
    refine ⟨(txtL (strL c.k.p) ++ (numL (zigN c.k.r) ++ txtL (strL c.k.c))) ++ verL (toC c).ver ++ (r.map toC).flatMap cellL, ?_⟩
    have e5 : cellL (toC c) = txtL (nb c.k.t) ++ ((txtL (strL c.k.p) ++ (numL (zigN c.k.r) ++ txtL (strL c.k.c))) ++ verL (toC c).ver) := by
      show keyL (toC c).key ++ verL (toC c).ver = _
      rw [← List.append_assoc]
      rfl
    unfold cxB cellsL manyL
    rw [List.map_cons, List.flatMap_cons, List.length_cons, List.length_map, List.length_cons, e5]
    simp only [List.append_assoc]
  obtain ⟨z, e2⟩ := e2
  rw [e1, e2] at e
  have hcl := chk_len m j
  obtain ⟨-, e3⟩ := num_inj hnl (by omega) e
  have hkl := encK_len (h.small d hdm)
  have htl := (hm.small c hcm).t
  obtain ⟨e4, -⟩ := txt_inj (by omega) (by rw [nb_size]; omega) e3
  have h0 := encK_zero d.k.ky
  rw [e4] at h0
  exact name_no_zero (good_table (hm.good c hcm)) h0
/-- What is behind the first blocks. -/
def tailB (l : List Cx) (k : Nat) : List UInt8 := blksB l (List.range' k (nBk l.length - k)) ++ (frameL (idxB l (allK l)) ++ (frameL (fltB l) ++ (frameL (endC l) ++ [UInt8.ofNat (frameL (endC l)).length])))
theorem tail_all (l : List Cx) : encTb l = tailB l 0 := by
  unfold encTb headB tailB allK
  rw [List.range_eq_range', Nat.sub_zero]
  simp [List.append_assoc]
theorem tail_next {l : List Cx} {k : Nat} (h : k < nBk l.length) : tailB l k = frameL (cxB (chk l k)) ++ tailB l (k + 1) := by
  obtain ⟨n, hn⟩ : ∃ n, nBk l.length - k = n + 1 := ⟨nBk l.length - k - 1, by omega⟩
  have e : List.range' k (n + 1) = k :: List.range' (k + 1) n := rfl
  have hn2 : nBk l.length - (k + 1) = n := by omega
  unfold tailB
  rw [hn, hn2, e]
  unfold blksB
  rw [List.flatMap_cons, List.append_assoc]
  rfl
theorem tail_end {l : List Cx} {k : Nat} (h : nBk l.length ≤ k) : tailB l k = frameL (idxB l (allK l)) ++ (frameL (fltB l) ++ (frameL (endC l) ++ [UInt8.ofNat (frameL (endC l)).length])) := by
  unfold tailB
  rw [Nat.sub_eq_zero_of_le h]
  rfl
theorem chk_same {l m : List Cx} (h : Wrt l) (hm : Wrt m) {j : Nat} (e : cxB (chk l j) = cxB (chk m j)) : chk l j = chk m j := by
  have h1 := cells_again h j
  rw [e, cells_again hm j] at h1
  have h2 := Option.some.inj h1
  have h3 := congrArg (List.map ofC) h2
  rw [List.map_map, List.map_map] at h3
  have e4 : (ofC ∘ toC) = id := by funext c; exact ofC_toC c
  rw [e4, List.map_id, List.map_id] at h3
  exact h3.symm
theorem drop_all {l m : List Cx} : ∀ (k : Nat), (∀ j, j < k → chk l j = chk m j) → l.drop (8 * k) = m.drop (8 * k) → l = m
  | 0, _, h => by simpa using h
  | k + 1, hj, h => drop_all k (fun j h2 => hj j (by omega)) (by rw [← chk_drop l k, ← chk_drop m k, hj k (by omega), h])
theorem prefix_no {l m : List Cx} (h : Wrt l) (hm : Wrt m) (hl : 0 < l.length) (hml : 0 < m.length) {z : List UInt8} (hz : z ≠ []) : encTb m ++ z ≠ encTb l := fun e => by
  have hI : (idxB l (allK l)).length ≤ 262144 := by
    have a1 := idxB_len h.small (allK l)
    have a2 := h.len
    rw [allK_len] at a1
    unfold nBk at a1
    omega
  have hI2 : (idxB m (allK m)).length ≤ 262144 := by
    have a1 := idxB_len hm.small (allK m)
    have a2 := hm.len
    rw [allK_len] at a1
    unfold nBk at a1
    omega
  have hC : ∀ j, (cxB (chk l j)).length ≤ 262144 := fun j => by have := chkB_len h.small j; omega
  have hC2 : ∀ j, (cxB (chk m j)).length ≤ 262144 := fun j => by have := chkB_len hm.small j; omega
  have key : ∀ j, j ≤ nBk l.length → j ≤ nBk m.length → (∀ i, i < j → chk l i = chk m i) ∧ tailB m j ++ z = tailB l j := by
    intro j
    induction j with
    | zero => intro _ _; exact ⟨fun i hi => by omega, by rw [← tail_all, ← tail_all]; exact e⟩
    | succ j ih =>
      intro h1 h2
      obtain ⟨a1, a2⟩ := ih (by omega) (by omega)
      rw [tail_next (l := m) (k := j) (by omega), tail_next (l := l) (k := j) (by omega), List.append_assoc] at a2
      obtain ⟨b1, b2⟩ := frame_inj (hC2 j) (hC j) a2
      refine ⟨fun i hi => ?_, b2⟩
      rcases Nat.lt_or_ge i j with h3 | h3
      · exact a1 i h3
      · obtain rfl : i = j := by omega
        exact chk_same h hm b1.symm
  rcases Nat.lt_trichotomy (nBk m.length) (nBk l.length) with hlt | heq | hgt
  · obtain ⟨-, a2⟩ := key (nBk m.length) (by omega) (Nat.le_refl _)
    rw [tail_end (l := m) (Nat.le_refl _), tail_next hlt, List.append_assoc] at a2
    exact idx_ne hm h hml hlt (frame_inj hI2 (hC _) a2).1
  · obtain ⟨a1, -⟩ := key (nBk l.length) (Nat.le_refl _) (by omega)
    have e1 : l.drop (8 * nBk l.length) = [] := List.drop_of_length_le (by unfold nBk; omega)
    have e2 : m.drop (8 * nBk l.length) = [] := List.drop_of_length_le (by rw [← heq]; unfold nBk; omega)
    have e3 : l = m := drop_all (nBk l.length) a1 (by rw [e1, e2])
    subst e3
    have := congrArg List.length e
    rw [List.length_append] at this
    exact hz (List.eq_nil_of_length_eq_zero (by omega))
  · obtain ⟨-, a2⟩ := key (nBk l.length) (Nat.le_refl _) (by omega)
    rw [tail_end (l := l) (Nat.le_refl _), tail_next hgt, List.append_assoc] at a2
    exact idx_ne h hm hl hgt (frame_inj (hC2 _) hI a2).1.symm
theorem wrt_pos {l : List Cx} (h : wrtB l = true) : 0 < l.length := by
  unfold wrtB at h
  simp only [Bool.and_eq_true, decide_eq_true_eq] at h
  exact h.1
/-- A file that is cut is none. -/
theorem cut_none {l : List Cx} (h : Wrt l) (hw : wrtB l = true) {c : Nat} (hc : c < (encTb l).length) : NoTab ((encTb l).take c) := fun m hm hmw e => by
  refine prefix_no h hm (wrt_pos hw) (wrt_pos hmw) (z := (encTb l).drop c) (fun e2 => ?_) (by rw [e, List.take_append_drop])
  have := congrArg List.length e2
  rw [List.length_drop] at this
  simp at this
  omega
theorem part_bd {l : List Cx} (h : Wrt l) : (blksB l (allK l)).length ≤ 1000000000 ∧ (frameL (idxB l (allK l))).length ≤ 1000000000 ∧ (frameL (fltB l)).length ≤ 1000000000 := by
  have a1 := blksB_len h.small (allK l)
  have a2 := idxB_len h.small (allK l)
  have a3 := fltB_len l
  have a4 := h.len
  have a5 : nOf l.length 10 ≤ 11251 := by unfold nOf; omega
  have a6 : nBk l.length ≤ 1125 := by unfold nBk; omega
  rw [allK_len] at a1 a2
  rw [frameL_len, frameL_len]
  omega
theorem five_inj {a b c d s a' b' c' d' s' : Nat} (h1 : a < 18446744073709551616) (h2 : b < 18446744073709551616) (h3 : c < 18446744073709551616) (h4 : d < 18446744073709551616) (h5 : s < 18446744073709551616) (k1 : a' < 18446744073709551616) (k2 : b' < 18446744073709551616) (k3 : c' < 18446744073709551616) (k4 : d' < 18446744073709551616) (k5 : s' < 18446744073709551616)
    (e : numL a ++ (numL b ++ (numL c ++ (numL d ++ numL s))) = numL a' ++ (numL b' ++ (numL c' ++ (numL d' ++ numL s')))) : s = s' := by
  have f1 := (num_inj h1 k1 e).2
  have f2 := (num_inj h2 k2 f1).2
  have f3 := (num_inj h3 k3 f2).2
  have f4 := (num_inj h4 k4 f3).2
  exact (num_inj (x := []) (y := []) h5 k5 (by rw [f4])).1
theorem end_sum {l m : List Cx} (h : Wrt l) (hm : Wrt m) (e : endC m = endC l) : sumZ (headB m) = sumZ (headB l) := by
  have p1 := part_bd h
  have p2 := part_bd hm
  have q1 := h.len
  have q2 := hm.len
  have sm := sum_nat (headB m)
  have sl := sum_nat (headB l)
  have := five_inj (by omega) (by omega) (by omega) (by omega) (by omega) (by omega) (by omega) (by omega) (by omega) (by omega) e
  rw [← sm.1, ← sl.1, this]
theorem sum_set {H : List UInt8} {i : Nat} (hi : i < H.length) {y : UInt8} (e : sumZ (H.set i y) = sumZ H) : y = H.getD i 0 := by
  have g1 : H = H.take i ++ H.getD i 0 :: H.drop (i + 1) := by
    have : H.getD i 0 = H[i] := by simp [List.getD, hi]
    rw [this, List.getElem_cons_drop, List.take_append_drop]
  have g2 : H.set i y = H.take i ++ y :: H.drop (i + 1) := by
    rw [List.set_eq_take_append_cons_drop, if_pos hi]
  refine sumZ_byte (H.take i) (H.drop (i + 1)) y (H.getD i 0) ?_
  rw [← g2, ← g1]
  exact e
theorem last_inj {A B F G : List UInt8} (hf : F.length < 256) (hg : G.length < 256) (e : A ++ F ++ [UInt8.ofNat F.length] = B ++ G ++ [UInt8.ofNat G.length]) : A = B ∧ F = G := by
  have e4 := List.append_inj' e rfl
  have h2 := congrArg UInt8.toNat (List.cons.inj e4.2).1
  rw [UInt8.toNat_ofNat_of_lt' hf, UInt8.toNat_ofNat_of_lt' hg] at h2
  exact List.append_inj' e4.1 h2
/-- A file of which a byte ahead of its end was turned is none. -/
theorem turned_none {l : List Cx} (h : Wrt l) {i : Nat} (hi : i < (headB l).length) {y : UInt8} (hy : y ≠ (encTb l).getD i 0) : NoTab ((encTb l).set i y) := fun m hm _ e => by
  have lE := endC_len l
  have lM := endC_len m
  have hel := frameL_len (endC l)
  have hem := frameL_len (endC m)
  have e1 : encTb l = headB l ++ (frameL (endC l) ++ [UInt8.ofNat (frameL (endC l)).length]) := by unfold encTb; rw [List.append_assoc]
  have e3 : (encTb l).set i y = (headB l).set i y ++ frameL (endC l) ++ [UInt8.ofNat (frameL (endC l)).length] := by rw [e1, List.set_append_left _ _ hi, List.append_assoc]
  have hbyte : (headB l).getD i 0 = (encTb l).getD i 0 := by rw [e1]; simp [List.getD, List.getElem?_append_left hi]
  rw [e3] at e
  obtain ⟨e5, e6⟩ := last_inj (by omega) (by omega) e
  have e7 : endC m = endC l := (frame_inj (x := []) (y := []) (by omega) (by omega) (by rw [e6])).1
  have e8 := end_sum h hm e7
  rw [e5] at e8
  exact hy ((sum_set hi e8).trans hbyte)
theorem head_pos {l : List Cx} : 1 ≤ (headB l).length := by
  unfold headB
  simp only [List.length_append, frameL_len]
  omega
/-- The last byte tells where the end begins. -/
theorem tab_last {l : List Cx} (_ : Wrt l) : ((encTb l).getD ((encTb l).length - 1) 0).toNat + (headB l).length + 1 = (encTb l).length ∧ 1 ≤ (headB l).length := by
  have lE := endC_len l
  have hel := frameL_len (endC l)
  have hT : encTb l = headB l ++ frameL (endC l) ++ [UInt8.ofNat (frameL (endC l)).length] := rfl
  have hlen : (encTb l).length = (headB l).length + (frameL (endC l)).length + 1 := by rw [hT, List.length_append, List.length_append]; rfl
  refine ⟨?_, head_pos⟩
  have hlast : ((encTb l).getD ((encTb l).length - 1) 0).toNat = (frameL (endC l)).length := by
    rw [hlen, Nat.add_sub_cancel, hT]
    have e : (headB l).length + (frameL (endC l)).length = (headB l ++ frameL (endC l)).length := by rw [List.length_append]
    rw [e]
    simp only [List.getD, List.getElem?_concat_length, Option.getD_some]
    rw [UInt8.toNat_ofNat_of_lt' (by show (frameL (endC l)).length < 256; rw [hel]; omega)]
  omega
end Go.Proofs.YtmkaehnfgdlhdaaGreatDoor
namespace Go.Proofs.YtmkaehnfgdlhdaaGreatDoor
open Go.ChangeShapes Go.WideShapes Go.ChangeAt Go.RowKit

theorem own : ownKnob Tryz.prog.godebug = none := by kernel_rfl
theorem laidOut : laidOutB Tryz.prog = true := by kernel_rfl
theorem byte_valR (n : Nat) (h : n < 256) : ((UInt8.ofNat n).toNat : Int) = n := by
  simp; omega
/-- Bytes that came in. -/
theorem bytes_open {H : Type} {enc : TypeId × Value → H} {W : World} {ao : Option Addr} {len cap : Nat} {d : DataW H} {p : List MemPlace}
    (h : DataW.Trod enc Tryz.prog W 0 (fun _ => true) true 36 (Value.slice ao len cap) d p) :
    ∃ l : List UInt8, l.length = len ∧ Sees W ao l ∧ (ao = none → l.length = 0) ∧ l.length ≤ maxLen ∧ l.length ≤ cap ∧ (l.length = 0 ∨ ∃ el sp, d = .slice el sp ∧ el.length = l.length) := by
  obtain ⟨fuel, hf⟩ := h
  rcases open_ints Tryz.underlying36 Tryz.underlying5 (by kernel_rfl) hf with ⟨hcs, _⟩ | ⟨x, n, c, zs, hcs, _, hl, hm, hz, hx, hcell, hwz⟩
  · simp [Value.cells] at hcs
    obtain ⟨rfl, rfl, rfl⟩ := hcs
    exact ⟨[], rfl, Sees.nil _ _, fun _ => rfl, Nat.zero_le _, Nat.zero_le _, .inl rfl⟩
  · simp [Value.cells] at hcs
    obtain ⟨rfl, rfl, rfl⟩ := hcs
    have hzl : zs.length = cap := by simpa using hz
    have hlen : ((zs.take len).map fun z : Int => UInt8.ofNat z.toNat).length = len := by simp; omega
    refine ⟨(zs.take len).map fun z : Int => UInt8.ofNat z.toNat, hlen, fun i hi => ⟨x, rfl, ?_⟩, (fun h => by cases h), by omega, by omega, .inr ⟨_, _, congrArg Prod.fst hx, by rw [hlen]; simp [lits]; omega⟩⟩
    rw [hlen] at hi
    have hi' : i < zs.length := by omega
    rw [hcell i hi']
    have hb := bounds_u8 (hwz (zs.getD i 0) (by simp [List.getD, hi']))
    have e : ((zs.take len).map fun z : Int => UInt8.ofNat z.toNat).getD i 0 = UInt8.ofNat (zs.getD i 0).toNat := by simp [List.getD, hi, hi']
    rw [e, byte_valR _ (by omega), Int.toNat_of_nonneg hb.1]
theorem bytes8 : Tryz.prog.bytesOf 5 = 1 := by kernel_rfl
/-- How many bytes can have come in. -/
theorem bytes_reach {H : Type} {ts : List TypeId} {ds : List (DataW H)} {j n : Nat} {d : DataW H} (h : (DataW.weightsEach Tryz.prog ts ds).all (· ≤ reachBytes) = true) (ht : ts[j]? = some 36) (hd : ds[j]? = some d)
    (hn : n = 0 ∨ ∃ el sp, d = .slice el sp ∧ el.length = n) : n ≤ 140737488351232 := by
  rcases hn with rfl | ⟨el, sp, rfl, rfl⟩
  · omega
  · have := sized_slice h ht hd Tryz.underlying36
    rw [bytes8] at this
    simp only [reachBytes] at this
    omega
end Go.Proofs.YtmkaehnfgdlhdaaGreatDoor
namespace Go.Proofs.YtmkaehnfgdlhdaaGreatDoor
open Go.ChangeShapes Go.WideShapes Go.ChangeAt Go.RowKit Go.Deep

section
variable {H : Type} {enc : TypeId × Value → H} {P : Program} {w : World} {base : Nat} {spare : Nat → Bool} {held : Bool}
set_option maxRecDepth 100000 in
theorem trod_s4 {t : TypeId} {f0 f1 f2 f3 : Field} {fuel : Nat} {cs : List Value} {x : DataW H × List MemPlace} (ht : P.underlying t = some (.struct #[f0, f1, f2, f3])) (h : DataW.trod enc P w base spare held fuel t cs = some x) :
    ∃ y0 y1 y2 y3 n, x.1 = .agg [y0.1, y1.1, y2.1, y3.1] ∧ cs.length = P.cellsOf t ∧ DataW.trod enc P w base spare held n f0.type ((cs.drop f0.offset).take (P.cellsOf f0.type)) = some y0 ∧
      DataW.trod enc P w base spare held n f1.type ((cs.drop f1.offset).take (P.cellsOf f1.type)) = some y1 ∧ DataW.trod enc P w base spare held n f2.type ((cs.drop f2.offset).take (P.cellsOf f2.type)) = some y2 ∧
      DataW.trod enc P w base spare held n f3.type ((cs.drop f3.offset).take (P.cellsOf f3.type)) = some y3 := by
  obtain ⟨xs, n, _, rfl, hl, hlen, hf⟩ := DataW.trod_struct ht h
  match xs, hlen with
  | [y0, y1, y2, y3], _ => exact ⟨y0, y1, y2, y3, n, by simp, hl, by simpa using hf 0 f0 rfl, by simpa using hf 1 f1 rfl, by simpa using hf 2 f2 rfl, by simpa using hf 3 f3 rfl⟩
end
set_option maxRecDepth 100000 in
theorem cellsXK : Tryz.prog.cellsOf 24 = 4 := by kernel_rfl
set_option maxRecDepth 100000 in
theorem cellsXV : Tryz.prog.cellsOf 30 = 3 := by kernel_rfl
set_option maxRecDepth 100000 in
theorem cellsXR : Tryz.prog.cellsOf 32 = 6 := by kernel_rfl
set_option maxRecDepth 100000 in
theorem cellsXC : Tryz.prog.cellsOf 34 = 10 := by kernel_rfl
set_option maxRecDepth 100000 in
theorem cellsXI : Tryz.prog.cellsOf 3 = 1 := by kernel_rfl
set_option maxRecDepth 100000 in
theorem cellsXB : Tryz.prog.cellsOf 4 = 1 := by kernel_rfl
set_option maxRecDepth 100000 in
theorem cellsXS : Tryz.prog.cellsOf 9 = 1 := by kernel_rfl

def sD {H : Type} (s : ByteArray) : DataW H := .lit (.string s.data.toList)
def iD {H : Type} (n : Int) : DataW H := .lit (.int .i64 n)
def kxD {H : Type} (k : Kb) : DataW H := .agg [sD k.t, sD k.p, iD k.r, sD k.c]
def vxD {H : Type} (a : Vr) : DataW H := .agg [iD a.time, .lit (.bool a.dead), iD a.loc, .agg [iD a.kind, iD a.num, sD a.s]]
def cxD {H : Type} (c : Cx) : DataW H := .agg [kxD c.k, vxD c.v]

section
variable {H : Type} {enc : TypeId × Value → H} {w : World} {base : Nat} {spare : Nat → Bool} {held : Bool}
set_option maxRecDepth 100000 in
theorem kx_open {n : Nat} {c0 c1 c2 c3 : Value} {x : DataW H × List MemPlace} (h : DataW.trod enc Tryz.prog w base spare held n 24 [c0, c1, c2, c3] = some x) :
    ∃ k : Kb, [c0, c1, c2, c3] = [.string k.t, .string k.p, .int .i64 k.r, .string k.c] ∧ InI k.r ∧ x.1 = kxD k := by
  obtain ⟨y0, y1, y2, y3, m, hx, _, h0, h1, h2, h3⟩ := trod_s4 Tryz.underlying24 h
  simp only [cellsXS, cellsXI] at h0 h1 h2 h3
  obtain ⟨s0, e0, rfl, _⟩ := DataW.trod_string Tryz.underlying9 h0
  obtain ⟨s1, e1, rfl, _⟩ := DataW.trod_string Tryz.underlying9 h1
  obtain ⟨s2, e2, rfl, w2⟩ := DataW.trod_int Tryz.underlying3 h2
  obtain ⟨s3, e3, rfl, _⟩ := DataW.trod_string Tryz.underlying9 h3
  simp at e0 e1 e2 e3
  subst e0
  subst e1
  subst e2
  subst e3
  exact ⟨⟨s0, s1, s2, s3⟩, rfl, bounds_i64 w2, hx⟩
set_option maxRecDepth 100000 in
theorem vx_open {n : Nat} {c0 c1 c2 c3 c4 c5 : Value} {x : DataW H × List MemPlace} (h : DataW.trod enc Tryz.prog w base spare held n 32 [c0, c1, c2, c3, c4, c5] = some x) :
    ∃ a : Vr, [c0, c1, c2, c3, c4, c5] = a.a.toList ∧ InI a.time ∧ InI a.loc ∧ InI a.kind ∧ InI a.num ∧ x.1 = vxD a := by
  obtain ⟨y0, y1, y2, y3, m, hx, _, h0, h1, h2, h3⟩ := trod_s4 Tryz.underlying32 h
  simp only [cellsXI, cellsXB, cellsXV] at h0 h1 h2 h3
  obtain ⟨s0, e0, rfl, w0⟩ := DataW.trod_int Tryz.underlying3 h0
  obtain ⟨s1, e1, rfl⟩ := DataW.trod_bool Tryz.underlying4 h1
  obtain ⟨s2, e2, rfl, w2⟩ := DataW.trod_int Tryz.underlying3 h2
  simp at e0 e1 e2
  subst e0
  subst e1
  subst e2
  have h3' : DataW.trod enc Tryz.prog w base spare held m 30 [c3, c4, c5] = some y3 := h3
  obtain ⟨u0, u1, u2, m', hu, _, g0, g1, g2⟩ := trod_struct3 Tryz.underlying30 h3'
  simp only [cellsXS, cellsXI] at g0 g1 g2
  obtain ⟨r0, f0, rfl, q0⟩ := DataW.trod_int Tryz.underlying3 g0
  obtain ⟨r1, f1, rfl, q1⟩ := DataW.trod_int Tryz.underlying3 g1
  obtain ⟨r2, f2, rfl, _⟩ := DataW.trod_string Tryz.underlying9 g2
  simp at f0 f1 f2
  subst f0
  subst f1
  subst f2
  exact ⟨⟨s0, s1, s2, r0, r1, r2⟩, rfl, bounds_i64 w0, bounds_i64 w2, bounds_i64 q0, bounds_i64 q1, by rw [hx, hu]; rfl⟩
set_option maxRecDepth 100000 in
theorem cx_open {n : Nat} {cs : List Value} {x : DataW H × List MemPlace} (h : DataW.trod enc Tryz.prog w base spare held n 34 cs = some x) :
    ∃ c : Cx, cs = c.a.toList ∧ InI c.k.r ∧ (InI c.v.time ∧ InI c.v.loc ∧ InI c.v.kind ∧ InI c.v.num) ∧ x.1 = cxD c := by
  obtain ⟨y0, y1, m, rfl, hl, h0, h1⟩ := trod_struct2 Tryz.underlying34 h
  rw [cellsXC] at hl
  match cs, hl with
  | [c0, c1, c2, c3, c4, c5, c6, c7, c8, c9], _ =>
    simp only [cellsXK] at h0
    simp only [cellsXR] at h1
    obtain ⟨k, ek, ok, dk⟩ := kx_open (n := m) (c0 := c0) (c1 := c1) (c2 := c2) (c3 := c3) (x := y0) h0
    obtain ⟨v, ev, o1, o2, o3, o4, dv⟩ := vx_open (n := m) (c0 := c4) (c1 := c5) (c2 := c6) (c3 := c7) (c4 := c8) (c5 := c9) (x := y1) h1
    obtain ⟨table, part, row, col⟩ := k
    obtain ⟨time, dead, loc, kind, num, s⟩ := v
    simp at ek
    simp [Vr.a] at ev
    obtain ⟨rfl, rfl, rfl, rfl⟩ := ek
    obtain ⟨rfl, rfl, rfl, rfl, rfl, rfl⟩ := ev
    exact ⟨⟨⟨table, part, row, col⟩, ⟨time, dead, loc, kind, num, s⟩⟩, rfl, ok, ⟨o1, o2, o3, o4⟩, by rw [dk, dv]; rfl⟩
end
set_option maxRecDepth 100000 in
theorem array6 {α : Type} {cs : Array α} (h : cs.size = 6) : ∃ c0 c1 c2 c3 c4 c5, cs = #[c0, c1, c2, c3, c4, c5] := by
  obtain ⟨l⟩ := cs
  match l, h with
  | [c0, c1, c2, c3, c4, c5], _ => exact ⟨c0, c1, c2, c3, c4, c5, rfl⟩
set_option maxRecDepth 100000 in
theorem array4' {α : Type} {cs : Array α} (h : cs.size = 4) : ∃ c0 c1 c2 c3, cs = #[c0, c1, c2, c3] := by
  obtain ⟨l⟩ := cs
  match l, h with
  | [c0, c1, c2, c3], _ => exact ⟨c0, c1, c2, c3, rfl⟩
set_option maxRecDepth 100000 in
/-- A version that came in. -/
theorem ver_came {H : Type} {enc : TypeId × Value → H} {W : World} {base : Nat} {v : Value} {d : DataW H} {p : List MemPlace} (hv : Value.okWide Tryz.prog W .any base 32 v)
    (h : DataW.Trod enc Tryz.prog W 0 (fun _ => true) true 32 v d p) : ∃ a : Vr, v = a.v ∧ (InI a.time ∧ InI a.loc ∧ InI a.kind ∧ InI a.num) ∧ d = vxD a := by
  obtain ⟨cs, rfl, hsz⟩ := okWide_struct Tryz.underlying32 hv
  obtain ⟨c0, c1, c2, c3, c4, c5, rfl⟩ := array6 (hsz.trans cellsXR)
  obtain ⟨fuel, hf⟩ := h
  obtain ⟨a, ea, o1, o2, o3, o4, hd⟩ := vx_open (n := fuel) (c0 := c0) (c1 := c1) (c2 := c2) (c3 := c3) (c4 := c4) (c5 := c5) (x := (d, p)) hf
  obtain ⟨time, dead, loc, kind, num, s⟩ := a
  simp [Vr.a] at ea
  obtain ⟨rfl, rfl, rfl, rfl, rfl, rfl⟩ := ea
  exact ⟨_, rfl, ⟨o1, o2, o3, o4⟩, hd⟩
set_option maxRecDepth 100000 in
/-- A key that came in. -/
theorem key_came {H : Type} {enc : TypeId × Value → H} {W : World} {base : Nat} {v : Value} {d : DataW H} {p : List MemPlace} (hv : Value.okWide Tryz.prog W .any base 24 v)
    (h : DataW.Trod enc Tryz.prog W 0 (fun _ => true) true 24 v d p) : ∃ k : Kb, v = k.v ∧ InI k.r ∧ d = kxD k := by
  obtain ⟨cs, rfl, hsz⟩ := okWide_struct Tryz.underlying24 hv
  obtain ⟨c0, c1, c2, c3, rfl⟩ := array4' (hsz.trans cellsXK)
  obtain ⟨fuel, hf⟩ := h
  obtain ⟨k, ek, o1, hd⟩ := kx_open (n := fuel) (c0 := c0) (c1 := c1) (c2 := c2) (c3 := c3) (x := (d, p)) hf
  obtain ⟨t, pp, r, c⟩ := k
  simp at ek
  obtain ⟨rfl, rfl, rfl, rfl⟩ := ek
  exact ⟨_, rfl, o1, hd⟩
set_option maxRecDepth 100000 in
/-- A cell that came in. -/
theorem cell_came {H : Type} {enc : TypeId × Value → H} {W : World} {base : Nat} {v : Value} {d : DataW H} {p : List MemPlace} (hv : Value.okWide Tryz.prog W .any base 34 v)
    (h : DataW.Trod enc Tryz.prog W 0 (fun _ => true) true 34 v d p) : ∃ c : Cx, v = c.val ∧ InI c.k.r ∧ (InI c.v.time ∧ InI c.v.loc ∧ InI c.v.kind ∧ InI c.v.num) ∧ d = cxD c := by
  obtain ⟨cs, rfl, hsz⟩ := okWide_struct Tryz.underlying34 hv
  obtain ⟨fuel, hf⟩ := h
  obtain ⟨c, ec, o1, o2, hd⟩ := cx_open (n := fuel) (cs := cs.toList) (x := (d, p)) hf
  have : cs = c.a := by rw [← Array.toArray_toList (xs := cs), ec, Array.toArray_toList]
  rw [this]
  exact ⟨c, rfl, o1, o2, hd⟩
set_option maxRecDepth 100000 in
theorem vxD_weights {H : Type} (a : Vr) : (vxD (H := H) a).weights Tryz.prog 32 = [a.s.size] := by
  unfold vxD sD iD
  simp [DataW.weights, DataW.weightsEach, Tryz.underlying32, Tryz.underlying30]
set_option maxRecDepth 100000 in
theorem kxD_weights {H : Type} (k : Kb) : (kxD (H := H) k).weights Tryz.prog 24 = [k.t.size, k.p.size, k.c.size] := by
  unfold kxD sD iD
  simp [DataW.weights, DataW.weightsEach, Tryz.underlying24]
set_option maxRecDepth 100000 in
theorem cxD_weights {H : Type} (c : Cx) : (cxD (H := H) c).weights Tryz.prog 34 = [c.k.t.size, c.k.p.size, c.k.c.size, c.v.s.size] := by
  unfold cxD kxD vxD sD iD
  simp [DataW.weights, DataW.weightsEach, Tryz.underlying34, Tryz.underlying24, Tryz.underlying32, Tryz.underlying30]
def big : Nat := 140737488355328
set_option maxRecDepth 100000 in
theorem reach_mem {H : Type} {ts : List TypeId} {ds : List (DataW H)} {j : Nat} {t : TypeId} {d : DataW H} (h : (DataW.weightsEach Tryz.prog ts ds).all (· ≤ reachBytes) = true) (ht : ts[j]? = some t) (hd : ds[j]? = some d) {n : Nat} (hn : n ∈ d.weights Tryz.prog t) : n ≤ big := by
  have := List.all_eq_true.1 h n (DataW.weights_mem_each ht hd n hn)
  have := of_decide_eq_true this
  simp only [reachBytes] at this
  unfold big; omega
/-- What came in is not great. -/
structure Cx.Fits (c : Cx) : Prop where
  r : InI c.k.r
  n : InI c.v.time ∧ InI c.v.loc ∧ InI c.v.kind ∧ InI c.v.num
  bt : c.k.t.size ≤ big
  bp : c.k.p.size ≤ big
  bc : c.k.c.size ≤ big
  bs : c.v.s.size ≤ big
set_option maxRecDepth 100000 in
theorem ver_reach {H : Type} {ts : List TypeId} {ds : List (DataW H)} {j : Nat} {a : Vr} (h : (DataW.weightsEach Tryz.prog ts ds).all (· ≤ reachBytes) = true) (ht : ts[j]? = some 32) (hd : ds[j]? = some (vxD a)) : a.s.size ≤ big :=
  reach_mem h ht hd (by rw [vxD_weights]; simp)
set_option maxRecDepth 100000 in
theorem cell_reach {H : Type} {ts : List TypeId} {ds : List (DataW H)} {j : Nat} {c : Cx} (o1 : InI c.k.r) (o2 : InI c.v.time ∧ InI c.v.loc ∧ InI c.v.kind ∧ InI c.v.num) (h : (DataW.weightsEach Tryz.prog ts ds).all (· ≤ reachBytes) = true) (ht : ts[j]? = some 34) (hd : ds[j]? = some (cxD c)) : c.Fits :=
  ⟨o1, o2, reach_mem h ht hd (by rw [cxD_weights]; simp), reach_mem h ht hd (by rw [cxD_weights]; simp), reach_mem h ht hd (by rw [cxD_weights]; simp), reach_mem h ht hd (by rw [cxD_weights]; simp)⟩
end Go.Proofs.YtmkaehnfgdlhdaaGreatDoor
namespace Go.Proofs.YtmkaehnfgdlhdaaGreatDoor
open Go.ChangeShapes Go.WideShapes Go.ChangeAt Go.RowKit Go.Deep

set_option maxRecDepth 100000 in
theorem weightsX_mem {H : Type} {P : Program} {e : TypeId} {d : DataW H} : ∀ {l : List (DataW H)}, d ∈ l → ∀ n ∈ d.weights P e, n ∈ DataW.weightsAll P e l
  | [], h, _, _ => by cases h
  | a :: l, h, n, hn => by
    simp only [DataW.weightsAll, List.mem_append]
    rcases List.mem_cons.1 h with rfl | h
    · exact .inl hn
    · exact .inr (weightsX_mem h n hn)
/-- What numbers came in. -/
def Cx.In (c : Cx) : Prop := InI c.k.r ∧ (InI c.v.time ∧ InI c.v.loc ∧ InI c.v.kind ∧ InI c.v.num)
def noCx : Cx := ⟨⟨⟨#[]⟩, ⟨#[]⟩, 0, ⟨#[]⟩⟩, zeroV⟩
set_option maxRecDepth 100000 in
/-- Cells that came in. -/
theorem cells_came {H : Type} {enc : TypeId × Value → H} {W : World} {ao : Option Addr} {len cap : Nat} {d : DataW H} {p : List MemPlace}
    (h : DataW.Trod enc Tryz.prog W 0 (fun _ => true) true 22 (Value.slice ao len cap) d p) :
    ∃ l : List Cx, l.length = len ∧ XSees W ao l ∧ (ao = none → l.length = 0) ∧ (∀ c ∈ l, c.In) ∧ (l.length = 0 ∨ ∃ sp, d = .slice (l.map cxD) sp) := by
  obtain ⟨fuel, hf⟩ := h
  rcases open_slice Tryz.underlying22 hf with ⟨hcs, _⟩ | ⟨a, n, c, m, k, D, Pl, hcs, _, hle, _, hm, hx, hc⟩
  · simp [Value.cells] at hcs
    obtain ⟨rfl, rfl, rfl⟩ := hcs
    exact ⟨[], rfl, (fun i c hc => by simp at hc), fun _ => rfl, (fun c hc => by cases hc), .inl rfl⟩
  · simp [Value.cells] at hcs
    obtain ⟨rfl, rfl, rfl⟩ := hcs
    simp only [if_true] at hm
    subst hm
    rw [cellsXC] at hc
    haveI : Inhabited Cx := ⟨noCx⟩
    obtain ⟨C, hC⟩ := choose_lt (α := Cx) (n := len) (p := fun i c => W.cells? 0 (a.add (i * 10)) 10 = some c.a.toList ∧ c.In ∧ D i = cxD c) (fun i hi => by
      obtain ⟨cs', h1, h2⟩ := hc i (by omega)
      obtain ⟨c, rfl, h3, h4, h5⟩ := cx_open h2
      exact ⟨c, h1, ⟨h3, h4⟩, h5⟩)
    have hD : (List.range len).map D = ((List.range len).map C).map cxD := by
      rw [List.map_map]
      exact List.map_congr_left fun i hi => (hC i (List.mem_range.1 hi)).2.2
    have hd := congrArg Prod.fst hx
    simp only [hD] at hd
    refine ⟨(List.range len).map C, by simp, ?_, (fun h => by cases h), ?_, .inr ⟨_, hd⟩⟩
    · intro i c hi
      have hlt : i < len := by
        have := (List.getElem?_eq_some_iff.1 hi).1
        simpa using this
      simp [hlt] at hi
      subst hi
      obtain ⟨_, _, h3⟩ := World.cells?_some (hC i hlt).1
      obtain ⟨_, _, h30⟩ := World.cells?_some (hC 0 (by omega)).1
      have hz := h30 0 (by omega)
      obtain ⟨b, off, spot⟩ := a
      have hspot : spot = none := by
        have := World.cell?_spot (hz.trans (by rfl : (C 0).a.toList[0]? = some (.string (C 0).k.t)))
        simpa [Addr.add] using this
      subst hspot
      have hv : ∀ j v, (C i).a.toList[j]? = some v → W.cell? ⟨b, off + i * 10 + j, none⟩ = some v := fun j v hv => by
        have hj : j < 10 := (List.getElem?_eq_some_iff.1 hv).1
        have := h3 j hj
        rw [Addr.add_lit, Addr.add_lit, hv] at this
        exact this
      exact ⟨b, off, rfl, ⟨hv 0 _ rfl, hv 1 _ rfl, hv 2 _ rfl, hv 3 _ rfl, hv 4 _ rfl, hv 5 _ rfl, hv 6 _ rfl, hv 7 _ rfl, hv 8 _ rfl, hv 9 _ rfl⟩⟩
    · intro c hc
      obtain ⟨i, hi, rfl⟩ := List.mem_map.1 hc
      exact (hC i (List.mem_range.1 hi)).2.1
set_option maxRecDepth 100000 in
theorem bytesXC : Tryz.prog.bytesOf 34 = 112 := by kernel_rfl
set_option maxRecDepth 100000 in
theorem cells_fit {H : Type} {ts : List TypeId} {ds : List (DataW H)} {j : Nat} {d : DataW H} {l : List Cx} (h : (DataW.weightsEach Tryz.prog ts ds).all (· ≤ reachBytes) = true) (ht : ts[j]? = some 22) (hd : ds[j]? = some d)
    (hk : ∀ c ∈ l, c.In) (hn : l.length = 0 ∨ ∃ sp, d = .slice (l.map cxD) sp) : l.length ≤ 140737488355328 ∧ ∀ c ∈ l, c.In ∧ wtX c ≤ 562949953421312 := by
  rcases hn with h0 | ⟨sp, rfl⟩
  · obtain rfl : l = [] := List.eq_nil_of_length_eq_zero h0
    exact ⟨by simp, fun c hc => by cases hc⟩
  · have h1 := sized_slice h ht hd Tryz.underlying22
    rw [bytesXC] at h1
    simp only [reachBytes, List.length_map] at h1
    refine ⟨by omega, fun c hc => ⟨hk c hc, ?_⟩⟩
    have hw : ∀ n ∈ (cxD (H := H) c).weights Tryz.prog 34, n ≤ big := fun n hn =>
      reach_mem h ht hd (by
        simp only [DataW.weights, Tryz.underlying22, List.mem_cons, List.mem_append]
        exact .inr (.inl (weightsX_mem (List.mem_map_of_mem hc) n hn)))
    rw [cxD_weights] at hw
    have a0 := hw c.k.t.size (by simp)
    have a1 := hw c.k.p.size (by simp)
    have a2 := hw c.k.c.size (by simp)
    have a3 := hw c.v.s.size (by simp)
    unfold big at a0 a1 a2 a3
    unfold wtX
    omega
set_option maxRecDepth 100000 in
theorem array3 {α : Type} {cs : Array α} (h : cs.size = 3) : ∃ c0 c1 c2, cs = #[c0, c1, c2] := by
  obtain ⟨l⟩ := cs
  match l, h with
  | [c0, c1, c2], _ => exact ⟨c0, c1, c2, rfl⟩
set_option maxRecDepth 100000 in
/-- A value that came in. -/
theorem value_came {H : Type} {enc : TypeId × Value → H} {W : World} {base : Nat} {v : Value} {d : DataW H} {p : List MemPlace} (hv : Value.okWide Tryz.prog W .any base 30 v)
    (h : DataW.Trod enc Tryz.prog W 0 (fun _ => true) true 30 v d p) : ∃ (k n : Int) (s : ByteArray), v = .agg #[.int .i64 k, .int .i64 n, .string s] ∧ InI k ∧ InI n := by
  obtain ⟨cs, rfl, hsz⟩ := okWide_struct Tryz.underlying30 hv
  obtain ⟨c0, c1, c2, rfl⟩ := array3 (hsz.trans cellsXV)
  obtain ⟨fuel, hf⟩ := h
  obtain ⟨u0, u1, u2, m', hu, _, g0, g1, g2⟩ := trod_struct3 (cs := [c0, c1, c2]) Tryz.underlying30 hf
  simp only [cellsXS, cellsXI] at g0 g1 g2
  obtain ⟨r0, f0, rfl, q0⟩ := DataW.trod_int Tryz.underlying3 g0
  obtain ⟨r1, f1, rfl, q1⟩ := DataW.trod_int Tryz.underlying3 g1
  obtain ⟨r2, f2, rfl, _⟩ := DataW.trod_string Tryz.underlying9 g2
  simp at f0 f1 f2
  subst f0
  subst f1
  subst f2
  exact ⟨r0, r1, r2, rfl, bounds_i64 q0, bounds_i64 q1⟩
end Go.Proofs.YtmkaehnfgdlhdaaGreatDoor

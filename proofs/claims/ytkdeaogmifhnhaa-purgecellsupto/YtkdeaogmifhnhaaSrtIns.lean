/-
  CONTRACT: the library's stable sort at cells: the insertion sort.
-/
import Derived.Test.YtkdeaogmifhnhaaSrtRot
import Derived.Test.YtkdeaogmifhnhaaSrtPlain
import Derived.Test.YtkdeaogmifhnhaaCxSorted
namespace Go.Proofs.Ytkdeaogmifhnhaa
open Go.RowKit

theorem grown_below {w w' : World} (h : Below w.heap.size w w') (g : Nat) : w.grownBy w' (some g) := ⟨h.os, h.tape, h.output, h.size, fun k hk _ => h.block k hk⟩
theorem Rx.below {w w' : World} {B g cap : Nat} {L : List Cx} (h : Rx w B g cap L) (hb : Below w.heap.size w w') : Rx w' B g cap L := by
  obtain ⟨h1, h2⟩ := h
  refine ⟨h1, ?_⟩
  rcases h2 with ⟨h2, _⟩ | ⟨g', cap', cur, h2, h3, h4, h5⟩
  · cases h2
  · have hlt : g' < w.heap.size := (Array.getElem?_eq_some_iff.1 h4).1
    exact .inr ⟨g', cap', cur, h2, h3, by rw [hb.block _ hlt]; exact h4, h5⟩
theorem at_mid (A : List Cx) (x : Cx) (Z : List Cx) : (A ++ x :: Z)[A.length]? = some x := by simp
theorem at_mid2 (A : List Cx) (l x : Cx) (Z : List Cx) : (A ++ l :: x :: Z)[A.length + 1]? = some x := by
  rw [List.getElem?_append_right (by omega)]
  simp
theorem set_two_mid (A : List Cx) (l x : Cx) (Z : List Cx) : ((A ++ l :: x :: Z).set (A.length + 1) l).set A.length x = A ++ x :: l :: Z := by
  rw [List.set_append_right _ _ (by omega), List.set_append_right _ _ (Nat.le_refl _)]
  simp
attribute [local irreducible] wpQuiet
set_option maxRecDepth 100000 in
set_option maxHeartbeats 4000000 in
/-- The inner loop's test and exchange, and its end: see 'insertion_any'. -/
theorem insertion_any (B g cap N : Nat) (P : List Cx) (s0 : Cx) (S Q : List Cx) (w : World) (hR0 : Rx w B g cap (P ++ (s0 :: S) ++ Q)) (hN : (P ++ (s0 :: S) ++ Q).length = N) (hL : N ≤ 1000000) :
    Calls Try.prog 55 #[.slice (some ⟨g, 0, none⟩) N cap, .int .i64 P.length, .int .i64 (P.length + S.length + 1 : Nat), .func (.func 34) #[] #[]] w fun e w' => e = .returned (.tuple #[]) ∧ (∃ S', St (s0 :: S) S' ∧ Up S' ∧ Rx w' B g cap (P ++ S' ++ Q)) ∧ w.grownBy w' (some g) := by
  obtain ⟨a, ha⟩ : ∃ a, a = P.length := ⟨_, rfl⟩
  obtain ⟨b, hb⟩ : ∃ b, b = P.length + S.length + 1 := ⟨_, rfl⟩
  rw [← hb, ← ha]
  have hNl := hN
  simp only [List.length_append, List.length_cons] at hNl
  have hbz : (b : Int) ≤ 1000000 := by omega
  have haz : (a : Int) < (b : Int) := by omega
  have HA : Hid (P.length = a) := ha.symm
  have HB : Hid (P.length + S.length + 1 = b ∧ b ≤ N) := ⟨hb.symm, by omega⟩
  have hNz : (N : Int) ≤ 1000000 := by omega
  clear ha hb hNl
  go_enter Try.func55, Try.ntmps55
  go_wp2_with fail
  go_loopw [8] (fun s8 wr => ∃ A R : List Cx, s8 = .int .i64 (a + A.length : Nat) ∧ 1 ≤ A.length ∧ St (s0 :: S) (A ++ R) ∧ Up A ∧ Rx wr B g cap (P ++ (A ++ R) ++ Q) ∧ w.grownBy wr (some g)) (fun s8 _ => b - (intOf s8).toNat)
  case atStart => exact ⟨[s0], S, by go_num, by simp, St.refl _, List.pairwise_singleton _ _, hR0, ⟨rfl, rfl, rfl, Nat.le_refl _, fun _ _ _ => rfl⟩⟩
  case round =>
    obtain ⟨A, R, rfl, hA1, hSt, hUp, hR, hG⟩ := hrel
    have hlen := hSt.len
    simp only [List.length_append, List.length_cons] at hlen
    have hab : a + A.length + R.length = b := by have := HA.out; have := HB.out.1; omega
    obtain ⟨i, hi⟩ : ∃ i, i = a + A.length := ⟨_, rfl⟩
    rw [← hi]
    cases R with
    | nil =>
      have hge : ¬ (i : Int) < (b : Int) := by simp only [List.length_nil] at hab; omega
      rw [List.append_nil] at hSt hR
      have HR : Hid ((∃ S', St (s0 :: S) S' ∧ Up S' ∧ Rx wr B g cap (P ++ S' ++ Q)) ∧ w.grownBy wr (some g)) := ⟨⟨A, hSt, hUp, hR⟩, hG⟩
      clear hSt hUp hR hG hlen hab hi
      go_wp2_with fail
      go_end0
      exact ⟨rfl, by simpa [List.append_assoc] using HR.out⟩
    | cons x R =>
      have hltz : (i : Int) < (b : Int) := by simp only [List.length_cons] at hab; omega
      have HI : Hid (i = a + A.length ∧ a + A.length + R.length + 1 = b) := ⟨hi, by simp only [List.length_cons] at hab; omega⟩
      have HS : Hid (St (s0 :: S) (A ++ x :: R)) := hSt
      have HU : Hid (Up A) := hUp
      have hR' : Rx wr B g cap (P ++ (A ++ x :: ([] ++ R)) ++ Q) := hR
      have hiz : (i : Int) ≤ 1000000 := by omega
      clear hSt hUp hR hlen hab hi
      go_wp2_with fail
      go_loopw [9] (fun s9 wj => ∃ U V : List Cx, s9 = .int .i64 (a + U.length : Nat) ∧ U ++ V = A ∧ (∀ v ∈ V, kx x v < 0) ∧ Rx wj B g cap (P ++ (U ++ x :: (V ++ R)) ++ Q) ∧ w.grownBy wj (some g)) (fun s9 _ => (intOf s9).toNat)
      case atStart => exact ⟨A, [], by rw [HI.out.1], by simp, (fun v hv => by cases hv), hR', hG⟩
      case round =>
        obtain ⟨U, V, rfl, hUV, hV, hRj, hGj⟩ := hrel
        generalize wr = wj at *
        rcases List.eq_nil_or_concat U with rfl | ⟨U', l, hU⟩
        · rw [List.nil_append] at hUV
          subst hUV
          have hend : Hid (St (s0 :: S) ((x :: V) ++ R) ∧ Up (x :: V) ∧ Rx wj B g cap (P ++ ((x :: V) ++ R) ++ Q)) := by
            have m := moved_left (U := []) (V := V) (b := x) HU.out (fun u hu => by cases hu) hV
            refine ⟨HS.out.trans ?_, m.2, hRj⟩
            have := m.1.append (St.refl R)
            simpa using this
          have d0 : decide ((a : Int) < (a : Int)) = false := decide_eq_false (by omega)
          clear hRj hV
          haveI := Cl.inh wj.heap.size wj
          have HG : Hid (w.grownBy wj (some g)) := hGj
          have HRx : Hid (∀ w', Below wj.heap.size wj w' → Rx w' B g cap (P ++ ((x :: V) ++ R) ++ Q) ∧ w.grownBy w' (some g)) := fun w' h => ⟨hend.out.2.2.below h, hGj.trans (grown_below h g)⟩
          clear hGj
          rw [List.length_nil, Nat.add_zero]
          go_wp2_with fail
          refine wp_region_cl wj.heap.size (by kernel_rfl) (by kernel_rfl) ?_
          quiet_step (fail)
          quiet_step (fail)
          quiet_step (fail)
          quiet_step (fail)
          quiet_step (fail)
          quiet_step (fail)
          quiet_step (fail)
          quiet_step (fail)
          quiet_step (fail)
          quiet_step (fail)
          quiet_step (fail)
          quiet_step (fail)
          quiet_step (fail)
          quiet_step (fail)
          quiet_step (fail)
          quiet_step (fail)
          quiet_step (fail)
          refine wpQuiet_nil ?_
          rintro w0 ⟨z, rfl⟩
          have hz := HRx.out _ z.h
          go_wp2_with fail
          go_roundw
          case rel => exact ⟨x :: V, R, by rw [HI.out.1]; go_num, by simp, hend.out.1, hend.out.2.1, hz.1, hz.2⟩
          case measure => simp [intOf]; have := HI.out; omega
        · rw [List.concat_eq_append] at hU
          subst hU
          obtain ⟨q, hq⟩ : ∃ q, q = (P ++ U').length := ⟨_, rfl⟩
          have hqa : q = a + U'.length := by rw [hq, List.length_append, HA.out]
          have hRj' : Rx wj B g cap ((P ++ U') ++ l :: x :: (V ++ R ++ Q)) := by simpa [List.append_assoc] using hRj
          have e9 : ((a + (U' ++ [l]).length : Nat) : Int) = (q : Int) + 1 := by rw [hqa]; simp; omega
          have hqN : q + 1 < N := by
            have h1 := HI.out.2
            have h2 := HB.out.2
            rw [← hUV] at h1
            simp only [List.length_append, List.length_cons, List.length_nil] at h1
            omega
          have tl : TenX wj g (q * 10) l := by rw [hq]; exact hRj'.ten (at_mid _ _ _)
          have tx : TenX wj g ((q + 1) * 10) x := by rw [hq]; exact hRj'.ten (at_mid2 _ _ _ _)
          have C : Hid (∀ w : World, Calls Try.prog 34 #[x.val, l.val] w fun e w' => e = .returned (.int .i64 (kx x l)) ∧ Below w.heap.size w w') := fun w => cmpKeys_any x l w
          have HRx : Hid (∀ w', Below wj.heap.size wj w' → Rx w' B g cap ((P ++ U') ++ l :: x :: (V ++ R ++ Q)) ∧ w.grownBy w' (some g)) := fun w' h => ⟨hRj'.below h, hGj.trans (grown_below h g)⟩
          have hyes : Hid (kx x l < 0 → ∀ v ∈ l :: V, kx x v < 0) := fun h v hv => by
            rcases List.mem_cons.1 hv with rfl | hv
            · exact h
            · exact hV v hv
          have hno : Hid (¬ kx x l < 0 → St (s0 :: S) (((U' ++ [l]) ++ x :: V) ++ R) ∧ Up ((U' ++ [l]) ++ x :: V)) := fun h => by
            have hU2 : Up ((U' ++ [l]) ++ V) := by rw [hUV]; exact HU.out
            have m := moved_left (U := U' ++ [l]) (V := V) (b := x) hU2 (hU2.left.last (by have := kx_n l x; omega)) hV
            refine ⟨HS.out.trans ?_, m.2⟩
            have := m.1.append (St.refl R)
            rw [hUV] at this
            simpa [List.append_assoc] using this
          have HUV : Hid ((U' ++ [l]) ++ V = A) := hUV
          have HP : Hid (q = (P ++ U').length) := hq
          have HQA : Hid (q = a + U'.length) := hqa
          generalize hkx : kx x l = K at *
          clear hkx hRj hRj' hV hUV hq hGj
          have hqz : (q : Int) + 1 < (N : Int) := by omega
          have hqz2 : (q : Int) < (N : Int) := by omega
          have hwp : IntKind.i64.wrap (q : Int) = (q : Int) := by rw [IntKind.wrap_i64]; omega
          have p0 : (0 : Int) ≤ (q : Int) + 1 := by omega
          have e0 : ((q : Int) + 1).toNat = q + 1 := by omega
          have d0 : decide ((a : Int) < (q : Int) + 1) = true := decide_eq_true (by omega)
          have hag : (a : Int) < (q : Int) + 1 := by omega
          rw [e9]
          clear e9 hqa hqN
          obtain ⟨⟨xa, xp, xr, xc⟩, ⟨xt, xd, xl, xk, xn, xs⟩⟩ := x
          obtain ⟨⟨la, lp, lr, lc⟩, ⟨lt, ld, ll, lk, ln, ls⟩⟩ := l
          simp only [Cx.val, Cx.a] at C
          have ql0 : ∀ z : Cl wj.heap.size wj, z.u.cell? ⟨g, q * 10, none⟩ = some (.string la) := fun z => (tl.below z.h tl.lt).c0
          have ql1 : ∀ z : Cl wj.heap.size wj, z.u.cell? ⟨g, q * 10 + 1, none⟩ = some (.string lp) := fun z => (tl.below z.h tl.lt).c1
          have ql2 : ∀ z : Cl wj.heap.size wj, z.u.cell? ⟨g, q * 10 + 2, none⟩ = some (.int .i64 lr) := fun z => (tl.below z.h tl.lt).c2
          have ql3 : ∀ z : Cl wj.heap.size wj, z.u.cell? ⟨g, q * 10 + 3, none⟩ = some (.string lc) := fun z => (tl.below z.h tl.lt).c3
          have ql4 : ∀ z : Cl wj.heap.size wj, z.u.cell? ⟨g, q * 10 + 4, none⟩ = some (.int .i64 lt) := fun z => (tl.below z.h tl.lt).c4
          have ql5 : ∀ z : Cl wj.heap.size wj, z.u.cell? ⟨g, q * 10 + 5, none⟩ = some (.bool ld) := fun z => (tl.below z.h tl.lt).c5
          have ql6 : ∀ z : Cl wj.heap.size wj, z.u.cell? ⟨g, q * 10 + 6, none⟩ = some (.int .i64 ll) := fun z => (tl.below z.h tl.lt).c6
          have ql7 : ∀ z : Cl wj.heap.size wj, z.u.cell? ⟨g, q * 10 + 7, none⟩ = some (.int .i64 lk) := fun z => (tl.below z.h tl.lt).c7
          have ql8 : ∀ z : Cl wj.heap.size wj, z.u.cell? ⟨g, q * 10 + 8, none⟩ = some (.int .i64 ln) := fun z => (tl.below z.h tl.lt).c8
          have ql9 : ∀ z : Cl wj.heap.size wj, z.u.cell? ⟨g, q * 10 + 9, none⟩ = some (.string ls) := fun z => (tl.below z.h tl.lt).c9
          have qx0 : ∀ z : Cl wj.heap.size wj, z.u.cell? ⟨g, (q + 1) * 10, none⟩ = some (.string xa) := fun z => (tx.below z.h tx.lt).c0
          have qx1 : ∀ z : Cl wj.heap.size wj, z.u.cell? ⟨g, (q + 1) * 10 + 1, none⟩ = some (.string xp) := fun z => (tx.below z.h tx.lt).c1
          have qx2 : ∀ z : Cl wj.heap.size wj, z.u.cell? ⟨g, (q + 1) * 10 + 2, none⟩ = some (.int .i64 xr) := fun z => (tx.below z.h tx.lt).c2
          have qx3 : ∀ z : Cl wj.heap.size wj, z.u.cell? ⟨g, (q + 1) * 10 + 3, none⟩ = some (.string xc) := fun z => (tx.below z.h tx.lt).c3
          have qx4 : ∀ z : Cl wj.heap.size wj, z.u.cell? ⟨g, (q + 1) * 10 + 4, none⟩ = some (.int .i64 xt) := fun z => (tx.below z.h tx.lt).c4
          have qx5 : ∀ z : Cl wj.heap.size wj, z.u.cell? ⟨g, (q + 1) * 10 + 5, none⟩ = some (.bool xd) := fun z => (tx.below z.h tx.lt).c5
          have qx6 : ∀ z : Cl wj.heap.size wj, z.u.cell? ⟨g, (q + 1) * 10 + 6, none⟩ = some (.int .i64 xl) := fun z => (tx.below z.h tx.lt).c6
          have qx7 : ∀ z : Cl wj.heap.size wj, z.u.cell? ⟨g, (q + 1) * 10 + 7, none⟩ = some (.int .i64 xk) := fun z => (tx.below z.h tx.lt).c7
          have qx8 : ∀ z : Cl wj.heap.size wj, z.u.cell? ⟨g, (q + 1) * 10 + 8, none⟩ = some (.int .i64 xn) := fun z => (tx.below z.h tx.lt).c8
          have qx9 : ∀ z : Cl wj.heap.size wj, z.u.cell? ⟨g, (q + 1) * 10 + 9, none⟩ = some (.string xs) := fun z => (tx.below z.h tx.lt).c9
          clear tl tx
          haveI := Cl.inh wj.heap.size wj
          by_cases hK : K < 0
          · have hKd : decide (K < 0) = true := decide_eq_true hK
            have HY : Hid (∀ v ∈ (⟨⟨la, lp, lr, lc⟩, ⟨lt, ld, ll, lk, ln, ls⟩⟩ : Cx) :: V, kx ⟨⟨xa, xp, xr, xc⟩, ⟨xt, xd, xl, xk, xn, xs⟩⟩ v < 0) := hyes.out hK
            clear hyes hno hK
            go_wp2_with fail
            refine wp_region_cl wj.heap.size (by kernel_rfl) (by kernel_rfl) ?_
            quiet_step (fail)
            quiet_step (fail)
            quiet_step (fail)
            quiet_step (fail)
            quiet_step (fail)
            quiet_step (fail)
            quiet_step (fail)
            quiet_step (fail)
            quiet_step (fail)
            quiet_step (fail)
            quiet_step (fail)
            quiet_step (fail)
            quiet_step (fail)
            quiet_step (fail)
            quiet_step ((go_at_call 34; exact Cl.calls (Nat.le_refl _) (C.out _)))
            quiet_step (fail)
            quiet_step (fail)
            refine wpQuiet_nil ?_
            rintro w0 ⟨z, rfl⟩
            obtain ⟨hR1, hG1⟩ := HRx.out _ z.h
            have hqP := HP.out
            have tl2 : TenX z.u g (q * 10) ⟨⟨la, lp, lr, lc⟩, ⟨lt, ld, ll, lk, ln, ls⟩⟩ := by rw [hqP]; exact hR1.ten (at_mid _ _ _)
            have tx2 : TenX z.u g ((q + 1) * 10) ⟨⟨xa, xp, xr, xc⟩, ⟨xt, xd, xl, xk, xn, xs⟩⟩ := by rw [hqP]; exact hR1.ten (at_mid2 _ _ _ _)
            have h0 : z.u.ownsRow B 35 10 (.slice (some ⟨g, 0, none⟩) (P ++ U' ++ ⟨⟨la, lp, lr, lc⟩, ⟨lt, ld, ll, lk, ln, ls⟩⟩ :: ⟨⟨xa, xp, xr, xc⟩, ⟨xt, xd, xl, xk, xn, xs⟩⟩ :: (V ++ R ++ Q)).length cap) (P ++ U' ++ ⟨⟨la, lp, lr, lc⟩, ⟨lt, ld, ll, lk, ln, ls⟩⟩ :: ⟨⟨xa, xp, xr, xc⟩, ⟨xt, xd, xl, xk, xn, xs⟩⟩ :: (V ++ R ++ Q)).length ((P ++ U' ++ ⟨⟨la, lp, lr, lc⟩, ⟨lt, ld, ll, lk, ln, ls⟩⟩ :: ⟨⟨xa, xp, xr, xc⟩, ⟨xt, xd, xl, xk, xn, xs⟩⟩ :: (V ++ R ++ Q)).flatMap xs10) := hR1
            have fz : ∀ j, z.u.frozen? ⟨g, j, none⟩ = false := fun j => h0.frozenAt j
            have P1 : Hid (Rx (set10 (set10 z.u g ((q + 1) * 10) ⟨⟨la, lp, lr, lc⟩, ⟨lt, ld, ll, lk, ln, ls⟩⟩) g (q * 10) ⟨⟨xa, xp, xr, xc⟩, ⟨xt, xd, xl, xk, xn, xs⟩⟩) B g cap (P ++ (U' ++ ⟨⟨xa, xp, xr, xc⟩, ⟨xt, xd, xl, xk, xn, xs⟩⟩ :: ((⟨⟨la, lp, lr, lc⟩, ⟨lt, ld, ll, lk, ln, ls⟩⟩ :: V) ++ R)) ++ Q) ∧ w.grownBy (set10 (set10 z.u g ((q + 1) * 10) ⟨⟨la, lp, lr, lc⟩, ⟨lt, ld, ll, lk, ln, ls⟩⟩) g (q * 10) ⟨⟨xa, xp, xr, xc⟩, ⟨xt, xd, xl, xk, xn, xs⟩⟩) (some g)) := by
              have p1 := hR1.put (i := q + 1) (a := ⟨⟨xa, xp, xr, xc⟩, ⟨xt, xd, xl, xk, xn, xs⟩⟩) (by rw [hqP]; exact at_mid2 _ _ _ _) ⟨⟨la, lp, lr, lc⟩, ⟨lt, ld, ll, lk, ln, ls⟩⟩
              have p2 := p1.1.put (i := q) (a := ⟨⟨la, lp, lr, lc⟩, ⟨lt, ld, ll, lk, ln, ls⟩⟩) (by rw [List.getElem?_set_ne (by omega), hqP]; exact at_mid _ _ _) ⟨⟨xa, xp, xr, xc⟩, ⟨xt, xd, xl, xk, xn, xs⟩⟩
              refine ⟨?_, (hG1.trans p1.2).trans p2.2⟩
              have e := set_two_mid (P ++ U') ⟨⟨la, lp, lr, lc⟩, ⟨lt, ld, ll, lk, ln, ls⟩⟩ ⟨⟨xa, xp, xr, xc⟩, ⟨xt, xd, xl, xk, xn, xs⟩⟩ (V ++ R ++ Q)
              rw [← hqP] at e
              have e3 : P ++ (U' ++ ⟨⟨xa, xp, xr, xc⟩, ⟨xt, xd, xl, xk, xn, xs⟩⟩ :: ((⟨⟨la, lp, lr, lc⟩, ⟨lt, ld, ll, lk, ln, ls⟩⟩ :: V) ++ R)) ++ Q = P ++ U' ++ ⟨⟨xa, xp, xr, xc⟩, ⟨xt, xd, xl, xk, xn, xs⟩⟩ :: ⟨⟨la, lp, lr, lc⟩, ⟨lt, ld, ll, lk, ln, ls⟩⟩ :: (V ++ R ++ Q) := by simp
              rw [e3, ← e]; exact p2.1
            clear hR1 hG1 h0 hqP
            have fa0 := fz (q * 10)
            have fa1 := fz (q * 10 + 1)
            have fa2 := fz (q * 10 + 2)
            have fa3 := fz (q * 10 + 3)
            have fa4 := fz (q * 10 + 4)
            have fa5 := fz (q * 10 + 5)
            have fa6 := fz (q * 10 + 6)
            have fa7 := fz (q * 10 + 7)
            have fa8 := fz (q * 10 + 8)
            have fa9 := fz (q * 10 + 9)
            have fb0 := fz ((q + 1) * 10)
            have fb1 := fz ((q + 1) * 10 + 1)
            have fb2 := fz ((q + 1) * 10 + 2)
            have fb3 := fz ((q + 1) * 10 + 3)
            have fb4 := fz ((q + 1) * 10 + 4)
            have fb5 := fz ((q + 1) * 10 + 5)
            have fb6 := fz ((q + 1) * 10 + 6)
            have fb7 := fz ((q + 1) * 10 + 7)
            have fb8 := fz ((q + 1) * 10 + 8)
            have fb9 := fz ((q + 1) * 10 + 9)
            clear fz
            obtain ⟨y0, y1, y2, y3, y4, y5, y6, y7, y8, y9⟩ := tl2
            obtain ⟨z0, z1, z2, z3, z4, z5, z6, z7, z8, z9⟩ := tx2
            simp only at y0 y1 y2 y3 y4 y5 y6 y7 y8 y9 z0 z1 z2 z3 z4 z5 z6 z7 z8 z9
            clear ql0 ql1 ql2 ql3 ql4 ql5 ql6 ql7 ql8 ql9 qx0 qx1 qx2 qx3 qx4 qx5 qx6 qx7 qx8 qx9
            go_wp2_with fail
            go_region
            go_wp2_with fail
            go_roundw
            case rel => exact ⟨U', _ :: V, by rw [HQA.out], by rw [← HUV.out]; simp, HY.out, Rx.drew P1.out.1, grown_drew P1.out.2⟩
            case measure => (simp [intOf]; try omega)
          · have hKd : decide (K < 0) = false := decide_eq_false hK
            obtain ⟨n1, n2⟩ := hno.out hK
            have HN1 : Hid (St (s0 :: S) (((U' ++ [(⟨⟨la, lp, lr, lc⟩, ⟨lt, ld, ll, lk, ln, ls⟩⟩ : Cx)]) ++ (⟨⟨xa, xp, xr, xc⟩, ⟨xt, xd, xl, xk, xn, xs⟩⟩ : Cx) :: V) ++ R)) := n1
            have HN2 : Hid (Up ((U' ++ [(⟨⟨la, lp, lr, lc⟩, ⟨lt, ld, ll, lk, ln, ls⟩⟩ : Cx)]) ++ (⟨⟨xa, xp, xr, xc⟩, ⟨xt, xd, xl, xk, xn, xs⟩⟩ : Cx) :: V)) := n2
            clear hyes hno hK n1 n2
            go_wp2_with fail
            refine wp_region_cl wj.heap.size (by kernel_rfl) (by kernel_rfl) ?_
            quiet_step (fail)
            quiet_step (fail)
            quiet_step (fail)
            quiet_step (fail)
            quiet_step (fail)
            quiet_step (fail)
            quiet_step (fail)
            quiet_step (fail)
            quiet_step (fail)
            quiet_step (fail)
            quiet_step (fail)
            quiet_step (fail)
            quiet_step (fail)
            quiet_step (fail)
            quiet_step ((go_at_call 34; exact Cl.calls (Nat.le_refl _) (C.out _)))
            quiet_step (fail)
            quiet_step (fail)
            refine wpQuiet_nil ?_
            rintro w0 ⟨z, rfl⟩
            obtain ⟨hR1, hG1⟩ := HRx.out _ z.h
            go_wp2_with fail
            go_roundw
            case rel => exact ⟨_, R, by have h1 := HI.out.1; rw [← HUV.out] at h1; simp only [List.length_append, List.length_cons, List.length_nil] at h1 ⊢; congr 1; omega, by simp; omega, HN1.out, HN2.out, by simpa [List.append_assoc] using hR1, hG1⟩
            case measure => simp [intOf]; have := HI.out; omega
end Go.Proofs.Ytkdeaogmifhnhaa

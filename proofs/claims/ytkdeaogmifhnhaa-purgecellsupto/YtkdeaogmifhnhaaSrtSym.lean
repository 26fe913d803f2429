/-
  CONTRACT: the library's stable sort at cells: symMerge, all of it.
-/
import Derived.Test.YtkdeaogmifhnhaaSrtSplit
namespace Go.Proofs.Ytkdeaogmifhnhaa
open Go.RowKit

attribute [local irreducible] wpQuiet
set_option maxRecDepth 100000 in
set_option maxHeartbeats 8000000 in
theorem symStep_any (B g cap N K a m b : Nat) (P A T Q : List Cx) (w : World) (IH : Hid (∀ (a m b : Nat) (P A T Q : List Cx) (w : World), A.length + T.length < K → 1 ≤ A.length → 1 ≤ T.length → Up A → Up T → P.length = a → a + A.length = m → m + T.length = b → (P ++ (A ++ T) ++ Q).length = N → Rx w B g cap (P ++ (A ++ T) ++ Q) → Calls Try.prog 56 #[.slice (some ⟨g, 0, none⟩) N cap, .int .i64 (a : Nat), .int .i64 (m : Nat), .int .i64 (b : Nat), .func (.func 34) #[] #[]] w fun e w' => e = .returned (.tuple #[]) ∧ (∃ S', St (A ++ T) S' ∧ Up S' ∧ Rx w' B g cap (P ++ S' ++ Q)) ∧ w.grownBy w' (some g)))
    (hK : A.length + T.length ≤ K) (hA2 : 2 ≤ A.length) (hT2 : 2 ≤ T.length) (uA : Up A) (uT : Up T) (ha : P.length = a) (hm : a + A.length = m) (hb : m + T.length = b) (hN : (P ++ (A ++ T) ++ Q).length = N) (hL : N ≤ 1000000) (hR0 : Rx w B g cap (P ++ (A ++ T) ++ Q)) :
    Calls Try.prog 56 #[.slice (some ⟨g, 0, none⟩) N cap, .int .i64 (a : Nat), .int .i64 (m : Nat), .int .i64 (b : Nat), .func (.func 34) #[] #[]] w fun e w' => e = .returned (.tuple #[]) ∧ (∃ S', St (A ++ T) S' ∧ Up S' ∧ Rx w' B g cap (P ++ S' ++ Q)) ∧ w.grownBy w' (some g) := by
  obtain ⟨mid, hmid⟩ : ∃ mid, mid = (a + b) / 2 := ⟨_, rfl⟩
  obtain ⟨n, hn⟩ : ∃ n, n = mid + m := ⟨_, rfl⟩
  obtain ⟨p, hp⟩ : ∃ p, p + 1 = n := ⟨n - 1, by omega⟩
  obtain ⟨s0, hs0⟩ : ∃ s0, s0 = if mid < m then n - b else a := ⟨_, rfl⟩
  obtain ⟨r0, hr0⟩ : ∃ r0, r0 = if mid < m then mid else m := ⟨_, rfl⟩
  have hp : Plc a m b mid n p s0 r0 := ⟨by omega, by omega, hmid, hn, hp, hs0, hr0⟩
  have hpa := hp.all
  have hbN : b ≤ N := by simp only [List.length_append] at hN; omega
  have hNz : (N : Int) ≤ 1000000 := by omega
  have eL : P ++ (A ++ T) ++ Q = P ++ A ++ T ++ Q := by simp
  have emid : ((a : Int) + (b : Int)) / 2 = (mid : Int) := by omega
  have en : (mid : Int) + (m : Int) = (n : Int) := by omega
  have ep : (n : Int) - 1 = (p : Int) := by have := hp.hp; omega
  have e1 : ¬ (m : Int) - (a : Int) = 1 := by omega
  have e2 : ¬ (b : Int) - (m : Int) = 1 := by omega
  have e1' : ((m : Int) - (a : Int) == 1) = false := by rw [beq_eq_false_iff_ne]; omega
  have e2' : ((b : Int) - (m : Int) == 1) = false := by rw [beq_eq_false_iff_ne]; omega
  have haz : (a : Int) ≤ 1000000 := by omega
  have hmz : (m : Int) ≤ 1000000 := by omega
  have hbz : (b : Int) ≤ 1000000 := by omega
  have hmd : (mid : Int) ≤ 1000000 := by omega
  have HP : Hid (Plc a m b mid n p s0 r0) := hp
  have HPA : Hid (a ≤ s0 ∧ s0 ≤ r0 ∧ r0 ≤ m ∧ a < mid ∧ mid < b ∧ n ≤ s0 + b ∧ p < s0 + b ∧ m + r0 ≤ n ∧ (mid < m → s0 + b = n ∧ r0 = mid) ∧ (m ≤ mid → s0 = a ∧ r0 = m)) := hpa
  have HZ : Hid (P.length = a ∧ a + A.length = m ∧ m + T.length = b ∧ A.length + T.length ≤ K ∧ (P ++ (A ++ T) ++ Q).length = N ∧ b ≤ N ∧ N ≤ 1000000) := ⟨ha, hm, hb, hK, hN, hbN, hL⟩
  have HUA : Hid (Up A) := uA
  have HUT : Hid (Up T) := uT
  have HS0 : Hid (Srch (P ++ A ++ T ++ Q) p s0 r0 s0 r0) := Srch.start _ _ _ _
  rw [eL] at hR0
  have HG0 : Hid (w.grownBy w (some g)) := ⟨rfl, rfl, rfl, Nat.le_refl _, fun _ _ _ => rfl⟩
  have HR0 : Hid (Rx w B g cap (P ++ A ++ T ++ Q)) := hR0
  clear hp hmid hn hs0 hr0 ha hm hb hN hL hR0 uA uT hA2 hT2 hK eL
  have cases2 : (mid < m ∧ (mid : Int) < (m : Int) ∧ (n : Int) - (b : Int) = (s0 : Int) ∧ r0 = mid) ∨ (¬ mid < m ∧ ¬ (mid : Int) < (m : Int) ∧ s0 = a ∧ r0 = m) := by
    rcases Nat.lt_or_ge mid m with h | h
    · exact .inl ⟨h, by omega, by omega, by omega⟩
    · exact .inr ⟨by omega, by omega, by omega, by omega⟩
  clear hpa
  rcases cases2 with ⟨h1, h2, h3, h4⟩ | ⟨h1, h2, h3, h4⟩
  · have h4 := h4.symm
    subst h4
    clear h1
    go_enter Try.func56, Try.ntmps56
    go_wp2_with fail
    go_loopw [20, 21] (fun s20 s21 wr => ∃ s r : Nat, s20 = .int .i64 s ∧ s21 = .int .i64 r ∧ s0 ≤ s ∧ s ≤ r ∧ r ≤ mid ∧ Srch (P ++ A ++ T ++ Q) p s0 mid s r ∧ Rx wr B g cap (P ++ A ++ T ++ Q) ∧ w.grownBy wr (some g)) (fun s20 s21 _ => (intOf s21).toNat - (intOf s20).toNat)
    case atStart => exact ⟨_, _, rfl, rfl, Nat.le_refl _, HPA.out.2.1, Nat.le_refl _, HS0.out, HR0.out, HG0.out⟩
    case round =>
      obtain ⟨s, r, rfl, rfl, hs1, hsr, hr1, hS, hR, hG⟩ := hrel
      clear HS0 HR0 HG0
      by_cases hlt : s < r
      · have hltz : (s : Int) < (r : Int) := by omega
        have h8 := HPA.out
        have h9 := HP.out.hp
        have h10 := HZ.out
        obtain ⟨c, hc⟩ : ∃ c, c = (s + r) / 2 := ⟨_, rfl⟩
        have ec : ((s : Int) + (r : Int)) / 2 = (c : Int) := by omega
        obtain ⟨pc, hpc⟩ : ∃ pc, pc = p - c := ⟨_, rfl⟩
        have epc : (p : Int) - (c : Int) = (pc : Int) := by omega
        have hc1 : s ≤ c := by omega
        have hc2 : c < r := by omega
        have hlen : (P ++ A ++ T ++ Q).length = N := by have := h10.2.2.2.2.1; simpa using this
        obtain ⟨x, hx⟩ : ∃ x, (P ++ A ++ T ++ Q)[c]? = some x := ⟨_, List.getElem?_eq_getElem (by rw [hlen]; omega)⟩
        obtain ⟨y, hy⟩ : ∃ y, (P ++ A ++ T ++ Q)[pc]? = some y := ⟨_, List.getElem?_eq_getElem (by rw [hlen]; omega)⟩
        have tx : TenX wr g (c * 10) x := hR.ten hx
        have ty : TenX wr g (pc * 10) y := hR.ten hy
        have C : Hid (∀ w : World, Calls Try.prog 34 #[y.val, x.val] w fun e w' => e = .returned (.int .i64 (kx y x)) ∧ Below w.heap.size w w') := fun w => cmpKeys_any y x w
        have HRx : Hid (∀ w', Below wr.heap.size wr w' → Rx w' B g cap (P ++ A ++ T ++ Q) ∧ w.grownBy w' (some g)) := fun w' h => ⟨hR.below h, hG.trans (grown_below h g)⟩
        have HY : Hid (¬ kx y x < 0 → Srch (P ++ A ++ T ++ Q) p s0 mid (c + 1) r) := fun hk => hS.up HP.out h10.1 h10.2.1 h10.2.2.1 HUA.out HUT.out hs1 hc1 hc2 hr1 hx (hpc ▸ hy) hk
        have HN : Hid (kx y x < 0 → Srch (P ++ A ++ T ++ Q) p s0 mid s c) := fun hk => hS.down HP.out h10.1 h10.2.1 h10.2.2.1 HUA.out HUT.out hs1 hc1 hc2 hr1 hx (hpc ▸ hy) hk
        have hcN : (c : Int) < (N : Int) := by omega
        have hwp : IntKind.i64.wrap (pc : Int) = (pc : Int) := by rw [IntKind.wrap_i64]; omega
        have hpN : (pc : Int) < (N : Int) := by omega
        have hpz : (p : Int) ≤ 3000000 := by omega
        have hsz : (s : Int) ≤ 1000000 := by omega
        have hrz : (r : Int) ≤ 1000000 := by omega
        have HL : Hid (s0 ≤ s ∧ s ≤ c ∧ c < r ∧ r ≤ mid) := ⟨hs1, hc1, hc2, hr1⟩
        generalize hkx : kx y x = K2 at *
        clear hkx hx hy hR hG hS hs1 hsr hr1 hlt hc hpc hc1 hc2 hlen h8 h9 h10
        obtain ⟨⟨xa, xp, xr, xc⟩, ⟨xt, xd, xl, xk, xn, xs⟩⟩ := x
        obtain ⟨⟨ya, yp, yr, yc⟩, ⟨yt, yd, yl, yk, yn, ys⟩⟩ := y
        simp only [Cx.val, Cx.a] at C
        have qx0 : ∀ z : Cl wr.heap.size wr, z.u.cell? ⟨g, c * 10, none⟩ = some (.string xa) := fun z => (tx.below z.h tx.lt).c0
        have qx1 : ∀ z : Cl wr.heap.size wr, z.u.cell? ⟨g, c * 10 + 1, none⟩ = some (.string xp) := fun z => (tx.below z.h tx.lt).c1
        have qx2 : ∀ z : Cl wr.heap.size wr, z.u.cell? ⟨g, c * 10 + 2, none⟩ = some (.int .i64 xr) := fun z => (tx.below z.h tx.lt).c2
        have qx3 : ∀ z : Cl wr.heap.size wr, z.u.cell? ⟨g, c * 10 + 3, none⟩ = some (.string xc) := fun z => (tx.below z.h tx.lt).c3
        have qx4 : ∀ z : Cl wr.heap.size wr, z.u.cell? ⟨g, c * 10 + 4, none⟩ = some (.int .i64 xt) := fun z => (tx.below z.h tx.lt).c4
        have qx5 : ∀ z : Cl wr.heap.size wr, z.u.cell? ⟨g, c * 10 + 5, none⟩ = some (.bool xd) := fun z => (tx.below z.h tx.lt).c5
        have qx6 : ∀ z : Cl wr.heap.size wr, z.u.cell? ⟨g, c * 10 + 6, none⟩ = some (.int .i64 xl) := fun z => (tx.below z.h tx.lt).c6
        have qx7 : ∀ z : Cl wr.heap.size wr, z.u.cell? ⟨g, c * 10 + 7, none⟩ = some (.int .i64 xk) := fun z => (tx.below z.h tx.lt).c7
        have qx8 : ∀ z : Cl wr.heap.size wr, z.u.cell? ⟨g, c * 10 + 8, none⟩ = some (.int .i64 xn) := fun z => (tx.below z.h tx.lt).c8
        have qx9 : ∀ z : Cl wr.heap.size wr, z.u.cell? ⟨g, c * 10 + 9, none⟩ = some (.string xs) := fun z => (tx.below z.h tx.lt).c9
        have qy0 : ∀ z : Cl wr.heap.size wr, z.u.cell? ⟨g, pc * 10, none⟩ = some (.string ya) := fun z => (ty.below z.h ty.lt).c0
        have qy1 : ∀ z : Cl wr.heap.size wr, z.u.cell? ⟨g, pc * 10 + 1, none⟩ = some (.string yp) := fun z => (ty.below z.h ty.lt).c1
        have qy2 : ∀ z : Cl wr.heap.size wr, z.u.cell? ⟨g, pc * 10 + 2, none⟩ = some (.int .i64 yr) := fun z => (ty.below z.h ty.lt).c2
        have qy3 : ∀ z : Cl wr.heap.size wr, z.u.cell? ⟨g, pc * 10 + 3, none⟩ = some (.string yc) := fun z => (ty.below z.h ty.lt).c3
        have qy4 : ∀ z : Cl wr.heap.size wr, z.u.cell? ⟨g, pc * 10 + 4, none⟩ = some (.int .i64 yt) := fun z => (ty.below z.h ty.lt).c4
        have qy5 : ∀ z : Cl wr.heap.size wr, z.u.cell? ⟨g, pc * 10 + 5, none⟩ = some (.bool yd) := fun z => (ty.below z.h ty.lt).c5
        have qy6 : ∀ z : Cl wr.heap.size wr, z.u.cell? ⟨g, pc * 10 + 6, none⟩ = some (.int .i64 yl) := fun z => (ty.below z.h ty.lt).c6
        have qy7 : ∀ z : Cl wr.heap.size wr, z.u.cell? ⟨g, pc * 10 + 7, none⟩ = some (.int .i64 yk) := fun z => (ty.below z.h ty.lt).c7
        have qy8 : ∀ z : Cl wr.heap.size wr, z.u.cell? ⟨g, pc * 10 + 8, none⟩ = some (.int .i64 yn) := fun z => (ty.below z.h ty.lt).c8
        have qy9 : ∀ z : Cl wr.heap.size wr, z.u.cell? ⟨g, pc * 10 + 9, none⟩ = some (.string ys) := fun z => (ty.below z.h ty.lt).c9
        clear tx ty
        haveI := Cl.inh wr.heap.size wr
        by_cases hk : K2 < 0
        · have hKd : decide (K2 < 0) = true := decide_eq_true hk
          have HN2 : Hid (Srch (P ++ A ++ T ++ Q) p s0 mid s c) := HN.out hk
          clear HY HN hk
          go_wp2_with fail
          refine wp_region_cl wr.heap.size (by kernel_rfl) (by kernel_rfl) ?_
          quiet_step (fail)
          quiet_step (fail)
          quiet_step (fail)
          quiet_step (fail)
          quiet_step (fail)
          quiet_step (fail)
          quiet_step (fail)
          quiet_step (fail)
          quiet_step (fail)
          quiet_step (fail)
          quiet_step (fail)
          quiet_step ((go_at_call 34; exact Cl.calls (Nat.le_refl _) (C.out _)))
          quiet_step (fail)
          quiet_step (fail)
          refine wpQuiet_nil ?_
          rintro w0 ⟨z, rfl⟩
          obtain ⟨hR1, hG1⟩ := HRx.out _ z.h
          go_wp2_with fail
          go_roundw
          case rel => exact ⟨s, c, rfl, rfl, HL.out.1, HL.out.2.1, by have := HL.out; omega, HN2.out, hR1, hG1⟩
          case measure => have := HL.out; (simp [intOf]; try omega)
        · have hKd : decide (K2 < 0) = false := decide_eq_false hk
          have HY2 : Hid (Srch (P ++ A ++ T ++ Q) p s0 mid (c + 1) r) := HY.out hk
          clear HY HN hk
          go_wp2_with fail
          refine wp_region_cl wr.heap.size (by kernel_rfl) (by kernel_rfl) ?_
          quiet_step (fail)
          quiet_step (fail)
          quiet_step (fail)
          quiet_step (fail)
          quiet_step (fail)
          quiet_step (fail)
          quiet_step (fail)
          quiet_step (fail)
          quiet_step (fail)
          quiet_step (fail)
          quiet_step (fail)
          quiet_step ((go_at_call 34; exact Cl.calls (Nat.le_refl _) (C.out _)))
          quiet_step (fail)
          quiet_step (fail)
          refine wpQuiet_nil ?_
          rintro w0 ⟨z, rfl⟩
          obtain ⟨hR1, hG1⟩ := HRx.out _ z.h
          go_wp2_with fail
          go_roundw
          case rel => exact ⟨c + 1, r, by go_num, rfl, by have := HL.out; omega, by have := HL.out; omega, HL.out.2.2.2, HY2.out, hR1, hG1⟩
          case measure => have := HL.out; (simp [intOf]; try omega)
      · obtain rfl : s = r := by omega
        have hltz : ¬ (s : Int) < (s : Int) := by omega
        have h10 := HZ.out
        have h8 := HPA.out
        have h9 := HP.out.hp
        have h11 := HP.out.hn
        have h12 := HP.out.am
        have h13 := HP.out.mb
        obtain ⟨A0, X, Y, B1, hAX, hYB, l1, l2, l3, l4, hxy, hab⟩ := hS.parts HP.out h10.1 h10.2.1 h10.2.2.1 HUA.out HUT.out hs1 hr1
        obtain ⟨q, hq⟩ : ∃ q, q = n - s := ⟨_, rfl⟩
        have eq : (n : Int) - (s : Int) = (q : Int) := by omega
        have hRR : Rx wr B g cap (P ++ (A0 ++ X) ++ (Y ++ B1) ++ Q) := by rw [← hAX, ← hYB]; exact hR
        have uA : Up (A0 ++ X) := hAX ▸ HUA.out
        have uT : Up (Y ++ B1) := hYB ▸ HUT.out
        have hlen : P.length + (A0.length + X.length) + (Y.length + B1.length) + Q.length = N := by
          have := h10.2.2.2.2.1
          rw [hAX, hYB] at this
          simp only [List.length_append] at this
          omega
        have hKK : A0.length + X.length + (Y.length + B1.length) ≤ K := by have := h10.2.2.2.1; rw [hAX, hYB] at this; simp only [List.length_append] at this; omega
        have END : Hid (∀ S1 S2 w', St (A0 ++ Y) S1 → Up S1 → St (X ++ B1) S2 → Up S2 → Rx w' B g cap (P ++ S1 ++ S2 ++ Q) → ∃ S', St (A ++ T) S' ∧ Up S' ∧ Rx w' B g cap (P ++ S' ++ Q)) := fun S1 S2 w' s1 u1 s2 u2 hR => by
          obtain ⟨t1, t2⟩ := turned uA uT hxy hab s1 s2 u1 u2
          rw [← hAX, ← hYB] at t1
          exact ⟨S1 ++ S2, t1, t2, by simpa using hR⟩
        have SY1 : Hid (1 ≤ A0.length → 1 ≤ Y.length → ∀ w, Rx w B g cap (P ++ (A0 ++ Y) ++ (X ++ (B1 ++ Q))) → Calls Try.prog 56 #[.slice (some ⟨g, 0, none⟩) N cap, .int .i64 (a : Nat), .int .i64 (s : Nat), .int .i64 (mid : Nat), .func (.func 34) #[] #[]] w fun e w' => e = .returned (.tuple #[]) ∧ (∃ S', St (A0 ++ Y) S' ∧ Up S' ∧ Rx w' B g cap (P ++ S' ++ (X ++ (B1 ++ Q)))) ∧ w.grownBy w' (some g)) := fun g1 g2 w hR => IH.out a s mid P A0 Y (X ++ (B1 ++ Q)) w (by omega) g1 g2 uA.left uT.left h10.1 l1 (by omega) (by simp only [List.length_append]; omega) hR
        have SY2 : Hid (1 ≤ X.length → 1 ≤ B1.length → ∀ S1 w, S1.length = (A0 ++ Y).length → Rx w B g cap (P ++ S1 ++ (X ++ (B1 ++ Q))) → Calls Try.prog 56 #[.slice (some ⟨g, 0, none⟩) N cap, .int .i64 (mid : Nat), .int .i64 (q : Nat), .int .i64 (b : Nat), .func (.func 34) #[] #[]] w fun e w' => e = .returned (.tuple #[]) ∧ (∃ S', St (X ++ B1) S' ∧ Up S' ∧ Rx w' B g cap (P ++ S1 ++ S' ++ Q)) ∧ w.grownBy w' (some g)) := fun g1 g2 S1 w hl hR => IH.out mid q b (P ++ S1) X B1 Q w (by omega) g1 g2 uA.right uT.right (by rw [List.length_append, hl, List.length_append]; omega) (by omega) (by omega) (by simp only [List.length_append] at hl ⊢; omega) (by simpa using hR)
        have RO : Hid (1 ≤ X.length → 1 ≤ Y.length → ∀ w, Rx w B g cap (P ++ (A0 ++ X) ++ (Y ++ B1) ++ Q) → Calls Try.prog 67 #[.slice (some ⟨g, 0, none⟩) N cap, .int .i64 (s : Nat), .int .i64 (m : Nat), .int .i64 (q : Nat), .func (.func 34) #[] #[]] w fun e w' => e = .returned (.tuple #[]) ∧ Rx w' B g cap (P ++ (A0 ++ Y) ++ (X ++ (B1 ++ Q))) ∧ w.grownBy w' (some g)) := fun g1 g2 w hR => by
          have h := rotate_any B g cap N (P ++ A0) X Y (B1 ++ Q) (.func (.func 34) #[] #[]) w (by simpa using hR) (by simp only [List.length_append]; omega) g1 g2 (by omega)
          rw [show (P ++ A0).length = s by rw [List.length_append]; omega, show s + X.length = m by omega, show m + Y.length = q by omega] at h
          exact h.mono fun e w' ⟨r1, r2, r3⟩ => ⟨r1, by simpa using r2, r3⟩
        have HRR : Hid (Rx wr B g cap (P ++ (A0 ++ X) ++ (Y ++ B1) ++ Q)) := hRR
        have HG : Hid (w.grownBy wr (some g)) := hG
        have UU : Hid (Up A0 ∧ Up Y ∧ Up X ∧ Up B1) := ⟨uA.left, uT.left, uA.right, uT.right⟩
        have hqz : (q : Int) ≤ 1000000 := by omega
        have hsz : (s : Int) ≤ 1000000 := by omega
        have cA : (A0 = [] ∧ ¬ (a : Int) < (s : Int)) ∨ (1 ≤ A0.length ∧ (a : Int) < (s : Int)) := by
          cases A0 with
          | nil => exact .inl ⟨rfl, by simp at l1; omega⟩
          | cons u U => exact .inr ⟨by simp, by simp at l1; omega⟩
        have cX : (X = [] ∧ ¬ (s : Int) < (m : Int) ∧ ¬ (mid : Int) < (q : Int)) ∨ (1 ≤ X.length ∧ (s : Int) < (m : Int) ∧ (mid : Int) < (q : Int)) := by
          cases X with
          | nil => exact .inl ⟨rfl, by simp at l3; omega, by simp at l3; omega⟩
          | cons u U => exact .inr ⟨by simp, by simp at l3; omega, by simp at l3; omega⟩
        have cY : (Y = [] ∧ ¬ (m : Int) < (q : Int) ∧ ¬ (s : Int) < (mid : Int)) ∨ (1 ≤ Y.length ∧ (m : Int) < (q : Int) ∧ (s : Int) < (mid : Int)) := by
          cases Y with
          | nil => exact .inl ⟨rfl, by simp at l2; omega, by simp at l2; omega⟩
          | cons u U => exact .inr ⟨by simp, by simp at l2; omega, by simp at l2; omega⟩
        have cB : (B1 = [] ∧ ¬ (q : Int) < (b : Int)) ∨ (1 ≤ B1.length ∧ (q : Int) < (b : Int)) := by
          cases B1 with
          | nil => exact .inl ⟨rfl, by simp at l4; omega⟩
          | cons u U => exact .inr ⟨by simp, by simp at l4; omega⟩
        have nAY : ¬ (A0 = [] ∧ Y = []) := by rintro ⟨rfl, rfl⟩; simp at l1 l2; omega
        have nXB : ¬ (X = [] ∧ B1 = []) := by rintro ⟨rfl, rfl⟩; simp at l3 l4; omega
        clear hAX hYB hR hRR hG hS hxy hab uA uT hlen hKK IH h8 h9 h10 h11 h12 h13 hs1 hsr hr1 hlt hq l1 l2 l3 l4
        rcases cA with ⟨rfl, gA⟩ | ⟨gA0, gA⟩
        · rcases cY with ⟨rfl, gY, gY2⟩ | ⟨gY0, gY, gY2⟩
          · rcases cX with ⟨rfl, gX, gX2⟩ | ⟨gX0, gX, gX2⟩
            · rcases cB with ⟨rfl, gB⟩ | ⟨gB0, gB⟩
              · exact absurd ⟨rfl, rfl⟩ nAY
              · exact absurd ⟨rfl, rfl⟩ nAY
            · rcases cB with ⟨rfl, gB⟩ | ⟨gB0, gB⟩
              · exact absurd ⟨rfl, rfl⟩ nAY
              · exact absurd ⟨rfl, rfl⟩ nAY
          · rcases cX with ⟨rfl, gX, gX2⟩ | ⟨gX0, gX, gX2⟩
            · rcases cB with ⟨rfl, gB⟩ | ⟨gB0, gB⟩
              · exact absurd ⟨rfl, rfl⟩ nXB
              · (try (exfalso; omega))
                all_goals
                  clear nAY nXB
                  have S0 := HRR.out
                  have G0 := HG.out
                  clear HRR HG
                  have U0 := UU.out
                  clear UU
                  have S1x : Rx wr B g cap (P ++ ([] ++ Y) ++ ([] ++ (B1 ++ Q))) := by simpa using S0
                  have S1 : Hid (Rx wr B g cap (P ++ ([] ++ Y) ++ ([] ++ (B1 ++ Q)))) := S1x
                  have G1 : Hid (w.grownBy wr (some g)) := G0
                  clear S0 S1x G0 RO
                  have U0 : Hid (Up ([] : List Cx) ∧ Up Y ∧ Up ([] : List Cx) ∧ Up B1) := U0
                  clear SY1
                  clear SY2
                  go_wp2_with fail
                  obtain ⟨S, hS⟩ : ∃ S, S = ([] ++ Y) := ⟨_, rfl⟩
                  have T1 : Hid (St ([] ++ Y) S ∧ Up S ∧ Rx wr B g cap (P ++ S ++ ([] ++ (B1 ++ Q)))) := by rw [hS]; exact ⟨St.refl _, by simpa using U0.out.2.1, S1.out⟩
                  have G2 : Hid (w.grownBy wr (some g)) := G1.out
                  clear G1 S1 hS
                  obtain ⟨V, hV⟩ : ∃ V, V = ([] ++ B1) := ⟨_, rfl⟩
                  have T2 : Hid (St ([] ++ B1) V ∧ Up V ∧ Rx wr B g cap (P ++ S ++ V ++ Q)) := by rw [hV]; exact ⟨St.refl _, by simpa using U0.out.2.2.2, by simpa using T1.out.2.2⟩
                  have G3 : Hid (w.grownBy wr (some g)) := G2.out
                  clear G2 hV
                  go_end0
                  have hend := END.out S V wr T1.out.1 T1.out.2.1 T2.out.1 T2.out.2.1 T2.out.2.2
                  exact ⟨rfl, by simpa [List.append_assoc] using hend, G3.out⟩
            · rcases cB with ⟨rfl, gB⟩ | ⟨gB0, gB⟩
              · (try (exfalso; omega))
                all_goals
                  clear nAY nXB
                  have S0 := HRR.out
                  have G0 := HG.out
                  clear HRR HG
                  have U0 := UU.out
                  clear UU
                  have S0 : Hid (Rx wr B g cap (P ++ ([] ++ X) ++ (Y ++ []) ++ Q)) := S0
                  have G0 : Hid (w.grownBy wr (some g)) := G0
                  have U0 : Hid (Up ([] : List Cx) ∧ Up Y ∧ Up X ∧ Up ([] : List Cx)) := U0
                  clear SY1
                  clear SY2
                  go_wp2_with fail
                  go_fit (RO.out gX0 gY0 wr S0.out)
                  rintro e w1 ⟨rfl, S1, G1⟩
                  have G1 := G0.out.trans G1
                  clear S0 G0 RO
                  have S1 : Hid (Rx w1 B g cap (P ++ ([] ++ Y) ++ (X ++ ([] ++ Q)))) := S1
                  have G1 : Hid (w.grownBy w1 (some g)) := G1
                  go_wp2_with fail
                  obtain ⟨S, hS⟩ : ∃ S, S = ([] ++ Y) := ⟨_, rfl⟩
                  have T1 : Hid (St ([] ++ Y) S ∧ Up S ∧ Rx w1 B g cap (P ++ S ++ (X ++ ([] ++ Q)))) := by rw [hS]; exact ⟨St.refl _, by simpa using U0.out.2.1, S1.out⟩
                  have G2 : Hid (w.grownBy w1 (some g)) := G1.out
                  clear G1 S1 hS
                  obtain ⟨V, hV⟩ : ∃ V, V = (X ++ []) := ⟨_, rfl⟩
                  have T2 : Hid (St (X ++ []) V ∧ Up V ∧ Rx w1 B g cap (P ++ S ++ V ++ Q)) := by rw [hV]; exact ⟨St.refl _, by simpa using U0.out.2.2.1, by simpa using T1.out.2.2⟩
                  have G3 : Hid (w.grownBy w1 (some g)) := G2.out
                  clear G2 hV
                  go_end0
                  have hend := END.out S V w1 T1.out.1 T1.out.2.1 T2.out.1 T2.out.2.1 T2.out.2.2
                  exact ⟨rfl, by simpa [List.append_assoc] using hend, G3.out⟩
              · (try (exfalso; omega))
                all_goals
                  clear nAY nXB
                  have S0 := HRR.out
                  have G0 := HG.out
                  clear HRR HG
                  have U0 := UU.out
                  clear UU
                  have S0 : Hid (Rx wr B g cap (P ++ ([] ++ X) ++ (Y ++ B1) ++ Q)) := S0
                  have G0 : Hid (w.grownBy wr (some g)) := G0
                  have U0 : Hid (Up ([] : List Cx) ∧ Up Y ∧ Up X ∧ Up B1) := U0
                  clear SY1
                  go_wp2_with fail
                  go_fit (RO.out gX0 gY0 wr S0.out)
                  rintro e w1 ⟨rfl, S1, G1⟩
                  have G1 := G0.out.trans G1
                  clear S0 G0 RO
                  have S1 : Hid (Rx w1 B g cap (P ++ ([] ++ Y) ++ (X ++ (B1 ++ Q)))) := S1
                  have G1 : Hid (w.grownBy w1 (some g)) := G1
                  go_wp2_with fail
                  obtain ⟨S, hS⟩ : ∃ S, S = ([] ++ Y) := ⟨_, rfl⟩
                  have T1 : Hid (St ([] ++ Y) S ∧ Up S ∧ Rx w1 B g cap (P ++ S ++ (X ++ (B1 ++ Q)))) := by rw [hS]; exact ⟨St.refl _, by simpa using U0.out.2.1, S1.out⟩
                  have G2 : Hid (w.grownBy w1 (some g)) := G1.out
                  clear G1 S1 hS
                  go_fit (SY2.out gX0 gB0 S w1 T1.out.1.len T1.out.2.2)
                  rintro e w3 ⟨rfl, ⟨V, t1, t2, t3⟩, G3⟩
                  have G3 := G2.out.trans G3
                  clear G2 SY2
                  have T2 : Hid (St (X ++ B1) V ∧ Up V ∧ Rx w3 B g cap (P ++ S ++ V ++ Q)) := ⟨t1, t2, t3⟩
                  clear t1 t2 t3
                  have G3 : Hid (w.grownBy w3 (some g)) := G3
                  go_wp2_with fail
                  go_end0
                  have hend := END.out S V w3 T1.out.1 T1.out.2.1 T2.out.1 T2.out.2.1 T2.out.2.2
                  exact ⟨rfl, by simpa [List.append_assoc] using hend, G3.out⟩
        · rcases cY with ⟨rfl, gY, gY2⟩ | ⟨gY0, gY, gY2⟩
          · rcases cX with ⟨rfl, gX, gX2⟩ | ⟨gX0, gX, gX2⟩
            · rcases cB with ⟨rfl, gB⟩ | ⟨gB0, gB⟩
              · exact absurd ⟨rfl, rfl⟩ nXB
              · (try (exfalso; omega))
                all_goals
                  clear nAY nXB
                  have S0 := HRR.out
                  have G0 := HG.out
                  clear HRR HG
                  have U0 := UU.out
                  clear UU
                  have S1x : Rx wr B g cap (P ++ (A0 ++ []) ++ ([] ++ (B1 ++ Q))) := by simpa using S0
                  have S1 : Hid (Rx wr B g cap (P ++ (A0 ++ []) ++ ([] ++ (B1 ++ Q)))) := S1x
                  have G1 : Hid (w.grownBy wr (some g)) := G0
                  clear S0 S1x G0 RO
                  have U0 : Hid (Up A0 ∧ Up ([] : List Cx) ∧ Up ([] : List Cx) ∧ Up B1) := U0
                  clear SY1
                  clear SY2
                  go_wp2_with fail
                  obtain ⟨S, hS⟩ : ∃ S, S = (A0 ++ []) := ⟨_, rfl⟩
                  have T1 : Hid (St (A0 ++ []) S ∧ Up S ∧ Rx wr B g cap (P ++ S ++ ([] ++ (B1 ++ Q)))) := by rw [hS]; exact ⟨St.refl _, by simpa using U0.out.1, S1.out⟩
                  have G2 : Hid (w.grownBy wr (some g)) := G1.out
                  clear G1 S1 hS
                  obtain ⟨V, hV⟩ : ∃ V, V = ([] ++ B1) := ⟨_, rfl⟩
                  have T2 : Hid (St ([] ++ B1) V ∧ Up V ∧ Rx wr B g cap (P ++ S ++ V ++ Q)) := by rw [hV]; exact ⟨St.refl _, by simpa using U0.out.2.2.2, by simpa using T1.out.2.2⟩
                  have G3 : Hid (w.grownBy wr (some g)) := G2.out
                  clear G2 hV
                  go_end0
                  have hend := END.out S V wr T1.out.1 T1.out.2.1 T2.out.1 T2.out.2.1 T2.out.2.2
                  exact ⟨rfl, by simpa [List.append_assoc] using hend, G3.out⟩
            · rcases cB with ⟨rfl, gB⟩ | ⟨gB0, gB⟩
              · (try (exfalso; omega))
                all_goals
                  clear nAY nXB
                  have S0 := HRR.out
                  have G0 := HG.out
                  clear HRR HG
                  have U0 := UU.out
                  clear UU
                  have S1x : Rx wr B g cap (P ++ (A0 ++ []) ++ (X ++ ([] ++ Q))) := by simpa using S0
                  have S1 : Hid (Rx wr B g cap (P ++ (A0 ++ []) ++ (X ++ ([] ++ Q)))) := S1x
                  have G1 : Hid (w.grownBy wr (some g)) := G0
                  clear S0 S1x G0 RO
                  have U0 : Hid (Up A0 ∧ Up ([] : List Cx) ∧ Up X ∧ Up ([] : List Cx)) := U0
                  clear SY1
                  clear SY2
                  go_wp2_with fail
                  obtain ⟨S, hS⟩ : ∃ S, S = (A0 ++ []) := ⟨_, rfl⟩
                  have T1 : Hid (St (A0 ++ []) S ∧ Up S ∧ Rx wr B g cap (P ++ S ++ (X ++ ([] ++ Q)))) := by rw [hS]; exact ⟨St.refl _, by simpa using U0.out.1, S1.out⟩
                  have G2 : Hid (w.grownBy wr (some g)) := G1.out
                  clear G1 S1 hS
                  obtain ⟨V, hV⟩ : ∃ V, V = (X ++ []) := ⟨_, rfl⟩
                  have T2 : Hid (St (X ++ []) V ∧ Up V ∧ Rx wr B g cap (P ++ S ++ V ++ Q)) := by rw [hV]; exact ⟨St.refl _, by simpa using U0.out.2.2.1, by simpa using T1.out.2.2⟩
                  have G3 : Hid (w.grownBy wr (some g)) := G2.out
                  clear G2 hV
                  go_end0
                  have hend := END.out S V wr T1.out.1 T1.out.2.1 T2.out.1 T2.out.2.1 T2.out.2.2
                  exact ⟨rfl, by simpa [List.append_assoc] using hend, G3.out⟩
              · (try (exfalso; omega))
                all_goals
                  clear nAY nXB
                  have S0 := HRR.out
                  have G0 := HG.out
                  clear HRR HG
                  have U0 := UU.out
                  clear UU
                  have S1x : Rx wr B g cap (P ++ (A0 ++ []) ++ (X ++ (B1 ++ Q))) := by simpa using S0
                  have S1 : Hid (Rx wr B g cap (P ++ (A0 ++ []) ++ (X ++ (B1 ++ Q)))) := S1x
                  have G1 : Hid (w.grownBy wr (some g)) := G0
                  clear S0 S1x G0 RO
                  have U0 : Hid (Up A0 ∧ Up ([] : List Cx) ∧ Up X ∧ Up B1) := U0
                  clear SY1
                  go_wp2_with fail
                  obtain ⟨S, hS⟩ : ∃ S, S = (A0 ++ []) := ⟨_, rfl⟩
                  have T1 : Hid (St (A0 ++ []) S ∧ Up S ∧ Rx wr B g cap (P ++ S ++ (X ++ (B1 ++ Q)))) := by rw [hS]; exact ⟨St.refl _, by simpa using U0.out.1, S1.out⟩
                  have G2 : Hid (w.grownBy wr (some g)) := G1.out
                  clear G1 S1 hS
                  go_fit (SY2.out gX0 gB0 S wr T1.out.1.len T1.out.2.2)
                  rintro e w3 ⟨rfl, ⟨V, t1, t2, t3⟩, G3⟩
                  have G3 := G2.out.trans G3
                  clear G2 SY2
                  have T2 : Hid (St (X ++ B1) V ∧ Up V ∧ Rx w3 B g cap (P ++ S ++ V ++ Q)) := ⟨t1, t2, t3⟩
                  clear t1 t2 t3
                  have G3 : Hid (w.grownBy w3 (some g)) := G3
                  go_wp2_with fail
                  go_end0
                  have hend := END.out S V w3 T1.out.1 T1.out.2.1 T2.out.1 T2.out.2.1 T2.out.2.2
                  exact ⟨rfl, by simpa [List.append_assoc] using hend, G3.out⟩
          · rcases cX with ⟨rfl, gX, gX2⟩ | ⟨gX0, gX, gX2⟩
            · rcases cB with ⟨rfl, gB⟩ | ⟨gB0, gB⟩
              · exact absurd ⟨rfl, rfl⟩ nXB
              · (try (exfalso; omega))
                all_goals
                  clear nAY nXB
                  have S0 := HRR.out
                  have G0 := HG.out
                  clear HRR HG
                  have U0 := UU.out
                  clear UU
                  have S1x : Rx wr B g cap (P ++ (A0 ++ Y) ++ ([] ++ (B1 ++ Q))) := by simpa using S0
                  have S1 : Hid (Rx wr B g cap (P ++ (A0 ++ Y) ++ ([] ++ (B1 ++ Q)))) := S1x
                  have G1 : Hid (w.grownBy wr (some g)) := G0
                  clear S0 S1x G0 RO
                  have U0 : Hid (Up A0 ∧ Up Y ∧ Up ([] : List Cx) ∧ Up B1) := U0
                  clear SY2
                  go_wp2_with fail
                  go_fit (SY1.out gA0 gY0 wr S1.out)
                  rintro e w2 ⟨rfl, ⟨S, t1, t2, t3⟩, G2⟩
                  have G2 := G1.out.trans G2
                  clear G1 SY1
                  have T1 : Hid (St (A0 ++ Y) S ∧ Up S ∧ Rx w2 B g cap (P ++ S ++ ([] ++ (B1 ++ Q)))) := ⟨t1, t2, t3⟩
                  clear t1 t2 t3 S1
                  have G2 : Hid (w.grownBy w2 (some g)) := G2
                  go_wp2_with fail
                  obtain ⟨V, hV⟩ : ∃ V, V = ([] ++ B1) := ⟨_, rfl⟩
                  have T2 : Hid (St ([] ++ B1) V ∧ Up V ∧ Rx w2 B g cap (P ++ S ++ V ++ Q)) := by rw [hV]; exact ⟨St.refl _, by simpa using U0.out.2.2.2, by simpa using T1.out.2.2⟩
                  have G3 : Hid (w.grownBy w2 (some g)) := G2.out
                  clear G2 hV
                  go_end0
                  have hend := END.out S V w2 T1.out.1 T1.out.2.1 T2.out.1 T2.out.2.1 T2.out.2.2
                  exact ⟨rfl, by simpa [List.append_assoc] using hend, G3.out⟩
            · rcases cB with ⟨rfl, gB⟩ | ⟨gB0, gB⟩
              · (try (exfalso; omega))
                all_goals
                  clear nAY nXB
                  have S0 := HRR.out
                  have G0 := HG.out
                  clear HRR HG
                  have U0 := UU.out
                  clear UU
                  have S0 : Hid (Rx wr B g cap (P ++ (A0 ++ X) ++ (Y ++ []) ++ Q)) := S0
                  have G0 : Hid (w.grownBy wr (some g)) := G0
                  have U0 : Hid (Up A0 ∧ Up Y ∧ Up X ∧ Up ([] : List Cx)) := U0
                  clear SY2
                  go_wp2_with fail
                  go_fit (RO.out gX0 gY0 wr S0.out)
                  rintro e w1 ⟨rfl, S1, G1⟩
                  have G1 := G0.out.trans G1
                  clear S0 G0 RO
                  have S1 : Hid (Rx w1 B g cap (P ++ (A0 ++ Y) ++ (X ++ ([] ++ Q)))) := S1
                  have G1 : Hid (w.grownBy w1 (some g)) := G1
                  go_wp2_with fail
                  go_fit (SY1.out gA0 gY0 w1 S1.out)
                  rintro e w2 ⟨rfl, ⟨S, t1, t2, t3⟩, G2⟩
                  have G2 := G1.out.trans G2
                  clear G1 SY1
                  have T1 : Hid (St (A0 ++ Y) S ∧ Up S ∧ Rx w2 B g cap (P ++ S ++ (X ++ ([] ++ Q)))) := ⟨t1, t2, t3⟩
                  clear t1 t2 t3 S1
                  have G2 : Hid (w.grownBy w2 (some g)) := G2
                  go_wp2_with fail
                  obtain ⟨V, hV⟩ : ∃ V, V = (X ++ []) := ⟨_, rfl⟩
                  have T2 : Hid (St (X ++ []) V ∧ Up V ∧ Rx w2 B g cap (P ++ S ++ V ++ Q)) := by rw [hV]; exact ⟨St.refl _, by simpa using U0.out.2.2.1, by simpa using T1.out.2.2⟩
                  have G3 : Hid (w.grownBy w2 (some g)) := G2.out
                  clear G2 hV
                  go_end0
                  have hend := END.out S V w2 T1.out.1 T1.out.2.1 T2.out.1 T2.out.2.1 T2.out.2.2
                  exact ⟨rfl, by simpa [List.append_assoc] using hend, G3.out⟩
              · (try (exfalso; omega))
                all_goals
                  clear nAY nXB
                  have S0 := HRR.out
                  have G0 := HG.out
                  clear HRR HG
                  have U0 := UU.out
                  clear UU
                  have S0 : Hid (Rx wr B g cap (P ++ (A0 ++ X) ++ (Y ++ B1) ++ Q)) := S0
                  have G0 : Hid (w.grownBy wr (some g)) := G0
                  have U0 : Hid (Up A0 ∧ Up Y ∧ Up X ∧ Up B1) := U0
                  go_wp2_with fail
                  go_fit (RO.out gX0 gY0 wr S0.out)
                  rintro e w1 ⟨rfl, S1, G1⟩
                  have G1 := G0.out.trans G1
                  clear S0 G0 RO
                  have S1 : Hid (Rx w1 B g cap (P ++ (A0 ++ Y) ++ (X ++ (B1 ++ Q)))) := S1
                  have G1 : Hid (w.grownBy w1 (some g)) := G1
                  go_wp2_with fail
                  go_fit (SY1.out gA0 gY0 w1 S1.out)
                  rintro e w2 ⟨rfl, ⟨S, t1, t2, t3⟩, G2⟩
                  have G2 := G1.out.trans G2
                  clear G1 SY1
                  have T1 : Hid (St (A0 ++ Y) S ∧ Up S ∧ Rx w2 B g cap (P ++ S ++ (X ++ (B1 ++ Q)))) := ⟨t1, t2, t3⟩
                  clear t1 t2 t3 S1
                  have G2 : Hid (w.grownBy w2 (some g)) := G2
                  go_wp2_with fail
                  go_fit (SY2.out gX0 gB0 S w2 T1.out.1.len T1.out.2.2)
                  rintro e w3 ⟨rfl, ⟨V, t1, t2, t3⟩, G3⟩
                  have G3 := G2.out.trans G3
                  clear G2 SY2
                  have T2 : Hid (St (X ++ B1) V ∧ Up V ∧ Rx w3 B g cap (P ++ S ++ V ++ Q)) := ⟨t1, t2, t3⟩
                  clear t1 t2 t3
                  have G3 : Hid (w.grownBy w3 (some g)) := G3
                  go_wp2_with fail
                  go_end0
                  have hend := END.out S V w3 T1.out.1 T1.out.2.1 T2.out.1 T2.out.2.1 T2.out.2.2
                  exact ⟨rfl, by simpa [List.append_assoc] using hend, G3.out⟩
  · have h3 := h3.symm
    have h4 := h4.symm
    subst h3
    subst h4
    clear h1
    go_enter Try.func56, Try.ntmps56
    go_wp2_with fail
    go_loopw [20, 21] (fun s20 s21 wr => ∃ s r : Nat, s20 = .int .i64 s ∧ s21 = .int .i64 r ∧ a ≤ s ∧ s ≤ r ∧ r ≤ m ∧ Srch (P ++ A ++ T ++ Q) p a m s r ∧ Rx wr B g cap (P ++ A ++ T ++ Q) ∧ w.grownBy wr (some g)) (fun s20 s21 _ => (intOf s21).toNat - (intOf s20).toNat)
    case atStart => exact ⟨_, _, rfl, rfl, Nat.le_refl _, HPA.out.2.1, Nat.le_refl _, HS0.out, HR0.out, HG0.out⟩
    case round =>
      obtain ⟨s, r, rfl, rfl, hs1, hsr, hr1, hS, hR, hG⟩ := hrel
      clear HS0 HR0 HG0
      by_cases hlt : s < r
      · have hltz : (s : Int) < (r : Int) := by omega
        have h8 := HPA.out
        have h9 := HP.out.hp
        have h10 := HZ.out
        obtain ⟨c, hc⟩ : ∃ c, c = (s + r) / 2 := ⟨_, rfl⟩
        have ec : ((s : Int) + (r : Int)) / 2 = (c : Int) := by omega
        obtain ⟨pc, hpc⟩ : ∃ pc, pc = p - c := ⟨_, rfl⟩
        have epc : (p : Int) - (c : Int) = (pc : Int) := by omega
        have hc1 : s ≤ c := by omega
        have hc2 : c < r := by omega
        have hlen : (P ++ A ++ T ++ Q).length = N := by have := h10.2.2.2.2.1; simpa using this
        obtain ⟨x, hx⟩ : ∃ x, (P ++ A ++ T ++ Q)[c]? = some x := ⟨_, List.getElem?_eq_getElem (by rw [hlen]; omega)⟩
        obtain ⟨y, hy⟩ : ∃ y, (P ++ A ++ T ++ Q)[pc]? = some y := ⟨_, List.getElem?_eq_getElem (by rw [hlen]; omega)⟩
        have tx : TenX wr g (c * 10) x := hR.ten hx
        have ty : TenX wr g (pc * 10) y := hR.ten hy
        have C : Hid (∀ w : World, Calls Try.prog 34 #[y.val, x.val] w fun e w' => e = .returned (.int .i64 (kx y x)) ∧ Below w.heap.size w w') := fun w => cmpKeys_any y x w
        have HRx : Hid (∀ w', Below wr.heap.size wr w' → Rx w' B g cap (P ++ A ++ T ++ Q) ∧ w.grownBy w' (some g)) := fun w' h => ⟨hR.below h, hG.trans (grown_below h g)⟩
        have HY : Hid (¬ kx y x < 0 → Srch (P ++ A ++ T ++ Q) p a m (c + 1) r) := fun hk => hS.up HP.out h10.1 h10.2.1 h10.2.2.1 HUA.out HUT.out hs1 hc1 hc2 hr1 hx (hpc ▸ hy) hk
        have HN : Hid (kx y x < 0 → Srch (P ++ A ++ T ++ Q) p a m s c) := fun hk => hS.down HP.out h10.1 h10.2.1 h10.2.2.1 HUA.out HUT.out hs1 hc1 hc2 hr1 hx (hpc ▸ hy) hk
        have hcN : (c : Int) < (N : Int) := by omega
        have hwp : IntKind.i64.wrap (pc : Int) = (pc : Int) := by rw [IntKind.wrap_i64]; omega
        have hpN : (pc : Int) < (N : Int) := by omega
        have hpz : (p : Int) ≤ 3000000 := by omega
        have hsz : (s : Int) ≤ 1000000 := by omega
        have hrz : (r : Int) ≤ 1000000 := by omega
        have HL : Hid (a ≤ s ∧ s ≤ c ∧ c < r ∧ r ≤ m) := ⟨hs1, hc1, hc2, hr1⟩
        generalize hkx : kx y x = K2 at *
        clear hkx hx hy hR hG hS hs1 hsr hr1 hlt hc hpc hc1 hc2 hlen h8 h9 h10
        obtain ⟨⟨xa, xp, xr, xc⟩, ⟨xt, xd, xl, xk, xn, xs⟩⟩ := x
        obtain ⟨⟨ya, yp, yr, yc⟩, ⟨yt, yd, yl, yk, yn, ys⟩⟩ := y
        simp only [Cx.val, Cx.a] at C
        have qx0 : ∀ z : Cl wr.heap.size wr, z.u.cell? ⟨g, c * 10, none⟩ = some (.string xa) := fun z => (tx.below z.h tx.lt).c0
        have qx1 : ∀ z : Cl wr.heap.size wr, z.u.cell? ⟨g, c * 10 + 1, none⟩ = some (.string xp) := fun z => (tx.below z.h tx.lt).c1
        have qx2 : ∀ z : Cl wr.heap.size wr, z.u.cell? ⟨g, c * 10 + 2, none⟩ = some (.int .i64 xr) := fun z => (tx.below z.h tx.lt).c2
        have qx3 : ∀ z : Cl wr.heap.size wr, z.u.cell? ⟨g, c * 10 + 3, none⟩ = some (.string xc) := fun z => (tx.below z.h tx.lt).c3
        have qx4 : ∀ z : Cl wr.heap.size wr, z.u.cell? ⟨g, c * 10 + 4, none⟩ = some (.int .i64 xt) := fun z => (tx.below z.h tx.lt).c4
        have qx5 : ∀ z : Cl wr.heap.size wr, z.u.cell? ⟨g, c * 10 + 5, none⟩ = some (.bool xd) := fun z => (tx.below z.h tx.lt).c5
        have qx6 : ∀ z : Cl wr.heap.size wr, z.u.cell? ⟨g, c * 10 + 6, none⟩ = some (.int .i64 xl) := fun z => (tx.below z.h tx.lt).c6
        have qx7 : ∀ z : Cl wr.heap.size wr, z.u.cell? ⟨g, c * 10 + 7, none⟩ = some (.int .i64 xk) := fun z => (tx.below z.h tx.lt).c7
        have qx8 : ∀ z : Cl wr.heap.size wr, z.u.cell? ⟨g, c * 10 + 8, none⟩ = some (.int .i64 xn) := fun z => (tx.below z.h tx.lt).c8
        have qx9 : ∀ z : Cl wr.heap.size wr, z.u.cell? ⟨g, c * 10 + 9, none⟩ = some (.string xs) := fun z => (tx.below z.h tx.lt).c9
        have qy0 : ∀ z : Cl wr.heap.size wr, z.u.cell? ⟨g, pc * 10, none⟩ = some (.string ya) := fun z => (ty.below z.h ty.lt).c0
        have qy1 : ∀ z : Cl wr.heap.size wr, z.u.cell? ⟨g, pc * 10 + 1, none⟩ = some (.string yp) := fun z => (ty.below z.h ty.lt).c1
        have qy2 : ∀ z : Cl wr.heap.size wr, z.u.cell? ⟨g, pc * 10 + 2, none⟩ = some (.int .i64 yr) := fun z => (ty.below z.h ty.lt).c2
        have qy3 : ∀ z : Cl wr.heap.size wr, z.u.cell? ⟨g, pc * 10 + 3, none⟩ = some (.string yc) := fun z => (ty.below z.h ty.lt).c3
        have qy4 : ∀ z : Cl wr.heap.size wr, z.u.cell? ⟨g, pc * 10 + 4, none⟩ = some (.int .i64 yt) := fun z => (ty.below z.h ty.lt).c4
        have qy5 : ∀ z : Cl wr.heap.size wr, z.u.cell? ⟨g, pc * 10 + 5, none⟩ = some (.bool yd) := fun z => (ty.below z.h ty.lt).c5
        have qy6 : ∀ z : Cl wr.heap.size wr, z.u.cell? ⟨g, pc * 10 + 6, none⟩ = some (.int .i64 yl) := fun z => (ty.below z.h ty.lt).c6
        have qy7 : ∀ z : Cl wr.heap.size wr, z.u.cell? ⟨g, pc * 10 + 7, none⟩ = some (.int .i64 yk) := fun z => (ty.below z.h ty.lt).c7
        have qy8 : ∀ z : Cl wr.heap.size wr, z.u.cell? ⟨g, pc * 10 + 8, none⟩ = some (.int .i64 yn) := fun z => (ty.below z.h ty.lt).c8
        have qy9 : ∀ z : Cl wr.heap.size wr, z.u.cell? ⟨g, pc * 10 + 9, none⟩ = some (.string ys) := fun z => (ty.below z.h ty.lt).c9
        clear tx ty
        haveI := Cl.inh wr.heap.size wr
        by_cases hk : K2 < 0
        · have hKd : decide (K2 < 0) = true := decide_eq_true hk
          have HN2 : Hid (Srch (P ++ A ++ T ++ Q) p a m s c) := HN.out hk
          clear HY HN hk
          go_wp2_with fail
          refine wp_region_cl wr.heap.size (by kernel_rfl) (by kernel_rfl) ?_
          quiet_step (fail)
          quiet_step (fail)
          quiet_step (fail)
          quiet_step (fail)
          quiet_step (fail)
          quiet_step (fail)
          quiet_step (fail)
          quiet_step (fail)
          quiet_step (fail)
          quiet_step (fail)
          quiet_step (fail)
          quiet_step ((go_at_call 34; exact Cl.calls (Nat.le_refl _) (C.out _)))
          quiet_step (fail)
          quiet_step (fail)
          refine wpQuiet_nil ?_
          rintro w0 ⟨z, rfl⟩
          obtain ⟨hR1, hG1⟩ := HRx.out _ z.h
          go_wp2_with fail
          go_roundw
          case rel => exact ⟨s, c, rfl, rfl, HL.out.1, HL.out.2.1, by have := HL.out; omega, HN2.out, hR1, hG1⟩
          case measure => have := HL.out; (simp [intOf]; try omega)
        · have hKd : decide (K2 < 0) = false := decide_eq_false hk
          have HY2 : Hid (Srch (P ++ A ++ T ++ Q) p a m (c + 1) r) := HY.out hk
          clear HY HN hk
          go_wp2_with fail
          refine wp_region_cl wr.heap.size (by kernel_rfl) (by kernel_rfl) ?_
          quiet_step (fail)
          quiet_step (fail)
          quiet_step (fail)
          quiet_step (fail)
          quiet_step (fail)
          quiet_step (fail)
          quiet_step (fail)
          quiet_step (fail)
          quiet_step (fail)
          quiet_step (fail)
          quiet_step (fail)
          quiet_step ((go_at_call 34; exact Cl.calls (Nat.le_refl _) (C.out _)))
          quiet_step (fail)
          quiet_step (fail)
          refine wpQuiet_nil ?_
          rintro w0 ⟨z, rfl⟩
          obtain ⟨hR1, hG1⟩ := HRx.out _ z.h
          go_wp2_with fail
          go_roundw
          case rel => exact ⟨c + 1, r, by go_num, rfl, by have := HL.out; omega, by have := HL.out; omega, HL.out.2.2.2, HY2.out, hR1, hG1⟩
          case measure => have := HL.out; (simp [intOf]; try omega)
      · obtain rfl : s = r := by omega
        have hltz : ¬ (s : Int) < (s : Int) := by omega
        have h10 := HZ.out
        have h8 := HPA.out
        have h9 := HP.out.hp
        have h11 := HP.out.hn
        have h12 := HP.out.am
        have h13 := HP.out.mb
        obtain ⟨A0, X, Y, B1, hAX, hYB, l1, l2, l3, l4, hxy, hab⟩ := hS.parts HP.out h10.1 h10.2.1 h10.2.2.1 HUA.out HUT.out hs1 hr1
        obtain ⟨q, hq⟩ : ∃ q, q = n - s := ⟨_, rfl⟩
        have eq : (n : Int) - (s : Int) = (q : Int) := by omega
        have hRR : Rx wr B g cap (P ++ (A0 ++ X) ++ (Y ++ B1) ++ Q) := by rw [← hAX, ← hYB]; exact hR
        have uA : Up (A0 ++ X) := hAX ▸ HUA.out
        have uT : Up (Y ++ B1) := hYB ▸ HUT.out
        have hlen : P.length + (A0.length + X.length) + (Y.length + B1.length) + Q.length = N := by
          have := h10.2.2.2.2.1
          rw [hAX, hYB] at this
          simp only [List.length_append] at this
          omega
        have hKK : A0.length + X.length + (Y.length + B1.length) ≤ K := by have := h10.2.2.2.1; rw [hAX, hYB] at this; simp only [List.length_append] at this; omega
        have END : Hid (∀ S1 S2 w', St (A0 ++ Y) S1 → Up S1 → St (X ++ B1) S2 → Up S2 → Rx w' B g cap (P ++ S1 ++ S2 ++ Q) → ∃ S', St (A ++ T) S' ∧ Up S' ∧ Rx w' B g cap (P ++ S' ++ Q)) := fun S1 S2 w' s1 u1 s2 u2 hR => by
          obtain ⟨t1, t2⟩ := turned uA uT hxy hab s1 s2 u1 u2
          rw [← hAX, ← hYB] at t1
          exact ⟨S1 ++ S2, t1, t2, by simpa using hR⟩
        have SY1 : Hid (1 ≤ A0.length → 1 ≤ Y.length → ∀ w, Rx w B g cap (P ++ (A0 ++ Y) ++ (X ++ (B1 ++ Q))) → Calls Try.prog 56 #[.slice (some ⟨g, 0, none⟩) N cap, .int .i64 (a : Nat), .int .i64 (s : Nat), .int .i64 (mid : Nat), .func (.func 34) #[] #[]] w fun e w' => e = .returned (.tuple #[]) ∧ (∃ S', St (A0 ++ Y) S' ∧ Up S' ∧ Rx w' B g cap (P ++ S' ++ (X ++ (B1 ++ Q)))) ∧ w.grownBy w' (some g)) := fun g1 g2 w hR => IH.out a s mid P A0 Y (X ++ (B1 ++ Q)) w (by omega) g1 g2 uA.left uT.left h10.1 l1 (by omega) (by simp only [List.length_append]; omega) hR
        have SY2 : Hid (1 ≤ X.length → 1 ≤ B1.length → ∀ S1 w, S1.length = (A0 ++ Y).length → Rx w B g cap (P ++ S1 ++ (X ++ (B1 ++ Q))) → Calls Try.prog 56 #[.slice (some ⟨g, 0, none⟩) N cap, .int .i64 (mid : Nat), .int .i64 (q : Nat), .int .i64 (b : Nat), .func (.func 34) #[] #[]] w fun e w' => e = .returned (.tuple #[]) ∧ (∃ S', St (X ++ B1) S' ∧ Up S' ∧ Rx w' B g cap (P ++ S1 ++ S' ++ Q)) ∧ w.grownBy w' (some g)) := fun g1 g2 S1 w hl hR => IH.out mid q b (P ++ S1) X B1 Q w (by omega) g1 g2 uA.right uT.right (by rw [List.length_append, hl, List.length_append]; omega) (by omega) (by omega) (by simp only [List.length_append] at hl ⊢; omega) (by simpa using hR)
        have RO : Hid (1 ≤ X.length → 1 ≤ Y.length → ∀ w, Rx w B g cap (P ++ (A0 ++ X) ++ (Y ++ B1) ++ Q) → Calls Try.prog 67 #[.slice (some ⟨g, 0, none⟩) N cap, .int .i64 (s : Nat), .int .i64 (m : Nat), .int .i64 (q : Nat), .func (.func 34) #[] #[]] w fun e w' => e = .returned (.tuple #[]) ∧ Rx w' B g cap (P ++ (A0 ++ Y) ++ (X ++ (B1 ++ Q))) ∧ w.grownBy w' (some g)) := fun g1 g2 w hR => by
          have h := rotate_any B g cap N (P ++ A0) X Y (B1 ++ Q) (.func (.func 34) #[] #[]) w (by simpa using hR) (by simp only [List.length_append]; omega) g1 g2 (by omega)
          rw [show (P ++ A0).length = s by rw [List.length_append]; omega, show s + X.length = m by omega, show m + Y.length = q by omega] at h
          exact h.mono fun e w' ⟨r1, r2, r3⟩ => ⟨r1, by simpa using r2, r3⟩
        have HRR : Hid (Rx wr B g cap (P ++ (A0 ++ X) ++ (Y ++ B1) ++ Q)) := hRR
        have HG : Hid (w.grownBy wr (some g)) := hG
        have UU : Hid (Up A0 ∧ Up Y ∧ Up X ∧ Up B1) := ⟨uA.left, uT.left, uA.right, uT.right⟩
        have hqz : (q : Int) ≤ 1000000 := by omega
        have hsz : (s : Int) ≤ 1000000 := by omega
        have cA : (A0 = [] ∧ ¬ (a : Int) < (s : Int)) ∨ (1 ≤ A0.length ∧ (a : Int) < (s : Int)) := by
          cases A0 with
          | nil => exact .inl ⟨rfl, by simp at l1; omega⟩
          | cons u U => exact .inr ⟨by simp, by simp at l1; omega⟩
        have cX : (X = [] ∧ ¬ (s : Int) < (m : Int) ∧ ¬ (mid : Int) < (q : Int)) ∨ (1 ≤ X.length ∧ (s : Int) < (m : Int) ∧ (mid : Int) < (q : Int)) := by
          cases X with
          | nil => exact .inl ⟨rfl, by simp at l3; omega, by simp at l3; omega⟩
          | cons u U => exact .inr ⟨by simp, by simp at l3; omega, by simp at l3; omega⟩
        have cY : (Y = [] ∧ ¬ (m : Int) < (q : Int) ∧ ¬ (s : Int) < (mid : Int)) ∨ (1 ≤ Y.length ∧ (m : Int) < (q : Int) ∧ (s : Int) < (mid : Int)) := by
          cases Y with
          | nil => exact .inl ⟨rfl, by simp at l2; omega, by simp at l2; omega⟩
          | cons u U => exact .inr ⟨by simp, by simp at l2; omega, by simp at l2; omega⟩
        have cB : (B1 = [] ∧ ¬ (q : Int) < (b : Int)) ∨ (1 ≤ B1.length ∧ (q : Int) < (b : Int)) := by
          cases B1 with
          | nil => exact .inl ⟨rfl, by simp at l4; omega⟩
          | cons u U => exact .inr ⟨by simp, by simp at l4; omega⟩
        have nAY : ¬ (A0 = [] ∧ Y = []) := by rintro ⟨rfl, rfl⟩; simp at l1 l2; omega
        have nXB : ¬ (X = [] ∧ B1 = []) := by rintro ⟨rfl, rfl⟩; simp at l3 l4; omega
        clear hAX hYB hR hRR hG hS hxy hab uA uT hlen hKK IH h8 h9 h10 h11 h12 h13 hs1 hsr hr1 hlt hq l1 l2 l3 l4
        rcases cA with ⟨rfl, gA⟩ | ⟨gA0, gA⟩
        · rcases cY with ⟨rfl, gY, gY2⟩ | ⟨gY0, gY, gY2⟩
          · rcases cX with ⟨rfl, gX, gX2⟩ | ⟨gX0, gX, gX2⟩
            · rcases cB with ⟨rfl, gB⟩ | ⟨gB0, gB⟩
              · exact absurd ⟨rfl, rfl⟩ nAY
              · exact absurd ⟨rfl, rfl⟩ nAY
            · rcases cB with ⟨rfl, gB⟩ | ⟨gB0, gB⟩
              · exact absurd ⟨rfl, rfl⟩ nAY
              · exact absurd ⟨rfl, rfl⟩ nAY
          · rcases cX with ⟨rfl, gX, gX2⟩ | ⟨gX0, gX, gX2⟩
            · rcases cB with ⟨rfl, gB⟩ | ⟨gB0, gB⟩
              · exact absurd ⟨rfl, rfl⟩ nXB
              · (try (exfalso; omega))
                all_goals
                  clear nAY nXB
                  have S0 := HRR.out
                  have G0 := HG.out
                  clear HRR HG
                  have U0 := UU.out
                  clear UU
                  have S1x : Rx wr B g cap (P ++ ([] ++ Y) ++ ([] ++ (B1 ++ Q))) := by simpa using S0
                  have S1 : Hid (Rx wr B g cap (P ++ ([] ++ Y) ++ ([] ++ (B1 ++ Q)))) := S1x
                  have G1 : Hid (w.grownBy wr (some g)) := G0
                  clear S0 S1x G0 RO
                  have U0 : Hid (Up ([] : List Cx) ∧ Up Y ∧ Up ([] : List Cx) ∧ Up B1) := U0
                  clear SY1
                  clear SY2
                  go_wp2_with fail
                  obtain ⟨S, hS⟩ : ∃ S, S = ([] ++ Y) := ⟨_, rfl⟩
                  have T1 : Hid (St ([] ++ Y) S ∧ Up S ∧ Rx wr B g cap (P ++ S ++ ([] ++ (B1 ++ Q)))) := by rw [hS]; exact ⟨St.refl _, by simpa using U0.out.2.1, S1.out⟩
                  have G2 : Hid (w.grownBy wr (some g)) := G1.out
                  clear G1 S1 hS
                  obtain ⟨V, hV⟩ : ∃ V, V = ([] ++ B1) := ⟨_, rfl⟩
                  have T2 : Hid (St ([] ++ B1) V ∧ Up V ∧ Rx wr B g cap (P ++ S ++ V ++ Q)) := by rw [hV]; exact ⟨St.refl _, by simpa using U0.out.2.2.2, by simpa using T1.out.2.2⟩
                  have G3 : Hid (w.grownBy wr (some g)) := G2.out
                  clear G2 hV
                  go_end0
                  have hend := END.out S V wr T1.out.1 T1.out.2.1 T2.out.1 T2.out.2.1 T2.out.2.2
                  exact ⟨rfl, by simpa [List.append_assoc] using hend, G3.out⟩
            · rcases cB with ⟨rfl, gB⟩ | ⟨gB0, gB⟩
              · (try (exfalso; omega))
                all_goals
                  clear nAY nXB
                  have S0 := HRR.out
                  have G0 := HG.out
                  clear HRR HG
                  have U0 := UU.out
                  clear UU
                  have S0 : Hid (Rx wr B g cap (P ++ ([] ++ X) ++ (Y ++ []) ++ Q)) := S0
                  have G0 : Hid (w.grownBy wr (some g)) := G0
                  have U0 : Hid (Up ([] : List Cx) ∧ Up Y ∧ Up X ∧ Up ([] : List Cx)) := U0
                  clear SY1
                  clear SY2
                  go_wp2_with fail
                  go_fit (RO.out gX0 gY0 wr S0.out)
                  rintro e w1 ⟨rfl, S1, G1⟩
                  have G1 := G0.out.trans G1
                  clear S0 G0 RO
                  have S1 : Hid (Rx w1 B g cap (P ++ ([] ++ Y) ++ (X ++ ([] ++ Q)))) := S1
                  have G1 : Hid (w.grownBy w1 (some g)) := G1
                  go_wp2_with fail
                  obtain ⟨S, hS⟩ : ∃ S, S = ([] ++ Y) := ⟨_, rfl⟩
                  have T1 : Hid (St ([] ++ Y) S ∧ Up S ∧ Rx w1 B g cap (P ++ S ++ (X ++ ([] ++ Q)))) := by rw [hS]; exact ⟨St.refl _, by simpa using U0.out.2.1, S1.out⟩
                  have G2 : Hid (w.grownBy w1 (some g)) := G1.out
                  clear G1 S1 hS
                  obtain ⟨V, hV⟩ : ∃ V, V = (X ++ []) := ⟨_, rfl⟩
                  have T2 : Hid (St (X ++ []) V ∧ Up V ∧ Rx w1 B g cap (P ++ S ++ V ++ Q)) := by rw [hV]; exact ⟨St.refl _, by simpa using U0.out.2.2.1, by simpa using T1.out.2.2⟩
                  have G3 : Hid (w.grownBy w1 (some g)) := G2.out
                  clear G2 hV
                  go_end0
                  have hend := END.out S V w1 T1.out.1 T1.out.2.1 T2.out.1 T2.out.2.1 T2.out.2.2
                  exact ⟨rfl, by simpa [List.append_assoc] using hend, G3.out⟩
              · (try (exfalso; omega))
                all_goals
                  clear nAY nXB
                  have S0 := HRR.out
                  have G0 := HG.out
                  clear HRR HG
                  have U0 := UU.out
                  clear UU
                  have S0 : Hid (Rx wr B g cap (P ++ ([] ++ X) ++ (Y ++ B1) ++ Q)) := S0
                  have G0 : Hid (w.grownBy wr (some g)) := G0
                  have U0 : Hid (Up ([] : List Cx) ∧ Up Y ∧ Up X ∧ Up B1) := U0
                  clear SY1
                  go_wp2_with fail
                  go_fit (RO.out gX0 gY0 wr S0.out)
                  rintro e w1 ⟨rfl, S1, G1⟩
                  have G1 := G0.out.trans G1
                  clear S0 G0 RO
                  have S1 : Hid (Rx w1 B g cap (P ++ ([] ++ Y) ++ (X ++ (B1 ++ Q)))) := S1
                  have G1 : Hid (w.grownBy w1 (some g)) := G1
                  go_wp2_with fail
                  obtain ⟨S, hS⟩ : ∃ S, S = ([] ++ Y) := ⟨_, rfl⟩
                  have T1 : Hid (St ([] ++ Y) S ∧ Up S ∧ Rx w1 B g cap (P ++ S ++ (X ++ (B1 ++ Q)))) := by rw [hS]; exact ⟨St.refl _, by simpa using U0.out.2.1, S1.out⟩
                  have G2 : Hid (w.grownBy w1 (some g)) := G1.out
                  clear G1 S1 hS
                  go_fit (SY2.out gX0 gB0 S w1 T1.out.1.len T1.out.2.2)
                  rintro e w3 ⟨rfl, ⟨V, t1, t2, t3⟩, G3⟩
                  have G3 := G2.out.trans G3
                  clear G2 SY2
                  have T2 : Hid (St (X ++ B1) V ∧ Up V ∧ Rx w3 B g cap (P ++ S ++ V ++ Q)) := ⟨t1, t2, t3⟩
                  clear t1 t2 t3
                  have G3 : Hid (w.grownBy w3 (some g)) := G3
                  go_wp2_with fail
                  go_end0
                  have hend := END.out S V w3 T1.out.1 T1.out.2.1 T2.out.1 T2.out.2.1 T2.out.2.2
                  exact ⟨rfl, by simpa [List.append_assoc] using hend, G3.out⟩
        · rcases cY with ⟨rfl, gY, gY2⟩ | ⟨gY0, gY, gY2⟩
          · rcases cX with ⟨rfl, gX, gX2⟩ | ⟨gX0, gX, gX2⟩
            · rcases cB with ⟨rfl, gB⟩ | ⟨gB0, gB⟩
              · exact absurd ⟨rfl, rfl⟩ nXB
              · (try (exfalso; omega))
                all_goals
                  clear nAY nXB
                  have S0 := HRR.out
                  have G0 := HG.out
                  clear HRR HG
                  have U0 := UU.out
                  clear UU
                  have S1x : Rx wr B g cap (P ++ (A0 ++ []) ++ ([] ++ (B1 ++ Q))) := by simpa using S0
                  have S1 : Hid (Rx wr B g cap (P ++ (A0 ++ []) ++ ([] ++ (B1 ++ Q)))) := S1x
                  have G1 : Hid (w.grownBy wr (some g)) := G0
                  clear S0 S1x G0 RO
                  have U0 : Hid (Up A0 ∧ Up ([] : List Cx) ∧ Up ([] : List Cx) ∧ Up B1) := U0
                  clear SY1
                  clear SY2
                  go_wp2_with fail
                  obtain ⟨S, hS⟩ : ∃ S, S = (A0 ++ []) := ⟨_, rfl⟩
                  have T1 : Hid (St (A0 ++ []) S ∧ Up S ∧ Rx wr B g cap (P ++ S ++ ([] ++ (B1 ++ Q)))) := by rw [hS]; exact ⟨St.refl _, by simpa using U0.out.1, S1.out⟩
                  have G2 : Hid (w.grownBy wr (some g)) := G1.out
                  clear G1 S1 hS
                  obtain ⟨V, hV⟩ : ∃ V, V = ([] ++ B1) := ⟨_, rfl⟩
                  have T2 : Hid (St ([] ++ B1) V ∧ Up V ∧ Rx wr B g cap (P ++ S ++ V ++ Q)) := by rw [hV]; exact ⟨St.refl _, by simpa using U0.out.2.2.2, by simpa using T1.out.2.2⟩
                  have G3 : Hid (w.grownBy wr (some g)) := G2.out
                  clear G2 hV
                  go_end0
                  have hend := END.out S V wr T1.out.1 T1.out.2.1 T2.out.1 T2.out.2.1 T2.out.2.2
                  exact ⟨rfl, by simpa [List.append_assoc] using hend, G3.out⟩
            · rcases cB with ⟨rfl, gB⟩ | ⟨gB0, gB⟩
              · (try (exfalso; omega))
                all_goals
                  clear nAY nXB
                  have S0 := HRR.out
                  have G0 := HG.out
                  clear HRR HG
                  have U0 := UU.out
                  clear UU
                  have S1x : Rx wr B g cap (P ++ (A0 ++ []) ++ (X ++ ([] ++ Q))) := by simpa using S0
                  have S1 : Hid (Rx wr B g cap (P ++ (A0 ++ []) ++ (X ++ ([] ++ Q)))) := S1x
                  have G1 : Hid (w.grownBy wr (some g)) := G0
                  clear S0 S1x G0 RO
                  have U0 : Hid (Up A0 ∧ Up ([] : List Cx) ∧ Up X ∧ Up ([] : List Cx)) := U0
                  clear SY1
                  clear SY2
                  go_wp2_with fail
                  obtain ⟨S, hS⟩ : ∃ S, S = (A0 ++ []) := ⟨_, rfl⟩
                  have T1 : Hid (St (A0 ++ []) S ∧ Up S ∧ Rx wr B g cap (P ++ S ++ (X ++ ([] ++ Q)))) := by rw [hS]; exact ⟨St.refl _, by simpa using U0.out.1, S1.out⟩
                  have G2 : Hid (w.grownBy wr (some g)) := G1.out
                  clear G1 S1 hS
                  obtain ⟨V, hV⟩ : ∃ V, V = (X ++ []) := ⟨_, rfl⟩
                  have T2 : Hid (St (X ++ []) V ∧ Up V ∧ Rx wr B g cap (P ++ S ++ V ++ Q)) := by rw [hV]; exact ⟨St.refl _, by simpa using U0.out.2.2.1, by simpa using T1.out.2.2⟩
                  have G3 : Hid (w.grownBy wr (some g)) := G2.out
                  clear G2 hV
                  go_end0
                  have hend := END.out S V wr T1.out.1 T1.out.2.1 T2.out.1 T2.out.2.1 T2.out.2.2
                  exact ⟨rfl, by simpa [List.append_assoc] using hend, G3.out⟩
              · (try (exfalso; omega))
                all_goals
                  clear nAY nXB
                  have S0 := HRR.out
                  have G0 := HG.out
                  clear HRR HG
                  have U0 := UU.out
                  clear UU
                  have S1x : Rx wr B g cap (P ++ (A0 ++ []) ++ (X ++ (B1 ++ Q))) := by simpa using S0
                  have S1 : Hid (Rx wr B g cap (P ++ (A0 ++ []) ++ (X ++ (B1 ++ Q)))) := S1x
                  have G1 : Hid (w.grownBy wr (some g)) := G0
                  clear S0 S1x G0 RO
                  have U0 : Hid (Up A0 ∧ Up ([] : List Cx) ∧ Up X ∧ Up B1) := U0
                  clear SY1
                  go_wp2_with fail
                  obtain ⟨S, hS⟩ : ∃ S, S = (A0 ++ []) := ⟨_, rfl⟩
                  have T1 : Hid (St (A0 ++ []) S ∧ Up S ∧ Rx wr B g cap (P ++ S ++ (X ++ (B1 ++ Q)))) := by rw [hS]; exact ⟨St.refl _, by simpa using U0.out.1, S1.out⟩
                  have G2 : Hid (w.grownBy wr (some g)) := G1.out
                  clear G1 S1 hS
                  go_fit (SY2.out gX0 gB0 S wr T1.out.1.len T1.out.2.2)
                  rintro e w3 ⟨rfl, ⟨V, t1, t2, t3⟩, G3⟩
                  have G3 := G2.out.trans G3
                  clear G2 SY2
                  have T2 : Hid (St (X ++ B1) V ∧ Up V ∧ Rx w3 B g cap (P ++ S ++ V ++ Q)) := ⟨t1, t2, t3⟩
                  clear t1 t2 t3
                  have G3 : Hid (w.grownBy w3 (some g)) := G3
                  go_wp2_with fail
                  go_end0
                  have hend := END.out S V w3 T1.out.1 T1.out.2.1 T2.out.1 T2.out.2.1 T2.out.2.2
                  exact ⟨rfl, by simpa [List.append_assoc] using hend, G3.out⟩
          · rcases cX with ⟨rfl, gX, gX2⟩ | ⟨gX0, gX, gX2⟩
            · rcases cB with ⟨rfl, gB⟩ | ⟨gB0, gB⟩
              · exact absurd ⟨rfl, rfl⟩ nXB
              · (try (exfalso; omega))
                all_goals
                  clear nAY nXB
                  have S0 := HRR.out
                  have G0 := HG.out
                  clear HRR HG
                  have U0 := UU.out
                  clear UU
                  have S1x : Rx wr B g cap (P ++ (A0 ++ Y) ++ ([] ++ (B1 ++ Q))) := by simpa using S0
                  have S1 : Hid (Rx wr B g cap (P ++ (A0 ++ Y) ++ ([] ++ (B1 ++ Q)))) := S1x
                  have G1 : Hid (w.grownBy wr (some g)) := G0
                  clear S0 S1x G0 RO
                  have U0 : Hid (Up A0 ∧ Up Y ∧ Up ([] : List Cx) ∧ Up B1) := U0
                  clear SY2
                  go_wp2_with fail
                  go_fit (SY1.out gA0 gY0 wr S1.out)
                  rintro e w2 ⟨rfl, ⟨S, t1, t2, t3⟩, G2⟩
                  have G2 := G1.out.trans G2
                  clear G1 SY1
                  have T1 : Hid (St (A0 ++ Y) S ∧ Up S ∧ Rx w2 B g cap (P ++ S ++ ([] ++ (B1 ++ Q)))) := ⟨t1, t2, t3⟩
                  clear t1 t2 t3 S1
                  have G2 : Hid (w.grownBy w2 (some g)) := G2
                  go_wp2_with fail
                  obtain ⟨V, hV⟩ : ∃ V, V = ([] ++ B1) := ⟨_, rfl⟩
                  have T2 : Hid (St ([] ++ B1) V ∧ Up V ∧ Rx w2 B g cap (P ++ S ++ V ++ Q)) := by rw [hV]; exact ⟨St.refl _, by simpa using U0.out.2.2.2, by simpa using T1.out.2.2⟩
                  have G3 : Hid (w.grownBy w2 (some g)) := G2.out
                  clear G2 hV
                  go_end0
                  have hend := END.out S V w2 T1.out.1 T1.out.2.1 T2.out.1 T2.out.2.1 T2.out.2.2
                  exact ⟨rfl, by simpa [List.append_assoc] using hend, G3.out⟩
            · rcases cB with ⟨rfl, gB⟩ | ⟨gB0, gB⟩
              · (try (exfalso; omega))
                all_goals
                  clear nAY nXB
                  have S0 := HRR.out
                  have G0 := HG.out
                  clear HRR HG
                  have U0 := UU.out
                  clear UU
                  have S0 : Hid (Rx wr B g cap (P ++ (A0 ++ X) ++ (Y ++ []) ++ Q)) := S0
                  have G0 : Hid (w.grownBy wr (some g)) := G0
                  have U0 : Hid (Up A0 ∧ Up Y ∧ Up X ∧ Up ([] : List Cx)) := U0
                  clear SY2
                  go_wp2_with fail
                  go_fit (RO.out gX0 gY0 wr S0.out)
                  rintro e w1 ⟨rfl, S1, G1⟩
                  have G1 := G0.out.trans G1
                  clear S0 G0 RO
                  have S1 : Hid (Rx w1 B g cap (P ++ (A0 ++ Y) ++ (X ++ ([] ++ Q)))) := S1
                  have G1 : Hid (w.grownBy w1 (some g)) := G1
                  go_wp2_with fail
                  go_fit (SY1.out gA0 gY0 w1 S1.out)
                  rintro e w2 ⟨rfl, ⟨S, t1, t2, t3⟩, G2⟩
                  have G2 := G1.out.trans G2
                  clear G1 SY1
                  have T1 : Hid (St (A0 ++ Y) S ∧ Up S ∧ Rx w2 B g cap (P ++ S ++ (X ++ ([] ++ Q)))) := ⟨t1, t2, t3⟩
                  clear t1 t2 t3 S1
                  have G2 : Hid (w.grownBy w2 (some g)) := G2
                  go_wp2_with fail
                  obtain ⟨V, hV⟩ : ∃ V, V = (X ++ []) := ⟨_, rfl⟩
                  have T2 : Hid (St (X ++ []) V ∧ Up V ∧ Rx w2 B g cap (P ++ S ++ V ++ Q)) := by rw [hV]; exact ⟨St.refl _, by simpa using U0.out.2.2.1, by simpa using T1.out.2.2⟩
                  have G3 : Hid (w.grownBy w2 (some g)) := G2.out
                  clear G2 hV
                  go_end0
                  have hend := END.out S V w2 T1.out.1 T1.out.2.1 T2.out.1 T2.out.2.1 T2.out.2.2
                  exact ⟨rfl, by simpa [List.append_assoc] using hend, G3.out⟩
              · (try (exfalso; omega))
                all_goals
                  clear nAY nXB
                  have S0 := HRR.out
                  have G0 := HG.out
                  clear HRR HG
                  have U0 := UU.out
                  clear UU
                  have S0 : Hid (Rx wr B g cap (P ++ (A0 ++ X) ++ (Y ++ B1) ++ Q)) := S0
                  have G0 : Hid (w.grownBy wr (some g)) := G0
                  have U0 : Hid (Up A0 ∧ Up Y ∧ Up X ∧ Up B1) := U0
                  go_wp2_with fail
                  go_fit (RO.out gX0 gY0 wr S0.out)
                  rintro e w1 ⟨rfl, S1, G1⟩
                  have G1 := G0.out.trans G1
                  clear S0 G0 RO
                  have S1 : Hid (Rx w1 B g cap (P ++ (A0 ++ Y) ++ (X ++ (B1 ++ Q)))) := S1
                  have G1 : Hid (w.grownBy w1 (some g)) := G1
                  go_wp2_with fail
                  go_fit (SY1.out gA0 gY0 w1 S1.out)
                  rintro e w2 ⟨rfl, ⟨S, t1, t2, t3⟩, G2⟩
                  have G2 := G1.out.trans G2
                  clear G1 SY1
                  have T1 : Hid (St (A0 ++ Y) S ∧ Up S ∧ Rx w2 B g cap (P ++ S ++ (X ++ (B1 ++ Q)))) := ⟨t1, t2, t3⟩
                  clear t1 t2 t3 S1
                  have G2 : Hid (w.grownBy w2 (some g)) := G2
                  go_wp2_with fail
                  go_fit (SY2.out gX0 gB0 S w2 T1.out.1.len T1.out.2.2)
                  rintro e w3 ⟨rfl, ⟨V, t1, t2, t3⟩, G3⟩
                  have G3 := G2.out.trans G3
                  clear G2 SY2
                  have T2 : Hid (St (X ++ B1) V ∧ Up V ∧ Rx w3 B g cap (P ++ S ++ V ++ Q)) := ⟨t1, t2, t3⟩
                  clear t1 t2 t3
                  have G3 : Hid (w.grownBy w3 (some g)) := G3
                  go_wp2_with fail
                  go_end0
                  have hend := END.out S V w3 T1.out.1 T1.out.2.1 T2.out.1 T2.out.2.1 T2.out.2.2
                  exact ⟨rfl, by simpa [List.append_assoc] using hend, G3.out⟩
set_option maxHeartbeats 1000000 in
theorem symMerge_any (B g cap N : Nat) (hL : N ≤ 1000000) : ∀ K : Nat, ∀ (a m b : Nat) (P A T Q : List Cx) (w : World), A.length + T.length < K → 1 ≤ A.length → 1 ≤ T.length → Up A → Up T → P.length = a → a + A.length = m → m + T.length = b → (P ++ (A ++ T) ++ Q).length = N → Rx w B g cap (P ++ (A ++ T) ++ Q) → Calls Try.prog 56 #[.slice (some ⟨g, 0, none⟩) N cap, .int .i64 (a : Nat), .int .i64 (m : Nat), .int .i64 (b : Nat), .func (.func 34) #[] #[]] w fun e w' => e = .returned (.tuple #[]) ∧ (∃ S', St (A ++ T) S' ∧ Up S' ∧ Rx w' B g cap (P ++ S' ++ Q)) ∧ w.grownBy w' (some g)
  | 0, a, m, b, P, A, T, Q, w, h, _, _, _, _, _, _, _, _, _ => by omega
  | K + 1, a, m, b, P, A, T, Q, w, h, h1, h2, uA, uT, ha, hm, hb, hN, hR => by
    rcases Nat.lt_or_ge 1 A.length with hA | hA
    · rcases Nat.lt_or_ge 1 T.length with hT | hT
      · exact symStep_any B g cap N K a m b P A T Q w (symMerge_any B g cap N hL K) (by omega) hA hT uA uT ha hm hb hN hL hR
      · obtain ⟨c0, rfl⟩ : ∃ c0, T = [c0] := List.length_eq_one_iff.1 (by omega)
        have := symLast_any B g cap N P c0 A Q w hR hN hL hA uA
        rw [ha, hm, show m + 1 = b by simpa using hb] at this
        exact this
    · obtain ⟨c0, rfl⟩ : ∃ c0, A = [c0] := List.length_eq_one_iff.1 (by omega)
      have := symOne_any B g cap N P c0 T Q w hR hN hL h2 uT
      rw [ha, show a + 1 = m by simpa using hm, show m + T.length = b by simpa using hb] at this
      exact this
end Go.Proofs.Ytkdeaogmifhnhaa

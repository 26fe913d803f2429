/-
  THE LAW ManifestStores: the walk.
-/
import Derived.Test.YtgkdodcidancpaaGreatDoorMany35
namespace Go.Proofs.YtgkdodcidancpaaGreatDoor.manifestStores
open Go.RowKit

attribute [local go_sem] Oper.pureAt Oper.pureUpon

set_option maxRecDepth 100000 in
set_option maxHeartbeats 4000000 in
theorem walk (room : Nat) (po : Option Addr) (l : List Mx) (cap : Nat) (N K : Int) (w : World) (hev : EnvM w) (ht : Tab w) (ue : TypeId) (pv : Value) (hue : Err w ue pv) (_hr : room ≤ 18446744073709551615) (ha : MLs w po l) (hl : l.length ≤ 140737488355328) (hN : -9223372036854775808 ≤ N ∧ N ≤ 9223372036854775807) (hK : -9223372036854775808 ≤ K ∧ K ≤ 9223372036854775807) :
    Calls Tryz.prog 3 #[.int .u64 (room : Int), .slice po l.length cap, .agg #[.int .i64 N, .int .i64 K]] w fun e w' => e = .returned (.bool true) ∧ Below w.heap.size w w' := by
  have L : Hid (∀ u, Below w.heap.size w u → Calls Tryz.prog 6 #[] u fun x w' => x = .returned (.bool true) ∧ Below w.heap.size w w') := fun u hu => (lives13_any u (hev.below hu (Nat.le_refl _))).mono fun _ _ hh => ⟨hh.1, hu.trans (hh.2.mono hu.size)⟩
  obtain ⟨rm, hrm⟩ : ∃ rm : Nat, (room : Int) % 3000 = (rm : Int) := Int.eq_ofNat_of_zero_le (Int.emod_nonneg _ (by omega))
  have hrm1 : rm < 3000 := by have := Int.emod_lt_of_pos (room : Int) (show (0 : Int) < 3000 by omega); omega
  have hrmz : (rm : Int) < 3000 := by omega
  obtain ⟨w0, hw0⟩ : ∃ w0, w0 = w.alloc (.cells #[.int .i64 N, .int .i64 K] 25) := ⟨_, rfl⟩
  have g0 : w.grownBy w0 none := by rw [hw0]; exact World.grownBy_alloc w _ none
  have k0 : Blk w0 w.heap.size [.int .i64 N, .int .i64 K] 25 := by rw [hw0]; exact Blk.new w _ _
  have N1 : Hid (Calls Tryz.prog 4 #[.int .i64 (rm : Int)] w0 fun x w' => ∃ d ft, x = .returned (.pointer (some ⟨d, 0, none⟩)) ∧ At d (newA rm) ft w' ∧ w0.grownBy w' none ∧ ∀ i ∈ ft, w0.heap.size ≤ i) := ab_new rm (by omega) w0
  have N2 : Hid (∀ w, Calls Tryz.prog 5 #[.int .i64 (rm : Int)] w fun x w' => ∃ r fr, x = .returned (.pointer (some ⟨r, 0, none⟩)) ∧ RAt r (newR rm) fr w' ∧ w.grownBy w' none ∧ ∀ i ∈ fr, w.heap.size ≤ i) := fun w => ra_new rm (by omega) w
  have HD : Hid (∀ w1 w2 d r ft fr, At d (newA rm) ft w1 → w0.grownBy w1 none → (∀ i ∈ ft, w0.heap.size ≤ i) → RAt r (newR rm) fr w2 → w1.grownBy w2 none → (∀ i ∈ fr, w1.heap.size ≤ i) → Two d r (newA rm) (newR rm) (ft ++ fr) w2 ∧ Moved w0 w2 [] (ft ++ fr)) := fun w1 w2 d r ft fr h1 g1 n1 h2 g2 n2 => by
    refine ⟨⟨ft, fr, h1.grown g2, h2, fun i hi hh => ?_, rfl⟩, ?_⟩
    · have a1 := h1.lt i hi
      have a2 := n2 i hh
      omega
    · refine (Moved.of_grown (g1.trans g2)).wider (by simp) (fun i hi => .inr (.inr ?_))
      rcases List.mem_append.1 hi with h5 | h5
      · exact n1 i h5
      · have := n2 i h5
        have := g1.size
        omega
  have HM : Hid (∀ u fs, Moved w0 u [] fs → Below w.heap.size w u ∧ Blk u w.heap.size [.int .i64 N, .int .i64 K] 25) := fun u fs hm => ⟨((Below.refl w.heap.size w).grown g0 (Nat.le_refl _) (fun j hj => by cases hj)).trans (hm.below g0.size (by simp)), k0.carry (hm.kept _ k0.lt (by simp))⟩
  have HA : Hid (∀ u, Below w.heap.size w u → MLs u po l ∧ Tab u ∧ Err u ue pv) := fun u hu => ⟨ha.below hu, ht.below hu (Nat.le_refl _), hue.below hu (Nat.le_refl _)⟩
  have HR : Hid (∀ d r, ∃ (A' : Ab) (Q' : RA), Pr A' Q' 0 ∧
      (∀ u fs, Two d r (newA rm) (newR rm) fs u → Calls Tryz.prog 7 #[.pointer (some ⟨d, 0, none⟩), .int .i64 N, .int .i64 K] u fun x w' => (∃ c, x = .returned (.int .i64 c)) ∧ ∃ fs', Two d r A' (newR rm) fs' w' ∧ Moved u w' fs fs') ∧
      (∀ u fs, Two d r A' (newR rm) fs u → Calls Tryz.prog 8 #[.pointer (some ⟨r, 0, none⟩), .int .i64 N, .int .i64 K] u fun x w' => (∃ c, x = .returned (.int .i64 c)) ∧ ∃ fs', Two d r A' Q' fs' w' ∧ Moved u w' fs fs')) := fun d r => duo_new (rm := rm) (by omega) hN.2 hK
  have hlz : (l.length : Int) ≤ 140737488355328 := by omega
  have q0 := k0.cell 0 rfl
  have q1 := k0.cell 1 rfl
  clear hev ht hue ha hN hK g0 k0 hl
  rw [hw0] at q0 q1
  go_enter Tryz.func3, Tryz.ntmps3
  go_wp2_with fail
  rw [← hw0]
  rw [← hw0] at q0 q1
  clear hw0
  refine N1.out.mono ?_
  rintro x w1 ⟨d, ft, rfl, a1, g1, n1⟩
  have C2 := N2.out w1
  clear N1 N2
  go_wp2_with fail
  go_fit C2
  rintro x w2 ⟨r, fr, rfl, a2, g2, n2⟩
  obtain ⟨hT, hM⟩ := HD.out _ _ _ _ _ _ a1 g1 n1 a2 g2 n2
  obtain ⟨hB2, k2⟩ := HM.out _ _ hM
  clear HD a1 g1 n1 a2 g2 n2 C2 q0 q1
  have q0 := k2.cell 0 rfl
  have q1 := k2.cell 1 rfl
  have L2 := L.out w2 hB2
  by_cases hbig : 20 < l.length
  · have hz : (20 : Int) < (l.length : Int) := by omega
    clear hT hM HM HA HR hB2 k2 L hbig
    go_wp2_with fail
    refine L2.mono ?_
    rintro x w7 ⟨rfl, hb7⟩
    go_wp2_with fail
    go_ret
    exact ⟨rfl, hb7⟩
  · have hz : ¬ (20 : Int) < (l.length : Int) := by omega
    have HL20 : Hid (l.length ≤ 20) := by show _ ≤ _; omega
    obtain ⟨A, Q, P0, R1, R2⟩ := HR.out d r
    have C1 := R1 w2 _ hT
    have HR2 : Hid (∀ u fs, Two d r A (newR rm) fs u → Calls Tryz.prog 8 #[.pointer (some ⟨r, 0, none⟩), .int .i64 N, .int .i64 K] u fun x w' => (∃ c, x = .returned (.int .i64 c)) ∧ ∃ fs', Two d r A Q fs' w' ∧ Moved u w' fs fs') := R2
    have HP0 : Hid (Pr A Q 0) := P0
    have HM2 : Hid (Moved w0 w2 [] (ft ++ fr)) := hM
    clear HR R1 R2 P0 hM hT L2 hB2 k2 hbig
    go_wp2_with fail
    go_fit C1
    rintro x w3 ⟨⟨c3, rfl⟩, fs3, hT3, m3⟩
    have M3 : Hid (Moved w0 w3 [] fs3) := HM2.out.trans m3
    obtain ⟨hB3, k3⟩ := HM.out _ _ M3.out
    have C4 := HR2.out w3 fs3 hT3
    clear hT3 m3 HM2 HR2 C1 q0 q1 hB3
    have q0 := k3.cell 0 rfl
    have q1 := k3.cell 1 rfl
    go_wp2_with fail
    go_fit C4
    rintro x w4 ⟨⟨c4, rfl⟩, fs4, hT4, m4⟩
    have S1 : Hid (DuoM d r (12 * 0) fs4 w4 ∧ Moved w0 w4 [] fs4) := ⟨⟨A, Q, hT4, HP0.out⟩, M3.out.trans m4⟩
    clear hT4 m4 M3 C4 q0 q1 k3 HP0
    go_wp2_with fail
    go_loopw [53] (fun s53 wr => ∃ (i : Nat) (fs : List Nat), i ≤ l.length ∧ s53 = .int .i64 (i : Int) ∧ DuoM d r (12 * i) fs wr ∧ Moved w0 wr [] fs) (fun s53 _ => l.length - (intOf s53).toNat)
    case atStart => exact ⟨0, _, Nat.zero_le _, rfl, S1.out.1, S1.out.2⟩
    case round =>
      obtain ⟨i, fs, hi, rfl, hD, hM⟩ := hrel
      clear S1
      obtain ⟨hBr, -⟩ := HM.out _ _ hM
      rcases Nat.lt_or_ge i l.length with hlt | hge
      · have hc : l[i]? = some l[i] := List.getElem?_eq_getElem hlt
        obtain ⟨b0, off, rfl, ⟨c0, c1, c2⟩, -⟩ := (HA.out wr hBr).1 i _ hc
        obtain ⟨-, -, -, -, hmc⟩ := (HA.out w (Below.refl _ _)).1 i _ hc
        have hfx := Nat.le_trans hmc.see.cap hmc.cap
        have hiz : (i : Int) < (l.length : Int) := by omega
        have HI : Hid (i < l.length) := hlt
        have HC : Hid (∀ u, Below w.heap.size w u → MCame u l[i].o l[i].c l[i].m ∧ Tab u ∧ Err u ue pv) := fun u hu => ⟨hmc.below hu, (HA.out u hu).2⟩
        obtain ⟨A1, Q1, hT, hP⟩ := hD
        have hbT := hT.lt
        clear hc hmc HA hi
        generalize l[i] = x at *
        clear hlt
        obtain ⟨mo, mc, ⟨ts, nx, fx⟩⟩ := x
        dsimp only at *
        obtain ⟨W0, hW0⟩ : ∃ W0, W0 = wr.alloc (.cells #[.slice mo ts.length mc, .int .i64 nx, .int .i64 fx] 36) := ⟨_, rfl⟩
        have g0 : wr.grownBy W0 none := by rw [hW0]; exact World.grownBy_alloc wr _ none
        have B0 : Blk W0 wr.heap.size [.slice mo ts.length mc, .int .i64 nx, .int .i64 fx] 36 := by rw [hW0]; exact Blk.new wr _ _
        have hM0 : Moved w0 W0 [] fs := hM.trans (Moved.none_of g0 fs)
        have hB0 : Below w.heap.size w W0 := (HM.out _ _ hM0).1
        have L9 := L.out W0 hB0
        have e0 := B0.cell 0 rfl
        rw [hW0] at e0
        have htz : (ts.length : Int) ≤ 9223372036854775807 := by omega
        by_cases hbt : 1000 < ts.length
        · have hbtz : (1000 : Int) < (ts.length : Int) := by omega
          clear hM HM HC hP hT hbT g0 B0 hM0 hB0 hbt hfx HL20 L
          go_wp2_with fail
          rw [← hW0]
          refine L9.mono ?_
          rintro x w9 ⟨rfl, hb9⟩
          go_wp2_with fail
          go_ret
          exact ⟨rfl, hb9⟩
        · have hbtz : ¬ (1000 : Int) < (ts.length : Int) := by omega
          obtain ⟨c, A2, Q2, P2, D1, D2⟩ := duo_store (d := d) (r := r) (fs := fs) hP (by have := HL20.out; have := HI.out; omega) mo mc ⟨ts, nx, fx⟩ (by show ts.length ≤ _; omega)
          obtain ⟨b, hbb⟩ : ∃ b, wr.heap.size = b := ⟨_, rfl⟩
          rw [hbb] at B0
          have hblt := B0.lt
          have hbf : b ∉ fs := fun hh => by have := hbT b hh; omega
          have SD1 : Hid (Calls Tryz.prog 9 #[.pointer (some ⟨d, 0, none⟩), .agg #[.slice mo ts.length mc, .int .i64 nx, .int .i64 fx]] W0.drew fun x w' => x = .returned (.int .i64 c) ∧ ∃ fs', Two d r A2 Q1 fs' w' ∧ Moved w0 w' [] fs' ∧ w'.heap[b]? = W0.heap[b]? ∧ b ∉ fs' ∧ b < w'.heap.size) :=
            (D1 W0.drew (hT.grown g0).drew (HC.out _ hB0.drew).1 (HC.out _ hB0.drew).2.1).mono fun x w' ⟨h1, fs', h2, h3⟩ => ⟨h1, fs', h2, hM0.drew.trans h3, h3.kept b hblt hbf, fun hh => by rcases h3.news b hh with h5 | h5; exact hbf h5; exact absurd h5 (Nat.not_le.2 hblt), Nat.lt_of_lt_of_le hblt h3.size⟩
          have SD2 : Hid (∀ u fs1, Two d r A2 Q1 fs1 u → Moved w0 u [] fs1 → u.heap[b]? = W0.heap[b]? → b ∉ fs1 → b < u.heap.size → Calls Tryz.prog 10 #[.pointer (some ⟨r, 0, none⟩), .agg #[.slice mo ts.length mc, .int .i64 nx, .int .i64 fx]] u fun x w' => x = .returned (.int .i64 c) ∧ ∃ fs', Two d r A2 Q2 fs' w' ∧ Moved w0 w' [] fs' ∧ w'.heap[b]? = W0.heap[b]?) := fun u fs1 h1 h2 h3 h4 h5 =>
            (D2 u fs1 h1 (HC.out u (HM.out _ _ h2).1).1).mono fun x w' ⟨k1, fs', k2, k3⟩ => ⟨k1, fs', k2, h2.trans k3, (k3.kept b h5 h4).trans h3⟩
          have SP : Hid (∀ u, Calls Tryz.prog 11 #[.agg #[.slice mo ts.length mc, .int .i64 nx, .int .i64 fx]] u fun e w' => e = .returned (.agg #[.slice mo ts.length mc, .int .i64 nx, .int .i64 fx]) ∧ Below u.heap.size u w') := fun u => plainM_any mo mc ⟨ts, nx, fx⟩ u
          have HP2 : Hid (Pr A2 Q2 (12 * i + 12)) := P2
          have p0 : ∀ q : CB b W0.heap[b]?, q.u.cell? ⟨b, 0, none⟩ = some (.slice mo ts.length mc) := fun q => q.cell rfl (B0.cell 0 rfl)
          have p1 : ∀ q : CB b W0.heap[b]?, q.u.cell? ⟨b, 1, none⟩ = some (.int .i64 nx) := fun q => q.cell rfl (B0.cell 1 rfl)
          have p2 : ∀ q : CB b W0.heap[b]?, q.u.cell? ⟨b, 2, none⟩ = some (.int .i64 fx) := fun q => q.cell rfl (B0.cell 2 rfl)
          have hcc : (c != c) = false := by simp
          haveI : Nonempty (CB b W0.heap[b]?) := ⟨⟨W0, rfl⟩⟩
          clear hM hP hT hbT g0 B0 hM0 hB0 hbt hfx L9 D1 D2 P2 hblt hbf
          go_wp2_with fail
          rw [← hW0]
          clear hW0 e0 c0 c1 c2 hbb
          refine wp_region_sched (fun w' => ∃ p : CB b W0.heap[b]?, w' = p.u) [(0, true), (1, true), (3, true), (4, true), (2, false), (5, false), (6, false), (7, true)] rfl (by kernel_rfl) (by kernel_rfl) (by kernel_rfl) ⟨⟨W0.drew, rfl⟩, rfl⟩ ?_
          iterate 4 (refine sched_pure rfl (fun K hK => ?_); go_simp; first | refine hK _ ?_ | refine ⟨_, fun _ => rfl, hK _ ?_⟩; clear hK K)
          refine sched_loud rfl (fun K hK => ?_)
          go_simp
          refine SD1.out.mono ?_
          rintro e u1 ⟨rfl, fs1, t1, m1, k1, n1, z1⟩
          refine hK _ _ ⟨⟨u1, k1⟩, rfl⟩ ?_
          clear hK K
          refine sched_loud rfl (fun K hK => ?_)
          go_simp
          refine (SP.out u1).mono ?_
          rintro e u2 ⟨rfl, b2⟩
          have gg2 := grown_of_below b2
          have k2 : u2.heap[b]? = W0.heap[b]? := (b2.block b z1).trans k1
          refine hK _ _ ⟨⟨u2, k2⟩, rfl⟩ ?_
          clear hK K
          refine sched_loud rfl (fun K hK => ?_)
          go_simp
          refine (SD2.out u2 fs1 (t1.grown gg2) (m1.trans (Moved.none_of gg2 fs1)) k2 n1 (Nat.lt_of_lt_of_le z1 b2.size)).mono ?_
          rintro e u3 ⟨rfl, fs3, t3, m3, k3⟩
          refine hK _ _ ⟨⟨u3, k3⟩, rfl⟩ ?_
          clear hK K
          refine sched_pure rfl (fun K hK => ?_)
          go_simp
          refine hK _ ?_
          clear hK K
          refine sched_nil ?_
          clear p0 p1 p2 SD1 SD2 SP k1 k2 k3 n1 z1 b2 gg2 t1 m1
          have V := say_any (d := d) (r := r) fs3 HP2.out
          have HE1 : Hid (∀ u', Below u3.heap.size u3 u' → DuoM d r (12 * (i + 1)) fs3 u' ∧ Moved w0 u' [] fs3 ∧ Below w.heap.size w u') := fun u' hb => by
            have hg := grown_of_below hb
            have hm := m3.trans (Moved.none_of hg fs3)
            exact ⟨⟨A2, Q2, t3.grown hg, by rw [show 12 * (i + 1) = 12 * i + 12 by omega]; exact HP2.out⟩, hm, (HM.out _ _ hm).1⟩
          clear HP2
          generalize ldF A2 = M at V
          generalize ldE A2 = ec at V
          generalize (A2.ops : Int) = ov at V
          generalize namesV A2 = nv at V
          obtain ⟨mt, mn, mf⟩ := M
          have HV : Hid (Say d r fs3 A2 Q2 ⟨mt, mn, mf⟩ ec ov nv) := V
          have C3 := V.l1 u3 t3 (HC.out u3 (HE1.out u3 (Below.refl _ _)).2.2).2.1 ue pv (HC.out u3 (HE1.out u3 (Below.refl _ _)).2.2).2.2
          have HT3 : Hid (Two d r A2 Q2 fs3 u3) := t3
          unfold mval at C3
          clear V t3 m3 HC
          go_wp2_with fail
          go_fit C3
          rintro e u4 ⟨a4, c4, rfl, s4, b4⟩
          obtain ⟨W5, hW5⟩ : ∃ W5, W5 = u4.alloc (.cells #[.slice a4 mt.length c4, .int .i64 mn, .int .i64 mf] 36) := ⟨_, rfl⟩
          have b5 : Below u3.heap.size u3 W5 := by rw [hW5]; exact b4.alloc b4.size _
          have K5 : Blk W5 u4.heap.size [.slice a4 mt.length c4, .int .i64 mn, .int .i64 mf] 36 := by rw [hW5]; exact Blk.new u4 _ _
          have S5 : MSees W5 a4 c4 ⟨mt, mn, mf⟩ := s4.below (B := u4.heap.size) (by rw [hW5]; exact (Below.refl _ _).alloc (Nat.le_refl _) _) (Nat.le_refl _)
          have C5 := HV.out.l2 W5 (HT3.out.grown (grown_of_below b5))
          unfold mval at C5
          have hlt4 : u4.heap.size < W5.heap.size := K5.lt
          clear s4 b4 C3
          go_wp2_with fail
          rw [← hW5]
          clear hW5
          generalize u4.heap.size = p at *
          refine C5.mono ?_
          rintro e u6 ⟨a6, c6, rfl, s6, b6⟩
          obtain ⟨W7, hW7⟩ : ∃ W7, W7 = u6.alloc (.cells #[.slice a6 mt.length c6, .int .i64 mn, .int .i64 mf] 39) := ⟨_, rfl⟩
          have b56 : Below W5.heap.size W5 W7 := by rw [hW7]; exact b6.alloc b6.size _
          have b7 : Below u3.heap.size u3 W7 := b5.trans (b56.mono b5.size)
          have K7 : Blk W7 p [.slice a4 mt.length c4, .int .i64 mn, .int .i64 mf] 36 := K5.carry (b56.block _ hlt4)
          have L7 : Blk W7 u6.heap.size [.slice a6 mt.length c6, .int .i64 mn, .int .i64 mf] 39 := by rw [hW7]; exact Blk.new u6 _ _
          have S7 : MSees W7 a4 c4 ⟨mt, mn, mf⟩ := S5.below b56 (Nat.le_refl _)
          have R7 : MSees W7 a6 c6 ⟨mt, mn, mf⟩ := s6.below (B := u6.heap.size) (by rw [hW7]; exact (Below.refl _ _).alloc (Nat.le_refl _) _) (Nat.le_refl _)
          have T7 := HT3.out.grown (grown_of_below b7)
          have o7 := HV.out.o2 W7 T7
          have p0 : ∀ z : Cl W7.heap.size W7, z.u.cell? ⟨p, 0, none⟩ = some (.slice a4 mt.length c4) := fun z => z.cell K7.lt (K7.cell 0 rfl)
          have p1 : ∀ z : Cl W7.heap.size W7, z.u.cell? ⟨p, 1, none⟩ = some (.int .i64 mn) := fun z => z.cell K7.lt (K7.cell 1 rfl)
          have p2 : ∀ z : Cl W7.heap.size W7, z.u.cell? ⟨p, 2, none⟩ = some (.int .i64 mf) := fun z => z.cell K7.lt (K7.cell 2 rfl)
          have r0 : ∀ z : Cl W7.heap.size W7, z.u.cell? ⟨u6.heap.size, 0, none⟩ = some (.slice a6 mt.length c6) := fun z => z.cell L7.lt (L7.cell 0 rfl)
          have r1 : ∀ z : Cl W7.heap.size W7, z.u.cell? ⟨u6.heap.size, 1, none⟩ = some (.int .i64 mn) := fun z => z.cell L7.lt (L7.cell 1 rfl)
          have r2 : ∀ z : Cl W7.heap.size W7, z.u.cell? ⟨u6.heap.size, 2, none⟩ = some (.int .i64 mf) := fun z => z.cell L7.lt (L7.cell 2 rfl)
          have x0 : ∀ z : Cl W7.heap.size W7, z.u.cell? ⟨r, 4, none⟩ = some (.int .i64 ov) := fun z => z.cell (World.block_lt_of_cell? _ _ o7) o7
          have HS : Hid (∀ u, Below W7.heap.size W7 u → Calls Tryz.prog 14 #[.agg #[.slice a4 mt.length c4, .int .i64 mn, .int .i64 mf], .agg #[.slice a6 mt.length c6, .int .i64 mn, .int .i64 mf]] u fun e w' => e = .returned (.bool true) ∧ Below u.heap.size u w') := fun u hu => HV.out.sm u a4 a6 c4 c6 (S7.below hu (Nat.le_refl _)) (R7.below hu (Nat.le_refl _))
          have HT : Hid (∀ u, Below W7.heap.size W7 u → Two d r A2 Q2 fs3 u) := fun u hu => T7.grown (grown_of_below hu)
          have HX : Hid (∀ u, Below W7.heap.size W7 u → DuoM d r (12 * (i + 1)) fs3 u ∧ Moved w0 u [] fs3 ∧ Below w.heap.size w u) := fun u hu => HE1.out u (b7.trans (hu.mono b7.size))
          have hee : (ec != ec) = false := by simp
          have hoo : (ov != ov) = false := by simp
          clear s6 b6 C5 b5 K5 S5 hlt4 b56 b7 K7 L7 S7 R7 T7 o7 HT3 HE1
          go_wp2_with fail
          rw [← hW7]
          clear hW7
          generalize u6.heap.size = q at *
          refine wp_region_C (fun w' => ∃ z : Cl W7.heap.size W7, w' = z.u) 26 _ (by kernel_rfl) ?_ (fun _ _ h => h)
          have C0 : ∃ z : Cl W7.heap.size W7, W7.drew = z.u := ⟨⟨_, (Below.refl _ W7).drew⟩, rfl⟩
          refine anyC_pure 0 rfl (by kernel_rfl) (by kernel_rfl) (by kernel_rfl) C0 (fun K hK => ?_)
          go_simp
          first | refine hK _ ?_ | refine ⟨_, fun _ => rfl, hK _ ?_⟩
          clear hK K
          refine anyC_pure 1 rfl (by kernel_rfl) (by kernel_rfl) (by kernel_rfl) C0 (fun K hK => ?_)
          go_simp
          first | refine hK _ ?_ | refine ⟨_, fun _ => rfl, hK _ ?_⟩
          clear hK K
          refine anyC_loud 2 (by kernel_rfl) ?_
          refine lou_of rfl (fun K hK => ?_)
          go_simp
          refine (HS.out _ (Below.refl _ W7).drew).mono ?_
          rintro e v1 ⟨rfl, h1⟩
          have q1 : Below W7.heap.size W7 v1 := (Below.refl _ W7).drew.trans h1
          refine hK _ _ ⟨fun _ => ⟨⟨v1, q1⟩, rfl⟩, ?_⟩
          clear hK K
          refine anyC_pure 3 rfl (by kernel_rfl) (by kernel_rfl) (by kernel_rfl) ⟨⟨v1, q1⟩, rfl⟩ (fun K hK => ?_)
          go_simp
          first | refine hK _ ?_ | refine ⟨_, fun _ => rfl, hK _ ?_⟩
          clear hK K
          refine anyC_pure 4 rfl (by kernel_rfl) (by kernel_rfl) (by kernel_rfl) ⟨⟨v1, q1⟩, rfl⟩ (fun K hK => ?_)
          go_simp
          first | refine hK _ ?_ | refine ⟨_, fun _ => rfl, hK _ ?_⟩
          clear hK K
          refine anyC_pure 5 rfl (by kernel_rfl) (by kernel_rfl) (by kernel_rfl) ⟨⟨v1, q1⟩, rfl⟩ (fun K hK => ?_)
          go_simp
          first | refine hK _ ?_ | refine ⟨_, fun _ => rfl, hK _ ?_⟩
          clear hK K
          refine anyC_pure 6 rfl (by kernel_rfl) (by kernel_rfl) (by kernel_rfl) ⟨⟨v1, q1⟩, rfl⟩ (fun K hK => ?_)
          go_simp
          first | refine hK _ ?_ | refine ⟨_, fun _ => rfl, hK _ ?_⟩
          clear hK K
          refine anyC_pure 7 rfl (by kernel_rfl) (by kernel_rfl) (by kernel_rfl) ⟨⟨v1, q1⟩, rfl⟩ (fun K hK => ?_)
          go_simp
          first | refine hK _ ?_ | refine ⟨_, fun _ => rfl, hK _ ?_⟩
          clear hK K
          refine anyC_pure 8 rfl (by kernel_rfl) (by kernel_rfl) (by kernel_rfl) ⟨⟨v1, q1⟩, rfl⟩ (fun K hK => ?_)
          go_simp
          first | refine hK _ ?_ | refine ⟨_, fun _ => rfl, hK _ ?_⟩
          clear hK K
          refine anyC_pure 9 rfl (by kernel_rfl) (by kernel_rfl) (by kernel_rfl) ⟨⟨v1, q1⟩, rfl⟩ (fun K hK => ?_)
          go_simp
          first | refine hK _ ?_ | refine ⟨_, fun _ => rfl, hK _ ?_⟩
          clear hK K
          refine anyC_pure 10 rfl (by kernel_rfl) (by kernel_rfl) (by kernel_rfl) ⟨⟨v1, q1⟩, rfl⟩ (fun K hK => ?_)
          go_simp
          first | refine hK _ ?_ | refine ⟨_, fun _ => rfl, hK _ ?_⟩
          clear hK K
          refine anyC_pure 12 rfl (by kernel_rfl) (by kernel_rfl) (by kernel_rfl) ⟨⟨v1, q1⟩, rfl⟩ (fun K hK => ?_)
          go_simp
          first | refine hK _ ?_ | refine ⟨_, fun _ => rfl, hK _ ?_⟩
          clear hK K
          refine anyC_pure 13 rfl (by kernel_rfl) (by kernel_rfl) (by kernel_rfl) ⟨⟨v1, q1⟩, rfl⟩ (fun K hK => ?_)
          go_simp
          first | refine hK _ ?_ | refine ⟨_, fun _ => rfl, hK _ ?_⟩
          clear hK K
          refine anyC_pure 14 rfl (by kernel_rfl) (by kernel_rfl) (by kernel_rfl) ⟨⟨v1, q1⟩, rfl⟩ (fun K hK => ?_)
          go_simp
          first | refine hK _ ?_ | refine ⟨_, fun _ => rfl, hK _ ?_⟩
          clear hK K
          have o8 : v1.cell? ⟨r, 4, none⟩ = some (.int .i64 ov) := x0 ⟨v1, q1⟩
          refine anyC_loud2 11 15 (by kernel_rfl) ?_ ?_
          · skip
            refine lou_of rfl (fun K hK => ?_)
            go_simp
            refine (HV.out.o1 v1 (HT.out v1 q1)).mono ?_
            rintro e v2 ⟨rfl, hv2⟩
            have hv3 := hv2.symm
            clear hv2
            subst hv3
            refine hK _ _ ⟨fun _ => ⟨⟨v1, q1⟩, rfl⟩, ?_⟩
            clear hK K
            refine anyC_loud 15 (by kernel_rfl) ?_
            refine lou_of rfl (fun K hK => ?_)
            go_simp
            refine hK _ _ ⟨fun _ => ⟨⟨v1, q1⟩, rfl⟩, ?_⟩
            clear hK K
            refine anyC_pure 16 rfl (by kernel_rfl) (by kernel_rfl) (by kernel_rfl) ⟨⟨v1, q1⟩, rfl⟩ (fun K hK => ?_)
            go_simp
            first | refine hK _ ?_ | refine ⟨_, fun _ => rfl, hK _ ?_⟩
            clear hK K
            refine anyC_pure 17 rfl (by kernel_rfl) (by kernel_rfl) (by kernel_rfl) ⟨⟨v1, q1⟩, rfl⟩ (fun K hK => ?_)
            go_simp
            first | refine hK _ ?_ | refine ⟨_, fun _ => rfl, hK _ ?_⟩
            clear hK K
            refine anyC_pure 18 rfl (by kernel_rfl) (by kernel_rfl) (by kernel_rfl) ⟨⟨v1, q1⟩, rfl⟩ (fun K hK => ?_)
            go_simp
            first | refine hK _ ?_ | refine ⟨_, fun _ => rfl, hK _ ?_⟩
            clear hK K
            refine anyC_pure 19 rfl (by kernel_rfl) (by kernel_rfl) (by kernel_rfl) ⟨⟨v1, q1⟩, rfl⟩ (fun K hK => ?_)
            go_simp
            first | refine hK _ ?_ | refine ⟨_, fun _ => rfl, hK _ ?_⟩
            clear hK K
            refine anyC_pure 21 rfl (by kernel_rfl) (by kernel_rfl) (by kernel_rfl) ⟨⟨v1, q1⟩, rfl⟩ (fun K hK => ?_)
            go_simp
            first | refine hK _ ?_ | refine ⟨_, fun _ => rfl, hK _ ?_⟩
            clear hK K
            refine anyC_loud 20 (by kernel_rfl) ?_
            refine lou_of rfl (fun K hK => ?_)
            go_simp
            refine (HV.out.n1 v1 (HT.out v1 q1)).mono ?_
            rintro e v3 ⟨a8, c8, rfl, s8, g8⟩
            have q3 : Below W7.heap.size W7 v3 := q1.grown g8 q1.size (fun k hk => by cases hk)
            refine hK _ _ ⟨fun _ => ⟨⟨v3, q3⟩, rfl⟩, ?_⟩
            clear hK K
            refine anyC_loud 22 (by kernel_rfl) ?_
            refine lou_of rfl (fun K hK => ?_)
            go_simp
            refine (HV.out.n2 v3 (HT.out v3 q3)).mono ?_
            rintro e v4 ⟨a9, c9, rfl, s9, g9⟩
            have q4 : Below W7.heap.size W7 v4 := q3.grown g9 q3.size (fun k hk => by cases hk)
            refine hK _ _ ⟨fun _ => ⟨⟨v4, q4⟩, rfl⟩, ?_⟩
            clear hK K
            refine anyC_loud 23 (by kernel_rfl) ?_
            refine lou_of rfl (fun K hK => ?_)
            go_simp
            refine (HV.out.tx v4 a8 a9 c8 c9 (s8.grown g9) s9).mono ?_
            rintro e v5 ⟨rfl, h5⟩
            have q5 : Below W7.heap.size W7 v5 := q4.trans (h5.mono q4.size)
            refine hK _ _ ⟨fun _ => ⟨⟨v5, q5⟩, rfl⟩, ?_⟩
            clear hK K
            refine anyC_pure 24 rfl (by kernel_rfl) (by kernel_rfl) (by kernel_rfl) ⟨⟨v5, q5⟩, rfl⟩ (fun K hK => ?_)
            go_simp
            first | refine hK _ ?_ | refine ⟨_, fun _ => rfl, hK _ ?_⟩
            clear hK K
            refine anyC_pure 25 rfl (by kernel_rfl) (by kernel_rfl) (by kernel_rfl) ⟨⟨v5, q5⟩, rfl⟩ (fun K hK => ?_)
            go_simp
            first | refine hK _ ?_ | refine ⟨_, fun _ => rfl, hK _ ?_⟩
            clear hK K
            refine anyC_done (by kernel_rfl) ?_
            have HZ : Hid (DuoM d r (12 * (i + 1)) fs3 v5 ∧ Moved w0 v5 [] fs3) := ⟨(HX.out v5 q5).1, (HX.out v5 q5).2.1⟩
            clear p0 p1 p2 r0 r1 r2 x0 o8 HS HT HX HV q1 q3 q4 q5 s8 s9 g8 g9 h1 h5
            go_wp2_with fail
            go_roundw
            case rel => exact ⟨i + 1, fs3, by have := HI.out; omega, by go_num, HZ.out.1, HZ.out.2⟩
            case measure => have := HI.out; simp [intOf]; omega
          · skip
            refine lou_of rfl (fun K hK => ?_)
            go_simp
            refine hK _ _ ⟨fun _ => ⟨⟨v1, q1⟩, rfl⟩, ?_⟩
            clear hK K
            refine anyC_loud 11 (by kernel_rfl) ?_
            refine lou_of rfl (fun K hK => ?_)
            go_simp
            refine (HV.out.o1 v1 (HT.out v1 q1)).mono ?_
            rintro e v2 ⟨rfl, hv2⟩
            have hv3 := hv2.symm
            clear hv2
            subst hv3
            refine hK _ _ ⟨fun _ => ⟨⟨v1, q1⟩, rfl⟩, ?_⟩
            clear hK K
            refine anyC_pure 16 rfl (by kernel_rfl) (by kernel_rfl) (by kernel_rfl) ⟨⟨v1, q1⟩, rfl⟩ (fun K hK => ?_)
            go_simp
            first | refine hK _ ?_ | refine ⟨_, fun _ => rfl, hK _ ?_⟩
            clear hK K
            refine anyC_pure 17 rfl (by kernel_rfl) (by kernel_rfl) (by kernel_rfl) ⟨⟨v1, q1⟩, rfl⟩ (fun K hK => ?_)
            go_simp
            first | refine hK _ ?_ | refine ⟨_, fun _ => rfl, hK _ ?_⟩
            clear hK K
            refine anyC_pure 18 rfl (by kernel_rfl) (by kernel_rfl) (by kernel_rfl) ⟨⟨v1, q1⟩, rfl⟩ (fun K hK => ?_)
            go_simp
            first | refine hK _ ?_ | refine ⟨_, fun _ => rfl, hK _ ?_⟩
            clear hK K
            refine anyC_pure 19 rfl (by kernel_rfl) (by kernel_rfl) (by kernel_rfl) ⟨⟨v1, q1⟩, rfl⟩ (fun K hK => ?_)
            go_simp
            first | refine hK _ ?_ | refine ⟨_, fun _ => rfl, hK _ ?_⟩
            clear hK K
            refine anyC_pure 21 rfl (by kernel_rfl) (by kernel_rfl) (by kernel_rfl) ⟨⟨v1, q1⟩, rfl⟩ (fun K hK => ?_)
            go_simp
            first | refine hK _ ?_ | refine ⟨_, fun _ => rfl, hK _ ?_⟩
            clear hK K
            refine anyC_loud 20 (by kernel_rfl) ?_
            refine lou_of rfl (fun K hK => ?_)
            go_simp
            refine (HV.out.n1 v1 (HT.out v1 q1)).mono ?_
            rintro e v3 ⟨a8, c8, rfl, s8, g8⟩
            have q3 : Below W7.heap.size W7 v3 := q1.grown g8 q1.size (fun k hk => by cases hk)
            refine hK _ _ ⟨fun _ => ⟨⟨v3, q3⟩, rfl⟩, ?_⟩
            clear hK K
            refine anyC_loud 22 (by kernel_rfl) ?_
            refine lou_of rfl (fun K hK => ?_)
            go_simp
            refine (HV.out.n2 v3 (HT.out v3 q3)).mono ?_
            rintro e v4 ⟨a9, c9, rfl, s9, g9⟩
            have q4 : Below W7.heap.size W7 v4 := q3.grown g9 q3.size (fun k hk => by cases hk)
            refine hK _ _ ⟨fun _ => ⟨⟨v4, q4⟩, rfl⟩, ?_⟩
            clear hK K
            refine anyC_loud 23 (by kernel_rfl) ?_
            refine lou_of rfl (fun K hK => ?_)
            go_simp
            refine (HV.out.tx v4 a8 a9 c8 c9 (s8.grown g9) s9).mono ?_
            rintro e v5 ⟨rfl, h5⟩
            have q5 : Below W7.heap.size W7 v5 := q4.trans (h5.mono q4.size)
            refine hK _ _ ⟨fun _ => ⟨⟨v5, q5⟩, rfl⟩, ?_⟩
            clear hK K
            refine anyC_pure 24 rfl (by kernel_rfl) (by kernel_rfl) (by kernel_rfl) ⟨⟨v5, q5⟩, rfl⟩ (fun K hK => ?_)
            go_simp
            first | refine hK _ ?_ | refine ⟨_, fun _ => rfl, hK _ ?_⟩
            clear hK K
            refine anyC_pure 25 rfl (by kernel_rfl) (by kernel_rfl) (by kernel_rfl) ⟨⟨v5, q5⟩, rfl⟩ (fun K hK => ?_)
            go_simp
            first | refine hK _ ?_ | refine ⟨_, fun _ => rfl, hK _ ?_⟩
            clear hK K
            refine anyC_done (by kernel_rfl) ?_
            have HZ : Hid (DuoM d r (12 * (i + 1)) fs3 v5 ∧ Moved w0 v5 [] fs3) := ⟨(HX.out v5 q5).1, (HX.out v5 q5).2.1⟩
            clear p0 p1 p2 r0 r1 r2 x0 o8 HS HT HX HV q1 q3 q4 q5 s8 s9 g8 g9 h1 h5
            go_wp2_with fail
            go_roundw
            case rel => exact ⟨i + 1, fs3, by have := HI.out; omega, by go_num, HZ.out.1, HZ.out.2⟩
            case measure => have := HI.out; simp [intOf]; omega
      · obtain rfl : i = l.length := by omega
        have L9 := L.out wr hBr
        clear hD hM HM HA L hBr
        go_wp2_with fail
        go_fit L9
        rintro x w9 ⟨rfl, hb9⟩
        go_wp2_with fail
        go_ret
        exact ⟨rfl, hb9⟩
end Go.Proofs.YtgkdodcidancpaaGreatDoor.manifestStores

/-
  THE LAW ManifestWhole, walked.
-/
import Derived.Test.YthihljjefncfoaaGreatDoorManM5
import Derived.Test.YthihljjefncfoaaGreatDoorManLaid
import Derived.Deep.DeepCutAuto
namespace Go.Proofs.YthihljjefncfoaaGreatDoor.manifestWhole
open Go.RowKit Go.Proofs.YthihljjefncfoaaGreatDoor Go.Maps
attribute [local go_sem] Oper.pureAt Oper.pureUpon

theorem and7 (N : Int) : ∃ k : Nat, k ≤ 7 ∧ bits BinOp.and IntKind.i64 N 7 = (k : Int) := by
  refine ⟨(BitVec.ofInt 64 N &&& BitVec.ofInt 64 7).toNat, ?_, ?_⟩
  · rw [BitVec.toNat_and]; exact Nat.le_trans Nat.and_le_right (by decide)
  · have h : (BitVec.ofInt 64 N &&& BitVec.ofInt 64 7).toNat ≤ 7 := by rw [BitVec.toNat_and]; exact Nat.le_trans Nat.and_le_right (by decide)
    show IntKind.i64.wrap ((BitVec.ofInt 64 N &&& BitVec.ofInt 64 7).toNat : Int) = _
    rw [IntKind.wrap_i64]
    omega
theorem anyC_loud3 {P : Program} {ops : Array Oper} {md : Region.Mode} {C : World → Prop} {Q : Act → World → Prop} {z fuel : Nat} {listed : Array Bool} {a : Act} {w : World} (i k l : Nat) (hr : Region.ready md ops listed = [i, k, l]) (h : louOp P ops i (fun a' w' => (i ≠ z → C w') ∧ wpAnyC P md ops C z Q fuel (listed.setIfInBounds i true) a' w') a w) (h2 : louOp P ops k (fun a' w' => (k ≠ z → C w') ∧ wpAnyC P md ops C z Q fuel (listed.setIfInBounds k true) a' w') a w) (h3 : louOp P ops l (fun a' w' => (l ≠ z → C w') ∧ wpAnyC P md ops C z Q fuel (listed.setIfInBounds l true) a' w') a w) : wpAnyC P md ops C z Q (fuel + 1) listed a w := by
  refine ⟨(fun h0 => by rw [hr] at h0; cases h0), fun j hj => ?_⟩
  rw [hr] at hj
  rcases List.mem_cons.1 hj with rfl | hj
  · exact h
  · rcases List.mem_cons.1 hj with rfl | hj
    · exact h2
    · obtain rfl : j = l := by simpa using hj
      exact h3
/-- Worlds in which b's box says what it says. -/
structure Bb (B : Nat) (v0 v1 v2 : Value) where
  u : World
  h0 : u.cell? ⟨B, 0, none⟩ = some v0
  h1 : u.cell? ⟨B, 1, none⟩ = some v1
  h2 : u.cell? ⟨B, 2, none⟩ = some v2
set_option maxRecDepth 100000 in
set_option maxHeartbeats 8000000 in
theorem walk (ao : Option Addr) (ca : Nat) (ma : Mf) (bo : Option Addr) (cb : Nat) (mb : Mf) (N keep : Int) (w : World) (hev : EnvM w) (ht : Tab w) (ue : TypeId) (pv : Value) (hue : Err w ue pv) (ha : MCame w ao ca ma) (hfa : ma.ts.length ≤ 140737488355328) (hb : MCame w bo cb mb) (hfb : mb.ts.length ≤ 140737488355328) (_hN : -9223372036854775808 ≤ N ∧ N ≤ 9223372036854775807) (hk : -9223372036854775808 ≤ keep ∧ keep ≤ 9223372036854775807) :
    Calls Tryz.prog 4 #[mval ao ca ma, mval bo cb mb, .agg #[.int .i64 N, .int .i64 keep]] w fun e w' => e = .returned (.bool true) ∧ Below w.heap.size w w' := by
  obtain ⟨hma, hca, -, -⟩ := ha
  obtain ⟨hmb, hcb, -, -⟩ := hb
  have CL : Hid (∀ u, Below w.heap.size w u → Calls Tryz.prog 7 #[] u fun e w' => e = .returned (.bool true) ∧ Below u.heap.size u w') := fun u hu => lives13_any u (hev.below hu (Nat.le_refl _))
  have k1 := Blk.new w [.slice ao ma.ts.length ca, .int .i64 ma.nx, .int .i64 ma.fr] 36
  have k2 := Blk.new (w.alloc (.cells #[.slice ao ma.ts.length ca, .int .i64 ma.nx, .int .i64 ma.fr] 36)) [.slice bo mb.ts.length cb, .int .i64 mb.nx, .int .i64 mb.fr] 36
  have k3 := Blk.new ((w.alloc (.cells #[.slice ao ma.ts.length ca, .int .i64 ma.nx, .int .i64 ma.fr] 36)).alloc (.cells #[.slice bo mb.ts.length cb, .int .i64 mb.nx, .int .i64 mb.fr] 36)) [.int .i64 N, .int .i64 keep] 25
  rw [World.size_alloc] at k2
  rw [World.size_alloc, World.size_alloc] at k3
  have hB0 : Below w.heap.size w (((w.alloc (.cells #[.slice ao ma.ts.length ca, .int .i64 ma.nx, .int .i64 ma.fr] 36)).alloc (.cells #[.slice bo mb.ts.length cb, .int .i64 mb.nx, .int .i64 mb.fr] 36)).alloc (.cells #[.int .i64 N, .int .i64 keep] 25)) := (((Below.refl _ _).alloc (Nat.le_refl _) _).alloc (by simp) _).alloc (by simp; omega) _
  have CN := lw_new w _ [(w.heap.size, [.slice ao ma.ts.length ca, .int .i64 ma.nx, .int .i64 ma.fr], 36), (w.heap.size + 1, [.slice bo mb.ts.length cb, .int .i64 mb.nx, .int .i64 mb.fr], 36), (w.heap.size + 2, [.int .i64 N, .int .i64 keep], 25)] hB0 (fun q hq => by
    simp only [List.mem_cons, List.not_mem_nil, or_false] at hq
    rcases hq with rfl | rfl | rfl
    · exact ⟨(k1.alloc _).alloc _, Nat.le_refl _⟩
    · exact ⟨k2.alloc _, by show w.heap.size ≤ w.heap.size + 1; omega⟩
    · exact ⟨k3, by show w.heap.size ≤ w.heap.size + 2; omega⟩)
  clear k1 k2 k3 hB0
  have hla : (ma.ts.length : Int) ≤ 140737488355328 := by omega
  have hlb : (mb.ts.length : Int) ≤ 140737488355328 := by omega
  have hpn : ∀ (d : Nat) (u : World), (binOp BinOp.eql 26 (.pointer (some ⟨d, 0, none⟩)) (.pointer none)).run Tryz.prog u = .ok (.bool false) u := fun d u => by kernel_rfl
  have hpn2 : ∀ (d : Nat) (u : World), (binOp BinOp.neq 26 (.pointer (some ⟨d, 0, none⟩)) (.pointer none)).run Tryz.prog u = .ok (.bool true) u := fun d u => by kernel_rfl
  by_cases hbig : (1000 : Int) < (ma.ts.length : Int) + (mb.ts.length : Int)
  · unfold mval
    clear hma hmb hev ht hue hk
    go_enter Tryz.func4, Tryz.ntmps4
    go_wp2_with fail
    go_fit CN
    rintro e w1 ⟨d, rfl, hL⟩
    have c0 := (hL.blk (q := (w.heap.size, [.slice ao ma.ts.length ca, .int .i64 ma.nx, .int .i64 ma.fr], 36)) (by simp)).cell 0 rfl
    have c1 := (hL.blk (q := (w.heap.size + 1, [.slice bo mb.ts.length cb, .int .i64 mb.nx, .int .i64 mb.fr], 36)) (by simp)).cell 0 rfl
    dsimp only at c0 c1
    have C1 := CL.out w1 hL.bel
    have HB : Hid (Below w.heap.size w w1) := hL.bel
    clear hL CN
    go_wp2_with fail
    go_fit C1
    rintro e w3 ⟨rfl, hB3⟩
    have HF : Hid (Below w.heap.size w w3) := HB.out.trans (hB3.mono HB.out.size)
    clear C1 hB3
    go_wp2_with fail
    go_ret
    exact ⟨rfl, HF.out⟩
  have hbig' : ¬ (1000 : Int) < (ma.ts.length : Int) + (mb.ts.length : Int) := hbig
  obtain ⟨bx0, hbx0⟩ : ∃ bx0 : List Bx, bx0 = [(w.heap.size, [.slice ao ma.ts.length ca, .int .i64 ma.nx, .int .i64 ma.fr], 36), (w.heap.size + 1, [.slice bo mb.ts.length cb, .int .i64 mb.nx, .int .i64 mb.fr], 36), (w.heap.size + 2, [.int .i64 N, .int .i64 keep], 25)] := ⟨_, rfl⟩
  rw [← hbx0] at CN
  have ia : (w.heap.size, [.slice ao ma.ts.length ca, .int .i64 ma.nx, .int .i64 ma.fr], 36) ∈ bx0 := by rw [hbx0]; simp
  have ib : (w.heap.size + 1, [.slice bo mb.ts.length cb, .int .i64 mb.nx, .int .i64 mb.fr], 36) ∈ bx0 := by rw [hbx0]; simp
  have ix : (w.heap.size + 2, [.int .i64 N, .int .i64 keep], 25) ∈ bx0 := by rw [hbx0]; simp
  clear hbx0 hbig
  have CBeg : Hid (∀ u, Calls Tryz.prog 20 #[] u fun e w' => e = .returned (.agg #[.slice none 0 0, .int .i64 1, .int .i64 1]) ∧ Below u.heap.size u w') := fun u => (beginM_any u).mono fun e w' hh => ⟨hh.1, (Below.refl _ _).grown hh.2 (Nat.le_refl _) (fun k hk => by cases hk)⟩
  have CPl1 : Hid (∀ u, Calls Tryz.prog 12 #[.agg #[.slice none 0 0, .int .i64 1, .int .i64 1]] u fun e w' => e = .returned (.agg #[.slice none 0 0, .int .i64 1, .int .i64 1]) ∧ Below u.heap.size u w') := fun u => plainM_any none 0 begM u
  have CPl2 : Hid (∀ u, Calls Tryz.prog 12 #[.agg #[.slice bo mb.ts.length cb, .int .i64 mb.nx, .int .i64 mb.fr]] u fun e w' => e = .returned (.agg #[.slice bo mb.ts.length cb, .int .i64 mb.nx, .int .i64 mb.fr]) ∧ Below u.heap.size u w') := fun u => plainM_any bo cb mb u
  unfold mval
  go_enter Tryz.func4, Tryz.ntmps4
  go_wp2_with fail
  go_fit CN
  rintro e w1 ⟨d, rfl, hL⟩
  have c0 := (hL.blk ia).cell 0 rfl
  have c1 := (hL.blk ib).cell 0 rfl
  dsimp only at c0 c1
  clear CN
  go_wp2_with fail
  clear c0 c1
  go_cut [8, 9] from 31 to 35 (fun s8 s9 wx => ∃ X8 X9 : Nat, s8 = .pointer (some ⟨X8, 0, none⟩) ∧ s9 = .pointer (some ⟨X9, 0, none⟩) ∧ X8 ≠ X9 ∧ (∀ q ∈ bx0, q.1 ≠ X8 ∧ q.1 ≠ X9) ∧ LW w d (newA 100000) ((X9, [.slice bo mb.ts.length cb, .int .i64 mb.nx, .int .i64 mb.fr], 39) :: (X8, [.slice none 0 0, .int .i64 1, .int .i64 1], 39) :: bx0) wx)
  case first =>
    have HP : Hid (∀ u (L : List Bx), LW w d (newA 100000) (L ++ bx0) u → ∃ p : Bb (w.heap.size + 1) (.slice bo mb.ts.length cb) (.int .i64 mb.nx) (.int .i64 mb.fr), u = p.u) := fun u L h => by
      have hk := h.blk (List.mem_append_right L ib)
      exact ⟨⟨u, hk.cell 0 rfl, hk.cell 1 rfl, hk.cell 2 rfl⟩, rfl⟩
    have q0 : ∀ q : Bb (w.heap.size + 1) (.slice bo mb.ts.length cb) (.int .i64 mb.nx) (.int .i64 mb.fr), q.u.cell? ⟨w.heap.size + 1, 0, none⟩ = some (.slice bo mb.ts.length cb) := fun q => q.h0
    have q1 : ∀ q : Bb (w.heap.size + 1) (.slice bo mb.ts.length cb) (.int .i64 mb.nx) (.int .i64 mb.fr), q.u.cell? ⟨w.heap.size + 1, 1, none⟩ = some (.int .i64 mb.nx) := fun q => q.h1
    have q2 : ∀ q : Bb (w.heap.size + 1) (.slice bo mb.ts.length cb) (.int .i64 mb.nx) (.int .i64 mb.fr), q.u.cell? ⟨w.heap.size + 1, 2, none⟩ = some (.int .i64 mb.fr) := fun q => q.h2
    have hS0 : LW w d (newA 100000) bx0 w1.drew := hL.more (Below.refl _ _).drew
    haveI : Nonempty (Bb (w.heap.size + 1) (.slice bo mb.ts.length cb) (.int .i64 mb.nx) (.int .i64 mb.fr)) := (HP.out w1.drew [] hS0).elim fun p _ => ⟨p⟩
    clear hma hmb hev ht hue hk CL ia ib ix hL hfa hfb hca hcb hla hlb hbig' hpn hpn2
    refine wp_region_C (fun u => ∃ p : Bb (w.heap.size + 1) (.slice bo mb.ts.length cb) (.int .i64 mb.nx) (.int .i64 mb.fr), u = p.u) 7 _ (by kernel_rfl) ?reg (fun _ _ h => h)
    refine anyC_pure 2 rfl (by kernel_rfl) (by kernel_rfl) (by kernel_rfl) (HP.out _ [] hS0) (fun K hK => ?_)
    go_simp
    refine hK _ ?_
    clear hK K
    clear q0 q1 q2
    generalize w1.drew = u0 at *
    refine anyC_loud3 0 4 5 (by kernel_rfl) ?_ ?_ ?_
    · refine lou_of rfl (fun K hK => ?_)
      go_simp
      refine (CBeg.out u0).mono ?_
      rintro e u1 ⟨rfl, hb1⟩
      have hS1 := hS0.more hb1
      refine hK _ _ ⟨fun _ => HP.out _ [] hS1, ?_⟩
      clear hK K hb1 hS0
      refine anyC_loud3 1 4 5 (by kernel_rfl) ?_ ?_ ?_
      · refine lou_of rfl (fun K hK => ?_)
        go_simp
        refine (CPl1.out u1).mono ?_
        rintro e u2 ⟨rfl, hb2⟩
        have hS2 := hS1.more hb2
        refine hK _ _ ⟨fun _ => HP.out _ [] hS2, ?_⟩
        clear hK K hb2 hS1
        refine anyC_loud3 3 4 5 (by kernel_rfl) ?_ ?_ ?_
        · refine lou_of rfl (fun K hK => ?_)
          go_simp
          refine (CPl2.out u2).mono ?_
          rintro e u3 ⟨rfl, hb3⟩
          have hS3 := hS2.more hb3
          refine hK _ _ ⟨fun _ => HP.out _ [] hS3, ?_⟩
          clear hK K hb3 hS2
          refine anyC_loud2 4 5 (by kernel_rfl) ?_ ?_
          · refine lou_of rfl (fun K hK => ?_)
            go_simp
            have hS4 := hS3.push [.slice none 0 0, .int .i64 0, .int .i64 0] 39
            have lt4 : ∀ q ∈ (bx0), q.1 < u3.heap.size := fun q hq => (hS3.blk hq).lt
            refine hK _ _ ⟨fun _ => HP.out _ [(u3.heap.size, [.slice none 0 0, .int .i64 0, .int .i64 0], 39)] hS4, ?_⟩
            clear hK K hS3
            generalize u3.alloc (.cells ([.slice none 0 0, .int .i64 0, .int .i64 0] : List Value).toArray 39) = u4 at *
            generalize u3.heap.size = X8 at *
            refine anyC_loud 5 (by kernel_rfl) ?_
            refine lou_of rfl (fun K hK => ?_)
            go_simp
            have hS5 := hS4.push [.slice none 0 0, .int .i64 0, .int .i64 0] 39
            have lt5 : ∀ q ∈ ((X8, [.slice none 0 0, .int .i64 0, .int .i64 0], 39) :: bx0), q.1 < u4.heap.size := fun q hq => (hS4.blk hq).lt
            refine hK _ _ ⟨fun _ => HP.out _ [(u4.heap.size, [.slice none 0 0, .int .i64 0, .int .i64 0], 39), (X8, [.slice none 0 0, .int .i64 0, .int .i64 0], 39)] hS5, ?_⟩
            clear hK K hS4
            generalize u4.alloc (.cells ([.slice none 0 0, .int .i64 0, .int .i64 0] : List Value).toArray 39) = u5 at *
            generalize u4.heap.size = X9 at *
            have hne : X8 < X9 := lt5 (X8, [.slice none 0 0, .int .i64 0, .int .i64 0], 39) (List.mem_cons_self ..)
            have hSc : LW w d (newA 100000) ((X8, [.slice none 0 0, .int .i64 0, .int .i64 0], 39) :: (X9, [.slice none 0 0, .int .i64 0, .int .i64 0], 39) :: bx0) u5 := hS5.sub (fun q hq => by simp only [List.mem_cons] at hq ⊢; rcases hq with h | h | h <;> simp [h])
            have nb : ∀ q ∈ bx0, q.1 ≠ X8 ∧ q.1 ≠ X9 := fun q hq => by have h1 := lt4 q hq; have h2 := lt5 q (List.mem_cons_of_mem _ hq); omega
            clear hS5 lt4 lt5
            have y0 := (hSc.blk (List.mem_cons_self ..)).cell 0 rfl
            have y1 := (hSc.blk (List.mem_cons_self ..)).cell 1 rfl
            have y2 := (hSc.blk (List.mem_cons_self ..)).cell 2 rfl
            have z0 := (hSc.blk (List.mem_cons_self ..)).frozen 0
            have z1 := (hSc.blk (List.mem_cons_self ..)).frozen 1
            have z2 := (hSc.blk (List.mem_cons_self ..)).frozen 2
            dsimp only at y0 y1 y2 z0 z1 z2
            have hT := hSc.set3 (x0 := .slice none 0 0) (x1 := .int .i64 1) (x2 := .int .i64 1) (fun q hq => by rcases List.mem_cons.1 hq with rfl | hq; (show X9 ≠ X8; omega); exact (nb q hq).1)
            refine anyC_loud 6 (by kernel_rfl) ?_
            refine lou_of rfl (fun K hK => ?_)
            go_simp
            refine hK _ _ ⟨fun _ => HP.out _ [(X8, [.slice none 0 0, .int .i64 1, .int .i64 1], 39), (X9, [.slice none 0 0, .int .i64 0, .int .i64 0], 39)] hT, ?_⟩
            clear hK K y0 y1 y2 z0 z1 z2 hSc
            generalize ((u5.setCell ⟨X8, 0, none⟩ (.slice none 0 0)).setCell ⟨X8, 1, none⟩ (.int .i64 1)).setCell ⟨X8, 2, none⟩ (.int .i64 1) = v6 at *
            have hSd : LW w d (newA 100000) ((X9, [.slice none 0 0, .int .i64 0, .int .i64 0], 39) :: (X8, [.slice none 0 0, .int .i64 1, .int .i64 1], 39) :: bx0) v6 := hT.sub (fun q hq => by simp only [List.mem_cons] at hq ⊢; rcases hq with h | h | h <;> simp [h])
            clear hT
            have y0 := (hSd.blk (List.mem_cons_self ..)).cell 0 rfl
            have y1 := (hSd.blk (List.mem_cons_self ..)).cell 1 rfl
            have y2 := (hSd.blk (List.mem_cons_self ..)).cell 2 rfl
            have z0 := (hSd.blk (List.mem_cons_self ..)).frozen 0
            have z1 := (hSd.blk (List.mem_cons_self ..)).frozen 1
            have z2 := (hSd.blk (List.mem_cons_self ..)).frozen 2
            dsimp only at y0 y1 y2 z0 z1 z2
            have hT := hSd.set3 (x0 := .slice bo mb.ts.length cb) (x1 := .int .i64 mb.nx) (x2 := .int .i64 mb.fr) (fun q hq => by rcases List.mem_cons.1 hq with rfl | hq; (show X8 ≠ X9; omega); exact (nb q hq).2)
            refine anyC_loud 7 (by kernel_rfl) ?_
            refine lou_of rfl (fun K hK => ?_)
            go_simp
            refine hK _ _ ⟨fun h => absurd rfl h, ?_⟩
            clear hK K y0 y1 y2 z0 z1 z2 hSd
            refine anyC_done (by kernel_rfl) ?_
            go_wp2_with fail
            go_meet
            case rel => exact ⟨X8, X9, rfl, rfl, by omega, nb, hT⟩
          · refine lou_of rfl (fun K hK => ?_)
            go_simp
            have hS6 := hS3.push [.slice none 0 0, .int .i64 0, .int .i64 0] 39
            have lt6 : ∀ q ∈ (bx0), q.1 < u3.heap.size := fun q hq => (hS3.blk hq).lt
            refine hK _ _ ⟨fun _ => HP.out _ [(u3.heap.size, [.slice none 0 0, .int .i64 0, .int .i64 0], 39)] hS6, ?_⟩
            clear hK K hS3
            generalize u3.alloc (.cells ([.slice none 0 0, .int .i64 0, .int .i64 0] : List Value).toArray 39) = u6 at *
            generalize u3.heap.size = X9 at *
            refine anyC_loud 4 (by kernel_rfl) ?_
            refine lou_of rfl (fun K hK => ?_)
            go_simp
            have hS7 := hS6.push [.slice none 0 0, .int .i64 0, .int .i64 0] 39
            have lt7 : ∀ q ∈ ((X9, [.slice none 0 0, .int .i64 0, .int .i64 0], 39) :: bx0), q.1 < u6.heap.size := fun q hq => (hS6.blk hq).lt
            refine hK _ _ ⟨fun _ => HP.out _ [(u6.heap.size, [.slice none 0 0, .int .i64 0, .int .i64 0], 39), (X9, [.slice none 0 0, .int .i64 0, .int .i64 0], 39)] hS7, ?_⟩
            clear hK K hS6
            generalize u6.alloc (.cells ([.slice none 0 0, .int .i64 0, .int .i64 0] : List Value).toArray 39) = u7 at *
            generalize u6.heap.size = X8 at *
            have hne : X9 < X8 := lt7 (X9, [.slice none 0 0, .int .i64 0, .int .i64 0], 39) (List.mem_cons_self ..)
            have hSc : LW w d (newA 100000) ((X8, [.slice none 0 0, .int .i64 0, .int .i64 0], 39) :: (X9, [.slice none 0 0, .int .i64 0, .int .i64 0], 39) :: bx0) u7 := hS7.sub (fun q hq => by simp only [List.mem_cons] at hq ⊢; rcases hq with h | h | h <;> simp [h])
            have nb : ∀ q ∈ bx0, q.1 ≠ X8 ∧ q.1 ≠ X9 := fun q hq => by have h1 := lt6 q hq; have h2 := lt7 q (List.mem_cons_of_mem _ hq); omega
            clear hS7 lt6 lt7
            have y0 := (hSc.blk (List.mem_cons_self ..)).cell 0 rfl
            have y1 := (hSc.blk (List.mem_cons_self ..)).cell 1 rfl
            have y2 := (hSc.blk (List.mem_cons_self ..)).cell 2 rfl
            have z0 := (hSc.blk (List.mem_cons_self ..)).frozen 0
            have z1 := (hSc.blk (List.mem_cons_self ..)).frozen 1
            have z2 := (hSc.blk (List.mem_cons_self ..)).frozen 2
            dsimp only at y0 y1 y2 z0 z1 z2
            have hT := hSc.set3 (x0 := .slice none 0 0) (x1 := .int .i64 1) (x2 := .int .i64 1) (fun q hq => by rcases List.mem_cons.1 hq with rfl | hq; (show X9 ≠ X8; omega); exact (nb q hq).1)
            refine anyC_loud 6 (by kernel_rfl) ?_
            refine lou_of rfl (fun K hK => ?_)
            go_simp
            refine hK _ _ ⟨fun _ => HP.out _ [(X8, [.slice none 0 0, .int .i64 1, .int .i64 1], 39), (X9, [.slice none 0 0, .int .i64 0, .int .i64 0], 39)] hT, ?_⟩
            clear hK K y0 y1 y2 z0 z1 z2 hSc
            generalize ((u7.setCell ⟨X8, 0, none⟩ (.slice none 0 0)).setCell ⟨X8, 1, none⟩ (.int .i64 1)).setCell ⟨X8, 2, none⟩ (.int .i64 1) = v6 at *
            have hSd : LW w d (newA 100000) ((X9, [.slice none 0 0, .int .i64 0, .int .i64 0], 39) :: (X8, [.slice none 0 0, .int .i64 1, .int .i64 1], 39) :: bx0) v6 := hT.sub (fun q hq => by simp only [List.mem_cons] at hq ⊢; rcases hq with h | h | h <;> simp [h])
            clear hT
            have y0 := (hSd.blk (List.mem_cons_self ..)).cell 0 rfl
            have y1 := (hSd.blk (List.mem_cons_self ..)).cell 1 rfl
            have y2 := (hSd.blk (List.mem_cons_self ..)).cell 2 rfl
            have z0 := (hSd.blk (List.mem_cons_self ..)).frozen 0
            have z1 := (hSd.blk (List.mem_cons_self ..)).frozen 1
            have z2 := (hSd.blk (List.mem_cons_self ..)).frozen 2
            dsimp only at y0 y1 y2 z0 z1 z2
            have hT := hSd.set3 (x0 := .slice bo mb.ts.length cb) (x1 := .int .i64 mb.nx) (x2 := .int .i64 mb.fr) (fun q hq => by rcases List.mem_cons.1 hq with rfl | hq; (show X8 ≠ X9; omega); exact (nb q hq).2)
            refine anyC_loud 7 (by kernel_rfl) ?_
            refine lou_of rfl (fun K hK => ?_)
            go_simp
            refine hK _ _ ⟨fun h => absurd rfl h, ?_⟩
            clear hK K y0 y1 y2 z0 z1 z2 hSd
            refine anyC_done (by kernel_rfl) ?_
            go_wp2_with fail
            go_meet
            case rel => exact ⟨X8, X9, rfl, rfl, by omega, nb, hT⟩
        · refine lou_of rfl (fun K hK => ?_)
          go_simp
          have hS8 := hS2.push [.slice none 0 0, .int .i64 0, .int .i64 0] 39
          have lt8 : ∀ q ∈ (bx0), q.1 < u2.heap.size := fun q hq => (hS2.blk hq).lt
          refine hK _ _ ⟨fun _ => HP.out _ [(u2.heap.size, [.slice none 0 0, .int .i64 0, .int .i64 0], 39)] hS8, ?_⟩
          clear hK K hS2
          generalize u2.alloc (.cells ([.slice none 0 0, .int .i64 0, .int .i64 0] : List Value).toArray 39) = u8 at *
          generalize u2.heap.size = X8 at *
          refine anyC_loud2 3 5 (by kernel_rfl) ?_ ?_
          · refine lou_of rfl (fun K hK => ?_)
            go_simp
            refine (CPl2.out u8).mono ?_
            rintro e u9 ⟨rfl, hb9⟩
            have hS9 := hS8.more hb9
            refine hK _ _ ⟨fun _ => HP.out _ [(X8, [.slice none 0 0, .int .i64 0, .int .i64 0], 39)] hS9, ?_⟩
            clear hK K hb9 hS8
            refine anyC_loud 5 (by kernel_rfl) ?_
            refine lou_of rfl (fun K hK => ?_)
            go_simp
            have hS10 := hS9.push [.slice none 0 0, .int .i64 0, .int .i64 0] 39
            have lt10 : ∀ q ∈ ((X8, [.slice none 0 0, .int .i64 0, .int .i64 0], 39) :: bx0), q.1 < u9.heap.size := fun q hq => (hS9.blk hq).lt
            refine hK _ _ ⟨fun _ => HP.out _ [(u9.heap.size, [.slice none 0 0, .int .i64 0, .int .i64 0], 39), (X8, [.slice none 0 0, .int .i64 0, .int .i64 0], 39)] hS10, ?_⟩
            clear hK K hS9
            generalize u9.alloc (.cells ([.slice none 0 0, .int .i64 0, .int .i64 0] : List Value).toArray 39) = u10 at *
            generalize u9.heap.size = X9 at *
            have hne : X8 < X9 := lt10 (X8, [.slice none 0 0, .int .i64 0, .int .i64 0], 39) (List.mem_cons_self ..)
            have hSc : LW w d (newA 100000) ((X8, [.slice none 0 0, .int .i64 0, .int .i64 0], 39) :: (X9, [.slice none 0 0, .int .i64 0, .int .i64 0], 39) :: bx0) u10 := hS10.sub (fun q hq => by simp only [List.mem_cons] at hq ⊢; rcases hq with h | h | h <;> simp [h])
            have nb : ∀ q ∈ bx0, q.1 ≠ X8 ∧ q.1 ≠ X9 := fun q hq => by have h1 := lt8 q hq; have h2 := lt10 q (List.mem_cons_of_mem _ hq); omega
            clear hS10 lt8 lt10
            have y0 := (hSc.blk (List.mem_cons_self ..)).cell 0 rfl
            have y1 := (hSc.blk (List.mem_cons_self ..)).cell 1 rfl
            have y2 := (hSc.blk (List.mem_cons_self ..)).cell 2 rfl
            have z0 := (hSc.blk (List.mem_cons_self ..)).frozen 0
            have z1 := (hSc.blk (List.mem_cons_self ..)).frozen 1
            have z2 := (hSc.blk (List.mem_cons_self ..)).frozen 2
            dsimp only at y0 y1 y2 z0 z1 z2
            have hT := hSc.set3 (x0 := .slice none 0 0) (x1 := .int .i64 1) (x2 := .int .i64 1) (fun q hq => by rcases List.mem_cons.1 hq with rfl | hq; (show X9 ≠ X8; omega); exact (nb q hq).1)
            refine anyC_loud 6 (by kernel_rfl) ?_
            refine lou_of rfl (fun K hK => ?_)
            go_simp
            refine hK _ _ ⟨fun _ => HP.out _ [(X8, [.slice none 0 0, .int .i64 1, .int .i64 1], 39), (X9, [.slice none 0 0, .int .i64 0, .int .i64 0], 39)] hT, ?_⟩
            clear hK K y0 y1 y2 z0 z1 z2 hSc
            generalize ((u10.setCell ⟨X8, 0, none⟩ (.slice none 0 0)).setCell ⟨X8, 1, none⟩ (.int .i64 1)).setCell ⟨X8, 2, none⟩ (.int .i64 1) = v6 at *
            have hSd : LW w d (newA 100000) ((X9, [.slice none 0 0, .int .i64 0, .int .i64 0], 39) :: (X8, [.slice none 0 0, .int .i64 1, .int .i64 1], 39) :: bx0) v6 := hT.sub (fun q hq => by simp only [List.mem_cons] at hq ⊢; rcases hq with h | h | h <;> simp [h])
            clear hT
            have y0 := (hSd.blk (List.mem_cons_self ..)).cell 0 rfl
            have y1 := (hSd.blk (List.mem_cons_self ..)).cell 1 rfl
            have y2 := (hSd.blk (List.mem_cons_self ..)).cell 2 rfl
            have z0 := (hSd.blk (List.mem_cons_self ..)).frozen 0
            have z1 := (hSd.blk (List.mem_cons_self ..)).frozen 1
            have z2 := (hSd.blk (List.mem_cons_self ..)).frozen 2
            dsimp only at y0 y1 y2 z0 z1 z2
            have hT := hSd.set3 (x0 := .slice bo mb.ts.length cb) (x1 := .int .i64 mb.nx) (x2 := .int .i64 mb.fr) (fun q hq => by rcases List.mem_cons.1 hq with rfl | hq; (show X8 ≠ X9; omega); exact (nb q hq).2)
            refine anyC_loud 7 (by kernel_rfl) ?_
            refine lou_of rfl (fun K hK => ?_)
            go_simp
            refine hK _ _ ⟨fun h => absurd rfl h, ?_⟩
            clear hK K y0 y1 y2 z0 z1 z2 hSd
            refine anyC_done (by kernel_rfl) ?_
            go_wp2_with fail
            go_meet
            case rel => exact ⟨X8, X9, rfl, rfl, by omega, nb, hT⟩
          · refine lou_of rfl (fun K hK => ?_)
            go_simp
            have hS11 := hS8.push [.slice none 0 0, .int .i64 0, .int .i64 0] 39
            have lt11 : ∀ q ∈ ((X8, [.slice none 0 0, .int .i64 0, .int .i64 0], 39) :: bx0), q.1 < u8.heap.size := fun q hq => (hS8.blk hq).lt
            refine hK _ _ ⟨fun _ => HP.out _ [(u8.heap.size, [.slice none 0 0, .int .i64 0, .int .i64 0], 39), (X8, [.slice none 0 0, .int .i64 0, .int .i64 0], 39)] hS11, ?_⟩
            clear hK K hS8
            generalize u8.alloc (.cells ([.slice none 0 0, .int .i64 0, .int .i64 0] : List Value).toArray 39) = u11 at *
            generalize u8.heap.size = X9 at *
            refine anyC_loud 3 (by kernel_rfl) ?_
            refine lou_of rfl (fun K hK => ?_)
            go_simp
            refine (CPl2.out u11).mono ?_
            rintro e u12 ⟨rfl, hb12⟩
            have hS12 := hS11.more hb12
            refine hK _ _ ⟨fun _ => HP.out _ [(X9, [.slice none 0 0, .int .i64 0, .int .i64 0], 39), (X8, [.slice none 0 0, .int .i64 0, .int .i64 0], 39)] hS12, ?_⟩
            clear hK K hb12 hS11
            have hne : X8 < X9 := lt11 (X8, [.slice none 0 0, .int .i64 0, .int .i64 0], 39) (List.mem_cons_self ..)
            have hSc : LW w d (newA 100000) ((X8, [.slice none 0 0, .int .i64 0, .int .i64 0], 39) :: (X9, [.slice none 0 0, .int .i64 0, .int .i64 0], 39) :: bx0) u12 := hS12.sub (fun q hq => by simp only [List.mem_cons] at hq ⊢; rcases hq with h | h | h <;> simp [h])
            have nb : ∀ q ∈ bx0, q.1 ≠ X8 ∧ q.1 ≠ X9 := fun q hq => by have h1 := lt8 q hq; have h2 := lt11 q (List.mem_cons_of_mem _ hq); omega
            clear hS12 lt8 lt11
            have y0 := (hSc.blk (List.mem_cons_self ..)).cell 0 rfl
            have y1 := (hSc.blk (List.mem_cons_self ..)).cell 1 rfl
            have y2 := (hSc.blk (List.mem_cons_self ..)).cell 2 rfl
            have z0 := (hSc.blk (List.mem_cons_self ..)).frozen 0
            have z1 := (hSc.blk (List.mem_cons_self ..)).frozen 1
            have z2 := (hSc.blk (List.mem_cons_self ..)).frozen 2
            dsimp only at y0 y1 y2 z0 z1 z2
            have hT := hSc.set3 (x0 := .slice none 0 0) (x1 := .int .i64 1) (x2 := .int .i64 1) (fun q hq => by rcases List.mem_cons.1 hq with rfl | hq; (show X9 ≠ X8; omega); exact (nb q hq).1)
            refine anyC_loud 6 (by kernel_rfl) ?_
            refine lou_of rfl (fun K hK => ?_)
            go_simp
            refine hK _ _ ⟨fun _ => HP.out _ [(X8, [.slice none 0 0, .int .i64 1, .int .i64 1], 39), (X9, [.slice none 0 0, .int .i64 0, .int .i64 0], 39)] hT, ?_⟩
            clear hK K y0 y1 y2 z0 z1 z2 hSc
            generalize ((u12.setCell ⟨X8, 0, none⟩ (.slice none 0 0)).setCell ⟨X8, 1, none⟩ (.int .i64 1)).setCell ⟨X8, 2, none⟩ (.int .i64 1) = v6 at *
            have hSd : LW w d (newA 100000) ((X9, [.slice none 0 0, .int .i64 0, .int .i64 0], 39) :: (X8, [.slice none 0 0, .int .i64 1, .int .i64 1], 39) :: bx0) v6 := hT.sub (fun q hq => by simp only [List.mem_cons] at hq ⊢; rcases hq with h | h | h <;> simp [h])
            clear hT
            have y0 := (hSd.blk (List.mem_cons_self ..)).cell 0 rfl
            have y1 := (hSd.blk (List.mem_cons_self ..)).cell 1 rfl
            have y2 := (hSd.blk (List.mem_cons_self ..)).cell 2 rfl
            have z0 := (hSd.blk (List.mem_cons_self ..)).frozen 0
            have z1 := (hSd.blk (List.mem_cons_self ..)).frozen 1
            have z2 := (hSd.blk (List.mem_cons_self ..)).frozen 2
            dsimp only at y0 y1 y2 z0 z1 z2
            have hT := hSd.set3 (x0 := .slice bo mb.ts.length cb) (x1 := .int .i64 mb.nx) (x2 := .int .i64 mb.fr) (fun q hq => by rcases List.mem_cons.1 hq with rfl | hq; (show X8 ≠ X9; omega); exact (nb q hq).2)
            refine anyC_loud 7 (by kernel_rfl) ?_
            refine lou_of rfl (fun K hK => ?_)
            go_simp
            refine hK _ _ ⟨fun h => absurd rfl h, ?_⟩
            clear hK K y0 y1 y2 z0 z1 z2 hSd
            refine anyC_done (by kernel_rfl) ?_
            go_wp2_with fail
            go_meet
            case rel => exact ⟨X8, X9, rfl, rfl, by omega, nb, hT⟩
        · refine lou_of rfl (fun K hK => ?_)
          go_simp
          have hS13 := hS2.push [.slice none 0 0, .int .i64 0, .int .i64 0] 39
          have lt13 : ∀ q ∈ (bx0), q.1 < u2.heap.size := fun q hq => (hS2.blk hq).lt
          refine hK _ _ ⟨fun _ => HP.out _ [(u2.heap.size, [.slice none 0 0, .int .i64 0, .int .i64 0], 39)] hS13, ?_⟩
          clear hK K hS2
          generalize u2.alloc (.cells ([.slice none 0 0, .int .i64 0, .int .i64 0] : List Value).toArray 39) = u13 at *
          generalize u2.heap.size = X9 at *
          refine anyC_loud2 3 4 (by kernel_rfl) ?_ ?_
          · refine lou_of rfl (fun K hK => ?_)
            go_simp
            refine (CPl2.out u13).mono ?_
            rintro e u14 ⟨rfl, hb14⟩
            have hS14 := hS13.more hb14
            refine hK _ _ ⟨fun _ => HP.out _ [(X9, [.slice none 0 0, .int .i64 0, .int .i64 0], 39)] hS14, ?_⟩
            clear hK K hb14 hS13
            refine anyC_loud 4 (by kernel_rfl) ?_
            refine lou_of rfl (fun K hK => ?_)
            go_simp
            have hS15 := hS14.push [.slice none 0 0, .int .i64 0, .int .i64 0] 39
            have lt15 : ∀ q ∈ ((X9, [.slice none 0 0, .int .i64 0, .int .i64 0], 39) :: bx0), q.1 < u14.heap.size := fun q hq => (hS14.blk hq).lt
            refine hK _ _ ⟨fun _ => HP.out _ [(u14.heap.size, [.slice none 0 0, .int .i64 0, .int .i64 0], 39), (X9, [.slice none 0 0, .int .i64 0, .int .i64 0], 39)] hS15, ?_⟩
            clear hK K hS14
            generalize u14.alloc (.cells ([.slice none 0 0, .int .i64 0, .int .i64 0] : List Value).toArray 39) = u15 at *
            generalize u14.heap.size = X8 at *
            have hne : X9 < X8 := lt15 (X9, [.slice none 0 0, .int .i64 0, .int .i64 0], 39) (List.mem_cons_self ..)
            have hSc : LW w d (newA 100000) ((X8, [.slice none 0 0, .int .i64 0, .int .i64 0], 39) :: (X9, [.slice none 0 0, .int .i64 0, .int .i64 0], 39) :: bx0) u15 := hS15.sub (fun q hq => by simp only [List.mem_cons] at hq ⊢; rcases hq with h | h | h <;> simp [h])
            have nb : ∀ q ∈ bx0, q.1 ≠ X8 ∧ q.1 ≠ X9 := fun q hq => by have h1 := lt13 q hq; have h2 := lt15 q (List.mem_cons_of_mem _ hq); omega
            clear hS15 lt13 lt15
            have y0 := (hSc.blk (List.mem_cons_self ..)).cell 0 rfl
            have y1 := (hSc.blk (List.mem_cons_self ..)).cell 1 rfl
            have y2 := (hSc.blk (List.mem_cons_self ..)).cell 2 rfl
            have z0 := (hSc.blk (List.mem_cons_self ..)).frozen 0
            have z1 := (hSc.blk (List.mem_cons_self ..)).frozen 1
            have z2 := (hSc.blk (List.mem_cons_self ..)).frozen 2
            dsimp only at y0 y1 y2 z0 z1 z2
            have hT := hSc.set3 (x0 := .slice none 0 0) (x1 := .int .i64 1) (x2 := .int .i64 1) (fun q hq => by rcases List.mem_cons.1 hq with rfl | hq; (show X9 ≠ X8; omega); exact (nb q hq).1)
            refine anyC_loud 6 (by kernel_rfl) ?_
            refine lou_of rfl (fun K hK => ?_)
            go_simp
            refine hK _ _ ⟨fun _ => HP.out _ [(X8, [.slice none 0 0, .int .i64 1, .int .i64 1], 39), (X9, [.slice none 0 0, .int .i64 0, .int .i64 0], 39)] hT, ?_⟩
            clear hK K y0 y1 y2 z0 z1 z2 hSc
            generalize ((u15.setCell ⟨X8, 0, none⟩ (.slice none 0 0)).setCell ⟨X8, 1, none⟩ (.int .i64 1)).setCell ⟨X8, 2, none⟩ (.int .i64 1) = v6 at *
            have hSd : LW w d (newA 100000) ((X9, [.slice none 0 0, .int .i64 0, .int .i64 0], 39) :: (X8, [.slice none 0 0, .int .i64 1, .int .i64 1], 39) :: bx0) v6 := hT.sub (fun q hq => by simp only [List.mem_cons] at hq ⊢; rcases hq with h | h | h <;> simp [h])
            clear hT
            have y0 := (hSd.blk (List.mem_cons_self ..)).cell 0 rfl
            have y1 := (hSd.blk (List.mem_cons_self ..)).cell 1 rfl
            have y2 := (hSd.blk (List.mem_cons_self ..)).cell 2 rfl
            have z0 := (hSd.blk (List.mem_cons_self ..)).frozen 0
            have z1 := (hSd.blk (List.mem_cons_self ..)).frozen 1
            have z2 := (hSd.blk (List.mem_cons_self ..)).frozen 2
            dsimp only at y0 y1 y2 z0 z1 z2
            have hT := hSd.set3 (x0 := .slice bo mb.ts.length cb) (x1 := .int .i64 mb.nx) (x2 := .int .i64 mb.fr) (fun q hq => by rcases List.mem_cons.1 hq with rfl | hq; (show X8 ≠ X9; omega); exact (nb q hq).2)
            refine anyC_loud 7 (by kernel_rfl) ?_
            refine lou_of rfl (fun K hK => ?_)
            go_simp
            refine hK _ _ ⟨fun h => absurd rfl h, ?_⟩
            clear hK K y0 y1 y2 z0 z1 z2 hSd
            refine anyC_done (by kernel_rfl) ?_
            go_wp2_with fail
            go_meet
            case rel => exact ⟨X8, X9, rfl, rfl, by omega, nb, hT⟩
          · refine lou_of rfl (fun K hK => ?_)
            go_simp
            have hS16 := hS13.push [.slice none 0 0, .int .i64 0, .int .i64 0] 39
            have lt16 : ∀ q ∈ ((X9, [.slice none 0 0, .int .i64 0, .int .i64 0], 39) :: bx0), q.1 < u13.heap.size := fun q hq => (hS13.blk hq).lt
            refine hK _ _ ⟨fun _ => HP.out _ [(u13.heap.size, [.slice none 0 0, .int .i64 0, .int .i64 0], 39), (X9, [.slice none 0 0, .int .i64 0, .int .i64 0], 39)] hS16, ?_⟩
            clear hK K hS13
            generalize u13.alloc (.cells ([.slice none 0 0, .int .i64 0, .int .i64 0] : List Value).toArray 39) = u16 at *
            generalize u13.heap.size = X8 at *
            refine anyC_loud 3 (by kernel_rfl) ?_
            refine lou_of rfl (fun K hK => ?_)
            go_simp
            refine (CPl2.out u16).mono ?_
            rintro e u17 ⟨rfl, hb17⟩
            have hS17 := hS16.more hb17
            refine hK _ _ ⟨fun _ => HP.out _ [(X8, [.slice none 0 0, .int .i64 0, .int .i64 0], 39), (X9, [.slice none 0 0, .int .i64 0, .int .i64 0], 39)] hS17, ?_⟩
            clear hK K hb17 hS16
            have hne : X9 < X8 := lt16 (X9, [.slice none 0 0, .int .i64 0, .int .i64 0], 39) (List.mem_cons_self ..)
            have hSc : LW w d (newA 100000) ((X8, [.slice none 0 0, .int .i64 0, .int .i64 0], 39) :: (X9, [.slice none 0 0, .int .i64 0, .int .i64 0], 39) :: bx0) u17 := hS17.sub (fun q hq => by simp only [List.mem_cons] at hq ⊢; rcases hq with h | h | h <;> simp [h])
            have nb : ∀ q ∈ bx0, q.1 ≠ X8 ∧ q.1 ≠ X9 := fun q hq => by have h1 := lt13 q hq; have h2 := lt16 q (List.mem_cons_of_mem _ hq); omega
            clear hS17 lt13 lt16
            have y0 := (hSc.blk (List.mem_cons_self ..)).cell 0 rfl
            have y1 := (hSc.blk (List.mem_cons_self ..)).cell 1 rfl
            have y2 := (hSc.blk (List.mem_cons_self ..)).cell 2 rfl
            have z0 := (hSc.blk (List.mem_cons_self ..)).frozen 0
            have z1 := (hSc.blk (List.mem_cons_self ..)).frozen 1
            have z2 := (hSc.blk (List.mem_cons_self ..)).frozen 2
            dsimp only at y0 y1 y2 z0 z1 z2
            have hT := hSc.set3 (x0 := .slice none 0 0) (x1 := .int .i64 1) (x2 := .int .i64 1) (fun q hq => by rcases List.mem_cons.1 hq with rfl | hq; (show X9 ≠ X8; omega); exact (nb q hq).1)
            refine anyC_loud 6 (by kernel_rfl) ?_
            refine lou_of rfl (fun K hK => ?_)
            go_simp
            refine hK _ _ ⟨fun _ => HP.out _ [(X8, [.slice none 0 0, .int .i64 1, .int .i64 1], 39), (X9, [.slice none 0 0, .int .i64 0, .int .i64 0], 39)] hT, ?_⟩
            clear hK K y0 y1 y2 z0 z1 z2 hSc
            generalize ((u17.setCell ⟨X8, 0, none⟩ (.slice none 0 0)).setCell ⟨X8, 1, none⟩ (.int .i64 1)).setCell ⟨X8, 2, none⟩ (.int .i64 1) = v6 at *
            have hSd : LW w d (newA 100000) ((X9, [.slice none 0 0, .int .i64 0, .int .i64 0], 39) :: (X8, [.slice none 0 0, .int .i64 1, .int .i64 1], 39) :: bx0) v6 := hT.sub (fun q hq => by simp only [List.mem_cons] at hq ⊢; rcases hq with h | h | h <;> simp [h])
            clear hT
            have y0 := (hSd.blk (List.mem_cons_self ..)).cell 0 rfl
            have y1 := (hSd.blk (List.mem_cons_self ..)).cell 1 rfl
            have y2 := (hSd.blk (List.mem_cons_self ..)).cell 2 rfl
            have z0 := (hSd.blk (List.mem_cons_self ..)).frozen 0
            have z1 := (hSd.blk (List.mem_cons_self ..)).frozen 1
            have z2 := (hSd.blk (List.mem_cons_self ..)).frozen 2
            dsimp only at y0 y1 y2 z0 z1 z2
            have hT := hSd.set3 (x0 := .slice bo mb.ts.length cb) (x1 := .int .i64 mb.nx) (x2 := .int .i64 mb.fr) (fun q hq => by rcases List.mem_cons.1 hq with rfl | hq; (show X8 ≠ X9; omega); exact (nb q hq).2)
            refine anyC_loud 7 (by kernel_rfl) ?_
            refine lou_of rfl (fun K hK => ?_)
            go_simp
            refine hK _ _ ⟨fun h => absurd rfl h, ?_⟩
            clear hK K y0 y1 y2 z0 z1 z2 hSd
            refine anyC_done (by kernel_rfl) ?_
            go_wp2_with fail
            go_meet
            case rel => exact ⟨X8, X9, rfl, rfl, by omega, nb, hT⟩
      · refine lou_of rfl (fun K hK => ?_)
        go_simp
        have hS18 := hS1.push [.slice none 0 0, .int .i64 0, .int .i64 0] 39
        have lt18 : ∀ q ∈ (bx0), q.1 < u1.heap.size := fun q hq => (hS1.blk hq).lt
        refine hK _ _ ⟨fun _ => HP.out _ [(u1.heap.size, [.slice none 0 0, .int .i64 0, .int .i64 0], 39)] hS18, ?_⟩
        clear hK K hS1
        generalize u1.alloc (.cells ([.slice none 0 0, .int .i64 0, .int .i64 0] : List Value).toArray 39) = u18 at *
        generalize u1.heap.size = X8 at *
        refine anyC_loud2 1 5 (by kernel_rfl) ?_ ?_
        · refine lou_of rfl (fun K hK => ?_)
          go_simp
          refine (CPl1.out u18).mono ?_
          rintro e u19 ⟨rfl, hb19⟩
          have hS19 := hS18.more hb19
          refine hK _ _ ⟨fun _ => HP.out _ [(X8, [.slice none 0 0, .int .i64 0, .int .i64 0], 39)] hS19, ?_⟩
          clear hK K hb19 hS18
          refine anyC_loud2 3 5 (by kernel_rfl) ?_ ?_
          · refine lou_of rfl (fun K hK => ?_)
            go_simp
            refine (CPl2.out u19).mono ?_
            rintro e u20 ⟨rfl, hb20⟩
            have hS20 := hS19.more hb20
            refine hK _ _ ⟨fun _ => HP.out _ [(X8, [.slice none 0 0, .int .i64 0, .int .i64 0], 39)] hS20, ?_⟩
            clear hK K hb20 hS19
            refine anyC_loud 5 (by kernel_rfl) ?_
            refine lou_of rfl (fun K hK => ?_)
            go_simp
            have hS21 := hS20.push [.slice none 0 0, .int .i64 0, .int .i64 0] 39
            have lt21 : ∀ q ∈ ((X8, [.slice none 0 0, .int .i64 0, .int .i64 0], 39) :: bx0), q.1 < u20.heap.size := fun q hq => (hS20.blk hq).lt
            refine hK _ _ ⟨fun _ => HP.out _ [(u20.heap.size, [.slice none 0 0, .int .i64 0, .int .i64 0], 39), (X8, [.slice none 0 0, .int .i64 0, .int .i64 0], 39)] hS21, ?_⟩
            clear hK K hS20
            generalize u20.alloc (.cells ([.slice none 0 0, .int .i64 0, .int .i64 0] : List Value).toArray 39) = u21 at *
            generalize u20.heap.size = X9 at *
            have hne : X8 < X9 := lt21 (X8, [.slice none 0 0, .int .i64 0, .int .i64 0], 39) (List.mem_cons_self ..)
            have hSc : LW w d (newA 100000) ((X8, [.slice none 0 0, .int .i64 0, .int .i64 0], 39) :: (X9, [.slice none 0 0, .int .i64 0, .int .i64 0], 39) :: bx0) u21 := hS21.sub (fun q hq => by simp only [List.mem_cons] at hq ⊢; rcases hq with h | h | h <;> simp [h])
            have nb : ∀ q ∈ bx0, q.1 ≠ X8 ∧ q.1 ≠ X9 := fun q hq => by have h1 := lt18 q hq; have h2 := lt21 q (List.mem_cons_of_mem _ hq); omega
            clear hS21 lt18 lt21
            have y0 := (hSc.blk (List.mem_cons_self ..)).cell 0 rfl
            have y1 := (hSc.blk (List.mem_cons_self ..)).cell 1 rfl
            have y2 := (hSc.blk (List.mem_cons_self ..)).cell 2 rfl
            have z0 := (hSc.blk (List.mem_cons_self ..)).frozen 0
            have z1 := (hSc.blk (List.mem_cons_self ..)).frozen 1
            have z2 := (hSc.blk (List.mem_cons_self ..)).frozen 2
            dsimp only at y0 y1 y2 z0 z1 z2
            have hT := hSc.set3 (x0 := .slice none 0 0) (x1 := .int .i64 1) (x2 := .int .i64 1) (fun q hq => by rcases List.mem_cons.1 hq with rfl | hq; (show X9 ≠ X8; omega); exact (nb q hq).1)
            refine anyC_loud 6 (by kernel_rfl) ?_
            refine lou_of rfl (fun K hK => ?_)
            go_simp
            refine hK _ _ ⟨fun _ => HP.out _ [(X8, [.slice none 0 0, .int .i64 1, .int .i64 1], 39), (X9, [.slice none 0 0, .int .i64 0, .int .i64 0], 39)] hT, ?_⟩
            clear hK K y0 y1 y2 z0 z1 z2 hSc
            generalize ((u21.setCell ⟨X8, 0, none⟩ (.slice none 0 0)).setCell ⟨X8, 1, none⟩ (.int .i64 1)).setCell ⟨X8, 2, none⟩ (.int .i64 1) = v6 at *
            have hSd : LW w d (newA 100000) ((X9, [.slice none 0 0, .int .i64 0, .int .i64 0], 39) :: (X8, [.slice none 0 0, .int .i64 1, .int .i64 1], 39) :: bx0) v6 := hT.sub (fun q hq => by simp only [List.mem_cons] at hq ⊢; rcases hq with h | h | h <;> simp [h])
            clear hT
            have y0 := (hSd.blk (List.mem_cons_self ..)).cell 0 rfl
            have y1 := (hSd.blk (List.mem_cons_self ..)).cell 1 rfl
            have y2 := (hSd.blk (List.mem_cons_self ..)).cell 2 rfl
            have z0 := (hSd.blk (List.mem_cons_self ..)).frozen 0
            have z1 := (hSd.blk (List.mem_cons_self ..)).frozen 1
            have z2 := (hSd.blk (List.mem_cons_self ..)).frozen 2
            dsimp only at y0 y1 y2 z0 z1 z2
            have hT := hSd.set3 (x0 := .slice bo mb.ts.length cb) (x1 := .int .i64 mb.nx) (x2 := .int .i64 mb.fr) (fun q hq => by rcases List.mem_cons.1 hq with rfl | hq; (show X8 ≠ X9; omega); exact (nb q hq).2)
            refine anyC_loud 7 (by kernel_rfl) ?_
            refine lou_of rfl (fun K hK => ?_)
            go_simp
            refine hK _ _ ⟨fun h => absurd rfl h, ?_⟩
            clear hK K y0 y1 y2 z0 z1 z2 hSd
            refine anyC_done (by kernel_rfl) ?_
            go_wp2_with fail
            go_meet
            case rel => exact ⟨X8, X9, rfl, rfl, by omega, nb, hT⟩
          · refine lou_of rfl (fun K hK => ?_)
            go_simp
            have hS22 := hS19.push [.slice none 0 0, .int .i64 0, .int .i64 0] 39
            have lt22 : ∀ q ∈ ((X8, [.slice none 0 0, .int .i64 0, .int .i64 0], 39) :: bx0), q.1 < u19.heap.size := fun q hq => (hS19.blk hq).lt
            refine hK _ _ ⟨fun _ => HP.out _ [(u19.heap.size, [.slice none 0 0, .int .i64 0, .int .i64 0], 39), (X8, [.slice none 0 0, .int .i64 0, .int .i64 0], 39)] hS22, ?_⟩
            clear hK K hS19
            generalize u19.alloc (.cells ([.slice none 0 0, .int .i64 0, .int .i64 0] : List Value).toArray 39) = u22 at *
            generalize u19.heap.size = X9 at *
            refine anyC_loud 3 (by kernel_rfl) ?_
            refine lou_of rfl (fun K hK => ?_)
            go_simp
            refine (CPl2.out u22).mono ?_
            rintro e u23 ⟨rfl, hb23⟩
            have hS23 := hS22.more hb23
            refine hK _ _ ⟨fun _ => HP.out _ [(X9, [.slice none 0 0, .int .i64 0, .int .i64 0], 39), (X8, [.slice none 0 0, .int .i64 0, .int .i64 0], 39)] hS23, ?_⟩
            clear hK K hb23 hS22
            have hne : X8 < X9 := lt22 (X8, [.slice none 0 0, .int .i64 0, .int .i64 0], 39) (List.mem_cons_self ..)
            have hSc : LW w d (newA 100000) ((X8, [.slice none 0 0, .int .i64 0, .int .i64 0], 39) :: (X9, [.slice none 0 0, .int .i64 0, .int .i64 0], 39) :: bx0) u23 := hS23.sub (fun q hq => by simp only [List.mem_cons] at hq ⊢; rcases hq with h | h | h <;> simp [h])
            have nb : ∀ q ∈ bx0, q.1 ≠ X8 ∧ q.1 ≠ X9 := fun q hq => by have h1 := lt18 q hq; have h2 := lt22 q (List.mem_cons_of_mem _ hq); omega
            clear hS23 lt18 lt22
            have y0 := (hSc.blk (List.mem_cons_self ..)).cell 0 rfl
            have y1 := (hSc.blk (List.mem_cons_self ..)).cell 1 rfl
            have y2 := (hSc.blk (List.mem_cons_self ..)).cell 2 rfl
            have z0 := (hSc.blk (List.mem_cons_self ..)).frozen 0
            have z1 := (hSc.blk (List.mem_cons_self ..)).frozen 1
            have z2 := (hSc.blk (List.mem_cons_self ..)).frozen 2
            dsimp only at y0 y1 y2 z0 z1 z2
            have hT := hSc.set3 (x0 := .slice none 0 0) (x1 := .int .i64 1) (x2 := .int .i64 1) (fun q hq => by rcases List.mem_cons.1 hq with rfl | hq; (show X9 ≠ X8; omega); exact (nb q hq).1)
            refine anyC_loud 6 (by kernel_rfl) ?_
            refine lou_of rfl (fun K hK => ?_)
            go_simp
            refine hK _ _ ⟨fun _ => HP.out _ [(X8, [.slice none 0 0, .int .i64 1, .int .i64 1], 39), (X9, [.slice none 0 0, .int .i64 0, .int .i64 0], 39)] hT, ?_⟩
            clear hK K y0 y1 y2 z0 z1 z2 hSc
            generalize ((u23.setCell ⟨X8, 0, none⟩ (.slice none 0 0)).setCell ⟨X8, 1, none⟩ (.int .i64 1)).setCell ⟨X8, 2, none⟩ (.int .i64 1) = v6 at *
            have hSd : LW w d (newA 100000) ((X9, [.slice none 0 0, .int .i64 0, .int .i64 0], 39) :: (X8, [.slice none 0 0, .int .i64 1, .int .i64 1], 39) :: bx0) v6 := hT.sub (fun q hq => by simp only [List.mem_cons] at hq ⊢; rcases hq with h | h | h <;> simp [h])
            clear hT
            have y0 := (hSd.blk (List.mem_cons_self ..)).cell 0 rfl
            have y1 := (hSd.blk (List.mem_cons_self ..)).cell 1 rfl
            have y2 := (hSd.blk (List.mem_cons_self ..)).cell 2 rfl
            have z0 := (hSd.blk (List.mem_cons_self ..)).frozen 0
            have z1 := (hSd.blk (List.mem_cons_self ..)).frozen 1
            have z2 := (hSd.blk (List.mem_cons_self ..)).frozen 2
            dsimp only at y0 y1 y2 z0 z1 z2
            have hT := hSd.set3 (x0 := .slice bo mb.ts.length cb) (x1 := .int .i64 mb.nx) (x2 := .int .i64 mb.fr) (fun q hq => by rcases List.mem_cons.1 hq with rfl | hq; (show X8 ≠ X9; omega); exact (nb q hq).2)
            refine anyC_loud 7 (by kernel_rfl) ?_
            refine lou_of rfl (fun K hK => ?_)
            go_simp
            refine hK _ _ ⟨fun h => absurd rfl h, ?_⟩
            clear hK K y0 y1 y2 z0 z1 z2 hSd
            refine anyC_done (by kernel_rfl) ?_
            go_wp2_with fail
            go_meet
            case rel => exact ⟨X8, X9, rfl, rfl, by omega, nb, hT⟩
        · refine lou_of rfl (fun K hK => ?_)
          go_simp
          have hS24 := hS18.push [.slice none 0 0, .int .i64 0, .int .i64 0] 39
          have lt24 : ∀ q ∈ ((X8, [.slice none 0 0, .int .i64 0, .int .i64 0], 39) :: bx0), q.1 < u18.heap.size := fun q hq => (hS18.blk hq).lt
          refine hK _ _ ⟨fun _ => HP.out _ [(u18.heap.size, [.slice none 0 0, .int .i64 0, .int .i64 0], 39), (X8, [.slice none 0 0, .int .i64 0, .int .i64 0], 39)] hS24, ?_⟩
          clear hK K hS18
          generalize u18.alloc (.cells ([.slice none 0 0, .int .i64 0, .int .i64 0] : List Value).toArray 39) = u24 at *
          generalize u18.heap.size = X9 at *
          refine anyC_loud 1 (by kernel_rfl) ?_
          refine lou_of rfl (fun K hK => ?_)
          go_simp
          refine (CPl1.out u24).mono ?_
          rintro e u25 ⟨rfl, hb25⟩
          have hS25 := hS24.more hb25
          refine hK _ _ ⟨fun _ => HP.out _ [(X9, [.slice none 0 0, .int .i64 0, .int .i64 0], 39), (X8, [.slice none 0 0, .int .i64 0, .int .i64 0], 39)] hS25, ?_⟩
          clear hK K hb25 hS24
          refine anyC_loud 3 (by kernel_rfl) ?_
          refine lou_of rfl (fun K hK => ?_)
          go_simp
          refine (CPl2.out u25).mono ?_
          rintro e u26 ⟨rfl, hb26⟩
          have hS26 := hS25.more hb26
          refine hK _ _ ⟨fun _ => HP.out _ [(X9, [.slice none 0 0, .int .i64 0, .int .i64 0], 39), (X8, [.slice none 0 0, .int .i64 0, .int .i64 0], 39)] hS26, ?_⟩
          clear hK K hb26 hS25
          have hne : X8 < X9 := lt24 (X8, [.slice none 0 0, .int .i64 0, .int .i64 0], 39) (List.mem_cons_self ..)
          have hSc : LW w d (newA 100000) ((X8, [.slice none 0 0, .int .i64 0, .int .i64 0], 39) :: (X9, [.slice none 0 0, .int .i64 0, .int .i64 0], 39) :: bx0) u26 := hS26.sub (fun q hq => by simp only [List.mem_cons] at hq ⊢; rcases hq with h | h | h <;> simp [h])
          have nb : ∀ q ∈ bx0, q.1 ≠ X8 ∧ q.1 ≠ X9 := fun q hq => by have h1 := lt18 q hq; have h2 := lt24 q (List.mem_cons_of_mem _ hq); omega
          clear hS26 lt18 lt24
          have y0 := (hSc.blk (List.mem_cons_self ..)).cell 0 rfl
          have y1 := (hSc.blk (List.mem_cons_self ..)).cell 1 rfl
          have y2 := (hSc.blk (List.mem_cons_self ..)).cell 2 rfl
          have z0 := (hSc.blk (List.mem_cons_self ..)).frozen 0
          have z1 := (hSc.blk (List.mem_cons_self ..)).frozen 1
          have z2 := (hSc.blk (List.mem_cons_self ..)).frozen 2
          dsimp only at y0 y1 y2 z0 z1 z2
          have hT := hSc.set3 (x0 := .slice none 0 0) (x1 := .int .i64 1) (x2 := .int .i64 1) (fun q hq => by rcases List.mem_cons.1 hq with rfl | hq; (show X9 ≠ X8; omega); exact (nb q hq).1)
          refine anyC_loud 6 (by kernel_rfl) ?_
          refine lou_of rfl (fun K hK => ?_)
          go_simp
          refine hK _ _ ⟨fun _ => HP.out _ [(X8, [.slice none 0 0, .int .i64 1, .int .i64 1], 39), (X9, [.slice none 0 0, .int .i64 0, .int .i64 0], 39)] hT, ?_⟩
          clear hK K y0 y1 y2 z0 z1 z2 hSc
          generalize ((u26.setCell ⟨X8, 0, none⟩ (.slice none 0 0)).setCell ⟨X8, 1, none⟩ (.int .i64 1)).setCell ⟨X8, 2, none⟩ (.int .i64 1) = v6 at *
          have hSd : LW w d (newA 100000) ((X9, [.slice none 0 0, .int .i64 0, .int .i64 0], 39) :: (X8, [.slice none 0 0, .int .i64 1, .int .i64 1], 39) :: bx0) v6 := hT.sub (fun q hq => by simp only [List.mem_cons] at hq ⊢; rcases hq with h | h | h <;> simp [h])
          clear hT
          have y0 := (hSd.blk (List.mem_cons_self ..)).cell 0 rfl
          have y1 := (hSd.blk (List.mem_cons_self ..)).cell 1 rfl
          have y2 := (hSd.blk (List.mem_cons_self ..)).cell 2 rfl
          have z0 := (hSd.blk (List.mem_cons_self ..)).frozen 0
          have z1 := (hSd.blk (List.mem_cons_self ..)).frozen 1
          have z2 := (hSd.blk (List.mem_cons_self ..)).frozen 2
          dsimp only at y0 y1 y2 z0 z1 z2
          have hT := hSd.set3 (x0 := .slice bo mb.ts.length cb) (x1 := .int .i64 mb.nx) (x2 := .int .i64 mb.fr) (fun q hq => by rcases List.mem_cons.1 hq with rfl | hq; (show X8 ≠ X9; omega); exact (nb q hq).2)
          refine anyC_loud 7 (by kernel_rfl) ?_
          refine lou_of rfl (fun K hK => ?_)
          go_simp
          refine hK _ _ ⟨fun h => absurd rfl h, ?_⟩
          clear hK K y0 y1 y2 z0 z1 z2 hSd
          refine anyC_done (by kernel_rfl) ?_
          go_wp2_with fail
          go_meet
          case rel => exact ⟨X8, X9, rfl, rfl, by omega, nb, hT⟩
      · refine lou_of rfl (fun K hK => ?_)
        go_simp
        have hS27 := hS1.push [.slice none 0 0, .int .i64 0, .int .i64 0] 39
        have lt27 : ∀ q ∈ (bx0), q.1 < u1.heap.size := fun q hq => (hS1.blk hq).lt
        refine hK _ _ ⟨fun _ => HP.out _ [(u1.heap.size, [.slice none 0 0, .int .i64 0, .int .i64 0], 39)] hS27, ?_⟩
        clear hK K hS1
        generalize u1.alloc (.cells ([.slice none 0 0, .int .i64 0, .int .i64 0] : List Value).toArray 39) = u27 at *
        generalize u1.heap.size = X9 at *
        refine anyC_loud2 1 4 (by kernel_rfl) ?_ ?_
        · refine lou_of rfl (fun K hK => ?_)
          go_simp
          refine (CPl1.out u27).mono ?_
          rintro e u28 ⟨rfl, hb28⟩
          have hS28 := hS27.more hb28
          refine hK _ _ ⟨fun _ => HP.out _ [(X9, [.slice none 0 0, .int .i64 0, .int .i64 0], 39)] hS28, ?_⟩
          clear hK K hb28 hS27
          refine anyC_loud2 3 4 (by kernel_rfl) ?_ ?_
          · refine lou_of rfl (fun K hK => ?_)
            go_simp
            refine (CPl2.out u28).mono ?_
            rintro e u29 ⟨rfl, hb29⟩
            have hS29 := hS28.more hb29
            refine hK _ _ ⟨fun _ => HP.out _ [(X9, [.slice none 0 0, .int .i64 0, .int .i64 0], 39)] hS29, ?_⟩
            clear hK K hb29 hS28
            refine anyC_loud 4 (by kernel_rfl) ?_
            refine lou_of rfl (fun K hK => ?_)
            go_simp
            have hS30 := hS29.push [.slice none 0 0, .int .i64 0, .int .i64 0] 39
            have lt30 : ∀ q ∈ ((X9, [.slice none 0 0, .int .i64 0, .int .i64 0], 39) :: bx0), q.1 < u29.heap.size := fun q hq => (hS29.blk hq).lt
            refine hK _ _ ⟨fun _ => HP.out _ [(u29.heap.size, [.slice none 0 0, .int .i64 0, .int .i64 0], 39), (X9, [.slice none 0 0, .int .i64 0, .int .i64 0], 39)] hS30, ?_⟩
            clear hK K hS29
            generalize u29.alloc (.cells ([.slice none 0 0, .int .i64 0, .int .i64 0] : List Value).toArray 39) = u30 at *
            generalize u29.heap.size = X8 at *
            have hne : X9 < X8 := lt30 (X9, [.slice none 0 0, .int .i64 0, .int .i64 0], 39) (List.mem_cons_self ..)
            have hSc : LW w d (newA 100000) ((X8, [.slice none 0 0, .int .i64 0, .int .i64 0], 39) :: (X9, [.slice none 0 0, .int .i64 0, .int .i64 0], 39) :: bx0) u30 := hS30.sub (fun q hq => by simp only [List.mem_cons] at hq ⊢; rcases hq with h | h | h <;> simp [h])
            have nb : ∀ q ∈ bx0, q.1 ≠ X8 ∧ q.1 ≠ X9 := fun q hq => by have h1 := lt27 q hq; have h2 := lt30 q (List.mem_cons_of_mem _ hq); omega
            clear hS30 lt27 lt30
            have y0 := (hSc.blk (List.mem_cons_self ..)).cell 0 rfl
            have y1 := (hSc.blk (List.mem_cons_self ..)).cell 1 rfl
            have y2 := (hSc.blk (List.mem_cons_self ..)).cell 2 rfl
            have z0 := (hSc.blk (List.mem_cons_self ..)).frozen 0
            have z1 := (hSc.blk (List.mem_cons_self ..)).frozen 1
            have z2 := (hSc.blk (List.mem_cons_self ..)).frozen 2
            dsimp only at y0 y1 y2 z0 z1 z2
            have hT := hSc.set3 (x0 := .slice none 0 0) (x1 := .int .i64 1) (x2 := .int .i64 1) (fun q hq => by rcases List.mem_cons.1 hq with rfl | hq; (show X9 ≠ X8; omega); exact (nb q hq).1)
            refine anyC_loud 6 (by kernel_rfl) ?_
            refine lou_of rfl (fun K hK => ?_)
            go_simp
            refine hK _ _ ⟨fun _ => HP.out _ [(X8, [.slice none 0 0, .int .i64 1, .int .i64 1], 39), (X9, [.slice none 0 0, .int .i64 0, .int .i64 0], 39)] hT, ?_⟩
            clear hK K y0 y1 y2 z0 z1 z2 hSc
            generalize ((u30.setCell ⟨X8, 0, none⟩ (.slice none 0 0)).setCell ⟨X8, 1, none⟩ (.int .i64 1)).setCell ⟨X8, 2, none⟩ (.int .i64 1) = v6 at *
            have hSd : LW w d (newA 100000) ((X9, [.slice none 0 0, .int .i64 0, .int .i64 0], 39) :: (X8, [.slice none 0 0, .int .i64 1, .int .i64 1], 39) :: bx0) v6 := hT.sub (fun q hq => by simp only [List.mem_cons] at hq ⊢; rcases hq with h | h | h <;> simp [h])
            clear hT
            have y0 := (hSd.blk (List.mem_cons_self ..)).cell 0 rfl
            have y1 := (hSd.blk (List.mem_cons_self ..)).cell 1 rfl
            have y2 := (hSd.blk (List.mem_cons_self ..)).cell 2 rfl
            have z0 := (hSd.blk (List.mem_cons_self ..)).frozen 0
            have z1 := (hSd.blk (List.mem_cons_self ..)).frozen 1
            have z2 := (hSd.blk (List.mem_cons_self ..)).frozen 2
            dsimp only at y0 y1 y2 z0 z1 z2
            have hT := hSd.set3 (x0 := .slice bo mb.ts.length cb) (x1 := .int .i64 mb.nx) (x2 := .int .i64 mb.fr) (fun q hq => by rcases List.mem_cons.1 hq with rfl | hq; (show X8 ≠ X9; omega); exact (nb q hq).2)
            refine anyC_loud 7 (by kernel_rfl) ?_
            refine lou_of rfl (fun K hK => ?_)
            go_simp
            refine hK _ _ ⟨fun h => absurd rfl h, ?_⟩
            clear hK K y0 y1 y2 z0 z1 z2 hSd
            refine anyC_done (by kernel_rfl) ?_
            go_wp2_with fail
            go_meet
            case rel => exact ⟨X8, X9, rfl, rfl, by omega, nb, hT⟩
          · refine lou_of rfl (fun K hK => ?_)
            go_simp
            have hS31 := hS28.push [.slice none 0 0, .int .i64 0, .int .i64 0] 39
            have lt31 : ∀ q ∈ ((X9, [.slice none 0 0, .int .i64 0, .int .i64 0], 39) :: bx0), q.1 < u28.heap.size := fun q hq => (hS28.blk hq).lt
            refine hK _ _ ⟨fun _ => HP.out _ [(u28.heap.size, [.slice none 0 0, .int .i64 0, .int .i64 0], 39), (X9, [.slice none 0 0, .int .i64 0, .int .i64 0], 39)] hS31, ?_⟩
            clear hK K hS28
            generalize u28.alloc (.cells ([.slice none 0 0, .int .i64 0, .int .i64 0] : List Value).toArray 39) = u31 at *
            generalize u28.heap.size = X8 at *
            refine anyC_loud 3 (by kernel_rfl) ?_
            refine lou_of rfl (fun K hK => ?_)
            go_simp
            refine (CPl2.out u31).mono ?_
            rintro e u32 ⟨rfl, hb32⟩
            have hS32 := hS31.more hb32
            refine hK _ _ ⟨fun _ => HP.out _ [(X8, [.slice none 0 0, .int .i64 0, .int .i64 0], 39), (X9, [.slice none 0 0, .int .i64 0, .int .i64 0], 39)] hS32, ?_⟩
            clear hK K hb32 hS31
            have hne : X9 < X8 := lt31 (X9, [.slice none 0 0, .int .i64 0, .int .i64 0], 39) (List.mem_cons_self ..)
            have hSc : LW w d (newA 100000) ((X8, [.slice none 0 0, .int .i64 0, .int .i64 0], 39) :: (X9, [.slice none 0 0, .int .i64 0, .int .i64 0], 39) :: bx0) u32 := hS32.sub (fun q hq => by simp only [List.mem_cons] at hq ⊢; rcases hq with h | h | h <;> simp [h])
            have nb : ∀ q ∈ bx0, q.1 ≠ X8 ∧ q.1 ≠ X9 := fun q hq => by have h1 := lt27 q hq; have h2 := lt31 q (List.mem_cons_of_mem _ hq); omega
            clear hS32 lt27 lt31
            have y0 := (hSc.blk (List.mem_cons_self ..)).cell 0 rfl
            have y1 := (hSc.blk (List.mem_cons_self ..)).cell 1 rfl
            have y2 := (hSc.blk (List.mem_cons_self ..)).cell 2 rfl
            have z0 := (hSc.blk (List.mem_cons_self ..)).frozen 0
            have z1 := (hSc.blk (List.mem_cons_self ..)).frozen 1
            have z2 := (hSc.blk (List.mem_cons_self ..)).frozen 2
            dsimp only at y0 y1 y2 z0 z1 z2
            have hT := hSc.set3 (x0 := .slice none 0 0) (x1 := .int .i64 1) (x2 := .int .i64 1) (fun q hq => by rcases List.mem_cons.1 hq with rfl | hq; (show X9 ≠ X8; omega); exact (nb q hq).1)
            refine anyC_loud 6 (by kernel_rfl) ?_
            refine lou_of rfl (fun K hK => ?_)
            go_simp
            refine hK _ _ ⟨fun _ => HP.out _ [(X8, [.slice none 0 0, .int .i64 1, .int .i64 1], 39), (X9, [.slice none 0 0, .int .i64 0, .int .i64 0], 39)] hT, ?_⟩
            clear hK K y0 y1 y2 z0 z1 z2 hSc
            generalize ((u32.setCell ⟨X8, 0, none⟩ (.slice none 0 0)).setCell ⟨X8, 1, none⟩ (.int .i64 1)).setCell ⟨X8, 2, none⟩ (.int .i64 1) = v6 at *
            have hSd : LW w d (newA 100000) ((X9, [.slice none 0 0, .int .i64 0, .int .i64 0], 39) :: (X8, [.slice none 0 0, .int .i64 1, .int .i64 1], 39) :: bx0) v6 := hT.sub (fun q hq => by simp only [List.mem_cons] at hq ⊢; rcases hq with h | h | h <;> simp [h])
            clear hT
            have y0 := (hSd.blk (List.mem_cons_self ..)).cell 0 rfl
            have y1 := (hSd.blk (List.mem_cons_self ..)).cell 1 rfl
            have y2 := (hSd.blk (List.mem_cons_self ..)).cell 2 rfl
            have z0 := (hSd.blk (List.mem_cons_self ..)).frozen 0
            have z1 := (hSd.blk (List.mem_cons_self ..)).frozen 1
            have z2 := (hSd.blk (List.mem_cons_self ..)).frozen 2
            dsimp only at y0 y1 y2 z0 z1 z2
            have hT := hSd.set3 (x0 := .slice bo mb.ts.length cb) (x1 := .int .i64 mb.nx) (x2 := .int .i64 mb.fr) (fun q hq => by rcases List.mem_cons.1 hq with rfl | hq; (show X8 ≠ X9; omega); exact (nb q hq).2)
            refine anyC_loud 7 (by kernel_rfl) ?_
            refine lou_of rfl (fun K hK => ?_)
            go_simp
            refine hK _ _ ⟨fun h => absurd rfl h, ?_⟩
            clear hK K y0 y1 y2 z0 z1 z2 hSd
            refine anyC_done (by kernel_rfl) ?_
            go_wp2_with fail
            go_meet
            case rel => exact ⟨X8, X9, rfl, rfl, by omega, nb, hT⟩
        · refine lou_of rfl (fun K hK => ?_)
          go_simp
          have hS33 := hS27.push [.slice none 0 0, .int .i64 0, .int .i64 0] 39
          have lt33 : ∀ q ∈ ((X9, [.slice none 0 0, .int .i64 0, .int .i64 0], 39) :: bx0), q.1 < u27.heap.size := fun q hq => (hS27.blk hq).lt
          refine hK _ _ ⟨fun _ => HP.out _ [(u27.heap.size, [.slice none 0 0, .int .i64 0, .int .i64 0], 39), (X9, [.slice none 0 0, .int .i64 0, .int .i64 0], 39)] hS33, ?_⟩
          clear hK K hS27
          generalize u27.alloc (.cells ([.slice none 0 0, .int .i64 0, .int .i64 0] : List Value).toArray 39) = u33 at *
          generalize u27.heap.size = X8 at *
          refine anyC_loud 1 (by kernel_rfl) ?_
          refine lou_of rfl (fun K hK => ?_)
          go_simp
          refine (CPl1.out u33).mono ?_
          rintro e u34 ⟨rfl, hb34⟩
          have hS34 := hS33.more hb34
          refine hK _ _ ⟨fun _ => HP.out _ [(X8, [.slice none 0 0, .int .i64 0, .int .i64 0], 39), (X9, [.slice none 0 0, .int .i64 0, .int .i64 0], 39)] hS34, ?_⟩
          clear hK K hb34 hS33
          refine anyC_loud 3 (by kernel_rfl) ?_
          refine lou_of rfl (fun K hK => ?_)
          go_simp
          refine (CPl2.out u34).mono ?_
          rintro e u35 ⟨rfl, hb35⟩
          have hS35 := hS34.more hb35
          refine hK _ _ ⟨fun _ => HP.out _ [(X8, [.slice none 0 0, .int .i64 0, .int .i64 0], 39), (X9, [.slice none 0 0, .int .i64 0, .int .i64 0], 39)] hS35, ?_⟩
          clear hK K hb35 hS34
          have hne : X9 < X8 := lt33 (X9, [.slice none 0 0, .int .i64 0, .int .i64 0], 39) (List.mem_cons_self ..)
          have hSc : LW w d (newA 100000) ((X8, [.slice none 0 0, .int .i64 0, .int .i64 0], 39) :: (X9, [.slice none 0 0, .int .i64 0, .int .i64 0], 39) :: bx0) u35 := hS35.sub (fun q hq => by simp only [List.mem_cons] at hq ⊢; rcases hq with h | h | h <;> simp [h])
          have nb : ∀ q ∈ bx0, q.1 ≠ X8 ∧ q.1 ≠ X9 := fun q hq => by have h1 := lt27 q hq; have h2 := lt33 q (List.mem_cons_of_mem _ hq); omega
          clear hS35 lt27 lt33
          have y0 := (hSc.blk (List.mem_cons_self ..)).cell 0 rfl
          have y1 := (hSc.blk (List.mem_cons_self ..)).cell 1 rfl
          have y2 := (hSc.blk (List.mem_cons_self ..)).cell 2 rfl
          have z0 := (hSc.blk (List.mem_cons_self ..)).frozen 0
          have z1 := (hSc.blk (List.mem_cons_self ..)).frozen 1
          have z2 := (hSc.blk (List.mem_cons_self ..)).frozen 2
          dsimp only at y0 y1 y2 z0 z1 z2
          have hT := hSc.set3 (x0 := .slice none 0 0) (x1 := .int .i64 1) (x2 := .int .i64 1) (fun q hq => by rcases List.mem_cons.1 hq with rfl | hq; (show X9 ≠ X8; omega); exact (nb q hq).1)
          refine anyC_loud 6 (by kernel_rfl) ?_
          refine lou_of rfl (fun K hK => ?_)
          go_simp
          refine hK _ _ ⟨fun _ => HP.out _ [(X8, [.slice none 0 0, .int .i64 1, .int .i64 1], 39), (X9, [.slice none 0 0, .int .i64 0, .int .i64 0], 39)] hT, ?_⟩
          clear hK K y0 y1 y2 z0 z1 z2 hSc
          generalize ((u35.setCell ⟨X8, 0, none⟩ (.slice none 0 0)).setCell ⟨X8, 1, none⟩ (.int .i64 1)).setCell ⟨X8, 2, none⟩ (.int .i64 1) = v6 at *
          have hSd : LW w d (newA 100000) ((X9, [.slice none 0 0, .int .i64 0, .int .i64 0], 39) :: (X8, [.slice none 0 0, .int .i64 1, .int .i64 1], 39) :: bx0) v6 := hT.sub (fun q hq => by simp only [List.mem_cons] at hq ⊢; rcases hq with h | h | h <;> simp [h])
          clear hT
          have y0 := (hSd.blk (List.mem_cons_self ..)).cell 0 rfl
          have y1 := (hSd.blk (List.mem_cons_self ..)).cell 1 rfl
          have y2 := (hSd.blk (List.mem_cons_self ..)).cell 2 rfl
          have z0 := (hSd.blk (List.mem_cons_self ..)).frozen 0
          have z1 := (hSd.blk (List.mem_cons_self ..)).frozen 1
          have z2 := (hSd.blk (List.mem_cons_self ..)).frozen 2
          dsimp only at y0 y1 y2 z0 z1 z2
          have hT := hSd.set3 (x0 := .slice bo mb.ts.length cb) (x1 := .int .i64 mb.nx) (x2 := .int .i64 mb.fr) (fun q hq => by rcases List.mem_cons.1 hq with rfl | hq; (show X8 ≠ X9; omega); exact (nb q hq).2)
          refine anyC_loud 7 (by kernel_rfl) ?_
          refine lou_of rfl (fun K hK => ?_)
          go_simp
          refine hK _ _ ⟨fun h => absurd rfl h, ?_⟩
          clear hK K y0 y1 y2 z0 z1 z2 hSd
          refine anyC_done (by kernel_rfl) ?_
          go_wp2_with fail
          go_meet
          case rel => exact ⟨X8, X9, rfl, rfl, by omega, nb, hT⟩
    · refine lou_of rfl (fun K hK => ?_)
      go_simp
      have hS36 := hS0.push [.slice none 0 0, .int .i64 0, .int .i64 0] 39
      have lt36 : ∀ q ∈ (bx0), q.1 < u0.heap.size := fun q hq => (hS0.blk hq).lt
      refine hK _ _ ⟨fun _ => HP.out _ [(u0.heap.size, [.slice none 0 0, .int .i64 0, .int .i64 0], 39)] hS36, ?_⟩
      clear hK K hS0
      generalize u0.alloc (.cells ([.slice none 0 0, .int .i64 0, .int .i64 0] : List Value).toArray 39) = u36 at *
      generalize u0.heap.size = X8 at *
      refine anyC_loud2 0 5 (by kernel_rfl) ?_ ?_
      · refine lou_of rfl (fun K hK => ?_)
        go_simp
        refine (CBeg.out u36).mono ?_
        rintro e u37 ⟨rfl, hb37⟩
        have hS37 := hS36.more hb37
        refine hK _ _ ⟨fun _ => HP.out _ [(X8, [.slice none 0 0, .int .i64 0, .int .i64 0], 39)] hS37, ?_⟩
        clear hK K hb37 hS36
        refine anyC_loud2 1 5 (by kernel_rfl) ?_ ?_
        · refine lou_of rfl (fun K hK => ?_)
          go_simp
          refine (CPl1.out u37).mono ?_
          rintro e u38 ⟨rfl, hb38⟩
          have hS38 := hS37.more hb38
          refine hK _ _ ⟨fun _ => HP.out _ [(X8, [.slice none 0 0, .int .i64 0, .int .i64 0], 39)] hS38, ?_⟩
          clear hK K hb38 hS37
          refine anyC_loud2 3 5 (by kernel_rfl) ?_ ?_
          · refine lou_of rfl (fun K hK => ?_)
            go_simp
            refine (CPl2.out u38).mono ?_
            rintro e u39 ⟨rfl, hb39⟩
            have hS39 := hS38.more hb39
            refine hK _ _ ⟨fun _ => HP.out _ [(X8, [.slice none 0 0, .int .i64 0, .int .i64 0], 39)] hS39, ?_⟩
            clear hK K hb39 hS38
            refine anyC_loud 5 (by kernel_rfl) ?_
            refine lou_of rfl (fun K hK => ?_)
            go_simp
            have hS40 := hS39.push [.slice none 0 0, .int .i64 0, .int .i64 0] 39
            have lt40 : ∀ q ∈ ((X8, [.slice none 0 0, .int .i64 0, .int .i64 0], 39) :: bx0), q.1 < u39.heap.size := fun q hq => (hS39.blk hq).lt
            refine hK _ _ ⟨fun _ => HP.out _ [(u39.heap.size, [.slice none 0 0, .int .i64 0, .int .i64 0], 39), (X8, [.slice none 0 0, .int .i64 0, .int .i64 0], 39)] hS40, ?_⟩
            clear hK K hS39
            generalize u39.alloc (.cells ([.slice none 0 0, .int .i64 0, .int .i64 0] : List Value).toArray 39) = u40 at *
            generalize u39.heap.size = X9 at *
            have hne : X8 < X9 := lt40 (X8, [.slice none 0 0, .int .i64 0, .int .i64 0], 39) (List.mem_cons_self ..)
            have hSc : LW w d (newA 100000) ((X8, [.slice none 0 0, .int .i64 0, .int .i64 0], 39) :: (X9, [.slice none 0 0, .int .i64 0, .int .i64 0], 39) :: bx0) u40 := hS40.sub (fun q hq => by simp only [List.mem_cons] at hq ⊢; rcases hq with h | h | h <;> simp [h])
            have nb : ∀ q ∈ bx0, q.1 ≠ X8 ∧ q.1 ≠ X9 := fun q hq => by have h1 := lt36 q hq; have h2 := lt40 q (List.mem_cons_of_mem _ hq); omega
            clear hS40 lt36 lt40
            have y0 := (hSc.blk (List.mem_cons_self ..)).cell 0 rfl
            have y1 := (hSc.blk (List.mem_cons_self ..)).cell 1 rfl
            have y2 := (hSc.blk (List.mem_cons_self ..)).cell 2 rfl
            have z0 := (hSc.blk (List.mem_cons_self ..)).frozen 0
            have z1 := (hSc.blk (List.mem_cons_self ..)).frozen 1
            have z2 := (hSc.blk (List.mem_cons_self ..)).frozen 2
            dsimp only at y0 y1 y2 z0 z1 z2
            have hT := hSc.set3 (x0 := .slice none 0 0) (x1 := .int .i64 1) (x2 := .int .i64 1) (fun q hq => by rcases List.mem_cons.1 hq with rfl | hq; (show X9 ≠ X8; omega); exact (nb q hq).1)
            refine anyC_loud 6 (by kernel_rfl) ?_
            refine lou_of rfl (fun K hK => ?_)
            go_simp
            refine hK _ _ ⟨fun _ => HP.out _ [(X8, [.slice none 0 0, .int .i64 1, .int .i64 1], 39), (X9, [.slice none 0 0, .int .i64 0, .int .i64 0], 39)] hT, ?_⟩
            clear hK K y0 y1 y2 z0 z1 z2 hSc
            generalize ((u40.setCell ⟨X8, 0, none⟩ (.slice none 0 0)).setCell ⟨X8, 1, none⟩ (.int .i64 1)).setCell ⟨X8, 2, none⟩ (.int .i64 1) = v6 at *
            have hSd : LW w d (newA 100000) ((X9, [.slice none 0 0, .int .i64 0, .int .i64 0], 39) :: (X8, [.slice none 0 0, .int .i64 1, .int .i64 1], 39) :: bx0) v6 := hT.sub (fun q hq => by simp only [List.mem_cons] at hq ⊢; rcases hq with h | h | h <;> simp [h])
            clear hT
            have y0 := (hSd.blk (List.mem_cons_self ..)).cell 0 rfl
            have y1 := (hSd.blk (List.mem_cons_self ..)).cell 1 rfl
            have y2 := (hSd.blk (List.mem_cons_self ..)).cell 2 rfl
            have z0 := (hSd.blk (List.mem_cons_self ..)).frozen 0
            have z1 := (hSd.blk (List.mem_cons_self ..)).frozen 1
            have z2 := (hSd.blk (List.mem_cons_self ..)).frozen 2
            dsimp only at y0 y1 y2 z0 z1 z2
            have hT := hSd.set3 (x0 := .slice bo mb.ts.length cb) (x1 := .int .i64 mb.nx) (x2 := .int .i64 mb.fr) (fun q hq => by rcases List.mem_cons.1 hq with rfl | hq; (show X8 ≠ X9; omega); exact (nb q hq).2)
            refine anyC_loud 7 (by kernel_rfl) ?_
            refine lou_of rfl (fun K hK => ?_)
            go_simp
            refine hK _ _ ⟨fun h => absurd rfl h, ?_⟩
            clear hK K y0 y1 y2 z0 z1 z2 hSd
            refine anyC_done (by kernel_rfl) ?_
            go_wp2_with fail
            go_meet
            case rel => exact ⟨X8, X9, rfl, rfl, by omega, nb, hT⟩
          · refine lou_of rfl (fun K hK => ?_)
            go_simp
            have hS41 := hS38.push [.slice none 0 0, .int .i64 0, .int .i64 0] 39
            have lt41 : ∀ q ∈ ((X8, [.slice none 0 0, .int .i64 0, .int .i64 0], 39) :: bx0), q.1 < u38.heap.size := fun q hq => (hS38.blk hq).lt
            refine hK _ _ ⟨fun _ => HP.out _ [(u38.heap.size, [.slice none 0 0, .int .i64 0, .int .i64 0], 39), (X8, [.slice none 0 0, .int .i64 0, .int .i64 0], 39)] hS41, ?_⟩
            clear hK K hS38
            generalize u38.alloc (.cells ([.slice none 0 0, .int .i64 0, .int .i64 0] : List Value).toArray 39) = u41 at *
            generalize u38.heap.size = X9 at *
            refine anyC_loud 3 (by kernel_rfl) ?_
            refine lou_of rfl (fun K hK => ?_)
            go_simp
            refine (CPl2.out u41).mono ?_
            rintro e u42 ⟨rfl, hb42⟩
            have hS42 := hS41.more hb42
            refine hK _ _ ⟨fun _ => HP.out _ [(X9, [.slice none 0 0, .int .i64 0, .int .i64 0], 39), (X8, [.slice none 0 0, .int .i64 0, .int .i64 0], 39)] hS42, ?_⟩
            clear hK K hb42 hS41
            have hne : X8 < X9 := lt41 (X8, [.slice none 0 0, .int .i64 0, .int .i64 0], 39) (List.mem_cons_self ..)
            have hSc : LW w d (newA 100000) ((X8, [.slice none 0 0, .int .i64 0, .int .i64 0], 39) :: (X9, [.slice none 0 0, .int .i64 0, .int .i64 0], 39) :: bx0) u42 := hS42.sub (fun q hq => by simp only [List.mem_cons] at hq ⊢; rcases hq with h | h | h <;> simp [h])
            have nb : ∀ q ∈ bx0, q.1 ≠ X8 ∧ q.1 ≠ X9 := fun q hq => by have h1 := lt36 q hq; have h2 := lt41 q (List.mem_cons_of_mem _ hq); omega
            clear hS42 lt36 lt41
            have y0 := (hSc.blk (List.mem_cons_self ..)).cell 0 rfl
            have y1 := (hSc.blk (List.mem_cons_self ..)).cell 1 rfl
            have y2 := (hSc.blk (List.mem_cons_self ..)).cell 2 rfl
            have z0 := (hSc.blk (List.mem_cons_self ..)).frozen 0
            have z1 := (hSc.blk (List.mem_cons_self ..)).frozen 1
            have z2 := (hSc.blk (List.mem_cons_self ..)).frozen 2
            dsimp only at y0 y1 y2 z0 z1 z2
            have hT := hSc.set3 (x0 := .slice none 0 0) (x1 := .int .i64 1) (x2 := .int .i64 1) (fun q hq => by rcases List.mem_cons.1 hq with rfl | hq; (show X9 ≠ X8; omega); exact (nb q hq).1)
            refine anyC_loud 6 (by kernel_rfl) ?_
            refine lou_of rfl (fun K hK => ?_)
            go_simp
            refine hK _ _ ⟨fun _ => HP.out _ [(X8, [.slice none 0 0, .int .i64 1, .int .i64 1], 39), (X9, [.slice none 0 0, .int .i64 0, .int .i64 0], 39)] hT, ?_⟩
            clear hK K y0 y1 y2 z0 z1 z2 hSc
            generalize ((u42.setCell ⟨X8, 0, none⟩ (.slice none 0 0)).setCell ⟨X8, 1, none⟩ (.int .i64 1)).setCell ⟨X8, 2, none⟩ (.int .i64 1) = v6 at *
            have hSd : LW w d (newA 100000) ((X9, [.slice none 0 0, .int .i64 0, .int .i64 0], 39) :: (X8, [.slice none 0 0, .int .i64 1, .int .i64 1], 39) :: bx0) v6 := hT.sub (fun q hq => by simp only [List.mem_cons] at hq ⊢; rcases hq with h | h | h <;> simp [h])
            clear hT
            have y0 := (hSd.blk (List.mem_cons_self ..)).cell 0 rfl
            have y1 := (hSd.blk (List.mem_cons_self ..)).cell 1 rfl
            have y2 := (hSd.blk (List.mem_cons_self ..)).cell 2 rfl
            have z0 := (hSd.blk (List.mem_cons_self ..)).frozen 0
            have z1 := (hSd.blk (List.mem_cons_self ..)).frozen 1
            have z2 := (hSd.blk (List.mem_cons_self ..)).frozen 2
            dsimp only at y0 y1 y2 z0 z1 z2
            have hT := hSd.set3 (x0 := .slice bo mb.ts.length cb) (x1 := .int .i64 mb.nx) (x2 := .int .i64 mb.fr) (fun q hq => by rcases List.mem_cons.1 hq with rfl | hq; (show X8 ≠ X9; omega); exact (nb q hq).2)
            refine anyC_loud 7 (by kernel_rfl) ?_
            refine lou_of rfl (fun K hK => ?_)
            go_simp
            refine hK _ _ ⟨fun h => absurd rfl h, ?_⟩
            clear hK K y0 y1 y2 z0 z1 z2 hSd
            refine anyC_done (by kernel_rfl) ?_
            go_wp2_with fail
            go_meet
            case rel => exact ⟨X8, X9, rfl, rfl, by omega, nb, hT⟩
        · refine lou_of rfl (fun K hK => ?_)
          go_simp
          have hS43 := hS37.push [.slice none 0 0, .int .i64 0, .int .i64 0] 39
          have lt43 : ∀ q ∈ ((X8, [.slice none 0 0, .int .i64 0, .int .i64 0], 39) :: bx0), q.1 < u37.heap.size := fun q hq => (hS37.blk hq).lt
          refine hK _ _ ⟨fun _ => HP.out _ [(u37.heap.size, [.slice none 0 0, .int .i64 0, .int .i64 0], 39), (X8, [.slice none 0 0, .int .i64 0, .int .i64 0], 39)] hS43, ?_⟩
          clear hK K hS37
          generalize u37.alloc (.cells ([.slice none 0 0, .int .i64 0, .int .i64 0] : List Value).toArray 39) = u43 at *
          generalize u37.heap.size = X9 at *
          refine anyC_loud 1 (by kernel_rfl) ?_
          refine lou_of rfl (fun K hK => ?_)
          go_simp
          refine (CPl1.out u43).mono ?_
          rintro e u44 ⟨rfl, hb44⟩
          have hS44 := hS43.more hb44
          refine hK _ _ ⟨fun _ => HP.out _ [(X9, [.slice none 0 0, .int .i64 0, .int .i64 0], 39), (X8, [.slice none 0 0, .int .i64 0, .int .i64 0], 39)] hS44, ?_⟩
          clear hK K hb44 hS43
          refine anyC_loud 3 (by kernel_rfl) ?_
          refine lou_of rfl (fun K hK => ?_)
          go_simp
          refine (CPl2.out u44).mono ?_
          rintro e u45 ⟨rfl, hb45⟩
          have hS45 := hS44.more hb45
          refine hK _ _ ⟨fun _ => HP.out _ [(X9, [.slice none 0 0, .int .i64 0, .int .i64 0], 39), (X8, [.slice none 0 0, .int .i64 0, .int .i64 0], 39)] hS45, ?_⟩
          clear hK K hb45 hS44
          have hne : X8 < X9 := lt43 (X8, [.slice none 0 0, .int .i64 0, .int .i64 0], 39) (List.mem_cons_self ..)
          have hSc : LW w d (newA 100000) ((X8, [.slice none 0 0, .int .i64 0, .int .i64 0], 39) :: (X9, [.slice none 0 0, .int .i64 0, .int .i64 0], 39) :: bx0) u45 := hS45.sub (fun q hq => by simp only [List.mem_cons] at hq ⊢; rcases hq with h | h | h <;> simp [h])
          have nb : ∀ q ∈ bx0, q.1 ≠ X8 ∧ q.1 ≠ X9 := fun q hq => by have h1 := lt36 q hq; have h2 := lt43 q (List.mem_cons_of_mem _ hq); omega
          clear hS45 lt36 lt43
          have y0 := (hSc.blk (List.mem_cons_self ..)).cell 0 rfl
          have y1 := (hSc.blk (List.mem_cons_self ..)).cell 1 rfl
          have y2 := (hSc.blk (List.mem_cons_self ..)).cell 2 rfl
          have z0 := (hSc.blk (List.mem_cons_self ..)).frozen 0
          have z1 := (hSc.blk (List.mem_cons_self ..)).frozen 1
          have z2 := (hSc.blk (List.mem_cons_self ..)).frozen 2
          dsimp only at y0 y1 y2 z0 z1 z2
          have hT := hSc.set3 (x0 := .slice none 0 0) (x1 := .int .i64 1) (x2 := .int .i64 1) (fun q hq => by rcases List.mem_cons.1 hq with rfl | hq; (show X9 ≠ X8; omega); exact (nb q hq).1)
          refine anyC_loud 6 (by kernel_rfl) ?_
          refine lou_of rfl (fun K hK => ?_)
          go_simp
          refine hK _ _ ⟨fun _ => HP.out _ [(X8, [.slice none 0 0, .int .i64 1, .int .i64 1], 39), (X9, [.slice none 0 0, .int .i64 0, .int .i64 0], 39)] hT, ?_⟩
          clear hK K y0 y1 y2 z0 z1 z2 hSc
          generalize ((u45.setCell ⟨X8, 0, none⟩ (.slice none 0 0)).setCell ⟨X8, 1, none⟩ (.int .i64 1)).setCell ⟨X8, 2, none⟩ (.int .i64 1) = v6 at *
          have hSd : LW w d (newA 100000) ((X9, [.slice none 0 0, .int .i64 0, .int .i64 0], 39) :: (X8, [.slice none 0 0, .int .i64 1, .int .i64 1], 39) :: bx0) v6 := hT.sub (fun q hq => by simp only [List.mem_cons] at hq ⊢; rcases hq with h | h | h <;> simp [h])
          clear hT
          have y0 := (hSd.blk (List.mem_cons_self ..)).cell 0 rfl
          have y1 := (hSd.blk (List.mem_cons_self ..)).cell 1 rfl
          have y2 := (hSd.blk (List.mem_cons_self ..)).cell 2 rfl
          have z0 := (hSd.blk (List.mem_cons_self ..)).frozen 0
          have z1 := (hSd.blk (List.mem_cons_self ..)).frozen 1
          have z2 := (hSd.blk (List.mem_cons_self ..)).frozen 2
          dsimp only at y0 y1 y2 z0 z1 z2
          have hT := hSd.set3 (x0 := .slice bo mb.ts.length cb) (x1 := .int .i64 mb.nx) (x2 := .int .i64 mb.fr) (fun q hq => by rcases List.mem_cons.1 hq with rfl | hq; (show X8 ≠ X9; omega); exact (nb q hq).2)
          refine anyC_loud 7 (by kernel_rfl) ?_
          refine lou_of rfl (fun K hK => ?_)
          go_simp
          refine hK _ _ ⟨fun h => absurd rfl h, ?_⟩
          clear hK K y0 y1 y2 z0 z1 z2 hSd
          refine anyC_done (by kernel_rfl) ?_
          go_wp2_with fail
          go_meet
          case rel => exact ⟨X8, X9, rfl, rfl, by omega, nb, hT⟩
      · refine lou_of rfl (fun K hK => ?_)
        go_simp
        have hS46 := hS36.push [.slice none 0 0, .int .i64 0, .int .i64 0] 39
        have lt46 : ∀ q ∈ ((X8, [.slice none 0 0, .int .i64 0, .int .i64 0], 39) :: bx0), q.1 < u36.heap.size := fun q hq => (hS36.blk hq).lt
        refine hK _ _ ⟨fun _ => HP.out _ [(u36.heap.size, [.slice none 0 0, .int .i64 0, .int .i64 0], 39), (X8, [.slice none 0 0, .int .i64 0, .int .i64 0], 39)] hS46, ?_⟩
        clear hK K hS36
        generalize u36.alloc (.cells ([.slice none 0 0, .int .i64 0, .int .i64 0] : List Value).toArray 39) = u46 at *
        generalize u36.heap.size = X9 at *
        refine anyC_loud 0 (by kernel_rfl) ?_
        refine lou_of rfl (fun K hK => ?_)
        go_simp
        refine (CBeg.out u46).mono ?_
        rintro e u47 ⟨rfl, hb47⟩
        have hS47 := hS46.more hb47
        refine hK _ _ ⟨fun _ => HP.out _ [(X9, [.slice none 0 0, .int .i64 0, .int .i64 0], 39), (X8, [.slice none 0 0, .int .i64 0, .int .i64 0], 39)] hS47, ?_⟩
        clear hK K hb47 hS46
        refine anyC_loud 1 (by kernel_rfl) ?_
        refine lou_of rfl (fun K hK => ?_)
        go_simp
        refine (CPl1.out u47).mono ?_
        rintro e u48 ⟨rfl, hb48⟩
        have hS48 := hS47.more hb48
        refine hK _ _ ⟨fun _ => HP.out _ [(X9, [.slice none 0 0, .int .i64 0, .int .i64 0], 39), (X8, [.slice none 0 0, .int .i64 0, .int .i64 0], 39)] hS48, ?_⟩
        clear hK K hb48 hS47
        refine anyC_loud 3 (by kernel_rfl) ?_
        refine lou_of rfl (fun K hK => ?_)
        go_simp
        refine (CPl2.out u48).mono ?_
        rintro e u49 ⟨rfl, hb49⟩
        have hS49 := hS48.more hb49
        refine hK _ _ ⟨fun _ => HP.out _ [(X9, [.slice none 0 0, .int .i64 0, .int .i64 0], 39), (X8, [.slice none 0 0, .int .i64 0, .int .i64 0], 39)] hS49, ?_⟩
        clear hK K hb49 hS48
        have hne : X8 < X9 := lt46 (X8, [.slice none 0 0, .int .i64 0, .int .i64 0], 39) (List.mem_cons_self ..)
        have hSc : LW w d (newA 100000) ((X8, [.slice none 0 0, .int .i64 0, .int .i64 0], 39) :: (X9, [.slice none 0 0, .int .i64 0, .int .i64 0], 39) :: bx0) u49 := hS49.sub (fun q hq => by simp only [List.mem_cons] at hq ⊢; rcases hq with h | h | h <;> simp [h])
        have nb : ∀ q ∈ bx0, q.1 ≠ X8 ∧ q.1 ≠ X9 := fun q hq => by have h1 := lt36 q hq; have h2 := lt46 q (List.mem_cons_of_mem _ hq); omega
        clear hS49 lt36 lt46
        have y0 := (hSc.blk (List.mem_cons_self ..)).cell 0 rfl
        have y1 := (hSc.blk (List.mem_cons_self ..)).cell 1 rfl
        have y2 := (hSc.blk (List.mem_cons_self ..)).cell 2 rfl
        have z0 := (hSc.blk (List.mem_cons_self ..)).frozen 0
        have z1 := (hSc.blk (List.mem_cons_self ..)).frozen 1
        have z2 := (hSc.blk (List.mem_cons_self ..)).frozen 2
        dsimp only at y0 y1 y2 z0 z1 z2
        have hT := hSc.set3 (x0 := .slice none 0 0) (x1 := .int .i64 1) (x2 := .int .i64 1) (fun q hq => by rcases List.mem_cons.1 hq with rfl | hq; (show X9 ≠ X8; omega); exact (nb q hq).1)
        refine anyC_loud 6 (by kernel_rfl) ?_
        refine lou_of rfl (fun K hK => ?_)
        go_simp
        refine hK _ _ ⟨fun _ => HP.out _ [(X8, [.slice none 0 0, .int .i64 1, .int .i64 1], 39), (X9, [.slice none 0 0, .int .i64 0, .int .i64 0], 39)] hT, ?_⟩
        clear hK K y0 y1 y2 z0 z1 z2 hSc
        generalize ((u49.setCell ⟨X8, 0, none⟩ (.slice none 0 0)).setCell ⟨X8, 1, none⟩ (.int .i64 1)).setCell ⟨X8, 2, none⟩ (.int .i64 1) = v6 at *
        have hSd : LW w d (newA 100000) ((X9, [.slice none 0 0, .int .i64 0, .int .i64 0], 39) :: (X8, [.slice none 0 0, .int .i64 1, .int .i64 1], 39) :: bx0) v6 := hT.sub (fun q hq => by simp only [List.mem_cons] at hq ⊢; rcases hq with h | h | h <;> simp [h])
        clear hT
        have y0 := (hSd.blk (List.mem_cons_self ..)).cell 0 rfl
        have y1 := (hSd.blk (List.mem_cons_self ..)).cell 1 rfl
        have y2 := (hSd.blk (List.mem_cons_self ..)).cell 2 rfl
        have z0 := (hSd.blk (List.mem_cons_self ..)).frozen 0
        have z1 := (hSd.blk (List.mem_cons_self ..)).frozen 1
        have z2 := (hSd.blk (List.mem_cons_self ..)).frozen 2
        dsimp only at y0 y1 y2 z0 z1 z2
        have hT := hSd.set3 (x0 := .slice bo mb.ts.length cb) (x1 := .int .i64 mb.nx) (x2 := .int .i64 mb.fr) (fun q hq => by rcases List.mem_cons.1 hq with rfl | hq; (show X8 ≠ X9; omega); exact (nb q hq).2)
        refine anyC_loud 7 (by kernel_rfl) ?_
        refine lou_of rfl (fun K hK => ?_)
        go_simp
        refine hK _ _ ⟨fun h => absurd rfl h, ?_⟩
        clear hK K y0 y1 y2 z0 z1 z2 hSd
        refine anyC_done (by kernel_rfl) ?_
        go_wp2_with fail
        go_meet
        case rel => exact ⟨X8, X9, rfl, rfl, by omega, nb, hT⟩
    · refine lou_of rfl (fun K hK => ?_)
      go_simp
      have hS50 := hS0.push [.slice none 0 0, .int .i64 0, .int .i64 0] 39
      have lt50 : ∀ q ∈ (bx0), q.1 < u0.heap.size := fun q hq => (hS0.blk hq).lt
      refine hK _ _ ⟨fun _ => HP.out _ [(u0.heap.size, [.slice none 0 0, .int .i64 0, .int .i64 0], 39)] hS50, ?_⟩
      clear hK K hS0
      generalize u0.alloc (.cells ([.slice none 0 0, .int .i64 0, .int .i64 0] : List Value).toArray 39) = u50 at *
      generalize u0.heap.size = X9 at *
      refine anyC_loud2 0 4 (by kernel_rfl) ?_ ?_
      · refine lou_of rfl (fun K hK => ?_)
        go_simp
        refine (CBeg.out u50).mono ?_
        rintro e u51 ⟨rfl, hb51⟩
        have hS51 := hS50.more hb51
        refine hK _ _ ⟨fun _ => HP.out _ [(X9, [.slice none 0 0, .int .i64 0, .int .i64 0], 39)] hS51, ?_⟩
        clear hK K hb51 hS50
        refine anyC_loud2 1 4 (by kernel_rfl) ?_ ?_
        · refine lou_of rfl (fun K hK => ?_)
          go_simp
          refine (CPl1.out u51).mono ?_
          rintro e u52 ⟨rfl, hb52⟩
          have hS52 := hS51.more hb52
          refine hK _ _ ⟨fun _ => HP.out _ [(X9, [.slice none 0 0, .int .i64 0, .int .i64 0], 39)] hS52, ?_⟩
          clear hK K hb52 hS51
          refine anyC_loud2 3 4 (by kernel_rfl) ?_ ?_
          · refine lou_of rfl (fun K hK => ?_)
            go_simp
            refine (CPl2.out u52).mono ?_
            rintro e u53 ⟨rfl, hb53⟩
            have hS53 := hS52.more hb53
            refine hK _ _ ⟨fun _ => HP.out _ [(X9, [.slice none 0 0, .int .i64 0, .int .i64 0], 39)] hS53, ?_⟩
            clear hK K hb53 hS52
            refine anyC_loud 4 (by kernel_rfl) ?_
            refine lou_of rfl (fun K hK => ?_)
            go_simp
            have hS54 := hS53.push [.slice none 0 0, .int .i64 0, .int .i64 0] 39
            have lt54 : ∀ q ∈ ((X9, [.slice none 0 0, .int .i64 0, .int .i64 0], 39) :: bx0), q.1 < u53.heap.size := fun q hq => (hS53.blk hq).lt
            refine hK _ _ ⟨fun _ => HP.out _ [(u53.heap.size, [.slice none 0 0, .int .i64 0, .int .i64 0], 39), (X9, [.slice none 0 0, .int .i64 0, .int .i64 0], 39)] hS54, ?_⟩
            clear hK K hS53
            generalize u53.alloc (.cells ([.slice none 0 0, .int .i64 0, .int .i64 0] : List Value).toArray 39) = u54 at *
            generalize u53.heap.size = X8 at *
            have hne : X9 < X8 := lt54 (X9, [.slice none 0 0, .int .i64 0, .int .i64 0], 39) (List.mem_cons_self ..)
            have hSc : LW w d (newA 100000) ((X8, [.slice none 0 0, .int .i64 0, .int .i64 0], 39) :: (X9, [.slice none 0 0, .int .i64 0, .int .i64 0], 39) :: bx0) u54 := hS54.sub (fun q hq => by simp only [List.mem_cons] at hq ⊢; rcases hq with h | h | h <;> simp [h])
            have nb : ∀ q ∈ bx0, q.1 ≠ X8 ∧ q.1 ≠ X9 := fun q hq => by have h1 := lt50 q hq; have h2 := lt54 q (List.mem_cons_of_mem _ hq); omega
            clear hS54 lt50 lt54
            have y0 := (hSc.blk (List.mem_cons_self ..)).cell 0 rfl
            have y1 := (hSc.blk (List.mem_cons_self ..)).cell 1 rfl
            have y2 := (hSc.blk (List.mem_cons_self ..)).cell 2 rfl
            have z0 := (hSc.blk (List.mem_cons_self ..)).frozen 0
            have z1 := (hSc.blk (List.mem_cons_self ..)).frozen 1
            have z2 := (hSc.blk (List.mem_cons_self ..)).frozen 2
            dsimp only at y0 y1 y2 z0 z1 z2
            have hT := hSc.set3 (x0 := .slice none 0 0) (x1 := .int .i64 1) (x2 := .int .i64 1) (fun q hq => by rcases List.mem_cons.1 hq with rfl | hq; (show X9 ≠ X8; omega); exact (nb q hq).1)
            refine anyC_loud 6 (by kernel_rfl) ?_
            refine lou_of rfl (fun K hK => ?_)
            go_simp
            refine hK _ _ ⟨fun _ => HP.out _ [(X8, [.slice none 0 0, .int .i64 1, .int .i64 1], 39), (X9, [.slice none 0 0, .int .i64 0, .int .i64 0], 39)] hT, ?_⟩
            clear hK K y0 y1 y2 z0 z1 z2 hSc
            generalize ((u54.setCell ⟨X8, 0, none⟩ (.slice none 0 0)).setCell ⟨X8, 1, none⟩ (.int .i64 1)).setCell ⟨X8, 2, none⟩ (.int .i64 1) = v6 at *
            have hSd : LW w d (newA 100000) ((X9, [.slice none 0 0, .int .i64 0, .int .i64 0], 39) :: (X8, [.slice none 0 0, .int .i64 1, .int .i64 1], 39) :: bx0) v6 := hT.sub (fun q hq => by simp only [List.mem_cons] at hq ⊢; rcases hq with h | h | h <;> simp [h])
            clear hT
            have y0 := (hSd.blk (List.mem_cons_self ..)).cell 0 rfl
            have y1 := (hSd.blk (List.mem_cons_self ..)).cell 1 rfl
            have y2 := (hSd.blk (List.mem_cons_self ..)).cell 2 rfl
            have z0 := (hSd.blk (List.mem_cons_self ..)).frozen 0
            have z1 := (hSd.blk (List.mem_cons_self ..)).frozen 1
            have z2 := (hSd.blk (List.mem_cons_self ..)).frozen 2
            dsimp only at y0 y1 y2 z0 z1 z2
            have hT := hSd.set3 (x0 := .slice bo mb.ts.length cb) (x1 := .int .i64 mb.nx) (x2 := .int .i64 mb.fr) (fun q hq => by rcases List.mem_cons.1 hq with rfl | hq; (show X8 ≠ X9; omega); exact (nb q hq).2)
            refine anyC_loud 7 (by kernel_rfl) ?_
            refine lou_of rfl (fun K hK => ?_)
            go_simp
            refine hK _ _ ⟨fun h => absurd rfl h, ?_⟩
            clear hK K y0 y1 y2 z0 z1 z2 hSd
            refine anyC_done (by kernel_rfl) ?_
            go_wp2_with fail
            go_meet
            case rel => exact ⟨X8, X9, rfl, rfl, by omega, nb, hT⟩
          · refine lou_of rfl (fun K hK => ?_)
            go_simp
            have hS55 := hS52.push [.slice none 0 0, .int .i64 0, .int .i64 0] 39
            have lt55 : ∀ q ∈ ((X9, [.slice none 0 0, .int .i64 0, .int .i64 0], 39) :: bx0), q.1 < u52.heap.size := fun q hq => (hS52.blk hq).lt
            refine hK _ _ ⟨fun _ => HP.out _ [(u52.heap.size, [.slice none 0 0, .int .i64 0, .int .i64 0], 39), (X9, [.slice none 0 0, .int .i64 0, .int .i64 0], 39)] hS55, ?_⟩
            clear hK K hS52
            generalize u52.alloc (.cells ([.slice none 0 0, .int .i64 0, .int .i64 0] : List Value).toArray 39) = u55 at *
            generalize u52.heap.size = X8 at *
            refine anyC_loud 3 (by kernel_rfl) ?_
            refine lou_of rfl (fun K hK => ?_)
            go_simp
            refine (CPl2.out u55).mono ?_
            rintro e u56 ⟨rfl, hb56⟩
            have hS56 := hS55.more hb56
            refine hK _ _ ⟨fun _ => HP.out _ [(X8, [.slice none 0 0, .int .i64 0, .int .i64 0], 39), (X9, [.slice none 0 0, .int .i64 0, .int .i64 0], 39)] hS56, ?_⟩
            clear hK K hb56 hS55
            have hne : X9 < X8 := lt55 (X9, [.slice none 0 0, .int .i64 0, .int .i64 0], 39) (List.mem_cons_self ..)
            have hSc : LW w d (newA 100000) ((X8, [.slice none 0 0, .int .i64 0, .int .i64 0], 39) :: (X9, [.slice none 0 0, .int .i64 0, .int .i64 0], 39) :: bx0) u56 := hS56.sub (fun q hq => by simp only [List.mem_cons] at hq ⊢; rcases hq with h | h | h <;> simp [h])
            have nb : ∀ q ∈ bx0, q.1 ≠ X8 ∧ q.1 ≠ X9 := fun q hq => by have h1 := lt50 q hq; have h2 := lt55 q (List.mem_cons_of_mem _ hq); omega
            clear hS56 lt50 lt55
            have y0 := (hSc.blk (List.mem_cons_self ..)).cell 0 rfl
            have y1 := (hSc.blk (List.mem_cons_self ..)).cell 1 rfl
            have y2 := (hSc.blk (List.mem_cons_self ..)).cell 2 rfl
            have z0 := (hSc.blk (List.mem_cons_self ..)).frozen 0
            have z1 := (hSc.blk (List.mem_cons_self ..)).frozen 1
            have z2 := (hSc.blk (List.mem_cons_self ..)).frozen 2
            dsimp only at y0 y1 y2 z0 z1 z2
            have hT := hSc.set3 (x0 := .slice none 0 0) (x1 := .int .i64 1) (x2 := .int .i64 1) (fun q hq => by rcases List.mem_cons.1 hq with rfl | hq; (show X9 ≠ X8; omega); exact (nb q hq).1)
            refine anyC_loud 6 (by kernel_rfl) ?_
            refine lou_of rfl (fun K hK => ?_)
            go_simp
            refine hK _ _ ⟨fun _ => HP.out _ [(X8, [.slice none 0 0, .int .i64 1, .int .i64 1], 39), (X9, [.slice none 0 0, .int .i64 0, .int .i64 0], 39)] hT, ?_⟩
            clear hK K y0 y1 y2 z0 z1 z2 hSc
            generalize ((u56.setCell ⟨X8, 0, none⟩ (.slice none 0 0)).setCell ⟨X8, 1, none⟩ (.int .i64 1)).setCell ⟨X8, 2, none⟩ (.int .i64 1) = v6 at *
            have hSd : LW w d (newA 100000) ((X9, [.slice none 0 0, .int .i64 0, .int .i64 0], 39) :: (X8, [.slice none 0 0, .int .i64 1, .int .i64 1], 39) :: bx0) v6 := hT.sub (fun q hq => by simp only [List.mem_cons] at hq ⊢; rcases hq with h | h | h <;> simp [h])
            clear hT
            have y0 := (hSd.blk (List.mem_cons_self ..)).cell 0 rfl
            have y1 := (hSd.blk (List.mem_cons_self ..)).cell 1 rfl
            have y2 := (hSd.blk (List.mem_cons_self ..)).cell 2 rfl
            have z0 := (hSd.blk (List.mem_cons_self ..)).frozen 0
            have z1 := (hSd.blk (List.mem_cons_self ..)).frozen 1
            have z2 := (hSd.blk (List.mem_cons_self ..)).frozen 2
            dsimp only at y0 y1 y2 z0 z1 z2
            have hT := hSd.set3 (x0 := .slice bo mb.ts.length cb) (x1 := .int .i64 mb.nx) (x2 := .int .i64 mb.fr) (fun q hq => by rcases List.mem_cons.1 hq with rfl | hq; (show X8 ≠ X9; omega); exact (nb q hq).2)
            refine anyC_loud 7 (by kernel_rfl) ?_
            refine lou_of rfl (fun K hK => ?_)
            go_simp
            refine hK _ _ ⟨fun h => absurd rfl h, ?_⟩
            clear hK K y0 y1 y2 z0 z1 z2 hSd
            refine anyC_done (by kernel_rfl) ?_
            go_wp2_with fail
            go_meet
            case rel => exact ⟨X8, X9, rfl, rfl, by omega, nb, hT⟩
        · refine lou_of rfl (fun K hK => ?_)
          go_simp
          have hS57 := hS51.push [.slice none 0 0, .int .i64 0, .int .i64 0] 39
          have lt57 : ∀ q ∈ ((X9, [.slice none 0 0, .int .i64 0, .int .i64 0], 39) :: bx0), q.1 < u51.heap.size := fun q hq => (hS51.blk hq).lt
          refine hK _ _ ⟨fun _ => HP.out _ [(u51.heap.size, [.slice none 0 0, .int .i64 0, .int .i64 0], 39), (X9, [.slice none 0 0, .int .i64 0, .int .i64 0], 39)] hS57, ?_⟩
          clear hK K hS51
          generalize u51.alloc (.cells ([.slice none 0 0, .int .i64 0, .int .i64 0] : List Value).toArray 39) = u57 at *
          generalize u51.heap.size = X8 at *
          refine anyC_loud 1 (by kernel_rfl) ?_
          refine lou_of rfl (fun K hK => ?_)
          go_simp
          refine (CPl1.out u57).mono ?_
          rintro e u58 ⟨rfl, hb58⟩
          have hS58 := hS57.more hb58
          refine hK _ _ ⟨fun _ => HP.out _ [(X8, [.slice none 0 0, .int .i64 0, .int .i64 0], 39), (X9, [.slice none 0 0, .int .i64 0, .int .i64 0], 39)] hS58, ?_⟩
          clear hK K hb58 hS57
          refine anyC_loud 3 (by kernel_rfl) ?_
          refine lou_of rfl (fun K hK => ?_)
          go_simp
          refine (CPl2.out u58).mono ?_
          rintro e u59 ⟨rfl, hb59⟩
          have hS59 := hS58.more hb59
          refine hK _ _ ⟨fun _ => HP.out _ [(X8, [.slice none 0 0, .int .i64 0, .int .i64 0], 39), (X9, [.slice none 0 0, .int .i64 0, .int .i64 0], 39)] hS59, ?_⟩
          clear hK K hb59 hS58
          have hne : X9 < X8 := lt57 (X9, [.slice none 0 0, .int .i64 0, .int .i64 0], 39) (List.mem_cons_self ..)
          have hSc : LW w d (newA 100000) ((X8, [.slice none 0 0, .int .i64 0, .int .i64 0], 39) :: (X9, [.slice none 0 0, .int .i64 0, .int .i64 0], 39) :: bx0) u59 := hS59.sub (fun q hq => by simp only [List.mem_cons] at hq ⊢; rcases hq with h | h | h <;> simp [h])
          have nb : ∀ q ∈ bx0, q.1 ≠ X8 ∧ q.1 ≠ X9 := fun q hq => by have h1 := lt50 q hq; have h2 := lt57 q (List.mem_cons_of_mem _ hq); omega
          clear hS59 lt50 lt57
          have y0 := (hSc.blk (List.mem_cons_self ..)).cell 0 rfl
          have y1 := (hSc.blk (List.mem_cons_self ..)).cell 1 rfl
          have y2 := (hSc.blk (List.mem_cons_self ..)).cell 2 rfl
          have z0 := (hSc.blk (List.mem_cons_self ..)).frozen 0
          have z1 := (hSc.blk (List.mem_cons_self ..)).frozen 1
          have z2 := (hSc.blk (List.mem_cons_self ..)).frozen 2
          dsimp only at y0 y1 y2 z0 z1 z2
          have hT := hSc.set3 (x0 := .slice none 0 0) (x1 := .int .i64 1) (x2 := .int .i64 1) (fun q hq => by rcases List.mem_cons.1 hq with rfl | hq; (show X9 ≠ X8; omega); exact (nb q hq).1)
          refine anyC_loud 6 (by kernel_rfl) ?_
          refine lou_of rfl (fun K hK => ?_)
          go_simp
          refine hK _ _ ⟨fun _ => HP.out _ [(X8, [.slice none 0 0, .int .i64 1, .int .i64 1], 39), (X9, [.slice none 0 0, .int .i64 0, .int .i64 0], 39)] hT, ?_⟩
          clear hK K y0 y1 y2 z0 z1 z2 hSc
          generalize ((u59.setCell ⟨X8, 0, none⟩ (.slice none 0 0)).setCell ⟨X8, 1, none⟩ (.int .i64 1)).setCell ⟨X8, 2, none⟩ (.int .i64 1) = v6 at *
          have hSd : LW w d (newA 100000) ((X9, [.slice none 0 0, .int .i64 0, .int .i64 0], 39) :: (X8, [.slice none 0 0, .int .i64 1, .int .i64 1], 39) :: bx0) v6 := hT.sub (fun q hq => by simp only [List.mem_cons] at hq ⊢; rcases hq with h | h | h <;> simp [h])
          clear hT
          have y0 := (hSd.blk (List.mem_cons_self ..)).cell 0 rfl
          have y1 := (hSd.blk (List.mem_cons_self ..)).cell 1 rfl
          have y2 := (hSd.blk (List.mem_cons_self ..)).cell 2 rfl
          have z0 := (hSd.blk (List.mem_cons_self ..)).frozen 0
          have z1 := (hSd.blk (List.mem_cons_self ..)).frozen 1
          have z2 := (hSd.blk (List.mem_cons_self ..)).frozen 2
          dsimp only at y0 y1 y2 z0 z1 z2
          have hT := hSd.set3 (x0 := .slice bo mb.ts.length cb) (x1 := .int .i64 mb.nx) (x2 := .int .i64 mb.fr) (fun q hq => by rcases List.mem_cons.1 hq with rfl | hq; (show X8 ≠ X9; omega); exact (nb q hq).2)
          refine anyC_loud 7 (by kernel_rfl) ?_
          refine lou_of rfl (fun K hK => ?_)
          go_simp
          refine hK _ _ ⟨fun h => absurd rfl h, ?_⟩
          clear hK K y0 y1 y2 z0 z1 z2 hSd
          refine anyC_done (by kernel_rfl) ?_
          go_wp2_with fail
          go_meet
          case rel => exact ⟨X8, X9, rfl, rfl, by omega, nb, hT⟩
      · refine lou_of rfl (fun K hK => ?_)
        go_simp
        have hS60 := hS50.push [.slice none 0 0, .int .i64 0, .int .i64 0] 39
        have lt60 : ∀ q ∈ ((X9, [.slice none 0 0, .int .i64 0, .int .i64 0], 39) :: bx0), q.1 < u50.heap.size := fun q hq => (hS50.blk hq).lt
        refine hK _ _ ⟨fun _ => HP.out _ [(u50.heap.size, [.slice none 0 0, .int .i64 0, .int .i64 0], 39), (X9, [.slice none 0 0, .int .i64 0, .int .i64 0], 39)] hS60, ?_⟩
        clear hK K hS50
        generalize u50.alloc (.cells ([.slice none 0 0, .int .i64 0, .int .i64 0] : List Value).toArray 39) = u60 at *
        generalize u50.heap.size = X8 at *
        refine anyC_loud 0 (by kernel_rfl) ?_
        refine lou_of rfl (fun K hK => ?_)
        go_simp
        refine (CBeg.out u60).mono ?_
        rintro e u61 ⟨rfl, hb61⟩
        have hS61 := hS60.more hb61
        refine hK _ _ ⟨fun _ => HP.out _ [(X8, [.slice none 0 0, .int .i64 0, .int .i64 0], 39), (X9, [.slice none 0 0, .int .i64 0, .int .i64 0], 39)] hS61, ?_⟩
        clear hK K hb61 hS60
        refine anyC_loud 1 (by kernel_rfl) ?_
        refine lou_of rfl (fun K hK => ?_)
        go_simp
        refine (CPl1.out u61).mono ?_
        rintro e u62 ⟨rfl, hb62⟩
        have hS62 := hS61.more hb62
        refine hK _ _ ⟨fun _ => HP.out _ [(X8, [.slice none 0 0, .int .i64 0, .int .i64 0], 39), (X9, [.slice none 0 0, .int .i64 0, .int .i64 0], 39)] hS62, ?_⟩
        clear hK K hb62 hS61
        refine anyC_loud 3 (by kernel_rfl) ?_
        refine lou_of rfl (fun K hK => ?_)
        go_simp
        refine (CPl2.out u62).mono ?_
        rintro e u63 ⟨rfl, hb63⟩
        have hS63 := hS62.more hb63
        refine hK _ _ ⟨fun _ => HP.out _ [(X8, [.slice none 0 0, .int .i64 0, .int .i64 0], 39), (X9, [.slice none 0 0, .int .i64 0, .int .i64 0], 39)] hS63, ?_⟩
        clear hK K hb63 hS62
        have hne : X9 < X8 := lt60 (X9, [.slice none 0 0, .int .i64 0, .int .i64 0], 39) (List.mem_cons_self ..)
        have hSc : LW w d (newA 100000) ((X8, [.slice none 0 0, .int .i64 0, .int .i64 0], 39) :: (X9, [.slice none 0 0, .int .i64 0, .int .i64 0], 39) :: bx0) u63 := hS63.sub (fun q hq => by simp only [List.mem_cons] at hq ⊢; rcases hq with h | h | h <;> simp [h])
        have nb : ∀ q ∈ bx0, q.1 ≠ X8 ∧ q.1 ≠ X9 := fun q hq => by have h1 := lt50 q hq; have h2 := lt60 q (List.mem_cons_of_mem _ hq); omega
        clear hS63 lt50 lt60
        have y0 := (hSc.blk (List.mem_cons_self ..)).cell 0 rfl
        have y1 := (hSc.blk (List.mem_cons_self ..)).cell 1 rfl
        have y2 := (hSc.blk (List.mem_cons_self ..)).cell 2 rfl
        have z0 := (hSc.blk (List.mem_cons_self ..)).frozen 0
        have z1 := (hSc.blk (List.mem_cons_self ..)).frozen 1
        have z2 := (hSc.blk (List.mem_cons_self ..)).frozen 2
        dsimp only at y0 y1 y2 z0 z1 z2
        have hT := hSc.set3 (x0 := .slice none 0 0) (x1 := .int .i64 1) (x2 := .int .i64 1) (fun q hq => by rcases List.mem_cons.1 hq with rfl | hq; (show X9 ≠ X8; omega); exact (nb q hq).1)
        refine anyC_loud 6 (by kernel_rfl) ?_
        refine lou_of rfl (fun K hK => ?_)
        go_simp
        refine hK _ _ ⟨fun _ => HP.out _ [(X8, [.slice none 0 0, .int .i64 1, .int .i64 1], 39), (X9, [.slice none 0 0, .int .i64 0, .int .i64 0], 39)] hT, ?_⟩
        clear hK K y0 y1 y2 z0 z1 z2 hSc
        generalize ((u63.setCell ⟨X8, 0, none⟩ (.slice none 0 0)).setCell ⟨X8, 1, none⟩ (.int .i64 1)).setCell ⟨X8, 2, none⟩ (.int .i64 1) = v6 at *
        have hSd : LW w d (newA 100000) ((X9, [.slice none 0 0, .int .i64 0, .int .i64 0], 39) :: (X8, [.slice none 0 0, .int .i64 1, .int .i64 1], 39) :: bx0) v6 := hT.sub (fun q hq => by simp only [List.mem_cons] at hq ⊢; rcases hq with h | h | h <;> simp [h])
        clear hT
        have y0 := (hSd.blk (List.mem_cons_self ..)).cell 0 rfl
        have y1 := (hSd.blk (List.mem_cons_self ..)).cell 1 rfl
        have y2 := (hSd.blk (List.mem_cons_self ..)).cell 2 rfl
        have z0 := (hSd.blk (List.mem_cons_self ..)).frozen 0
        have z1 := (hSd.blk (List.mem_cons_self ..)).frozen 1
        have z2 := (hSd.blk (List.mem_cons_self ..)).frozen 2
        dsimp only at y0 y1 y2 z0 z1 z2
        have hT := hSd.set3 (x0 := .slice bo mb.ts.length cb) (x1 := .int .i64 mb.nx) (x2 := .int .i64 mb.fr) (fun q hq => by rcases List.mem_cons.1 hq with rfl | hq; (show X8 ≠ X9; omega); exact (nb q hq).2)
        refine anyC_loud 7 (by kernel_rfl) ?_
        refine lou_of rfl (fun K hK => ?_)
        go_simp
        refine hK _ _ ⟨fun h => absurd rfl h, ?_⟩
        clear hK K y0 y1 y2 z0 z1 z2 hSd
        refine anyC_done (by kernel_rfl) ?_
        go_wp2_with fail
        go_meet
        case rel => exact ⟨X8, X9, rfl, rfl, by omega, nb, hT⟩
  case rest =>
    obtain ⟨X8, X9, rfl, rfl, hX, nb, hS⟩ := hcut
    clear CBeg CPl1 CPl2
    obtain ⟨kk, hkk, hbits⟩ := and7 N
    have HS : Hid (LW w d (newA 100000) ((X9, [.slice bo mb.ts.length cb, .int .i64 mb.nx, .int .i64 mb.fr], 39) :: (X8, [.slice none 0 0, .int .i64 1, .int .i64 1], 39) :: bx0) _) := hS
    have c0 := (hS.blk (List.mem_cons_of_mem _ (List.mem_cons_of_mem _ ia))).cell 0 rfl
    have c1 := (hS.blk (List.mem_cons_of_mem _ (List.mem_cons_of_mem _ ia))).cell 1 rfl
    have c2 := (hS.blk (List.mem_cons_of_mem _ (List.mem_cons_of_mem _ ia))).cell 2 rfl
    dsimp only at c0 c1 c2
    have hla2 : ma.ts.length ≤ 1000000 := by omega
    have hlb2 : mb.ts.length ≤ 1000000 := by omega
    cases hga : goodM ma with
    | true =>
      have C1 := lw_store HS.out newPl ao ca ma hma hca ht hga
      have hEl : (encM ma).length ≤ 400 := by have := good_len hga; rw [encM_len]; omega
      have HPA := pl_after newPl (encM ma) hEl (Nat.zero_le _) (Nat.zero_le _)
      unfold mval at C1
      go_wp2_with fail
      go_fit C1
      rintro e w2 ⟨x, rfl, hx⟩
      have hx0 : x = 0 ∧ LW w d (A4M (newA 100000) (encM ma)) ((X9, [.slice bo mb.ts.length cb, .int .i64 mb.nx, .int .i64 mb.fr], 39) :: (X8, [.slice none 0 0, .int .i64 1, .int .i64 1], 39) :: bx0) w2 := by
        rcases hx with h | ⟨_, h, _⟩
        · exact h
        · exact absurd rfl h
      obtain ⟨rfl, hS2⟩ := hx0
      have d0 := (hS2.blk (List.mem_cons_of_mem _ (List.mem_cons_of_mem _ ia))).cell 0 rfl
      have d1 := (hS2.blk (List.mem_cons_of_mem _ (List.mem_cons_of_mem _ ia))).cell 1 rfl
      have d2 := (hS2.blk (List.mem_cons_of_mem _ (List.mem_cons_of_mem _ ia))).cell 2 rfl
      dsimp only at d0 d1 d2
      have C2 : Calls Tryz.prog 12 #[.agg #[.slice ao ma.ts.length ca, .int .i64 ma.nx, .int .i64 ma.fr]] w2 fun e w' => e = .returned (.agg #[.slice ao ma.ts.length ca, .int .i64 ma.nx, .int .i64 ma.fr]) ∧ Below w2.heap.size w2 w' := plainM_any ao ca ma w2
      clear C1 hx c0 c1 c2
      go_wp2_with fail
      go_fit C2
      rintro e w3 ⟨rfl, hB3⟩
      have hS3 := (hS2.more hB3).sub (bx' := (X8, [.slice none 0 0, .int .i64 1, .int .i64 1], 39) :: (X9, [.slice bo mb.ts.length cb, .int .i64 mb.nx, .int .i64 mb.fr], 39) :: bx0) (fun q hq => by simp only [List.mem_cons] at hq ⊢; rcases hq with h | h | h <;> simp [h])
      have y0 := (hS3.blk (List.mem_cons_self ..)).cell 0 rfl
      have y1 := (hS3.blk (List.mem_cons_self ..)).cell 1 rfl
      have y2 := (hS3.blk (List.mem_cons_self ..)).cell 2 rfl
      have z0 := (hS3.blk (List.mem_cons_self ..)).frozen 0
      have z1 := (hS3.blk (List.mem_cons_self ..)).frozen 1
      have z2 := (hS3.blk (List.mem_cons_self ..)).frozen 2
      dsimp only at y0 y1 y2 z0 z1 z2
      have hT := (hS3.set3 (x0 := .slice ao ma.ts.length ca) (x1 := .int .i64 ma.nx) (x2 := .int .i64 ma.fr) (fun q hq => by
        rcases List.mem_cons.1 hq with rfl | hq
        · show X9 ≠ X8; exact fun e => hX e.symm
        · exact (nb q hq).1)).sub (bx' := (X9, [.slice bo mb.ts.length cb, .int .i64 mb.nx, .int .i64 mb.fr], 39) :: (X8, [.slice ao ma.ts.length ca, .int .i64 ma.nx, .int .i64 ma.fr], 39) :: bx0) (fun q hq => by simp only [List.mem_cons] at hq ⊢; rcases hq with h | h | h <;> simp [h])
      have HT : Hid (∃ (om : Option Mf) (aw : Option Addr) (cw : Nat) (A : Ab), (∀ m, om = some m → goodM m = true) ∧ Pl A (om.map encM) ∧ A.ops ≤ 50 ∧ A.next ≤ 500 ∧ MSees w aw cw (om.getD begM) ∧ (om.getD begM).ts.length ≤ 1000000 ∧ LW w d A ((X9, [.slice bo mb.ts.length cb, .int .i64 mb.nx, .int .i64 mb.fr], 39) :: (X8, [.slice aw (om.getD begM).ts.length cw, .int .i64 (om.getD begM).nx, .int .i64 (om.getD begM).fr], 39) :: bx0) (((w3.setCell ⟨X8, 0, none⟩ (.slice ao ma.ts.length ca)).setCell ⟨X8, 1, none⟩ (.int .i64 ma.nx)).setCell ⟨X8, 2, none⟩ (.int .i64 ma.fr))) := ⟨some ma, ao, ca, _, (fun m e => by cases e; exact hga), HPA.1, by rw [HPA.2.2.1]; show 0 + 4 ≤ 50; omega, by have := HPA.2.2.2; have h0 : (newA 100000).next = 0 := rfl; omega, hma, hla2, hT⟩
      clear hS2 hS3 hT C2 hB3 HPA
      obtain ⟨om, aw, cw, A, hgo, hP, hA1, hA2, hmw, hlw, hS5⟩ := HT.out
      obtain ⟨mo, hmo⟩ : ∃ mo, om.getD begM = mo := ⟨_, rfl⟩
      have HMO : Hid (om.getD begM = mo) := hmo
      rw [hmo] at hmw hlw hS5
      clear hmo HT
      go_upto_region 9 with fail
      generalize (((w3.setCell ⟨X8, 0, none⟩ (.slice ao ma.ts.length ca)).setCell ⟨X8, 1, none⟩ (.int .i64 ma.nx)).setCell ⟨X8, 2, none⟩ (.int .i64 ma.fr)) = w5 at *
      have HS5 : Hid (LW w d A ((X9, [.slice bo mb.ts.length cb, .int .i64 mb.nx, .int .i64 mb.fr], 39) :: (X8, [.slice aw mo.ts.length cw, .int .i64 mo.nx, .int .i64 mo.fr], 39) :: bx0) w5) := hS5
      have n0 : w5.cell? ⟨w.heap.size + 1 + 1, 0, none⟩ = some (.int .i64 N) := (hS5.blk (List.mem_cons_of_mem _ (List.mem_cons_of_mem _ ix))).cell 0 rfl
      have n1 : w5.cell? ⟨w.heap.size + 1 + 1, 1, none⟩ = some (.int .i64 keep) := (hS5.blk (List.mem_cons_of_mem _ (List.mem_cons_of_mem _ ix))).cell 1 rfl
      have hP6 : Pl { A with left := 1 + kk, keep := keep } (om.map encM) := pl_armed hP (1 + kk) keep (by omega) hk
      have C3 : Calls Tryz.prog 8 #[.pointer (some ⟨d, 0, none⟩), .int .i64 (1 + (kk : Int)), .int .i64 keep] w5 fun e u' => e = .returned (.int .i64 0) ∧ LW w d { A with left := 1 + kk, keep := keep } ((X9, [.slice bo mb.ts.length cb, .int .i64 mb.nx, .int .i64 mb.fr], 39) :: (X8, [.slice aw mo.ts.length cw, .int .i64 mo.nx, .int .i64 mo.fr], 39) :: bx0) u' := by
        have := lw_arm hS5 hP.on (1 + kk) keep
        rw [show ((1 + kk : Nat) : Int) = 1 + (kk : Int) by omega] at this
        exact this
      have hkki : (kk : Int) ≤ 7 := by omega
      clear hS5 HS5
      go_wp2_with fail
      go_fit C3
      rintro e w6 ⟨rfl, hS6⟩
      clear C3 n0 n1
      have hA6 : (({ A with left := 1 + kk, keep := keep } : Ab)).ops ≤ 50 := hA1
      have hA6' : (({ A with left := 1 + kk, keep := keep } : Ab)).next ≤ 500 := hA2
      generalize ({ A with left := 1 + kk, keep := keep } : Ab) = A6 at *
      clear hP hA1 hA2
      have e0 := (hS6.blk (List.mem_cons_of_mem _ (List.mem_cons_of_mem _ ib))).cell 0 rfl
      have e1 := (hS6.blk (List.mem_cons_of_mem _ (List.mem_cons_of_mem _ ib))).cell 1 rfl
      have e2 := (hS6.blk (List.mem_cons_of_mem _ (List.mem_cons_of_mem _ ib))).cell 2 rfl
      dsimp only at e0 e1 e2
      cases hgb : goodM mb with
      | true =>
        have hEb : (encM mb).length ≤ 400 := by have := good_len hgb; rw [encM_len]; omega
        have HPB := (pl_after hP6 (encM mb) hEb hA6 hA6').1
        have C4 := lw_store hS6 hP6 bo cb mb hmb hcb ht hgb
        unfold mval at C4
        go_wp2_with fail
        go_fit C4
        rintro e w7 ⟨x, rfl, hx⟩
        clear C4 hS6 e0 e1 e2
        rcases hx with ⟨rfl, hS7⟩ | ⟨rfl, -, A7, hoff, hf7, hS7⟩
        · have C5 := lw_on hS7
          rw [HPB.on] at C5
          have i1 : w7.cell? ⟨w.heap.size + 1 + 1, 1, none⟩ = some (.int .i64 keep) := (hS7.blk (List.mem_cons_of_mem _ (List.mem_cons_of_mem _ ix))).cell 1 rfl
          have C6 := lw_crash hS7 HPB keep hk
          go_wp2_with fail
          go_fit C5
          rintro e w7 ⟨rfl, rfl⟩
          clear C5
          go_wp2_with fail
          go_fit C6
          rintro e w8 ⟨rfl, A8, hon8, hf8, hS8⟩
          clear C6 hS7 i1
          have C7 := lw_start hS8
          go_wp2_with fail
          go_fit C7
          rintro e w9 ⟨rfl, hS9⟩
          clear C7 hS8
          have C8 := lw_load hS9 rfl (some mb) (fun m e => by cases e; exact hgb) hf8 ht ue pv hue
          unfold mval at C8
          dsimp only [Option.getD] at C8
          go_wp2_with fail
          go_fit C8
          rintro e w10 ⟨a5, c5, rfl, hm5, hS10⟩
          clear C8 hS9
          have hS11 := hS10.push [.slice a5 mb.ts.length c5, .int .i64 mb.nx, .int .i64 mb.fr] 36
          have hb11 : Below w10.heap.size w10 (w10.alloc (.cells #[.slice a5 mb.ts.length c5, .int .i64 mb.nx, .int .i64 mb.fr] 36)) := (Below.refl _ _).alloc (Nat.le_refl _) _
          have r0 := (hS11.blk (List.mem_cons_self ..)).cell 0 rfl
          have r1 := (hS11.blk (List.mem_cons_self ..)).cell 1 rfl
          have r2 := (hS11.blk (List.mem_cons_self ..)).cell 2 rfl
          have t0 := (hS11.blk (List.mem_cons_of_mem _ (List.mem_cons_self ..))).cell 0 rfl
          have t1 := (hS11.blk (List.mem_cons_of_mem _ (List.mem_cons_self ..))).cell 1 rfl
          have t2 := (hS11.blk (List.mem_cons_of_mem _ (List.mem_cons_self ..))).cell 2 rfl
          dsimp only at r0 r1 r2 t0 t1 t2
          have C9 : Calls Tryz.prog 15 #[.agg #[.slice a5 mb.ts.length c5, .int .i64 mb.nx, .int .i64 mb.fr], .agg #[.slice bo mb.ts.length cb, .int .i64 mb.nx, .int .i64 mb.fr]] (w10.alloc (.cells #[.slice a5 mb.ts.length c5, .int .i64 mb.nx, .int .i64 mb.fr] 36)) fun e w' => e = .returned (.bool true) ∧ Below w.heap.size w w' := by
            have := sameM_any a5 bo c5 cb mb mb _ (hm5.see.below hb11 (Nat.le_refl _)) (hmb.see.below hS11.bel (Nat.le_refl _)) hlb2 hlb2
            rw [sameB_self] at this
            exact this.mono fun e w' hh => ⟨hh.1, hS11.bel.trans (hh.2.mono hS11.bel.size)⟩
          clear hS10 hS11 hb11 hm5
          go_wp2_with fail
          go_fit C9
          rintro e w12 ⟨rfl, hB12⟩
          have C10 := CL.out w12 hB12
          have HB12 : Hid (Below w.heap.size w w12) := hB12
          clear C9 hB12
          go_wp2_with fail
          go_fit C10
          rintro e w13 ⟨rfl, hB13⟩
          have HF : Hid (Below w.heap.size w w13) := HB12.out.trans (hB13.mono HB12.out.size)
          clear C10 hB13
          go_wp2_with fail
          go_ret
          exact ⟨rfl, HF.out⟩
        · have C5 := lw_on hS7
          rw [hoff] at C5
          go_wp2_with fail
          go_fit C5
          rintro e w7 ⟨rfl, rfl⟩
          clear C5
          have C7 := lw_start hS7
          go_wp2_with fail
          go_fit C7
          rintro e w9 ⟨rfl, hS9⟩
          clear C7 hS7
          have C8 := lw_load hS9 rfl om hgo hf7 ht ue pv hue
          rw [HMO.out] at C8
          unfold mval at C8
          go_wp2_with fail
          go_fit C8
          rintro e w10 ⟨a5, c5, rfl, hm5, hS10⟩
          clear C8 hS9
          have hS11 := hS10.push [.slice a5 mo.ts.length c5, .int .i64 mo.nx, .int .i64 mo.fr] 36
          have hb11 : Below w10.heap.size w10 (w10.alloc (.cells #[.slice a5 mo.ts.length c5, .int .i64 mo.nx, .int .i64 mo.fr] 36)) := (Below.refl _ _).alloc (Nat.le_refl _) _
          have r0 := (hS11.blk (List.mem_cons_self ..)).cell 0 rfl
          have r1 := (hS11.blk (List.mem_cons_self ..)).cell 1 rfl
          have r2 := (hS11.blk (List.mem_cons_self ..)).cell 2 rfl
          have t0 := (hS11.blk (List.mem_cons_of_mem _ (List.mem_cons_of_mem _ (List.mem_cons_self ..)))).cell 0 rfl
          have t1 := (hS11.blk (List.mem_cons_of_mem _ (List.mem_cons_of_mem _ (List.mem_cons_self ..)))).cell 1 rfl
          have t2 := (hS11.blk (List.mem_cons_of_mem _ (List.mem_cons_of_mem _ (List.mem_cons_self ..)))).cell 2 rfl
          dsimp only at r0 r1 r2 t0 t1 t2
          have C9 : Calls Tryz.prog 15 #[.agg #[.slice a5 mo.ts.length c5, .int .i64 mo.nx, .int .i64 mo.fr], .agg #[.slice aw mo.ts.length cw, .int .i64 mo.nx, .int .i64 mo.fr]] (w10.alloc (.cells #[.slice a5 mo.ts.length c5, .int .i64 mo.nx, .int .i64 mo.fr] 36)) fun e w' => e = .returned (.bool true) ∧ Below w.heap.size w w' := by
            have := sameM_any a5 aw c5 cw mo mo _ (hm5.see.below hb11 (Nat.le_refl _)) (hmw.see.below hS11.bel (Nat.le_refl _)) hlw hlw
            rw [sameB_self] at this
            exact this.mono fun e w' hh => ⟨hh.1, hS11.bel.trans (hh.2.mono hS11.bel.size)⟩
          clear hS10 hS11 hb11 hm5
          go_wp2_with fail
          go_fit C9
          rintro e w12 ⟨rfl, hB12⟩
          have C10 := CL.out w12 hB12
          have HB12 : Hid (Below w.heap.size w w12) := hB12
          clear C9 hB12
          go_wp2_with fail
          go_fit C10
          rintro e w13 ⟨rfl, hB13⟩
          have HF : Hid (Below w.heap.size w w13) := HB12.out.trans (hB13.mono HB12.out.size)
          clear C10 hB13
          go_wp2_with fail
          go_ret
          exact ⟨rfl, HF.out⟩
      | false =>
        have C4 := lw_store_bad hS6 hP6.on bo cb mb hmb hlb2 hcb hgb
        unfold mval at C4
        go_wp2_with fail
        go_fit C4
        rintro e w7 ⟨rfl, hS7⟩
        clear C4 hS6 e0 e1 e2
        have C5 := lw_on hS7
        rw [hP6.on] at C5
        have i1 : w7.cell? ⟨w.heap.size + 1 + 1, 1, none⟩ = some (.int .i64 keep) := (hS7.blk (List.mem_cons_of_mem _ (List.mem_cons_of_mem _ ix))).cell 1 rfl
        have C6 := lw_crash hS7 hP6 keep hk
        go_wp2_with fail
        go_fit C5
        rintro e w7 ⟨rfl, rfl⟩
        clear C5
        go_wp2_with fail
        go_fit C6
        rintro e w8 ⟨rfl, A8, hon8, hf8, hS8⟩
        clear C6 hS7 i1
        have C7 := lw_start hS8
        go_wp2_with fail
        go_fit C7
        rintro e w9 ⟨rfl, hS9⟩
        clear C7 hS8
        have C8 := lw_load hS9 rfl om hgo hf8 ht ue pv hue
        rw [HMO.out] at C8
        unfold mval at C8
        go_wp2_with fail
        go_fit C8
        rintro e w10 ⟨a5, c5, rfl, hm5, hS10⟩
        clear C8 hS9
        have hS11 := hS10.push [.slice a5 mo.ts.length c5, .int .i64 mo.nx, .int .i64 mo.fr] 36
        have hb11 : Below w10.heap.size w10 (w10.alloc (.cells #[.slice a5 mo.ts.length c5, .int .i64 mo.nx, .int .i64 mo.fr] 36)) := (Below.refl _ _).alloc (Nat.le_refl _) _
        have r0 := (hS11.blk (List.mem_cons_self ..)).cell 0 rfl
        have r1 := (hS11.blk (List.mem_cons_self ..)).cell 1 rfl
        have r2 := (hS11.blk (List.mem_cons_self ..)).cell 2 rfl
        have t0 := (hS11.blk (List.mem_cons_of_mem _ (List.mem_cons_of_mem _ (List.mem_cons_self ..)))).cell 0 rfl
        have t1 := (hS11.blk (List.mem_cons_of_mem _ (List.mem_cons_of_mem _ (List.mem_cons_self ..)))).cell 1 rfl
        have t2 := (hS11.blk (List.mem_cons_of_mem _ (List.mem_cons_of_mem _ (List.mem_cons_self ..)))).cell 2 rfl
        dsimp only at r0 r1 r2 t0 t1 t2
        have C9 : Calls Tryz.prog 15 #[.agg #[.slice a5 mo.ts.length c5, .int .i64 mo.nx, .int .i64 mo.fr], .agg #[.slice aw mo.ts.length cw, .int .i64 mo.nx, .int .i64 mo.fr]] (w10.alloc (.cells #[.slice a5 mo.ts.length c5, .int .i64 mo.nx, .int .i64 mo.fr] 36)) fun e w' => e = .returned (.bool true) ∧ LW w d { A8 with on := true, left := 0 } ((w10.heap.size, [.slice a5 mo.ts.length c5, .int .i64 mo.nx, .int .i64 mo.fr], 36) :: (X9, [.slice bo mb.ts.length cb, .int .i64 mb.nx, .int .i64 mb.fr], 39) :: (X8, [.slice aw mo.ts.length cw, .int .i64 mo.nx, .int .i64 mo.fr], 39) :: bx0) w' := by
          have := sameM_any a5 aw c5 cw mo mo _ (hm5.see.below hb11 (Nat.le_refl _)) (hmw.see.below hS11.bel (Nat.le_refl _)) hlw hlw
          rw [sameB_self] at this
          exact this.mono fun e w' hh => ⟨hh.1, hS11.more hh.2⟩
        clear hS10 hS11 hb11 hm5
        go_wp2_with fail
        go_fit C9
        rintro e w12 ⟨rfl, hS12⟩
        have s0 := (hS12.blk (List.mem_cons_of_mem _ (List.mem_cons_of_mem _ (List.mem_cons_of_mem _ ib)))).cell 0 rfl
        have s1 := (hS12.blk (List.mem_cons_of_mem _ (List.mem_cons_of_mem _ (List.mem_cons_of_mem _ ib)))).cell 1 rfl
        have s2 := (hS12.blk (List.mem_cons_of_mem _ (List.mem_cons_of_mem _ (List.mem_cons_of_mem _ ib)))).cell 2 rfl
        dsimp only at s0 s1 s2
        have C11 : Calls Tryz.prog 21 #[.agg #[.slice bo mb.ts.length cb, .int .i64 mb.nx, .int .i64 mb.fr]] w12 fun e w' => e = .returned (.bool false) ∧ Below w.heap.size w w' := by
          have := good_any bo cb mb w12 (hmb.below hS12.bel (Nat.le_refl _)) hlb2 hcb
          rw [hgb] at this
          exact this.mono fun e w' hh => ⟨hh.1, hS12.bel.trans (hh.2.mono hS12.bel.size)⟩
        clear C9 hS12
        go_wp2_with fail
        go_fit C11
        rintro e w14 ⟨rfl, hB14⟩
        have C10 := CL.out w14 hB14
        have HB12 : Hid (Below w.heap.size w w14) := hB14
        clear C11 hB14
        go_wp2_with fail
        go_fit C10
        rintro e w13 ⟨rfl, hB13⟩
        have HF : Hid (Below w.heap.size w w13) := HB12.out.trans (hB13.mono HB12.out.size)
        clear C10 hB13
        go_wp2_with fail
        go_ret
        exact ⟨rfl, HF.out⟩
    | false =>
      have C1 := lw_store_bad HS.out rfl ao ca ma hma hla2 hca hga
      unfold mval at C1
      go_wp2_with fail
      go_fit C1
      rintro e w2 ⟨rfl, hS2⟩
      have d0 := (hS2.blk (List.mem_cons_of_mem _ (List.mem_cons_of_mem _ ia))).cell 0 rfl
      have d1 := (hS2.blk (List.mem_cons_of_mem _ (List.mem_cons_of_mem _ ia))).cell 1 rfl
      have d2 := (hS2.blk (List.mem_cons_of_mem _ (List.mem_cons_of_mem _ ia))).cell 2 rfl
      dsimp only at d0 d1 d2
      have C2 : Calls Tryz.prog 21 #[.agg #[.slice ao ma.ts.length ca, .int .i64 ma.nx, .int .i64 ma.fr]] w2 fun e w' => e = .returned (.bool false) ∧ Below w2.heap.size w2 w' := by
        have := good_any ao ca ma w2 (hma.below hS2.bel (Nat.le_refl _)) hla2 hca
        rw [hga] at this; exact this
      clear C1 c0 c1 c2
      go_wp2_with fail
      go_fit C2
      rintro e w3 ⟨rfl, hB3⟩
      have HT : Hid (∃ (om : Option Mf) (aw : Option Addr) (cw : Nat) (A : Ab), (∀ m, om = some m → goodM m = true) ∧ Pl A (om.map encM) ∧ A.ops ≤ 50 ∧ A.next ≤ 500 ∧ MSees w aw cw (om.getD begM) ∧ (om.getD begM).ts.length ≤ 1000000 ∧ LW w d A ((X9, [.slice bo mb.ts.length cb, .int .i64 mb.nx, .int .i64 mb.fr], 39) :: (X8, [.slice aw (om.getD begM).ts.length cw, .int .i64 (om.getD begM).nx, .int .i64 (om.getD begM).fr], 39) :: bx0) w3) := ⟨none, none, 0, _, (fun m e => by cases e), newPl, Nat.zero_le _, Nat.zero_le _, ⟨fun i x hx => by simp [begM] at hx, fun _ => rfl, Nat.le_refl _⟩, by simp [begM], hS2.more hB3⟩
      clear hS2 C2 hB3
      obtain ⟨om, aw, cw, A, hgo, hP, hA1, hA2, hmw, hlw, hS5⟩ := HT.out
      obtain ⟨mo, hmo⟩ : ∃ mo, om.getD begM = mo := ⟨_, rfl⟩
      have HMO : Hid (om.getD begM = mo) := hmo
      rw [hmo] at hmw hlw hS5
      clear hmo HT
      go_upto_region 9 with fail
      generalize w3 = w5 at *
      have HS5 : Hid (LW w d A ((X9, [.slice bo mb.ts.length cb, .int .i64 mb.nx, .int .i64 mb.fr], 39) :: (X8, [.slice aw mo.ts.length cw, .int .i64 mo.nx, .int .i64 mo.fr], 39) :: bx0) w5) := hS5
      have n0 : w5.cell? ⟨w.heap.size + 1 + 1, 0, none⟩ = some (.int .i64 N) := (hS5.blk (List.mem_cons_of_mem _ (List.mem_cons_of_mem _ ix))).cell 0 rfl
      have n1 : w5.cell? ⟨w.heap.size + 1 + 1, 1, none⟩ = some (.int .i64 keep) := (hS5.blk (List.mem_cons_of_mem _ (List.mem_cons_of_mem _ ix))).cell 1 rfl
      have hP6 : Pl { A with left := 1 + kk, keep := keep } (om.map encM) := pl_armed hP (1 + kk) keep (by omega) hk
      have C3 : Calls Tryz.prog 8 #[.pointer (some ⟨d, 0, none⟩), .int .i64 (1 + (kk : Int)), .int .i64 keep] w5 fun e u' => e = .returned (.int .i64 0) ∧ LW w d { A with left := 1 + kk, keep := keep } ((X9, [.slice bo mb.ts.length cb, .int .i64 mb.nx, .int .i64 mb.fr], 39) :: (X8, [.slice aw mo.ts.length cw, .int .i64 mo.nx, .int .i64 mo.fr], 39) :: bx0) u' := by
        have := lw_arm hS5 hP.on (1 + kk) keep
        rw [show ((1 + kk : Nat) : Int) = 1 + (kk : Int) by omega] at this
        exact this
      have hkki : (kk : Int) ≤ 7 := by omega
      clear hS5 HS5
      go_wp2_with fail
      go_fit C3
      rintro e w6 ⟨rfl, hS6⟩
      clear C3 n0 n1
      have hA6 : (({ A with left := 1 + kk, keep := keep } : Ab)).ops ≤ 50 := hA1
      have hA6' : (({ A with left := 1 + kk, keep := keep } : Ab)).next ≤ 500 := hA2
      generalize ({ A with left := 1 + kk, keep := keep } : Ab) = A6 at *
      clear hP hA1 hA2
      have e0 := (hS6.blk (List.mem_cons_of_mem _ (List.mem_cons_of_mem _ ib))).cell 0 rfl
      have e1 := (hS6.blk (List.mem_cons_of_mem _ (List.mem_cons_of_mem _ ib))).cell 1 rfl
      have e2 := (hS6.blk (List.mem_cons_of_mem _ (List.mem_cons_of_mem _ ib))).cell 2 rfl
      dsimp only at e0 e1 e2
      cases hgb : goodM mb with
      | true =>
        have hEb : (encM mb).length ≤ 400 := by have := good_len hgb; rw [encM_len]; omega
        have HPB := (pl_after hP6 (encM mb) hEb hA6 hA6').1
        have C4 := lw_store hS6 hP6 bo cb mb hmb hcb ht hgb
        unfold mval at C4
        go_wp2_with fail
        go_fit C4
        rintro e w7 ⟨x, rfl, hx⟩
        clear C4 hS6 e0 e1 e2
        rcases hx with ⟨rfl, hS7⟩ | ⟨rfl, -, A7, hoff, hf7, hS7⟩
        · have C5 := lw_on hS7
          rw [HPB.on] at C5
          have i1 : w7.cell? ⟨w.heap.size + 1 + 1, 1, none⟩ = some (.int .i64 keep) := (hS7.blk (List.mem_cons_of_mem _ (List.mem_cons_of_mem _ ix))).cell 1 rfl
          have C6 := lw_crash hS7 HPB keep hk
          go_wp2_with fail
          go_fit C5
          rintro e w7 ⟨rfl, rfl⟩
          clear C5
          go_wp2_with fail
          go_fit C6
          rintro e w8 ⟨rfl, A8, hon8, hf8, hS8⟩
          clear C6 hS7 i1
          have C7 := lw_start hS8
          go_wp2_with fail
          go_fit C7
          rintro e w9 ⟨rfl, hS9⟩
          clear C7 hS8
          have C8 := lw_load hS9 rfl (some mb) (fun m e => by cases e; exact hgb) hf8 ht ue pv hue
          unfold mval at C8
          dsimp only [Option.getD] at C8
          go_wp2_with fail
          go_fit C8
          rintro e w10 ⟨a5, c5, rfl, hm5, hS10⟩
          clear C8 hS9
          have hS11 := hS10.push [.slice a5 mb.ts.length c5, .int .i64 mb.nx, .int .i64 mb.fr] 36
          have hb11 : Below w10.heap.size w10 (w10.alloc (.cells #[.slice a5 mb.ts.length c5, .int .i64 mb.nx, .int .i64 mb.fr] 36)) := (Below.refl _ _).alloc (Nat.le_refl _) _
          have r0 := (hS11.blk (List.mem_cons_self ..)).cell 0 rfl
          have r1 := (hS11.blk (List.mem_cons_self ..)).cell 1 rfl
          have r2 := (hS11.blk (List.mem_cons_self ..)).cell 2 rfl
          have t0 := (hS11.blk (List.mem_cons_of_mem _ (List.mem_cons_self ..))).cell 0 rfl
          have t1 := (hS11.blk (List.mem_cons_of_mem _ (List.mem_cons_self ..))).cell 1 rfl
          have t2 := (hS11.blk (List.mem_cons_of_mem _ (List.mem_cons_self ..))).cell 2 rfl
          dsimp only at r0 r1 r2 t0 t1 t2
          have C9 : Calls Tryz.prog 15 #[.agg #[.slice a5 mb.ts.length c5, .int .i64 mb.nx, .int .i64 mb.fr], .agg #[.slice bo mb.ts.length cb, .int .i64 mb.nx, .int .i64 mb.fr]] (w10.alloc (.cells #[.slice a5 mb.ts.length c5, .int .i64 mb.nx, .int .i64 mb.fr] 36)) fun e w' => e = .returned (.bool true) ∧ Below w.heap.size w w' := by
            have := sameM_any a5 bo c5 cb mb mb _ (hm5.see.below hb11 (Nat.le_refl _)) (hmb.see.below hS11.bel (Nat.le_refl _)) hlb2 hlb2
            rw [sameB_self] at this
            exact this.mono fun e w' hh => ⟨hh.1, hS11.bel.trans (hh.2.mono hS11.bel.size)⟩
          clear hS10 hS11 hb11 hm5
          go_wp2_with fail
          go_fit C9
          rintro e w12 ⟨rfl, hB12⟩
          have C10 := CL.out w12 hB12
          have HB12 : Hid (Below w.heap.size w w12) := hB12
          clear C9 hB12
          go_wp2_with fail
          go_fit C10
          rintro e w13 ⟨rfl, hB13⟩
          have HF : Hid (Below w.heap.size w w13) := HB12.out.trans (hB13.mono HB12.out.size)
          clear C10 hB13
          go_wp2_with fail
          go_ret
          exact ⟨rfl, HF.out⟩
        · have C5 := lw_on hS7
          rw [hoff] at C5
          go_wp2_with fail
          go_fit C5
          rintro e w7 ⟨rfl, rfl⟩
          clear C5
          have C7 := lw_start hS7
          go_wp2_with fail
          go_fit C7
          rintro e w9 ⟨rfl, hS9⟩
          clear C7 hS7
          have C8 := lw_load hS9 rfl om hgo hf7 ht ue pv hue
          rw [HMO.out] at C8
          unfold mval at C8
          go_wp2_with fail
          go_fit C8
          rintro e w10 ⟨a5, c5, rfl, hm5, hS10⟩
          clear C8 hS9
          have hS11 := hS10.push [.slice a5 mo.ts.length c5, .int .i64 mo.nx, .int .i64 mo.fr] 36
          have hb11 : Below w10.heap.size w10 (w10.alloc (.cells #[.slice a5 mo.ts.length c5, .int .i64 mo.nx, .int .i64 mo.fr] 36)) := (Below.refl _ _).alloc (Nat.le_refl _) _
          have r0 := (hS11.blk (List.mem_cons_self ..)).cell 0 rfl
          have r1 := (hS11.blk (List.mem_cons_self ..)).cell 1 rfl
          have r2 := (hS11.blk (List.mem_cons_self ..)).cell 2 rfl
          have t0 := (hS11.blk (List.mem_cons_of_mem _ (List.mem_cons_of_mem _ (List.mem_cons_self ..)))).cell 0 rfl
          have t1 := (hS11.blk (List.mem_cons_of_mem _ (List.mem_cons_of_mem _ (List.mem_cons_self ..)))).cell 1 rfl
          have t2 := (hS11.blk (List.mem_cons_of_mem _ (List.mem_cons_of_mem _ (List.mem_cons_self ..)))).cell 2 rfl
          dsimp only at r0 r1 r2 t0 t1 t2
          have C9 : Calls Tryz.prog 15 #[.agg #[.slice a5 mo.ts.length c5, .int .i64 mo.nx, .int .i64 mo.fr], .agg #[.slice aw mo.ts.length cw, .int .i64 mo.nx, .int .i64 mo.fr]] (w10.alloc (.cells #[.slice a5 mo.ts.length c5, .int .i64 mo.nx, .int .i64 mo.fr] 36)) fun e w' => e = .returned (.bool true) ∧ Below w.heap.size w w' := by
            have := sameM_any a5 aw c5 cw mo mo _ (hm5.see.below hb11 (Nat.le_refl _)) (hmw.see.below hS11.bel (Nat.le_refl _)) hlw hlw
            rw [sameB_self] at this
            exact this.mono fun e w' hh => ⟨hh.1, hS11.bel.trans (hh.2.mono hS11.bel.size)⟩
          clear hS10 hS11 hb11 hm5
          go_wp2_with fail
          go_fit C9
          rintro e w12 ⟨rfl, hB12⟩
          have C10 := CL.out w12 hB12
          have HB12 : Hid (Below w.heap.size w w12) := hB12
          clear C9 hB12
          go_wp2_with fail
          go_fit C10
          rintro e w13 ⟨rfl, hB13⟩
          have HF : Hid (Below w.heap.size w w13) := HB12.out.trans (hB13.mono HB12.out.size)
          clear C10 hB13
          go_wp2_with fail
          go_ret
          exact ⟨rfl, HF.out⟩
      | false =>
        have C4 := lw_store_bad hS6 hP6.on bo cb mb hmb hlb2 hcb hgb
        unfold mval at C4
        go_wp2_with fail
        go_fit C4
        rintro e w7 ⟨rfl, hS7⟩
        clear C4 hS6 e0 e1 e2
        have C5 := lw_on hS7
        rw [hP6.on] at C5
        have i1 : w7.cell? ⟨w.heap.size + 1 + 1, 1, none⟩ = some (.int .i64 keep) := (hS7.blk (List.mem_cons_of_mem _ (List.mem_cons_of_mem _ ix))).cell 1 rfl
        have C6 := lw_crash hS7 hP6 keep hk
        go_wp2_with fail
        go_fit C5
        rintro e w7 ⟨rfl, rfl⟩
        clear C5
        go_wp2_with fail
        go_fit C6
        rintro e w8 ⟨rfl, A8, hon8, hf8, hS8⟩
        clear C6 hS7 i1
        have C7 := lw_start hS8
        go_wp2_with fail
        go_fit C7
        rintro e w9 ⟨rfl, hS9⟩
        clear C7 hS8
        have C8 := lw_load hS9 rfl om hgo hf8 ht ue pv hue
        rw [HMO.out] at C8
        unfold mval at C8
        go_wp2_with fail
        go_fit C8
        rintro e w10 ⟨a5, c5, rfl, hm5, hS10⟩
        clear C8 hS9
        have hS11 := hS10.push [.slice a5 mo.ts.length c5, .int .i64 mo.nx, .int .i64 mo.fr] 36
        have hb11 : Below w10.heap.size w10 (w10.alloc (.cells #[.slice a5 mo.ts.length c5, .int .i64 mo.nx, .int .i64 mo.fr] 36)) := (Below.refl _ _).alloc (Nat.le_refl _) _
        have r0 := (hS11.blk (List.mem_cons_self ..)).cell 0 rfl
        have r1 := (hS11.blk (List.mem_cons_self ..)).cell 1 rfl
        have r2 := (hS11.blk (List.mem_cons_self ..)).cell 2 rfl
        have t0 := (hS11.blk (List.mem_cons_of_mem _ (List.mem_cons_of_mem _ (List.mem_cons_self ..)))).cell 0 rfl
        have t1 := (hS11.blk (List.mem_cons_of_mem _ (List.mem_cons_of_mem _ (List.mem_cons_self ..)))).cell 1 rfl
        have t2 := (hS11.blk (List.mem_cons_of_mem _ (List.mem_cons_of_mem _ (List.mem_cons_self ..)))).cell 2 rfl
        dsimp only at r0 r1 r2 t0 t1 t2
        have C9 : Calls Tryz.prog 15 #[.agg #[.slice a5 mo.ts.length c5, .int .i64 mo.nx, .int .i64 mo.fr], .agg #[.slice aw mo.ts.length cw, .int .i64 mo.nx, .int .i64 mo.fr]] (w10.alloc (.cells #[.slice a5 mo.ts.length c5, .int .i64 mo.nx, .int .i64 mo.fr] 36)) fun e w' => e = .returned (.bool true) ∧ LW w d { A8 with on := true, left := 0 } ((w10.heap.size, [.slice a5 mo.ts.length c5, .int .i64 mo.nx, .int .i64 mo.fr], 36) :: (X9, [.slice bo mb.ts.length cb, .int .i64 mb.nx, .int .i64 mb.fr], 39) :: (X8, [.slice aw mo.ts.length cw, .int .i64 mo.nx, .int .i64 mo.fr], 39) :: bx0) w' := by
          have := sameM_any a5 aw c5 cw mo mo _ (hm5.see.below hb11 (Nat.le_refl _)) (hmw.see.below hS11.bel (Nat.le_refl _)) hlw hlw
          rw [sameB_self] at this
          exact this.mono fun e w' hh => ⟨hh.1, hS11.more hh.2⟩
        clear hS10 hS11 hb11 hm5
        go_wp2_with fail
        go_fit C9
        rintro e w12 ⟨rfl, hS12⟩
        have s0 := (hS12.blk (List.mem_cons_of_mem _ (List.mem_cons_of_mem _ (List.mem_cons_of_mem _ ib)))).cell 0 rfl
        have s1 := (hS12.blk (List.mem_cons_of_mem _ (List.mem_cons_of_mem _ (List.mem_cons_of_mem _ ib)))).cell 1 rfl
        have s2 := (hS12.blk (List.mem_cons_of_mem _ (List.mem_cons_of_mem _ (List.mem_cons_of_mem _ ib)))).cell 2 rfl
        dsimp only at s0 s1 s2
        have C11 : Calls Tryz.prog 21 #[.agg #[.slice bo mb.ts.length cb, .int .i64 mb.nx, .int .i64 mb.fr]] w12 fun e w' => e = .returned (.bool false) ∧ Below w.heap.size w w' := by
          have := good_any bo cb mb w12 (hmb.below hS12.bel (Nat.le_refl _)) hlb2 hcb
          rw [hgb] at this
          exact this.mono fun e w' hh => ⟨hh.1, hS12.bel.trans (hh.2.mono hS12.bel.size)⟩
        clear C9 hS12
        go_wp2_with fail
        go_fit C11
        rintro e w14 ⟨rfl, hB14⟩
        have C10 := CL.out w14 hB14
        have HB12 : Hid (Below w.heap.size w w14) := hB14
        clear C11 hB14
        go_wp2_with fail
        go_fit C10
        rintro e w13 ⟨rfl, hB13⟩
        have HF : Hid (Below w.heap.size w w13) := HB12.out.trans (hB13.mono HB12.out.size)
        clear C10 hB13
        go_wp2_with fail
        go_ret
        exact ⟨rfl, HF.out⟩
end Go.Proofs.YthihljjefncfoaaGreatDoor.manifestWhole

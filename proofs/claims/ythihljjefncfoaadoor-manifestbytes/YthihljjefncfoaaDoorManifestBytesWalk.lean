/-
  THE LAW ManifestBytes, walked.
-/
import Derived.Test.YthihljjefncfoaaDoorManM7
import Derived.Test.YthihljjefncfoaaDoorManLaid
namespace Go.Proofs.YthihljjefncfoaaDoor.manifestBytes
open Go.RowKit Go.Proofs.YthihljjefncfoaaDoor

theorem rdF_len (b : List UInt8) : (rdF b).ts.length ≤ 30 := by
  cases h : rdM b with
  | none => rw [(rd_none h).1]; simp
  | some m => rw [(rd_some h).1]; exact (goodM_iff.1 (rdM_iff.1 h).1).2.2.1
set_option maxRecDepth 100000 in
set_option maxHeartbeats 40000000 in
theorem walk (ao : Option Addr) (cap : Nat) (m : Mf) (bo : Option Addr) (b : List UInt8) (cb : Nat) (n : Int) (w : World) (hev : EnvM w) (ht : Tab w) (ue : TypeId) (pv : Value) (hue : Err w ue pv) (hm : MCame w ao cap m) (hs : Sees w bo b) (hbn : bo = none → b.length = 0) (_hbl : b.length ≤ 140737488351232) (hbc : b.length ≤ cb) (hcm : cb ≤ 9223372036854775807) (hn : -9223372036854775808 ≤ n ∧ n ≤ 9223372036854775807) :
    Calls Tryd.prog 3 #[mval ao cap m, .slice bo b.length cb, .int .i64 n] w fun e w' => e = .returned (.bool true) ∧ Below w.heap.size w w' := by
  obtain ⟨hms, hcap, _, _⟩ := hm
  have hB0 : Below w.heap.size w (w.alloc (.cells #[.slice ao m.ts.length cap, .int .i64 m.nx, .int .i64 m.fr] 24)) := (Below.refl _ _).alloc (Nat.le_refl _) _
  have k0 := Blk.new w [.slice ao m.ts.length cap, .int .i64 m.nx, .int .i64 m.fr] 24
  have c0 := k0.cell 0 rfl
  have c1 := k0.cell 1 rfl
  have c2 := k0.cell 2 rfl
  have hms0 := hms.below hB0 (Nat.le_refl _)
  have CL : Hid (∀ u, Below w.heap.size w u → Calls Tryd.prog 6 #[] u fun e w' => e = .returned (.bool true) ∧ Below u.heap.size u w') := fun u hu => lives13_any u (hev.below hu (Nat.le_refl _))
  have hli : (m.ts.length : Int) ≤ 9223372036854775807 := by have := hms.cap; omega
  have hbi : (b.length : Int) ≤ 9223372036854775807 := by omega
  by_cases hbig : 1000 < m.ts.length ∨ 5000 < b.length
  · have C1 := CL.out _ hB0
    have HB : Hid (Below w.heap.size w (w.alloc (.cells #[.slice ao m.ts.length cap, .int .i64 m.nx, .int .i64 m.fr] 24))) := hB0
    clear CL hms hms0 hB0 k0 hev ht hue hs
    unfold mval
    by_cases h1 : (1000 : Int) < (m.ts.length : Int)
    · clear hbig
      go_enter Tryd.func3, Tryd.ntmps3
      go_wp2_with fail
      go_fit C1
      rintro e w3 ⟨rfl, hB3⟩
      have HF : Hid (Below w.heap.size w w3) := HB.out.trans (hB3.mono HB.out.size)
      clear C1 hB3
      go_wp2_with fail
      go_ret
      exact ⟨rfl, HF.out⟩
    · have h2 : (5000 : Int) < (b.length : Int) := by omega
      clear hbig
      go_enter Tryd.func3, Tryd.ntmps3
      go_wp2_with fail
      go_fit C1
      rintro e w3 ⟨rfl, hB3⟩
      have HF : Hid (Below w.heap.size w w3) := HB.out.trans (hB3.mono HB.out.size)
      clear C1 hB3
      go_wp2_with fail
      go_ret
      exact ⟨rfl, HF.out⟩
  have h1 : ¬ (1000 : Int) < (m.ts.length : Int) := by omega
  have h2 : ¬ (5000 : Int) < (b.length : Int) := by omega
  have HErr : ∀ u, Below w.heap.size w u → Err u ue pv := fun u hu => by unfold Err at hue ⊢; rw [hu.cell (World.block_lt_of_cell? _ _ hue)]; exact hue
  have HTab : ∀ u, Below w.heap.size w u → Tab u := fun u hu => ht.below hu (Nat.le_refl _)
  have hrl := rdF_len b
  /- what Bytes tells, both ways -/
  have CX : ∃ (e : Int) (l : List UInt8), (Calls Tryd.prog 7 #[.agg #[.slice ao m.ts.length cap, .int .i64 m.nx, .int .i64 m.fr]] (w.alloc (.cells #[.slice ao m.ts.length cap, .int .i64 m.nx, .int .i64 m.fr] 24)) fun x w' => ∃ a c, x = .returned (.tuple #[.slice a l.length c, .int .i64 e]) ∧ Sees w' a l ∧ (a = none → l.length = 0) ∧ Below w.heap.size w w' ∧ Blk w' w.heap.size [.slice ao m.ts.length cap, .int .i64 m.nx, .int .i64 m.fr] 24) ∧
      ∀ u, Below w.heap.size w u → Calls Tryd.prog 8 #[.agg #[.slice ao m.ts.length cap, .int .i64 m.nx, .int .i64 m.fr]] u fun x w' => ∃ a c, x = .returned (.tuple #[.slice a l.length c, .int .i64 e]) ∧ Sees w' a l ∧ (a = none → l.length = 0) ∧ Below u.heap.size u w' := by
    cases hg : goodM m with
    | true =>
      refine ⟨0, encM m, (bytesM_ok ao cap m _ hms0 hcap (HTab _ hB0) hg).mono ?_, fun u hu => (refBytesM_ok ao cap m u (hms.below hu (Nat.le_refl _)) hg).mono ?_⟩
      · rintro x w' ⟨g, rfl, hgg, hr, hb⟩
        exact ⟨some ⟨g, 0, none⟩, _, rfl, by have := hr.sees 0 (encM m).length (by omega); simpa using this, (fun e => by cases e), hB0.trans (hb.mono hB0.size), k0.carry (hb.block _ k0.lt)⟩
      · rintro x w' ⟨a5, c5, rfl, h3, h4, h5⟩
        exact ⟨a5, c5, rfl, h3, h4, h5⟩
    | false =>
      refine ⟨2, [], (bytesM_bad ao cap m _ hms0 (by omega) hcap hg).mono ?_, fun u hu => (refBytesM_bad ao cap m u (hms.below hu (Nat.le_refl _)) (by omega) hg).mono ?_⟩
      · rintro x w' ⟨rfl, hb⟩
        exact ⟨none, 0, rfl, Sees.nil _ _, fun _ => rfl, hB0.trans (hb.mono hB0.size), k0.carry (hb.block _ k0.lt)⟩
      · rintro x w' ⟨rfl, hb⟩
        exact ⟨none, 0, rfl, Sees.nil _ _, fun _ => rfl, hb⟩
  obtain ⟨ex, lx, CX1, CX2⟩ := CX
  have HX2 : Hid (∀ u, Below w.heap.size w u → Calls Tryd.prog 8 #[.agg #[.slice ao m.ts.length cap, .int .i64 m.nx, .int .i64 m.fr]] u fun x w' => ∃ a c, x = .returned (.tuple #[.slice a lx.length c, .int .i64 ex]) ∧ Sees w' a lx ∧ (a = none → lx.length = 0) ∧ Below u.heap.size u w') := CX2
  have CP : Hid (∀ u : World, Calls Tryd.prog 9 #[.agg #[.slice ao m.ts.length cap, .int .i64 m.nx, .int .i64 m.fr]] u fun e w' => e = .returned (.agg #[.slice ao m.ts.length cap, .int .i64 m.nx, .int .i64 m.fr]) ∧ Below u.heap.size u w') := fun u => plainM_any ao cap m u
  have CR : Hid (∀ u, Below w.heap.size w u → Calls Tryd.prog 10 #[.slice bo b.length cb] u fun e w' => ∃ a5 c5, e = .returned (.tuple #[.agg #[.slice a5 (rdF b).ts.length c5, .int .i64 (rdF b).nx, .int .i64 (rdF b).fr], .int .i64 (rdE b)]) ∧ MSees w' a5 c5 (rdF b) ∧ Below u.heap.size u w') := fun u hu => (readM_any bo b cb u (hs.below hu (Nat.le_refl _)) hbn hbc hcm (by omega) (HTab u hu) ue pv (HErr u hu)).mono fun e w' ⟨a5, c5, q1, q2, _, _, q5⟩ => ⟨a5, c5, q1, q2, q5⟩
  have CS : Hid (∀ u, Below w.heap.size w u → Calls Tryd.prog 11 #[.slice bo b.length cb] u fun e w' => ∃ a5 c5, e = .returned (.tuple #[.agg #[.slice a5 (rdF b).ts.length c5, .int .i64 (rdF b).nx, .int .i64 (rdF b).fr], .int .i64 (rdE b)]) ∧ MSees w' a5 c5 (rdF b) ∧ Below u.heap.size u w') := fun u hu => refReadM_any bo b cb u (hs.below hu (Nat.le_refl _)) hbc (by omega)
  have CG1 : Hid (∀ u, Below w.heap.size w u → Calls Tryd.prog 12 #[.agg #[.slice ao m.ts.length cap, .int .i64 m.nx, .int .i64 m.fr]] u fun e w' => e = .returned (.bool (goodM m)) ∧ Below u.heap.size u w') := fun u hu => good_any ao cap m u (hms.below hu (Nat.le_refl _)) (by omega) hcap
  have CG2 : Hid (∀ u, Below w.heap.size w u → Calls Tryd.prog 13 #[.agg #[.slice ao m.ts.length cap, .int .i64 m.nx, .int .i64 m.fr]] u fun e w' => e = .returned (.bool (goodM m)) ∧ Below u.heap.size u w') := fun u hu => refGoodM_any ao cap m u (hms.below hu (Nat.le_refl _)) (by omega)
  have CF1 : Hid (∀ u, Below w.heap.size w u → Calls Tryd.prog 16 #[.int .i64 n] u fun e w' => e = .returned (.string (tB (flM n))) ∧ Below u.heap.size u w') := fun u hu => fileM_any n hn.1 hn.2 u (hev.below hu (Nat.le_refl _))
  have CF2 : Hid (∀ u : World, Calls Tryd.prog 17 #[.int .i64 n] u fun e w' => e = .returned (.string (tB (flM n))) ∧ Below u.heap.size u w') := fun u => refFileM_any n hn u
  have CB1 : Hid (∀ u : World, Calls Tryd.prog 18 #[] u fun e w' => e = .returned (.agg #[.slice none 0 0, .int .i64 1, .int .i64 1]) ∧ Below u.heap.size u w') := fun u => (beginM_any u).mono fun e w' hh => ⟨hh.1, (Below.refl _ _).grown hh.2 (Nat.le_refl _) (fun k hk => by cases hk)⟩
  have CB2 : Hid (∀ u : World, Calls Tryd.prog 19 #[] u fun e w' => e = .returned (.agg #[.slice none 0 0, .int .i64 1, .int .i64 1]) ∧ Below u.heap.size u w') := refBeginM_any
  have CQ2 : Hid (∀ u : World, Calls Tryd.prog 15 #[.agg #[.slice none 0 0, .int .i64 1, .int .i64 1], .agg #[.slice none 0 0, .int .i64 1, .int .i64 1]] u fun e w' => e = .returned (.bool true) ∧ Below u.heap.size u w') := fun u => by
    have := sameM_any none none 0 0 begM begM u (fun i x hx => by simp [begM] at hx) (fun i x hx => by simp [begM] at hx) (by simp [begM]) (by simp [begM])
    rw [sameB_self] at this
    exact this
  clear hms0 hbig hev ht hue hB0 k0 HErr HTab hli hbi CX2 hms hs hbn hbc hcm
  unfold mval
  generalize rdE b = rE at *
  generalize rdF b = rF at *
  generalize goodM m = gm at *
  generalize tB (flM n) = fl at *
  go_enter Tryd.func3, Tryd.ntmps3
  go_wp2_with fail
  go_fit CX1
  rintro e w1 ⟨a1, e1, rfl, hs1, hn1, hB1, hk1⟩
  have d0 := hk1.cell 0 rfl
  have d1 := hk1.cell 1 rfl
  have d2 := hk1.cell 2 rfl
  have Q := CP.out w1
  clear CX1
  obtain ⟨ln, hln⟩ : ∃ ln, lx.length = ln := ⟨_, rfl⟩
  have HLN : Hid (lx.length = ln) := hln
  rw [hln] at HX2
  rw [hln]
  clear hln
  go_wp2_with fail
  go_fit Q
  rintro e w2 ⟨rfl, hB2⟩
  have hB2' : Below w.heap.size w w2 := hB1.trans (hB2.mono hB1.size)
  have hk2 := hk1.carry (hB2.block _ hk1.lt)
  have hs2 := hs1.below hB2 (Nat.le_refl _)
  have Q2 := HX2.out w2 hB2'
  clear Q d0 d1 d2 hB1 hB2 hk1 hs1 HX2
  go_wp2_with fail
  go_fit Q2
  rintro e w3 ⟨a3, e3, rfl, hs3, hn3, hB3⟩
  have hB3' : Below w.heap.size w w3 := hB2'.trans (hB3.mono hB2'.size)
  have hk3 := hk2.carry (hB3.block _ hk2.lt)
  have hs1 := hs2.below hB3 (Nat.le_refl _)
  have Q3 := CR.out w3 hB3'
  clear Q2 hB2' hB3 hk2 hs2 CR
  go_wp2_with fail
  go_fit Q3
  rintro e w4 ⟨a4, e4, rfl, hm4, hB4⟩
  have hb5 : Below w4.heap.size w4 (w4.alloc (.cells #[.slice a4 rF.ts.length e4, .int .i64 rF.nx, .int .i64 rF.fr] 24)) := (Below.refl _ _).alloc (Nat.le_refl _) _
  have hB4' : Below w.heap.size w w4 := hB3'.trans (hB4.mono hB3'.size)
  have hB5' : Below w.heap.size w (w4.alloc (.cells #[.slice a4 rF.ts.length e4, .int .i64 rF.nx, .int .i64 rF.fr] 24)) := hB4'.alloc hB4'.size _
  have hk5 := (hk3.carry (hB4.block _ hk3.lt)).alloc (.cells #[.slice a4 rF.ts.length e4, .int .i64 rF.nx, .int .i64 rF.fr] 24)
  have hs5 := (hs1.below hB4 (Nat.le_refl _)).below hb5 (Nat.le_refl _)
  have ht5 := (hs3.below hB4 (Nat.le_refl _)).below hb5 (Nat.le_refl _)
  have kp5 := Blk.new w4 [.slice a4 rF.ts.length e4, .int .i64 rF.nx, .int .i64 rF.fr] 24
  have hm5 := hm4.below hb5 (Nat.le_refl _)
  have Q4 := CS.out _ hB5'
  clear Q3 hB3' hB4 hk3 hs1 hs3 hm4 hb5 hB4' CS
  go_wp2_with fail
  generalize w4.heap.size = P4 at *
  go_fit Q4
  rintro e w6 ⟨a6, e6, rfl, hm6, hB6⟩
  have hb7 : Below w6.heap.size w6 (w6.alloc (.cells #[.slice a6 rF.ts.length e6, .int .i64 rF.nx, .int .i64 rF.fr] 32)) := (Below.refl _ _).alloc (Nat.le_refl _) _
  have hB6' : Below w.heap.size w w6 := hB5'.trans (hB6.mono hB5'.size)
  have hBz : Below w.heap.size w (w6.alloc (.cells #[.slice a6 rF.ts.length e6, .int .i64 rF.nx, .int .i64 rF.fr] 32)) := hB6'.alloc hB6'.size _
  have hkz := (hk5.carry (hB6.block _ hk5.lt)).alloc (.cells #[.slice a6 rF.ts.length e6, .int .i64 rF.nx, .int .i64 rF.fr] 32)
  have kpz := (kp5.carry (hB6.block _ kp5.lt)).alloc (.cells #[.slice a6 rF.ts.length e6, .int .i64 rF.nx, .int .i64 rF.fr] 32)
  have kqz := Blk.new w6 [.slice a6 rF.ts.length e6, .int .i64 rF.nx, .int .i64 rF.fr] 32
  have hsz := (hs5.below hB6 (Nat.le_refl _)).below hb7 (Nat.le_refl _)
  have htz := (ht5.below hB6 (Nat.le_refl _)).below hb7 (Nat.le_refl _)
  have hmp := (hm5.below hB6 (Nat.le_refl _)).below hb7 (Nat.le_refl _)
  have hmq := hm6.below hb7 (Nat.le_refl _)
  clear Q4 hB5' hB6 hk5 hs5 ht5 kp5 hm5 hm6 hb7 hB6'
  go_wp2_with fail
  generalize w6.alloc (.cells #[.slice a6 rF.ts.length e6, .int .i64 rF.nx, .int .i64 rF.fr] 32) = wz at *
  generalize w6.heap.size = P6 at *
  have q0 : ∀ z : Cl wz.heap.size wz, z.u.cell? ⟨w.heap.size, 0, none⟩ = some (.slice ao m.ts.length cap) := fun z => z.cell hkz.lt (hkz.cell 0 rfl)
  have q1 : ∀ z : Cl wz.heap.size wz, z.u.cell? ⟨w.heap.size, 1, none⟩ = some (.int .i64 m.nx) := fun z => z.cell hkz.lt (hkz.cell 1 rfl)
  have q2 : ∀ z : Cl wz.heap.size wz, z.u.cell? ⟨w.heap.size, 2, none⟩ = some (.int .i64 m.fr) := fun z => z.cell hkz.lt (hkz.cell 2 rfl)
  have p0 : ∀ z : Cl wz.heap.size wz, z.u.cell? ⟨P4, 0, none⟩ = some (.slice a4 rF.ts.length e4) := fun z => z.cell kpz.lt (kpz.cell 0 rfl)
  have p1 : ∀ z : Cl wz.heap.size wz, z.u.cell? ⟨P4, 1, none⟩ = some (.int .i64 rF.nx) := fun z => z.cell kpz.lt (kpz.cell 1 rfl)
  have p2 : ∀ z : Cl wz.heap.size wz, z.u.cell? ⟨P4, 2, none⟩ = some (.int .i64 rF.fr) := fun z => z.cell kpz.lt (kpz.cell 2 rfl)
  have r0 : ∀ z : Cl wz.heap.size wz, z.u.cell? ⟨P6, 0, none⟩ = some (.slice a6 rF.ts.length e6) := fun z => z.cell kqz.lt (kqz.cell 0 rfl)
  have r1 : ∀ z : Cl wz.heap.size wz, z.u.cell? ⟨P6, 1, none⟩ = some (.int .i64 rF.nx) := fun z => z.cell kqz.lt (kqz.cell 1 rfl)
  have r2 : ∀ z : Cl wz.heap.size wz, z.u.cell? ⟨P6, 2, none⟩ = some (.int .i64 rF.fr) := fun z => z.cell kqz.lt (kqz.cell 2 rfl)
  have HC : Hid (∀ z : Cl wz.heap.size wz, Below w.heap.size w z.u) := fun z => hBz.trans (z.h.mono hBz.size)
  have CSa : Hid (∀ z : Cl wz.heap.size wz, Calls Tryd.prog 14 #[.slice a1 ln e1, .slice a3 ln e3] z.u fun e w' => e = .returned (.bool true) ∧ Below z.u.heap.size z.u w') := fun z => by
    have := same_any a1 a3 lx lx e1 e3 z.u (hsz.below z.h (Nat.le_refl _)) (htz.below z.h (Nat.le_refl _)) hn1 (fun e => by rw [HLN.out]; exact hn3 e)
    rw [beq_self_eq_true, HLN.out] at this
    exact this.mono fun e w' hh => ⟨hh.1, by rw [hh.2]; exact Below.refl _ _⟩
  have CQ1 : Hid (∀ z : Cl wz.heap.size wz, Calls Tryd.prog 15 #[.agg #[.slice a4 rF.ts.length e4, .int .i64 rF.nx, .int .i64 rF.fr], .agg #[.slice a6 rF.ts.length e6, .int .i64 rF.nx, .int .i64 rF.fr]] z.u fun e w' => e = .returned (.bool true) ∧ Below z.u.heap.size z.u w') := fun z => by
    have := sameM_any a4 a6 e4 e6 rF rF z.u (hmp.see.below z.h (Nat.le_refl _)) (hmq.see.below z.h (Nat.le_refl _)) (by omega) (by omega)
    rw [sameB_self] at this
    exact this
  have HBz : Hid (Below w.heap.size w wz) := hBz
  clear hkz kpz kqz hsz htz hmp hmq hBz hn1 hn3 hrl HLN
  haveI := Cl.inh wz.heap.size wz
  refine wp_region_cl wz.heap.size (by kernel_rfl) (by kernel_rfl) ?_
  repeat (quiet_step (first
    | (go_at_call 12; exact Cl.calls (Nat.le_refl _) (CG1.out _ (HC.out _)))
    | (go_at_call 9; exact Cl.calls (Nat.le_refl _) (CP.out _))
    | (go_at_call 13; exact Cl.calls (Nat.le_refl _) (CG2.out _ (HC.out _)))
    | (go_at_call 14; exact Cl.calls (Nat.le_refl _) (CSa.out _))
    | (go_at_call 15; first | with_reducible exact Cl.calls (Nat.le_refl _) (CQ1.out _) | with_reducible exact Cl.calls (Nat.le_refl _) (CQ2.out _))
    | (go_at_call 16; exact Cl.calls (Nat.le_refl _) (CF1.out _ (HC.out _)))
    | (go_at_call 17; exact Cl.calls (Nat.le_refl _) (CF2.out _))
    | (go_at_call 18; exact Cl.calls (Nat.le_refl _) (CB1.out _))
    | (go_at_call 19; exact Cl.calls (Nat.le_refl _) (CB2.out _))
    | (go_at_call 6; exact Cl.calls (Nat.le_refl _) (CL.out _ (HC.out _)))))
  refine wpQuiet_nil ?_
  rintro w13 ⟨q, rfl⟩
  have HF : Hid (Below w.heap.size w q.u) := HBz.out.trans (q.h.mono HBz.out.size)
  go_wp2_with fail
  go_ret
  exact ⟨rfl, HF.out⟩
end Go.Proofs.YthihljjefncfoaaDoor.manifestBytes

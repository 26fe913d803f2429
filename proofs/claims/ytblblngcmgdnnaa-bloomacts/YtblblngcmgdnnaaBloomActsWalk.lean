/-
  THE LAW BloomActs: the walk.
-/
import Derived.Test.YtblblngcmgdnnaaBlmRun
import Derived.Test.YtblblngcmgdnnaaBlmRefActs
import Derived.Test.YtblblngcmgdnnaaBlmRefBytes
import Derived.Test.YtblblngcmgdnnaaBlmInts
namespace Go.Proofs.Ytblblngcmgdnnaa
open Go.RowKit

attribute [local go_sem] Oper.pureAt Oper.pureUpon
theorem toHidA {p : Prop} (h : p) : Hid p := h
theorem Keys.cellA {w0 : World} {ao : Option Addr} {P : List PartV} (h : Keys w0 ao P) {i : Nat} (hi : i < P.length) : ∃ p b off, P[i]? = some p ∧ ao = some ⟨b, off, none⟩ ∧ ∀ w, Below w0.heap.size w0 w → w.cell? ⟨b, off + i, none⟩ = some (.slice p.ao p.bs.length p.cap) := by
  obtain ⟨p, hp⟩ : ∃ p, P[i]? = some p := ⟨_, List.getElem?_eq_getElem hi⟩
  obtain ⟨⟨b, off, e, hc⟩, _⟩ := h.see i p hp
  exact ⟨p, b, off, hp, e, fun w hB => by rw [hB.cell (World.block_lt_of_cell? _ _ hc), hc]⟩
/-- Both filters, the program's and the document's. -/
structure Duo (w0 w : World) (m1 m2 : FM) (k : Nat) (l : List UInt8) : Prop where
  f : Fil w0 w m1 k l
  r : RAt w m2 k l
  g2 : w0.heap.size ≤ m2.g
  a : m2.d ≠ m1.g
  b : m2.g ≠ m1.g
  c : m1.d ≠ m2.g
theorem Duo.below {w0 w w' : World} {m1 m2 : FM} {k : Nat} {l : List UInt8} (h : Duo w0 w m1 m2 k l) (hB : Below w.heap.size w w') : Duo w0 w' m1 m2 k l :=
  ⟨h.f.below hB, h.r.below hB (Nat.le_refl _), h.g2, h.a, h.b, h.c⟩
/-- One key is added to both. -/
theorem Duo.add1 {w0 w w' : World} {m1 m2 : FM} {k : Nat} {l l' : List UInt8} (h : Duo w0 w m1 m2 k l) (_ : Fil w0 w' m1 k l') (hg : w.grownBy w' (some m1.g)) : RAt w' m2 k l :=
  h.r.carry (hg.block _ h.r.head.lt (fun e => h.a (Option.some.inj e))) (hg.block _ h.r.bits.lt (fun e => h.b (Option.some.inj e)))
theorem Duo.add2 {w0 w w' w2 : World} {m1 m2 : FM} {k : Nat} {l l' : List UInt8} (h : Duo w0 w m1 m2 k l) (hF : Fil w0 w' m1 k l') (hR : RAt w2 m2 k l') (hg : w'.grownBy w2 (some m2.g)) : Duo w0 w2 m1 m2 k l' := by
  refine ⟨⟨hF.at_.carry (hg.block _ hF.at_.head.lt (fun e => h.c (Option.some.inj e))) (hg.block _ hF.at_.bits.lt (fun e => h.b (Option.some.inj e).symm)), hF.d, hF.g, hF.B.trans ⟨hg.os, hg.tape, hg.output, hg.size, fun i hi => hg.block i (by have := hF.B.size; omega) (fun e => ?_)⟩⟩, hR, h.g2, h.a, h.b, h.c⟩
  have := h.g2
  have := Option.some.inj e
  omega
namespace bloomActs
set_option maxRecDepth 100000 in
set_option maxHeartbeats 4000000 in
theorem walk (n bits : Int) (ao : Option Addr) (P : List PartV) (cap : Nat) (w : World) (_ : -9223372036854775808 ≤ n ∧ n ≤ 9223372036854775807) (_ : -9223372036854775808 ≤ bits ∧ bits ≤ 9223372036854775807) (hP : Keys w ao P) :
    Calls Try.prog 3 #[.int .i64 n, .int .i64 bits, .slice ao P.length cap] w fun e w' => e = .returned (.bool true) ∧ Below w.heap.size w w' := by
  have LV : Hid (∀ w : World, Calls Try.prog 9 #[] w fun e w' => e = .returned (.bool true) ∧ Below w.heap.size w w') := lives8_any
  have HP := toHidA hP
  have hbp := hP.big
  clear hP
  by_cases hbad : n < 0 ∨ 100000 < n ∨ bits < 1 ∨ 32 < bits
  · have N1 := toHidA (new_bad n bits hbad w)
    have N2 := toHidA (refNew_bad n bits hbad w)
    clear hbad
    go_enter Try.func3, Try.ntmps3
    go_wp2_with fail
    refine (Hid.out N1).mono ?_
    rintro e w1 ⟨rfl, rfl⟩
    go_wp2_with fail
    refine (Hid.out N2).mono ?_
    rintro e w1 ⟨rfl, rfl⟩
    go_wp2_with fail
    refine (LV.out _).mono ?_
    rintro e w3 ⟨rfl, hL⟩
    go_wp2_with fail
    go_ret
    exact ⟨rfl, hL⟩
  obtain ⟨a, rfl⟩ := Int.eq_ofNat_of_zero_le (show 0 ≤ n by omega)
  obtain ⟨c, rfl⟩ := Int.eq_ofNat_of_zero_le (show 0 ≤ bits by omega)
  have N1 := toHidA (new_any a c (by omega) (by omega) (by omega) w)
  have N2 := toHidA (fun w => refNew_any a c (by omega) (by omega) (by omega) w)
  clear hbad
  go_enter Try.func3, Try.ntmps3
  go_wp2_with fail
  refine (Hid.out N1).mono ?_
  rintro e w1 ⟨m1, rfl, hF1, hd1, hg1, hgr1⟩
  go_wp2_with fail
  refine (Hid.out N2 w1).mono ?_
  rintro e w2 ⟨m2, rfl, hR2, hd2, hg2, hgr2⟩
  have hDuo : Duo w w2 m1 m2 (kOf c) (List.replicate (nOf a c) 0) := by
    have hB1 : Below w.heap.size w w1 := ⟨hgr1.os, hgr1.tape, hgr1.output, hgr1.size, fun i hi => hgr1.block i hi (by simp)⟩
    have hB2 : Below w1.heap.size w1 w2 := ⟨hgr2.os, hgr2.tape, hgr2.output, hgr2.size, fun i hi => hgr2.block i hi (by simp)⟩
    have e1 := hF1.bits.lt
    have e2 := hF1.head.lt
    have e3 := hB1.size
    exact ⟨(⟨hF1, hd1, hg1, hB1⟩ : Fil w w1 m1 _ _).below hB2, hR2, by omega, by omega, by omega, by omega⟩
  generalize kOf c = K at *
  generalize List.replicate (nOf a c) (0 : UInt8) = L0 at *
  have HD := toHidA hDuo
  clear hF1 hd1 hg1 hgr1 hR2 hd2 hg2 hgr2 hDuo N1 N2
  go_wp2_with fail
  refine (few_any w w2 ao P cap HP.out HD.out.f.B).mono ?_
  rintro e w3 ⟨b1, rfl, _, rfl⟩
  cases b1
  · go_wp2_with fail
    refine (LV.out _).mono ?_
    rintro e w4 ⟨rfl, hL⟩
    go_wp2_with fail
    go_ret
    exact ⟨rfl, HD.out.f.B.trans (hL.mono HD.out.f.B.size)⟩
  go_wp2_with fail
  go_loopw [32] (fun s32 wr => ∃ (i : Nat) (L : List UInt8), i ≤ P.length ∧ s32 = .int .i64 (i : Int) ∧ Duo w wr m1 m2 K L) (fun s32 _ => P.length - (intOf s32).toNat)
  case atStart => exact ⟨0, L0, Nat.zero_le _, rfl, HD.out⟩
  case round =>
    obtain ⟨i, L, hi, rfl, hDr⟩ := hrel
    have HR := toHidA hDr
    have hKl := hDr.f.at_.k2
    have hKp := hDr.f.at_.k1
    clear hDr
    rcases Nat.lt_or_ge i P.length with hlt | hge
    · obtain ⟨p, b, off, hp, e, hcell⟩ := HP.out.cellA hlt
      subst e
      have hcc := hcell wr HR.out.f.B
      obtain ⟨q1, q2, q3⟩ := HP.out.part hp HR.out.f.B
      have P1 := toHidA (places_any HR.out.f.at_ p.ao p.bs p.cap q3 q2 q1)
      have Hp := toHidA hp
      have Hp2 := toHidA q2
      have Hp3 := toHidA q3
      clear hcell q1 q2 q3 hp
      go_wp2_with fail
      refine (Hid.out P1).mono ?_
      rintro e w4 ⟨gp, rfl, hblk, _, hB4⟩
      have HR4 := toHidA (HR.out.below hB4)
      have P2 := toHidA (refPlaces_any HR4.out.r p.ao p.bs p.cap Hp3.out (HP.out.part Hp.out HR4.out.f.B).1)
      clear P1
      go_wp2_with fail
      refine (Hid.out P2).mono ?_
      rintro e w5 ⟨v, rfl, ho, hB5⟩
      have HR5 := toHidA (HR4.out.below hB5)
      obtain ⟨gq, cq, rfl, _, _, hcells⟩ := owns_ints ho (by omega)
      have hb5 := hblk.carry (hB5.block _ hblk.lt)
      have IN := toHidA (ints_same gp gq K cq K (plcs (sumB p.bs 0#64) L.length K) w5 (plcs_length _ _ _) (by omega) (fun i z hz => hb5.cell i (by unfold P64; rw [List.getElem?_map, hz]; rfl)) hcells)
      clear P2 ho hblk hb5 hcells
      go_wp2_with fail
      refine (Hid.out IN).mono ?_
      rintro e w6 ⟨rfl, hB6⟩
      have HR6 := toHidA (HR5.out.below hB6)
      have M1 := toHidA (may_any HR6.out.f.at_ p.ao p.bs p.cap Hp3.out Hp2.out (HP.out.part Hp.out HR6.out.f.B).1)
      clear IN
      go_wp2_with fail
      refine (Hid.out M1).mono ?_
      rintro e w7 ⟨rfl, hB7⟩
      have HR7 := toHidA (HR6.out.below hB7)
      have M2 := toHidA (refMay_any HR7.out.r p.ao p.bs p.cap Hp3.out (HP.out.part Hp.out HR7.out.f.B).1)
      clear M1
      generalize hans : mayK L (sumB p.bs 0#64) K = ans at *
      go_wp2_with fail
      refine (Hid.out M2).mono ?_
      rintro e w8 ⟨rfl, hB8⟩
      have HR8 := toHidA (HR7.out.below hB8)
      clear M2
      rcases (show i % 3 = 0 ∨ 0 < i % 3 by omega) with h3 | h3
      · go_wp2_with fail
        go_roundw
        case rel => exact ⟨i + 1, L, by omega, by simp, HR8.out⟩
        case measure => simp [intOf]; omega
      · have A1 := toHidA (fil_add HR8.out.f HP.out Hp.out)
        go_wp2_with fail
        refine (Hid.out A1).mono ?_
        rintro e w9 ⟨rfl, hF9, hg9⟩
        have hR9 := HR8.out.add1 hF9 hg9
        have A2 := toHidA (refAdd_any hR9 p.ao p.bs p.cap Hp3.out (HP.out.part Hp.out hF9.B).1)
        have HF9 := toHidA hF9
        clear A1 hF9 hR9
        go_wp2_with fail
        refine (Hid.out A2).mono ?_
        rintro e wA ⟨rfl, hRA, hgA⟩
        have HRA := toHidA (HR8.out.add2 HF9.out hRA hgA)
        clear A2 hRA
        go_wp2_with fail
        go_roundw
        case rel => exact ⟨i + 1, _, by omega, by simp, HRA.out⟩
        case measure => simp [intOf]; omega
    · obtain rfl : i = P.length := by omega
      obtain ⟨w4, rfl⟩ : ∃ w4, w4 = wr := ⟨_, rfl⟩
      have hlen := HR.out.f.at_.len
      have l1 := HR.out.r.head.lt
      have FX : Hid (∀ x, Below w4.heap.size w4 x → Duo w x m1 m2 K L) := fun x hx => HR.out.below hx
      have c1 : ∀ q : Cl w4.heap.size w4, q.u.cell? ⟨m2.d, 1, none⟩ = some (.slice (some ⟨m2.g, 0, none⟩) L.length m2.cap) := fun q => q.cell l1 HR.out.r.c1
      haveI := Cl.inh w4.heap.size w4
      go_wp2_with fail
      refine wp_region_sched (fun w' => ∃ p : Cl w4.heap.size w4, w' = p.u) [(0, true), (2, true), (1, false), (3, false), (4, false), (5, true), (6, true), (8, true), (9, true), (10, true), (11, true), (12, true), (13, true), (7, false), (14, true), (15, true), (16, true), (17, false), (18, true), (19, true)] rfl (by kernel_rfl) (by kernel_rfl) (by kernel_rfl) ⟨⟨_, (Below.refl _ _).drew⟩, rfl⟩ ?_
      iterate 2 (refine sched_pure rfl (fun KK hK => ?_); go_simp; refine hK _ ?_; clear hK KK)
      refine sched_loud rfl (fun KK hK => ?_)
      go_simp
      refine (bytes_any (FX.out _ (Below.refl _ _).drew).f.at_).mono ?_
      rintro e u1 ⟨v1, rfl, x1, y1⟩
      have z1 : Below w4.heap.size w4 u1 := (Below.refl _ w4).drew.trans y1
      refine hK _ _ ⟨⟨u1, z1⟩, rfl⟩ ?_
      clear hK KK
      refine sched_loud rfl (fun KK hK => ?_)
      go_simp
      refine (refBytes_any (FX.out _ z1).r).mono ?_
      rintro e u2 ⟨v2, rfl, x2, y2⟩
      have z2 : Below w4.heap.size w4 u2 := z1.trans (y2.mono z1.size)
      refine hK _ _ ⟨⟨u2, z2⟩, rfl⟩ ?_
      clear hK KK
      obtain ⟨a1, cp1, rfl, s1, e1, n1⟩ := owns_sees (owns_belowR x1 y2)
      obtain ⟨a2, cp2, rfl, s2, e2, n2⟩ := owns_sees x2
      have SM := same_any a1 a2 (encF K L) (encF K L) cp1 cp2 u2 s1 s2 (fun e => (n1 e).1) (fun e => (n2 e).1)
      rw [show (encF K L == encF K L) = true by simp] at SM
      refine sched_loud rfl (fun KK hK => ?_)
      go_simp
      refine SM.mono ?_
      rintro e u3 ⟨rfl, rfl⟩
      refine hK _ _ ⟨⟨u3, z2⟩, rfl⟩ ?_
      clear hK KK
      iterate 8 (refine sched_pure rfl (fun KK hK => ?_); go_simp; refine hK _ ?_; clear hK KK)
      refine sched_loud rfl (fun KK hK => ?_)
      go_simp
      refine (size_any (FX.out _ z2).f.at_).mono ?_
      rintro e u4 ⟨rfl, rfl⟩
      refine hK _ _ ⟨⟨u4, z2⟩, rfl⟩ ?_
      clear hK KK
      have W8 : Hid (IntKind.i64.wrap (8 * (L.length : Int)) = 8 * (L.length : Int)) := by show _ = _; rw [IntKind.wrap_i64]; omega
      have N8 : Hid (((8 * L.length : Nat) : Int) = 8 * (L.length : Int)) := by show _ = _; omega
      rw [W8.out, N8.out]
      iterate 3 (refine sched_pure rfl (fun KK hK => ?_); go_simp; refine hK _ ?_; clear hK KK)
      refine sched_loud rfl (fun KK hK => ?_)
      go_simp
      refine (LV.out _).mono ?_
      rintro e u5 ⟨rfl, hL⟩
      have z5 : Below w4.heap.size w4 u5 := z2.trans (hL.mono z2.size)
      refine hK _ _ ⟨⟨u5, z5⟩, rfl⟩ ?_
      clear hK KK
      iterate 2 (refine sched_pure rfl (fun KK hK => ?_); go_simp; refine hK _ ?_; clear hK KK)
      refine sched_nil ?_
      go_wp2_with fail
      go_ret
      exact ⟨rfl, (FX.out _ z5).f.B⟩
end bloomActs
end Go.Proofs.Ytblblngcmgdnnaa

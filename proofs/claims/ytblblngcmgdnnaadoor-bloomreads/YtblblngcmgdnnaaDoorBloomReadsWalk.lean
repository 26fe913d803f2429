/-
  THE LAW BloomReads: the walk.
-/
import Derived.Test.YtblblngcmgdnnaaDoorBlmReadB
namespace Go.Proofs.YtblblngcmgdnnaaDoor
open Go.RowKit

theorem toHidBR {p : Prop} (h : p) : Hid p := h
namespace bloomReads
set_option maxRecDepth 100000 in
set_option maxHeartbeats 4000000 in
theorem walk (ao : Option Addr) (B : List UInt8) (cap : Nat) (bo : Option Addr) (kk : List UInt8) (cap2 : Nat) (w : World) (hs : Sees w ao B) (hn : ao = none → B.length = 0) (hc : B.length ≤ cap) (hz : B.length ≤ 140737488351232) (hs2 : Sees w bo kk) (_ : bo = none → kk.length = 0) (hc2 : kk.length ≤ cap2) (hz2 : kk.length ≤ 140737488351232) (u : TypeId) (pv : Value) (he : Err w u pv) :
    Calls Tryd.prog 3 #[.slice ao B.length cap, .slice bo kk.length cap2] w fun e w' => e = .returned (.bool true) ∧ Below w.heap.size w w' := by
  have LV : Hid (∀ w : World, Calls Tryd.prog 5 #[] w fun e w' => e = .returned (.bool true) ∧ Below w.heap.size w w') := lives8_any
  rcases Nat.lt_or_ge 10000 (B.length + kk.length) with hbig | hsm
  · clear hs hs2 he
    go_enter Tryd.func3, Tryd.ntmps3
    go_wp2_with fail
    refine (LV.out _).mono ?_
    rintro e w3 ⟨rfl, hL⟩
    go_wp2_with fail
    go_ret
    exact ⟨rfl, hL⟩
  have LD := toHidBR (lend_any ao B cap w hs (by omega))
  have HS := toHidBR hs
  have HS2 := toHidBR hs2
  have HE := toHidBR he
  have hb1 : B.length ≤ 10000 := by omega
  have hk1 : kk.length ≤ 10000 := by omega
  clear hs hs2 he
  go_enter Tryd.func3, Tryd.ntmps3
  go_wp2_with fail
  refine (Hid.out LD).mono ?_
  rintro e w1 ⟨rfl, hrow, hB1⟩
  have HROW := toHidBR hrow
  have RD := toHidBR (readB w.heap.size 1 B (B.length + 1) w1 u pv (HE.out.below hB1 (Nat.le_refl _)) (lent_sees hrow) (by omega) (by omega) hb1)
  have hsz1 := hrow.lt
  clear LD hrow
  go_wp2_with fail
  refine (Hid.out RD).mono ?_
  rintro e w2 (⟨hok, rfl, hB2⟩ | ⟨hok, m1, rfl, hF1, hd1, hg1, hB2⟩)
  · have hB02 : Below w.heap.size w w2 := hB1.trans (hB2.mono hB1.size)
    have RR := toHidBR (refReadB ao B cap w2 (HS.out.below hB02 (Nat.le_refl _)) hc hb1)
    clear RD
    go_wp2_with fail
    refine (Hid.out RR).mono ?_
    rintro e w3 (⟨_, rfl, hB3⟩ | ⟨hok2, _⟩)
    · have hB03 : Below w.heap.size w w3 := hB02.trans (hB3.mono hB02.size)
      clear RR
      go_wp2_with fail
      refine (LV.out _).mono ?_
      rintro e w4 ⟨rfl, hL⟩
      go_wp2_with fail
      go_ret
      exact ⟨rfl, hB03.trans (hL.mono hB03.size)⟩
    · rw [hok] at hok2
      cases hok2
  · have hB02 : Below w.heap.size w w2 := hB1.trans (hB2.mono hB1.size)
    have RR := toHidBR (refReadB ao B cap w2 (HS.out.below hB02 (Nat.le_refl _)) hc hb1)
    clear RD
    have HF1 := toHidBR hF1
    clear hF1
    go_wp2_with fail
    refine (Hid.out RR).mono ?_
    rintro e w3 (⟨hok2, _⟩ | ⟨_, m2, rfl, hR2, hd2, hg2, hB3⟩)
    · rw [hok] at hok2
      cases hok2
    have hB03 : Below w.heap.size w w3 := hB02.trans (hB3.mono hB02.size)
    have hgood := hok
    unfold okF at hgood
    rw [decide_eq_true_eq] at hgood
    obtain ⟨a1, a2, a3, a4, a5⟩ := hgood
    have k1 : getK B ≠ 0 := fun e => by have := getK_zero e; omega
    have k2 : getK (B.drop (getK B)) ≠ 0 := fun e => by have := getK_zero e; omega
    have henc : B = encF (getV B) (B.drop (getK B + getK (B.drop (getK B)))) := okF_enc rfl rfl k1 rfl k2 rfl (by rw [List.length_drop, a5])
    have HENC := toHidBR henc
    clear a1 a2 a3 a4 a5 k1 k2 henc hok RR
    have F3 := HF1.out.below hB3 (Nat.le_refl _)
    generalize B.drop (getK B + getK (B.drop (getK B))) = L at *
    generalize getV B = K at *
    have hKl := F3.k2
    have hKp := F3.k1
    have hLp := F3.pos
    have S3 := HS2.out.below hB03 (Nat.le_refl _)
    have M1 := toHidBR (may_any F3 bo kk cap2 (by omega) hc2 S3)
    have HR2 := toHidBR hR2
    have HF3 := toHidBR F3
    clear hR2 F3 S3 HF1
    go_wp2_with fail
    refine (Hid.out M1).mono ?_
    rintro e w4 ⟨rfl, hB4⟩
    have hB04 : Below w.heap.size w w4 := hB03.trans (hB4.mono hB03.size)
    have M2 := toHidBR (refMay_any (HR2.out.below hB4 (Nat.le_refl _)) bo kk cap2 (by omega) (HS2.out.below hB04 (Nat.le_refl _)))
    clear M1
    generalize hans : mayK L (sumB kk 0#64) K = ans at *
    go_wp2_with fail
    refine (Hid.out M2).mono ?_
    rintro e w5 ⟨rfl, hB5⟩
    have hB05 : Below w.heap.size w w5 := hB04.trans (hB5.mono hB04.size)
    have hB35 : Below w3.heap.size w3 w5 := hB4.trans (hB5.mono hB4.size)
    have P1 := toHidBR (places_any (HF3.out.below hB35 (Nat.le_refl _)) bo kk cap2 (by omega) hc2 (HS2.out.below hB05 (Nat.le_refl _)))
    clear M2
    go_wp2_with fail
    refine (Hid.out P1).mono ?_
    rintro e w6 ⟨gp, rfl, hblk, _, hB6⟩
    have hB06 : Below w.heap.size w w6 := hB05.trans (hB6.mono hB05.size)
    have hB36 : Below w3.heap.size w3 w6 := hB35.trans (hB6.mono hB35.size)
    have P2 := toHidBR (refPlaces_any (HR2.out.below hB36 (Nat.le_refl _)) bo kk cap2 (by omega) (HS2.out.below hB06 (Nat.le_refl _)))
    clear P1
    go_wp2_with fail
    refine (Hid.out P2).mono ?_
    rintro e w7 ⟨v, rfl, ho, hB7⟩
    have hB07 : Below w.heap.size w w7 := hB06.trans (hB7.mono hB06.size)
    have hB37 : Below w3.heap.size w3 w7 := hB36.trans (hB7.mono hB36.size)
    obtain ⟨gq, cq, rfl, _, _, hcells⟩ := owns_ints ho (by omega)
    have hb7 := hblk.carry (hB7.block _ hblk.lt)
    have IN := toHidBR (ints_same gp gq K cq K (plcs (sumB kk 0#64) L.length K) w7 (plcs_length _ _ _) (by omega) (fun i z hz => hb7.cell i (by unfold P64; rw [List.getElem?_map, hz]; rfl)) hcells)
    clear P2 ho hblk hb7 hcells
    go_wp2_with fail
    refine (Hid.out IN).mono ?_
    rintro e w8 ⟨rfl, hB8⟩
    have hB08 : Below w.heap.size w w8 := hB07.trans (hB8.mono hB07.size)
    have hB38 : Below w3.heap.size w3 w8 := hB37.trans (hB8.mono hB37.size)
    have BY := toHidBR (bytes_any (HF3.out.below hB38 (Nat.le_refl _)))
    clear IN
    go_wp2_with fail
    refine (Hid.out BY).mono ?_
    rintro e w9 ⟨v9, rfl, ho9, hB9⟩
    have hB09 : Below w.heap.size w w9 := hB08.trans (hB9.mono hB08.size)
    have hB39 : Below w3.heap.size w3 w9 := hB38.trans (hB9.mono hB38.size)
    obtain ⟨a9, c9, rfl, s9, l9, n9⟩ := owns_sees ho9
    have SM := same_any a9 ao (encF K L) B c9 cap w9 s9 (HS.out.below hB09 (Nat.le_refl _)) (fun e => (n9 e).1) hn
    rw [← HENC.out] at SM
    rw [show (B == B) = true by simp] at SM
    have hl9 : (encF K L).length = B.length := by rw [← HENC.out]
    rw [hl9]
    have HSM := toHidBR SM
    clear BY ho9 s9 n9 SM l9
    go_wp2_with fail
    refine (Hid.out HSM).mono ?_
    rintro e w10 ⟨rfl, rfl⟩
    have F10 := HF3.out.below hB39 (Nat.le_refl _)
    have AD := toHidBR (add_any F10 bo kk cap2 (by omega) hc2 (HS2.out.below hB09 (Nat.le_refl _)))
    clear HSM F10
    go_wp2_with fail
    refine (Hid.out AD).mono ?_
    rintro e w11 ⟨rfl, hF11, hg11⟩
    have hsz2 := hB2.size
    have hsz1' := hB1.size
    have hB0b : Below w.heap.size w w11 := hB09.trans ⟨hg11.os, hg11.tape, hg11.output, hg11.size, fun i hi => hg11.block i (by have := hB09.size; omega) (fun e => by cases e; omega)⟩
    have hrow11 : Row w11 w.heap.size (lent B) := by
      have h2 : Row w10 w.heap.size (lent B) := by
        have hB2t : Below w1.heap.size w1 w10 := hB2.trans ((hB3.trans (hB39.mono hB3.size)).mono hB2.size)
        exact HROW.out.below hB2t hsz1
      exact (hg11.block _ h2.lt (fun e => by have := Option.some.inj e; omega)).trans h2
    have KP := toHidBR (kept_any w.heap.size (B.length + 2) ao B cap w11 (HS.out.below hB0b (Nat.le_refl _)) hn (by omega) hrow11 (by omega))
    have HF11 := toHidBR hF11
    clear AD hF11 hrow11
    go_wp2_with fail
    refine (Hid.out KP).mono ?_
    rintro e w12 ⟨rfl, kd, rfl⟩
    have hB0c : Below w.heap.size w (w11.drewN kd) := ⟨hB0b.os, hB0b.tape, hB0b.output, hB0b.size, hB0b.block⟩
    have F12 : FAt (w11.drewN kd) m1 K (addK L (sumB kk 0#64) K) := HF11.out.carry rfl rfl
    have MY := may_any F12 bo kk cap2 (by omega) hc2 (HS2.out.below hB0c (Nat.le_refl _))
    rw [may_add _ _ _ hLp] at MY
    have HMY := toHidBR MY
    clear KP MY F12
    go_wp2_with fail
    refine (Hid.out HMY).mono ?_
    rintro e w13 ⟨rfl, hB13⟩
    have hB0d : Below w.heap.size w w13 := hB0c.trans (hB13.mono hB0c.size)
    clear HMY
    go_wp2_with fail
    refine (LV.out _).mono ?_
    rintro e w14 ⟨rfl, hL⟩
    go_wp2_with fail
    go_ret
    exact ⟨rfl, hB0d.trans (hL.mono hB0d.size)⟩
end bloomReads
end Go.Proofs.YtblblngcmgdnnaaDoor

/-
  THE LAW RingWhole: the walk.
-/
import Derived.Test.YtcnceipkoapcpaaDoorRngLives
import Derived.Deep.Cut
import Derived.Deep.CutRange
namespace Go.Proofs.YtcnceipkoapcpaaDoor.ringWhole
open Go.RowKit

/-- What stays through the law's loops. -/
structure KR (w0 w : World) (r g : Nat) (l : List Pt) (N t c : Nat) : Prop where
  bel : Below w0.heap.size w0 w
  bx : Blk w w0.heap.size [.int .i64 (N : Int), .int .i64 (t : Int), .int .i64 (c : Int)] 23
  rg : RgAt w 48 r l c
  ps : PSees w (some ⟨g, 0, none⟩) l
theorem KR.to {w0 w w' : World} {r g : Nat} {l : List Pt} {N t c : Nat} (h : KR w0 w r g l N t c) (hb : Below w.heap.size w w') : KR w0 w' r g l N t c :=
  ⟨h.bel.trans (hb.mono h.bel.size), h.bx.carry (hb.block _ h.bx.lt), h.rg.to hb, h.ps.below hb (Nat.le_refl _)⟩
theorem KR.drew {w0 w : World} {r g : Nat} {l : List Pt} {N t c : Nat} (h : KR w0 w r g l N t c) : KR w0 w.drew r g l N t c := h.to (Below.refl _ _).drew
theorem KR.at0 {w0 w : World} {r g : Nat} {l : List Pt} {N t c : Nat} (h : KR w0 w r g l N t c) : w.cell? ⟨w0.heap.size, 0, none⟩ = some (.int .i64 (N : Int)) ∧ w.cell? ⟨w0.heap.size, 1, none⟩ = some (.int .i64 (t : Int)) ∧ w.cell? ⟨w0.heap.size, 2, none⟩ = some (.int .i64 (c : Int)) :=
  ⟨h.bx.cell 0 rfl, h.bx.cell 1 rfl, h.bx.cell 2 rfl⟩
theorem KR.pt {w0 w : World} {r g : Nat} {l : List Pt} {N t c : Nat} (h : KR w0 w r g l N t c) {i : Nat} (hi : i < l.length) : w.cell? ⟨g, i * 2, none⟩ = some (.int .i64 (tokAt l i)) ∧ w.cell? ⟨g, i * 2 + 1, none⟩ = some (.int .i64 (ndAt l i : Int)) := by
  have hc : l[i]? = some l[i] := List.getElem?_eq_getElem hi
  obtain ⟨g', e, h1, h2⟩ := h.ps i _ hc
  cases e
  have e1 : tokAt l i = l[i].tok := by simp [tokAt, List.getD, hc]
  rw [e1, ndAt_at hc]
  exact ⟨h1, h2⟩
theorem held_le {l : List Pt} {c : Nat} (hl : l.length ≤ 40) : ∀ n, heldP l c n ≤ n * 40
  | 0 => Nat.le_refl _
  | n + 1 => by
    have := held_le (c := c) hl n
    have h2 := List.length_filter_le (fun i => decide (n + 1 ∈ repsP l c i)) (List.range l.length)
    rw [List.length_range] at h2
    have h3 : (rangesP l c (n + 1)).length ≤ l.length := h2
    rw [heldP]
    omega
set_option maxRecDepth 100000 in
set_option maxHeartbeats 4000000 in
theorem walk (x y z t0 : Int) (w : World) (_hx : -9223372036854775808 ≤ x ∧ x ≤ 9223372036854775807) (_hy : -9223372036854775808 ≤ y ∧ y ≤ 9223372036854775807) (_hz : -9223372036854775808 ≤ z ∧ z ≤ 9223372036854775807) (_ht : -9223372036854775808 ≤ t0 ∧ t0 ≤ 9223372036854775807) :
    Calls Tryd.prog 5 #[.agg #[.int .i64 x, .int .i64 y, .int .i64 z], .int .i64 t0] w fun e w' => e = .returned (.bool true) ∧ Below w.heap.size w w' := by
  have L : Hid (∀ u : World, Calls Tryd.prog 10 #[] u fun e w' => e = .returned (.bool true) ∧ Below u.heap.size u w') := lives15_any
  obtain ⟨w1, hw1⟩ : ∃ w1, w1 = w.alloc (.cells #[.int .i64 x, .int .i64 y, .int .i64 z] 23) := ⟨_, rfl⟩
  have hB1 : Below w.heap.size w w1 := by rw [hw1]; exact (Below.refl _ _).alloc (Nat.le_refl _) _
  have hb1 : Blk w1 w.heap.size [.int .i64 x, .int .i64 y, .int .i64 z] 23 := by rw [hw1]; exact Blk.new w _ _
  have HE : Hid (w.alloc (.cells #[.int .i64 x, .int .i64 y, .int .i64 z] 23) = w1) := hw1.symm
  have b0 := hb1.cell 0 rfl
  have b1 := hb1.cell 1 rfl
  have b2 := hb1.cell 2 rfl
  clear hw1
  by_cases hok : OkN x y z
  · obtain ⟨N, t, c, rfl, rfl, rfl, hN5, ht1, ht8, hc1, hcN⟩ : ∃ N t c : Nat, x = N ∧ y = t ∧ z = c ∧ N ≤ 5 ∧ 1 ≤ t ∧ t ≤ 8 ∧ 1 ≤ c ∧ c ≤ N := by
      unfold OkN at hok
      exact ⟨x.toNat, y.toNat, z.toNat, by omega, by omega, by omega, by omega, by omega, by omega, by omega, by omega⟩
    have ok := ptsP_ok tkP (N := N) (t := t) (c := c) hN5 ht1 ht8 hc1 hcN
    have hlen := ptsP_len tkP N t
    have NW : Hid (Calls Tryd.prog 8 #[.int .i64 (N : Int), .int .i64 (t : Int), .int .i64 (c : Int)] w1 fun e w' => ∃ r, e = .returned (.pointer (some ⟨r, 0, none⟩)) ∧ RgAt w' 48 r (ptsP tkP N t) c ∧ Below w1.heap.size w1 w') :=
      (newR_ok N t c hN5 ht1 ht8 hc1 hcN w1).mono fun e w' ⟨r, he, h1, h2, h3⟩ => ⟨r, he, h1, h3⟩
    generalize ptsP tkP N t = l at *
    have hpos := ok.pos
    have hl40 := ok.le
    have hmul : (N : Int) * (t : Int) = (l.length : Int) := by rw [hlen]; exact (Int.natCast_mul N t).symm
    have CP : Hid (∀ (u : World) (r : Nat), RgAt u 48 r l c → Calls Tryd.prog 11 #[.pointer (some ⟨r, 0, none⟩)] u fun e w' => ∃ g cap, e = .returned (.slice (some ⟨g, 0, none⟩) l.length cap) ∧ PSees w' (some ⟨g, 0, none⟩) l ∧ Below u.heap.size u w') := fun u r h => (pointsR_at h hc1 hl40).mono fun e w' ⟨ao, cap, he, hs, hb⟩ => by
      obtain ⟨g, rfl, -⟩ := hs 0 _ (List.getElem?_eq_getElem hpos)
      exact ⟨g, cap, he, hs, hb⟩
    obtain ⟨K, hK⟩ : ∃ K, K = rngP l t0 := ⟨_, rfl⟩
    have CR : Hid (∀ (u : World) (r : Nat), RgAt u 48 r l c → Calls Tryd.prog 13 #[.pointer (some ⟨r, 0, none⟩), .int .i64 t0] u fun e w' => e = .returned (.int .i64 (K : Int)) ∧ Below u.heap.size u w') := fun u r h => by rw [hK]; exact rangeR_any h ok t0
    have CQ : Hid (∀ (u : World) (r i : Nat), RgAt u 48 r l c → i < l.length → Calls Tryd.prog 16 #[.pointer (some ⟨r, 0, none⟩), .int .i64 (i : Int)] u fun e w' => ∃ b o cap, e = .returned (.slice (some ⟨b, o, none⟩) c cap) ∧ ISees w' (some ⟨b, o, none⟩) (zs (repsP l c i)) ∧ Below u.heap.size u w' ∧ c ≤ cap) := fun u r i h hi => (replicasR_in h ok i hi).mono fun e w' ⟨ao, cap, he, hs, hb, hcp⟩ => by
      obtain ⟨b, o, rfl, -⟩ := hs 0 _ (zs_at (reps_head ok hi))
      rw [reps_len ok hi] at he hcp
      exact ⟨b, o, cap, he, hs, hb, hcp⟩
    have CH : Hid (∀ (u : World) (r i n : Nat), RgAt u 48 r l c → i < l.length → n ∈ repsP l c i → Calls Tryd.prog 20 #[.pointer (some ⟨r, 0, none⟩), .int .i64 (i : Int), .int .i64 (n : Int)] u fun e w' => e = .returned (.bool true) ∧ Below u.heap.size u w') := fun u r i n h hi hn => by
      have := hasR_any h ok i n
      rw [repI_at l c hi, decide_eq_true (zs_mem.2 hn)] at this
      exact this
    have CG : Hid (∀ (u : World) (r n : Nat), RgAt u 48 r l c → Calls Tryd.prog 18 #[.pointer (some ⟨r, 0, none⟩), .int .i64 (n : Int)] u fun e w' => ∃ ao cap, e = .returned (.slice ao (rangesP l c n).length cap) ∧ Below u.heap.size u w') := fun u r n h => (rangesR_any h ok n).mono fun e w' ⟨ao, cap, he, _, hb⟩ => by
      rw [rgT_nat] at he
      exact ⟨ao, cap, he, hb⟩
    have hKl : K < l.length := by rw [hK]; exact rngP_lt t0 hpos
    have F1 : 0 < K → t0 ≤ tokAt l K ∧ ¬ t0 ≤ tokAt l (K - 1) := fun h => by
      rw [hK] at h ⊢
      have hlt := rngP_lt t0 hpos
      have h2 := rngP_in t0 h
      have e1 : l[rngP l t0]? = some l[rngP l t0] := List.getElem?_eq_getElem hlt
      have e2 : l[rngP l t0 - 1]? = some l[rngP l t0 - 1] := List.getElem?_eq_getElem (by omega)
      have g1 := h2.1 _ e1
      have g2 := h2.2 _ e2
      have q1 : tokAt l (rngP l t0) = l[rngP l t0].tok := by simp [tokAt, List.getD, e1]
      have q2 : tokAt l (rngP l t0 - 1) = l[rngP l t0 - 1].tok := by simp [tokAt, List.getD, e2]
      rw [q1, q2]
      exact ⟨g1, by omega⟩
    have F2 : K = 0 → t0 ≤ tokAt l 0 ∨ tokAt l (l.length - 1) < t0 := fun h => by
      rw [hK] at h
      have e1 : l[0]? = some l[0] := List.getElem?_eq_getElem hpos
      have e2 : l[l.length - 1]? = some l[l.length - 1] := List.getElem?_eq_getElem (by omega)
      have q1 : tokAt l 0 = l[0].tok := by simp [tokAt, List.getD, e1]
      have q2 : tokAt l (l.length - 1) = l[l.length - 1].tok := by simp [tokAt, List.getD, e2]
      rw [q1, q2]
      exact rngP_zero h e1 e2
    have hKR : Hid (∀ (w2 w3 : World) (r g : Nat), RgAt w2 48 r l c → Below w1.heap.size w1 w2 → PSees w3 (some ⟨g, 0, none⟩) l → Below w2.heap.size w2 w3 → KR w w3 r g l N t c) := fun w2 w3 r g h1 h2 h3 h4 => by
      have h5 := h2.trans (h4.mono h2.size)
      exact ⟨hB1.trans (h5.mono hB1.size), hb1.carry (h5.block _ hb1.lt), h1.to h4, h3⟩
    clear hb1 hB1 hlen hok
    have hNz : (N : Int) ≤ 5 := by omega
    have htz : (t : Int) ≤ 8 := by omega
    have hlz : (l.length : Int) ≤ 40 := by omega
    have hKz : (K : Int) < (l.length : Int) := by omega
    have HOK : Hid (RgOk l N c) := ok
    clear ok hK
    go_enter Tryd.func5, Tryd.ntmps5
    go_upto_region 1 with fail
    rw [HE.out]
    clear HE
    go_upto_region 6 with (first | (go_at_call 8; refine NW.out.mono ?_; rintro e w2 ⟨r, rfl, hR2, hB2⟩) | (go_at_call 11; refine (CP.out w2 r hR2).mono ?_; rintro e w3 ⟨g, cap, rfl, hP3, hB3⟩; have k3 := hKR.out w2 w3 r g hR2 hB2 hP3 hB3; clear hR2 hB2 hP3 hB3 hKR b0 b1 b2) | (go_at_call 13; refine (CR.out w3 r k3.rg).mono ?_; rintro e w4 ⟨rfl, hB4⟩; have k4 := k3.to hB4; clear k3 hB4))
    obtain ⟨b0, b1, b2⟩ := k4.at0
    have hK0 : ¬ (K : Int) < 0 := by omega
    have hKN : ¬ l.length ≤ K := by omega
    go_upto_region 8 with fail
    go_cut [92] from 16 (fun s92 wx => s92 = .bool false ∧ wx = w4)
    case first =>
      clear NW CP CR CQ CH CG L HOK
      by_cases hk : 0 < K
      · obtain ⟨f1, f2⟩ := F1 hk
        obtain ⟨c1, -⟩ := k4.pt hKl
        obtain ⟨c2, -⟩ := k4.pt (i := K - 1) (by omega)
        obtain ⟨J, rfl⟩ : ∃ J, K = J + 1 := ⟨K - 1, by omega⟩
        rw [Nat.add_sub_cancel] at f2 c2
        have hJ1 : ((J + 1 : Nat) : Int) = (J : Int) + 1 := by omega
        rw [hJ1] at *
        generalize tokAt l (J + 1) = T1 at *
        generalize tokAt l J = T2 at *
        have hJl : (J : Int) < (l.length : Int) := by omega
        have hJ2 : (J : Int) + 1 < (l.length : Int) := by omega
        have f3 : ¬ T1 < t0 := by omega
        have f4 : ¬ (J : Int) + 1 = 0 := by omega
        have f5 : (0 : Int) < (J : Int) + 1 := by omega
        clear F1 F2 k4
        go_wp2_with fail
        go_meet
        case rel => exact ⟨by first | rfl | exact congrArg Value.bool (decide_eq_false (by omega)), rfl⟩
      · obtain rfl : K = 0 := by omega
        obtain ⟨c1, -⟩ := k4.pt hpos
        obtain ⟨c2, -⟩ := k4.pt (i := l.length - 1) (by omega)
        have hl1 : ((l.length - 1 : Nat) : Int) = (l.length : Int) - 1 := by omega
        have hF := F2 rfl
        generalize tokAt l 0 = T1 at *
        generalize tokAt l (l.length - 1) = T2 at *
        clear F1 F2 k4
        by_cases h1 : T1 < t0
        · have h2 : ¬ t0 ≤ T2 := by omega
          go_wp2_with fail
          go_meet
          case rel => exact ⟨rfl, rfl⟩
        · go_wp2_with fail
          go_meet
          case rel => exact ⟨rfl, rfl⟩
    case rest =>
      obtain ⟨rfl, hwc⟩ := hcut
      obtain rfl := hwc.symm
      clear hwc F1 F2 NW CP CR
      go_wp2_with fail
      go_loopw [95] (fun s95 wr => ∃ i : Nat, i ≤ l.length ∧ s95 = .int .i64 (i : Int) ∧ KR w wr r g l N t c) (fun s95 _ => l.length - (intOf s95).toNat)
      case atStart => exact ⟨0, by omega, rfl, k4⟩
      case round =>
        obtain ⟨i, hi, rfl, k5⟩ := hrel
        clear k4 b0 b1 b2
        rcases Nat.lt_or_ge i l.length with hlt | hge
        · have hltz : (i : Int) < (l.length : Int) := by omega
          have Q := CQ.out wr r i k5.rg hlt
          have HQ : Hid (Calls Tryd.prog 16 #[.pointer (some ⟨r, 0, none⟩), .int .i64 (i : Int)] wr fun e w' => ∃ b o cap, e = .returned (.slice (some ⟨b, o, none⟩) c cap) ∧ ISees w' (some ⟨b, o, none⟩) (zs (repsP l c i)) ∧ Below wr.heap.size wr w' ∧ c ≤ cap) := Q
          clear Q
          have hhead := reps_head HOK.out hlt
          have hnod : (repsP l c i).Nodup := repS_nodup l c i _
          have hrl := reps_len HOK.out hlt
          have hnd : ∀ x ∈ repsP l c i, 1 ≤ x ∧ x ≤ N := repS_nd HOK.out _
          have HH : Hid (∀ (u : World) (n : Nat), RgAt u 48 r l c → n ∈ repsP l c i → Calls Tryd.prog 20 #[.pointer (some ⟨r, 0, none⟩), .int .i64 (i : Int), .int .i64 (n : Int)] u fun e w' => e = .returned (.bool true) ∧ Below u.heap.size u w') := fun u n h hn => CH.out u r i n h hlt hn
          generalize repsP l c i = R at *
          go_upto_region 15 with (go_at_call 16; refine HQ.out.mono ?_; rintro e w5 ⟨b, o, cap5, rfl, hI, hB5, hcp⟩; have k6 := k5.to hB5; clear k5 hB5 HQ)
          obtain ⟨b0, b1, b2⟩ := k6.at0
          obtain ⟨-, d1⟩ := k6.pt hlt
          have e0 : w5.cell? ⟨b, o, none⟩ = some (.int .i64 (ndAt l i : Int)) := by
            obtain ⟨b', o', e, h⟩ := hI 0 _ (zs_at hhead)
            cases e
            exact h
          have hc1z : (0 : Int) < (c : Int) := by omega
          generalize ndAt l i = nd at *
          go_region
          have k7 := k6.drew
          have hI7 : ISees w5.drew (some ⟨b, o, none⟩) (zs R) := hI
          generalize w5.drew = w6 at *
          clear k6 hI e0 d1 b0 b1 b2 hhead
          go_wp2_with fail
          go_loopw [119] (fun s119 wi => ∃ a : Nat, a ≤ c ∧ s119 = .int .i64 (a : Int) ∧ KR w wi r g l N t c ∧ ISees wi (some ⟨b, o, none⟩) (zs R)) (fun s119 _ => c - (intOf s119).toNat)
          case atStart => exact ⟨0, by omega, rfl, k7, hI7⟩
          case round =>
            obtain ⟨a, ha, rfl, k8, hI8⟩ := hrel
            clear k7 hI7
            rcases Nat.lt_or_ge a c with halt | hage
            · have haR : a < R.length := by omega
              have hca : R[a]? = some R[a] := List.getElem?_eq_getElem haR
              have hmem : R[a] ∈ R := List.getElem_mem haR
              have hbn := hnd _ hmem
              have e0 : wr.cell? ⟨b, o + a, none⟩ = some (.int .i64 (R[a] : Int)) := by
                obtain ⟨b', o', e, h⟩ := hI8 a _ (zs_at hca)
                cases e
                exact h
              have HU : Hid (∀ j x, j < a → R[j]? = some x → ¬ x = R[a]) := fun j x hj hx he => by
                have hj2 : j < R.length := by omega
                have h1 : R[j] = x := by rw [List.getElem?_eq_getElem hj2] at hx; exact Option.some.inj hx
                exact List.pairwise_iff_getElem.1 hnod j a hj2 haR hj (h1.trans he)
              have H1 : Hid (Calls Tryd.prog 20 #[.pointer (some ⟨r, 0, none⟩), .int .i64 (i : Int), .int .i64 (R[a] : Int)] wr fun e w' => e = .returned (.bool true) ∧ Below wr.heap.size wr w') := HH.out wr _ k8.rg hmem
              generalize R[a] = n at *
              obtain ⟨b0, b1, b2⟩ := k8.at0
              have haz : (a : Int) < (c : Int) := by omega
              have hn1 : ¬ (n : Int) < 1 := by omega
              have hn2 : ¬ (N : Int) < (n : Int) := by omega
              have hn3 : ¬ N < n := by omega
              have hacp : (a : Int) ≤ (cap5 : Int) := by omega
              have hn0 : ¬ n = 0 := by omega
              clear hmem hbn CQ CH CG HH L
              go_wp2_with (go_at_call 20; refine H1.out.mono ?_; rintro e w7 ⟨rfl, hB7⟩; have k9 := k8.to hB7; have hI9 := hI8.below hB7 (Nat.le_refl _); clear k8 hI8 hB7 H1)
              go_loopw [143] (fun s143 wj => ∃ j : Nat, j ≤ a ∧ s143 = .int .i64 (j : Int) ∧ wj = w7) (fun s143 _ => a - (intOf s143).toNat)
              case atStart => exact ⟨0, by omega, rfl, rfl⟩
              case round =>
                obtain ⟨j, hj, rfl, hwj⟩ := hrel
                obtain rfl := hwj.symm
                clear hwj
                rcases Nat.lt_or_ge j a with hja | hja
                · have hjR : j < R.length := by omega
                  have hcj : R[j]? = some R[j] := List.getElem?_eq_getElem hjR
                  have hne := HU.out j _ hja hcj
                  obtain ⟨b', o', e, d0⟩ := hI9 j _ (zs_at hcj)
                  cases e
                  generalize R[j] = m at *
                  have hjz : (j : Int) < (a : Int) := by omega
                  have hnez : ¬ (m : Int) = (n : Int) := by omega
                  go_wp2_with fail
                  go_roundw
                  case rel => exact ⟨j + 1, by omega, by go_num, by first | rfl | trivial⟩
                  case measure => (simp [intOf]; try omega)
                · have hjz : ¬ (j : Int) < (a : Int) := by omega
                  go_wp2_with fail
                  go_roundw
                  case rel => exact ⟨a + 1, by omega, by go_num, k9, hI9⟩
                  case measure => (simp [intOf]; try omega)
            · have haz : ¬ (a : Int) < (c : Int) := by omega
              clear CQ CH CG HH L
              go_wp2_with fail
              go_roundw
              case rel => exact ⟨i + 1, by omega, by go_num, k8⟩
              case measure => (simp [intOf]; try omega)
        · have hltz : ¬ (i : Int) < (l.length : Int) := by omega
          have hheld := held_all HOK.out
          clear CQ CH
          go_wp2_with fail
          go_loopw [8, 15] (fun s8 s15 wi => ∃ n : Nat, n ≤ N ∧ s8 = .int .i64 (heldP l c n : Int) ∧ s15 = .int .i64 ((n : Int) + 1) ∧ KR w wi r g l N t c) (fun _ s15 _ => N + 1 - (intOf s15).toNat)
          case atStart => exact ⟨0, by omega, rfl, rfl, k5⟩
          case round =>
            obtain ⟨n, hn, rfl, rfl, k6⟩ := hrel
            clear k5
            obtain ⟨b0, b1, b2⟩ := k6.at0
            rcases Nat.lt_or_ge n N with hnN | hnN
            · have hnz : (n : Int) + 1 ≤ (N : Int) := by omega
              have G : Hid (Calls Tryd.prog 18 #[.pointer (some ⟨r, 0, none⟩), .int .i64 ((n : Int) + 1)] wr fun e w' => ∃ ao cap, e = .returned (.slice ao (rangesP l c (n + 1)).length cap) ∧ Below wr.heap.size wr w') := CG.out wr r (n + 1) k6.rg
              have hs : heldP l c (n + 1) = heldP l c n + (rangesP l c (n + 1)).length := rfl
              have hr1 : (rangesP l c (n + 1)).length ≤ 40 := by
                have := List.length_filter_le (fun i => decide (n + 1 ∈ repsP l c i)) (List.range l.length)
                rw [List.length_range] at this
                exact Nat.le_trans this hl40
              have hr2 : heldP l c n ≤ n * 40 := held_le hl40 n
              have HS : Hid ((heldP l c (n + 1) : Int) = (heldP l c n : Int) + ((rangesP l c (n + 1)).length : Int)) := by
                show _ = _
                rw [hs]; omega
              generalize heldP l c n = P at *
              generalize (rangesP l c (n + 1)).length = q at *
              have hPz : (P : Int) ≤ 200 := by omega
              have hqz : (q : Int) ≤ 40 := by omega
              clear hs L CG
              go_wp2_with (go_at_call 18; refine G.out.mono ?_; rintro e w7 ⟨ao, cap7, rfl, hB7⟩; have k7 := k6.to hB7)
              go_roundw
              case rel => exact ⟨n + 1, by omega, by rw [HS.out], by go_num, k7⟩
              case measure => (simp [intOf]; try omega)
            · obtain rfl : n = N := by omega
              have hnz : ¬ (n : Int) + 1 ≤ (n : Int) := by omega
              rw [hheld]
              have hc5 : c ≤ 5 := by omega
              have hmm : l.length * c ≤ 40 * 5 := Nat.mul_le_mul hl40 hc5
              have hmz : (l.length : Int) * (c : Int) = ((l.length * c : Nat) : Int) := (Int.natCast_mul _ _).symm
              generalize l.length * c = M at *
              have hMz : (M : Int) ≤ 200 := by omega
              clear hheld CG
              go_wp2_with (go_at_call 10; refine (L.out _).mono ?_; rintro e w7 ⟨rfl, hB7⟩)
              go_ret
              exact ⟨rfl, (k6.to hB7).bel⟩
  · have NW : Hid (Calls Tryd.prog 8 #[.int .i64 x, .int .i64 y, .int .i64 z] w1 fun e w' => e = .returned (.pointer none) ∧ w' = w1) := newR_bad x y z hok w1
    clear hb1 hok
    go_enter Tryd.func5, Tryd.ntmps5
    go_upto_region 1 with fail
    rw [HE.out]
    clear HE
    go_wp2_with (first | (go_at_call 8; refine NW.out.mono ?_; rintro e w2 ⟨rfl, hw⟩; obtain rfl := hw.symm; clear hw) | (go_at_call 10; refine (L.out _).mono ?_; rintro e w7 ⟨rfl, hB7⟩))
    go_ret
    exact ⟨rfl, hB1.trans (hB7.mono hB1.size)⟩
end Go.Proofs.YtcnceipkoapcpaaDoor.ringWhole

/-
  THE LAW RingAll: the walk.
-/
import Derived.Test.YtcnceipkoapcpaaDoorRngLives
import Derived.Test.YtcnceipkoapcpaaDoorRngMath
import Derived.Deep.Cut
import Derived.Deep.CutRange
import Derived.Test.YtcnceipkoapcpaaDoorLoud
namespace Go.Proofs.YtcnceipkoapcpaaDoor.ringAll
open Go.RowKit

attribute [local go_sem] Oper.pureAt Oper.pureUpon

/-- What stays through the law's loops. -/
structure KA (w0 w : World) (ra ro g : Nat) (l : List Pt) (N : Nat) : Prop where
  bel : Below w0.heap.size w0 w
  al : RgAt w 48 ra l N
  on : RgAt w 48 ro l 1
  ps : PSees w (some ⟨g, 0, none⟩) l
theorem KA.to {w0 w w' : World} {ra ro g : Nat} {l : List Pt} {N : Nat} (h : KA w0 w ra ro g l N) (hb : Below w.heap.size w w') : KA w0 w' ra ro g l N :=
  ⟨h.bel.trans (hb.mono h.bel.size), h.al.to hb, h.on.to hb, h.ps.below hb (Nat.le_refl _)⟩
theorem KA.pt {w0 w : World} {ra ro g : Nat} {l : List Pt} {N : Nat} (h : KA w0 w ra ro g l N) {i : Nat} (hi : i < l.length) : w.cell? ⟨g, i * 2, none⟩ = some (.int .i64 (tokAt l i)) ∧ w.cell? ⟨g, i * 2 + 1, none⟩ = some (.int .i64 (ndAt l i : Int)) := by
  have hc : l[i]? = some l[i] := List.getElem?_eq_getElem hi
  obtain ⟨g', e, h1, h2⟩ := h.ps i _ hc
  cases e
  have e1 : tokAt l i = l[i].tok := by simp [tokAt, List.getD, hc]
  rw [e1, ndAt_at hc]
  exact ⟨h1, h2⟩
theorem one_sees (u : World) (n : Nat) : ISees (u.alloc (.cells #[.int .i64 (n : Int)] 3)) (some ⟨u.heap.size, 0, none⟩) (zs [n]) := fun i x hx => by
  have hk : Blk (u.alloc (.cells #[.int .i64 (n : Int)] 3)) u.heap.size (vI (zs [n])) 3 := Blk.new u _ _
  exact ⟨u.heap.size, 0, rfl, by rw [Nat.zero_add]; exact hk.cell i (vI_at hx)⟩
theorem tok_rise {l : List Pt} {N c : Nat} (ok : RgOk l N c) {i : Nat} (hi : i + 1 < l.length) : tokAt l i ≤ tokAt l (i + 1) := by
  have h1 : l[i]? = some l[i] := List.getElem?_eq_getElem (by omega)
  have h2 : l[i + 1]? = some l[i + 1] := List.getElem?_eq_getElem hi
  have e1 : tokAt l i = l[i].tok := by simp [tokAt, List.getD, h1]
  have e2 : tokAt l (i + 1) = l[i + 1].tok := by simp [tokAt, List.getD, h2]
  rw [e1, e2]
  exact leP_tok (List.pairwise_iff_getElem.1 ok.so i (i + 1) (by omega) hi (by omega))
set_option maxRecDepth 100000 in
set_option maxHeartbeats 40000000 in
theorem walk (a b : Nat) (w : World) (_ha : a ≤ 18446744073709551615) (_hb : b ≤ 18446744073709551615) :
    Calls Tryd.prog 7 #[.int .u64 (a : Int), .int .u64 (b : Int)] w fun e w' => e = .returned (.bool true) ∧ Below w.heap.size w w' := by
  have L : Hid (∀ u : World, Calls Tryd.prog 10 #[] u fun e w' => e = .returned (.bool true) ∧ Below u.heap.size u w') := lives15_any
  obtain ⟨p, hp⟩ : ∃ p, p = a % 5 := ⟨_, rfl⟩
  obtain ⟨q, hq⟩ : ∃ q, q = b % 8 := ⟨_, rfl⟩
  have hp5 : p < 5 := by omega
  have hq8 : q < 8 := by omega
  have hpt : Int.tmod (a : Int) 5 = (p : Int) := by rw [hp]; exact tmod_nat a 5
  have hqt : Int.tmod (b : Int) 8 = (q : Int) := by rw [hq]; exact tmod_nat b 8
  obtain ⟨N, hN⟩ : ∃ N, N = p + 1 := ⟨_, rfl⟩
  obtain ⟨t, ht⟩ : ∃ t, t = q + 1 := ⟨_, rfl⟩
  have hNz : (1 : Int) + (p : Int) = (N : Int) := by omega
  have htz : (1 : Int) + (q : Int) = (t : Int) := by omega
  have okA := ptsP_ok tkP (N := N) (t := t) (c := N) (by omega) (by omega) (by omega) (by omega) (by omega)
  have ok1 := ptsP_ok tkP (N := N) (t := t) (c := 1) (by omega) (by omega) (by omega) (by omega) (by omega)
  have hlen := ptsP_len tkP N t
  have NA : Hid (Calls Tryd.prog 8 #[.int .i64 (N : Int), .int .i64 (t : Int), .int .i64 (N : Int)] w fun e w' => ∃ r, e = .returned (.pointer (some ⟨r, 0, none⟩)) ∧ RgAt w' 48 r (ptsP tkP N t) N ∧ Below w.heap.size w w') :=
    (newR_ok N t N (by omega) (by omega) (by omega) (by omega) (by omega) w).mono fun e w' ⟨r, he, h1, h2, h3⟩ => ⟨r, he, h1, h3⟩
  have N1 : Hid (∀ u, Calls Tryd.prog 8 #[.int .i64 (N : Int), .int .i64 (t : Int), .int .i64 1] u fun e w' => ∃ r, e = .returned (.pointer (some ⟨r, 0, none⟩)) ∧ RgAt w' 48 r (ptsP tkP N t) 1 ∧ Below u.heap.size u w') :=
    fun u => (newR_ok N t 1 (by omega) (by omega) (by omega) (by omega) (by omega) u).mono fun e w' ⟨r, he, h1, h2, h3⟩ => ⟨r, he, h1, h3⟩
  have R1 : Hid (∀ m, 1 ≤ m → m ≤ N → (rangesP (ptsP tkP N t) 1 m).length = t) := fun m h1 h2 => ranges_one tkP ok1 h1 h2
  generalize ptsP tkP N t = l at *
  have hpos := okA.pos
  have hl40 := okA.le
  have hmul : (N : Int) * (t : Int) = (l.length : Int) := by rw [hlen]; exact (Int.natCast_mul N t).symm
  have CP : Hid (∀ (u : World) (r c : Nat), 1 ≤ c → RgAt u 48 r l c → Calls Tryd.prog 11 #[.pointer (some ⟨r, 0, none⟩)] u fun e w' => ∃ g cap, e = .returned (.slice (some ⟨g, 0, none⟩) l.length cap) ∧ PSees w' (some ⟨g, 0, none⟩) l ∧ Below u.heap.size u w') := fun u r c hc h => (pointsR_at h hc hl40).mono fun e w' ⟨ao, cap, he, hs, hb⟩ => by
    obtain ⟨g, rfl, -⟩ := hs 0 _ (List.getElem?_eq_getElem hpos)
    exact ⟨g, cap, he, hs, hb⟩
  have CQ : Hid (∀ (u : World) (r i : Nat), RgAt u 48 r l 1 → i < l.length → Calls Tryd.prog 16 #[.pointer (some ⟨r, 0, none⟩), .int .i64 (i : Int)] u fun e w' => ∃ ao cap, e = .returned (.slice ao 1 cap) ∧ ISees w' ao (zs [ndAt l i]) ∧ Below u.heap.size u w') := fun u r i h hi => (replicasR_in h ok1 i hi).mono fun e w' ⟨ao, cap, he, hs, hb, _⟩ => by
    rw [reps_one ok1 hi] at he hs
    exact ⟨ao, cap, he, hs, hb⟩
  have CI : Hid (∀ (u : World) (ao bo : Option Addr) (ca n : Nat), ISees u ao (zs [n]) → ISees u bo (zs [n]) → Calls Tryd.prog 15 #[.slice ao 1 ca, .slice bo 1 1] u fun e w' => e = .returned (.bool true) ∧ Below u.heap.size u w') := fun u ao bo ca n ha hb => ints_same ao bo (zs [n]) ca 1 u ha hb (by simp [zs])
  have HA : Hid (∀ (u : World) (r i m : Nat), RgAt u 48 r l N → i < l.length → 1 ≤ m → m ≤ N → Calls Tryd.prog 20 #[.pointer (some ⟨r, 0, none⟩), .int .i64 (i : Int), .int .i64 (m : Int)] u fun e w' => e = .returned (.bool true) ∧ Below u.heap.size u w') := fun u r i m h hi h1 h2 => by
    have := hasR_any h okA i m
    rw [repI_at l N hi, decide_eq_true (zs_mem.2 (reps_full okA hi h1 h2))] at this
    exact this
  have HO : Hid (∀ (u : World) (r i m : Nat), RgAt u 48 r l 1 → i < l.length → Calls Tryd.prog 20 #[.pointer (some ⟨r, 0, none⟩), .int .i64 (i : Int), .int .i64 (m : Int)] u fun e w' => e = .returned (.bool (decide (m = ndAt l i))) ∧ Below u.heap.size u w') := fun u r i m h hi => by
    have := hasR_any h ok1 i m
    rw [repI_at l 1 hi, reps_one ok1 hi] at this
    have e : decide ((m : Int) ∈ zs [ndAt l i]) = decide (m = ndAt l i) := decide_eq_decide.2 (zs_mem.trans List.mem_singleton)
    rwa [e] at this
  have GA : Hid (∀ (u : World) (r m : Nat), RgAt u 48 r l N → 1 ≤ m → m ≤ N → Calls Tryd.prog 18 #[.pointer (some ⟨r, 0, none⟩), .int .i64 (m : Int)] u fun e w' => ∃ ao cap, e = .returned (.slice ao l.length cap) ∧ Below u.heap.size u w') := fun u r m h h1 h2 => (rangesR_any h okA m).mono fun e w' ⟨ao, cap, he, _, hb⟩ => by
    rw [rgT_nat, ranges_full okA h1 h2] at he
    exact ⟨ao, cap, he, hb⟩
  have GO : Hid (∀ (u : World) (r m : Nat), RgAt u 48 r l 1 → 1 ≤ m → m ≤ N → Calls Tryd.prog 18 #[.pointer (some ⟨r, 0, none⟩), .int .i64 (m : Int)] u fun e w' => ∃ ao cap, e = .returned (.slice ao t cap) ∧ Below u.heap.size u w') := fun u r m h h1 h2 => (rangesR_any h ok1 m).mono fun e w' ⟨ao, cap, he, _, hb⟩ => by
    rw [rgT_nat, R1.out m h1 h2] at he
    exact ⟨ao, cap, he, hb⟩
  have HT : Hid (∀ i, i + 1 < l.length → tokAt l i ≤ tokAt l (i + 1)) := fun i hi => tok_rise okA hi
  have hN5 : N ≤ 5 := by omega
  have hN5z : (N : Int) ≤ 5 := by omega
  have ht8z : (t : Int) ≤ 8 := by omega
  have hlz : (l.length : Int) ≤ 40 := by omega
  have hN1 : 1 ≤ N := by omega
  clear okA ok1 R1 hlen hp hq hN ht
  go_enter Tryd.func7, Tryd.ntmps7
  go_upto_region 6 with (first | (go_at_call 8; refine NA.out.mono ?_; rintro e w2 ⟨ra, rfl, hA2, hB2⟩; clear NA) | (go_at_call 8; refine (N1.out w2).mono ?_; rintro e w3 ⟨ro, rfl, hO3, hB3⟩; have hA3 := hA2.to hB3; have B3 := hB2.trans (hB3.mono hB2.size); clear hA2 hB2 hB3) | (go_at_call_of 11 (Value.pointer (some ⟨ro, 0, none⟩)); refine (CP.out w3 ro 1 (Nat.le_refl 1) hO3).mono ?_; rintro e w4 ⟨g, cap, rfl, hP4, hB4⟩; have k4 : KA w w4 ra ro g l N := ⟨B3.trans (hB4.mono B3.size), hA3.to hB4, hO3.to hB4, hP4⟩; clear hA3 B3 hB4 hO3 hP4))
  clear N1 hpt hqt hNz htz hp5 hq8 _ha _hb
  go_cut [50] from 13 (fun s50 wx => s50 = .bool false ∧ KA w wx ra ro g l N)
  case first =>
    clear CQ CI HA HO GA GO HT L
    go_wp2_with (go_at_call 11; refine (CP.out w4 ra N hN1 k4.al).mono ?_; rintro e w5 ⟨g5, cap5, rfl, -, hB5⟩; have k5 := k4.to hB5; clear k4 hB5)
    go_meet
    case rel => exact ⟨rfl, k5⟩
  case rest =>
    obtain ⟨rfl, k5⟩ := hcut
    clear CP
    go_wp2_with fail
    go_loopw [53] (fun s53 wr => ∃ i : Nat, i ≤ l.length ∧ s53 = .int .i64 (i : Int) ∧ KA w wr ra ro g l N) (fun s53 _ => l.length - (intOf s53).toNat)
    case atStart => exact ⟨0, by omega, rfl, k5⟩
    case round =>
      obtain ⟨i, hi, rfl, k6⟩ := hrel
      clear k5
      rcases Nat.lt_or_ge i l.length with hlt | hge
      · have hltz : (i : Int) < (l.length : Int) := by omega
        clear GA GO L
        go_upto_region 11 with fail
        go_cut [84] from 56 to 84 (fun s84 wx => s84 = .bool false ∧ KA w wx ra ro g l N)
        case first =>
          have Q : Hid (∀ u, Below wr.heap.size wr u → Calls Tryd.prog 16 #[.pointer (some ⟨ro, 0, none⟩), .int .i64 (i : Int)] u fun e w' => ∃ ao cap, e = .returned (.slice ao 1 cap) ∧ ISees w' ao (zs [ndAt l i]) ∧ Below u.heap.size u w') := fun u hu => CQ.out u ro i (k6.to hu).on hlt
          have p0 : ∀ q : Cl wr.heap.size wr, q.u.cell? ⟨g, i * 2, none⟩ = some (.int .i64 (tokAt l i)) := fun q => ((k6.to q.h).pt hlt).1
          have p1 : ∀ q : Cl wr.heap.size wr, q.u.cell? ⟨g, i * 2 + 1, none⟩ = some (.int .i64 (ndAt l i : Int)) := fun q => ((k6.to q.h).pt hlt).2
          have HCW : Hid (∀ x, Below wr.heap.size wr x → ∃ p : Cl wr.heap.size wr, x = p.u) := fun x hx => ⟨⟨x, hx⟩, rfl⟩
          haveI := Cl.inh wr.heap.size wr
          generalize ndAt l i = nd at *
          clear CQ HA HO
          by_cases h0 : 0 < i
          · obtain ⟨j, rfl⟩ : ∃ j, i = j + 1 := ⟨i - 1, by omega⟩
            have p2 : ∀ q : Cl wr.heap.size wr, q.u.cell? ⟨g, j * 2, none⟩ = some (.int .i64 (tokAt l j)) := fun q => ((k6.to q.h).pt (by omega)).1
            have hT := HT.out j hlt
            have hj1 : ((j + 1 : Nat) : Int) = (j : Int) + 1 := by omega
            rw [hj1] at *
            have hjz : (j : Int) < (l.length : Int) := by omega
            have hwj : IntKind.i64.wrap (j : Int) = (j : Int) := by rw [IntKind.wrap_i64]; omega
            generalize tokAt l (j + 1) = T1 at *
            generalize tokAt l j = T0 at *
            have hT2 : ¬ T1 < T0 := by omega
            have h0z : (0 : Int) < (j : Int) + 1 := by omega
            have h0y : (0 : Int) ≤ (j : Int) + 1 := by omega
            have h0x : (j : Int) + 1 < (l.length : Int) := by omega
            clear HT hT hltz
            refine wp_region_C (fun x => ∃ p : Cl wr.heap.size wr, x = p.u) 29 _ (by kernel_rfl) ?_ (fun _ _ h => h)
            refine anyC_pure 0 rfl (by kernel_rfl) (by kernel_rfl) (by kernel_rfl) (HCW.out _ (Below.refl wr.heap.size wr).drew) (fun K hK => ?_)
            go_simp
            refine hK _ ?_
            clear hK K
            refine anyC_pure 1 rfl (by kernel_rfl) (by kernel_rfl) (by kernel_rfl) (HCW.out _ (Below.refl wr.heap.size wr).drew) (fun K hK => ?_)
            go_simp
            refine hK _ ?_
            clear hK K
            refine anyC_pure 2 rfl (by kernel_rfl) (by kernel_rfl) (by kernel_rfl) (HCW.out _ (Below.refl wr.heap.size wr).drew) (fun K hK => ?_)
            go_simp
            refine hK _ ?_
            clear hK K
            refine anyC_pure 3 rfl (by kernel_rfl) (by kernel_rfl) (by kernel_rfl) (HCW.out _ (Below.refl wr.heap.size wr).drew) (fun K hK => ?_)
            go_simp
            refine hK _ ?_
            clear hK K
            refine anyC_pure 4 rfl (by kernel_rfl) (by kernel_rfl) (by kernel_rfl) (HCW.out _ (Below.refl wr.heap.size wr).drew) (fun K hK => ?_)
            go_simp
            refine hK _ ?_
            clear hK K
            refine anyC_pure 5 rfl (by kernel_rfl) (by kernel_rfl) (by kernel_rfl) (HCW.out _ (Below.refl wr.heap.size wr).drew) (fun K hK => ?_)
            go_simp
            refine hK _ ?_
            clear hK K
            refine anyC_pure 6 rfl (by kernel_rfl) (by kernel_rfl) (by kernel_rfl) (HCW.out _ (Below.refl wr.heap.size wr).drew) (fun K hK => ?_)
            go_simp
            refine hK _ ?_
            clear hK K
            refine anyC_pure 7 rfl (by kernel_rfl) (by kernel_rfl) (by kernel_rfl) (HCW.out _ (Below.refl wr.heap.size wr).drew) (fun K hK => ?_)
            go_simp
            refine hK _ ?_
            clear hK K
            refine anyC_pure 8 rfl (by kernel_rfl) (by kernel_rfl) (by kernel_rfl) (HCW.out _ (Below.refl wr.heap.size wr).drew) (fun K hK => ?_)
            go_simp
            refine hK _ ?_
            clear hK K
            refine anyC_pure 9 rfl (by kernel_rfl) (by kernel_rfl) (by kernel_rfl) (HCW.out _ (Below.refl wr.heap.size wr).drew) (fun K hK => ?_)
            go_simp
            refine hK _ ?_
            clear hK K
            refine anyC_pure 10 rfl (by kernel_rfl) (by kernel_rfl) (by kernel_rfl) (HCW.out _ (Below.refl wr.heap.size wr).drew) (fun K hK => ?_)
            go_simp
            refine hK _ ?_
            clear hK K
            refine anyC_pure 11 rfl (by kernel_rfl) (by kernel_rfl) (by kernel_rfl) (HCW.out _ (Below.refl wr.heap.size wr).drew) (fun K hK => ?_)
            go_simp
            refine hK _ ?_
            clear hK K
            refine anyC_pure 12 rfl (by kernel_rfl) (by kernel_rfl) (by kernel_rfl) (HCW.out _ (Below.refl wr.heap.size wr).drew) (fun K hK => ?_)
            go_simp
            refine hK _ ?_
            clear hK K
            refine anyC_pure 13 rfl (by kernel_rfl) (by kernel_rfl) (by kernel_rfl) (HCW.out _ (Below.refl wr.heap.size wr).drew) (fun K hK => ?_)
            go_simp
            refine hK _ ?_
            clear hK K
            refine anyC_pure 14 rfl (by kernel_rfl) (by kernel_rfl) (by kernel_rfl) (HCW.out _ (Below.refl wr.heap.size wr).drew) (fun K hK => ?_)
            go_simp
            refine hK _ ?_
            clear hK K
            refine anyC_pure 15 rfl (by kernel_rfl) (by kernel_rfl) (by kernel_rfl) (HCW.out _ (Below.refl wr.heap.size wr).drew) (fun K hK => ?_)
            go_simp
            refine hK _ ?_
            clear hK K
            refine anyC_pure 16 rfl (by kernel_rfl) (by kernel_rfl) (by kernel_rfl) (HCW.out _ (Below.refl wr.heap.size wr).drew) (fun K hK => ?_)
            go_simp
            refine hK _ ?_
            clear hK K
            refine anyC_pure 17 rfl (by kernel_rfl) (by kernel_rfl) (by kernel_rfl) (HCW.out _ (Below.refl wr.heap.size wr).drew) (fun K hK => ?_)
            go_simp
            refine hK _ ?_
            clear hK K
            refine anyC_pure 18 rfl (by kernel_rfl) (by kernel_rfl) (by kernel_rfl) (HCW.out _ (Below.refl wr.heap.size wr).drew) (fun K hK => ?_)
            go_simp
            refine hK _ ?_
            clear hK K
            refine anyC_pure 20 rfl (by kernel_rfl) (by kernel_rfl) (by kernel_rfl) (HCW.out _ (Below.refl wr.heap.size wr).drew) (fun K hK => ?_)
            go_simp
            refine hK _ ?_
            clear hK K
            refine anyC_pure 21 rfl (by kernel_rfl) (by kernel_rfl) (by kernel_rfl) (HCW.out _ (Below.refl wr.heap.size wr).drew) (fun K hK => ?_)
            go_simp
            refine hK _ ?_
            clear hK K
            refine anyC_pure 22 rfl (by kernel_rfl) (by kernel_rfl) (by kernel_rfl) (HCW.out _ (Below.refl wr.heap.size wr).drew) (fun K hK => ?_)
            go_simp
            refine hK _ ?_
            clear hK K
            refine anyC_pure 23 rfl (by kernel_rfl) (by kernel_rfl) (by kernel_rfl) (HCW.out _ (Below.refl wr.heap.size wr).drew) (fun K hK => ?_)
            go_simp
            refine hK _ ?_
            clear hK K
            refine anyC_pure 24 rfl (by kernel_rfl) (by kernel_rfl) (by kernel_rfl) (HCW.out _ (Below.refl wr.heap.size wr).drew) (fun K hK => ?_)
            go_simp
            refine hK _ ?_
            clear hK K
            refine anyC_loud2 19 25 (by kernel_rfl) ?_ ?_
            · refine lou_of rfl (fun K hK => ?_)
              go_simp
              refine (Q.out _ (Below.refl wr.heap.size wr).drew).mono ?_
              rintro e x1 ⟨ao, ca, rfl, hI, hb⟩
              have b1 : Below wr.heap.size wr x1 := (Below.refl wr.heap.size wr).drew.trans hb
              refine hK _ _ ⟨fun _ => HCW.out _ b1, ?_⟩
              clear hK K
              refine anyC_loud 25 (by kernel_rfl) ?_
              refine lou_of rfl (fun K hK => ?_)
              go_simp
              have b2 : Below wr.heap.size wr (x1.alloc (.cells #[.int .i64 (nd : Int)] 3)) := b1.alloc b1.size _
              have hI2 : ISees (x1.alloc (.cells #[.int .i64 (nd : Int)] 3)) ao (zs [nd]) := hI.below ((Below.refl _ _).alloc (Nat.le_refl _) _) (Nat.le_refl _)
              have hk2 : ISees (x1.alloc (.cells #[.int .i64 (nd : Int)] 3)) (some ⟨x1.heap.size, 0, none⟩) (zs [nd]) := one_sees x1 nd
              refine hK _ _ ⟨fun _ => HCW.out _ b2, ?_⟩
              clear hK K
              refine anyC_loud 26 (by kernel_rfl) ?_
              refine lou_of rfl (fun K hK => ?_)
              go_simp
              refine (CI.out _ _ _ _ _ hI2 hk2).mono ?_
              rintro e x3 ⟨rfl, hb3⟩
              have b3 : Below wr.heap.size wr x3 := b2.trans (hb3.mono b2.size)
              refine hK _ _ ⟨fun _ => HCW.out _ b3, ?_⟩
              clear hK K
              refine anyC_pure 27 rfl (by kernel_rfl) (by kernel_rfl) (by kernel_rfl) (HCW.out _ b3) (fun K hK => ?_)
              go_simp
              refine hK _ ?_
              clear hK K
              refine anyC_pure 28 rfl (by kernel_rfl) (by kernel_rfl) (by kernel_rfl) (HCW.out _ b3) (fun K hK => ?_)
              go_simp
              refine hK _ ?_
              clear hK K
              refine anyC_done (by kernel_rfl) ?_
              go_wp2_with fail
              go_meet
              case rel => exact ⟨rfl, k6.to b3⟩
            · refine lou_of rfl (fun K hK => ?_)
              go_simp
              have b1 : Below wr.heap.size wr (wr.alloc (.cells #[.int .i64 (nd : Int)] 3)).drew := ((Below.refl _ _).alloc (Nat.le_refl _) _).drew
              have hk1 : ISees (wr.alloc (.cells #[.int .i64 (nd : Int)] 3)).drew (some ⟨wr.heap.size, 0, none⟩) (zs [nd]) := one_sees wr nd
              refine hK _ _ ⟨fun _ => HCW.out _ b1, ?_⟩
              clear hK K
              refine anyC_loud 19 (by kernel_rfl) ?_
              refine lou_of rfl (fun K hK => ?_)
              go_simp
              refine (Q.out _ b1).mono ?_
              rintro e x1 ⟨ao, ca, rfl, hI, hb⟩
              have b2 : Below wr.heap.size wr x1 := b1.trans (hb.mono b1.size)
              have hk2 : ISees x1 (some ⟨wr.heap.size, 0, none⟩) (zs [nd]) := hk1.below hb (Nat.le_refl _)
              refine hK _ _ ⟨fun _ => HCW.out _ b2, ?_⟩
              clear hK K
              refine anyC_loud 26 (by kernel_rfl) ?_
              refine lou_of rfl (fun K hK => ?_)
              go_simp
              refine (CI.out _ _ _ _ _ hI hk2).mono ?_
              rintro e x3 ⟨rfl, hb3⟩
              have b3 : Below wr.heap.size wr x3 := b2.trans (hb3.mono b2.size)
              refine hK _ _ ⟨fun _ => HCW.out _ b3, ?_⟩
              clear hK K
              refine anyC_pure 27 rfl (by kernel_rfl) (by kernel_rfl) (by kernel_rfl) (HCW.out _ b3) (fun K hK => ?_)
              go_simp
              refine hK _ ?_
              clear hK K
              refine anyC_pure 28 rfl (by kernel_rfl) (by kernel_rfl) (by kernel_rfl) (HCW.out _ b3) (fun K hK => ?_)
              go_simp
              refine hK _ ?_
              clear hK K
              refine anyC_done (by kernel_rfl) ?_
              go_wp2_with fail
              go_meet
              case rel => exact ⟨rfl, k6.to b3⟩
          · obtain rfl : i = 0 := by omega
            clear HT
            refine wp_region_C (fun x => ∃ p : Cl wr.heap.size wr, x = p.u) 29 _ (by kernel_rfl) ?_ (fun _ _ h => h)
            refine anyC_pure 0 rfl (by kernel_rfl) (by kernel_rfl) (by kernel_rfl) (HCW.out _ (Below.refl wr.heap.size wr).drew) (fun K hK => ?_)
            go_simp
            refine hK _ ?_
            clear hK K
            refine anyC_pure 1 rfl (by kernel_rfl) (by kernel_rfl) (by kernel_rfl) (HCW.out _ (Below.refl wr.heap.size wr).drew) (fun K hK => ?_)
            go_simp
            refine hK _ ?_
            clear hK K
            refine anyC_pure 2 rfl (by kernel_rfl) (by kernel_rfl) (by kernel_rfl) (HCW.out _ (Below.refl wr.heap.size wr).drew) (fun K hK => ?_)
            go_simp
            refine hK _ ?_
            clear hK K
            refine anyC_pure 3 rfl (by kernel_rfl) (by kernel_rfl) (by kernel_rfl) (HCW.out _ (Below.refl wr.heap.size wr).drew) (fun K hK => ?_)
            go_simp
            refine hK _ ?_
            clear hK K
            refine anyC_pure 4 rfl (by kernel_rfl) (by kernel_rfl) (by kernel_rfl) (HCW.out _ (Below.refl wr.heap.size wr).drew) (fun K hK => ?_)
            go_simp
            refine hK _ ?_
            clear hK K
            refine anyC_pure 5 rfl (by kernel_rfl) (by kernel_rfl) (by kernel_rfl) (HCW.out _ (Below.refl wr.heap.size wr).drew) (fun K hK => ?_)
            go_simp
            refine hK _ ?_
            clear hK K
            refine anyC_pure 6 rfl (by kernel_rfl) (by kernel_rfl) (by kernel_rfl) (HCW.out _ (Below.refl wr.heap.size wr).drew) (fun K hK => ?_)
            go_simp
            refine hK _ ?_
            clear hK K
            refine anyC_pure 7 rfl (by kernel_rfl) (by kernel_rfl) (by kernel_rfl) (HCW.out _ (Below.refl wr.heap.size wr).drew) (fun K hK => ?_)
            go_simp
            refine hK _ ?_
            clear hK K
            refine anyC_pure 8 rfl (by kernel_rfl) (by kernel_rfl) (by kernel_rfl) (HCW.out _ (Below.refl wr.heap.size wr).drew) (fun K hK => ?_)
            go_simp
            refine hK _ ?_
            clear hK K
            refine anyC_pure 9 rfl (by kernel_rfl) (by kernel_rfl) (by kernel_rfl) (HCW.out _ (Below.refl wr.heap.size wr).drew) (fun K hK => ?_)
            go_simp
            refine hK _ ?_
            clear hK K
            refine anyC_pure 10 rfl (by kernel_rfl) (by kernel_rfl) (by kernel_rfl) (HCW.out _ (Below.refl wr.heap.size wr).drew) (fun K hK => ?_)
            go_simp
            refine hK _ ?_
            clear hK K
            refine anyC_pure 11 rfl (by kernel_rfl) (by kernel_rfl) (by kernel_rfl) (HCW.out _ (Below.refl wr.heap.size wr).drew) (fun K hK => ?_)
            go_simp
            refine hK _ ?_
            clear hK K
            refine anyC_pure 12 rfl (by kernel_rfl) (by kernel_rfl) (by kernel_rfl) (HCW.out _ (Below.refl wr.heap.size wr).drew) (fun K hK => ?_)
            go_simp
            refine hK _ ?_
            clear hK K
            refine anyC_pure 13 rfl (by kernel_rfl) (by kernel_rfl) (by kernel_rfl) (HCW.out _ (Below.refl wr.heap.size wr).drew) (fun K hK => ?_)
            go_simp
            refine hK _ ?_
            clear hK K
            refine anyC_pure 14 rfl (by kernel_rfl) (by kernel_rfl) (by kernel_rfl) (HCW.out _ (Below.refl wr.heap.size wr).drew) (fun K hK => ?_)
            go_simp
            refine hK _ ?_
            clear hK K
            refine anyC_pure 15 rfl (by kernel_rfl) (by kernel_rfl) (by kernel_rfl) (HCW.out _ (Below.refl wr.heap.size wr).drew) (fun K hK => ?_)
            go_simp
            refine hK _ ?_
            clear hK K
            refine anyC_pure 16 rfl (by kernel_rfl) (by kernel_rfl) (by kernel_rfl) (HCW.out _ (Below.refl wr.heap.size wr).drew) (fun K hK => ?_)
            go_simp
            refine hK _ ?_
            clear hK K
            refine anyC_pure 17 rfl (by kernel_rfl) (by kernel_rfl) (by kernel_rfl) (HCW.out _ (Below.refl wr.heap.size wr).drew) (fun K hK => ?_)
            go_simp
            refine hK _ ?_
            clear hK K
            refine anyC_pure 18 rfl (by kernel_rfl) (by kernel_rfl) (by kernel_rfl) (HCW.out _ (Below.refl wr.heap.size wr).drew) (fun K hK => ?_)
            go_simp
            refine hK _ ?_
            clear hK K
            refine anyC_pure 20 rfl (by kernel_rfl) (by kernel_rfl) (by kernel_rfl) (HCW.out _ (Below.refl wr.heap.size wr).drew) (fun K hK => ?_)
            go_simp
            refine hK _ ?_
            clear hK K
            refine anyC_pure 21 rfl (by kernel_rfl) (by kernel_rfl) (by kernel_rfl) (HCW.out _ (Below.refl wr.heap.size wr).drew) (fun K hK => ?_)
            go_simp
            refine hK _ ?_
            clear hK K
            refine anyC_pure 22 rfl (by kernel_rfl) (by kernel_rfl) (by kernel_rfl) (HCW.out _ (Below.refl wr.heap.size wr).drew) (fun K hK => ?_)
            go_simp
            refine hK _ ?_
            clear hK K
            refine anyC_pure 23 rfl (by kernel_rfl) (by kernel_rfl) (by kernel_rfl) (HCW.out _ (Below.refl wr.heap.size wr).drew) (fun K hK => ?_)
            go_simp
            refine hK _ ?_
            clear hK K
            refine anyC_pure 24 rfl (by kernel_rfl) (by kernel_rfl) (by kernel_rfl) (HCW.out _ (Below.refl wr.heap.size wr).drew) (fun K hK => ?_)
            go_simp
            refine hK _ ?_
            clear hK K
            refine anyC_loud2 19 25 (by kernel_rfl) ?_ ?_
            · refine lou_of rfl (fun K hK => ?_)
              go_simp
              refine (Q.out _ (Below.refl wr.heap.size wr).drew).mono ?_
              rintro e x1 ⟨ao, ca, rfl, hI, hb⟩
              have b1 : Below wr.heap.size wr x1 := (Below.refl wr.heap.size wr).drew.trans hb
              refine hK _ _ ⟨fun _ => HCW.out _ b1, ?_⟩
              clear hK K
              refine anyC_loud 25 (by kernel_rfl) ?_
              refine lou_of rfl (fun K hK => ?_)
              go_simp
              have b2 : Below wr.heap.size wr (x1.alloc (.cells #[.int .i64 (nd : Int)] 3)) := b1.alloc b1.size _
              have hI2 : ISees (x1.alloc (.cells #[.int .i64 (nd : Int)] 3)) ao (zs [nd]) := hI.below ((Below.refl _ _).alloc (Nat.le_refl _) _) (Nat.le_refl _)
              have hk2 : ISees (x1.alloc (.cells #[.int .i64 (nd : Int)] 3)) (some ⟨x1.heap.size, 0, none⟩) (zs [nd]) := one_sees x1 nd
              refine hK _ _ ⟨fun _ => HCW.out _ b2, ?_⟩
              clear hK K
              refine anyC_loud 26 (by kernel_rfl) ?_
              refine lou_of rfl (fun K hK => ?_)
              go_simp
              refine (CI.out _ _ _ _ _ hI2 hk2).mono ?_
              rintro e x3 ⟨rfl, hb3⟩
              have b3 : Below wr.heap.size wr x3 := b2.trans (hb3.mono b2.size)
              refine hK _ _ ⟨fun _ => HCW.out _ b3, ?_⟩
              clear hK K
              refine anyC_pure 27 rfl (by kernel_rfl) (by kernel_rfl) (by kernel_rfl) (HCW.out _ b3) (fun K hK => ?_)
              go_simp
              refine hK _ ?_
              clear hK K
              refine anyC_pure 28 rfl (by kernel_rfl) (by kernel_rfl) (by kernel_rfl) (HCW.out _ b3) (fun K hK => ?_)
              go_simp
              refine hK _ ?_
              clear hK K
              refine anyC_done (by kernel_rfl) ?_
              go_wp2_with fail
              go_meet
              case rel => exact ⟨rfl, k6.to b3⟩
            · refine lou_of rfl (fun K hK => ?_)
              go_simp
              have b1 : Below wr.heap.size wr (wr.alloc (.cells #[.int .i64 (nd : Int)] 3)).drew := ((Below.refl _ _).alloc (Nat.le_refl _) _).drew
              have hk1 : ISees (wr.alloc (.cells #[.int .i64 (nd : Int)] 3)).drew (some ⟨wr.heap.size, 0, none⟩) (zs [nd]) := one_sees wr nd
              refine hK _ _ ⟨fun _ => HCW.out _ b1, ?_⟩
              clear hK K
              refine anyC_loud 19 (by kernel_rfl) ?_
              refine lou_of rfl (fun K hK => ?_)
              go_simp
              refine (Q.out _ b1).mono ?_
              rintro e x1 ⟨ao, ca, rfl, hI, hb⟩
              have b2 : Below wr.heap.size wr x1 := b1.trans (hb.mono b1.size)
              have hk2 : ISees x1 (some ⟨wr.heap.size, 0, none⟩) (zs [nd]) := hk1.below hb (Nat.le_refl _)
              refine hK _ _ ⟨fun _ => HCW.out _ b2, ?_⟩
              clear hK K
              refine anyC_loud 26 (by kernel_rfl) ?_
              refine lou_of rfl (fun K hK => ?_)
              go_simp
              refine (CI.out _ _ _ _ _ hI hk2).mono ?_
              rintro e x3 ⟨rfl, hb3⟩
              have b3 : Below wr.heap.size wr x3 := b2.trans (hb3.mono b2.size)
              refine hK _ _ ⟨fun _ => HCW.out _ b3, ?_⟩
              clear hK K
              refine anyC_pure 27 rfl (by kernel_rfl) (by kernel_rfl) (by kernel_rfl) (HCW.out _ b3) (fun K hK => ?_)
              go_simp
              refine hK _ ?_
              clear hK K
              refine anyC_pure 28 rfl (by kernel_rfl) (by kernel_rfl) (by kernel_rfl) (HCW.out _ b3) (fun K hK => ?_)
              go_simp
              refine hK _ ?_
              clear hK K
              refine anyC_done (by kernel_rfl) ?_
              go_wp2_with fail
              go_meet
              case rel => exact ⟨rfl, k6.to b3⟩
        case rest =>
          obtain ⟨rfl, k7⟩ := hcut
          clear k6 CQ CI HT
          go_wp2_with fail
          go_loopw [11] (fun s11 wi => ∃ m : Nat, m ≤ N ∧ s11 = .int .i64 ((m : Int) + 1) ∧ KA w wi ra ro g l N) (fun s11 _ => N + 1 - (intOf s11).toNat)
          case atStart => exact ⟨0, by omega, rfl, k7⟩
          case round =>
            obtain ⟨m, hm, rfl, k8⟩ := hrel
            clear k7
            rcases Nat.lt_or_ge m N with hmN | hmN
            · have hmz : (m : Int) + 1 ≤ (N : Int) := by omega
              have P1 : Hid (∀ q : Cl wr.heap.size wr, Calls Tryd.prog 20 #[.pointer (some ⟨ra, 0, none⟩), .int .i64 (i : Int), .int .i64 ((m : Int) + 1)] q.u fun e w'' => e = .returned (.bool true) ∧ ∃ q' : Cl wr.heap.size wr, w'' = q'.u) := fun q => Cl.calls (Nat.le_refl _) (HA.out q.u ra i (m + 1) (k8.to q.h).al hlt (by omega) (by omega))
              have P2 : Hid (∀ q : Cl wr.heap.size wr, Calls Tryd.prog 20 #[.pointer (some ⟨ro, 0, none⟩), .int .i64 (i : Int), .int .i64 ((m : Int) + 1)] q.u fun e w'' => e = .returned (.bool (decide (m + 1 = ndAt l i))) ∧ ∃ q' : Cl wr.heap.size wr, w'' = q'.u) := fun q => Cl.calls (Nat.le_refl _) (HO.out q.u ro i (m + 1) (k8.to q.h).on hlt)
              have p1 : ∀ q : Cl wr.heap.size wr, q.u.cell? ⟨g, i * 2 + 1, none⟩ = some (.int .i64 (ndAt l i : Int)) := fun q => ((k8.to q.h).pt hlt).2
              generalize ndAt l i = nd at *
              haveI := Cl.inh wr.heap.size wr
              clear HA HO
              by_cases hnd : m + 1 = nd
              · rw [decide_eq_true hnd] at P2
                subst hnd
                have hm1 : ((m + 1 : Nat) : Int) = (m : Int) + 1 := by omega
                rw [hm1] at p1
                go_wp2_with fail
                refine wp_region_cl wr.heap.size (by kernel_rfl) (by kernel_rfl) ?_
                repeat (quiet_step (first | (go_at_call_of 20 (Value.pointer (some ⟨ra, 0, none⟩)); exact P1.out _) | (go_at_call_of 20 (Value.pointer (some ⟨ro, 0, none⟩)); exact P2.out _)))
                refine wpQuiet_nil ?_
                rintro w0 ⟨z, rfl⟩
                have k9 := k8.to z.h
                go_wp2_with fail
                go_roundw
                case rel => exact ⟨m + 1, by omega, by go_num, k9⟩
                case measure => (simp [intOf]; try omega)
              · rw [decide_eq_false hnd] at P2
                have hndz : ¬ (m : Int) + 1 = (nd : Int) := by omega
                go_wp2_with fail
                refine wp_region_cl wr.heap.size (by kernel_rfl) (by kernel_rfl) ?_
                repeat (quiet_step (first | (go_at_call_of 20 (Value.pointer (some ⟨ra, 0, none⟩)); exact P1.out _) | (go_at_call_of 20 (Value.pointer (some ⟨ro, 0, none⟩)); exact P2.out _)))
                refine wpQuiet_nil ?_
                rintro w0 ⟨z, rfl⟩
                have k9 := k8.to z.h
                go_wp2_with fail
                go_roundw
                case rel => exact ⟨m + 1, by omega, by go_num, k9⟩
                case measure => (simp [intOf]; try omega)
            · have hmz : ¬ (m : Int) + 1 ≤ (N : Int) := by omega
              clear HA HO
              go_wp2_with fail
              go_roundw
              case rel => exact ⟨i + 1, by omega, by go_num, k8⟩
              case measure => (simp [intOf]; try omega)
      · have hltz : ¬ (i : Int) < (l.length : Int) := by omega
        clear CQ CI HA HO HT
        go_wp2_with fail
        go_loopw [12] (fun s12 wi => ∃ m : Nat, m ≤ N ∧ s12 = .int .i64 ((m : Int) + 1) ∧ KA w wi ra ro g l N) (fun s12 _ => N + 1 - (intOf s12).toNat)
        case atStart => exact ⟨0, by omega, rfl, k6⟩
        case round =>
          obtain ⟨m, hm, rfl, k8⟩ := hrel
          clear k6
          rcases Nat.lt_or_ge m N with hmN | hmN
          · have hmz : (m : Int) + 1 ≤ (N : Int) := by omega
            have P1 : Hid (Calls Tryd.prog 18 #[.pointer (some ⟨ra, 0, none⟩), .int .i64 ((m : Int) + 1)] wr fun e w' => ∃ ao cap, e = .returned (.slice ao l.length cap) ∧ Below wr.heap.size wr w') := GA.out wr ra (m + 1) k8.al (by omega) (by omega)
            have P2 : Hid (∀ u, KA w u ra ro g l N → Calls Tryd.prog 18 #[.pointer (some ⟨ro, 0, none⟩), .int .i64 ((m : Int) + 1)] u fun e w' => ∃ ao cap, e = .returned (.slice ao t cap) ∧ Below u.heap.size u w') := fun u k => GO.out u ro (m + 1) k.on (by omega) (by omega)
            clear GA GO L
            go_wp2_with (first | (go_at_call_of 18 (Value.pointer (some ⟨ra, 0, none⟩)); refine P1.out.mono ?_; rintro e w6 ⟨ao6, cap6, rfl, hB6⟩; have k9 := k8.to hB6; clear k8 hB6) | (go_at_call_of 18 (Value.pointer (some ⟨ro, 0, none⟩)); refine (P2.out w6 k9).mono ?_; rintro e w7 ⟨ao7, cap7, rfl, hB7⟩; have k10 := k9.to hB7; clear k9 hB7))
            go_roundw
            case rel => exact ⟨m + 1, by omega, by go_num, k10⟩
            case measure => (simp [intOf]; try omega)
          · have hmz : ¬ (m : Int) + 1 ≤ (N : Int) := by omega
            clear GA GO
            go_wp2_with (go_at_call 10; refine (L.out _).mono ?_; rintro e w7 ⟨rfl, hB7⟩)
            go_ret
            exact ⟨rfl, (k8.to hB7).bel⟩
end Go.Proofs.YtcnceipkoapcpaaDoor.ringAll

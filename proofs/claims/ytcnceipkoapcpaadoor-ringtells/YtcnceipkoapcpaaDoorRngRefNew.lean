/-
  CONTRACTS: the document's New.
-/
import Derived.Test.YtcnceipkoapcpaaDoorRngRefM
import Derived.Deep.Cut
import Derived.Deep.CutRange
import Derived.Test.YtcnceipkoapcpaaDoorLoud
namespace Go.Proofs.YtcnceipkoapcpaaDoor
open Go.RowKit

attribute [local go_sem] Oper.pureAt Oper.pureUpon

set_option maxRecDepth 100000 in
set_option maxHeartbeats 1000000 in
theorem refNewR_bad (N t c : Int) (h : ¬ OkN N t c) (w : World) : Calls Tryd.prog 9 #[.int .i64 N, .int .i64 t, .int .i64 c] w fun e w' => e = .returned (.pointer none) ∧ w' = w := by
  unfold OkN at h
  by_cases h1 : N < 1
  · go_enter Tryd.func9, Tryd.ntmps9
    go_wp2_with fail
    go_ret
    exact ⟨rfl, rfl⟩
  · by_cases h2 : 5 < N
    · go_enter Tryd.func9, Tryd.ntmps9
      go_wp2_with fail
      go_ret
      exact ⟨rfl, rfl⟩
    · by_cases h3 : t < 1
      · go_enter Tryd.func9, Tryd.ntmps9
        go_wp2_with fail
        go_ret
        exact ⟨rfl, rfl⟩
      · by_cases h4 : 8 < t
        · go_enter Tryd.func9, Tryd.ntmps9
          go_wp2_with fail
          go_ret
          exact ⟨rfl, rfl⟩
        · by_cases h5 : c < 1
          · go_enter Tryd.func9, Tryd.ntmps9
            go_wp2_with fail
            go_ret
            exact ⟨rfl, rfl⟩
          · have h6 : N < c := by omega
            go_enter Tryd.func9, Tryd.ntmps9
            go_wp2_with fail
            go_ret
            exact ⟨rfl, rfl⟩
/-- Worlds in which the ring's slice and the point that is put stand as they do. -/
structure C3 (r pb : Nat) (v : Value) (tk nd : Int) where
  u : World
  h0 : u.cell? ⟨r, 0, none⟩ = some v
  h1 : u.cell? ⟨pb, 0, none⟩ = some (.int .i64 tk)
  h2 : u.cell? ⟨pb, 1, none⟩ = some (.int .i64 nd)
theorem infoPd : (Tryd.prog.info? 41).map (fun i => (i.zero, i.size, i.bytes)) = some (some (.agg #[.int .i64 0, .int .i64 0]), 2, 16) := by kernel_rfl
theorem src_onePd (u : World) (p : Pt) : Src Tryd.prog 2 31 (.slice (some ⟨u.heap.size, 0, none⟩) 1 1) 1 (ptsV [p]) (u.alloc (.cells #[.int .i64 p.tok, .int .i64 (p.nd : Int)] 41)) := by
  refine Src.ofSlice _ Tryd.underlying31 _ 1 1 _ (by rw [ptsV_len]; rfl) ?_ (flat_one ptV_one [p])
  intro j v hv
  rw [Addr.add_lit, Nat.zero_add]
  exact (Blk.new u [.int .i64 p.tok, .int .i64 (p.nd : Int)] 41).cell j (by simpa [ptsV, ptV] using hv)
theorem src_onePdd (u : World) (p : Pt) : Src Tryd.prog 2 31 (.slice (some ⟨u.heap.size, 0, none⟩) 1 1) 1 (ptsV [p]) (u.alloc (.cells #[.int .i64 p.tok, .int .i64 (p.nd : Int)] 41)).drew := by
  refine Src.ofSlice _ Tryd.underlying31 _ 1 1 _ (by rw [ptsV_len]; rfl) ?_ (flat_one ptV_one [p])
  intro j v hv
  rw [Addr.add_lit, Nat.zero_add]
  exact (Blk.new u [.int .i64 p.tok, .int .i64 (p.nd : Int)] 41).cell j (by simpa [ptsV, ptV] using hv)
set_option maxRecDepth 100000 in
set_option maxHeartbeats 80000000 in
theorem refNewR_ok (N t c : Nat) (hN : N ≤ 5) (ht1 : 1 ≤ t) (ht8 : t ≤ 8) (hc1 : 1 ≤ c) (hcN : c ≤ N) (w : World) :
    Calls Tryd.prog 9 #[.int .i64 (N : Int), .int .i64 (t : Int), .int .i64 (c : Int)] w fun e w' => ∃ r, e = .returned (.pointer (some ⟨r, 0, none⟩)) ∧ RgAt w' 33 r (ptsP tkP N t) c ∧ Below w.heap.size w w' := by
  obtain ⟨i1, hi1, hy0, hy1, hy2⟩ := infoXR infoPd
  have a1 : ¬ (N : Int) < 1 := by omega
  have a2 : ¬ 5 < (N : Int) := by omega
  have a3 : ¬ (t : Int) < 1 := by omega
  have a4 : ¬ 8 < (t : Int) := by omega
  have a5 : ¬ (c : Int) < 1 := by omega
  have a6 : ¬ N < c := by omega
  have a7 : ¬ (N : Int) < (c : Int) := by omega
  have CD : Hid (∀ (n : Nat) (u : World), n < 10 → Calls Tryd.prog 28 #[.int .i64 (n : Int)] u fun e w' => e = .returned (.string (dg n)) ∧ Below u.heap.size u w') := fun n u hn => digitsR_any n hn u
  have CT : Hid (∀ (n i : Nat) (u : World), Calls Tryd.prog 27 #[.string (nmP n i)] u fun e w' => e = .returned (.int .i64 (tkP n i)) ∧ Below u.heap.size u w') := refTokenP_any
  have HNM : Hid (∀ n i, (⟨#[110]⟩ : ByteArray) ++ dg n ++ ⟨#[45]⟩ ++ dg i = nmP n i) := fun n i => rfl
  have HDS : Hid (∀ n, (dg n).size = 1) := dg_size
  have S0 : Hid (DS w (w.alloc (.cells #[.slice none 0 0, .int .i64 (c : Int)] 33)) w.heap.size [] c (.slice none 0 0)) :=
    ⟨(Below.refl _ _).alloc (Nat.le_refl _) _, Nat.le_refl _, Blk.new w _ _, World.ownsRow_nil _ _ _ _, fun e => by cases e⟩
  have HFIN : Hid (∀ (u : World) (v : Value), DS w u w.heap.size (ptsP tkP N t) c v → RgAt u 33 w.heap.size (ptsP tkP N t) c ∧ Below w.heap.size w u) := fun u v h => by
    refine ⟨?_, h.bel⟩
    obtain ⟨ao, cap, rfl, _, hs, hn⟩ := PSees.of_owns h.row
    have hp : 0 < (ptsP tkP N t).length := by rw [ptsP_len]; exact Nat.mul_pos (by omega) (by omega)
    obtain ⟨g, rfl, -⟩ := hs 0 _ (List.getElem?_eq_getElem hp)
    exact ⟨g, cap, h.bx, hs⟩
  go_enter Tryd.func9, Tryd.ntmps9
  go_wp2_with fail
  go_loopw [8] (fun s8 wr => ∃ (k : Nat) (v : Value), k ≤ N ∧ s8 = .int .i64 ((k : Int) + 1) ∧ DS w wr w.heap.size (srtP (rawP tkP t k)) c v) (fun s8 _ => N + 1 - (intOf s8).toNat)
  case atStart =>
    have e0 : srtP (rawP tkP t 0) = [] := List.mergeSort_nil
    exact ⟨0, _, by omega, rfl, by rw [e0]; exact S0.out⟩
  case round =>
    obtain ⟨k, v, hk, rfl, ds⟩ := hrel
    clear S0
    rcases Nat.lt_or_ge k N with hlt | hge
    · have hltz : (k : Int) + 1 ≤ (N : Int) := by omega
      clear HFIN
      go_wp2_with fail
      go_loopw [9] (fun s9 wi => ∃ (i : Nat) (v : Value), i ≤ t ∧ s9 = .int .i64 (i : Int) ∧ DS w wi w.heap.size (srtP (rawI tkP t k i)) c v) (fun s9 _ => t - (intOf s9).toNat)
      case atStart => exact ⟨0, _, by omega, rfl, by rw [rawI_zero]; exact ds⟩
      case round =>
        obtain ⟨i, v2, hi, rfl, ds2⟩ := hrel
        clear ds
        rcases Nat.lt_or_ge i t with hit | hgt
        · have hitz : (i : Int) < (t : Int) := by omega
          have D1 : Hid (Calls Tryd.prog 28 #[.int .i64 ((k : Int) + 1)] wr fun e w' => e = .returned (.string (dg (k + 1))) ∧ Below wr.heap.size wr w') := CD.out (k + 1) wr (by omega)
          have D2 : Hid (∀ u, Calls Tryd.prog 28 #[.int .i64 (i : Int)] u fun e w' => e = .returned (.string (dg i)) ∧ Below u.heap.size u w') := fun u => CD.out i u (by omega)
          have T1 : Hid (∀ u, Calls Tryd.prog 27 #[.string (nmP (k + 1) i)] u fun e w' => e = .returned (.int .i64 (tkP (k + 1) i)) ∧ Below u.heap.size u w') := fun u => CT.out (k + 1) i u
          have hE : Hid (rawI tkP t k (i + 1) = rawI tkP t k i ++ [⟨tkP (k + 1) i, k + 1⟩]) := rawI_succ tkP t k i
          have hnm := HNM.out (k + 1) i
          have s1 := HDS.out (k + 1)
          have s2 := HDS.out i
          have hLl : (srtP (rawI tkP t k i)).length = k * t + i := by rw [srtP_len, rawI_len]
          have h40 : k * t ≤ 5 * 8 := Nat.mul_le_mul (by omega) ht8
          have hL80 : (srtP (rawI tkP t k i)).length ≤ 80 := by omega
          generalize hraw : rawI tkP t k i = raw at *
          generalize dg (k + 1) = ga at *
          generalize dg i = gb at *
          generalize nmP (k + 1) i = nm at *
          generalize tkP (k + 1) i = tk at *
          clear CD CT HNM HDS hLl h40
          have s3 : ((⟨#[110]⟩ : ByteArray) ++ ga).size = 2 := by simp [ByteArray.size_append, s1]; rfl
          go_upto_region 11 with (first | (go_at_call 28; refine D1.out.mono ?_; rintro e w1 ⟨rfl, B1⟩; have k1 := ds2.to B1; clear D1 ds2 B1) | (go_at_call 28; refine (D2.out w1).mono ?_; rintro e w2 ⟨rfl, B2⟩; have k2 := k1.to B2; clear k1 B2) | (go_at_call 27; refine (T1.out w2).mono ?_; rintro e w3 ⟨rfl, B3⟩; have k3 := k2.to B3; clear k2 B3))
          have k4 : DP w (w3.alloc (.cells #[.int .i64 tk, .int .i64 ((k : Int) + 1)] 41)) w.heap.size w3.heap.size (srtP raw) c v2 ⟨tk, k + 1⟩ := k3.withP ⟨tk, k + 1⟩
          generalize w3.alloc (.cells #[.int .i64 tk, .int .i64 ((k : Int) + 1)] 41) = w4 at *
          generalize w3.heap.size = pb at *
          have HG : Hid (∀ m, (∀ y, 0 < m → (srtP raw)[m - 1]? = some y → leP y ⟨tk, k + 1⟩ = true) → (∀ j y, m ≤ j → (srtP raw)[j]? = some y → leP ⟨tk, k + 1⟩ y = true) → m ≤ (srtP raw).length → gapP (srtP raw) m ⟨tk, k + 1⟩ = srtP (raw ++ [⟨tk, k + 1⟩])) := fun m h1 h2 h3 => gapP_sort h1 h2 h3
          generalize srtP raw = L at *
          clear k3 D2 T1 hnm s1 s2 s3
          obtain ⟨ao, cp, hv2, -, -, -⟩ := PSees.of_owns k4.ds.row
          subst hv2
          have r0 : w4.cell? ⟨w.heap.size, 0, none⟩ = some (.slice ao L.length cp) := k4.ds.bx.cell 0 rfl
          have f1 : w4.cell? ⟨pb, 0, none⟩ = some (.int .i64 tk) := k4.pt.cell 0 rfl
          have f2 : w4.cell? ⟨pb, 1, none⟩ = some (.int .i64 ((k : Int) + 1)) := k4.pt.cell 1 rfl
          have p0 : ∀ q : C3 w.heap.size pb (.slice ao L.length cp) tk ((k : Int) + 1), q.u.cell? ⟨w.heap.size, 0, none⟩ = some (.slice ao L.length cp) := fun q => q.h0
          have p1 : ∀ q : C3 w.heap.size pb (.slice ao L.length cp) tk ((k : Int) + 1), q.u.cell? ⟨pb, 0, none⟩ = some (.int .i64 tk) := fun q => q.h1
          have p2 : ∀ q : C3 w.heap.size pb (.slice ao L.length cp) tk ((k : Int) + 1), q.u.cell? ⟨pb, 1, none⟩ = some (.int .i64 ((k : Int) + 1)) := fun q => q.h2
          haveI : Nonempty (C3 w.heap.size pb (.slice ao L.length cp) tk ((k : Int) + 1)) := ⟨⟨w4, r0, f1, f2⟩⟩
          have HCW : Hid (∀ x : World, x.cell? ⟨w.heap.size, 0, none⟩ = some (.slice ao L.length cp) → x.cell? ⟨pb, 0, none⟩ = some (.int .i64 tk) → x.cell? ⟨pb, 1, none⟩ = some (.int .i64 ((k : Int) + 1)) → ∃ p : C3 w.heap.size pb (.slice ao L.length cp) tk ((k : Int) + 1), x = p.u) := fun x h0 h1 h2 => ⟨⟨x, h0, h1, h2⟩, rfl⟩
          have HF : Hid (w4.cell? ⟨w.heap.size, 0, none⟩ = some (.slice ao L.length cp) ∧ w4.cell? ⟨pb, 0, none⟩ = some (.int .i64 tk) ∧ w4.cell? ⟨pb, 1, none⟩ = some (.int .i64 ((k : Int) + 1))) := ⟨r0, f1, f2⟩
          clear f1 f2
          go_upto_region 12 with fail
          clear r0
          refine wp_region_C (fun x => ∃ p : C3 w.heap.size pb (.slice ao L.length cp) tk ((k : Int) + 1), x = p.u) 10 _ (by kernel_rfl) ?_ (fun _ _ h => h)
          refine anyC_pure 0 rfl (by kernel_rfl) (by kernel_rfl) (by kernel_rfl) (HCW.out _ HF.out.1 HF.out.2.1 HF.out.2.2) (fun K hK => ?_)
          go_simp
          refine hK _ ?_
          clear hK K
          refine anyC_pure 1 rfl (by kernel_rfl) (by kernel_rfl) (by kernel_rfl) (HCW.out _ HF.out.1 HF.out.2.1 HF.out.2.2) (fun K hK => ?_)
          go_simp
          refine hK _ ?_
          clear hK K
          refine anyC_pure 2 rfl (by kernel_rfl) (by kernel_rfl) (by kernel_rfl) (HCW.out _ HF.out.1 HF.out.2.1 HF.out.2.2) (fun K hK => ?_)
          go_simp
          refine hK _ ?_
          clear hK K
          refine anyC_pure 3 rfl (by kernel_rfl) (by kernel_rfl) (by kernel_rfl) (HCW.out _ HF.out.1 HF.out.2.1 HF.out.2.2) (fun K hK => ?_)
          go_simp
          refine hK _ ?_
          clear hK K
          refine anyC_pure 4 rfl (by kernel_rfl) (by kernel_rfl) (by kernel_rfl) (HCW.out _ HF.out.1 HF.out.2.1 HF.out.2.2) (fun K hK => ?_)
          go_simp
          refine hK _ ?_
          clear hK K
          refine anyC_pure 5 rfl (by kernel_rfl) (by kernel_rfl) (by kernel_rfl) (HCW.out _ HF.out.1 HF.out.2.1 HF.out.2.2) (fun K hK => ?_)
          go_simp
          refine hK _ ?_
          clear hK K
          have b5 : Below w4.heap.size w4 (w4.alloc (.cells #[.int .i64 tk, .int .i64 ((k : Int) + 1)] 41)).drew := ((Below.refl _ _).alloc (Nat.le_refl _) _).drew
          refine anyC_loud 6 (by kernel_rfl) ?_
          refine lou_of rfl (fun K hK => ?_)
          go_simp
          refine hK _ _ ⟨fun _ => HCW.out _ ((b5.cell k4.ds.bx.lt).trans HF.out.1) ((b5.cell k4.pt.lt).trans HF.out.2.1) ((b5.cell k4.pt.lt).trans HF.out.2.2), ?_⟩
          clear hK K
          have SP : Src Tryd.prog 2 31 (.slice (some ⟨w4.heap.size, 0, none⟩) 1 1) 1 (ptsV [⟨tk, k + 1⟩]) (w4.alloc (.cells #[.int .i64 tk, .int .i64 ((k : Int) + 1)] 41)).drew := src_onePdd w4 ⟨tk, k + 1⟩
          obtain ⟨v5, w5, hr5, ho5, hg5⟩ := run_append_grew (P := Tryd.prog) (w4.alloc (.cells #[.int .i64 tk, .int .i64 ((k : Int) + 1)] 41)).drew w.heap.size 31 31 31 41 i1 (.agg #[.int .i64 0, .int .i64 0]) 2 16 Tryd.underlying31 hi1 hy0 hy1 hy2 rfl (.slice ao L.length cp) L.length (ptsV L) (k4.ds.row.alloc _) _ 1 (ptsV [⟨tk, k + 1⟩]) SP (by unfold maxLen; omega) (by omega) (by have := k4.ds.bel.size; show _ ≤ (w4.alloc _).heap.size; rw [World.size_alloc]; omega)
          have k5 := k4.grew ⟨tk, k + 1⟩ ho5 (Grew.alloc (Grew.drewL hg5))
          obtain ⟨ao5, cp5, hv5, -, hs5, -⟩ := PSees.of_owns k5.ds.row
          subst hv5
          have hlen1 : (L ++ ([⟨tk, k + 1⟩] : List Pt)).length = L.length + 1 := by simp
          obtain ⟨g, hao, -⟩ := hs5 0 _ (List.getElem?_eq_getElem (by rw [hlen1]; omega))
          subst hao
          rw [hlen1] at k5 hr5 hg5
          have G5 : Grew w4 w5 (.slice ao L.length cp) (.slice (some ⟨g, 0, none⟩) (L.length + 1) cp5) := Grew.alloc (Grew.drewL hg5)
          have e0 : w5.cell? ⟨w.heap.size, 0, none⟩ = some (.slice ao L.length cp) := (G5.cell k4.ds.bx.lt k4.ds.ne).trans HF.out.1
          have e1 : w5.cell? ⟨pb, 0, none⟩ = some (.int .i64 tk) := (G5.cell k4.pt.lt k4.ne).trans HF.out.2.1
          have e2 : w5.cell? ⟨pb, 1, none⟩ = some (.int .i64 ((k : Int) + 1)) := (G5.cell k4.pt.lt k4.ne).trans HF.out.2.2
          have e3 : w5.frozen? ⟨w.heap.size, 0, none⟩ = false := (k4.ds.bx.carry (G5.rows.block _ k4.ds.bx.lt (fun e => k4.ds.ne e.symm))).frozen 0
          refine anyC_loud 7 (by kernel_rfl) ?_
          refine lou_append rfl rfl _ _ _ _ rfl _ _ rfl rfl (by exact hr5) ?_
          refine ⟨fun _ => HCW.out _ e0 e1 e2, ?_⟩
          refine anyC_pure 8 rfl (by kernel_rfl) (by kernel_rfl) (by kernel_rfl) (HCW.out _ e0 e1 e2) (fun K hK => ?_)
          go_simp
          refine hK _ ?_
          clear hK K
          refine anyC_pure 9 rfl (by kernel_rfl) (by kernel_rfl) (by kernel_rfl) (HCW.out _ e0 e1 e2) (fun K hK => ?_)
          go_simp
          refine hK _ ?_
          clear hK K
          refine anyC_loud 10 (by kernel_rfl) ?_
          refine lou_of rfl (fun K hK => ?_)
          go_simp
          refine hK _ _ ⟨fun h => absurd rfl h, ?_⟩
          clear hK K
          refine anyC_done (by kernel_rfl) ?_
          clear e0 e1 e2 e3 G5 hg5 ho5 hr5 SP b5 HCW HF p0 p1 p2 k4
          generalize w5.setCell ⟨w.heap.size, 0, none⟩ (.slice (some ⟨g, 0, none⟩) (L.length + 1) cp5) = w6 at *
          clear hs5 hlen1
          obtain ⟨n1, hn1⟩ : ∃ n1, n1 = L.length + 1 := ⟨_, rfl⟩
          rw [← hn1] at k5 ⊢
          rw [← gapP_end] at k5
          clear this
          go_wp2_with fail
          go_loopw [11] (fun s11 wj => ∃ (m : Nat) (x : Pt), m ≤ L.length ∧ s11 = .int .i64 (m : Int) ∧ DP w wj w.heap.size pb (gapP L m x) c (.slice (some ⟨g, 0, none⟩) n1 cp5) ⟨tk, k + 1⟩ ∧ (∀ j y, m ≤ j → L[j]? = some y → leP ⟨tk, k + 1⟩ y = true)) (fun s11 _ => (intOf s11).toNat)
          case atStart => exact ⟨L.length, _, Nat.le_refl _, rfl, k5, fun j y hj hy => by have := (List.getElem?_eq_some_iff.1 hy).1; omega⟩
          case round =>
            obtain ⟨m, x, hm, rfl, k6, hup⟩ := hrel
            clear k5
            have hmz : (m : Int) < (n1 : Int) := by omega
            have hn1z : (n1 : Int) ≤ 81 := by omega
            go_upto_region 13 with fail
            go_cut [116] from 73 to 116 (fun s116 wx => ∃ bb : Bool, s116 = .bool bb ∧ DP w wx w.heap.size pb (gapP L m x) c (.slice (some ⟨g, 0, none⟩) n1 cp5) ⟨tk, k + 1⟩ ∧ (bb = false → ∀ y, 0 < m → L[m - 1]? = some y → leP y ⟨tk, k + 1⟩ = true) ∧ (bb = true → ∃ m' y, m = m' + 1 ∧ L[m']? = some y ∧ leP y ⟨tk, k + 1⟩ = false))
            case first =>
              have c0 : ∀ q : Cl wr.heap.size wr, q.u.cell? ⟨w.heap.size, 0, none⟩ = some (.slice (some ⟨g, 0, none⟩) n1 cp5) := fun q => q.cell k6.ds.bx.lt (k6.ds.bx.cell 0 rfl)
              have f1 : ∀ q : Cl wr.heap.size wr, q.u.cell? ⟨pb, 0, none⟩ = some (.int .i64 tk) := fun q => q.cell k6.pt.lt (k6.pt.cell 0 rfl)
              have f2 : ∀ q : Cl wr.heap.size wr, q.u.cell? ⟨pb, 1, none⟩ = some (.int .i64 ((k : Int) + 1)) := fun q => q.cell k6.pt.lt (k6.pt.cell 1 rfl)
              have HK : Hid (DP w wr w.heap.size pb (gapP L m x) c (.slice (some ⟨g, 0, none⟩) n1 cp5) ⟨tk, k + 1⟩) := k6
              haveI := Cl.inh wr.heap.size wr
              by_cases h0 : m = 0
              · have h0z : ¬ (0 : Int) < (m : Int) := by omega
                have h0n : ¬ 0 < m := by omega
                have H0 : Hid (m = 0) := h0
                clear k6 hup HG hE h0
                clear a1 a2 a3 a4 a5 a6 a7 hi1 hy0 hy1 hy2 hN ht1 ht8 hc1 hcN hk hlt hltz hit hitz hi hL80 hn1 hm
                have kz := HK.out.drew
                refine wp_region_sched (fun w' => ∃ p : Cl wr.heap.size wr, w' = p.u) [(0, true), (1, true), (2, true), (3, true), (4, true), (5, true), (6, true), (7, true), (8, true), (9, true), (10, true), (11, true), (12, true), (13, true), (14, true), (15, true), (16, true), (17, true), (18, true), (19, true), (20, true), (21, true), (22, true), (23, true), (24, true), (25, true), (26, true), (27, true), (28, true), (29, true), (30, true), (31, true), (32, true), (33, true), (34, true), (35, true), (36, true), (37, true), (38, true), (39, true), (40, true), (41, true), (42, true), (43, true)] rfl (by kernel_rfl) (by kernel_rfl) (by kernel_rfl) ⟨⟨_, (Below.refl _ _).drew⟩, rfl⟩ ?_
                iterate 44 (refine sched_pure rfl (fun K hK => ?_); go_simp; refine hK _ ?_; clear hK K)
                refine sched_nil ?_
                go_wp2_with fail
                go_meet
                case rel => exact ⟨false, rfl, kz, fun _ y h => absurd h (by have := H0.out; omega), (fun h => by cases h)⟩
              · obtain ⟨m', hm'⟩ : ∃ m', m = m' + 1 := ⟨m - 1, by omega⟩
                have hml : m' < L.length := by omega
                have hy : L[m']? = some L[m'] := List.getElem?_eq_getElem hml
                have hgy : (gapP L m x)[m']? = some L[m'] := (gapP_low L x (by omega) hm).trans hy
                have d0 : ∀ q : Cl wr.heap.size wr, q.u.cell? ⟨g, m' * 2, none⟩ = some (.int .i64 L[m'].tok) := fun q => q.cell (World.block_lt_of_cell? _ _ (k6.cell hgy).1) (k6.cell hgy).1
                have d1 : ∀ q : Cl wr.heap.size wr, q.u.cell? ⟨g, m' * 2 + 1, none⟩ = some (.int .i64 (L[m'].nd : Int)) := fun q => q.cell (World.block_lt_of_cell? _ _ (k6.cell hgy).2) (k6.cell hgy).2
                have HT : Hid (leP L[m'] ⟨tk, k + 1⟩ = true → (∀ y, 0 < m → L[m - 1]? = some y → leP y ⟨tk, k + 1⟩ = true)) := fun h y _ h2 => by
                  rw [hm', Nat.add_sub_cancel, hy] at h2
                  rw [← Option.some.inj h2]; exact h
                have HFf : Hid (leP L[m'] ⟨tk, k + 1⟩ = false → ∃ m'' y, m = m'' + 1 ∧ L[m'']? = some y ∧ leP y ⟨tk, k + 1⟩ = false) := fun h => ⟨m', _, hm', hy, h⟩
                have HL : Hid (leP L[m'] ⟨tk, k + 1⟩ = decide (L[m'].tok < tk ∨ (L[m'].tok = tk ∧ L[m'].nd ≤ k + 1))) := rfl
                generalize leP L[m'] ⟨tk, k + 1⟩ = lq at *
                generalize L[m'].tok = yt at *
                generalize L[m'].nd = yn at *
                have hsub : (m : Int) - 1 = (m' : Int) := by omega
                have hwm : IntKind.i64.wrap (m' : Int) = (m' : Int) := by rw [IntKind.wrap_i64]; omega
                have hmz2 : (m' : Int) < (n1 : Int) := by omega
                have hm0 : (0 : Int) < (m : Int) := by omega
                have hm0n : 0 < m := by omega
                clear k6 hup HG hE hgy hy h0 hm'
                clear a1 a2 a3 a4 a5 a6 a7 hi1 hy0 hy1 hy2 hN ht1 ht8 hc1 hcN hk hlt hltz hit hitz hi hL80 hn1 hm hml
                by_cases h1 : tk < yt
                · have HR : Hid (∃ m'' y, m = m'' + 1 ∧ L[m'']? = some y ∧ leP y ⟨tk, k + 1⟩ = false) := HFf.out (by rw [HL.out]; exact decide_eq_false (by omega))
                  clear HT HFf HL
                  have kz := HK.out.drew
                  refine wp_region_sched (fun w' => ∃ p : Cl wr.heap.size wr, w' = p.u) [(0, true), (1, true), (2, true), (3, true), (4, true), (5, true), (6, true), (7, true), (8, true), (9, true), (10, true), (11, true), (12, true), (13, true), (14, true), (15, true), (16, true), (17, true), (18, true), (19, true), (20, true), (21, true), (22, true), (23, true), (24, true), (25, true), (26, true), (27, true), (28, true), (29, true), (30, true), (31, true), (32, true), (33, true), (34, true), (35, true), (36, true), (37, true), (38, true), (39, true), (40, true), (41, true), (42, true), (43, true)] rfl (by kernel_rfl) (by kernel_rfl) (by kernel_rfl) ⟨⟨_, (Below.refl _ _).drew⟩, rfl⟩ ?_
                  iterate 44 (refine sched_pure rfl (fun K hK => ?_); go_simp; refine hK _ ?_; clear hK K)
                  refine sched_nil ?_
                  go_wp2_with fail
                  go_meet
                  case rel => exact ⟨true, rfl, kz, (fun h => by cases h), fun _ => HR.out⟩
                · by_cases h2 : yt = tk
                  · by_cases h3 : k + 1 < yn
                    · have HR : Hid (∃ m'' y, m = m'' + 1 ∧ L[m'']? = some y ∧ leP y ⟨tk, k + 1⟩ = false) := HFf.out (by rw [HL.out]; exact decide_eq_false (by omega))
                      have h3z : (k : Int) + 1 < (yn : Int) := by omega
                      clear HT HFf HL h1
                      subst h2
                      have h1 : ¬ yt < yt := by omega
                      have kz := HK.out.drew
                      refine wp_region_sched (fun w' => ∃ p : Cl wr.heap.size wr, w' = p.u) [(0, true), (1, true), (2, true), (3, true), (4, true), (5, true), (6, true), (7, true), (8, true), (9, true), (10, true), (11, true), (12, true), (13, true), (14, true), (15, true), (16, true), (17, true), (18, true), (19, true), (20, true), (21, true), (22, true), (23, true), (24, true), (25, true), (26, true), (27, true), (28, true), (29, true), (30, true), (31, true), (32, true), (33, true), (34, true), (35, true), (36, true), (37, true), (38, true), (39, true), (40, true), (41, true), (42, true), (43, true)] rfl (by kernel_rfl) (by kernel_rfl) (by kernel_rfl) ⟨⟨_, (Below.refl _ _).drew⟩, rfl⟩ ?_
                      iterate 44 (refine sched_pure rfl (fun K hK => ?_); go_simp; refine hK _ ?_; clear hK K)
                      refine sched_nil ?_
                      go_wp2_with fail
                      go_meet
                      case rel => exact ⟨true, rfl, kz, (fun h => by cases h), fun _ => HR.out⟩
                    · have HR : Hid (∀ y, 0 < m → L[m - 1]? = some y → leP y ⟨tk, k + 1⟩ = true) := HT.out (by rw [HL.out]; exact decide_eq_true (by omega))
                      have h3z : ¬ (k : Int) + 1 < (yn : Int) := by omega
                      clear HT HFf HL h1
                      subst h2
                      have h1 : ¬ yt < yt := by omega
                      have kz := HK.out.drew
                      refine wp_region_sched (fun w' => ∃ p : Cl wr.heap.size wr, w' = p.u) [(0, true), (1, true), (2, true), (3, true), (4, true), (5, true), (6, true), (7, true), (8, true), (9, true), (10, true), (11, true), (12, true), (13, true), (14, true), (15, true), (16, true), (17, true), (18, true), (19, true), (20, true), (21, true), (22, true), (23, true), (24, true), (25, true), (26, true), (27, true), (28, true), (29, true), (30, true), (31, true), (32, true), (33, true), (34, true), (35, true), (36, true), (37, true), (38, true), (39, true), (40, true), (41, true), (42, true), (43, true)] rfl (by kernel_rfl) (by kernel_rfl) (by kernel_rfl) ⟨⟨_, (Below.refl _ _).drew⟩, rfl⟩ ?_
                      iterate 44 (refine sched_pure rfl (fun K hK => ?_); go_simp; refine hK _ ?_; clear hK K)
                      refine sched_nil ?_
                      go_wp2_with fail
                      go_meet
                      case rel => exact ⟨false, rfl, kz, fun _ => HR.out, (fun h => by cases h)⟩
                  · have HR : Hid (∀ y, 0 < m → L[m - 1]? = some y → leP y ⟨tk, k + 1⟩ = true) := HT.out (by rw [HL.out]; exact decide_eq_true (by omega))
                    clear HT HFf HL
                    have kz := HK.out.drew
                    refine wp_region_sched (fun w' => ∃ p : Cl wr.heap.size wr, w' = p.u) [(0, true), (1, true), (2, true), (3, true), (4, true), (5, true), (6, true), (7, true), (8, true), (9, true), (10, true), (11, true), (12, true), (13, true), (14, true), (15, true), (16, true), (17, true), (18, true), (19, true), (20, true), (21, true), (22, true), (23, true), (24, true), (25, true), (26, true), (27, true), (28, true), (29, true), (30, true), (31, true), (32, true), (33, true), (34, true), (35, true), (36, true), (37, true), (38, true), (39, true), (40, true), (41, true), (42, true), (43, true)] rfl (by kernel_rfl) (by kernel_rfl) (by kernel_rfl) ⟨⟨_, (Below.refl _ _).drew⟩, rfl⟩ ?_
                    iterate 44 (refine sched_pure rfl (fun K hK => ?_); go_simp; refine hK _ ?_; clear hK K)
                    refine sched_nil ?_
                    go_wp2_with fail
                    go_meet
                    case rel => exact ⟨false, rfl, kz, fun _ => HR.out, (fun h => by cases h)⟩
            case rest =>
              obtain ⟨bb, rfl, k7, hF, hT⟩ := hcut
              clear k6
              cases bb
              · have hF2 := hF rfl
                have HE2 : Hid (gapP L m ⟨tk, k + 1⟩ = srtP (raw ++ [⟨tk, k + 1⟩])) := HG.out m hF2 hup hm
                have k8 := k7.put (q := ⟨tk, k + 1⟩) (gapP_at L x hm) (by rw [gapP_len L x hm]; exact hn1)
                rw [gapP_put L x _ hm, HE2.out, ← hE.out] at k8
                have c0 := k7.ds.bx.cell 0 rfl
                have f1 : wc.cell? ⟨pb, 0, none⟩ = some (.int .i64 tk) := k7.pt.cell 0 rfl
                have f2 : wc.cell? ⟨pb, 1, none⟩ = some (.int .i64 ((k : Int) + 1)) := k7.pt.cell 1 rfl
                obtain ⟨d0, d1⟩ := k7.cell (gapP_at L x hm)
                have z0 := k7.frozen (m * 2)
                have z1 := k7.frozen (m * 2 + 1)
                clear hF hT hF2 HG hE HE2 hup k7
                go_wp2_with fail
                go_region
                have k9 := k8.drew.ds
                go_wp2_with fail
                go_roundw
                case rel => exact ⟨i + 1, _, by omega, by go_num, k9⟩
                case measure => (simp [intOf]; try omega)
              · obtain ⟨m', y, hm', hy, hlq⟩ := hT rfl
                have hml : m' < L.length := (List.getElem?_eq_some_iff.1 hy).1
                have k8 := k7.put (q := y) (gapP_at L x hm) (by rw [gapP_len L x hm]; exact hn1)
                have hgp : gapP L m y = gapP L m' y := by rw [hm']; exact gapP_down L hy
                rw [gapP_put L x _ hm, hgp] at k8
                have HU : Hid (∀ j z, m' ≤ j → L[j]? = some z → leP ⟨tk, k + 1⟩ z = true) := fun j z hj hz => by
                  by_cases hjm : j = m'
                  · subst hjm
                    rw [hy] at hz
                    rw [← Option.some.inj hz]
                    have := leP_total y ⟨tk, k + 1⟩
                    rw [hlq] at this
                    simpa using this
                  · exact hup j z (by omega) hz
                have c0 := k7.ds.bx.cell 0 rfl
                obtain ⟨d0, d1⟩ := k7.cell (k := m') ((gapP_low L x (by omega) hm).trans hy)
                obtain ⟨d2, d3⟩ := k7.cell (gapP_at L x hm)
                have z0 := k7.frozen (m * 2)
                have z1 := k7.frozen (m * 2 + 1)
                have hsub : (m : Int) - 1 = (m' : Int) := by omega
                have hwm : IntKind.i64.wrap (m' : Int) = (m' : Int) := by rw [IntKind.wrap_i64]; omega
                have hmz2 : (m' : Int) < (n1 : Int) := by omega
                have HM : Hid (m = m' + 1) := hm'
                clear hF hT HG hE hup k7 hlq hgp hy hm'
                generalize y.tok = yt at *
                generalize y.nd = yn at *
                go_wp2_with fail
                go_region
                have k9 := k8.drew
                go_wp2_with fail
                go_roundw
                case rel => exact ⟨m', y, by omega, by go_num, k9, HU.out⟩
                case measure => (have := HM.out; simp [intOf]; try omega)
        · obtain rfl : i = t := by omega
          rw [rawI_all] at ds2
          have hgez : ¬ (i : Int) < (i : Int) := by omega
          clear CD CT HNM HDS
          go_wp2_with fail
          go_roundw
          case rel => exact ⟨k + 1, _, by omega, by go_num, ds2⟩
          case measure => (simp [intOf]; try omega)
    · obtain rfl : k = N := by omega
      have hgez : ¬ (k : Int) + 1 ≤ (k : Int) := by omega
      obtain ⟨f1, f2⟩ := HFIN.out wr v ds
      clear CD CT HNM HDS HFIN ds
      go_wp2_with fail
      go_ret
      exact ⟨_, rfl, f1, f2⟩
end Go.Proofs.YtcnceipkoapcpaaDoor

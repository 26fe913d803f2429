/-
  THE LAW TiersMost, walked.
-/
import Derived.Test.YtdeobmihkcfofaaTirLives
namespace Go.Proofs.Ytdeobmihkcfofaa.tiersMost
open Go.RowKit Go.Proofs.Ytdeobmihkcfofaa

theorem fold_max (m : Int) : ∀ (L : List (List Nat)) (b : List Nat), b.length ≤ (L.foldl (pick m) b).length ∧ (∀ c ∈ L, m ≤ (c.length : Int) → c.length ≤ (L.foldl (pick m) b).length) ∧ (L.foldl (pick m) b = b ∨ m ≤ ((L.foldl (pick m) b).length : Int))
  | [], b => ⟨Nat.le_refl _, (fun c hc => by cases hc), .inl rfl⟩
  | d :: L, b => by
    obtain ⟨h1, h2, h3⟩ := fold_max m L (pick m b d)
    rw [List.foldl_cons]
    have hp : b.length ≤ (pick m b d).length ∧ (m ≤ (d.length : Int) → d.length ≤ (pick m b d).length) ∧ (pick m b d = b ∨ m ≤ ((pick m b d).length : Int)) := by
      unfold pick
      split
      · rename_i h; exact ⟨Nat.le_of_lt h.2, fun _ => Nat.le_refl _, .inr h.1⟩
      · rename_i h; exact ⟨Nat.le_refl _, fun hm => by (have : ¬ b.length < d.length := fun h' => h ⟨hm, h'⟩); omega, .inl rfl⟩
    refine ⟨by omega, fun c hc hm => ?_, ?_⟩
    · rcases List.mem_cons.1 hc with e | hc
      · subst e; have := hp.2.1 hm; omega
      · exact h2 c hc hm
    · rcases h3 with h3 | h3
      · rw [h3]; exact hp.2.2
      · exact .inr h3
theorem chsn_max {L : List (List Nat)} {m : Int} {b : List Nat} (hb : b ∈ L) : ¬ (m ≤ (b.length : Int) ∧ (chsn L m).length < b.length) := by
  rintro ⟨h1, h2⟩
  have := (fold_max m L []).2.1 b hb h1
  unfold chsn at h2; omega
theorem chsn_least (L : List (List Nat)) (m : Int) : chsn L m = [] ∨ m ≤ ((chsn L m).length : Int) := (fold_max m L []).2.2
/-- Is it found among the first i? -/
def fnd12 (C : List Nat) (L : List (List Nat)) (i : Nat) : Bool := decide (C.length = 0) || decide (C ∈ L.take i)
theorem fnd_succ {C b : List Nat} {L : List (List Nat)} {i : Nat} (h : L[i]? = some b) : fnd12 C L (i + 1) = (fnd12 C L i || decide (zs b = zs C)) := by
  unfold fnd12
  rw [take1 h, Bool.or_assoc]
  congr 1
  have e : decide (zs b = zs C) = decide (C = b) := by
    by_cases h : C = b
    · subst h; simp
    · have : zs b ≠ zs C := fun e => h (zs_inj e).symm
      simp [h, this]
  rw [e, Bool.eq_iff_iff]
  simp
theorem fnd_all (L : List (List Nat)) (m : Int) : fnd12 (chsn L m) L L.length = true := by
  unfold fnd12
  rw [List.take_length]
  rcases chsn_mem L m with h | h
  · rw [h]; rfl
  · simp [h]
set_option maxRecDepth 100000 in
set_option maxHeartbeats 2000000 in
theorem walk (ao : Option Addr) (l : List Int) (cap : Nat) (least : Nat) (w : World) (hs : ISees w ao l) (_hn : ao = none → l.length = 0) (hl : l.length ≤ 1125899906842624) (_hk : least < 18446744073709551616) :
    Calls Try.prog 5 #[.slice ao l.length cap, .int .u64 least] w fun e w' => e = .returned (.bool true) ∧ Below w.heap.size w w' := by
  have CL : Hid (∀ u, Calls Try.prog 7 #[] u fun e w' => e = .returned (.bool true) ∧ Below u.heap.size u w') := lives12_any
  have hlz : (l.length : Int) ≤ 1125899906842624 := by omega
  by_cases hbig : (300 : Int) < (l.length : Int)
  · clear hs
    go_enter Try.func5, Try.ntmps5
    go_wp2_with fail
    go_fit (CL.out _)
    rintro e w3 ⟨rfl, hB3⟩
    go_wp2_with fail
    go_ret
    exact ⟨rfl, hB3⟩
  obtain ⟨n, hn⟩ : ∃ n, n = least % 20 := ⟨_, rfl⟩
  have hn20 : n < 20 := by omega
  have hnz : ((least : Int) % 20) = (n : Int) := by omega
  have hl3 : l.length ≤ 300 := by omega
  have CC : Hid (Calls Try.prog 11 #[.slice ao l.length cap, .int .i64 (n : Int)] w fun e w' => ∃ mo mcap, e = .returned (.slice mo (chs l n).length mcap) ∧ ISees w' mo (zs (chs l n)) ∧ Below w.heap.size w w') := choose_any ao l cap n w hs (by omega)
  have CB : Hid (∀ u, Below w.heap.size w u → Calls Try.prog 8 #[.slice ao l.length cap] u fun e w' => ∃ bo vs bcap, e = .returned (.slice bo vs.length bcap) ∧ BSees w' bo vs ∧ vs.map Iv.l = bkts l ∧ Below u.heap.size u w') := fun u hu => buckets_any ao l cap u (hs.below hu (Nat.le_refl _)) (by omega)
  have HN : Hid (n = least % 20) := hn
  have hcl := chs_len l n
  have HVL : Hid (∀ vs : List Iv, vs.map Iv.l = bkts l → vs.length ≤ 300 ∧ ∀ v ∈ vs, v.l.length ≤ 300) := fun vs h => by
    have h1 := congrArg List.length h
    have h2 := bkts_len l
    rw [List.length_map] at h1
    refine ⟨by omega, fun v hv => ?_⟩
    have := bkts_mem (s := l) (b := v.l) (by rw [← h]; exact List.mem_map_of_mem hv)
    omega
  clear hn hs
  by_cases hn2 : n < 2
  · have hn2z : (n : Int) < 2 := by omega
    have HC : Hid (chs l n = chsn (bkts l) 2) := by show _ = _; unfold chs; rw [show max (n : Int) 2 = 2 by omega]
    go_enter Try.func5, Try.ntmps5
    go_upto_region 4 with fail
    clear hnz
    go_wp2_with fail
    go_fit CC.out
    rintro e w1 ⟨mo, mcap, rfl, hI1, hB1⟩
    have CB1 : Hid (Calls Try.prog 8 #[.slice ao l.length cap] w1 fun e w' => ∃ bo vs bcap, e = .returned (.slice bo vs.length bcap) ∧ BSees w' bo vs ∧ vs.map Iv.l = bkts l ∧ Below w1.heap.size w1 w') := CB.out w1 hB1
    obtain ⟨cl, hcl'⟩ : ∃ cl, cl = (chs l n).length := ⟨_, rfl⟩
    have HCL : Hid (cl = (chs l n).length) := hcl'
    have hclz : (cl : Int) ≤ 300 := by omega
    have hcl3 : cl ≤ 300 := by omega
    rw [← hcl']
    have HI1 : Hid (ISees w1 mo (zs (chs l n))) := hI1
    have HB1 : Hid (Below w.heap.size w w1) := hB1
    clear CC CB hI1 hB1 hcl' hcl
    go_wp2_with (go_at_call 8; go_fit CB1.out; rintro e w2 ⟨bo, vs, bcap, rfl, hv1, hv2, hB2⟩)
    obtain ⟨hvl, hvx⟩ := HVL.out vs hv2
    have HX : Hid (∀ v ∈ vs, v.l.length ≤ 300) := hvx
    have HV : Hid (∀ u, Below w2.heap.size w2 u → BSees u bo vs) := fun u hu => hv1.below hu (Nat.le_refl _)
    have HIu : Hid (∀ u, Below w2.heap.size w2 u → ISees u mo (zs (chs l n))) := fun u hu => HI1.out.below (hB2.trans (hu.mono hB2.size)) (Nat.le_refl _)
    have HE : Hid (∀ u, Below w2.heap.size w2 u → Below w.heap.size w u) := fun u hu => HB1.out.trans ((hB2.trans (hu.mono hB2.size)).mono HB1.out.size)
    have HL : Hid (vs.map Iv.l = bkts l) := hv2
    have hvz : (vs.length : Int) ≤ 300 := by omega
    have HF0 : Hid (((cl : Int) == 0) = fnd12 (chs l n) (bkts l) 0) := by
      show _ = _
      unfold fnd12
      rw [← HCL.out, Bool.eq_iff_iff]
      simp
    have HFA : Hid (fnd12 (chs l n) (bkts l) vs.length = true) := by
      show _ = _
      rw [HC.out, ← HL.out]
      have := fnd_all (vs.map Iv.l) 2
      rwa [List.length_map] at this
    have HLS : Hid (cl = 0 ∨ 2 ≤ (cl : Int)) := by
      rw [HCL.out, HC.out]
      rcases chsn_least (bkts l) 2 with h | h
      · exact .inl (by rw [h]; rfl)
      · exact .inr h
    have HMX : Hid (∀ b ∈ bkts l, ¬ (2 ≤ (b.length : Int) ∧ cl < b.length)) := fun b hb => by rw [HCL.out, HC.out]; exact chsn_max hb
    clear hv1 hv2 hvx hB2 CB1 HVL HC
    go_loopw [7, 28] (fun s7 s28 wr => ∃ i : Nat, i ≤ vs.length ∧ s28 = .int .i64 (i : Int) ∧ s7 = .bool (fnd12 (chs l n) (bkts l) i) ∧ Below w2.heap.size w2 wr) (fun _ s28 _ => vs.length - (intOf s28).toNat)
    case atStart => exact ⟨0, by omega, rfl, by rw [← HF0.out], Below.refl _ _⟩
    case round =>
      obtain ⟨i, hi, rfl, rfl, hbr⟩ := hrel
      clear HF0
      rcases Nat.lt_or_ge i vs.length with hlt | hge
      · have hltz : (i : Int) < (vs.length : Int) := by omega
        have hx : vs[i]? = some vs[i] := List.getElem?_eq_getElem hlt
        have hV := HV.out wr hbr
        obtain ⟨b, off, rfl, c1⟩ := hV.at' i _ hx
        have hvi := hV.ins _ (List.getElem_mem hlt)
        have hxl := HX.out _ (List.getElem_mem hlt)
        have hsc : fnd12 (chs l n) (bkts l) (i + 1) = (fnd12 (chs l n) (bkts l) i || decide (zs vs[i].l = zs (chs l n))) := fnd_succ (by rw [← HL.out, List.getElem?_map, hx]; rfl)
        have hmx := HMX.out vs[i].l (by rw [← HL.out]; exact List.mem_map_of_mem (List.getElem_mem hlt))
        generalize vs[i] = v at *
        obtain ⟨vo, vl, vc⟩ := v
        simp only [Iv.s] at c1 hvi hxl hsc hmx
        obtain ⟨xl, hxl'⟩ : ∃ xl, xl = vl.length := ⟨_, rfl⟩
        have CI : Hid (Calls Try.prog 10 #[.slice vo xl vc, .slice mo cl mcap] wr fun e w' => e = .returned (.bool (decide (zs vl = zs (chs l n)))) ∧ Below wr.heap.size wr w') := by
          have := ints_any vo mo (zs vl) (zs (chs l n)) vc mcap wr hvi (HIu.out wr hbr) (by rw [zs_len]; omega) (by rw [zs_len, ← HCL.out]; omega)
          rw [zs_len, zs_len, ← HCL.out, ← hxl'] at this
          exact this
        rw [← hxl'] at c1 hxl hmx
        have hxz : (xl : Int) ≤ 300 := by omega
        have HS : Hid (fnd12 (chs l n) (bkts l) (i + 1) = (fnd12 (chs l n) (bkts l) i || decide (zs vl = zs (chs l n)))) := hsc
        have HBR : Hid (∀ u, Below wr.heap.size wr u → Below w2.heap.size w2 u) := fun u hu => hbr.trans (hu.mono hbr.size)
        have hm1 : ¬ 2 ≤ (xl : Int) ∨ (2 ≤ (xl : Int) ∧ ¬ (cl : Int) < (xl : Int)) := by omega
        clear hx hV hvi hsc hxl' hmx hbr
        generalize decide (zs vl = zs (chs l n)) = same at *
        generalize hF : fnd12 (chs l n) (bkts l) i = F at *
        clear hF
        cases F with
        | true =>
          have HS1 : Hid (fnd12 (chs l n) (bkts l) (i + 1) = true) := HS.out
          have hbr := HBR.out wr (Below.refl _ _)
          clear HS CI HBR
          rcases hm1 with hm1 | ⟨hm1, hm2⟩
          · go_wp2_with fail
            go_roundw
            case rel => exact ⟨i + 1, by omega, by go_num, by rw [HS1.out], hbr⟩
            case measure => (simp [intOf]; try omega)
          · have hm3 : ¬ cl < xl := by omega
            go_wp2_with fail
            go_roundw
            case rel => exact ⟨i + 1, by omega, by go_num, by rw [HS1.out], hbr⟩
            case measure => (simp [intOf]; try omega)
        | false =>
          have HS1 : Hid (fnd12 (chs l n) (bkts l) (i + 1) = same) := HS.out
          clear HS
          rcases hm1 with hm1 | ⟨hm1, hm2⟩
          · go_wp2_with (go_at_call 10; go_fit CI.out; rintro e w3 ⟨rfl, hB3⟩)
            have hbr := HBR.out w3 hB3
            clear hB3 CI HBR
            go_roundw
            case rel => exact ⟨i + 1, by omega, by go_num, by rw [HS1.out], hbr⟩
            case measure => (simp [intOf]; try omega)
          · have hm3 : ¬ cl < xl := by omega
            go_wp2_with (go_at_call 10; go_fit CI.out; rintro e w3 ⟨rfl, hB3⟩)
            have hbr := HBR.out w3 hB3
            clear hB3 CI HBR
            go_roundw
            case rel => exact ⟨i + 1, by omega, by go_num, by rw [HS1.out], hbr⟩
            case measure => (simp [intOf]; try omega)
      · obtain rfl : i = vs.length := by omega
        have hgez : ¬ (vs.length : Int) < (vs.length : Int) := by omega
        rw [HFA.out]
        have HBR : Hid (∀ u, Below wr.heap.size wr u → Below w.heap.size w u) := fun u hu => HE.out u (hbr.trans (hu.mono hbr.size))
        have hls := HLS.out
        clear hbr
        rcases Nat.eq_zero_or_pos cl with h0 | h0
        · have h0z : (cl : Int) = 0 := by omega
          go_wp2_with fail
          go_fit (CL.out _)
          rintro e w3 ⟨rfl, hB3⟩
          have HF : Hid (Below w.heap.size w w3) := HBR.out _ hB3
          clear hB3
          go_wp2_with fail
          go_ret
          exact ⟨rfl, HF.out⟩
        · have h0z : ¬ (cl : Int) = 0 := by omega
          have h1z : 2 ≤ (cl : Int) := by omega
          go_wp2_with fail
          go_fit (CL.out _)
          rintro e w3 ⟨rfl, hB3⟩
          have HF : Hid (Below w.heap.size w w3) := HBR.out _ hB3
          clear hB3
          go_wp2_with fail
          go_ret
          exact ⟨rfl, HF.out⟩
  · have hn2z : ¬ (n : Int) < 2 := by omega
    have HC : Hid (chs l n = chsn (bkts l) (n : Int)) := by show _ = _; unfold chs; rw [show max (n : Int) 2 = (n : Int) by omega]
    go_enter Try.func5, Try.ntmps5
    go_upto_region 4 with fail
    clear hnz
    go_wp2_with fail
    go_fit CC.out
    rintro e w1 ⟨mo, mcap, rfl, hI1, hB1⟩
    have CB1 : Hid (Calls Try.prog 8 #[.slice ao l.length cap] w1 fun e w' => ∃ bo vs bcap, e = .returned (.slice bo vs.length bcap) ∧ BSees w' bo vs ∧ vs.map Iv.l = bkts l ∧ Below w1.heap.size w1 w') := CB.out w1 hB1
    obtain ⟨cl, hcl'⟩ : ∃ cl, cl = (chs l n).length := ⟨_, rfl⟩
    have HCL : Hid (cl = (chs l n).length) := hcl'
    have hclz : (cl : Int) ≤ 300 := by omega
    have hcl3 : cl ≤ 300 := by omega
    rw [← hcl']
    have HI1 : Hid (ISees w1 mo (zs (chs l n))) := hI1
    have HB1 : Hid (Below w.heap.size w w1) := hB1
    clear CC CB hI1 hB1 hcl' hcl
    go_wp2_with (go_at_call 8; go_fit CB1.out; rintro e w2 ⟨bo, vs, bcap, rfl, hv1, hv2, hB2⟩)
    obtain ⟨hvl, hvx⟩ := HVL.out vs hv2
    have HX : Hid (∀ v ∈ vs, v.l.length ≤ 300) := hvx
    have HV : Hid (∀ u, Below w2.heap.size w2 u → BSees u bo vs) := fun u hu => hv1.below hu (Nat.le_refl _)
    have HIu : Hid (∀ u, Below w2.heap.size w2 u → ISees u mo (zs (chs l n))) := fun u hu => HI1.out.below (hB2.trans (hu.mono hB2.size)) (Nat.le_refl _)
    have HE : Hid (∀ u, Below w2.heap.size w2 u → Below w.heap.size w u) := fun u hu => HB1.out.trans ((hB2.trans (hu.mono hB2.size)).mono HB1.out.size)
    have HL : Hid (vs.map Iv.l = bkts l) := hv2
    have hvz : (vs.length : Int) ≤ 300 := by omega
    have HF0 : Hid (((cl : Int) == 0) = fnd12 (chs l n) (bkts l) 0) := by
      show _ = _
      unfold fnd12
      rw [← HCL.out, Bool.eq_iff_iff]
      simp
    have HFA : Hid (fnd12 (chs l n) (bkts l) vs.length = true) := by
      show _ = _
      rw [HC.out, ← HL.out]
      have := fnd_all (vs.map Iv.l) (n : Int)
      rwa [List.length_map] at this
    have HLS : Hid (cl = 0 ∨ (n : Int) ≤ (cl : Int)) := by
      rw [HCL.out, HC.out]
      rcases chsn_least (bkts l) (n : Int) with h | h
      · exact .inl (by rw [h]; rfl)
      · exact .inr h
    have HMX : Hid (∀ b ∈ bkts l, ¬ ((n : Int) ≤ (b.length : Int) ∧ cl < b.length)) := fun b hb => by rw [HCL.out, HC.out]; exact chsn_max hb
    clear hv1 hv2 hvx hB2 CB1 HVL HC
    go_loopw [7, 28] (fun s7 s28 wr => ∃ i : Nat, i ≤ vs.length ∧ s28 = .int .i64 (i : Int) ∧ s7 = .bool (fnd12 (chs l n) (bkts l) i) ∧ Below w2.heap.size w2 wr) (fun _ s28 _ => vs.length - (intOf s28).toNat)
    case atStart => exact ⟨0, by omega, rfl, by rw [← HF0.out], Below.refl _ _⟩
    case round =>
      obtain ⟨i, hi, rfl, rfl, hbr⟩ := hrel
      clear HF0
      rcases Nat.lt_or_ge i vs.length with hlt | hge
      · have hltz : (i : Int) < (vs.length : Int) := by omega
        have hx : vs[i]? = some vs[i] := List.getElem?_eq_getElem hlt
        have hV := HV.out wr hbr
        obtain ⟨b, off, rfl, c1⟩ := hV.at' i _ hx
        have hvi := hV.ins _ (List.getElem_mem hlt)
        have hxl := HX.out _ (List.getElem_mem hlt)
        have hsc : fnd12 (chs l n) (bkts l) (i + 1) = (fnd12 (chs l n) (bkts l) i || decide (zs vs[i].l = zs (chs l n))) := fnd_succ (by rw [← HL.out, List.getElem?_map, hx]; rfl)
        have hmx := HMX.out vs[i].l (by rw [← HL.out]; exact List.mem_map_of_mem (List.getElem_mem hlt))
        generalize vs[i] = v at *
        obtain ⟨vo, vl, vc⟩ := v
        simp only [Iv.s] at c1 hvi hxl hsc hmx
        obtain ⟨xl, hxl'⟩ : ∃ xl, xl = vl.length := ⟨_, rfl⟩
        have CI : Hid (Calls Try.prog 10 #[.slice vo xl vc, .slice mo cl mcap] wr fun e w' => e = .returned (.bool (decide (zs vl = zs (chs l n)))) ∧ Below wr.heap.size wr w') := by
          have := ints_any vo mo (zs vl) (zs (chs l n)) vc mcap wr hvi (HIu.out wr hbr) (by rw [zs_len]; omega) (by rw [zs_len, ← HCL.out]; omega)
          rw [zs_len, zs_len, ← HCL.out, ← hxl'] at this
          exact this
        rw [← hxl'] at c1 hxl hmx
        have hxz : (xl : Int) ≤ 300 := by omega
        have HS : Hid (fnd12 (chs l n) (bkts l) (i + 1) = (fnd12 (chs l n) (bkts l) i || decide (zs vl = zs (chs l n)))) := hsc
        have HBR : Hid (∀ u, Below wr.heap.size wr u → Below w2.heap.size w2 u) := fun u hu => hbr.trans (hu.mono hbr.size)
        have hm1 : ¬ (n : Int) ≤ (xl : Int) ∨ ((n : Int) ≤ (xl : Int) ∧ ¬ (cl : Int) < (xl : Int)) := by omega
        clear hx hV hvi hsc hxl' hmx hbr
        generalize decide (zs vl = zs (chs l n)) = same at *
        generalize hF : fnd12 (chs l n) (bkts l) i = F at *
        clear hF
        cases F with
        | true =>
          have HS1 : Hid (fnd12 (chs l n) (bkts l) (i + 1) = true) := HS.out
          have hbr := HBR.out wr (Below.refl _ _)
          clear HS CI HBR
          rcases hm1 with hm1 | ⟨hm1, hm2⟩
          · go_wp2_with fail
            go_roundw
            case rel => exact ⟨i + 1, by omega, by go_num, by rw [HS1.out], hbr⟩
            case measure => (simp [intOf]; try omega)
          · have hm3 : ¬ cl < xl := by omega
            go_wp2_with fail
            go_roundw
            case rel => exact ⟨i + 1, by omega, by go_num, by rw [HS1.out], hbr⟩
            case measure => (simp [intOf]; try omega)
        | false =>
          have HS1 : Hid (fnd12 (chs l n) (bkts l) (i + 1) = same) := HS.out
          clear HS
          rcases hm1 with hm1 | ⟨hm1, hm2⟩
          · go_wp2_with (go_at_call 10; go_fit CI.out; rintro e w3 ⟨rfl, hB3⟩)
            have hbr := HBR.out w3 hB3
            clear hB3 CI HBR
            go_roundw
            case rel => exact ⟨i + 1, by omega, by go_num, by rw [HS1.out], hbr⟩
            case measure => (simp [intOf]; try omega)
          · have hm3 : ¬ cl < xl := by omega
            go_wp2_with (go_at_call 10; go_fit CI.out; rintro e w3 ⟨rfl, hB3⟩)
            have hbr := HBR.out w3 hB3
            clear hB3 CI HBR
            go_roundw
            case rel => exact ⟨i + 1, by omega, by go_num, by rw [HS1.out], hbr⟩
            case measure => (simp [intOf]; try omega)
      · obtain rfl : i = vs.length := by omega
        have hgez : ¬ (vs.length : Int) < (vs.length : Int) := by omega
        rw [HFA.out]
        have HBR : Hid (∀ u, Below wr.heap.size wr u → Below w.heap.size w u) := fun u hu => HE.out u (hbr.trans (hu.mono hbr.size))
        have hls := HLS.out
        clear hbr
        rcases Nat.eq_zero_or_pos cl with h0 | h0
        · have h0z : (cl : Int) = 0 := by omega
          go_wp2_with fail
          go_fit (CL.out _)
          rintro e w3 ⟨rfl, hB3⟩
          have HF : Hid (Below w.heap.size w w3) := HBR.out _ hB3
          clear hB3
          go_wp2_with fail
          go_ret
          exact ⟨rfl, HF.out⟩
        · have h0z : ¬ (cl : Int) = 0 := by omega
          have h1z : (n : Int) ≤ (cl : Int) := by omega
          go_wp2_with fail
          go_fit (CL.out _)
          rintro e w3 ⟨rfl, hB3⟩
          have HF : Hid (Below w.heap.size w w3) := HBR.out _ hB3
          clear hB3
          go_wp2_with fail
          go_ret
          exact ⟨rfl, HF.out⟩
end Go.Proofs.Ytdeobmihkcfofaa.tiersMost

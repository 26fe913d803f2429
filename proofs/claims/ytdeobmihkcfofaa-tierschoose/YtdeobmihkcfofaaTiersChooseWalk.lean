/-
  THE LAW TiersChoose, walked.
-/
import Derived.Test.YtdeobmihkcfofaaTirRefC
namespace Go.Proofs.Ytdeobmihkcfofaa.tiersChoose
open Go.RowKit Go.Proofs.Ytdeobmihkcfofaa

set_option maxRecDepth 100000 in
set_option maxHeartbeats 2000000 in
theorem walk (ao : Option Addr) (l : List Int) (cap : Nat) (least : Int) (w : World) (hs : ISees w ao l) (_hn : ao = none → l.length = 0) (hl : l.length ≤ 1125899906842624) (_hk : -9223372036854775808 ≤ least ∧ least ≤ 9223372036854775807) :
    Calls Try.prog 3 #[.slice ao l.length cap, .int .i64 least] w fun e w' => e = .returned (.bool true) ∧ Below w.heap.size w w' := by
  have CL : Hid (∀ u, Calls Try.prog 7 #[] u fun e w' => e = .returned (.bool true) ∧ Below u.heap.size u w') := lives12_any
  have hlz : (l.length : Int) ≤ 1125899906842624 := by omega
  by_cases hbig : (500 : Int) < (l.length : Int)
  · clear hs
    go_enter Try.func3, Try.ntmps3
    go_wp2_with fail
    go_fit (CL.out _)
    rintro e w3 ⟨rfl, hB3⟩
    go_wp2_with fail
    go_ret
    exact ⟨rfl, hB3⟩
  have hl5 : l.length ≤ 500 := by omega
  have CB : Hid (Calls Try.prog 8 #[.slice ao l.length cap] w fun e w' => ∃ bo vs bcap, e = .returned (.slice bo vs.length bcap) ∧ BSees w' bo vs ∧ vs.map Iv.l = bkts l ∧ Below w.heap.size w w') := buckets_any ao l cap w hs (by omega)
  have CR : Hid (∀ u, Below w.heap.size w u → Calls Try.prog 9 #[.slice ao l.length cap] u fun e w' => ∃ bo vs bcap, e = .returned (.slice bo vs.length bcap) ∧ BSees w' bo vs ∧ vs.map Iv.l = bkts l ∧ Below u.heap.size u w') := fun u hu => rbuckets_any ao l cap u (hs.below hu (Nat.le_refl _)) hl5
  have CC : Hid (∀ u, Below w.heap.size w u → Calls Try.prog 11 #[.slice ao l.length cap, .int .i64 least] u fun e w' => ∃ mo mcap, e = .returned (.slice mo (chs l least).length mcap) ∧ ISees w' mo (zs (chs l least)) ∧ Below u.heap.size u w') := fun u hu => choose_any ao l cap least u (hs.below hu (Nat.le_refl _)) (by omega)
  have CD : Hid (∀ u, Below w.heap.size w u → Calls Try.prog 12 #[.slice ao l.length cap, .int .i64 least] u fun e w' => ∃ mo mcap, e = .returned (.slice mo (chs l least).length mcap) ∧ ISees w' mo (zs (chs l least)) ∧ Below u.heap.size u w') := fun u hu => rchoose_any ao l cap least u (hs.below hu (Nat.le_refl _)) hl5
  have hchl := chs_len l least
  have HVL : Hid (∀ vs : List Iv, vs.map Iv.l = bkts l → vs.length = (bkts l).length ∧ ∀ v ∈ vs, v.l.length ≤ 500) := fun vs h => by
    refine ⟨by rw [← h, List.length_map], fun v hv => ?_⟩
    have := bkts_mem (s := l) (b := v.l) (by rw [← h]; exact List.mem_map_of_mem hv)
    omega
  have hbl := bkts_len l
  clear hs
  go_enter Try.func3, Try.ntmps3
  go_wp2_with fail
  go_fit CB.out
  rintro e w1 ⟨ba, va, ca, rfl, ha1, ha2, hB1⟩
  have CR1 : Hid (Calls Try.prog 9 #[.slice ao l.length cap] w1 fun e w' => ∃ bo vs bcap, e = .returned (.slice bo vs.length bcap) ∧ BSees w' bo vs ∧ vs.map Iv.l = bkts l ∧ Below w1.heap.size w1 w') := CR.out w1 hB1
  clear CB CR
  go_wp2_with fail
  go_fit CR1.out
  rintro e w2 ⟨bb, vb, cb, rfl, hb1, hb2, hB2⟩
  obtain ⟨hla, hxa⟩ := HVL.out va ha2
  obtain ⟨hlb, hxb⟩ := HVL.out vb hb2
  obtain ⟨n, hn⟩ : ∃ n, n = (bkts l).length := ⟨_, rfl⟩
  rw [← hn] at hla hlb hbl
  have HVA : Hid (∀ u, Below w2.heap.size w2 u → BSees u ba va ∧ BSees u bb vb ∧ Below w.heap.size w u) := fun u hu => by
    have h2 : Below w1.heap.size w1 u := hB2.trans (hu.mono hB2.size)
    exact ⟨ha1.below h2 (Nat.le_refl _), hb1.below hu (Nat.le_refl _), hB1.trans (h2.mono hB1.size)⟩
  have HEQ : Hid (∀ (i : Nat) (v u : Iv), va[i]? = some v → vb[i]? = some u → v.l = u.l) := fun i v u hv hu => by
    have h1 : (va.map Iv.l)[i]? = some v.l := by rw [List.getElem?_map, hv]; rfl
    have h2 : (vb.map Iv.l)[i]? = some u.l := by rw [List.getElem?_map, hu]; rfl
    rw [ha2] at h1
    rw [hb2, h1] at h2
    exact Option.some.inj h2
  have HXA : Hid (∀ v ∈ va, v.l.length ≤ 500) := hxa
  have HLA : Hid (va.length = n ∧ vb.length = n) := ⟨hla, hlb⟩
  have hnz : (n : Int) ≤ 500 := by omega
  rw [hla, hlb]
  clear ha1 ha2 hb1 hb2 hB1 hB2 hxa hxb hla hlb CR1 HVL hn hbl
  go_wp2_with fail
  go_loopw [23] (fun s23 wr => ∃ i : Nat, i ≤ n ∧ s23 = .int .i64 (i : Int) ∧ Below w2.heap.size w2 wr) (fun s23 _ => n - (intOf s23).toNat)
  case atStart => exact ⟨0, by omega, rfl, Below.refl _ _⟩
  case round =>
    obtain ⟨i, hi, rfl, hbr⟩ := hrel
    rcases Nat.lt_or_ge i n with hlt | hge
    · have hltz : (i : Int) < (n : Int) := by omega
      obtain ⟨v, hv⟩ : ∃ v, va[i]? = some v := ⟨_, List.getElem?_eq_getElem (by rw [HLA.out.1]; exact hlt)⟩
      obtain ⟨u, hu⟩ : ∃ u, vb[i]? = some u := ⟨_, List.getElem?_eq_getElem (by rw [HLA.out.2]; exact hlt)⟩
      have heq := HEQ.out i v u hv hu
      obtain ⟨hA, hB, _⟩ := HVA.out wr hbr
      obtain ⟨b1, o1, rfl, c1⟩ := hA.at' i v hv
      obtain ⟨b2, o2, rfl, c2⟩ := hB.at' i u hu
      have hxl := HXA.out v (List.mem_of_getElem? hv)
      have hIv := hA.ins v (List.mem_of_getElem? hv)
      have hIu := hB.ins u (List.mem_of_getElem? hu)
      obtain ⟨vo, vl, vc⟩ := v
      obtain ⟨uo, ul, uc⟩ := u
      simp only at heq hxl hIv hIu
      subst heq
      simp only [Iv.s] at c1 c2
      obtain ⟨xl, hxl'⟩ : ∃ xl, xl = vl.length := ⟨_, rfl⟩
      have CI : Hid (∀ q : Cl wr.heap.size wr, Calls Try.prog 10 #[.slice vo xl vc, .slice uo xl uc] q.u fun e w' => e = .returned (.bool true) ∧ Below q.u.heap.size q.u w') := fun q => by
        have := ints_same vo uo (zs vl) vc uc q.u (hIv.below q.h (Nat.le_refl _)) (hIu.below q.h (Nat.le_refl _)) (by rw [zs_len]; omega)
        rw [zs_len, ← hxl'] at this; exact this
      rw [← hxl'] at c1 c2
      have q0 : ∀ z : Cl wr.heap.size wr, z.u.cell? ⟨b1, o1 + i, none⟩ = some (.slice vo xl vc) := fun z => z.cell (World.block_lt_of_cell? _ _ c1) c1
      have q1 : ∀ z : Cl wr.heap.size wr, z.u.cell? ⟨b2, o2 + i, none⟩ = some (.slice uo xl uc) := fun z => z.cell (World.block_lt_of_cell? _ _ c2) c2
      have HE : Hid (∀ w', Below wr.heap.size wr w' → Below w2.heap.size w2 w') := fun w' h => hbr.trans (h.mono hbr.size)
      clear hv hu hA hB c1 c2 hIv hIu hxl' hbr HVA HEQ
      haveI := Cl.inh wr.heap.size wr
      go_wp2_with fail
      refine wp_region_cl wr.heap.size (by kernel_rfl) (by kernel_rfl) ?_
      repeat (quiet_step (first | (go_at_call 10; exact Cl.calls (Nat.le_refl _) (CI.out _))))
      refine wpQuiet_nil ?_
      rintro w0 ⟨z, rfl⟩
      have hz := HE.out _ z.h
      go_wp2_with fail
      go_roundw
      case rel => exact ⟨i + 1, by omega, by go_num, hz⟩
      case measure => (simp [intOf]; try omega)
    · obtain rfl : i = n := by omega
      have hgez : ¬ (i : Int) < (i : Int) := by omega
      have hBr := (HVA.out wr hbr).2.2
      have C1 : Hid (Calls Try.prog 11 #[.slice ao l.length cap, .int .i64 least] wr fun e w' => ∃ mo mcap, e = .returned (.slice mo (chs l least).length mcap) ∧ ISees w' mo (zs (chs l least)) ∧ Below wr.heap.size wr w') := CC.out wr hBr
      obtain ⟨xl, hxl⟩ : ∃ xl, xl = (chs l least).length := ⟨_, rfl⟩
      have HXL : Hid (xl = (chs l least).length) := hxl
      rw [← hxl] at C1 CD
      clear hbr HVA HEQ HXA HLA CC hxl
      go_wp2_with fail
      go_fit C1.out
      rintro e w3 ⟨mo, mcap, rfl, hI3, hB3⟩
      have hB3' : Below w.heap.size w w3 := hBr.trans (hB3.mono hBr.size)
      have C2 : Hid (Calls Try.prog 12 #[.slice ao l.length cap, .int .i64 least] w3 fun e w' => ∃ mo mcap, e = .returned (.slice mo xl mcap) ∧ ISees w' mo (zs (chs l least)) ∧ Below w3.heap.size w3 w') := CD.out w3 hB3'
      clear C1 CD hB3 hBr
      go_wp2_with fail
      go_fit C2.out
      rintro e w4 ⟨mo2, mcap2, rfl, hI4, hB4⟩
      have hB4' : Below w.heap.size w w4 := hB3'.trans (hB4.mono hB3'.size)
      have C3 : Hid (Calls Try.prog 10 #[.slice mo xl mcap, .slice mo2 xl mcap2] w4 fun e w' => e = .returned (.bool true) ∧ Below w4.heap.size w4 w') := by
        have := ints_same mo mo2 (zs (chs l least)) mcap mcap2 w4 (hI3.below hB4 (Nat.le_refl _)) hI4 (by rw [zs_len]; omega)
        rw [zs_len, ← HXL.out] at this; exact this
      clear C2 hI3 hI4 hB4 hB3'
      go_wp2_with fail
      go_fit C3.out
      rintro e w5 ⟨rfl, hB5⟩
      have hB5' : Below w.heap.size w w5 := hB4'.trans (hB5.mono hB4'.size)
      clear C3 hB5 hB4'
      go_wp2_with fail
      go_fit (CL.out _)
      rintro e w6 ⟨rfl, hB6⟩
      have HF : Hid (Below w.heap.size w w6) := hB5'.trans (hB6.mono hB5'.size)
      clear hB5' hB6
      go_wp2_with fail
      go_ret
      exact ⟨rfl, HF.out⟩
end Go.Proofs.Ytdeobmihkcfofaa.tiersChoose

/-
  THE LAW TiersParts, walked.
-/
import Derived.Test.YtdeobmihkcfofaaTirParts
namespace Go.Proofs.Ytdeobmihkcfofaa.tiersParts
open Go.RowKit Go.Proofs.Ytdeobmihkcfofaa

theorem grown_cell {w wr : World} {g : Nat} (h : w.grownBy wr (some g)) {a : Addr} {v : Value} (hc : w.cell? a = some v) (hne : a.block ≠ g) : wr.cell? a = some v := by
  rw [World.cell?_of_block (h.block a.block (World.block_lt_of_cell? _ _ hc) fun e => hne (Option.some.inj e))]; exact hc
theorem grown_set {w wr : World} {g i : Nat} {v : Value} (h : w.grownBy wr (some g)) : w.grownBy (wr.setCell ⟨g, i, none⟩ v) (some g) := grownBy_setCell h
set_option maxRecDepth 100000 in
set_option maxHeartbeats 4000000 in
theorem walk (ao : Option Addr) (l : List Int) (cap : Nat) (w : World) (hs : ISees w ao l) (_hn : ao = none → l.length = 0) (hl : l.length ≤ 1125899906842624) :
    Calls Try.prog 4 #[.slice ao l.length cap] w fun e w' => e = .returned (.bool true) ∧ Below w.heap.size w w' := by
  have CL : Hid (∀ u, Calls Try.prog 7 #[] u fun e w' => e = .returned (.bool true) ∧ Below u.heap.size u w') := lives12_any
  have hlz : (l.length : Int) ≤ 1125899906842624 := by omega
  by_cases hbig : (300 : Int) < (l.length : Int)
  · clear hs
    go_enter Try.func4, Try.ntmps4
    go_wp2_with fail
    go_fit (CL.out _)
    rintro e w3 ⟨rfl, hB3⟩
    go_wp2_with fail
    go_ret
    exact ⟨rfl, hB3⟩
  obtain ⟨i1, hi1, hy0, hy1, hy2⟩ := infoXT infoInt
  have hl3 : l.length ≤ 300 := by omega
  obtain ⟨w1, hw1⟩ : ∃ w1, w1 = w.alloc (.cells (madeCells #[.int .i64 0] l.length) 3) := ⟨_, rfl⟩
  have hmade : madeCells #[.int .i64 0] l.length = (vI (cnts l.length [])).toArray := by
    rw [cnts_nil]
    apply Array.ext_getElem?
    intro k
    rcases Nat.lt_or_ge k l.length with h | h
    · simp [madeCells, vI, h, Nat.mod_one]
    · simp [madeCells, vI, h]
  have hb1 : Blk w1 w.heap.size (vI (cnts l.length [])) 3 := by rw [hw1, hmade]; exact Blk.new w _ _
  have hB1 : Below w.heap.size w w1 := by rw [hw1]; exact (Below.refl _ _).alloc (Nat.le_refl _) _
  have hz1 : w1.heap.size = w.heap.size + 1 := by rw [hw1]; simp
  have HW : Hid (w.alloc (.cells (madeCells #[.int .i64 0] l.length) 3) = w1) := hw1.symm
  have CB : Hid (Calls Try.prog 8 #[.slice ao l.length cap] w1 fun e w' => ∃ bo vs bcap, e = .returned (.slice bo vs.length bcap) ∧ BSees w' bo vs ∧ vs.map Iv.l = bkts l ∧ BNew w1.heap.size bo vs ∧ Below w1.heap.size w1 w') := buckets_new ao l cap w1 (hs.below hB1 (Nat.le_refl _)) (by omega)
  have HB : Hid (∀ w2, Below w1.heap.size w1 w2 → Blk w2 w.heap.size (vI (cnts l.length [])) 3 ∧ ISees w2 ao l ∧ Below w.heap.size w w2) := fun w2 h2 =>
    ⟨hb1.carry (h2.block _ (by omega)), hs.below (hB1.trans (h2.mono hB1.size)) (Nat.le_refl _), hB1.trans (h2.mono hB1.size)⟩
  have HVL : Hid (∀ vs : List Iv, vs.map Iv.l = bkts l → vs.length ≤ 300 ∧ ∀ v ∈ vs, v.l.length ≤ 300) := fun vs h => by
    have h1 := congrArg List.length h
    have h2 := bkts_len l
    rw [List.length_map] at h1
    refine ⟨by omega, fun v hv => ?_⟩
    have := bkts_mem (s := l) (b := v.l) (by rw [← h]; exact List.mem_map_of_mem hv)
    omega
  have HS0 : Hid (ISees w ao l) := hs
  have HZ : Hid (w1.heap.size = w.heap.size + 1) := hz1
  clear hs hw1 hmade hb1 hB1 hz1
  go_enter Try.func4, Try.ntmps4
  go_wp2_with (first | (at_make; go_must (refine wpList_make_row _ rfl _ _ 22 rfl 3 i1 (.int .i64 0) Try.underlying22 hi1 hy0 hy1 rfl .i64 .i64 l.length rfl rfl (by rw [hy2]; omega) (by omega) ?_; rw [HW.out])) | (go_at_call 8; go_fit CB.out; rintro e w2 ⟨bo, vs, bcap, rfl, hv1, hv2, hv3, hB2⟩))
  obtain ⟨hvl, hvx⟩ := HVL.out vs hv2
  have HX : Hid (∀ v ∈ vs, v.l.length ≤ 300) := hvx
  have hvz : (vs.length : Int) ≤ 300 := by omega
  have HL : Hid (vs.map Iv.l = bkts l) := hv2
  obtain ⟨hb2, hs2, hbw2⟩ := HB.out w2 hB2
  have HP0 : Hid (Blk w2 w.heap.size (vI (cnts l.length ((bkts l).take 0).flatten)) 3 ∧ w2.grownBy w2 (some w.heap.size)) := ⟨hb2, rfl, rfl, rfl, Nat.le_refl _, fun _ _ _ => rfl⟩
  have HV : Hid (∀ wr, w2.grownBy wr (some w.heap.size) → (∀ (i : Nat) (v : Iv), vs[i]? = some v → ∃ b off, bo = some ⟨b, off, none⟩ ∧ b ≠ w.heap.size ∧ wr.cell? ⟨b, off + i, none⟩ = some v.s) ∧ (∀ v ∈ vs, ∀ (j x : Nat), v.l[j]? = some x → ∃ b off, v.ao = some ⟨b, off, none⟩ ∧ b ≠ w.heap.size ∧ wr.cell? ⟨b, off + j, none⟩ = some (.int .i64 (x : Int))) ∧ (∀ (t : Nat) (y : Int), l[t]? = some y → ∃ b off, ao = some ⟨b, off, none⟩ ∧ b ≠ w.heap.size ∧ wr.cell? ⟨b, off + t, none⟩ = some (.int .i64 y))) := fun wr hg => by
    have hz := HZ.out
    refine ⟨fun i v hv => ?_, fun v hv j x hx => ?_, fun t y hy => ?_⟩
    · obtain ⟨b, off, e, hc⟩ := hv1.at' i v hv
      have hne : b ≠ w.heap.size := by have := hv3.at' _ e; have : w1.heap.size ≤ b := this; omega
      exact ⟨b, off, e, hne, grown_cell hg hc hne⟩
    · obtain ⟨b, off, e, hc⟩ := hv1.ins v hv j _ (zs_at hx)
      have hne : b ≠ w.heap.size := by have := hv3.ins v hv _ e; have : w1.heap.size ≤ b := this; omega
      exact ⟨b, off, e, hne, grown_cell hg hc hne⟩
    · obtain ⟨b, off, e, hc⟩ := HS0.out t y hy
      have hlt : b < w.heap.size := World.block_lt_of_cell? _ _ hc
      have hc2 : w2.cell? ⟨b, off + t, none⟩ = some (.int .i64 y) := by rw [hbw2.cell (show b < w.heap.size from hlt)]; exact hc
      exact ⟨b, off, e, by omega, grown_cell hg hc2 (by show b ≠ w.heap.size; omega)⟩
  have HE : Hid (∀ wr, w2.grownBy wr (some w.heap.size) → Below w.heap.size w wr) := fun wr hg => hbw2.trans ⟨hg.os, hg.tape, hg.output, hg.size, fun k hk => hg.block k (by have := hbw2.size; omega) fun e => by cases e; omega⟩
  clear hv1 hv2 hv3 hB2 hvx hb2 hs2 hbw2 CB HB HVL HW
  go_loopw [4, 24] (fun s4 s24 wr => ∃ i : Nat, i ≤ vs.length ∧ s24 = .int .i64 (i : Int) ∧ s4 = .int .i64 (lst l (bkts l) i) ∧ Blk wr w.heap.size (vI (cnts l.length ((bkts l).take i).flatten)) 3 ∧ w2.grownBy wr (some w.heap.size)) (fun _ s24 _ => vs.length - (intOf s24).toNat)
  case atStart => exact ⟨0, by omega, rfl, rfl, HP0.out⟩
  case round =>
    obtain ⟨i, hi, rfl, rfl, hblk, hgr⟩ := hrel
    clear HP0
    rcases Nat.lt_or_ge i vs.length with hlt | hge
    · have hltz : (i : Int) < (vs.length : Int) := by omega
      have hx : vs[i]? = some vs[i] := List.getElem?_eq_getElem hlt
      have hmem : vs[i] ∈ vs := List.getElem_mem hlt
      have hbi : (bkts l)[i]? = some vs[i].l := by rw [← HL.out, List.getElem?_map, hx]; rfl
      obtain ⟨b, off, rfl, hbne, c1⟩ := (HV.out wr hgr).1 i _ hx
      have hxl := HX.out _ hmem
      have HVv : Hid (∀ wx, w2.grownBy wx (some w.heap.size) → ∀ (j x : Nat), vs[i].l[j]? = some x → ∃ b off, vs[i].ao = some ⟨b, off, none⟩ ∧ b ≠ w.heap.size ∧ wx.cell? ⟨b, off + j, none⟩ = some (.int .i64 (x : Int))) := fun wx hwx => (HV.out wx hwx).2.1 _ hmem
      generalize vs[i] = v at *
      obtain ⟨vo, vl, vc⟩ := v
      simp only [Iv.s] at c1 hxl hbi HVv
      have hne0 := bkts_ne (List.mem_of_getElem? hbi)
      have hlst := lst_ok hbi
      have hli := lst_in l (bkts l) i
      have HBI : Hid ((bkts l)[i]? = some vl) := hbi
      have hls : lst l (bkts l) (i + 1) = hiF l vl := by show hiF l ((bkts l).getD i []) = _; rw [List.getD_eq_getElem?_getD, hbi]; rfl
      have HLS : Hid (lst l (bkts l) (i + 1) = hiF l vl) := hls
      have HFL : Hid (∀ j, ((bkts l).take i).flatten ++ vl.take j ++ (vl.drop j ++ ((bkts l).drop (i + 1)).flatten) = (bkts l).flatten) := fun j => by
        conv => rhs; rw [← List.take_append_drop i (bkts l), drop1 hbi]
        simp only [List.flatten_append, List.flatten_cons, List.append_assoc]
        rw [← List.append_assoc (vl.take j), List.take_append_drop]
      have HF1 : Hid (((bkts l).take i).flatten ++ vl = ((bkts l).take (i + 1)).flatten) := by show _ = _; rw [take1 hbi]; simp
      have hvl0 : 0 < vl.length := List.length_pos_iff.2 hne0
      have HP1 : Hid (Blk wr w.heap.size (vI (cnts l.length (((bkts l).take i).flatten ++ vl.take 0))) 3 ∧ w2.grownBy wr (some w.heap.size)) := ⟨by rw [List.take_zero, List.append_nil]; exact hblk, hgr⟩
      obtain ⟨xl, hxl'⟩ : ∃ xl, xl = vl.length := ⟨_, rfl⟩
      have HXL : Hid (xl = vl.length) := hxl'
      rw [← hxl'] at c1 hxl hvl0
      have hxz : (xl : Int) ≤ 300 := by omega
      clear hx hmem hbi hne0 hls hblk hgr hlt hxl'
      generalize lst l (bkts l) i = last at *
      go_wp2_with fail
      go_loopw [7, 8, 30] (fun s7 s8 s30 wx => ∃ j : Nat, j ≤ xl ∧ s30 = .int .i64 (j : Int) ∧ s7 = .int .i64 (loF l (vl.take j)) ∧ s8 = .int .i64 (hiF l (vl.take j)) ∧ Blk wx w.heap.size (vI (cnts l.length (((bkts l).take i).flatten ++ vl.take j))) 3 ∧ w2.grownBy wx (some w.heap.size)) (fun _ _ s30 _ => xl - (intOf s30).toNat)
      case atStart => exact ⟨0, by omega, rfl, rfl, rfl, HP1.out⟩
      case round =>
        obtain ⟨j, hj, rfl, rfl, rfl, hblk, hgr⟩ := hrel
        clear HP1
        rcases Nat.lt_or_ge j xl with hjt | hjg
        · have hjz : (j : Int) < (xl : Int) := by omega
          have hj2 : j < vl.length := by rw [← HXL.out]; exact hjt
          have hx : vl[j]? = some vl[j] := List.getElem?_eq_getElem hj2
          generalize vl[j] = x at hx
          have hxin : x ∈ vl := List.mem_of_getElem? hx
          have hxlt : x < l.length := bkts_lt (List.mem_of_getElem? HBI.out) hxin
          have hxzl : (x : Int) < (l.length : Int) := by omega
          have hx0 : ¬ (x : Int) < 0 := by omega
          have hxge : ¬ (l.length : Int) ≤ (x : Int) := by omega
          have hy : l[x]? = some l[x] := List.getElem?_eq_getElem hxlt
          have hcz : (cs l x : Int) = min (max l[x] 0) 1099511627776 := by rw [← cz_eq]; simp [cs, List.getD, hy]
          generalize l[x] = y at hy hcz
          have HLo : Hid (loF l (vl.take (j + 1)) = min (loF l (vl.take j)) (cs l x : Int)) := lo_step hx
          have HHi : Hid (hiF l (vl.take (j + 1)) = max (hiF l (vl.take j)) (cs l x : Int)) := hi_step hx
          have hlo0 := lo_in l (vl.take j)
          have hlo1 := lo_top l (vl.take j)
          have hhi0 := hi_low l (vl.take j)
          have hhi1 := hi_top l (vl.take j)
          have hcs0 : (0 : Int) ≤ (cs l x : Int) := by omega
          have hcs1 : (cs l x : Int) ≤ 1099511627776 := by have := cs_le l x; omega
          obtain ⟨b1, o1, hvo, hb1ne, d1⟩ := HVv.out wr hgr j x hx
          obtain ⟨b2, o2, hao, hb2ne, d2⟩ := (HV.out wr hgr).2.2 x y hy
          have k1 := hblk.cell x (vI_at (cnts_at _ hxlt))
          have k2 := hblk.frozen x
          have hkc : (((bkts l).take i).flatten ++ vl.take j).count x ≤ l.length := count_small (HFL.out j) x
          have HNX : Hid (((bkts l).take i).flatten ++ vl.take j ++ [x] = ((bkts l).take i).flatten ++ vl.take (j + 1)) := by show _ = _; rw [take1 hx, List.append_assoc]
          have hpv : j = 0 ∨ ∃ p, 0 < j ∧ vl[j - 1]? = some p ∧ p < x := by
            rcases Nat.eq_zero_or_pos j with h0 | h0
            · exact .inl h0
            · have hp : vl[j - 1]? = some vl[j - 1] := List.getElem?_eq_getElem (by omega)
              exact .inr ⟨_, h0, hp, bkts_rise (List.mem_of_getElem? HBI.out) (j := j - 1) hp (by rw [Nat.sub_add_cancel h0]; exact hx)⟩
          have HPR : Hid (∀ p, vl[j - 1]? = some p → wr.cell? ⟨b1, o1 + (j - 1), none⟩ = some (.int .i64 (p : Int))) := fun p hp => by
            obtain ⟨b', o', e', _, h'⟩ := HVv.out wr hgr (j - 1) p hp
            rw [hvo] at e'; cases e'; exact h'
          subst hvo hao
          generalize hK : (((bkts l).take i).flatten ++ vl.take j).count x = K at *
          have HN : Hid (Blk (wr.setCell ⟨w.heap.size, x, none⟩ (.int .i64 ((K : Int) + 1))) w.heap.size (vI (cnts l.length (((bkts l).take i).flatten ++ vl.take (j + 1)))) 3 ∧ w2.grownBy (wr.setCell ⟨w.heap.size, x, none⟩ (.int .i64 ((K : Int) + 1))) (some w.heap.size)) := by
            refine ⟨hblk.setTo x _ _ ?_, grown_set hgr⟩
            rw [vI_set, ← hK, cnts_step, HNX.out]
          have d3 : (wr.setCell ⟨w.heap.size, x, none⟩ (.int .i64 ((K : Int) + 1))).cell? ⟨b2, o2 + x, none⟩ = some (.int .i64 y) := by
            rw [World.cell?_of_block (Below.heap_setCell _ _ _ _ (by exact hb2ne))]; exact d2
          have hkz : (K : Int) ≤ 300 := by omega
          generalize loF l (vl.take j) = lo at *
          generalize hiF l (vl.take j) = hh at *
          generalize hz : (cs l x : Int) = z at *
          clear hz hblk hgr hx hxin hy HNX hK HVv HFL HF1 HV
          have hly : (y < 0 ∧ z = 0) ∨ (1099511627776 < y ∧ ¬ y < 0 ∧ z = 1099511627776) ∨ (¬ y < 0 ∧ ¬ 1099511627776 < y ∧ z = y) := by omega
          clear hcz
          rcases hpv with hj0 | ⟨p, hj0, hp, hpx⟩
          · have hjp : ¬ (0 : Int) < (j : Int) := by omega
            have hjp2 : ¬ 0 < j := by omega
            clear hj0 HPR
            rcases hly with ⟨hy1, rfl⟩ | ⟨hy1, hy2, rfl⟩ | ⟨hy1, hy2, rfl⟩
            · by_cases hlow : 0 < lo
              all_goals by_cases hhig : hh < 0
              all_goals (
                have HL2 := HLo.out
                have HH2 := HHi.out
                have HLo2 : Hid (loF l (vl.take (j + 1)) = min lo 0) := HL2
                have HHi2 : Hid (hiF l (vl.take (j + 1)) = max hh 0) := HH2
                clear HL2 HH2 HLo HHi
                go_wp2_with fail
                go_roundw
                case rel => exact ⟨j + 1, by omega, by go_num, by rw [HLo2.out]; congr 1; omega, by rw [HHi2.out]; congr 1; omega, HN.out⟩
                case measure => (simp [intOf]; try omega))
            · by_cases hlow : 1099511627776 < lo
              all_goals by_cases hhig : hh < 1099511627776
              all_goals (
                have HL2 := HLo.out
                have HH2 := HHi.out
                have HLo2 : Hid (loF l (vl.take (j + 1)) = min lo 1099511627776) := HL2
                have HHi2 : Hid (hiF l (vl.take (j + 1)) = max hh 1099511627776) := HH2
                clear HL2 HH2 HLo HHi
                go_wp2_with fail
                go_roundw
                case rel => exact ⟨j + 1, by omega, by go_num, by rw [HLo2.out]; congr 1; omega, by rw [HHi2.out]; congr 1; omega, HN.out⟩
                case measure => (simp [intOf]; try omega))
            · by_cases hlow : z < lo
              all_goals by_cases hhig : hh < z
              all_goals (
                have HL2 := HLo.out
                have HH2 := HHi.out
                have HLo2 : Hid (loF l (vl.take (j + 1)) = min lo z) := HL2
                have HHi2 : Hid (hiF l (vl.take (j + 1)) = max hh z) := HH2
                clear HL2 HH2 HLo HHi
                go_wp2_with fail
                go_roundw
                case rel => exact ⟨j + 1, by omega, by go_num, by rw [HLo2.out]; congr 1; omega, by rw [HHi2.out]; congr 1; omega, HN.out⟩
                case measure => (simp [intOf]; try omega))
          · have hjp : (0 : Int) < (j : Int) := by omega
            have hp1 := HPR.out p hp
            obtain ⟨jp, rfl⟩ : ∃ jp, j = jp + 1 := ⟨j - 1, by omega⟩
            rw [Nat.add_sub_cancel] at hp1
            have hpz : ¬ (x : Int) ≤ (p : Int) := by omega
            have hpz2 : ¬ x ≤ p := by omega
            clear hp HPR
            rcases hly with ⟨hy1, rfl⟩ | ⟨hy1, hy2, rfl⟩ | ⟨hy1, hy2, rfl⟩
            · by_cases hlow : 0 < lo
              all_goals by_cases hhig : hh < 0
              all_goals (
                have HL2 := HLo.out
                have HH2 := HHi.out
                have HLo2 : Hid (loF l (vl.take ((jp + 1) + 1)) = min lo 0) := HL2
                have HHi2 : Hid (hiF l (vl.take ((jp + 1) + 1)) = max hh 0) := HH2
                clear HL2 HH2 HLo HHi
                go_wp2_with fail
                go_roundw
                case rel => exact ⟨(jp + 1) + 1, by omega, by go_num, by rw [HLo2.out]; congr 1; omega, by rw [HHi2.out]; congr 1; omega, HN.out⟩
                case measure => (simp [intOf]; try omega))
            · by_cases hlow : 1099511627776 < lo
              all_goals by_cases hhig : hh < 1099511627776
              all_goals (
                have HL2 := HLo.out
                have HH2 := HHi.out
                have HLo2 : Hid (loF l (vl.take ((jp + 1) + 1)) = min lo 1099511627776) := HL2
                have HHi2 : Hid (hiF l (vl.take ((jp + 1) + 1)) = max hh 1099511627776) := HH2
                clear HL2 HH2 HLo HHi
                go_wp2_with fail
                go_roundw
                case rel => exact ⟨(jp + 1) + 1, by omega, by go_num, by rw [HLo2.out]; congr 1; omega, by rw [HHi2.out]; congr 1; omega, HN.out⟩
                case measure => (simp [intOf]; try omega))
            · by_cases hlow : z < lo
              all_goals by_cases hhig : hh < z
              all_goals (
                have HL2 := HLo.out
                have HH2 := HHi.out
                have HLo2 : Hid (loF l (vl.take ((jp + 1) + 1)) = min lo z) := HL2
                have HHi2 : Hid (hiF l (vl.take ((jp + 1) + 1)) = max hh z) := HH2
                clear HL2 HH2 HLo HHi
                go_wp2_with fail
                go_roundw
                case rel => exact ⟨(jp + 1) + 1, by omega, by go_num, by rw [HLo2.out]; congr 1; omega, by rw [HHi2.out]; congr 1; omega, HN.out⟩
                case measure => (simp [intOf]; try omega))
        · obtain rfl : j = xl := by omega
          have htk : vl.take j = vl := List.take_of_length_le (by rw [← HXL.out]; omega)
          rw [htk] at hblk ⊢
          rw [HF1.out] at hblk
          have HP2 : Hid (Blk wr w.heap.size (vI (cnts l.length ((bkts l).take (i + 1)).flatten)) 3 ∧ w2.grownBy wr (some w.heap.size)) := ⟨hblk, hgr⟩
          have hjz : ¬ (j : Int) < (j : Int) := by omega
          have hn0z : ¬ (j : Int) = 0 := by omega
          clear htk
          have hlo := lo_top l vl
          have hlz2 : ¬ loF l vl < last := by omega
          generalize loF l vl = lo at *
          have hhi := hi_top l vl
          have hhl := hi_low l vl
          generalize hiF l vl = hi' at *
          clear hblk hgr
          go_wp2_with fail
          go_roundw
          case rel => exact ⟨i + 1, by omega, by go_num, by rw [HLS.out], HP2.out⟩
          case measure => (simp [intOf]; try omega)
    · obtain rfl : i = vs.length := by omega
      have hgez : ¬ (vs.length : Int) < (vs.length : Int) := by omega
      have htk : (bkts l).take vs.length = bkts l := List.take_of_length_le (by rw [← HL.out, List.length_map]; omega)
      rw [htk] at hblk
      have HC : Hid (∀ t, t < l.length → wr.cell? ⟨w.heap.size, t, none⟩ = some (.int .i64 1)) := fun t ht => by
        have := hblk.cell t (vI_at (cnts_at _ ht))
        rw [count_all ht] at this
        exact this
      have hli := lst_in l (bkts l) vs.length
      generalize lst l (bkts l) vs.length = last at *
      have HBW : Hid (Below w.heap.size w wr) := HE.out wr hgr
      clear htk hblk hgr HV HE
      go_wp2_with fail
      go_loopw [91] (fun s91 wx => ∃ j : Nat, j ≤ l.length ∧ s91 = .int .i64 (j : Int) ∧ wx = wr) (fun s91 _ => l.length - (intOf s91).toNat)
      case atStart => exact ⟨0, by omega, rfl, rfl⟩
      case round =>
        obtain ⟨j, hj, rfl, rfl⟩ := hrel
        rcases Nat.lt_or_ge j l.length with hjt | hjg
        · have hjz : (j : Int) < (l.length : Int) := by omega
          have d1 := HC.out j hjt
          go_wp2_with fail
          go_roundw
          case rel => exact ⟨j + 1, by omega, by go_num, by trivial⟩
          case measure => (simp [intOf]; try omega)
        · have hjz : ¬ (j : Int) < (l.length : Int) := by omega
          go_wp2_with fail
          go_fit (CL.out _)
          rintro e w3 ⟨rfl, hB3⟩
          have HF : Hid (Below w.heap.size w w3) := HBW.out.trans (hB3.mono HBW.out.size)
          clear hB3
          go_wp2_with fail
          go_ret
          exact ⟨rfl, HF.out⟩
end Go.Proofs.Ytdeobmihkcfofaa.tiersParts

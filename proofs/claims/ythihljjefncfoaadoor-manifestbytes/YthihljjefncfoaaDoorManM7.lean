/-
  SEVERAL TEXTS IN ONE: ManRef, RefFrame, ManRefB, Steps, RefUnframe, ManRefR.
-/
import Derived.Test.YthihljjefncfoaaDoorManLives
import Derived.Test.YthihljjefncfoaaDoorManM6
import Derived.Test.YthihljjefncfoaaDoorCodUnframe
import Derived.Test.YthihljjefncfoaaDoorRefNum
import Derived.Test.YthihljjefncfoaaDoorOwn
import Derived.Deep.RegionLaw
namespace Go.Proofs.YthihljjefncfoaaDoor
open Go.RowKit

theorem contains_iff (ts : List Int) (k : Nat) (x : Int) (hk : k ≤ ts.length) : (ts.take k).contains x = true ↔ ∃ j, j < k ∧ ts.getD j 0 = x := by
  rw [List.contains_iff_mem]
  constructor
  · intro h
    obtain ⟨j, hj, e⟩ := List.getElem_of_mem h
    rw [List.length_take] at hj
    refine ⟨j, by omega, ?_⟩
    rw [List.getElem_take] at e
    rw [List.getD_eq_getElem?_getD, List.getElem?_eq_getElem (by omega)]
    exact e
  · rintro ⟨j, hj, rfl⟩
    rw [List.getD_eq_getElem?_getD, List.getElem?_eq_getElem (by omega)]
    exact List.mem_take_iff_getElem.2 ⟨j, by omega, rfl⟩
set_option maxRecDepth 100000 in
set_option maxHeartbeats 2000000 in
theorem refGoodM_any (ao : Option Addr) (cap : Nat) (m : Mf) (w : World) (h : MSees w ao cap m) (hl : m.ts.length ≤ 1000000) :
    Calls Tryd.prog 13 #[mval ao cap m] w fun e w' => e = .returned (.bool (goodM m)) ∧ Below w.heap.size w w' := by
  obtain ⟨ts, nx, fr⟩ := m
  obtain ⟨hs, hn, hcap⟩ := h
  dsimp only at hs hn hcap hl
  unfold mval
  dsimp only
  have hk := Blk.new w [.slice ao ts.length cap, .int .i64 nx, .int .i64 fr] 32
  have c0 := hk.cell 0 rfl
  have c1 := hk.cell 1 rfl
  have c2 := hk.cell 2 rfl
  have HB : Hid (Below w.heap.size w (w.alloc (.cells #[.slice ao ts.length cap, .int .i64 nx, .int .i64 fr] 32))) := (Below.refl _ _).alloc (Nat.le_refl _) _
  have hs1 := hs.below HB.out (Nat.le_refl _)
  have HS : Hid (∀ k, k < ts.length → ∃ b off, ao = some ⟨b, off, none⟩ ∧ (w.alloc (.cells #[.slice ao ts.length cap, .int .i64 nx, .int .i64 fr] 32)).cell? ⟨b, off + k, none⟩ = some (.int .i64 (ts.getD k 0))) := fun k hk => by
    obtain ⟨b', off', e', hcs⟩ := isees_at hs1 (by omega)
    exact ⟨b', off', e', hcs k hk⟩
  have hli : (ts.length : Int) ≤ 1000000 := by omega
  have GN : Hid (possZ nx = false → goodM ⟨ts, nx, fr⟩ = false) := fun h => good_nx h
  have GF : Hid (possZ fr = false → goodM ⟨ts, nx, fr⟩ = false) := fun h => good_fr h
  have GM : Hid (30 < ts.length → goodM ⟨ts, nx, fr⟩ = false) := fun h => good_many h
  have GX : Hid (∀ k, k < ts.length → okT ts nx k = false → goodM ⟨ts, nx, fr⟩ = false) := fun k hk h => good_no hk h
  have GY : Hid (possZ nx = true → possZ fr = true → ts.length ≤ 30 → (∀ j, j < ts.length → okT ts nx j = true) → goodM ⟨ts, nx, fr⟩ = true) := fun h1 h2 h3 h4 => good_yes h1 h2 h3 h4
  have HK : Hid (∀ k x, ts.getD k 0 = x → okT ts nx k = (decide (1 ≤ x) && decide (x < nx) && !((ts.take k).contains x))) := fun k x e => by unfold okT; rw [e]
  have HCI : Hid (∀ k x, k ≤ ts.length → ((ts.take k).contains x = true ↔ ∃ j, j < k ∧ ts.getD j 0 = x)) := fun k x hk => contains_iff ts k x hk
  clear hk hs1 hn hcap hs
  generalize goodM ⟨ts, nx, fr⟩ = G at *
  by_cases a1 : nx < 1
  · have HG : Hid (G = false) := GN.out (by cases hp : possZ nx; rfl; exact absurd (possZ_iff.1 hp) (by omega))
    clear GN GF GM GX GY HS HK HCI
    go_enter Tryd.func13, Tryd.ntmps13
    go_wp2_with fail
    go_ret
    exact ⟨by rw [HG.out]; rfl, HB.out⟩
  by_cases a2 : 999999999 < nx
  · have HG : Hid (G = false) := GN.out (by cases hp : possZ nx; rfl; exact absurd (possZ_iff.1 hp) (by omega))
    clear GN GF GM GX GY HS HK HCI
    go_enter Tryd.func13, Tryd.ntmps13
    go_wp2_with fail
    go_ret
    exact ⟨by rw [HG.out]; rfl, HB.out⟩
  by_cases a3 : fr < 1
  · have HG : Hid (G = false) := GF.out (by cases hp : possZ fr; rfl; exact absurd (possZ_iff.1 hp) (by omega))
    clear GN GF GM GX GY HS HK HCI
    go_enter Tryd.func13, Tryd.ntmps13
    go_wp2_with fail
    go_ret
    exact ⟨by rw [HG.out]; rfl, HB.out⟩
  by_cases a4 : 999999999 < fr
  · have HG : Hid (G = false) := GF.out (by cases hp : possZ fr; rfl; exact absurd (possZ_iff.1 hp) (by omega))
    clear GN GF GM GX GY HS HK HCI
    go_enter Tryd.func13, Tryd.ntmps13
    go_wp2_with fail
    go_ret
    exact ⟨by rw [HG.out]; rfl, HB.out⟩
  rcases Nat.lt_or_ge 30 ts.length with hm | hm
  · have HG : Hid (G = false) := GM.out hm
    have hmi : (30 : Int) < (ts.length : Int) := by omega
    clear GN GF GM GX GY HS HK HCI
    go_enter Tryd.func13, Tryd.ntmps13
    go_wp2_with fail
    go_ret
    exact ⟨by rw [HG.out]; rfl, HB.out⟩
  have HY : Hid ((∀ j, j < ts.length → okT ts nx j = true) → G = true) := GY.out (possZ_iff.2 (by omega)) (possZ_iff.2 (by omega)) hm
  have hmi : ¬ (30 : Int) < (ts.length : Int) := by omega
  clear GM GY GN GF hm
  go_enter Tryd.func13, Tryd.ntmps13
  go_wp2_with fail
  go_loop [33] (fun i => ∃ k : Nat, k ≤ ts.length ∧ i = .int .i64 (k : Int) ∧ ∀ j, j < k → okT ts nx j = true) (fun i => ts.length - (intOf i).toNat)
  case atStart => exact ⟨0, Nat.zero_le _, rfl, fun j hj => absurd hj (Nat.not_lt_zero _)⟩
  case round =>
    obtain ⟨k, hk, rfl, hall⟩ := hrel
    have HA : Hid (∀ j, j < k → okT ts nx j = true) := hall
    clear hall
    rcases Nat.lt_or_ge k ts.length with hlt | hge
    · obtain ⟨b, off, rfl, hc⟩ := HS.out k hlt
      have HX := HK.out k _ rfl
      have HQ : Hid (okT ts nx k = false → G = false) := fun h => GX.out k hlt h
      have hlti : (k : Int) < (ts.length : Int) := by omega
      have HC2 := HCI.out k (ts.getD k 0) hk
      have hki : (k : Int) ≤ 1000000 := by omega
      generalize ts.getD k 0 = x at *
      obtain ⟨O, hO⟩ : ∃ O, okT ts nx k = O := ⟨_, rfl⟩
      have HO : Hid (okT ts nx k = O) := hO
      rw [hO] at HX HQ
      clear hO
      by_cases x1 : x < 1
      · have HG : Hid (G = false) := HQ.out (by rw [HX, decide_eq_false (p := 1 ≤ x) (by omega)]; rfl)
        clear HX HQ HY GX HK HS HC2 HCI
        go_wp2_with fail
        go_ret
        exact ⟨by rw [HG.out]; rfl, HB.out⟩
      by_cases x2 : nx ≤ x
      · have HG : Hid (G = false) := HQ.out (by rw [HX, decide_eq_false (p := x < nx) (by omega), Bool.and_false]; rfl)
        clear HX HQ HY GX HK HS HC2 HCI
        go_wp2_with fail
        go_ret
        exact ⟨by rw [HG.out]; rfl, HB.out⟩
      have HX2 : Hid (O = !((ts.take k).contains x)) := by show _ = _; rw [HX, decide_eq_true (p := 1 ≤ x) (by omega), decide_eq_true (p := x < nx) (by omega)]; rfl
      have HC3 : Hid ((ts.take k).contains x = true ↔ ∃ j, j < k ∧ ts.getD j 0 = x) := HC2
      clear HX HK HC2 HCI
      go_wp2_with fail
      go_loop [5] (fun i => ∃ j : Nat, j ≤ k ∧ i = .int .i64 (j : Int) ∧ ∀ q, q < j → ts.getD q 0 ≠ x) (fun i => k - (intOf i).toNat)
      case atStart => exact ⟨0, Nat.zero_le _, rfl, fun j hj => absurd hj (Nat.not_lt_zero _)⟩
      case round =>
        obtain ⟨j, hj, rfl, hno⟩ := hrel
        have HN : Hid (∀ q, q < j → ts.getD q 0 ≠ x) := hno
        clear hno
        rcases Nat.lt_or_ge j k with hjk | hjk
        · obtain ⟨b', off', e', hcj⟩ := HS.out j (by omega)
          cases e'
          have hjki : (j : Int) < (k : Int) := by omega
          have hjl : (j : Int) < (ts.length : Int) := by omega
          obtain ⟨y, hy⟩ : ∃ y, ts.getD j 0 = y := ⟨_, rfl⟩
          have HYY : Hid (ts.getD j 0 = y) := hy
          rw [hy] at hcj
          clear hy
          by_cases hxy : y = x
          · subst hxy
            have HG : Hid (G = false) := HQ.out (by rw [HX2.out, HC3.out.2 ⟨j, hjk, HYY.out⟩]; rfl)
            clear HQ HY GX HS HX2 HC3
            go_wp2_with fail
            go_ret
            exact ⟨by rw [HG.out]; rfl, HB.out⟩
          · have hxb : (y == x) = false := by rw [beq_eq_false_iff_ne]; exact hxy
            have HNE : Hid (y ≠ x) := hxy
            go_wp2_with fail
            go_round
            case rel =>
              refine ⟨j + 1, by omega, by go_num, fun q hq => ?_⟩
              by_cases e : q = j
              · subst e; rw [HYY.out]; exact HNE.out
              · exact HN.out q (by omega)
            case measure => (simp [intOf]; try omega)
        · obtain rfl : k = j := by omega
          have HG : Hid (O = true) := by
            show _ = _
            rw [HX2.out]
            cases hct : (ts.take k).contains x with
            | false => rfl
            | true =>
              obtain ⟨q, hq, e⟩ := HC3.out.1 hct
              exact absurd e (HN.out q hq)
          have hge' : ¬ (k : Int) < (k : Int) := by omega
          go_wp2_with fail
          go_round
          case rel =>
            refine ⟨k + 1, by omega, by go_num, fun q hq => ?_⟩
            by_cases e : q = k
            · subst e; exact HO.out.trans HG.out
            · exact HA.out q (by omega)
          case measure => (simp [intOf]; try omega)
    · obtain rfl : k = ts.length := by omega
      have HG : Hid (G = true) := HY.out HA.out
      clear HY GX HA HK HS HCI
      go_wp2_with fail
      go_ret
      exact ⟨by rw [HG.out]; rfl, HB.out⟩
end Go.Proofs.YthihljjefncfoaaDoor
namespace Go.Proofs.YthihljjefncfoaaDoor
open Go.RowKit

theorem refFrame_long (ao : Option Addr) (n cap : Nat) (w : World) (h : 262144 < n) (hn : n ≤ 140737488355328) :
    Calls Tryd.prog 27 #[.slice ao n cap] w fun e w' => e = .returned (.slice none 0 0) ∧ w' = w := by
  go_enter Tryd.func27, Tryd.ntmps27
  go_wp2
  go_ret
  exact ⟨rfl, rfl⟩

/-- A row that was just laid. -/
theorem owns_lit (w : World) (l : List UInt8) (base : Nat) (hb : base ≤ w.heap.size) (hm : l.length ≤ maxLen) : (w.alloc (.cells (B8 l).toArray 5)).ownsRow base 5 1 (.slice (some ⟨w.heap.size, 0, none⟩) l.length l.length) l.length (B8 l) := by
  have := World.ownsRow_lit (e := 5) (size := 1) w (B8 l).toArray l.length hb hm (by simp [B8_length])
  simpa using this
theorem src_owns {w : World} {base n : Nat} {l : List UInt8} {v : Value} (h : w.ownsRow base 5 1 v n (B8 l)) : Src Tryd.prog 1 25 v n (B8 l) w := by
  obtain ⟨ao, cap, rfl, hs, hl, hn⟩ := owns_sees h
  have := src_sees (P := Tryd.prog) Tryd.underlying25 hs (fun e => by have := (hn e).1; omega) cap
  rwa [hl] at this
theorem owns_grew {w w' : World} {base : Nat} {e : TypeId} {size : Nat} {v : Value} {n : Nat} {xs : List Value} (h : w.ownsRow base e size v n xs) {u u' : Value} (hg : Grew w w' u u') (hne : ∀ k, v.ownBlock = some k → u.ownBlock ≠ some k) : w'.ownsRow base e size v n xs :=
  owns_heap h fun k hk => hg.rows.block k (h.lt k hk).2 (fun e => hne k hk e.symm)

set_option maxRecDepth 100000 in
set_option maxHeartbeats 1600000 in
theorem refFrame_any (ao : Option Addr) (l : List UInt8) (cap : Nat) (w : World) (hl : l.length ≤ 262144) (hs : Sees w ao l) (hnone : ao = none → l.length = 0) :
    Calls Tryd.prog 27 #[.slice ao l.length cap] w fun e w' => ∃ v', e = .returned v' ∧ w'.ownsRow w.heap.size 5 1 v' (l.length + 8) (B8 (frameL l)) ∧ Below w.heap.size w w' := by
  obtain ⟨i0, hi, hz0, hz1, hz2⟩ := info_parts info8
  have Hnone : Hid _ := hnone
  clear hnone
  have Hf1 : Hid _ := four_any l.length w (by omega)
  have o1 := owns_lit w (fourL l.length) w.heap.size (Nat.le_refl _) (by rw [fourL_length]; decide)
  have b1 : Below w.heap.size w (w.alloc (.cells (B8 (fourL l.length)).toArray 5)) := (Below.refl _ _).alloc (Nat.le_refl _) _
  have z1 : w.heap.size + 1 ≤ (w.alloc (.cells (B8 (fourL l.length)).toArray 5)).heap.size := by rw [World.size_alloc]; omega
  go_enter Tryd.func27, Tryd.ntmps27
  go_wp2_with fail
  refine Calls.mono (Hid.out Hf1) ?_
  rintro e w1 ⟨rfl, hw1⟩
  rw [← hw1] at o1 b1 z1
  clear hw1 Hf1
  have n2 := owns_none w1
  have o2 := o1.alloc (.cells #[] 5)
  have s2 := src_owns o2
  have bs1 := hs.below b1 (Nat.le_refl _)
  go_wp2_with (first
    | ((with_reducible (show wpList _ _ _ (Oper.mk _ (Op.call ⟨Callee.builtin Builtin.append, #[.tmp 12, .tmp 13], _⟩) _ _ _ _ :: _) _ _)); go_must (refine wpList_append_grew _ rfl (.tmp 12) (.tmp 13) 25 25 rfl w1.heap.size 5 i0 (.int .u8 0) 1 1 Tryd.underlying25 hi hz0 hz1 hz2 rfl _ 0 _ rfl n2 _ 4 (B8 (fourL l.length)) rfl s2 (by unfold maxLen; omega) (by omega) (by rw [World.size_alloc]; omega) ?_; intro v3 w3 ho3 hg3; have bs3 := hs.below (b1.trans ((below_none hg3).mono (by omega))) (Nat.le_refl _); have s3 := src_sees (P := Tryd.prog) Tryd.underlying25 bs3 Hnone.out cap; have hw3 := (below_none hg3).size))
    | ((with_reducible (show wpList _ _ _ (Oper.mk _ (Op.call ⟨Callee.builtin Builtin.append, #[.tmp 14, .tmp 15], _⟩) _ _ _ _ :: _) _ _)); go_must (refine wpList_append_grew _ rfl (.tmp 14) (.tmp 15) 25 25 rfl w1.heap.size 5 i0 (.int .u8 0) 1 1 Tryd.underlying25 hi hz0 hz1 hz2 rfl _ (0 + 4) _ rfl ho3 _ l.length (B8 l) rfl s3 (by unfold maxLen; omega) (by omega) (by omega) ?_; intro v4 w4 ho4 hg4)))
  have ho4' : w4.ownsRow w1.heap.size 5 1 v4 (4 + l.length) (B8 (fourL l.length ++ l)) := by rw [B8_append]; simpa using ho4
  obtain ⟨ao4, cap4, rfl, s4, l4, n4⟩ := owns_sees ho4'
  have g4 := hg3.trans hg4
  have b4 : Below w1.heap.size w1 w4 := below_none g4
  have o4 : w4.ownsRow w.heap.size 5 1 (.slice (some ⟨w.heap.size, 0, none⟩) 4 4) 4 (B8 (fourL l.length)) := owns_heap o1 (fun k hk => by cases hk; exact b4.block w.heap.size (by omega))
  have b4w : Below w.heap.size w w4 := b1.trans (b4.mono (by omega))
  have Hsum : Hid _ := refSum_any ao4 (fourL l.length ++ l) cap4 w4 s4 (by rw [l4]; omega)
  rw [l4] at Hsum
  clear ho3 ho4 ho4' hg3 hg4 g4 n2 o2 s2 bs1 o1 b1 hw3 s3 bs3 s4 n4
  refine Calls.mono (Hid.out Hsum) ?_
  rintro e w' ⟨rfl, rfl⟩
  obtain ⟨S, hS⟩ := Int.eq_ofNat_of_zero_le (sumZ_bd (fourL l.length ++ l)).1
  have hS32 : S < 4294967296 := by have := (sumZ_bd (fourL l.length ++ l)).2; omega
  have Hfin : Hid (frameL l = fourL l.length ++ (fourL S ++ l)) := by show _ = _; unfold frameL; rw [hS, Int.toNat_natCast]
  rw [hS]
  clear hS Hsum
  have Hf2 : Hid _ := four_any S w' hS32
  have o5 := owns_lit w' (fourL S) w'.heap.size (Nat.le_refl _) (by rw [fourL_length]; decide)
  have n5 := o4.alloc (.cells (B8 (fourL S)).toArray 5)
  have b5 : Below w.heap.size w (w'.alloc (.cells (B8 (fourL S)).toArray 5)) := b4w.alloc b4w.size _
  go_wp2_with fail
  refine Calls.mono (Hid.out Hf2) ?_
  rintro e w5 ⟨rfl, hw5⟩
  rw [← hw5] at o5 n5 b5
  clear hw5 Hf2
  have s5 := src_owns o5
  go_wp2_with (first
    | ((with_reducible (show wpList _ _ _ (Oper.mk _ (Op.call ⟨Callee.builtin Builtin.append, #[.tmp 18, .tmp 20], _⟩) _ _ _ _ :: _) _ _)); go_must (refine wpList_append_grew _ rfl (.tmp 18) (.tmp 20) 25 25 rfl w.heap.size 5 i0 (.int .u8 0) 1 1 Tryd.underlying25 hi hz0 hz1 hz2 rfl _ 4 _ rfl n5 _ 4 (B8 (fourL S)) rfl s5 (by unfold maxLen; omega) (by omega) (b5.size) ?_; intro v6 w6 ho6 hg6; have b6 := b5.trans (hg6.below b5.size (fun k hk => by cases hk; exact Nat.le_refl _)); have s6 := src_sees (P := Tryd.prog) Tryd.underlying25 (hs.below b6 (Nat.le_refl _)) Hnone.out cap))
    | ((with_reducible (show wpList _ _ _ (Oper.mk _ (Op.call ⟨Callee.builtin Builtin.append, #[.tmp 21, .tmp 22], _⟩) _ _ _ _ :: _) _ _)); go_must (refine wpList_append_grew _ rfl (.tmp 21) (.tmp 22) 25 25 rfl w.heap.size 5 i0 (.int .u8 0) 1 1 Tryd.underlying25 hi hz0 hz1 hz2 rfl _ (4 + 4) _ rfl ho6 _ l.length (B8 l) rfl s6 (by unfold maxLen; omega) (by omega) (b6.size) ?_; intro v7 w7 ho7 hg7)))
  go_ret
  refine ⟨v7, rfl, ?_, b6.trans (hg7.below b6.size (fun k hk => (ho6.lt k hk).1))⟩
  rw [Hfin.out, ← List.append_assoc, B8_append, B8_append, show l.length + 8 = 4 + 4 + l.length by omega]
  exact ho7
end Go.Proofs.YthihljjefncfoaaDoor
namespace Go.Proofs.YthihljjefncfoaaDoor
open Go.RowKit

set_option maxRecDepth 100000 in
theorem refBeginM_any (w : World) : Calls Tryd.prog 19 #[] w fun e w' => e = .returned (.agg #[.slice none 0 0, .int .i64 1, .int .i64 1]) ∧ Below w.heap.size w w' := by
  have hg : Hid (∀ o : Obj, (w.alloc o).heap[w.heap.size]? = some o) := fun o => heap_alloc_new w o
  go_enter Tryd.func19, Tryd.ntmps19
  go_wp2_with fail
  refine bodyPost_ret (v := .agg #[.slice none 0 0, .int .i64 1, .int .i64 1]) (results_cell_row Tryd.results19 _ _ w.heap.size 32 _ _ _ rfl (hg.out _) Tryd.underlying32 rfl (by kernel_rfl)) rfl ?_
  exact ⟨rfl, (Below.refl _ _).alloc (Nat.le_refl _) _⟩
set_option maxRecDepth 100000 in
theorem refFileM_any (n : Int) (hn : InI n) (w : World) :
    Calls Tryd.prog 17 #[.int .i64 n] w fun x w' => x = .returned (.string (tB (flM n))) ∧ Below w.heap.size w w' := by
  have CI : Hid (Calls Tryd.prog 37 #[.int .i64 n] w fun x w' => x = .returned (.string (tB (Lib.itoa n))) ∧ Below w.heap.size w w') := digits_any n hn w
  have HN : Hid (flM n = if possZ n then preM ++ Lib.itoa n else []) := rfl
  unfold InI at hn
  cases hok : possZ n with
  | true =>
    have hr := possZ_iff.1 hok
    have HR : Hid (⟨#[116, 97, 98, 45]⟩ ++ tB (Lib.itoa n) = tB (flM n)) := by
      show _ = _
      rw [HN.out, if_pos hok, ← tB_app]; rfl
    have h1 : ¬ n < 1 := by omega
    have h2 : ¬ 999999999 < n := by omega
    have hsz : (tB (Lib.itoa n)).size ≤ 21 := by rw [tB_size]; exact Lib.itoa_length_le n (by omega) (by omega)
    clear HN hok hr
    generalize tB (Lib.itoa n) = s at *
    have hsz2 : ¬ 9223372036854775807 < 4 + s.size := by omega
    go_enter Tryd.func17, Tryd.ntmps17
    go_wp2_with fail
    go_fit CI.out
    rintro e w2 ⟨rfl, hB⟩
    have HB : Hid (Below w.heap.size w w2) := hB
    clear hB
    go_wp2_with fail
    go_ret
    exact ⟨by rw [← HR.out]; rfl, HB.out⟩
  | false =>
    have HR : Hid (tB (flM n) = ⟨#[]⟩) := by
      show _ = _
      rw [HN.out, if_neg (by rw [hok]; simp)]; rfl
    have hnr : n < 1 ∨ (¬ n < 1 ∧ 999999999 < n) := by
      have : ¬ (1 ≤ n ∧ n ≤ 999999999) := fun h => by rw [possZ_iff.2 h] at hok; cases hok
      omega
    clear HN hok CI
    rcases hnr with h1 | ⟨h1, h2⟩
    all_goals
      go_enter Tryd.func17, Tryd.ntmps17
      go_wp2_with fail
      go_ret
      exact ⟨by rw [HR.out]; rfl, Below.refl _ _⟩
set_option maxRecDepth 100000 in
set_option maxHeartbeats 1000000 in
theorem refBytesM_bad (ao : Option Addr) (cap : Nat) (m : Mf) (w : World) (h : MSees w ao cap m) (hl : m.ts.length ≤ 1000000) (hg : goodM m = false) :
    Calls Tryd.prog 8 #[mval ao cap m] w fun e w' => e = .returned (.tuple #[.slice none 0 0, .int .i64 2]) ∧ Below w.heap.size w w' := by
  have HB : Hid (Below w.heap.size w (w.alloc (.cells #[.slice ao m.ts.length cap, .int .i64 m.nx, .int .i64 m.fr] 32))) := (Below.refl _ _).alloc (Nat.le_refl _) _
  have hk := Blk.new w [.slice ao m.ts.length cap, .int .i64 m.nx, .int .i64 m.fr] 32
  have c0 := hk.cell 0 rfl
  have c1 := hk.cell 1 rfl
  have c2 := hk.cell 2 rfl
  have CG : Hid (Calls Tryd.prog 13 #[.agg #[.slice ao m.ts.length cap, .int .i64 m.nx, .int .i64 m.fr]] (w.alloc (.cells #[.slice ao m.ts.length cap, .int .i64 m.nx, .int .i64 m.fr] 32)) fun e w' => e = .returned (.bool false) ∧ Below w.heap.size w w') := by
    have := refGoodM_any ao cap m _ (h.below HB.out (Nat.le_refl _)) hl
    rw [hg] at this
    exact this.mono fun e w' hh => ⟨hh.1, HB.out.trans (hh.2.mono HB.out.size)⟩
  clear h hl hg hk
  unfold mval
  go_enter Tryd.func8, Tryd.ntmps8
  go_wp2_with fail
  go_fit CG.out
  rintro e w2 ⟨rfl, hB⟩
  have HB2 : Hid (Below w.heap.size w w2) := hB
  clear hB
  go_wp2_with fail
  go_ret2
  exact ⟨rfl, HB2.out⟩
set_option maxRecDepth 100000 in
set_option maxHeartbeats 2000000 in
theorem refBytesM_ok (ao : Option Addr) (cap : Nat) (m : Mf) (w : World) (h : MSees w ao cap m) (hg : goodM m = true) :
    Calls Tryd.prog 8 #[mval ao cap m] w fun e w' => ∃ a5 c5, e = .returned (.tuple #[.slice a5 (encM m).length c5, .int .i64 0]) ∧ Sees w' a5 (encM m) ∧ (a5 = none → (encM m).length = 0) ∧ Below w.heap.size w w' := by
  have hl30 := (goodM_iff.1 hg).2.2.1
  have HB : Hid (Below w.heap.size w (w.alloc (.cells #[.slice ao m.ts.length cap, .int .i64 m.nx, .int .i64 m.fr] 32))) := (Below.refl _ _).alloc (Nat.le_refl _) _
  have hk := Blk.new w [.slice ao m.ts.length cap, .int .i64 m.nx, .int .i64 m.fr] 32
  have c0 := hk.cell 0 rfl
  have c1 := hk.cell 1 rfl
  have c2 := hk.cell 2 rfl
  have CG : Hid (Calls Tryd.prog 13 #[.agg #[.slice ao m.ts.length cap, .int .i64 m.nx, .int .i64 m.fr]] (w.alloc (.cells #[.slice ao m.ts.length cap, .int .i64 m.nx, .int .i64 m.fr] 32)) fun e w' => e = .returned (.bool true) ∧ Below w.heap.size w w' ∧ Blk w' w.heap.size [.slice ao m.ts.length cap, .int .i64 m.nx, .int .i64 m.fr] 32) := by
    have := refGoodM_any ao cap m _ (h.below HB.out (Nat.le_refl _)) (by omega)
    rw [hg] at this
    exact this.mono fun e w' hh => ⟨hh.1, HB.out.trans (hh.2.mono HB.out.size), hk.carry (hh.2.block _ hk.lt)⟩
  have hbd := good_bdd hg
  have hLl : (listM m).length = m.ts.length + 3 := by simp [listM]
  have HT : ∀ k, k < (listM m).length → ∃ u : Nat, u ≤ 999999999 ∧ (listM m).getD k 0 = (u : Int) ∧ numsB ((listM m).take (k + 1)) = numsB ((listM m).take k) ++ numL u := fun k hk => by
    have hmem : (listM m).getD k 0 ∈ listM m := by rw [List.getD_eq_getElem?_getD, List.getElem?_eq_getElem hk]; exact List.getElem_mem hk
    have := hbd _ hmem
    exact ⟨((listM m).getD k 0).toNat, by omega, by omega, numsB_take _ k hk⟩
  have HLn : ∀ k, (numsB ((listM m).take k)).length ≤ 330 := fun k => by have := numsB_lenT (listM m) k; omega
  /- one number more -/
  have CP : Hid (∀ (k u : Nat) (a : Option Addr) (c : Nat) (x : World), k < (listM m).length → (listM m).getD k 0 = (u : Int) → Below w.heap.size w x → Sees x a (numsB ((listM m).take k)) → (a = none → (numsB ((listM m).take k)).length = 0) → Calls Tryd.prog 26 #[.slice a (numsB ((listM m).take k)).length c, .int .u64 (u : Int)] x fun e w' => ∃ a5 c5, e = .returned (.slice a5 (numsB ((listM m).take (k + 1))).length c5) ∧ Sees w' a5 (numsB ((listM m).take (k + 1))) ∧ (a5 = none → (numsB ((listM m).take (k + 1))).length = 0) ∧ Below x.heap.size x w') := fun k u a c x hk hu hx hs hn => by
    obtain ⟨u', hu1, hu2, hu3⟩ := HT k hk
    obtain rfl : u = u' := by omega
    refine (refPut_any a _ c u x hs hn (by have := HLn k; omega) (by omega)).mono ?_
    rintro e w' ⟨v', rfl, ho, hb⟩
    rw [← hu3] at ho
    obtain ⟨a5, c5, rfl, s5, l5, n5⟩ := owns_sees ho
    rw [← l5] at n5 ⊢
    exact ⟨a5, c5, rfl, s5, fun e => (n5 e).1, hb⟩
  have HE : Hid (encM m = frameL (numsB ((listM m).take (m.ts.length + 3)))) := by show _ = _; rw [← hLl, List.take_length]; rfl
  have CF : Hid (∀ (a : Option Addr) (c : Nat) (x : World), Below w.heap.size w x → Sees x a (numsB ((listM m).take (m.ts.length + 3))) → (a = none → (numsB ((listM m).take (m.ts.length + 3))).length = 0) → Calls Tryd.prog 27 #[.slice a (numsB ((listM m).take (m.ts.length + 3))).length c] x fun e w' => ∃ a5 c5, e = .returned (.slice a5 (encM m).length c5) ∧ Sees w' a5 (encM m) ∧ (a5 = none → (encM m).length = 0) ∧ Below w.heap.size w w') := fun a c x hx hs hn => by
    refine (refFrame_any a _ c x (by have := HLn (m.ts.length + 3); omega) hs hn).mono ?_
    rintro e w' ⟨v', rfl, ho, hb⟩
    rw [← HE.out] at ho
    obtain ⟨a5, c5, rfl, s5, l5, n5⟩ := owns_sees ho
    rw [← l5] at n5 ⊢
    exact ⟨a5, c5, rfl, s5, fun e => (n5 e).1, hx.trans (hb.mono hx.size)⟩
  obtain ⟨nu, -, hn0, -⟩ := HT 0 (by omega)
  obtain ⟨fu, -, hf0, -⟩ := HT 1 (by omega)
  have hn1 : m.nx = (nu : Int) := hn0
  have hf1 : m.fr = (fu : Int) := hf0
  have hnb := hbd m.nx (by simp [listM])
  have hfb := hbd m.fr (by simp [listM])
  have HV : Hid (∀ i, i < m.ts.length → ∃ u : Nat, u ≤ 999999999 ∧ m.ts.getD i 0 = (u : Int) ∧ (listM m).getD (i + 3) 0 = (u : Int)) := fun i hi => by
    obtain ⟨u, h1, h2, _⟩ := HT (i + 3) (by omega)
    exact ⟨u, h1, h2, h2⟩
  have HSe : Hid (∀ x, Below w.heap.size w x → ∀ i, i < m.ts.length → ∃ b off, ao = some ⟨b, off, none⟩ ∧ x.cell? ⟨b, off + i, none⟩ = some (.int .i64 (m.ts.getD i 0))) := fun x hx i hi => by
    obtain ⟨b, off, e, hc⟩ := isees_at (h.see.below hx (Nat.le_refl _)) (by omega)
    exact ⟨b, off, e, hc i hi⟩
  obtain ⟨ts, nx, fr⟩ := m
  dsimp only at *
  subst hn1 hf1
  have P0 := CP.out 0 nu none 0
  have P1 := CP.out 1 fu
  have P2 := CP.out 2 ts.length
  have g2 : (listM ⟨ts, (nu : Int), (fu : Int)⟩).getD 2 0 = ((ts.length : Nat) : Int) := rfl
  unfold mval
  dsimp only
  generalize listM ⟨ts, (nu : Int), (fu : Int)⟩ = L at *
  generalize encM ⟨ts, (nu : Int), (fu : Int)⟩ = E at *
  clear h hg hk hbd HT HLn
  have hti : (ts.length : Int) ≤ 30 := by omega
  have hnui : (nu : Int) ≤ 999999999 := by omega
  have hfui : (fu : Int) ≤ 999999999 := by omega
  have e00 : (numsB (L.take 0)).length = 0 := rfl
  go_enter Tryd.func8, Tryd.ntmps8
  go_wp2_with fail
  go_fit CG.out
  rintro e w2 ⟨rfl, hB2, hk2⟩
  have e0 := hk2.cell 0 rfl
  have e1 := hk2.cell 1 rfl
  have e2 := hk2.cell 2 rfl
  have Q := P0 w2 (by omega) hn0 hB2 (Sees.nil _ _) (fun _ => rfl)
  rw [e00] at Q
  clear P0 CG
  go_wp2_with fail
  go_fit Q
  rintro e w3 ⟨a3, c3, rfl, s3, n3, hB3⟩
  have hk3 := hk2.carry (hB3.block _ hk2.lt)
  have hB3' : Below w.heap.size w w3 := hB2.trans (hB3.mono hB2.size)
  have Q2 := P1 a3 c3 w3 (by omega) hf0 hB3' s3 n3
  clear Q P1 e0 e1 e2 s3 n3 hB3 hk2 hB2
  have e0 := hk3.cell 0 rfl
  have e1 := hk3.cell 1 rfl
  have e2 := hk3.cell 2 rfl
  go_wp2_with fail
  go_fit Q2
  rintro e w4 ⟨a4, c4, rfl, s4, n4, hB4⟩
  have hk4 := hk3.carry (hB4.block _ hk3.lt)
  have hB4' : Below w.heap.size w w4 := hB3'.trans (hB4.mono hB3'.size)
  have Q3 := P2 a4 c4 w4 (by omega) g2 hB4' s4 n4
  clear Q2 P2 e0 e1 e2 s4 n4 hB4 hk3 hB3'
  have e0 := hk4.cell 0 rfl
  go_wp2_with fail
  go_fit Q3
  rintro e w5 ⟨a5, c5, rfl, s5, n5, hB5⟩
  have hk5 := hk4.carry (hB5.block _ hk4.lt)
  have hB5' : Below w.heap.size w w5 := hB4'.trans (hB5.mono hB4'.size)
  clear Q3 e0 hB5 hk4 hB4'
  have e0 := hk5.cell 0 rfl
  have HS5 : Hid (Sees w5 a5 (numsB (L.take 3)) ∧ (a5 = none → (numsB (L.take 3)).length = 0) ∧ Below w.heap.size w w5) := ⟨s5, n5, hB5'⟩
  clear s5 n5 hB5' hk5
  go_wp2_with fail
  go_loopw [28, 4] (fun i s wr => ∃ (k : Nat) (a : Option Addr) (c : Nat), k ≤ ts.length ∧ i = .int .i64 (k : Int) ∧ s = .slice a (numsB (L.take (k + 3))).length c ∧ Sees wr a (numsB (L.take (k + 3))) ∧ (a = none → (numsB (L.take (k + 3))).length = 0) ∧ Below w.heap.size w wr) (fun i _ _ => ts.length - (intOf i).toNat)
  case atStart => exact ⟨0, a5, c5, Nat.zero_le _, rfl, rfl, HS5.out.1, HS5.out.2.1, HS5.out.2.2⟩
  case round =>
    clear HS5
    obtain ⟨k, a, c, hk, rfl, rfl, hs, hn, hBr⟩ := hrel
    rcases Nat.lt_or_ge k ts.length with hlt | hge
    · obtain ⟨u, hu, hx, hx2⟩ := HV.out k hlt
      obtain ⟨b, off, rfl, d1⟩ := HSe.out wr hBr k hlt
      rw [hx] at d1
      have Q := CP.out (k + 3) u a c wr (by omega) hx2 hBr hs hn
      have hlti : (k : Int) < (ts.length : Int) := by omega
      have hui : (u : Int) ≤ 999999999 := by omega
      have HBr : Hid (Below w.heap.size w wr) := hBr
      clear hs hn hBr hx hx2 hu
      generalize (numsB (L.take (k + 3))).length = nn at *
      go_wp2_with fail
      go_fit Q
      rintro e w6 ⟨a6, c6, rfl, s6, n6, hB6⟩
      have HR : Hid (Sees w6 a6 (numsB (L.take (k + 3 + 1))) ∧ (a6 = none → (numsB (L.take (k + 3 + 1))).length = 0) ∧ Below w.heap.size w w6) := ⟨s6, n6, HBr.out.trans (hB6.mono HBr.out.size)⟩
      clear s6 n6 hB6 Q
      go_wp2_with fail
      go_roundw
      case rel => exact ⟨k + 1, a6, c6, by omega, by go_num, by rw [show k + 1 + 3 = k + 3 + 1 by omega], by rw [show k + 1 + 3 = k + 3 + 1 by omega]; exact HR.out.1, by rw [show k + 1 + 3 = k + 3 + 1 by omega]; exact HR.out.2.1, HR.out.2.2⟩
      case measure => (simp [intOf]; try omega)
    · obtain rfl : ts.length = k := by omega
      have Q := CF.out a c wr hBr hs hn
      clear hs hn hBr
      generalize (numsB (L.take (ts.length + 3))).length = nn at *
      go_wp2_with fail
      go_fit Q
      rintro e w7 ⟨a7, c7, rfl, hq⟩
      go_wp2_with fail
      go_ret2
      exact ⟨_, _, rfl, hq⟩
end Go.Proofs.YthihljjefncfoaaDoor
namespace Go.Proofs.YthihljjefncfoaaDoor
open Go.RowKit

/-- An append onto a row of the call's own, as one step of a region that draws. -/
theorem step_append_grew {P : Program} {ops : Array Oper} {o : Oper} {a : Act} {w : World} {K : Act → World → Prop} {Q : Exit → Act → World → Prop} {E : Prop}
    (hgd : o.guard = none) (s x : Operand) (t tx : TypeId) (ho : o.op = .call { callee := .builtin .append, args := #[s, x], argTypes := #[t, tx] })
    (base : Nat) (e : TypeId) (i : TypeInfo) (z : Value) (size bytes : Nat) (ht : P.underlying t = some (.slice e)) (hi : P.info? e = some i) (hz : i.zero = some z)
    (hsize : i.size = size) (hby : i.bytes = bytes) (hzs : z.cells.size = size)
    (v : Value) (n : Nat) (xs : List Value) (hs : a.eval s = v) (hown : w.ownsRow base e size v n xs)
    (xv : Value) (m : Nat) (news : List Value) (hx : a.eval x = xv) (hsrc : Src P size tx xv m news w)
    (h63 : n + m ≤ maxLen) (hbytes : (n + m) * bytes ≤ 140737488355328) (hbase : base ≤ w.heap.size)
    (h : ∀ v' w', w'.ownsRow base e size v' (n + m) (xs ++ news) → Grew w w' v v' → K (a.put o.dst v') w') :
    if Region.wanted o (yielded ops a.tmps) = true then Oper.wp P o a w K Q else E := by
  have hw : Region.wanted o (yielded ops a.tmps) = true := by simp [Region.wanted, hgd]
  rw [if_pos hw]
  obtain ⟨v', w', hr, h2, h3⟩ := run_append_grew (P := P) w base t tx o.type e i z size bytes ht hi hz hsize hby hzs v n xs hown xv m news hsrc h63 hbytes hbase
  unfold Oper.wp execOp
  simp only [ho, resolve, invoke, builtin, Sem.run_bind, Sem.run_pure, Result.andThen_ok, List.map_toArray, List.map_cons, List.map_nil, hs, hx, hr]
  exact h v' w' h2 h3
end Go.Proofs.YthihljjefncfoaaDoor
namespace Go.Proofs.YthihljjefncfoaaDoor
open Go.RowKit

theorem Grew.ofDrew {w w' : World} {v v' : Value} (h : Grew w.drew w' v v') : Grew w w' v v' := ⟨⟨h.rows.os, h.rows.tape, h.rows.output, h.rows.size, h.rows.block⟩, h.own⟩

set_option maxRecDepth 100000 in
set_option maxHeartbeats 1600000 in
theorem refUnframe_any (ao : Option Addr) (l : List UInt8) (cap : Nat) (w : World) (hs : Sees w ao l) (hl : l.length ≤ 140737488354000) (hcap : l.length ≤ cap) :
    Calls Tryd.prog 31 #[.slice ao l.length cap] w fun e w' => ∃ v', e = .returned (.tuple #[v', .int .i64 (unfN l), .int .i64 (unfE l)]) ∧ w'.ownsRow w.heap.size 5 1 v' (unfB l).length (B8 (unfB l)) ∧ Below w.heap.size w w' := by
  obtain ⟨i0, hi, hz0, hz1, hz2⟩ := info_parts info8
  by_cases h8 : l.length < 8
  · have hE : unfE l = 10 := by unfold unfE; rw [if_pos h8]
    obtain ⟨hN, hB⟩ := unf_bad l hE (by decide)
    rw [hE, hN, hB]
    clear hE hN hB
    go_enter Tryd.func31, Tryd.ntmps31
    go_wp2
    go_ret3
    exact ⟨_, rfl, World.ownsRow_nil _ _ _ _, Below.refl _ _⟩
  obtain ⟨b, off, rfl, _⟩ := sees_at hs (n := 0) (by omega)
  have Hw1 : Hid _ := fourth_any b off l.length cap (l.take 4) w (by omega) (by omega) (by simp; omega) (sees_take hs 4 (by omega))
  have hC4 : unfC l < 4294967296 := wordL_lt _ (by simp; omega)
  by_cases hbig : 262144 < unfC l
  · have hE : unfE l = 6 := by unfold unfE; rw [if_neg h8, if_pos hbig]
    obtain ⟨hN, hB⟩ := unf_bad l hE (by decide)
    rw [hE, hN, hB]
    clear hE hN hB
    have e : wordL (l.take 4) = unfC l := rfl
    rw [e] at Hw1
    clear e
    generalize unfC l = C at *
    go_enter Tryd.func31, Tryd.ntmps31
    go_wp2_with fail
    refine Calls.mono (Hid.out Hw1) ?_
    rintro e w' ⟨rfl, k, rfl⟩
    go_wp2_with fail
    go_ret3
    exact ⟨_, rfl, World.ownsRow_nil _ _ _ _, below_drewN (Below.refl _ _) k⟩
  by_cases hshort : l.length < 8 + unfC l
  · have hE : unfE l = 10 := by unfold unfE; rw [if_neg h8, if_neg hbig, if_pos hshort]
    obtain ⟨hN, hB⟩ := unf_bad l hE (by decide)
    rw [hE, hN, hB]
    clear hE hN hB
    have e : wordL (l.take 4) = unfC l := rfl
    rw [e] at Hw1
    clear e
    generalize unfC l = C at *
    go_enter Tryd.func31, Tryd.ntmps31
    go_wp2_with fail
    refine Calls.mono (Hid.out Hw1) ?_
    rintro e w' ⟨rfl, k, rfl⟩
    go_wp2_with fail
    go_ret3
    exact ⟨_, rfl, World.ownsRow_nil _ _ _ _, below_drewN (Below.refl _ _) k⟩
  obtain ⟨co, cc, hco, hcs, hcn, hcc⟩ : ∃ (co : Option Addr) (cc : Nat), (cap = 8 → co = some ⟨b, off, none⟩ ∧ cc = 0) ∧ Sees w co ((l.drop 8).take (unfC l)) ∧ (co = none → ((l.drop 8).take (unfC l)).length = 0) ∧ (cap ≠ 8 → co = some ⟨b, off + 8, none⟩ ∧ cc = cap - 8) := by
    by_cases hc8 : cap = 8
    · have h0 : unfC l = 0 := by omega
      refine ⟨some ⟨b, off, none⟩, 0, fun _ => ⟨rfl, rfl⟩, ?_, (fun h => by cases h), fun h => absurd hc8 h⟩
      rw [h0]
      exact Sees.nil _ _
    · exact ⟨some ⟨b, off + 8, none⟩, cap - 8, fun h => absurd h hc8, sees_cut hs 8 _ (by omega), (fun h => by cases h), fun _ => ⟨rfl, rfl⟩⟩
  have hclen : ((l.drop 8).take (unfC l)).length = unfC l := by simp; omega
  have e4 : wordL (l.take 4) = unfC l := rfl
  rw [e4] at Hw1
  obtain ⟨V, hV⟩ : ∃ V, wordL ((l.drop 4).take 4) = V := ⟨_, rfl⟩
  have hVl : V < 4294967296 := hV ▸ wordL_lt _ (by simp; omega)
  obtain ⟨S, hS⟩ : ∃ S, sumZ (l.take 4 ++ (l.drop 8).take (unfC l)) = S := ⟨_, rfl⟩
  have t4 : (l.take 4).length = 4 := by simp; omega
  have t44 : ((l.drop 4).take 4).length = 4 := by simp; omega
  have s4 := sees_take hs 4 (by omega)
  have s44 := sees_cut hs 4 4 (by omega)
  have HE : Hid (unfE l = if (V : Int) ≠ S then 8 else 0) := by show _ = _; unfold unfE; rw [if_neg h8, if_neg hbig, if_neg hshort, hV, hS]
  have Hok : Hid (unfE l = 0 → unfN l = 8 + unfC l ∧ unfB l = (l.drop 8).take (unfC l)) := fun h0 => ⟨by unfold unfN; rw [if_pos h0], by unfold unfB; rw [if_pos h0]⟩
  have Hbad : Hid (unfE l = 8 → unfN l = 0 ∧ unfB l = []) := fun h => unf_bad l h (by decide)
  clear e4 hs
  generalize (l.drop 8).take (unfC l) = D at *
  generalize (l.drop 4).take 4 = q at *
  generalize l.take 4 = p at *
  generalize unfC l = C at *
  generalize unfE l = ee at *
  generalize unfN l = nn at *
  generalize unfB l = bb at *
  have HV : Hid (wordL q = V) := hV
  have HS : Hid (sumZ (p ++ D) = S) := hS
  clear hV hS
  have hne : ((S != (V : Int)) = true ∧ ee = 8 ∧ nn = 0 ∧ bb = []) ∨ ((S != (V : Int)) = false ∧ ee = 0 ∧ nn = 8 + C ∧ bb = D) := by
    by_cases h : (V : Int) ≠ S
    · have h1 := HE.out
      rw [if_pos h] at h1
      have h2 := Hbad.out h1
      exact .inl ⟨by simp; omega, h1, h2.1, h2.2⟩
    · have h1 := HE.out
      rw [if_neg h] at h1
      have h2 := Hok.out h1
      exact .inr ⟨by simp; omega, h1, h2.1, h2.2⟩
  clear HE Hok Hbad
  by_cases hc8 : cap = 8
  · obtain ⟨rfl, rfl⟩ := hco hc8
    obtain rfl : C = 0 := by omega
    subst hc8
    obtain rfl : D = [] := List.eq_nil_of_length_eq_zero hclen
    clear hco hcc
    have n1 := fun k : Nat => owns_none (w.drewN k)
    have s1 := fun k : Nat => src_sees (P := Tryd.prog) Tryd.underlying25 (Sees.below (w := w.drewN k) (w' := (w.drewN k).alloc (.cells #[] 5)) hcs ((Below.refl _ _).alloc (Nat.le_refl _) _) (Nat.le_refl _)) (fun h => by cases h) 0
    have s1' : ∀ k : Nat, Src Tryd.prog 1 25 (.slice (some ⟨b, off, none⟩) 0 0) 0 (B8 []) ((w.drewN k).alloc (.cells #[] 5)) := s1
    clear s1
    go_enter Tryd.func31, Tryd.ntmps31
    go_wp2_with fail
    refine Calls.mono (Hid.out Hw1) ?_
    rintro e w' ⟨rfl, k, rfl⟩
    go_wp2_with (at_builtin; go_must (refine wpList_append_grew _ rfl (.tmp 22) (.tmp 26) 25 25 rfl w.heap.size 5 i0 (.int .u8 0) 1 1 Tryd.underlying25 hi hz0 hz1 hz2 rfl _ 0 _ rfl (n1 k) (.slice (some ⟨b, off, none⟩) 0 0) 0 (B8 ([] : List UInt8)) rfl (s1' k) (by unfold maxLen; omega) (by omega) (by rw [World.size_alloc]; exact Nat.le_succ _) ?_; intro v6 w6 ho6 hg6))
    have ho6' : w6.ownsRow w.heap.size 5 1 v6 0 (B8 ([] : List UInt8)) := by simpa using ho6
    have b6 : Below w.heap.size w w6 := (below_drewN (Below.refl _ _) k).trans (below_none hg6)
    clear ho6 hg6 n1 s1'
    obtain ⟨ao6, cap6, rfl, sD6, _, nD6⟩ := owns_sees ho6'
    have i4 : (4 : Int) ≤ (8 : Int) := by omega
    have i8 : (8 : Int) ≤ (8 : Int) := by omega
    have c4 : ¬ 8 = 4 := by omega
    have n6 := owns_none w6
    have bn6 : Below w6.heap.size w6 (w6.alloc (.cells #[] 5)).drew := ((Below.refl _ _).alloc (Nat.le_refl _) _).drew
    have sp6 : Src Tryd.prog 1 25 (.slice (some ⟨b, off, none⟩) 4 8) 4 (B8 p) (w6.alloc (.cells #[] 5)).drew := by
      have := src_sees (P := Tryd.prog) Tryd.underlying25 ((s4.below b6 (Nat.le_refl _)).below bn6 (Nat.le_refl _)) (fun h => by cases h) 8
      rwa [t4] at this
    have sq6 := s44.below b6 (Nat.le_refl _)
    have T4 : Hid (p.length = 4) := t4
    have T44 : Hid (q.length = 4) := t44
    have HD : Hid ((([] : List UInt8)).length = 0) := hclen
    have ho6w := ho6'.lt
    clear t4 t44 hclen hcs hcn Hw1
    go_region_law (first
      | (refine step_append_grew rfl (.tmp 28) (.tmp 30) 25 25 rfl w6.heap.size 5 i0 (.int .u8 0) 1 1 Tryd.underlying25 hi hz0 hz1 hz2 rfl _ 0 _ rfl (by exact n6) _ 4 (B8 p) rfl (by exact sp6) (by unfold maxLen; omega) (by omega) (by exact bn6.size) ?_; intro v7 w7 ho7 hg7; have g7 : Grew (w6.alloc (.cells #[] 5)) w7 (.slice (some ⟨w6.heap.size, 0, none⟩) 0 0) v7 := Grew.ofDrew hg7; have b7 := below_none g7; have sD7 := src_sees (P := Tryd.prog) Tryd.underlying25 (sD6.below b7 (Nat.le_refl _)) (fun e => HD.out.trans (nD6 e).1) cap6)
      | (refine step_append_grew rfl (.tmp 31) (.tmp 32) 25 25 rfl w6.heap.size 5 i0 (.int .u8 0) 1 1 Tryd.underlying25 hi hz0 hz1 hz2 rfl _ (0 + 4) _ rfl ho7 _ 0 (B8 ([] : List UInt8)) rfl (by rw [HD.out] at sD7; exact sD7) (by unfold maxLen; omega) (by omega) b7.size ?_; intro v8 w8 ho8 hg8; obtain ⟨ao8, cap8, rfl, s8, l8, n8⟩ := owns_sees (n := 4) (l := p ++ ([] : List UInt8)) (by rw [B8_append]; simpa using ho8); have b8 := b7.trans (hg8.below b7.size (fun g hg => (ho7.lt g hg).1)); have Hs8 : Hid _ := refSum_any ao8 (p ++ ([] : List UInt8)) cap8 w8 s8 (by rw [l8]; omega); rw [l8, HS.out] at Hs8; have Hf8 : Hid _ := fourth_any b (off + 4) 4 (8 - 4) q w8 (by omega) (by omega) T44.out (sq6.below b8 (Nat.le_refl _)); rw [HV.out] at Hf8)
      | (go_simp; go_at_call 47; refine Calls.mono (Hid.out Hs8) ?_; rintro e w9 ⟨rfl, rfl⟩)
      | (go_simp; go_at_call 51; refine Calls.mono (Hid.out Hf8) ?_; rintro e w9 ⟨rfl, k9, rfl⟩))
    have b8w := b6.trans (b8.mono b6.size)
    have o8 := owns_heap (w' := w9) ho6' (fun g hg => b8.block g (ho6w g hg).2)
    rcases hne with ⟨h1, rfl, rfl, rfl⟩ | ⟨h1, rfl, rfl, rfl⟩
    · clear hg7 g7 hg8 ho7 ho8 sp6 sD7 Hs8 Hf8 s8 n6 bn6 ho6'
      go_wp2
      go_ret3
      exact ⟨_, rfl, World.ownsRow_nil _ _ _ _, below_drewN b8w _⟩
    · clear hg7 g7 hg8 ho7 ho8 sp6 sD7 Hs8 Hf8 s8 n6 bn6 ho6'
      go_wp2
      go_ret3
      refine ⟨.slice ao6 0 cap6, rfl, ?_, below_drewN b8w _⟩
      exact o8
  · obtain ⟨rfl, rfl⟩ := hcc hc8
    clear hco hcc
    have n1 := fun k : Nat => owns_none (w.drewN k)
    have s1 := fun k : Nat => src_sees (P := Tryd.prog) Tryd.underlying25 (Sees.below (w := w.drewN k) (w' := (w.drewN k).alloc (.cells #[] 5)) hcs ((Below.refl _ _).alloc (Nat.le_refl _) _) (Nat.le_refl _)) (fun h => by cases h) (cap - 8)
    rw [hclen] at s1
    have s1' : ∀ k : Nat, Src Tryd.prog 1 25 (.slice (some ⟨b, off + 8, none⟩) (8 + C - 8) (cap - 8)) C (B8 D) ((w.drewN k).alloc (.cells #[] 5)) := fun k => by rw [Nat.add_sub_cancel_left]; exact s1 k
    clear s1
    go_enter Tryd.func31, Tryd.ntmps31
    go_wp2_with fail
    refine Calls.mono (Hid.out Hw1) ?_
    rintro e w' ⟨rfl, k, rfl⟩
    go_wp2_with (at_builtin; go_must (refine wpList_append_grew _ rfl (.tmp 22) (.tmp 26) 25 25 rfl w.heap.size 5 i0 (.int .u8 0) 1 1 Tryd.underlying25 hi hz0 hz1 hz2 rfl _ 0 _ rfl (n1 k) (.slice (some ⟨b, off + 8, none⟩) (8 + C - 8) (cap - 8)) C (B8 D) rfl (s1' k) (by unfold maxLen; omega) (by omega) (by rw [World.size_alloc]; exact Nat.le_succ _) ?_; intro v6 w6 ho6 hg6))
    have ho6' : w6.ownsRow w.heap.size 5 1 v6 C (B8 D) := by simpa using ho6
    have b6 : Below w.heap.size w w6 := (below_drewN (Below.refl _ _) k).trans (below_none hg6)
    clear ho6 hg6 n1 s1'
    obtain ⟨ao6, cap6, rfl, sD6, _, nD6⟩ := owns_sees ho6'
    have i4 : (4 : Int) ≤ (cap : Int) := by omega
    have i8 : (8 : Int) ≤ (cap : Int) := by omega
    have c4 : ¬ cap = 4 := by omega
    have n6 := owns_none w6
    have bn6 : Below w6.heap.size w6 (w6.alloc (.cells #[] 5)).drew := ((Below.refl _ _).alloc (Nat.le_refl _) _).drew
    have sp6 : Src Tryd.prog 1 25 (.slice (some ⟨b, off, none⟩) 4 cap) 4 (B8 p) (w6.alloc (.cells #[] 5)).drew := by
      have := src_sees (P := Tryd.prog) Tryd.underlying25 ((s4.below b6 (Nat.le_refl _)).below bn6 (Nat.le_refl _)) (fun h => by cases h) cap
      rwa [t4] at this
    have sq6 := s44.below b6 (Nat.le_refl _)
    have T4 : Hid (p.length = 4) := t4
    have T44 : Hid (q.length = 4) := t44
    have HD : Hid ((D).length = C) := hclen
    have ho6w := ho6'.lt
    clear t4 t44 hclen hcs hcn Hw1
    go_region_law (first
      | (refine step_append_grew rfl (.tmp 28) (.tmp 30) 25 25 rfl w6.heap.size 5 i0 (.int .u8 0) 1 1 Tryd.underlying25 hi hz0 hz1 hz2 rfl _ 0 _ rfl (by exact n6) _ 4 (B8 p) rfl (by exact sp6) (by unfold maxLen; omega) (by omega) (by exact bn6.size) ?_; intro v7 w7 ho7 hg7; have g7 : Grew (w6.alloc (.cells #[] 5)) w7 (.slice (some ⟨w6.heap.size, 0, none⟩) 0 0) v7 := Grew.ofDrew hg7; have b7 := below_none g7; have sD7 := src_sees (P := Tryd.prog) Tryd.underlying25 (sD6.below b7 (Nat.le_refl _)) (fun e => HD.out.trans (nD6 e).1) cap6)
      | (refine step_append_grew rfl (.tmp 31) (.tmp 32) 25 25 rfl w6.heap.size 5 i0 (.int .u8 0) 1 1 Tryd.underlying25 hi hz0 hz1 hz2 rfl _ (0 + 4) _ rfl ho7 _ C (B8 D) rfl (by rw [HD.out] at sD7; exact sD7) (by unfold maxLen; omega) (by omega) b7.size ?_; intro v8 w8 ho8 hg8; obtain ⟨ao8, cap8, rfl, s8, l8, n8⟩ := owns_sees (n := 4 + C) (l := p ++ D) (by rw [B8_append]; simpa using ho8); have b8 := b7.trans (hg8.below b7.size (fun g hg => (ho7.lt g hg).1)); have Hs8 : Hid _ := refSum_any ao8 (p ++ D) cap8 w8 s8 (by rw [l8]; omega); rw [l8, HS.out] at Hs8; have Hf8 : Hid _ := fourth_any b (off + 4) 4 (cap - 4) q w8 (by omega) (by omega) T44.out (sq6.below b8 (Nat.le_refl _)); rw [HV.out] at Hf8)
      | (go_simp; go_at_call 47; refine Calls.mono (Hid.out Hs8) ?_; rintro e w9 ⟨rfl, rfl⟩)
      | (go_simp; go_at_call 51; refine Calls.mono (Hid.out Hf8) ?_; rintro e w9 ⟨rfl, k9, rfl⟩))
    have b8w := b6.trans (b8.mono b6.size)
    have o8 := owns_heap (w' := w9) ho6' (fun g hg => b8.block g (ho6w g hg).2)
    rcases hne with ⟨h1, rfl, rfl, rfl⟩ | ⟨h1, rfl, rfl, rfl⟩
    · clear hg7 g7 hg8 ho7 ho8 sp6 sD7 Hs8 Hf8 s8 n6 bn6 ho6'
      go_wp2
      go_ret3
      exact ⟨_, rfl, World.ownsRow_nil _ _ _ _, below_drewN b8w _⟩
    · clear hg7 g7 hg8 ho7 ho8 sp6 sD7 Hs8 Hf8 s8 n6 bn6 ho6'
      go_wp2
      go_ret3
      refine ⟨.slice ao6 C cap6, by simp; omega, ?_, below_drewN b8w _⟩
      rw [HD.out]
      exact o8
end Go.Proofs.YthihljjefncfoaaDoor
namespace Go.Proofs.YthihljjefncfoaaDoor
open Go.RowKit

theorem numsB_ge (l : List Int) : l.length ≤ (numsB l).length := by
  induction l with
  | nil => simp [numsB]
  | cons n l ih =>
    have := numL_length n.toNat
    rw [numsB_cons, List.length_append, List.length_cons]; omega
/-- What is no manifest: the content does not go on with a number. -/
theorem none_stop {b : List UInt8} {l : List Int} {r : List UInt8} (h : unfB b = numsB l ++ r) (hl : Bdd l) (hr : r ≠ []) (hb : getK r = 0 ∨ 999999999 < getV r) : rdM b = none := rdM_none fun m hg e => by
  subst e
  obtain ⟨t1, t2, t3⟩ := tells_whole (contM m) (by have := good_len hg; omega) []
  rw [List.append_nil] at t3
  have h2 : numsB l ++ r = numsB (listM m) := by rw [← h]; exact t3
  have := numsB_stop hl (good_bdd hg) h2 hr
  omega
theorem none_list {b : List UInt8} {l : List Int} (h : unfB b = numsB l) (hl : Bdd l) (hb : ∀ m, goodM m = true → listM m ≠ l) : rdM b = none := rdM_none fun m hg e => by
  subst e
  obtain ⟨t1, t2, t3⟩ := tells_whole (contM m) (by have := good_len hg; omega) []
  rw [List.append_nil] at t3
  have h2 : numsB (listM m) = numsB l := by rw [← h]; exact t3.symm
  exact hb m hg (numsB_inj (good_bdd hg) hl h2)
theorem some_list {b : List UInt8} {m : Mf} (h : unfB b = numsB (listM m)) (hE : unfE b = 0) (hN : unfN b = b.length) (hg : goodM m = true) : rdM b = some m := by
  refine rdM_iff.2 ⟨hg, ?_⟩
  have := (frame_back hE hN).1
  rw [h] at this
  exact this
theorem listM_inj {m m' : Mf} (h : listM m = listM m') : m = m' := by
  obtain ⟨ts, nx, fr⟩ := m
  obtain ⟨ts', nx', fr'⟩ := m'
  simp only [listM, List.cons.injEq] at h
  obtain ⟨rfl, rfl, -, rfl⟩ := h
  rfl
theorem list_shape {l : List Int} (h3 : 3 ≤ l.length) (hz : (l.length : Int) = 3 + l.getD 2 0) : l = listM ⟨l.drop 3, l.getD 0 0, l.getD 1 0⟩ := by
  match l, h3 with
  | x0 :: x1 :: x2 :: r, _ =>
    simp only [listM, List.drop_succ_cons, List.drop_zero]
    have : x2 = (r.length : Int) := by simp at hz; omega
    rw [this]
    rfl
/-- Read, on its way: l is read, r is left. -/
structure RSt (w w2 u : World) (b : List UInt8) (l : List Int) (v : Value) (r : List UInt8) (a : Option Addr) (cp : Nat) : Prop where
  cont : unfB b = numsB l ++ r
  bdd : Bdd l
  row : u.ownsRow w2.heap.size 3 1 v l.length (vI l)
  see : Sees u a r
  cap : r.length ≤ cp ∧ cp ≤ 9223372036854775807
  at' : (a = none ∧ r.length = 0) ∨ ∃ q off, a = some ⟨q, off, none⟩ ∧ q < w2.heap.size
  bel : Below w2.heap.size w2 u
theorem RSt.few {w w2 u : World} {b : List UInt8} {l : List Int} {v : Value} {r : List UInt8} {a : Option Addr} {cp : Nat} (h : RSt w w2 u b l v r a cp) : l.length + r.length ≤ (unfB b).length := by
  have := numsB_ge l
  rw [h.cont, List.length_append]; omega
def lenOf : Value → Nat
  | .slice _ n _ => n
  | _ => 0
theorem RSt.next {w w2 u u' : World} {b : List UInt8} {l : List Int} {v v' : Value} {r : List UInt8} {q off cp : Nat} (h : RSt w w2 u b l v r (some ⟨q, off, none⟩) cp) (hq : q < w2.heap.size) (hk : getK r ≠ 0) (hv : getV r ≤ 999999999) (ho : u'.ownsRow w2.heap.size 3 1 v' (l.length + 1) (vI l ++ vI [(getV r : Int)])) (hb : Below w2.heap.size w2 u') (o' : Nat) (hoo : getK r < cp → o' = off + getK r) : RSt w w2 u' b (l ++ [(getV r : Int)]) v' (r.drop (getK r)) (some ⟨q, o', none⟩) (cp - getK r) := by
  obtain ⟨g1, g2, g3, g4⟩ := get_canon hk
  have hkl := getK_le r
  have e1 : (l ++ [(getV r : Int)]).length = l.length + 1 := by simp
  have e2 : vI (l ++ [(getV r : Int)]) = vI l ++ vI [(getV r : Int)] := by simp [vI]
  have hsu : Sees u' (some ⟨q, off, none⟩) r := fun i hi => by
    obtain ⟨a', e, hc⟩ := h.see i hi
    cases e
    refine ⟨_, rfl, ?_⟩
    rw [World.cell?_of_block (w := u)]
    · exact hc
    · rw [Addr.add_block]
      exact (hb.block q hq).trans (h.bel.block q hq).symm
  refine ⟨?_, fun n hn => ?_, by rw [e1, e2]; exact ho, ?_, ?_, .inr ⟨q, o', rfl, hq⟩, hb⟩
  · rw [numsB_app, h.cont, List.append_assoc]
    congr 1
    rw [numsB_cons, numsB_nil, List.append_nil, Int.toNat_natCast]
    exact g1
  · rcases List.mem_append.1 hn with hn | hn
    · exact h.bdd n hn
    · rw [List.mem_singleton] at hn; omega
  · rcases Nat.lt_or_ge (getK r) cp with hlt | hge
    · rw [hoo hlt]; exact sees_dropM hsu _
    · intro i hi
      rw [List.length_drop] at hi
      have := h.cap
      omega
  · have := h.cap
    rw [List.length_drop]
    omega
set_option maxRecDepth 100000 in
set_option maxHeartbeats 4000000 in
theorem refReadM_any (ao : Option Addr) (b : List UInt8) (cap : Nat) (w : World) (hs : Sees w ao b) (hcap : b.length ≤ cap) (hl : b.length ≤ 1000000) :
    Calls Tryd.prog 11 #[.slice ao b.length cap] w fun e w' => ∃ a5 c5, e = .returned (.tuple #[mval a5 c5 (rdF b), .int .i64 (rdE b)]) ∧ MSees w' a5 c5 (rdF b) ∧ Below w.heap.size w w' := by
  obtain ⟨i0, hi, hz0, hz1, hz2⟩ := info_parts infoInt
  have hB0 : Below w.heap.size w (w.alloc (.cells #[.slice none 0 0, .int .i64 0, .int .i64 0] 32)) := (Below.refl _ _).alloc (Nat.le_refl _) _
  have k0 := Blk.new w [.slice none 0 0, .int .i64 0, .int .i64 0] 32
  have CU : Hid (Calls Tryd.prog 31 #[.slice ao b.length cap] (w.alloc (.cells #[.slice none 0 0, .int .i64 0, .int .i64 0] 32)) fun e w' => ∃ a c, e = .returned (.tuple #[.slice a (unfB b).length c, .int .i64 (unfN b), .int .i64 (unfE b)]) ∧ RSt w w' w' b [] (.slice none 0 0) (unfB b) a c ∧ Below w.heap.size w w' ∧ Blk w' w.heap.size [.slice none 0 0, .int .i64 0, .int .i64 0] 32) := by
    refine (refUnframe_any ao b cap _ (hs.below hB0 (Nat.le_refl _)) (by omega) hcap).mono ?_
    rintro e w' ⟨v', rfl, h2, h3⟩
    obtain ⟨a, c, rfl, s1, l1, n1⟩ := owns_sees h2
    have hcm : (unfB b).length ≤ c ∧ c ≤ 9223372036854775807 := by
      rcases h2.2 with ⟨e, h0⟩ | ⟨g, cp, cur, e, g1, g2, g3, g4, _⟩
      · simp only [Value.slice.injEq] at e; omega
      · simp only [Value.slice.injEq] at e; unfold maxLen at g4; omega
    have hat : (a = none ∧ (unfB b).length = 0) ∨ ∃ q off, a = some ⟨q, off, none⟩ ∧ q < w'.heap.size := by
      rcases h2.2 with ⟨e, h0⟩ | ⟨g, cp, cur, e, g1, g2, _⟩
      · simp only [Value.slice.injEq] at e; exact .inl ⟨e.1, h0⟩
      · simp only [Value.slice.injEq] at e; exact .inr ⟨g, 0, e.1, (Array.getElem?_eq_some_iff.1 g2).1⟩
    exact ⟨a, c, rfl, ⟨rfl, (fun n hn => by cases hn), World.ownsRow_nil _ _ _ _, s1, hcm, hat, Below.refl _ _⟩, hB0.trans (h3.mono hB0.size), k0.carry (h3.block _ k0.lt)⟩
  have HZ : Hid (∀ w', Below w.heap.size w w' → rdM b = none → ∃ a5 c5, Ending.returned (.tuple #[.agg #[.slice none 0 0, .int .i64 0, .int .i64 0], .int .i64 8]) = .returned (.tuple #[mval a5 c5 (rdF b), .int .i64 (rdE b)]) ∧ MSees w' a5 c5 (rdF b) ∧ Below w.heap.size w w') := fun w' hb hr => by
    obtain ⟨e1, e2⟩ := rd_none hr
    rw [e1, e2]
    exact ⟨none, 0, rfl, ⟨fun i x hx => by simp at hx, fun _ => rfl, Nat.le_refl _⟩, hb⟩
  have hlB : (unfB b).length ≤ 1000000 := by
    unfold unfB
    split
    · rw [List.length_take, List.length_drop]; omega
    · simp
  by_cases hbad : unfE b ≠ 0 ∨ unfN b ≠ b.length
  · have HR : Hid (rdM b = none) := by
      rcases hbad with h | h
      · exact rdM_bad h
      · exact rdM_more h
    have hbl : (b.length : Int) ≤ 1000000 := by omega
    clear hs hcap hl k0 hB0 hlB
    by_cases hE : unfE b = 0
    · have hNi : ((unfN b : Int) == (b.length : Int)) = false := by rw [beq_eq_false_iff_ne]; rcases hbad with h | h; exact absurd hE h; omega
      rw [hE] at CU
      generalize (unfN b : Int) = Nn at *
      clear hbad hE
      go_enter Tryd.func11, Tryd.ntmps11
      go_wp2_with fail
      go_fit CU.out
      rintro e w5 ⟨a, c, rfl, _, hB5, hk5⟩
      have HB5 : Hid (Below w.heap.size w w5) := hB5
      have f0 := hk5.frozen 0
      have f1 := hk5.frozen 1
      have f2 := hk5.frozen 2
      have n0 := hk5.cell 0 rfl
      have n1 := hk5.cell 1 rfl
      have n2 := hk5.cell 2 rfl
      have HKz : Hid (Blk (((w5.setCell ⟨w.heap.size, 0, none⟩ (.slice none 0 0)).setCell ⟨w.heap.size, 1, none⟩ (.int .i64 0)).setCell ⟨w.heap.size, 2, none⟩ (.int .i64 0)) w.heap.size [.slice none 0 0, .int .i64 0, .int .i64 0] 32) := ((hk5.setTo 0 _ _ rfl).setTo 1 _ _ rfl).setTo 2 _ _ rfl
      clear hk5 hB5 CU
      go_wp2_with fail
      refine bodyPost_ret (v := .tuple #[.agg #[.slice none 0 0, .int .i64 0, .int .i64 0], .int .i64 8]) (results_row_tmpM Tryd.results11 _ _ w.heap.size 32 _ _ _ _ rfl rfl HKz.out Tryd.underlying32 rfl (by kernel_rfl)) rfl ?_
      exact HZ.out _ (((HB5.out.setCell (Nat.le_refl _) _).setCell (Nat.le_refl _) _).setCell (Nat.le_refl _) _) HR.out
    · have hEi : ((unfE b : Int) == 0) = false := by rw [beq_eq_false_iff_ne]; omega
      generalize (unfE b : Int) = En at *
      clear hbad hE
      go_enter Tryd.func11, Tryd.ntmps11
      go_wp2_with fail
      go_fit CU.out
      rintro e w5 ⟨a, c, rfl, _, hB5, hk5⟩
      have HB5 : Hid (Below w.heap.size w w5) := hB5
      have f0 := hk5.frozen 0
      have f1 := hk5.frozen 1
      have f2 := hk5.frozen 2
      have n0 := hk5.cell 0 rfl
      have n1 := hk5.cell 1 rfl
      have n2 := hk5.cell 2 rfl
      have HKz : Hid (Blk (((w5.setCell ⟨w.heap.size, 0, none⟩ (.slice none 0 0)).setCell ⟨w.heap.size, 1, none⟩ (.int .i64 0)).setCell ⟨w.heap.size, 2, none⟩ (.int .i64 0)) w.heap.size [.slice none 0 0, .int .i64 0, .int .i64 0] 32) := ((hk5.setTo 0 _ _ rfl).setTo 1 _ _ rfl).setTo 2 _ _ rfl
      clear hk5 hB5 CU
      go_wp2_with fail
      refine bodyPost_ret (v := .tuple #[.agg #[.slice none 0 0, .int .i64 0, .int .i64 0], .int .i64 8]) (results_row_tmpM Tryd.results11 _ _ w.heap.size 32 _ _ _ _ rfl rfl HKz.out Tryd.underlying32 rfl (by kernel_rfl)) rfl ?_
      exact HZ.out _ (((HB5.out.setCell (Nat.le_refl _) _).setCell (Nat.le_refl _) _).setCell (Nat.le_refl _) _) HR.out
  have hE : unfE b = 0 := Classical.byContradiction fun h => hbad (.inl h)
  have hN : unfN b = b.length := Classical.byContradiction fun h => hbad (.inr h)
  have HEN : Hid (unfE b = 0 ∧ unfN b = b.length) := ⟨hE, hN⟩
  rw [hE, hN] at CU
  have hbl : (b.length : Int) ≤ 1000000 := by omega
  clear hs hcap hl k0 hB0 hbad hE hN
  go_enter Tryd.func11, Tryd.ntmps11
  go_wp2_with fail
  go_fit CU.out
  rintro e w2 ⟨a, c, rfl, hR0, hB2, hk2⟩
  have HB2 : Hid (Below w.heap.size w w2) := hB2
  have HK2 : Hid (Blk w2 w.heap.size [.slice none 0 0, .int .i64 0, .int .i64 0] 32) := hk2
  have HR0 : Hid (RSt w w2 w2 b [] (.slice none 0 0) (unfB b) a c) := hR0
  have HLB : Hid ((unfB b).length ≤ 1000000) := hlB
  clear hB2 hk2 hR0 CU hlB
  go_wp2_with fail
  go_loopw [4, 7] (fun s4 s7 wr => ∃ (l : List Int) (v : Value) (r : List UInt8) (a : Option Addr) (cp : Nat), v = s7 ∧ s4 = .slice a r.length cp ∧ RSt w w2 wr b l v r a cp) (fun s4 _ _ => lenOf s4)
  case atStart => exact ⟨[], _, unfB b, a, c, rfl, rfl, HR0.out⟩
  case round =>
    clear HR0
    obtain ⟨l, v, r, a, cp, rfl, rfl, hR⟩ := hrel
    have hfew := hR.few
    have hlb := HLB.out
    have HBr : Hid (Below w.heap.size w wr) := HB2.out.trans (hR.bel.mono HB2.out.size)
    have hk5 : Blk wr w.heap.size [.slice none 0 0, .int .i64 0, .int .i64 0] 32 := HK2.out.carry (hR.bel.block _ HK2.out.lt)
    have HB5 := HBr
    rcases Nat.eq_zero_or_pos r.length with hr0 | hrp
    · have hr1 : r = [] := List.eq_nil_of_length_eq_zero hr0
      have hcont : unfB b = numsB l := by have := hR.cont; rw [hr1, List.append_nil] at this; exact this
      obtain ⟨va, vc, hv, hse, hnl, hvc, hvm⟩ := owns_msees hR.row
      subst hv
      have hli : (l.length : Int) ≤ 1000000 := by omega
      have hr0i : ¬ (0 : Int) < (r.length : Int) := by omega
      have hbd := hR.bdd
      rw [hr0]
      by_cases h3 : l.length < 3
      · have HR : Hid (rdM b = none) := none_list hcont hbd fun m _ e => by rw [← e] at h3; simp [listM] at h3; omega
        have h3i : (l.length : Int) < 3 := by omega
        have f0 := hk5.frozen 0
        have f1 := hk5.frozen 1
        have f2 := hk5.frozen 2
        have n0 := hk5.cell 0 rfl
        have n1 := hk5.cell 1 rfl
        have n2 := hk5.cell 2 rfl
        have HKz : Hid (Blk (((wr.setCell ⟨w.heap.size, 0, none⟩ (.slice none 0 0)).setCell ⟨w.heap.size, 1, none⟩ (.int .i64 0)).setCell ⟨w.heap.size, 2, none⟩ (.int .i64 0)) w.heap.size [.slice none 0 0, .int .i64 0, .int .i64 0] 32) := ((hk5.setTo 0 _ _ rfl).setTo 1 _ _ rfl).setTo 2 _ _ rfl
        clear hk5 hR hfew hcont hbd hse hnl hr0i
        generalize l.length = ln at *
        go_wp2_with fail
        refine bodyPost_ret (v := .tuple #[.agg #[.slice none 0 0, .int .i64 0, .int .i64 0], .int .i64 8]) (results_row_tmpM Tryd.results11 _ _ w.heap.size 32 _ _ _ _ rfl rfl HKz.out Tryd.underlying32 rfl (by kernel_rfl)) rfl ?_
        exact HZ.out _ (((HB5.out.setCell (Nat.le_refl _) _).setCell (Nat.le_refl _) _).setCell (Nat.le_refl _) _) HR.out
      obtain ⟨bq, oq, rfl, hcs⟩ := isees_at hse (by omega)
      have c2 := hcs 2 (by omega)
      have hz2' : 0 ≤ l.getD 2 0 ∧ l.getD 2 0 ≤ 999999999 := hbd _ (by rw [List.getD_eq_getElem?_getD, List.getElem?_eq_getElem (show 2 < l.length by omega)]; exact List.getElem_mem _)
      have h3i : ¬ (l.length : Int) < 3 := by omega
      have h3l : (3 : Int) ≤ (l.length : Int) := by omega
      by_cases hz : (l.length : Int) = 3 + l.getD 2 0
      · have hlm := list_shape (l := l) (by omega) hz
        have c0 : wr.cell? ⟨bq, oq, none⟩ = some (.int .i64 (l.getD 0 0)) := hcs 0 (by omega)
        have c1 := hcs 1 (by omega)
        have HCS : Hid (∀ j, j < l.length → wr.cell? ⟨bq, oq + j, none⟩ = some (.int .i64 (l.getD j 0))) := hcs
        have HLM : Hid (l = listM ⟨l.drop 3, l.getD 0 0, l.getD 1 0⟩) := hlm
        have HCO : Hid (unfB b = numsB l) := hcont
        have HBD : Hid (Bdd l) := hbd
        have hblt : bq < wr.heap.size := World.block_lt_of_cell? _ _ c0
        have HBQ : Hid (bq ≠ w.heap.size) := by
          have h1 := (hR.row.lt bq rfl).1
          have h2 := HK2.out.lt
          show bq ≠ w.heap.size
          omega
        have HK5 : Hid (Blk wr w.heap.size [.slice none 0 0, .int .i64 0, .int .i64 0] 32) := hk5
        have hzb : ((l.length : Int) == 3 + l.getD 2 0) = true := by rw [beq_iff_eq]; exact hz
        have HDR : Hid ((l.drop 3).length = l.length - 3) := List.length_drop
        by_cases hv3 : vc = 3
        · subst hv3
          have hl3 : l.length = 3 := by omega
          have q0 := fun o : Obj => (Below.refl wr.heap.size wr).alloc (Nat.le_refl _) o
          have d0 : ∀ o : Obj, (wr.alloc o).cell? ⟨bq, oq, none⟩ = some (.int .i64 (l.getD 0 0)) := fun o => by rw [(q0 o).cell hblt]; exact c0
          have d1 : ∀ o : Obj, (wr.alloc o).cell? ⟨bq, oq + 1, none⟩ = some (.int .i64 (l.getD 1 0)) := fun o => by rw [(q0 o).cell hblt]; exact c1
          clear hk5 hR hfew hcont hbd hse hnl hr0i hcs hlm hz q0
          obtain ⟨x0, hx0⟩ : ∃ x0, l.getD 0 0 = x0 := ⟨_, rfl⟩
          obtain ⟨x1, hx1⟩ : ∃ x1, l.getD 1 0 = x1 := ⟨_, rfl⟩
          obtain ⟨x2, hx2⟩ : ∃ x2, l.getD 2 0 = x2 := ⟨_, rfl⟩
          obtain ⟨ln, hln⟩ : ∃ ln, l.length = ln := ⟨_, rfl⟩
          rw [hx0] at c0 d0
          rw [hx1] at c1 d1
          rw [hx2] at c2 hzb hz2'
          rw [hln] at hzb hli h3i h3l hvc h3
          rw [hln]
          have HDR2 : Hid ((l.drop 3).length = 0) := by show _ = _; rw [List.length_drop, hln]; omega
          have HLM2 : Hid (l = listM ⟨l.drop 3, x0, x1⟩) := by have := HLM.out; rw [hx0, hx1] at this; exact this
          have HMS : Hid (∀ u, Below wr.heap.size wr u → MSees u (some ⟨bq, oq, none⟩) (0) ⟨l.drop 3, x0, x1⟩) := fun u hu => ⟨(fun i x hx => by
            have hil : 3 + i < l.length := by have := (List.getElem?_eq_some_iff.1 hx).1; rw [List.length_drop] at this; omega
            omega), (fun e => by cases e), by show (l.drop 3).length ≤ _; rw [HDR2.out]; omega⟩
          have hln3 : ln = 3 := by omega
          clear hx0 hx1 hx2 hln hl3
          subst hln3
          go_wp2_with fail
          go_region
          have hu : Below wr.heap.size wr (wr.alloc (.cells #[.slice (some ⟨bq, oq, none⟩) 0 0, .int .i64 x0, .int .i64 x1] 32)).drew := ((Below.refl _ _).alloc (Nat.le_refl _) _).drew
          have kX : Blk (wr.alloc (.cells #[.slice (some ⟨bq, oq, none⟩) 0 0, .int .i64 x0, .int .i64 x1] 32)).drew wr.heap.size [.slice (some ⟨bq, oq, none⟩) 0 0, .int .i64 x0, .int .i64 x1] 32 := Blk.new wr _ _
          have hk4 : Blk (wr.alloc (.cells #[.slice (some ⟨bq, oq, none⟩) 0 0, .int .i64 x0, .int .i64 x1] 32)).drew w.heap.size [.slice none 0 0, .int .i64 0, .int .i64 0] 32 := HK5.out.carry (hu.block _ HK5.out.lt)
          have hBu : Below w.heap.size w (wr.alloc (.cells #[.slice (some ⟨bq, oq, none⟩) 0 0, .int .i64 x0, .int .i64 x1] 32)).drew := HBr.out.trans (hu.mono HBr.out.size)
          have hms := HMS.out _ hu
          generalize (wr.alloc (.cells #[.slice (some ⟨bq, oq, none⟩) 0 0, .int .i64 x0, .int .i64 x1] 32)).drew = u5 at *
          have hXne : wr.heap.size ≠ w.heap.size := by have := HK5.out.lt; omega
          have CG : Calls Tryd.prog 13 #[.agg #[.slice (some ⟨bq, oq, none⟩) 0 0, .int .i64 x0, .int .i64 x1]] u5 fun e w' => e = .returned (.bool (goodM ⟨l.drop 3, x0, x1⟩)) ∧ Below u5.heap.size u5 w' := by
            have := refGoodM_any (some ⟨bq, oq, none⟩) (0) ⟨l.drop 3, x0, x1⟩ u5 hms (by show (l.drop 3).length ≤ _; rw [HDR2.out]; omega)
            unfold mval at this
            dsimp only at this
            rw [HDR2.out] at this
            exact this
          have g0 := kX.cell 0 rfl
          have g1 := kX.cell 1 rfl
          have g2 := kX.cell 2 rfl
          clear hu
          cases hgd : goodM ⟨l.drop 3, x0, x1⟩ with
          | false =>
            rw [hgd] at CG
            have HR : Hid (rdM b = none) := none_list HCO.out HBD.out fun m hg e => by
              have : listM m = listM ⟨l.drop 3, x0, x1⟩ := e.trans HLM2.out
              rw [listM_inj this, hgd] at hg
              cases hg
            clear hgd
            go_wp2_with fail
            go_fit CG
            rintro e w6 ⟨rfl, hB6⟩
            have hk5 := hk4.carry (hB6.block _ hk4.lt)
            have HB6 : Hid (Below w.heap.size w w6) := hBu.trans (hB6.mono hBu.size)
            have f0 := hk5.frozen 0
            have f1 := hk5.frozen 1
            have f2 := hk5.frozen 2
            have n0 := hk5.cell 0 rfl
            have n1 := hk5.cell 1 rfl
            have n2 := hk5.cell 2 rfl
            have HKz : Hid (Blk (((w6.setCell ⟨w.heap.size, 0, none⟩ (.slice none 0 0)).setCell ⟨w.heap.size, 1, none⟩ (.int .i64 0)).setCell ⟨w.heap.size, 2, none⟩ (.int .i64 0)) w.heap.size [.slice none 0 0, .int .i64 0, .int .i64 0] 32) := ((hk5.setTo 0 _ _ rfl).setTo 1 _ _ rfl).setTo 2 _ _ rfl
            clear hk5 hk4 hB6 hBu CG hms kX g0 g1 g2
            go_wp2_with fail
            refine bodyPost_ret (v := .tuple #[.agg #[.slice none 0 0, .int .i64 0, .int .i64 0], .int .i64 8]) (results_row_tmpM Tryd.results11 _ _ w.heap.size 32 _ _ _ _ rfl rfl HKz.out Tryd.underlying32 rfl (by kernel_rfl)) rfl ?_
            exact HZ.out _ (((HB6.out.setCell (Nat.le_refl _) _).setCell (Nat.le_refl _) _).setCell (Nat.le_refl _) _) HR.out
          | true =>
            rw [hgd] at CG
            have HR : rdM b = some ⟨l.drop 3, x0, x1⟩ := some_list (by rw [← HLM2.out]; exact HCO.out) HEN.out.1 HEN.out.2 hgd
            obtain ⟨r1, r2⟩ := rd_some HR
            clear hgd HR
            go_wp2_with fail
            go_fit CG
            rintro e w6 ⟨rfl, hB6⟩
            have hk5 := hk4.carry (hB6.block _ hk4.lt)
            have kX6 := kX.carry (hB6.block _ kX.lt)
            have hm6 := hms.below hB6 (Nat.le_refl _)
            have HB6 : Hid (Below w.heap.size w w6) := hBu.trans (hB6.mono hBu.size)
            have f0 := hk5.frozen 0
            have f1 := hk5.frozen 1
            have f2 := hk5.frozen 2
            have n0 := hk5.cell 0 rfl
            have n1 := hk5.cell 1 rfl
            have n2 := hk5.cell 2 rfl
            have m0 := kX6.cell 0 rfl
            have m1 := kX6.cell 1 rfl
            have m2 := kX6.cell 2 rfl
            have HKz : Hid (Blk (((w6.setCell ⟨w.heap.size, 0, none⟩ (.slice (some ⟨bq, oq, none⟩) 0 0)).setCell ⟨w.heap.size, 1, none⟩ (.int .i64 x0)).setCell ⟨w.heap.size, 2, none⟩ (.int .i64 x1)) w.heap.size [.slice (some ⟨bq, oq, none⟩) 0 0, .int .i64 x0, .int .i64 x1] 32) := ((hk5.setTo 0 _ _ rfl).setTo 1 _ _ rfl).setTo 2 _ _ rfl
            have HEX : Hid (∃ a5 c5, Ending.returned (.tuple #[.agg #[.slice (some ⟨bq, oq, none⟩) 0 0, .int .i64 x0, .int .i64 x1], .int .i64 0]) = .returned (.tuple #[mval a5 c5 (rdF b), .int .i64 (rdE b)]) ∧ MSees (((w6.setCell ⟨w.heap.size, 0, none⟩ (.slice (some ⟨bq, oq, none⟩) 0 0)).setCell ⟨w.heap.size, 1, none⟩ (.int .i64 x0)).setCell ⟨w.heap.size, 2, none⟩ (.int .i64 x1)) a5 c5 (rdF b) ∧ Below w.heap.size w (((w6.setCell ⟨w.heap.size, 0, none⟩ (.slice (some ⟨bq, oq, none⟩) 0 0)).setCell ⟨w.heap.size, 1, none⟩ (.int .i64 x0)).setCell ⟨w.heap.size, 2, none⟩ (.int .i64 x1))) := by
              rw [r1, r2]
              refine ⟨some ⟨bq, oq, none⟩, 0, by unfold mval; dsimp only; rw [HDR2.out], ⟨fun i x hx => ?_, hm6.nil, hm6.cap⟩, ((HB6.out.setCell (Nat.le_refl _) _).setCell (Nat.le_refl _) _).setCell (Nat.le_refl _) _⟩
              obtain ⟨q, off, e, hc⟩ := hm6.see i x hx
              cases e
              refine ⟨bq, _, rfl, ?_⟩
              rw [World.cell?_of_block (w := w6)]
              · exact hc
              · show (((w6.setCell _ _).setCell _ _).setCell _ _).heap[bq]? = _
                rw [Below.heap_setCell _ _ _ _ (by show bq ≠ w.heap.size; exact HBQ.out), Below.heap_setCell _ _ _ _ (by show bq ≠ w.heap.size; exact HBQ.out), Below.heap_setCell _ _ _ _ (by show bq ≠ w.heap.size; exact HBQ.out)]
            clear hk5 hk4 hB6 hBu CG hms kX g0 g1 g2 kX6 hm6 r1 r2
            go_wp2_with fail
            refine bodyPost_ret (v := .tuple #[.agg #[.slice (some ⟨bq, oq, none⟩) 0 0, .int .i64 x0, .int .i64 x1], .int .i64 0]) (results_row_tmpM Tryd.results11 _ _ w.heap.size 32 _ _ _ _ rfl rfl HKz.out Tryd.underlying32 rfl (by kernel_rfl)) rfl ?_
            exact HEX.out
        · have q0 := fun o : Obj => (Below.refl wr.heap.size wr).alloc (Nat.le_refl _) o
          have d0 : ∀ o : Obj, (wr.alloc o).cell? ⟨bq, oq, none⟩ = some (.int .i64 (l.getD 0 0)) := fun o => by rw [(q0 o).cell hblt]; exact c0
          have d1 : ∀ o : Obj, (wr.alloc o).cell? ⟨bq, oq + 1, none⟩ = some (.int .i64 (l.getD 1 0)) := fun o => by rw [(q0 o).cell hblt]; exact c1
          have hvi : (vc : Int) ≤ 9223372036854775807 := by omega
          have hvl : (l.length : Int) ≤ (vc : Int) := by omega
          clear hk5 hR hfew hcont hbd hse hnl hr0i hcs hlm hz q0
          obtain ⟨x0, hx0⟩ : ∃ x0, l.getD 0 0 = x0 := ⟨_, rfl⟩
          obtain ⟨x1, hx1⟩ : ∃ x1, l.getD 1 0 = x1 := ⟨_, rfl⟩
          obtain ⟨x2, hx2⟩ : ∃ x2, l.getD 2 0 = x2 := ⟨_, rfl⟩
          obtain ⟨ln, hln⟩ : ∃ ln, l.length = ln := ⟨_, rfl⟩
          rw [hx0] at c0 d0
          rw [hx1] at c1 d1
          rw [hx2] at c2 hzb hz2'
          rw [hln] at hzb hli h3i h3l hvl hvc h3
          rw [hln]
          have HDR2 : Hid ((l.drop 3).length = ln - 3) := by show _ = _; rw [List.length_drop, hln]
          have HLM2 : Hid (l = listM ⟨l.drop 3, x0, x1⟩) := by have := HLM.out; rw [hx0, hx1] at this; exact this
          have HMS : Hid (∀ u, Below wr.heap.size wr u → MSees u (some ⟨bq, oq + 3, none⟩) (vc - 3) ⟨l.drop 3, x0, x1⟩) := fun u hu => ⟨(fun i x hx => by
            have hil : 3 + i < l.length := by have := (List.getElem?_eq_some_iff.1 hx).1; rw [List.length_drop] at this; omega
            have hcc := HCS.out (3 + i) hil
            rw [List.getElem?_drop] at hx
            have hxx : l.getD (3 + i) 0 = x := by rw [List.getD_eq_getElem?_getD, hx]; rfl
            rw [hxx] at hcc
            refine ⟨bq, oq + 3, rfl, ?_⟩
            rw [Nat.add_assoc, hu.cell (World.block_lt_of_cell? _ _ hcc)]
            exact hcc), (fun e => by cases e), by show (l.drop 3).length ≤ _; rw [HDR2.out]; omega⟩
          clear hx0 hx1 hx2 hln
          go_wp2_with fail
          go_region
          have hu : Below wr.heap.size wr (wr.alloc (.cells #[.slice (some ⟨bq, oq + 3, none⟩) (ln - 3) (vc - 3), .int .i64 x0, .int .i64 x1] 32)).drew := ((Below.refl _ _).alloc (Nat.le_refl _) _).drew
          have kX : Blk (wr.alloc (.cells #[.slice (some ⟨bq, oq + 3, none⟩) (ln - 3) (vc - 3), .int .i64 x0, .int .i64 x1] 32)).drew wr.heap.size [.slice (some ⟨bq, oq + 3, none⟩) (ln - 3) (vc - 3), .int .i64 x0, .int .i64 x1] 32 := Blk.new wr _ _
          have hk4 : Blk (wr.alloc (.cells #[.slice (some ⟨bq, oq + 3, none⟩) (ln - 3) (vc - 3), .int .i64 x0, .int .i64 x1] 32)).drew w.heap.size [.slice none 0 0, .int .i64 0, .int .i64 0] 32 := HK5.out.carry (hu.block _ HK5.out.lt)
          have hBu : Below w.heap.size w (wr.alloc (.cells #[.slice (some ⟨bq, oq + 3, none⟩) (ln - 3) (vc - 3), .int .i64 x0, .int .i64 x1] 32)).drew := HBr.out.trans (hu.mono HBr.out.size)
          have hms := HMS.out _ hu
          generalize (wr.alloc (.cells #[.slice (some ⟨bq, oq + 3, none⟩) (ln - 3) (vc - 3), .int .i64 x0, .int .i64 x1] 32)).drew = u5 at *
          have hXne : wr.heap.size ≠ w.heap.size := by have := HK5.out.lt; omega
          have CG : Calls Tryd.prog 13 #[.agg #[.slice (some ⟨bq, oq + 3, none⟩) (ln - 3) (vc - 3), .int .i64 x0, .int .i64 x1]] u5 fun e w' => e = .returned (.bool (goodM ⟨l.drop 3, x0, x1⟩)) ∧ Below u5.heap.size u5 w' := by
            have := refGoodM_any (some ⟨bq, oq + 3, none⟩) ((vc - 3)) ⟨l.drop 3, x0, x1⟩ u5 hms (by show (l.drop 3).length ≤ _; rw [HDR2.out]; omega)
            unfold mval at this
            dsimp only at this
            rw [HDR2.out] at this
            exact this
          have g0 := kX.cell 0 rfl
          have g1 := kX.cell 1 rfl
          have g2 := kX.cell 2 rfl
          clear hu
          cases hgd : goodM ⟨l.drop 3, x0, x1⟩ with
          | false =>
            rw [hgd] at CG
            have HR : Hid (rdM b = none) := none_list HCO.out HBD.out fun m hg e => by
              have : listM m = listM ⟨l.drop 3, x0, x1⟩ := e.trans HLM2.out
              rw [listM_inj this, hgd] at hg
              cases hg
            clear hgd
            go_wp2_with fail
            go_fit CG
            rintro e w6 ⟨rfl, hB6⟩
            have hk5 := hk4.carry (hB6.block _ hk4.lt)
            have HB6 : Hid (Below w.heap.size w w6) := hBu.trans (hB6.mono hBu.size)
            have f0 := hk5.frozen 0
            have f1 := hk5.frozen 1
            have f2 := hk5.frozen 2
            have n0 := hk5.cell 0 rfl
            have n1 := hk5.cell 1 rfl
            have n2 := hk5.cell 2 rfl
            have HKz : Hid (Blk (((w6.setCell ⟨w.heap.size, 0, none⟩ (.slice none 0 0)).setCell ⟨w.heap.size, 1, none⟩ (.int .i64 0)).setCell ⟨w.heap.size, 2, none⟩ (.int .i64 0)) w.heap.size [.slice none 0 0, .int .i64 0, .int .i64 0] 32) := ((hk5.setTo 0 _ _ rfl).setTo 1 _ _ rfl).setTo 2 _ _ rfl
            clear hk5 hk4 hB6 hBu CG hms kX g0 g1 g2
            go_wp2_with fail
            refine bodyPost_ret (v := .tuple #[.agg #[.slice none 0 0, .int .i64 0, .int .i64 0], .int .i64 8]) (results_row_tmpM Tryd.results11 _ _ w.heap.size 32 _ _ _ _ rfl rfl HKz.out Tryd.underlying32 rfl (by kernel_rfl)) rfl ?_
            exact HZ.out _ (((HB6.out.setCell (Nat.le_refl _) _).setCell (Nat.le_refl _) _).setCell (Nat.le_refl _) _) HR.out
          | true =>
            rw [hgd] at CG
            have HR : rdM b = some ⟨l.drop 3, x0, x1⟩ := some_list (by rw [← HLM2.out]; exact HCO.out) HEN.out.1 HEN.out.2 hgd
            obtain ⟨r1, r2⟩ := rd_some HR
            clear hgd HR
            go_wp2_with fail
            go_fit CG
            rintro e w6 ⟨rfl, hB6⟩
            have hk5 := hk4.carry (hB6.block _ hk4.lt)
            have kX6 := kX.carry (hB6.block _ kX.lt)
            have hm6 := hms.below hB6 (Nat.le_refl _)
            have HB6 : Hid (Below w.heap.size w w6) := hBu.trans (hB6.mono hBu.size)
            have f0 := hk5.frozen 0
            have f1 := hk5.frozen 1
            have f2 := hk5.frozen 2
            have n0 := hk5.cell 0 rfl
            have n1 := hk5.cell 1 rfl
            have n2 := hk5.cell 2 rfl
            have m0 := kX6.cell 0 rfl
            have m1 := kX6.cell 1 rfl
            have m2 := kX6.cell 2 rfl
            have HKz : Hid (Blk (((w6.setCell ⟨w.heap.size, 0, none⟩ (.slice (some ⟨bq, oq + 3, none⟩) (ln - 3) (vc - 3))).setCell ⟨w.heap.size, 1, none⟩ (.int .i64 x0)).setCell ⟨w.heap.size, 2, none⟩ (.int .i64 x1)) w.heap.size [.slice (some ⟨bq, oq + 3, none⟩) (ln - 3) (vc - 3), .int .i64 x0, .int .i64 x1] 32) := ((hk5.setTo 0 _ _ rfl).setTo 1 _ _ rfl).setTo 2 _ _ rfl
            have HEX : Hid (∃ a5 c5, Ending.returned (.tuple #[.agg #[.slice (some ⟨bq, oq + 3, none⟩) (ln - 3) (vc - 3), .int .i64 x0, .int .i64 x1], .int .i64 0]) = .returned (.tuple #[mval a5 c5 (rdF b), .int .i64 (rdE b)]) ∧ MSees (((w6.setCell ⟨w.heap.size, 0, none⟩ (.slice (some ⟨bq, oq + 3, none⟩) (ln - 3) (vc - 3))).setCell ⟨w.heap.size, 1, none⟩ (.int .i64 x0)).setCell ⟨w.heap.size, 2, none⟩ (.int .i64 x1)) a5 c5 (rdF b) ∧ Below w.heap.size w (((w6.setCell ⟨w.heap.size, 0, none⟩ (.slice (some ⟨bq, oq + 3, none⟩) (ln - 3) (vc - 3))).setCell ⟨w.heap.size, 1, none⟩ (.int .i64 x0)).setCell ⟨w.heap.size, 2, none⟩ (.int .i64 x1))) := by
              rw [r1, r2]
              refine ⟨some ⟨bq, oq + 3, none⟩, (vc - 3), by unfold mval; dsimp only; rw [HDR2.out], ⟨fun i x hx => ?_, hm6.nil, hm6.cap⟩, ((HB6.out.setCell (Nat.le_refl _) _).setCell (Nat.le_refl _) _).setCell (Nat.le_refl _) _⟩
              obtain ⟨q, off, e, hc⟩ := hm6.see i x hx
              cases e
              refine ⟨bq, _, rfl, ?_⟩
              rw [World.cell?_of_block (w := w6)]
              · exact hc
              · show (((w6.setCell _ _).setCell _ _).setCell _ _).heap[bq]? = _
                rw [Below.heap_setCell _ _ _ _ (by show bq ≠ w.heap.size; exact HBQ.out), Below.heap_setCell _ _ _ _ (by show bq ≠ w.heap.size; exact HBQ.out), Below.heap_setCell _ _ _ _ (by show bq ≠ w.heap.size; exact HBQ.out)]
            clear hk5 hk4 hB6 hBu CG hms kX g0 g1 g2 kX6 hm6 r1 r2
            go_wp2_with fail
            refine bodyPost_ret (v := .tuple #[.agg #[.slice (some ⟨bq, oq + 3, none⟩) (ln - 3) (vc - 3), .int .i64 x0, .int .i64 x1], .int .i64 0]) (results_row_tmpM Tryd.results11 _ _ w.heap.size 32 _ _ _ _ rfl rfl HKz.out Tryd.underlying32 rfl (by kernel_rfl)) rfl ?_
            exact HEX.out
      · have HR : Hid (rdM b = none) := none_list hcont hbd fun m _ e => by
          apply hz
          rw [← e]
          simp [listM]
          omega
        have hzb : ((l.length : Int) == 3 + l.getD 2 0) = false := by rw [beq_eq_false_iff_ne]; exact hz
        have f0 := hk5.frozen 0
        have f1 := hk5.frozen 1
        have f2 := hk5.frozen 2
        have n0 := hk5.cell 0 rfl
        have n1 := hk5.cell 1 rfl
        have n2 := hk5.cell 2 rfl
        have HKz : Hid (Blk (((wr.setCell ⟨w.heap.size, 0, none⟩ (.slice none 0 0)).setCell ⟨w.heap.size, 1, none⟩ (.int .i64 0)).setCell ⟨w.heap.size, 2, none⟩ (.int .i64 0)) w.heap.size [.slice none 0 0, .int .i64 0, .int .i64 0] 32) := ((hk5.setTo 0 _ _ rfl).setTo 1 _ _ rfl).setTo 2 _ _ rfl
        clear hk5 hR hfew hcont hbd hse hnl hr0i hcs hz
        generalize l.getD 2 0 = z2 at *
        generalize l.length = ln at *
        go_wp2_with fail
        refine bodyPost_ret (v := .tuple #[.agg #[.slice none 0 0, .int .i64 0, .int .i64 0], .int .i64 8]) (results_row_tmpM Tryd.results11 _ _ w.heap.size 32 _ _ _ _ rfl rfl HKz.out Tryd.underlying32 rfl (by kernel_rfl)) rfl ?_
        exact HZ.out _ (((HB5.out.setCell (Nat.le_refl _) _).setCell (Nat.le_refl _) _).setCell (Nat.le_refl _) _) HR.out
    · have hrne : r ≠ [] := fun e => by rw [e] at hrp; simp at hrp
      obtain ⟨q, off, rfl, hq⟩ : ∃ q off, a = some ⟨q, off, none⟩ ∧ q < w2.heap.size := by
        rcases hR.at' with ⟨_, h⟩ | h
        · omega
        · exact h
      have hkl := getK_le r
      have hVlt := getV_lt r
      have CG : Hid (Calls Tryd.prog 32 #[.slice (some ⟨q, off, none⟩) r.length cp] wr fun e w' => e = .returned (.tuple #[.int .u64 (getV r), .int .i64 (getK r)]) ∧ w' = wr) := refGet_any _ r cp wr hR.see (by omega)
      have hrpi : (0 : Int) < (r.length : Int) := by omega
      have hcp := hR.cap
      by_cases hbad : getK r = 0 ∨ 999999999 < getV r
      · have HR : Hid (rdM b = none) := none_stop hR.cont hR.bdd hrne hbad
        have f0 := hk5.frozen 0
        have f1 := hk5.frozen 1
        have f2 := hk5.frozen 2
        have n0 := hk5.cell 0 rfl
        have n1 := hk5.cell 1 rfl
        have n2 := hk5.cell 2 rfl
        have HKz : Hid (Blk (((wr.setCell ⟨w.heap.size, 0, none⟩ (.slice none 0 0)).setCell ⟨w.heap.size, 1, none⟩ (.int .i64 0)).setCell ⟨w.heap.size, 2, none⟩ (.int .i64 0)) w.heap.size [.slice none 0 0, .int .i64 0, .int .i64 0] 32) := ((hk5.setTo 0 _ _ rfl).setTo 1 _ _ rfl).setTo 2 _ _ rfl
        by_cases hk0 : getK r = 0
        · rw [hk0] at CG
          have hvi : (getV r : Int) ≤ 18446744073709551615 := by omega
          clear hk5 hR hbad hfew
          generalize getV r = V at *
          generalize r.length = rn at *
          go_wp2_with fail
          go_fit CG.out
          rintro e w5 ⟨rfl, rfl⟩
          go_wp2_with fail
          refine bodyPost_ret (v := .tuple #[.agg #[.slice none 0 0, .int .i64 0, .int .i64 0], .int .i64 8]) (results_row_tmpM Tryd.results11 _ _ w.heap.size 32 _ _ _ _ rfl rfl HKz.out Tryd.underlying32 rfl (by kernel_rfl)) rfl ?_
          exact HZ.out _ (((HB5.out.setCell (Nat.le_refl _) _).setCell (Nat.le_refl _) _).setCell (Nat.le_refl _) _) HR.out
        · have hki : ((getK r : Int) == 0) = false := by rw [beq_eq_false_iff_ne]; omega
          have hVi : (999999999 : Int) < (getV r : Int) := by omega
          clear hk5 hR hbad hfew hk0 hkl
          generalize getV r = V at *
          generalize getK r = kk at *
          generalize r.length = rn at *
          go_wp2_with fail
          go_fit CG.out
          rintro e w5 ⟨rfl, rfl⟩
          go_wp2_with fail
          refine bodyPost_ret (v := .tuple #[.agg #[.slice none 0 0, .int .i64 0, .int .i64 0], .int .i64 8]) (results_row_tmpM Tryd.results11 _ _ w.heap.size 32 _ _ _ _ rfl rfl HKz.out Tryd.underlying32 rfl (by kernel_rfl)) rfl ?_
          exact HZ.out _ (((HB5.out.setCell (Nat.le_refl _) _).setCell (Nat.le_refl _) _).setCell (Nat.le_refl _) _) HR.out
      · have hk0 : getK r ≠ 0 := fun e => hbad (.inl e)
        have hVn : getV r ≤ 999999999 := by omega
        obtain ⟨va, vc, hv, -⟩ := owns_msees hR.row
        subst hv
        have hB2s : w2.heap.size ≤ wr.heap.size := hR.bel.size
        obtain ⟨v', w3, hr3, ho3, hg3⟩ := run_append_grew (P := Tryd.prog) (wr.alloc (.cells #[.int .i64 ((getV r : Nat) : Int)] 3)) w2.heap.size 22 22 22 3 i0 (.int .i64 0) 1 8 Tryd.underlying22 hi hz0 hz1 hz2 rfl _ l.length _ (hR.row.alloc _) _ 1 (vI [((getV r : Nat) : Int)]) (src_oneI wr (getV r)) (by unfold maxLen; omega) (by omega) (by rw [World.size_alloc]; omega)
        have hB3 : Below w2.heap.size w2 w3 := (hR.bel.alloc hR.bel.size _).trans (hg3.below (by rw [World.size_alloc]; omega) (fun g hg => (hR.row.lt g hg).1))
        have HN : Hid (∀ o', (getK r < cp → o' = off + getK r) → RSt w w2 w3 b (l ++ [(getV r : Int)]) v' (r.drop (getK r)) (some ⟨q, o', none⟩) (cp - getK r)) := fun o' h => hR.next hq hk0 hVn ho3 hB3 o' h
        have hki : ((getK r : Int) == 0) = false := by rw [beq_eq_false_iff_ne]; omega
        have hVi : ¬ (999999999 : Int) < (getV r : Int) := by omega
        have hVb : (getV r : Int) ≤ 999999999 := by omega
        have hdl : (r.drop (getK r)).length = r.length - getK r := List.length_drop
        obtain ⟨va', vc', hv', -⟩ := owns_form2 ho3
        subst hv'
        obtain ⟨V, hV⟩ : ∃ V, getV r = V := ⟨_, rfl⟩
        obtain ⟨kk, hkk⟩ : ∃ kk, getK r = kk := ⟨_, rfl⟩
        obtain ⟨rn, hrn⟩ : ∃ rn, r.length = rn := ⟨_, rfl⟩
        obtain ⟨ln, hln⟩ : ∃ ln, l.length = ln := ⟨_, rfl⟩
        rw [hV, hkk] at CG
        rw [hrn] at CG
        rw [hkk] at hkl hki hdl hk0
        rw [hV] at hVi hVb hr3
        rw [hrn] at hkl hrpi hdl hcp hrp
        rw [hln] at hr3
        have HKK : Hid (getK r = kk) := hkk
        have HRN : Hid (r.length = rn) := hrn
        have HLN : Hid (l.length = ln) := hln
        have HDL : Hid ((r.drop (getK r)).length = rn - kk) := by show _ = _; rw [List.length_drop, hkk, hrn]
        have hkki : (kk : Int) ≤ (rn : Int) := by omega
        have hrci : (rn : Int) ≤ (cp : Int) := by omega
        have hcpi : (cp : Int) ≤ 9223372036854775807 := by omega
        rw [hrn, hln]
        clear hk5 hR hbad hfew hkk hrn hln hdl ho3 hg3 hB3 hVlt hVn hV hrne
        by_cases hcc : cp = kk
        · have hrk : rn = kk := by omega
          subst hrk
          subst hcc
          have HN2 := HN.out off (fun h => by rw [HKK.out] at h; omega)
          have HN3 : Hid (RSt w w2 w3 b (l ++ [(getV r : Int)]) (.slice va' (ln + 1) vc') (r.drop (getK r)) (some ⟨q, off, none⟩) (cp - getK r)) := by rw [HLN.out] at HN2; exact HN2
          clear HN HN2
          go_wp2_with fail
          go_fit CG.out
          rintro e w5 ⟨rfl, rfl⟩
          go_wp2_with (at_builtin; refine wpList_append_run _ rfl _ _ 22 22 rfl _ _ rfl rfl hr3 ?_)
          go_roundw
          case rel => exact ⟨l ++ [(getV r : Int)], _, r.drop (getK r), _, cp - getK r, rfl, by rw [HDL.out, HKK.out]; simp, HN3.out⟩
          case measure => (simp [lenOf]; try omega)
        · have HN2 := HN.out (off + kk) (fun h => by rw [HKK.out])
          have HN3 : Hid (RSt w w2 w3 b (l ++ [(getV r : Int)]) (.slice va' (ln + 1) vc') (r.drop (getK r)) (some ⟨q, off + kk, none⟩) (cp - getK r)) := by rw [HLN.out] at HN2; exact HN2
          clear HN HN2
          go_wp2_with fail
          go_fit CG.out
          rintro e w5 ⟨rfl, rfl⟩
          go_wp2_with (at_builtin; refine wpList_append_run _ rfl _ _ 22 22 rfl _ _ rfl rfl hr3 ?_)
          go_roundw
          case rel => exact ⟨l ++ [(getV r : Int)], _, r.drop (getK r), _, cp - getK r, rfl, by rw [HDL.out, HKK.out], HN3.out⟩
          case measure => (simp [lenOf]; try omega)
end Go.Proofs.YthihljjefncfoaaDoor

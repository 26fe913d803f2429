/-
  CONTRACTS: the library's slices.Grow of nothing, and slices.Concat, at numbers.
-/
import Derived.Test.YthihljjefncfoaaDoorIntRow
import Derived.Test.YthihljjefncfoaaDoorAppRun
import Derived.Lib.AppendZerosOnto
namespace Go.Proofs.YthihljjefncfoaaDoor
open Go.RowKit

set_option maxRecDepth 100000 in
set_option maxHeartbeats 1000000 in
theorem growI_any (n : Nat) (w : World) (h1 : 0 < n) (h2 : n ≤ 1000000) :
    Calls Tryd.prog 41 #[.slice none 0 0, .int .i64 (n : Int)] w fun e w' => ∃ v, e = .returned v ∧ w'.ownsRow w.heap.size 3 1 v 0 (vI []) ∧ Below w.heap.size w w' := by
  obtain ⟨i0, hi, hz0, hz1, hz2⟩ := info_parts infoInt
  have hr : ∀ ty, (Builtin.append_ #[22, 3] ty #[.slice none 0 0, .int .i64 (n : Int)]).run Tryd.prog w = .ok (.slice (some ⟨w.heap.size, 0, none⟩) (0 + n) (grownCap w (0 + n) 0 3)) (w.drew.alloc (.cells (([] : List Value).toArray ++ Builtin.zeroCells (Value.int .i64 0).cells n ++ Builtin.zeroCells (Value.int .i64 0).cells (grownCap w (0 + n) 0 3 - (0 + n))) 3)) := fun ty => by
    refine Lib.run_append_grow_zeros w 22 3 ty 3 i0 (.int .i64 0) .i64 .i64 Tryd.underlying22 Tryd.underlying3 hi hz0 none 0 0 [] (run_firstCells_none w.drew i0.size 0 0 0) n h1 (by rw [hz1]; omega) (by omega) (by omega) (by rw [hz2]; omega) (growslice_fits (by omega) (by rw [hz2]; omega))
  have hge := grownCap_ge w (0 + n) 0 3
  have hle := grownCap_le_maxLen w (0 + n) 0 3 (by unfold maxLen; omega)
  generalize grownCap w (0 + n) 0 3 = C at *
  have hCi : (C : Int) ≤ 9223372036854775807 := by unfold maxLen at hle; omega
  have HO : Hid ((w.drew.alloc (.cells (([] : List Value).toArray ++ Builtin.zeroCells (Value.int .i64 0).cells n ++ Builtin.zeroCells (Value.int .i64 0).cells (C - (0 + n))) 3)).ownsRow w.heap.size 3 1 (.slice (some ⟨w.heap.size, 0, none⟩) 0 C) 0 (vI [])) :=
    ⟨rfl, .inr ⟨w.heap.size, C, _, rfl, Nat.le_refl _, heap_alloc_new w.drew _, Nat.zero_le _, hle, by simp [Builtin.zeroCells, Value.cells]; omega, rfl⟩⟩
  have HB : Hid (Below w.heap.size w (w.drew.alloc (.cells (([] : List Value).toArray ++ Builtin.zeroCells (Value.int .i64 0).cells n ++ Builtin.zeroCells (Value.int .i64 0).cells (C - (0 + n))) 3))) := (Below.refl _ _).drew.alloc (Nat.le_refl _) _
  have hni : (0 : Int) < (n : Int) := by omega
  have hni2 : ¬ (n : Int) < 0 := by omega
  generalize (w.drew.alloc (.cells (([] : List Value).toArray ++ Builtin.zeroCells (Value.int .i64 0).cells n ++ Builtin.zeroCells (Value.int .i64 0).cells (C - (0 + n))) 3)) = w5 at *
  generalize 0 + n = N at *
  have hCn : ¬ (C : Int) < 0 := by omega
  clear hi hz0 hz1 hz2
  go_enter Tryd.func41, Tryd.ntmps41
  go_wp2_with (at_builtin; go_must (refine wpList_append_run _ rfl _ _ 22 3 rfl _ _ rfl rfl (hr _) ?_))
  go_ret
  exact ⟨_, rfl, HO.out, HB.out⟩
set_option maxRecDepth 100000 in
set_option maxHeartbeats 2000000 in
/-- Rows of numbers, one behind the other: L k is what the first k hold. -/
theorem concatI_any (g n : Nat) (p : Nat → List Int) (a : Nat → Option Addr) (c : Nat → Nat) (L : Nat → List Int) (w : World) (hL0 : L 0 = []) (hL : ∀ k, k < n → L (k + 1) = L k ++ p k) (hb : ∀ k, k ≤ n → (L k).length ≤ 1000000) (h1 : 0 < (L n).length)
    (hn : n ≤ 1000) (hc : ∀ k, k < n → w.cell? ⟨g, k, none⟩ = some (.slice (a k) (p k).length (c k))) (hs : ∀ k, k < n → ISees w (a k) (p k)) (hz : ∀ k, k < n → a k = none → (p k).length = 0) :
    Calls Tryd.prog 23 #[.slice (some ⟨g, 0, none⟩) n n] w fun e w' => ∃ v, e = .returned v ∧ w'.ownsRow w.heap.size 3 1 v (L n).length (vI (L n)) ∧ Below w.heap.size w w' := by
  obtain ⟨i0, hi, hz0, hz1, hz2⟩ := info_parts infoInt
  have HC : Hid (∀ u, Below w.heap.size w u → ∀ k, k < n → u.cell? ⟨g, k, none⟩ = some (.slice (a k) (p k).length (c k))) := fun u hu k hk => by rw [hu.cell (World.block_lt_of_cell? _ _ (hc k hk))]; exact hc k hk
  have HS : Hid (∀ u, Below w.heap.size w u → ∀ k, k < n → Src Tryd.prog 1 22 (.slice (a k) (p k).length (c k)) (p k).length (vI (p k)) u) := fun u hu k hk => src_ints ((hs k hk).below hu (Nat.le_refl _)) (hz k hk) (c k)
  have HL : Hid (∀ k, k < n → L (k + 1) = L k ++ p k) := hL
  have HL0 : Hid (L 0 = []) := hL0
  have Hb : Hid (∀ k, k ≤ n → (L k).length ≤ 1000000) := hb
  have HV : Hid (∀ k, k < n → vI (L k) ++ vI (p k) = vI (L (k + 1)) ∧ (L k).length + (p k).length = (L (k + 1)).length) := fun k hk => by
    rw [hL k hk]; exact ⟨by simp [vI], by simp⟩
  have HG : Hid (∀ u, Calls Tryd.prog 41 #[.slice none 0 0, .int .i64 ((L n).length : Int)] u fun e w' => ∃ v, e = .returned v ∧ w'.ownsRow u.heap.size 3 1 v 0 (vI []) ∧ Below u.heap.size u w') := fun u => growI_any _ u h1 (hb n (Nat.le_refl _))
  have hni : (n : Int) ≤ 1000 := by omega
  clear hL hL0 hb hc hs hz h1
  go_enter Tryd.func23, Tryd.ntmps23
  go_wp2_with fail
  go_loop [11, 3] (fun i s => ∃ k : Nat, k ≤ n ∧ i = .int .i64 (k : Int) ∧ s = .int .i64 ((L k).length : Int)) (fun i _ => n - (intOf i).toNat)
  case atStart => exact ⟨0, Nat.zero_le _, rfl, by rw [HL0.out]; rfl⟩
  case round =>
    obtain ⟨k, hk, rfl, rfl⟩ := hrel
    rcases Nat.lt_or_ge k n with hlt | hge
    · have c1 := HC.out w (Below.refl _ _) k hlt
      have hv := (HV.out k hlt).2
      have hb1 := Hb.out (k + 1) (by omega)
      have hlti : (k : Int) < (n : Int) := by omega
      obtain ⟨z, hz⟩ : ∃ z, (L (k + 1)).length = z := ⟨_, rfl⟩
      obtain ⟨y, hy⟩ : ∃ y, (L k).length = y := ⟨_, rfl⟩
      obtain ⟨x, hx⟩ : ∃ x, (p k).length = x := ⟨_, rfl⟩
      have HZ : Hid ((L (k + 1)).length = z) := hz
      rw [hy, hx, hz] at hv
      rw [hx] at c1
      rw [hz] at hb1
      rw [hy]
      have HV1 : Hid (y + x = z) := hv
      have hyb : (y : Int) + (x : Int) ≤ 1000000 := by omega
      have hnn : ¬ (y : Int) + (x : Int) < 0 := by omega
      clear hv hz hy hx hb1
      go_wp2_with fail
      go_round
      case rel => exact ⟨k + 1, by omega, by go_num, by rw [HZ.out, ← HV1.out]; go_num⟩
      case measure => (simp [intOf]; try omega)
    · obtain rfl : n = k := by omega
      go_wp2_with fail
      go_fit (HG.out _)
      rintro e w1 ⟨v1, rfl, ho1, hB1⟩
      have HB1 : Hid (Below w.heap.size w w1) := hB1
      have HO1 : Hid (w1.ownsRow w.heap.size 3 1 v1 0 (vI [])) := ho1
      clear hB1 ho1 hge
      go_wp2_with fail
      go_loopw [27, 6] (fun i s wr => ∃ (k : Nat) (v : Value), k ≤ n ∧ i = .int .i64 (k : Int) ∧ v = s ∧ wr.ownsRow w.heap.size 3 1 v (L k).length (vI (L k)) ∧ Below w.heap.size w wr) (fun i _ _ => n - (intOf i).toNat)
      case atStart => exact ⟨0, v1, Nat.zero_le _, rfl, rfl, by rw [HL0.out]; exact HO1.out, HB1.out⟩
      case round =>
        obtain ⟨k, v, hk, rfl, rfl, ho, hB⟩ := hrel
        clear HO1 HB1
        rcases Nat.lt_or_ge k n with hlt | hge
        · have c1 := HC.out wr hB k hlt
          have hsrc := HS.out wr hB k hlt
          obtain ⟨hv1, hv2⟩ := HV.out k hlt
          have hb1 := Hb.out (k + 1) (by omega)
          have hlti : (k : Int) < (n : Int) := by omega
          have HV1 : Hid (vI (L k) ++ vI (p k) = vI (L (k + 1))) := hv1
          have HV2 : Hid ((L k).length + (p k).length = (L (k + 1)).length) := hv2
          have hle : (L k).length + (p k).length ≤ 1000000 := by omega
          have HB : Hid (Below w.heap.size w wr) := hB
          have hBs := hB.size
          obtain ⟨ys, hys⟩ : ∃ ys, vI (L k) = ys := ⟨_, rfl⟩
          have HO : Hid (wr.ownsRow w.heap.size 3 1 v (L k).length (vI (L k))) := ho
          have HSR : Hid (Src Tryd.prog 1 22 (.slice (a k) (p k).length (c k)) (p k).length (vI (p k)) wr) := hsrc
          clear hys hv1 hv2 hb1 hB ho hsrc
          go_wp2_with (at_builtin; go_must (refine wpList_append_grew _ rfl _ _ 22 22 rfl w.heap.size 3 i0 (.int .i64 0) 1 8 Tryd.underlying22 hi hz0 hz1 hz2 rfl _ (L k).length (vI (L k)) rfl HO.out _ (p k).length (vI (p k)) rfl HSR.out (by unfold maxLen; omega) (by omega) hBs ?_; intro v5 w5 ho5 hg5))
          have HO5 : Hid (w5.ownsRow w.heap.size 3 1 v5 (L (k + 1)).length (vI (L (k + 1)))) := by rw [HV1.out, HV2.out] at ho5; exact ho5
          have HB5 : Hid (Below w.heap.size w w5) := HB.out.trans (hg5.below hBs (fun q hq => (HO.out.lt q hq).1))
          clear ho5 hg5
          go_wp2_with fail
          go_roundw
          case rel => exact ⟨k + 1, v5, by omega, by go_num, rfl, HO5.out, HB5.out⟩
          case measure => (simp [intOf]; try omega)
        · obtain rfl : n = k := by omega
          have HO : Hid (wr.ownsRow w.heap.size 3 1 v (L n).length (vI (L n))) := ho
          have HB : Hid (Below w.heap.size w wr) := hB
          clear ho hB
          go_wp2_with fail
          go_ret
          exact ⟨_, rfl, HO.out, HB.out⟩
end Go.Proofs.YthihljjefncfoaaDoor

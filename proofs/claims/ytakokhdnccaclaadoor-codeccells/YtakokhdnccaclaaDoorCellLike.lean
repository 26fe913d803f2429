/-
  CONTRACTS: Like of equal cells; how heavy cells are.
-/
import Derived.Test.YtakokhdnccaclaaDoorCellGet
namespace Go.Proofs.YtakokhdnccaclaaDoor
open Go.RowKit

set_option maxRecDepth 100000 in
set_option maxHeartbeats 1600000 in
theorem like_same (ao bo : Option Addr) (l : List CellV) (ca cb : Nat) (w : World) (ha : CSees w ao l) (hb : CSees w bo l) (hl : l.length ≤ 1000000000) :
    Calls Tryd.prog 36 #[.slice ao l.length ca, .slice bo l.length cb] w fun e w' => e = .returned (.bool true) ∧ ∃ k, w' = w.drewN k := by
  go_enter Tryd.func36, Tryd.ntmps36
  go_wp2
  go_loopw [13] (fun s13 wr => ∃ i k : Nat, i ≤ l.length ∧ s13 = .int .i64 i ∧ wr = w.drewN k) (fun s13 _ => l.length - (intOf s13).toNat)
  case atStart => exact ⟨0, 0, by omega, rfl, rfl⟩
  case round =>
    obtain ⟨i, k, hi, rfl, rfl⟩ := hrel
    rcases Nat.lt_or_ge i l.length with hlt | hge
    · have hc : l[i]? = some l[i] := List.getElem?_eq_getElem hlt
      obtain ⟨b1, o1, rfl, h1⟩ := ha.ten hc
      obtain ⟨b2, o2, rfl, h2⟩ := hb.ten hc
      generalize l[i] = c at *
      obtain ⟨⟨table, part, row, col⟩, ⟨time, dead, loc, kind, num, s⟩⟩ := c
      obtain ⟨k0, k1, k2, k3, k4, k5, k6, k7, k8, k9⟩ := h1
      obtain ⟨j0, j1, j2, j3, j4, j5, j6, j7, j8, j9⟩ := h2
      simp only at k0 k1 k2 k3 k4 k5 k6 k7 k8 k9 j0 j1 j2 j3 j4 j5 j6 j7 j8 j9
      clear hc ha hb
      go_wp2_with fail
      go_quiet (fail)
      go_wp2
      go_roundw
      case rel => exact ⟨i + 1, k + nq, by omega, by go_num, rfl⟩
      case measure => simp [intOf]; omega
    · clear ha hb
      go_wp2
      go_ret
      exact ⟨rfl, k, rfl⟩

set_option maxRecDepth 100000 in
set_option maxHeartbeats 1600000 in
theorem weigh_any (ao : Option Addr) (l : List CellV) (cap : Nat) (w : World) (ha : CSees w ao l) (hl : l.length ≤ 140737488355328) (hw : ∀ c ∈ l, wtC c ≤ 562949953421312) :
    Calls Tryd.prog 31 #[.slice ao l.length cap, .int .i64 500] w fun e w' => (∃ z : Nat, e = .returned (.int .i64 z) ∧ (z ≤ 500 → l.length ≤ 500 ∧ wtL l ≤ 10000)) ∧ Below w.heap.size w w' := by
  go_enter Tryd.func31, Tryd.ntmps31
  go_wp2
  go_loopw [5, 10] (fun s5 s10 wr => ∃ i z : Nat, i ≤ l.length ∧ s5 = .int .i64 z ∧ s10 = .int .i64 i ∧ i ≤ z ∧ z ≤ 500 ∧ wtL (l.take i) ≤ 20 * z ∧ Below w.heap.size w wr) (fun _ s10 _ => l.length - (intOf s10).toNat)
  case atStart => exact ⟨0, 0, by omega, rfl, rfl, by omega, by omega, by simp [wtL], Below.refl _ _⟩
  case round =>
    obtain ⟨i, z, hi, rfl, rfl, hiz, hz, hwz, hbr⟩ := hrel
    rcases Nat.lt_or_ge i l.length with hlt | hge
    · have hc : l[i]? = some l[i] := List.getElem?_eq_getElem hlt
      have hcw := hw l[i] (List.getElem_mem hlt)
      have hst : wtL (l.take (i + 1)) = wtL (l.take i) + wtC l[i] := by
        rw [take_succ_of hc]
        unfold wtL
        rw [List.map_append, List.sum_append]
        simp
      obtain ⟨b1, o1, rfl, h1⟩ := (ha.below hbr (Nat.le_refl _)).ten hc
      generalize l[i] = c at *
      obtain ⟨⟨table, part, row, col⟩, ⟨time, dead, loc, kind, num, s⟩⟩ := c
      obtain ⟨k0, k1, k2, k3, k4, k5, k6, k7, k8, k9⟩ := h1
      simp only at k0 k1 k2 k3 k4 k5 k6 k7 k8 k9
      unfold wtC at hcw hst
      simp only at hcw hst
      have hb2 : Below w.heap.size w (wr.alloc (.cells (cellA ⟨⟨table, part, row, col⟩, ⟨time, dead, loc, kind, num, s⟩⟩) 63)) := hbr.alloc hbr.size _
      have Hst : Hid _ := hst
      have Hw : Hid _ := hw
      clear hc ha hst hw
      have hsum : (table.size : Int) + part.size + col.size + s.size ≤ 562949953421312 := by omega
      by_cases hbig : z + (1 + (table.size + part.size + col.size + s.size) / 20) ≤ 500
      · have hq : ¬ ((500 : Int) < (z : Int) + (1 + ((table.size : Int) + part.size + col.size + s.size) / 20)) := by omega
        go_wp2
        go_roundw
        case rel =>
          refine ⟨i + 1, z + (1 + (table.size + part.size + col.size + s.size) / 20), by omega, ?_, by go_num, by omega, hbig, ?_, hb2⟩
          · congr 1
          · rw [Hst.out]
            omega
        case measure => simp [intOf]; omega
      · have hq : ((500 : Int) < (z : Int) + (1 + ((table.size : Int) + part.size + col.size + s.size) / 20)) := by omega
        go_wp2
        go_ret
        refine ⟨⟨z + (1 + (table.size + part.size + col.size + s.size) / 20), ret_int (by omega), fun h => absurd h hbig⟩, hb2⟩
    · obtain rfl : i = l.length := by omega
      rw [List.take_length] at hwz
      clear ha hw
      go_wp2
      go_ret
      exact ⟨⟨z, rfl, fun _ => ⟨by omega, by omega⟩⟩, hbr⟩
end Go.Proofs.YtakokhdnccaclaaDoor

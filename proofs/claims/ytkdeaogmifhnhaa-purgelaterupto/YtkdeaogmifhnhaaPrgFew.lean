/-
  CONTRACTS: the law's own weigh and few.
-/
import Derived.Test.YtkdeaogmifhnhaaMrgLow
namespace Go.Proofs.Ytkdeaogmifhnhaa
open Go.RowKit

set_option maxRecDepth 100000 in
set_option maxHeartbeats 1600000 in
theorem weigh11_any (ao : Option Addr) (l : List Cx) (cap m : Nat) (w : World) (ha : XSees w ao l) (hm : m ≤ 500) (hl : l.length ≤ 140737488355328) (hw : ∀ c ∈ l, wtX c ≤ 562949953421312) :
    Calls Try.prog 14 #[.slice ao l.length cap, .int .i64 m] w fun e w' => (∃ z : Nat, e = .returned (.int .i64 z) ∧ z ≤ 1000000000000000 ∧ (z ≤ m → l.length ≤ m ∧ wtXs l ≤ 20 * m)) ∧ Below w.heap.size w w' := by
  go_enter Try.func14, Try.ntmps14
  go_wp2
  go_loopw [5, 10] (fun s5 s10 wr => ∃ i z : Nat, i ≤ l.length ∧ s5 = .int .i64 z ∧ s10 = .int .i64 i ∧ i ≤ z ∧ z ≤ m ∧ wtXs (l.take i) ≤ 20 * z ∧ Below w.heap.size w wr) (fun _ s10 _ => l.length - (intOf s10).toNat)
  case atStart => exact ⟨0, 0, by omega, rfl, rfl, by omega, by omega, by simp [wtXs], Below.refl _ _⟩
  case round =>
    obtain ⟨i, z, hi, rfl, rfl, hiz, hz, hwz, hbr⟩ := hrel
    rcases Nat.lt_or_ge i l.length with hlt | hge
    · have hc : l[i]? = some l[i] := List.getElem?_eq_getElem hlt
      have hcw := hw l[i] (List.getElem_mem hlt)
      have hst : wtXs (l.take (i + 1)) = wtXs (l.take i) + wtX l[i] := by
        rw [takeX_succ hc]
        unfold wtXs
        rw [List.map_append, List.sum_append]
        simp
      obtain ⟨b1, o1, rfl, h1⟩ := (ha.below hbr (Nat.le_refl _)) i _ hc
      generalize l[i] = c at *
      obtain ⟨⟨table, part, row, col⟩, ⟨time, dead, loc, kind, num, s⟩⟩ := c
      obtain ⟨k0, k1, k2, k3, k4, k5, k6, k7, k8, k9⟩ := h1
      simp only at k0 k1 k2 k3 k4 k5 k6 k7 k8 k9
      unfold wtX at hcw hst
      simp only at hcw hst
      have hb2 : Below w.heap.size w (wr.alloc (.cells (Cx.a ⟨⟨table, part, row, col⟩, ⟨time, dead, loc, kind, num, s⟩⟩) 35)) := hbr.alloc hbr.size _
      have Hst : Hid (wtXs (l.take (i + 1)) = wtXs (l.take i) + (table.size + part.size + col.size + s.size)) := hst
      clear hc ha hst hw
      have hsum : (table.size : Int) + part.size + col.size + s.size ≤ 562949953421312 := by omega
      by_cases hbig : z + (1 + (table.size + part.size + col.size + s.size) / 20) ≤ m
      · have hq : ¬ ((m : Int) < (z : Int) + (1 + ((table.size : Int) + part.size + col.size + s.size) / 20)) := by omega
        go_wp2
        go_roundw
        case rel =>
          refine ⟨i + 1, z + (1 + (table.size + part.size + col.size + s.size) / 20), by omega, ?_, by go_num, by omega, hbig, ?_, hb2⟩
          · congr 1
          · rw [Hst.out]
            omega
        case measure => simp [intOf]; omega
      · have hq : ((m : Int) < (z : Int) + (1 + ((table.size : Int) + part.size + col.size + s.size) / 20)) := by omega
        go_wp2
        go_ret
        refine ⟨⟨z + (1 + (table.size + part.size + col.size + s.size) / 20), ret_int (by omega), by omega, fun h => absurd h hbig⟩, hb2⟩
    · obtain rfl : i = l.length := by omega
      rw [List.take_length] at hwz
      clear ha hw
      go_wp2
      go_ret
      exact ⟨⟨z, rfl, by omega, fun _ => ⟨by omega, by omega⟩⟩, hbr⟩
set_option maxRecDepth 100000 in
set_option maxHeartbeats 1000000 in
theorem few11_any (lo : Option Addr) (vs : List Lv) (lcap : Nat) (w : World) (hs : LSees w lo vs) (hin : ∀ v ∈ vs, XSees w v.ao v.l) (hl : vs.length ≤ 1048576) (hll : ∀ v ∈ vs, v.l.length ≤ 1048576 ∧ ∀ c ∈ v.l, wtX c ≤ 562949953421312) :
    Calls Try.prog 6 #[.slice lo vs.length lcap] w fun e w' => (∃ b, e = .returned (.bool b) ∧ (b = true → vs.length ≤ 300)) ∧ Below w.heap.size w w' := by
  have hlz : (vs.length : Int) ≤ 1048576 := by omega
  go_enter Try.func6, Try.ntmps6
  go_wp2_with fail
  go_loopw [3, 8] (fun s3 s8 wr => ∃ i z : Nat, i ≤ vs.length ∧ s3 = .int .i64 z ∧ s8 = .int .i64 i ∧ i ≤ z ∧ z ≤ 300 ∧ Below w.heap.size w wr) (fun _ s8 _ => vs.length - (intOf s8).toNat)
  case atStart => exact ⟨0, 0, by omega, rfl, rfl, by omega, by omega, Below.refl _ _⟩
  case round =>
    obtain ⟨i, z, hi, rfl, rfl, hiz, hz, hB⟩ := hrel
    rcases Nat.lt_or_ge i vs.length with hlt | hge
    · obtain ⟨x, hx⟩ : ∃ x, vs[i]? = some x := ⟨_, List.getElem?_eq_getElem hlt⟩
      obtain ⟨b, off, rfl, hc⟩ := (hs.below hB (Nat.le_refl _)) i x hx
      have hxm := List.mem_of_getElem? hx
      have hkz : (i : Int) < (vs.length : Int) := by omega
      have WG : Hid (Calls Try.prog 14 #[x.s, .int .i64 200] wr fun e w' => (∃ z : Nat, e = .returned (.int .i64 z) ∧ z ≤ 1000000000000000) ∧ Below wr.heap.size wr w') :=
        (weigh11_any x.ao x.l x.cap 200 wr ((hin x hxm).below hB (Nat.le_refl _)) (by omega) (by have := (hll x hxm).1; omega) (hll x hxm).2).mono fun e w' ⟨⟨z, h1, h2, _⟩, h3⟩ => ⟨⟨z, h1, h2⟩, h3⟩
      obtain ⟨xv, hxv⟩ : ∃ xv, xv = x.s := ⟨_, rfl⟩
      rw [← hxv] at WG hc
      have hxs : ∃ xa xn xc, xv = .slice xa xn xc := ⟨_, _, _, hxv⟩
      obtain ⟨xa, xn, xc, rfl⟩ := hxs
      clear hs hin hll hx hxm hxv
      go_wp2_with fail
      refine WG.out.mono ?_
      rintro e u ⟨⟨q, rfl, hq⟩, hu⟩
      have hBu := hB.trans (hu.mono hB.size)
      have hqz : (q : Int) ≤ 1000000000000000 := by omega
      have hzz : (z : Int) ≤ 300 := by omega
      clear WG hc
      by_cases hbig : z + (1 + q) ≤ 300
      · have d1 : ¬ (300 : Int) < (z : Int) + (1 + (q : Int)) := by omega
        go_wp2_with fail
        go_roundw
        case rel => exact ⟨i + 1, z + (1 + q), by omega, by go_num, by go_num, by omega, hbig, hBu⟩
        case measure => simp [intOf]; omega
      · have d1 : (300 : Int) < (z : Int) + (1 + (q : Int)) := by omega
        go_wp2_with fail
        go_ret
        exact ⟨⟨false, rfl, fun h => by cases h⟩, hBu⟩
    · obtain rfl : i = vs.length := by omega
      have hge' : ¬ (vs.length : Int) < (vs.length : Int) := by omega
      clear hs hin hll
      go_wp2_with fail
      go_ret
      exact ⟨.inr ⟨rfl, by omega⟩, hB⟩
end Go.Proofs.Ytkdeaogmifhnhaa

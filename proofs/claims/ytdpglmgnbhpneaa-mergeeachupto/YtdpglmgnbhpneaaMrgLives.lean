/-
  CONTRACTS: the law's own weigh, few, at and lives.
-/
import Derived.Test.YtdpglmgnbhpneaaMrgMid
namespace Go.Proofs.Ytdpglmgnbhpneaa
open Go.RowKit

set_option maxRecDepth 100000 in
set_option maxHeartbeats 1600000 in
theorem weigh10_any (ao : Option Addr) (l : List Cx) (cap m : Nat) (w : World) (ha : XSees w ao l) (hm : m ≤ 500) (hl : l.length ≤ 140737488355328) (hw : ∀ c ∈ l, wtX c ≤ 562949953421312) :
    Calls Try.prog 25 #[.slice ao l.length cap, .int .i64 m] w fun e w' => (∃ z : Nat, e = .returned (.int .i64 z) ∧ z ≤ 1000000000000000 ∧ (z ≤ m → l.length ≤ m ∧ wtXs l ≤ 20 * m)) ∧ Below w.heap.size w w' := by
  go_enter Try.func25, Try.ntmps25
  go_wp2
  go_loopw [5, 10] (fun s5 s10 wr => ∃ i z : Nat, i ≤ l.length ∧ s5 = .int .i64 z ∧ s10 = .int .i64 i ∧ i ≤ z ∧ z ≤ m ∧ wtXs (l.take i) ≤ 20 * z ∧ Below w.heap.size w wr) (fun _ s10 _ => l.length - (intOf s10).toNat)
  case atStart => exact ⟨0, 0, by omega, rfl, rfl, by omega, by omega, by simp [wtXs], Below.refl _ _⟩
  case round =>
    obtain ⟨i, z, hi, rfl, rfl, hiz, hz, hwz, hbr⟩ := hrel
    rcases Nat.lt_or_ge i l.length with hlt | hge
    · have hc : l[i]? = some l[i] := List.getElem?_eq_getElem hlt
      have hcw := hw l[i] (List.getElem_mem hlt)
      have hst : wtXs (l.take (i + 1)) = wtXs (l.take i) + wtX l[i] := by
        rw [takeX_succ hc]
        unfold wtXs
        rw [List.map_append, List.sum_append]
        simp
      obtain ⟨b1, o1, rfl, h1⟩ := (ha.below hbr (Nat.le_refl _)) i _ hc
      generalize l[i] = c at *
      obtain ⟨⟨table, part, row, col⟩, ⟨time, dead, loc, kind, num, s⟩⟩ := c
      obtain ⟨k0, k1, k2, k3, k4, k5, k6, k7, k8, k9⟩ := h1
      simp only at k0 k1 k2 k3 k4 k5 k6 k7 k8 k9
      unfold wtX at hcw hst
      simp only at hcw hst
      have hb2 : Below w.heap.size w (wr.alloc (.cells (Cx.a ⟨⟨table, part, row, col⟩, ⟨time, dead, loc, kind, num, s⟩⟩) 39)) := hbr.alloc hbr.size _
      have Hst : Hid (wtXs (l.take (i + 1)) = wtXs (l.take i) + (table.size + part.size + col.size + s.size)) := hst
      clear hc ha hst hw
      have hsum : (table.size : Int) + part.size + col.size + s.size ≤ 562949953421312 := by omega
      by_cases hbig : z + (1 + (table.size + part.size + col.size + s.size) / 20) ≤ m
      · have hq : ¬ ((m : Int) < (z : Int) + (1 + ((table.size : Int) + part.size + col.size + s.size) / 20)) := by omega
        go_wp2
        go_roundw
        case rel =>
          refine ⟨i + 1, z + (1 + (table.size + part.size + col.size + s.size) / 20), by omega, ?_, by go_num, by omega, hbig, ?_, hb2⟩
          · congr 1
          · rw [Hst.out]
            omega
        case measure => simp [intOf]; omega
      · have hq : ((m : Int) < (z : Int) + (1 + ((table.size : Int) + part.size + col.size + s.size) / 20)) := by omega
        go_wp2
        go_ret
        refine ⟨⟨z + (1 + (table.size + part.size + col.size + s.size) / 20), ret_int (by omega), by omega, fun h => absurd h hbig⟩, hb2⟩
    · obtain rfl : i = l.length := by omega
      rw [List.take_length] at hwz
      clear ha hw
      go_wp2
      go_ret
      exact ⟨⟨z, rfl, by omega, fun _ => ⟨by omega, by omega⟩⟩, hbr⟩
set_option maxRecDepth 100000 in
set_option maxHeartbeats 1000000 in
theorem few_any (lo : Option Addr) (vs : List Lv) (lcap : Nat) (w : World) (hs : LSees w lo vs) (hin : ∀ v ∈ vs, XSees w v.ao v.l) (hl : vs.length ≤ 1048576) (hll : ∀ v ∈ vs, v.l.length ≤ 1048576 ∧ ∀ c ∈ v.l, wtX c ≤ 562949953421312) :
    Calls Try.prog 9 #[.slice lo vs.length lcap] w fun e w' => (∃ b, e = .returned (.bool b) ∧ (b = true → vs.length ≤ 400)) ∧ Below w.heap.size w w' := by
  have hlz : (vs.length : Int) ≤ 1048576 := by omega
  go_enter Try.func9, Try.ntmps9
  go_wp2_with fail
  go_loopw [3, 8] (fun s3 s8 wr => ∃ i z : Nat, i ≤ vs.length ∧ s3 = .int .i64 z ∧ s8 = .int .i64 i ∧ i ≤ z ∧ z ≤ 400 ∧ Below w.heap.size w wr) (fun _ s8 _ => vs.length - (intOf s8).toNat)
  case atStart => exact ⟨0, 0, by omega, rfl, rfl, by omega, by omega, Below.refl _ _⟩
  case round =>
    obtain ⟨i, z, hi, rfl, rfl, hiz, hz, hB⟩ := hrel
    rcases Nat.lt_or_ge i vs.length with hlt | hge
    · obtain ⟨x, hx⟩ : ∃ x, vs[i]? = some x := ⟨_, List.getElem?_eq_getElem hlt⟩
      obtain ⟨b, off, rfl, hc⟩ := (hs.below hB (Nat.le_refl _)) i x hx
      have hxm := List.mem_of_getElem? hx
      have hkz : (i : Int) < (vs.length : Int) := by omega
      have WG : Hid (Calls Try.prog 25 #[x.s, .int .i64 300] wr fun e w' => (∃ z : Nat, e = .returned (.int .i64 z) ∧ z ≤ 1000000000000000) ∧ Below wr.heap.size wr w') :=
        (weigh10_any x.ao x.l x.cap 300 wr ((hin x hxm).below hB (Nat.le_refl _)) (by omega) (by have := (hll x hxm).1; omega) (hll x hxm).2).mono fun e w' ⟨⟨z, h1, h2, _⟩, h3⟩ => ⟨⟨z, h1, h2⟩, h3⟩
      obtain ⟨xv, hxv⟩ : ∃ xv, xv = x.s := ⟨_, rfl⟩
      rw [← hxv] at WG hc
      have hxs : ∃ xa xn xc, xv = .slice xa xn xc := ⟨_, _, _, hxv⟩
      obtain ⟨xa, xn, xc, rfl⟩ := hxs
      clear hs hin hll hx hxm hxv
      go_wp2_with fail
      refine WG.out.mono ?_
      rintro e u ⟨⟨q, rfl, hq⟩, hu⟩
      have hBu := hB.trans (hu.mono hB.size)
      have hqz : (q : Int) ≤ 1000000000000000 := by omega
      have hzz : (z : Int) ≤ 400 := by omega
      clear WG hc
      by_cases hbig : z + (1 + q) ≤ 400
      · have d1 : ¬ (400 : Int) < (z : Int) + (1 + (q : Int)) := by omega
        go_wp2_with fail
        go_roundw
        case rel => exact ⟨i + 1, z + (1 + q), by omega, by go_num, by go_num, by omega, hbig, hBu⟩
        case measure => simp [intOf]; omega
      · have d1 : (400 : Int) < (z : Int) + (1 + (q : Int)) := by omega
        go_wp2_with fail
        go_ret
        exact ⟨⟨false, rfl, fun h => by cases h⟩, hBu⟩
    · obtain rfl : i = vs.length := by omega
      have hge' : ¬ (vs.length : Int) < (vs.length : Int) := by omega
      clear hs hin hll
      go_wp2_with fail
      go_ret
      exact ⟨.inr ⟨rfl, by omega⟩, hB⟩
def at10 (col : ByteArray) (n : Int) : Cx := ⟨⟨⟨#[116]⟩, ⟨#[120]⟩, 0, col⟩, ⟨n, false, 0, 1, n, ⟨#[]⟩⟩⟩
set_option maxRecDepth 100000 in
theorem at10_any (s : ByteArray) (n : Int) (w : World) : Calls Try.prog 26 #[.string s, .int .i64 n] w fun x w' => x = .returned (at10 s n).val ∧ Below w.heap.size w w' := by
  simp only [at10, Cx.val, Cx.a]
  go_enter Try.func26, Try.ntmps26
  go_wp2_with fail
  refine bodyPost_ret (v := .agg #[.string ⟨#[116]⟩, .string ⟨#[120]⟩, .int .i64 0, .string s, .int .i64 n, .bool false, .int .i64 0, .int .i64 1, .int .i64 n, .string ⟨#[]⟩]) (results_cell_row Try.results26 _ _ w.heap.size 39 _ _ _ rfl (by exact heap_alloc_new w _) Try.underlying39 rfl (by kernel_rfl)) rfl ?_
  exact ⟨rfl, (Below.refl _ _).alloc (Nat.le_refl _) _⟩
def eA : List Cx := [at10 ⟨#[97]⟩ 1, at10 ⟨#[98]⟩ 2]
def eB : List Cx := [at10 ⟨#[98]⟩ 3, at10 ⟨#[99]⟩ 1]
def eC : List Cx := [at10 ⟨#[97]⟩ 1, at10 ⟨#[98]⟩ 3, at10 ⟨#[99]⟩ 1]
theorem eA_nrm : nrm eA = eA := by kernel_rfl
theorem eB_nrm : nrm eB = eB := by kernel_rfl
theorem eC_nrm : nrm (eA ++ eB) = eC := by kernel_rfl
theorem e_kx (a b : UInt8) (n m : Int) : kx (at10 ⟨#[a]⟩ n) (at10 ⟨#[b]⟩ m) = cb [a] [b] := by
  show kc (Kb.ky ⟨⟨#[116]⟩, ⟨#[120]⟩, 0, ⟨#[a]⟩⟩) (Kb.ky ⟨⟨#[116]⟩, ⟨#[120]⟩, 0, ⟨#[b]⟩⟩) = _
  rfl
theorem eBA : lck eB eA = [at10 ⟨#[97]⟩ 1] := by
  have h1 : dw (at10 ⟨#[97]⟩ 1) eB = eB := by kernel_rfl
  have h2 : dw (at10 ⟨#[98]⟩ 2) eB = eB := by kernel_rfl
  have c1 : cov (dw (at10 ⟨#[97]⟩ 1) eB) (at10 ⟨#[97]⟩ 1) = false := by
    rw [h1]
    exact cov_other fun e => by
      have : kx (at10 ⟨#[98]⟩ 3) (at10 ⟨#[97]⟩ 1) = 0 := (kx_z _ _).2 e
      exact absurd this (by rw [e_kx]; decide)
  have c2 : cov (dw (at10 ⟨#[98]⟩ 2) eB) (at10 ⟨#[98]⟩ 2) = true := by
    rw [h2]
    exact (cov_same (x := at10 ⟨#[98]⟩ 3) (c := at10 ⟨#[98]⟩ 2) (r := [at10 ⟨#[99]⟩ 1]) rfl).trans (by kernel_rfl)
  unfold lck eA
  simp [c1, c2]
theorem eAA : lck eA eA = [] := by
  have h1 : dw (at10 ⟨#[97]⟩ 1) eA = eA := by kernel_rfl
  have h2 : dw (at10 ⟨#[98]⟩ 2) eA = [at10 ⟨#[98]⟩ 2] := by kernel_rfl
  have c1 : cov (dw (at10 ⟨#[97]⟩ 1) eA) (at10 ⟨#[97]⟩ 1) = true := by
    rw [h1]
    exact (cov_same (x := at10 ⟨#[97]⟩ 1) (c := at10 ⟨#[97]⟩ 1) (r := [at10 ⟨#[98]⟩ 2]) rfl).trans (by kernel_rfl)
  have c2 : cov (dw (at10 ⟨#[98]⟩ 2) eA) (at10 ⟨#[98]⟩ 2) = true := by
    rw [h2]
    exact (cov_same (x := at10 ⟨#[98]⟩ 2) (c := at10 ⟨#[98]⟩ 2) (r := []) rfl).trans (by kernel_rfl)
  unfold lck
  show (([at10 ⟨#[97]⟩ 1, at10 ⟨#[98]⟩ 2] : List Cx).filter (fun c => !cov (dw c eA) c)) = []
  simp [c1, c2]
theorem xsees_lit (l : List Cx) (w : World) : XSees (w.alloc (.cells (l.flatMap xs10).toArray 39)) (some ⟨w.heap.size, 0, none⟩) l := fun i c hc => by
  have hg : (w.alloc (.cells (l.flatMap xs10).toArray 39)).heap[w.heap.size]? = some (.cells (l.flatMap xs10).toArray 39) := heap_alloc_new w _
  have at' : ∀ j v, (xs10 c)[j]? = some v → (w.alloc (.cells (l.flatMap xs10).toArray 39)).cell? ⟨w.heap.size, 0 + i * 10 + j, none⟩ = some v := fun j v hv => by
    simp only [World.cell?, hg]
    have := flat_at xs10_len l i j c v hc hv
    rw [Nat.zero_add]
    simpa using this
  exact ⟨w.heap.size, 0, rfl, at' 0 _ rfl, at' 1 _ rfl, at' 2 _ rfl, at' 3 _ rfl, at' 4 _ rfl, at' 5 _ rfl, at' 6 _ rfl, at' 7 _ rfl, at' 8 _ rfl, at' 9 _ rfl⟩
theorem lsees2 (w : World) (x y : Lv) : LSees (w.alloc (.cells #[x.s, y.s] 25)) (some ⟨w.heap.size, 0, none⟩) [x, y] := fun i v hv => by
  have hg : (w.alloc (.cells #[x.s, y.s] 25)).heap[w.heap.size]? = some (.cells #[x.s, y.s] 25) := heap_alloc_new w _
  refine ⟨w.heap.size, 0, rfl, ?_⟩
  simp only [World.cell?, hg]
  rcases i with _ | _ | i
  · cases hv; rfl
  · cases hv; rfl
  · simp at hv
set_option maxRecDepth 100000 in
set_option maxHeartbeats 2000000 in
theorem lives10_any (w : World) : Calls Try.prog 10 #[] w fun e w' => e = .returned (.bool true) ∧ Below w.heap.size w w' := by
  have AT : Hid (∀ (s : ByteArray) (n : Int) (w : World), Calls Try.prog 26 #[.string s, .int .i64 n] w fun x w' => x = .returned (.agg #[.string ⟨#[116]⟩, .string ⟨#[120]⟩, .int .i64 0, .string s, .int .i64 n, .bool false, .int .i64 0, .int .i64 1, .int .i64 n, .string ⟨#[]⟩]) ∧ Below w.heap.size w w') := at10_any
  go_enter Try.func10, Try.ntmps10
  go_wp2_with fail
  refine (AT.out _ _ _).mono ?_
  rintro e u1 ⟨rfl, b1⟩
  go_wp2_with fail
  refine (AT.out _ _ _).mono ?_
  rintro e u2 ⟨rfl, b2⟩
  have B2 : Below w.heap.size w u2 := b1.trans (b2.mono b1.size)
  clear b1 b2
  have hA3 : XSees (u2.alloc (.cells #[.string ⟨#[116]⟩, .string ⟨#[120]⟩, .int .i64 0, .string ⟨#[97]⟩, .int .i64 1, .bool false, .int .i64 0, .int .i64 1, .int .i64 1, .string ⟨#[]⟩, .string ⟨#[116]⟩, .string ⟨#[120]⟩, .int .i64 0, .string ⟨#[98]⟩, .int .i64 2, .bool false, .int .i64 0, .int .i64 1, .int .i64 2, .string ⟨#[]⟩] 39)) (some ⟨u2.heap.size, 0, none⟩) eA := xsees_lit eA u2
  have B3 : Below w.heap.size w (u2.alloc (.cells #[.string ⟨#[116]⟩, .string ⟨#[120]⟩, .int .i64 0, .string ⟨#[97]⟩, .int .i64 1, .bool false, .int .i64 0, .int .i64 1, .int .i64 1, .string ⟨#[]⟩, .string ⟨#[116]⟩, .string ⟨#[120]⟩, .int .i64 0, .string ⟨#[98]⟩, .int .i64 2, .bool false, .int .i64 0, .int .i64 1, .int .i64 2, .string ⟨#[]⟩] 39)) := B2.alloc B2.size _
  go_wp2_with fail
  generalize u2.alloc (.cells #[.string ⟨#[116]⟩, .string ⟨#[120]⟩, .int .i64 0, .string ⟨#[97]⟩, .int .i64 1, .bool false, .int .i64 0, .int .i64 1, .int .i64 1, .string ⟨#[]⟩, .string ⟨#[116]⟩, .string ⟨#[120]⟩, .int .i64 0, .string ⟨#[98]⟩, .int .i64 2, .bool false, .int .i64 0, .int .i64 1, .int .i64 2, .string ⟨#[]⟩] 39) = w3 at *
  refine (AT.out _ _ _).mono ?_
  rintro e u4 ⟨rfl, b4⟩
  go_wp2_with fail
  refine (AT.out _ _ _).mono ?_
  rintro e u5 ⟨rfl, b5⟩
  have b35 : Below w3.heap.size w3 u5 := b4.trans (b5.mono b4.size)
  have B5 := B3.trans (b35.mono B3.size)
  have hA5 := hA3.below b35 (Nat.le_refl _)
  clear b4 b5 b35 hA3 B3 B2
  have hA6 : XSees (u5.alloc (.cells #[.string ⟨#[116]⟩, .string ⟨#[120]⟩, .int .i64 0, .string ⟨#[98]⟩, .int .i64 3, .bool false, .int .i64 0, .int .i64 1, .int .i64 3, .string ⟨#[]⟩, .string ⟨#[116]⟩, .string ⟨#[120]⟩, .int .i64 0, .string ⟨#[99]⟩, .int .i64 1, .bool false, .int .i64 0, .int .i64 1, .int .i64 1, .string ⟨#[]⟩] 39)) (some ⟨u2.heap.size, 0, none⟩) eA := hA5.below ((Below.refl _ _).alloc (Nat.le_refl _) _) (Nat.le_refl _)
  have hB6 : XSees (u5.alloc (.cells #[.string ⟨#[116]⟩, .string ⟨#[120]⟩, .int .i64 0, .string ⟨#[98]⟩, .int .i64 3, .bool false, .int .i64 0, .int .i64 1, .int .i64 3, .string ⟨#[]⟩, .string ⟨#[116]⟩, .string ⟨#[120]⟩, .int .i64 0, .string ⟨#[99]⟩, .int .i64 1, .bool false, .int .i64 0, .int .i64 1, .int .i64 1, .string ⟨#[]⟩] 39)) (some ⟨u5.heap.size, 0, none⟩) eB := xsees_lit eB u5
  have B6 : Below w.heap.size w (u5.alloc (.cells #[.string ⟨#[116]⟩, .string ⟨#[120]⟩, .int .i64 0, .string ⟨#[98]⟩, .int .i64 3, .bool false, .int .i64 0, .int .i64 1, .int .i64 3, .string ⟨#[]⟩, .string ⟨#[116]⟩, .string ⟨#[120]⟩, .int .i64 0, .string ⟨#[99]⟩, .int .i64 1, .bool false, .int .i64 0, .int .i64 1, .int .i64 1, .string ⟨#[]⟩] 39)) := B5.alloc B5.size _
  obtain ⟨w6, hw6⟩ : ∃ w6, w6 = u5.alloc (.cells #[.string ⟨#[116]⟩, .string ⟨#[120]⟩, .int .i64 0, .string ⟨#[98]⟩, .int .i64 3, .bool false, .int .i64 0, .int .i64 1, .int .i64 3, .string ⟨#[]⟩, .string ⟨#[116]⟩, .string ⟨#[120]⟩, .int .i64 0, .string ⟨#[99]⟩, .int .i64 1, .bool false, .int .i64 0, .int .i64 1, .int .i64 1, .string ⟨#[]⟩] 39) := ⟨_, rfl⟩
  rw [← hw6] at hA6 hB6 B6
  have hs6 : w6.heap.size = u5.heap.size + 1 := by rw [hw6]; simp
  have h67 : Below w6.heap.size w6 (w6.alloc (.cells #[.slice (some ⟨u2.heap.size, 0, none⟩) 2 2, .slice (some ⟨u5.heap.size, 0, none⟩) 2 2] 25)) := (Below.refl _ _).alloc (Nat.le_refl _) _
  have AL : Hid (Calls Try.prog 15 #[.slice (some ⟨w6.heap.size, 0, none⟩) 2 2] (w6.alloc (.cells #[.slice (some ⟨u2.heap.size, 0, none⟩) 2 2, .slice (some ⟨u5.heap.size, 0, none⟩) 2 2] 25)) fun e w' => ∃ v, e = .returned v ∧ w'.ownsRow (w6.alloc (.cells #[.slice (some ⟨u2.heap.size, 0, none⟩) 2 2, .slice (some ⟨u5.heap.size, 0, none⟩) 2 2] 25)).heap.size 39 10 v eC.length (eC.flatMap xs10) ∧ Below (w6.alloc (.cells #[.slice (some ⟨u2.heap.size, 0, none⟩) 2 2, .slice (some ⟨u5.heap.size, 0, none⟩) 2 2] 25)).heap.size (w6.alloc (.cells #[.slice (some ⟨u2.heap.size, 0, none⟩) 2 2, .slice (some ⟨u5.heap.size, 0, none⟩) 2 2] 25)) w') := by
    have h := all_anyM (some ⟨w6.heap.size, 0, none⟩) [⟨some ⟨u2.heap.size, 0, none⟩, 2, eA⟩, ⟨some ⟨u5.heap.size, 0, none⟩, 2, eB⟩] 2 (w6.alloc (.cells #[.slice (some ⟨u2.heap.size, 0, none⟩) 2 2, .slice (some ⟨u5.heap.size, 0, none⟩) 2 2] 25)) (lsees2 w6 ⟨some ⟨u2.heap.size, 0, none⟩, 2, eA⟩ ⟨some ⟨u5.heap.size, 0, none⟩, 2, eB⟩) (fun v hv => by
      simp only [List.mem_cons, List.not_mem_nil, or_false] at hv
      rcases hv with rfl | rfl
      · exact hA6.below h67 (Nat.le_refl _)
      · exact hB6.below h67 (Nat.le_refl _)) (by simp) (fun v hv => by
      simp only [List.mem_cons, List.not_mem_nil, or_false] at hv
      rcases hv with rfl | rfl
      · show eA.length ≤ 1000000; decide
      · show eB.length ≤ 1000000; decide) (by simp only [List.map_cons, List.map_nil, eA_nrm, eB_nrm]; decide)
    simp only [List.map_cons, List.map_nil, eA_nrm, eB_nrm, List.flatten_cons, List.flatten_nil, List.append_nil, eC_nrm] at h
    exact h
  have B7 : Below w.heap.size w (w6.alloc (.cells #[.slice (some ⟨u2.heap.size, 0, none⟩) 2 2, .slice (some ⟨u5.heap.size, 0, none⟩) 2 2] 25)) := B6.alloc B6.size _
  have hA7 := hA6.below h67 (Nat.le_refl _)
  have hB7 := hB6.below h67 (Nat.le_refl _)
  rw [hw6] at AL hA7 hB7 B7
  rw [World.size_alloc] at AL
  clear hA6 hB6 B6 h67 hs6 hw6 hA5 B5
  go_wp2_with fail
  refine AL.out.mono ?_
  clear AL
  generalize ((u5.alloc (.cells #[.string ⟨#[116]⟩, .string ⟨#[120]⟩, .int .i64 0, .string ⟨#[98]⟩, .int .i64 3, .bool false, .int .i64 0, .int .i64 1, .int .i64 3, .string ⟨#[]⟩, .string ⟨#[116]⟩, .string ⟨#[120]⟩, .int .i64 0, .string ⟨#[99]⟩, .int .i64 1, .bool false, .int .i64 0, .int .i64 1, .int .i64 1, .string ⟨#[]⟩] 39)).alloc (.cells #[.slice (some ⟨u2.heap.size, 0, none⟩) 2 2, .slice (some ⟨u5.heap.size, 0, none⟩) 2 2] 25)) = w7 at *
  rintro e w8 ⟨v8, rfl, ho8, b8⟩
  obtain ⟨a8, c8, rfl⟩ := ownsM_shape ho8
  have hC8 := (owns_see ho8).1
  have hA8 := hA7.below b8 (Nat.le_refl _)
  have hB8 := hB7.below b8 (Nat.le_refl _)
  have B8 := B7.trans (b8.mono B7.size)
  clear ho8 b8 hA7 hB7 B7
  go_wp2_with fail
  refine (AT.out _ _ _).mono ?_
  rintro e u9 ⟨rfl, b9⟩
  go_wp2_with fail
  refine (AT.out _ _ _).mono ?_
  rintro e u10 ⟨rfl, b10⟩
  go_wp2_with fail
  refine (AT.out _ _ _).mono ?_
  rintro e u11 ⟨rfl, b11⟩
  have b8' : Below w8.heap.size w8 u11 := (b9.trans (b10.mono b9.size)).trans (b11.mono (b9.trans (b10.mono b9.size)).size)
  clear b9 b10 b11
  have hst : Below u11.heap.size u11 (u11.alloc (.cells #[.string ⟨#[116]⟩, .string ⟨#[120]⟩, .int .i64 0, .string ⟨#[97]⟩, .int .i64 1, .bool false, .int .i64 0, .int .i64 1, .int .i64 1, .string ⟨#[]⟩, .string ⟨#[116]⟩, .string ⟨#[120]⟩, .int .i64 0, .string ⟨#[98]⟩, .int .i64 3, .bool false, .int .i64 0, .int .i64 1, .int .i64 3, .string ⟨#[]⟩, .string ⟨#[116]⟩, .string ⟨#[120]⟩, .int .i64 0, .string ⟨#[99]⟩, .int .i64 1, .bool false, .int .i64 0, .int .i64 1, .int .i64 1, .string ⟨#[]⟩] 39)) := (Below.refl _ _).alloc (Nat.le_refl _) _
  have b812 : Below w8.heap.size w8 (u11.alloc (.cells #[.string ⟨#[116]⟩, .string ⟨#[120]⟩, .int .i64 0, .string ⟨#[97]⟩, .int .i64 1, .bool false, .int .i64 0, .int .i64 1, .int .i64 1, .string ⟨#[]⟩, .string ⟨#[116]⟩, .string ⟨#[120]⟩, .int .i64 0, .string ⟨#[98]⟩, .int .i64 3, .bool false, .int .i64 0, .int .i64 1, .int .i64 3, .string ⟨#[]⟩, .string ⟨#[116]⟩, .string ⟨#[120]⟩, .int .i64 0, .string ⟨#[99]⟩, .int .i64 1, .bool false, .int .i64 0, .int .i64 1, .int .i64 1, .string ⟨#[]⟩] 39)) := b8'.trans (hst.mono b8'.size)
  have hD12 : XSees (u11.alloc (.cells #[.string ⟨#[116]⟩, .string ⟨#[120]⟩, .int .i64 0, .string ⟨#[97]⟩, .int .i64 1, .bool false, .int .i64 0, .int .i64 1, .int .i64 1, .string ⟨#[]⟩, .string ⟨#[116]⟩, .string ⟨#[120]⟩, .int .i64 0, .string ⟨#[98]⟩, .int .i64 3, .bool false, .int .i64 0, .int .i64 1, .int .i64 3, .string ⟨#[]⟩, .string ⟨#[116]⟩, .string ⟨#[120]⟩, .int .i64 0, .string ⟨#[99]⟩, .int .i64 1, .bool false, .int .i64 0, .int .i64 1, .int .i64 1, .string ⟨#[]⟩] 39)) (some ⟨u11.heap.size, 0, none⟩) eC := xsees_lit eC u11
  have hC12 := hC8.below b812 (Nat.le_refl _)
  have hA12 := hA8.below b812 (Nat.le_refl _)
  have hB12 := hB8.below b812 (Nat.le_refl _)
  have B12 := B8.trans (b812.mono B8.size)
  have LK1 : Hid (Calls Try.prog 14 #[.slice a8 3 c8, .slice (some ⟨u11.heap.size, 0, none⟩) 3 3] (u11.alloc (.cells #[.string ⟨#[116]⟩, .string ⟨#[120]⟩, .int .i64 0, .string ⟨#[97]⟩, .int .i64 1, .bool false, .int .i64 0, .int .i64 1, .int .i64 1, .string ⟨#[]⟩, .string ⟨#[116]⟩, .string ⟨#[120]⟩, .int .i64 0, .string ⟨#[98]⟩, .int .i64 3, .bool false, .int .i64 0, .int .i64 1, .int .i64 3, .string ⟨#[]⟩, .string ⟨#[116]⟩, .string ⟨#[120]⟩, .int .i64 0, .string ⟨#[99]⟩, .int .i64 1, .bool false, .int .i64 0, .int .i64 1, .int .i64 1, .string ⟨#[]⟩] 39)) fun e w' => e = .returned (.bool true) ∧ Below (u11.alloc (.cells #[.string ⟨#[116]⟩, .string ⟨#[120]⟩, .int .i64 0, .string ⟨#[97]⟩, .int .i64 1, .bool false, .int .i64 0, .int .i64 1, .int .i64 1, .string ⟨#[]⟩, .string ⟨#[116]⟩, .string ⟨#[120]⟩, .int .i64 0, .string ⟨#[98]⟩, .int .i64 3, .bool false, .int .i64 0, .int .i64 1, .int .i64 3, .string ⟨#[]⟩, .string ⟨#[116]⟩, .string ⟨#[120]⟩, .int .i64 0, .string ⟨#[99]⟩, .int .i64 1, .bool false, .int .i64 0, .int .i64 1, .int .i64 1, .string ⟨#[]⟩] 39)).heap.size (u11.alloc (.cells #[.string ⟨#[116]⟩, .string ⟨#[120]⟩, .int .i64 0, .string ⟨#[97]⟩, .int .i64 1, .bool false, .int .i64 0, .int .i64 1, .int .i64 1, .string ⟨#[]⟩, .string ⟨#[116]⟩, .string ⟨#[120]⟩, .int .i64 0, .string ⟨#[98]⟩, .int .i64 3, .bool false, .int .i64 0, .int .i64 1, .int .i64 3, .string ⟨#[]⟩, .string ⟨#[116]⟩, .string ⟨#[120]⟩, .int .i64 0, .string ⟨#[99]⟩, .int .i64 1, .bool false, .int .i64 0, .int .i64 1, .int .i64 1, .string ⟨#[]⟩] 39)) w') := likeX_same a8 _ eC c8 3 _ hC12 hD12 (by decide)
  clear hC12 hD12 b812 hst b8' hA8 hB8 hC8 B8
  go_wp2_with fail
  generalize (u11.alloc (.cells #[.string ⟨#[116]⟩, .string ⟨#[120]⟩, .int .i64 0, .string ⟨#[97]⟩, .int .i64 1, .bool false, .int .i64 0, .int .i64 1, .int .i64 1, .string ⟨#[]⟩, .string ⟨#[116]⟩, .string ⟨#[120]⟩, .int .i64 0, .string ⟨#[98]⟩, .int .i64 3, .bool false, .int .i64 0, .int .i64 1, .int .i64 3, .string ⟨#[]⟩, .string ⟨#[116]⟩, .string ⟨#[120]⟩, .int .i64 0, .string ⟨#[99]⟩, .int .i64 1, .bool false, .int .i64 0, .int .i64 1, .int .i64 1, .string ⟨#[]⟩] 39)) = w12 at *
  refine LK1.out.mono ?_
  clear LK1
  rintro e w13 ⟨rfl, b13⟩
  have hA13 := hA12.below b13 (Nat.le_refl _)
  have hB13 := hB12.below b13 (Nat.le_refl _)
  have B13 := B12.trans (b13.mono B12.size)
  have SB : Hid (Calls Try.prog 17 #[.slice (some ⟨u2.heap.size, 0, none⟩) 2 2, .slice (some ⟨u5.heap.size, 0, none⟩) 2 2] w13 fun e w' => ∃ v, e = .returned v ∧ w'.ownsRow w13.heap.size 39 10 v 1 (([at10 ⟨#[97]⟩ 1] : List Cx).flatMap xs10) ∧ Below w13.heap.size w13 w') := by
    have h := sub_any (some ⟨u2.heap.size, 0, none⟩) (some ⟨u5.heap.size, 0, none⟩) eA eB 2 2 w13 hA13 hB13 (by decide) (by decide)
    rw [eA_nrm, eB_nrm, eBA] at h
    exact h
  clear b13 hA12 hB12 B12
  go_wp2_with fail
  refine SB.out.mono ?_
  clear SB
  rintro e w14 ⟨v14, rfl, ho14, b14⟩
  obtain ⟨a14, c14, rfl⟩ := ownsM_shape ho14
  have hS14 : XSees w14 a14 [at10 ⟨#[97]⟩ 1] := (owns_see (l := [at10 ⟨#[97]⟩ 1]) ho14).1
  have hA14 := hA13.below b14 (Nat.le_refl _)
  have hB14 := hB13.below b14 (Nat.le_refl _)
  have B14 := B13.trans (b14.mono B13.size)
  clear ho14 b14 hA13 hB13 B13
  go_wp2_with fail
  refine (AT.out _ _ _).mono ?_
  rintro e u15 ⟨rfl, b15⟩
  have hst : Below u15.heap.size u15 (u15.alloc (.cells #[.string ⟨#[116]⟩, .string ⟨#[120]⟩, .int .i64 0, .string ⟨#[97]⟩, .int .i64 1, .bool false, .int .i64 0, .int .i64 1, .int .i64 1, .string ⟨#[]⟩] 39)) := (Below.refl _ _).alloc (Nat.le_refl _) _
  have b16 : Below w14.heap.size w14 (u15.alloc (.cells #[.string ⟨#[116]⟩, .string ⟨#[120]⟩, .int .i64 0, .string ⟨#[97]⟩, .int .i64 1, .bool false, .int .i64 0, .int .i64 1, .int .i64 1, .string ⟨#[]⟩] 39)) := b15.trans (hst.mono b15.size)
  have hD16 : XSees (u15.alloc (.cells #[.string ⟨#[116]⟩, .string ⟨#[120]⟩, .int .i64 0, .string ⟨#[97]⟩, .int .i64 1, .bool false, .int .i64 0, .int .i64 1, .int .i64 1, .string ⟨#[]⟩] 39)) (some ⟨u15.heap.size, 0, none⟩) [at10 ⟨#[97]⟩ 1] := xsees_lit [at10 ⟨#[97]⟩ 1] u15
  have hS16 := hS14.below b16 (Nat.le_refl _)
  have hA16 := hA14.below b16 (Nat.le_refl _)
  have hB16 := hB14.below b16 (Nat.le_refl _)
  have B16 := B14.trans (b16.mono B14.size)
  have LK2 : Hid (Calls Try.prog 14 #[.slice a14 1 c14, .slice (some ⟨u15.heap.size, 0, none⟩) 1 1] (u15.alloc (.cells #[.string ⟨#[116]⟩, .string ⟨#[120]⟩, .int .i64 0, .string ⟨#[97]⟩, .int .i64 1, .bool false, .int .i64 0, .int .i64 1, .int .i64 1, .string ⟨#[]⟩] 39)) fun e w' => e = .returned (.bool true) ∧ Below (u15.alloc (.cells #[.string ⟨#[116]⟩, .string ⟨#[120]⟩, .int .i64 0, .string ⟨#[97]⟩, .int .i64 1, .bool false, .int .i64 0, .int .i64 1, .int .i64 1, .string ⟨#[]⟩] 39)).heap.size (u15.alloc (.cells #[.string ⟨#[116]⟩, .string ⟨#[120]⟩, .int .i64 0, .string ⟨#[97]⟩, .int .i64 1, .bool false, .int .i64 0, .int .i64 1, .int .i64 1, .string ⟨#[]⟩] 39)) w') := likeX_same a14 _ [at10 ⟨#[97]⟩ 1] c14 1 _ hS16 hD16 (by decide)
  clear hS16 hD16 b15 b16 hst hS14 hA14 hB14 B14
  go_wp2_with fail
  generalize (u15.alloc (.cells #[.string ⟨#[116]⟩, .string ⟨#[120]⟩, .int .i64 0, .string ⟨#[97]⟩, .int .i64 1, .bool false, .int .i64 0, .int .i64 1, .int .i64 1, .string ⟨#[]⟩] 39)) = w16 at *
  refine LK2.out.mono ?_
  clear LK2
  rintro e w17 ⟨rfl, b17⟩
  have hA17 := hA16.below b17 (Nat.le_refl _)
  have hB17 := hB16.below b17 (Nat.le_refl _)
  have B17 := B16.trans (b17.mono B16.size)
  have O1 : Hid (Calls Try.prog 18 #[.slice (some ⟨u2.heap.size, 0, none⟩) 2 2, .slice (some ⟨u5.heap.size, 0, none⟩) 2 2] w17 fun e w' => e = .returned (.bool false) ∧ Below w17.heap.size w17 w') := by
    have h := over_any (some ⟨u2.heap.size, 0, none⟩) (some ⟨u5.heap.size, 0, none⟩) eA eB 2 2 w17 hA17 hB17 (by decide) (by decide)
    rw [eA_nrm, eB_nrm, eBA] at h
    exact h
  clear b17 hA16 hB16 B16
  go_wp2_with fail
  refine O1.out.mono ?_
  clear O1
  rintro e w18 ⟨rfl, b18⟩
  have hA18 := hA17.below b18 (Nat.le_refl _)
  have B18 := B17.trans (b18.mono B17.size)
  have O2 : Hid (Calls Try.prog 18 #[.slice (some ⟨u2.heap.size, 0, none⟩) 2 2, .slice (some ⟨u2.heap.size, 0, none⟩) 2 2] w18 fun e w' => e = .returned (.bool true) ∧ Below w18.heap.size w18 w') := by
    have h := over_any (some ⟨u2.heap.size, 0, none⟩) (some ⟨u2.heap.size, 0, none⟩) eA eA 2 2 w18 hA18 hA18 (by decide) (by decide)
    rw [eA_nrm, eAA] at h
    exact h
  clear b18 hA17 hB17 B17 hA18
  go_wp2_with fail
  refine O2.out.mono ?_
  rintro e w19 ⟨rfl, b19⟩
  go_wp2_with fail
  go_ret
  exact ⟨rfl, B18.trans (b19.mono B18.size)⟩
end Go.Proofs.Ytdpglmgnbhpneaa

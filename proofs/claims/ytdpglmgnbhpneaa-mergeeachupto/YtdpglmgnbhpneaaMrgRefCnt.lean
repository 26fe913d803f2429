/-
  THE DOCUMENT'S Counts (P10.1).
-/
import Derived.Test.YtdpglmgnbhpneaaMrgRefAll
namespace Go.Proofs.Ytdpglmgnbhpneaa
open Go.RowKit

theorem infoI10 : (Try.prog.info? 3).map (fun i => (i.zero, i.size, i.bytes)) = some (some (.int .i64 0), 1, 8) := by kernel_rfl
/-- How many of the lists have the key. -/
noncomputable def cntK (vs : List Lv) (k : Kb) : Nat := (vs.filter fun v => (fnd k v.l).2).length
theorem cntK_succ {vs : List Lv} {j : Nat} {x : Lv} (h : vs[j]? = some x) (k : Kb) : cntK (vs.take (j + 1)) k = cntK (vs.take j) k + (if (fnd k x.l).2 then 1 else 0) := by
  unfold cntK
  rw [List.take_add_one, h, List.filter_append, List.length_append]
  congr 1
  show (List.filter _ [x]).length = _
  by_cases hb : (fnd k x.l).2 = true
  · simp [hb]
  · simp [hb]
theorem cntK_le (vs : List Lv) (k : Kb) : cntK vs k ≤ vs.length := List.length_filter_le _ _
noncomputable def cnts (vs : List Lv) (L : List Cx) : List Value := L.map fun c => .int .i64 ((cntK vs c.k : Nat) : Int)
/-- Numbers of the call's own. -/
structure Gi (w wr : World) (v : Value) (xs : List Value) : Prop where
  row : wr.ownsRow w.heap.size 3 1 v xs.length xs
  bel : Below w.heap.size w wr
theorem Gi.more {w wr u : World} {v : Value} {L : List Value} (h : Gi w wr v L) (hu : Below wr.heap.size wr u) : Gi w u v L := ⟨ownsRow_blk h.row fun g hg => hu.block _ (h.row.lt g hg).2, h.bel.trans (hu.mono h.bel.size)⟩
theorem Gi.add {w u w3 : World} {v v' x : Value} {L : List Value} {o : Obj} (h : Gi w u v L) (ho : w3.ownsRow w.heap.size 3 1 v' (L.length + 1) (L ++ [x])) (hg : Grew (u.alloc o) w3 v v') : Gi w w3 v' (L ++ [x]) := by
  refine ⟨?_, ?_⟩
  · rw [List.length_append]; exact ho
  · have hB2 : Below w.heap.size w (u.alloc o) := h.bel.alloc h.bel.size _
    exact hB2.trans (hg.below hB2.size fun g e => (h.row.lt g e).1)
theorem src_i (w : World) (n : Int) : Src Try.prog 1 27 (.slice (some ⟨w.heap.size, 0, none⟩) 1 1) 1 [.int .i64 n] (w.alloc (.cells #[.int .i64 n] 3)) := by
  refine Src.ofSlice _ Try.underlying27 _ 1 1 _ rfl (fun j u hj => ?_) (fun u hu => ?_)
  · have hg : (w.alloc (.cells #[.int .i64 n] 3)).heap[w.heap.size]? = some (.cells #[.int .i64 n] 3) := heap_alloc_new w _
    rw [Addr.add_lit, Nat.zero_add]
    simp only [World.cell?, hg]
    rcases j with _ | j
    · exact hj
    · simp at hj
  · obtain rfl : u = .int .i64 n := by simpa using hu
    rfl
set_option maxRecDepth 100000 in
set_option maxHeartbeats 2000000 in
theorem rcounts_any (lo : Option Addr) (vs : List Lv) (lcap : Nat) (w : World) (hs : LSees w lo vs) (hin : ∀ v ∈ vs, XSees w v.ao v.l) (hl : vs.length ≤ 1000) (hll : ∀ v ∈ vs, v.l.length ≤ 1000000) (htot : (nfl vs).length ≤ 1000000) :
    Calls Try.prog 12 #[.slice lo vs.length lcap] w fun e w' => ∃ v, e = .returned v ∧ w'.ownsRow w.heap.size 3 1 v (cnts vs (nrm (nfl vs))).length (cnts vs (nrm (nfl vs))) ∧ Below w.heap.size w w' := by
  obtain ⟨i1, hi1, hy0, hy1, hy2⟩ := infoX infoI10
  have hlz : (vs.length : Int) ≤ 1000 := by omega
  have RA : Hid (Calls Try.prog 11 #[.slice lo vs.length lcap] w fun e w' => ∃ v, e = .returned v ∧ w'.ownsRow w.heap.size 39 10 v (nrm (nfl vs)).length ((nrm (nfl vs)).flatMap xs10) ∧ Below w.heap.size w w') := rall_any lo vs lcap w hs hin hl hll htot
  have hnl := nrm_len (nfl vs)
  obtain ⟨A, hA⟩ : ∃ A, A = nrm (nfl vs) := ⟨_, rfl⟩
  rw [← hA] at RA hnl
  rw [← hA]
  have hAz : (A.length : Int) ≤ 1000000 := by omega
  have hAn : A.length ≤ 1000000 := by omega
  have HS0 : Hid (LSees w lo vs) := hs
  have HI0 : Hid (∀ v ∈ vs, XSees w v.ao v.l) := hin
  have HLL : Hid (∀ v ∈ vs, v.l.length ≤ 1000000) := hll
  clear hs hin hll hA hnl
  go_enter Try.func12, Try.ntmps12
  go_wp2_with fail
  refine RA.out.mono ?_
  clear RA
  rintro e w1 ⟨v1, rfl, ho1, hb1⟩
  obtain ⟨aa, ac, rfl⟩ := ownsM_shape ho1
  have sA := (owns_see ho1).1
  have HS1 : Hid (LSees w1 lo vs) := HS0.out.below hb1 (Nat.le_refl _)
  have HI1 : Hid (∀ v ∈ vs, XSees w1 v.ao v.l) := fun v hv => (HI0.out v hv).below hb1 (Nat.le_refl _)
  have HG : Hid (Gi w1 w1 (.slice none 0 0) (cnts vs (A.take 0))) := ⟨World.ownsRow_nil _ _ _ _, Below.refl _ _⟩
  clear ho1 HS0 HI0
  go_wp2_with fail
  go_loopw [3, 14] (fun s3 s14 wr => ∃ i : Nat, i ≤ A.length ∧ s14 = .int .i64 i ∧ Gi w1 wr s3 (cnts vs (A.take i))) (fun _ s14 _ => A.length - (intOf s14).toNat)
  case atStart => exact ⟨0, by omega, by go_num, HG.out⟩
  case round =>
    clear HG
    obtain ⟨i, hi, rfl, hG⟩ := hrel
    rcases Nat.lt_or_ge i A.length with hil | hig
    · obtain ⟨c, hc⟩ : ∃ c, A[i]? = some c := ⟨_, List.getElem?_eq_getElem hil⟩
      obtain ⟨nb, nof, rfl, h1⟩ := (sA.below hG.bel (Nat.le_refl _)) i c hc
      have hiz : (i : Int) < (A.length : Int) := by omega
      have HST : Hid (cnts vs (A.take (i + 1)) = cnts vs (A.take i) ++ [.int .i64 ((cntK vs c.k : Nat) : Int)]) := by
        show _ = _
        unfold cnts; rw [takeX_succ hc, List.map_append]; rfl
      have hpl : (cnts vs (A.take i)).length ≤ 1000000 := by unfold cnts; rw [List.length_map, List.length_take]; omega
      have k0 := h1.c0
      have k1 := h1.c1
      have k2 := h1.c2
      have k3 := h1.c3
      have k4 := h1.c4
      have k5 := h1.c5
      have k6 := h1.c6
      have k7 := h1.c7
      have k8 := h1.c8
      have k9 := h1.c9
      obtain ⟨wc, hwc⟩ : ∃ wc, wc = wr.alloc (.cells c.a 39) := ⟨_, rfl⟩
      have HBC : Hid (Blk wc wr.heap.size (xs10 c) 39) := by show Blk _ _ _ _; rw [hwc]; exact Blk.new wr (xs10 c) 39
      obtain ⟨P, hP⟩ : ∃ P, P = cnts vs (A.take i) := ⟨_, rfl⟩
      rw [← hP] at HST hpl hG
      obtain ⟨pa, pc, hv⟩ := ownsM_shape hG.row
      subst hv
      have HGc : Hid (Gi w1 wc (.slice pa P.length pc) P) := by show Gi _ _ _ _; rw [hwc]; exact hG.more ((Below.refl _ _).alloc (Nat.le_refl _) _)
      have FD : Hid (∀ (x : Lv), x ∈ vs → ∀ u, Below w1.heap.size w1 u → Calls Try.prog 27 #[x.s, c.k.v] u fun e w' => (∃ fv : Vr, e = .returned (.tuple #[fv.v, .bool (fnd c.k x.l).2])) ∧ Below u.heap.size u w') := fun x hx u hu =>
        (refFind_any x.ao x.l x.cap c.k u ((HI1.out x hx).below hu (Nat.le_refl _)) (HLL.out x hx)).mono fun e w' ⟨h1, h2⟩ => ⟨⟨_, h1⟩, h2⟩
      obtain ⟨⟨ca, cp, cr, cc⟩, ⟨ct, cd, cl, ck, cn, cs⟩⟩ := c
      simp only at k0 k1 k2 k3 k4 k5 k6 k7 k8 k9
      simp only [Cx.a] at hwc
      obtain ⟨kk, hkk⟩ : ∃ kk : Kb, kk = ⟨ca, cp, cr, cc⟩ := ⟨_, rfl⟩
      simp only at FD HST
      rw [← hkk] at HST
      have HKK : Hid (kk = ⟨ca, cp, cr, cc⟩) := hkk
      clear hG h1 hc hP hkk
      go_wp2_with fail
      rw [← hwc]
      clear hwc k0 k1 k2 k3 k4 k5 k6 k7 k8 k9
      generalize wr.heap.size = b5 at *
      go_loopw [6, 20] (fun s6 s20 wr => ∃ (j : Nat), j ≤ vs.length ∧ s20 = .int .i64 j ∧ s6 = .int .i64 ((cntK (vs.take j) kk : Nat) : Int) ∧ Below wc.heap.size wc wr) (fun _ s20 _ => vs.length - (intOf s20).toNat)
      case atStart => exact ⟨0, by omega, by go_num, rfl, Below.refl _ _⟩
      case round =>
        obtain ⟨j, hj, rfl, rfl, hB⟩ := hrel
        have hBw := HGc.out.bel.trans (hB.mono HGc.out.bel.size)
        rcases Nat.lt_or_ge j vs.length with hjl | hjg
        · obtain ⟨x, hx⟩ : ∃ x, vs[j]? = some x := ⟨_, List.getElem?_eq_getElem hjl⟩
          obtain ⟨lb, lof, rfl, hxc⟩ := (HS1.out.below hBw (Nat.le_refl _)) j x hx
          have hxm := List.mem_of_getElem? hx
          have hjz : (j : Int) < (vs.length : Int) := by omega
          have F2 : Hid (Calls Try.prog 27 #[x.s, .agg #[.string ca, .string cp, .int .i64 cr, .string cc]] wr fun e w' => (∃ fv : Vr, e = .returned (.tuple #[fv.v, .bool (fnd kk x.l).2])) ∧ Below wr.heap.size wr w') := by
            have h := FD.out x hxm wr hBw
            rw [← HKK.out] at h
            rw [HKK.out] at h ⊢
            exact h
          have hcs := cntK_succ hx kk
          have hcl := cntK_le (vs.take j) kk
          rw [List.length_take] at hcl
          obtain ⟨n0, hn0⟩ : ∃ n0, n0 = cntK (vs.take j) kk := ⟨_, rfl⟩
          have bc := HBC.out.carry (hB.block _ HBC.out.lt)
          have m0 := bc.cell 0 rfl
          have m1 := bc.cell 1 rfl
          have m2 := bc.cell 2 rfl
          have m3 := bc.cell 3 rfl
          simp only at m0 m1 m2 m3
          rw [← hn0] at hcs hcl
          rw [← hn0]
          have hn0z : (n0 : Int) ≤ 1000 := by omega
          obtain ⟨ok, hok⟩ : ∃ ok, ok = (fnd kk x.l).2 := ⟨_, rfl⟩
          rw [← hok] at F2 hcs
          have HCS : Hid (cntK (vs.take (j + 1)) kk = n0 + (if ok = true then 1 else 0)) := hcs
          obtain ⟨xv, hxv⟩ : ∃ xv, xv = x.s := ⟨_, rfl⟩
          rw [← hxv] at F2 hxc
          have hxs : ∃ xa xn xc, xv = .slice xa xn xc := ⟨_, _, _, hxv⟩
          obtain ⟨xa, xn, xc, rfl⟩ := hxs
          clear hcs hcl hn0 hok hx hxm hxv bc hBw
          go_wp2_with fail
          refine F2.out.mono ?_
          clear F2 hxc m0 m1 m2 m3
          rintro e u1 ⟨⟨fv, rfl⟩, hu1⟩
          have hB1 : Below wc.heap.size wc u1 := hB.trans (hu1.mono hB.size)
          have HB2 : Hid (∀ o, Below wc.heap.size wc (u1.alloc o)) := fun o => hB1.alloc hB1.size _
          obtain ⟨tm, dd, lc, kd, nm, st⟩ := fv
          simp only [Vr.v]
          clear hB hu1 hB1
          cases ok with
          | true =>
            go_wp2_with fail
            go_roundw
            case rel => exact ⟨j + 1, by omega, by go_num, by rw [HCS.out]; simp, HB2.out _⟩
            case measure => simp [intOf]; omega
          | false =>
            go_wp2_with fail
            go_roundw
            case rel => exact ⟨j + 1, by omega, by go_num, by rw [HCS.out]; simp, HB2.out _⟩
            case measure => simp [intOf]; omega
        · obtain rfl : j = vs.length := by omega
          rw [List.take_of_length_le (Nat.le_refl _)]
          have hjg' : ¬ (vs.length : Int) < (vs.length : Int) := by omega
          have HG1 : Hid (Gi w1 wr (.slice pa P.length pc) P) := HGc.out.more hB
          obtain ⟨nn, hnn⟩ : ∃ nn : Int, nn = ((cntK vs kk : Nat) : Int) := ⟨_, rfl⟩
          rw [← hnn] at HST
          rw [← hnn]
          have hsr := src_i wr nn
          clear hB hBw HGc HBC FD hnn
          go_wp2_with (at_builtin; go_must (refine wpList_append_grew _ rfl _ _ 27 27 rfl w1.heap.size 3 i1 _ 1 8 Try.underlying27 hi1 hy0 hy1 hy2 rfl _ P.length _ rfl (World.ownsRow.alloc HG1.out.row _) _ 1 [.int .i64 nn] rfl hsr (by unfold maxLen; omega) (by omega) (by have := HG1.out.bel.size; simp at *; omega) ?_; intro v5 w5 ho5 hg5))
          have hG5 := HG1.out.add ho5 hg5
          rw [← HST.out] at hG5
          have HB5 : Hid (Gi w1 w5 v5 (cnts vs (A.take (i + 1)))) := hG5
          clear ho5 hg5 hG5 HST HG1 hsr
          go_wp2_with fail
          go_roundw
          case rel => exact ⟨i + 1, by omega, by go_num, HB5.out⟩
          case measure => simp [intOf]; omega
    · obtain rfl : i = A.length := by omega
      rw [List.take_of_length_le (Nat.le_refl _)] at hG
      have hig' : ¬ (A.length : Int) < (A.length : Int) := by omega
      obtain ⟨ra, rc, hv⟩ := ownsM_shape hG.row
      subst hv
      have HE : Hid (Gi w1 wr (.slice ra (cnts vs A).length rc) (cnts vs A)) := hG
      clear hG
      go_wp2_with fail
      go_ret
      exact ⟨_, rfl, ownsM_mono HE.out.row hb1.size, hb1.trans (HE.out.bel.mono hb1.size)⟩
end Go.Proofs.Ytdpglmgnbhpneaa

/-
  SEVERAL TEXTS IN ONE: MrgRefAll, MrgRefCnt, MrgCnt.
-/
import Derived.Test.YtdpglmgnbhpneaaMrgPile
namespace Go.Proofs.Ytdpglmgnbhpneaa
open Go.RowKit

theorem Gv.addL {w u w3 : World} {v v' : Value} {L M : List Cx} (h : Gv w u v L) (ho : w3.ownsRow w.heap.size 39 10 v' (L.length + M.length) (L.flatMap xs10 ++ M.flatMap xs10)) (hg : Grew u w3 v v') : Gv w w3 v' (L ++ M) := by
  refine ⟨?_, ?_⟩
  · rw [List.length_append, List.flatMap_append]; exact ho
  · exact h.bel.trans (hg.below h.bel.size fun g e => (h.row.lt g e).1)
def nfl (vs : List Lv) : List Cx := (vs.map (fun v => nrm v.l)).flatten
theorem nfl_succ {vs : List Lv} {j : Nat} {x : Lv} (h : vs[j]? = some x) : nfl (vs.take (j + 1)) = nfl (vs.take j) ++ nrm x.l := by
  unfold nfl; rw [List.take_add_one, h]; simp
theorem nfl_take (vs : List Lv) (j : Nat) : (nfl (vs.take j)).length ≤ (nfl vs).length := by
  have : nfl vs = nfl (vs.take j) ++ nfl (vs.drop j) := by
    unfold nfl; rw [← List.flatten_append, ← List.map_append, List.take_append_drop]
  rw [this, List.length_append]; omega
set_option maxRecDepth 100000 in
set_option maxHeartbeats 1000000 in
theorem rall_any (lo : Option Addr) (vs : List Lv) (lcap : Nat) (w : World) (hs : LSees w lo vs) (hin : ∀ v ∈ vs, XSees w v.ao v.l) (hl : vs.length ≤ 1000) (hll : ∀ v ∈ vs, v.l.length ≤ 1000000) (htot : (nfl vs).length ≤ 1000000) :
    Calls Try.prog 11 #[.slice lo vs.length lcap] w fun e w' => ∃ v, e = .returned v ∧ w'.ownsRow w.heap.size 39 10 v (nrm (nfl vs)).length ((nrm (nfl vs)).flatMap xs10) ∧ Below w.heap.size w w' := by
  obtain ⟨i1, hi1, hy0, hy1, hy2⟩ := infoX infoCx
  have hlz : (vs.length : Int) ≤ 1000 := by omega
  have HG : Hid (Gv w w (.slice none 0 0) (nfl (vs.take 0))) := ⟨World.ownsRow_nil _ _ _ _, Below.refl _ _⟩
  have HS0 : Hid (LSees w lo vs) := hs
  have HI0 : Hid (∀ v ∈ vs, XSees w v.ao v.l) := hin
  have HLL : Hid (∀ v ∈ vs, v.l.length ≤ 1000000) := hll
  clear hs hin hll
  go_enter Try.func11, Try.ntmps11
  go_wp2_with fail
  go_loopw [3, 8] (fun s3 s8 wr => ∃ j : Nat, j ≤ vs.length ∧ s8 = .int .i64 j ∧ Gv w wr s3 (nfl (vs.take j))) (fun _ s8 _ => vs.length - (intOf s8).toNat)
  case atStart => exact ⟨0, by omega, by go_num, HG.out⟩
  case round =>
    clear HG
    obtain ⟨j, hj, rfl, hG⟩ := hrel
    rcases Nat.lt_or_ge j vs.length with hjl | hjg
    · obtain ⟨x, hx⟩ : ∃ x, vs[j]? = some x := ⟨_, List.getElem?_eq_getElem hjl⟩
      obtain ⟨lb, lof, rfl, hxc⟩ := (HS0.out.below hG.bel (Nat.le_refl _)) j x hx
      have hxm := List.mem_of_getElem? hx
      have hjz : (j : Int) < (vs.length : Int) := by omega
      have N : Hid (Calls Try.prog 23 #[x.s] wr fun e w' => ∃ v, e = .returned v ∧ w'.ownsRow wr.heap.size 39 10 v (nrm x.l).length ((nrm x.l).flatMap xs10) ∧ Below wr.heap.size wr w') :=
        refNorm_any x.ao x.l x.cap wr ((HI0.out x hxm).below hG.bel (Nat.le_refl _)) (HLL.out x hxm)
      have HST : Hid (nfl (vs.take (j + 1)) = nfl (vs.take j) ++ nrm x.l) := nfl_succ hx
      have hb1 : (nfl (vs.take j)).length + (nrm x.l).length ≤ 1000000 := by
        have h1 := nfl_take vs (j + 1)
        rw [nfl_succ hx, List.length_append] at h1
        omega
      obtain ⟨pa, pc, hv⟩ := ownsM_shape hG.row
      subst hv
      obtain ⟨P, hP⟩ : ∃ P, P = nfl (vs.take j) := ⟨_, rfl⟩
      obtain ⟨M, hM⟩ : ∃ M, M = nrm x.l := ⟨_, rfl⟩
      rw [← hP, ← hM] at HST hb1
      rw [← hM] at N
      rw [← hP] at hG
      rw [← hP]
      obtain ⟨xv, hxv⟩ : ∃ xv, xv = x.s := ⟨_, rfl⟩
      rw [← hxv] at N hxc
      have hxs : ∃ xa xn xc, xv = .slice xa xn xc := ⟨_, _, _, hxv⟩
      obtain ⟨xa, xn, xc, rfl⟩ := hxs
      have HGh : Hid (Gv w wr (.slice pa P.length pc) P) := hG
      clear hG hP hM hx hxm hxv
      go_wp2_with fail
      refine N.out.mono ?_
      clear N hxc
      rintro e u1 ⟨v1, rfl, ho1, hu1⟩
      obtain ⟨ma, mc, rfl⟩ := ownsM_shape ho1
      have sM := (owns_see ho1).1
      have hsr : Hid (Src Try.prog 10 25 (.slice ma M.length mc) M.length (M.flatMap xs10) u1) := src_cells sM (xsees_nil sM) mc
      have HG1 : Hid (Gv w u1 (.slice pa P.length pc) P) := HGh.out.more hu1
      clear HGh ho1 hu1 sM
      go_wp2_with (at_builtin; go_must (refine wpList_append_grew _ rfl _ _ 25 25 rfl w.heap.size 39 i1 _ 10 112 Try.underlying25 hi1 hy0 hy1 hy2 rfl _ P.length _ rfl HG1.out.row _ M.length (M.flatMap xs10) rfl hsr.out (by unfold maxLen; omega) (by omega) HG1.out.bel.size ?_; intro v5 w5 ho5 hg5))
      have hG5 := HG1.out.addL ho5 hg5
      rw [← HST.out] at hG5
      have HB5 : Hid (Gv w w5 v5 (nfl (vs.take (j + 1)))) := hG5
      clear ho5 hg5 hG5 HST HG1 hsr
      go_wp2_with fail
      go_roundw
      case rel => exact ⟨j + 1, by omega, by go_num, HB5.out⟩
      case measure => simp [intOf]; omega
    · obtain rfl : j = vs.length := by omega
      rw [List.take_of_length_le (Nat.le_refl _)] at hG
      have hjg' : ¬ (vs.length : Int) < (vs.length : Int) := by omega
      obtain ⟨la, lc, hv⟩ := ownsM_shape hG.row
      subst hv
      have sl := (owns_see hG.row).1
      have hB := hG.bel
      have NM : Hid (Calls Try.prog 23 #[.slice la (nfl vs).length lc] wr fun e w' => ∃ v, e = .returned v ∧ w'.ownsRow wr.heap.size 39 10 v (nrm (nfl vs)).length ((nrm (nfl vs)).flatMap xs10) ∧ Below wr.heap.size wr w') :=
        refNorm_any la (nfl vs) lc wr sl htot
      clear hG sl
      go_wp2_with fail
      refine NM.out.mono ?_
      rintro e u2 ⟨v2, rfl, ho2, hu2⟩
      go_wp2_with fail
      go_ret
      exact ⟨v2, rfl, ownsM_mono ho2 hB.size, hB.trans (hu2.mono hB.size)⟩
end Go.Proofs.Ytdpglmgnbhpneaa
namespace Go.Proofs.Ytdpglmgnbhpneaa
open Go.RowKit

theorem infoI10 : (Try.prog.info? 3).map (fun i => (i.zero, i.size, i.bytes)) = some (some (.int .i64 0), 1, 8) := by kernel_rfl
/-- How many of the lists have the key. -/
noncomputable def cntK (vs : List Lv) (k : Kb) : Nat := (vs.filter fun v => (fnd k v.l).2).length
theorem cntK_succ {vs : List Lv} {j : Nat} {x : Lv} (h : vs[j]? = some x) (k : Kb) : cntK (vs.take (j + 1)) k = cntK (vs.take j) k + (if (fnd k x.l).2 then 1 else 0) := by
  unfold cntK
  rw [List.take_add_one, h, List.filter_append, List.length_append]
  congr 1
  show (List.filter _ [x]).length = _
  by_cases hb : (fnd k x.l).2 = true
  · simp [hb]
  · simp [hb]
theorem cntK_le (vs : List Lv) (k : Kb) : cntK vs k ≤ vs.length := List.length_filter_le _ _
noncomputable def cnts (vs : List Lv) (L : List Cx) : List Value := L.map fun c => .int .i64 ((cntK vs c.k : Nat) : Int)
/-- Numbers of the call's own. -/
structure Gi (w wr : World) (v : Value) (xs : List Value) : Prop where
  row : wr.ownsRow w.heap.size 3 1 v xs.length xs
  bel : Below w.heap.size w wr
theorem Gi.more {w wr u : World} {v : Value} {L : List Value} (h : Gi w wr v L) (hu : Below wr.heap.size wr u) : Gi w u v L := ⟨ownsRow_blk h.row fun g hg => hu.block _ (h.row.lt g hg).2, h.bel.trans (hu.mono h.bel.size)⟩
theorem Gi.add {w u w3 : World} {v v' x : Value} {L : List Value} {o : Obj} (h : Gi w u v L) (ho : w3.ownsRow w.heap.size 3 1 v' (L.length + 1) (L ++ [x])) (hg : Grew (u.alloc o) w3 v v') : Gi w w3 v' (L ++ [x]) := by
  refine ⟨?_, ?_⟩
  · rw [List.length_append]; exact ho
  · have hB2 : Below w.heap.size w (u.alloc o) := h.bel.alloc h.bel.size _
    exact hB2.trans (hg.below hB2.size fun g e => (h.row.lt g e).1)
theorem src_i (w : World) (n : Int) : Src Try.prog 1 27 (.slice (some ⟨w.heap.size, 0, none⟩) 1 1) 1 [.int .i64 n] (w.alloc (.cells #[.int .i64 n] 3)) := by
  refine Src.ofSlice _ Try.underlying27 _ 1 1 _ rfl (fun j u hj => ?_) (fun u hu => ?_)
  · have hg : (w.alloc (.cells #[.int .i64 n] 3)).heap[w.heap.size]? = some (.cells #[.int .i64 n] 3) := heap_alloc_new w _
    rw [Addr.add_lit, Nat.zero_add]
    simp only [World.cell?, hg]
    rcases j with _ | j
    · exact hj
    · simp at hj
  · obtain rfl : u = .int .i64 n := by simpa using hu
    rfl
set_option maxRecDepth 100000 in
set_option maxHeartbeats 2000000 in
theorem rcounts_any (lo : Option Addr) (vs : List Lv) (lcap : Nat) (w : World) (hs : LSees w lo vs) (hin : ∀ v ∈ vs, XSees w v.ao v.l) (hl : vs.length ≤ 1000) (hll : ∀ v ∈ vs, v.l.length ≤ 1000000) (htot : (nfl vs).length ≤ 1000000) :
    Calls Try.prog 12 #[.slice lo vs.length lcap] w fun e w' => ∃ v, e = .returned v ∧ w'.ownsRow w.heap.size 3 1 v (cnts vs (nrm (nfl vs))).length (cnts vs (nrm (nfl vs))) ∧ Below w.heap.size w w' := by
  obtain ⟨i1, hi1, hy0, hy1, hy2⟩ := infoX infoI10
  have hlz : (vs.length : Int) ≤ 1000 := by omega
  have RA : Hid (Calls Try.prog 11 #[.slice lo vs.length lcap] w fun e w' => ∃ v, e = .returned v ∧ w'.ownsRow w.heap.size 39 10 v (nrm (nfl vs)).length ((nrm (nfl vs)).flatMap xs10) ∧ Below w.heap.size w w') := rall_any lo vs lcap w hs hin hl hll htot
  have hnl := nrm_len (nfl vs)
  obtain ⟨A, hA⟩ : ∃ A, A = nrm (nfl vs) := ⟨_, rfl⟩
  rw [← hA] at RA hnl
  rw [← hA]
  have hAz : (A.length : Int) ≤ 1000000 := by omega
  have hAn : A.length ≤ 1000000 := by omega
  have HS0 : Hid (LSees w lo vs) := hs
  have HI0 : Hid (∀ v ∈ vs, XSees w v.ao v.l) := hin
  have HLL : Hid (∀ v ∈ vs, v.l.length ≤ 1000000) := hll
  clear hs hin hll hA hnl
  go_enter Try.func12, Try.ntmps12
  go_wp2_with fail
  refine RA.out.mono ?_
  clear RA
  rintro e w1 ⟨v1, rfl, ho1, hb1⟩
  obtain ⟨aa, ac, rfl⟩ := ownsM_shape ho1
  have sA := (owns_see ho1).1
  have HS1 : Hid (LSees w1 lo vs) := HS0.out.below hb1 (Nat.le_refl _)
  have HI1 : Hid (∀ v ∈ vs, XSees w1 v.ao v.l) := fun v hv => (HI0.out v hv).below hb1 (Nat.le_refl _)
  have HG : Hid (Gi w1 w1 (.slice none 0 0) (cnts vs (A.take 0))) := ⟨World.ownsRow_nil _ _ _ _, Below.refl _ _⟩
  clear ho1 HS0 HI0
  go_wp2_with fail
  go_loopw [3, 14] (fun s3 s14 wr => ∃ i : Nat, i ≤ A.length ∧ s14 = .int .i64 i ∧ Gi w1 wr s3 (cnts vs (A.take i))) (fun _ s14 _ => A.length - (intOf s14).toNat)
  case atStart => exact ⟨0, by omega, by go_num, HG.out⟩
  case round =>
    clear HG
    obtain ⟨i, hi, rfl, hG⟩ := hrel
    rcases Nat.lt_or_ge i A.length with hil | hig
    · obtain ⟨c, hc⟩ : ∃ c, A[i]? = some c := ⟨_, List.getElem?_eq_getElem hil⟩
      obtain ⟨nb, nof, rfl, h1⟩ := (sA.below hG.bel (Nat.le_refl _)) i c hc
      have hiz : (i : Int) < (A.length : Int) := by omega
      have HST : Hid (cnts vs (A.take (i + 1)) = cnts vs (A.take i) ++ [.int .i64 ((cntK vs c.k : Nat) : Int)]) := by
        show _ = _
        unfold cnts; rw [takeX_succ hc, List.map_append]; rfl
      have hpl : (cnts vs (A.take i)).length ≤ 1000000 := by unfold cnts; rw [List.length_map, List.length_take]; omega
      have k0 := h1.c0
      have k1 := h1.c1
      have k2 := h1.c2
      have k3 := h1.c3
      have k4 := h1.c4
      have k5 := h1.c5
      have k6 := h1.c6
      have k7 := h1.c7
      have k8 := h1.c8
      have k9 := h1.c9
      obtain ⟨wc, hwc⟩ : ∃ wc, wc = wr.alloc (.cells c.a 39) := ⟨_, rfl⟩
      have HBC : Hid (Blk wc wr.heap.size (xs10 c) 39) := by show Blk _ _ _ _; rw [hwc]; exact Blk.new wr (xs10 c) 39
      obtain ⟨P, hP⟩ : ∃ P, P = cnts vs (A.take i) := ⟨_, rfl⟩
      rw [← hP] at HST hpl hG
      obtain ⟨pa, pc, hv⟩ := ownsM_shape hG.row
      subst hv
      have HGc : Hid (Gi w1 wc (.slice pa P.length pc) P) := by show Gi _ _ _ _; rw [hwc]; exact hG.more ((Below.refl _ _).alloc (Nat.le_refl _) _)
      have FD : Hid (∀ (x : Lv), x ∈ vs → ∀ u, Below w1.heap.size w1 u → Calls Try.prog 27 #[x.s, c.k.v] u fun e w' => (∃ fv : Vr, e = .returned (.tuple #[fv.v, .bool (fnd c.k x.l).2])) ∧ Below u.heap.size u w') := fun x hx u hu =>
        (refFind_any x.ao x.l x.cap c.k u ((HI1.out x hx).below hu (Nat.le_refl _)) (HLL.out x hx)).mono fun e w' ⟨h1, h2⟩ => ⟨⟨_, h1⟩, h2⟩
      obtain ⟨⟨ca, cp, cr, cc⟩, ⟨ct, cd, cl, ck, cn, cs⟩⟩ := c
      simp only at k0 k1 k2 k3 k4 k5 k6 k7 k8 k9
      simp only [Cx.a] at hwc
      obtain ⟨kk, hkk⟩ : ∃ kk : Kb, kk = ⟨ca, cp, cr, cc⟩ := ⟨_, rfl⟩
      simp only at FD HST
      rw [← hkk] at HST
      have HKK : Hid (kk = ⟨ca, cp, cr, cc⟩) := hkk
      clear hG h1 hc hP hkk
      go_wp2_with fail
      rw [← hwc]
      clear hwc k0 k1 k2 k3 k4 k5 k6 k7 k8 k9
      generalize wr.heap.size = b5 at *
      go_loopw [6, 20] (fun s6 s20 wr => ∃ (j : Nat), j ≤ vs.length ∧ s20 = .int .i64 j ∧ s6 = .int .i64 ((cntK (vs.take j) kk : Nat) : Int) ∧ Below wc.heap.size wc wr) (fun _ s20 _ => vs.length - (intOf s20).toNat)
      case atStart => exact ⟨0, by omega, by go_num, rfl, Below.refl _ _⟩
      case round =>
        obtain ⟨j, hj, rfl, rfl, hB⟩ := hrel
        have hBw := HGc.out.bel.trans (hB.mono HGc.out.bel.size)
        rcases Nat.lt_or_ge j vs.length with hjl | hjg
        · obtain ⟨x, hx⟩ : ∃ x, vs[j]? = some x := ⟨_, List.getElem?_eq_getElem hjl⟩
          obtain ⟨lb, lof, rfl, hxc⟩ := (HS1.out.below hBw (Nat.le_refl _)) j x hx
          have hxm := List.mem_of_getElem? hx
          have hjz : (j : Int) < (vs.length : Int) := by omega
          have F2 : Hid (Calls Try.prog 27 #[x.s, .agg #[.string ca, .string cp, .int .i64 cr, .string cc]] wr fun e w' => (∃ fv : Vr, e = .returned (.tuple #[fv.v, .bool (fnd kk x.l).2])) ∧ Below wr.heap.size wr w') := by
            have h := FD.out x hxm wr hBw
            rw [← HKK.out] at h
            rw [HKK.out] at h ⊢
            exact h
          have hcs := cntK_succ hx kk
          have hcl := cntK_le (vs.take j) kk
          rw [List.length_take] at hcl
          obtain ⟨n0, hn0⟩ : ∃ n0, n0 = cntK (vs.take j) kk := ⟨_, rfl⟩
          have bc := HBC.out.carry (hB.block _ HBC.out.lt)
          have m0 := bc.cell 0 rfl
          have m1 := bc.cell 1 rfl
          have m2 := bc.cell 2 rfl
          have m3 := bc.cell 3 rfl
          simp only at m0 m1 m2 m3
          rw [← hn0] at hcs hcl
          rw [← hn0]
          have hn0z : (n0 : Int) ≤ 1000 := by omega
          obtain ⟨ok, hok⟩ : ∃ ok, ok = (fnd kk x.l).2 := ⟨_, rfl⟩
          rw [← hok] at F2 hcs
          have HCS : Hid (cntK (vs.take (j + 1)) kk = n0 + (if ok = true then 1 else 0)) := hcs
          obtain ⟨xv, hxv⟩ : ∃ xv, xv = x.s := ⟨_, rfl⟩
          rw [← hxv] at F2 hxc
          have hxs : ∃ xa xn xc, xv = .slice xa xn xc := ⟨_, _, _, hxv⟩
          obtain ⟨xa, xn, xc, rfl⟩ := hxs
          clear hcs hcl hn0 hok hx hxm hxv bc hBw
          go_wp2_with fail
          refine F2.out.mono ?_
          clear F2 hxc m0 m1 m2 m3
          rintro e u1 ⟨⟨fv, rfl⟩, hu1⟩
          have hB1 : Below wc.heap.size wc u1 := hB.trans (hu1.mono hB.size)
          have HB2 : Hid (∀ o, Below wc.heap.size wc (u1.alloc o)) := fun o => hB1.alloc hB1.size _
          obtain ⟨tm, dd, lc, kd, nm, st⟩ := fv
          simp only [Vr.v]
          clear hB hu1 hB1
          cases ok with
          | true =>
            go_wp2_with fail
            go_roundw
            case rel => exact ⟨j + 1, by omega, by go_num, by rw [HCS.out]; simp, HB2.out _⟩
            case measure => simp [intOf]; omega
          | false =>
            go_wp2_with fail
            go_roundw
            case rel => exact ⟨j + 1, by omega, by go_num, by rw [HCS.out]; simp, HB2.out _⟩
            case measure => simp [intOf]; omega
        · obtain rfl : j = vs.length := by omega
          rw [List.take_of_length_le (Nat.le_refl _)]
          have hjg' : ¬ (vs.length : Int) < (vs.length : Int) := by omega
          have HG1 : Hid (Gi w1 wr (.slice pa P.length pc) P) := HGc.out.more hB
          obtain ⟨nn, hnn⟩ : ∃ nn : Int, nn = ((cntK vs kk : Nat) : Int) := ⟨_, rfl⟩
          rw [← hnn] at HST
          rw [← hnn]
          have hsr := src_i wr nn
          clear hB hBw HGc HBC FD hnn
          go_wp2_with (at_builtin; go_must (refine wpList_append_grew _ rfl _ _ 27 27 rfl w1.heap.size 3 i1 _ 1 8 Try.underlying27 hi1 hy0 hy1 hy2 rfl _ P.length _ rfl (World.ownsRow.alloc HG1.out.row _) _ 1 [.int .i64 nn] rfl hsr (by unfold maxLen; omega) (by omega) (by have := HG1.out.bel.size; simp at *; omega) ?_; intro v5 w5 ho5 hg5))
          have hG5 := HG1.out.add ho5 hg5
          rw [← HST.out] at hG5
          have HB5 : Hid (Gi w1 w5 v5 (cnts vs (A.take (i + 1)))) := hG5
          clear ho5 hg5 hG5 HST HG1 hsr
          go_wp2_with fail
          go_roundw
          case rel => exact ⟨i + 1, by omega, by go_num, HB5.out⟩
          case measure => simp [intOf]; omega
    · obtain rfl : i = A.length := by omega
      rw [List.take_of_length_le (Nat.le_refl _)] at hG
      have hig' : ¬ (A.length : Int) < (A.length : Int) := by omega
      obtain ⟨ra, rc, hv⟩ := ownsM_shape hG.row
      subst hv
      have HE : Hid (Gi w1 wr (.slice ra (cnts vs A).length rc) (cnts vs A)) := hG
      clear hG
      go_wp2_with fail
      go_ret
      exact ⟨_, rfl, ownsM_mono HE.out.row hb1.size, hb1.trans (HE.out.bel.mono hb1.size)⟩
end Go.Proofs.Ytdpglmgnbhpneaa
namespace Go.Proofs.Ytdpglmgnbhpneaa

theorem fK_empty {l : List Cx} (h : fK l = []) : l = [] := by
  cases l with
  | nil => rfl
  | cons c l => simp [fK] at h
theorem ofK_other {κ : Kb} {x : Cx} (l : List Cx) (h : x.k ≠ κ) : ofK κ (l ++ [x]) = ofK κ l := by
  rw [ofK_append, ofK_cons_miss _ h]; show _ ++ [] = _; simp
theorem ofK_same {κ : Kb} {x : Cx} (l : List Cx) (h : x.k = κ) : (ofK κ (l ++ [x])).length = (ofK κ l).length + 1 := by
  rw [ofK_append, ofK_cons_hit _ h, List.length_append]; rfl
theorem kx_self0 (x : Cx) : kx x x = 0 := (kx_z x x).2 rfl
theorem j2_cnt {S : List Cx} : Up S → ∀ y ∈ j2 S, y.2 = (ofK y.1.k S).length := by
  refine snoc_ind (P := fun S => Up S → ∀ y ∈ j2 S, y.2 = (ofK y.1.k S).length) (fun _ y hy => by simp [j2] at hy) (fun l x ih hU => ?_) S
  have i := ih hU.left
  obtain ⟨h1, h2⟩ := jr_both hU.left
  have hov : ∀ z ∈ jr l, kx z x ≤ 0 := fun z hz => by
    obtain ⟨y, hy, e⟩ := jr_keys hz
    rw [← kx_left e]; exact hU.over y hy x (by simp)
  rw [j2_snoc]
  rcases List.eq_nil_or_concat (j2 l) with e | ⟨O, y, e⟩
  · have hl : l = [] := by
      cases l with
      | nil => rfl
      | cons c l => exact absurd e (j2_ne (by simp))
    subst hl
    rw [e, j2S_nil]
    intro y hy
    obtain rfl : y = (x, 1) := by simpa using hy
    show 1 = (ofK x.k ([] ++ [x])).length
    rw [ofK_same [] rfl]; rfl
  · rw [List.concat_eq_append] at e
    have hj : jr l = O.map Prod.fst ++ [y.1] := by rw [← j2_fst, e, List.map_append]; rfl
    rw [hj] at h1 hov
    have hP := List.pairwise_append.1 h1
    rw [e] at i ⊢
    by_cases hk : kx y.1 x = 0
    · have hyx := (kx_z y.1 x).1 hk
      rw [j2S_same hk]
      intro z hz
      rcases List.mem_append.1 hz with hz | hz
      · have hlt : kx z.1 y.1 < 0 := hP.2.2 z.1 (List.mem_map_of_mem hz) y.1 (by simp)
        have hne : x.k ≠ z.1.k := fun e2 => by
          have := (kx_z z.1 y.1).2 (e2.symm.trans hyx.symm)
          omega
        rw [ofK_other l hne]
        exact i z (by simp [hz])
      · obtain rfl : z = _ := by simpa using hz
        show y.2 + 1 = (ofK y.1.k (l ++ [x])).length
        rw [ofK_same l hyx.symm, ← i y (by simp)]
    · rw [j2S_other hk]
      have hyl : kx y.1 x < 0 := by have := hov y.1 (by simp); omega
      have hall : ∀ z ∈ O ++ [y], kx z.1 x < 0 := fun z hz => by
        rcases List.mem_append.1 hz with h | h
        · exact kx_strict (hP.2.2 z.1 (List.mem_map_of_mem h) y.1 (by simp)) hyl
        · obtain rfl : z = y := by simpa using h
          exact hyl
      intro z hz
      rcases List.mem_append.1 hz with hz | hz
      · have hne : x.k ≠ z.1.k := fun e2 => by
          have h3 := (kx_z z.1 x).2 e2.symm
          have h4 := hall z hz
          omega
        rw [ofK_other l hne]
        exact i z hz
      · obtain rfl : z = (x, 1) := by simpa using hz
        show 1 = (ofK x.k (l ++ [x])).length
        rw [ofK_same l rfl]
        have h5 : ofK x.k (jr l) = [] := ofK_nil fun u hu e2 => by
          rw [hj] at hu
          have h3 := (kx_z u x).2 e2
          have : kx u x < 0 := by
            rcases List.mem_append.1 hu with h | h
            · obtain ⟨q, hq, rfl⟩ := List.mem_map.1 h
              exact hall q (by simp [hq])
            · obtain rfl : u = y.1 := by simpa using h
              exact hyl
          omega
        rw [h2] at h5
        rw [fK_empty h5]; rfl
theorem fnd_yes {k : Kb} {l : List Cx} {c : Cx} (h : c ∈ l) (hk : c.k = k) : (fnd k l).2 = true := by
  induction l with
  | nil => cases h
  | cons x l ih =>
    by_cases hx : x.k = k
    · rw [fnd_hit l hx]
    · rw [fnd_miss l hx]
      rcases List.mem_cons.1 h with e | e
      · subst e; exact absurd hk hx
      · exact ih e
theorem nrm_one (κ : Kb) (l : List Cx) : (ofK κ (nrm l)).length = if (fnd κ l).2 then 1 else 0 := by
  rw [nrm_ofK]
  rcases List.eq_nil_or_concat (ofK κ l) with e | ⟨m, x, e⟩
  · rw [e, fnd_none (fun y hy hk => by have := (ofK_mem (κ := κ)).2 ⟨hy, hk⟩; rw [e] at this; cases this)]; rfl
  · have hx : x ∈ ofK κ l := by rw [e]; simp
    have h1 := ofK_mem.1 hx
    rw [fnd_yes h1.1 h1.2]
    have h2 := fK_one (ofK κ l)
    have h3 : fK (ofK κ l) ≠ [] := fun h => by rw [fK_empty h] at hx; cases hx
    have h4 := List.length_pos_iff.2 h3
    simp; omega
theorem flat_cnt (κ : Kb) (vs : List Lv) : (ofK κ (nfl vs)).length = cntK vs κ := by
  unfold nfl cntK
  induction vs with
  | nil => rfl
  | cons v r ih =>
    rw [List.map_cons, List.flatten_cons, ofK_append, List.length_append, ih, nrm_one, List.filter_cons]
    by_cases hb : (fnd κ v.l).2 = true
    · simp [hb]; omega
    · simp [hb]
theorem pair_all {f : Cx → Nat} {L : List (Cx × Nat)} (h : ∀ y ∈ L, y.2 = f y.1) : L = (L.map Prod.fst).map fun c => (c, f c) := by
  induction L with
  | nil => rfl
  | cons y L ih =>
    rw [List.map_cons, List.map_cons, ← ih (fun z hz => h z (by simp [hz])), ← h y (by simp)]
/-- What Each tells: the cells of All, each with the number of lists that have its key. -/
theorem j2_tells {vs ss : List Lv} (hsl : ss.map Lv.l = vs.map (fun v => nrm v.l)) {R : List (Cx × Nat)} (hs : SS R) (hp : R.Perm (prL (ss.map Lv.l))) :
    j2 (R.map Prod.fst) = (nrm (nfl vs)).map fun c => (c, cntK vs c.k) := by
  have hris : ∀ l ∈ ss.map Lv.l, Rising l := fun l hlm => by
    rw [hsl] at hlm
    obtain ⟨v, _, rfl⟩ := List.mem_map.1 hlm
    exact nrm_rising _
  have h1 : (j2 (R.map Prod.fst)).map Prod.fst = nrm (nfl vs) := by
    rw [j2_fst, ss_nrm hris hs hp, hsl]; rfl
  rw [← h1]
  refine pair_all fun y hy => ?_
  rw [j2_cnt (ss_up hs) y hy, ← flat_cnt]
  have h2 : (R.map Prod.fst).Perm (nfl vs) := by
    have := hp.map Prod.fst
    rw [prL_fst, hsl] at this
    exact this
  exact (h2.filter _).length_eq
end Go.Proofs.Ytdpglmgnbhpneaa

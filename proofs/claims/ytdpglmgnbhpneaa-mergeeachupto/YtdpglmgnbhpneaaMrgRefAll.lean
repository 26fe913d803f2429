/-
  THE DOCUMENT'S All (P10.1).
-/
import Derived.Test.YtdpglmgnbhpneaaMrgPile
namespace Go.Proofs.Ytdpglmgnbhpneaa
open Go.RowKit

theorem Gv.addL {w u w3 : World} {v v' : Value} {L M : List Cx} (h : Gv w u v L) (ho : w3.ownsRow w.heap.size 39 10 v' (L.length + M.length) (L.flatMap xs10 ++ M.flatMap xs10)) (hg : Grew u w3 v v') : Gv w w3 v' (L ++ M) := by
  refine ⟨?_, ?_⟩
  · rw [List.length_append, List.flatMap_append]; exact ho
  · exact h.bel.trans (hg.below h.bel.size fun g e => (h.row.lt g e).1)
def nfl (vs : List Lv) : List Cx := (vs.map (fun v => nrm v.l)).flatten
theorem nfl_succ {vs : List Lv} {j : Nat} {x : Lv} (h : vs[j]? = some x) : nfl (vs.take (j + 1)) = nfl (vs.take j) ++ nrm x.l := by
  unfold nfl; rw [List.take_add_one, h]; simp
theorem nfl_take (vs : List Lv) (j : Nat) : (nfl (vs.take j)).length ≤ (nfl vs).length := by
  have : nfl vs = nfl (vs.take j) ++ nfl (vs.drop j) := by
    unfold nfl; rw [← List.flatten_append, ← List.map_append, List.take_append_drop]
  rw [this, List.length_append]; omega
set_option maxRecDepth 100000 in
set_option maxHeartbeats 1000000 in
theorem rall_any (lo : Option Addr) (vs : List Lv) (lcap : Nat) (w : World) (hs : LSees w lo vs) (hin : ∀ v ∈ vs, XSees w v.ao v.l) (hl : vs.length ≤ 1000) (hll : ∀ v ∈ vs, v.l.length ≤ 1000000) (htot : (nfl vs).length ≤ 1000000) :
    Calls Try.prog 11 #[.slice lo vs.length lcap] w fun e w' => ∃ v, e = .returned v ∧ w'.ownsRow w.heap.size 39 10 v (nrm (nfl vs)).length ((nrm (nfl vs)).flatMap xs10) ∧ Below w.heap.size w w' := by
  obtain ⟨i1, hi1, hy0, hy1, hy2⟩ := infoX infoCx
  have hlz : (vs.length : Int) ≤ 1000 := by omega
  have HG : Hid (Gv w w (.slice none 0 0) (nfl (vs.take 0))) := ⟨World.ownsRow_nil _ _ _ _, Below.refl _ _⟩
  have HS0 : Hid (LSees w lo vs) := hs
  have HI0 : Hid (∀ v ∈ vs, XSees w v.ao v.l) := hin
  have HLL : Hid (∀ v ∈ vs, v.l.length ≤ 1000000) := hll
  clear hs hin hll
  go_enter Try.func11, Try.ntmps11
  go_wp2_with fail
  go_loopw [3, 8] (fun s3 s8 wr => ∃ j : Nat, j ≤ vs.length ∧ s8 = .int .i64 j ∧ Gv w wr s3 (nfl (vs.take j))) (fun _ s8 _ => vs.length - (intOf s8).toNat)
  case atStart => exact ⟨0, by omega, by go_num, HG.out⟩
  case round =>
    clear HG
    obtain ⟨j, hj, rfl, hG⟩ := hrel
    rcases Nat.lt_or_ge j vs.length with hjl | hjg
    · obtain ⟨x, hx⟩ : ∃ x, vs[j]? = some x := ⟨_, List.getElem?_eq_getElem hjl⟩
      obtain ⟨lb, lof, rfl, hxc⟩ := (HS0.out.below hG.bel (Nat.le_refl _)) j x hx
      have hxm := List.mem_of_getElem? hx
      have hjz : (j : Int) < (vs.length : Int) := by omega
      have N : Hid (Calls Try.prog 23 #[x.s] wr fun e w' => ∃ v, e = .returned v ∧ w'.ownsRow wr.heap.size 39 10 v (nrm x.l).length ((nrm x.l).flatMap xs10) ∧ Below wr.heap.size wr w') :=
        refNorm_any x.ao x.l x.cap wr ((HI0.out x hxm).below hG.bel (Nat.le_refl _)) (HLL.out x hxm)
      have HST : Hid (nfl (vs.take (j + 1)) = nfl (vs.take j) ++ nrm x.l) := nfl_succ hx
      have hb1 : (nfl (vs.take j)).length + (nrm x.l).length ≤ 1000000 := by
        have h1 := nfl_take vs (j + 1)
        rw [nfl_succ hx, List.length_append] at h1
        omega
      obtain ⟨pa, pc, hv⟩ := ownsM_shape hG.row
      subst hv
      obtain ⟨P, hP⟩ : ∃ P, P = nfl (vs.take j) := ⟨_, rfl⟩
      obtain ⟨M, hM⟩ : ∃ M, M = nrm x.l := ⟨_, rfl⟩
      rw [← hP, ← hM] at HST hb1
      rw [← hM] at N
      rw [← hP] at hG
      rw [← hP]
      obtain ⟨xv, hxv⟩ : ∃ xv, xv = x.s := ⟨_, rfl⟩
      rw [← hxv] at N hxc
      have hxs : ∃ xa xn xc, xv = .slice xa xn xc := ⟨_, _, _, hxv⟩
      obtain ⟨xa, xn, xc, rfl⟩ := hxs
      have HGh : Hid (Gv w wr (.slice pa P.length pc) P) := hG
      clear hG hP hM hx hxm hxv
      go_wp2_with fail
      refine N.out.mono ?_
      clear N hxc
      rintro e u1 ⟨v1, rfl, ho1, hu1⟩
      obtain ⟨ma, mc, rfl⟩ := ownsM_shape ho1
      have sM := (owns_see ho1).1
      have hsr : Hid (Src Try.prog 10 25 (.slice ma M.length mc) M.length (M.flatMap xs10) u1) := src_cells sM (xsees_nil sM) mc
      have HG1 : Hid (Gv w u1 (.slice pa P.length pc) P) := HGh.out.more hu1
      clear HGh ho1 hu1 sM
      go_wp2_with (at_builtin; go_must (refine wpList_append_grew _ rfl _ _ 25 25 rfl w.heap.size 39 i1 _ 10 112 Try.underlying25 hi1 hy0 hy1 hy2 rfl _ P.length _ rfl HG1.out.row _ M.length (M.flatMap xs10) rfl hsr.out (by unfold maxLen; omega) (by omega) HG1.out.bel.size ?_; intro v5 w5 ho5 hg5))
      have hG5 := HG1.out.addL ho5 hg5
      rw [← HST.out] at hG5
      have HB5 : Hid (Gv w w5 v5 (nfl (vs.take (j + 1)))) := hG5
      clear ho5 hg5 hG5 HST HG1 hsr
      go_wp2_with fail
      go_roundw
      case rel => exact ⟨j + 1, by omega, by go_num, HB5.out⟩
      case measure => simp [intOf]; omega
    · obtain rfl : j = vs.length := by omega
      rw [List.take_of_length_le (Nat.le_refl _)] at hG
      have hjg' : ¬ (vs.length : Int) < (vs.length : Int) := by omega
      obtain ⟨la, lc, hv⟩ := ownsM_shape hG.row
      subst hv
      have sl := (owns_see hG.row).1
      have hB := hG.bel
      have NM : Hid (Calls Try.prog 23 #[.slice la (nfl vs).length lc] wr fun e w' => ∃ v, e = .returned v ∧ w'.ownsRow wr.heap.size 39 10 v (nrm (nfl vs)).length ((nrm (nfl vs)).flatMap xs10) ∧ Below wr.heap.size wr w') :=
        refNorm_any la (nfl vs) lc wr sl htot
      clear hG sl
      go_wp2_with fail
      refine NM.out.mono ?_
      rintro e u2 ⟨v2, rfl, ho2, hu2⟩
      go_wp2_with fail
      go_ret
      exact ⟨v2, rfl, ownsM_mono ho2 hB.size, hB.trans (hu2.mono hB.size)⟩
end Go.Proofs.Ytdpglmgnbhpneaa

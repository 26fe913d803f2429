/-
  CONTRACTS: Replicas, Has, Ranges.
-/
import Derived.Test.YtcnceipkoapcpaaDoorRngMem
import Derived.Deep.Cut
namespace Go.Proofs.YtcnceipkoapcpaaDoor
open Go.RowKit

def metV (acc : List Nat) : List Value := (List.range 6).map fun k => Value.bool (decide (k ∈ acc))
theorem metV_at (acc : List Nat) {k : Nat} (h : k < 6) : (metV acc)[k]? = some (.bool (decide (k ∈ acc))) := by
  simp [metV, h]
theorem metV_set (acc : List Nat) {k : Nat} (h : k < 6) : (metV acc).set k (.bool true) = metV (acc ++ [k]) := by
  apply List.ext_getElem?
  intro j
  rw [List.getElem?_set]
  by_cases hj : k = j
  · subst hj
    rw [metV_at _ h]
    simp [metV, h]
  · rw [if_neg hj]
    by_cases h6 : j < 6
    · rw [metV_at _ h6, metV_at _ h6]
      have : ¬ j = k := fun e => hj e.symm
      simp [this]
    · rw [List.getElem?_eq_none (by simp [metV]; omega), List.getElem?_eq_none (by simp [metV]; omega)]
/-- What a round of Replicas keeps. -/
structure RpSt (w wr : World) (acc : List Nat) (v : Value) : Prop where
  row : wr.ownsRow (w.heap.size + 1) 3 1 v acc.length (vI (zs acc))
  met : Blk wr w.heap.size (metV acc) 59
  bel : Below w.heap.size w wr
  sz : w.heap.size + 1 ≤ wr.heap.size
/-- .. when a node was marked: the row is still to grow. -/
structure RpMd (w wr : World) (acc : List Nat) (x : Nat) (v : Value) : Prop where
  row : wr.ownsRow (w.heap.size + 1) 3 1 v acc.length (vI (zs acc))
  met : Blk wr w.heap.size (metV (acc ++ [x])) 59
  bel : Below w.heap.size w wr
  sz : w.heap.size + 1 ≤ wr.heap.size
theorem RpSt.mark {w wr : World} {acc : List Nat} {v : Value} (h : RpSt w wr acc v) {x : Nat} (hx : x < 6) : RpMd w (wr.setCell ⟨w.heap.size, x, none⟩ (.bool true)) acc x v := by
  refine ⟨h.row.kept (row := some w.heap.size) (grownBy_setCell ⟨rfl, rfl, rfl, Nat.le_refl _, fun _ _ _ => rfl⟩) (.inr fun e => ?_), h.met.setTo x _ _ (metV_set acc hx), h.bel.trans ⟨rfl, rfl, rfl, by simp [World.setCell], fun k hk => Below.heap_setCell _ _ _ _ (fun e => by have e' : k = w.heap.size := e; omega)⟩, by have := h.sz; simpa [World.setCell] using this⟩
  have := (h.row.lt _ e).1
  omega
theorem RpMd.grew {w wr w' : World} {acc : List Nat} {x : Nat} {v v' : Value} (h : RpMd w wr acc x v) (ho : w'.ownsRow (w.heap.size + 1) 3 1 v' (acc.length + 1) (vI (zs acc) ++ vI [(x : Int)])) (hg : Grew wr w' v v') : RpSt w w' (acc ++ [x]) v' := by
  have hne : v.ownBlock ≠ some w.heap.size := fun e => by
    have := (h.row.lt _ e).1
    omega
  refine ⟨?_, h.met.carry (hg.rows.block _ (by have := h.sz; omega) (fun e => hne e.symm)), h.bel.trans (hg.below (by have := h.sz; omega) (fun g e => by have := (h.row.lt _ e).1; omega)), Nat.le_trans h.sz hg.rows.size⟩
  have e1 : (acc ++ [x]).length = acc.length + 1 := by simp
  have e2 : vI (zs (acc ++ [x])) = vI (zs acc) ++ vI [(x : Int)] := by simp [vI, zs]
  rw [e1, e2]
  exact ho
theorem RpSt.drew {w wr : World} {acc : List Nat} {v : Value} (h : RpSt w wr acc v) : RpSt w wr.drew acc v := ⟨h.row, h.met, h.bel.drew, h.sz⟩
theorem src_oneR (u : World) (x : Int) : Src Tryd.prog 1 37 (.slice (some ⟨u.heap.size, 0, none⟩) 1 1) 1 (vI [x]) (u.alloc (.cells #[.int .i64 x] 3)) := by
  refine Src.ofSlice _ Tryd.underlying37 _ 1 1 _ (by simp [vI_len]) ?_ (vI_one _)
  intro j v hv
  match j, hv with
  | 0, hv => simp [vI] at hv; subst hv; simp [Addr.add]
  | j + 1, hv => simp [vI] at hv
theorem src_oneRd (u : World) (x : Int) : Src Tryd.prog 1 37 (.slice (some ⟨u.heap.size, 0, none⟩) 1 1) 1 (vI [x]) (u.alloc (.cells #[.int .i64 x] 3)).drew := by
  refine Src.ofSlice _ Tryd.underlying37 _ 1 1 _ (by simp [vI_len]) ?_ (vI_one _)
  intro j v hv
  match j, hv with
  | 0, hv => simp [vI] at hv; subst hv; simp [Addr.add]
  | j + 1, hv => simp [vI] at hv
theorem Grew.drewL {w w' : World} {v v' : Value} (h : Grew w.drew w' v v') : Grew w w' v v' := ⟨⟨h.rows.os, h.rows.tape, h.rows.output, h.rows.size, h.rows.block⟩, h.2⟩
theorem tmod_nat (a b : Nat) : Int.tmod (a : Int) (b : Int) = ((a % b : Nat) : Int) := by
  rw [Int.tmod_eq_emod_of_nonneg (by omega)]
  rfl
theorem owns_isees2 {w : World} {base : Nat} {v : Value} {l : List Int} {n : Nat} (h : w.ownsRow base 3 1 v n (vI l)) : ∃ ao cap, v = .slice ao l.length cap ∧ ISees w ao l ∧ l.length ≤ cap := by
  have hl : l.length = n := by have := h.1; rwa [vI_len, Nat.mul_one] at this
  obtain ⟨ao, cap, rfl, hI⟩ := owns_isees h
  refine ⟨ao, cap, rfl, hI, ?_⟩
  rcases h.2 with ⟨h1, h2⟩ | ⟨g, cap', cur, h1, _, _, hn, _⟩
  · omega
  · injection h1 with h3 h4 h5
    omega
set_option maxRecDepth 100000 in
set_option maxHeartbeats 2000000 in
theorem replicasR_in {w : World} {r : Nat} {l : List Pt} {N c : Nat} (h : RgAt w 48 r l c) (ok : RgOk l N c) (i : Nat) (hi : i < l.length) :
    Calls Tryd.prog 16 #[.pointer (some ⟨r, 0, none⟩), .int .i64 (i : Int)] w fun e w' => ∃ ao cap, e = .returned (.slice ao (repsP l c i).length cap) ∧ ISees w' ao (zs (repsP l c i)) ∧ Below w.heap.size w w' ∧ (repsP l c i).length ≤ cap := by
  have M : Hid (Calls Tryd.prog 29 #[.pointer (some ⟨r, 0, none⟩)] w fun e w' => e = .returned (.bool true) ∧ w' = w) := madeR_at h ok.c1
  obtain ⟨i1, hi1, hy0, hy1, hy2⟩ := infoXR infoInt
  obtain ⟨g, cap, h1, h2⟩ := h.ex
  have hl40 := ok.le
  have hpos := ok.pos
  have hiz : (i : Int) < (l.length : Int) := by omega
  have hi0 : ¬ (i : Int) < 0 := by omega
  have hiN : ¬ l.length ≤ i := by omega
  have hlz : (l.length : Int) ≤ 40 := by omega
  have c0 := h1.cell 0 rfl
  have c1 := h1.cell 1 rfl
  have rlt := h1.lt
  have HX : Hid (∀ wr, Below w.heap.size w wr → wr.cell? ⟨r, 0, none⟩ = some (.slice (some ⟨g, 0, none⟩) l.length cap) ∧ wr.cell? ⟨r, 1, none⟩ = some (.int .i64 (c : Int)) ∧ PSees wr (some ⟨g, 0, none⟩) l) := fun wr hb =>
    ⟨by rw [hb.cell rlt]; exact c0, by rw [hb.cell rlt]; exact c1, h2.below hb (Nat.le_refl _)⟩
  have HOK : Hid (RgOk l N c) := ok
  clear h h1 h2 ok
  have S0 : Hid (RpSt w (w.alloc (.cells #[.bool false, .bool false, .bool false, .bool false, .bool false, .bool false] 59)) [] (.slice none 0 0)) :=
    ⟨World.ownsRow_nil _ _ _ _, Blk.new w _ _, (Below.refl _ _).alloc (Nat.le_refl _) _, by simp⟩
  go_enter Tryd.func16, Tryd.ntmps16
  go_wp2_with (go_at_call 29; refine M.out.mono ?_; rintro e w1 ⟨rfl, hw⟩; obtain rfl := hw.symm; clear hw)
  clear M
  have hpz : (0 : Int) < (l.length : Int) := by omega
  go_loopw [6, 30] (fun s6 s30 wr => ∃ (s : Nat) (v : Value), s ≤ l.length ∧ s6 = v ∧ s30 = .int .i64 s ∧ RpSt w wr (repS l c i s) v) (fun _ s30 _ => l.length - (intOf s30).toNat)
  case atStart => exact ⟨0, _, by omega, rfl, rfl, S0.out⟩
  case round =>
    obtain ⟨s, v, hs, hv, rfl, st⟩ := hrel
    obtain rfl := hv.symm
    clear hv S0 c0 c1 rlt
    obtain ⟨ao, cp, hvv, hIS, hcp⟩ := owns_isees2 st.row
    have hzl : (zs (repS l c i s)).length = (repS l c i s).length := zs_len _
    rw [hzl] at hvv hcp
    subst hvv
    clear hzl
    rcases Nat.lt_or_ge s l.length with hlt | hge
    · clear hIS hcp
      obtain ⟨d0, d1, hP⟩ := HX.out wr st.bel
      obtain ⟨j, hj⟩ : ∃ j, j = (i + s) % l.length := ⟨_, rfl⟩
      have hjl : j < l.length := by rw [hj]; exact Nat.mod_lt _ hpos
      have hc : l[j]? = some l[j] := List.getElem?_eq_getElem hjl
      obtain ⟨g', e, -, d2⟩ := hP _ _ hc
      cases e
      have hnd := HOK.out.nd _ (List.getElem_mem hjl)
      have hN5 := HOK.out.N5
      have hat : ndAt l ((i + s) % l.length) = l[j].nd := by rw [← hj]; exact ndAt_at hc
      generalize hx : l[j].nd = x at *
      have hx5 : x < 6 := by omega
      have m0 := st.met.cell x (metV_at _ hx5)
      have mf := st.met.frozen x
      have hrem : Int.tmod ((i : Int) + (s : Int)) (l.length : Int) = (j : Int) := by
        have := tmod_nat (i + s) l.length
        rw [← hj] at this
        rwa [Int.natCast_add] at this
      have hjz : (j : Int) < (l.length : Int) := by omega
      have hsz : (s : Int) < (l.length : Int) := by omega
      have hxz : (x : Int) < 6 := by omega
      have hx1 : (1 : Int) ≤ (x : Int) := by omega
      have hlen := repS_le l c i s
      have hacc : Hid (repS l c i (s + 1) = addR c (repS l c i s) x) := (by rw [repS, hat] : repS l c i (s + 1) = addR c (repS l c i s) x)
      have hc5 : c ≤ 5 := Nat.le_trans HOK.out.cN HOK.out.N5
      have hST : Hid (RpSt w wr (repS l c i s) (.slice ao (repS l c i s).length cp)) := st
      clear st hP hc hat hj hx HX HOK
      generalize repS l c i s = acc at *
      by_cases hA : acc.length < c
      · have hAz : (acc.length : Int) < (c : Int) := by omega
        by_cases hB : x ∈ acc
        · rw [decide_eq_true hB] at m0
          have hE : Hid (repS l c i (s + 1) = acc) := (by rw [hacc.out, addR, if_neg (by simp [hB])] : repS l c i (s + 1) = acc)
          go_wp2_with fail
          go_region
          go_wp2_with fail
          refine ⟨⟨s + 1, _, by omega, rfl, by go_num, ?_⟩, by simp [intOf]; omega⟩
          rw [hE.out]; exact hST.out.drew
        · rw [decide_eq_false hB] at m0
          have hE : Hid (repS l c i (s + 1) = acc ++ [x]) := (by rw [hacc.out, addR, if_pos ⟨hA, hB⟩] : repS l c i (s + 1) = acc ++ [x])
          have hMD : Hid (RpMd w (wr.setCell ⟨w.heap.size, x, none⟩ (.bool true)) acc x (.slice ao acc.length cp)) := hST.out.mark hx5
          clear hST hacc
          go_wp2_with fail
          go_region
          go_upto_region 11 with fail
          generalize wr.setCell ⟨w.heap.size, x, none⟩ (.bool true) = wu at *
          have hSR : Hid (Src Tryd.prog 1 37 (.slice (some ⟨wu.heap.size, 0, none⟩) 1 1) 1 (vI [(x : Int)]) (wu.alloc (.cells #[.int .i64 (x : Int)] 3)).drew) := src_oneRd wu x
          have hO : Hid ((wu.alloc (.cells #[.int .i64 (x : Int)] 3)).drew.ownsRow (w.heap.size + 1) 3 1 (.slice ao acc.length cp) acc.length (vI (zs acc))) := hMD.out.row.alloc _
          have hS : Hid (w.heap.size + 1 ≤ wu.heap.size) := hMD.out.sz
          go_wp2_with (at_builtin; go_must (refine wpList_append_grew _ rfl _ _ 37 37 rfl (w.heap.size + 1) 3 i1 _ 1 8 Tryd.underlying37 hi1 hy0 hy1 hy2 rfl _ acc.length (vI (zs acc)) rfl hO.out _ 1 (vI [(x : Int)]) rfl hSR.out (by unfold maxLen; omega) (by omega) (by have := hS.out; show _ ≤ (wu.alloc _).heap.size; rw [World.size_alloc]; omega) ?_; intro v3 w3 ho3 hg3))
          go_roundw
          case rel => exact ⟨s + 1, _, by omega, rfl, by go_num, by rw [hE.out]; exact hMD.out.grew ho3 (Grew.alloc (Grew.drewL hg3))⟩
          case measure => (simp [intOf]; try omega)
      · have hAz : ¬ (acc.length : Int) < (c : Int) := by omega
        have hE : Hid (repS l c i (s + 1) = acc) := (by rw [hacc.out, addR, if_neg (by simp [hA])] : repS l c i (s + 1) = acc)
        go_wp2_with fail
        go_region
        go_wp2_with fail
        go_roundw
        case rel => exact ⟨s + 1, _, by omega, rfl, by go_num, by rw [hE.out]; exact hST.out.drew⟩
        case measure => (simp [intOf]; try omega)
    · obtain rfl : s = l.length := by omega
      have hgez : ¬ (l.length : Int) < (l.length : Int) := by omega
      have HB : Hid (Below w.heap.size w wr) := st.bel
      clear st
      go_wp2_with fail
      go_ret
      exact ⟨_, _, rfl, hIS, HB.out, hcp⟩
end Go.Proofs.YtcnceipkoapcpaaDoor

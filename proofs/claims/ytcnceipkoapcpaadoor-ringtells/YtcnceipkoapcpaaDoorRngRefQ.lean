/-
  CONTRACTS: the document's ring: Replicas, Has, Ranges.
-/
import Derived.Test.YtcnceipkoapcpaaDoorRngRef
namespace Go.Proofs.YtcnceipkoapcpaaDoor
open Go.RowKit

set_option maxRecDepth 100000 in
set_option maxHeartbeats 2000000 in
theorem refReplicas_in {w : World} {r : Nat} {l : List Pt} {N c : Nat} (h : RgAt w 33 r l c) (ok : RgOk l N c) (i : Nat) (hi : i < l.length) :
    Calls Tryd.prog 17 #[.pointer (some ⟨r, 0, none⟩), .int .i64 (i : Int)] w fun e w' => ∃ ao cap, e = .returned (.slice ao (repsP l c i).length cap) ∧ ISees w' ao (zs (repsP l c i)) ∧ Below w.heap.size w w' := by
  obtain ⟨i1, hi1, hy0, hy1, hy2⟩ := infoXR infoInt
  obtain ⟨g, cap, h1, h2⟩ := h.ex
  have hl40 := ok.le
  have hpos := ok.pos
  have hiz : (i : Int) < (l.length : Int) := by omega
  have hi0 : ¬ (i : Int) < 0 := by omega
  have hiN : ¬ l.length ≤ i := by omega
  have hlz : (l.length : Int) ≤ 40 := by omega
  have c0 := h1.cell 0 rfl
  have c1 := h1.cell 1 rfl
  have rlt := h1.lt
  have HX : Hid (∀ wr, Below w.heap.size w wr → wr.cell? ⟨r, 0, none⟩ = some (.slice (some ⟨g, 0, none⟩) l.length cap) ∧ wr.cell? ⟨r, 1, none⟩ = some (.int .i64 (c : Int)) ∧ PSees wr (some ⟨g, 0, none⟩) l) := fun wr hb =>
    ⟨by rw [hb.cell rlt]; exact c0, by rw [hb.cell rlt]; exact c1, h2.below hb (Nat.le_refl _)⟩
  have hRL := reps_len ok hi
  have hc5 : c ≤ 5 := Nat.le_trans ok.cN ok.N5
  have CI : Hid (∀ (u : World) (ao : Option Addr) (acc : List Nat) (cp x : Nat), acc.length ≤ 5 → ISees u ao (zs acc) → Calls Tryd.prog 33 #[.slice ao acc.length cp, .int .i64 (x : Int)] u fun e w' => e = .returned (.bool (decide (x ∈ acc))) ∧ w' = u) := fun u ao acc cp x ha hI => by
    have := in15_any ao (zs acc) cp x u hI (by rw [zs_len]; omega)
    rwa [zs_len, decide_eq_decide.2 zs_mem] at this
  clear h h1 h2 ok
  go_enter Tryd.func17, Tryd.ntmps17
  go_wp2_with fail
  have hpz : (0 : Int) < (l.length : Int) := by omega
  clear c0 c1 rlt
  go_loopw [5, 6] (fun s5 s6 wr => ∃ (k : Nat) (v : Value), k ≤ l.length ∧ s5 = v ∧ s6 = .int .i64 k ∧ wr.ownsRow w.heap.size 3 1 v (repS l c i k).length (vI (zs (repS l c i k))) ∧ Below w.heap.size w wr) (fun _ s6 _ => l.length - (intOf s6).toNat)
  case atStart => exact ⟨0, _, by omega, rfl, rfl, World.ownsRow_nil _ _ _ _, Below.refl _ _⟩
  case round =>
    obtain ⟨k, v, hk, hv, rfl, ho, hb⟩ := hrel
    obtain rfl := hv.symm
    clear hv
    obtain ⟨ao, cp, hvv, hIS⟩ := owns_isees ho
    have hzl : (zs (repS l c i k)).length = (repS l c i k).length := zs_len _
    rw [hzl] at hvv
    subst hvv
    clear hzl
    obtain ⟨d0, d1, hP⟩ := HX.out wr hb
    have hle := repS_le l c i k
    by_cases hA : (repS l c i k).length < c
    · have hkl : k < l.length := by
        rcases Nat.lt_or_ge k l.length with h | h
        · exact h
        · have : k = l.length := by omega
          subst this
          have : (repsP l c i).length < c := hA
          omega
      obtain ⟨j, hj⟩ : ∃ j, j = (i + k) % l.length := ⟨_, rfl⟩
      have hjl : j < l.length := by rw [hj]; exact Nat.mod_lt _ hpos
      have hc : l[j]? = some l[j] := List.getElem?_eq_getElem hjl
      obtain ⟨g', e, -, d2⟩ := hP _ _ hc
      cases e
      have hat : ndAt l ((i + k) % l.length) = l[j].nd := by rw [← hj]; exact ndAt_at hc
      generalize hx : l[j].nd = x at *
      have hrem : Int.tmod ((i : Int) + (k : Int)) (l.length : Int) = (j : Int) := by
        have := tmod_nat (i + k) l.length
        rw [← hj] at this
        rwa [Int.natCast_add] at this
      have hjz : (j : Int) < (l.length : Int) := by omega
      have hkz : (k : Int) < (l.length : Int) := by omega
      have hAz : ((repS l c i k).length : Int) < (c : Int) := by omega
      have hacc : Hid (repS l c i (k + 1) = addR c (repS l c i k) x) := (by rw [repS, hat] : repS l c i (k + 1) = addR c (repS l c i k) x)
      have C : Hid (∀ u, Below wr.heap.size wr u → Calls Tryd.prog 33 #[.slice ao (repS l c i k).length cp, .int .i64 (x : Int)] u fun e w' => e = .returned (.bool (decide (x ∈ repS l c i k))) ∧ w' = u) := fun u hu => CI.out u ao _ cp x (by omega) (hIS.below hu (Nat.le_refl _))
      have HO : Hid (wr.ownsRow w.heap.size 3 1 (.slice ao (repS l c i k).length cp) (repS l c i k).length (vI (zs (repS l c i k)))) := ho
      have HB : Hid (Below w.heap.size w wr) := hb
      have hsz := hb.size
      clear ho hb hP hc hat hj hx HX CI hIS hRL
      generalize repS l c i k = acc at *
      by_cases hB : x ∈ acc
      · rw [decide_eq_true hB] at C
        have hE : Hid (repS l c i (k + 1) = acc) := (by rw [hacc.out, addR, if_neg (by simp [hB])] : repS l c i (k + 1) = acc)
        go_wp2_with fail
        go_region
        go_wp2_with (go_at_call 33; refine (C.out _ (Below.refl _ _).drew).mono ?_; rintro e u ⟨rfl, hu⟩; obtain rfl := hu.symm; clear hu)
        go_roundw
        case rel => exact ⟨k + 1, _, by omega, rfl, by go_num, by rw [hE.out]; exact HO.out, HB.out.drew⟩
        case measure => (simp [intOf]; try omega)
      · rw [decide_eq_false hB] at C
        have hE : Hid (repS l c i (k + 1) = acc ++ [x]) := (by rw [hacc.out, addR, if_pos ⟨hA, hB⟩] : repS l c i (k + 1) = acc ++ [x])
        have hSR : Hid (Src Tryd.prog 1 37 (.slice (some ⟨wr.heap.size, 0, none⟩) 1 1) 1 (vI [(x : Int)]) (wr.alloc (.cells #[.int .i64 (x : Int)] 3)).drew) := src_oneRd wr x
        have hO : Hid ((wr.alloc (.cells #[.int .i64 (x : Int)] 3)).drew.ownsRow w.heap.size 3 1 (.slice ao acc.length cp) acc.length (vI (zs acc))) := HO.out.alloc _
        go_wp2_with fail
        go_region
        go_wp2_with (first | (go_at_call 33; refine (C.out _ (Below.refl _ _).drew).mono ?_; rintro e u ⟨rfl, hu⟩; obtain rfl := hu.symm; clear hu) | (at_builtin; go_must (refine wpList_append_grew _ rfl _ _ 37 37 rfl w.heap.size 3 i1 _ 1 8 Tryd.underlying37 hi1 hy0 hy1 hy2 rfl _ acc.length (vI (zs acc)) rfl hO.out _ 1 (vI [(x : Int)]) rfl hSR.out (by unfold maxLen; omega) (by omega) (by show _ ≤ (wr.alloc _).heap.size; rw [World.size_alloc]; omega) ?_; intro v3 w3 ho3 hg3)))
        go_roundw
        case rel =>
          have := ints_more HO.out HB.out ho3 (Grew.alloc (Grew.drewL hg3))
          exact ⟨k + 1, _, by omega, rfl, by go_num, by rw [hE.out]; exact this.1, this.2⟩
        case measure => (simp [intOf]; try omega)
    · have hAz : ¬ ((repS l c i k).length : Int) < (c : Int) := by omega
      have hE : repsP l c i = repS l c i k := repS_done hk (by omega)
      have HE : Hid (repsP l c i = repS l c i k) := hE
      clear hE hP ho HX CI hRL
      generalize repS l c i k = acc at *
      go_wp2_with fail
      go_ret
      rw [HE.out]
      exact ⟨_, ⟨_, rfl⟩, hIS, hb⟩
set_option maxRecDepth 100000 in
theorem refReplicas_out {w : World} {r : Nat} {l : List Pt} {c : Nat} (h : RgAt w 33 r l c) (i : Int) (hi : ¬ (0 ≤ i ∧ i < l.length)) :
    Calls Tryd.prog 17 #[.pointer (some ⟨r, 0, none⟩), .int .i64 i] w fun e w' => e = .returned (.slice none 0 0) ∧ w' = w := by
  obtain ⟨g, cap, h1, h2⟩ := h.ex
  have c0 := h1.cell 0 rfl
  clear h h1 h2
  by_cases h0 : i < 0
  · go_enter Tryd.func17, Tryd.ntmps17
    go_wp2_with fail
    go_ret
    exact ⟨rfl, rfl⟩
  · have h1 : (l.length : Int) ≤ i := by omega
    go_enter Tryd.func17, Tryd.ntmps17
    go_wp2_with fail
    go_ret
    exact ⟨rfl, rfl⟩
theorem refReplicas_any {w : World} {r : Nat} {l : List Pt} {N c : Nat} (h : RgAt w 33 r l c) (ok : RgOk l N c) (i : Int) :
    Calls Tryd.prog 17 #[.pointer (some ⟨r, 0, none⟩), .int .i64 i] w fun e w' => ∃ ao cap, e = .returned (.slice ao (repI l c i).length cap) ∧ ISees w' ao (zs (repI l c i)) ∧ Below w.heap.size w w' := by
  by_cases hi : 0 ≤ i ∧ i < l.length
  · obtain ⟨k, rfl⟩ : ∃ k : Nat, i = k := ⟨i.toNat, by omega⟩
    have hk : k < l.length := by omega
    rw [repI_at l c hk]
    exact refReplicas_in h ok k hk
  · refine (refReplicas_out h i hi).mono ?_
    rintro e w' ⟨rfl, rfl⟩
    have : repI l c i = [] := if_neg hi
    rw [this]
    exact ⟨none, 0, rfl, isees_nil _, Below.refl _ _⟩
set_option maxRecDepth 100000 in
theorem refHas_any {w : World} {r : Nat} {l : List Pt} {N c : Nat} (h : RgAt w 33 r l c) (ok : RgOk l N c) (i n : Int) :
    Calls Tryd.prog 21 #[.pointer (some ⟨r, 0, none⟩), .int .i64 i, .int .i64 n] w fun e w' => e = .returned (.bool (decide (n ∈ zs (repI l c i)))) ∧ Below w.heap.size w w' := by
  have C : Hid (Calls Tryd.prog 17 #[.pointer (some ⟨r, 0, none⟩), .int .i64 i] w fun e w' => ∃ ao cap, e = .returned (.slice ao (repI l c i).length cap) ∧ ISees w' ao (zs (repI l c i)) ∧ Below w.heap.size w w') := refReplicas_any h ok i
  have K : Hid (∀ (ao : Option Addr) (cap : Nat) (u : World), ISees u ao (zs (repI l c i)) → Calls Tryd.prog 33 #[.slice ao (repI l c i).length cap, .int .i64 n] u fun e w' => e = .returned (.bool (decide (n ∈ zs (repI l c i)))) ∧ w' = u) := fun ao cap u hu => by
    have := in15_any ao (zs (repI l c i)) cap n u hu (by rw [zs_len]; have := repI_le ok i; omega)
    rwa [zs_len] at this
  clear h ok
  generalize repI l c i = R at *
  go_enter Tryd.func21, Tryd.ntmps21
  go_wp2_with (first | (go_at_call 17; refine C.out.mono ?_; rintro e w1 ⟨ao, cap, rfl, hI, hB⟩) | (go_at_call 33; refine (K.out ao cap w1 hI).mono ?_; rintro e w2 ⟨rfl, hw⟩; obtain rfl := hw.symm; clear hw))
  go_ret
  exact ⟨rfl, hB⟩
set_option maxRecDepth 100000 in
set_option maxHeartbeats 2000000 in
theorem refRanges_any {w : World} {r : Nat} {l : List Pt} {N c : Nat} (h : RgAt w 33 r l c) (ok : RgOk l N c) (n : Int) :
    Calls Tryd.prog 19 #[.pointer (some ⟨r, 0, none⟩), .int .i64 n] w fun e w' => ∃ ao cap, e = .returned (.slice ao (rgT l c n l.length).length cap) ∧ ISees w' ao (zs (rgT l c n l.length)) ∧ Below w.heap.size w w' := by
  obtain ⟨i1, hi1, hy0, hy1, hy2⟩ := infoXR infoInt
  have HH : Hid (∀ (u : World) (i : Nat), Below w.heap.size w u → i < l.length → Calls Tryd.prog 21 #[.pointer (some ⟨r, 0, none⟩), .int .i64 (i : Int), .int .i64 n] u fun e w' => e = .returned (.bool (decide (n ∈ zs (repsP l c i)))) ∧ Below u.heap.size u w') := fun u i hu hi => by
    have := refHas_any (h.to hu) ok i n
    rwa [repI_at l c hi] at this
  have hl40 := ok.le
  have hlz : (l.length : Int) ≤ 40 := by omega
  obtain ⟨g, cap, h1, h2⟩ := h.ex
  have c0 := h1.cell 0 rfl
  clear h ok h1 h2
  go_enter Tryd.func19, Tryd.ntmps19
  go_wp2_with fail
  clear c0
  go_loopw [5, 12] (fun s5 s12 wr => ∃ (k : Nat) (v : Value), k ≤ l.length ∧ s5 = v ∧ s12 = .int .i64 k ∧ wr.ownsRow w.heap.size 3 1 v (rgT l c n k).length (vI (zs (rgT l c n k))) ∧ Below w.heap.size w wr) (fun _ s12 _ => l.length - (intOf s12).toNat)
  case atStart => exact ⟨0, _, by omega, rfl, rfl, World.ownsRow_nil _ _ _ _, Below.refl _ _⟩
  case round =>
    obtain ⟨k, v, hk, hv, rfl, ho, hb⟩ := hrel
    obtain rfl := hv.symm
    clear hv
    rcases Nat.lt_or_ge k l.length with hlt | hge
    · have C : Hid (Calls Tryd.prog 21 #[.pointer (some ⟨r, 0, none⟩), .int .i64 (k : Int), .int .i64 n] wr fun e w' => e = .returned (.bool (decide (n ∈ zs (repsP l c k)))) ∧ Below wr.heap.size wr w') := HH.out wr k hb hlt
      have hltz : (k : Int) < (l.length : Int) := by omega
      have hsu := rgT_succ l c n k
      have hle := rgT_le l c n k
      by_cases hm : n ∈ zs (repsP l c k)
      · rw [decide_eq_true hm] at C
        rw [if_pos hm] at hsu
        have HS : Hid (rgT l c n (k + 1) = rgT l c n k ++ [k]) := hsu
        clear hsu HH hm
        generalize rgT l c n k = T at *
        have HO : Hid (∀ w2, Below wr.heap.size wr w2 → w2.ownsRow w.heap.size 3 1 v T.length (vI (zs T)) ∧ Below w.heap.size w w2) := fun w2 h2 => ⟨owns_to ho h2, hb.trans (h2.mono hb.size)⟩
        have hsw : Hid (∀ w2, Below wr.heap.size wr w2 → w.heap.size ≤ w2.heap.size) := fun w2 h2 => Nat.le_trans hb.size h2.size
        clear ho hb
        go_wp2_with (first | (go_at_call 21; refine C.out.mono ?_; rintro e w2 ⟨rfl, hb2⟩) | (at_builtin; go_must (refine wpList_append_grew _ rfl _ _ 37 37 rfl w.heap.size 3 i1 _ 1 8 Tryd.underlying37 hi1 hy0 hy1 hy2 rfl _ T.length (vI (zs T)) rfl ((HO.out w2 hb2).1.alloc _) _ 1 (vI [(k : Int)]) rfl (src_oneR _ _) (by unfold maxLen; omega) (by omega) (by rw [World.size_alloc]; have := hsw.out w2 hb2; omega) ?_; intro v3 w3 ho3 hg3)))
        go_roundw
        case rel =>
          have := ints_more (HO.out w2 hb2).1 (HO.out w2 hb2).2 ho3 (Grew.alloc hg3)
          exact ⟨k + 1, _, by omega, rfl, by go_num, by rw [HS.out]; exact this.1, this.2⟩
        case measure => (simp [intOf]; try omega)
      · rw [decide_eq_false hm] at C
        rw [if_neg hm] at hsu
        have HS : Hid (rgT l c n (k + 1) = rgT l c n k) := hsu
        clear hsu HH hm
        generalize rgT l c n k = T at *
        go_wp2_with (go_at_call 21; refine C.out.mono ?_; rintro e w2 ⟨rfl, hb2⟩)
        go_roundw
        case rel => exact ⟨k + 1, _, by omega, rfl, by go_num, by rw [HS.out]; exact owns_to ho hb2, hb.trans (hb2.mono hb.size)⟩
        case measure => (simp [intOf]; try omega)
    · obtain rfl : k = l.length := by omega
      have hgez : ¬ (l.length : Int) < (l.length : Int) := by omega
      obtain ⟨ao2, cap2, hv2, hI⟩ := owns_isees ho
      rw [zs_len] at hv2
      subst hv2
      clear ho HH
      go_wp2_with fail
      go_ret
      exact ⟨_, ⟨_, rfl⟩, hI, hb⟩
end Go.Proofs.YtcnceipkoapcpaaDoor

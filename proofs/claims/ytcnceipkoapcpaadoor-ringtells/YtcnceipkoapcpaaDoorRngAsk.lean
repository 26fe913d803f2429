/-
  CONTRACTS: Replicas of any number, Has, Ranges.
-/
import Derived.Test.YtcnceipkoapcpaaDoorRngRep
namespace Go.Proofs.YtcnceipkoapcpaaDoor
open Go.RowKit

def repI (l : List Pt) (c : Nat) (i : Int) : List Nat := if 0 ≤ i ∧ i < l.length then repsP l c i.toNat else []
theorem repI_at (l : List Pt) (c : Nat) {i : Nat} (h : i < l.length) : repI l c (i : Int) = repsP l c i := by
  unfold repI
  rw [if_pos ⟨by omega, by omega⟩, Int.toNat_natCast]
theorem repI_le {l : List Pt} {N c : Nat} (ok : RgOk l N c) (i : Int) : (repI l c i).length ≤ 5 := by
  unfold repI
  have h1 := repS_le l c i.toNat l.length
  have h2 := ok.cN
  have h3 := ok.N5
  split
  · unfold repsP; omega
  · simp
set_option maxRecDepth 100000 in
theorem replicasR_out {w : World} {r : Nat} {l : List Pt} {N c : Nat} (h : RgAt w 48 r l c) (ok : RgOk l N c) (i : Int) (hi : ¬ (0 ≤ i ∧ i < l.length)) :
    Calls Tryd.prog 16 #[.pointer (some ⟨r, 0, none⟩), .int .i64 i] w fun e w' => e = .returned (.slice none 0 0) ∧ w' = w := by
  have M : Hid (Calls Tryd.prog 29 #[.pointer (some ⟨r, 0, none⟩)] w fun e w' => e = .returned (.bool true) ∧ w' = w) := madeR_at h ok.c1
  obtain ⟨g, cap, h1, h2⟩ := h.ex
  have c0 := h1.cell 0 rfl
  clear h h1 h2 ok
  by_cases h0 : i < 0
  · go_enter Tryd.func16, Tryd.ntmps16
    go_wp2_with (go_at_call 29; refine M.out.mono ?_; rintro e w1 ⟨rfl, hw⟩; obtain rfl := hw.symm; clear hw)
    go_ret
    exact ⟨rfl, rfl⟩
  · have h1 : (l.length : Int) ≤ i := by omega
    go_enter Tryd.func16, Tryd.ntmps16
    go_wp2_with (go_at_call 29; refine M.out.mono ?_; rintro e w1 ⟨rfl, hw⟩; obtain rfl := hw.symm; clear hw)
    go_ret
    exact ⟨rfl, rfl⟩
set_option maxRecDepth 100000 in
theorem replicasR_no {w : World} {p : Option Addr} (h : NoRg w p) (i : Int) : Calls Tryd.prog 16 #[.pointer p, .int .i64 i] w fun e w' => e = .returned (.slice none 0 0) ∧ w' = w := by
  have M : Hid (Calls Tryd.prog 29 #[.pointer p] w fun e w' => e = .returned (.bool false) ∧ w' = w) := madeR_no h
  clear h
  go_enter Tryd.func16, Tryd.ntmps16
  go_wp2_with (go_at_call 29; refine M.out.mono ?_; rintro e w1 ⟨rfl, hw⟩; obtain rfl := hw.symm; clear hw)
  go_ret
  exact ⟨rfl, rfl⟩
theorem isees_nil (w : World) : ISees w none (zs []) := fun i x h => by simp [zs] at h
theorem replicasR_any {w : World} {r : Nat} {l : List Pt} {N c : Nat} (h : RgAt w 48 r l c) (ok : RgOk l N c) (i : Int) :
    Calls Tryd.prog 16 #[.pointer (some ⟨r, 0, none⟩), .int .i64 i] w fun e w' => ∃ ao cap, e = .returned (.slice ao (repI l c i).length cap) ∧ ISees w' ao (zs (repI l c i)) ∧ Below w.heap.size w w' := by
  by_cases hi : 0 ≤ i ∧ i < l.length
  · obtain ⟨k, rfl⟩ : ∃ k : Nat, i = k := ⟨i.toNat, by omega⟩
    have hk : k < l.length := by omega
    rw [repI_at l c hk]
    exact (replicasR_in h ok k hk).mono fun e w' ⟨ao, cap, h1, h2, h3, _⟩ => ⟨ao, cap, h1, h2, h3⟩
  · refine (replicasR_out h ok i hi).mono ?_
    rintro e w' ⟨rfl, rfl⟩
    have : repI l c i = [] := if_neg hi
    rw [this]
    exact ⟨none, 0, rfl, isees_nil _, Below.refl _ _⟩
set_option maxRecDepth 100000 in
theorem hasR_any {w : World} {r : Nat} {l : List Pt} {N c : Nat} (h : RgAt w 48 r l c) (ok : RgOk l N c) (i n : Int) :
    Calls Tryd.prog 20 #[.pointer (some ⟨r, 0, none⟩), .int .i64 i, .int .i64 n] w fun e w' => e = .returned (.bool (decide (n ∈ zs (repI l c i)))) ∧ Below w.heap.size w w' := by
  have C : Hid (Calls Tryd.prog 16 #[.pointer (some ⟨r, 0, none⟩), .int .i64 i] w fun e w' => ∃ ao cap, e = .returned (.slice ao (repI l c i).length cap) ∧ ISees w' ao (zs (repI l c i)) ∧ Below w.heap.size w w') := replicasR_any h ok i
  have K : Hid (∀ (ao : Option Addr) (cap : Nat) (u : World), ISees u ao (zs (repI l c i)) → Calls Tryd.prog 34 #[.slice ao (repI l c i).length cap, .int .i64 n] u fun e w' => e = .returned (.bool (decide (n ∈ zs (repI l c i)))) ∧ w' = u) := fun ao cap u hu => by
    have := containsI_any ao (zs (repI l c i)) cap n u hu (by rw [zs_len]; have := repI_le ok i; omega)
    rwa [zs_len] at this
  clear h ok
  generalize repI l c i = R at *
  go_enter Tryd.func20, Tryd.ntmps20
  go_wp2_with (first | (go_at_call 16; refine C.out.mono ?_; rintro e w1 ⟨ao, cap, rfl, hI, hB⟩) | (go_at_call 34; refine (K.out ao cap w1 hI).mono ?_; rintro e w2 ⟨rfl, hw⟩; obtain rfl := hw.symm; clear hw))
  go_ret
  exact ⟨rfl, hB⟩
set_option maxRecDepth 100000 in
theorem hasR_no {w : World} {p : Option Addr} (h : NoRg w p) (i n : Int) : Calls Tryd.prog 20 #[.pointer p, .int .i64 i, .int .i64 n] w fun e w' => e = .returned (.bool false) ∧ w' = w := by
  have C : Hid (Calls Tryd.prog 16 #[.pointer p, .int .i64 i] w fun e w' => e = .returned (.slice none 0 0) ∧ w' = w) := replicasR_no h i
  have K : Hid (Calls Tryd.prog 34 #[.slice none 0 0, .int .i64 n] w fun e w' => e = .returned (.bool false) ∧ w' = w) := containsI_any none [] 0 n w (fun i x h => by simp at h) (by simp)
  clear h
  go_enter Tryd.func20, Tryd.ntmps20
  go_wp2_with (first | (go_at_call 16; refine C.out.mono ?_; rintro e w1 ⟨rfl, hw⟩; obtain rfl := hw.symm; clear hw) | (go_at_call 34; refine K.out.mono ?_; rintro e w2 ⟨rfl, hw⟩; obtain rfl := hw.symm; clear hw))
  go_ret
  exact ⟨rfl, rfl⟩
/-- The ranges of a node, of the first k. -/
def rgT (l : List Pt) (c : Nat) (n : Int) (k : Nat) : List Nat := (List.range k).filter fun i => decide (n ∈ zs (repsP l c i))
theorem rgT_succ (l : List Pt) (c : Nat) (n : Int) (k : Nat) : rgT l c n (k + 1) = if n ∈ zs (repsP l c k) then rgT l c n k ++ [k] else rgT l c n k := by
  unfold rgT
  rw [List.range_succ, List.filter_append]
  by_cases h : n ∈ zs (repsP l c k) <;> simp [h]
theorem rgT_le (l : List Pt) (c : Nat) (n : Int) (k : Nat) : (rgT l c n k).length ≤ k := by
  have := List.length_filter_le (fun i => decide (n ∈ zs (repsP l c i))) (List.range k)
  rw [List.length_range] at this
  exact this
theorem zs_mem {x : Nat} {l : List Nat} : (x : Int) ∈ zs l ↔ x ∈ l := by
  unfold zs
  rw [List.mem_map]
  constructor
  · rintro ⟨y, hy, he⟩
    have : y = x := by omega
    exact this ▸ hy
  · exact fun h => ⟨x, h, rfl⟩
theorem rgT_nat (l : List Pt) (c n : Nat) : rgT l c (n : Int) l.length = rangesP l c n := by
  unfold rgT rangesP
  congr 1
  funext i
  exact decide_eq_decide.2 zs_mem
/-- A row of ints of the call's own, one more behind. -/
theorem ints_more {w0 w w' : World} {l : List Nat} {x : Nat} {v v' : Value} (h : w.ownsRow w0.heap.size 3 1 v l.length (vI (zs l))) (hB : Below w0.heap.size w0 w) (ho : w'.ownsRow w0.heap.size 3 1 v' (l.length + 1) (vI (zs l) ++ vI [(x : Int)])) (hg : Grew w w' v v') :
    w'.ownsRow w0.heap.size 3 1 v' (l ++ [x]).length (vI (zs (l ++ [x]))) ∧ Below w0.heap.size w0 w' := by
  have e1 : (l ++ [x]).length = l.length + 1 := by simp
  have e2 : vI (zs (l ++ [x])) = vI (zs l) ++ vI [(x : Int)] := by simp [vI, zs]
  rw [e1, e2]
  exact ⟨ho, hB.trans (hg.below hB.size (fun g e => (h.lt g e).1))⟩
theorem owns_to {w w' : World} {base : Nat} {e : TypeId} {k : Nat} {v : Value} {n : Nat} {xs : List Value} (h : w.ownsRow base e k v n xs) (hb : Below w.heap.size w w') : w'.ownsRow base e k v n xs :=
  h.kept (row := none) ⟨hb.os, hb.tape, hb.output, hb.size, fun i hi _ => hb.block i hi⟩ (by cases h' : v.ownBlock with
    | none => exact .inl rfl
    | some g => exact .inr (fun e => by cases e))
set_option maxRecDepth 100000 in
set_option maxHeartbeats 2000000 in
theorem rangesR_any {w : World} {r : Nat} {l : List Pt} {N c : Nat} (h : RgAt w 48 r l c) (ok : RgOk l N c) (n : Int) :
    Calls Tryd.prog 18 #[.pointer (some ⟨r, 0, none⟩), .int .i64 n] w fun e w' => ∃ ao cap, e = .returned (.slice ao (rgT l c n l.length).length cap) ∧ ISees w' ao (zs (rgT l c n l.length)) ∧ Below w.heap.size w w' := by
  obtain ⟨i1, hi1, hy0, hy1, hy2⟩ := infoXR infoInt
  have P : Hid (Calls Tryd.prog 11 #[.pointer (some ⟨r, 0, none⟩)] w fun e w' => ∃ ao cap, e = .returned (.slice ao l.length cap) ∧ PSees w' ao l ∧ Below w.heap.size w w') := pointsR_at h ok.c1 ok.le
  have HH : Hid (∀ (u : World) (i : Nat), Below w.heap.size w u → i < l.length → Calls Tryd.prog 20 #[.pointer (some ⟨r, 0, none⟩), .int .i64 (i : Int), .int .i64 n] u fun e w' => e = .returned (.bool (decide (n ∈ zs (repsP l c i)))) ∧ Below u.heap.size u w') := fun u i hu hi => by
    have := hasR_any (h.to hu) ok i n
    rwa [repI_at l c hi] at this
  have hl40 := ok.le
  have hlz : (l.length : Int) ≤ 40 := by omega
  clear h ok
  go_enter Tryd.func18, Tryd.ntmps18
  go_wp2_with (go_at_call 11; refine P.out.mono ?_; rintro e w1 ⟨ao, cap, rfl, -, hB⟩)
  clear P
  go_loopw [5, 10] (fun s5 s10 wr => ∃ (k : Nat) (v : Value), k ≤ l.length ∧ s5 = v ∧ s10 = .int .i64 k ∧ wr.ownsRow w.heap.size 3 1 v (rgT l c n k).length (vI (zs (rgT l c n k))) ∧ Below w.heap.size w wr) (fun _ s10 _ => l.length - (intOf s10).toNat)
  case atStart => exact ⟨0, _, by omega, rfl, rfl, World.ownsRow_nil _ _ _ _, hB⟩
  case round =>
    obtain ⟨k, v, hk, hv, rfl, ho, hb⟩ := hrel
    obtain rfl := hv.symm
    clear hv hB
    rcases Nat.lt_or_ge k l.length with hlt | hge
    · have C : Hid (Calls Tryd.prog 20 #[.pointer (some ⟨r, 0, none⟩), .int .i64 (k : Int), .int .i64 n] wr fun e w' => e = .returned (.bool (decide (n ∈ zs (repsP l c k)))) ∧ Below wr.heap.size wr w') := HH.out wr k hb hlt
      have hltz : (k : Int) < (l.length : Int) := by omega
      have hsu := rgT_succ l c n k
      have hle := rgT_le l c n k
      by_cases hm : n ∈ zs (repsP l c k)
      · rw [decide_eq_true hm] at C
        rw [if_pos hm] at hsu
        have HS : Hid (rgT l c n (k + 1) = rgT l c n k ++ [k]) := hsu
        clear hsu HH hm
        generalize rgT l c n k = T at *
        have HO : Hid (∀ w2, Below wr.heap.size wr w2 → w2.ownsRow w.heap.size 3 1 v T.length (vI (zs T)) ∧ Below w.heap.size w w2) := fun w2 h2 => ⟨owns_to ho h2, hb.trans (h2.mono hb.size)⟩
        have hsw : Hid (∀ w2, Below wr.heap.size wr w2 → w.heap.size ≤ w2.heap.size) := fun w2 h2 => Nat.le_trans hb.size h2.size
        clear ho hb
        go_wp2_with (first | (go_at_call 20; refine C.out.mono ?_; rintro e w2 ⟨rfl, hb2⟩) | (at_builtin; go_must (refine wpList_append_grew _ rfl _ _ 37 37 rfl w.heap.size 3 i1 _ 1 8 Tryd.underlying37 hi1 hy0 hy1 hy2 rfl _ T.length (vI (zs T)) rfl ((HO.out w2 hb2).1.alloc _) _ 1 (vI [(k : Int)]) rfl (src_oneR _ _) (by unfold maxLen; omega) (by omega) (by rw [World.size_alloc]; have := hsw.out w2 hb2; omega) ?_; intro v3 w3 ho3 hg3)))
        go_roundw
        case rel =>
          have := ints_more (HO.out w2 hb2).1 (HO.out w2 hb2).2 ho3 (Grew.alloc hg3)
          exact ⟨k + 1, _, by omega, rfl, by go_num, by rw [HS.out]; exact this.1, this.2⟩
        case measure => (simp [intOf]; try omega)
      · rw [decide_eq_false hm] at C
        rw [if_neg hm] at hsu
        have HS : Hid (rgT l c n (k + 1) = rgT l c n k) := hsu
        clear hsu HH hm
        generalize rgT l c n k = T at *
        go_wp2_with (go_at_call 20; refine C.out.mono ?_; rintro e w2 ⟨rfl, hb2⟩)
        go_roundw
        case rel => exact ⟨k + 1, _, by omega, rfl, by go_num, by rw [HS.out]; exact owns_to ho hb2, hb.trans (hb2.mono hb.size)⟩
        case measure => (simp [intOf]; try omega)
    · obtain rfl : k = l.length := by omega
      have hgez : ¬ (l.length : Int) < (l.length : Int) := by omega
      obtain ⟨ao2, cap2, hv2, hI⟩ := owns_isees ho
      rw [zs_len] at hv2
      subst hv2
      clear ho HH
      go_wp2_with fail
      go_ret
      exact ⟨_, ⟨_, rfl⟩, hI, hb⟩
set_option maxRecDepth 100000 in
set_option maxHeartbeats 1000000 in
theorem rangesR_no {w : World} {p : Option Addr} (h : NoRg w p) (n : Int) : Calls Tryd.prog 18 #[.pointer p, .int .i64 n] w fun e w' => e = .returned (.slice none 0 0) ∧ w' = w := by
  have P : Hid (Calls Tryd.prog 11 #[.pointer p] w fun e w' => e = .returned (.slice none 0 0) ∧ w' = w) := pointsR_no h
  clear h
  go_enter Tryd.func18, Tryd.ntmps18
  go_wp2_with (go_at_call 11; refine P.out.mono ?_; rintro e w1 ⟨rfl, hw⟩; obtain rfl := hw.symm; clear hw)
  refine wp_loop_rounds 1 ?_
  rw [rounds_succ]
  go_wp2_with fail
  go_ret
  exact ⟨rfl, rfl⟩
end Go.Proofs.YtcnceipkoapcpaaDoor

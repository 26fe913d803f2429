/-
  CONTRACTS: New.
-/
import Derived.Test.YtcnceipkoapcpaaDoorRngSort
namespace Go.Proofs.YtcnceipkoapcpaaDoor
open Go.RowKit

theorem src_onePt (u : World) (p : Pt) : Src Tryd.prog 2 29 (.slice (some ⟨u.heap.size, 0, none⟩) 1 1) 1 (ptsV [p]) (u.alloc (.cells #[.int .i64 p.tok, .int .i64 (p.nd : Int)] 40)) :=
  src_pts (l := [p]) (fun i q hq => by
    have hi : i = 0 := by have := (List.getElem?_eq_some_iff.1 hq).1; simp at this; exact this
    subst hi
    have hy2 : p = q := Option.some.inj hq
    subst hy2
    exact ⟨u.heap.size, rfl, (Blk.new u [.int .i64 p.tok, .int .i64 (p.nd : Int)] 40).cell 0 rfl, (Blk.new u [.int .i64 p.tok, .int .i64 (p.nd : Int)] 40).cell 1 rfl⟩) 1
theorem pts_more {w0 w w' : World} {e : TypeId} {l : List Pt} {p : Pt} {v v' : Value} (h : w.ownsRow w0.heap.size e 2 v l.length (ptsV l)) (hB : Below w0.heap.size w0 w) (ho : w'.ownsRow w0.heap.size e 2 v' (l.length + 1) (ptsV l ++ ptsV [p])) (hg : Grew w w' v v') :
    w'.ownsRow w0.heap.size e 2 v' (l ++ [p]).length (ptsV (l ++ [p])) ∧ Below w0.heap.size w0 w' := by
  have e1 : (l ++ [p]).length = l.length + 1 := by simp
  have e2 : ptsV (l ++ [p]) = ptsV l ++ ptsV [p] := by simp [ptsV]
  rw [e1, e2]
  exact ⟨ho, hB.trans (hg.below hB.size (fun g e => (h.lt g e).1))⟩
/-- The points of k nodes and of the next one's first i. -/
def rawI (f : Nat → Nat → Int) (tokens k i : Nat) : List Pt := rawP f tokens k ++ (List.range i).map fun i => ⟨f (k + 1) i, k + 1⟩
theorem rawI_zero (f : Nat → Nat → Int) (tokens k : Nat) : rawI f tokens k 0 = rawP f tokens k := by simp [rawI]
theorem rawI_succ (f : Nat → Nat → Int) (tokens k i : Nat) : rawI f tokens k (i + 1) = rawI f tokens k i ++ [⟨f (k + 1) i, k + 1⟩] := by
  simp [rawI, List.range_succ]
theorem rawI_all (f : Nat → Nat → Int) (tokens k : Nat) : rawI f tokens k tokens = rawP f tokens (k + 1) := rfl
theorem rawI_len (f : Nat → Nat → Int) (tokens k i : Nat) : (rawI f tokens k i).length = k * tokens + i := by simp [rawI, rawP_len]
/-- Is a ring made of so many? -/
def OkN (N t c : Int) : Prop := 1 ≤ N ∧ N ≤ 5 ∧ 1 ≤ t ∧ t ≤ 8 ∧ 1 ≤ c ∧ c ≤ N
set_option maxRecDepth 100000 in
set_option maxHeartbeats 1000000 in
theorem newR_bad (N t c : Int) (h : ¬ OkN N t c) (w : World) : Calls Tryd.prog 8 #[.int .i64 N, .int .i64 t, .int .i64 c] w fun e w' => e = .returned (.pointer none) ∧ w' = w := by
  have hd : decide (N < 1) || decide (N > 5) || decide (t < 1) || decide (t > 8) || decide (c < 1) || decide (c > N) := by
    simp only [Bool.or_eq_true, decide_eq_true_eq]
    unfold OkN at h
    omega
  simp only [Bool.or_eq_true, decide_eq_true_eq] at hd
  by_cases h1 : N < 1
  · go_enter Tryd.func8, Tryd.ntmps8
    go_wp2_with fail
    go_ret
    exact ⟨rfl, rfl⟩
  · by_cases h2 : 5 < N
    · go_enter Tryd.func8, Tryd.ntmps8
      go_wp2_with fail
      go_ret
      exact ⟨rfl, rfl⟩
    · by_cases h3 : t < 1
      · go_enter Tryd.func8, Tryd.ntmps8
        go_wp2_with fail
        go_ret
        exact ⟨rfl, rfl⟩
      · by_cases h4 : 8 < t
        · go_enter Tryd.func8, Tryd.ntmps8
          go_wp2_with fail
          go_ret
          exact ⟨rfl, rfl⟩
        · by_cases h5 : c < 1
          · go_enter Tryd.func8, Tryd.ntmps8
            go_wp2_with fail
            go_ret
            exact ⟨rfl, rfl⟩
          · have h6 : N < c := by omega
            go_enter Tryd.func8, Tryd.ntmps8
            go_wp2_with fail
            go_ret
            exact ⟨rfl, rfl⟩
set_option maxRecDepth 100000 in
set_option maxHeartbeats 4000000 in
theorem newR_ok (N t c : Nat) (hN : N ≤ 5) (ht1 : 1 ≤ t) (ht8 : t ≤ 8) (hc1 : 1 ≤ c) (hcN : c ≤ N) (w : World) :
    Calls Tryd.prog 8 #[.int .i64 (N : Int), .int .i64 (t : Int), .int .i64 (c : Int)] w fun e w' => ∃ r, e = .returned (.pointer (some ⟨r, 0, none⟩)) ∧ RgAt w' 48 r (ptsP tkP N t) c ∧ w.heap.size ≤ r ∧ Below w.heap.size w w' := by
  obtain ⟨i1, hi1, hy0, hy1, hy2⟩ := infoXR infoPt
  have a1 : ¬ (N : Int) < 1 := by omega
  have a2 : ¬ 5 < (N : Int) := by omega
  have a3 : ¬ (t : Int) < 1 := by omega
  have a4 : ¬ 8 < (t : Int) := by omega
  have a5 : ¬ (c : Int) < 1 := by omega
  have a6 : ¬ N < c := by omega
  have a7 : ¬ (N : Int) < (c : Int) := by omega
  have CN : Hid (∀ (n i : Nat) (u : World), n < 10 → i < 10 → Calls Tryd.prog 25 #[.int .i64 (n : Int), .int .i64 (i : Int)] u fun e w' => e = .returned (.string (nmP n i)) ∧ w' = u) := fun n i u h1 h2 => nameR_any n i h1 h2 u
  have CT : Hid (∀ (n i : Nat) (u : World), Calls Tryd.prog 24 #[.string (nmP n i)] u fun e w' => e = .returned (.int .i64 (tkP n i)) ∧ Below u.heap.size u w') := tokenP_any
  have CB : Hid (∀ (u : World) (v : Value), u.ownsRow w.heap.size 40 2 v (rawP tkP t N).length (ptsV (rawP tkP t N)) → Below w.heap.size w u → Calls Tryd.prog 26 #[v, .int .i64 (c : Int)] u fun e w' => ∃ r, e = .returned (.pointer (some ⟨r, 0, none⟩)) ∧ RgAt w' 48 r (ptsP tkP N t) c ∧ w.heap.size ≤ r ∧ Below w.heap.size w w') := fun u v ho hb => by
    have hl := rawP_len tkP t N
    have hp : 1 ≤ N * t := Nat.mul_pos (by omega) (by omega)
    have h40 : N * t ≤ 5 * 8 := Nat.mul_le_mul hN ht8
    refine (buildR_any ho (by omega) (by omega) c hb.size).mono ?_
    rintro e w' ⟨r, rfl, hr, hlt, hB⟩
    exact ⟨r, rfl, hr, Nat.le_trans hb.size hlt, hb.trans hB⟩
  go_enter Tryd.func8, Tryd.ntmps8
  go_wp2_with fail
  go_loopw [7, 8] (fun s7 s8 wr => ∃ (k : Nat) (v : Value), k ≤ N ∧ s7 = v ∧ s8 = .int .i64 ((k : Int) + 1) ∧ wr.ownsRow w.heap.size 40 2 v (rawP tkP t k).length (ptsV (rawP tkP t k)) ∧ Below w.heap.size w wr) (fun _ s8 _ => N + 1 - (intOf s8).toNat)
  case atStart => exact ⟨0, _, by omega, rfl, rfl, World.ownsRow_nil _ _ _ _, Below.refl _ _⟩
  case round =>
    obtain ⟨k, v, hk, hv, rfl, ho, hb⟩ := hrel
    obtain rfl := hv.symm
    clear hv
    rcases Nat.lt_or_ge k N with hlt | hge
    · have hltz : (k : Int) + 1 ≤ (N : Int) := by omega
      go_wp2_with fail
      go_loopw [7, 39] (fun s7 s39 wi => ∃ (i : Nat) (v : Value), i ≤ t ∧ s7 = v ∧ s39 = .int .i64 (i : Int) ∧ wi.ownsRow w.heap.size 40 2 v (rawI tkP t k i).length (ptsV (rawI tkP t k i)) ∧ Below w.heap.size w wi) (fun _ s39 _ => t - (intOf s39).toNat)
      case atStart => exact ⟨0, _, by omega, rfl, rfl, by rw [rawI_zero]; exact ho, hb⟩
      case round =>
        obtain ⟨i, v2, hi, hv2, rfl, ho2, hb2⟩ := hrel
        obtain rfl := hv2.symm
        clear hv2
        rcases Nat.lt_or_ge i t with hit | hgt
        · have hitz : (i : Int) < (t : Int) := by omega
          have N1 : Hid (Calls Tryd.prog 25 #[.int .i64 ((k : Int) + 1), .int .i64 (i : Int)] wr fun e w' => e = .returned (.string (nmP (k + 1) i)) ∧ w' = wr) := CN.out (k + 1) i wr (by omega) (by omega)
          have T1 : Hid (Calls Tryd.prog 24 #[.string (nmP (k + 1) i)] wr fun e w' => e = .returned (.int .i64 (tkP (k + 1) i)) ∧ Below wr.heap.size wr w') := CT.out (k + 1) i wr
          have hE : Hid (rawI tkP t k (i + 1) = rawI tkP t k i ++ [⟨tkP (k + 1) i, k + 1⟩]) := rawI_succ tkP t k i
          have hL := rawI_len tkP t k i
          have h40 : k * t ≤ 5 * 8 := Nat.mul_le_mul (by omega) ht8
          have HO : Hid (∀ w2, Below wr.heap.size wr w2 → w2.ownsRow w.heap.size 40 2 v2 (rawI tkP t k i).length (ptsV (rawI tkP t k i)) ∧ Below w.heap.size w w2) := fun w2 h2 => ⟨owns_to ho2 h2, hb2.trans (h2.mono hb2.size)⟩
          have hsw : Hid (∀ w2, Below wr.heap.size wr w2 → w.heap.size ≤ w2.heap.size) := fun w2 h2 => Nat.le_trans hb2.size h2.size
          have SP : Hid (∀ u : World, Src Tryd.prog 2 29 (.slice (some ⟨u.heap.size, 0, none⟩) 1 1) 1 (ptsV [⟨tkP (k + 1) i, k + 1⟩]) (u.alloc (.cells #[.int .i64 (tkP (k + 1) i), .int .i64 ((k : Int) + 1)] 40))) := fun u => src_onePt u ⟨tkP (k + 1) i, k + 1⟩
          have hL80 : (rawI tkP t k i).length ≤ 80 := by omega
          generalize rawI tkP t k i = L at *
          generalize tkP (k + 1) i = tk at *
          clear ho2 hb2 ho hb CN CT CB hL h40
          go_wp2_with (first | (go_at_call 25; refine N1.out.mono ?_; rintro e w1 ⟨rfl, hw⟩; obtain rfl := hw.symm; clear hw) | (go_at_call 24; refine T1.out.mono ?_; rintro e w2 ⟨rfl, hu2⟩) | (at_builtin; go_must (refine wpList_append_grew _ rfl _ _ 29 29 rfl w.heap.size 40 i1 _ 2 16 Tryd.underlying29 hi1 hy0 hy1 hy2 rfl _ L.length (ptsV L) rfl ((HO.out w2 hu2).1.alloc _) _ 1 (ptsV [⟨tk, k + 1⟩]) rfl (SP.out w2) (by unfold maxLen; omega) (by omega) (by rw [World.size_alloc]; have := hsw.out w2 hu2; omega) ?_; intro v3 w3 ho3 hg3)))
          go_roundw
          case rel =>
            have := pts_more (HO.out w2 hu2).1 (HO.out w2 hu2).2 ho3 (Grew.alloc hg3)
            exact ⟨i + 1, _, by omega, rfl, by go_num, by rw [hE.out]; exact this.1, this.2⟩
          case measure => (simp [intOf]; try omega)
        · obtain rfl : i = t := by omega
          rw [rawI_all] at ho2
          have hgez : ¬ (i : Int) < (i : Int) := by omega
          clear CN CT CB ho hb
          go_wp2_with fail
          go_roundw
          case rel => exact ⟨k + 1, _, by omega, rfl, by go_num, ho2, hb2⟩
          case measure => (simp [intOf]; try omega)
    · obtain rfl : k = N := by omega
      have hgez : ¬ (k : Int) + 1 ≤ (k : Int) := by omega
      have B : Hid (Calls Tryd.prog 26 #[v, .int .i64 (c : Int)] wr fun e w' => ∃ r, e = .returned (.pointer (some ⟨r, 0, none⟩)) ∧ RgAt w' 48 r (ptsP tkP k t) c ∧ w.heap.size ≤ r ∧ Below w.heap.size w w') := CB.out wr v ho hb
      clear CN CT CB ho hb
      go_wp2_with (go_at_call 26; refine B.out.mono ?_; rintro e w1 ⟨r, rfl, h1, h2, h3⟩)
      go_ret
      exact ⟨r, rfl, h1, h2, h3⟩
end Go.Proofs.YtcnceipkoapcpaaDoor

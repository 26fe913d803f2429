/-
  THE LAW CellDigests: the walk.
-/
import Derived.Test.YtlbakepijncfgabCxDigest
import Derived.Test.YtlbakepijncfgabCxRow
import Derived.Test.YtlbakepijncfgabCxLaid
namespace Go.Proofs.Ytlbakepijncfgab.cellDigests
open Go.RowKit

/-- How far the copy has been turned. -/
def far (k n : Int) (s : ByteArray) (loc : Int) (l : List Cx) (i : Nat) : List Cx := (l.take i).map (blur k n s loc) ++ l.drop i
theorem far_len (k n : Int) (s : ByteArray) (loc : Int) (l : List Cx) (i : Nat) : (far k n s loc l i).length = l.length := by
  unfold far
  rw [List.length_append, List.length_map, List.length_take, List.length_drop]; omega
theorem far_at (k n : Int) (s : ByteArray) (loc : Int) (l : List Cx) (i : Nat) (c : Cx) (h : l[i]? = some c) : (far k n s loc l i)[i]? = some c := by
  have hi := (List.getElem?_eq_some_iff.1 h).1
  unfold far
  rw [List.getElem?_append_right (by simp; omega)]
  simp [Nat.min_eq_left (Nat.le_of_lt hi), h]
theorem far_step (k n : Int) (s : ByteArray) (loc : Int) (l : List Cx) (i : Nat) (c : Cx) (h : l[i]? = some c) : (far k n s loc l i).set i (blur k n s loc c) = far k n s loc l (i + 1) := by
  have hi := (List.getElem?_eq_some_iff.1 h).1
  unfold far
  rw [takeX_succ h, List.map_append, List.set_append_right _ _ (by simp; omega)]
  have e : l.drop i = c :: l.drop (i + 1) := by
    rw [List.drop_eq_getElem_cons hi]
    have := (List.getElem?_eq_some_iff.1 h).2
    rw [this]
  rw [e]
  simp [Nat.min_eq_left (Nat.le_of_lt hi)]
theorem far_all (k n : Int) (s : ByteArray) (loc : Int) (l : List Cx) : far k n s loc l l.length = l.map (blur k n s loc) := by
  unfold far; simp
theorem far_zero (k n : Int) (s : ByteArray) (loc : Int) (l : List Cx) : far k n s loc l 0 = l := by
  unfold far; simp
theorem blur_dead (k n : Int) (s : ByteArray) (loc : Int) (t p : ByteArray) (r : Int) (c : ByteArray) (tm lc kd nm : Int) (st : ByteArray) :
    xs10 (blur k n s loc ⟨⟨t, p, r, c⟩, ⟨tm, true, lc, kd, nm, st⟩⟩) = (((xs10 ⟨⟨t, p, r, c⟩, ⟨tm, true, lc, kd, nm, st⟩⟩).set 7 (.int .i64 k)).set 8 (.int .i64 n)).set 9 (.string s) := rfl
theorem blur_live (k n : Int) (s : ByteArray) (loc : Int) (t p : ByteArray) (r : Int) (c : ByteArray) (tm lc kd nm : Int) (st : ByteArray) :
    xs10 (blur k n s loc ⟨⟨t, p, r, c⟩, ⟨tm, false, lc, kd, nm, st⟩⟩) = (xs10 ⟨⟨t, p, r, c⟩, ⟨tm, false, lc, kd, nm, st⟩⟩).set 6 (.int .i64 loc) := rfl
theorem blur_third (k n : Int) (s : ByteArray) (loc : Int) (t p : ByteArray) (r : Int) (c : ByteArray) (tm lc kd nm : Int) (st : ByteArray) :
    xs10 (blur k n s loc ⟨⟨t, p, r, c⟩, ⟨tm, true, lc, kd, nm, st⟩⟩) = (xs10 ⟨⟨t, p, r, c⟩, ⟨tm, true, lc, k, n, st⟩⟩).set 9 (.string s) := rfl
/-- A store of one cell of a record. -/
theorem flat_set1 (l : List Cx) (i j : Nat) (a : Cx) (v : Value) (hi : l[i]? = some a) (hj : j < 10) (a' : Cx) (h : xs10 a' = (xs10 a).set j v) : (l.flatMap xs10).set (i * 10 + j) v = (l.set i a').flatMap xs10 := flat_set xs10_len l i j a a' v hi hj h
theorem owns_live {w : World} {base g cap : Nat} {l : List Cx} {i : Nat} (k n : Int) (s : ByteArray) (loc : Int) (t p : ByteArray) (r : Int) (c : ByteArray) (tm lc kd nm : Int) (st : ByteArray) (L : List Cx)
    (hL : L[i]? = some ⟨⟨t, p, r, c⟩, ⟨tm, false, lc, kd, nm, st⟩⟩) (h : w.ownsRow base 32 10 (.slice (some ⟨g, 0, none⟩) l.length cap) l.length (L.flatMap xs10)) :
    (w.setCell ⟨g, i * 10 + 6, none⟩ (.int .i64 loc)).ownsRow base 32 10 (.slice (some ⟨g, 0, none⟩) l.length cap) l.length ((L.set i (blur k n s loc ⟨⟨t, p, r, c⟩, ⟨tm, false, lc, kd, nm, st⟩⟩)).flatMap xs10) := by
  have := (h.stored (i * 10 + 6) (.int .i64 loc)).1
  rwa [flat_set1 L i 6 _ _ hL (by omega) _ (blur_live k n s loc t p r c tm lc kd nm st)] at this
theorem owns_dead {w : World} {base g cap : Nat} {l : List Cx} {i : Nat} (k n : Int) (s : ByteArray) (loc : Int) (t p : ByteArray) (r : Int) (c : ByteArray) (tm lc kd nm : Int) (st : ByteArray) (L : List Cx)
    (hL : L[i]? = some ⟨⟨t, p, r, c⟩, ⟨tm, true, lc, kd, nm, st⟩⟩) (h : w.ownsRow base 32 10 (.slice (some ⟨g, 0, none⟩) l.length cap) l.length (L.flatMap xs10)) :
    (((w.setCell ⟨g, i * 10 + 7, none⟩ (.int .i64 k)).setCell ⟨g, i * 10 + 8, none⟩ (.int .i64 n)).setCell ⟨g, i * 10 + 9, none⟩ (.string s)).ownsRow base 32 10 (.slice (some ⟨g, 0, none⟩) l.length cap) l.length ((L.set i (blur k n s loc ⟨⟨t, p, r, c⟩, ⟨tm, true, lc, kd, nm, st⟩⟩)).flatMap xs10) := by
  have hi := (List.getElem?_eq_some_iff.1 hL).1
  have h1 := (h.stored (i * 10 + 7) (.int .i64 k)).1
  rw [flat_set1 L i 7 _ _ hL (by omega) ⟨⟨t, p, r, c⟩, ⟨tm, true, lc, k, nm, st⟩⟩ rfl] at h1
  have h2 := (h1.stored (i * 10 + 8) (.int .i64 n)).1
  rw [flat_set1 (L.set i _) i 8 ⟨⟨t, p, r, c⟩, ⟨tm, true, lc, k, nm, st⟩⟩ _ (by simp [hi]) (by omega) ⟨⟨t, p, r, c⟩, ⟨tm, true, lc, k, n, st⟩⟩ rfl, List.set_set] at h2
  have h3 := (h2.stored (i * 10 + 9) (.string s)).1
  rw [flat_set1 (L.set i _) i 9 ⟨⟨t, p, r, c⟩, ⟨tm, true, lc, k, n, st⟩⟩ (.string s) (by simp [hi]) (by omega) (blur k n s loc ⟨⟨t, p, r, c⟩, ⟨tm, true, lc, kd, nm, st⟩⟩) (blur_third k n s loc t p r c tm lc kd nm st), List.set_set] at h3
  exact h3
theorem val_box (w : World) (k n : Int) (s : ByteArray) : ∃ wa, wa = w.alloc (.cells #[.int .i64 k, .int .i64 n, .string s] 24) ∧ wa.cell? ⟨w.heap.size, 0, none⟩ = some (.int .i64 k) ∧ wa.cell? ⟨w.heap.size, 1, none⟩ = some (.int .i64 n) ∧ wa.cell? ⟨w.heap.size, 2, none⟩ = some (.string s) ∧ w.heap.size < wa.heap.size ∧ Below w.heap.size w wa := by
  have h := heap_alloc_new w (.cells #[.int .i64 k, .int .i64 n, .string s] 24)
  exact ⟨_, rfl, by simp only [World.cell?, h]; rfl, by simp only [World.cell?, h]; rfl, by simp only [World.cell?, h]; rfl, by rw [World.size_alloc]; omega, (Below.refl _ _).alloc (Nat.le_refl _) _⟩
theorem nums_of {c : Cx} (h : c.In) : c.Nums := ⟨h.1, h.2⟩

set_option maxRecDepth 100000 in
set_option maxHeartbeats 4000000 in
theorem walk (ao : Option Addr) (l : List Cx) (cap : Nat) (k n : Int) (s : ByteArray) (loc : Int) (w : World) (hs : XSees w ao l) (hn : ao = none → l.length = 0) (hl : l.length ≤ 140737488355328) (hc : ∀ c ∈ l, c.In ∧ wtX c ≤ 562949953421312) (hk : InI k) (hnn : InI n) (hloc : InI loc) :
    Calls Try.prog 3 #[.slice ao l.length cap, .agg #[.int .i64 k, .int .i64 n, .string s], .int .i64 loc] w fun e w' => e = .returned (.bool true) ∧ Below w.heap.size w w' := by
  obtain ⟨i1, hi1, hy0, hy1, hy2⟩ := infoX infoCx
  have LV : Hid (∀ w : World, Calls Try.prog 5 #[] w fun x w' => x = .returned (.bool true) ∧ Below w.heap.size w w') := lives_any
  obtain ⟨wa, hwa, b0, b1, b2, hlt, hB⟩ := val_box w k n s
  have W1 : Hid (Calls Try.prog 4 #[.slice ao l.length cap, .int .i64 300] wa fun e w' => (∃ z : Nat, e = .returned (.int .i64 z) ∧ z ≤ 1000000000000000 ∧ (z ≤ 300 → l.length ≤ 300 ∧ wtXs l ≤ 20 * 300)) ∧ Below wa.heap.size wa w') :=
    weighX_any ao l cap 300 wa (hs.below hB (Nat.le_refl _)) (by omega) hl (fun c h => (hc c h).2)
  have HN : Hid (∀ c ∈ l, c.Nums) := fun c h => nums_of (hc c h).1
  have HS : Hid (∀ w', Below w.heap.size w w' → XSees w' ao l) := fun w' h => hs.below h (Nat.le_refl _)
  have HBox : Hid (∀ w', Below wa.heap.size wa w' → w'.cell? ⟨w.heap.size, 0, none⟩ = some (.int .i64 k) ∧ w'.cell? ⟨w.heap.size, 1, none⟩ = some (.int .i64 n) ∧ w'.cell? ⟨w.heap.size, 2, none⟩ = some (.string s) ∧ Below w.heap.size w w') := fun w' h =>
    ⟨by rw [h.cell hlt, b0], by rw [h.cell hlt, b1], by rw [h.cell hlt, b2], hB.trans (h.mono hB.size)⟩
  have hlz : (l.length : Int) ≤ 140737488355328 := by omega
  clear b0 b1 b2 hc hs
  go_enter Try.func3, Try.ntmps3
  go_wp2_with fail
  rw [← hwa]
  clear hwa
  go_fit W1.out
  rintro x w1 ⟨⟨z, rfl, hz, hzz⟩, hb1⟩
  have hz' : (z : Int) ≤ 1000000000000000 := by omega
  clear hz W1
  have HB1 : Hid (Below w.heap.size w w1) := (HBox.out w1 hb1).2.2.2
  by_cases h5 : 300 < z
  · have d : decide (300 < (z : Int)) = true := decide_eq_true (by omega)
    go_wp2_with fail
    refine (LV.out _).mono ?_
    rintro x w9 ⟨rfl, hb9⟩
    go_wp2_with fail
    go_ret
    exact ⟨rfl, HB1.out.trans (hb9.mono HB1.out.size)⟩
  have d : decide (300 < (z : Int)) = false := decide_eq_false (by omega)
  obtain ⟨hl3, hw3⟩ := hzz (by omega)
  have hwY := wtYs_le l
  clear h5
  have hbe : Below w.heap.size w (w1.alloc (.cells #[] 32)) := HB1.out.alloc HB1.out.size _
  have hs2 := HS.out _ hbe
  go_wp2_with (at_builtin; go_must (refine wpList_append_grew _ rfl _ _ 22 22 rfl w1.heap.size 32 i1 _ 10 112 Try.underlying22 hi1 hy0 hy1 hy2 rfl _ 0 [] rfl (owns_none w1 w1.heap.size (Nat.le_refl _)) _ l.length (l.flatMap xs10) rfl (src_cells hs2 hn cap) (by unfold maxLen; omega) (by omega) (by rw [World.size_alloc]; omega) ?_; intro v2 w2 ho2 hg2; simp only [Nat.zero_add, List.nil_append] at ho2; obtain ⟨ao2, cap2, rfl, -, -⟩ := owns_xsees ho2))
  have hb2 : Below w1.heap.size w1 w2 := ((Below.refl _ _).alloc (Nat.le_refl _) _).trans (hg2.below (by rw [World.size_alloc]; omega) (fun g hg => by
    obtain rfl := Option.some.inj hg
    exact Nat.le_refl _))
  have ho0 : w2.ownsRow w1.heap.size 32 10 (.slice ao2 l.length cap2) l.length ((far k n s loc l 0).flatMap xs10) := by rw [far_zero]; exact ho2
  have hl3' : (l.length : Int) ≤ 300 := by omega
  clear hg2 ho2 hs2 hbe d
  have HW : Hid (∀ wr, Below w1.heap.size w1 wr → Below wa.heap.size wa wr) := fun wr h => hb1.trans (h.mono hb1.size)
  go_loopw [19] (fun s19 wr => ∃ i : Nat, i ≤ l.length ∧ s19 = .int .i64 i ∧ wr.ownsRow w1.heap.size 32 10 (.slice ao2 l.length cap2) l.length ((far k n s loc l i).flatMap xs10) ∧ Below w1.heap.size w1 wr) (fun s19 _ => l.length - (intOf s19).toNat)
  case atStart => exact ⟨0, by omega, rfl, ho0, hb2⟩
  case round =>
    obtain ⟨i, hi, rfl, ho, hbr⟩ := hrel
    rcases Nat.lt_or_ge i l.length with hlt2 | hge
    · have hc : l[i]? = some l[i] := List.getElem?_eq_getElem hlt2
      have hfa := far_at k n s loc l i _ hc
      have hfs := far_step k n s loc l i _ hc
      have ho' : wr.ownsRow w1.heap.size 32 10 (.slice ao2 l.length cap2) (far k n s loc l i).length ((far k n s loc l i).flatMap xs10) := by rw [far_len]; exact ho
      obtain ⟨ao3, cap3, e3, -, hT⟩ := owns_xsees ho'
      rw [far_len] at e3
      injection e3 with e4 _ e5
      subst e4
      subst e5
      obtain ⟨g, rfl, hgb, ten⟩ := hT i _ hfa
      clear hT ho'
      generalize l[i] = c at *
      obtain ⟨⟨ct, cp, cr, cc⟩, ⟨tm, dd, lc, kd, nm, st⟩⟩ := c
      have hwv : Below w1.heap.size w1 (wr.alloc (.cells (Cx.a ⟨⟨ct, cp, cr, cc⟩, ⟨tm, dd, lc, kd, nm, st⟩⟩) 32)) := hbr.alloc hbr.size _
      have hov := ho.alloc (.cells (Cx.a ⟨⟨ct, cp, cr, cc⟩, ⟨tm, dd, lc, kd, nm, st⟩⟩) 32)
      obtain ⟨y0, y1, y2, -⟩ := HBox.out _ (HW.out _ hwv)
      have tv := ten.alloc (.cells (Cx.a ⟨⟨ct, cp, cr, cc⟩, ⟨tm, dd, lc, kd, nm, st⟩⟩) 32)
      have f6 := hov.frozenAt (i * 10 + 6)
      have f7 := hov.frozenAt (i * 10 + 7)
      have f8 := hov.frozenAt (i * 10 + 8)
      have f9 := hov.frozenAt (i * 10 + 9)
      obtain ⟨x0, x1, x2, x3, x4, x5, x6, x7, x8, x9⟩ := ten
      obtain ⟨-, -, -, -, -, -, z6, z7, z8, z9⟩ := tv
      simp only at x0 x1 x2 x3 x4 x5 x6 x7 x8 x9 z6 z7 z8 z9
      have Hov : Hid ((wr.alloc (.cells (Cx.a ⟨⟨ct, cp, cr, cc⟩, ⟨tm, dd, lc, kd, nm, st⟩⟩) 32)).ownsRow w1.heap.size 32 10 (.slice (some ⟨g, 0, none⟩) l.length cap2) l.length ((far k n s loc l i).flatMap xs10)) := hov
      have Hwv : Hid (Below w1.heap.size w1 (wr.alloc (.cells (Cx.a ⟨⟨ct, cp, cr, cc⟩, ⟨tm, dd, lc, kd, nm, st⟩⟩) 32))) := hwv
      have Hfa : Hid ((far k n s loc l i)[i]? = some ⟨⟨ct, cp, cr, cc⟩, ⟨tm, dd, lc, kd, nm, st⟩⟩) := hfa
      have Hfs : Hid ((far k n s loc l i).set i (blur k n s loc ⟨⟨ct, cp, cr, cc⟩, ⟨tm, dd, lc, kd, nm, st⟩⟩) = far k n s loc l (i + 1)) := hfs
      clear hov hwv hfa hfs ho hbr hc ho0 hb2
      have hiz : (i : Int) < 300 := by omega
      simp only [Cx.a] at *
      cases dd
      · go_wp2_with fail
        go_roundw
        case rel =>
          refine ⟨i + 1, by omega, by go_num, ?_, Hwv.out.setCell (p := ⟨g, i * 10 + 6, none⟩) hgb _⟩
          have := owns_live k n s loc ct cp cr cc tm lc kd nm st _ Hfa.out Hov.out
          rwa [Hfs.out] at this
        case measure => simp [intOf]; omega
      · go_wp2_with fail
        go_roundw
        case rel =>
          refine ⟨i + 1, by omega, by go_num, ?_, ((Hwv.out.setCell (p := ⟨g, i * 10 + 7, none⟩) hgb _).setCell (p := ⟨g, i * 10 + 8, none⟩) hgb _).setCell (p := ⟨g, i * 10 + 9, none⟩) hgb _⟩
          have := owns_dead k n s loc ct cp cr cc tm lc kd nm st _ Hfa.out Hov.out
          rwa [Hfs.out] at this
        case measure => simp [intOf]; omega
    · obtain rfl : i = l.length := by omega
      rw [far_all] at ho
      have hbw : Below w.heap.size w wr := (HBox.out _ (HW.out _ hbr)).2.2.2
      have ho' : wr.ownsRow w1.heap.size 32 10 (.slice ao2 l.length cap2) (l.map (blur k n s loc)).length ((l.map (blur k n s loc)).flatMap xs10) := by rw [List.length_map]; exact ho
      obtain ⟨ao3, cap3, e3, hX, -⟩ := owns_xsees ho'
      rw [List.length_map] at e3
      injection e3 with e4 _ e5
      subst e4
      subst e5
      have D1 : Hid (Calls Try.prog 6 #[.slice ao l.length cap] wr fun e w' => e = .returned (.int .u64 (dgB (cellsL (l.map toC)))) ∧ Below wr.heap.size wr w') := digest_any ao l cap wr (HS.out _ hbw) HN.out (by omega)
      have D2 : Hid (∀ w', Below wr.heap.size wr w' → Calls Try.prog 6 #[.slice ao2 l.length cap2] w' fun e w'' => e = .returned (.int .u64 (dgB (cellsL (l.map toC)))) ∧ Below w'.heap.size w' w'') := fun w' h => by
        have := digest_any ao2 (l.map (blur k n s loc)) cap2 w' (hX.below h (Nat.le_refl _)) (fun c hc => by obtain ⟨x, hx, rfl⟩ := List.mem_map.1 hc; exact blur_nums s hk hnn hloc (HN.out x hx)) (by rw [blur_wts, List.length_map]; omega)
        rw [List.length_map, blur_cells] at this
        exact this
      have D3 : Hid (∀ (o3 : Option Addr) (w' : World), Calls Try.prog 6 #[.slice o3 0 0] w' fun e w'' => e = .returned (.int .u64 (dgB (cellsL []))) ∧ Below w'.heap.size w' w'') := fun o3 w' =>
        digest_any o3 [] 0 w' (fun i c hc => by simp at hc) (fun c hc => by cases hc) (by simp [wtYs])
      have HE : Hid (∀ w', Below wr.heap.size wr w' → Below w.heap.size w w') := fun w' h => hbw.trans (h.mono hbw.size)
      clear hX ho ho' hbw hbr ho0 hb2
      generalize dgB (cellsL (l.map toC)) = DD at *
      generalize dgB (cellsL []) = DE at *
      go_wp2_with fail
      refine D1.out.mono ?_
      rintro x w3 ⟨rfl, hb3⟩
      go_wp2_with fail
      refine (D2.out _ hb3).mono ?_
      rintro x w4 ⟨rfl, hb4⟩
      have hb4' := hb3.trans (hb4.mono hb3.size)
      clear hb3 hb4
      go_wp2_with fail
      refine (D3.out _ _).mono ?_
      rintro x w5 ⟨rfl, hb5⟩
      have hb5' := hb4'.trans (hb5.mono hb4'.size)
      clear hb4' hb5
      have hb5a := hb5'.alloc hb5'.size (.cells #[] 32)
      go_wp2_with fail
      refine (D3.out _ _).mono ?_
      rintro x w6 ⟨rfl, hb6⟩
      have hb6' := hb5a.trans (hb6.mono hb5a.size)
      clear hb5' hb6 hb5a
      go_wp2_with fail
      refine (LV.out _).mono ?_
      rintro x w7 ⟨rfl, hb7⟩
      go_wp2_with fail
      go_ret
      exact ⟨rfl, HE.out _ (hb6'.trans (hb7.mono hb6'.size))⟩
end Go.Proofs.Ytlbakepijncfgab.cellDigests

/-
  CONTRACT: a key's version in a skip list (Get).
-/
import Derived.Test.YtlhojbgpmjcjlaaSkRead
namespace Go.Proofs.Ytlhojbgpmjcjlaa
open Go.RowKit

/-- A rising list is parted at a key. -/
theorem key_part (k : Kb) : ∀ T : List Tw, (T.map Tw.c).Pairwise (fun x y => kx x y < 0) → ∃ A R, T = A ++ R ∧ (∀ t ∈ A, kc t.c.k.ky k.ky < 0) ∧ (∀ t ∈ R, 0 ≤ kc t.c.k.ky k.ky)
  | [], _ => ⟨[], [], rfl, (fun t h => by cases h), (fun t h => by cases h)⟩
  | t :: T, h => by
    rw [List.map_cons, List.pairwise_cons] at h
    by_cases ht : kc t.c.k.ky k.ky < 0
    · obtain ⟨A, R, rfl, hA, hR⟩ := key_part k T h.2
      refine ⟨t :: A, R, rfl, fun u hu => ?_, hR⟩
      rcases List.mem_cons.1 hu with rfl | hu
      · exact ht
      · exact hA u hu
    · refine ⟨[], t :: T, rfl, (fun t h => by cases h), fun u hu => ?_⟩
      rcases List.mem_cons.1 hu with rfl | hu
      · omega
      · have h1 : kx t.c u.c < 0 := h.1 u.c (List.mem_map_of_mem hu)
        unfold kx at h1
        have h2 := kc_cmpr.n k.ky t.c.k.ky
        have h3 := kc_cmpr.t k.ky t.c.k.ky u.c.k.ky (by omega) (by omega)
        have h4 := kc_cmpr.n u.c.k.ky k.ky
        omega
theorem fnd_ahead {k : Kb} : ∀ {A : List Tw} (R : List Cx), (∀ t ∈ A, kc t.c.k.ky k.ky < 0) → fnd k (A.map Tw.c ++ R) = fnd k R
  | [], _, _ => rfl
  | t :: A, R, h => by
    have h1 := h t (by simp)
    rw [List.map_cons, List.cons_append, fnd_miss _ (fun e => by rw [e] at h1; have := (kc_cmpr.z k.ky k.ky).2 rfl; omega)]
    exact fnd_ahead R fun u hu => h u (by simp [hu])
theorem fnd_behind {k : Kb} : ∀ {R : List Cx}, (∀ c ∈ R, c.k ≠ k) → fnd k R = (zeroV, false)
  | [], _ => rfl
  | c :: R, h => by rw [fnd_miss _ (h c (by simp))]; exact fnd_behind fun u hu => h u (by simp [hu])
/-- Behind a greater key the key is not there. -/
theorem not_behind {k : Kb} {t : Tw} {R : List Tw} (hu : ((t :: R).map Tw.c).Pairwise (fun x y => kx x y < 0)) (ht : 0 ≤ kc t.c.k.ky k.ky) (hne : t.c.k ≠ k) : ∀ c ∈ (t :: R).map Tw.c, c.k ≠ k := fun c hc e => by
  rw [List.map_cons] at hc hu
  rcases List.mem_cons.1 hc with rfl | hc
  · exact hne e
  · have h1 : kx t.c c < 0 := (List.pairwise_cons.1 hu).1 c hc
    unfold kx at h1
    rw [e] at h1
    omega
theorem set6b {w : World} {g : Nat} {cs : List Value} {ty : TypeId} (h : Blk w g cs ty) (hl : cs.length = 6) (v0 v1 v2 v3 v4 v5 : Value) :
    ((((((w.setCell ⟨g, 0, none⟩ v0).setCell ⟨g, 1, none⟩ v1).setCell ⟨g, 2, none⟩ v2).setCell ⟨g, 3, none⟩ v3).setCell ⟨g, 4, none⟩ v4).setCell ⟨g, 5, none⟩ v5).heap[g]? = some (.cells #[v0, v1, v2, v3, v4, v5] ty) := by
  have := (((((h.set 0 v0).set 1 v1).set 2 v2).set 3 v3).set 4 v4).set 5 v5
  match cs, hl with
  | [c0, c1, c2, c3, c4, c5], _ => exact this
attribute [local irreducible] wpQuiet
set_option maxRecDepth 100000 in
set_option maxHeartbeats 2000000 in
theorem get_none (v : Value) (k : Kb) (w : World) (h : Unmade w v) : Calls Try.prog 12 #[v, k.v] w fun e w' => e = .returned (.tuple #[zeroV.v, .bool false]) ∧ Below w.heap.size w w' := by
  obtain ⟨wa, hwa, ⟨b0, b1, b2, b3⟩, hz, hsz, hB⟩ := find_box w k
  have F : Hid (Calls Try.prog 34 #[v, k.v] wa fun e w' => e = .returned (.pointer none) ∧ Below wa.heap.size wa w') := first_none v k wa (h.below hB (Nat.le_refl _))
  have H : Hid (∀ w : World, Calls Try.prog 29 #[.pointer none, k.v] w fun e w' => e = .returned (.bool false) ∧ Below w.heap.size w w') := fun w => has_nil k w
  have HF : Hid (∀ w', Below wa.heap.size wa w' → (w'.cell? ⟨w.heap.size, 0, none⟩ = some (.string k.t) ∧ w'.cell? ⟨w.heap.size, 1, none⟩ = some (.string k.p) ∧ w'.cell? ⟨w.heap.size, 2, none⟩ = some (.int .i64 k.r) ∧ w'.cell? ⟨w.heap.size, 3, none⟩ = some (.string k.c)) ∧ w'.heap[w.heap.size + 1]? = some (.cells zeroV.a 38) ∧ Below w.heap.size w w') := fun w' h => by
    have h1 : w.heap.size < wa.heap.size := by omega
    exact ⟨⟨by rw [h.cell h1, b0], by rw [h.cell h1, b1], by rw [h.cell h1, b2], by rw [h.cell h1, b3]⟩, by rw [h.block _ (by omega)]; exact hz, hB.trans (h.mono hB.size)⟩
  have hb0 := b0
  have hb1 := b1
  have hb2 := b2
  have hb3 := b3
  rw [hwa] at hb0 hb1 hb2 hb3
  clear b0 b1 b2 b3 hz hB hsz h
  obtain ⟨kt, kp, kr, kcc⟩ := k
  simp only [Kb.v, zeroV, Vr.a, Vr.v] at hwa F H hb0 hb1 hb2 hb3 ⊢
  go_enter Try.func12, Try.ntmps12
  go_wp2_with fail
  rw [← hwa]
  clear hwa
  refine F.out.mono ?_
  rintro e w1 ⟨rfl, hbb⟩
  obtain ⟨⟨d0, d1, d2, d3⟩, -, -⟩ := HF.out w1 hbb
  go_wp2_with fail
  refine (H.out _).mono ?_
  rintro e w2 ⟨rfl, hb2'⟩
  have hbt := hbb.trans (hb2'.mono hbb.size)
  obtain ⟨-, hz, hBw⟩ := HF.out w2 hbt
  have f0 := frozen_at hz 0
  have f1 := frozen_at hz 1
  have f2 := frozen_at hz 2
  have f3 := frozen_at hz 3
  have f4 := frozen_at hz 4
  have f5 := frozen_at hz 5
  obtain ⟨d1, d2, d3, d4, d5, d6⟩ := VAt.of hz
  simp only [Nat.zero_add, zeroV] at d1 d2 d3 d4 d5 d6
  have HS : Hid (∀ v0 v1 v2 v3 v4 v5 : Value, ((((((w2.setCell ⟨w.heap.size + 1, 0, none⟩ v0).setCell ⟨w.heap.size + 1, 1, none⟩ v1).setCell ⟨w.heap.size + 1, 2, none⟩ v2).setCell ⟨w.heap.size + 1, 3, none⟩ v3).setCell ⟨w.heap.size + 1, 4, none⟩ v4).setCell ⟨w.heap.size + 1, 5, none⟩ v5).heap[w.heap.size + 1]? = some (.cells #[v0, v1, v2, v3, v4, v5] 38)) := set6 hz
  have HBB : Hid (∀ v0 v1 v2 v3 v4 v5 : Value, Below w.heap.size w ((((((w2.setCell ⟨w.heap.size + 1, 0, none⟩ v0).setCell ⟨w.heap.size + 1, 1, none⟩ v1).setCell ⟨w.heap.size + 1, 2, none⟩ v2).setCell ⟨w.heap.size + 1, 3, none⟩ v3).setCell ⟨w.heap.size + 1, 4, none⟩ v4).setCell ⟨w.heap.size + 1, 5, none⟩ v5)) := below6 hBw (by omega)
  clear hz hBw hbt hb2' hbb
  go_wp2_with fail
  refine bodyPost_ret (v := .tuple #[.agg #[.int .i64 0, .bool false, .int .i64 0, .int .i64 0, .int .i64 0, .string ⟨#[]⟩], .bool false]) (resX_row_tmp Try.results12 _ _ (w.heap.size + 1) 38 _ _ _ _ rfl rfl (HS.out _ _ _ _ _ _) Try.underlying38 rfl (by kernel_rfl)) rfl ?_
  exact ⟨rfl, HBB.out _ _ _ _ _ _⟩
set_option maxRecDepth 100000 in
set_option maxHeartbeats 4000000 in
theorem get_any (S : SkId) (hs : List Nat) (T : List Tw) (k : Kb) (w : World) (h : SkAt w S hs T) : Calls Try.prog 12 #[.pointer (some ⟨S.l, 0, none⟩), k.v] w fun e w' => e = .returned (.tuple #[(fnd k (T.map Tw.c)).1.v, .bool (fnd k (T.map Tw.c)).2]) ∧ Below w.heap.size w w' := by
  obtain ⟨A, R, rfl, hA, hR⟩ := key_part k T h.up
  obtain ⟨wa, hwa, ⟨b0, b1, b2, b3⟩, hz, hsz, hB⟩ := find_box w k
  have ha := h.below hB (Nat.le_refl _)
  have F : Hid (Calls Try.prog 34 #[.pointer (some ⟨S.l, 0, none⟩), k.v] wa fun e w' => e = .returned (pt (R.head?.map Tw.g)) ∧ Below wa.heap.size wa w') := skFirst_any S hs A R k wa ha hA hR
  have HF : Hid (∀ w', Below wa.heap.size wa w' → (w'.cell? ⟨w.heap.size, 0, none⟩ = some (.string k.t) ∧ w'.cell? ⟨w.heap.size, 1, none⟩ = some (.string k.p) ∧ w'.cell? ⟨w.heap.size, 2, none⟩ = some (.int .i64 k.r) ∧ w'.cell? ⟨w.heap.size, 3, none⟩ = some (.string k.c)) ∧ w'.heap[w.heap.size + 1]? = some (.cells zeroV.a 38) ∧ Below w.heap.size w w') := fun w' h => by
    have h1 : w.heap.size < wa.heap.size := by omega
    exact ⟨⟨by rw [h.cell h1, b0], by rw [h.cell h1, b1], by rw [h.cell h1, b2], by rw [h.cell h1, b3]⟩, by rw [h.block _ (by omega)]; exact hz, hB.trans (h.mono hB.size)⟩
  have hb0 := b0
  have hb1 := b1
  have hb2 := b2
  have hb3 := b3
  rw [hwa] at hb0 hb1 hb2 hb3
  have hfnd : fnd k ((A ++ R).map Tw.c) = fnd k (R.map Tw.c) := by rw [List.map_append]; exact fnd_ahead _ hA
  rw [hfnd]
  have hup : (R.map Tw.c).Pairwise (fun x y => kx x y < 0) := by have := h.up; rw [List.map_append] at this; exact (List.pairwise_append.1 this).2.1
  clear b0 b1 b2 b3 hz hB hsz hfnd hA
  cases R with
  | nil =>
    have H : Hid (∀ w : World, Calls Try.prog 29 #[.pointer none, k.v] w fun e w' => e = .returned (.bool false) ∧ Below w.heap.size w w') := fun w => has_nil k w
    have HR : Hid (fnd k (([] : List Tw).map Tw.c) = (zeroV, false)) := rfl
    generalize fnd k (([] : List Tw).map Tw.c) = X at *
    simp only [List.head?_nil, Option.map_none, pt_none] at F
    clear h ha hR hup
    obtain ⟨kt, kp, kr, kcc⟩ := k
    simp only [Kb.v, zeroV, Vr.a] at hwa F H hb0 hb1 hb2 hb3 ⊢
    go_enter Try.func12, Try.ntmps12
    go_wp2_with fail
    rw [← hwa]
    clear hwa
    refine F.out.mono ?_
    rintro e w1 ⟨rfl, hbb⟩
    obtain ⟨⟨d0, d1, d2, d3⟩, -, -⟩ := HF.out w1 hbb
    go_wp2_with fail
    refine (H.out _).mono ?_
    rintro e w2 ⟨rfl, hb2'⟩
    have hbt := hbb.trans (hb2'.mono hbb.size)
    obtain ⟨-, hz, hBw⟩ := HF.out w2 hbt
    have f0 := frozen_at hz 0
    have f1 := frozen_at hz 1
    have f2 := frozen_at hz 2
    have f3 := frozen_at hz 3
    have f4 := frozen_at hz 4
    have f5 := frozen_at hz 5
    obtain ⟨d1, d2, d3, d4, d5, d6⟩ := VAt.of hz
    simp only [Nat.zero_add, zeroV] at d1 d2 d3 d4 d5 d6
    have HS : Hid (∀ v0 v1 v2 v3 v4 v5 : Value, ((((((w2.setCell ⟨w.heap.size + 1, 0, none⟩ v0).setCell ⟨w.heap.size + 1, 1, none⟩ v1).setCell ⟨w.heap.size + 1, 2, none⟩ v2).setCell ⟨w.heap.size + 1, 3, none⟩ v3).setCell ⟨w.heap.size + 1, 4, none⟩ v4).setCell ⟨w.heap.size + 1, 5, none⟩ v5).heap[w.heap.size + 1]? = some (.cells #[v0, v1, v2, v3, v4, v5] 38)) := set6 hz
    have HBB : Hid (∀ v0 v1 v2 v3 v4 v5 : Value, Below w.heap.size w ((((((w2.setCell ⟨w.heap.size + 1, 0, none⟩ v0).setCell ⟨w.heap.size + 1, 1, none⟩ v1).setCell ⟨w.heap.size + 1, 2, none⟩ v2).setCell ⟨w.heap.size + 1, 3, none⟩ v3).setCell ⟨w.heap.size + 1, 4, none⟩ v4).setCell ⟨w.heap.size + 1, 5, none⟩ v5)) := below6 hBw (by omega)
    clear hz hBw hbt hb2' hbb
    go_wp2_with fail
    refine bodyPost_ret (v := .tuple #[.agg #[.int .i64 0, .bool false, .int .i64 0, .int .i64 0, .int .i64 0, .string ⟨#[]⟩], .bool false]) (resX_row_tmp Try.results12 _ _ (w.heap.size + 1) 38 _ _ _ _ rfl rfl (HS.out _ _ _ _ _ _) Try.underlying38 rfl (by kernel_rfl)) rfl ?_
    exact ⟨by rw [HR.out]; rfl, HBB.out _ _ _ _ _ _⟩
  | cons t R =>
    have tt := ha.tw.chain.at.ten
    have H : Hid (∀ w', Below wa.heap.size wa w' → Calls Try.prog 29 #[.pointer (some ⟨t.g, 0, none⟩), k.v] w' fun e w'' => e = .returned (.bool (eqK t.c.k k)) ∧ Below w'.heap.size w' w'') := fun w' hb => has_any t.g t.c k w' (tt.below hb tt.lt)
    have HT : Hid (∀ w', Below wa.heap.size wa w' → TenX w' t.g 0 t.c) := fun w' hb => tt.below hb tt.lt
    simp only [List.head?_cons, Option.map_some, pt_some] at F
    have hRt := hR t (by simp)
    by_cases hk : t.c.k = k
    · have HR : Hid (fnd k ((t :: R).map Tw.c) = (t.c.v, true)) := fnd_hit _ hk
      rw [eqK_true hk] at H
      generalize fnd k ((t :: R).map Tw.c) = X at *
      clear h ha hR hup hk hRt tt
      obtain ⟨kt, kp, kr, kcc⟩ := k
      simp only [Kb.v, zeroV, Vr.a] at hwa F H hb0 hb1 hb2 hb3 ⊢
      go_enter Try.func12, Try.ntmps12
      go_wp2_with fail
      rw [← hwa]
      clear hwa
      refine F.out.mono ?_
      rintro e w1 ⟨rfl, hbb⟩
      obtain ⟨⟨d0, d1, d2, d3⟩, -, -⟩ := HF.out w1 hbb
      go_wp2_with fail
      refine (H.out _ hbb).mono ?_
      rintro e w2 ⟨rfl, hb2'⟩
      have hbt := hbb.trans (hb2'.mono hbb.size)
      obtain ⟨-, hz, hBw⟩ := HF.out w2 hbt
      have tx := HT.out w2 hbt
      obtain ⟨⟨tk, ⟨tm, dd, lc, kd, nm, st⟩⟩, htc⟩ : ∃ c, c = t.c := ⟨_, rfl⟩
      rw [← htc] at tx HR
      obtain ⟨x0, x1, x2, x3, x4, x5, x6, x7, x8, x9⟩ := tx
      simp only [Nat.zero_add] at x0 x1 x2 x3 x4 x5 x6 x7 x8 x9
      have f0 := frozen_at hz 0
      have f1 := frozen_at hz 1
      have f2 := frozen_at hz 2
      have f3 := frozen_at hz 3
      have f4 := frozen_at hz 4
      have f5 := frozen_at hz 5
      obtain ⟨d1, d2, d3, d4, d5, d6⟩ := VAt.of hz
      simp only [Nat.zero_add, zeroV] at d1 d2 d3 d4 d5 d6
      have HS : Hid (∀ v0 v1 v2 v3 v4 v5 : Value, ((((((w2.setCell ⟨w.heap.size + 1, 0, none⟩ v0).setCell ⟨w.heap.size + 1, 1, none⟩ v1).setCell ⟨w.heap.size + 1, 2, none⟩ v2).setCell ⟨w.heap.size + 1, 3, none⟩ v3).setCell ⟨w.heap.size + 1, 4, none⟩ v4).setCell ⟨w.heap.size + 1, 5, none⟩ v5).heap[w.heap.size + 1]? = some (.cells #[v0, v1, v2, v3, v4, v5] 38)) := set6 hz
      have HBB : Hid (∀ v0 v1 v2 v3 v4 v5 : Value, Below w.heap.size w ((((((w2.setCell ⟨w.heap.size + 1, 0, none⟩ v0).setCell ⟨w.heap.size + 1, 1, none⟩ v1).setCell ⟨w.heap.size + 1, 2, none⟩ v2).setCell ⟨w.heap.size + 1, 3, none⟩ v3).setCell ⟨w.heap.size + 1, 4, none⟩ v4).setCell ⟨w.heap.size + 1, 5, none⟩ v5)) := below6 hBw (by omega)
      clear hz hBw hbt hb2' hbb htc
      go_wp2_with fail
      refine bodyPost_ret (v := .tuple #[.agg #[.int .i64 tm, .bool dd, .int .i64 lc, .int .i64 kd, .int .i64 nm, .string st], .bool true]) (resX_row_tmp Try.results12 _ _ (w.heap.size + 1) 38 _ _ _ _ rfl rfl (HS.out _ _ _ _ _ _) Try.underlying38 rfl (by kernel_rfl)) rfl ?_
      exact ⟨by rw [HR.out]; rfl, HBB.out _ _ _ _ _ _⟩
    · have HR : Hid (fnd k ((t :: R).map Tw.c) = (zeroV, false)) := fnd_behind (not_behind hup hRt hk)
      rw [eqK_false hk] at H
      generalize fnd k ((t :: R).map Tw.c) = X at *
      clear h ha hR hup hk hRt tt HT
      obtain ⟨kt, kp, kr, kcc⟩ := k
      simp only [Kb.v, zeroV, Vr.a] at hwa F H hb0 hb1 hb2 hb3 ⊢
      go_enter Try.func12, Try.ntmps12
      go_wp2_with fail
      rw [← hwa]
      clear hwa
      refine F.out.mono ?_
      rintro e w1 ⟨rfl, hbb⟩
      obtain ⟨⟨d0, d1, d2, d3⟩, -, -⟩ := HF.out w1 hbb
      go_wp2_with fail
      refine (H.out _ hbb).mono ?_
      rintro e w2 ⟨rfl, hb2'⟩
      have hbt := hbb.trans (hb2'.mono hbb.size)
      obtain ⟨-, hz, hBw⟩ := HF.out w2 hbt
      have f0 := frozen_at hz 0
      have f1 := frozen_at hz 1
      have f2 := frozen_at hz 2
      have f3 := frozen_at hz 3
      have f4 := frozen_at hz 4
      have f5 := frozen_at hz 5
      obtain ⟨d1, d2, d3, d4, d5, d6⟩ := VAt.of hz
      simp only [Nat.zero_add, zeroV] at d1 d2 d3 d4 d5 d6
      have HS : Hid (∀ v0 v1 v2 v3 v4 v5 : Value, ((((((w2.setCell ⟨w.heap.size + 1, 0, none⟩ v0).setCell ⟨w.heap.size + 1, 1, none⟩ v1).setCell ⟨w.heap.size + 1, 2, none⟩ v2).setCell ⟨w.heap.size + 1, 3, none⟩ v3).setCell ⟨w.heap.size + 1, 4, none⟩ v4).setCell ⟨w.heap.size + 1, 5, none⟩ v5).heap[w.heap.size + 1]? = some (.cells #[v0, v1, v2, v3, v4, v5] 38)) := set6 hz
      have HBB : Hid (∀ v0 v1 v2 v3 v4 v5 : Value, Below w.heap.size w ((((((w2.setCell ⟨w.heap.size + 1, 0, none⟩ v0).setCell ⟨w.heap.size + 1, 1, none⟩ v1).setCell ⟨w.heap.size + 1, 2, none⟩ v2).setCell ⟨w.heap.size + 1, 3, none⟩ v3).setCell ⟨w.heap.size + 1, 4, none⟩ v4).setCell ⟨w.heap.size + 1, 5, none⟩ v5)) := below6 hBw (by omega)
      clear hz hBw hbt hb2' hbb
      go_wp2_with fail
      refine bodyPost_ret (v := .tuple #[.agg #[.int .i64 0, .bool false, .int .i64 0, .int .i64 0, .int .i64 0, .string ⟨#[]⟩], .bool false]) (resX_row_tmp Try.results12 _ _ (w.heap.size + 1) 38 _ _ _ _ rfl rfl (HS.out _ _ _ _ _ _) Try.underlying38 rfl (by kernel_rfl)) rfl ?_
      exact ⟨by rw [HR.out]; rfl, HBB.out _ _ _ _ _ _⟩
end Go.Proofs.Ytlhojbgpmjcjlaa

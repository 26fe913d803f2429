/-
  CONTRACT: a cell is put into a skip list (Put).
-/
import Derived.Test.YtlhojbgpmjcjlaaSkPutP
import Derived.Test.YtlhojbgpmjcjlaaCxJoin
import Derived.Deep.RegionLaw
namespace Go.Proofs.Ytlhojbgpmjcjlaa
open Go.RowKit

theorem cell_box (w : World) (c : Cx) : ∃ wa, wa = w.alloc (.cells c.a 40) ∧ wa.heap[w.heap.size]? = some (.cells c.a 40) ∧ w.heap.size < wa.heap.size ∧ Below w.heap.size w wa :=
  ⟨_, rfl, heap_alloc_new w _, by rw [World.size_alloc]; omega, (Below.refl _ _).alloc (Nat.le_refl _) _⟩
set_option maxRecDepth 100000 in
set_option maxHeartbeats 1000000 in
theorem put_none (v : Value) (c : Cx) (w : World) (h : Unmade w v) : Calls Try.prog 10 #[v, c.val] w fun e w' => e = .returned (.int .i64 1) ∧ Below w.heap.size w w' := by
  obtain ⟨wa, hwa, hbx, hlt, hB⟩ := cell_box w c
  have M : Hid (Calls Try.prog 26 #[v] wa fun e w' => e = .returned (.bool false) ∧ w' = wa) := made_none (h.below hB (Nat.le_refl _))
  clear h hbx hlt
  obtain ⟨⟨ya, yp, yr, yc⟩, ⟨yt, yd, yl, yk, yn, ys⟩⟩ := c
  simp only [Cx.val, Cx.a] at hwa ⊢
  go_enter Try.func10, Try.ntmps10
  go_wp2_with fail
  rw [← hwa]
  clear hwa
  refine M.out.mono ?_
  rintro e w1 ⟨rfl, rfl⟩
  go_wp2_with fail
  go_ret
  exact ⟨rfl, hB⟩
set_option maxRecDepth 100000 in
set_option maxHeartbeats 1000000 in
theorem put_bad (S : SkId) (hs : List Nat) (T : List Tw) (c : Cx) (w : World) (h : SkAt w S hs T) (hg : goodC c = false) (h1 : c.k.t.size ≤ maxLen) (h2 : c.k.p.size ≤ maxLen) (h3 : c.k.c.size ≤ maxLen) (h4 : c.v.s.size ≤ maxLen) : Calls Try.prog 10 #[.pointer (some ⟨S.l, 0, none⟩), c.val] w fun e w' => e = .returned (.int .i64 2) ∧ Below w.heap.size w w' := by
  obtain ⟨wa, hwa, hbx, hlt, hB⟩ := cell_box w c
  have M : Hid (Calls Try.prog 26 #[.pointer (some ⟨S.l, 0, none⟩)] wa fun e w' => e = .returned (.bool true) ∧ w' = wa) := made_any S.l S.hd wa ((h.below hB (Nat.le_refl _)).lb.cell 0 rfl)
  have G : Hid (Calls Try.prog 27 #[c.val] wa fun e w' => e = .returned (.bool false) ∧ Below wa.heap.size wa w') := by have := goodX_any c wa h1 h2 h3 h4; rw [hg] at this; exact this
  have tc := TenX.of hbx
  have HB : Hid (∀ w', Below wa.heap.size wa w' → Below w.heap.size w w') := fun w' h => hB.trans (h.mono hB.size)
  clear h hbx hlt hg h1 h2 h3 h4 hB
  obtain ⟨⟨ya, yp, yr, yc⟩, ⟨yt, yd, yl, yk, yn, ys⟩⟩ := c
  simp only [Cx.val, Cx.a] at hwa G ⊢
  obtain ⟨x0, x1, x2, x3, x4, x5, x6, x7, x8, x9⟩ := tc
  simp only [Nat.zero_add] at x0 x1 x2 x3 x4 x5 x6 x7 x8 x9
  go_enter Try.func10, Try.ntmps10
  go_wp2_with fail
  rw [← hwa]
  clear hwa
  refine M.out.mono ?_
  rintro e w1 ⟨rfl, rfl⟩
  go_wp2_with fail
  refine G.out.mono ?_
  rintro e w2 ⟨rfl, hb2⟩
  have hE := HB.out w2 hb2
  go_wp2_with fail
  go_ret
  exact ⟨rfl, hE⟩
/-- A version is stored into a tower. -/
theorem tw_set6 {w : World} {g hv : Nat} {c : Cx} {n : Nat → Value} {ty : TypeId} (h : Blk w g (twL c hv n) ty) (a : Vr) : Blk ((((((w.setCell ⟨g, 4, none⟩ (.int .i64 a.time)).setCell ⟨g, 5, none⟩ (.bool a.dead)).setCell ⟨g, 6, none⟩ (.int .i64 a.loc)).setCell ⟨g, 7, none⟩ (.int .i64 a.kind)).setCell ⟨g, 8, none⟩ (.int .i64 a.num)).setCell ⟨g, 9, none⟩ (.string a.s)) g (twL ⟨c.k, a⟩ hv n) ty :=
  ((((((h.set 4 (.int .i64 a.time)).set 5 (.bool a.dead)).set 6 (.int .i64 a.loc)).set 7 (.int .i64 a.kind)).set 8 (.int .i64 a.num)).setTo 9 (.string a.s) _ rfl)
theorem set6_other (w : World) (g : Nat) (a : Vr) {b : Nat} (hb : b ≠ g) : ((((((w.setCell ⟨g, 4, none⟩ (.int .i64 a.time)).setCell ⟨g, 5, none⟩ (.bool a.dead)).setCell ⟨g, 6, none⟩ (.int .i64 a.loc)).setCell ⟨g, 7, none⟩ (.int .i64 a.kind)).setCell ⟨g, 8, none⟩ (.int .i64 a.num)).setCell ⟨g, 9, none⟩ (.string a.s)).heap[b]? = w.heap[b]? := by
  rw [Below.heap_setCell _ _ _ _ hb, Below.heap_setCell _ _ _ _ hb, Below.heap_setCell _ _ _ _ hb, Below.heap_setCell _ _ _ _ hb, Below.heap_setCell _ _ _ _ hb, Below.heap_setCell _ _ _ _ hb]
theorem map_put_same {A R : List Tw} {t : Tw} {c : Cx} {hs : List Nat} (hA : ∀ u ∈ A, kc u.c.k.ky c.k.ky < 0) (hk : t.c.k = c.k) : (A ++ ⟨t.g, jnC t.c c, t.hv, t.h⟩ :: R).map Tw.p = putM hs ((A ++ t :: R).map Tw.p) c := by
  unfold putM
  rw [List.map_append, List.map_append, List.map_cons, List.map_cons, putH_skip _ (fun a ha => by obtain ⟨u, hu, rfl⟩ := List.mem_map.1 ha; exact hA u hu), putH_same _ (show kx t.c c = 0 from (kx_z _ _).2 hk)]; rfl
theorem map_put_new {A R : List Tw} {n : Nat} {c : Cx} {hs : List Nat} (hA : ∀ u ∈ A, kc u.c.k.ky c.k.ky < 0) (hR : ∀ u ∈ R, 0 ≤ kc u.c.k.ky c.k.ky) (hne : ∀ u R', R = u :: R' → u.c.k ≠ c.k) : (A ++ ⟨n, c, nextH hs (A ++ R).length, nextH hs (A ++ R).length⟩ :: R).map Tw.p = putM hs ((A ++ R).map Tw.p) c := by
  unfold putM
  rw [List.length_map, List.map_append, List.map_append, List.map_cons, putH_skip _ (fun a ha => by obtain ⟨u, hu, rfl⟩ := List.mem_map.1 ha; exact hA u hu)]
  cases R with
  | nil => rfl
  | cons u R =>
    have h1 := hR u (by simp)
    have h2 : kx u.c c ≠ 0 := fun e => hne u R rfl ((kx_z _ _).1 e)
    rw [List.map_cons, putH_ahead _ (show 0 < kx u.c c by unfold kx at h2 ⊢; omega)]; rfl
set_option maxRecDepth 100000 in
set_option maxHeartbeats 4000000 in
theorem put_same (S : SkId) (hs : List Nat) (A R : List Tw) (t : Tw) (c : Cx) (w : World) (h : SkAt w S hs (A ++ t :: R)) (hA : ∀ u ∈ A, kc u.c.k.ky c.k.ky < 0) (hR : ∀ u ∈ t :: R, 0 ≤ kc u.c.k.ky c.k.ky) (hk : t.c.k = c.k) (hg : goodC c = true) (h1 : c.k.t.size ≤ maxLen) (h2 : c.k.p.size ≤ maxLen) (h3 : c.k.c.size ≤ maxLen) (h4 : c.v.s.size ≤ maxLen) :
    Calls Try.prog 10 #[.pointer (some ⟨S.l, 0, none⟩), c.val] w fun e w' => e = .returned (.int .i64 0) ∧ SkAt w' S hs (A ++ ⟨t.g, jnC t.c c, t.hv, t.h⟩ :: R) ∧ Moved w w' (S.ft (A ++ t :: R)) (S.ft (A ++ ⟨t.g, jnC t.c c, t.hv, t.h⟩ :: R)) := by
  obtain ⟨wa, hwa, hbx, hlt, hB⟩ := cell_box w c
  have ha := h.below hB (Nat.le_refl _)
  have M : Hid (Calls Try.prog 26 #[.pointer (some ⟨S.l, 0, none⟩)] wa fun e w' => e = .returned (.bool true) ∧ w' = wa) := made_any S.l S.hd wa (ha.lb.cell 0 rfl)
  have G : Hid (Calls Try.prog 27 #[c.val] wa fun e w' => e = .returned (.bool true) ∧ Below wa.heap.size wa w') := by have := goodX_any c wa h1 h2 h3 h4; rw [hg] at this; exact this
  obtain ⟨z0, hz0⟩ : ∃ z, z = lastH 0 S.hd A := ⟨_, rfl⟩
  obtain ⟨z1, hz1⟩ : ∃ z, z = lastH 1 S.hd A := ⟨_, rfl⟩
  obtain ⟨z2, hz2⟩ : ∃ z, z = lastH 2 S.hd A := ⟨_, rfl⟩
  obtain ⟨z3, hz3⟩ : ∃ z, z = lastH 3 S.hd A := ⟨_, rfl⟩
  obtain ⟨z4, hz4⟩ : ∃ z, z = lastH 4 S.hd A := ⟨_, rfl⟩
  obtain ⟨z5, hz5⟩ : ∃ z, z = lastH 5 S.hd A := ⟨_, rfl⟩
  obtain ⟨z6, hz6⟩ : ∃ z, z = lastH 6 S.hd A := ⟨_, rfl⟩
  obtain ⟨z7, hz7⟩ : ∃ z, z = lastH 7 S.hd A := ⟨_, rfl⟩
  have BF : Hid (∀ w', Below wa.heap.size wa w' → Calls Try.prog 28 #[.pointer (some ⟨S.l, 0, none⟩), c.k.v] w' fun e w'' => e = .returned (.agg #[.pointer (some ⟨z0, 0, none⟩), .pointer (some ⟨z1, 0, none⟩), .pointer (some ⟨z2, 0, none⟩), .pointer (some ⟨z3, 0, none⟩), .pointer (some ⟨z4, 0, none⟩), .pointer (some ⟨z5, 0, none⟩), .pointer (some ⟨z6, 0, none⟩), .pointer (some ⟨z7, 0, none⟩)]) ∧ Below w'.heap.size w' w'') := fun w' hb => by
    have h' := ha.below hb (Nat.le_refl _)
    have := before_any S.l S.hd c.k A (t :: R) w' (h'.lb.cell 0 rfl) h'.tw hA hR
    rw [foundL_all, ← hz0, ← hz1, ← hz2, ← hz3, ← hz4, ← hz5, ← hz6, ← hz7] at this
    exact this
  have HF : Hid (∀ w', Below wa.heap.size wa w' → SkAt w' S hs (A ++ t :: R) ∧ w'.heap[w.heap.size]? = some (.cells c.a 40) ∧ Below w.heap.size w w') := fun w' hb => ⟨ha.below hb (Nat.le_refl _), by rw [hb.block _ hlt]; exact hbx, hB.trans (hb.mono hB.size)⟩
  have HN0 : Hid (∀ w', SkAt w' S hs (A ++ t :: R) → w'.cell? ⟨z0, 11, none⟩ = some (.pointer (some ⟨t.g, 0, none⟩))) := fun w' h' => by
    have h5 := lastH_next h'.tw (l := 0) (by omega)
    rw [firstH_zero fun u hu => (h'.ok u (by simp [hu])).1, ← hz0] at h5
    exact h5
  have HH : Hid (∀ w', SkAt w' S hs (A ++ t :: R) → Calls Try.prog 29 #[.pointer (some ⟨t.g, 0, none⟩), c.k.v] w' fun e w'' => e = .returned (.bool true) ∧ Below w'.heap.size w' w'') := fun w' h' => by
    have := has_any t.g t.c c.k w' h'.tw.chain.at.ten
    rw [eqK_true hk] at this; exact this
  obtain ⟨jv, hjv⟩ : ∃ jv, jv = jn t.c.v c.v := ⟨_, rfl⟩
  have J : Hid (∀ w : World, Calls Try.prog 30 #[t.c.v.v, c.v.v] w fun e w' => e = .returned jv.v ∧ Below w.heap.size w w') := fun w => hjv ▸ join_any t.c.v c.v w
  have HEND : Hid (∀ w', SkAt w' S hs (A ++ t :: R) → Below w.heap.size w w' → SkAt ((((((w'.setCell ⟨t.g, 4, none⟩ (.int .i64 jv.time)).setCell ⟨t.g, 5, none⟩ (.bool jv.dead)).setCell ⟨t.g, 6, none⟩ (.int .i64 jv.loc)).setCell ⟨t.g, 7, none⟩ (.int .i64 jv.kind)).setCell ⟨t.g, 8, none⟩ (.int .i64 jv.num)).setCell ⟨t.g, 9, none⟩ (.string jv.s)) S hs (A ++ ⟨t.g, jnC t.c c, t.hv, t.h⟩ :: R) ∧ Moved w ((((((w'.setCell ⟨t.g, 4, none⟩ (.int .i64 jv.time)).setCell ⟨t.g, 5, none⟩ (.bool jv.dead)).setCell ⟨t.g, 6, none⟩ (.int .i64 jv.loc)).setCell ⟨t.g, 7, none⟩ (.int .i64 jv.kind)).setCell ⟨t.g, 8, none⟩ (.int .i64 jv.num)).setCell ⟨t.g, 9, none⟩ (.string jv.s)) (S.ft (A ++ t :: R)) (S.ft (A ++ ⟨t.g, jnC t.c c, t.hv, t.h⟩ :: R))) := fun w' h' hb => by
    have hjc : jnC t.c c = ⟨t.c.k, jv⟩ := by rw [hjv]; rfl
    have hnd := h'.nodup
    have hft : S.ft (A ++ ⟨t.g, jnC t.c c, t.hv, t.h⟩ :: R) = S.ft (A ++ t :: R) := by simp [SkId.ft]
    have hmem : t.g ∈ S.ft (A ++ t :: R) := by simp [SkId.ft]
    have hlne : S.l ≠ t.g := fun e => (List.nodup_cons.1 hnd).1 (by rw [e]; simp)
    have hgne : S.gh ≠ t.g := fun e => h'.gh (by rw [e]; exact hmem)
    have htw : TwAt w' t.g t.c t.hv t.h R := h'.tw.chain.at
    have hms : Moved w' ((((((w'.setCell ⟨t.g, 4, none⟩ (.int .i64 jv.time)).setCell ⟨t.g, 5, none⟩ (.bool jv.dead)).setCell ⟨t.g, 6, none⟩ (.int .i64 jv.loc)).setCell ⟨t.g, 7, none⟩ (.int .i64 jv.kind)).setCell ⟨t.g, 8, none⟩ (.int .i64 jv.num)).setCell ⟨t.g, 9, none⟩ (.string jv.s)) [t.g] [t.g] := (((((Moved.of_set _ _ _).trans (Moved.of_set _ _ _)).trans (Moved.of_set _ _ _)).trans (Moved.of_set _ _ _)).trans (Moved.of_set _ _ _)).trans (Moved.of_set _ _ _)
    have hbelow : Moved w w' (S.ft (A ++ t :: R)) (S.ft (A ++ t :: R)) := ⟨hb.os, hb.tape, hb.output, hb.size, fun i hi _ => hb.block i hi, fun i hi => .inl hi⟩
    refine ⟨⟨?_, fun i x hx => ?_, ?_, by rw [hft]; exact hnd, by rw [hft]; exact h'.gh, fun u hu => ?_, ?_, h'.hne, h'.hok, by have := h'.len; simp at this ⊢; omega⟩, ?_⟩
    · have e1 : (A ++ ⟨t.g, jnC t.c c, t.hv, t.h⟩ :: R).length = (A ++ t :: R).length := by simp
      rw [e1]; exact h'.lb.carry (set6_other w' t.g jv hlne)
    · rw [World.cell?_of_block (set6_other w' t.g jv (show S.gh ≠ t.g from hgne))]; exact h'.hrow i x hx
    · have hb2 : TwAt ((((((w'.setCell ⟨t.g, 4, none⟩ (.int .i64 jv.time)).setCell ⟨t.g, 5, none⟩ (.bool jv.dead)).setCell ⟨t.g, 6, none⟩ (.int .i64 jv.loc)).setCell ⟨t.g, 7, none⟩ (.int .i64 jv.kind)).setCell ⟨t.g, 8, none⟩ (.int .i64 jv.num)).setCell ⟨t.g, 9, none⟩ (.string jv.s)) t.g (jnC t.c c) t.hv t.h R := by rw [hjc]; exact tw_set6 htw jv
      exact h'.tw.turn (jnC t.c c) hb2 fun b hb _ => set6_other w' t.g jv hb
    · rcases List.mem_append.1 hu with hu | hu
      · exact h'.ok u (by simp [hu])
      · rcases List.mem_cons.1 hu with rfl | hu
        · exact h'.ok t (by simp)
        · exact h'.ok u (by simp [hu])
    · have hu := h'.up
      rw [List.map_append, List.map_cons] at hu ⊢
      obtain ⟨u1, u2, u3⟩ := List.pairwise_append.1 hu
      obtain ⟨u4, u5⟩ := List.pairwise_cons.1 u2
      refine List.pairwise_append.2 ⟨u1, List.pairwise_cons.2 ⟨fun b hb => by rw [kx_left (show (jnC t.c c).k = t.c.k from rfl)]; exact u4 b hb, u5⟩, fun a ha b hb => ?_⟩
      rcases List.mem_cons.1 hb with rfl | hb
      · rw [kx_right (show (jnC t.c c).k = t.c.k from rfl)]; exact u3 a ha t.c (by simp)
      · exact u3 a ha b (by simp [hb])
    · rw [hft]
      exact hbelow.trans (hms.wider (fun i hi => by rw [List.mem_singleton] at hi; subst hi; exact .inl hmem) (fun i hi => .inl hi))
  clear h ha hbx hlt hg h1 h2 h3 h4 hB hA hR hk hjv hz0 hz1 hz2 hz3 hz4 hz5 hz6 hz7
  obtain ⟨tcv, htcv⟩ : ∃ tc, tc = t.c := ⟨_, rfl⟩
  have HTC : Hid (tcv = t.c) := htcv
  have HCC : Hid (∀ w', w'.heap[w.heap.size]? = some (.cells c.a 40) → TenX w' w.heap.size 0 c) := fun w' h => TenX.of h
  rw [← htcv] at J
  clear htcv
  obtain ⟨⟨ya, yp, yr, yc⟩, ⟨yt, yd, yl, yk, yn, ys⟩⟩ := c
  obtain ⟨⟨xa, xp, xr, xc⟩, ⟨xt, xd, xl, xk, xn, xs⟩⟩ := tcv
  simp only [Cx.val, Cx.a, Kb.v, Vr.v] at hwa G BF HH J ⊢
  have hbox0 := (HF.out wa (Below.refl _ _)).2.1
  have tc0 := TenX.of hbox0
  obtain ⟨a0, a1, a2, a3, a4, a5, a6, a7, a8, a9⟩ := tc0
  simp only [Nat.zero_add] at a0 a1 a2 a3 a4 a5 a6 a7 a8 a9
  clear hbox0
  go_enter Try.func10, Try.ntmps10
  go_wp2_with fail
  rw [← hwa]
  clear hwa
  refine M.out.mono ?_
  rintro e w1 ⟨rfl, hw1⟩
  rw [hw1]
  clear hw1 w1
  go_wp2_with fail
  refine G.out.mono ?_
  rintro e w2 ⟨rfl, hb2⟩
  obtain ⟨-, hbx2, -⟩ := HF.out w2 hb2
  have tc2 := HCC.out w2 hbx2
  obtain ⟨b0, b1, b2, b3, b4, b5, b6, b7, b8, b9⟩ := tc2
  simp only [Nat.zero_add] at b0 b1 b2 b3 b4 b5 b6 b7 b8 b9
  clear a0 a1 a2 a3 a4 a5 a6 a7 a8 a9 hbx2
  go_wp2_with fail
  refine (BF.out w2 hb2).mono ?_
  rintro e w3 ⟨rfl, hb3⟩
  have hb23 := hb2.trans (hb3.mono hb2.size)
  obtain ⟨w4, hw4⟩ : ∃ w4, w4 = w3.alloc (.cells #[.pointer (some ⟨z0, 0, none⟩), .pointer (some ⟨z1, 0, none⟩), .pointer (some ⟨z2, 0, none⟩), .pointer (some ⟨z3, 0, none⟩), .pointer (some ⟨z4, 0, none⟩), .pointer (some ⟨z5, 0, none⟩), .pointer (some ⟨z6, 0, none⟩), .pointer (some ⟨z7, 0, none⟩)] 70) := ⟨_, rfl⟩
  have hb4 : Below wa.heap.size wa w4 := by rw [hw4]; exact hb23.alloc hb23.size _
  obtain ⟨hS4, hbx4, -⟩ := HF.out w4 hb4
  have n0 := HN0.out w4 hS4
  have tc4 := HCC.out w4 hbx4
  obtain ⟨e0, e1, e2, e3, e4, e5, e6, e7, e8, e9⟩ := tc4
  simp only [Nat.zero_add] at e0 e1 e2 e3 e4 e5 e6 e7 e8 e9
  rw [hw4] at n0 e0 e1 e2 e3 e4 e5 e6 e7 e8 e9
  have H4 : Hid (Calls Try.prog 29 #[.pointer (some ⟨t.g, 0, none⟩), .agg #[.string ya, .string yp, .int .i64 yr, .string yc]] w4 fun e w'' => e = .returned (.bool true) ∧ Below w4.heap.size w4 w'') := HH.out w4 hS4
  clear b0 b1 b2 b3 b4 b5 b6 b7 b8 b9 hb2 hb3 hb23 hbx4 hS4 BF G M HN0 HH
  go_wp2_with fail
  rw [← hw4]
  clear hw4 n0 e0 e1 e2 e3 e4 e5 e6 e7 e8 e9
  refine H4.out.mono ?_
  rintro e w5 ⟨rfl, hb5'⟩
  have hb5 := hb4.trans (hb5'.mono hb4.size)
  clear H4 hb5' hb4
  obtain ⟨hS5, hbx5, -⟩ := HF.out w5 hb5
  have tc5 := HCC.out w5 hbx5
  have tt5 : TenX w5 t.g 0 ⟨⟨xa, xp, xr, xc⟩, ⟨xt, xd, xl, xk, xn, xs⟩⟩ := by rw [HTC.out]; exact hS5.tw.chain.at.ten
  have tc6 : TenX w5.drew w.heap.size 0 ⟨⟨ya, yp, yr, yc⟩, ⟨yt, yd, yl, yk, yn, ys⟩⟩ := tc5.below (Below.refl w5.heap.size w5).drew tc5.lt
  have tt6 : TenX w5.drew t.g 0 ⟨⟨xa, xp, xr, xc⟩, ⟨xt, xd, xl, xk, xn, xs⟩⟩ := tt5.below (Below.refl w5.heap.size w5).drew tt5.lt
  obtain ⟨a0, a1, a2, a3, a4, a5, a6, a7, a8, a9⟩ := tc5
  obtain ⟨e0, e1, e2, e3, e4, e5, e6, e7, e8, e9⟩ := tt5
  obtain ⟨b0, b1, b2, b3, b4, b5, b6, b7, b8, b9⟩ := tc6
  obtain ⟨q0, q1, q2, q3, q4, q5, q6, q7, q8, q9⟩ := tt6
  simp only [Nat.zero_add] at a0 a1 a2 a3 a4 a5 a6 a7 a8 a9 e0 e1 e2 e3 e4 e5 e6 e7 e8 e9 b0 b1 b2 b3 b4 b5 b6 b7 b8 b9 q0 q1 q2 q3 q4 q5 q6 q7 q8 q9
  have HW : Hid (∀ w6, Below w5.heap.size w5 w6 → SkAt w6 S hs (A ++ t :: R) ∧ Below w.heap.size w w6) := fun w6 h6 => ⟨(HF.out w6 (hb5.trans (h6.mono hb5.size))).1, (HF.out w6 (hb5.trans (h6.mono hb5.size))).2.2⟩
  clear hS5 hbx5 HF HCC hb5
  obtain ⟨jt, jd, jl, jk, jn', js⟩ := jv
  simp only at J HEND
  go_wp2_with fail
  go_region_law (first
    | (go_simp; go_at_call 30; refine (J.out _).mono ?_; rintro e w6 ⟨rfl, hb6⟩; obtain ⟨hS6, hB6⟩ := HW.out w6 ((Below.refl w5.heap.size w5).drew.trans hb6); have htw := hS6.tw.chain.at (A := A) (t := t) (R := R); have f4 := Blk.frozen htw 4; have f5 := Blk.frozen htw 5; have f6 := Blk.frozen htw 6; have f7 := Blk.frozen htw 7; have f8 := Blk.frozen htw 8; have f9 := Blk.frozen htw 9; have tq := htw.ten; obtain ⟨m0, m1, m2, m3, m4, m5, m6, m7, m8, m9⟩ := tq; simp only [Nat.zero_add] at m0 m1 m2 m3 m4 m5 m6 m7 m8 m9; have HE := HEND.out w6 hS6 hB6; have HE2 : Hid _ := HE; clear HE hS6 hB6 htw hb6))
  all_goals
    go_wp2_with fail
    go_ret
    exact ⟨rfl, HE2.out⟩
theorem twL_zero (c : Cx) (H : Nat) (R : List Tw) : twL c H (lnk 0 R) = xs10 c ++ [.int .i64 H, .pointer none, .pointer none, .pointer none, .pointer none, .pointer none, .pointer none, .pointer none, .pointer none] := rfl
/-- What Put has done at its end: a new tower is linked, the count is one more. -/
theorem put_end {w w5 w6 w7 : World} {S : SkId} {hs : List Nat} {A R : List Tw} {c : Cx} {H N n : Nat} (hS : SkAt w5 S hs (A ++ R)) (hB : Below w.heap.size w w5) (h56 : Below w5.heap.size w5 w6) (hn : n = w5.heap.size) (hlt : n < w6.heap.size) (hN : N = (A ++ R).length) (hNl : N < 1000000) (hH : 1 ≤ H ∧ H ≤ 8)
    (hA : ∀ u ∈ A, kc u.c.k.ky c.k.ky < 0) (hR : ∀ u ∈ R, 0 ≤ kc u.c.k.ky c.k.ky) (hk : ∀ u R', R = u :: R' → u.c.k ≠ c.k)
    (hT : Towers w7 S.hd (A ++ ⟨n, c, H, H⟩ :: R)) (hM : Moved w6 w7 (S.hd :: n :: (A ++ R).map Tw.g) (S.hd :: n :: (A ++ R).map Tw.g)) :
    w7.cell? ⟨S.l, 2, none⟩ = some (.int .i64 (N : Nat)) ∧ w7.frozen? ⟨S.l, 2, none⟩ = false ∧ SkAt (w7.setCell ⟨S.l, 2, none⟩ (.int .i64 ((N : Int) + 1))) S hs (A ++ ⟨n, c, H, H⟩ :: R) ∧ Moved w (w7.setCell ⟨S.l, 2, none⟩ (.int .i64 ((N : Int) + 1))) (S.ft (A ++ R)) (S.ft (A ++ ⟨n, c, H, H⟩ :: R)) := by
  have hnd := hS.nodup
  have hlS := hS.lb.lt
  have hgS := hS.ghlt
  have hs6 := h56.size
  have hlnot : S.l ∉ S.hd :: n :: (A ++ R).map Tw.g := fun hm => by
    rcases List.mem_cons.1 hm with e | hm
    · exact (List.nodup_cons.1 hnd).1 (by rw [e]; simp)
    · rcases List.mem_cons.1 hm with e | hm
      · omega
      · exact (List.nodup_cons.1 hnd).1 (by simp only [List.mem_cons]; exact .inr hm)
  have hgnot : S.gh ∉ S.hd :: n :: (A ++ R).map Tw.g := fun hm => by
    rcases List.mem_cons.1 hm with e | hm
    · exact hS.gh (by rw [e]; simp [SkId.ft])
    · rcases List.mem_cons.1 hm with e | hm
      · omega
      · exact hS.gh (by simp only [SkId.ft, List.mem_cons]; exact .inr (.inr hm))
  have e7 : w7.heap[S.l]? = w5.heap[S.l]? := (hM.kept S.l (by omega) hlnot).trans (h56.block _ hlS)
  have g7 : w7.heap[S.gh]? = w5.heap[S.gh]? := (hM.kept S.gh (by omega) hgnot).trans (h56.block _ hgS)
  have lb7 := hS.lb.carry e7
  rw [← hN] at lb7
  have hlg : S.gh ≠ S.l := fun e => hS.gh (by rw [e]; simp [SkId.ft])
  have hmapn : (A ++ (⟨n, c, H, H⟩ : Tw) :: R).map Tw.g = A.map Tw.g ++ n :: R.map Tw.g := by simp
  have hlnot2 : S.l ∉ S.hd :: (A ++ (⟨n, c, H, H⟩ : Tw) :: R).map Tw.g := fun hm => hlnot (by
    simp only [List.map_append, List.map_cons, List.mem_cons, List.mem_append] at hm ⊢
    rcases hm with h | h | h | h
    · exact .inl h
    · exact .inr (.inr (.inl h))
    · exact .inr (.inl h)
    · exact .inr (.inr (.inr h)))
  have hgnot2 : S.gh ∉ S.hd :: (A ++ (⟨n, c, H, H⟩ : Tw) :: R).map Tw.g := fun hm => hgnot (by
    simp only [List.map_append, List.map_cons, List.mem_cons, List.mem_append] at hm ⊢
    rcases hm with h | h | h | h
    · exact .inl h
    · exact .inr (.inr (.inl h))
    · exact .inr (.inl h)
    · exact .inr (.inr (.inr h)))
  refine ⟨lb7.cell 2 rfl, lb7.frozen 2, ⟨?_, fun i x hx => ?_, ?_, ?_, ?_, fun u hu => ?_, ?_, hS.hne, hS.hok, ?_⟩, ?_⟩
  · refine lb7.setTo 2 _ _ ?_
    have e1 : (A ++ (⟨n, c, H, H⟩ : Tw) :: R).length = N + 1 := by rw [hN]; simp; omega
    rw [e1]
    show [_, _, _] = [_, _, _]
    congr 3
  · rw [World.cell?_of_block (Below.heap_setCell _ _ _ _ (show S.gh ≠ S.l from hlg)), World.cell?_of_block g7]
    exact hS.hrow i x hx
  · exact hT.carry fun b _ hb => Below.heap_setCell _ _ _ _ (show b ≠ S.l from fun e => hlnot2 (e ▸ hb))
  · exact List.nodup_cons.2 ⟨hlnot2, hT.nodup⟩
  · exact fun hm => by
      rcases List.mem_cons.1 hm with e | hm
      · exact hlg e
      · exact hgnot2 hm
  · rcases List.mem_append.1 hu with hu | hu
    · exact hS.ok u (by simp [hu])
    · rcases List.mem_cons.1 hu with rfl | hu
      · exact ⟨hH.1, hH.2, rfl⟩
      · exact hS.ok u (by simp [hu])
  · have hu := hS.up
    rw [List.map_append] at hu
    obtain ⟨u1, u2, u3⟩ := List.pairwise_append.1 hu
    have hcR : ∀ y ∈ R.map Tw.c, kx c y < 0 := fun y hy => by
      cases R with
      | nil => cases hy
      | cons u R' =>
        have a1 := hR u (by simp)
        have a2 : kx u.c c ≠ 0 := fun e => hk u R' rfl ((kx_z _ _).1 e)
        have a3 : kx c u.c < 0 := by have := kx_n c u.c; unfold kx at *; omega
        rcases List.mem_cons.1 hy with rfl | hy
        · exact a3
        · exact kx_strict a3 ((List.pairwise_cons.1 u2).1 y hy)
    rw [List.map_append, List.map_cons]
    refine List.pairwise_append.2 ⟨u1, List.pairwise_cons.2 ⟨hcR, u2⟩, fun a ha b hb => ?_⟩
    rcases List.mem_cons.1 hb with rfl | hb
    · obtain ⟨u, hu', rfl⟩ := List.mem_map.1 ha
      exact hA u hu'
    · exact u3 a ha b hb
  · have e1 : (A ++ (⟨n, c, H, H⟩ : Tw) :: R).length = N + 1 := by rw [hN]; simp; omega
    omega
  · have hF : ∀ i, i ∈ S.hd :: n :: (A ++ R).map Tw.g → i ∈ S.ft (A ++ ⟨n, c, H, H⟩ :: R) := fun i hi => by
      simp only [SkId.ft, List.map_append, List.map_cons, List.mem_cons, List.mem_append] at hi ⊢
      rcases hi with h | h | h | h
      · exact .inr (.inl h)
      · exact .inr (.inr (.inr (.inl h)))
      · exact .inr (.inr (.inl h))
      · exact .inr (.inr (.inr (.inr h)))
    have hF2 : ∀ i, i ∈ S.ft (A ++ ⟨n, c, H, H⟩ :: R) → i ∈ S.ft (A ++ R) ∨ w.heap.size ≤ i := fun i hi => by
      simp only [SkId.ft, List.map_append, List.map_cons, List.mem_cons, List.mem_append] at hi ⊢
      rcases hi with h | h | h | h | h
      · exact .inl (.inl h)
      · exact .inl (.inr (.inl h))
      · exact .inl (.inr (.inr (.inl h)))
      · have := hB.size; exact .inr (by omega)
      · exact .inl (.inr (.inr (.inr h)))
    have hb6 := hB.trans (h56.mono hB.size)
    have m1 : Moved w w6 (S.ft (A ++ R)) (S.ft (A ++ ⟨n, c, H, H⟩ :: R)) := ⟨hb6.os, hb6.tape, hb6.output, hb6.size, fun i hi _ => hb6.block i hi, hF2⟩
    have m2 : Moved w6 w7 (S.ft (A ++ ⟨n, c, H, H⟩ :: R)) (S.ft (A ++ ⟨n, c, H, H⟩ :: R)) := hM.wider (fun i hi => .inl (hF i hi)) (fun i hi => .inl hi)
    have m3 : Moved w7 (w7.setCell ⟨S.l, 2, none⟩ (.int .i64 ((N : Int) + 1))) (S.ft (A ++ ⟨n, c, H, H⟩ :: R)) (S.ft (A ++ ⟨n, c, H, H⟩ :: R)) := (Moved.of_set S.l 2 _).wider (fun i hi => by rw [List.mem_singleton] at hi; subst hi; exact .inl (by simp [SkId.ft])) (fun i hi => .inl hi)
    exact (m1.trans m2).trans m3
set_option maxRecDepth 100000 in
set_option maxHeartbeats 4000000 in
theorem put_new (S : SkId) (hs : List Nat) (A R : List Tw) (c : Cx) (w : World) (h : SkAt w S hs (A ++ R)) (hA : ∀ u ∈ A, kc u.c.k.ky c.k.ky < 0) (hR : ∀ u ∈ R, 0 ≤ kc u.c.k.ky c.k.ky) (hk : ∀ u R', R = u :: R' → u.c.k ≠ c.k) (hlen : (A ++ R).length < 1000000) (hg : goodC c = true) (h1 : c.k.t.size ≤ maxLen) (h2 : c.k.p.size ≤ maxLen) (h3 : c.k.c.size ≤ maxLen) (h4 : c.v.s.size ≤ maxLen) :
    Calls Try.prog 10 #[.pointer (some ⟨S.l, 0, none⟩), c.val] w fun e w' => ∃ n, e = .returned (.int .i64 0) ∧ SkAt w' S hs (A ++ ⟨n, c, nextH hs (A ++ R).length, nextH hs (A ++ R).length⟩ :: R) ∧ w.heap.size ≤ n ∧ Moved w w' (S.ft (A ++ R)) (S.ft (A ++ ⟨n, c, nextH hs (A ++ R).length, nextH hs (A ++ R).length⟩ :: R)) := by
  obtain ⟨wa, hwa, hbx, hlt, hB⟩ := cell_box w c
  have ha := h.below hB (Nat.le_refl _)
  have M : Hid (Calls Try.prog 26 #[.pointer (some ⟨S.l, 0, none⟩)] wa fun e w' => e = .returned (.bool true) ∧ w' = wa) := made_any S.l S.hd wa (ha.lb.cell 0 rfl)
  have G : Hid (Calls Try.prog 27 #[c.val] wa fun e w' => e = .returned (.bool true) ∧ Below wa.heap.size wa w') := by have := goodX_any c wa h1 h2 h3 h4; rw [hg] at this; exact this
  obtain ⟨z0, hz0⟩ : ∃ z, z = lastH 0 S.hd A := ⟨_, rfl⟩
  obtain ⟨z1, hz1⟩ : ∃ z, z = lastH 1 S.hd A := ⟨_, rfl⟩
  obtain ⟨z2, hz2⟩ : ∃ z, z = lastH 2 S.hd A := ⟨_, rfl⟩
  obtain ⟨z3, hz3⟩ : ∃ z, z = lastH 3 S.hd A := ⟨_, rfl⟩
  obtain ⟨z4, hz4⟩ : ∃ z, z = lastH 4 S.hd A := ⟨_, rfl⟩
  obtain ⟨z5, hz5⟩ : ∃ z, z = lastH 5 S.hd A := ⟨_, rfl⟩
  obtain ⟨z6, hz6⟩ : ∃ z, z = lastH 6 S.hd A := ⟨_, rfl⟩
  obtain ⟨z7, hz7⟩ : ∃ z, z = lastH 7 S.hd A := ⟨_, rfl⟩
  have BF : Hid (∀ w', Below wa.heap.size wa w' → Calls Try.prog 28 #[.pointer (some ⟨S.l, 0, none⟩), c.k.v] w' fun e w'' => e = .returned (.agg #[.pointer (some ⟨z0, 0, none⟩), .pointer (some ⟨z1, 0, none⟩), .pointer (some ⟨z2, 0, none⟩), .pointer (some ⟨z3, 0, none⟩), .pointer (some ⟨z4, 0, none⟩), .pointer (some ⟨z5, 0, none⟩), .pointer (some ⟨z6, 0, none⟩), .pointer (some ⟨z7, 0, none⟩)]) ∧ Below w'.heap.size w' w'') := fun w' hb => by
    have h' := ha.below hb (Nat.le_refl _)
    have := before_any S.l S.hd c.k A R w' (h'.lb.cell 0 rfl) h'.tw hA hR
    rw [foundL_all, ← hz0, ← hz1, ← hz2, ← hz3, ← hz4, ← hz5, ← hz6, ← hz7] at this
    exact this
  have HF : Hid (∀ w', Below wa.heap.size wa w' → SkAt w' S hs (A ++ R) ∧ w'.heap[w.heap.size]? = some (.cells c.a 40) ∧ Below w.heap.size w w') := fun w' hb => ⟨ha.below hb (Nat.le_refl _), by rw [hb.block _ hlt]; exact hbx, hB.trans (hb.mono hB.size)⟩
  obtain ⟨pv, hpv⟩ : ∃ pv, pt (R.head?.map Tw.g) = .pointer pv := ⟨_, rfl⟩
  have HN0 : Hid (∀ w', SkAt w' S hs (A ++ R) → w'.cell? ⟨z0, 11, none⟩ = some (.pointer pv)) := fun w' h' => by
    have h5 := lastH_next h'.tw (l := 0) (by omega)
    rw [firstH_zero fun u hu => (h'.ok u (by simp [hu])).1, ← hz0, hpv] at h5
    exact h5
  have HH : Hid (∀ w', SkAt w' S hs (A ++ R) → Calls Try.prog 29 #[.pointer pv, c.k.v] w' fun e w'' => e = .returned (.bool false) ∧ Below w'.heap.size w' w'') := fun w' h' => by
    rw [← hpv]
    cases R with
    | nil => exact has_nil c.k w'
    | cons u R' =>
      have := has_any u.g u.c c.k w' h'.tw.chain.at.ten
      rw [eqK_false (hk u R' rfl)] at this; exact this
  obtain ⟨N, hN⟩ : ∃ N, N = (A ++ R).length := ⟨_, rfl⟩
  obtain ⟨H, hH⟩ : ∃ H, H = nextH hs (A ++ R).length := ⟨_, rfl⟩
  rw [← hH]
  have hKpos : 0 < hs.length := List.length_pos_iff.2 h.hne
  obtain ⟨ix, hix⟩ : ∃ ix, ix = N % hs.length := ⟨_, rfl⟩
  have hixl : ix < hs.length := by rw [hix]; exact Nat.mod_lt _ hKpos
  have hHx : hs[ix]? = some H := by
    rw [hH]; unfold nextH
    rw [← hN, ← hix, List.getD_eq_getElem?_getD, List.getElem?_eq_getElem hixl]; rfl
  have hH8 : 1 ≤ H ∧ H ≤ 8 := h.hok H (List.mem_of_getElem? hHx)
  have HLB : Hid (∀ w', SkAt w' S hs (A ++ R) → w'.cell? ⟨S.l, 0, none⟩ = some (.pointer (some ⟨S.hd, 0, none⟩)) ∧ w'.cell? ⟨S.l, 1, none⟩ = some (.slice (some ⟨S.gh, 0, none⟩) hs.length S.cap) ∧ w'.cell? ⟨S.l, 2, none⟩ = some (.int .i64 (N : Nat)) ∧ w'.cell? ⟨S.gh, ix, none⟩ = some (.int .i64 (H : Nat))) := fun w' h' => ⟨h'.lb.cell 0 rfl, h'.lb.cell 1 rfl, by rw [hN]; exact h'.lb.cell 2 rfl, h'.hrow ix H hHx⟩
  have LK : Hid (∀ (n : Nat) (w' : World), Towers w' S.hd (A ++ ⟨n, c, H, 0⟩ :: R) → Calls Try.prog 31 #[.pointer (some ⟨n, 0, none⟩), .agg #[.pointer (some ⟨z0, 0, none⟩), .pointer (some ⟨z1, 0, none⟩), .pointer (some ⟨z2, 0, none⟩), .pointer (some ⟨z3, 0, none⟩), .pointer (some ⟨z4, 0, none⟩), .pointer (some ⟨z5, 0, none⟩), .pointer (some ⟨z6, 0, none⟩), .pointer (some ⟨z7, 0, none⟩)]] w' fun e w'' => e = .returned (.tuple #[]) ∧ Towers w'' S.hd (A ++ ⟨n, c, H, H⟩ :: R) ∧ Moved w' w'' (S.hd :: n :: (A ++ R).map Tw.g) (S.hd :: n :: (A ++ R).map Tw.g)) := fun n w' hT => by
    have := link_any n S.hd H c A R w' hT hH8.2
    rw [foundL_all, ← hz0, ← hz1, ← hz2, ← hz3, ← hz4, ← hz5, ← hz6, ← hz7] at this
    exact this
  have hNz : (N : Int) < 1000000 := by omega
  have hKz : (0 : Int) < (hs.length : Int) := by omega
  have em : (N : Int) % (hs.length : Int) = (ix : Int) := by rw [hix]; omega
  have hixz : (ix : Int) < (hs.length : Int) := by omega
  have HUP : Hid (∀ w', SkAt w' S hs (A ++ R) → True) := fun _ _ => trivial
  have HA2 : Hid ((∀ u ∈ A, kc u.c.k.ky c.k.ky < 0) ∧ (∀ u ∈ R, 0 ≤ kc u.c.k.ky c.k.ky) ∧ (∀ u R', R = u :: R' → u.c.k ≠ c.k) ∧ (A ++ R).length < 1000000 ∧ N = (A ++ R).length ∧ 1 ≤ H ∧ H ≤ 8) := ⟨hA, hR, hk, hlen, hN, hH8.1, hH8.2⟩
  clear h ha hbx hlt hg h1 h2 h3 h4 hB hA hR hk hpv hlen hH hix hixl hHx hH8 hKpos hN HUP hz0 hz1 hz2 hz3 hz4 hz5 hz6 hz7
  have HCC : Hid (∀ w', w'.heap[w.heap.size]? = some (.cells c.a 40) → TenX w' w.heap.size 0 c) := fun w' h => TenX.of h
  obtain ⟨⟨ya, yp, yr, yc⟩, ⟨yt, yd, yl, yk, yn, ys⟩⟩ := c
  simp only [Cx.val, Cx.a, Kb.v] at hwa G BF HH ⊢
  have hbox0 := (HF.out wa (Below.refl _ _)).2.1
  have tc0 := TenX.of hbox0
  obtain ⟨a0, a1, a2, a3, a4, a5, a6, a7, a8, a9⟩ := tc0
  simp only [Nat.zero_add] at a0 a1 a2 a3 a4 a5 a6 a7 a8 a9
  clear hbox0
  go_enter Try.func10, Try.ntmps10
  go_wp2_with fail
  rw [← hwa]
  clear hwa
  refine M.out.mono ?_
  rintro e w1 ⟨rfl, hw1⟩
  rw [hw1]
  clear hw1 w1
  go_wp2_with fail
  refine G.out.mono ?_
  rintro e w2 ⟨rfl, hb2⟩
  obtain ⟨-, hbx2, -⟩ := HF.out w2 hb2
  have tc2 := HCC.out w2 hbx2
  obtain ⟨b0, b1, b2, b3, b4, b5, b6, b7, b8, b9⟩ := tc2
  simp only [Nat.zero_add] at b0 b1 b2 b3 b4 b5 b6 b7 b8 b9
  clear a0 a1 a2 a3 a4 a5 a6 a7 a8 a9 hbx2
  go_wp2_with fail
  refine (BF.out w2 hb2).mono ?_
  rintro e w3 ⟨rfl, hb3⟩
  have hb23 := hb2.trans (hb3.mono hb2.size)
  obtain ⟨w4, hw4⟩ : ∃ w4, w4 = w3.alloc (.cells #[.pointer (some ⟨z0, 0, none⟩), .pointer (some ⟨z1, 0, none⟩), .pointer (some ⟨z2, 0, none⟩), .pointer (some ⟨z3, 0, none⟩), .pointer (some ⟨z4, 0, none⟩), .pointer (some ⟨z5, 0, none⟩), .pointer (some ⟨z6, 0, none⟩), .pointer (some ⟨z7, 0, none⟩)] 70) := ⟨_, rfl⟩
  have hb4 : Below wa.heap.size wa w4 := by rw [hw4]; exact hb23.alloc hb23.size _
  obtain ⟨hS4, hbx4, -⟩ := HF.out w4 hb4
  have n0 := HN0.out w4 hS4
  have tc4 := HCC.out w4 hbx4
  obtain ⟨e0, e1, e2, e3, e4, e5, e6, e7, e8, e9⟩ := tc4
  simp only [Nat.zero_add] at e0 e1 e2 e3 e4 e5 e6 e7 e8 e9
  rw [hw4] at n0 e0 e1 e2 e3 e4 e5 e6 e7 e8 e9
  have H4 : Hid (Calls Try.prog 29 #[.pointer pv, .agg #[.string ya, .string yp, .int .i64 yr, .string yc]] w4 fun e w'' => e = .returned (.bool false) ∧ Below w4.heap.size w4 w'') := HH.out w4 hS4
  have bx4 : Blk w4 w3.heap.size [.pointer (some ⟨z0, 0, none⟩), .pointer (some ⟨z1, 0, none⟩), .pointer (some ⟨z2, 0, none⟩), .pointer (some ⟨z3, 0, none⟩), .pointer (some ⟨z4, 0, none⟩), .pointer (some ⟨z5, 0, none⟩), .pointer (some ⟨z6, 0, none⟩), .pointer (some ⟨z7, 0, none⟩)] 70 := by rw [hw4]; exact Blk.new w3 _ _
  have BX4 : Hid (∀ w', Below w4.heap.size w4 w' → Blk w' w3.heap.size [.pointer (some ⟨z0, 0, none⟩), .pointer (some ⟨z1, 0, none⟩), .pointer (some ⟨z2, 0, none⟩), .pointer (some ⟨z3, 0, none⟩), .pointer (some ⟨z4, 0, none⟩), .pointer (some ⟨z5, 0, none⟩), .pointer (some ⟨z6, 0, none⟩), .pointer (some ⟨z7, 0, none⟩)] 70) := fun w' hb => bx4.below hb bx4.lt
  clear b0 b1 b2 b3 b4 b5 b6 b7 b8 b9 hb2 hb3 hb23 hbx4 hS4 BF G M HN0 HH bx4
  go_wp2_with fail
  rw [← hw4]
  clear hw4 n0 e0 e1 e2 e3 e4 e5 e6 e7 e8 e9
  refine H4.out.mono ?_
  rintro e w5 ⟨rfl, hb45⟩
  have hb5 := hb4.trans (hb45.mono hb4.size)
  clear H4 hb4
  obtain ⟨hS5, hbx5, hB5⟩ := HF.out w5 hb5
  have tc5 := HCC.out w5 hbx5
  obtain ⟨l0, l1, l2, l3⟩ := HLB.out w5 hS5
  obtain ⟨a0, a1, a2, a3, a4, a5, a6, a7, a8, a9⟩ := tc5
  simp only [Nat.zero_add] at a0 a1 a2 a3 a4 a5 a6 a7 a8 a9
  clear HCC HLB
  obtain ⟨w6, hw6⟩ : ∃ w6, w6 = (w5.alloc (.cells #[.string ya, .string yp, .int .i64 yr, .string yc, .int .i64 yt, .bool yd, .int .i64 yl, .int .i64 yk, .int .i64 yn, .string ys, .int .i64 (H : Nat), .pointer none, .pointer none, .pointer none, .pointer none, .pointer none, .pointer none, .pointer none, .pointer none] 72)).drew := ⟨_, rfl⟩
  have h56 : Below w5.heap.size w5 w6 := by rw [hw6]; exact ((Below.refl _ _).alloc (Nat.le_refl _) _).drew
  have hlt6 : w5.heap.size < w6.heap.size := by rw [hw6]; show _ < (w5.alloc _).heap.size; rw [World.size_alloc]; omega
  have htw6 : TwAt w6 w5.heap.size ⟨⟨ya, yp, yr, yc⟩, ⟨yt, yd, yl, yk, yn, ys⟩⟩ H 0 R := by rw [hw6]; exact heap_alloc_new w5 _
  have hT6 : Towers w6 S.hd (A ++ ⟨w5.heap.size, ⟨⟨ya, yp, yr, yc⟩, ⟨yt, yd, yl, yk, yn, ys⟩⟩, H, 0⟩ :: R) := hS5.tw.insert htw6 (Nat.le_refl _) (fun b hb => h56.block b hb)
  have L6 := LK.out w5.heap.size w6 hT6
  have L7 : Hid (Calls Try.prog 31 #[.pointer (some ⟨w5.heap.size, 0, none⟩), .agg #[.pointer (some ⟨z0, 0, none⟩), .pointer (some ⟨z1, 0, none⟩), .pointer (some ⟨z2, 0, none⟩), .pointer (some ⟨z3, 0, none⟩), .pointer (some ⟨z4, 0, none⟩), .pointer (some ⟨z5, 0, none⟩), .pointer (some ⟨z6, 0, none⟩), .pointer (some ⟨z7, 0, none⟩)]] w6 fun e w'' => e = .returned (.tuple #[]) ∧ Towers w'' S.hd (A ++ ⟨w5.heap.size, ⟨⟨ya, yp, yr, yc⟩, ⟨yt, yd, yl, yk, yn, ys⟩⟩, H, H⟩ :: R) ∧ Moved w6 w'' (S.hd :: w5.heap.size :: (A ++ R).map Tw.g) (S.hd :: w5.heap.size :: (A ++ R).map Tw.g)) := L6
  have b6 := BX4.out w6 (hb45.trans (h56.mono hb45.size))
  have d0 := b6.cell 0 rfl
  have d1 := b6.cell 1 rfl
  have d2 := b6.cell 2 rfl
  have d3 := b6.cell 3 rfl
  have d4 := b6.cell 4 rfl
  have d5 := b6.cell 5 rfl
  have d6 := b6.cell 6 rfl
  have d7 := b6.cell 7 rfl
  have HP : Hid (∀ w7, Towers w7 S.hd (A ++ ⟨w5.heap.size, ⟨⟨ya, yp, yr, yc⟩, ⟨yt, yd, yl, yk, yn, ys⟩⟩, H, H⟩ :: R) → Moved w6 w7 (S.hd :: w5.heap.size :: (A ++ R).map Tw.g) (S.hd :: w5.heap.size :: (A ++ R).map Tw.g) → w7.cell? ⟨S.l, 2, none⟩ = some (.int .i64 (N : Nat)) ∧ w7.frozen? ⟨S.l, 2, none⟩ = false ∧ SkAt (w7.setCell ⟨S.l, 2, none⟩ (.int .i64 ((N : Int) + 1))) S hs (A ++ ⟨w5.heap.size, ⟨⟨ya, yp, yr, yc⟩, ⟨yt, yd, yl, yk, yn, ys⟩⟩, H, H⟩ :: R) ∧ Moved w (w7.setCell ⟨S.l, 2, none⟩ (.int .i64 ((N : Int) + 1))) (S.ft (A ++ R)) (S.ft (A ++ ⟨w5.heap.size, ⟨⟨ya, yp, yr, yc⟩, ⟨yt, yd, yl, yk, yn, ys⟩⟩, H, H⟩ :: R))) := fun w7 hT7 hM7 => put_end hS5 hB5 h56 rfl hlt6 HA2.out.2.2.2.2.1 (by have := HA2.out; omega) ⟨HA2.out.2.2.2.2.2.1, HA2.out.2.2.2.2.2.2⟩ HA2.out.1 HA2.out.2.1 HA2.out.2.2.1 hT7 hM7
  have HBs : Hid (w.heap.size ≤ w5.heap.size) := hB5.size
  clear hS5 hbx5 hB5 h56 hlt6 htw6 hT6 L6 b6 HF hb5 hb45
  go_wp2_with fail
  go_region
  rw [← hw6]
  clear hw6 a0 a1 a2 a3 a4 a5 a6 a7 a8 a9 l0 l1 l2 l3
  go_wp2_with fail
  refine L7.out.mono ?_
  rintro e w7 ⟨rfl, hT7, hM7⟩
  obtain ⟨m2, f2, hS7, hM8⟩ := HP.out w7 hT7 hM7
  have HS7 : Hid (SkAt (w7.setCell ⟨S.l, 2, none⟩ (.int .i64 ((N : Int) + 1))) S hs (A ++ ⟨w5.heap.size, ⟨⟨ya, yp, yr, yc⟩, ⟨yt, yd, yl, yk, yn, ys⟩⟩, H, H⟩ :: R) ∧ Moved w (w7.setCell ⟨S.l, 2, none⟩ (.int .i64 ((N : Int) + 1))) (S.ft (A ++ R)) (S.ft (A ++ ⟨w5.heap.size, ⟨⟨ya, yp, yr, yc⟩, ⟨yt, yd, yl, yk, yn, ys⟩⟩, H, H⟩ :: R))) := ⟨hS7, hM8⟩
  clear hT7 hM7 hS7 hM8 d0 d1 d2 d3 d4 d5 d6 d7
  go_wp2_with fail
  go_ret
  exact ⟨w5.heap.size, rfl, HS7.out.1, HBs.out, HS7.out.2⟩
end Go.Proofs.Ytlhojbgpmjcjlaa

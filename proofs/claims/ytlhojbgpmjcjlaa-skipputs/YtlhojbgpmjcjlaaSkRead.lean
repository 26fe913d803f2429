/-
  A SKIP LIST: what tells of it without going over it: made, lowest, first, has, Len, Get.
-/
import Derived.Test.YtlhojbgpmjcjlaaSkBefore
import Derived.Test.YtlhojbgpmjcjlaaCxFound
namespace Go.Proofs.Ytlhojbgpmjcjlaa
open Go.RowKit

structure SkId where
  l : Nat
  hd : Nat
  gh : Nat
  cap : Nat
/-- The blocks that Put may change. -/
def SkId.ft (S : SkId) (T : List Tw) : List Nat := S.l :: S.hd :: T.map Tw.g
/-- A list in memory. -/
structure SkAt (w : World) (S : SkId) (hs : List Nat) (T : List Tw) : Prop where
  lb : Blk w S.l [.pointer (some ⟨S.hd, 0, none⟩), .slice (some ⟨S.gh, 0, none⟩) hs.length S.cap, .int .i64 T.length] 63
  hrow : ∀ i x, hs[i]? = some x → w.cell? ⟨S.gh, i, none⟩ = some (.int .i64 (x : Nat))
  tw : Towers w S.hd T
  nodup : (S.ft T).Nodup
  gh : S.gh ∉ S.ft T
  ok : ∀ t ∈ T, 1 ≤ t.h ∧ t.h ≤ 8 ∧ t.hv = t.h
  up : (T.map Tw.c).Pairwise fun x y => kx x y < 0
  hne : hs ≠ []
  hok : ∀ x ∈ hs, 1 ≤ x ∧ x ≤ 8
  len : T.length ≤ 1000000
theorem SkAt.ghlt {w : World} {S : SkId} {hs : List Nat} {T : List Tw} (h : SkAt w S hs T) : S.gh < w.heap.size := by
  cases hs with
  | nil => exact absurd rfl h.hne
  | cons x r => exact World.block_lt_of_cell? _ _ (h.hrow 0 x rfl)
theorem SkAt.ftlt {w : World} {S : SkId} {hs : List Nat} {T : List Tw} (h : SkAt w S hs T) : ∀ b ∈ S.ft T, b < w.heap.size := fun b hb => by
  rcases List.mem_cons.1 hb with rfl | hb
  · exact h.lb.lt
  · rcases List.mem_cons.1 hb with rfl | hb
    · exact h.tw.head.lt
    · obtain ⟨t, ht, rfl⟩ := List.mem_map.1 hb
      exact h.tw.chain.lt t ht
theorem SkAt.carry {w w' : World} {S : SkId} {hs : List Nat} {T : List Tw} (h : SkAt w S hs T) (e : ∀ b, b < w.heap.size → b ∈ S.gh :: S.ft T → w'.heap[b]? = w.heap[b]?) : SkAt w' S hs T :=
  ⟨h.lb.carry (e _ h.lb.lt (by simp [SkId.ft])), fun i x hx => by rw [World.cell?_of_block (e _ h.ghlt (by simp))]; exact h.hrow i x hx, h.tw.carry fun b hb hm => e b hb (by simp only [SkId.ft, List.mem_cons] at hm ⊢; exact .inr (.inr hm)), h.nodup, h.gh, h.ok, h.up, h.hne, h.hok, h.len⟩
theorem SkAt.below {w w' : World} {S : SkId} {hs : List Nat} {T : List Tw} (h : SkAt w S hs T) {B : Nat} (hb : Below B w w') (hB : w.heap.size ≤ B) : SkAt w' S hs T := h.carry fun b hlt _ => hb.block b (by omega)

theorem firstH_zero {T : List Tw} (h : ∀ t ∈ T, 1 ≤ t.h) : firstH 0 T = T.head?.map Tw.g := by
  cases T with
  | nil => rfl
  | cons t R => rw [firstH, if_pos (show 0 < t.h from h t (by simp))]; rfl
def nilPtr : Value := .pointer none
theorem made_nil (w : World) : Calls Try.prog 26 #[.pointer none] w fun e w' => e = .returned (.bool false) ∧ w' = w := by
  go_enter Try.func26, Try.ntmps26
  go_wp2_with fail
  go_ret
  exact ⟨rfl, rfl⟩
theorem made_zero (l : Nat) (w : World) (h : w.cell? ⟨l, 0, none⟩ = some (.pointer none)) : Calls Try.prog 26 #[.pointer (some ⟨l, 0, none⟩)] w fun e w' => e = .returned (.bool false) ∧ w' = w := by
  go_enter Try.func26, Try.ntmps26
  go_wp2_with fail
  go_ret
  exact ⟨rfl, rfl⟩
theorem made_any (l hd : Nat) (w : World) (h : w.cell? ⟨l, 0, none⟩ = some (.pointer (some ⟨hd, 0, none⟩))) : Calls Try.prog 26 #[.pointer (some ⟨l, 0, none⟩)] w fun e w' => e = .returned (.bool true) ∧ w' = w := by
  go_enter Try.func26, Try.ntmps26
  go_wp2_with fail
  go_ret
  exact ⟨rfl, rfl⟩
/-- A list that no call made. -/
def Unmade (w : World) (v : Value) : Prop := v = .pointer none ∨ ∃ l, v = .pointer (some ⟨l, 0, none⟩) ∧ w.cell? ⟨l, 0, none⟩ = some (.pointer none)
theorem Unmade.below {w w' : World} {v : Value} (h : Unmade w v) {B : Nat} (hb : Below B w w') (hB : w.heap.size ≤ B) : Unmade w' v := by
  rcases h with rfl | ⟨l, rfl, hc⟩
  · exact .inl rfl
  · exact .inr ⟨l, rfl, by rw [hb.cell (Nat.lt_of_lt_of_le (World.block_lt_of_cell? _ _ hc) hB)]; exact hc⟩
theorem made_none {w : World} {v : Value} (h : Unmade w v) : Calls Try.prog 26 #[v] w fun e w' => e = .returned (.bool false) ∧ w' = w := by
  rcases h with rfl | ⟨l, rfl, hc⟩
  · exact made_nil w
  · exact made_zero l w hc
theorem lowest_none (v : Value) (w : World) (h : Unmade w v) : Calls Try.prog 35 #[v] w fun e w' => e = .returned (.pointer none) ∧ w' = w := by
  have M : Hid (Calls Try.prog 26 #[v] w fun e w' => e = .returned (.bool false) ∧ w' = w) := made_none h
  clear h
  go_enter Try.func35, Try.ntmps35
  go_wp2_with fail
  refine M.out.mono ?_
  rintro e w1 ⟨rfl, rfl⟩
  go_wp2_with fail
  go_ret
  exact ⟨rfl, rfl⟩
theorem first_none (v : Value) (k : Kb) (w : World) (h : Unmade w v) : Calls Try.prog 34 #[v, k.v] w fun e w' => e = .returned (.pointer none) ∧ Below w.heap.size w w' := by
  have M : Hid (∀ o : Obj, Calls Try.prog 26 #[v] (w.alloc o) fun e w' => e = .returned (.bool false) ∧ w' = w.alloc o) := fun o => made_none (h.below ((Below.refl w.heap.size w).alloc (Nat.le_refl _) o) (Nat.le_refl _))
  have hE : Hid (∀ o : Obj, Below w.heap.size w (w.alloc o)) := fun o => (Below.refl _ _).alloc (Nat.le_refl _) _
  clear h
  obtain ⟨kt, kp, kr, kcc⟩ := k
  simp only [Kb.v]
  go_enter Try.func34, Try.ntmps34
  go_wp2_with fail
  refine (M.out _).mono ?_
  rintro e w1 ⟨rfl, rfl⟩
  go_wp2_with fail
  go_ret
  exact ⟨rfl, hE.out _⟩
theorem len_none (v : Value) (w : World) (h : Unmade w v) : Calls Try.prog 20 #[v] w fun e w' => e = .returned (.int .i64 0) ∧ w' = w := by
  have M : Hid (Calls Try.prog 26 #[v] w fun e w' => e = .returned (.bool false) ∧ w' = w) := made_none h
  clear h
  go_enter Try.func20, Try.ntmps20
  go_wp2_with fail
  refine M.out.mono ?_
  rintro e w1 ⟨rfl, rfl⟩
  go_wp2_with fail
  go_ret
  exact ⟨rfl, rfl⟩
theorem len_any (S : SkId) (hs : List Nat) (T : List Tw) (w : World) (h : SkAt w S hs T) : Calls Try.prog 20 #[.pointer (some ⟨S.l, 0, none⟩)] w fun e w' => e = .returned (.int .i64 T.length) ∧ w' = w := by
  have c0 := h.lb.cell 0 rfl
  have c2 := h.lb.cell 2 rfl
  have M : Hid (Calls Try.prog 26 #[.pointer (some ⟨S.l, 0, none⟩)] w fun e w' => e = .returned (.bool true) ∧ w' = w) := made_any S.l S.hd w c0
  clear h
  go_enter Try.func20, Try.ntmps20
  go_wp2_with fail
  refine M.out.mono ?_
  rintro e w1 ⟨rfl, rfl⟩
  go_wp2_with fail
  go_ret
  exact ⟨rfl, rfl⟩
theorem lowest_any (S : SkId) (hs : List Nat) (T : List Tw) (w : World) (h : SkAt w S hs T) : Calls Try.prog 35 #[.pointer (some ⟨S.l, 0, none⟩)] w fun e w' => e = .returned (pt (T.head?.map Tw.g)) ∧ w' = w := by
  have c0 := h.lb.cell 0 rfl
  have n0 := h.tw.head.next (l := 0) (by omega) (by omega)
  rw [firstH_zero fun t ht => (h.ok t ht).1] at n0
  have M : Hid (Calls Try.prog 26 #[.pointer (some ⟨S.l, 0, none⟩)] w fun e w' => e = .returned (.bool true) ∧ w' = w) := made_any S.l S.hd w c0
  clear h
  generalize pt (T.head?.map Tw.g) = v at *
  go_enter Try.func35, Try.ntmps35
  go_wp2_with fail
  refine M.out.mono ?_
  rintro e w1 ⟨rfl, rfl⟩
  go_wp2_with fail
  go_ret
  exact ⟨rfl, rfl⟩
/-- The link of the last tower ahead of a key: the first one behind. -/
theorem lastH_next {w : World} {hd : Nat} {A R : List Tw} (h : Towers w hd (A ++ R)) {l : Nat} (hl : l < 8) : w.cell? ⟨lastH l hd A, 11 + l, none⟩ = some (pt (firstH l R)) := by
  rcases lastH_part l hd A with ⟨h1, e⟩ | ⟨X, t, Y, rfl, ht, hY, e⟩
  · rw [e, ← firstH_skip R h1]; exact h.head.next hl hl
  · rw [e, ← firstH_skip R hY]
    have hc := h.chain
    have e2 : X ++ t :: Y ++ R = X ++ t :: (Y ++ R) := by simp
    rw [e2] at hc
    exact hc.at.next hl ht
set_option maxRecDepth 100000 in
set_option maxHeartbeats 1000000 in
theorem skFirst_any (S : SkId) (hs : List Nat) (A R : List Tw) (k : Kb) (w : World) (h : SkAt w S hs (A ++ R)) (hA : ∀ t ∈ A, kc t.c.k.ky k.ky < 0) (hR : ∀ t ∈ R, 0 ≤ kc t.c.k.ky k.ky) :
    Calls Try.prog 34 #[.pointer (some ⟨S.l, 0, none⟩), k.v] w fun e w' => e = .returned (pt (R.head?.map Tw.g)) ∧ Below w.heap.size w w' := by
  have hb : Below w.heap.size w (w.alloc (.cells #[.string k.t, .string k.p, .int .i64 k.r, .string k.c] 25)) := (Below.refl _ _).alloc (Nat.le_refl _) _
  have h1 := h.below hb (Nat.le_refl _)
  have c0 := h1.lb.cell 0 rfl
  obtain ⟨z0, hz0⟩ : ∃ z, z = lastH 0 S.hd A := ⟨_, rfl⟩
  obtain ⟨z1, hz1⟩ : ∃ z, z = lastH 1 S.hd A := ⟨_, rfl⟩
  obtain ⟨z2, hz2⟩ : ∃ z, z = lastH 2 S.hd A := ⟨_, rfl⟩
  obtain ⟨z3, hz3⟩ : ∃ z, z = lastH 3 S.hd A := ⟨_, rfl⟩
  obtain ⟨z4, hz4⟩ : ∃ z, z = lastH 4 S.hd A := ⟨_, rfl⟩
  obtain ⟨z5, hz5⟩ : ∃ z, z = lastH 5 S.hd A := ⟨_, rfl⟩
  obtain ⟨z6, hz6⟩ : ∃ z, z = lastH 6 S.hd A := ⟨_, rfl⟩
  obtain ⟨z7, hz7⟩ : ∃ z, z = lastH 7 S.hd A := ⟨_, rfl⟩
  have HN : Hid (∀ w', Below (w.alloc (.cells #[.string k.t, .string k.p, .int .i64 k.r, .string k.c] 25)).heap.size (w.alloc (.cells #[.string k.t, .string k.p, .int .i64 k.r, .string k.c] 25)) w' → w'.cell? ⟨z0, 11, none⟩ = some (pt (R.head?.map Tw.g)) ∧ Below w.heap.size w w') := fun w' hb' => by
    have hT := (h1.tw.below hb' (Nat.le_refl _))
    have := lastH_next hT (l := 0) (by omega)
    rw [firstH_zero fun t ht => (h.ok t (by simp [ht])).1, ← hz0] at this
    exact ⟨this, hb.trans (hb'.mono hb.size)⟩
  have M : Hid (Calls Try.prog 26 #[.pointer (some ⟨S.l, 0, none⟩)] (w.alloc (.cells #[.string k.t, .string k.p, .int .i64 k.r, .string k.c] 25)) fun e w' => e = .returned (.bool true) ∧ w' = (w.alloc (.cells #[.string k.t, .string k.p, .int .i64 k.r, .string k.c] 25))) := made_any S.l S.hd _ c0
  have hB := before_any S.l S.hd k A R _ c0 h1.tw hA hR
  rw [foundL_all, ← hz0, ← hz1, ← hz2, ← hz3, ← hz4, ← hz5, ← hz6, ← hz7] at hB
  have HB : Hid (Calls Try.prog 28 #[.pointer (some ⟨S.l, 0, none⟩), k.v] (w.alloc (.cells #[.string k.t, .string k.p, .int .i64 k.r, .string k.c] 25)) fun e w' => e = .returned (.agg #[.pointer (some ⟨z0, 0, none⟩), .pointer (some ⟨z1, 0, none⟩), .pointer (some ⟨z2, 0, none⟩), .pointer (some ⟨z3, 0, none⟩), .pointer (some ⟨z4, 0, none⟩), .pointer (some ⟨z5, 0, none⟩), .pointer (some ⟨z6, 0, none⟩), .pointer (some ⟨z7, 0, none⟩)]) ∧ Below (w.alloc (.cells #[.string k.t, .string k.p, .int .i64 k.r, .string k.c] 25)).heap.size (w.alloc (.cells #[.string k.t, .string k.p, .int .i64 k.r, .string k.c] 25)) w') := hB
  have hix : ∀ w : World, (Instr.index 70 (.agg #[.pointer (some ⟨z0, 0, none⟩), .pointer (some ⟨z1, 0, none⟩), .pointer (some ⟨z2, 0, none⟩), .pointer (some ⟨z3, 0, none⟩), .pointer (some ⟨z4, 0, none⟩), .pointer (some ⟨z5, 0, none⟩), .pointer (some ⟨z6, 0, none⟩), .pointer (some ⟨z7, 0, none⟩)]) (.int .i64 0)).run Try.prog w = .ok (.pointer (some ⟨z0, 0, none⟩)) w := fun w => by kernel_rfl
  clear hB h h1 c0 hb hA hR hz0 hz1 hz2 hz3 hz4 hz5 hz6 hz7
  generalize pt (R.head?.map Tw.g) = v at *
  obtain ⟨kt, kp, kr, kcc⟩ := k
  simp only [Kb.v] at M HB HN ⊢
  go_enter Try.func34, Try.ntmps34
  go_wp2_with fail
  refine M.out.mono ?_
  rintro e w1 ⟨rfl, rfl⟩
  go_wp2_with fail
  refine HB.out.mono ?_
  rintro e w1 ⟨rfl, hb1⟩
  obtain ⟨n0, hE⟩ := HN.out w1 hb1
  go_wp2_with fail
  go_ret
  exact ⟨rfl, hE⟩
/-- Are two keys the same? -/
noncomputable def eqK (a b : Kb) : Bool := @decide (a = b) (Classical.propDecidable _)
theorem eqK_true {a b : Kb} (h : a = b) : eqK a b = true := @decide_eq_true _ (Classical.propDecidable _) h
theorem eqK_false {a b : Kb} (h : ¬ a = b) : eqK a b = false := @decide_eq_false _ (Classical.propDecidable _) h
theorem has_nil (k : Kb) (w : World) : Calls Try.prog 29 #[.pointer none, k.v] w fun e w' => e = .returned (.bool false) ∧ Below w.heap.size w w' := by
  obtain ⟨kt, kp, kr, kcc⟩ := k
  simp only [Kb.v]
  have hE : Hid (∀ (o : Obj) (n : Nat), Below w.heap.size w ((w.alloc o).drewN n)) := fun o n => by have h := (Below.refl w.heap.size w).alloc (Nat.le_refl _) o; exact ⟨h.os, h.tape, h.output, h.size, h.block⟩
  go_enter Try.func29, Try.ntmps29
  go_wp2_with fail
  go_quiet (fail)
  go_wp2_with fail
  go_ret
  exact ⟨rfl, hE.out _ _⟩
attribute [local irreducible] wpQuiet
set_option maxRecDepth 100000 in
set_option maxHeartbeats 1000000 in
theorem has_any (g : Nat) (c : Cx) (k : Kb) (w : World) (h : TenX w g 0 c) : Calls Try.prog 29 #[.pointer (some ⟨g, 0, none⟩), k.v] w fun e w' => e = .returned (.bool (eqK c.k k)) ∧ Below w.heap.size w w' := by
  obtain ⟨wa, hwa⟩ : ∃ wa, wa = w.alloc (.cells #[.string k.t, .string k.p, .int .i64 k.r, .string k.c] 25) := ⟨_, rfl⟩
  have hB : Below w.heap.size w wa := by rw [hwa]; exact (Below.refl _ _).alloc (Nat.le_refl _) _
  have kb : Blk wa w.heap.size [.string k.t, .string k.p, .int .i64 k.r, .string k.c] 25 := by rw [hwa]; exact Blk.new w _ _
  have ha := h.below hB h.lt
  have HB : Hid (∀ w', Below wa.heap.size wa w' → Below w.heap.size w w') := fun w' h => hB.trans (h.mono hB.size)
  obtain ⟨⟨ta, tp, tr, tc⟩, tv⟩ := c
  obtain ⟨kt, kp, kr, kcc⟩ := k
  have q0 : ∀ z : Cl wa.heap.size wa, z.u.cell? ⟨g, 0, none⟩ = some (.string ta) := fun z => (ha.below z.h ha.lt).c0
  have q1 : ∀ z : Cl wa.heap.size wa, z.u.cell? ⟨g, 1, none⟩ = some (.string tp) := fun z => (ha.below z.h ha.lt).c1
  have q2 : ∀ z : Cl wa.heap.size wa, z.u.cell? ⟨g, 2, none⟩ = some (.int .i64 tr) := fun z => (ha.below z.h ha.lt).c2
  have q3 : ∀ z : Cl wa.heap.size wa, z.u.cell? ⟨g, 3, none⟩ = some (.string tc) := fun z => (ha.below z.h ha.lt).c3
  have r0 : ∀ z : Cl wa.heap.size wa, z.u.cell? ⟨w.heap.size, 0, none⟩ = some (.string kt) := fun z => (kb.below z.h kb.lt).cell 0 rfl
  have r1 : ∀ z : Cl wa.heap.size wa, z.u.cell? ⟨w.heap.size, 1, none⟩ = some (.string kp) := fun z => (kb.below z.h kb.lt).cell 1 rfl
  have r2 : ∀ z : Cl wa.heap.size wa, z.u.cell? ⟨w.heap.size, 2, none⟩ = some (.int .i64 kr) := fun z => (kb.below z.h kb.lt).cell 2 rfl
  have r3 : ∀ z : Cl wa.heap.size wa, z.u.cell? ⟨w.heap.size, 3, none⟩ = some (.string kcc) := fun z => (kb.below z.h kb.lt).cell 3 rfl
  simp only [Kb.v] at hwa ⊢
  clear kb ha hB h
  haveI := Cl.inh wa.heap.size wa
  by_cases hk : (⟨ta, tp, tr, tc⟩ : Kb) = ⟨kt, kp, kr, kcc⟩
  · have HR : Hid (eqK ⟨ta, tp, tr, tc⟩ ⟨kt, kp, kr, kcc⟩ = true) := eqK_true hk
    simp only [Kb.mk.injEq] at hk
    obtain ⟨rfl, rfl, rfl, rfl⟩ := hk
    go_enter Try.func29, Try.ntmps29
    go_wp2_with fail
    rw [← hwa]
    clear hwa
    refine wp_region_cl wa.heap.size (by kernel_rfl) (by kernel_rfl) ?_
    repeat quiet_step (fail)
    refine wpQuiet_nil ?_
    rintro w0 ⟨z, rfl⟩
    go_wp2_with fail
    go_ret
    exact ⟨ret_bool HR.out.symm, HB.out _ z.h⟩
  · have HR : Hid (eqK ⟨ta, tp, tr, tc⟩ ⟨kt, kp, kr, kcc⟩ = false) := eqK_false hk
    have hkf := key_first hk
    clear hk
    rcases hkf with h | ⟨rfl, h⟩ | ⟨rfl, rfl, h⟩ | ⟨rfl, rfl, rfl, h⟩ <;> (
      go_enter Try.func29, Try.ntmps29
      go_wp2_with fail
      rw [← hwa]
      clear hwa
      refine wp_region_cl wa.heap.size (by kernel_rfl) (by kernel_rfl) ?_
      repeat quiet_step (fail)
      refine wpQuiet_nil ?_
      rintro w0 ⟨z, rfl⟩
      go_wp2_with fail
      go_ret
      exact ⟨ret_bool HR.out.symm, HB.out _ z.h⟩)
end Go.Proofs.Ytlhojbgpmjcjlaa

/-
  CONTRACTS: the document's Add and Norm at cells; Like of the same cells.
-/
import Derived.Test.YtlamncldbnagmaaGreatDoorMany23
import Derived.Test.YtlamncldbnagmaaGreatDoorVerRef
import Derived.Deep.CutRange
namespace Go.Proofs.YtlamncldbnagmaaGreatDoor
open Go.RowKit

theorem owBelow {w w' : World} {B : Nat} {e : TypeId} {k n : Nat} {v : Value} {xs : List Value} (h : w.ownsRow B e k v n xs) (hb : Below w.heap.size w w') : w'.ownsRow B e k v n xs :=
  h.kept (row := none) ⟨hb.os, hb.tape, hb.output, hb.size, fun k hk _ => hb.block k hk⟩ (by cases hv : v.ownBlock <;> simp)
theorem sees_one (w : World) (c : Cx) : XSees (w.alloc (.cells c.a 67)) (some ⟨w.heap.size, 0, none⟩) [c] := fun i x hx => by
  have hi : i = 0 := by have := (List.getElem?_eq_some_iff.1 hx).1; simp at this; exact this
  subst hi
  obtain rfl := Option.some.inj hx
  exact ⟨w.heap.size, 0, rfl, TenX.new w _ _⟩
/-- An append of one cell: what the row becomes. -/
theorem grew_one {w w1 w2 : World} {v v2 : Value} {O : List Cx} {c : Cx} {B : Nat} (hb : Below B w w1) (hB : B = w.heap.size) (ho : (w1.alloc (.cells c.a 67)).ownsRow B 67 10 v O.length (O.flatMap xs10)) (ho2 : w2.ownsRow B 67 10 v2 (O.length + 1) (O.flatMap xs10 ++ [c].flatMap xs10)) (hg : Grew (w1.alloc (.cells c.a 67)) w2 v v2) :
    w2.ownsRow B 67 10 v2 (O ++ [c]).length ((O ++ [c]).flatMap xs10) ∧ Below B w w2 := by
  subst hB
  refine ⟨by rw [List.flatMap_append, List.length_append]; exact ho2, ?_⟩
  have hb3 : Below w.heap.size w (w1.alloc (.cells c.a 67)) := hb.alloc hb.size _
  exact hb3.trans (hg.below hb3.size (fun g hg => (ho.lt g hg).1))
theorem addC_done : ∀ {A : List Cx} {c x : Cx}, (∃ y ∈ A, 0 ≤ kx y c) → addC (A ++ [x]) c = addC A c ++ [x]
  | [], _, _, h => by obtain ⟨y, hy, _⟩ := h; cases hy
  | a :: A, c, x, h => by
    by_cases h0 : kx a c = 0
    · rw [List.cons_append, addC_same _ h0, addC_same _ h0]; rfl
    · by_cases h1 : 0 < kx a c
      · rw [List.cons_append, addC_ahead _ h1, addC_ahead _ h1]; rfl
      · have h2 : ∃ y ∈ A, 0 ≤ kx y c := by
          obtain ⟨y, hy, hk⟩ := h
          rcases List.mem_cons.1 hy with rfl | hy
          · omega
          · exact ⟨y, hy, hk⟩
        rw [List.cons_append, addC_behind _ (by omega), addC_behind _ (by omega), addC_done h2]; rfl
theorem addC_last : ∀ {A : List Cx} {c : Cx}, (∀ y ∈ A, kx y c < 0) → ∀ R, addC (A ++ R) c = A ++ addC R c
  | [], _, _, _ => rfl
  | a :: A, c, h, R => by
    rw [List.cons_append, addC_behind _ (h a (by simp)), addC_last (fun y hy => h y (by simp [hy]))]; rfl
theorem addC_len : ∀ (A : List Cx) (c : Cx), (addC A c).length ≤ A.length + 1
  | [], _ => by simp [addC]
  | a :: A, c => by
    have := addC_len A c
    rw [addC]
    split
    · simp
    · split <;> simp <;> omega
/-- How far Add has come. -/
inductive AddAt (l : List Cx) (c : Cx) (i : Nat) (O : List Cx) : Bool → Prop
  | no (h : O = l.take i) (hk : ∀ y ∈ l.take i, kx y c < 0) : AddAt l c i O false
  | yes (h : O = addC (l.take i) c) (hk : ∃ y ∈ l.take i, 0 ≤ kx y c) : AddAt l c i O true
theorem AddAt.len {l : List Cx} {c : Cx} {i : Nat} {O : List Cx} {d : Bool} (h : AddAt l c i O d) : O.length ≤ i + 1 := by
  cases h with
  | no h _ => rw [h, List.length_take]; omega
  | yes h _ => rw [h]; have := addC_len (l.take i) c; rw [List.length_take] at this; omega
section
variable {l : List Cx} {c : Cx} {i : Nat} {O : List Cx} {x : Cx} {d : Bool}
theorem AddAt.less (h : AddAt l c i O d) (hr : Rising l) (hx : l[i]? = some x) (hk : kx x c < 0) : d = false ∧ AddAt l c (i + 1) (O ++ [x]) false := by
  cases h with
  | no h hh =>
    refine ⟨rfl, .no (by rw [h, takeX_succ hx]) fun y hy => ?_⟩
    rw [takeX_succ hx] at hy
    rcases List.mem_append.1 hy with hy | hy
    · exact hh y hy
    · obtain rfl : y = x := by simpa using hy
      exact hk
  | yes h hh =>
    obtain ⟨y, hy, hyc⟩ := hh
    have hr2 : Rising (l.take (i + 1)) := List.Pairwise.sublist (List.take_sublist _ _) hr
    rw [takeX_succ hx] at hr2
    have := (List.pairwise_append.1 hr2).2.2 y hy x (by simp)
    have := kx_strict this hk
    omega
theorem AddAt.same (h : AddAt l c i O d) (hr : Rising l) (hx : l[i]? = some x) (hk : kx x c = 0) : d = false ∧ AddAt l c (i + 1) (O ++ [jnC x c]) true := by
  cases h with
  | no h hh =>
    refine ⟨rfl, .yes ?_ ⟨x, by rw [takeX_succ hx]; simp, by omega⟩⟩
    rw [h, takeX_succ hx, addC_last hh, addC_same _ hk]
  | yes h hh =>
    obtain ⟨y, hy, hyc⟩ := hh
    have hr2 : Rising (l.take (i + 1)) := List.Pairwise.sublist (List.take_sublist _ _) hr
    rw [takeX_succ hx] at hr2
    have h1 := (List.pairwise_append.1 hr2).2.2 y hy x (by simp)
    have h2 : kx y c = kx y x := (kx_right ((kx_z x c).1 hk)).symm
    omega
theorem AddAt.ahead (h : AddAt l c i O false) (hx : l[i]? = some x) (hk : 0 < kx x c) : AddAt l c (i + 1) (O ++ [c] ++ [x]) true := by
  cases h with
  | no h hh =>
    refine .yes ?_ ⟨x, by rw [takeX_succ hx]; simp, by omega⟩
    rw [h, takeX_succ hx, addC_last hh, addC_ahead _ hk]; simp
theorem AddAt.behind (h : AddAt l c i O true) (hx : l[i]? = some x) : AddAt l c (i + 1) (O ++ [x]) true := by
  cases h with
  | yes h hh =>
    refine .yes (by rw [h, takeX_succ hx, addC_done hh]) ?_
    obtain ⟨y, hy, hyc⟩ := hh
    exact ⟨y, by rw [takeX_succ hx]; simp [hy], hyc⟩
theorem AddAt.endNo (h : AddAt l c i O false) (hi : l.length ≤ i) : addC l c = O ++ [c] := by
  cases h with
  | no h hh =>
    rw [List.take_of_length_le hi] at h hh
    have := addC_last hh []
    rw [List.append_nil] at this
    rw [this, h]; rfl
theorem AddAt.endYes (h : AddAt l c i O true) (hi : l.length ≤ i) : addC l c = O := by
  cases h with
  | yes h hh => rw [List.take_of_length_le hi] at h; exact h.symm
end
/-- A row that grows, beside a box with a cell. -/
structure AR (w wr : World) (cc : Cx) (v : Value) (O : List Cx) : Prop where
  own : wr.ownsRow w.heap.size 67 10 v O.length (O.flatMap xs10)
  ten : TenX wr w.heap.size 0 cc
  ne : v.ownBlock ≠ some w.heap.size
  bel : Below w.heap.size w wr
  gt : w.heap.size < wr.heap.size
theorem AR.below {w wr w' : World} {cc : Cx} {v : Value} {O : List Cx} (h : AR w wr cc v O) (hb : Below wr.heap.size wr w') : AR w w' cc v O :=
  ⟨owBelow h.own hb, h.ten.below hb h.ten.lt, h.ne, h.bel.trans (hb.mono h.bel.size), Nat.lt_of_lt_of_le h.gt hb.size⟩
theorem ten_grew {w w' : World} {v v' : Value} (hg : Grew w w' v v') {b o : Nat} {c : Cx} (t : TenX w b o c) (hne : v.ownBlock ≠ some b) : TenX w' b o c ∧ v'.ownBlock ≠ some b := by
  have hlt := t.lt
  refine ⟨⟨by rw [hg.cell hlt hne, t.c0], by rw [hg.cell hlt hne, t.c1], by rw [hg.cell hlt hne, t.c2], by rw [hg.cell hlt hne, t.c3], by rw [hg.cell hlt hne, t.c4], by rw [hg.cell hlt hne, t.c5], by rw [hg.cell hlt hne, t.c6], by rw [hg.cell hlt hne, t.c7], by rw [hg.cell hlt hne, t.c8], by rw [hg.cell hlt hne, t.c9]⟩, fun e => ?_⟩
  rcases hg.own b e with h1 | h1
  · exact hne h1
  · omega
theorem AR.more {w w1 w2 : World} {cc c : Cx} {v v2 : Value} {O : List Cx} (h : AR w w1 cc v O) (ho2 : w2.ownsRow w.heap.size 67 10 v2 (O.length + 1) (O.flatMap xs10 ++ [c].flatMap xs10)) (hg : Grew (w1.alloc (.cells c.a 67)) w2 v v2) :
    AR w w2 cc v2 (O ++ [c]) ∧ ∀ b o x, TenX w1 b o x → v.ownBlock ≠ some b → TenX w2 b o x ∧ v2.ownBlock ≠ some b := by
  have hg1 := hg.alloc
  have hk : ∀ b o x, TenX w1 b o x → v.ownBlock ≠ some b → TenX w2 b o x ∧ v2.ownBlock ≠ some b := fun b o x t hne => ten_grew hg1 t hne
  obtain ⟨h1, h2⟩ := grew_one h.bel rfl (h.own.alloc _) ho2 hg
  obtain ⟨h3, h4⟩ := hk _ _ _ h.ten h.ne
  exact ⟨⟨h1, h3, h4, h2, Nat.lt_of_lt_of_le h.gt hg1.rows.size⟩, hk⟩
/-- The version of a box is turned. -/
def set6at (w : World) (g : Nat) (a : Vr) : World := (((((w.setCell ⟨g, 4, none⟩ (.int .i64 a.time)).setCell ⟨g, 5, none⟩ (.bool a.dead)).setCell ⟨g, 6, none⟩ (.int .i64 a.loc)).setCell ⟨g, 7, none⟩ (.int .i64 a.kind)).setCell ⟨g, 8, none⟩ (.int .i64 a.num)).setCell ⟨g, 9, none⟩ (.string a.s)
theorem box_set {w : World} {g : Nat} {x : Cx} {ty : TypeId} (h : w.heap[g]? = some (.cells x.a ty)) (a : Vr) : (set6at w g a).heap[g]? = some (.cells (Cx.a ⟨x.k, a⟩) ty) := by
  unfold set6at
  simp only [World.setCell, Array.getElem?_modify, h, Cx.a]
  simp
theorem set6at_other (w : World) (g : Nat) (a : Vr) {b : Nat} (hb : b ≠ g) : (set6at w g a).heap[b]? = w.heap[b]? := by
  unfold set6at
  rw [Below.heap_setCell _ _ _ _ hb, Below.heap_setCell _ _ _ _ hb, Below.heap_setCell _ _ _ _ hb, Below.heap_setCell _ _ _ _ hb, Below.heap_setCell _ _ _ _ hb, Below.heap_setCell _ _ _ _ hb]
theorem set6at_size (w : World) (g : Nat) (a : Vr) : (set6at w g a).heap.size = w.heap.size := by
  unfold set6at; simp only [size_setCell]
theorem AR.set {w w1 : World} {cc : Cx} {v : Value} {O : List Cx} (h : AR w w1 cc v O) {g : Nat} (hg : w.heap.size < g) (hne : v.ownBlock ≠ some g) (a : Vr) : AR w (set6at w1 g a) cc v O := by
  have hgr : w1.grownBy (set6at w1 g a) (some g) := grownBy_setCell (grownBy_setCell (grownBy_setCell (grownBy_setCell (grownBy_setCell (grownBy_setCell ⟨rfl, rfl, rfl, Nat.le_refl _, fun _ _ _ => rfl⟩)))))
  refine ⟨h.own.kept hgr (.inr hne), ?_, h.ne, h.bel.trans ⟨hgr.os, hgr.tape, hgr.output, hgr.size, fun k hk => set6at_other w1 g a (by omega)⟩, by rw [set6at_size]; exact h.gt⟩
  have hc : ∀ o, (set6at w1 g a).cell? ⟨w.heap.size, o, none⟩ = w1.cell? ⟨w.heap.size, o, none⟩ := fun o => World.cell?_of_block (set6at_other w1 g a (show w.heap.size ≠ g by omega))
  exact ⟨by rw [hc, h.ten.c0], by rw [hc, h.ten.c1], by rw [hc, h.ten.c2], by rw [hc, h.ten.c3], by rw [hc, h.ten.c4], by rw [hc, h.ten.c5], by rw [hc, h.ten.c6], by rw [hc, h.ten.c7], by rw [hc, h.ten.c8], by rw [hc, h.ten.c9]⟩
set_option maxRecDepth 100000 in
set_option maxHeartbeats 4000000 in
theorem refAdd_any (ao : Option Addr) (l : List Cx) (cap : Nat) (cc : Cx) (w : World) (hs : XSees w ao l) (hr : Rising l) (hl : l.length ≤ 1000000) :
    Calls Tryz.prog 54 #[.slice ao l.length cap, cc.val] w fun e w' => ∃ v, e = .returned v ∧ w'.ownsRow w.heap.size 67 10 v (addC l cc).length ((addC l cc).flatMap xs10) ∧ Below w.heap.size w w' := by
  obtain ⟨i1, hi1, hy0, hy1, hy2⟩ := infoX infoCx
  have hlz : (l.length : Int) ≤ 1000000 := by omega
  have HR : Hid (Rising l) := hr
  have HS : Hid (XSees w ao l) := hs
  obtain ⟨wa, hwa⟩ : ∃ wa, wa = w.alloc (.cells cc.a 67) := ⟨_, rfl⟩
  have hBa : Below w.heap.size w wa := by rw [hwa]; exact (Below.refl _ _).alloc (Nat.le_refl _) _
  have HAR : Hid (AR w wa cc (.slice none 0 0) []) := ⟨World.ownsRow_nil _ _ _ _, by rw [hwa]; exact TenX.new w cc _, (fun h => by cases h), hBa, by rw [hwa, World.size_alloc]; omega⟩
  clear hs hr hBa
  obtain ⟨c, hcc⟩ : ∃ c, c = cc := ⟨_, rfl⟩
  have HCC : Hid (c = cc) := hcc
  rw [← hcc] at hwa
  rw [show cc.val = c.val by rw [hcc]]
  clear hcc
  obtain ⟨⟨ya, yp, yr, yc⟩, ⟨yt, yd, yl, yk, yn, ys⟩⟩ := c
  simp only [Cx.val, Cx.a] at hwa ⊢
  go_enter Tryz.func54, Tryz.ntmps54
  go_wp2_with fail
  rw [← hwa]
  clear hwa
  go_loopw [5, 6, 12] (fun s5 s6 s12 wr => ∃ (i : Nat) (O : List Cx) (d : Bool), i ≤ l.length ∧ s12 = .int .i64 i ∧ s6 = .bool d ∧ AddAt l cc i O d ∧ AR w wr cc s5 O) (fun _ _ s12 _ => l.length - (intOf s12).toNat)
  case atStart => exact ⟨0, [], false, by omega, rfl, rfl, .no rfl (fun y hy => by cases hy), HAR.out⟩
  case round =>
    obtain ⟨i, O, d, hi, rfl, rfl, hA, hAR⟩ := hrel
    clear HAR
    have hOl := hA.len
    rcases Nat.lt_or_ge i l.length with hlt | hge
    · have hc : l[i]? = some l[i] := List.getElem?_eq_getElem hlt
      obtain ⟨b, off, rfl, t⟩ := (HS.out.below hAR.bel (Nat.le_refl _)) i _ hc
      generalize l[i] = x at *
      obtain ⟨wv, hwv⟩ : ∃ wv, wv = wr.alloc (.cells x.a 67) := ⟨_, rfl⟩
      have hBr : Below wr.heap.size wr wv := by rw [hwv]; exact (Below.refl _ _).alloc (Nat.le_refl _) _
      have hvb : wv.heap[wr.heap.size]? = some (.cells x.a 67) := by rw [hwv]; exact heap_alloc_new wr _
      have hlv : wr.heap.size < wv.heap.size := by rw [hwv, World.size_alloc]; omega
      have hRv := hAR.below hBr
      have hne : u5.ownBlock ≠ some wr.heap.size := fun e => by have := (hAR.own.lt _ e).2; omega
      have hgt := hAR.gt
      have C : Hid (∀ w : World, Calls Tryz.prog 94 #[x.k.v, cc.k.v] w fun e w' => e = .returned (.int .i64 (kx x cc)) ∧ Below w.heap.size w w') := fun w => refCmp_any x.k cc.k w
      have HF : Hid (∀ w', Below wv.heap.size wv w' → AR w w' cc u5 O ∧ TenX w' wr.heap.size 0 x ∧ w'.heap[wr.heap.size]? = some (.cells x.a 67)) := fun w' h => ⟨hRv.below h, TenX.of (by rw [h.block _ hlv]; exact hvb), by rw [h.block _ hlv]; exact hvb⟩
      have hltz : (i : Int) < (l.length : Int) := by omega
      have J : Hid (∀ w : World, Calls Tryz.prog 95 #[x.v.v, cc.v.v] w fun e w' => e = .returned (jn x.v cc.v).v ∧ Below w.heap.size w w') := fun w => refJoin_any x.v cc.v w
      have HL : Hid (kx x cc < 0 → d = false ∧ AddAt l cc (i + 1) (O ++ [x]) false) := fun h => hA.less HR.out hc h
      have HE : Hid (kx x cc = 0 → d = false ∧ AddAt l cc (i + 1) (O ++ [jnC x cc]) true) := fun h => hA.same HR.out hc h
      have HG1 : Hid (0 < kx x cc → d = false → AddAt l cc (i + 1) (O ++ [cc] ++ [x]) true) := fun h e => by subst e; exact hA.ahead hc h
      have HG2 : Hid (d = true → AddAt l cc (i + 1) (O ++ [x]) true) := fun e => by subst e; exact hA.behind hc
      have HNE : Hid (u5.ownBlock ≠ some wr.heap.size ∧ w.heap.size < wr.heap.size) := ⟨hne, hgt⟩
      have HXX : Hid (∀ b o, TenX wv b o x → True) := fun _ _ _ => trivial
      obtain ⟨tcc0, -, -⟩ := HF.out wv (Below.refl _ _)
      have tcv := tcc0.ten
      rw [← HCC.out] at tcv
      have tz := TenX.of hvb
      clear hA hc hAR hBr hRv hne HXX tcc0 hvb hlv
      obtain ⟨xx, hxx⟩ : ∃ xx, xx = x := ⟨_, rfl⟩
      have HXE : Hid (xx = x) := hxx
      rw [← hxx] at t hwv tz
      rw [show x.k.v = xx.k.v by rw [hxx], show cc.k.v = Kb.v (Cx.k ⟨⟨ya, yp, yr, yc⟩, ⟨yt, yd, yl, yk, yn, ys⟩⟩) by rw [← HCC.out]] at C
      rw [show x.v.v = xx.v.v by rw [hxx], show cc.v.v = Vr.v (Cx.v ⟨⟨ya, yp, yr, yc⟩, ⟨yt, yd, yl, yk, yn, ys⟩⟩) by rw [← HCC.out]] at J
      clear hxx
      obtain ⟨⟨xa, xp, xr, xc⟩, ⟨xt, xd, xl, xk, xn, xs⟩⟩ := xx
      simp only [Cx.a] at hwv
      simp only [Kb.v] at C
      simp only [Vr.v] at J
      obtain ⟨x0, x1, x2, x3, x4, x5, x6, x7, x8, x9⟩ := t
      obtain ⟨c0, c1, c2, c3, c4, c5, c6, c7, c8, c9⟩ := tcv
      obtain ⟨z0, z1, z2, z3, z4, z5, z6, z7, z8, z9⟩ := tz
      simp only [Nat.zero_add] at x0 x1 x2 x3 x4 x5 x6 x7 x8 x9 c0 c1 c2 c3 c4 c5 c6 c7 c8 c9 z0 z1 z2 z3 z4 z5 z6 z7 z8 z9
      rw [hwv] at c0 c1 c2 c3 c4 c5 c6 c7 c8 c9 z0 z1 z2 z3 z4 z5 z6 z7 z8 z9
      generalize kx x cc = K at *
      go_wp2_with fail
      rw [← hwv]
      clear hwv x0 x1 x2 x3 x4 x5 x6 x7 x8 x9 c0 c1 c2 c3 c4 c5 c6 c7 c8 c9 z0 z1 z2 z3 z4 z5 z6 z7 z8 z9
      refine (C.out _).mono ?_
      rintro e w1 ⟨rfl, hb1⟩
      obtain ⟨hA1, t1, hv1⟩ := HF.out w1 hb1
      clear hb1 HF
      rcases Int.lt_trichotomy K 0 with hK | hK | hK
      · have hKz := hK
        obtain ⟨hd, hAn⟩ := HL.out hK
        subst hd
        have HAn : Hid (AddAt l cc (i + 1) (O ++ [(⟨⟨xa, xp, xr, xc⟩, ⟨xt, xd, xl, xk, xn, xs⟩⟩ : Cx)]) false) := by rw [HXE.out]; exact hAn
        have oz1 : ∀ ob : Obj, (w1.alloc ob).ownsRow w.heap.size 67 10 u5 O.length (O.flatMap xs10) := fun ob => hA1.own.alloc ob
        have sz1 : ∀ ob : Obj, w.heap.size ≤ (w1.alloc ob).heap.size := fun ob => by rw [World.size_alloc]; have := hA1.bel.size; omega
        have HA1 : Hid (AR w w1 cc u5 O) := hA1
        have tx1 : TenX w1 wr.heap.size 0 ⟨⟨xa, xp, xr, xc⟩, ⟨xt, xd, xl, xk, xn, xs⟩⟩ := by rw [HXE.out]; exact t1
        clear hAn t1 hv1 hA1 HL HE HG1 HG2 J C
        obtain ⟨x0, x1, x2, x3, x4, x5, x6, x7, x8, x9⟩ := tx1
        simp only [Nat.zero_add] at x0 x1 x2 x3 x4 x5 x6 x7 x8 x9
        have hK0 : ¬ K = 0 := by omega
        have hK1 : ¬ 0 < K := by omega
        have hK2 : (K == 0) = false := beq_false_of_ne hK0
        have hK3 : decide (0 < K) = false := decide_eq_false hK1
        go_wp2_with (at_builtin; go_must (refine wpList_append_grew _ rfl _ _ 22 22 rfl w.heap.size 67 i1 _ 10 112 Tryz.underlying22 hi1 hy0 hy1 hy2 rfl _ (O).length ((O).flatMap xs10) rfl (oz1 _) _ 1 (([(⟨⟨xa, xp, xr, xc⟩, ⟨xt, xd, xl, xk, xn, xs⟩⟩ : Cx)] : List Cx).flatMap xs10) rfl (src_cells (sees_one _ ⟨⟨xa, xp, xr, xc⟩, ⟨xt, xd, xl, xk, xn, xs⟩⟩) (fun h => by cases h) 1) (by unfold maxLen; omega) (by omega) (sz1 _) ?_; intro v2 w2 ho2 hg2))
        have HM : Hid (AR w w2 cc v2 (O ++ [(⟨⟨xa, xp, xr, xc⟩, ⟨xt, xd, xl, xk, xn, xs⟩⟩ : Cx)])) := (HA1.out.more ho2 hg2).1
        clear ho2 hg2 oz1 sz1
        go_wp2_with fail
        go_roundw
        case rel => exact ⟨i + 1, O ++ [(⟨⟨xa, xp, xr, xc⟩, ⟨xt, xd, xl, xk, xn, xs⟩⟩ : Cx)], false, by omega, by go_num, rfl, HAn.out, HM.out⟩
        case measure => (simp [intOf]; try omega)
      · subst hK
        obtain ⟨hd, hAn⟩ := HE.out rfl
        subst hd
        have tx1 : TenX w1 wr.heap.size 0 ⟨⟨xa, xp, xr, xc⟩, ⟨xt, xd, xl, xk, xn, xs⟩⟩ := by rw [HXE.out]; exact t1
        have tc1 : TenX w1 w.heap.size 0 ⟨⟨ya, yp, yr, yc⟩, ⟨yt, yd, yl, yk, yn, ys⟩⟩ := by rw [HCC.out]; exact hA1.ten
        obtain ⟨jv, hjv⟩ : ∃ jv, jv = jn (Cx.v ⟨⟨xa, xp, xr, xc⟩, ⟨xt, xd, xl, xk, xn, xs⟩⟩) (Cx.v ⟨⟨ya, yp, yr, yc⟩, ⟨yt, yd, yl, yk, yn, ys⟩⟩) := ⟨_, rfl⟩
        have HAn : Hid (AddAt l cc (i + 1) (O ++ [(⟨Cx.k ⟨⟨xa, xp, xr, xc⟩, ⟨xt, xd, xl, xk, xn, xs⟩⟩, jv⟩ : Cx)]) true) := by
          have e : (⟨Cx.k ⟨⟨xa, xp, xr, xc⟩, ⟨xt, xd, xl, xk, xn, xs⟩⟩, jv⟩ : Cx) = jnC x cc := by rw [hjv, HXE.out, HCC.out]; rfl
          rw [e]; exact hAn
        rw [show jn x.v cc.v = jv by rw [hjv, HXE.out, HCC.out]] at J
        have HV : Hid (∀ w', Below w1.heap.size w1 w' → AR w w' cc u5 O ∧ w'.heap[wr.heap.size]? = some (.cells (Cx.a ⟨⟨xa, xp, xr, xc⟩, ⟨xt, xd, xl, xk, xn, xs⟩⟩) 67)) := fun w' h => ⟨hA1.below h, by rw [h.block _ t1.lt, hv1, HXE.out]⟩
        clear hAn t1 hv1 hA1 HL HE HG1 HG2 C hjv
        obtain ⟨x0, x1, x2, x3, x4, x5, x6, x7, x8, x9⟩ := tx1
        obtain ⟨c0, c1, c2, c3, c4, c5, c6, c7, c8, c9⟩ := tc1
        simp only [Nat.zero_add] at x0 x1 x2 x3 x4 x5 x6 x7 x8 x9 c0 c1 c2 c3 c4 c5 c6 c7 c8 c9
        go_upto_region 8 with fail
        go_cut [12] from 12 to 43 (fun s12 wx => s12 = .int .i64 i ∧ AR w wx cc u5 O ∧ TenX wx wr.heap.size 0 ⟨Cx.k ⟨⟨xa, xp, xr, xc⟩, ⟨xt, xd, xl, xk, xn, xs⟩⟩, jv⟩)
        case first =>
          go_wp2_with fail
          refine (J.out _).mono ?_
          rintro e w2 ⟨rfl, hb2⟩
          obtain ⟨hA2, hv2⟩ := HV.out w2 hb2
          clear x0 x1 x2 x3 x4 x5 x6 x7 x8 x9 c0 c1 c2 c3 c4 c5 c6 c7 c8 c9 hb2 HV J
          have f4 := frozen_at hv2 4
          have f5 := frozen_at hv2 5
          have f6 := frozen_at hv2 6
          have f7 := frozen_at hv2 7
          have f8 := frozen_at hv2 8
          have f9 := frozen_at hv2 9
          have tb := TenX.of hv2
          have hv3 := box_set hv2 jv
          have hA3 := hA2.set HNE.out.2 HNE.out.1 jv
          have HA3 : Hid (AR w (set6at w2 wr.heap.size jv) cc u5 O ∧ TenX (set6at w2 wr.heap.size jv) wr.heap.size 0 ⟨Cx.k ⟨⟨xa, xp, xr, xc⟩, ⟨xt, xd, xl, xk, xn, xs⟩⟩, jv⟩) := ⟨hA3, TenX.of hv3⟩
          clear hv2 hv3 hA2 hA3
          obtain ⟨jt, jd, jl, jk, jw, js⟩ := jv
          obtain ⟨x0, x1, x2, x3, x4, x5, x6, x7, x8, x9⟩ := tb
          simp only [Nat.zero_add] at x0 x1 x2 x3 x4 x5 x6 x7 x8 x9
          go_wp2_with fail
          go_meet
          case rel => exact ⟨rfl, HA3.out⟩
        case rest =>
          obtain ⟨rfl, hA3, ts⟩ := hcut
          clear x0 x1 x2 x3 x4 x5 x6 x7 x8 x9 c0 c1 c2 c3 c4 c5 c6 c7 c8 c9 HV J
          have oz1 : ∀ ob : Obj, (wc.alloc ob).ownsRow w.heap.size 67 10 u5 O.length (O.flatMap xs10) := fun ob => hA3.own.alloc ob
          have sz1 : ∀ ob : Obj, w.heap.size ≤ (wc.alloc ob).heap.size := fun ob => by rw [World.size_alloc]; have := hA3.bel.size; omega
          have HA3 : Hid (AR w wc cc u5 O) := hA3
          clear hA3
          obtain ⟨jt, jd, jl, jk, jw, js⟩ := jv
          obtain ⟨s0, s1, s2, s3, s4, s5, s6, s7, s8, s9⟩ := ts
          simp only [Nat.zero_add] at s0 s1 s2 s3 s4 s5 s6 s7 s8 s9
          go_wp2_with (at_builtin; go_must (refine wpList_append_grew _ rfl _ _ 22 22 rfl w.heap.size 67 i1 _ 10 112 Tryz.underlying22 hi1 hy0 hy1 hy2 rfl _ (O).length ((O).flatMap xs10) rfl (oz1 _) _ 1 (([(⟨⟨xa, xp, xr, xc⟩, ⟨jt, jd, jl, jk, jw, js⟩⟩ : Cx)] : List Cx).flatMap xs10) rfl (src_cells (sees_one _ ⟨⟨xa, xp, xr, xc⟩, ⟨jt, jd, jl, jk, jw, js⟩⟩) (fun h => by cases h) 1) (by unfold maxLen; omega) (by omega) (sz1 _) ?_; intro v2 w4 ho2 hg2))
          have HM : Hid (AR w w4 cc v2 (O ++ [(⟨⟨xa, xp, xr, xc⟩, ⟨jt, jd, jl, jk, jw, js⟩⟩ : Cx)])) := (HA3.out.more ho2 hg2).1
          clear ho2 hg2 oz1 sz1
          go_wp2_with fail
          go_roundw
          case rel => exact ⟨i + 1, _, true, by omega, by go_num, rfl, HAn.out, HM.out⟩
          case measure => (simp [intOf]; try omega)
      · cases d
        · have hKz := hK
          have hAn := HG1.out hK rfl
          have HAn : Hid (AddAt l cc (i + 1) (O ++ [(⟨⟨ya, yp, yr, yc⟩, ⟨yt, yd, yl, yk, yn, ys⟩⟩ : Cx)] ++ [(⟨⟨xa, xp, xr, xc⟩, ⟨xt, xd, xl, xk, xn, xs⟩⟩ : Cx)]) true) := by rw [HXE.out, HCC.out]; exact hAn
          have oz1 : ∀ ob : Obj, (w1.alloc ob).ownsRow w.heap.size 67 10 u5 O.length (O.flatMap xs10) := fun ob => hA1.own.alloc ob
          have sz1 : ∀ ob : Obj, w.heap.size ≤ (w1.alloc ob).heap.size := fun ob => by rw [World.size_alloc]; have := hA1.bel.size; omega
          have HA1 : Hid (AR w w1 cc u5 O) := hA1
          have tx1 : TenX w1 wr.heap.size 0 ⟨⟨xa, xp, xr, xc⟩, ⟨xt, xd, xl, xk, xn, xs⟩⟩ := by rw [HXE.out]; exact t1
          have HT1 : Hid (TenX w1 wr.heap.size 0 ⟨⟨xa, xp, xr, xc⟩, ⟨xt, xd, xl, xk, xn, xs⟩⟩) := tx1
          have tc1 : TenX w1 w.heap.size 0 ⟨⟨ya, yp, yr, yc⟩, ⟨yt, yd, yl, yk, yn, ys⟩⟩ := by rw [HCC.out]; exact hA1.ten
          clear hAn t1 hv1 hA1 HL HE HG1 HG2 J C tx1
          obtain ⟨x0, x1, x2, x3, x4, x5, x6, x7, x8, x9⟩ := tc1
          simp only [Nat.zero_add] at x0 x1 x2 x3 x4 x5 x6 x7 x8 x9
          have hK0 : ¬ K = 0 := by omega
          have hK2 : (K == 0) = false := beq_false_of_ne hK0
          have hK3 : decide (0 < K) = true := decide_eq_true hK
          go_wp2_with (first
            | (at_builtin; have o2 := oz2; go_must (refine wpList_append_grew _ rfl _ _ 22 22 rfl w.heap.size 67 i1 _ 10 112 Tryz.underlying22 hi1 hy0 hy1 hy2 rfl _ (O ++ [(⟨⟨ya, yp, yr, yc⟩, ⟨yt, yd, yl, yk, yn, ys⟩⟩ : Cx)]).length ((O ++ [(⟨⟨ya, yp, yr, yc⟩, ⟨yt, yd, yl, yk, yn, ys⟩⟩ : Cx)]).flatMap xs10) rfl (o2 _) _ 1 (([(⟨⟨xa, xp, xr, xc⟩, ⟨xt, xd, xl, xk, xn, xs⟩⟩ : Cx)] : List Cx).flatMap xs10) rfl (src_cells (sees_one _ ⟨⟨xa, xp, xr, xc⟩, ⟨xt, xd, xl, xk, xn, xs⟩⟩) (fun h => by cases h) 1) (by unfold maxLen; (rw [List.length_append, List.length_singleton]; omega)) (by (rw [List.length_append, List.length_singleton]; omega)) (sz2 _) ?_; intro v3 w3 ho3 hg3))
            | (at_builtin; go_must (refine wpList_append_grew _ rfl _ _ 22 22 rfl w.heap.size 67 i1 _ 10 112 Tryz.underlying22 hi1 hy0 hy1 hy2 rfl _ (O).length ((O).flatMap xs10) rfl (oz1 _) _ 1 (([(⟨⟨ya, yp, yr, yc⟩, ⟨yt, yd, yl, yk, yn, ys⟩⟩ : Cx)] : List Cx).flatMap xs10) rfl (src_cells (sees_one _ ⟨⟨ya, yp, yr, yc⟩, ⟨yt, yd, yl, yk, yn, ys⟩⟩) (fun h => by cases h) 1) (by unfold maxLen; omega) (by omega) (sz1 _) ?_; intro v2 w2 ho2 hg2; have hM := HA1.out.more ho2 hg2; have tx2 := (hM.2 _ _ _ HT1.out HNE.out.1).1; have HM2 : Hid (AR w w2 cc v2 (O ++ [(⟨⟨ya, yp, yr, yc⟩, ⟨yt, yd, yl, yk, yn, ys⟩⟩ : Cx)])) := hM.1; have oz2 : ∀ ob : Obj, (w2.alloc ob).ownsRow w.heap.size 67 10 v2 (O ++ [(⟨⟨ya, yp, yr, yc⟩, ⟨yt, yd, yl, yk, yn, ys⟩⟩ : Cx)]).length ((O ++ [(⟨⟨ya, yp, yr, yc⟩, ⟨yt, yd, yl, yk, yn, ys⟩⟩ : Cx)]).flatMap xs10) := fun ob => hM.1.own.alloc ob; have sz2 : ∀ ob : Obj, w.heap.size ≤ (w2.alloc ob).heap.size := (fun ob => by rw [World.size_alloc]; have := hM.1.bel.size; omega); clear ho2 hg2 hM; obtain ⟨m0, m1, m2, m3, m4, m5, m6, m7, m8, m9⟩ := tx2; simp only [Nat.zero_add] at m0 m1 m2 m3 m4 m5 m6 m7 m8 m9)))
          have HM : Hid (AR w w3 cc v3 (O ++ [(⟨⟨ya, yp, yr, yc⟩, ⟨yt, yd, yl, yk, yn, ys⟩⟩ : Cx)] ++ [(⟨⟨xa, xp, xr, xc⟩, ⟨xt, xd, xl, xk, xn, xs⟩⟩ : Cx)])) := (HM2.out.more ho3 hg3).1
          clear ho3 hg3 oz2 sz2 o2
          go_wp2_with fail
          go_roundw
          case rel => exact ⟨i + 1, O ++ [(⟨⟨ya, yp, yr, yc⟩, ⟨yt, yd, yl, yk, yn, ys⟩⟩ : Cx)] ++ [(⟨⟨xa, xp, xr, xc⟩, ⟨xt, xd, xl, xk, xn, xs⟩⟩ : Cx)], true, by omega, by go_num, rfl, HAn.out, HM.out⟩
          case measure => (simp [intOf]; try omega)
        · have hKz := hK
          have hAn := HG2.out rfl
          have HAn : Hid (AddAt l cc (i + 1) (O ++ [(⟨⟨xa, xp, xr, xc⟩, ⟨xt, xd, xl, xk, xn, xs⟩⟩ : Cx)]) true) := by rw [HXE.out]; exact hAn
          have oz1 : ∀ ob : Obj, (w1.alloc ob).ownsRow w.heap.size 67 10 u5 O.length (O.flatMap xs10) := fun ob => hA1.own.alloc ob
          have sz1 : ∀ ob : Obj, w.heap.size ≤ (w1.alloc ob).heap.size := fun ob => by rw [World.size_alloc]; have := hA1.bel.size; omega
          have HA1 : Hid (AR w w1 cc u5 O) := hA1
          have tx1 : TenX w1 wr.heap.size 0 ⟨⟨xa, xp, xr, xc⟩, ⟨xt, xd, xl, xk, xn, xs⟩⟩ := by rw [HXE.out]; exact t1
          clear hAn t1 hv1 hA1 HL HE HG1 HG2 J C
          obtain ⟨x0, x1, x2, x3, x4, x5, x6, x7, x8, x9⟩ := tx1
          simp only [Nat.zero_add] at x0 x1 x2 x3 x4 x5 x6 x7 x8 x9
          have hK0 : ¬ K = 0 := by omega
          have hK2 : (K == 0) = false := beq_false_of_ne hK0
          have hK3 : decide (0 < K) = true := decide_eq_true hK
          go_wp2_with (at_builtin; go_must (refine wpList_append_grew _ rfl _ _ 22 22 rfl w.heap.size 67 i1 _ 10 112 Tryz.underlying22 hi1 hy0 hy1 hy2 rfl _ (O).length ((O).flatMap xs10) rfl (oz1 _) _ 1 (([(⟨⟨xa, xp, xr, xc⟩, ⟨xt, xd, xl, xk, xn, xs⟩⟩ : Cx)] : List Cx).flatMap xs10) rfl (src_cells (sees_one _ ⟨⟨xa, xp, xr, xc⟩, ⟨xt, xd, xl, xk, xn, xs⟩⟩) (fun h => by cases h) 1) (by unfold maxLen; omega) (by omega) (sz1 _) ?_; intro v2 w2 ho2 hg2))
          have HM : Hid (AR w w2 cc v2 (O ++ [(⟨⟨xa, xp, xr, xc⟩, ⟨xt, xd, xl, xk, xn, xs⟩⟩ : Cx)])) := (HA1.out.more ho2 hg2).1
          clear ho2 hg2 oz1 sz1
          go_wp2_with fail
          go_roundw
          case rel => exact ⟨i + 1, O ++ [(⟨⟨xa, xp, xr, xc⟩, ⟨xt, xd, xl, xk, xn, xs⟩⟩ : Cx)], true, by omega, by go_num, rfl, HAn.out, HM.out⟩
          case measure => (simp [intOf]; try omega)
    · have hgez : ¬ (i : Int) < (l.length : Int) := by omega
      cases d
      · have hgz := hgez
        have hE := hA.endNo hge
        have HE : Hid (addC l cc = O ++ [(⟨⟨ya, yp, yr, yc⟩, ⟨yt, yd, yl, yk, yn, ys⟩⟩ : Cx)]) := by rw [HCC.out]; exact hE
        have tc1 : TenX wr w.heap.size 0 ⟨⟨ya, yp, yr, yc⟩, ⟨yt, yd, yl, yk, yn, ys⟩⟩ := by rw [HCC.out]; exact hAR.ten
        have oz1 : ∀ ob : Obj, (wr.alloc ob).ownsRow w.heap.size 67 10 u5 O.length (O.flatMap xs10) := fun ob => hAR.own.alloc ob
        have sz1 : ∀ ob : Obj, w.heap.size ≤ (wr.alloc ob).heap.size := fun ob => by rw [World.size_alloc]; have := hAR.bel.size; omega
        have HA1 : Hid (AR w wr cc u5 O) := hAR
        clear hA hAR hE
        obtain ⟨x0, x1, x2, x3, x4, x5, x6, x7, x8, x9⟩ := tc1
        simp only [Nat.zero_add] at x0 x1 x2 x3 x4 x5 x6 x7 x8 x9
        go_wp2_with (at_builtin; go_must (refine wpList_append_grew _ rfl _ _ 22 22 rfl w.heap.size 67 i1 _ 10 112 Tryz.underlying22 hi1 hy0 hy1 hy2 rfl _ (O).length ((O).flatMap xs10) rfl (oz1 _) _ 1 (([(⟨⟨ya, yp, yr, yc⟩, ⟨yt, yd, yl, yk, yn, ys⟩⟩ : Cx)] : List Cx).flatMap xs10) rfl (src_cells (sees_one _ ⟨⟨ya, yp, yr, yc⟩, ⟨yt, yd, yl, yk, yn, ys⟩⟩) (fun h => by cases h) 1) (by unfold maxLen; omega) (by omega) (sz1 _) ?_; intro v2 w2 ho2 hg2))
        have HM : Hid (AR w w2 cc v2 (O ++ [(⟨⟨ya, yp, yr, yc⟩, ⟨yt, yd, yl, yk, yn, ys⟩⟩ : Cx)])) := (HA1.out.more ho2 hg2).1
        clear ho2 hg2 oz1 sz1
        go_wp2_with fail
        go_ret
        exact ⟨_, rfl, by rw [HE.out]; exact HM.out.own, HM.out.bel⟩
      · have hgz := hgez
        have hE := hA.endYes hge
        have HE : Hid (addC l cc = O) := hE
        have HA1 : Hid (AR w wr cc u5 O) := hAR
        clear hA hAR hE
        go_wp2_with fail
        go_ret
        exact ⟨_, rfl, by rw [HE.out]; exact HA1.out.own, HA1.out.bel⟩
end Go.Proofs.YtlamncldbnagmaaGreatDoor

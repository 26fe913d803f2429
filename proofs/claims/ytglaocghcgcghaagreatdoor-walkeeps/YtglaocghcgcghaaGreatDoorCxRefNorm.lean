/-
  CONTRACTS: the document's Add and Norm at cells; Like of the same cells.
-/
import Derived.Test.YtglaocghcgcghaaGreatDoorMany26
import Derived.Test.YtglaocghcgcghaaGreatDoorVerRef
import Derived.Deep.CutRange
namespace Go.Proofs.YtglaocghcgcghaaGreatDoor
open Go.RowKit

theorem owBelow {w w' : World} {B : Nat} {e : TypeId} {k n : Nat} {v : Value} {xs : List Value} (h : w.ownsRow B e k v n xs) (hb : Below w.heap.size w w') : w'.ownsRow B e k v n xs :=
  h.kept (row := none) ⟨hb.os, hb.tape, hb.output, hb.size, fun k hk _ => hb.block k hk⟩ (by cases hv : v.ownBlock <;> simp)
theorem sees_one (w : World) (c : Cx) : XSees (w.alloc (.cells c.a 50)) (some ⟨w.heap.size, 0, none⟩) [c] := fun i x hx => by
  have hi : i = 0 := by have := (List.getElem?_eq_some_iff.1 hx).1; simp at this; exact this
  subst hi
  obtain rfl := Option.some.inj hx
  exact ⟨w.heap.size, 0, rfl, TenX.new w _ _⟩
/-- An append of one cell: what the row becomes. -/
theorem grew_one {w w1 w2 : World} {v v2 : Value} {O : List Cx} {c : Cx} {B : Nat} (hb : Below B w w1) (hB : B = w.heap.size) (ho : (w1.alloc (.cells c.a 50)).ownsRow B 50 10 v O.length (O.flatMap xs10)) (ho2 : w2.ownsRow B 50 10 v2 (O.length + 1) (O.flatMap xs10 ++ [c].flatMap xs10)) (hg : Grew (w1.alloc (.cells c.a 50)) w2 v v2) :
    w2.ownsRow B 50 10 v2 (O ++ [c]).length ((O ++ [c]).flatMap xs10) ∧ Below B w w2 := by
  subst hB
  refine ⟨by rw [List.flatMap_append, List.length_append]; exact ho2, ?_⟩
  have hb3 : Below w.heap.size w (w1.alloc (.cells c.a 50)) := hb.alloc hb.size _
  exact hb3.trans (hg.below hb3.size (fun g hg => (ho.lt g hg).1))
theorem addC_done : ∀ {A : List Cx} {c x : Cx}, (∃ y ∈ A, 0 ≤ kx y c) → addC (A ++ [x]) c = addC A c ++ [x]
  | [], _, _, h => by obtain ⟨y, hy, _⟩ := h; cases hy
  | a :: A, c, x, h => by
    by_cases h0 : kx a c = 0
    · rw [List.cons_append, addC_same _ h0, addC_same _ h0]; rfl
    · by_cases h1 : 0 < kx a c
      · rw [List.cons_append, addC_ahead _ h1, addC_ahead _ h1]; rfl
      · have h2 : ∃ y ∈ A, 0 ≤ kx y c := by
          obtain ⟨y, hy, hk⟩ := h
          rcases List.mem_cons.1 hy with rfl | hy
          · omega
          · exact ⟨y, hy, hk⟩
        rw [List.cons_append, addC_behind _ (by omega), addC_behind _ (by omega), addC_done h2]; rfl
theorem addC_last : ∀ {A : List Cx} {c : Cx}, (∀ y ∈ A, kx y c < 0) → ∀ R, addC (A ++ R) c = A ++ addC R c
  | [], _, _, _ => rfl
  | a :: A, c, h, R => by
    rw [List.cons_append, addC_behind _ (h a (by simp)), addC_last (fun y hy => h y (by simp [hy]))]; rfl
theorem addC_len : ∀ (A : List Cx) (c : Cx), (addC A c).length ≤ A.length + 1
  | [], _ => by simp [addC]
  | a :: A, c => by
    have := addC_len A c
    rw [addC]
    split
    · simp
    · split <;> simp <;> omega
/-- How far Add has come. -/
inductive AddAt (l : List Cx) (c : Cx) (i : Nat) (O : List Cx) : Bool → Prop
  | no (h : O = l.take i) (hk : ∀ y ∈ l.take i, kx y c < 0) : AddAt l c i O false
  | yes (h : O = addC (l.take i) c) (hk : ∃ y ∈ l.take i, 0 ≤ kx y c) : AddAt l c i O true
theorem AddAt.len {l : List Cx} {c : Cx} {i : Nat} {O : List Cx} {d : Bool} (h : AddAt l c i O d) : O.length ≤ i + 1 := by
  cases h with
  | no h _ => rw [h, List.length_take]; omega
  | yes h _ => rw [h]; have := addC_len (l.take i) c; rw [List.length_take] at this; omega
section
variable {l : List Cx} {c : Cx} {i : Nat} {O : List Cx} {x : Cx} {d : Bool}
theorem AddAt.less (h : AddAt l c i O d) (hr : Rising l) (hx : l[i]? = some x) (hk : kx x c < 0) : d = false ∧ AddAt l c (i + 1) (O ++ [x]) false := by
  cases h with
  | no h hh =>
    refine ⟨rfl, .no (by rw [h, takeX_succ hx]) fun y hy => ?_⟩
    rw [takeX_succ hx] at hy
    rcases List.mem_append.1 hy with hy | hy
    · exact hh y hy
    · obtain rfl : y = x := by simpa using hy
      exact hk
  | yes h hh =>
    obtain ⟨y, hy, hyc⟩ := hh
    have hr2 : Rising (l.take (i + 1)) := List.Pairwise.sublist (List.take_sublist _ _) hr
    rw [takeX_succ hx] at hr2
    have := (List.pairwise_append.1 hr2).2.2 y hy x (by simp)
    have := kx_strict this hk
    omega
theorem AddAt.same (h : AddAt l c i O d) (hr : Rising l) (hx : l[i]? = some x) (hk : kx x c = 0) : d = false ∧ AddAt l c (i + 1) (O ++ [jnC x c]) true := by
  cases h with
  | no h hh =>
    refine ⟨rfl, .yes ?_ ⟨x, by rw [takeX_succ hx]; simp, by omega⟩⟩
    rw [h, takeX_succ hx, addC_last hh, addC_same _ hk]
  | yes h hh =>
    obtain ⟨y, hy, hyc⟩ := hh
    have hr2 : Rising (l.take (i + 1)) := List.Pairwise.sublist (List.take_sublist _ _) hr
    rw [takeX_succ hx] at hr2
    have h1 := (List.pairwise_append.1 hr2).2.2 y hy x (by simp)
    have h2 : kx y c = kx y x := (kx_right ((kx_z x c).1 hk)).symm
    omega
theorem AddAt.ahead (h : AddAt l c i O false) (hx : l[i]? = some x) (hk : 0 < kx x c) : AddAt l c (i + 1) (O ++ [c] ++ [x]) true := by
  cases h with
  | no h hh =>
    refine .yes ?_ ⟨x, by rw [takeX_succ hx]; simp, by omega⟩
    rw [h, takeX_succ hx, addC_last hh, addC_ahead _ hk]; simp
theorem AddAt.behind (h : AddAt l c i O true) (hx : l[i]? = some x) : AddAt l c (i + 1) (O ++ [x]) true := by
  cases h with
  | yes h hh =>
    refine .yes (by rw [h, takeX_succ hx, addC_done hh]) ?_
    obtain ⟨y, hy, hyc⟩ := hh
    exact ⟨y, by rw [takeX_succ hx]; simp [hy], hyc⟩
theorem AddAt.endNo (h : AddAt l c i O false) (hi : l.length ≤ i) : addC l c = O ++ [c] := by
  cases h with
  | no h hh =>
    rw [List.take_of_length_le hi] at h hh
    have := addC_last hh []
    rw [List.append_nil] at this
    rw [this, h]; rfl
theorem AddAt.endYes (h : AddAt l c i O true) (hi : l.length ≤ i) : addC l c = O := by
  cases h with
  | yes h hh => rw [List.take_of_length_le hi] at h; exact h.symm
end
/-- A row that grows, beside a box with a cell. -/
structure AR (w wr : World) (cc : Cx) (v : Value) (O : List Cx) : Prop where
  own : wr.ownsRow w.heap.size 50 10 v O.length (O.flatMap xs10)
  ten : TenX wr w.heap.size 0 cc
  ne : v.ownBlock ≠ some w.heap.size
  bel : Below w.heap.size w wr
  gt : w.heap.size < wr.heap.size
theorem AR.below {w wr w' : World} {cc : Cx} {v : Value} {O : List Cx} (h : AR w wr cc v O) (hb : Below wr.heap.size wr w') : AR w w' cc v O :=
  ⟨owBelow h.own hb, h.ten.below hb h.ten.lt, h.ne, h.bel.trans (hb.mono h.bel.size), Nat.lt_of_lt_of_le h.gt hb.size⟩
theorem ten_grew {w w' : World} {v v' : Value} (hg : Grew w w' v v') {b o : Nat} {c : Cx} (t : TenX w b o c) (hne : v.ownBlock ≠ some b) : TenX w' b o c ∧ v'.ownBlock ≠ some b := by
  have hlt := t.lt
  refine ⟨⟨by rw [hg.cell hlt hne, t.c0], by rw [hg.cell hlt hne, t.c1], by rw [hg.cell hlt hne, t.c2], by rw [hg.cell hlt hne, t.c3], by rw [hg.cell hlt hne, t.c4], by rw [hg.cell hlt hne, t.c5], by rw [hg.cell hlt hne, t.c6], by rw [hg.cell hlt hne, t.c7], by rw [hg.cell hlt hne, t.c8], by rw [hg.cell hlt hne, t.c9]⟩, fun e => ?_⟩
  rcases hg.own b e with h1 | h1
  · exact hne h1
  · omega
theorem AR.more {w w1 w2 : World} {cc c : Cx} {v v2 : Value} {O : List Cx} (h : AR w w1 cc v O) (ho2 : w2.ownsRow w.heap.size 50 10 v2 (O.length + 1) (O.flatMap xs10 ++ [c].flatMap xs10)) (hg : Grew (w1.alloc (.cells c.a 50)) w2 v v2) :
    AR w w2 cc v2 (O ++ [c]) ∧ ∀ b o x, TenX w1 b o x → v.ownBlock ≠ some b → TenX w2 b o x ∧ v2.ownBlock ≠ some b := by
  have hg1 := hg.alloc
  have hk : ∀ b o x, TenX w1 b o x → v.ownBlock ≠ some b → TenX w2 b o x ∧ v2.ownBlock ≠ some b := fun b o x t hne => ten_grew hg1 t hne
  obtain ⟨h1, h2⟩ := grew_one h.bel rfl (h.own.alloc _) ho2 hg
  obtain ⟨h3, h4⟩ := hk _ _ _ h.ten h.ne
  exact ⟨⟨h1, h3, h4, h2, Nat.lt_of_lt_of_le h.gt hg1.rows.size⟩, hk⟩
/-- The version of a box is turned. -/
def set6at (w : World) (g : Nat) (a : Vr) : World := (((((w.setCell ⟨g, 4, none⟩ (.int .i64 a.time)).setCell ⟨g, 5, none⟩ (.bool a.dead)).setCell ⟨g, 6, none⟩ (.int .i64 a.loc)).setCell ⟨g, 7, none⟩ (.int .i64 a.kind)).setCell ⟨g, 8, none⟩ (.int .i64 a.num)).setCell ⟨g, 9, none⟩ (.string a.s)
theorem box_set {w : World} {g : Nat} {x : Cx} {ty : TypeId} (h : w.heap[g]? = some (.cells x.a ty)) (a : Vr) : (set6at w g a).heap[g]? = some (.cells (Cx.a ⟨x.k, a⟩) ty) := by
  unfold set6at
  simp only [World.setCell, Array.getElem?_modify, h, Cx.a]
  simp
theorem set6at_other (w : World) (g : Nat) (a : Vr) {b : Nat} (hb : b ≠ g) : (set6at w g a).heap[b]? = w.heap[b]? := by
  unfold set6at
  rw [Below.heap_setCell _ _ _ _ hb, Below.heap_setCell _ _ _ _ hb, Below.heap_setCell _ _ _ _ hb, Below.heap_setCell _ _ _ _ hb, Below.heap_setCell _ _ _ _ hb, Below.heap_setCell _ _ _ _ hb]
theorem set6at_size (w : World) (g : Nat) (a : Vr) : (set6at w g a).heap.size = w.heap.size := by
  unfold set6at; simp only [size_setCell]
theorem AR.set {w w1 : World} {cc : Cx} {v : Value} {O : List Cx} (h : AR w w1 cc v O) {g : Nat} (hg : w.heap.size < g) (hne : v.ownBlock ≠ some g) (a : Vr) : AR w (set6at w1 g a) cc v O := by
  have hgr : w1.grownBy (set6at w1 g a) (some g) := grownBy_setCell (grownBy_setCell (grownBy_setCell (grownBy_setCell (grownBy_setCell (grownBy_setCell ⟨rfl, rfl, rfl, Nat.le_refl _, fun _ _ _ => rfl⟩)))))
  refine ⟨h.own.kept hgr (.inr hne), ?_, h.ne, h.bel.trans ⟨hgr.os, hgr.tape, hgr.output, hgr.size, fun k hk => set6at_other w1 g a (by omega)⟩, by rw [set6at_size]; exact h.gt⟩
  have hc : ∀ o, (set6at w1 g a).cell? ⟨w.heap.size, o, none⟩ = w1.cell? ⟨w.heap.size, o, none⟩ := fun o => World.cell?_of_block (set6at_other w1 g a (show w.heap.size ≠ g by omega))
  exact ⟨by rw [hc, h.ten.c0], by rw [hc, h.ten.c1], by rw [hc, h.ten.c2], by rw [hc, h.ten.c3], by rw [hc, h.ten.c4], by rw [hc, h.ten.c5], by rw [hc, h.ten.c6], by rw [hc, h.ten.c7], by rw [hc, h.ten.c8], by rw [hc, h.ten.c9]⟩
end Go.Proofs.YtglaocghcgcghaaGreatDoor

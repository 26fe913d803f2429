/-
  CONTRACTS: the library's stable sort at cells: exchanges.
-/
import Derived.Test.YtkdeaogmifhnhaaCxRow
namespace Go.Proofs.Ytkdeaogmifhnhaa
open Go.RowKit

/-- Two records change their places. -/
def swL (L : List Cx) (i j : Nat) : List Cx := match L[i]?, L[j]? with | some x, some y => (L.set i y).set j x | _, _ => L
theorem swL_len (L : List Cx) (i j : Nat) : (swL L i j).length = L.length := by
  unfold swL; split <;> simp
theorem swL_eq {L : List Cx} {i j : Nat} {x y : Cx} (hx : L[i]? = some x) (hy : L[j]? = some y) : swL L i j = (L.set i y).set j x := by
  unfold swL; rw [hx, hy]
def swR (a b : Nat) (L : List Cx) : Nat → List Cx
  | 0 => L
  | i + 1 => swL (swR a b L i) (a + i) (b + i)
theorem swR_len (a b : Nat) (L : List Cx) : ∀ i, (swR a b L i).length = L.length
  | 0 => rfl
  | i + 1 => by rw [swR, swL_len]; exact swR_len a b L i
/-- A row of cells at the block g. -/
def Rx (w : World) (B g cap : Nat) (L : List Cx) : Prop := w.ownsRow B 35 10 (.slice (some ⟨g, 0, none⟩) L.length cap) L.length (L.flatMap xs10)
theorem Rx.ten {w : World} {B g cap : Nat} {L : List Cx} (h : Rx w B g cap L) {i : Nat} {c : Cx} (hc : L[i]? = some c) : TenX w g (i * 10) c := by
  obtain ⟨ao, cap', e, _, hT⟩ := owns_xsees h
  obtain ⟨g', rfl, _, t⟩ := hT i c hc
  injection e with e1 _ _
  injection e1 with e2
  injection e2 with e3
  rw [e3]; exact t
/-- Ten cells, stored one by one. -/
def set10 (w : World) (g o : Nat) (c : Cx) : World := (((((((((w.setCell ⟨g, o, none⟩ (.string c.k.t)).setCell ⟨g, o + 1, none⟩ (.string c.k.p)).setCell ⟨g, o + 2, none⟩ (.int .i64 c.k.r)).setCell ⟨g, o + 3, none⟩ (.string c.k.c)).setCell ⟨g, o + 4, none⟩ (.int .i64 c.v.time)).setCell ⟨g, o + 5, none⟩ (.bool c.v.dead)).setCell ⟨g, o + 6, none⟩ (.int .i64 c.v.loc)).setCell ⟨g, o + 7, none⟩ (.int .i64 c.v.kind)).setCell ⟨g, o + 8, none⟩ (.int .i64 c.v.num)).setCell ⟨g, o + 9, none⟩ (.string c.v.s)
theorem flat_put : ∀ (L : List Cx) (i : Nat) (a a' : Cx), L[i]? = some a → ((((((((((L.flatMap xs10).set (i * 10) (.string a'.k.t)).set (i * 10 + 1) (.string a'.k.p)).set (i * 10 + 2) (.int .i64 a'.k.r)).set (i * 10 + 3) (.string a'.k.c)).set (i * 10 + 4) (.int .i64 a'.v.time)).set (i * 10 + 5) (.bool a'.v.dead)).set (i * 10 + 6) (.int .i64 a'.v.loc)).set (i * 10 + 7) (.int .i64 a'.v.kind)).set (i * 10 + 8) (.int .i64 a'.v.num)).set (i * 10 + 9) (.string a'.v.s) = (L.set i a').flatMap xs10 := by
  intro L i a a' h
  have hi := (List.getElem?_eq_some_iff.1 h).1
  have g0 : ∀ (M : List Cx) (x y : Cx) (j : Nat) (v : Value), M[i]? = some x → j < 10 → xs10 y = (xs10 x).set j v → (M.flatMap xs10).set (i * 10 + j) v = (M.set i y).flatMap xs10 := fun M x y j v hM hj hy => flat_set xs10_len M i j x y v hM hj hy
  have at' : ∀ x : Cx, (L.set i x)[i]? = some x := fun x => by simp [hi]
  have e0 := g0 L a ⟨⟨a'.k.t, a.k.p, a.k.r, a.k.c⟩, ⟨a.v.time, a.v.dead, a.v.loc, a.v.kind, a.v.num, a.v.s⟩⟩ 0 (.string a'.k.t) h (by omega) rfl
  rw [Nat.add_zero] at e0
  rw [e0]
  rw [g0 (L.set i ⟨⟨a'.k.t, a.k.p, a.k.r, a.k.c⟩, ⟨a.v.time, a.v.dead, a.v.loc, a.v.kind, a.v.num, a.v.s⟩⟩) ⟨⟨a'.k.t, a.k.p, a.k.r, a.k.c⟩, ⟨a.v.time, a.v.dead, a.v.loc, a.v.kind, a.v.num, a.v.s⟩⟩ ⟨⟨a'.k.t, a'.k.p, a.k.r, a.k.c⟩, ⟨a.v.time, a.v.dead, a.v.loc, a.v.kind, a.v.num, a.v.s⟩⟩ 1 (.string a'.k.p) (at' _) (by omega) rfl, List.set_set]
  rw [g0 (L.set i ⟨⟨a'.k.t, a'.k.p, a.k.r, a.k.c⟩, ⟨a.v.time, a.v.dead, a.v.loc, a.v.kind, a.v.num, a.v.s⟩⟩) ⟨⟨a'.k.t, a'.k.p, a.k.r, a.k.c⟩, ⟨a.v.time, a.v.dead, a.v.loc, a.v.kind, a.v.num, a.v.s⟩⟩ ⟨⟨a'.k.t, a'.k.p, a'.k.r, a.k.c⟩, ⟨a.v.time, a.v.dead, a.v.loc, a.v.kind, a.v.num, a.v.s⟩⟩ 2 (.int .i64 a'.k.r) (at' _) (by omega) rfl, List.set_set]
  rw [g0 (L.set i ⟨⟨a'.k.t, a'.k.p, a'.k.r, a.k.c⟩, ⟨a.v.time, a.v.dead, a.v.loc, a.v.kind, a.v.num, a.v.s⟩⟩) ⟨⟨a'.k.t, a'.k.p, a'.k.r, a.k.c⟩, ⟨a.v.time, a.v.dead, a.v.loc, a.v.kind, a.v.num, a.v.s⟩⟩ ⟨⟨a'.k.t, a'.k.p, a'.k.r, a'.k.c⟩, ⟨a.v.time, a.v.dead, a.v.loc, a.v.kind, a.v.num, a.v.s⟩⟩ 3 (.string a'.k.c) (at' _) (by omega) rfl, List.set_set]
  rw [g0 (L.set i ⟨⟨a'.k.t, a'.k.p, a'.k.r, a'.k.c⟩, ⟨a.v.time, a.v.dead, a.v.loc, a.v.kind, a.v.num, a.v.s⟩⟩) ⟨⟨a'.k.t, a'.k.p, a'.k.r, a'.k.c⟩, ⟨a.v.time, a.v.dead, a.v.loc, a.v.kind, a.v.num, a.v.s⟩⟩ ⟨⟨a'.k.t, a'.k.p, a'.k.r, a'.k.c⟩, ⟨a'.v.time, a.v.dead, a.v.loc, a.v.kind, a.v.num, a.v.s⟩⟩ 4 (.int .i64 a'.v.time) (at' _) (by omega) rfl, List.set_set]
  rw [g0 (L.set i ⟨⟨a'.k.t, a'.k.p, a'.k.r, a'.k.c⟩, ⟨a'.v.time, a.v.dead, a.v.loc, a.v.kind, a.v.num, a.v.s⟩⟩) ⟨⟨a'.k.t, a'.k.p, a'.k.r, a'.k.c⟩, ⟨a'.v.time, a.v.dead, a.v.loc, a.v.kind, a.v.num, a.v.s⟩⟩ ⟨⟨a'.k.t, a'.k.p, a'.k.r, a'.k.c⟩, ⟨a'.v.time, a'.v.dead, a.v.loc, a.v.kind, a.v.num, a.v.s⟩⟩ 5 (.bool a'.v.dead) (at' _) (by omega) rfl, List.set_set]
  rw [g0 (L.set i ⟨⟨a'.k.t, a'.k.p, a'.k.r, a'.k.c⟩, ⟨a'.v.time, a'.v.dead, a.v.loc, a.v.kind, a.v.num, a.v.s⟩⟩) ⟨⟨a'.k.t, a'.k.p, a'.k.r, a'.k.c⟩, ⟨a'.v.time, a'.v.dead, a.v.loc, a.v.kind, a.v.num, a.v.s⟩⟩ ⟨⟨a'.k.t, a'.k.p, a'.k.r, a'.k.c⟩, ⟨a'.v.time, a'.v.dead, a'.v.loc, a.v.kind, a.v.num, a.v.s⟩⟩ 6 (.int .i64 a'.v.loc) (at' _) (by omega) rfl, List.set_set]
  rw [g0 (L.set i ⟨⟨a'.k.t, a'.k.p, a'.k.r, a'.k.c⟩, ⟨a'.v.time, a'.v.dead, a'.v.loc, a.v.kind, a.v.num, a.v.s⟩⟩) ⟨⟨a'.k.t, a'.k.p, a'.k.r, a'.k.c⟩, ⟨a'.v.time, a'.v.dead, a'.v.loc, a.v.kind, a.v.num, a.v.s⟩⟩ ⟨⟨a'.k.t, a'.k.p, a'.k.r, a'.k.c⟩, ⟨a'.v.time, a'.v.dead, a'.v.loc, a'.v.kind, a.v.num, a.v.s⟩⟩ 7 (.int .i64 a'.v.kind) (at' _) (by omega) rfl, List.set_set]
  rw [g0 (L.set i ⟨⟨a'.k.t, a'.k.p, a'.k.r, a'.k.c⟩, ⟨a'.v.time, a'.v.dead, a'.v.loc, a'.v.kind, a.v.num, a.v.s⟩⟩) ⟨⟨a'.k.t, a'.k.p, a'.k.r, a'.k.c⟩, ⟨a'.v.time, a'.v.dead, a'.v.loc, a'.v.kind, a.v.num, a.v.s⟩⟩ ⟨⟨a'.k.t, a'.k.p, a'.k.r, a'.k.c⟩, ⟨a'.v.time, a'.v.dead, a'.v.loc, a'.v.kind, a'.v.num, a.v.s⟩⟩ 8 (.int .i64 a'.v.num) (at' _) (by omega) rfl, List.set_set]
  rw [g0 (L.set i ⟨⟨a'.k.t, a'.k.p, a'.k.r, a'.k.c⟩, ⟨a'.v.time, a'.v.dead, a'.v.loc, a'.v.kind, a'.v.num, a.v.s⟩⟩) ⟨⟨a'.k.t, a'.k.p, a'.k.r, a'.k.c⟩, ⟨a'.v.time, a'.v.dead, a'.v.loc, a'.v.kind, a'.v.num, a.v.s⟩⟩ ⟨⟨a'.k.t, a'.k.p, a'.k.r, a'.k.c⟩, ⟨a'.v.time, a'.v.dead, a'.v.loc, a'.v.kind, a'.v.num, a'.v.s⟩⟩ 9 (.string a'.v.s) (at' _) (by omega) rfl, List.set_set]
theorem Rx.put {w : World} {B g cap : Nat} {L : List Cx} (h : Rx w B g cap L) {i : Nat} {a : Cx} (ha : L[i]? = some a) (a' : Cx) : Rx (set10 w g (i * 10) a') B g cap (L.set i a') ∧ w.grownBy (set10 w g (i * 10) a') (some g) := by
  have h0 : w.ownsRow B 35 10 (.slice (some ⟨g, 0, none⟩) L.length cap) L.length (L.flatMap xs10) := h
  have h1 := (((((((((h0.stored (i * 10) (.string a'.k.t)).1.stored (i * 10 + 1) (.string a'.k.p)).1.stored (i * 10 + 2) (.int .i64 a'.k.r)).1.stored (i * 10 + 3) (.string a'.k.c)).1.stored (i * 10 + 4) (.int .i64 a'.v.time)).1.stored (i * 10 + 5) (.bool a'.v.dead)).1.stored (i * 10 + 6) (.int .i64 a'.v.loc)).1.stored (i * 10 + 7) (.int .i64 a'.v.kind)).1.stored (i * 10 + 8) (.int .i64 a'.v.num)).1.stored (i * 10 + 9) (.string a'.v.s) |>.1
  rw [flat_put L i a a' ha] at h1
  refine ⟨?_, ?_⟩
  · unfold Rx
    rw [List.length_set]
    exact h1
  · exact grownBy_setCell (grownBy_setCell (grownBy_setCell (grownBy_setCell (grownBy_setCell (grownBy_setCell (grownBy_setCell (grownBy_setCell (grownBy_setCell (grownBy_setCell ⟨rfl, rfl, rfl, Nat.le_refl _, fun _ _ _ => rfl⟩)))))))))
end Go.Proofs.Ytkdeaogmifhnhaa

/-
  WHAT the document's reader of a cell needs, ahead of its walk.
-/
import Derived.Test.YtakokhdnccaclaaDoorRefRead
namespace Go.Proofs.YtakokhdnccaclaaDoor
open Go.RowKit

/-- Inside a method: two blocks of its own are laid; what it knows of them. -/
structure MidR (w wr : World) (R : Nat) (lb : List UInt8) (g : Bool) (t : TypeId) (zero cs : Array Value) : Prop where
  rs : RS wr R lb g
  grown : w.grownBy wr (some R)
  res : Box wr w.heap.size zero t
  box : Box wr (w.heap.size + 1) cs t
section
variable {w wr : World} {R : Nat} {lb : List UInt8} {g : Bool} {t : TypeId} {zero cs : Array Value}
theorem MidR.start (h : RS w R lb g) (t : TypeId) (zero : Array Value) : MidR w ((w.alloc (.cells zero t)).alloc (.cells zero t)) R lb g t zero zero := by
  have e : ∀ k, k < w.heap.size → ((w.alloc (.cells zero t)).alloc (.cells zero t)).heap[k]? = w.heap[k]? := fun k hk => by
    rw [Below.heap_alloc _ _ _ (by rw [World.size_alloc]; omega), Below.heap_alloc _ _ _ hk]
  have hR := h.lt
  refine ⟨h.carry (fun k hk => e k (by omega)), ⟨rfl, rfl, rfl, by rw [World.size_alloc, World.size_alloc]; omega, fun k hk _ => e k hk⟩, (Box.new w zero t).alloc _, ?_⟩
  have := Box.new (w.alloc (.cells zero t)) zero t
  rwa [World.size_alloc] at this
theorem MidR.call {w' : World} {lb' : List UInt8} {g' : Bool} (h : MidR w wr R lb g t zero cs) (hR : R < w.heap.size) (hr : RS w' R lb' g') (hg : wr.grownBy w' (some R)) : MidR w w' R lb' g' t zero cs :=
  ⟨hr, grownBy_trans h.grown hg, h.res.grown hg (by omega), h.box.grown hg (by omega)⟩
theorem MidR.set (h : MidR w wr R lb g t zero cs) (hR : R < w.heap.size) (i : Nat) (v : Value) : MidR w (wr.setCell ⟨w.heap.size + 1, i, none⟩ v) R lb g t zero (cs.setIfInBounds i v) :=
  ⟨h.rs.carry (fun k hk => Below.heap_setCell _ _ _ _ (by simp; omega)), grownBy_setNew h.grown (by simp), h.res.setOther _ (by simp), h.box.set i v⟩
theorem MidR.put (h : MidR w wr R lb g t zero cs) (hR : R < w.heap.size) (i : Nat) (v : Value) : MidR w (wr.setCell ⟨w.heap.size, i, none⟩ v) R lb g t (zero.setIfInBounds i v) cs :=
  ⟨h.rs.carry (fun k hk => Below.heap_setCell _ _ _ _ (by simp; omega)), grownBy_setNew h.grown (by simp), h.res.set i v, h.box.setOther _ (by simp)⟩
/-- A store into the reader. -/
theorem MidR.turn {lb' : List UInt8} {g' : Bool} {i : Nat} {v : Value} (h : MidR w wr R lb g t zero cs) (hR : R < w.heap.size) (hr : RS (wr.setCell ⟨R, i, none⟩ v) R lb' g') : MidR w (wr.setCell ⟨R, i, none⟩ v) R lb' g' t zero cs :=
  ⟨hr, grownBy_setCell h.grown, h.res.setOther _ (by simp; omega), h.box.setOther _ (by simp; omega)⟩
end
theorem RS.bad {w : World} {R : Nat} {lb : List UInt8} {wr : Bool} (h : RS w R lb wr) : RS (w.setCell ⟨R, 1, none⟩ (.bool true)) R lb true := by
  obtain ⟨ao, cap, hB, hs, hn, hc, ho⟩ := h.ex
  exact ⟨⟨ao, cap, hB.set 1 _, sees_setR hs ho, hn, hc, ho⟩, h.max⟩

theorem nS_lt (x : List UInt8 × Bool) : (nS x).1 < 18446744073709551616 := by
  unfold nS
  split
  · rename_i v r h
    exact (get_bd h).1
  · decide
theorem nS_false {x : List UInt8 × Bool} {v : Nat} {r : List UInt8} (h : nS x = (v, (r, false))) : x.2 = false ∧ getN 0 0 x.1 = some (v, r) := by
  unfold nS at h
  split at h
  · rename_i v' r' h'
    simp only [Prod.mk.injEq] at h
    obtain ⟨rfl, rfl, h3⟩ := h
    exact ⟨h3, h'⟩
  · simp at h
theorem nS_true {x : List UInt8 × Bool} {v : Nat} {r : List UInt8} (h : nS x = (v, (r, true))) : (x.2 = true ∨ getN 0 0 x.1 = none) ∧ (x.2 = true → x.1 = [] → r = []) ∧ (x.2 = false → r = []) := by
  unfold nS at h
  split at h
  · rename_i v' r' h'
    simp only [Prod.mk.injEq] at h
    obtain ⟨rfl, rfl, h3⟩ := h
    refine ⟨.inl h3, fun _ h5 => ?_, fun h5 => by rw [h5] at h3; cases h3⟩
    rw [h5] at h'
    simp [getN] at h'
  · rename_i h'
    simp only [Prod.mk.injEq] at h
    exact ⟨.inr h', fun _ _ => h.2.1.symm, fun _ => h.2.1.symm⟩
theorem tS_false {x : List UInt8 × Bool} {v r : List UInt8} (h : tS x = (v, (r, false))) : x.2 = false ∧ textN x.1 = some (v, r) := by
  unfold tS at h
  split at h
  · rename_i v' r' h'
    simp only [Prod.mk.injEq] at h
    obtain ⟨rfl, rfl, h3⟩ := h
    exact ⟨h3, h'⟩
  · simp at h
theorem tS_true {x : List UInt8 × Bool} {v r : List UInt8} (h : tS x = (v, (r, true))) : (x.2 = true ∨ textN x.1 = none) ∧ (x.2 = true → x.1 = [] → r = []) ∧ (x.2 = false → r = []) := by
  unfold tS at h
  split at h
  · rename_i v' r' h'
    simp only [Prod.mk.injEq] at h
    obtain ⟨rfl, rfl, h3⟩ := h
    refine ⟨.inl h3, fun _ h5 => ?_, fun h5 => by rw [h5] at h3; cases h3⟩
    rw [h5] at h'
    simp [textN, getN] at h'
  · rename_i h'
    simp only [Prod.mk.injEq] at h
    exact ⟨.inr h', fun _ _ => h.2.1.symm, fun _ => h.2.1.symm⟩

/-- The head of a cell: its key and its time. -/
def headN (lb : List UInt8) : Option ((KeyV × Int) × List UInt8) := match keyN lb with | none => none | some (k, r) => match signN r with | none => none | some (t, r') => some ((k, t), r')
theorem head_of {lb : List UInt8} {s1 s2 s4 lb1 lb2 lb3 lb4 lb5 : List UInt8} {n3 n5 : Nat} {g1 g2 g3 g4 g5 : Bool} (h1 : tS (lb, false) = (s1, (lb1, g1))) (h2 : tS (lb1, g1) = (s2, (lb2, g2))) (h3 : nS (lb2, g2) = (n3, (lb3, g3))) (h4 : tS (lb3, g3) = (s4, (lb4, g4))) (h5 : nS (lb4, g4) = (n5, (lb5, g5))) :
    (g5 = false ∧ headN lb = some ((⟨bytesOf s1, bytesOf s2, zagZ n3, bytesOf s4⟩, zagZ n5), lb5)) ∨ (g5 = true ∧ lb5 = [] ∧ headN lb = none) := by
  cases g5
  · obtain ⟨e4, f5⟩ := nS_false h5
    simp only at e4 f5
    subst e4
    obtain ⟨e3, f4⟩ := tS_false h4
    simp only at e3 f4
    subst e3
    obtain ⟨e2, f3⟩ := nS_false h3
    simp only at e2 f3
    subst e2
    obtain ⟨e1, f2⟩ := tS_false h2
    simp only at e1 f2
    subst e1
    obtain ⟨_, f1⟩ := tS_false h1
    simp only at f1
    refine .inl ⟨rfl, ?_⟩
    unfold headN keyN signN
    simp only [f1, f2, f3, f4, f5]
  · refine .inr ⟨rfl, ?_⟩
    obtain ⟨a5, b5, c5⟩ := nS_true h5
    simp only at a5 b5 c5
    cases g4
    · refine ⟨c5 rfl, ?_⟩
      obtain ⟨e3, f4⟩ := tS_false h4
      simp only at e3 f4
      subst e3
      obtain ⟨e2, f3⟩ := nS_false h3
      simp only at e2 f3
      subst e2
      obtain ⟨e1, f2⟩ := tS_false h2
      simp only at e1 f2
      subst e1
      obtain ⟨_, f1⟩ := tS_false h1
      simp only at f1
      have f5 := a5.resolve_left (by simp)
      unfold headN keyN signN
      simp only [f1, f2, f3, f4, f5]
    · obtain ⟨a4, b4, c4⟩ := tS_true h4
      simp only at a4 b4 c4
      cases g3
      · refine ⟨b5 rfl (c4 rfl), ?_⟩
        obtain ⟨e2, f3⟩ := nS_false h3
        simp only at e2 f3
        subst e2
        obtain ⟨e1, f2⟩ := tS_false h2
        simp only at e1 f2
        subst e1
        obtain ⟨_, f1⟩ := tS_false h1
        simp only at f1
        have f4 := a4.resolve_left (by simp)
        unfold headN keyN signN
        simp only [f1, f2, f3, f4]
      · obtain ⟨a3, b3, c3⟩ := nS_true h3
        simp only at a3 b3 c3
        cases g2
        · refine ⟨b5 rfl (b4 rfl (c3 rfl)), ?_⟩
          obtain ⟨e1, f2⟩ := tS_false h2
          simp only at e1 f2
          subst e1
          obtain ⟨_, f1⟩ := tS_false h1
          simp only at f1
          have f3 := a3.resolve_left (by simp)
          unfold headN keyN signN
          simp only [f1, f2, f3]
        · obtain ⟨a2, b2, c2⟩ := tS_true h2
          simp only at a2 b2 c2
          cases g1
          · refine ⟨b5 rfl (b4 rfl (b3 rfl (c2 rfl))), ?_⟩
            obtain ⟨_, f1⟩ := tS_false h1
            simp only at f1
            have f2 := a2.resolve_left (by simp)
            unfold headN keyN
            simp only [f1, f2]
          · obtain ⟨a1, _, c1⟩ := tS_true h1
            simp only at a1 c1
            refine ⟨b5 rfl (b4 rfl (b3 rfl (b2 rfl (c1 trivial)))), ?_⟩
            have f1 := a1.resolve_left (by simp)
            unfold headN keyN
            simp only [f1]
theorem val_of {lb : List UInt8} {s3 lb1 lb2 lb3 : List UInt8} {n1 n2 : Nat} {g1 g2 g3 : Bool} (h1 : nS (lb, false) = (n1, (lb1, g1))) (h2 : nS (lb1, g1) = (n2, (lb2, g2))) (h3 : tS (lb2, g2) = (s3, (lb3, g3))) :
    (g3 = false ∧ valN lb = some (⟨kindZ n1, zagZ n2, bytesOf s3⟩, lb3)) ∨ (g3 = true ∧ valN lb = none) := by
  cases g3
  · obtain ⟨e2, f3⟩ := tS_false h3
    simp only at e2 f3
    subst e2
    obtain ⟨e1, f2⟩ := nS_false h2
    simp only at e1 f2
    subst e1
    obtain ⟨_, f1⟩ := nS_false h1
    simp only at f1
    refine .inl ⟨rfl, ?_⟩
    unfold valN signN
    simp only [f1, f2, f3]
  · refine .inr ⟨rfl, ?_⟩
    obtain ⟨a3, _, _⟩ := tS_true h3
    simp only at a3
    cases g2
    · obtain ⟨e1, f2⟩ := nS_false h2
      simp only at e1 f2
      subst e1
      obtain ⟨_, f1⟩ := nS_false h1
      simp only at f1
      have f3 := a3.resolve_left (by simp)
      unfold valN signN
      simp only [f1, f2, f3]
    · obtain ⟨a2, _, _⟩ := nS_true h2
      simp only at a2
      cases g1
      · obtain ⟨_, f1⟩ := nS_false h1
        simp only at f1
        have f2 := a2.resolve_left (by simp)
        unfold valN signN
        simp only [f1, f2]
      · obtain ⟨a1, _, _⟩ := nS_true h1
        simp only at a1
        have f1 := a1.resolve_left (by simp)
        unfold valN
        simp only [f1]
theorem cell_of_none {lb : List UInt8} (h : headN lb = none) : cellN lb = none := by
  unfold headN at h
  unfold cellN verN
  split at h
  · rename_i e
    simp only [e]
  · rename_i k r e
    split at h
    · rename_i e2
      simp only [e, e2]
    · cases h
theorem cell_of_head {lb : List UInt8} {k : KeyV} {t : Int} {r : List UInt8} (h : headN lb = some ((k, t), r)) : ∃ r0, keyN lb = some (k, r0) ∧ signN r0 = some (t, r) := by
  unfold headN at h
  split at h
  · cases h
  · rename_i k' r' e
    split at h
    · cases h
    · rename_i t' r'' e2
      simp only [Option.some.injEq, Prod.mk.injEq] at h
      obtain ⟨⟨rfl, rfl⟩, rfl⟩ := h
      exact ⟨r', e, e2⟩

/-- What the document's reader has done: a cell that is there, or it is wrong. -/
def Took (lb : List UInt8) (c : CellV) (lb' : List UInt8) (g' : Bool) : Prop := match cellN lb with | some (c0, r) => c = c0 ∧ lb' = r ∧ g' = false | none => g' = true
theorem MidR.put10 {w wr : World} {R : Nat} {lb : List UInt8} {g : Bool} {t : TypeId} {cs : Array Value} {z0 z1 z2 z3 z4 z5 z6 z7 z8 z9 : Value} (h : MidR w wr R lb g t #[z0, z1, z2, z3, z4, z5, z6, z7, z8, z9] cs) (hR : R < w.heap.size) (v0 v1 v2 v3 v4 v5 v6 v7 v8 v9 : Value) :
    MidR w ((((((((((wr.setCell ⟨w.heap.size, 0, none⟩ v0).setCell ⟨w.heap.size, 1, none⟩ v1).setCell ⟨w.heap.size, 2, none⟩ v2).setCell ⟨w.heap.size, 3, none⟩ v3).setCell ⟨w.heap.size, 4, none⟩ v4).setCell ⟨w.heap.size, 5, none⟩ v5).setCell ⟨w.heap.size, 6, none⟩ v6).setCell ⟨w.heap.size, 7, none⟩ v7).setCell ⟨w.heap.size, 8, none⟩ v8).setCell ⟨w.heap.size, 9, none⟩ v9) R lb g t #[v0, v1, v2, v3, v4, v5, v6, v7, v8, v9] cs := by
  have h0 : MidR _ _ _ _ _ _ #[v0, z1, z2, z3, z4, z5, z6, z7, z8, z9] _ := h.put hR 0 v0
  have h1 : MidR _ _ _ _ _ _ #[v0, v1, z2, z3, z4, z5, z6, z7, z8, z9] _ := h0.put hR 1 v1
  have h2 : MidR _ _ _ _ _ _ #[v0, v1, v2, z3, z4, z5, z6, z7, z8, z9] _ := h1.put hR 2 v2
  have h3 : MidR _ _ _ _ _ _ #[v0, v1, v2, v3, z4, z5, z6, z7, z8, z9] _ := h2.put hR 3 v3
  have h4 : MidR _ _ _ _ _ _ #[v0, v1, v2, v3, v4, z5, z6, z7, z8, z9] _ := h3.put hR 4 v4
  have h5 : MidR _ _ _ _ _ _ #[v0, v1, v2, v3, v4, v5, z6, z7, z8, z9] _ := h4.put hR 5 v5
  have h6 : MidR _ _ _ _ _ _ #[v0, v1, v2, v3, v4, v5, v6, z7, z8, z9] _ := h5.put hR 6 v6
  have h7 : MidR _ _ _ _ _ _ #[v0, v1, v2, v3, v4, v5, v6, v7, z8, z9] _ := h6.put hR 7 v7
  have h8 : MidR _ _ _ _ _ _ #[v0, v1, v2, v3, v4, v5, v6, v7, v8, z9] _ := h7.put hR 8 v8
  have h9 : MidR _ _ _ _ _ _ #[v0, v1, v2, v3, v4, v5, v6, v7, v8, v9] _ := h8.put hR 9 v9
  exact h9
end Go.Proofs.YtakokhdnccaclaaDoor

/-
  THE DOCUMENT'S RING WHILE IT IS MADE: its block, its row of points, the point that is put. CONTRACT: digits.
-/
import Derived.Test.YtcnceipkoapcpaaDoorRngRefP
import Derived.Test.YtcnceipkoapcpaaDoorKeyRefText
namespace Go.Proofs.YtcnceipkoapcpaaDoor
open Go.RowKit

theorem itoa_dg (n : Nat) (hn : n < 10) : strB (Lib.itoa (n : Int)) = dg n := by
  have h0 : ¬ (n : Int) < 0 := by omega
  rw [Lib.itoa, if_neg h0, Int.toNat_natCast, Lib.decDigits_one hn]
  rfl
theorem digitsR_any (n : Nat) (hn : n < 10) (w : World) : Calls Tryd.prog 28 #[.int .i64 (n : Int)] w fun e w' => e = .returned (.string (dg n)) ∧ Below w.heap.size w w' := by
  have := digits_any (n : Int) (by unfold InI; omega) w
  rwa [itoa_dg n hn] at this
structure DS (w0 w : World) (r : Nat) (L : List Pt) (c : Nat) (v : Value) : Prop where
  bel : Below w0.heap.size w0 w
  lo : w0.heap.size ≤ r
  bx : Blk w r [v, .int .i64 (c : Int)] 33
  row : w.ownsRow w0.heap.size 41 2 v L.length (ptsV L)
  ne : v.ownBlock ≠ some r
theorem DS.to {w0 w w' : World} {r : Nat} {L : List Pt} {c : Nat} {v : Value} (h : DS w0 w r L c v) (hb : Below w.heap.size w w') : DS w0 w' r L c v :=
  ⟨h.bel.trans (hb.mono h.bel.size), h.lo, h.bx.carry (hb.block _ h.bx.lt), owns_to h.row hb, h.ne⟩
/-- .. with the point that is put, in a block of its own. -/
structure DP (w0 w : World) (r pb : Nat) (L : List Pt) (c : Nat) (v : Value) (p : Pt) : Prop where
  ds : DS w0 w r L c v
  lo : w0.heap.size ≤ pb
  pt : Blk w pb [.int .i64 p.tok, .int .i64 (p.nd : Int)] 41
  ne : v.ownBlock ≠ some pb
  nr : pb ≠ r
theorem DP.drew {w0 w : World} {r pb : Nat} {L : List Pt} {c : Nat} {v : Value} {p : Pt} (h : DP w0 w r pb L c v p) : DP w0 w.drew r pb L c v p :=
  ⟨h.ds.to (Below.refl _ _).drew, h.lo, h.pt, h.ne, h.nr⟩
theorem DP.to {w0 w w' : World} {r pb : Nat} {L : List Pt} {c : Nat} {v : Value} {p : Pt} (h : DP w0 w r pb L c v p) (hb : Below w.heap.size w w') : DP w0 w' r pb L c v p :=
  ⟨h.ds.to hb, h.lo, h.pt.carry (hb.block _ h.pt.lt), h.ne, h.nr⟩
theorem DS.withP {w0 w : World} {r : Nat} {L : List Pt} {c : Nat} {v : Value} (h : DS w0 w r L c v) (p : Pt) : DP w0 (w.alloc (.cells #[.int .i64 p.tok, .int .i64 (p.nd : Int)] 41)) r w.heap.size L c v p :=
  ⟨h.to ((Below.refl _ _).alloc (Nat.le_refl _) _), h.bel.size, Blk.new w _ _, fun e => by have := (h.row.lt _ e).2; omega, fun e => by have := h.bx.lt; omega⟩
/-- The row grew, and its slice was put into the ring. -/
theorem DP.grew {w0 w w' : World} {r pb : Nat} {L : List Pt} {c : Nat} {v v' : Value} {p : Pt} (h : DP w0 w r pb L c v p) (q : Pt) (ho : w'.ownsRow w0.heap.size 41 2 v' (L.length + 1) (ptsV L ++ ptsV [q])) (hg : Grew w w' v v') : DP w0 (w'.setCell ⟨r, 0, none⟩ v') r pb (L ++ [q]) c v' p := by
  have hr : w'.heap[r]? = w.heap[r]? := hg.rows.block _ h.ds.bx.lt (fun e => h.ds.ne e.symm)
  have hp : w'.heap[pb]? = w.heap[pb]? := hg.rows.block _ h.pt.lt (fun e => h.ne e.symm)
  have n1 : v'.ownBlock ≠ some r := fun e => by
    rcases hg.own _ e with h1 | h1
    · exact h.ds.ne h1
    · have := h.ds.bx.lt; omega
  have n2 : v'.ownBlock ≠ some pb := fun e => by
    rcases hg.own _ e with h1 | h1
    · exact h.ne h1
    · have := h.pt.lt; omega
  have e1 : (L ++ [q]).length = L.length + 1 := by simp
  have e2 : ptsV (L ++ [q]) = ptsV L ++ ptsV [q] := by simp [ptsV]
  have hB : Below w0.heap.size w0 w' := h.ds.bel.trans (hg.below h.ds.bel.size (fun g e => (h.ds.row.lt g e).1))
  refine ⟨⟨hB.trans ⟨rfl, rfl, rfl, by simp [World.setCell], fun k hk => Below.heap_setCell _ _ _ _ (fun e => by have e' : k = r := e; have := h.ds.lo; omega)⟩, h.ds.lo, (h.ds.bx.carry hr).setTo 0 _ _ rfl, ?_, n1⟩, h.lo, (h.pt.carry hp).carry (Below.heap_setCell _ _ _ _ (fun e => h.nr e)), n2, h.nr⟩
  rw [e1, e2]
  refine ho.kept (row := some r) (grownBy_setCell ⟨rfl, rfl, rfl, Nat.le_refl _, fun _ _ _ => rfl⟩) ?_
  exact .inr (fun e => n1 e)
/-- One point of the row is set. -/
theorem DP.put {w0 w : World} {r pb g cap n : Nat} {L : List Pt} {c : Nat} {p q y : Pt} {k : Nat} (h : DP w0 w r pb L c (.slice (some ⟨g, 0, none⟩) n cap) p) (hy : L[k]? = some y) (hn : n = L.length) :
    DP w0 ((w.setCell ⟨g, k * 2, none⟩ (.int .i64 q.tok)).setCell ⟨g, k * 2 + 1, none⟩ (.int .i64 (q.nd : Int))) r pb (L.set k q) c (.slice (some ⟨g, 0, none⟩) n cap) p := by
  subst hn
  have hg := (h.ds.row.lt g rfl).1
  have nr : g ≠ r := fun e => h.ds.ne (by rw [e]; rfl)
  have np : g ≠ pb := fun e => h.ne (by rw [e]; rfl)
  have hk : ∀ b, b ≠ g → ((w.setCell ⟨g, k * 2, none⟩ (.int .i64 q.tok)).setCell ⟨g, k * 2 + 1, none⟩ (.int .i64 (q.nd : Int))).heap[b]? = w.heap[b]? := fun b hb =>
    (Below.heap_setCell _ _ _ _ hb).trans (Below.heap_setCell _ _ _ _ hb)
  refine ⟨⟨h.ds.bel.trans ⟨rfl, rfl, rfl, by simp [World.setCell], fun b hb => hk b (fun e => by omega)⟩, h.ds.lo, h.ds.bx.carry (hk r (fun e => nr e.symm)), ?_, h.ds.ne⟩, h.lo, h.pt.carry (hk pb (fun e => np e.symm)), h.ne, h.nr⟩
  have h1 := h.ds.row.stored (k * 2) (.int .i64 q.tok)
  have h2 := h1.1.stored (k * 2 + 1) (.int .i64 (q.nd : Int))
  rw [ptsV_set hy] at h2
  rw [List.length_set]
  exact h2.1
theorem DP.cell {w0 w : World} {r pb g cap n : Nat} {L : List Pt} {c : Nat} {p y : Pt} {k : Nat} (h : DP w0 w r pb L c (.slice (some ⟨g, 0, none⟩) n cap) p) (hy : L[k]? = some y) : w.cell? ⟨g, k * 2, none⟩ = some (.int .i64 y.tok) ∧ w.cell? ⟨g, k * 2 + 1, none⟩ = some (.int .i64 (y.nd : Int)) := by
  obtain ⟨ao, cap2, e, _, hs, _⟩ := PSees.of_owns h.ds.row
  cases e
  obtain ⟨g', e, h1, h2⟩ := hs k y hy
  cases e
  exact ⟨h1, h2⟩
theorem DP.frozen {w0 w : World} {r pb g cap n : Nat} {L : List Pt} {c : Nat} {p : Pt} (h : DP w0 w r pb L c (.slice (some ⟨g, 0, none⟩) n cap) p) (j : Nat) : w.frozen? ⟨g, j, none⟩ = false := by
  have hr := h.ds.row
  obtain ⟨ao, cap2, e, _, _, _⟩ := PSees.of_owns hr
  cases e
  exact hr.frozenAt j
end Go.Proofs.YtcnceipkoapcpaaDoor

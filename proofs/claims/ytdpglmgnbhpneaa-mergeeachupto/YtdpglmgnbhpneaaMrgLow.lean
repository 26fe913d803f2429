/-
  CONTRACT: which of two heads comes first (cmp of a head). CONTRACT: a heap's entry is put below those that come ahead of it (sink). CONTRACT: a heap without its first cell (next). CONTRACT: a heap of many lists (newHeads).
-/
import Derived.Test.YtdpglmgnbhpneaaMrgPlain
import Derived.Test.YtdpglmgnbhpneaaVerCmp
import Derived.Test.YtdpglmgnbhpneaaCxWeigh
import Derived.Test.YtdpglmgnbhpneaaLoud
import Derived.Test.YtdpglmgnbhpneaaMrgZone
import Derived.Test.YtdpglmgnbhpneaaRecs
import Derived.Test.YtdpglmgnbhpneaaSrtRange
import Derived.WalkSmall
namespace Go.Proofs.Ytdpglmgnbhpneaa
open Go.RowKit

attribute [local go_sem] Oper.pureAt Oper.pureUpon
def Hd.a (h : Hd) : Array Value := #[.slice h.ao (h.r.length + 1) h.cap, .int .i64 h.pl]
def hv2 (h : Hd) : List Value := [.slice h.ao (h.r.length + 1) h.cap, .int .i64 h.pl]
theorem hv2_len (h : Hd) : (hv2 h).length = 2 := rfl
def Hd.In (w : World) (h : Hd) : Prop := XSees w h.ao (h.c :: h.r)
theorem Hd.In.ten {w : World} {h : Hd} (hi : h.In w) : ∃ b o, h.ao = some ⟨b, o, none⟩ ∧ TenX w b o h.c := by
  obtain ⟨b, o, e, t⟩ := hi 0 h.c rfl
  exact ⟨b, o, e, by simpa using t⟩
theorem or2 (w : World) (x1 x2 : Int) : Calls Try.prog 68 #[.slice (some ⟨w.heap.size, 0, none⟩) 2 2] (w.alloc (.cells #[.int .i64 x1, .int .i64 x2] 3)) fun x w' => x = .returned (.int .i64 (th x1 x2)) ∧ w' = (w.alloc (.cells #[.int .i64 x1, .int .i64 x2] 3)) := by
  have hg : (w.alloc (.cells #[.int .i64 x1, .int .i64 x2] 3)).heap[w.heap.size]? = some (.cells #[.int .i64 x1, .int .i64 x2] 3) := heap_alloc_new w _
  refine (or_any ⟨w.heap.size, 0, none⟩ [x1, x2] 2 _ (fun i hi => ?_) (by simp)).mono ?_
  · rw [Addr.add_lit, Nat.zero_add]
    simp only [World.cell?, hg]
    simp only [List.length_cons, List.length_nil] at hi
    rcases i with _ | _ | i
    · rfl
    · rfl
    · omega
  · rintro x w' ⟨rfl, rfl⟩
    refine ⟨?_, rfl⟩
    have : ∀ x, th x 0 = x := fun x => by unfold th; split <;> omega
    show _ = Ending.returned (.int .i64 (th x1 x2))
    rw [show fu [x1, x2] = th x1 (th x2 0) from rfl, this]
set_option maxRecDepth 100000 in
set_option maxHeartbeats 2000000 in
theorem hcmp_any (x y : Hd) (w : World) (hx : x.In w) (hy : y.In w) :
    Calls Try.prog 66 #[.agg x.a, .agg y.a] w fun e w' => e = .returned (.int .i64 (hc x y)) ∧ Below w.heap.size w w' := by
  obtain ⟨bx, ox, ex, tx⟩ := hx.ten
  obtain ⟨b2, o2, ey, ty⟩ := hy.ten
  have hbx := tx.lt
  have hby := ty.lt
  obtain ⟨aox, capx, cx, rx, px⟩ := x
  obtain ⟨aoy, capy, cy, ry, py⟩ := y
  simp only at ex ey tx ty
  subst ex ey
  have HC : Hid (hc ⟨some ⟨bx, ox, none⟩, capx, cx, rx, px⟩ ⟨some ⟨b2, o2, none⟩, capy, cy, ry, py⟩ = th (kc cx.k.ky cy.k.ky) (ci px py)) := rfl
  have C1 : Hid (∀ w, Calls Try.prog 31 #[cx.k.v, cy.k.v] w fun x w' => x = .returned (.int .i64 (kc cx.k.ky cy.k.ky)) ∧ Below w.heap.size w w') := cmp_any cx.k cy.k
  have T3 : Hid (∀ (x y : Int) (w : World), Calls Try.prog 48 #[.int .i64 x, .int .i64 y] w fun e w' => e = .returned (.int .i64 (ci x y)) ∧ w' = w) := fun x y w => Try.cmp_Compare_int x y w
  have O2 : Hid (∀ (w : World) (x1 x2 : Int), Calls Try.prog 68 #[.slice (some ⟨w.heap.size, 0, none⟩) 2 2] (w.alloc (.cells #[.int .i64 x1, .int .i64 x2] 3)) fun x w' => x = .returned (.int .i64 (th x1 x2)) ∧ w' = (w.alloc (.cells #[.int .i64 x1, .int .i64 x2] 3))) := or2
  obtain ⟨⟨kt, kp, kr, kq⟩, vx⟩ := cx
  obtain ⟨⟨lt, lp, lr, lq⟩, vy⟩ := cy
  obtain ⟨x0, x1, x2, x3, -⟩ := tx
  obtain ⟨y0, y1, y2, y3, -⟩ := ty
  simp only [Kb.v] at C1
  simp only at x0 x1 x2 x3 y0 y1 y2 y3
  obtain ⟨wa, hwa⟩ : ∃ wa, wa = (w.alloc (.cells #[.slice (some ⟨bx, ox, none⟩) (rx.length + 1) capx, .int .i64 px] 72)).alloc (.cells #[.slice (some ⟨b2, o2, none⟩) (ry.length + 1) capy, .int .i64 py] 72) := ⟨_, rfl⟩
  have hB : Below w.heap.size w wa := by rw [hwa]; exact ((Below.refl _ _).alloc (Nat.le_refl _) _).alloc (by simp) _
  have hsz : wa.heap.size = w.heap.size + 2 := by rw [hwa]; simp
  have a0 : wa.cell? ⟨w.heap.size, 0, none⟩ = some (.slice (some ⟨bx, ox, none⟩) (rx.length + 1) capx) := by rw [hwa]; exact (box_cells w _ _ _ 0 _ rfl).1
  have a1 : wa.cell? ⟨w.heap.size, 1, none⟩ = some (.int .i64 px) := by rw [hwa]; exact (box_cells w _ _ _ 1 _ rfl).1
  have b0 : wa.cell? ⟨w.heap.size + 1, 0, none⟩ = some (.slice (some ⟨b2, o2, none⟩) (ry.length + 1) capy) := by rw [hwa]; exact box_cells2 w _ _ _ 0 _ rfl
  have b1 : wa.cell? ⟨w.heap.size + 1, 1, none⟩ = some (.int .i64 py) := by rw [hwa]; exact box_cells2 w _ _ _ 1 _ rfl
  have p0 : ∀ q : Cl wa.heap.size wa, q.u.cell? ⟨w.heap.size, 0, none⟩ = some (.slice (some ⟨bx, ox, none⟩) (rx.length + 1) capx) := fun q => q.cell (by show w.heap.size < _; omega) a0
  have p1 : ∀ q : Cl wa.heap.size wa, q.u.cell? ⟨w.heap.size, 1, none⟩ = some (.int .i64 px) := fun q => q.cell (by show w.heap.size < _; omega) a1
  have p2 : ∀ q : Cl wa.heap.size wa, q.u.cell? ⟨w.heap.size + 1, 0, none⟩ = some (.slice (some ⟨b2, o2, none⟩) (ry.length + 1) capy) := fun q => q.cell (by show w.heap.size + 1 < _; omega) b0
  have p3 : ∀ q : Cl wa.heap.size wa, q.u.cell? ⟨w.heap.size + 1, 1, none⟩ = some (.int .i64 py) := fun q => q.cell (by show w.heap.size + 1 < _; omega) b1
  have q0 : ∀ q : Cl wa.heap.size wa, q.u.cell? ⟨bx, ox, none⟩ = some (.string kt) := fun q => q.cell (by show bx < _; omega) ((hB.cell hbx).trans x0)
  have q1 : ∀ q : Cl wa.heap.size wa, q.u.cell? ⟨bx, ox + 1, none⟩ = some (.string kp) := fun q => q.cell (by show bx < _; omega) ((hB.cell hbx).trans x1)
  have q2 : ∀ q : Cl wa.heap.size wa, q.u.cell? ⟨bx, ox + 2, none⟩ = some (.int .i64 kr) := fun q => q.cell (by show bx < _; omega) ((hB.cell hbx).trans x2)
  have q3 : ∀ q : Cl wa.heap.size wa, q.u.cell? ⟨bx, ox + 3, none⟩ = some (.string kq) := fun q => q.cell (by show bx < _; omega) ((hB.cell hbx).trans x3)
  have r0 : ∀ q : Cl wa.heap.size wa, q.u.cell? ⟨b2, o2, none⟩ = some (.string lt) := fun q => q.cell (by show b2 < _; omega) ((hB.cell hby).trans y0)
  have r1 : ∀ q : Cl wa.heap.size wa, q.u.cell? ⟨b2, o2 + 1, none⟩ = some (.string lp) := fun q => q.cell (by show b2 < _; omega) ((hB.cell hby).trans y1)
  have r2 : ∀ q : Cl wa.heap.size wa, q.u.cell? ⟨b2, o2 + 2, none⟩ = some (.int .i64 lr) := fun q => q.cell (by show b2 < _; omega) ((hB.cell hby).trans y2)
  have r3 : ∀ q : Cl wa.heap.size wa, q.u.cell? ⟨b2, o2 + 3, none⟩ = some (.string lq) := fun q => q.cell (by show b2 < _; omega) ((hB.cell hby).trans y3)
  clear x0 x1 x2 x3 y0 y1 y2 y3 a0 a1 b0 b1 hx hy hbx hby hsz
  simp only [Hd.a]
  haveI := Cl.inh wa.heap.size wa
  go_enter Try.func66, Try.ntmps66
  go_wp2_with fail
  rw [← hwa]
  clear hwa
  have hlx : (0 : Int) < (rx.length : Int) + 1 := by omega
  have hly : (0 : Int) < (ry.length : Int) + 1 := by omega
  refine wp_region_sched (fun w' => ∃ p : Cl wa.heap.size wa, w' = p.u) [(0, true), (1, true), (2, true), (3, true), (4, true), (5, true), (6, true), (7, true), (8, true), (9, true), (11, true), (12, true), (13, true), (14, true), (10, false), (15, false), (16, false), (17, false), (18, true)] rfl (by kernel_rfl) (by kernel_rfl) (by kernel_rfl) ⟨⟨_, (Below.refl _ _).drew⟩, rfl⟩ ?_
  iterate 14 (refine sched_pure rfl (fun K hK => ?_); go_simp; refine hK _ ?_; clear hK K)
  refine sched_loud rfl (fun K hK => ?_)
  go_simp
  refine (C1.out _).mono ?_
  rintro e u1 ⟨rfl, g1⟩
  have g1' : Below wa.heap.size wa u1 := (Below.refl _ _).drew.trans g1
  refine hK _ _ ⟨⟨u1, g1'⟩, rfl⟩ ?_
  clear hK K
  refine sched_loud rfl (fun K hK => ?_)
  go_simp
  refine (T3.out _ _ _).mono ?_
  rintro e u2 ⟨rfl, rfl⟩
  refine hK _ _ ⟨⟨_, g1'⟩, rfl⟩ ?_
  clear hK K
  refine sched_loud rfl (fun K hK => ?_)
  go_simp
  refine hK _ _ ⟨⟨_, g1'.alloc g1'.size _⟩, rfl⟩ ?_
  clear hK K
  refine sched_loud rfl (fun K hK => ?_)
  go_simp
  refine (O2.out _ _ _).mono ?_
  rintro e u3 ⟨rfl, rfl⟩
  refine hK _ _ ⟨⟨_, g1'.alloc g1'.size _⟩, rfl⟩ ?_
  clear hK K
  refine sched_pure rfl (fun K hK => ?_)
  go_simp
  refine hK _ ?_
  clear hK K
  refine sched_nil ?_
  go_wp2_with fail
  go_ret
  exact ⟨ret_int HC.out.symm, hB.trans ((g1'.alloc g1'.size _).mono hB.size)⟩
end Go.Proofs.Ytdpglmgnbhpneaa
namespace Go.Proofs.Ytdpglmgnbhpneaa
open Go.RowKit

/-- A row of heads at the block g. -/
def HRow (w : World) (B g cap : Nat) (L : List Hd) : Prop := w.ownsRow B 72 2 (.slice (some ⟨g, 0, none⟩) L.length cap) L.length (L.flatMap hv2)
theorem HRow.cell {w : World} {B g cap : Nat} {L : List Hd} (h : HRow w B g cap L) {i : Nat} {x : Hd} (hx : L[i]? = some x) :
    w.cell? ⟨g, i * 2, none⟩ = some (.slice x.ao (x.r.length + 1) x.cap) ∧ w.cell? ⟨g, i * 2 + 1, none⟩ = some (.int .i64 x.pl) := by
  obtain ⟨ao, cap', e, _, hT⟩ := owns_recs hv2_len h
  obtain ⟨g', rfl, _, t⟩ := hT i x hx
  injection e with e1 _ _
  injection e1 with e2
  injection e2 with e3
  subst e3
  exact ⟨t 0 _ rfl, t 1 _ rfl⟩
theorem HRow.base {w : World} {B g cap : Nat} {L : List Hd} (h : HRow w B g cap L) : B ≤ g ∧ g < w.heap.size := h.lt g rfl
def set2 (w : World) (g o : Nat) (x : Hd) : World := (w.setCell ⟨g, o, none⟩ (.slice x.ao (x.r.length + 1) x.cap)).setCell ⟨g, o + 1, none⟩ (.int .i64 x.pl)
theorem HRow.put {w : World} {B g cap : Nat} {L : List Hd} (h : HRow w B g cap L) {i : Nat} {a : Hd} (ha : L[i]? = some a) (x : Hd) : HRow (set2 w g (i * 2) x) B g cap (L.set i x) ∧ w.grownBy (set2 w g (i * 2) x) (some g) := by
  have h0 : w.ownsRow B 72 2 (.slice (some ⟨g, 0, none⟩) L.length cap) L.length (L.flatMap hv2) := h
  have h1 := ((h0.stored (i * 2) (.slice x.ao (x.r.length + 1) x.cap)).1.stored (i * 2 + 1) (.int .i64 x.pl)).1
  have e : ((L.flatMap hv2).set (i * 2) (.slice x.ao (x.r.length + 1) x.cap)).set (i * 2 + 1) (.int .i64 x.pl) = (L.set i x).flatMap hv2 := by
    have hi := (List.getElem?_eq_some_iff.1 ha).1
    have e0 := flat_set hv2_len L i 0 a ⟨x.ao, x.cap, x.c, x.r, a.pl⟩ (.slice x.ao (x.r.length + 1) x.cap) ha (by omega) rfl
    rw [Nat.add_zero] at e0
    rw [e0, flat_set hv2_len (L.set i ⟨x.ao, x.cap, x.c, x.r, a.pl⟩) i 1 ⟨x.ao, x.cap, x.c, x.r, a.pl⟩ x (.int .i64 x.pl) (by simp [hi]) (by omega) rfl, List.set_set]
  rw [e] at h1
  refine ⟨?_, grownBy_setCell (grownBy_setCell ⟨rfl, rfl, rfl, Nat.le_refl _, fun _ _ _ => rfl⟩)⟩
  unfold HRow
  rw [List.length_set]
  exact h1
theorem HRow.below {w w' : World} {B g cap : Nat} {L : List Hd} (h : HRow w B g cap L) (hb : Below w.heap.size w w') : HRow w' B g cap L := World.ownsRow.kept (row := none) h ⟨hb.os, hb.tape, hb.output, hb.size, fun k hk _ => hb.block k hk⟩ (.inr (by simp [Value.ownBlock]))
/-- The lists lie in blocks that are Ok. -/
def HIn (w : World) (Ok : Nat → Prop) (L : List Hd) : Prop := ∀ x ∈ L, x.In w ∧ (∀ a, x.ao = some a → Ok a.block) ∧ x.r.length + 1 ≤ x.cap
theorem Hd.In.below {w w' : World} {B : Nat} {x : Hd} (h : x.In w) (hl : ∀ a, x.ao = some a → a.block < B) (hb : Below B w w') : x.In w' := fun i c hc => by
  obtain ⟨b, o, e, t⟩ := h i c hc
  exact ⟨b, o, e, t.below hb (hl _ e)⟩
theorem HIn.below {w w' : World} {B : Nat} {Ok : Nat → Prop} {L : List Hd} (h : HIn w Ok L) (hOk : ∀ k, Ok k → k < B) (hb : Below B w w') : HIn w' Ok L := fun x hx => ⟨(h x hx).1.below (fun a e => hOk _ ((h x hx).2.1 a e)) hb, (h x hx).2⟩
theorem HIn.perm {w : World} {Ok : Nat → Prop} {L M : List Hd} (h : HIn w Ok L) (hp : M.Perm L) : HIn w Ok M := fun x hx => h x (hp.subset hx)
theorem Zoned.below {a z B : Nat} {w w' : World} (h : Zoned a z w w') (hB : B ≤ a) (hw : B ≤ w.heap.size) : Below B w w' := ⟨h.os, h.tape, h.output, h.size, fun k hk => h.block k (by omega) (.inl (by omega))⟩
/-- The least of an entry and those below it, as far as they were looked at. -/
structure Fst (M : List Hd) (p f b : Nat) : Prop where
  bs : b = 2 * p + 1 ∨ b = 2 * p + 2 ∨ b = 2 * p + 3
  fs : f = p ∨ ((f = 2 * p + 1 ∨ f = 2 * p + 2) ∧ f < M.length)
  mn : ∀ c x y, (c = 2 * p + 1 ∨ c = 2 * p + 2) → c < b → M[c]? = some x → M[f]? = some y → hc y x ≤ 0
  up : ∀ x y, M[p]? = some x → M[f]? = some y → hc y x ≤ 0
theorem Fst.start (M : List Hd) (p : Nat) : Fst M p p (2 * p + 1) := ⟨.inl rfl, .inl rfl, fun c x y h1 h2 => by omega, fun x y hx hy => by rw [hx] at hy; cases hy; exact Int.le_of_eq (pc_self _)⟩
theorem Fst.keep {M : List Hd} {p f b : Nat} {x y : Hd} (h : Fst M p f b) (hb : b ≤ 2 * p + 2) (hx : M[b]? = some x) (hy : M[f]? = some y) (hn : ¬ hc x y < 0) : Fst M p f (b + 1) := by
  refine ⟨by have := h.bs; omega, h.fs, fun c u v hc hcb hu hv => ?_, h.up⟩
  by_cases e : c = b
  · subst e; rw [hx] at hu; cases hu; rw [hy] at hv; cases hv
    have := hc_n y x; omega
  · exact h.mn c u v hc (by omega) hu hv
theorem Fst.take {M : List Hd} {p f b : Nat} {x y : Hd} (h : Fst M p f b) (hb : b ≤ 2 * p + 2) (hx : M[b]? = some x) (hy : M[f]? = some y) (hn : hc x y < 0) : Fst M p b (b + 1) := by
  have hbl := (List.getElem?_eq_some_iff.1 hx).1
  have hbs := h.bs
  refine ⟨by omega, .inr ⟨by omega, hbl⟩, fun c u v hc hcb hu hv => ?_, fun u v hu hv => ?_⟩
  · rw [hx] at hv; cases hv
    by_cases e : c = b
    · subst e; rw [hx] at hu; cases hu; exact Int.le_of_eq (pc_self _)
    · exact hc_t (Int.le_of_lt hn) (h.mn c u y hc (by omega) hu hy)
  · rw [hx] at hv; cases hv
    exact hc_t (Int.le_of_lt hn) (h.up u y hu hy)
theorem Fst.all {M : List Hd} {p f b : Nat} {y : Hd} (h : Fst M p f b) (hb : 2 * p + 2 < b ∨ M.length ≤ b) (hy : M[f]? = some y) : ∀ c z, (c = 2 * p + 1 ∨ c = 2 * p + 2) → M[c]? = some z → hc y z ≤ 0 := fun c z hc hz => by
  have := (List.getElem?_eq_some_iff.1 hz).1
  exact h.mn c z y hc (by omega) hz hy
set_option maxRecDepth 100000 in
set_option maxHeartbeats 4000000 in
theorem sink_any (B g cap i : Nat) (Ok : Nat → Prop) (hOk : ∀ k, Ok k → k < B) (L : List Hd) (w : World) (ho : HRow w B g cap L) (hin : HIn w Ok L) (hF : HFrom L (i + 1)) (hL : L.length ≤ 1000000) (hi : i ≤ 1000000) :
    Calls Try.prog 57 #[.slice (some ⟨g, 0, none⟩) L.length cap, .int .i64 i] w fun e w' => e = .returned (.tuple #[]) ∧ ∃ M, M.Perm L ∧ HFrom M i ∧ HRow w' B g cap M ∧ Zoned g (g + 1) w w' := by
  have hLz : (L.length : Int) ≤ 1000000 := by omega
  have hBg := ho.base
  go_enter Try.func57, Try.ntmps57
  go_wp2_with fail
  go_loopw [1] (fun s1 wr => ∃ (p : Nat) (M : List Hd), s1 = .int .i64 p ∧ p ≤ 1000000 ∧ Snk L M i p ∧ HRow wr B g cap M ∧ Zoned g (g + 1) w wr) (fun s1 _ => L.length - (intOf s1).toNat)
  case atStart => exact ⟨i, L, rfl, hi, .start hF, ho, Zoned.refl _ _ _⟩
  case round =>
    obtain ⟨p, M, rfl, hp, hS, hR, hZ⟩ := hrel
    have hML : M.length = L.length := hS.perm.length_eq
    have hpz : (p : Int) ≤ 1000000 := by omega
    generalize wr = wo at *
    go_wp2_with fail
    go_loopw [4, 5] (fun s4 s5 wv => ∃ f b : Nat, s4 = .int .i64 f ∧ s5 = .int .i64 b ∧ Fst M p f b ∧ Below wo.heap.size wo wv) (fun _ s5 _ => 2 * p + 3 - (intOf s5).toNat)
    case atStart => exact ⟨p, 2 * p + 1, by go_num, by go_num, .start M p, Below.refl _ _⟩
    case round =>
      obtain ⟨f, b, rfl, rfl, hf, hv⟩ := hrel
      have hbs := hf.bs
      have hfs := hf.fs
      have hbz : (b : Int) ≤ 2000003 := by omega
      have hR2 : HRow wr B g cap M := hR.below hv
      by_cases hgo : b ≤ 2 * p + 2 ∧ b < M.length
      · have hpb : p < b := by omega
        obtain ⟨x, hx⟩ : ∃ x, M[b]? = some x := ⟨_, List.getElem?_eq_getElem hgo.2⟩
        obtain ⟨y, hy⟩ : ∃ y, M[f]? = some y := ⟨_, List.getElem?_eq_getElem (by omega)⟩
        have hin2 : HIn wr Ok M := ((hin.below hOk (hZ.below hBg.1 (by omega))).perm hS.perm).below hOk (hv.mono (by have := hZ.size; omega))
        have C : Hid (∀ q : Cl wr.heap.size wr, Calls Try.prog 66 #[.agg x.a, .agg y.a] q.u fun e w' => e = .returned (.int .i64 (hc x y)) ∧ Below q.u.heap.size q.u w') := fun q =>
          hcmp_any x y q.u ((hin2.below hOk (q.h.mono (by have := hZ.size; have := hv.size; omega))) x (List.mem_of_getElem? hx)).1 ((hin2.below hOk (q.h.mono (by have := hZ.size; have := hv.size; omega))) y (List.mem_of_getElem? hy)).1
        have hgv : g < wr.heap.size := by have := hZ.size; have := hv.size; omega
        have qx0 : ∀ q : Cl wr.heap.size wr, q.u.cell? ⟨g, b * 2, none⟩ = some (.slice x.ao (x.r.length + 1) x.cap) := fun q => q.cell hgv (hR2.cell hx).1
        have qx1 : ∀ q : Cl wr.heap.size wr, q.u.cell? ⟨g, b * 2 + 1, none⟩ = some (.int .i64 x.pl) := fun q => q.cell hgv (hR2.cell hx).2
        have qy0 : ∀ q : Cl wr.heap.size wr, q.u.cell? ⟨g, f * 2, none⟩ = some (.slice y.ao (y.r.length + 1) y.cap) := fun q => q.cell hgv (hR2.cell hy).1
        have qy1 : ∀ q : Cl wr.heap.size wr, q.u.cell? ⟨g, f * 2 + 1, none⟩ = some (.int .i64 y.pl) := fun q => q.cell hgv (hR2.cell hy).2
        have HK : Hid (¬ hc x y < 0 → Fst M p f (b + 1)) := fun h => hf.keep hgo.1 hx hy h
        have HT : Hid (hc x y < 0 → Fst M p b (b + 1)) := fun h => hf.take hgo.1 hx hy h
        have HE : Hid (∀ u, Below wr.heap.size wr u → Below wo.heap.size wo u) := fun u hu => hv.trans (hu.mono hv.size)
        simp only [Hd.a] at C
        have d1 : (b : Int) ≤ 2 * (p : Int) + 2 := by omega
        have d2 : (b : Int) < (L.length : Int) := by omega
        have d3 : (f : Int) < (L.length : Int) := by omega
        clear hR2 hin2 hx hy hf hin hR ho hS hv
        generalize hc x y = R at *
        haveI := Cl.inh wr.heap.size wr
        go_wp2_with fail
        refine wp_region_cl wr.heap.size (by kernel_rfl) (by kernel_rfl) ?_
        repeat (quiet_step (first | (go_at_call 66; exact Cl.calls (Nat.le_refl _) (C.out _))))
        refine wpQuiet_nil ?_
        rintro w0 ⟨q, rfl⟩
        have hq := HE.out _ q.h
        by_cases hlt : R < 0
        · have hT' : Hid (Fst M p b (b + 1)) := HT.out (by omega)
          clear HK HT
          go_wp2_with fail
          go_roundw
          case rel => exact ⟨b, b + 1, by go_num, by go_num, hT'.out, hq⟩
          case measure => simp [intOf]; omega
        · have hT' : Hid (Fst M p f (b + 1)) := HK.out (by omega)
          clear HK HT
          go_wp2_with fail
          go_roundw
          case rel => exact ⟨f, b + 1, by go_num, by go_num, hT'.out, hq⟩
          case measure => simp [intOf]; omega
      · have hstop : 2 * p + 2 < b ∨ M.length ≤ b := by omega
        have hgv : g < wr.heap.size := by have := hZ.size; have := hv.size; omega
        have hZ2 : Zoned g (g + 1) w wr := hZ.trans (.of_below hv (Nat.le_refl _))
        by_cases hfp : f = p
        · subst hfp
          have HD : Hid (HFrom M i) := hS.done fun c x y hc hx hy => hf.all hstop hy c x hc hx
          have HP := hS.perm
          clear hf hin hR ho hS hv hgo
          rcases Nat.lt_or_ge (2 * f + 2) b with hb1 | hb1
          · have d1 : ¬ (b : Int) ≤ 2 * (f : Int) + 2 := by omega
            go_wp2_with fail
            refine bodyPost_ret (results_none rfl _ _ _) rfl ?_
            exact ⟨rfl, M, HP, HD.out, hR2, hZ2⟩
          · have d1 : (b : Int) ≤ 2 * (f : Int) + 2 := by omega
            have d2 : ¬ (b : Int) < (L.length : Int) := by omega
            go_wp2_with fail
            refine bodyPost_ret (results_none rfl _ _ _) rfl ?_
            exact ⟨rfl, M, HP, HD.out, hR2, hZ2⟩
        · have hfl : f < M.length := by omega
          have hpf : p < f := by omega
          obtain ⟨x, hx⟩ : ∃ x, M[p]? = some x := ⟨_, List.getElem?_eq_getElem (by omega)⟩
          obtain ⟨y, hy⟩ : ∃ y, M[f]? = some y := ⟨_, List.getElem?_eq_getElem hfl⟩
          have HS : Hid (Snk L ((M.set p y).set f x) i f) := hS.step (by omega) hx hy (hf.up x y hx hy) (hf.all hstop hy)
          have x0 := (hR2.cell hx).1
          have x1 := (hR2.cell hx).2
          have y0 := (hR2.cell hy).1
          have y1 := (hR2.cell hy).2
          have h0 : wr.ownsRow B 72 2 (.slice (some ⟨g, 0, none⟩) M.length cap) M.length (M.flatMap hv2) := hR2
          have fa0 : wr.frozen? ⟨g, p * 2, none⟩ = false := h0.frozenAt _
          have fa1 : wr.frozen? ⟨g, p * 2 + 1, none⟩ = false := h0.frozenAt _
          have fb0 : wr.frozen? ⟨g, f * 2, none⟩ = false := h0.frozenAt _
          have fb1 : wr.frozen? ⟨g, f * 2 + 1, none⟩ = false := h0.frozenAt _
          have P1 : Hid (HRow (set2 (set2 wr g (p * 2) y) g (f * 2) x) B g cap ((M.set p y).set f x) ∧ Zoned g (g + 1) w (set2 (set2 wr g (p * 2) y) g (f * 2) x)) := by
            have p1 := hR2.put hx y
            have p2 := p1.1.put (i := f) (a := y) (by rw [List.getElem?_set_ne (by omega)]; exact hy) x
            exact ⟨p2.1, (hZ2.trans (.of_grown p1.2 (fun k e => by cases e; exact ⟨Nat.le_refl _, Nat.lt_succ_self _⟩))).trans (.of_grown p2.2 (fun k e => by cases e; exact ⟨Nat.le_refl _, Nat.lt_succ_self _⟩))⟩
          have d3 : (p : Int) < (L.length : Int) := by omega
          have d4 : (f : Int) < (L.length : Int) := by omega
          have d5 : ¬ (f : Int) = (p : Int) := by omega
          have hne : p ≠ f := by omega
          have hfL : f < L.length := by omega
          obtain ⟨xo, xcap, xc, xr, xp⟩ := x
          obtain ⟨yo, ycap, yc, yr, yp⟩ := y
          simp only at x0 x1 y0 y1
          simp only [set2] at P1
          clear hf hin hR hR2 ho hS hv hgo h0 hx hy hZ hZ2
          rcases Nat.lt_or_ge (2 * p + 2) b with hb1 | hb1
          · have d1 : ¬ (b : Int) ≤ 2 * (p : Int) + 2 := by omega
            go_wp2_with fail
            go_region
            go_wp2_with fail
            go_roundw
            case rel => exact ⟨f, _, by go_num, by omega, HS.out, P1.out.1, P1.out.2.drew⟩
            case measure => simp [intOf]; omega
          · have d1 : (b : Int) ≤ 2 * (p : Int) + 2 := by omega
            have d2 : ¬ (b : Int) < (L.length : Int) := by omega
            go_wp2_with fail
            go_region
            go_wp2_with fail
            go_roundw
            case rel => exact ⟨f, _, by go_num, by omega, HS.out, P1.out.1, P1.out.2.drew⟩
            case measure => simp [intOf]; omega
end Go.Proofs.Ytdpglmgnbhpneaa
namespace Go.Proofs.Ytdpglmgnbhpneaa
open Go.RowKit

theorem hfrom_set {a b : Hd} {T : List Hd} (h : HFrom (a :: T) 0) : HFrom (b :: T) 1 := fun j hj c x y hc hx hy => by
  obtain ⟨j, rfl⟩ : ∃ k, j = k + 1 := ⟨j - 1, by omega⟩
  obtain ⟨c, rfl⟩ : ∃ k, c = k + 1 := ⟨c - 1, by omega⟩
  exact h (j + 1) (Nat.zero_le _) (c + 1) x y hc (by simpa using hx) (by simpa using hy)
theorem hfrom_pop {a z : Hd} {T : List Hd} (h : HFrom (a :: (T ++ [z])) 0) : HFrom (z :: T) 1 := fun j hj c x y hc hx hy => by
  obtain ⟨j, rfl⟩ : ∃ k, j = k + 1 := ⟨j - 1, by omega⟩
  obtain ⟨c, rfl⟩ : ∃ k, c = k + 1 := ⟨c - 1, by omega⟩
  have hx' : T[c]? = some x := by simpa using hx
  have hy' : T[j]? = some y := by simpa using hy
  have h1 := (List.getElem?_eq_some_iff.1 hx').1
  have h2 := (List.getElem?_eq_some_iff.1 hy').1
  exact h (j + 1) (Nat.zero_le _) (c + 1) x y hc (by simp [List.getElem?_append_left h1, hx']) (by simp [List.getElem?_append_left h2, hy'])
theorem Hd.In.tail {w : World} {b o cap k : Nat} {c d : Cx} {r : List Cx} {p p' : Nat} (h : Hd.In w ⟨some ⟨b, o, none⟩, cap, c, d :: r, p⟩) : Hd.In w ⟨some ⟨b, o + 10, none⟩, k, d, r, p'⟩ := fun i x hx => by
  obtain ⟨b', o', e, t⟩ := h (i + 1) x (by simpa using hx)
  injection e with e
  injection e with e1 e2
  subst e1 e2
  refine ⟨b, o + 10, rfl, ?_⟩
  have : o + 10 + i * 10 = o + (i + 1) * 10 := by omega
  rw [this]; exact t
theorem HRow.room {w : World} {B g cap : Nat} {L : List Hd} (h : HRow w B g cap L) : L.length ≤ cap := by
  rcases h.2 with ⟨h', _⟩ | ⟨g', cap', cur, h', _, _, hn, _⟩
  · cases h'
  · simp only [Value.slice.injEq] at h'
    rw [h'.2.2]; exact hn
set_option maxRecDepth 100000 in
set_option maxHeartbeats 4000000 in
theorem next_any (B g cap : Nat) (Ok : Nat → Prop) (hOk : ∀ k, Ok k → k < B) (a : Hd) (T : List Hd) (w : World) (ho : HRow w B g cap (a :: T)) (hin : HIn w Ok (a :: T)) (hF : HFrom (a :: T) 0) (hr : ∀ x ∈ a :: T, Rising (x.c :: x.r)) (hL : T.length + 1 ≤ 1000000) :
    Calls Try.prog 45 #[.slice (some ⟨g, 0, none⟩) (T.length + 1) cap] w fun e w' => ∃ M : List Hd, e = .returned (.slice (some ⟨g, 0, none⟩) M.length cap) ∧ M.length ≤ T.length + 1 ∧ HRow w' B g cap M ∧ HFrom M 0 ∧ HIn w' Ok M ∧ (∀ x ∈ M, Rising (x.c :: x.r)) ∧ (prs M).Perm (a.r.map (fun x => (x, a.pl)) ++ prs T) ∧ Zoned g (g + 1) w w' := by
  obtain ⟨hia, hla, hca⟩ := hin a (by simp)
  obtain ⟨b, o, hao, -⟩ := hia.ten
  obtain ⟨c0, c1⟩ := ho.cell (i := 0) rfl
  have h0 : w.ownsRow B 72 2 (.slice (some ⟨g, 0, none⟩) (a :: T).length cap) (a :: T).length ((a :: T).flatMap hv2) := ho
  have f0 : w.frozen? ⟨g, 0, none⟩ = false := h0.frozenAt _
  have f1 : w.frozen? ⟨g, 1, none⟩ = false := h0.frozenAt _
  have hBg := ho.base
  obtain ⟨ao, acap, c, r, pl⟩ := a
  simp only at hao hca c0 c1
  subst hao
  simp only [Nat.zero_mul, Nat.zero_add] at c0 c1
  have hTz : (T.length : Int) + 1 ≤ 1000000 := by omega
  cases r with
  | cons d r =>
    have hcap : 1 ≤ acap := by simp at hca; omega
    have hR1 : HRow (w.setCell ⟨g, 0, none⟩ (.slice (some ⟨b, o + 10, none⟩) (r.length + 1) (acap - 1))) B g cap (⟨some ⟨b, o + 10, none⟩, acap - 1, d, r, pl⟩ :: T) := (h0.stored 0 _).1
    have hz1 : Zoned g (g + 1) w (w.setCell ⟨g, 0, none⟩ (.slice (some ⟨b, o + 10, none⟩) (r.length + 1) (acap - 1))) := .of_grown (h0.stored 0 _).2 (fun k e => by cases e; exact ⟨Nat.le_refl _, Nat.lt_succ_self _⟩)
    have hin1 : HIn (w.setCell ⟨g, 0, none⟩ (.slice (some ⟨b, o + 10, none⟩) (r.length + 1) (acap - 1))) Ok (⟨some ⟨b, o + 10, none⟩, acap - 1, d, r, pl⟩ :: T) := HIn.below (fun x hx => by
      rcases List.mem_cons.1 hx with rfl | hx
      · refine ⟨hia.tail, fun a e => ?_, by simp at hca ⊢; omega⟩
        cases e; exact (hla ⟨b, o, none⟩ rfl : Ok b)
      · exact hin x (by simp [hx])) hOk (hz1.below hBg.1 (by omega))
    have S : Hid (Calls Try.prog 57 #[.slice (some ⟨g, 0, none⟩) (T.length + 1) cap, .int .i64 0] (w.setCell ⟨g, 0, none⟩ (.slice (some ⟨b, o + 10, none⟩) (r.length + 1) (acap - 1))) fun e w' => e = .returned (.tuple #[]) ∧ ∃ M : List Hd, M.length = T.length + 1 ∧ HRow w' B g cap M ∧ HFrom M 0 ∧ HIn w' Ok M ∧ (∀ x ∈ M, Rising (x.c :: x.r)) ∧ (prs M).Perm ((d :: r).map (fun x => (x, pl)) ++ prs T) ∧ Zoned g (g + 1) w w') :=
      (sink_any B g cap 0 Ok hOk _ _ hR1 hin1 (hfrom_set hF) (by simpa using hL) (by omega)).mono fun e w' ⟨he, M, hp, hf, hm, hz⟩ =>
        ⟨he, M, by simpa using hp.length_eq, hm, hf, ((hin1.perm hp).below hOk (hz.below hBg.1 (by simp; omega))), fun x hx => by
          rcases List.mem_cons.1 (hp.subset hx) with rfl | hx
          · exact (List.pairwise_cons.1 (hr ⟨some ⟨b, o, none⟩, acap, c, d :: r, pl⟩ (by simp))).2
          · exact hr x (by simp [hx]), (List.Perm.flatMap_right _ hp), hz1.trans hz⟩
    clear hR1 hin1 hz1 h0 ho hin hF hr hia hla
    simp only [List.length_cons] at c0 hca
    have hcz : (r.length : Int) + 1 + 1 ≤ (acap : Int) := by omega
    have hcn : r.length + 1 + 1 ≤ acap := hca
    clear hca c1 f1 hL hcap hBg hcn hTz
    go_enter Try.func45, Try.ntmps45
    go_wp2_with fail
    refine S.out.mono ?_
    rintro e w1 ⟨rfl, M, hM, HM⟩
    clear S c0 f0
    go_wp2_with fail
    go_ret
    exact ⟨M, by rw [hM]; rfl, by omega, HM⟩
  | nil =>
    rcases List.eq_nil_or_concat T with rfl | ⟨T', z, rfl⟩
    · have S : Hid (∀ (av : Option Addr) (cv : Nat), Calls Try.prog 57 #[.slice (some ⟨g, 0, none⟩) 0 cap, .int .i64 0] (((w.setCell ⟨g, 0, none⟩ (.slice av 0 cv)).setCell ⟨g, 0, none⟩ (.slice av 0 cv)).setCell ⟨g, 1, none⟩ (.int .i64 pl)) fun e w' => e = .returned (.tuple #[]) ∧ HRow w' B g cap [] ∧ Zoned g (g + 1) w w') := fun av cv => by
        have hR1 : HRow (((w.setCell ⟨g, 0, none⟩ (.slice av 0 cv)).setCell ⟨g, 0, none⟩ (.slice av 0 cv)).setCell ⟨g, 1, none⟩ (.int .i64 pl)) B g cap [] :=
          ownsRow_pop (n := 0) (xs := []) (last := [.slice av 0 cv, .int .i64 pl]) rfl ((((h0.stored 0 _).1.stored 0 _).1.stored 1 _).1)
        have hz1 : Zoned g (g + 1) w (((w.setCell ⟨g, 0, none⟩ (.slice av 0 cv)).setCell ⟨g, 0, none⟩ (.slice av 0 cv)).setCell ⟨g, 1, none⟩ (.int .i64 pl)) :=
          .of_grown (grownBy_setCell (grownBy_setCell (h0.stored 0 _).2)) (fun k e => by cases e; exact ⟨Nat.le_refl _, Nat.lt_succ_self _⟩)
        exact (sink_any B g cap 0 Ok hOk [] _ hR1 (fun x hx => by cases hx) (HFrom.beyond (by simp)) (by simp) (by omega)).mono fun e w' ⟨he, M, hp, hf, hm, hz⟩ => by
          have : M = [] := List.Perm.eq_nil hp
          subst this
          exact ⟨he, hm, hz1.trans hz⟩
      simp only [List.length_nil] at c0
      have hcz : (1 : Int) ≤ (acap : Int) := by simp at hca; omega
      clear h0 ho hin hF hr hia hla hBg hca hL hTz
      go_enter Try.func45, Try.ntmps45
      go_wp2_with fail
      all_goals (refine (S.out _ _).mono ?_; rintro e w1 ⟨rfl, hM, hz⟩; clear S c0 c1 f0 f1; go_wp2_with fail; go_ret; exact ⟨[], rfl, by simp, hM, HFrom.beyond (by simp), (fun x hx => by cases hx), (fun x hx => by cases hx), .refl _, hz⟩)
    · rw [List.concat_eq_append] at *
      obtain ⟨z0, z1⟩ := ho.cell (i := T'.length + 1) (x := z) (by simp)
      have hfl : (((⟨some ⟨b, o, none⟩, acap, c, [], pl⟩ : Hd) :: (T' ++ [z])).flatMap hv2) = ([.slice (some ⟨b, o, none⟩) 1 acap, .int .i64 pl] : List Value) ++ (T'.flatMap hv2 ++ hv2 z) := by simp [hv2]
      have S : Hid (∀ (av : Option Addr) (cv : Nat), Calls Try.prog 57 #[.slice (some ⟨g, 0, none⟩) (T'.length + 1) cap, .int .i64 0] (((w.setCell ⟨g, 0, none⟩ (.slice av 0 cv)).setCell ⟨g, 0, none⟩ (.slice z.ao (z.r.length + 1) z.cap)).setCell ⟨g, 1, none⟩ (.int .i64 z.pl)) fun e w' => e = .returned (.tuple #[]) ∧ ∃ M : List Hd, M.length = T'.length + 1 ∧ HRow w' B g cap M ∧ HFrom M 0 ∧ HIn w' Ok M ∧ (∀ x ∈ M, Rising (x.c :: x.r)) ∧ (prs M).Perm (([] : List Cx).map (fun x => (x, pl)) ++ prs (T' ++ [z])) ∧ Zoned g (g + 1) w w') := fun av cv => by
        have hR1 : HRow (((w.setCell ⟨g, 0, none⟩ (.slice av 0 cv)).setCell ⟨g, 0, none⟩ (.slice z.ao (z.r.length + 1) z.cap)).setCell ⟨g, 1, none⟩ (.int .i64 z.pl)) B g cap (z :: T') := by
          have h1 := (((h0.stored 0 (.slice av 0 cv)).1.stored 0 (.slice z.ao (z.r.length + 1) z.cap)).1.stored 1 (.int .i64 z.pl)).1
          rw [hfl] at h1
          refine ownsRow_pop (n := T'.length + 1) (xs := (z :: T').flatMap hv2) (last := hv2 z) (by rw [flat_lenR hv2_len]; rfl) ?_
          have e1 : ((⟨some ⟨b, o, none⟩, acap, c, [], pl⟩ : Hd) :: (T' ++ [z])).length = T'.length + 1 + 1 := by simp
          rw [e1] at h1
          have e2 : (z :: T').flatMap hv2 ++ hv2 z = ((((([.slice (some ⟨b, o, none⟩) 1 acap, .int .i64 pl] : List Value) ++ (T'.flatMap hv2 ++ hv2 z)).set 0 (.slice av 0 cv)).set 0 (.slice z.ao (z.r.length + 1) z.cap)).set 1 (.int .i64 z.pl)) := by simp [hv2]
          rw [e2]; exact h1
        have hz1 : Zoned g (g + 1) w (((w.setCell ⟨g, 0, none⟩ (.slice av 0 cv)).setCell ⟨g, 0, none⟩ (.slice z.ao (z.r.length + 1) z.cap)).setCell ⟨g, 1, none⟩ (.int .i64 z.pl)) :=
          .of_grown (grownBy_setCell (grownBy_setCell (h0.stored 0 _).2)) (fun k e => by cases e; exact ⟨Nat.le_refl _, Nat.lt_succ_self _⟩)
        have hsub : ∀ x ∈ z :: T', x ∈ (⟨some ⟨b, o, none⟩, acap, c, [], pl⟩ : Hd) :: (T' ++ [z]) := fun x hx => by
          rcases List.mem_cons.1 hx with rfl | hx
          · simp
          · simp [hx]
        have hin1 : HIn (((w.setCell ⟨g, 0, none⟩ (.slice av 0 cv)).setCell ⟨g, 0, none⟩ (.slice z.ao (z.r.length + 1) z.cap)).setCell ⟨g, 1, none⟩ (.int .i64 z.pl)) Ok (z :: T') := HIn.below (fun x hx => hin x (hsub x hx)) hOk (hz1.below hBg.1 (by omega))
        exact (sink_any B g cap 0 Ok hOk (z :: T') _ hR1 hin1 (hfrom_pop hF) (by simp at hL ⊢; omega) (by omega)).mono fun e w' ⟨he, M, hp, hf, hm, hz⟩ =>
          ⟨he, M, by simpa using hp.length_eq, hm, hf, ((hin1.perm hp).below hOk (hz.below hBg.1 (by simp; omega))), fun x hx => hr x (hsub x (hp.subset hx)), (List.Perm.flatMap_right _ hp).trans (by unfold prs; rw [List.flatMap_append]; simpa using List.perm_append_comm), hz1.trans hz⟩
      have hTl : (T' ++ [z]).length = T'.length + 1 := by simp
      rw [hTl] at hTz ⊢
      simp only [List.length_nil] at c0
      have hcz : (1 : Int) ≤ (acap : Int) := by simp at hca; omega
      have hz2 : (T'.length + 1) * 2 = T'.length * 2 + 2 := by omega
      obtain ⟨zo, zcap, zc, zr, zp⟩ := z
      simp only at S z0 z1
      have hTz2 : (T'.length : Int) ≤ 999999 := by omega
      have hck : (T'.length : Int) + 1 ≤ (cap : Int) := by have := ho.room; simp at this; omega
      clear h0 ho hin hF hr hia hla hBg hca hL hTz hfl hTl hz2
      go_enter Try.func45, Try.ntmps45
      go_wp2_with fail
      all_goals (refine (S.out _ _).mono ?_; rintro e w1 ⟨rfl, M, hM, HM⟩; clear S c0 c1 f0 f1 z0 z1; go_wp2_with fail; go_ret; exact ⟨M, by rw [hM]; rfl, by omega, HM⟩)
end Go.Proofs.Ytdpglmgnbhpneaa
namespace Go.Proofs.Ytdpglmgnbhpneaa
open Go.RowKit

/-- A list of cells in memory. -/
structure Lv where
  ao : Option Addr
  cap : Nat
  l : List Cx
def Lv.s (v : Lv) : Value := .slice v.ao v.l.length v.cap
def Lv.At (w : World) (Ok : Nat → Prop) (v : Lv) : Prop := XSees w v.ao v.l ∧ (∀ a, v.ao = some a → Ok a.block) ∧ v.l.length ≤ v.cap
theorem Lv.At.below {w w' : World} {B : Nat} {Ok : Nat → Prop} {v : Lv} (h : v.At w Ok) (hOk : ∀ k, Ok k → k < B) (hb : Below B w w') : v.At w' Ok :=
  ⟨fun i c hc => by obtain ⟨b, o, e, t⟩ := h.1 i c hc; exact ⟨b, o, e, t.below hb (hOk _ (h.2.1 _ e))⟩, h.2⟩
/-- Many of them. -/
def LSees (w : World) (lo : Option Addr) (vs : List Lv) : Prop := ∀ i v, vs[i]? = some v → ∃ b off, lo = some ⟨b, off, none⟩ ∧ w.cell? ⟨b, off + i, none⟩ = some v.s
theorem LSees.below {w w' : World} {lo : Option Addr} {vs : List Lv} (h : LSees w lo vs) {B : Nat} (hb : Below B w w') (hB : w.heap.size ≤ B) : LSees w' lo vs := fun i v hv => by
  obtain ⟨b, off, e, hc⟩ := h i v hv
  have := World.block_lt_of_cell? _ _ hc
  exact ⟨b, off, e, (hb.cell (p := ⟨b, off + i, none⟩) (Nat.lt_of_lt_of_le this hB)).trans hc⟩
theorem infoHd : (Try.prog.info? 72).map (fun i => (i.zero, i.size, i.bytes)) = some (some (.agg #[.slice none 0 0, .int .i64 0]), 2, 32) := by kernel_rfl
theorem hv2_one (h : Hd) : ∀ u ∈ hv2 h, u.oneCell' = true := by
  intro u hu
  simp only [hv2, List.mem_cons, List.not_mem_nil, or_false] at hu
  rcases hu with rfl | rfl <;> rfl
theorem src_head (w : World) (h : Hd) : Src Try.prog 2 69 (.slice (some ⟨w.heap.size, 0, none⟩) 1 1) 1 (([h] : List Hd).flatMap hv2) (w.alloc (.cells h.a 72)) := by
  refine Src.ofSlice _ Try.underlying69 _ 1 1 _ rfl (fun j u hj => ?_) (flat_one hv2_one _)
  have hg : (w.alloc (.cells h.a 72)).heap[w.heap.size]? = some (.cells h.a 72) := heap_alloc_new w _
  rw [Addr.add_lit, Nat.zero_add]
  simp only [World.cell?, hg]
  have : ([h] : List Hd).flatMap hv2 = hv2 h := by simp
  rw [this] at hj
  rcases j with _ | _ | j
  · exact hj
  · exact hj
  · simp [hv2] at hj
def HsAt (w : World) (B : Nat) (v : Value) (M : List Hd) : Prop := w.ownsRow B 72 2 v M.length (M.flatMap hv2)
theorem HsAt.form {w : World} {B : Nat} {v : Value} {M : List Hd} (h : HsAt w B v M) (hn : 0 < M.length) : ∃ g cap, v = .slice (some ⟨g, 0, none⟩) M.length cap := by
  rcases h.2 with ⟨_, h'⟩ | ⟨g, cap, cur, h', _⟩
  · omega
  · exact ⟨g, cap, h'⟩
theorem prs_snoc (L : List Hd) (h : Hd) : prs (L ++ [h]) = prs L ++ h.all := by unfold prs; simp
set_option maxRecDepth 100000 in
set_option maxHeartbeats 4000000 in
theorem newHeads_any (Ok : Nat → Prop) (lo : Option Addr) (vs : List Lv) (lcap : Nat) (w : World) (hOk : ∀ k, Ok k → k < w.heap.size) (hs : LSees w lo vs) (hin : ∀ v ∈ vs, v.At w Ok) (hr : ∀ v ∈ vs, Rising v.l) (hl : vs.length ≤ 1000) :
    Calls Try.prog 44 #[.slice lo vs.length lcap] w fun e w' => ∃ (v : Value) (M : List Hd), e = .returned v ∧ HsAt w' w.heap.size v M ∧ (prs M).Perm (prL (vs.map Lv.l)) ∧ HFrom M 0 ∧ HIn w' Ok M ∧ (∀ x ∈ M, Rising (x.c :: x.r)) ∧ M.length ≤ vs.length ∧ Below w.heap.size w w' := by
  obtain ⟨i1, hi1, hy0, hy1, hy2⟩ := infoX infoHd
  have hlz : (vs.length : Int) ≤ 1000 := by omega
  go_enter Try.func44, Try.ntmps44
  go_wp2_with fail
  go_loopw [3, 9] (fun s3 s9 wr => ∃ (k : Nat) (L : List Hd), k ≤ vs.length ∧ s9 = .int .i64 k ∧ HsAt wr w.heap.size s3 L ∧ prs L = prL ((vs.take k).map Lv.l) ∧ HIn wr Ok L ∧ (∀ x ∈ L, Rising (x.c :: x.r)) ∧ L.length ≤ k ∧ Below w.heap.size w wr) (fun _ s9 _ => vs.length - (intOf s9).toNat)
  case atStart => exact ⟨0, [], by omega, by go_num, World.ownsRow_nil _ _ _ _, by simp [prs, prL], (fun x hx => by cases hx), (fun x hx => by cases hx), by simp, Below.refl _ _⟩
  case round =>
    obtain ⟨k, L, hk, rfl, hown, hprs, hHI, hrs, hLk, hB⟩ := hrel
    obtain ⟨ao, cap, hv, -, -⟩ := owns_recs hv2_len hown
    obtain ⟨nL, hnL⟩ : ∃ nL, nL = L.length := ⟨_, rfl⟩
    subst hv
    rcases Nat.lt_or_ge k vs.length with hlt | hge
    · obtain ⟨x, hx⟩ : ∃ x, vs[k]? = some x := ⟨_, List.getElem?_eq_getElem hlt⟩
      obtain ⟨b, off, rfl, hc⟩ := (hs.below hB (Nat.le_refl _)) k x hx
      have hxm := List.mem_of_getElem? hx
      have hkz : (k : Int) < (vs.length : Int) := by omega
      have htk : (vs.take (k + 1)).map Lv.l = (vs.take k).map Lv.l ++ [x.l] := by rw [takeX_succ hx]; simp
      have hlen : ((vs.take k).map Lv.l).length = k := by simp; omega
      obtain ⟨hx1, hx2, hx3⟩ := (hin x hxm).below hOk hB
      have hxr := hr x hxm
      obtain ⟨xo, xcap, xl⟩ := x
      simp only [Lv.s] at hc
      simp only at htk hx1 hx2 hx3 hxr
      cases xl with
      | nil =>
        have HP : Hid (prs L = prL ((vs.take (k + 1)).map Lv.l)) := by show _ = _; rw [htk, prL_snoc, hprs]; simp
        simp only [List.length_nil] at hc
        clear hs hin hr hx hxm hx1 hx2 hx3 hxr htk hlen 
        go_wp2_with fail
        go_roundw
        case rel => exact ⟨k + 1, L, by omega, by go_num, hown, HP.out, hHI, hrs, by omega, hB⟩
        case measure => simp [intOf]; omega
      | cons c r =>
        have HP : Hid (prs (L ++ [⟨xo, xcap, c, r, k⟩]) = prL ((vs.take (k + 1)).map Lv.l)) := by show _ = _; rw [htk, prL_snoc, prs_snoc, hprs, hlen]; rfl
        have HI2 : Hid (HIn wr Ok (L ++ [⟨xo, xcap, c, r, k⟩])) := fun y hy => by
          rcases List.mem_append.1 hy with hy | hy
          · exact hHI y hy
          · obtain rfl : y = _ := by simpa using hy
            exact ⟨hx1, hx2, hx3⟩
        have HR2 : Hid (∀ x ∈ L ++ [⟨xo, xcap, c, r, k⟩], Rising (x.c :: x.r)) := fun y hy => by
          rcases List.mem_append.1 hy with hy | hy
          · exact hrs y hy
          · obtain rfl : y = _ := by simpa using hy
            exact hxr
        have hw2 : w.heap.size ≤ wr.heap.size := hB.size
        simp only [List.length_cons] at hc
        clear hs hin hr hx hxm hx1 hx2 hx3 hxr htk hlen hHI hrs
        go_wp2_with (at_builtin; go_must (refine wpList_append_grew _ rfl _ _ 69 69 rfl w.heap.size 72 i1 _ 2 32 Try.underlying69 hi1 hy0 hy1 hy2 rfl _ L.length _ rfl (World.ownsRow.alloc hown _) _ 1 (([⟨xo, xcap, c, r, k⟩] : List Hd).flatMap hv2) rfl (src_head wr ⟨xo, xcap, c, r, k⟩) (by unfold maxLen; omega) (by omega) (by rw [World.size_alloc]; omega) ?_; intro v5 w5 ho5 hg5))
        have hb5 : Below w.heap.size w w5 := by
          have h1 : Below w.heap.size w (wr.alloc (.cells (Hd.a ⟨xo, xcap, c, r, k⟩) 72)) := hB.alloc hw2 _
          exact h1.trans (hg5.below h1.size (fun g hg => ((World.ownsRow.alloc hown (.cells (Hd.a ⟨xo, xcap, c, r, k⟩) 72)).lt g hg).1))
        have hbr : Below w.heap.size wr w5 := by
          have h1 : Below w.heap.size wr (wr.alloc (.cells (Hd.a ⟨xo, xcap, c, r, k⟩) 72)) := (Below.refl _ _).alloc hw2 _
          exact h1.trans (hg5.below (by rw [World.size_alloc]; omega) (fun g hg => ((World.ownsRow.alloc hown (.cells (Hd.a ⟨xo, xcap, c, r, k⟩) 72)).lt g hg).1))
        have HO5 : Hid (HsAt w5 w.heap.size v5 (L ++ [⟨xo, xcap, c, r, k⟩])) := by
          show HsAt _ _ _ _
          unfold HsAt
          rw [List.flatMap_append, List.length_append]
          exact ho5
        clear ho5 hg5 hown
        go_wp2_with fail
        go_roundw
        case rel => exact ⟨k + 1, _, by omega, by go_num, HO5.out, HP.out, HI2.out.below hOk hbr, HR2.out, by simp; omega, hb5⟩
        case measure => simp [intOf]; omega
    · obtain rfl : k = vs.length := by omega
      rw [List.take_of_length_le (Nat.le_refl _)] at hprs
      have hge' : ¬ (vs.length : Int) < (vs.length : Int) := by omega
      have hnz : (L.length : Int) ≤ 1000 := by omega
      generalize wr = wo at *
      clear hs hin  hk hge
      go_wp2_with fail
      go_loopw [6] (fun s6 wr => ∃ (i : Int) (M : List Hd), s6 = .int .i64 i ∧ -1 ≤ i ∧ i ≤ 1000 ∧ (0 ≤ i → 0 < L.length) ∧ HFrom M (i + 1).toNat ∧ M.Perm L ∧ HsAt wr w.heap.size (.slice ao L.length cap) M ∧ HIn wr Ok M ∧ Below w.heap.size w wr) (fun s6 _ => (intOf s6 + 1).toNat)
      case atStart => exact ⟨_, L, rfl, by omega, by omega, by omega, HFrom.beyond (by omega), .refl _, hown, hHI, hB⟩
      case round =>
        obtain ⟨i, M, rfl, hi1', hi2, hi0, hF, hp, hM, hMI, hBr⟩ := hrel
        have hML := hp.length_eq
        by_cases hneg : 0 ≤ i
        · obtain ⟨j, rfl⟩ : ∃ j : Nat, i = (j : Int) := ⟨i.toNat, by omega⟩
          obtain ⟨g, cap', e⟩ := hM.form (by have := hi0 hneg; omega)
          have hao : ao = some ⟨g, 0, none⟩ := by injection e
          have hcc : cap = cap' := by injection e
          subst hao hcc
          have hR : HRow wr w.heap.size g cap M := by unfold HRow; unfold HsAt at hM; rw [hML] at hM ⊢; exact hM
          have S : Hid (Calls Try.prog 57 #[.slice (some ⟨g, 0, none⟩) L.length cap, .int .i64 j] wr fun e w' => e = .returned (.tuple #[]) ∧ ∃ N : List Hd, HFrom N j ∧ N.Perm L ∧ HsAt w' w.heap.size (.slice (some ⟨g, 0, none⟩) L.length cap) N ∧ HIn w' Ok N ∧ Below w.heap.size w w') := by
            have h1 := sink_any w.heap.size g cap j Ok hOk M wr hR hMI (by rw [show ((j : Int) + 1).toNat = j + 1 by omega] at hF; exact hF) (by omega) (by omega)
            rw [hML] at h1
            refine h1.mono fun e w' ⟨he, N, hn, hf, hrow, hz⟩ => ⟨he, N, hf, hn.trans hp, ?_, ((hMI.perm hn).below hOk (hz.below hR.base.1 hBr.size)), hBr.trans (hz.below hR.base.1 hBr.size)⟩
            unfold HRow at hrow
            unfold HsAt
            rw [hn.length_eq, hML] at hrow ⊢
            exact hrow
          clear hM hMI hF hR hown hHI e hML
          have hjz : (0 : Int) ≤ (j : Int) := by omega
          go_wp2_with fail
          refine S.out.mono ?_
          rintro e w1 ⟨rfl, N, n1, n2, n3, n4, n5⟩
          clear S
          go_wp2_with fail
          go_roundw
          case rel =>
            have e0 : ((j : Int) - 1 + 1).toNat = j := by omega
            exact ⟨(j : Int) - 1, N, by go_num, by omega, by omega, (fun _ => by have := hi0 hneg; omega), (by rw [e0]; exact n1), n2, n3, n4, n5⟩
          case measure => simp [intOf]
        · have : (i + 1).toNat = 0 := by omega
          rw [this] at hF
          have hng : ¬ 0 ≤ i := hneg
          have HE : Hid (HsAt wr w.heap.size (.slice ao L.length cap) M ∧ (prs M).Perm (prL (vs.map Lv.l)) ∧ HFrom M 0 ∧ HIn wr Ok M ∧ (∀ x ∈ M, Rising (x.c :: x.r)) ∧ M.length ≤ vs.length ∧ Below w.heap.size w wr) :=
            ⟨hM, by rw [← hprs]; exact List.Perm.flatMap_right _ hp, hF, hMI, fun x hx => hrs x (hp.subset hx), by omega, hBr⟩
          clear hM hMI hF hown hHI hrs hprs hML
          go_wp2_with fail
          go_ret
          exact ⟨_, rfl, M, HE.out⟩
end Go.Proofs.Ytdpglmgnbhpneaa

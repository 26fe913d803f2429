/-
  SEVERAL TEXTS IN ONE: MrgIt, MrgAll, RegClIn, MrgMid, MrgFar.
-/
import Derived.Test.YtkdeaogmifhnhaaMrgLow
import Derived.Test.YtkdeaogmifhnhaaBlk
import Derived.Test.YtkdeaogmifhnhaaCxNorm
import Derived.Test.YtkdeaogmifhnhaaCxSorted
import Derived.Test.YtkdeaogmifhnhaaNormGood
import Derived.Test.YtkdeaogmifhnhaaCxRefMore
import Derived.Test.YtkdeaogmifhnhaaRegCl
import Derived.Sort.QuietTacIn
import Derived.OwnWalkIn
import Derived.RangeFuncCalls
import Derived.Test.YtkdeaogmifhnhaaCxFound
import Derived.Test.YtkdeaogmifhnhaaVerRef
namespace Go.Proofs.Ytkdeaogmifhnhaa
open Go.RowKit Go.Shelf

attribute [local go_sem] Oper.semAt_some

def lenOf : Option Value → Nat
  | some (.slice _ n _) => n
  | _ => 0
/-- How many cells are still to come. -/
def mass (s : Value) (w : World) : Nat := match s with
  | .slice (some a) n _ => ((List.range n).map fun i => lenOf (w.cell? ⟨a.block, i * 2, none⟩)).sum
  | _ => 0
theorem prs_len (M : List Hd) : (prs M).length = (M.map fun h => h.r.length + 1).sum := by
  unfold prs
  rw [List.length_flatMap]
  congr 1
  exact List.map_congr_left fun h _ => by simp [Hd.all]
theorem tenBlk {w w' : World} {b o : Nat} {c : Cx} (h : TenX w b o c) (e : w'.heap[b]? = w.heap[b]?) : TenX w' b o c := by
  have hc : ∀ k, w'.cell? ⟨b, k, none⟩ = w.cell? ⟨b, k, none⟩ := fun k => by simp only [World.cell?, e]
  exact ⟨(hc _).trans h.c0, (hc _).trans h.c1, (hc _).trans h.c2, (hc _).trans h.c3, (hc _).trans h.c4, (hc _).trans h.c5, (hc _).trans h.c6, (hc _).trans h.c7, (hc _).trans h.c8, (hc _).trans h.c9⟩
theorem HIn.spared {w w' : World} {Ex : Nat → Prop} {n z : Nat} {L : List Hd} (h : HIn w (fun k => k < n ∧ ¬ Ex k) L) (hs : Spared Ex z w w') (hz : n ≤ z) : HIn w' (fun k => k < n ∧ ¬ Ex k) L := fun x hx => by
  obtain ⟨h1, h2, h3⟩ := h x hx
  refine ⟨fun i c hc => ?_, h2, h3⟩
  obtain ⟨b, o, e, t⟩ := h1 i c hc
  have := h2 _ e
  exact ⟨b, o, e, tenBlk t (hs.block b (by have := this.1; simp at this; omega) this.2)⟩
theorem ownsRow_blk {w w' : World} {B : Nat} {e : TypeId} {k n : Nat} {v : Value} {xs : List Value} (h : w.ownsRow B e k v n xs) (hb : ∀ g, v.ownBlock = some g → w'.heap[g]? = w.heap[g]?) : w'.ownsRow B e k v n xs := by
  obtain ⟨h1, h2⟩ := h
  refine ⟨h1, ?_⟩
  rcases h2 with h2 | ⟨g, cap, cur, rfl, hg, hh, hr⟩
  · exact .inl h2
  · exact .inr ⟨g, cap, cur, rfl, hg, (hb g rfl).trans hh, hr⟩
end Go.Proofs.Ytkdeaogmifhnhaa
namespace Go.Proofs.Ytkdeaogmifhnhaa
open Go.RowKit Go.Shelf

attribute [local go_sem] Oper.semAt_some

theorem j2_mono {p : List Cx} (hp : p ≠ []) (q : List Cx) : (j2 p).dropLast <+: (j2 (p ++ q)).dropLast := by
  refine snoc_ind (P := fun q => (j2 p).dropLast <+: (j2 (p ++ q)).dropLast) (by rw [List.append_nil]; exact List.prefix_refl _) (fun q x ih => ?_) q
  rw [← List.append_assoc, j2_snoc]
  refine ih.trans ?_
  have hne : j2 (p ++ q) ≠ [] := j2_ne (by simp [hp])
  rcases List.eq_nil_or_concat (j2 (p ++ q)) with e | ⟨O, y, e⟩
  · exact absurd e hne
  · rw [List.concat_eq_append] at e
    rw [e]
    by_cases hk : kx y.1 x = 0
    · rw [j2S_same hk]; simp
    · rw [j2S_other hk]; simp
theorem yield_in {P : Program} {m m' l l2 : Nat} {args : Array Value} {W : World} {R : Ending → World → Prop} (h : YieldAt Fence.wide m P l args W R) : YieldAt (Fence.wide.inRound l2) m' P l args W R := by
  obtain ⟨fn, tmps, assign, body, hy, hR⟩ := h
  exact ⟨fn, tmps, assign, body, hy, hR.1, fun c cs _ => hR.2 c cs (fun d h => by cases h)⟩
/-- Ten cells into a block. -/
def s10 (w : World) (g : Nat) (c : Cx) : World := (((((((((w.setCell ⟨g, 0, none⟩ (.string c.k.t)).setCell ⟨g, 1, none⟩ (.string c.k.p)).setCell ⟨g, 2, none⟩ (.int .i64 c.k.r)).setCell ⟨g, 3, none⟩ (.string c.k.c)).setCell ⟨g, 4, none⟩ (.int .i64 c.v.time)).setCell ⟨g, 5, none⟩ (.bool c.v.dead)).setCell ⟨g, 6, none⟩ (.int .i64 c.v.loc)).setCell ⟨g, 7, none⟩ (.int .i64 c.v.kind)).setCell ⟨g, 8, none⟩ (.int .i64 c.v.num)).setCell ⟨g, 9, none⟩ (.string c.v.s)
theorem blk_s10 {w : World} {g : Nat} {t : TypeId} {x : Cx} (h : Blk w g (xs10 x) t) (c : Cx) : Blk (s10 w g c) g (xs10 c) t ∧ w.grownBy (s10 w g c) (some g) :=
  ⟨(((((((((h.set 0 _).set 1 _).set 2 _).set 3 _).set 4 _).set 5 _).set 6 _).set 7 _).set 8 _).set 9 _, grownBy_setCell (grownBy_setCell (grownBy_setCell (grownBy_setCell (grownBy_setCell (grownBy_setCell (grownBy_setCell (grownBy_setCell (grownBy_setCell (grownBy_setCell ⟨rfl, rfl, rfl, Nat.le_refl _, fun _ _ _ => rfl⟩)))))))))⟩
def s6 (w : World) (g : Nat) (v : Vr) : World := (((((w.setCell ⟨g, 4, none⟩ (.int .i64 v.time)).setCell ⟨g, 5, none⟩ (.bool v.dead)).setCell ⟨g, 6, none⟩ (.int .i64 v.loc)).setCell ⟨g, 7, none⟩ (.int .i64 v.kind)).setCell ⟨g, 8, none⟩ (.int .i64 v.num)).setCell ⟨g, 9, none⟩ (.string v.s)
theorem blk_s6 {w : World} {g : Nat} {t : TypeId} {x : Cx} (h : Blk w g (xs10 x) t) (v : Vr) : Blk (s6 w g v) g (xs10 ⟨x.k, v⟩) t ∧ w.grownBy (s6 w g v) (some g) :=
  ⟨(((((h.set 4 _).set 5 _).set 6 _).set 7 _).set 8 _).set 9 _, grownBy_setCell (grownBy_setCell (grownBy_setCell (grownBy_setCell (grownBy_setCell (grownBy_setCell ⟨rfl, rfl, rfl, Nat.le_refl _, fun _ _ _ => rfl⟩)))))⟩
theorem zoned_blk {a z : Nat} {X Y : World} (h : Zoned a z X Y) {g : Nat} {cs : List Value} {t : TypeId} (hb : Blk X g cs t) (hg : g < a) : Blk Y g cs t := hb.carry (h.block g hb.lt (.inl hg))
/-- Behind a call that lays new blocks alone, and a round of the owner's. -/
theorem SparedF.behind {Y : Nat} {Fp : World → Nat → Prop} {X U U' U2 : World} (hU : Below X.heap.size X U) (hF : ∀ k, Fp U k → Fp X k) (hs : SparedF Fp U U') (hz : Zoned Y (Y + 2) U' U2) : SparedF (fun X k => k = Y ∨ k = Y + 1 ∨ Fp X k) X U2 :=
  ⟨hz.os.trans (hs.os.trans hU.os), hz.tape.trans (hs.tape.trans hU.tape), hz.output.trans (hs.output.trans hU.output), Nat.le_trans hU.size (Nat.le_trans hs.size hz.size), fun k hk hn => by
    have n1 : k ≠ Y := fun e => hn (.inl e)
    have n2 : k ≠ Y + 1 := fun e => hn (.inr (.inl e))
    exact ((hz.block k (Nat.lt_of_lt_of_le hk (Nat.le_trans hU.size hs.size)) (by omega)).trans (hs.block k (Nat.lt_of_lt_of_le hk hU.size) (fun e => hn (.inr (.inr (hF k e)))))).trans (hU.block k hk)⟩
theorem SparedF.refl (Fp : World → Nat → Prop) (W : World) : SparedF Fp W W := ⟨rfl, rfl, rfl, Nat.le_refl _, fun _ _ _ => rfl⟩
end Go.Proofs.Ytkdeaogmifhnhaa
namespace Go.Proofs.Ytkdeaogmifhnhaa
open Go.RowKit

attribute [local go_sem] Oper.pureAt Oper.pureUpon
theorem ownsM_mono {w : World} {B B' : Nat} {e : TypeId} {k n : Nat} {v : Value} {xs : List Value} (h : w.ownsRow B e k v n xs) (hb : B' ≤ B) : w.ownsRow B' e k v n xs := by
  obtain ⟨h1, h2⟩ := h
  refine ⟨h1, ?_⟩
  rcases h2 with h2 | ⟨g, cap, cur, rfl, hg, hr⟩
  · exact .inl h2
  · exact .inr ⟨g, cap, cur, rfl, Nat.le_trans hb hg, hr⟩
theorem ownsM_shape {w : World} {B : Nat} {e : TypeId} {k n : Nat} {v : Value} {xs : List Value} (h : w.ownsRow B e k v n xs) : ∃ a c, v = .slice a n c := by
  rcases h.2 with ⟨rfl, rfl⟩ | ⟨g, cap, cur, rfl, _⟩
  · exact ⟨_, _, rfl⟩
  · exact ⟨_, _, rfl⟩
theorem rising_ofM {l : List Cx} (h : srtB l = true) : Rising l := by
  have h1 : Rise l l.length := @of_decide_eq_true _ (Classical.propDecidable _) h
  refine List.pairwise_iff_getElem.2 fun i j hi hj hij => ?_
  have H : ∀ d i, (hd : i + d + 1 < l.length) → kx (l[i]'(by omega)) l[i + d + 1] < 0 := by
    intro d
    induction d with
    | zero => intro i hd; exact h1 i _ _ (by omega) (List.getElem?_eq_getElem (by omega)) (List.getElem?_eq_getElem (by omega))
    | succ d ih => intro i hd; exact kx_strict (ih i (by omega)) (h1 (i + d + 1) _ _ (by omega) (List.getElem?_eq_getElem (by omega)) (List.getElem?_eq_getElem (by omega)))
  have := H (j - i - 1) i (by omega)
  have e : i + (j - i - 1) + 1 = j := by omega
  simpa only [e] using this
theorem xsees_nil {w : World} {ao : Option Addr} {l : List Cx} (h : XSees w ao l) : ao = none → l.length = 0 := fun e => by
  cases l with
  | nil => rfl
  | cons c r =>
    obtain ⟨b, o, e2, -⟩ := h 0 c rfl
    rw [e] at e2; cases e2
theorem infoSl : (Try.prog.info? 22).map (fun i => (i.zero, i.size, i.bytes)) = some (some (.slice none 0 0), 1, 24) := by kernel_rfl
theorem src_list (w : World) (v : Lv) : Src Try.prog 1 23 (.slice (some ⟨w.heap.size, 0, none⟩) 1 1) 1 [v.s] (w.alloc (.cells #[v.s] 22)) := by
  refine Src.ofSlice _ Try.underlying23 _ 1 1 _ rfl (fun j u hj => ?_) (fun u hu => ?_)
  · have hg : (w.alloc (.cells #[v.s] 22)).heap[w.heap.size]? = some (.cells #[v.s] 22) := heap_alloc_new w _
    rw [Addr.add_lit, Nat.zero_add]
    simp only [World.cell?, hg]
    rcases j with _ | j
    · exact hj
    · simp at hj
  · obtain rfl : u = v.s := by simpa using hu
    rfl
/-- A world in which a box holds a value. -/
structure Bx1 (B : Nat) (v : Value) where
  u : World
  h : u.cell? ⟨B, 0, none⟩ = some v
/-- What Each has gathered: rows of lists, none of them the row of the lists. -/
structure Gt (w wr : World) (Bn : Nat) (sv : Value) (ss : List Lv) : Prop where
  box : Blk wr Bn [sv] 23
  row : wr.ownsRow w.heap.size 22 1 sv ss.length (ss.map Lv.s)
  at' : ∀ v ∈ ss, v.At wr (fun k => w.heap.size ≤ k ∧ k < wr.heap.size)
  ne : ∀ g, sv.ownBlock = some g → g ≠ Bn ∧ ∀ v ∈ ss, ∀ a, v.ao = some a → a.block ≠ g
  nb : ∀ v ∈ ss, ∀ a, v.ao = some a → a.block ≠ Bn
  bel : Below w.heap.size w wr
  bn : w.heap.size ≤ Bn
theorem at_of_owns {w w' : World} {v : Value} {l : List Cx} (h : w'.ownsRow w.heap.size 35 10 v l.length (l.flatMap xs10)) : ∃ x : Lv, v = x.s ∧ x.l = l ∧ x.At w' (fun k => w.heap.size ≤ k ∧ k < w'.heap.size) := by
  obtain ⟨ao, cap, rfl, hx, -⟩ := owns_xsees h
  refine ⟨⟨ao, cap, l⟩, rfl, rfl, hx, fun a e => ?_, ?_⟩
  · simp only at e
    subst e
    exact h.lt _ rfl
  · rcases h.2 with ⟨h1, h2⟩ | ⟨g, cap', cur, h1, _, _, h2, _⟩
    · show l.length ≤ cap; omega
    · injection h1 with _ _ e3
      subst e3; exact h2
theorem Lv.At.blk {X Y : World} {Ok Ok' : Nat → Prop} {v : Lv} (h : v.At X Ok) (e : ∀ a, v.ao = some a → Y.heap[a.block]? = X.heap[a.block]?) (ho : ∀ k, Ok k → Ok' k) : v.At Y Ok' :=
  ⟨fun i c hc => by obtain ⟨b, o, e2, t⟩ := h.1 i c hc; exact ⟨b, o, e2, tenBlk t (e _ e2)⟩, fun a ea => ho _ (h.2.1 a ea), h.2.2⟩
theorem Gt.more {w wr u : World} {Bn : Nat} {sv : Value} {ss : List Lv} (h : Gt w wr Bn sv ss) (hu : Below wr.heap.size wr u) : Gt w u Bn sv ss :=
  { box := h.box.carry (hu.block _ h.box.lt)
    row := ownsRow_blk h.row fun g hg => hu.block _ (h.row.lt g hg).2
    at' := fun v hv => (h.at' v hv).blk (fun a e => hu.block _ ((h.at' v hv).2.1 a e).2) fun k hk => ⟨hk.1, by have := hu.size; omega⟩
    ne := h.ne
    nb := h.nb
    bel := h.bel.trans (hu.mono h.bel.size)
    bn := h.bn }
theorem Gt.add {w wr u w3 : World} {Bn : Nat} {sv v' : Value} {ss : List Lv} {y : Lv} {o : Obj} (h : Gt w wr Bn sv ss) (hu : Below wr.heap.size wr u) (hy : y.At u (fun k => wr.heap.size ≤ k ∧ k < u.heap.size)) (ho : w3.ownsRow w.heap.size 22 1 v' (ss.length + 1) (ss.map Lv.s ++ [y.s])) (hg : Grew (u.alloc o) w3 sv v') :
    Gt w (w3.setCell ⟨Bn, 0, none⟩ v') Bn v' (ss ++ [y]) ∧ Blk w3 Bn [sv] 23 := by
  have hus := hu.size
  have h2 := (h.more hu)
  have hs2 : (u.alloc o).heap.size = u.heap.size + 1 := by simp
  have hgs := hg.rows.size
  have hbn := h.box.lt
  have bx : Blk w3 Bn [sv] 23 := (h2.box.alloc o).carry (hg.rows.block _ (by omega) fun e => (h.ne _ e.symm).1 rfl)
  have hv' : ∀ g, v'.ownBlock = some g → (sv.ownBlock = some g ∧ g < wr.heap.size) ∨ u.heap.size + 1 ≤ g := fun g e => by
    rcases hg.own g e with e1 | e1
    · exact .inl ⟨e1, (h.row.lt g e1).2⟩
    · exact .inr (by omega)
  have g4 := grownBy_setCell' w3 Bn v'
  -- a block that is neither the row's nor the box
  have keep : ∀ k, k < u.heap.size → sv.ownBlock ≠ some k → k ≠ Bn → (w3.setCell ⟨Bn, 0, none⟩ v').heap[k]? = u.heap[k]? := fun k hk h1 h2 =>
    (g4.block k (by omega) (by simpa using h2)).trans ((hg.rows.block k (by omega) (fun e => h1 e.symm)).trans (Below.heap_alloc _ _ _ hk))
  refine ⟨⟨bx.set 0 _, ?_, ?_, ?_, ?_, ?_, h.bn⟩, bx⟩
  · rw [List.map_append, List.length_append]
    refine ownsRow_blk ho fun g e => g4.block g (ho.lt g e).2 ?_
    rcases hv' g e with ⟨e1, e2⟩ | e1
    · have := (h.ne g e1).1; simpa using this
    · simp; omega
  · intro v hv
    have hsz : u.heap.size ≤ (w3.setCell ⟨Bn, 0, none⟩ v').heap.size := by have := g4.size; omega
    rcases List.mem_append.1 hv with hv | hv
    · refine (h2.at' v hv).blk (fun a e => ?_) fun k hk => ⟨hk.1, by omega⟩
      exact keep _ ((h2.at' v hv).2.1 a e).2 (fun e1 => (h.ne _ e1).2 v hv a e rfl) (h.nb v hv a e)
    · obtain rfl : v = y := by simpa using hv
      refine hy.blk (fun a e => ?_) fun k hk => ⟨by have := h.bel.size; omega, by omega⟩
      have hb := hy.2.1 a e
      exact keep _ hb.2 (fun e1 => by have := (h.row.lt _ e1).2; omega) (by omega)
  · intro g e
    refine ⟨?_, fun v hv a ea => ?_⟩
    · rcases hv' g e with ⟨e1, _⟩ | e1
      · exact (h.ne g e1).1
      · omega
    · rcases List.mem_append.1 hv with hv | hv
      · rcases hv' g e with ⟨e1, _⟩ | e1
        · exact (h.ne g e1).2 v hv a ea
        · have := ((h2.at' v hv).2.1 a ea).2; omega
      · obtain rfl : v = y := by simpa using hv
        have hb := hy.2.1 a ea
        rcases hv' g e with ⟨_, e1⟩ | e1
        · omega
        · omega
  · intro v hv a ea
    rcases List.mem_append.1 hv with hv | hv
    · exact h.nb v hv a ea
    · obtain rfl : v = y := by simpa using hv
      have hb := hy.2.1 a ea
      omega
  · have hB2 : Below w.heap.size w (u.alloc o) := h2.bel.alloc h2.bel.size _
    have hB3 : Below w.heap.size w w3 := hB2.trans (hg.below hB2.size fun g e => (h.row.lt g e).1)
    exact hB3.trans ((Below.refl _ _).setCell (p := ⟨Bn, 0, none⟩) h.bn _)
end Go.Proofs.Ytkdeaogmifhnhaa
namespace Go.Proofs.Ytkdeaogmifhnhaa
open Go.RowKit Go.Shelf

attribute [local go_sem] Oper.semAt_some

/-- An append whose run is known, in a fence. -/
theorem wpListIn_appM {F : Fence} {n : Nat} {P : Program} {w : World} {ops : Array Oper} {rest : List Oper} {o : Oper} {a : Act} {Q : Exit → Act → World → Prop}
    (hgd : o.guard = none) (s x : Operand) (t tx : TypeId) (ho : o.op = .call { callee := .builtin .append, args := #[s, x], argTypes := #[t, tx] }) (v xv : Value) (hs : a.eval s = v) (hx : a.eval x = xv) {v' : Value} {w' : World}
    (hr : (Builtin.append_ #[t, tx] o.type #[v, xv]).run P w = .ok v' w') (h : wpListIn F n P ops Q rest (a.put o.dst v') w') : wpListIn F n P ops Q (o :: rest) a w := by
  refine wpListIn_plain hgd fun K hK => ?_
  unfold Oper.wpIn
  refine ⟨by simp [Oper.about, ho, resolve, Target.leads, Sem.run_pure], ?_⟩
  rw [Oper.semAt_plain F _ _ (by rw [ho]; intro c hc; cases hc)]
  simp [execOp, ho, resolve, invoke, builtin, hs, hx, hr, Result.andThen]
  exact hK _ _ h
/-- What may be written while cells are gathered: the box, and the row that it holds. -/
def GFp (ob : Nat) (X : World) (k : Nat) : Prop := k = ob ∨ ∃ v, X.cell? ⟨ob, 0, none⟩ = some v ∧ v.ownBlock = some k
theorem gfp_told (ob : Nat) : Told (fun k => k = ob) (GFp ob) := fun X Y h k hk => by
  rcases hk with e | ⟨v, hv, he⟩
  · exact .inl e
  · refine .inr ⟨v, ?_, he⟩
    simpa only [World.cell?, h ob rfl] using hv
/-- Cells that were gathered. -/
structure Ga (ob n0 z : Nat) (w : World) (L : List Cx) (W : World) : Prop where
  row : ∃ v, Blk W ob [v] 22 ∧ W.ownsRow n0 35 10 v L.length (L.flatMap xs10) ∧ (∀ g, v.ownBlock = some g → z ≤ g)
  bel : Below w.heap.size w W
theorem Ga.zoned {ob n0 z a : Nat} {w : World} {L : List Cx} {X Y : World} (h : Ga ob n0 z w L X) (hz : Zoned a z X Y) (ho : ob < a) (hw : w.heap.size ≤ a) : Ga ob n0 z w L Y := by
  obtain ⟨⟨v, h1, h2, h3⟩, h4⟩ := h
  refine ⟨⟨v, h1.carry (hz.block _ h1.lt (.inl ho)), ownsRow_blk h2 fun g hg => hz.block g (h2.lt g hg).2 (.inr (h3 g hg)), h3⟩, h4.trans (hz.below hw h4.size)⟩
theorem Ga.fp {ob n0 z : Nat} {w : World} {L : List Cx} {X : World} (h : Ga ob n0 z w L X) : ∀ k, GFp ob X k → (k = ob ∨ z ≤ k) ∧ k < X.heap.size := fun k hk => by
  obtain ⟨⟨v, h1, h2, h3⟩, h4⟩ := h
  rcases hk with rfl | ⟨u, hu, he⟩
  · exact ⟨.inl rfl, h1.lt⟩
  · rw [h1.cell 0 rfl] at hu
    cases hu
    exact ⟨.inr (h3 k he), (h2.lt k he).2⟩
/-- One more. -/
theorem Ga.add {ob n0 z : Nat} {w : World} {L : List Cx} {X X2 w3 : World} {v v' : Value} {x : Cx} {o : Obj} (h : Ga ob n0 z w L X) (hv : X.cell? ⟨ob, 0, none⟩ = some v) (hX : Below X.heap.size X X2) (hz : z ≤ X.heap.size) (hob : ob < z) (hw : w.heap.size ≤ ob)
    (ho : w3.ownsRow n0 35 10 v' (L.length + 1) (L.flatMap xs10 ++ [x].flatMap xs10)) (hg : Grew (X2.alloc o) w3 v v') :
    Ga ob n0 z w (L ++ [x]) (w3.setCell ⟨ob, 0, none⟩ v') ∧ SparedF (GFp ob) X (w3.setCell ⟨ob, 0, none⟩ v') ∧ Blk w3 ob [v] 22 := by
  obtain ⟨⟨u, h1, h2, h3⟩, h4⟩ := h
  rw [h1.cell 0 rfl] at hv
  cases hv
  have hs2 : (X2.alloc o).heap.size = X2.heap.size + 1 := by simp
  have hgs := hg.rows.size
  have hXs := hX.size
  have hno : v.ownBlock ≠ some ob := fun e => by have := h3 _ e; omega
  have bx : Blk w3 ob [v] 22 := ((h1.carry (hX.block _ h1.lt)).alloc o).carry (hg.rows.block _ (by have := h1.lt; omega) fun e => hno e.symm)
  have g4 := grownBy_setCell' w3 ob v'
  have hv' : ∀ g, v'.ownBlock = some g → z ≤ g := fun g e => by
    rcases hg.own g e with e1 | e1
    · exact h3 g e1
    · omega
  have hb2 : Below w.heap.size w (X2.alloc o) := (h4.trans (hX.mono h4.size)).alloc (by have := h4.size; omega) _
  have hb3 : Below w.heap.size w w3 := hb2.trans (hg.below hb2.size fun g e => by have := h3 g e; omega)
  refine ⟨⟨⟨v', bx.set 0 _, ?_, hv'⟩, hb3.trans ((Below.refl _ _).setCell (p := ⟨ob, 0, none⟩) hw _)⟩, ?_, bx⟩
  · rw [List.length_append, List.flatMap_append]
    exact ownsRow_blk ho fun g e => g4.block g (ho.lt g e).2 (by have := hv' g e; simp; omega)
  · refine ⟨g4.os.trans (hg.rows.os.trans hX.os), g4.tape.trans (hg.rows.tape.trans hX.tape), g4.output.trans (hg.rows.output.trans hX.output), by have := g4.size; omega, fun k hk hn => ?_⟩
    have n1 : k ≠ ob := fun e => hn (.inl e)
    have n2 : v.ownBlock ≠ some k := fun e => hn (.inr ⟨v, h1.cell 0 rfl, e⟩)
    exact (g4.block k (by omega) (by simpa using n1)).trans ((hg.rows.block k (by omega) (fun e => n2 e.symm)).trans ((Below.heap_alloc _ _ _ (by omega)).trans (hX.block k hk)))
theorem src_one_cx (w : World) (c : Cx) : Src Try.prog 10 22 (.slice (some ⟨w.heap.size, 0, none⟩) 1 1) 1 (([c] : List Cx).flatMap xs10) (w.alloc (.cells c.a 35)) :=
  src_cells (l := [c]) (fun i x hx => by
    have hi : i = 0 := by have := (List.getElem?_eq_some_iff.1 hx).1; simp at this; exact this
    subst hi
    have hx2 : c = x := Option.some.inj hx
    subst hx2
    exact ⟨w.heap.size, 0, rfl, TenX.new w c 35⟩) (fun h => by cases h) 1
theorem j2_len (l : List Cx) : (j2 l).length ≤ l.length := by
  have h1 := j2_sum l
  have h2 := j2_pos l
  have : ∀ (L : List (Cx × Nat)), (∀ y ∈ L, 1 ≤ y.2) → L.length ≤ (L.map Prod.snd).sum := fun L => by
    induction L with
    | nil => simp
    | cons y L ih =>
      intro h
      have := ih fun y hy => h y (by simp [hy])
      have := h y (by simp)
      simp; omega
  have := this _ h2
  omega
end Go.Proofs.Ytkdeaogmifhnhaa
namespace Go.Proofs.Ytkdeaogmifhnhaa
open Go.RowKit

/-- No operation is a defer statement. -/
def noDefer (ops : Array Oper) : Bool := ops.toList.all fun o => match o.op with | .defer _ => false | _ => true
theorem noDefer_at {ops : Array Oper} (h : noDefer ops = true) {i : Nat} {o : Oper} (ho : ops[i]? = some o) : ∀ c, o.op ≠ .defer c := fun c hc => by
  have hm : o ∈ ops.toList := by
    have := List.mem_of_getElem? (l := ops.toList) (i := i) (a := o) (by simpa using ho)
    exact this
  have h1 := List.all_eq_true.1 h o hm
  rw [hc] at h1
  cases h1
section
variable {F : Fence} {n : Nat} {P : Program} {ops : Array Oper} {md : Region.Mode} {C : World → Prop}
theorem wpInR_of_quiet {o : Oper} {a : Act} {K : Act → Prop} {K' : Act → World → Prop} {Q' : Exit → Act → World → Prop} {w : World} (hnd : ∀ c, o.op ≠ .defer c) (hw : C w) (h : ∀ a w', C w' → K a → K' a w')
    (ha : o.askedIn F P a C) (hh : o.quietIn F n P a C K) : o.wpIn F n P a w K' Q' := by
  obtain ⟨v, h1, h2⟩ := hh
  have h3 := h1 w hw
  unfold Oper.quietAtIn at h3
  unfold Oper.wpIn
  refine ⟨ha w hw, ?_⟩
  rw [Oper.semAt_plain F _ _ hnd]
  generalize (execOp a.eval o).run P w = r at *
  cases r with
  | ok x w' =>
    cases x <;> simp only [Oper.quietUponIn] at h3 <;> simp only [Oper.uponIn]
    case value u =>
      obtain ⟨e1, e2⟩ := h3
      rw [e1, e2]
      exact h _ _ hw h2
    case skip =>
      obtain ⟨e1, e2⟩ := h3
      rw [e1, ← e2]
      exact h _ _ hw h2
    case enter f args =>
      obtain ⟨e1, hd, hc⟩ := h3
      rw [e1]
      exact ⟨hd, hc.mono fun e w'' ⟨he, hw''⟩ => by subst he; exact h _ _ hw'' h2⟩
  | halt x w' => simp only [Oper.quietUponIn] at h3
theorem wpOpInR_of_qOpIn {i : Nat} {a : Act} {K : Act → Prop} {K' : Act → World → Prop} {Q' : Exit → Act → World → Prop} {w : World} (hnd : noDefer ops = true) (hC : C w) (h : ∀ a w', C w' → K a → K' a w')
    (hh : qOpIn F n P ops C i K a) : wpOpIn F n P ops Q' i K' a w := by
  unfold qOpIn at hh
  unfold wpOpIn
  split
  · rename_i ho; simp only [ho] at hh; exact h _ _ hC hh
  · rename_i o ho
    simp only [ho] at hh
    obtain ⟨ha, hh⟩ := hh
    split
    · rename_i hw; simp only [hw, if_true] at hh; exact wpInR_of_quiet (noDefer_at hnd ho) hC h ha hh
    · rename_i hw; simp only [hw] at hh; exact ⟨ha w hC, h _ _ hC hh⟩
theorem wpAnyInR_of_quiet {Q : Act → Prop} {Q' : Exit → Act → World → Prop} (hnd : noDefer ops = true) (hQ : ∀ a w, C w → Q a → Q' .normal a w) : ∀ (fuel : Nat) (listed : Array Bool) (a : Act) (w : World), C w →
    wpAnyQIn F n P md ops C Q fuel listed a → wpAnyIn F n P md ops Q' fuel listed a w
  | 0, _, _, _, hw, h => ⟨h.1, hQ _ _ hw h.2⟩
  | fuel + 1, _, _, _, hw, h => ⟨fun h0 => hQ _ _ hw (h.1 h0), fun i hi => wpOpInR_of_qOpIn hnd hw (fun a' w' hw' => wpAnyInR_of_quiet hnd hQ fuel _ a' w' hw') (h.2 i hi)⟩
theorem wpInR_region_quiet {id : Nat} {Q : Exit → Act → World → Prop} {a : Act} {w : World} (hnd : noDefer ops = true) (hm : P.follows .mixedOrders = true) (hB : Region.lexB .any ops = true) (hC : C { w with drawn := w.drawn + 1 })
    (h : wpQuietIn F n P ops C (fun a' => ∀ w', C w' → Q .normal a' w') ops.toList a) : (Code.region id ops true).wpIn F n P Q a w := by
  simp only [Region.lexB, Bool.and_eq_true] at hB
  refine wpIn_region_any hm (wpAnyInR_of_quiet (Q := fun a' => ∀ w', C w' → Q .normal a' w') hnd (fun _ w' hw' h => h w' hw') _ _ _ _ hC ?_)
  have := wpAnyQIn_lex (F := F) (n := n) (C := C) (md := .any) hB.1 ops.toList 0 (Array.replicate ops.size false) a (by simp) (by simpa using hB.2) h
  simpa using this
end
/-- A region of a round that draws its order, over the class of worlds in which all blocks below m are as they were. -/
theorem wpInR_region_cl {F : Fence} {n : Nat} {P : Program} {id : Nat} {Q : Exit → Act → World → Prop} {a : Act} {w : World} {l : List Oper} (m : Nat) (hnd : noDefer l.toArray = true) (hm : P.follows .mixedOrders = true) (hB : Region.lexB .any l.toArray = true)
    (h : wpQuietIn F n P l.toArray (fun w' => ∃ p : Cl m w, w' = p.u) (fun a' => ∀ w', (∃ p : Cl m w, w' = p.u) → Q .normal a' w') l a) : (Code.region id l.toArray true).wpIn F n P Q a w :=
  wpInR_region_quiet (C := fun w' => ∃ p : Cl m w, w' = p.u) hnd hm hB ⟨⟨w.drew, (Below.refl m w).drew⟩, rfl⟩ (by simpa using h)
theorem Cl.callsIn {n : Nat} {P : Program} {f : FuncId} {args : Array Value} {m l : Nat} {w : World} {p : Cl m w} {v : Value} (hn : m ≤ w.heap.size)
    (h : Calls P f args p.u fun e w' => e = .returned v ∧ Below p.u.heap.size p.u w') : CallsIn (Fence.wide.inRound l) n P f args p.u fun e w'' => e = .returned v ∧ ∃ q : Cl m w, w'' = q.u :=
  CallsIn.inRound l (callsIn_wide.2 (Cl.calls hn h))
end Go.Proofs.Ytkdeaogmifhnhaa
namespace Go.Proofs.Ytkdeaogmifhnhaa
open Go.RowKit

noncomputable def cov : List Cx → Cx → Bool
  | [], _ => false
  | x :: _, c => @decide (x.k = c.k) (Classical.propDecidable _) && decide (0 ≤ cv x.v c.v)
theorem cov_other {x c : Cx} {r : List Cx} (h : x.k ≠ c.k) : cov (x :: r) c = false := by show (@decide (x.k = c.k) (Classical.propDecidable _) && decide (0 ≤ cv x.v c.v)) = _; rw [@decide_eq_false _ (Classical.propDecidable _) h]; rfl
theorem cov_same {x c : Cx} {r : List Cx} (h : x.k = c.k) : cov (x :: r) c = decide (0 ≤ cv x.v c.v) := by show (@decide (x.k = c.k) (Classical.propDecidable _) && decide (0 ≤ cv x.v c.v)) = _; rw [@decide_eq_true _ (Classical.propDecidable _) h]; rfl
attribute [local irreducible] wpQuiet
end Go.Proofs.Ytkdeaogmifhnhaa
namespace Go.Proofs.Ytkdeaogmifhnhaa
open Go.RowKit Go.Shelf

attribute [local go_sem] Oper.semAt_some

/-- Without the cells ahead of c. -/
def dw (c : Cx) (l : List Cx) : List Cx := l.dropWhile fun x => decide (kx x c < 0)
theorem dw_drop {c x : Cx} {l : List Cx} (h : kx x c < 0) : dw c (x :: l) = dw c l := by unfold dw; rw [List.dropWhile_cons_of_pos (by simpa using h)]
theorem dw_stay {c x : Cx} {l : List Cx} (h : ¬ kx x c < 0) : dw c (x :: l) = x :: l := by unfold dw; rw [List.dropWhile_cons_of_neg (by simpa using h)]
theorem dw_dw {c d : Cx} (h : kx c d < 0) (l : List Cx) : dw d (dw c l) = dw d l := by
  induction l with
  | nil => rfl
  | cons x l ih =>
    by_cases hx : kx x c < 0
    · rw [dw_drop hx, ih, dw_drop (kx_strict hx h)]
    · rw [dw_stay hx]
/-- What is lacking. -/
noncomputable def lck (B : List Cx) (A : List Cx) : List Cx := A.filter fun c => !cov (dw c B) c
theorem lck_snoc (B A : List Cx) (c : Cx) : lck B (A ++ [c]) = lck B A ++ (if cov (dw c B) c = true then [] else [c]) := by
  unfold lck
  rw [List.filter_append]
  congr 1
  cases h : cov (dw c B) c <;> simp [h]
theorem XSees.tail {w : World} {b o : Nat} {c : Cx} {r : List Cx} (h : XSees w (some ⟨b, o, none⟩) (c :: r)) : XSees w (some ⟨b, o + 10, none⟩) r := fun i x hx => by
  obtain ⟨b', o', e, t⟩ := h (i + 1) x (by simpa using hx)
  injection e with e
  injection e with e1 e2
  subst e1 e2
  refine ⟨b, o + 10, rfl, ?_⟩
  have : o + 10 + i * 10 = o + (i + 1) * 10 := by omega
  rw [this]; exact t
theorem XSees.blk {w w' : World} {ao : Option Addr} {l : List Cx} (h : XSees w ao l) (e : ∀ a, ao = some a → w'.heap[a.block]? = w.heap[a.block]?) : XSees w' ao l := fun i c hc => by
  obtain ⟨b, o, e2, t⟩ := h i c hc
  exact ⟨b, o, e2, tenBlk t (e _ e2)⟩
theorem owns_see {w' : World} {B : Nat} {ao : Option Addr} {cap : Nat} {l : List Cx} (h : w'.ownsRow B 35 10 (.slice ao l.length cap) l.length (l.flatMap xs10)) : XSees w' ao l ∧ (∀ a, ao = some a → B ≤ a.block ∧ a.block < w'.heap.size) ∧ l.length ≤ cap := by
  obtain ⟨ao2, cap2, e, hx, -⟩ := owns_xsees h
  have e1 : ao = ao2 := by injection e
  subst e1
  refine ⟨hx, fun a e => ?_, ?_⟩
  · subst e; exact h.lt _ rfl
  · rcases h.2 with ⟨h1, h2⟩ | ⟨g, cap', cur, h1, _, _, h2, _⟩
    · omega
    · injection h1 with _ _ e3
      subst e3; exact h2
/-- Between two rounds: what is left of the other list, and the list itself. -/
structure LI (J : Nat → List Cx → World → Prop) (A B : List Cx) (ga : Option Addr) (n0 : Nat) (z i : Nat) (ro : Option Addr) (rc : Nat) (r : List Cx) (W : World) : Prop where
  rest : XSees W ro r
  rb : ∀ a, ro = some a → n0 ≤ a.block ∧ a.block < z
  rc' : r.length ≤ rc
  aa : XSees W ga A
  ab : ∀ a, ga = some a → n0 ≤ a.block ∧ a.block < z
  dws : ∀ j c, i ≤ j → A[j]? = some c → dw c r = dw c B
  j : J z (lck B (A.take i)) W
  z1 : n0 ≤ z
  z2 : z ≤ W.heap.size
theorem LI.more {J : Nat → List Cx → World → Prop} {A B : List Cx} {ga : Option Addr} {n0 z i : Nat} {ro : Option Addr} {rc : Nat} {r : List Cx} {W W' : World} (h : LI J A B ga n0 z i ro rc r W) (hb : Below W.heap.size W W') (hJ : ∀ z pre X Y, J z pre X → Zoned n0 z X Y → J z pre Y) : LI J A B ga n0 z i ro rc r W' :=
  { rest := h.rest.blk fun a e => hb.block _ (by have := (h.rb a e).2; have := h.z2; omega)
    rb := h.rb
    rc' := h.rc'
    aa := h.aa.blk fun a e => hb.block _ (by have := (h.ab a e).2; have := h.z2; omega)
    ab := h.ab
    dws := h.dws
    j := hJ _ _ _ _ h.j (.of_below hb (Nat.le_refl _))
    z1 := h.z1
    z2 := Nat.le_trans h.z2 hb.size }
end Go.Proofs.Ytkdeaogmifhnhaa
namespace Go.Proofs.Ytkdeaogmifhnhaa
open Go.RowKit Go.Shelf

attribute [local go_sem] Oper.semAt_some

theorem lck_len (B A : List Cx) : (lck B A).length ≤ A.length := List.length_filter_le _ _
theorem res_bool {P : Program} {fn : Func} {p : Tmp} {ty : TypeId} (h : fn.results = #[.cell p ty]) (tmps : Array Value) (w : World) (g : Nat) (b : Bool)
    (hp : tmps.getD p undef = .pointer (some ⟨g, 0, none⟩)) (hc : w.cell? ⟨g, 0, none⟩ = some (.bool b)) (hu : P.underlying ty = some .bool) : (results fn tmps).run P w = .ok (.bool b) w := by
  have hp' : tmps[p]?.getD undef = .pointer (some ⟨g, 0, none⟩) := by simpa using hp
  simp [results, h, hp', asAddr, go_sem, isAgg, run_underlying hu, hc]
end Go.Proofs.Ytkdeaogmifhnhaa
namespace Go.Proofs.Ytkdeaogmifhnhaa
open Go.RowKit

/-- Is a cell of that table and partition? -/
def inPt (t p : ByteArray) (c : Cx) : Bool := decide (c.k.t = t) && decide (c.k.p = p)
def prt (t p : ByteArray) (l : List Cx) : List Cx := l.filter (inPt t p)
theorem prt_snoc (t p : ByteArray) (l : List Cx) (c : Cx) : prt t p (l ++ [c]) = prt t p l ++ (if inPt t p c = true then [c] else []) := by
  unfold prt
  rw [List.filter_append]
  congr 1
  cases h : inPt t p c <;> simp [h]
theorem prt_len (t p : ByteArray) (l : List Cx) : (prt t p l).length ≤ l.length := List.length_filter_le _ _
/-- Rows while cells are gathered into a variable. -/
structure Gv (w wr : World) (v : Value) (L : List Cx) : Prop where
  row : wr.ownsRow w.heap.size 35 10 v L.length (L.flatMap xs10)
  bel : Below w.heap.size w wr
theorem Gv.more {w wr u : World} {v : Value} {L : List Cx} (h : Gv w wr v L) (hu : Below wr.heap.size wr u) : Gv w u v L := ⟨ownsRow_blk h.row fun g hg => hu.block _ (h.row.lt g hg).2, h.bel.trans (hu.mono h.bel.size)⟩
theorem Gv.add {w u w3 : World} {v v' : Value} {L : List Cx} {c : Cx} {o : Obj} (h : Gv w u v L) (ho : w3.ownsRow w.heap.size 35 10 v' (L.length + 1) (L.flatMap xs10 ++ [c].flatMap xs10)) (hg : Grew (u.alloc o) w3 v v') : Gv w w3 v' (L ++ [c]) := by
  refine ⟨?_, ?_⟩
  · rw [List.length_append, List.flatMap_append]; exact ho
  · have hB2 : Below w.heap.size w (u.alloc o) := h.bel.alloc h.bel.size _
    exact hB2.trans (hg.below hB2.size fun g e => (h.row.lt g e).1)
end Go.Proofs.Ytkdeaogmifhnhaa
namespace Go.Proofs.Ytkdeaogmifhnhaa
open Go.RowKit

theorem fnd_none {k : Kb} {l : List Cx} (h : ∀ y ∈ l, y.k ≠ k) : (fnd k l).2 = false := by
  induction l with
  | nil => rfl
  | cons x l ih => rw [fnd_miss l (h x (by simp))]; exact ih fun y hy => h y (by simp [hy])
/-- What is lacking, as the document looks it up. -/
theorem lck_look {B : List Cx} (hB : Rising B) (c : Cx) : cov (dw c B) c = ((fnd c.k B).2 && decide (0 ≤ cv (fnd c.k B).1 c.v)) := by
  induction B with
  | nil => rfl
  | cons x B ih =>
    obtain ⟨h1, h2⟩ := List.pairwise_cons.1 hB
    by_cases hx : kx x c < 0
    · rw [dw_drop hx, ih h2, fnd_miss B (kx_ne hx)]
    · rw [dw_stay hx]
      by_cases hk : x.k = c.k
      · rw [cov_same hk, fnd_hit B hk]; simp
      · rw [cov_other hk, fnd_miss B hk, fnd_none fun y hy e => ?_]
        · rfl
        · have h3 := h1 y hy
          have h4 : kx x c < 0 := by rw [← kx_right e]; exact h3
          exact hx h4
end Go.Proofs.Ytkdeaogmifhnhaa

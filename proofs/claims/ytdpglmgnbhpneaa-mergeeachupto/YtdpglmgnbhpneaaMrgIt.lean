/-
  WHAT IS RANGED OVER: the cells of many lists by their keys (byKeys). WHAT IS RANGED OVER: the cells of many lists, joined, and how many lists have each (Each). CONTRACTS: a list's Norm in new memory (norm of merge), and what Each lays (Each).
-/
import Derived.Test.YtdpglmgnbhpneaaMrgLow
import Derived.Test.YtdpglmgnbhpneaaBlk
import Derived.Test.YtdpglmgnbhpneaaCxNorm
import Derived.Test.YtdpglmgnbhpneaaCxSorted
import Derived.Test.YtdpglmgnbhpneaaNormGood
namespace Go.Proofs.Ytdpglmgnbhpneaa
open Go.RowKit Go.Shelf

attribute [local go_sem] Oper.semAt_some

def lenOf : Option Value → Nat
  | some (.slice _ n _) => n
  | _ => 0
/-- How many cells are still to come. -/
def mass (s : Value) (w : World) : Nat := match s with
  | .slice (some a) n _ => ((List.range n).map fun i => lenOf (w.cell? ⟨a.block, i * 2, none⟩)).sum
  | _ => 0
theorem prs_len (M : List Hd) : (prs M).length = (M.map fun h => h.r.length + 1).sum := by
  unfold prs
  rw [List.length_flatMap]
  congr 1
  exact List.map_congr_left fun h _ => by simp [Hd.all]
theorem mass_at {w : World} {B g cap : Nat} {M : List Hd} (h : HRow w B g cap M) : mass (.slice (some ⟨g, 0, none⟩) M.length cap) w = (prs M).length := by
  rw [prs_len]
  show ((List.range M.length).map fun i => lenOf (w.cell? ⟨g, i * 2, none⟩)).sum = _
  congr 1
  refine List.ext_getElem? fun i => ?_
  rcases Nat.lt_or_ge i M.length with hi | hi
  · have e : M[i]? = some M[i] := List.getElem?_eq_getElem hi
    rw [List.getElem?_map, List.getElem?_map, e, List.getElem?_range hi]
    simp only [Option.map_some]
    rw [(h.cell e).1]; rfl
  · rw [List.getElem?_eq_none (by simpa using hi), List.getElem?_eq_none (by simpa using hi)]
theorem tenBlk {w w' : World} {b o : Nat} {c : Cx} (h : TenX w b o c) (e : w'.heap[b]? = w.heap[b]?) : TenX w' b o c := by
  have hc : ∀ k, w'.cell? ⟨b, k, none⟩ = w.cell? ⟨b, k, none⟩ := fun k => by simp only [World.cell?, e]
  exact ⟨(hc _).trans h.c0, (hc _).trans h.c1, (hc _).trans h.c2, (hc _).trans h.c3, (hc _).trans h.c4, (hc _).trans h.c5, (hc _).trans h.c6, (hc _).trans h.c7, (hc _).trans h.c8, (hc _).trans h.c9⟩
theorem HIn.spared {w w' : World} {Ex : Nat → Prop} {n z : Nat} {L : List Hd} (h : HIn w (fun k => k < n ∧ ¬ Ex k) L) (hs : Spared Ex z w w') (hz : n ≤ z) : HIn w' (fun k => k < n ∧ ¬ Ex k) L := fun x hx => by
  obtain ⟨h1, h2, h3⟩ := h x hx
  refine ⟨fun i c hc => ?_, h2, h3⟩
  obtain ⟨b, o, e, t⟩ := h1 i c hc
  have := h2 _ e
  exact ⟨b, o, e, tenBlk t (hs.block b (by have := this.1; simp at this; omega) this.2)⟩
theorem ownsRow_blk {w w' : World} {B : Nat} {e : TypeId} {k n : Nat} {v : Value} {xs : List Value} (h : w.ownsRow B e k v n xs) (hb : ∀ g, v.ownBlock = some g → w'.heap[g]? = w.heap[g]?) : w'.ownsRow B e k v n xs := by
  obtain ⟨h1, h2⟩ := h
  refine ⟨h1, ?_⟩
  rcases h2 with h2 | ⟨g, cap, cur, rfl, hg, hh, hr⟩
  · exact .inl h2
  · exact .inr ⟨g, cap, cur, rfl, hg, (hb g rfl).trans hh, hr⟩
set_option maxRecDepth 100000 in
set_option maxHeartbeats 4000000 in
theorem byKeys1_zone (n : Nat) (hn : 1 ≤ n) (Ex : Nat → Prop) (Fp : World → Nat → Prop) (Bn : Nat) (lo : Option Addr) (vs : List Lv) (lcap : Nat) (R : List (Cx × Nat)) (w : World) (hBn : w.cell? ⟨Bn, 0, none⟩ = some (.slice lo vs.length lcap)) (hEx : ∀ k, Ex k → k < w.heap.size)
    (hs : LSees w lo vs) (hin : ∀ v ∈ vs, v.At w (fun k => k < w.heap.size ∧ ¬ Ex k)) (hr : ∀ v ∈ vs, Rising v.l) (hl : vs.length ≤ 1000) (hS : SS R) (hP : R.Perm (prL (vs.map Lv.l))) :
    SeqZ Fence.wide n Try.prog 43 #[.pointer (some ⟨Bn, 0, none⟩)] (fun c : Cx => #[c.val]) Ex Fp (R.map Prod.fst) w := by
  intro l J Jx W hW hJ hJx h0 hFp hY
  have hro : Fence.wide.round = none := rfl
  have hBl := World.block_lt_of_cell? _ _ hBn
  have hwW := hW.size
  have hc : W.cell? ⟨Bn, 0, none⟩ = some (.slice lo vs.length lcap) := (hW.cell (p := ⟨Bn, 0, none⟩) hBl).trans hBn
  have NH : Hid (Calls Try.prog 44 #[.slice lo vs.length lcap] W fun e w' => ∃ (v : Value) (M : List Hd), e = .returned v ∧ HsAt w' W.heap.size v M ∧ (prs M).Perm (prL (vs.map Lv.l)) ∧ HFrom M 0 ∧ HIn w' (fun k => k < w.heap.size ∧ ¬ Ex k) M ∧ (∀ x ∈ M, Rising (x.c :: x.r)) ∧ M.length ≤ vs.length ∧ Below W.heap.size W w') :=
    newHeads_any _ lo vs lcap W (fun k hk => by have := hk.1; omega) (hs.below hW (Nat.le_refl _)) (fun v hv => (hin v hv).below (fun k hk => hk.1) hW) hr hl
  clear hs hin hr hBn
  refine callsIn_of_wp Try.func43 rfl trivial ?_ hro
  simp only [Try.ntmps43, List.size_toArray, List.length_cons, List.length_nil, Nat.reduceAdd, Nat.reduceSub, Array.replicate_succ, Array.replicate_zero, List.push_toArray, List.append_toArray, List.nil_append, List.cons_append]
  gi_wp2_with (refine ⟨trivial, ?_⟩; gi_at_call 44; refine (callsIn_wide.2 NH.out).mono ?_; rintro e W1 ⟨v, M, rfl, hM, hMp, hMF, hMI, hMR, hML, hMB⟩)
  have hgM : ∀ g, v.ownBlock = some g → g < W1.heap.size := fun g hg => (hM.lt g hg).2
  have h0' := h0 W1 hMB
  have hMs := hMB.size
  clear NH hc h0
  gi_loopw [3] (fun s3 wr => ∃ (z : Nat) (M : List Hd) (pre rest : List (Cx × Nat)), R = pre ++ rest ∧ HsAt wr W.heap.size s3 M ∧ HFrom M 0 ∧ HIn wr (fun k => k < w.heap.size ∧ ¬ Ex k) M ∧ (∀ x ∈ M, Rising (x.c :: x.r)) ∧ M.length ≤ vs.length ∧ rest.Perm (prs M) ∧ J z (pre.map Prod.fst) wr ∧ W.heap.size ≤ z ∧ z ≤ wr.heap.size ∧ (∀ g, s3.ownBlock = some g → g < z))
    (fun s3 wr => mass s3 wr)
  case atStart =>
    exact ⟨W1.heap.size, M, [], R, rfl, hM, hMF, hMI, hMR, hML, hP.trans hMp.symm, h0', hMs, Nat.le_refl _, hgM⟩
  case round =>
    clear hM hMp hMF hMI hMR hML hMB hgM h0' hMs
    obtain ⟨z, M, pre, rest, hR, hM, hMF, hMI, hMR, hML, hrp, hJs, hz1, hz2, hgz⟩ := hrel
    cases M with
    | nil =>
      have hre : rest = [] := List.Perm.eq_nil hrp
      obtain ⟨ao, cap, rfl, -, -⟩ := owns_recs hv2_len hM
      have HE : Hid (J z (R.map Prod.fst) wr) := by rw [hR, hre, List.append_nil]; exact hJs
      clear hM hMF hMI hMR hrp hJs hgz hY
      simp only [List.length_nil]
      gi_wp2
      go_end0
      exact ⟨⟨_, rfl⟩, z, hz1, hz2, .inl HE.out⟩
    | cons a T =>
      have hSr : SS rest := by rw [hR] at hS; exact (List.pairwise_append.1 hS).2.1
      obtain ⟨rest', hre, hSr', hrp'⟩ := ss_next hMF hMR hSr hrp
      obtain ⟨g, cap, rfl⟩ := hM.form (by simp)
      have hgz' := hgz g rfl
      have hrow : HRow wr W.heap.size g cap (a :: T) := hM
      have hgW := hrow.base.1
      obtain ⟨hia, hla, -⟩ := hMI a (by simp)
      obtain ⟨b, o, hao, t⟩ := hia.ten
      obtain ⟨c0, -⟩ := hrow.cell (i := 0) rfl
      have hmass := mass_at hrow
      have hFk : Hid (∀ k, Fp wr k → (Ex k ∨ z ≤ k) ∧ k < wr.heap.size) := hFp z (pre.map Prod.fst) wr hJs
      have hlen0 : (0 : Int) < (T.length : Int) + 1 := by omega
      have hpre : (pre.map Prod.fst) ++ [a.c] <+: R.map Prod.fst := ⟨rest'.map Prod.fst, by rw [hR, hre]; simp [Hd.p]⟩
      obtain ⟨fn, tmps, assign, body, hy, hRd⟩ := hY z (pre.map Prod.fst) a.c wr hJs hz1 hz2 hpre
      -- what follows a round that goes on
      have HN : Hid (∀ W3, J z (pre.map Prod.fst ++ [a.c]) W3 → Spared Ex z wr W3 → Calls Try.prog 45 #[.slice (some ⟨g, 0, none⟩) (T.length + 1) cap] W3 fun e w' => ∃ M' : List Hd, e = .returned (.slice (some ⟨g, 0, none⟩) M'.length cap) ∧
          (∃ (z : Nat) (M : List Hd) (pre rest : List (Cx × Nat)), R = pre ++ rest ∧ HsAt w' W.heap.size (.slice (some ⟨g, 0, none⟩) M'.length cap) M ∧ HFrom M 0 ∧ HIn w' (fun k => k < w.heap.size ∧ ¬ Ex k) M ∧ (∀ x ∈ M, Rising (x.c :: x.r)) ∧ M.length ≤ vs.length ∧ rest.Perm (prs M) ∧ J z (pre.map Prod.fst) w' ∧ W.heap.size ≤ z ∧ z ≤ w'.heap.size ∧ (∀ g', (Value.slice (some ⟨g, 0, none⟩) M'.length cap).ownBlock = some g' → g' < z)) ∧
          mass (.slice (some ⟨g, 0, none⟩) M'.length cap) w' < (prs (a :: T)).length) := fun W3 hJ3 hs3 => by
        have hnE : ¬ Ex g := fun e => by have := hEx g e; omega
        have hrow3 : HRow W3 W.heap.size g cap (a :: T) := ownsRow_blk hrow fun g' hg' => by
          have : g' = g := by simpa [Value.ownBlock] using hg'.symm
          subst this
          exact hs3.block _ hgz' hnE
        have hMI3 := hMI.spared hs3 (by omega)
        refine (next_any W.heap.size g cap (fun k => k < w.heap.size ∧ ¬ Ex k) (fun k hk => by have := hk.1; omega) a T W3 hrow3 hMI3 hMF hMR (by simp at hML; omega)).mono ?_
        rintro e w' ⟨M', he, hln, hr', hf', hi', hR', hp', hz'⟩
        have hpl : (prs M').length < (prs (a :: T)).length := by
          rw [hp'.length_eq]
          show _ < (a.all ++ prs T).length
          simp [Hd.all]
        have hle : M'.length ≤ (a :: T).length := hln
        refine ⟨M', he, ⟨z, M', pre ++ [a.p], rest', by rw [hR, hre]; simp, hr', hf', hi', hR', Nat.le_trans hle hML, hrp'.trans hp'.symm, ?_, hz1, ?_, ?_⟩, by rw [mass_at hr']; exact hpl⟩
        · rw [List.map_append]
          exact hJ _ _ _ _ hJ3 (hz'.wide hgW (by omega))
        · have := hs3.size; have := hz'.size; omega
        · intro g' hg'
          have : g' = g := by simpa [Value.ownBlock] using hg'.symm
          omega
      rw [← hmass] at HN
      obtain ⟨ao, acap, c, r, pl⟩ := a
      simp only at hao t c0 hy hRd HN
      subst hao
      obtain ⟨⟨xa, xp, xr, xc⟩, ⟨xt, xd, xl, xk, xn, xs⟩⟩ := c
      obtain ⟨x0, x1, x2, x3, x4, x5, x6, x7, x8, x9⟩ := t
      simp only [Cx.val, Cx.a, Nat.zero_mul, List.length_cons] at x0 x1 x2 x3 x4 x5 x6 x7 x8 x9 hy c0 HN ⊢
      have hrl : (0 : Int) < (r.length : Int) + 1 := by omega
      clear hM hMF hMI hMR hrp hJs hgz hY hrow hia hla hmass hSr hSr' hrp' hre hR hJ hFp
      gi_wp2
      refine hRd.mono ?_
      rintro e W3 (⟨rfl, hJ3, hs3⟩ | ⟨rfl, hJx3, hs3⟩)
      · have HN3 : Hid _ := HN.out W3 hJ3 (hs3.plain hz2 hFk.out)
        clear HN hJ3 hs3 x0 x1 x2 x3 x4 x5 x6 x7 x8 x9 c0
        dsimp only
        gi_wp2_with (refine ⟨trivial, ?_⟩; gi_at_call 45; refine (callsIn_wide.2 HN3.out).mono ?_; rintro e w4 ⟨M', rfl, hrel', hmm⟩)
        go_roundw
        case rel => exact hrel'
        case measure => exact hmm
      · clear HN x0 x1 x2 x3 x4 x5 x6 x7 x8 x9 c0
        dsimp only
        gi_wp2
        refine bodyPost_ret (results_none rfl _ _ _) rfl ?_
        exact ⟨⟨_, rfl⟩, z, hz1, by have := hs3.size; omega, .inr ⟨_, hpre, hJx3⟩⟩
end Go.Proofs.Ytdpglmgnbhpneaa
namespace Go.Proofs.Ytdpglmgnbhpneaa
open Go.RowKit Go.Shelf

attribute [local go_sem] Oper.semAt_some

theorem j2_mono {p : List Cx} (hp : p ≠ []) (q : List Cx) : (j2 p).dropLast <+: (j2 (p ++ q)).dropLast := by
  refine snoc_ind (P := fun q => (j2 p).dropLast <+: (j2 (p ++ q)).dropLast) (by rw [List.append_nil]; exact List.prefix_refl _) (fun q x ih => ?_) q
  rw [← List.append_assoc, j2_snoc]
  refine ih.trans ?_
  have hne : j2 (p ++ q) ≠ [] := j2_ne (by simp [hp])
  rcases List.eq_nil_or_concat (j2 (p ++ q)) with e | ⟨O, y, e⟩
  · exact absurd e hne
  · rw [List.concat_eq_append] at e
    rw [e]
    by_cases hk : kx y.1 x = 0
    · rw [j2S_same hk]; simp
    · rw [j2S_other hk]; simp
theorem yield_in {P : Program} {m m' l l2 : Nat} {args : Array Value} {W : World} {R : Ending → World → Prop} (h : YieldAt Fence.wide m P l args W R) : YieldAt (Fence.wide.inRound l2) m' P l args W R := by
  obtain ⟨fn, tmps, assign, body, hy, hR⟩ := h
  exact ⟨fn, tmps, assign, body, hy, hR.1, fun c cs _ => hR.2 c cs (fun d h => by cases h)⟩
theorem byKeys_any (lo : Option Addr) (k lcap : Nat) (w : World) :
    Calls Try.prog 30 #[.slice lo k lcap] w fun e w' => e = .returned (.func (.func 43) #[] #[.pointer (some ⟨w.heap.size, 0, none⟩)]) ∧ w' = w.alloc (.cells #[.slice lo k lcap] 22) := by
  go_enter Try.func30, Try.ntmps30
  go_wp2_with fail
  go_ret
  exact ⟨rfl, rfl⟩
/-- Ten cells into a block. -/
def s10 (w : World) (g : Nat) (c : Cx) : World := (((((((((w.setCell ⟨g, 0, none⟩ (.string c.k.t)).setCell ⟨g, 1, none⟩ (.string c.k.p)).setCell ⟨g, 2, none⟩ (.int .i64 c.k.r)).setCell ⟨g, 3, none⟩ (.string c.k.c)).setCell ⟨g, 4, none⟩ (.int .i64 c.v.time)).setCell ⟨g, 5, none⟩ (.bool c.v.dead)).setCell ⟨g, 6, none⟩ (.int .i64 c.v.loc)).setCell ⟨g, 7, none⟩ (.int .i64 c.v.kind)).setCell ⟨g, 8, none⟩ (.int .i64 c.v.num)).setCell ⟨g, 9, none⟩ (.string c.v.s)
theorem blk_s10 {w : World} {g : Nat} {t : TypeId} {x : Cx} (h : Blk w g (xs10 x) t) (c : Cx) : Blk (s10 w g c) g (xs10 c) t ∧ w.grownBy (s10 w g c) (some g) :=
  ⟨(((((((((h.set 0 _).set 1 _).set 2 _).set 3 _).set 4 _).set 5 _).set 6 _).set 7 _).set 8 _).set 9 _, grownBy_setCell (grownBy_setCell (grownBy_setCell (grownBy_setCell (grownBy_setCell (grownBy_setCell (grownBy_setCell (grownBy_setCell (grownBy_setCell (grownBy_setCell ⟨rfl, rfl, rfl, Nat.le_refl _, fun _ _ _ => rfl⟩)))))))))⟩
def s6 (w : World) (g : Nat) (v : Vr) : World := (((((w.setCell ⟨g, 4, none⟩ (.int .i64 v.time)).setCell ⟨g, 5, none⟩ (.bool v.dead)).setCell ⟨g, 6, none⟩ (.int .i64 v.loc)).setCell ⟨g, 7, none⟩ (.int .i64 v.kind)).setCell ⟨g, 8, none⟩ (.int .i64 v.num)).setCell ⟨g, 9, none⟩ (.string v.s)
theorem blk_s6 {w : World} {g : Nat} {t : TypeId} {x : Cx} (h : Blk w g (xs10 x) t) (v : Vr) : Blk (s6 w g v) g (xs10 ⟨x.k, v⟩) t ∧ w.grownBy (s6 w g v) (some g) :=
  ⟨(((((h.set 4 _).set 5 _).set 6 _).set 7 _).set 8 _).set 9 _, grownBy_setCell (grownBy_setCell (grownBy_setCell (grownBy_setCell (grownBy_setCell (grownBy_setCell ⟨rfl, rfl, rfl, Nat.le_refl _, fun _ _ _ => rfl⟩)))))⟩
/-- Between two rounds. -/
structure EI (J : Nat → List (Cx × Nat) → World → Prop) (l Y z : Nat) (pre : List Cx) (W : World) : Prop where
  by' : Blk W Y [.func (.yield l) #[] #[]] 53
  st : ∃ (y : Cx) (m : Nat), Blk W (Y + 1) (xs10 y) 39 ∧ Blk W (Y + 1 + 1) [.int .i64 m] 3 ∧ ((pre = [] ∧ m = 0) ∨ ∃ O, j2 pre = O ++ [(y, m)])
  j : J z (j2 pre).dropLast W
theorem zoned_blk {a z : Nat} {X Y : World} (h : Zoned a z X Y) {g : Nat} {cs : List Value} {t : TypeId} (hb : Blk X g cs t) (hg : g < a) : Blk Y g cs t := hb.carry (h.block g hb.lt (.inl hg))
theorem EI.zoned {J : Nat → List (Cx × Nat) → World → Prop} {l Y z a : Nat} {pre : List Cx} {X X' : World} (h : EI J l Y z pre X) (hz : Zoned a z X X') (ha : Y + 3 ≤ a) (hJ : ∀ z pre X X', J z pre X → Zoned Y z X X' → J z pre X') : EI J l Y z pre X' := by
  obtain ⟨h1, ⟨y, m, h2, h3, h4⟩, h5⟩ := h
  exact ⟨zoned_blk hz h1 (by omega), ⟨y, m, zoned_blk hz h2 (by omega), zoned_blk hz h3 (by omega), h4⟩, hJ _ _ _ _ h5 (hz.wide (by omega) (Nat.le_refl _))⟩
theorem put_state {J : Nat → List (Cx × Nat) → World → Prop} {l Y z : Nat} {X : World} {y : Cx} {v : Value} {O : List (Cx × Nat)} (hJ : ∀ z pre X X', J z pre X → Zoned Y z X X' → J z pre X') (hz : Y + 3 ≤ z)
    (b1 : Blk X Y [.func (.yield l) #[] #[]] 53) (b2 : Blk X (Y + 1) (xs10 y) 39) (b3 : Blk X (Y + 1 + 1) [v] 3) (hj : J z O X) (x : Cx) (m : Nat) (pre : List Cx) (h : j2 pre = O ++ [(x, m)]) :
    EI J l Y z pre ((s10 X (Y + 1) x).setCell ⟨Y + 1 + 1, 0, none⟩ (.int .i64 m)) ∧ Zoned (Y + 1) (Y + 1 + 2) X ((s10 X (Y + 1) x).setCell ⟨Y + 1 + 1, 0, none⟩ (.int .i64 m)) := by
  obtain ⟨c2, g2⟩ := blk_s10 b2 x
  have c3 : Blk (s10 X (Y + 1) x) (Y + 1 + 1) [v] 3 := b3.carry (g2.block _ b3.lt (by simp))
  have g3 := grownBy_setCell' (s10 X (Y + 1) x) (Y + 1 + 1) (.int .i64 m)
  have zz : Zoned (Y + 1) (Y + 1 + 2) X ((s10 X (Y + 1) x).setCell ⟨Y + 1 + 1, 0, none⟩ (.int .i64 m)) := (Zoned.of_grown g2 (fun k e => by cases e; omega)).trans (.of_grown g3 (fun k e => by cases e; omega))
  refine ⟨⟨?_, ⟨x, m, ?_, c3.set 0 _, .inr ⟨O, h⟩⟩, ?_⟩, ?_⟩
  · exact b1.carry ((g3.block _ (by have := b1.lt; have := g2.size; omega) (by simp; omega)).trans (g2.block _ b1.lt (by simp)))
  · exact c2.carry (g3.block _ c2.lt (by simp))
  · rw [h, List.dropLast_concat]; exact hJ _ _ _ _ hj (zz.wide (by omega) (by omega))
  · exact zz
theorem put_state6 {J : Nat → List (Cx × Nat) → World → Prop} {l Y z : Nat} {X : World} {y : Cx} {v : Value} {O : List (Cx × Nat)} (hJ : ∀ z pre X X', J z pre X → Zoned Y z X X' → J z pre X') (hz : Y + 3 ≤ z)
    (b1 : Blk X Y [.func (.yield l) #[] #[]] 53) (b2 : Blk X (Y + 1) (xs10 y) 39) (b3 : Blk X (Y + 1 + 1) [v] 3) (hj : J z O X) (u : Vr) (m : Nat) (pre : List Cx) (h : j2 pre = O ++ [(⟨y.k, u⟩, m)]) :
    EI J l Y z pre ((s6 X (Y + 1) u).setCell ⟨Y + 1 + 1, 0, none⟩ (.int .i64 m)) ∧ Zoned (Y + 1) (Y + 1 + 2) X ((s6 X (Y + 1) u).setCell ⟨Y + 1 + 1, 0, none⟩ (.int .i64 m)) := by
  obtain ⟨c2, g2⟩ := blk_s6 b2 u
  have c3 : Blk (s6 X (Y + 1) u) (Y + 1 + 1) [v] 3 := b3.carry (g2.block _ b3.lt (by simp))
  have g3 := grownBy_setCell' (s6 X (Y + 1) u) (Y + 1 + 1) (.int .i64 m)
  have zz : Zoned (Y + 1) (Y + 1 + 2) X ((s6 X (Y + 1) u).setCell ⟨Y + 1 + 1, 0, none⟩ (.int .i64 m)) := (Zoned.of_grown g2 (fun k e => by cases e; omega)).trans (.of_grown g3 (fun k e => by cases e; omega))
  refine ⟨⟨?_, ⟨_, m, ?_, c3.set 0 _, .inr ⟨O, h⟩⟩, ?_⟩, ?_⟩
  · exact b1.carry ((g3.block _ (by have := b1.lt; have := g2.size; omega) (by simp; omega)).trans (g2.block _ b1.lt (by simp)))
  · exact c2.carry (g3.block _ c2.lt (by simp))
  · rw [h, List.dropLast_concat]; exact hJ _ _ _ _ hj (zz.wide (by omega) (by omega))
  · exact zz
/-- Behind a call that lays new blocks alone, and a round of the owner's. -/
theorem SparedF.behind {Y : Nat} {Fp : World → Nat → Prop} {X U U' U2 : World} (hU : Below X.heap.size X U) (hF : ∀ k, Fp U k → Fp X k) (hs : SparedF Fp U U') (hz : Zoned Y (Y + 2) U' U2) : SparedF (fun X k => k = Y ∨ k = Y + 1 ∨ Fp X k) X U2 :=
  ⟨hz.os.trans (hs.os.trans hU.os), hz.tape.trans (hs.tape.trans hU.tape), hz.output.trans (hs.output.trans hU.output), Nat.le_trans hU.size (Nat.le_trans hs.size hz.size), fun k hk hn => by
    have n1 : k ≠ Y := fun e => hn (.inl e)
    have n2 : k ≠ Y + 1 := fun e => hn (.inr (.inl e))
    exact ((hz.block k (Nat.lt_of_lt_of_le hk (Nat.le_trans hU.size hs.size)) (by omega)).trans (hs.block k (Nat.lt_of_lt_of_le hk hU.size) (fun e => hn (.inr (.inr (hF k e)))))).trans (hU.block k hk)⟩
theorem SparedF.refl (Fp : World → Nat → Prop) (W : World) : SparedF Fp W W := ⟨rfl, rfl, rfl, Nat.le_refl _, fun _ _ _ => rfl⟩
set_option maxRecDepth 100000 in
set_option maxHeartbeats 8000000 in
theorem each1_zone (n : Nat) (hn : 4 ≤ n) (Ex : Nat → Prop) (Fp : World → Nat → Prop) (hT : Told Ex Fp) (Bn : Nat) (lo : Option Addr) (vs : List Lv) (lcap : Nat) (R : List (Cx × Nat)) (w : World) (hBn : w.cell? ⟨Bn, 0, none⟩ = some (.slice lo vs.length lcap)) (hEx : ∀ k, Ex k → k < w.heap.size)
    (hs : LSees w lo vs) (hin : ∀ v ∈ vs, v.At w (fun k => k < w.heap.size ∧ ¬ Ex k)) (hr : ∀ v ∈ vs, Rising v.l) (hl : vs.length ≤ 1000) (hS : SS R) (hP : R.Perm (prL (vs.map Lv.l))) (hRl : R.length ≤ 1000000) :
    SeqZ Fence.wide n Try.prog 29 #[.pointer (some ⟨Bn, 0, none⟩)] (fun p : Cx × Nat => #[p.1.val, .int .i64 p.2]) Ex Fp (j2 (R.map Prod.fst)) w := by
  intro l J Jx W hW hJ hJx h0 hFp hY
  have hro : Fence.wide.round = none := rfl
  have h1 : 1 ≤ n := by omega
  have hBl := World.block_lt_of_cell? _ _ hBn
  have hwW := hW.size
  have hBk : ∀ (W' : World), Below W.heap.size W W' → W'.cell? ⟨Bn, 0, none⟩ = some (.slice lo vs.length lcap) := fun W' hb => (hb.cell (p := ⟨Bn, 0, none⟩) (by show Bn < _; exact Nat.lt_of_lt_of_le hBl hwW)).trans ((hW.cell (p := ⟨Bn, 0, none⟩) hBl).trans hBn)
  refine callsIn_of_wp_marks Try.func29 rfl trivial ?_ hro
  simp only [Try.ntmps29, List.size_toArray, List.length_cons, List.length_nil, Nat.reduceAdd, Nat.reduceSub, Array.replicate_succ, Array.replicate_zero, List.push_toArray, List.append_toArray, List.nil_append, List.cons_append]
  obtain ⟨w0, hw0⟩ : ∃ w0, w0 = ((W.alloc (.cells #[.func (.yield l) #[] #[]] 53)).alloc (.cells #[.string ⟨#[]⟩, .string ⟨#[]⟩, .int .i64 0, .string ⟨#[]⟩, .int .i64 0, .bool false, .int .i64 0, .int .i64 0, .int .i64 0, .string ⟨#[]⟩] 39)).alloc (.cells #[.int .i64 0] 3) := ⟨_, rfl⟩
  have hB0 : Below W.heap.size W w0 := by rw [hw0]; exact (((Below.refl _ _).alloc (Nat.le_refl _) _).alloc (by simp) _).alloc (by simp; omega) _
  have hs0 : w0.heap.size = W.heap.size + 1 + 1 + 1 := by rw [hw0]; simp
  have hc0 := hBk w0 hB0
  rw [hw0] at hc0
  have BK : Hid (∀ w, Calls Try.prog 30 #[.slice lo vs.length lcap] w fun e w' => e = .returned (.func (.func 43) #[] #[.pointer (some ⟨w.heap.size, 0, none⟩)]) ∧ w' = w.alloc (.cells #[.slice lo vs.length lcap] 22)) := byKeys_any lo vs.length lcap
  gi_wp2_with (refine ⟨trivial, ?_⟩; gi_at_call 30; refine (callsIn_wide.2 (BK.out _)).mono ?_; rintro e w' ⟨rfl, rfl⟩)
  rw [← hw0]
  obtain ⟨w1, hw1⟩ : ∃ w1, w1 = w0.alloc (.cells #[.slice lo vs.length lcap] 22) := ⟨_, rfl⟩
  rw [← hw1]
  have hs1 : w1.heap.size = W.heap.size + 1 + 1 + 1 + 1 := by rw [hw1, World.size_alloc, hs0]
  have hB1 : Below W.heap.size W w1 := by rw [hw1]; exact hB0.alloc hB0.size _
  have hcK : w1.cell? ⟨W.heap.size + 1 + 1 + 1, 0, none⟩ = some (.slice lo vs.length lcap) := by rw [hw1, ← hs0]; exact (Blk.new w0 [.slice lo vs.length lcap] _).cell 0 rfl
  have hEx1 : ∀ k, (k = W.heap.size + 1 ∨ k = W.heap.size + 1 + 1 ∨ Ex k) → k < w1.heap.size := fun k hk => by
    rcases hk with rfl | rfl | hk
    · omega
    · omega
    · have := hEx k hk; omega
  have b1 : Blk w1 W.heap.size [.func (.yield l) #[] #[]] 53 := by rw [hw1, hw0]; exact (((Blk.new W [.func (.yield l) #[] #[]] _).alloc _).alloc _).alloc _
  have b2 : Blk w1 (W.heap.size + 1) (xs10 ⟨⟨⟨#[]⟩, ⟨#[]⟩, 0, ⟨#[]⟩⟩, ⟨0, false, 0, 0, 0, ⟨#[]⟩⟩⟩) 39 := by
    have h := Blk.new (W.alloc (.cells #[.func (.yield l) #[] #[]] 53)) (xs10 ⟨⟨⟨#[]⟩, ⟨#[]⟩, 0, ⟨#[]⟩⟩, ⟨0, false, 0, 0, 0, ⟨#[]⟩⟩⟩) 39
    rw [World.size_alloc] at h
    rw [hw1, hw0]; exact (h.alloc _).alloc _
  have b3 : Blk w1 (W.heap.size + 1 + 1) [.int .i64 0] 3 := by
    have h := Blk.new ((W.alloc (.cells #[.func (.yield l) #[] #[]] 53)).alloc (.cells #[.string ⟨#[]⟩, .string ⟨#[]⟩, .int .i64 0, .string ⟨#[]⟩, .int .i64 0, .bool false, .int .i64 0, .int .i64 0, .int .i64 0, .string ⟨#[]⟩] 39)) [.int .i64 0] 3
    rw [World.size_alloc, World.size_alloc] at h
    rw [hw1, hw0]; exact h.alloc _
  have hw01 : Below w.heap.size w w1 := hW.trans (hB1.mono hwW)
  clear hw0 hw1 hc0 BK hBk hBn
  refine range_zone (I := fun z pre X => EI J l W.heap.size z pre X) (Ix := fun c z _ X => c = .ret ∧ ∃ q, q <+: j2 (R.map Prod.fst) ∧ Jx z q X) (Ex := fun k => k = W.heap.size + 1 ∨ k = W.heap.size + 1 + 1 ∨ Ex k) (Fp := fun X k => k = W.heap.size + 1 ∨ k = W.heap.size + 1 + 1 ∨ Fp X k) (xs := R.map Prod.fst) (encs := fun c : Cx => #[c.val]) hro h1 (gf := 43) (lb := #[.pointer (some ⟨W.heap.size + 1 + 1 + 1, 0, none⟩)]) rfl trivial (enters_of Try.func43 (by kernel_rfl) rfl)
    (byKeys1_zone (n - 1) (by omega) _ _ (W.heap.size + 1 + 1 + 1) lo vs lcap R w1 hcK hEx1 (hs.below hw01 (Nat.le_refl _)) ?hin hr hl hS hP) hEx1 ?told (fun _ => rfl) ?hI ?hIx ?hF ?h0 ?round ?done ?stop
  case hin =>
    intro v hv
    obtain ⟨v1, v2, v3⟩ := (hin v hv).below (fun k hk => hk.1) hw01
    refine ⟨v1, fun a e => ?_, v3⟩
    have := v2 a e
    refine ⟨by have := this.1; omega, fun h => ?_⟩
    rcases h with h | h | h
    · have := this.1; omega
    · have := this.1; omega
    · exact this.2 h
  case told =>
    intro X Y' hXY k hk
    rcases hk with h | h | h
    · exact .inl h
    · exact .inr (.inl h)
    · exact .inr (.inr (hT X Y' (fun j hj => hXY j (.inr (.inr hj))) k h))
  case hI => exact fun z pre X X' h hz => h.zoned hz (by omega) hJ
  case hIx =>
    rintro c z pre X X' ⟨hc, q, hq, hx⟩ hz
    exact ⟨hc, q, hq, hJx _ _ _ _ hx (hz.wide (by omega) (Nat.le_refl _))⟩
  case hF =>
    rintro z pre X h k (rfl | rfl | hk)
    · obtain ⟨y, m, hb, -, -⟩ := h.st
      exact ⟨.inl (.inl rfl), hb.lt⟩
    · obtain ⟨y, m, -, hb, -⟩ := h.st
      exact ⟨.inl (.inr (.inl rfl)), hb.lt⟩
    · have := hFp _ _ _ h.j k hk
      refine ⟨?_, this.2⟩
      rcases this.1 with h | h
      · exact .inl (.inr (.inr h))
      · exact .inr h
  case h0 =>
    intro V hV _
    refine ⟨b1.carry (hV.block _ (by omega)), ⟨_, 0, b2.carry (hV.block _ (by omega)), b3.carry (hV.block _ (by omega)), .inl ⟨rfl, rfl⟩⟩, ?_⟩
    exact h0 V (hB1.trans (hV.mono (by omega)))
  case round =>
    intro l2 z pre x V K hz hzV hi hpre hK
    obtain ⟨⟨xa, xp, xr, xc⟩, ⟨xt, xd, xl, xk, xn, xs⟩⟩ := x
    simp only [Cx.val, Cx.a]
    gi_wp2
    refine hK _ _ ((Below.refl _ _).alloc (Nat.le_refl _) _) ?_
    intro W2 hz2 hsz2
    clear hK K
    rw [World.size_alloc] at hsz2
    have hVW : Zoned w1.heap.size z V W2 := ((Zoned.refl _ _ _).alloc _).trans (hz2.wide (Nat.le_refl _) hz)
    obtain ⟨q1, ⟨y, m, q2, q3, q4⟩, q5⟩ := hi.zoned hVW (by omega) hJ
    have bx : Blk W2 V.heap.size [.string xa, .string xp, .int .i64 xr, .string xc, .int .i64 xt, .bool xd, .int .i64 xl, .int .i64 xk, .int .i64 xn, .string xs] 39 := (Blk.new V [.string xa, .string xp, .int .i64 xr, .string xc, .int .i64 xt, .bool xd, .int .i64 xl, .int .i64 xk, .int .i64 xn, .string xs] _).carry (hz2.block _ (by simp) (.inr (by omega)))
    have HFU : Hid (∀ U, Below W2.heap.size W2 U → (∀ k, Fp U k → Fp W2 k) ∧ ¬ Fp U V.heap.size) := fun U hU => by
      have e1 : ∀ j, Ex j → U.heap[j]? = W2.heap[j]? := fun j hj => hU.block j (by have := hEx j hj; omega)
      have e2 : ∀ j, Ex j → W2.heap[j]? = V.heap[j]? := fun j hj => by
        have := hEx j hj
        exact (hz2.block j (by simp; omega) (.inl (by omega))).trans (Below.heap_alloc _ _ _ (by omega))
      refine ⟨hT W2 U e1, fun hf => ?_⟩
      have := (hFp _ _ _ hi.j _ (hT V W2 e2 _ (hT W2 U e1 _ hf))).2
      omega
    clear hz2 hi hVW
    obtain ⟨⟨ya, yp, yr, yc⟩, ⟨yt, yd, yl, yk, yn, ys⟩⟩ := y
    have y2 : Blk W2 (W.heap.size + 1) [.string ya, .string yp, .int .i64 yr, .string yc, .int .i64 yt, .bool yd, .int .i64 yl, .int .i64 yk, .int .i64 yn, .string ys] 39 := q2
    rcases q4 with ⟨rfl, rfl⟩ | ⟨O, hO⟩
    · have HE : Hid (zPost (fun X k => k = W.heap.size + 1 ∨ k = W.heap.size + 1 + 1 ∨ Fp X k) w1.heap.size z (fun z pre X => EI J l W.heap.size z pre X) (fun c z _ X => c = .ret ∧ ∃ q, q <+: j2 (R.map Prod.fst) ∧ Jx z q X) ([] ++ [⟨⟨xa, xp, xr, xc⟩, ⟨xt, xd, xl, xk, xn, xs⟩⟩]) W2 .normal ⟨#[], []⟩ ((s10 W2 (W.heap.size + 1) ⟨⟨xa, xp, xr, xc⟩, ⟨xt, xd, xl, xk, xn, xs⟩⟩).setCell ⟨W.heap.size + 1 + 1, 0, none⟩ (.int .i64 1))) := by
        obtain ⟨p1, p2⟩ := put_state hJ (by omega) q1 q2 q3 q5 ⟨⟨xa, xp, xr, xc⟩, ⟨xt, xd, xl, xk, xn, xs⟩⟩ 1 ([] ++ [⟨⟨xa, xp, xr, xc⟩, ⟨xt, xd, xl, xk, xn, xs⟩⟩]) rfl
        exact ⟨SparedF.behind (Below.refl _ _) (fun _ h => h) (SparedF.refl _ _) p2, p1⟩
      simp only [zPost, s10] at HE
      have c0 := q3.cell 0 rfl
      have cf0 := q3.frozen 0
      have j0 := y2.cell 0 rfl
      have jf0 := y2.frozen 0
      have j1 := y2.cell 1 rfl
      have jf1 := y2.frozen 1
      have j2 := y2.cell 2 rfl
      have jf2 := y2.frozen 2
      have j3 := y2.cell 3 rfl
      have jf3 := y2.frozen 3
      have j4 := y2.cell 4 rfl
      have jf4 := y2.frozen 4
      have j5 := y2.cell 5 rfl
      have jf5 := y2.frozen 5
      have j6 := y2.cell 6 rfl
      have jf6 := y2.frozen 6
      have j7 := y2.cell 7 rfl
      have jf7 := y2.frozen 7
      have j8 := y2.cell 8 rfl
      have jf8 := y2.frozen 8
      have j9 := y2.cell 9 rfl
      have jf9 := y2.frozen 9
      have x0 := bx.cell 0 rfl
      have x1 := bx.cell 1 rfl
      have x2 := bx.cell 2 rfl
      have x3 := bx.cell 3 rfl
      have x4 := bx.cell 4 rfl
      have x5 := bx.cell 5 rfl
      have x6 := bx.cell 6 rfl
      have x7 := bx.cell 7 rfl
      have x8 := bx.cell 8 rfl
      have x9 := bx.cell 9 rfl
      clear q1 q2 q3 q5 y2 bx hY hFp hJ hJx h0 hpre HFU
      gi_wp2
      refine ⟨trivial, ?_⟩
      gi_wp2
      refine ⟨fun _ h => (by cases h), ?_⟩
      gi_wp2
      exact HE.out
    · have hm1 : 1 ≤ m := j2_pos pre (⟨⟨ya, yp, yr, yc⟩, ⟨yt, yd, yl, yk, yn, ys⟩⟩, m) (by rw [hO]; simp)
      have hmz : (0 : Int) < (m : Int) := by omega
      have hmR : m ≤ 1000000 := by
        have h1 := j2_sum pre
        rw [hO] at h1
        have h2 := hpre.length_le
        simp at h1 h2
        omega
      have hmz2 : (m : Int) ≤ 1000000 := by omega
      have hdl : (j2 pre).dropLast = O := by rw [hO]; simp
      rw [hdl] at q5
      have C : Hid (∀ w, Calls Try.prog 31 #[.agg #[.string ya, .string yp, .int .i64 yr, .string yc], .agg #[.string xa, .string xp, .int .i64 xr, .string xc]] w fun e w' => e = .returned (.int .i64 (kc (Kb.ky ⟨ya, yp, yr, yc⟩) (Kb.ky ⟨xa, xp, xr, xc⟩))) ∧ Below w.heap.size w w') := cmp_any ⟨ya, yp, yr, yc⟩ ⟨xa, xp, xr, xc⟩
      have C2 : Hid (∀ w, Calls Try.prog 32 #[Vr.v ⟨yt, yd, yl, yk, yn, ys⟩, Vr.v ⟨xt, xd, xl, xk, xn, xs⟩] w fun e w' => e = .returned (jn ⟨yt, yd, yl, yk, yn, ys⟩ ⟨xt, xd, xl, xk, xn, xs⟩).v ∧ Below w.heap.size w w') := join_any _ _
      have hpn : pre ≠ [] := fun e => by rw [e] at hO; simp [j2] at hO
      -- what the round leaves: the same key
      have HS : Hid (kc (Kb.ky ⟨ya, yp, yr, yc⟩) (Kb.ky ⟨xa, xp, xr, xc⟩) = 0 → ∀ U, Below W2.heap.size W2 U → ∀ v : Vr, v = jn ⟨yt, yd, yl, yk, yn, ys⟩ ⟨xt, xd, xl, xk, xn, xs⟩ → zPost (fun X k => k = W.heap.size + 1 ∨ k = W.heap.size + 1 + 1 ∨ Fp X k) w1.heap.size z (fun z pre X => EI J l W.heap.size z pre X) (fun c z _ X => c = .ret ∧ ∃ q, q <+: j2 (R.map Prod.fst) ∧ Jx z q X) (pre ++ [⟨⟨xa, xp, xr, xc⟩, ⟨xt, xd, xl, xk, xn, xs⟩⟩]) W2 .normal ⟨#[], []⟩ ((s6 U (W.heap.size + 1) v).setCell ⟨W.heap.size + 1 + 1, 0, none⟩ (.int .i64 (m + 1)))) := by
        rintro hk U hU v rfl
        have hj2 : j2 (pre ++ [⟨⟨xa, xp, xr, xc⟩, ⟨xt, xd, xl, xk, xn, xs⟩⟩]) = O ++ [(⟨⟨ya, yp, yr, yc⟩, jn ⟨yt, yd, yl, yk, yn, ys⟩ ⟨xt, xd, xl, xk, xn, xs⟩⟩, m + 1)] := by rw [j2_snoc, hO]; exact j2S_same hk
        obtain ⟨p1, p2⟩ := put_state6 hJ (by omega) (q1.carry (hU.block _ q1.lt)) (q2.carry (hU.block _ q2.lt)) (q3.carry (hU.block _ q3.lt)) (hJ _ _ _ _ q5 (.of_below hU (Nat.le_refl _))) _ (m + 1) _ hj2
        exact ⟨SparedF.behind hU (HFU.out U hU).1 (SparedF.refl _ _) p2, p1⟩
      -- another key
      have HO : Hid (¬ kc (Kb.ky ⟨ya, yp, yr, yc⟩) (Kb.ky ⟨xa, xp, xr, xc⟩) = 0 → ∀ U, Below W2.heap.size W2 U → YieldAt (Fence.wide.inRound l2) (n - 1 - 1 - 1) Try.prog l #[.agg #[.string ya, .string yp, .int .i64 yr, .string yc, .int .i64 yt, .bool yd, .int .i64 yl, .int .i64 yk, .int .i64 yn, .string ys], .int .i64 m] U fun e W' =>
          (e = .returned (.bool true) ∧ Blk W' (W.heap.size + 1) [.string ya, .string yp, .int .i64 yr, .string yc, .int .i64 yt, .bool yd, .int .i64 yl, .int .i64 yk, .int .i64 yn, .string ys] 39 ∧ Blk W' (W.heap.size + 1 + 1) [.int .i64 m] 3 ∧ Blk W' V.heap.size [.string xa, .string xp, .int .i64 xr, .string xc, .int .i64 xt, .bool xd, .int .i64 xl, .int .i64 xk, .int .i64 xn, .string xs] 39 ∧
            zPost (fun X k => k = W.heap.size + 1 ∨ k = W.heap.size + 1 + 1 ∨ Fp X k) w1.heap.size z (fun z pre X => EI J l W.heap.size z pre X) (fun c z _ X => c = .ret ∧ ∃ q, q <+: j2 (R.map Prod.fst) ∧ Jx z q X) (pre ++ [⟨⟨xa, xp, xr, xc⟩, ⟨xt, xd, xl, xk, xn, xs⟩⟩]) W2 .normal ⟨#[], []⟩ ((s10 W' (W.heap.size + 1) ⟨⟨xa, xp, xr, xc⟩, ⟨xt, xd, xl, xk, xn, xs⟩⟩).setCell ⟨W.heap.size + 1 + 1, 0, none⟩ (.int .i64 1))) ∨
          (e = .returned (.bool false) ∧ zPost (fun X k => k = W.heap.size + 1 ∨ k = W.heap.size + 1 + 1 ∨ Fp X k) w1.heap.size z (fun z pre X => EI J l W.heap.size z pre X) (fun c z _ X => c = .ret ∧ ∃ q, q <+: j2 (R.map Prod.fst) ∧ Jx z q X) (pre ++ [⟨⟨xa, xp, xr, xc⟩, ⟨xt, xd, xl, xk, xn, xs⟩⟩]) W2 .ret ⟨#[], []⟩ W')) := by
        intro hk U hU
        have hj2 : j2 (pre ++ [⟨⟨xa, xp, xr, xc⟩, ⟨xt, xd, xl, xk, xn, xs⟩⟩]) = (O ++ [(⟨⟨ya, yp, yr, yc⟩, ⟨yt, yd, yl, yk, yn, ys⟩⟩, m)]) ++ [(⟨⟨xa, xp, xr, xc⟩, ⟨xt, xd, xl, xk, xn, xs⟩⟩, 1)] := by rw [j2_snoc, hO]; exact j2S_other hk
        have hpf : O ++ [((⟨⟨ya, yp, yr, yc⟩, ⟨yt, yd, yl, yk, yn, ys⟩⟩ : Cx), m)] <+: j2 (R.map Prod.fst) := by
          obtain ⟨q, hq⟩ := hpre
          have h3 := j2_mono (p := pre ++ [⟨⟨xa, xp, xr, xc⟩, ⟨xt, xd, xl, xk, xn, xs⟩⟩]) (by simp) q
          rw [hj2, hq] at h3
          simp only [List.dropLast_concat] at h3
          exact h3.trans (List.dropLast_prefix _)
        have hjU := hJ _ _ _ _ q5 (.of_below hU (Nat.le_refl _) : Zoned W.heap.size z W2 U)
        have hUs := hU.size
        have hfU := hFp _ _ _ hjU
        refine YieldAt.mono (yield_in (hY z O (⟨⟨ya, yp, yr, yc⟩, ⟨yt, yd, yl, yk, yn, ys⟩⟩, m) U hjU (by omega) (by omega) hpf)) ?_
        rintro e W' (⟨rfl, hJ3, hs3⟩ | ⟨rfl, hJx3, hs3⟩)
        · have hp3 := hs3.plain (z := z) (by omega) hfU
          have hnE : ∀ k, W.heap.size ≤ k → ¬ Ex k := fun k hk e => by have := hEx k e; omega
          have k1 : ∀ k, W.heap.size ≤ k → k < z → W'.heap[k]? = W2.heap[k]? := fun k h1 h2 => (hp3.block k h2 (hnE k h1)).trans (hU.block k (by omega))
          have kx' : W'.heap[V.heap.size]? = W2.heap[V.heap.size]? := (hs3.block _ (by omega) (HFU.out U hU).2).trans (hU.block _ (by omega))
          have y3 := q2.carry (k1 _ (by omega) (by omega))
          have c3 := q3.carry (k1 _ (by omega) (by omega))
          obtain ⟨p1, p2⟩ := put_state hJ (by omega) (q1.carry (k1 _ (by omega) (by omega))) y3 c3 hJ3 ⟨⟨xa, xp, xr, xc⟩, ⟨xt, xd, xl, xk, xn, xs⟩⟩ 1 _ hj2
          exact .inl ⟨rfl, y3, c3, bx.carry kx', SparedF.behind hU (HFU.out U hU).1 hs3 p2, p1⟩
        · refine .inr ⟨rfl, ?_, rfl, _, hpf, hJx3⟩
          exact (Spared.of_below hU (by omega)).trans (hs3.wide fun k hk => by omega)
      simp only [zPost, s10, s6] at HS HO
      simp only [Vr.v] at C2
      have c0 := q3.cell 0 rfl
      have j0 := y2.cell 0 rfl
      have j1 := y2.cell 1 rfl
      have j2 := y2.cell 2 rfl
      have j3 := y2.cell 3 rfl
      have x0 := bx.cell 0 rfl
      have x1 := bx.cell 1 rfl
      have x2 := bx.cell 2 rfl
      have x3 := bx.cell 3 rfl
      have HB : Hid (∀ U, Below W2.heap.size W2 U → Blk U W.heap.size [.func (.yield l) #[] #[]] 53 ∧ Blk U (W.heap.size + 1) [.string ya, .string yp, .int .i64 yr, .string yc, .int .i64 yt, .bool yd, .int .i64 yl, .int .i64 yk, .int .i64 yn, .string ys] 39 ∧ Blk U (W.heap.size + 1 + 1) [.int .i64 m] 3 ∧ Blk U V.heap.size [.string xa, .string xp, .int .i64 xr, .string xc, .int .i64 xt, .bool xd, .int .i64 xl, .int .i64 xk, .int .i64 xn, .string xs] 39) := fun U hU => ⟨q1.carry (hU.block _ q1.lt), y2.carry (hU.block _ y2.lt), q3.carry (hU.block _ q3.lt), bx.carry (hU.block _ bx.lt)⟩
      clear q1 q2 q3 q5 y2 bx hY hFp hJ hJx h0 hpre hO hdl HFU
      generalize kc (Kb.ky ⟨ya, yp, yr, yc⟩) (Kb.ky ⟨xa, xp, xr, xc⟩) = r at *
      have h3n : 1 ≤ n - 1 - 1 := by omega
      by_cases hr0 : r = 0
      · subst hr0
        have HS2 := HS.out rfl
        obtain ⟨vj, hvj⟩ : ∃ vj, vj = jn ⟨yt, yd, yl, yk, yn, ys⟩ ⟨xt, xd, xl, xk, xn, xs⟩ := ⟨_, rfl⟩
        rw [← hvj] at C2
        have HS3 : Hid _ := fun U hU => HS2 U hU vj hvj
        clear HS HO HS2 hvj
        obtain ⟨gt, gd, gl, gk, gn, gs⟩ := vj
        simp only at C2 HS3
        gi_wp2_with (first
          | (refine ⟨trivial, ?_⟩; gi_at_call 31; refine (CallsIn.inRound l2 (callsIn_wide.2 (C.out _))).mono ?_; rintro e U ⟨rfl, hU⟩; obtain ⟨-, u2, -, u4⟩ := HB.out U hU; have j4 := u2.cell 4 rfl; have j5 := u2.cell 5 rfl; have j6 := u2.cell 6 rfl; have j7 := u2.cell 7 rfl; have j8 := u2.cell 8 rfl; have j9 := u2.cell 9 rfl; have x4 := u4.cell 4 rfl; have x5 := u4.cell 5 rfl; have x6 := u4.cell 6 rfl; have x7 := u4.cell 7 rfl; have x8 := u4.cell 8 rfl; have x9 := u4.cell 9 rfl; clear u2 u4 c0 j0 x0 j1 x1 j2 x2 j3 x3)
          | (refine ⟨trivial, ?_⟩; gi_at_call 32; refine (CallsIn.inRound l2 (callsIn_wide.2 (C2.out _))).mono ?_; rintro e U2 ⟨rfl, hU2⟩; have hU3 := hU.trans (hU2.mono hU.size); clear j4 x4 j5 x5 j6 x6 j7 x7 j8 x8 j9 x9; obtain ⟨-, u2, u3, -⟩ := HB.out U2 hU3; have j4 := u2.cell 4 rfl; have jf4 := u2.frozen 4; have j5 := u2.cell 5 rfl; have jf5 := u2.frozen 5; have j6 := u2.cell 6 rfl; have jf6 := u2.frozen 6; have j7 := u2.cell 7 rfl; have jf7 := u2.frozen 7; have j8 := u2.cell 8 rfl; have jf8 := u2.frozen 8; have j9 := u2.cell 9 rfl; have jf9 := u2.frozen 9; have c0 := u3.cell 0 rfl; have cf0 := u3.frozen 0; clear u2 u3))
        exact HS3.out _ hU3
      · have HO2 : Hid _ := HO.out hr0
        clear HS HO
        gi_wp2_with (refine ⟨trivial, ?_⟩; gi_at_call 31; refine (CallsIn.inRound l2 (callsIn_wide.2 (C.out _))).mono ?_; rintro e U ⟨rfl, hU⟩; clear c0 j0 x0 j1 x1 j2 x2 j3 x3; obtain ⟨u1, u2, u3, -⟩ := HB.out U hU; have y0 := u1.cell 0 rfl; have j0 := u2.cell 0 rfl; have j1 := u2.cell 1 rfl; have j2 := u2.cell 2 rfl; have j3 := u2.cell 3 rfl; have j4 := u2.cell 4 rfl; have j5 := u2.cell 5 rfl; have j6 := u2.cell 6 rfl; have j7 := u2.cell 7 rfl; have j8 := u2.cell 8 rfl; have j9 := u2.cell 9 rfl; have c0 := u3.cell 0 rfl; obtain ⟨fn, tmps, assign, body, hy, hRd⟩ := HO2.out U hU; clear u1 u2 u3)
        refine hRd.mono ?_
        rintro e W' (⟨rfl, z2, z3, z4, HE⟩ | ⟨rfl, HE⟩)
        · clear c0 y0 j0 j1 j2 j3 j4 j5 j6 j7 j8 j9 hy hRd
          have j0 := z2.cell 0 rfl
          have jf0 := z2.frozen 0
          have x0 := z4.cell 0 rfl
          have j1 := z2.cell 1 rfl
          have jf1 := z2.frozen 1
          have x1 := z4.cell 1 rfl
          have j2 := z2.cell 2 rfl
          have jf2 := z2.frozen 2
          have x2 := z4.cell 2 rfl
          have j3 := z2.cell 3 rfl
          have jf3 := z2.frozen 3
          have x3 := z4.cell 3 rfl
          have j4 := z2.cell 4 rfl
          have jf4 := z2.frozen 4
          have x4 := z4.cell 4 rfl
          have j5 := z2.cell 5 rfl
          have jf5 := z2.frozen 5
          have x5 := z4.cell 5 rfl
          have j6 := z2.cell 6 rfl
          have jf6 := z2.frozen 6
          have x6 := z4.cell 6 rfl
          have j7 := z2.cell 7 rfl
          have jf7 := z2.frozen 7
          have x7 := z4.cell 7 rfl
          have j8 := z2.cell 8 rfl
          have jf8 := z2.frozen 8
          have x8 := z4.cell 8 rfl
          have j9 := z2.cell 9 rfl
          have jf9 := z2.frozen 9
          have x9 := z4.cell 9 rfl
          have c0 := z3.cell 0 rfl
          have cf0 := z3.frozen 0
          have HE2 : Hid _ := HE
          clear z2 z3 z4 HE HO2 HB
          dsimp only
          gi_wp2
          exact HE2.out
        · have HE2 : Hid _ := HE
          clear HE HO2 HB
          dsimp only
          gi_wp2
          exact ⟨HE2.out.1, rfl, HE2.out.2.2⟩
  case done =>
    intro z W3 hz hzW hi hK
    obtain ⟨q1, ⟨y, m, q2, q3, q4⟩, q5⟩ := hi
    have HP : ∀ U, Zoned W.heap.size z U (U.putObj w1.heap.size (.deferred none)) := fun U => zoned_put _ _ _ _ _ (by omega) (by omega)
    obtain ⟨⟨ya, yp, yr, yc⟩, ⟨yt, yd, yl, yk, yn, ys⟩⟩ := y
    have y2 : Blk W3 (W.heap.size + 1) [.string ya, .string yp, .int .i64 yr, .string yc, .int .i64 yt, .bool yd, .int .i64 yl, .int .i64 yk, .int .i64 yn, .string ys] 39 := q2
    rcases q4 with ⟨hnil, rfl⟩ | ⟨O, hO⟩
    · have HE : Hid (J z (j2 (R.map Prod.fst)) (W3.putObj w1.heap.size (.deferred none))) := by
        refine hJ _ _ _ _ ?_ (HP W3)
        rw [hnil] at q5 ⊢
        exact q5
      have c0 := q3.cell 0 rfl
      clear q1 q2 q3 q5 y2 hY hFp hJ hJx h0
      gi_wp2
      refine ⟨by simp, .inl ⟨_, _, rfl, run_takeDeferred hK, ?_⟩⟩
      exact ⟨_, results_none rfl _ _ _, ⟨_, rfl⟩, z, by omega, by simp [World.putObj]; omega, .inl HE.out⟩
    · have hm1 : 1 ≤ m := j2_pos (R.map Prod.fst) (⟨⟨ya, yp, yr, yc⟩, ⟨yt, yd, yl, yk, yn, ys⟩⟩, m) (by rw [hO]; simp)
      have hmz : (0 : Int) < (m : Int) := by omega
      have hdl : (j2 (R.map Prod.fst)).dropLast = O := by rw [hO]; simp
      rw [hdl] at q5
      have hfU := hFp _ _ _ q5
      have HY : Hid (YieldAt Fence.wide (n - 1) Try.prog l #[.agg #[.string ya, .string yp, .int .i64 yr, .string yc, .int .i64 yt, .bool yd, .int .i64 yl, .int .i64 yk, .int .i64 yn, .string ys], .int .i64 m] W3 fun e W' => (∃ b, e = .returned (.bool b)) ∧ W'.heap[w1.heap.size]? = some (.deferred (some [])) ∧ z ≤ W'.heap.size ∧ (J z (j2 (R.map Prod.fst)) (W'.putObj w1.heap.size (.deferred none)) ∨ ∃ pre, pre <+: j2 (R.map Prod.fst) ∧ Jx z pre (W'.putObj w1.heap.size (.deferred none)))) := by
        refine YieldAt.mono (hY z O (⟨⟨ya, yp, yr, yc⟩, ⟨yt, yd, yl, yk, yn, ys⟩⟩, m) W3 q5 (by omega) hzW (by rw [hO]; exact List.prefix_refl _)) ?_
        rw [hO]
        rintro e W' (⟨rfl, hJ3, hs3⟩ | ⟨rfl, hJx3, hs3⟩)
        · have hp3 := hs3.plain (z := z) (by omega) hfU
          exact ⟨⟨_, rfl⟩, (hp3.block _ (by omega) (fun e => by have := hEx _ e; omega)).trans hK, by have := hp3.size; omega, .inl (hJ _ _ _ _ hJ3 (HP W'))⟩
        · exact ⟨⟨_, rfl⟩, (hs3.block _ (by omega) (by omega)).trans hK, by have := hs3.size; omega, .inr ⟨_, List.prefix_refl _, hJx _ _ _ _ hJx3 (HP W')⟩⟩
      have y0 := q1.cell 0 rfl
      have c0 := q3.cell 0 rfl
      have j0 := y2.cell 0 rfl
      have j1 := y2.cell 1 rfl
      have j2 := y2.cell 2 rfl
      have j3 := y2.cell 3 rfl
      have j4 := y2.cell 4 rfl
      have j5 := y2.cell 5 rfl
      have j6 := y2.cell 6 rfl
      have j7 := y2.cell 7 rfl
      have j8 := y2.cell 8 rfl
      have j9 := y2.cell 9 rfl
      obtain ⟨fn, tmps, assign, body, hy, hRd⟩ := HY.out
      clear q1 q2 q3 q5 y2 hY hFp hJ hJx h0 hO hdl HY
      gi_wp2
      refine hRd.mono ?_
      rintro e W' ⟨⟨b, rfl⟩, hK', hzW', HE⟩
      have HE2 : Hid _ := HE
      clear HE hRd
      dsimp only
      gi_wp2
      refine ⟨by simp, .inl ⟨_, _, rfl, run_takeDeferred hK', ?_⟩⟩
      exact ⟨_, results_none rfl _ _ _, ⟨_, rfl⟩, z, by omega, by simp [World.putObj]; omega, HE2.out⟩
  case stop =>
    rintro z c pre W3 hz hzW hpre ⟨rfl, q, hq, hx⟩ hK
    have HE : Hid (Jx z q (W3.putObj w1.heap.size (.deferred none))) := hJx _ _ _ _ hx (zoned_put _ _ _ _ _ (by omega) (by omega))
    clear hY hFp hJ hJx h0
    gi_wp2
    refine ⟨by simp, .inl ⟨_, _, rfl, run_takeDeferred hK, ?_⟩⟩
    exact ⟨_, results_none rfl _ _ _, ⟨_, rfl⟩, z, by omega, by simp [World.putObj]; omega, .inr ⟨q, hq, HE.out⟩⟩
end Go.Proofs.Ytdpglmgnbhpneaa
namespace Go.Proofs.Ytdpglmgnbhpneaa
open Go.RowKit

attribute [local go_sem] Oper.pureAt Oper.pureUpon
theorem ownsM_mono {w : World} {B B' : Nat} {e : TypeId} {k n : Nat} {v : Value} {xs : List Value} (h : w.ownsRow B e k v n xs) (hb : B' ≤ B) : w.ownsRow B' e k v n xs := by
  obtain ⟨h1, h2⟩ := h
  refine ⟨h1, ?_⟩
  rcases h2 with h2 | ⟨g, cap, cur, rfl, hg, hr⟩
  · exact .inl h2
  · exact .inr ⟨g, cap, cur, rfl, Nat.le_trans hb hg, hr⟩
theorem ownsM_shape {w : World} {B : Nat} {e : TypeId} {k n : Nat} {v : Value} {xs : List Value} (h : w.ownsRow B e k v n xs) : ∃ a c, v = .slice a n c := by
  rcases h.2 with ⟨rfl, rfl⟩ | ⟨g, cap, cur, rfl, _⟩
  · exact ⟨_, _, rfl⟩
  · exact ⟨_, _, rfl⟩
theorem rising_ofM {l : List Cx} (h : srtB l = true) : Rising l := by
  have h1 : Rise l l.length := @of_decide_eq_true _ (Classical.propDecidable _) h
  refine List.pairwise_iff_getElem.2 fun i j hi hj hij => ?_
  have H : ∀ d i, (hd : i + d + 1 < l.length) → kx (l[i]'(by omega)) l[i + d + 1] < 0 := by
    intro d
    induction d with
    | zero => intro i hd; exact h1 i _ _ (by omega) (List.getElem?_eq_getElem (by omega)) (List.getElem?_eq_getElem (by omega))
    | succ d ih => intro i hd; exact kx_strict (ih i (by omega)) (h1 (i + d + 1) _ _ (by omega) (List.getElem?_eq_getElem (by omega)) (List.getElem?_eq_getElem (by omega)))
  have := H (j - i - 1) i (by omega)
  have e : i + (j - i - 1) + 1 = j := by omega
  simpa only [e] using this
theorem xsees_nil {w : World} {ao : Option Addr} {l : List Cx} (h : XSees w ao l) : ao = none → l.length = 0 := fun e => by
  cases l with
  | nil => rfl
  | cons c r =>
    obtain ⟨b, o, e2, -⟩ := h 0 c rfl
    rw [e] at e2; cases e2
set_option maxHeartbeats 1000000 in
theorem mnorm_any (ao : Option Addr) (l : List Cx) (cap : Nat) (w : World) (hs : XSees w ao l) (hl : l.length ≤ 1000000) :
    Calls Try.prog 28 #[.slice ao l.length cap] w fun e w' => ∃ v, e = .returned v ∧ w'.ownsRow w.heap.size 39 10 v (nrm l).length ((nrm l).flatMap xs10) ∧ Below w.heap.size w w' := by
  have S : Hid (Calls Try.prog 24 #[.slice ao l.length cap] w fun e w' => e = .returned (.bool (srtB l)) ∧ Below w.heap.size w w') := sorted_any ao l cap w hs hl
  have C : Hid (∀ u, Below w.heap.size w u → Calls Try.prog 37 #[.slice ao l.length cap] u fun e w' => ∃ v, e = .returned v ∧ w'.ownsRow u.heap.size 39 10 v l.length (l.flatMap xs10) ∧ Below u.heap.size u w') := fun u hu => cloneX_any ao l cap u (hs.below hu (Nat.le_refl _)) (xsees_nil hs) hl
  have N : Hid (∀ u, Below w.heap.size w u → Calls Try.prog 22 #[.slice ao l.length cap] u fun e w' => ∃ v, e = .returned v ∧ w'.ownsRow u.heap.size 39 10 v (nrm l).length ((nrm l).flatMap xs10) ∧ Below u.heap.size u w') := fun u hu => norm_any ao l cap u (hs.below hu (Nat.le_refl _)) (xsees_nil hs) hl
  have HS : Hid (srtB l = true → nrm l = l) := fun h => nrm_of_rising (rising_ofM h)
  clear hs hl
  go_enter Try.func28, Try.ntmps28
  go_wp2_with fail
  refine S.out.mono ?_
  rintro e u ⟨rfl, hu⟩
  have hus := hu.size
  by_cases hb : srtB l = true
  · have hn := HS.out hb
    clear S N HS
    rw [hb]
    go_wp2_with fail
    refine (C.out u hu).mono ?_
    rintro e w2 ⟨v, rfl, h1, h2⟩
    obtain ⟨a1, c1, e1⟩ := ownsM_shape h1
    subst e1
    go_wp2_with fail
    go_ret
    exact ⟨_, rfl, by rw [hn]; exact ownsM_mono h1 hus, hu.trans (h2.mono hus)⟩
  · have hb' : srtB l = false := by simpa using hb
    clear S C HS
    rw [hb']
    go_wp2_with fail
    refine (N.out u hu).mono ?_
    rintro e w2 ⟨v, rfl, h1, h2⟩
    obtain ⟨a1, c1, e1⟩ := ownsM_shape h1
    subst e1
    go_wp2_with fail
    go_ret
    exact ⟨_, rfl, ownsM_mono h1 hus, hu.trans (h2.mono hus)⟩
theorem infoSl : (Try.prog.info? 25).map (fun i => (i.zero, i.size, i.bytes)) = some (some (.slice none 0 0), 1, 24) := by kernel_rfl
theorem src_list (w : World) (v : Lv) : Src Try.prog 1 22 (.slice (some ⟨w.heap.size, 0, none⟩) 1 1) 1 [v.s] (w.alloc (.cells #[v.s] 25)) := by
  refine Src.ofSlice _ Try.underlying22 _ 1 1 _ rfl (fun j u hj => ?_) (fun u hu => ?_)
  · have hg : (w.alloc (.cells #[v.s] 25)).heap[w.heap.size]? = some (.cells #[v.s] 25) := heap_alloc_new w _
    rw [Addr.add_lit, Nat.zero_add]
    simp only [World.cell?, hg]
    rcases j with _ | j
    · exact hj
    · simp at hj
  · obtain rfl : u = v.s := by simpa using hu
    rfl
/-- A world in which a box holds a value. -/
structure Bx1 (B : Nat) (v : Value) where
  u : World
  h : u.cell? ⟨B, 0, none⟩ = some v
/-- What Each has gathered: rows of lists, none of them the row of the lists. -/
structure Gt (w wr : World) (Bn : Nat) (sv : Value) (ss : List Lv) : Prop where
  box : Blk wr Bn [sv] 22
  row : wr.ownsRow w.heap.size 25 1 sv ss.length (ss.map Lv.s)
  at' : ∀ v ∈ ss, v.At wr (fun k => w.heap.size ≤ k ∧ k < wr.heap.size)
  ne : ∀ g, sv.ownBlock = some g → g ≠ Bn ∧ ∀ v ∈ ss, ∀ a, v.ao = some a → a.block ≠ g
  nb : ∀ v ∈ ss, ∀ a, v.ao = some a → a.block ≠ Bn
  bel : Below w.heap.size w wr
  bn : w.heap.size ≤ Bn
theorem at_of_owns {w w' : World} {v : Value} {l : List Cx} (h : w'.ownsRow w.heap.size 39 10 v l.length (l.flatMap xs10)) : ∃ x : Lv, v = x.s ∧ x.l = l ∧ x.At w' (fun k => w.heap.size ≤ k ∧ k < w'.heap.size) := by
  obtain ⟨ao, cap, rfl, hx, -⟩ := owns_xsees h
  refine ⟨⟨ao, cap, l⟩, rfl, rfl, hx, fun a e => ?_, ?_⟩
  · simp only at e
    subst e
    exact h.lt _ rfl
  · rcases h.2 with ⟨h1, h2⟩ | ⟨g, cap', cur, h1, _, _, h2, _⟩
    · show l.length ≤ cap; omega
    · injection h1 with _ _ e3
      subst e3; exact h2
theorem Lv.At.blk {X Y : World} {Ok Ok' : Nat → Prop} {v : Lv} (h : v.At X Ok) (e : ∀ a, v.ao = some a → Y.heap[a.block]? = X.heap[a.block]?) (ho : ∀ k, Ok k → Ok' k) : v.At Y Ok' :=
  ⟨fun i c hc => by obtain ⟨b, o, e2, t⟩ := h.1 i c hc; exact ⟨b, o, e2, tenBlk t (e _ e2)⟩, fun a ea => ho _ (h.2.1 a ea), h.2.2⟩
theorem Gt.more {w wr u : World} {Bn : Nat} {sv : Value} {ss : List Lv} (h : Gt w wr Bn sv ss) (hu : Below wr.heap.size wr u) : Gt w u Bn sv ss :=
  { box := h.box.carry (hu.block _ h.box.lt)
    row := ownsRow_blk h.row fun g hg => hu.block _ (h.row.lt g hg).2
    at' := fun v hv => (h.at' v hv).blk (fun a e => hu.block _ ((h.at' v hv).2.1 a e).2) fun k hk => ⟨hk.1, by have := hu.size; omega⟩
    ne := h.ne
    nb := h.nb
    bel := h.bel.trans (hu.mono h.bel.size)
    bn := h.bn }
theorem Gt.add {w wr u w3 : World} {Bn : Nat} {sv v' : Value} {ss : List Lv} {y : Lv} {o : Obj} (h : Gt w wr Bn sv ss) (hu : Below wr.heap.size wr u) (hy : y.At u (fun k => wr.heap.size ≤ k ∧ k < u.heap.size)) (ho : w3.ownsRow w.heap.size 25 1 v' (ss.length + 1) (ss.map Lv.s ++ [y.s])) (hg : Grew (u.alloc o) w3 sv v') :
    Gt w (w3.setCell ⟨Bn, 0, none⟩ v') Bn v' (ss ++ [y]) ∧ Blk w3 Bn [sv] 22 := by
  have hus := hu.size
  have h2 := (h.more hu)
  have hs2 : (u.alloc o).heap.size = u.heap.size + 1 := by simp
  have hgs := hg.rows.size
  have hbn := h.box.lt
  have bx : Blk w3 Bn [sv] 22 := (h2.box.alloc o).carry (hg.rows.block _ (by omega) fun e => (h.ne _ e.symm).1 rfl)
  have hv' : ∀ g, v'.ownBlock = some g → (sv.ownBlock = some g ∧ g < wr.heap.size) ∨ u.heap.size + 1 ≤ g := fun g e => by
    rcases hg.own g e with e1 | e1
    · exact .inl ⟨e1, (h.row.lt g e1).2⟩
    · exact .inr (by omega)
  have g4 := grownBy_setCell' w3 Bn v'
  -- a block that is neither the row's nor the box
  have keep : ∀ k, k < u.heap.size → sv.ownBlock ≠ some k → k ≠ Bn → (w3.setCell ⟨Bn, 0, none⟩ v').heap[k]? = u.heap[k]? := fun k hk h1 h2 =>
    (g4.block k (by omega) (by simpa using h2)).trans ((hg.rows.block k (by omega) (fun e => h1 e.symm)).trans (Below.heap_alloc _ _ _ hk))
  refine ⟨⟨bx.set 0 _, ?_, ?_, ?_, ?_, ?_, h.bn⟩, bx⟩
  · rw [List.map_append, List.length_append]
    refine ownsRow_blk ho fun g e => g4.block g (ho.lt g e).2 ?_
    rcases hv' g e with ⟨e1, e2⟩ | e1
    · have := (h.ne g e1).1; simpa using this
    · simp; omega
  · intro v hv
    have hsz : u.heap.size ≤ (w3.setCell ⟨Bn, 0, none⟩ v').heap.size := by have := g4.size; omega
    rcases List.mem_append.1 hv with hv | hv
    · refine (h2.at' v hv).blk (fun a e => ?_) fun k hk => ⟨hk.1, by omega⟩
      exact keep _ ((h2.at' v hv).2.1 a e).2 (fun e1 => (h.ne _ e1).2 v hv a e rfl) (h.nb v hv a e)
    · obtain rfl : v = y := by simpa using hv
      refine hy.blk (fun a e => ?_) fun k hk => ⟨by have := h.bel.size; omega, by omega⟩
      have hb := hy.2.1 a e
      exact keep _ hb.2 (fun e1 => by have := (h.row.lt _ e1).2; omega) (by omega)
  · intro g e
    refine ⟨?_, fun v hv a ea => ?_⟩
    · rcases hv' g e with ⟨e1, _⟩ | e1
      · exact (h.ne g e1).1
      · omega
    · rcases List.mem_append.1 hv with hv | hv
      · rcases hv' g e with ⟨e1, _⟩ | e1
        · exact (h.ne g e1).2 v hv a ea
        · have := ((h2.at' v hv).2.1 a ea).2; omega
      · obtain rfl : v = y := by simpa using hv
        have hb := hy.2.1 a ea
        rcases hv' g e with ⟨_, e1⟩ | e1
        · omega
        · omega
  · intro v hv a ea
    rcases List.mem_append.1 hv with hv | hv
    · exact h.nb v hv a ea
    · obtain rfl : v = y := by simpa using hv
      have hb := hy.2.1 a ea
      omega
  · have hB2 : Below w.heap.size w (u.alloc o) := h2.bel.alloc h2.bel.size _
    have hB3 : Below w.heap.size w w3 := hB2.trans (hg.below hB2.size fun g e => (h.row.lt g e).1)
    exact hB3.trans ((Below.refl _ _).setCell (p := ⟨Bn, 0, none⟩) h.bn _)
set_option maxRecDepth 100000 in
set_option maxHeartbeats 4000000 in
theorem each_any (lo : Option Addr) (vs : List Lv) (lcap : Nat) (w : World) (hs : LSees w lo vs) (hin : ∀ v ∈ vs, XSees w v.ao v.l) (hl : vs.length ≤ 1000) (hll : ∀ v ∈ vs, v.l.length ≤ 1000000) :
    Calls Try.prog 13 #[.slice lo vs.length lcap] w fun e w' => ∃ (Bn : Nat) (so : Option Addr) (ss : List Lv) (scap : Nat), e = .returned (.func (.func 29) #[] #[.pointer (some ⟨Bn, 0, none⟩)]) ∧ w'.cell? ⟨Bn, 0, none⟩ = some (.slice so ss.length scap) ∧ LSees w' so ss ∧ (∀ v ∈ ss, v.At w' (fun k => w.heap.size ≤ k ∧ k < w'.heap.size)) ∧ ss.map Lv.l = vs.map (fun v => nrm v.l) ∧ Below w.heap.size w w' ∧ w.heap.size ≤ Bn := by
  have hlz : (vs.length : Int) ≤ 1000 := by omega
  obtain ⟨i2, hi2, hy0, hy1, hy2⟩ := infoX infoSl
  obtain ⟨wm, hm, hmo, hmg⟩ := run_make_own (P := Try.prog) w w.heap.size 22 25 i2 (.slice none 0 0) 1 Try.underlying22 hi2 hy0 hy1 .i64 .i64 vs.length (by rw [hy2]; omega) (by unfold maxLen; omega) (Nat.le_refl _)
  have hmB : Below w.heap.size w wm := ⟨hmg.os, hmg.tape, hmg.output, hmg.size, fun k hk => hmg.block k hk (by simp)⟩
  have hml := (hmo.lt _ rfl).2
  have HG : Hid (Gt w (wm.alloc (.cells #[.slice (some ⟨w.heap.size, 0, none⟩) 0 vs.length] 22)) wm.heap.size (.slice (some ⟨w.heap.size, 0, none⟩) 0 vs.length) []) :=
    { box := Blk.new wm [_] _
      row := hmo.alloc _
      at' := fun v hv => by cases hv
      ne := fun g hg => by
        have e : w.heap.size = g := by simpa [Value.ownBlock] using hg
        have hml' : w.heap.size < wm.heap.size := hml
        exact ⟨by omega, fun v hv => by cases hv⟩
      nb := fun v hv => by cases hv
      bel := hmB.alloc hmB.size _
      bn := hmB.size }
  clear hmo hmg hmB
  go_enter Try.func13, Try.ntmps13
  go_wp2_with fail
  clear hm
  go_loopw [11] (fun s11 wr => ∃ (k : Nat) (sv : Value) (ss : List Lv), k ≤ vs.length ∧ s11 = .int .i64 k ∧ Gt w wr wm.heap.size sv ss ∧ ss.map Lv.l = (vs.take k).map (fun v => nrm v.l)) (fun s11 _ => vs.length - (intOf s11).toNat)
  case atStart => exact ⟨0, _, [], by omega, by go_num, HG.out, by simp⟩
  case round =>
    clear HG
    obtain ⟨k, sv, ss, hk, rfl, hG, hM⟩ := hrel
    have hsl : ss.length = k := by have := congrArg List.length hM; simp at this; omega
    rcases Nat.lt_or_ge k vs.length with hlt | hge
    · obtain ⟨x, hx⟩ : ∃ x, vs[k]? = some x := ⟨_, List.getElem?_eq_getElem hlt⟩
      obtain ⟨b, off, rfl, hc⟩ := (hs.below hG.bel (Nat.le_refl _)) k x hx
      have hxm := List.mem_of_getElem? hx
      have hkz : (k : Int) < (vs.length : Int) := by omega
      have N : Hid (∀ u, Below wr.heap.size wr u → Calls Try.prog 28 #[x.s] u fun e w' => ∃ v, e = .returned v ∧ w'.ownsRow u.heap.size 39 10 v (nrm x.l).length ((nrm x.l).flatMap xs10) ∧ Below u.heap.size u w') := fun u hu =>
        mnorm_any x.ao x.l x.cap u ((hin x hxm).below (hG.bel.trans (hu.mono hG.bel.size)) (Nat.le_refl _)) (hll x hxm)
      have htk : (vs.take (k + 1)).map (fun v => nrm v.l) = (vs.take k).map (fun v => nrm v.l) ++ [nrm x.l] := by rw [takeX_succ hx]; simp
      have HM : Hid (∀ y : Lv, y.l = nrm x.l → (ss ++ [y]).map Lv.l = (vs.take (k + 1)).map (fun v => nrm v.l)) := fun y hy => by rw [htk, List.map_append, hM]; simp [hy]
      have bB := hG.box.cell 0 rfl
      have HG2 : Hid (Gt w wr wm.heap.size sv ss) := hG
      obtain ⟨xv, hxv⟩ : ∃ xv, xv = x.s := ⟨_, rfl⟩
      rw [← hxv] at N hc
      have hxs : ∃ xa xn xc, xv = .slice xa xn xc := ⟨_, _, _, hxv⟩
      obtain ⟨xa, xn, xc, rfl⟩ := hxs
      obtain ⟨sa, sc, hsv⟩ := ownsM_shape hG.row
      subst hsv
      have HSL : Hid (ss.length = k) := hsl
      clear hs hin hll hx hxm htk hM hG hxv hsl
      go_wp2_with fail
      have HP : Hid (∀ u, u.cell? ⟨wm.heap.size, 0, none⟩ = some (.slice sa ss.length sc) → ∃ p : Bx1 wm.heap.size (.slice sa ss.length sc), u = p.u) := fun u h => ⟨⟨u, h⟩, rfl⟩
      have q0 : ∀ q : Bx1 wm.heap.size (.slice sa ss.length sc), q.u.cell? ⟨wm.heap.size, 0, none⟩ = some (.slice sa ss.length sc) := fun q => q.h
      haveI : Nonempty (Bx1 wm.heap.size (.slice sa ss.length sc)) := ⟨⟨wr, bB⟩⟩
      refine wp_region_C (fun u => ∃ p : Bx1 wm.heap.size (.slice sa ss.length sc), u = p.u) 5 _ (by kernel_rfl) ?reg (fun _ _ h => h)
      refine anyC_pure 0 rfl (by kernel_rfl) (by kernel_rfl) (by kernel_rfl) (HP.out _ bB) (fun K hK => ?_)
      go_simp
      refine hK _ ?_
      clear hK K
      refine anyC_pure 1 rfl (by kernel_rfl) (by kernel_rfl) (by kernel_rfl) (HP.out _ bB) (fun K hK => ?_)
      go_simp
      refine hK _ ?_
      clear hK K
      refine anyC_loud 2 (by kernel_rfl) ?_
      refine lou_of rfl (fun K hK => ?_)
      go_simp
      refine (N.out _ (Below.refl _ _).drew).mono ?_
      rintro e u1 ⟨v1, rfl, ho1, hu1⟩
      have hu1' : Below wr.heap.size wr u1 := (Below.refl _ _).drew.trans hu1
      obtain ⟨y, rfl, hyl, hyA⟩ := at_of_owns (w := wr.drew) ho1
      have hG1 := HG2.out.more hu1'
      refine hK _ _ ⟨fun _ => HP.out _ (hG1.box.cell 0 rfl), ?_⟩
      clear hK K
      refine anyC_loud 3 (by kernel_rfl) ?_
      refine lou_of rfl (fun K hK => ?_)
      have hys : ∃ ya yn yc, y.s = .slice ya yn yc := ⟨_, _, _, rfl⟩
      obtain ⟨ya, yn, yc, hys⟩ := hys
      rw [hys]
      go_simp
      refine hK _ _ ⟨fun _ => HP.out _ ((hG1.box.alloc _).cell 0 rfl), ?_⟩
      clear hK K
      have hsl1000 : ss.length ≤ 1000 := by have := HSL.out; omega
      obtain ⟨v', w3, hr3, ho3, hg3⟩ := run_append_grew (P := Try.prog) (u1.alloc (.cells #[y.s] 25)) w.heap.size 22 22 22 25 i2 (.slice none 0 0) 1 24 Try.underlying22 hi2 hy0 hy1 hy2 rfl _ ss.length _ (hG1.row.alloc _) _ 1 [y.s] (src_list u1 y) (by unfold maxLen; omega) (by omega) (by have := hG1.bel.size; simp; omega)
      rw [hys] at hr3
      obtain ⟨hG4, bx3⟩ := HG2.out.add hu1' (hyA.blk (fun _ _ => rfl) (fun k hk => ⟨hk.1, hk.2⟩)) ho3 hg3
      have HG4 : Hid (Gt w (w3.setCell ⟨wm.heap.size, 0, none⟩ v') wm.heap.size v' (ss ++ [y])) := hG4
      refine anyC_loud 4 (by kernel_rfl) ?_
      refine lou_append rfl rfl _ _ _ _ rfl _ _ rfl rfl (by exact hr3) ?_
      refine ⟨fun _ => HP.out _ (bx3.cell 0 rfl), ?_⟩
      obtain ⟨a5, c5, e5⟩ := ownsM_shape ho3
      subst e5
      have z1 := bx3.cell 0 rfl
      have z2 := bx3.frozen 0
      clear hG4 bx3 ho3 hg3 hr3 hG1 ho1 hyA
      refine anyC_loud 5 (by kernel_rfl) ?_
      refine lou_of rfl (fun K hK => ?_)
      go_simp
      refine hK _ _ ⟨fun h => absurd rfl h, ?_⟩
      clear hK K
      refine anyC_done (by kernel_rfl) ?_
      have hml2 := HM.out y hyl
      clear z1 z2 q0 HP N HG2 HM
      generalize (w3.setCell ⟨wm.heap.size, 0, none⟩ _) = u6 at *
      go_wp2_with fail
      go_roundw
      case rel => exact ⟨k + 1, _, _, by omega, by go_num, HG4.out, hml2⟩
      case measure => simp [intOf]; omega
    · obtain rfl : k = vs.length := by omega
      rw [List.take_of_length_le (Nat.le_refl _)] at hM
      have hge' : ¬ (vs.length : Int) < (vs.length : Int) := by omega
      obtain ⟨sa, sc, hsv⟩ := ownsM_shape hG.row
      subst hsv
      have HE : Hid (wr.cell? ⟨wm.heap.size, 0, none⟩ = some (.slice sa ss.length sc) ∧ LSees wr sa ss ∧ (∀ v ∈ ss, v.At wr (fun k => w.heap.size ≤ k ∧ k < wr.heap.size)) ∧ ss.map Lv.l = vs.map (fun v => nrm v.l) ∧ Below w.heap.size w wr ∧ w.heap.size ≤ wm.heap.size) := by
        refine ⟨hG.box.cell 0 rfl, fun i v hv => ?_, hG.at', hM, hG.bel, hG.bn⟩
        have hi : 0 < ss.length := by have := (List.getElem?_eq_some_iff.1 hv).1; omega
        rcases hG.row.2 with ⟨_, h2⟩ | ⟨g, cap, cur, h1, _⟩
        · omega
        · have e1 : sa = some ⟨g, 0, none⟩ := by injection h1
          subst e1
          refine ⟨g, 0, rfl, ?_⟩
          have := hG.row.cells (g := g) rfl i v.s (by rw [List.getElem?_map, hv]; rfl)
          simpa [Addr.add_lit] using this
      clear hs hin hll hM hG hsl
      go_wp2_with fail
      go_ret
      exact ⟨_, rfl, _, _, ⟨_, HE.out.1⟩, HE.out.2⟩
end Go.Proofs.Ytdpglmgnbhpneaa

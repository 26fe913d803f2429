/-
  SEVERAL TEXTS IN ONE: WalIter, WalScan.
-/
import Derived.Test.YtglaocghcgcghaaGreatDoorMany27
import Derived.Test.YtglaocghcgcghaaGreatDoorMany1
namespace Go.Proofs.YtglaocghcgcghaaGreatDoor
open Go.RowKit Go.Shelf

attribute [local go_sem] Oper.semAt_some

/-- A record that is yielded: where its cells lie, and the place behind its end. -/
structure Yl where
  a : Option Addr
  c : Nat
  r : List Cx
  e : Nat
def Yl.v (x : Yl) : Value := .slice x.a x.r.length x.c
/-- Its cells lie there. -/
def YIn (n0 : Nat) (x : Yl) (W : World) : Prop := W.ownsRow n0 50 10 x.v x.r.length (x.r.flatMap xs10) ∧ 0 < x.r.length ∧ x.e ≤ 1000000000
/-- What a round keeps: what lay ahead of all, one block, and every row of cells. -/
structure Kpt (n0 b1 : Nat) (A B : World) : Prop where
  low : Below n0 A B
  box : B.heap[b1]? = A.heap[b1]?
  rows : ∀ (g : Nat) (cs : Array Value) (fr : Nat × Nat), A.heap[g]? = some (Obj.cells cs 50 fr) → B.heap[g]? = some (Obj.cells cs 50 fr)
theorem Kpt.refl (n0 b1 : Nat) (A : World) : Kpt n0 b1 A A := ⟨Below.refl _ _, rfl, fun _ _ _ h => h⟩
theorem Kpt.trans {n0 b1 : Nat} {A B C : World} (h : Kpt n0 b1 A B) (k : Kpt n0 b1 B C) : Kpt n0 b1 A C := ⟨h.low.trans k.low, k.box.trans h.box, fun g cs fr e => k.rows g cs fr (h.rows g cs fr e)⟩
theorem Kpt.below {n0 b1 : Nat} {A B : World} (h : Below A.heap.size A B) (hn : n0 ≤ A.heap.size) (hb : b1 < A.heap.size) : Kpt n0 b1 A B :=
  ⟨h.mono hn, h.block _ hb, fun g cs fr e => by rw [h.block g (Array.getElem?_eq_some_iff.1 e).1]; exact e⟩
theorem kptK_b {n0 b1 : Nat} {w : World} (hn : n0 ≤ w.heap.size) (hb : b1 < w.heap.size) (W : World) (l : Nat) (o o' : Obj) (hl : w.heap.size ≤ l) (ho : W.heap[l]? = some o) (hc : o.isCells = false) (hw : o.isWalk = false) : Kpt n0 b1 W (W.putObj l o') :=
  ⟨belowK_b (w := w) hn W l o o' hl ho hc hw, World.putObj_heap_other (by omega), fun g cs fr e => by
    have hne : g ≠ l := fun h => by subst h; rw [ho] at e; cases e; cases hc
    rw [World.putObj_heap_other hne]; exact e⟩
theorem YIn.kept {n0 b1 : Nat} {x : Yl} {A B : World} (h : YIn n0 x A) (k : Kpt n0 b1 A B) : YIn n0 x B := by
  refine ⟨⟨h.1.1, ?_⟩, h.2⟩
  rcases h.1.2 with ⟨e, h0⟩ | ⟨g, cap, cur, e, hg, hh, r⟩
  · exact .inl ⟨e, h0⟩
  · exact .inr ⟨g, cap, cur, e, hg, k.rows _ _ _ hh, r⟩
/-- What has come: the first records. -/
def Came (b : List UInt8) (xs : List Yl) : Prop := xs.map (fun x => (x.r, x.e)) = (List.range xs.length).map (fun k => (recW b k, endW b (k + 1))) ∧ ∀ k < xs.length, (fstW (b.drop (endW b k))).2 ≠ 0
theorem Came.nil (b : List UInt8) : Came b [] := ⟨rfl, fun _ hk => absurd hk (Nat.not_lt_zero _)⟩
theorem Came.snoc {b : List UInt8} {xs : List Yl} (h : Came b xs) (x : Yl) (h0 : (fstW (b.drop (endW b xs.length))).2 ≠ 0) (hr : x.r = recW b xs.length) (he : x.e = endW b (xs.length + 1)) : Came b (xs ++ [x]) := by
  refine ⟨?_, fun k hk => ?_⟩
  · rw [List.map_append, h.1, List.length_append, List.length_singleton, List.range_succ, List.map_append]
    simp only [List.map_cons, List.map_nil, hr, he]
  · rw [List.length_append, List.length_singleton] at hk
    rcases Nat.lt_or_ge k xs.length with h' | h'
    · exact h.2 k h'
    · obtain rfl : k = xs.length := by omega
      exact h0
theorem Came.told {b : List UInt8} {xs : List Yl} (h : Came b xs) (hl : (fstW (b.drop (endW b xs.length))).2 = 0) : ToldW b (xs.map Yl.r) (endW b xs.length) := by
  refine ⟨?_, by rw [List.length_map], by rw [List.length_map]; exact h.2, by rw [List.length_map]; exact hl⟩
  have := congrArg (List.map Prod.fst) h.1
  rw [List.map_map, List.map_map] at this
  rw [List.length_map]
  exact this
theorem Came.last {b : List UInt8} {xs : List Yl} (h : Came b xs) {x : Yl} (hx : xs.getLast? = some x) : x.e = endW b xs.length := by
  have hp : 0 < xs.length := by cases xs with | nil => simp at hx | cons a r => simp
  have h1 := congrArg (fun l => l[xs.length - 1]?) h.1
  simp only [List.getElem?_map] at h1
  rw [List.getLast?_eq_getElem?] at hx
  rw [hx, List.getElem?_range (by omega)] at h1
  simp only [Option.map_some, Option.some.injEq, Prod.mk.injEq] at h1
  rw [h1.2]
  congr 1
  omega
theorem sees_dropW {w : World} {b off : Nat} {l : List UInt8} (h : Sees w (some ⟨b, off, none⟩) l) (k : Nat) (hk : k ≤ l.length) : Sees w (some ⟨b, off + k, none⟩) (l.drop k) := by
  have := sees_cut h k (l.length - k) (by omega)
  rwa [List.take_of_length_le (by rw [List.length_drop]; omega)] at this
theorem Tab.belowW {w w' : World} (h : Tab w) {B : Nat} (hb : Below B w w') (hB : 0 < B) : Tab w' := fun j hj => by
  rw [hb.cell (p := ⟨0, j, none⟩) hB]; exact h j hj
theorem Err.belowW {w w' : World} {u : TypeId} {pv : Value} (he : Err w u pv) {B : Nat} (hb : Below B w w') (hB : 4 < B) : Err w' u pv := by
  unfold Err at he ⊢
  rw [hb.cell (p := ⟨4, 0, none⟩) hB, he]
theorem Sees.belowW {w w' : World} {b off : Nat} {l : List UInt8} (h : Sees w (some ⟨b, off, none⟩) l) {B : Nat} (hb : Below B w w') (hB : b < B) : Sees w' (some ⟨b, off, none⟩) l := fun i hi => by
  obtain ⟨a, e, hc⟩ := h i hi
  cases e
  refine ⟨_, rfl, ?_⟩
  rw [hb.cell (by rw [Addr.add_block]; exact hB)]
  exact hc
/-- Where a slice of bytes lies. -/
def Lies (n0 : Nat) (ao : Option Addr) (m : Nat) : Prop := m = 0 ∨ ∃ b off, ao = some ⟨b, off, none⟩ ∧ b < n0
set_option maxRecDepth 100000 in
set_option maxHeartbeats 2000000 in
theorem records1_in (n : Nat) (hn : 1 ≤ n) (l n0 b1 : Nat) (ao : Option Addr) (L : List UInt8) (cap : Nat) (hL : L.length ≤ 100000000) (hcap : L.length ≤ cap) (hcm : cap ≤ 9223372036854775807) (J : List Yl → World → Prop) (W : World)
    (hY : ∀ pre x W1, J pre W1 → YIn n0 x W1 → pre.length < 100000000 → YieldAt Fence.wide (n - 1) Tryz.prog l #[x.v, .int .i64 (x.e : Int)] W1 fun e W' => e = .returned (.bool true) ∧ J (pre ++ [x]) W' ∧ Kpt n0 b1 W1 W')
    (hc1 : Boxed W b1 37 (.slice ao L.length cap)) (hs : Sees W ao L) (hao : Lies n0 ao L.length) (hn0 : n0 ≤ W.heap.size) (ht : Tab W) (hgT : 0 < n0) (ue : TypeId) (pv : Value) (he : Err W ue pv) (hgE : 4 < n0) (hA : AbidesFrom W.heap.size J) (h0 : J [] W) :
    CallsIn Fence.wide n Tryz.prog 126 #[.func (.yield l) #[] #[], .pointer (some ⟨b1, 0, none⟩)] W fun e W' => (∃ v, e = .returned v) ∧ ∃ xs, (Came L xs ∧ (fstW (L.drop (endW L xs.length))).2 = 0) ∧ J xs W' := by
  have hro : Fence.wide.round = none := rfl
  have HX : Hid (∀ u, Kpt n0 b1 W u → u.cell? ⟨b1, 0, none⟩ = some (.slice ao L.length cap) ∧ W.heap.size ≤ u.heap.size ∧ b1 < u.heap.size) := fun u hu => ⟨by rw [World.cell?_of_block hu.box]; exact hc1.cell, hu.low.size, Nat.lt_of_lt_of_le hc1.lt hu.low.size⟩
  have HF : Hid (∀ (u : World) (k : Nat) (a' : Option Addr) (c' : Nat), Kpt n0 b1 W u → k ≤ L.length → ((∃ b off, ao = some ⟨b, off, none⟩ ∧ b < n0 ∧ a' = some ⟨b, off + k, none⟩) ∨ k = L.length) → L.length - k ≤ c' → c' ≤ 9223372036854775807 → Calls Tryz.prog 127 #[.slice a' (L.length - k) c'] u fun e w' => ∃ v, e = .returned (.tuple #[v, .int .i64 ((fstW (L.drop k)).2 : Int)]) ∧ w'.ownsRow u.heap.size 50 10 v (fstW (L.drop k)).1.length ((fstW (L.drop k)).1.flatMap xs10) ∧ Below u.heap.size u w') := fun u k a' c' hu hk ha hc hcm' => by
    have hsd : Sees u a' (L.drop k) := by
      rcases ha with ⟨b, off, e, hb, rfl⟩ | rfl
      · rw [e] at hs
        exact sees_dropW (hs.belowW hu.low hb) k hk
      · intro i hi
        rw [List.length_drop] at hi
        omega
    have := firstW_any a' (L.drop k) c' u ue pv hsd (by rw [List.length_drop]; omega) (by rw [List.length_drop]; exact hc) hcm' (ht.belowW hu.low hgT) (he.belowW hu.low hgE)
    rw [List.length_drop] at this
    exact this
  refine callsIn_of_wp Tryz.func126 rfl trivial ?_ hro
  simp only [Tryz.ntmps126, List.size_toArray, List.length_cons, List.length_nil, Nat.reduceAdd, Nat.reduceSub, Array.replicate_succ, Array.replicate_zero, List.push_toArray, List.append_toArray, List.nil_append, List.cons_append]
  have hLz : (L.length : Int) ≤ 100000000 := by omega
  clear hs ht he hc1
  gi_wp2
  gi_loopw [3] (fun i wr => ∃ xs : List Yl, i = .int .i64 (endW L xs.length : Int) ∧ Came L xs ∧ J xs wr ∧ Kpt n0 b1 W wr) (fun i _ => L.length - (intOf i).toNat)
  case atStart => exact ⟨[], rfl, Came.nil _, h0, Kpt.refl _ _ _⟩
  case round =>
    obtain ⟨xs, rfl, hC, hJs, hK⟩ := hrel
    have hE := endW_le L xs.length
    have hM := endW_many hC.2
    obtain ⟨c1, hsz, hb1⟩ := HX.out wr hK
    obtain ⟨E, hEe⟩ : ∃ E, E = endW L xs.length := ⟨_, rfl⟩
    rw [← hEe] at hE hM ⊢
    obtain ⟨N, hN⟩ : ∃ N, N = (fstW (L.drop E)).2 := ⟨_, rfl⟩
    have hNl : E + N ≤ L.length := by
      have := fstW_le (L.drop E)
      rw [List.length_drop] at this
      omega
    obtain ⟨v9, c9, hv9, hc9, hfit⟩ : ∃ (v9 : Option Addr) (c9 : Nat), ((cap = E ∧ v9 = ao ∧ c9 = 0) ∨ (¬ cap = E ∧ v9 = ao.map (fun x => x.add E) ∧ c9 = cap - E)) ∧ c9 = cap - E ∧ ((∃ b off, ao = some ⟨b, off, none⟩ ∧ b < n0 ∧ v9 = some ⟨b, off + E, none⟩) ∨ E = L.length) := by
      by_cases hce : cap = E
      · exact ⟨ao, 0, .inl ⟨hce, rfl, rfl⟩, by omega, .inr (by omega)⟩
      · refine ⟨_, _, .inr ⟨hce, rfl, rfl⟩, rfl, ?_⟩
        rcases hao with h1 | ⟨b, off, rfl, hb⟩
        · exact .inr (by omega)
        · exact .inl ⟨b, off, rfl, hb, by rw [Option.map_some, Addr.add_lit]⟩
    have F1 := HF.out wr E v9 c9 hK hE hfit (by omega) (by omega)
    rw [← hN] at F1
    have HF1 : Hid (Calls Tryz.prog 127 #[.slice v9 (L.length - E) c9] wr fun e w' => ∃ v, e = .returned (.tuple #[v, .int .i64 (N : Int)]) ∧ w'.ownsRow wr.heap.size 50 10 v (fstW (L.drop E)).1.length ((fstW (L.drop E)).1.flatMap xs10) ∧ Below wr.heap.size wr w') := F1
    have HEe : Hid (E = endW L xs.length) := hEe
    have HNe : Hid (N = (fstW (L.drop E)).2) := hN
    have HY : Hid (∀ pre x W1, J pre W1 → YIn n0 x W1 → pre.length < 100000000 → YieldAt Fence.wide (n - 1) Tryz.prog l #[x.v, .int .i64 (x.e : Int)] W1 fun e W' => e = .returned (.bool true) ∧ J (pre ++ [x]) W' ∧ Kpt n0 b1 W1 W') := hY
    have hEz : (E : Int) + (N : Int) ≤ 100000000 := by omega
    clear F1 HF hfit hN hEe hao hY hc9
    rcases hv9 with ⟨hce, rfl, rfl⟩ | ⟨hce, rfl, rfl⟩
    · gi_wp2
      refine ⟨trivial, ?_⟩
      refine callsIn_wide.2 ?_
      go_fit HF1.out
      rintro e w1 ⟨v1, rfl, ho1, hB1⟩
      have hJ1 : J xs w1 := hA xs wr w1 none hJs ⟨hB1.os, hB1.tape, hB1.output, hB1.size, fun k hk _ => hB1.block k hk⟩ (fun r e => by cases e)
      have hK1 : Kpt n0 b1 W w1 := hK.trans (Kpt.below hB1 (by omega) hb1)
      have hN0 : N = 0 := by omega
      subst hN0
      gi_wp2
      refine ⟨fun f hf => (by cases hf), ?_⟩
      gi_wp2
      refine bodyPost_ret (results_none rfl _ _ _) rfl ?_
      exact ⟨⟨_, rfl⟩, xs, ⟨hC, by rw [← HEe.out]; exact HNe.out.symm⟩, hJ1⟩
    · gi_wp2
      refine ⟨trivial, ?_⟩
      refine callsIn_wide.2 ?_
      go_fit HF1.out
      rintro e w1 ⟨v1, rfl, ho1, hB1⟩
      have hJ1 : J xs w1 := hA xs wr w1 none hJs ⟨hB1.os, hB1.tape, hB1.output, hB1.size, fun k hk _ => hB1.block k hk⟩ (fun r e => by cases e)
      have hK1 : Kpt n0 b1 W w1 := hK.trans (Kpt.below hB1 (by omega) hb1)
      by_cases hN0 : N = 0
      · subst hN0
        gi_wp2
        refine ⟨fun f hf => (by cases hf), ?_⟩
        gi_wp2
        refine bodyPost_ret (results_none rfl _ _ _) rfl ?_
        exact ⟨⟨_, rfl⟩, xs, ⟨hC, by rw [← HEe.out]; exact HNe.out.symm⟩, hJ1⟩
      · have hp := fstW_pos (b := L.drop E) (by rw [← HNe.out]; exact hN0)
        have hr0 := (recB_good hp.2).1.1
        obtain ⟨g, c2, rfl⟩ : ∃ g c2, v1 = .slice (some ⟨g, 0, none⟩) (fstW (L.drop E)).1.length c2 := by
          rcases ho1.2 with ⟨_, h⟩ | ⟨g, c2, _, h, _⟩
          · omega
          · exact ⟨g, c2, h⟩
        have hin : YIn n0 ⟨some ⟨g, 0, none⟩, c2, (fstW (L.drop E)).1, E + N⟩ w1 := ⟨owMono ho1 (by omega), hr0, by show E + N ≤ 1000000000; omega⟩
        obtain ⟨fn, tmps, assign, body, hy, hR⟩ := HY.out xs _ w1 hJ1 hin (by omega)
        have hCm : Came L (xs ++ [⟨some ⟨g, 0, none⟩, c2, (fstW (L.drop E)).1, E + N⟩]) := hC.snoc _ (by rw [← HEe.out, ← HNe.out]; exact hN0) (by unfold recW; rw [← HEe.out]) (by show E + N = endW L xs.length + _; rw [← HEe.out, ← HNe.out])
        have HEm : Hid (E + N = endW L (xs ++ [(⟨some ⟨g, 0, none⟩, c2, (fstW (L.drop E)).1, E + N⟩ : Yl)]).length) := by
          show _ = _
          rw [List.length_append, List.length_singleton]
          show E + N = endW L xs.length + _
          rw [← HEe.out, ← HNe.out]
        have hNz : ¬ (N : Int) = 0 := by omega
        simp only [Yl.v, Int.natCast_add] at hy
        have HR : Hid (RoundIn Fence.wide (n - 1) Tryz.prog l fn tmps assign body w1 fun e W' => e = Ending.returned (.bool true) ∧ J (xs ++ [⟨some ⟨g, 0, none⟩, c2, (fstW (L.drop E)).1, E + N⟩]) W' ∧ Kpt n0 b1 w1 W') := hR
        have hN8 := hp.1
        rw [← HNe.out] at hN8
        clear hR ho1 hB1 hin hp HF1 hJs hC HX hA
        generalize (fstW (L.drop E)).1.length = m at *
        gi_wp2
        refine HR.out.mono ?_
        rintro e W3 ⟨rfl, hJ3, hk3⟩
        dsimp only
        gi_wp2
        go_roundw
        case rel => exact ⟨_, by rw [← HEm.out]; simp, hCm, hJ3, hK1.trans hk3⟩
        case measure => (simp [intOf]; try omega)
end Go.Proofs.YtglaocghcgcghaaGreatDoor
namespace Go.Proofs.YtglaocghcgcghaaGreatDoor
open Go.RowKit Go.Shelf

attribute [local go_sem] Oper.semAt_some

theorem infoLs : (Tryz.prog.info? 26).map (fun i => (i.zero, i.size, i.bytes)) = some (some (.slice none 0 0), 1, 24) := by kernel_rfl
/-- The place behind the last record. -/
def lastE (pre : List Yl) : Nat := (pre.getLast?.map Yl.e).getD 0
theorem lastE_snoc (pre : List Yl) (x : Yl) : lastE (pre ++ [x]) = x.e := by unfold lastE; rw [List.getLast?_concat]; rfl
/-- What Scan has gathered. -/
structure ScP (w : World) (bt bs b1 : Nat) (sv : Value) (v : Value) (pre : List Yl) (W : World) : Prop where
  told : Boxed W bt 22 v
  row : W.ownsRow w.heap.size 26 1 v pre.length (pre.map Yl.v)
  size : Boxed W bs 3 (.int .i64 (lastE pre : Int))
  box : Boxed W b1 37 sv
  ins : ∀ x ∈ pre, YIn w.heap.size x W
  low : Below w.heap.size w W
def ScW (w : World) (bt bs b1 : Nat) (sv : Value) (pre : List Yl) (W : World) : Prop := ∃ v, ScP w bt bs b1 sv v pre W
theorem cells_kept {W W' : World} {row : Option Nat} (hg : W.grownBy W' row) (hr : ∀ r, row = some r → ∃ o : Obj, W.heap[r]? = some o ∧ o.isCells = false) {g : Nat} {cs : Array Value} {t : TypeId} {fr : Nat × Nat} (h : W.heap[g]? = some (.cells cs t fr)) : W'.heap[g]? = some (.cells cs t fr) := by
  rw [hg.block g (Array.getElem?_eq_some_iff.1 h).1 fun e => ?_]
  · exact h
  · obtain ⟨o, ho, hc⟩ := hr g e.symm
    rw [h] at ho; cases ho; cases hc
theorem owns_cells {W W' : World} {base n size : Nat} {e : TypeId} {v : Value} {xs : List Value} (h : W.ownsRow base e size v n xs) (hk : ∀ (g : Nat) (cs : Array Value) (fr : Nat × Nat), W.heap[g]? = some (Obj.cells cs e fr) → W'.heap[g]? = some (Obj.cells cs e fr)) : W'.ownsRow base e size v n xs := by
  refine ⟨h.1, ?_⟩
  rcases h.2 with ⟨e, h0⟩ | ⟨g, cap, cur, e, hg, hh, r⟩
  · exact .inl ⟨e, h0⟩
  · exact .inr ⟨g, cap, cur, e, hg, hk _ _ _ hh, r⟩
theorem scW_own (w : World) (bt bs b1 : Nat) (sv : Value) {B : Nat} (hB : w.heap.size ≤ B) : OwnFrom B (ScW w bt bs b1 sv) := fun pre X Y row hs hg hr => by
  obtain ⟨v, h⟩ := hs
  have hk : ∀ (g : Nat) (cs : Array Value) (t : TypeId) (fr : Nat × Nat), X.heap[g]? = some (Obj.cells cs t fr) → Y.heap[g]? = some (Obj.cells cs t fr) := fun g cs t fr => cells_kept hg fun r e => (hr r e).2
  exact ⟨v, hk _ _ _ _ h.told, owns_cells h.row fun g cs fr => hk g cs _ fr, hk _ _ _ _ h.size, hk _ _ _ _ h.box, fun x hx => ⟨owns_cells (h.ins x hx).1 fun g cs fr => hk g cs _ fr, (h.ins x hx).2⟩,
    ownFrom_below (β := Unit) (Nat.le_refl _) hB () X Y row h.low hg hr⟩
theorem yin_put (n0 : Nat) (x : Yl) (W : World) (l : Nat) (o o' : Obj) (hl : W.heap[l]? = some o) (hc : o.isCells = false) (h : YIn n0 x W) : YIn n0 x (W.putObj l o') :=
  ⟨ownsRow_putObj h.1 o' hl hc, h.2⟩
theorem rw_alloc {W : World} (o : Obj) {g : Nat} {cs : Array Value} {t : TypeId} {fr : Nat × Nat} (h : W.heap[g]? = some (.cells cs t fr)) : (W.alloc o).heap[g]? = some (.cells cs t fr) := by
  rw [Below.heap_alloc _ _ _ (Array.getElem?_eq_some_iff.1 h).1]; exact h
theorem rw_grown {W W' : World} {base n size : Nat} {e t : TypeId} {v : Value} {xs : List Value} (ho : W.ownsRow base e size v n xs) (hg : W.grownBy W' v.ownBlock) (hne : t ≠ e) {g : Nat} {cs : Array Value} {fr : Nat × Nat} (h : W.heap[g]? = some (.cells cs t fr)) : W'.heap[g]? = some (.cells cs t fr) := by
  rw [hg.block g (Array.getElem?_eq_some_iff.1 h).1 fun e' => ?_]
  · exact h
  · rcases ho.2 with ⟨rfl, _⟩ | ⟨g', cap, cur, rfl, _, hgb, _⟩
    · simp [Value.ownBlock] at e'
    · obtain rfl : g = g' := by simpa [Value.ownBlock] using e'
      rw [h] at hgb; cases hgb; exact hne rfl
theorem rw_set {W : World} {B : Nat} {t t' : TypeId} {u : Value} (hb : Boxed W B t' u) (hne : t ≠ t') (v : Value) {g : Nat} {cs : Array Value} {fr : Nat × Nat} (h : W.heap[g]? = some (.cells cs t fr)) : (W.setCell ⟨B, 0, none⟩ v).heap[g]? = some (.cells cs t fr) := by
  rw [Below.heap_setCell _ _ _ g fun e => ?_]
  · exact h
  · subst e
    rw [show W.heap[g]? = _ from hb] at h; cases h; exact hne rfl
theorem box_grown {W w3 : World} {B base n size : Nat} {t e : TypeId} {u v : Value} {xs : List Value} {o : Obj} (h : Boxed W B t u) (hne : t ≠ e) (hr : W.ownsRow base e size v n xs) (hg : (W.alloc o).grownBy w3 v.ownBlock) : Boxed w3 B t u :=
  (h.alloc o).kept hg (h.not_row hne hr)
theorem scan_round {w W w3 : World} {w' : Nat} {b1 : Nat} {sv v v' : Value} {pre : List Yl} {x : Yl} (hP : ScP w w.heap.size (w.heap.size + 1) b1 sv v pre W) (hx : YIn w.heap.size x W) (hb1 : w.heap.size + 1 < b1)
    (hrow : W.ownsRow w.heap.size 26 1 v pre.length (pre.map Yl.v)) (hgrow : (W.alloc (.cells #[x.v] 26)).grownBy w3 v.ownBlock) (hv1 : Boxed w3 w.heap.size 22 v)
    (hv2 : Boxed (w3.setCell ⟨w.heap.size, 0, none⟩ v') w.heap.size 22 v') (hr2 : (w3.setCell ⟨w.heap.size, 0, none⟩ v').ownsRow w.heap.size 26 1 v' (pre.length + 1) (pre.map Yl.v ++ [x.v])) (hk2 : KeepsOthers W (w3.setCell ⟨w.heap.size, 0, none⟩ v')) (hb2 : Below w.heap.size W (w3.setCell ⟨w.heap.size, 0, none⟩ v')) :
    KeepsFrom w' W ((w3.setCell ⟨w.heap.size, 0, none⟩ v').setCell ⟨w.heap.size + 1, 0, none⟩ (.int .i64 (x.e : Int))) ∧ Kpt w.heap.size b1 W ((w3.setCell ⟨w.heap.size, 0, none⟩ v').setCell ⟨w.heap.size + 1, 0, none⟩ (.int .i64 (x.e : Int))) ∧ ScW w w.heap.size (w.heap.size + 1) b1 sv (pre ++ [x]) ((w3.setCell ⟨w.heap.size, 0, none⟩ v').setCell ⟨w.heap.size + 1, 0, none⟩ (.int .i64 (x.e : Int))) := by
  have hz4 := (box_grown hP.size (by decide) hrow hgrow).other (B' := w.heap.size) (by omega) v'
  have hx4 := (box_grown hP.box (by decide) hrow hgrow).other (B' := w.heap.size) (by omega) v'
  have hx5 := hx4.other (B' := w.heap.size + 1) (by omega) (.int .i64 (x.e : Int))
  have hlow : Below w.heap.size W ((w3.setCell ⟨w.heap.size, 0, none⟩ v').setCell ⟨w.heap.size + 1, 0, none⟩ (.int .i64 (x.e : Int))) := hb2.setCell (p := ⟨w.heap.size + 1, 0, none⟩) (Nat.le_succ _) _
  have hK : Kpt w.heap.size b1 W ((w3.setCell ⟨w.heap.size, 0, none⟩ v').setCell ⟨w.heap.size + 1, 0, none⟩ (.int .i64 (x.e : Int))) :=
    ⟨hlow, Eq.trans hx5 hP.box.symm, fun g cs fr h => rw_set hz4 (by decide) _ (rw_set hv1 (by decide) _ (rw_grown (hrow.alloc _) hgrow (by decide) (rw_alloc _ h)))⟩
  refine ⟨(hk2.trans (KeepsOthers.setCell _ _ _)).from _, hK, v', hv2.other (B' := w.heap.size + 1) (by omega) _, ?_, ?_, hx5, fun y hy => ?_, hP.low.trans hlow⟩
  · rw [List.length_append, List.length_singleton, List.map_append, List.map_cons, List.map_nil]
    exact owns_cells hr2 fun g cs fr h => rw_set hz4 (by decide) _ h
  · rw [lastE_snoc]; exact hz4.set _
  · rcases List.mem_append.1 hy with h | h
    · exact (hP.ins y h).kept hK
    · rw [List.mem_singleton] at h; rw [h]; exact hx.kept hK
set_option maxRecDepth 100000 in
theorem recordsW_any (sv : Value) (ao : Option Addr) (n c : Nat) (hv : sv = .slice ao n c) (w : World) :
    Calls Tryz.prog 98 #[.slice ao n c] w fun e w' => e = .returned (.func (.func 126) #[] #[.pointer (some ⟨w.heap.size, 0, none⟩)]) ∧ w' = w.alloc (.cells #[sv] 37) := by
  subst hv
  have hmf : ∀ (fn : Fn) (first cap : Array Value) (w : World), (Instr.makeFunc fn first cap).run Tryz.prog w = .ok (.func fn first cap) w := fun _ _ _ _ => rfl
  go_enter Tryz.func98, Tryz.ntmps98
  go_wp2_with fail
  go_ret
  exact ⟨rfl, rfl⟩
set_option maxRecDepth 100000 in
set_option maxHeartbeats 4000000 in
theorem scanW_any (ao : Option Addr) (L : List UInt8) (cap : Nat) (w : World) (hs : Sees w ao L) (hao : Lies w.heap.size ao L.length) (hL : L.length ≤ 100000000) (hcap : L.length ≤ cap) (hcm : cap ≤ 9223372036854775807) (ht : Tab w) (ue : TypeId) (pv : Value) (he : Err w ue pv) :
    Calls Tryz.prog 72 #[.slice ao L.length cap] w fun e w' => ∃ (v : Value) (xs : List Yl) (n : Nat), e = .returned (.tuple #[v, .int .i64 (n : Int)]) ∧ ToldW L (xs.map Yl.r) n ∧ w'.ownsRow w.heap.size 26 1 v xs.length (xs.map Yl.v) ∧ (∀ x ∈ xs, YIn w.heap.size x w') ∧ Below w.heap.size w w' := by
  refine (callsIn_wide (n := 3)).1 ?_
  have hro : Fence.wide.round = none := rfl
  have h1 : 1 ≤ 3 := by omega
  obtain ⟨i1, hi1, hy0, hy1, hy2⟩ := info_parts infoLs
  obtain ⟨sv, hsv⟩ : ∃ sv, sv = Value.slice ao L.length cap := ⟨_, rfl⟩
  obtain ⟨w1, hw1⟩ : ∃ w1, w1 = (w.alloc (.cells #[.slice none 0 0] 22)).alloc (.cells #[.int .i64 0] 3) := ⟨_, rfl⟩
  have s1 : w1.heap.size = w.heap.size + 1 + 1 := by rw [hw1]; simp
  have hb1 : Below w.heap.size w w1 := by rw [hw1]; exact ((Below.refl _ _).alloc (Nat.le_refl _) _).alloc (by simp) _
  obtain ⟨w2, hw2⟩ : ∃ w2, w2 = w1.alloc (.cells #[sv] 37) := ⟨_, rfl⟩
  have hb2 : Below w1.heap.size w1 w2 := by rw [hw2]; exact (Below.refl _ _).alloc (Nat.le_refl _) _
  have s2 : w2.heap.size = w1.heap.size + 1 := by rw [hw2]; simp
  have hb02 : Below w.heap.size w w2 := hb1.trans (hb2.mono hb1.size)
  have CR : Hid (Calls Tryz.prog 98 #[.slice ao L.length cap] w1 fun e w' => e = .returned (.func (.func 126) #[] #[.pointer (some ⟨w1.heap.size, 0, none⟩)]) ∧ w' = w2) := by
    have := recordsW_any sv ao L.length cap hsv w1
    rw [← hw2] at this; exact this
  have bx : Boxed w2 w1.heap.size 37 sv := by rw [hw2]; exact Boxed.new w1 _ _
  have b0 : Boxed w2 w.heap.size 22 (.slice none 0 0) := by rw [hw2, hw1]; exact ((Boxed.new w _ _).alloc _).alloc _
  have b9 : Boxed w2 (w.heap.size + 1) 3 (.int .i64 0) := by
    have := Boxed.new (w.alloc (.cells #[.slice none 0 0] 22)) 3 (.int .i64 0)
    rw [World.size_alloc] at this
    rw [hw2, hw1]; exact this.alloc _
  have H0 : Hid (ScW w w.heap.size (w.heap.size + 1) w1.heap.size sv [] w2) := ⟨_, b0, World.ownsRow_nil _ _ _ _, b9, bx, fun x hx => (by cases hx), hb02⟩
  have ST : Hid (SeqMem Fence.wide 2 Tryz.prog 126 #[.pointer (some ⟨w1.heap.size, 0, none⟩)] (fun x : Yl => #[x.v, .int .i64 (x.e : Int)]) (Kpt w.heap.size w1.heap.size) (YIn w.heap.size) (fun xs => Came L xs ∧ (fstW (L.drop (endW L xs.length))).2 = 0) 100000000 w2) := fun l J W hW hA hY h0 => by
    have hbW : Below w.heap.size w W := hb02.trans (hW.mono hb02.size)
    exact records1_in 2 (by omega) l w.heap.size w1.heap.size ao L cap hL hcap hcm J W hY (by rw [← hsv]; exact (hW.block _ bx.lt).trans bx) (hs.below hbW (Nat.le_refl _)) hao hbW.size (ht.below hbW (Nat.le_refl _)) (World.block_lt_of_cell? _ _ (ht 0 (by decide))) ue pv (he.below hbW (Nat.le_refl _)) (World.block_lt_of_cell? _ _ he) hA h0
  have HK : Hid (w.heap.size ≤ w2.heap.size ∧ w1.heap.size < w2.heap.size ∧ w.heap.size + 1 < w1.heap.size) := ⟨by omega, by omega, by omega⟩
  have HSV : Hid (sv = Value.slice ao L.length cap) := hsv
  clear hs ht he hb1 hb2 hb02 bx b0 b9 s2 s1
  refine callsIn_of_wp_marks Tryz.func72 rfl trivial ?_ hro
  simp only [Tryz.ntmps72, List.size_toArray, List.length_cons, List.length_nil, Nat.reduceAdd, Nat.reduceSub, Array.replicate_succ, Array.replicate_zero, List.push_toArray, List.append_toArray, List.nil_append, List.cons_append]
  refine wpIn_wide.2 ?_
  go_wp2_with fail
  rw [← hw1]
  refine CR.out.mono ?_
  rintro e w' ⟨rfl, rfl⟩
  clear CR hw1 hw2 hsv
  go_wp2_with fail
  refine (wpIn_wide (n := 3)).1 ?_
  refine wpIn_rangeFunc_mem hro h1 (gf := 126) (lb := #[.pointer (some ⟨w1.heap.size, 0, none⟩)]) rfl trivial (enters_of Tryz.func126 (by kernel_rfl) rfl)
    ST.out Kpt.trans (kptK_b HK.out.1 HK.out.2.1) (yin_put _) (fun _ => rfl) (ScW w w.heap.size (w.heap.size + 1) w1.heap.size sv) (scW_own _ _ _ _ _ HK.out.1) H0.out
    (fun x => { tmps := #[.slice ao L.length cap, undef, .slice none 0 0, .int .i64 0, .pointer (some ⟨w.heap.size, 0, none⟩), .pointer (some ⟨w.heap.size + 1, 0, none⟩), x.v, .int .i64 (x.e : Int), .slice ao L.length cap, .func (.func 126) #[] #[.pointer (some ⟨w1.heap.size, 0, none⟩)], x.v, .int .i64 (x.e : Int), undef, undef, undef, undef, undef, undef, undef], defers := [] }) ?assign ?body ?done
  case assign =>
    intro l x W K hK
    gi_wp2
    exact hK
  case body =>
    rintro l pre x W ⟨v, hP⟩ hx hlen
    have hv := hP.told
    have hrow := hP.row
    have hB := hP.low
    have k0 := hv.cell
    obtain ⟨av, cv, hvv⟩ : ∃ av cv, v = .slice av pre.length cv := by
      rcases hrow.2 with ⟨e, h⟩ | ⟨g, c2, _, e, _⟩
      · exact ⟨none, 0, by rw [e, h]⟩
      · exact ⟨_, c2, e⟩
    subst hvv
    have hlz : pre.length < 100000000 := hlen
    have z0 := hP.size.cell
    have HP : Hid (ScP w w.heap.size (w.heap.size + 1) w1.heap.size sv (.slice av pre.length cv) pre W) := hP
    have HX : Hid (YIn w.heap.size x W) := hx
    have hxl := hx.2.2
    obtain ⟨xa, xc, xr, xe⟩ := x
    simp only [Yl.v] at hxl ⊢
    have hxz : (xe : Int) ≤ 1000000000 := by omega
    have hBs := hB.size
    clear hP hx hB
    gi_wp2_with (gi_at_builtin; refine wpListIn_append_own _ rfl _ _ 22 rfl w.heap.size 26 i1 (.slice none 0 0) 1 24 Tryz.underlying22 hi1 hy0 hy1 hy2 rfl (by decide) _ _ _ rfl (hrow.alloc _) ⟨W.heap.size, 0, none⟩ 1 1 [.slice xa xr.length xc] rfl rfl (cell_one_new _ _ _) (by simp [Value.oneCell']) (by unfold maxLen; omega) (by omega) (by simp; omega) ?_; intro v' w3 hown' hgrow _; obtain ⟨g', cap', rfl⟩ := ownsRow_succ hown'; obtain ⟨hv1, hv2, hr2, hk2, hb2⟩ := hv.appended (by decide) hrow hBs (Nat.le_refl _) hown' hgrow; have hc1 := hv1.cell; have hf1 := hv1.frozen; have hz3 := box_grown HP.out.size (by decide) hrow hgrow; have z1 := hz3.cell; have z2 := hz3.frozen)
    exact scan_round HP.out HX.out HK.out.2.2 hrow hgrow hv1 hv2 hr2 hk2 hb2
  case done =>
    rintro D xs X hD ⟨hC, hl⟩ hI hK
    obtain ⟨v8, hP⟩ := (scW_own w w.heap.size (w.heap.size + 1) w1.heap.size sv (B := w'.heap.size) HK.out.1).putObj (.deferred none) hI hD hK rfl
    obtain ⟨v9, hQ⟩ := hI
    have hv8 : v8 = v9 := by
      have h3 := hP.told.cell
      have h4 : (X.putObj D (.deferred none)).heap[w.heap.size]? = X.heap[w.heap.size]? := World.putObj_heap_other (by have := HK.out; omega)
      rw [World.cell?_of_block h4, hQ.told.cell] at h3
      exact (Option.some.inj h3).symm
    subst hv8
    have k0 := hQ.told.cell
    have k1 := hQ.size.cell
    have hle : lastE xs = endW L xs.length := by
      unfold lastE
      cases hx : xs.getLast? with
      | none => rw [List.getLast?_eq_none_iff.1 hx]; rfl
      | some x => exact hC.last hx
    have HT : Hid (ToldW L (xs.map Yl.r) (lastE xs)) := by show ToldW _ _ _; rw [hle]; exact hC.told hl
    have HP : Hid (ScP w w.heap.size (w.heap.size + 1) w1.heap.size sv v8 xs (X.putObj D (.deferred none))) := hP
    obtain ⟨av, cv, hvv⟩ : ∃ av cv, v8 = .slice av xs.length cv := by
      rcases hQ.row.2 with ⟨e, h⟩ | ⟨g, c2, _, e, _⟩
      · exact ⟨none, 0, by rw [e, h]⟩
      · exact ⟨_, c2, e⟩
    subst hvv
    clear hP hQ hle hl hC
    go_wp2_with fail
    go_region
    all_goals go_wp2_with fail
    all_goals (refine ⟨by simp, .inl ⟨_, _, rfl, run_takeDeferred hK, ?_⟩⟩; exact ⟨_, results_tmp2 rfl _ _ _, _, xs, lastE xs, rfl, HT.out, HP.out.row, HP.out.ins, HP.out.low.drew⟩)
end Go.Proofs.YtglaocghcgcghaaGreatDoor

/-
  CONTRACT: all cells of a skip list (All).
-/
import Derived.Test.YtlhojbgpmjcjlaaSkOn
namespace Go.Proofs.Ytlhojbgpmjcjlaa
open Go.RowKit Go.Shelf

attribute [local go_sem] Oper.semAt_some

theorem src_one_cell (w : World) (c : Cx) : Src Try.prog 10 23 (.slice (some ⟨w.heap.size, 0, none⟩) 1 1) 1 (([c] : List Cx).flatMap xs10) (w.alloc (.cells c.a 40)).drew :=
  src_cells (l := [c]) (fun i x hx => by
    have hi : i = 0 := by have := (List.getElem?_eq_some_iff.1 hx).1; simp at this; exact this
    subst hi
    have hx2 : c = x := Option.some.inj hx
    subst hx2
    have t := TenX.new w c 40
    exact ⟨w.heap.size, 0, rfl, t.below (Below.refl (w.alloc (.cells c.a 40)).heap.size _).drew t.lt⟩) (fun h => by cases h) 1
/-- An append as one step of a region that draws, in a round. -/
theorem stepIn_append {F : Fence} {n : Nat} {P : Program} {ops : Array Oper} {o : Oper} {a : Act} {w : World} {K : Act → World → Prop} {Q : Exit → Act → World → Prop} {E : Prop}
    (hgd : o.guard = none) (s x : Operand) (t tx : TypeId) (ho : o.op = .call { callee := .builtin .append, args := #[s, x], argTypes := #[t, tx] }) (v xv : Value) (hs : a.eval s = v) (hx : a.eval x = xv) {v' : Value} {w' : World}
    (hr : (Builtin.append_ #[t, tx] o.type #[v, xv]).run P w = .ok v' w') (h : K (a.put o.dst v') w') : if Region.wanted o (yielded ops a.tmps) = true then Oper.wpIn F n P o a w K Q else E := by
  have hw : Region.wanted o (yielded ops a.tmps) = true := by simp [Region.wanted, hgd]
  rw [if_pos hw]
  unfold Oper.wpIn
  refine ⟨by simp [Oper.about, ho, resolve, Target.leads, Sem.run_pure], ?_⟩
  rw [Oper.semAt_plain F _ _ (by rw [ho]; intro c hc; cases hc)]
  simp [execOp, ho, resolve, invoke, builtin, hs, hx, hr, Result.andThen]
  exact h
set_option maxRecDepth 100000 in
set_option maxHeartbeats 4000000 in
theorem all_core (lv : Value) (T : List Tw) (w : World) (L0 : ∀ w', Below w.heap.size w w' → Calls Try.prog 35 #[lv] w' fun e w'' => e = .returned (pt (T.head?.map Tw.g)) ∧ w'' = w') (hC : Chain w T) (hh : ∀ t ∈ T, 1 ≤ t.h) (hnd : (T.map Tw.g).Nodup) (hlen : T.length ≤ 1000000) :
    Calls Try.prog 17 #[lv] w fun e W' => ∃ v, e = .returned v ∧ W'.ownsRow w.heap.size 40 10 v T.length ((T.map Tw.c).flatMap xs10) ∧ Below w.heap.size w W' ∧ (T = [] → v = .slice none 0 0) := by
  refine (callsIn_wide (n := 3)).1 ?_
  have hro : Fence.wide.round = none := rfl
  have h1 : 1 ≤ 3 := by omega
  obtain ⟨i1, hi1, hy0, hy1, hy2⟩ := infoX infoCx
  have hbO : Below w.heap.size w (w.alloc (.cells #[.slice none 0 0] 23)) := (Below.refl _ _).alloc (Nat.le_refl _) _
  have L : Hid (Calls Try.prog 35 #[lv] (w.alloc (.cells #[.slice none 0 0] 23)) fun e w' => e = .returned (pt (T.head?.map Tw.g)) ∧ w' = (w.alloc (.cells #[.slice none 0 0] 23))) := L0 _ hbO
  clear L0
  obtain ⟨p0, hp0⟩ : ∃ p0, pt (T.head?.map Tw.g) = .pointer p0 := ⟨_, rfl⟩
  rw [hp0] at L
  refine callsIn_of_wp_marks Try.func17 rfl trivial ?_ hro
  simp only [Try.ntmps17, List.size_toArray, List.length_cons, List.length_nil, Nat.reduceAdd, Nat.reduceSub, Array.replicate_succ, Array.replicate_zero, List.push_toArray, List.append_toArray, List.nil_append, List.cons_append]
  gi_wp2_with (first
    | (refine ⟨trivial, ?_⟩; gi_at_call 35; refine (callsIn_wide.2 L.out).mono ?_; rintro e w' ⟨rfl, rfl⟩)
    | (refine ⟨trivial, ?_⟩; gi_at_call 36; refine (on_in Fence.wide _ trivial hro _ _).mono ?_; rintro e w' ⟨rfl, rfl⟩))
  have bO := Boxed.new w 23 (.slice none 0 0)
  have bN := Boxed.new (w.alloc (.cells #[.slice none 0 0] 23)) 61 (.pointer p0)
  rw [World.size_alloc] at bN
  have hB0 : Below w.heap.size w ((w.alloc (.cells #[.slice none 0 0] 23)).alloc (.cells #[.pointer p0] 61)) := hbO.alloc (by simp) _
  refine wpIn_rangeFunc_ownG hro h1 (gf := 45) (lb := #[.pointer (some ⟨w.heap.size + 1, 0, none⟩)]) rfl trivial (enters_of Try.func45 (by kernel_rfl) rfl)
    (on_stops Fence.wide (3 - 1) trivial hro (by omega) (w.heap.size + 1) w.heap.size T _ (by simp) (by simp; omega) (by rw [hp0]; exact bN.cell) (hC.carry fun t ht => hB0.block _ (hC.lt t ht)) (fun t ht => hC.lt t ht) hh hnd) belowK_t (belowK_b (by simp; omega)) (Below.refl _ _) (fun _ => rfl)
    (fun pre W => (∃ v, Boxed W w.heap.size 23 v ∧ W.ownsRow w.heap.size 40 10 v pre.length ((pre.map fun x => x.1.c).flatMap xs10) ∧ (pre = [] → v = .slice none 0 0)) ∧ Below w.heap.size w W)
    (fun _ _ _ => False)
    (OwnFrom.and (Own.from (holdsRow_own w.heap.size w.heap.size 23 40 10 (fun pre : List (TwIn T) => pre.length) (fun pre => (pre.map fun x => x.1.c).flatMap xs10) (fun pre v => pre = [] → v = .slice none 0 0)) _) (ownFrom_below (Nat.le_refl _) (by simp; omega)))
    (fun _ _ _ _ _ hs _ _ => hs)
    ⟨⟨_, bO.alloc _, World.ownsRow_nil _ _ _ _, fun _ => rfl⟩, hB0⟩
    (fun x => { tmps := #[lv, undef, .slice none 0 0, .pointer (some ⟨w.heap.size, 0, none⟩), .pointer (some ⟨x.1.g, 0, none⟩), lv, .pointer p0, .func (.func 45) #[] #[.pointer (some ⟨w.heap.size + 1, 0, none⟩)], .pointer (some ⟨x.1.g, 0, none⟩), undef, undef, undef, undef, undef, undef, undef, undef], defers := [] }) ?assign ?body ?done ?stop
  case assign =>
    intro l x W K hK
    gi_wp2
    exact hK
  case body =>
    rintro l pre x W ⟨⟨v, hv, hrow, -⟩, hB⟩ hlt
    have hpl : pre.length < T.length := by simpa using hlt
    have hc := hv.cell
    obtain ⟨A, R, hT⟩ := List.append_of_mem x.2
    have htx : TenX W x.1.g 0 x.1.c := by
      have hC2 : Chain W T := hC.carry fun t ht => hB.block _ (hC.lt t ht)
      rw [hT] at hC2
      exact hC2.at.ten
    obtain ⟨W1, hW1⟩ : ∃ W1, W1 = (W.alloc (.cells x.1.c.a 40)).drew := ⟨_, rfl⟩
    have hsz : W1.heap.size = W.heap.size + 1 := by rw [hW1]; exact World.size_alloc _ _
    have hsrc : Src Try.prog 10 23 (.slice (some ⟨W.heap.size, 0, none⟩) 1 1) 1 (([x.1.c] : List Cx).flatMap xs10) W1 := by
      rw [hW1]; exact src_one_cell W x.1.c
    have hrow1 : W1.ownsRow w.heap.size 40 10 v pre.length ((pre.map fun x => x.1.c).flatMap xs10) := by rw [hW1]; exact hrow.alloc _
    obtain ⟨v', w2, hr, ho2, hg2⟩ := run_append_grew (P := Try.prog) W1 w.heap.size 23 23 23 40 i1 _ 10 112 Try.underlying23 hi1 hy0 hy1 hy2 rfl v pre.length _ hrow1 _ 1 _ hsrc (by unfold maxLen; omega) (by omega) (by have := hB.size; omega)
    obtain ⟨g', cap', rfl⟩ := ownsRow_succ ho2
    rw [hW1] at hr
    have hbox1 : Boxed w2 w.heap.size 23 v := by
      have hb0 : Boxed W1 w.heap.size 23 v := by rw [hW1]; exact hv.alloc _
      exact hb0.kept hg2.rows (fun e => hb0.not_row (by decide) hrow1 e)
    have hgrow : (W.alloc (.cells x.1.c.a 40)).grownBy w2 v.ownBlock := by
      have hh := hg2.rows
      rw [hW1] at hh
      exact ⟨hh.os, hh.tape, hh.output, hh.size, hh.block⟩
    obtain ⟨-, hv2, hr3, hk2, hb2⟩ := hv.appended (by decide) hrow hB.size (Nat.le_refl _) ho2 hgrow
    have HEnd : Hid (KeepsOthers W (w2.setCell ⟨w.heap.size, 0, none⟩ (.slice (some ⟨g', 0, none⟩) (pre.length + 1) cap')) ∧ Below w.heap.size W (w2.setCell ⟨w.heap.size, 0, none⟩ (.slice (some ⟨g', 0, none⟩) (pre.length + 1) cap')) ∧ (∃ v, Boxed (w2.setCell ⟨w.heap.size, 0, none⟩ (.slice (some ⟨g', 0, none⟩) (pre.length + 1) cap')) w.heap.size 23 v ∧ (w2.setCell ⟨w.heap.size, 0, none⟩ (.slice (some ⟨g', 0, none⟩) (pre.length + 1) cap')).ownsRow w.heap.size 40 10 v (pre ++ [x]).length (((pre ++ [x]).map fun x => x.1.c).flatMap xs10) ∧ (pre ++ [x] = [] → v = .slice none 0 0)) ∧ Below w.heap.size w (w2.setCell ⟨w.heap.size, 0, none⟩ (.slice (some ⟨g', 0, none⟩) (pre.length + 1) cap'))) := ⟨hk2, hb2, ⟨_, hv2, by rw [List.map_append, List.flatMap_append, List.length_append]; exact hr3, fun h => by simp at h⟩, hB.trans hb2⟩
    have hvlt := hv.lt
    have cb := hbox1.cell
    have fb := hbox1.frozen
    clear hv2 hr3 hk2 hb2 hgrow
    obtain ⟨⟨tg, ⟨⟨xa, xp, xr, xc⟩, ⟨xt, xd, xl, xk, xn, xs⟩⟩, thv, th⟩, hxm⟩ := x
    obtain ⟨x0, x1, x2, x3, x4, x5, x6, x7, x8, x9⟩ := htx
    simp only [Nat.zero_add, Cx.a] at x0 x1 x2 x3 x4 x5 x6 x7 x8 x9 hr
    have hmix : Try.prog.follows Departure.mixedOrders = true := by kernel_rfl
    have hr2 : (Builtin.append_ #[23, 23] 23 #[v, .slice (some ⟨W.heap.size, 0, none⟩) 1 1]).run Try.prog (W.drew.alloc (.cells #[.string xa, .string xp, .int .i64 xr, .string xc, .int .i64 xt, .bool xd, .int .i64 xl, .int .i64 xk, .int .i64 xn, .string xs] 40)) = .ok (.slice (some ⟨g', 0, none⟩) (pre.length + 1) cap') w2 := hr
    have hc2 : (W.alloc (.cells #[.string xa, .string xp, .int .i64 xr, .string xc, .int .i64 xt, .bool xd, .int .i64 xl, .int .i64 xk, .int .i64 xn, .string xs] 40)).drew.cell? ⟨w.heap.size, 0, none⟩ = some v := (hv.alloc _).cell
    clear hr
    gi_wp2
    refine wpIn_region_any (by assumption) ?_
    change wpAnyIn _ _ _ _ _ _ _ _ _ (World.drew _)
    refine wpAnyIn_ready (rs := [0, 1]) (by kernel_rfl) (by simp) ?_
    refine AllReadyIn.cons rfl (fun K hK => ?_) (AllReadyIn.cons rfl (fun K hK => ?_) AllReadyIn.nil)
    · go_simp
      refine hK _ _ ?_
      clear hK K
      refine wpAnyIn_ready (rs := [1]) (by kernel_rfl) (by simp) ?_
      refine AllReadyIn.cons rfl (fun K hK => ?_) AllReadyIn.nil
      go_simp
      refine hK _ _ ?_
      clear hK K
      refine wpAnyIn_ready (rs := [2]) (by kernel_rfl) (by simp) ?_
      refine AllReadyIn.cons rfl (fun K hK => ?_) AllReadyIn.nil
      go_simp
      refine hK _ _ ?_
      clear hK K
      refine wpAnyIn_ready (rs := [3]) (by kernel_rfl) (by simp) ?_
      refine AllReadyIn.cons rfl (fun K hK => ?_) AllReadyIn.nil
      go_simp
      refine hK _ _ ?_
      clear hK K
      refine wpAnyIn_ready (rs := [4]) (by kernel_rfl) (by simp) ?_
      refine AllReadyIn.cons rfl (fun K hK => ?_) AllReadyIn.nil
      go_simp
      refine hK _ _ ?_
      clear hK K
      refine wpAnyIn_ready (rs := [5]) (by kernel_rfl) (by simp) ?_
      refine AllReadyIn.cons rfl (fun K hK => ?_) AllReadyIn.nil
      go_simp
      refine hK _ _ ?_
      clear hK K
      refine wpAnyIn_ready (rs := [6]) (by kernel_rfl) (by simp) ?_
      refine AllReadyIn.cons rfl (fun K hK => ?_) AllReadyIn.nil
      refine stepIn_append rfl _ _ _ _ rfl _ _ rfl rfl (by exact hr2) ?_
      refine hK _ _ ?_
      clear hK K
      refine wpAnyIn_ready (rs := [7]) (by kernel_rfl) (by simp) ?_
      refine AllReadyIn.cons rfl (fun K hK => ?_) AllReadyIn.nil
      go_simp
      refine hK _ _ ?_
      clear hK K
      refine wpAnyIn_done (by kernel_rfl) ?_ _
      gi_wp2
      exact ⟨HEnd.out.1.from _, HEnd.out.2⟩
    · go_simp
      refine hK _ _ ?_
      clear hK K
      refine wpAnyIn_ready (rs := [0, 2]) (by kernel_rfl) (by simp) ?_
      refine AllReadyIn.cons rfl (fun K hK => ?_) (AllReadyIn.cons rfl (fun K hK => ?_) AllReadyIn.nil)
      · go_simp
        refine hK _ _ ?_
        clear hK K
        refine wpAnyIn_ready (rs := [2]) (by kernel_rfl) (by simp) ?_
        refine AllReadyIn.cons rfl (fun K hK => ?_) AllReadyIn.nil
        go_simp
        refine hK _ _ ?_
        clear hK K
        refine wpAnyIn_ready (rs := [3]) (by kernel_rfl) (by simp) ?_
        refine AllReadyIn.cons rfl (fun K hK => ?_) AllReadyIn.nil
        go_simp
        refine hK _ _ ?_
        clear hK K
        refine wpAnyIn_ready (rs := [4]) (by kernel_rfl) (by simp) ?_
        refine AllReadyIn.cons rfl (fun K hK => ?_) AllReadyIn.nil
        go_simp
        refine hK _ _ ?_
        clear hK K
        refine wpAnyIn_ready (rs := [5]) (by kernel_rfl) (by simp) ?_
        refine AllReadyIn.cons rfl (fun K hK => ?_) AllReadyIn.nil
        go_simp
        refine hK _ _ ?_
        clear hK K
        refine wpAnyIn_ready (rs := [6]) (by kernel_rfl) (by simp) ?_
        refine AllReadyIn.cons rfl (fun K hK => ?_) AllReadyIn.nil
        refine stepIn_append rfl _ _ _ _ rfl _ _ rfl rfl (by exact hr2) ?_
        refine hK _ _ ?_
        clear hK K
        refine wpAnyIn_ready (rs := [7]) (by kernel_rfl) (by simp) ?_
        refine AllReadyIn.cons rfl (fun K hK => ?_) AllReadyIn.nil
        go_simp
        refine hK _ _ ?_
        clear hK K
        refine wpAnyIn_done (by kernel_rfl) ?_ _
        gi_wp2
        exact ⟨HEnd.out.1.from _, HEnd.out.2⟩
      · go_simp
        refine hK _ _ ?_
        clear hK K
        refine wpAnyIn_ready (rs := [0, 3]) (by kernel_rfl) (by simp) ?_
        refine AllReadyIn.cons rfl (fun K hK => ?_) (AllReadyIn.cons rfl (fun K hK => ?_) AllReadyIn.nil)
        · go_simp
          refine hK _ _ ?_
          clear hK K
          refine wpAnyIn_ready (rs := [3]) (by kernel_rfl) (by simp) ?_
          refine AllReadyIn.cons rfl (fun K hK => ?_) AllReadyIn.nil
          go_simp
          refine hK _ _ ?_
          clear hK K
          refine wpAnyIn_ready (rs := [4]) (by kernel_rfl) (by simp) ?_
          refine AllReadyIn.cons rfl (fun K hK => ?_) AllReadyIn.nil
          go_simp
          refine hK _ _ ?_
          clear hK K
          refine wpAnyIn_ready (rs := [5]) (by kernel_rfl) (by simp) ?_
          refine AllReadyIn.cons rfl (fun K hK => ?_) AllReadyIn.nil
          go_simp
          refine hK _ _ ?_
          clear hK K
          refine wpAnyIn_ready (rs := [6]) (by kernel_rfl) (by simp) ?_
          refine AllReadyIn.cons rfl (fun K hK => ?_) AllReadyIn.nil
          refine stepIn_append rfl _ _ _ _ rfl _ _ rfl rfl (by exact hr2) ?_
          refine hK _ _ ?_
          clear hK K
          refine wpAnyIn_ready (rs := [7]) (by kernel_rfl) (by simp) ?_
          refine AllReadyIn.cons rfl (fun K hK => ?_) AllReadyIn.nil
          go_simp
          refine hK _ _ ?_
          clear hK K
          refine wpAnyIn_done (by kernel_rfl) ?_ _
          gi_wp2
          exact ⟨HEnd.out.1.from _, HEnd.out.2⟩
        · go_simp
          refine hK _ _ ?_
          clear hK K
          refine wpAnyIn_ready (rs := [0, 4]) (by kernel_rfl) (by simp) ?_
          refine AllReadyIn.cons rfl (fun K hK => ?_) (AllReadyIn.cons rfl (fun K hK => ?_) AllReadyIn.nil)
          · go_simp
            refine hK _ _ ?_
            clear hK K
            refine wpAnyIn_ready (rs := [4]) (by kernel_rfl) (by simp) ?_
            refine AllReadyIn.cons rfl (fun K hK => ?_) AllReadyIn.nil
            go_simp
            refine hK _ _ ?_
            clear hK K
            refine wpAnyIn_ready (rs := [5]) (by kernel_rfl) (by simp) ?_
            refine AllReadyIn.cons rfl (fun K hK => ?_) AllReadyIn.nil
            go_simp
            refine hK _ _ ?_
            clear hK K
            refine wpAnyIn_ready (rs := [6]) (by kernel_rfl) (by simp) ?_
            refine AllReadyIn.cons rfl (fun K hK => ?_) AllReadyIn.nil
            refine stepIn_append rfl _ _ _ _ rfl _ _ rfl rfl (by exact hr2) ?_
            refine hK _ _ ?_
            clear hK K
            refine wpAnyIn_ready (rs := [7]) (by kernel_rfl) (by simp) ?_
            refine AllReadyIn.cons rfl (fun K hK => ?_) AllReadyIn.nil
            go_simp
            refine hK _ _ ?_
            clear hK K
            refine wpAnyIn_done (by kernel_rfl) ?_ _
            gi_wp2
            exact ⟨HEnd.out.1.from _, HEnd.out.2⟩
          · go_simp
            refine hK _ _ ?_
            clear hK K
            refine wpAnyIn_ready (rs := [0, 5]) (by kernel_rfl) (by simp) ?_
            refine AllReadyIn.cons rfl (fun K hK => ?_) (AllReadyIn.cons rfl (fun K hK => ?_) AllReadyIn.nil)
            · go_simp
              refine hK _ _ ?_
              clear hK K
              refine wpAnyIn_ready (rs := [5]) (by kernel_rfl) (by simp) ?_
              refine AllReadyIn.cons rfl (fun K hK => ?_) AllReadyIn.nil
              go_simp
              refine hK _ _ ?_
              clear hK K
              refine wpAnyIn_ready (rs := [6]) (by kernel_rfl) (by simp) ?_
              refine AllReadyIn.cons rfl (fun K hK => ?_) AllReadyIn.nil
              refine stepIn_append rfl _ _ _ _ rfl _ _ rfl rfl (by exact hr2) ?_
              refine hK _ _ ?_
              clear hK K
              refine wpAnyIn_ready (rs := [7]) (by kernel_rfl) (by simp) ?_
              refine AllReadyIn.cons rfl (fun K hK => ?_) AllReadyIn.nil
              go_simp
              refine hK _ _ ?_
              clear hK K
              refine wpAnyIn_done (by kernel_rfl) ?_ _
              gi_wp2
              exact ⟨HEnd.out.1.from _, HEnd.out.2⟩
            · go_simp
              refine hK _ _ ?_
              clear hK K
              refine wpAnyIn_ready (rs := [0]) (by kernel_rfl) (by simp) ?_
              refine AllReadyIn.cons rfl (fun K hK => ?_) AllReadyIn.nil
              go_simp
              refine hK _ _ ?_
              clear hK K
              refine wpAnyIn_ready (rs := [6]) (by kernel_rfl) (by simp) ?_
              refine AllReadyIn.cons rfl (fun K hK => ?_) AllReadyIn.nil
              refine stepIn_append rfl _ _ _ _ rfl _ _ rfl rfl (by exact hr2) ?_
              refine hK _ _ ?_
              clear hK K
              refine wpAnyIn_ready (rs := [7]) (by kernel_rfl) (by simp) ?_
              refine AllReadyIn.cons rfl (fun K hK => ?_) AllReadyIn.nil
              go_simp
              refine hK _ _ ?_
              clear hK K
              refine wpAnyIn_done (by kernel_rfl) ?_ _
              gi_wp2
              exact ⟨HEnd.out.1.from _, HEnd.out.2⟩
  case done =>
    rintro D ys W hD rfl ⟨⟨v, hv, hrow, hz⟩, hB⟩ hK
    have hc := hv.cell
    gi_wp2
    refine ⟨by simp, .inl ⟨_, _, rfl, run_takeDeferred hK, ?_⟩⟩
    have hmap : (T.attach.map fun x => x.1.c) = T.map Tw.c := by
      have := attach_val T
      rw [← this, List.map_map]; simp
    have hrow2 : W.ownsRow w.heap.size 40 10 v T.length ((T.map Tw.c).flatMap xs10) := by rw [hmap] at hrow; simpa using hrow
    exact ⟨_, results_tmp rfl _ _ _, v, rfl, ownsRow_putObj hrow2 _ hK rfl, hB.trans (belowK_b (w := w) (Nat.le_refl _) W D _ _ (by simp at hD; omega) hK rfl rfl), fun h => hz (by rw [List.attach_eq_nil_iff]; exact h)⟩
  case stop =>
    rintro D c pre W _ _ h _
    exact h.elim
theorem src_one_int (w : World) (x : Int) : Src Try.prog 1 22 (.slice (some ⟨w.heap.size, 0, none⟩) 1 1) 1 (vI [x]) (w.alloc (.cells #[.int .i64 x] 3)).drew :=
  src_ints (l := [x]) (fun i y hy => by
    have hi : i = 0 := by have := (List.getElem?_eq_some_iff.1 hy).1; simp at this; exact this
    subst hi
    have hy2 : x = y := Option.some.inj hy
    subst hy2
    exact ⟨w.heap.size, 0, rfl, (Blk.new w [.int .i64 x] 3).cell 0 rfl⟩) (fun h => by cases h) 1
set_option maxRecDepth 100000 in
set_option maxHeartbeats 4000000 in
theorem heights_core (lv : Value) (T : List Tw) (w : World) (L0 : ∀ w', Below w.heap.size w w' → Calls Try.prog 35 #[lv] w' fun e w'' => e = .returned (pt (T.head?.map Tw.g)) ∧ w'' = w') (hC : Chain w T) (hh : ∀ t ∈ T, 1 ≤ t.h) (hnd : (T.map Tw.g).Nodup) (hlen : T.length ≤ 1000000) :
    Calls Try.prog 19 #[lv] w fun e W' => ∃ v, e = .returned v ∧ W'.ownsRow w.heap.size 3 1 v T.length (vI (T.map fun t => (t.hv : Int))) ∧ Below w.heap.size w W' ∧ (T = [] → v = .slice none 0 0) := by
  refine (callsIn_wide (n := 3)).1 ?_
  have hro : Fence.wide.round = none := rfl
  have h1 : 1 ≤ 3 := by omega
  obtain ⟨i1, hi1, hy0, hy1, hy2⟩ := infoX infoInt
  have hbO : Below w.heap.size w (w.alloc (.cells #[.slice none 0 0] 22)) := (Below.refl _ _).alloc (Nat.le_refl _) _
  have L : Hid (Calls Try.prog 35 #[lv] (w.alloc (.cells #[.slice none 0 0] 22)) fun e w' => e = .returned (pt (T.head?.map Tw.g)) ∧ w' = (w.alloc (.cells #[.slice none 0 0] 22))) := L0 _ hbO
  clear L0
  obtain ⟨p0, hp0⟩ : ∃ p0, pt (T.head?.map Tw.g) = .pointer p0 := ⟨_, rfl⟩
  rw [hp0] at L
  refine callsIn_of_wp_marks Try.func19 rfl trivial ?_ hro
  simp only [Try.ntmps19, List.size_toArray, List.length_cons, List.length_nil, Nat.reduceAdd, Nat.reduceSub, Array.replicate_succ, Array.replicate_zero, List.push_toArray, List.append_toArray, List.nil_append, List.cons_append]
  gi_wp2_with (first
    | (refine ⟨trivial, ?_⟩; gi_at_call 35; refine (callsIn_wide.2 L.out).mono ?_; rintro e w' ⟨rfl, rfl⟩)
    | (refine ⟨trivial, ?_⟩; gi_at_call 36; refine (on_in Fence.wide _ trivial hro _ _).mono ?_; rintro e w' ⟨rfl, rfl⟩))
  have bO := Boxed.new w 22 (.slice none 0 0)
  have bN := Boxed.new (w.alloc (.cells #[.slice none 0 0] 22)) 61 (.pointer p0)
  rw [World.size_alloc] at bN
  have hB0 : Below w.heap.size w ((w.alloc (.cells #[.slice none 0 0] 22)).alloc (.cells #[.pointer p0] 61)) := hbO.alloc (by simp) _
  refine wpIn_rangeFunc_ownG hro h1 (gf := 45) (lb := #[.pointer (some ⟨w.heap.size + 1, 0, none⟩)]) rfl trivial (enters_of Try.func45 (by kernel_rfl) rfl)
    (on_stops Fence.wide (3 - 1) trivial hro (by omega) (w.heap.size + 1) w.heap.size T _ (by simp) (by simp; omega) (by rw [hp0]; exact bN.cell) (hC.carry fun t ht => hB0.block _ (hC.lt t ht)) (fun t ht => hC.lt t ht) hh hnd) belowK_t (belowK_b (by simp; omega)) (Below.refl _ _) (fun _ => rfl)
    (fun pre W => (∃ v, Boxed W w.heap.size 22 v ∧ W.ownsRow w.heap.size 3 1 v pre.length (vI (pre.map fun x => (x.1.hv : Int))) ∧ (pre = [] → v = .slice none 0 0)) ∧ Below w.heap.size w W)
    (fun _ _ _ => False)
    (OwnFrom.and (Own.from (holdsRow_own w.heap.size w.heap.size 22 3 1 (fun pre : List (TwIn T) => pre.length) (fun pre => vI (pre.map fun x => (x.1.hv : Int))) (fun pre v => pre = [] → v = .slice none 0 0)) _) (ownFrom_below (Nat.le_refl _) (by simp; omega)))
    (fun _ _ _ _ _ hs _ _ => hs)
    ⟨⟨_, bO.alloc _, World.ownsRow_nil _ _ _ _, fun _ => rfl⟩, hB0⟩
    (fun x => { tmps := #[lv, undef, .slice none 0 0, .pointer (some ⟨w.heap.size, 0, none⟩), .pointer (some ⟨x.1.g, 0, none⟩), lv, .pointer p0, .func (.func 45) #[] #[.pointer (some ⟨w.heap.size + 1, 0, none⟩)], .pointer (some ⟨x.1.g, 0, none⟩), undef, undef, undef, undef, undef, undef, undef, undef], defers := [] }) ?assign ?body ?done ?stop
  case assign =>
    intro l x W K hK
    gi_wp2
    exact hK
  case body =>
    rintro l pre x W ⟨⟨v, hv, hrow, -⟩, hB⟩ hlt
    have hpl : pre.length < T.length := by simpa using hlt
    have hc := hv.cell
    obtain ⟨A, R, hT⟩ := List.append_of_mem x.2
    have htx : W.cell? ⟨x.1.g, 10, none⟩ = some (.int .i64 (x.1.hv : Nat)) := by
      have hC2 : Chain W T := hC.carry fun t ht => hB.block _ (hC.lt t ht)
      rw [hT] at hC2
      exact hC2.at.height
    obtain ⟨W1, hW1⟩ : ∃ W1, W1 = (W.alloc (.cells #[.int .i64 (x.1.hv : Nat)] 3)).drew := ⟨_, rfl⟩
    have hsz : W1.heap.size = W.heap.size + 1 := by rw [hW1]; exact World.size_alloc _ _
    have hsrc : Src Try.prog 1 22 (.slice (some ⟨W.heap.size, 0, none⟩) 1 1) 1 (vI [(x.1.hv : Int)]) W1 := by
      rw [hW1]; exact src_one_int W _
    have hrow1 : W1.ownsRow w.heap.size 3 1 v pre.length (vI (pre.map fun x => (x.1.hv : Int))) := by rw [hW1]; exact hrow.alloc _
    obtain ⟨v', w2, hr, ho2, hg2⟩ := run_append_grew (P := Try.prog) W1 w.heap.size 22 22 22 3 i1 _ 1 8 Try.underlying22 hi1 hy0 hy1 hy2 rfl v pre.length _ hrow1 _ 1 _ hsrc (by unfold maxLen; omega) (by omega) (by have := hB.size; omega)
    obtain ⟨g', cap', rfl⟩ := ownsRow_succ ho2
    rw [hW1] at hr
    have hbox1 : Boxed w2 w.heap.size 22 v := by
      have hb0 : Boxed W1 w.heap.size 22 v := by rw [hW1]; exact hv.alloc _
      exact hb0.kept hg2.rows (fun e => hb0.not_row (by decide) hrow1 e)
    have hgrow : (W.alloc (.cells #[.int .i64 (x.1.hv : Nat)] 3)).grownBy w2 v.ownBlock := by
      have hh := hg2.rows
      rw [hW1] at hh
      exact ⟨hh.os, hh.tape, hh.output, hh.size, hh.block⟩
    obtain ⟨-, hv2, hr3, hk2, hb2⟩ := hv.appended (by decide) hrow hB.size (Nat.le_refl _) ho2 hgrow
    have HEnd : Hid (KeepsOthers W (w2.setCell ⟨w.heap.size, 0, none⟩ (.slice (some ⟨g', 0, none⟩) (pre.length + 1) cap')) ∧ Below w.heap.size W (w2.setCell ⟨w.heap.size, 0, none⟩ (.slice (some ⟨g', 0, none⟩) (pre.length + 1) cap')) ∧ (∃ v, Boxed (w2.setCell ⟨w.heap.size, 0, none⟩ (.slice (some ⟨g', 0, none⟩) (pre.length + 1) cap')) w.heap.size 22 v ∧ (w2.setCell ⟨w.heap.size, 0, none⟩ (.slice (some ⟨g', 0, none⟩) (pre.length + 1) cap')).ownsRow w.heap.size 3 1 v (pre ++ [x]).length (vI ((pre ++ [x]).map fun x => (x.1.hv : Int))) ∧ (pre ++ [x] = [] → v = .slice none 0 0)) ∧ Below w.heap.size w (w2.setCell ⟨w.heap.size, 0, none⟩ (.slice (some ⟨g', 0, none⟩) (pre.length + 1) cap'))) := ⟨hk2, hb2, ⟨_, hv2, by rw [List.map_append, List.length_append]; unfold vI at hr3 ⊢; rw [List.map_append]; exact hr3, fun h => by simp at h⟩, hB.trans hb2⟩
    have hvlt := hv.lt
    have cb := hbox1.cell
    have fb := hbox1.frozen
    clear hv2 hr3 hk2 hb2 hgrow
    obtain ⟨⟨tg, tcell, thv, th⟩, hxm⟩ := x
    simp only at htx hr
    have hmix : Try.prog.follows Departure.mixedOrders = true := by kernel_rfl
    have hr2 : (Builtin.append_ #[22, 22] 22 #[v, .slice (some ⟨W.heap.size, 0, none⟩) 1 1]).run Try.prog (W.drew.alloc (.cells #[.int .i64 (thv : Nat)] 3)) = .ok (.slice (some ⟨g', 0, none⟩) (pre.length + 1) cap') w2 := hr
    have hc2 : (W.alloc (.cells #[.int .i64 (thv : Nat)] 3)).drew.cell? ⟨w.heap.size, 0, none⟩ = some v := (hv.alloc _).cell
    clear hr
    gi_wp2
    refine wpIn_region_any (by assumption) ?_
    change wpAnyIn _ _ _ _ _ _ _ _ _ (World.drew _)
    refine wpAnyIn_ready (rs := [0, 1]) (by kernel_rfl) (by simp) ?_
    refine AllReadyIn.cons rfl (fun K hK => ?_) (AllReadyIn.cons rfl (fun K hK => ?_) AllReadyIn.nil)
    · go_simp
      refine hK _ _ ?_
      clear hK K
      refine wpAnyIn_ready (rs := [1]) (by kernel_rfl) (by simp) ?_
      refine AllReadyIn.cons rfl (fun K hK => ?_) AllReadyIn.nil
      go_simp
      refine hK _ _ ?_
      clear hK K
      refine wpAnyIn_ready (rs := [2]) (by kernel_rfl) (by simp) ?_
      refine AllReadyIn.cons rfl (fun K hK => ?_) AllReadyIn.nil
      go_simp
      refine hK _ _ ?_
      clear hK K
      refine wpAnyIn_ready (rs := [3]) (by kernel_rfl) (by simp) ?_
      refine AllReadyIn.cons rfl (fun K hK => ?_) AllReadyIn.nil
      go_simp
      refine hK _ _ ?_
      clear hK K
      refine wpAnyIn_ready (rs := [4]) (by kernel_rfl) (by simp) ?_
      refine AllReadyIn.cons rfl (fun K hK => ?_) AllReadyIn.nil
      go_simp
      refine hK _ _ ?_
      clear hK K
      refine wpAnyIn_ready (rs := [5]) (by kernel_rfl) (by simp) ?_
      refine AllReadyIn.cons rfl (fun K hK => ?_) AllReadyIn.nil
      go_simp
      refine hK _ _ ?_
      clear hK K
      refine wpAnyIn_ready (rs := [6]) (by kernel_rfl) (by simp) ?_
      refine AllReadyIn.cons rfl (fun K hK => ?_) AllReadyIn.nil
      refine stepIn_append rfl _ _ _ _ rfl _ _ rfl rfl (by exact hr2) ?_
      refine hK _ _ ?_
      clear hK K
      refine wpAnyIn_ready (rs := [7]) (by kernel_rfl) (by simp) ?_
      refine AllReadyIn.cons rfl (fun K hK => ?_) AllReadyIn.nil
      go_simp
      refine hK _ _ ?_
      clear hK K
      refine wpAnyIn_done (by kernel_rfl) ?_ _
      gi_wp2
      exact ⟨HEnd.out.1.from _, HEnd.out.2⟩
    · go_simp
      refine hK _ _ ?_
      clear hK K
      refine wpAnyIn_ready (rs := [0, 2]) (by kernel_rfl) (by simp) ?_
      refine AllReadyIn.cons rfl (fun K hK => ?_) (AllReadyIn.cons rfl (fun K hK => ?_) AllReadyIn.nil)
      · go_simp
        refine hK _ _ ?_
        clear hK K
        refine wpAnyIn_ready (rs := [2]) (by kernel_rfl) (by simp) ?_
        refine AllReadyIn.cons rfl (fun K hK => ?_) AllReadyIn.nil
        go_simp
        refine hK _ _ ?_
        clear hK K
        refine wpAnyIn_ready (rs := [3]) (by kernel_rfl) (by simp) ?_
        refine AllReadyIn.cons rfl (fun K hK => ?_) AllReadyIn.nil
        go_simp
        refine hK _ _ ?_
        clear hK K
        refine wpAnyIn_ready (rs := [4]) (by kernel_rfl) (by simp) ?_
        refine AllReadyIn.cons rfl (fun K hK => ?_) AllReadyIn.nil
        go_simp
        refine hK _ _ ?_
        clear hK K
        refine wpAnyIn_ready (rs := [5]) (by kernel_rfl) (by simp) ?_
        refine AllReadyIn.cons rfl (fun K hK => ?_) AllReadyIn.nil
        go_simp
        refine hK _ _ ?_
        clear hK K
        refine wpAnyIn_ready (rs := [6]) (by kernel_rfl) (by simp) ?_
        refine AllReadyIn.cons rfl (fun K hK => ?_) AllReadyIn.nil
        refine stepIn_append rfl _ _ _ _ rfl _ _ rfl rfl (by exact hr2) ?_
        refine hK _ _ ?_
        clear hK K
        refine wpAnyIn_ready (rs := [7]) (by kernel_rfl) (by simp) ?_
        refine AllReadyIn.cons rfl (fun K hK => ?_) AllReadyIn.nil
        go_simp
        refine hK _ _ ?_
        clear hK K
        refine wpAnyIn_done (by kernel_rfl) ?_ _
        gi_wp2
        exact ⟨HEnd.out.1.from _, HEnd.out.2⟩
      · go_simp
        refine hK _ _ ?_
        clear hK K
        refine wpAnyIn_ready (rs := [0, 3]) (by kernel_rfl) (by simp) ?_
        refine AllReadyIn.cons rfl (fun K hK => ?_) (AllReadyIn.cons rfl (fun K hK => ?_) AllReadyIn.nil)
        · go_simp
          refine hK _ _ ?_
          clear hK K
          refine wpAnyIn_ready (rs := [3]) (by kernel_rfl) (by simp) ?_
          refine AllReadyIn.cons rfl (fun K hK => ?_) AllReadyIn.nil
          go_simp
          refine hK _ _ ?_
          clear hK K
          refine wpAnyIn_ready (rs := [4]) (by kernel_rfl) (by simp) ?_
          refine AllReadyIn.cons rfl (fun K hK => ?_) AllReadyIn.nil
          go_simp
          refine hK _ _ ?_
          clear hK K
          refine wpAnyIn_ready (rs := [5]) (by kernel_rfl) (by simp) ?_
          refine AllReadyIn.cons rfl (fun K hK => ?_) AllReadyIn.nil
          go_simp
          refine hK _ _ ?_
          clear hK K
          refine wpAnyIn_ready (rs := [6]) (by kernel_rfl) (by simp) ?_
          refine AllReadyIn.cons rfl (fun K hK => ?_) AllReadyIn.nil
          refine stepIn_append rfl _ _ _ _ rfl _ _ rfl rfl (by exact hr2) ?_
          refine hK _ _ ?_
          clear hK K
          refine wpAnyIn_ready (rs := [7]) (by kernel_rfl) (by simp) ?_
          refine AllReadyIn.cons rfl (fun K hK => ?_) AllReadyIn.nil
          go_simp
          refine hK _ _ ?_
          clear hK K
          refine wpAnyIn_done (by kernel_rfl) ?_ _
          gi_wp2
          exact ⟨HEnd.out.1.from _, HEnd.out.2⟩
        · go_simp
          refine hK _ _ ?_
          clear hK K
          refine wpAnyIn_ready (rs := [0, 4]) (by kernel_rfl) (by simp) ?_
          refine AllReadyIn.cons rfl (fun K hK => ?_) (AllReadyIn.cons rfl (fun K hK => ?_) AllReadyIn.nil)
          · go_simp
            refine hK _ _ ?_
            clear hK K
            refine wpAnyIn_ready (rs := [4]) (by kernel_rfl) (by simp) ?_
            refine AllReadyIn.cons rfl (fun K hK => ?_) AllReadyIn.nil
            go_simp
            refine hK _ _ ?_
            clear hK K
            refine wpAnyIn_ready (rs := [5]) (by kernel_rfl) (by simp) ?_
            refine AllReadyIn.cons rfl (fun K hK => ?_) AllReadyIn.nil
            go_simp
            refine hK _ _ ?_
            clear hK K
            refine wpAnyIn_ready (rs := [6]) (by kernel_rfl) (by simp) ?_
            refine AllReadyIn.cons rfl (fun K hK => ?_) AllReadyIn.nil
            refine stepIn_append rfl _ _ _ _ rfl _ _ rfl rfl (by exact hr2) ?_
            refine hK _ _ ?_
            clear hK K
            refine wpAnyIn_ready (rs := [7]) (by kernel_rfl) (by simp) ?_
            refine AllReadyIn.cons rfl (fun K hK => ?_) AllReadyIn.nil
            go_simp
            refine hK _ _ ?_
            clear hK K
            refine wpAnyIn_done (by kernel_rfl) ?_ _
            gi_wp2
            exact ⟨HEnd.out.1.from _, HEnd.out.2⟩
          · go_simp
            refine hK _ _ ?_
            clear hK K
            refine wpAnyIn_ready (rs := [0, 5]) (by kernel_rfl) (by simp) ?_
            refine AllReadyIn.cons rfl (fun K hK => ?_) (AllReadyIn.cons rfl (fun K hK => ?_) AllReadyIn.nil)
            · go_simp
              refine hK _ _ ?_
              clear hK K
              refine wpAnyIn_ready (rs := [5]) (by kernel_rfl) (by simp) ?_
              refine AllReadyIn.cons rfl (fun K hK => ?_) AllReadyIn.nil
              go_simp
              refine hK _ _ ?_
              clear hK K
              refine wpAnyIn_ready (rs := [6]) (by kernel_rfl) (by simp) ?_
              refine AllReadyIn.cons rfl (fun K hK => ?_) AllReadyIn.nil
              refine stepIn_append rfl _ _ _ _ rfl _ _ rfl rfl (by exact hr2) ?_
              refine hK _ _ ?_
              clear hK K
              refine wpAnyIn_ready (rs := [7]) (by kernel_rfl) (by simp) ?_
              refine AllReadyIn.cons rfl (fun K hK => ?_) AllReadyIn.nil
              go_simp
              refine hK _ _ ?_
              clear hK K
              refine wpAnyIn_done (by kernel_rfl) ?_ _
              gi_wp2
              exact ⟨HEnd.out.1.from _, HEnd.out.2⟩
            · go_simp
              refine hK _ _ ?_
              clear hK K
              refine wpAnyIn_ready (rs := [0]) (by kernel_rfl) (by simp) ?_
              refine AllReadyIn.cons rfl (fun K hK => ?_) AllReadyIn.nil
              go_simp
              refine hK _ _ ?_
              clear hK K
              refine wpAnyIn_ready (rs := [6]) (by kernel_rfl) (by simp) ?_
              refine AllReadyIn.cons rfl (fun K hK => ?_) AllReadyIn.nil
              refine stepIn_append rfl _ _ _ _ rfl _ _ rfl rfl (by exact hr2) ?_
              refine hK _ _ ?_
              clear hK K
              refine wpAnyIn_ready (rs := [7]) (by kernel_rfl) (by simp) ?_
              refine AllReadyIn.cons rfl (fun K hK => ?_) AllReadyIn.nil
              go_simp
              refine hK _ _ ?_
              clear hK K
              refine wpAnyIn_done (by kernel_rfl) ?_ _
              gi_wp2
              exact ⟨HEnd.out.1.from _, HEnd.out.2⟩
  case done =>
    rintro D ys W hD rfl ⟨⟨v, hv, hrow, hz⟩, hB⟩ hK
    have hc := hv.cell
    gi_wp2
    refine ⟨by simp, .inl ⟨_, _, rfl, run_takeDeferred hK, ?_⟩⟩
    have hmap : (T.attach.map fun x => (x.1.hv : Int)) = T.map fun t => (t.hv : Int) := by
      have := attach_val T
      rw [← this, List.map_map]; simp
    have hrow2 : W.ownsRow w.heap.size 3 1 v T.length (vI (T.map fun t => (t.hv : Int))) := by rw [hmap] at hrow; simpa using hrow
    exact ⟨_, results_tmp rfl _ _ _, v, rfl, ownsRow_putObj hrow2 _ hK rfl, hB.trans (belowK_b (w := w) (Nat.le_refl _) W D _ _ (by simp at hD; omega) hK rfl rfl), fun h => hz (by rw [List.attach_eq_nil_iff]; exact h)⟩
  case stop =>
    rintro D c pre W _ _ h _
    exact h.elim
theorem all_any (S : SkId) (hs : List Nat) (T : List Tw) (w : World) (h : SkAt w S hs T) :
    Calls Try.prog 17 #[.pointer (some ⟨S.l, 0, none⟩)] w fun e W' => ∃ v, e = .returned v ∧ W'.ownsRow w.heap.size 40 10 v T.length ((T.map Tw.c).flatMap xs10) ∧ Below w.heap.size w W' :=
  (all_core _ T w (fun w' hb => lowest_any S hs T w' (h.below hb (Nat.le_refl _))) h.tw.chain (fun t ht => (h.ok t ht).1) (List.nodup_cons.1 h.tw.nodup).2 h.len).mono fun _ _ ⟨v, he, ho, hb, _⟩ => ⟨v, he, ho, hb⟩
theorem all_none (v : Value) (w : World) (h : Unmade w v) :
    Calls Try.prog 17 #[v] w fun e W' => e = .returned (.slice none 0 0) ∧ Below w.heap.size w W' :=
  (all_core v [] w (fun w' hb => lowest_none v w' (h.below hb (Nat.le_refl _))) trivial (fun t ht => by cases ht) (by simp) (by simp)).mono fun _ _ ⟨_, he, _, hb, hz⟩ => ⟨by rw [he, hz rfl], hb⟩
theorem heights_any (S : SkId) (hs : List Nat) (T : List Tw) (w : World) (h : SkAt w S hs T) :
    Calls Try.prog 19 #[.pointer (some ⟨S.l, 0, none⟩)] w fun e W' => ∃ v, e = .returned v ∧ W'.ownsRow w.heap.size 3 1 v T.length (vI (T.map fun t => (t.hv : Int))) ∧ Below w.heap.size w W' :=
  (heights_core _ T w (fun w' hb => lowest_any S hs T w' (h.below hb (Nat.le_refl _))) h.tw.chain (fun t ht => (h.ok t ht).1) (List.nodup_cons.1 h.tw.nodup).2 h.len).mono fun _ _ ⟨v, he, ho, hb, _⟩ => ⟨v, he, ho, hb⟩
theorem heights_none (v : Value) (w : World) (h : Unmade w v) :
    Calls Try.prog 19 #[v] w fun e W' => e = .returned (.slice none 0 0) ∧ Below w.heap.size w W' :=
  (heights_core v [] w (fun w' hb => lowest_none v w' (h.below hb (Nat.le_refl _))) trivial (fun t ht => by cases ht) (by simp) (by simp)).mono fun _ _ ⟨_, he, _, hb, hz⟩ => ⟨by rw [he, hz rfl], hb⟩
end Go.Proofs.Ytlhojbgpmjcjlaa

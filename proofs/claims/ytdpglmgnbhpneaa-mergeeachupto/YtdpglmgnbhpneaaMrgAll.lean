/-
  CONTRACT: the cells of all lists (All).
-/
import Derived.Test.YtdpglmgnbhpneaaMrgIt
import Derived.Test.YtdpglmgnbhpneaaCxRefMore
namespace Go.Proofs.Ytdpglmgnbhpneaa
open Go.RowKit Go.Shelf

attribute [local go_sem] Oper.semAt_some

/-- An append whose run is known, in a fence. -/
theorem wpListIn_appM {F : Fence} {n : Nat} {P : Program} {w : World} {ops : Array Oper} {rest : List Oper} {o : Oper} {a : Act} {Q : Exit → Act → World → Prop}
    (hgd : o.guard = none) (s x : Operand) (t tx : TypeId) (ho : o.op = .call { callee := .builtin .append, args := #[s, x], argTypes := #[t, tx] }) (v xv : Value) (hs : a.eval s = v) (hx : a.eval x = xv) {v' : Value} {w' : World}
    (hr : (Builtin.append_ #[t, tx] o.type #[v, xv]).run P w = .ok v' w') (h : wpListIn F n P ops Q rest (a.put o.dst v') w') : wpListIn F n P ops Q (o :: rest) a w := by
  refine wpListIn_plain hgd fun K hK => ?_
  unfold Oper.wpIn
  refine ⟨by simp [Oper.about, ho, resolve, Target.leads, Sem.run_pure], ?_⟩
  rw [Oper.semAt_plain F _ _ (by rw [ho]; intro c hc; cases hc)]
  simp [execOp, ho, resolve, invoke, builtin, hs, hx, hr, Result.andThen]
  exact hK _ _ h
/-- What may be written while cells are gathered: the box, and the row that it holds. -/
def GFp (ob : Nat) (X : World) (k : Nat) : Prop := k = ob ∨ ∃ v, X.cell? ⟨ob, 0, none⟩ = some v ∧ v.ownBlock = some k
theorem gfp_told (ob : Nat) : Told (fun k => k = ob) (GFp ob) := fun X Y h k hk => by
  rcases hk with e | ⟨v, hv, he⟩
  · exact .inl e
  · refine .inr ⟨v, ?_, he⟩
    simpa only [World.cell?, h ob rfl] using hv
/-- Cells that were gathered. -/
structure Ga (ob n0 z : Nat) (w : World) (L : List Cx) (W : World) : Prop where
  row : ∃ v, Blk W ob [v] 25 ∧ W.ownsRow n0 39 10 v L.length (L.flatMap xs10) ∧ (∀ g, v.ownBlock = some g → z ≤ g)
  bel : Below w.heap.size w W
theorem Ga.zoned {ob n0 z a : Nat} {w : World} {L : List Cx} {X Y : World} (h : Ga ob n0 z w L X) (hz : Zoned a z X Y) (ho : ob < a) (hw : w.heap.size ≤ a) : Ga ob n0 z w L Y := by
  obtain ⟨⟨v, h1, h2, h3⟩, h4⟩ := h
  refine ⟨⟨v, h1.carry (hz.block _ h1.lt (.inl ho)), ownsRow_blk h2 fun g hg => hz.block g (h2.lt g hg).2 (.inr (h3 g hg)), h3⟩, h4.trans (hz.below hw h4.size)⟩
theorem Ga.fp {ob n0 z : Nat} {w : World} {L : List Cx} {X : World} (h : Ga ob n0 z w L X) : ∀ k, GFp ob X k → (k = ob ∨ z ≤ k) ∧ k < X.heap.size := fun k hk => by
  obtain ⟨⟨v, h1, h2, h3⟩, h4⟩ := h
  rcases hk with rfl | ⟨u, hu, he⟩
  · exact ⟨.inl rfl, h1.lt⟩
  · rw [h1.cell 0 rfl] at hu
    cases hu
    exact ⟨.inr (h3 k he), (h2.lt k he).2⟩
/-- One more. -/
theorem Ga.add {ob n0 z : Nat} {w : World} {L : List Cx} {X X2 w3 : World} {v v' : Value} {x : Cx} {o : Obj} (h : Ga ob n0 z w L X) (hv : X.cell? ⟨ob, 0, none⟩ = some v) (hX : Below X.heap.size X X2) (hz : z ≤ X.heap.size) (hob : ob < z) (hw : w.heap.size ≤ ob)
    (ho : w3.ownsRow n0 39 10 v' (L.length + 1) (L.flatMap xs10 ++ [x].flatMap xs10)) (hg : Grew (X2.alloc o) w3 v v') :
    Ga ob n0 z w (L ++ [x]) (w3.setCell ⟨ob, 0, none⟩ v') ∧ SparedF (GFp ob) X (w3.setCell ⟨ob, 0, none⟩ v') ∧ Blk w3 ob [v] 25 := by
  obtain ⟨⟨u, h1, h2, h3⟩, h4⟩ := h
  rw [h1.cell 0 rfl] at hv
  cases hv
  have hs2 : (X2.alloc o).heap.size = X2.heap.size + 1 := by simp
  have hgs := hg.rows.size
  have hXs := hX.size
  have hno : v.ownBlock ≠ some ob := fun e => by have := h3 _ e; omega
  have bx : Blk w3 ob [v] 25 := ((h1.carry (hX.block _ h1.lt)).alloc o).carry (hg.rows.block _ (by have := h1.lt; omega) fun e => hno e.symm)
  have g4 := grownBy_setCell' w3 ob v'
  have hv' : ∀ g, v'.ownBlock = some g → z ≤ g := fun g e => by
    rcases hg.own g e with e1 | e1
    · exact h3 g e1
    · omega
  have hb2 : Below w.heap.size w (X2.alloc o) := (h4.trans (hX.mono h4.size)).alloc (by have := h4.size; omega) _
  have hb3 : Below w.heap.size w w3 := hb2.trans (hg.below hb2.size fun g e => by have := h3 g e; omega)
  refine ⟨⟨⟨v', bx.set 0 _, ?_, hv'⟩, hb3.trans ((Below.refl _ _).setCell (p := ⟨ob, 0, none⟩) hw _)⟩, ?_, bx⟩
  · rw [List.length_append, List.flatMap_append]
    exact ownsRow_blk ho fun g e => g4.block g (ho.lt g e).2 (by have := hv' g e; simp; omega)
  · refine ⟨g4.os.trans (hg.rows.os.trans hX.os), g4.tape.trans (hg.rows.tape.trans hX.tape), g4.output.trans (hg.rows.output.trans hX.output), by have := g4.size; omega, fun k hk hn => ?_⟩
    have n1 : k ≠ ob := fun e => hn (.inl e)
    have n2 : v.ownBlock ≠ some k := fun e => hn (.inr ⟨v, h1.cell 0 rfl, e⟩)
    exact (g4.block k (by omega) (by simpa using n1)).trans ((hg.rows.block k (by omega) (fun e => n2 e.symm)).trans ((Below.heap_alloc _ _ _ (by omega)).trans (hX.block k hk)))
theorem src_one_cx (w : World) (c : Cx) : Src Try.prog 10 25 (.slice (some ⟨w.heap.size, 0, none⟩) 1 1) 1 (([c] : List Cx).flatMap xs10) (w.alloc (.cells c.a 39)) :=
  src_cells (l := [c]) (fun i x hx => by
    have hi : i = 0 := by have := (List.getElem?_eq_some_iff.1 hx).1; simp at this; exact this
    subst hi
    have hx2 : c = x := Option.some.inj hx
    subst hx2
    exact ⟨w.heap.size, 0, rfl, TenX.new w c 39⟩) (fun h => by cases h) 1
theorem j2_len (l : List Cx) : (j2 l).length ≤ l.length := by
  have h1 := j2_sum l
  have h2 := j2_pos l
  have : ∀ (L : List (Cx × Nat)), (∀ y ∈ L, 1 ≤ y.2) → L.length ≤ (L.map Prod.snd).sum := fun L => by
    induction L with
    | nil => simp
    | cons y L ih =>
      intro h
      have := ih fun y hy => h y (by simp [hy])
      have := h y (by simp)
      simp; omega
  have := this _ h2
  omega
set_option maxRecDepth 100000 in
set_option maxHeartbeats 1000000 in
theorem all_anyM (lo : Option Addr) (vs : List Lv) (lcap : Nat) (w : World) (hs : LSees w lo vs) (hin : ∀ v ∈ vs, XSees w v.ao v.l) (hl : vs.length ≤ 1000) (hll : ∀ v ∈ vs, v.l.length ≤ 1000000) (htot : (vs.map (fun v => nrm v.l)).flatten.length ≤ 1000000) :
    Calls Try.prog 15 #[.slice lo vs.length lcap] w fun e w' => ∃ v, e = .returned v ∧ w'.ownsRow w.heap.size 39 10 v (nrm (vs.map (fun v => nrm v.l)).flatten).length ((nrm (vs.map (fun v => nrm v.l)).flatten).flatMap xs10) ∧ Below w.heap.size w w' := by
  refine (callsIn_wide (n := 6)).1 ?_
  have hro : Fence.wide.round = none := rfl
  have h1 : 1 ≤ 6 := by omega
  obtain ⟨i1, hi1, hy0, hy1, hy2⟩ := infoX infoCx
  have hB0 : Below w.heap.size w (w.alloc (.cells #[.slice none 0 0] 25)) := (Below.refl _ _).alloc (Nat.le_refl _) _
  have EA : Hid (Calls Try.prog 13 #[.slice lo vs.length lcap] (w.alloc (.cells #[.slice none 0 0] 25)) fun e w' => ∃ (Bn : Nat) (so : Option Addr) (ss : List Lv) (scap : Nat), e = .returned (.func (.func 29) #[] #[.pointer (some ⟨Bn, 0, none⟩)]) ∧ w'.cell? ⟨Bn, 0, none⟩ = some (.slice so ss.length scap) ∧ LSees w' so ss ∧ (∀ v ∈ ss, v.At w' (fun k => (w.alloc (.cells #[.slice none 0 0] 25)).heap.size ≤ k ∧ k < w'.heap.size)) ∧ ss.map Lv.l = vs.map (fun v => nrm v.l) ∧ Below (w.alloc (.cells #[.slice none 0 0] 25)).heap.size (w.alloc (.cells #[.slice none 0 0] 25)) w' ∧ (w.alloc (.cells #[.slice none 0 0] 25)).heap.size ≤ Bn) :=
    each_any lo vs lcap _ (hs.below hB0 (Nat.le_refl _)) (fun v hv => (hin v hv).below hB0 (Nat.le_refl _)) hl hll
  clear hs hin
  refine callsIn_of_wp_marks Try.func15 rfl trivial ?_ hro
  simp only [Try.ntmps15, List.size_toArray, List.length_cons, List.length_nil, Nat.reduceAdd, Nat.reduceSub, Array.replicate_succ, Array.replicate_zero, List.push_toArray, List.append_toArray, List.nil_append, List.cons_append]
  gi_wp2_with (refine ⟨trivial, ?_⟩; gi_at_call 13; refine (callsIn_wide.2 EA.out).mono ?_; rintro e w1 ⟨Bn, so, ss, scap, rfl, hBn, hss, hat, hsl, hB1, hBnl⟩)
  clear EA
  have bO : Blk w1 w.heap.size [.slice none 0 0] 25 := (Blk.new w [.slice none 0 0] _).carry (hB1.block _ (by simp))
  rw [World.size_alloc] at hB1 hat hBnl
  have hs1 := hB1.size
  rw [World.size_alloc] at hs1
  have hBw : Below w.heap.size w w1 := hB0.trans (hB1.mono (by omega))
  have hlen : ss.length = vs.length := by have := congrArg List.length hsl; simpa using this
  have hris : ∀ l ∈ ss.map Lv.l, Rising l := fun l hlm => by
    rw [hsl] at hlm
    obtain ⟨v, _, rfl⟩ := List.mem_map.1 hlm
    exact nrm_rising _
  obtain ⟨R, hR1, hR2⟩ := ss_ex hris
  have hnrm : jr (R.map Prod.fst) = nrm (vs.map (fun v => nrm v.l)).flatten := by rw [← hsl]; exact ss_nrm hris hR1 hR2
  have hRl : R.length ≤ 1000000 := by
    rw [hR2.length_eq, ← List.length_map (f := Prod.fst), prL_fst, hsl]
    exact htot
  refine range_zone (I := fun z pre X => Ga w.heap.size w.heap.size z w (pre.map Prod.fst) X) (Ix := fun _ _ _ _ => False) (Ex := fun k => k = w.heap.size) (Fp := GFp w.heap.size) (xs := j2 (R.map Prod.fst)) (encs := fun p : Cx × Nat => #[p.1.val, .int .i64 p.2]) hro h1 (gf := 29) (lb := #[.pointer (some ⟨Bn, 0, none⟩)]) rfl trivial (enters_of Try.func29 (by kernel_rfl) rfl)
    (each1_zone (6 - 1) (by omega) _ _ (gfp_told _) Bn so ss scap R w1 hBn (fun k hk => by omega) hss (fun v hv => (hat v hv).blk (fun _ _ => rfl) (fun k hk => ⟨hk.2, by omega⟩)) (fun v hv => hris _ (List.mem_map_of_mem hv)) (by omega) hR1 hR2 hRl) (fun k hk => by omega) (gfp_told _) (fun _ => rfl) ?hI ?hIx ?hF ?h0 ?round ?done ?stop
  case hI => exact fun z pre X Y h hz => h.zoned hz (by omega) (by omega)
  case hIx => exact fun _ _ _ _ _ h _ => h
  case hF => exact fun z pre X h => h.fp
  case h0 =>
    intro V hV _
    refine ⟨⟨_, bO.carry (hV.block _ (by omega)), World.ownsRow_nil _ _ _ _, fun g hg => by simp [Value.ownBlock] at hg⟩, hBw.trans (hV.mono (by omega))⟩
  case round =>
    rintro l2 z pre ⟨x, m⟩ V K hz hzV hi hpre hK
    obtain ⟨⟨xa, xp, xr, xc⟩, ⟨xt, xd, xl, xk, xn, xs⟩⟩ := x
    simp only [Cx.val, Cx.a]
    gi_wp2
    refine hK _ _ ((Below.refl _ _).alloc (Nat.le_refl _) _) ?_
    intro W2 hz2 hsz2
    clear hK K
    rw [World.size_alloc] at hsz2
    have hVW : Zoned w1.heap.size z V W2 := ((Zoned.refl _ _ _).alloc _).trans (hz2.wide (Nat.le_refl _) hz)
    have hi2 := hi.zoned hVW (by omega) (by omega)
    have bx : Blk W2 V.heap.size [.string xa, .string xp, .int .i64 xr, .string xc, .int .i64 xt, .bool xd, .int .i64 xl, .int .i64 xk, .int .i64 xn, .string xs] 39 := (Blk.new V [.string xa, .string xp, .int .i64 xr, .string xc, .int .i64 xt, .bool xd, .int .i64 xl, .int .i64 xk, .int .i64 xn, .string xs] _).carry (hz2.block _ (by simp) (.inr (by omega)))
    clear hz2 hi hVW
    have hpl : pre.length ≤ 1000000 := by
      have h2 := hpre.length_le
      have h3 := j2_len (R.map Prod.fst)
      simp at h2 h3
      omega
    obtain ⟨⟨v, b1, b2, b3⟩, b4⟩ := hi2
    have b2' := b2
    rw [List.length_map] at b2'
    obtain ⟨va, vc, rfl⟩ := ownsM_shape b2'
    have c0 := b1.cell 0 rfl
    obtain ⟨v', w3, hr3, ho3, hg3⟩ := run_append_grew (P := Try.prog) (W2.alloc (.cells (Cx.a ⟨⟨xa, xp, xr, xc⟩, ⟨xt, xd, xl, xk, xn, xs⟩⟩) 39)) w.heap.size 25 25 25 39 i1 _ 10 112 Try.underlying25 hi1 hy0 hy1 hy2 rfl _ pre.length _ (b2'.alloc _) _ 1 _ (src_one_cx W2 ⟨⟨xa, xp, xr, xc⟩, ⟨xt, xd, xl, xk, xn, xs⟩⟩) (by unfold maxLen; omega) (by omega) (by have := b4.size; simp; omega)
    obtain ⟨p1, p2, p3⟩ := Ga.add (X := W2) (X2 := W2) ⟨⟨_, b1, b2, b3⟩, b4⟩ c0 (Below.refl _ _) (by omega) (by omega) (Nat.le_refl _) (by rw [List.length_map]; exact ho3) hg3
    have HE : Hid (zPost (GFp w.heap.size) w1.heap.size z (fun z pre X => Ga w.heap.size w.heap.size z w (pre.map Prod.fst) X) (fun _ _ _ _ => False) (pre ++ [(⟨⟨xa, xp, xr, xc⟩, ⟨xt, xd, xl, xk, xn, xs⟩⟩, m)]) W2 .normal ⟨#[], []⟩ (w3.setCell ⟨w.heap.size, 0, none⟩ v')) := ⟨p2, by show Ga _ _ _ _ _ _; rw [List.map_append]; exact p1⟩
    obtain ⟨va', vc', rfl⟩ := ownsM_shape ho3
    have c3 := p3.cell 0 rfl
    have f3 := p3.frozen 0
    have x0 := bx.cell 0 rfl
    have x1 := bx.cell 1 rfl
    have x2 := bx.cell 2 rfl
    have x3 := bx.cell 3 rfl
    have x4 := bx.cell 4 rfl
    have x5 := bx.cell 5 rfl
    have x6 := bx.cell 6 rfl
    have x7 := bx.cell 7 rfl
    have x8 := bx.cell 8 rfl
    have x9 := bx.cell 9 rfl
    simp only [Cx.a] at hr3
    simp only [zPost] at HE
    clear b1 b2 b2' b3 b4 p1 p2 p3 ho3 hg3 bx hpre hsz2
    gi_wp2_with (refine wpListIn_appM rfl _ _ _ _ rfl _ _ rfl rfl (by exact hr3) ?_)
    exact HE.out
  case done =>
    intro z W3 hz hzW hi hK
    obtain ⟨⟨v, b1, b2, b3⟩, b4⟩ := hi
    have c0 := b1.cell 0 rfl
    have HE : Hid ((W3.putObj w1.heap.size (.deferred none)).ownsRow w.heap.size 39 10 v (nrm (vs.map (fun v => nrm v.l)).flatten).length ((nrm (vs.map (fun v => nrm v.l)).flatten).flatMap xs10) ∧ Below w.heap.size w (W3.putObj w1.heap.size (.deferred none))) := by
      rw [← hnrm, ← j2_fst]
      refine ⟨ownsRow_blk b2 fun g hg => World.putObj_heap_other (by have := b3 g hg; omega), b4.trans ((zoned_put w1.heap.size (w1.heap.size + 1) W3 w1.heap.size (.deferred none) (Nat.le_refl _) (by omega)).below (by omega) b4.size)⟩
    clear b1 b2 b3 b4
    gi_wp2
    refine ⟨by simp, .inl ⟨_, _, rfl, run_takeDeferred hK, ?_⟩⟩
    exact ⟨_, results_tmp rfl _ _ _, v, rfl, HE.out⟩
  case stop => exact fun _ _ _ _ _ _ _ h _ => h.elim
end Go.Proofs.Ytdpglmgnbhpneaa

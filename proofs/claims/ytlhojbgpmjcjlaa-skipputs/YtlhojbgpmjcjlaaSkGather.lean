/-
  CONTRACT: what a scan tells, up to a count (the law's gather).
-/
import Derived.Test.YtlhojbgpmjcjlaaSkScan
namespace Go.Proofs.Ytlhojbgpmjcjlaa
open Go.RowKit Go.Shelf

attribute [local go_sem] Oper.semAt_some

/-- Two keys and a number. -/
def endsV (f u : Kb) (s : Int) : Value := .agg #[.string f.t, .string f.p, .int .i64 f.r, .string f.c, .string u.t, .string u.p, .int .i64 u.r, .string u.c, .int .i64 s]
/-- The first cells, or all. -/
def upto (n : Int) (L : List Cx) : List Cx := if n < 0 then L else L.take n.toNat
theorem upto_len (n : Int) (L : List Cx) : (upto n L).length ≤ L.length := by
  unfold upto
  split
  · exact Nat.le_refl _
  · rw [List.length_take]; omega
/-- An append whose run is known, in a fence. -/
theorem wpListIn_append_eq {F : Fence} {n : Nat} {P : Program} {w : World} {ops : Array Oper} {rest : List Oper} {o : Oper} {a : Act} {Q : Exit → Act → World → Prop}
    (hgd : o.guard = none) (s x : Operand) (t tx : TypeId) (ho : o.op = .call { callee := .builtin .append, args := #[s, x], argTypes := #[t, tx] }) (v xv : Value) (hs : a.eval s = v) (hx : a.eval x = xv) {v' : Value} {w' : World}
    (hr : (Builtin.append_ #[t, tx] o.type #[v, xv]).run P w = .ok v' w') (h : wpListIn F n P ops Q rest (a.put o.dst v') w') : wpListIn F n P ops Q (o :: rest) a w := by
  refine wpListIn_plain hgd fun K hK => ?_
  unfold Oper.wpIn
  refine ⟨by simp [Oper.about, ho, resolve, Target.leads, Sem.run_pure], ?_⟩
  rw [Oper.semAt_plain F _ _ (by rw [ho]; intro c hc; cases hc)]
  simp [execOp, ho, resolve, invoke, builtin, hs, hx, hr, Result.andThen]
  exact hK _ _ h
theorem tenCarry {w w' : World} {b o : Nat} {c : Cx} (h : TenX w b o c) (e : w'.heap[b]? = w.heap[b]?) : TenX w' b o c := by
  obtain ⟨c0, c1, c2, c3, c4, c5, c6, c7, c8, c9⟩ := h
  constructor <;> (rw [World.cell?_of_block e]; assumption)
/-- What was gathered. -/
def GaI (ob n₀ : Nat) (stop : Int) (wq : World) (pre : List Cx) (W : World) : Prop := (∃ v, Boxed W ob 23 v ∧ W.ownsRow n₀ 40 10 v pre.length (pre.flatMap xs10) ∧ ((stop < 0 ∨ (pre.length : Int) ≤ stop) ∧ (pre = [] → v = .slice none 0 0))) ∧ Below wq.heap.size wq W ∧ n₀ ≤ W.heap.size
def GaX (ob n₀ : Nat) (stop : Int) (wq : World) (c : Code) (pre : List Cx) (W : World) : Prop := (∃ v, Boxed W ob 23 v ∧ W.ownsRow n₀ 40 10 v pre.dropLast.length (pre.dropLast.flatMap xs10) ∧ (c = .exit 0 ∧ (pre.dropLast.length : Int) = stop ∧ pre ≠ [])) ∧ Below wq.heap.size wq W
theorem gaI_own (ob n₀ : Nat) (stop : Int) (wq : World) {B : Nat} (hB : wq.heap.size ≤ B) : OwnFrom B (GaI ob n₀ stop wq) :=
  OwnFrom.and (Own.from (holdsRow_own n₀ ob 23 40 10 (fun pre : List Cx => pre.length) (fun pre => pre.flatMap xs10) (fun pre v => (stop < 0 ∨ (pre.length : Int) ≤ stop) ∧ (pre = [] → v = .slice none 0 0))) _) (OwnFrom.and (ownFrom_below (Nat.le_refl _) hB) fun _ _ _ _ h hg _ => Nat.le_trans h hg.size)
theorem gaX_own (ob n₀ : Nat) (stop : Int) (wq : World) (c : Code) {B : Nat} (hB : wq.heap.size ≤ B) : OwnFrom B (GaX ob n₀ stop wq c) :=
  OwnFrom.and (Own.from (holdsRow_own n₀ ob 23 40 10 (fun pre : List Cx => pre.dropLast.length) (fun pre => pre.dropLast.flatMap xs10) (fun pre _ => (c = .exit 0 ∧ (pre.dropLast.length : Int) = stop ∧ pre ≠ []))) _) (ownFrom_below (Nat.le_refl _) hB)
theorem gather_end {w wq W : World} {D n m : Nat} {v : Value} {xs : List Value} {x : Obj} (hq : Below w.heap.size w wq) (hB : Below wq.heap.size wq W) (hK : W.heap[D]? = some (.deferred (some []))) (hD : wq.heap.size ≤ D) (hn : wq.heap.size ≤ n) (hR : W.ownsRow n 40 10 v m xs) :
    (W.putObj D x).ownsRow w.heap.size 40 10 v m xs ∧ Below w.heap.size w (W.putObj D x) := by
  have hbP : Below wq.heap.size W (W.putObj D x) := belowK_b (w := wq) (Nat.le_refl _) _ D _ x hD hK rfl rfl
  exact ⟨owMono (ownsRow_putObj hR _ hK rfl) (Nat.le_trans hq.size hn), hq.trans ((hB.trans hbP).mono hq.size)⟩
set_option maxRecDepth 100000 in
set_option maxHeartbeats 4000000 in
theorem gather_core (lv : Value) (L : List Cx) (a u : Kb) (stop : Int) (w : World) (hlen : L.length ≤ 1000000)
    (S0 : ∀ w', Below w.heap.size w w' → Calls Try.prog 22 #[lv, a.v, u.v] w' fun e W' => ∃ b v, e = .returned (.func (.func 49) #[] #[.pointer (some ⟨b, 0, none⟩)]) ∧ W'.cell? ⟨b, 0, none⟩ = some v ∧ w'.heap.size ≤ b ∧ W'.ownsRow w'.heap.size 40 10 v L.length (L.flatMap xs10) ∧ Below w'.heap.size w' W') :
    Calls Try.prog 16 #[lv, a.v, u.v, .int .i64 stop] w fun e W' => ∃ v, e = .returned v ∧ W'.ownsRow w.heap.size 40 10 v (upto stop L).length ((upto stop L).flatMap xs10) ∧ Below w.heap.size w W' ∧ (L = [] → v = .slice none 0 0) := by
  refine (callsIn_wide (n := 3)).1 ?_
  have hro : Fence.wide.round = none := rfl
  have h1 : 1 ≤ 3 := by omega
  obtain ⟨i1, hi1, hy0, hy1, hy2⟩ := infoX infoCx
  obtain ⟨wq, hwq⟩ : ∃ wq, wq = ((w.alloc (.cells #[.string a.t, .string a.p, .int .i64 a.r, .string a.c] 25)).alloc (.cells #[.string u.t, .string u.p, .int .i64 u.r, .string u.c] 25)).alloc (.cells #[.int .i64 stop] 3) := ⟨_, rfl⟩
  have hq : Below w.heap.size w wq := by rw [hwq]; exact (((Below.refl _ _).alloc (Nat.le_refl _) _).alloc (by simp) _).alloc (by simp; omega) _
  have sq : wq.heap.size = w.heap.size + 1 + 1 + 1 := by rw [hwq]; simp
  have bS : Boxed wq (w.heap.size + 1 + 1) 3 (.int .i64 stop) := by
    have := Boxed.new ((w.alloc (.cells #[.string a.t, .string a.p, .int .i64 a.r, .string a.c] 25)).alloc (.cells #[.string u.t, .string u.p, .int .i64 u.r, .string u.c] 25)) 3 (.int .i64 stop)
    rw [World.size_alloc, World.size_alloc] at this
    rw [hwq]; exact this
  have hbO : Below wq.heap.size wq (wq.alloc (.cells #[.slice none 0 0] 23)) := (Below.refl _ _).alloc (Nat.le_refl _) _
  have L1 := S0 _ (hq.trans (hbO.mono hq.size))
  clear S0
  have LH : Hid (Calls Try.prog 22 #[lv, .agg #[.string a.t, .string a.p, .int .i64 a.r, .string a.c], .agg #[.string u.t, .string u.p, .int .i64 u.r, .string u.c]] (wq.alloc (.cells #[.slice none 0 0] 23)) fun e W' => ∃ b v, e = .returned (.func (.func 49) #[] #[.pointer (some ⟨b, 0, none⟩)]) ∧ W'.cell? ⟨b, 0, none⟩ = some v ∧ (wq.alloc (.cells #[.slice none 0 0] 23)).heap.size ≤ b ∧ W'.ownsRow (wq.alloc (.cells #[.slice none 0 0] 23)).heap.size 40 10 v L.length (L.flatMap xs10) ∧ Below (wq.alloc (.cells #[.slice none 0 0] 23)).heap.size (wq.alloc (.cells #[.slice none 0 0] 23)) W') := L1
  obtain ⟨kt, kp, kr, kcc⟩ := u
  obtain ⟨kt0, kp0, kr0, kcc0⟩ := a
  simp only [Kb.v] at LH hwq ⊢
  refine callsIn_of_wp_marks Try.func16 rfl trivial ?_ hro
  simp only [Try.ntmps16, List.size_toArray, List.length_cons, List.length_nil, Nat.reduceAdd, Nat.reduceSub, Array.replicate_succ, Array.replicate_zero, List.push_toArray, List.append_toArray, List.nil_append, List.cons_append]
  gi_wp2
  rw [← hwq]
  clear hwq L1
  refine ⟨trivial, ?_⟩
  refine (callsIn_wide.2 LH.out).mono ?_
  rintro e w1 ⟨bx, vx, rfl, hcx, hbx, hrx, hb1⟩
  clear LH
  have bO := boxBelow (Boxed.new wq 23 (.slice none 0 0)) hb1
  have s1 : wq.heap.size + 1 ≤ w1.heap.size := by have := hb1.size; rwa [World.size_alloc] at this
  have hB0 : Below wq.heap.size wq w1 := hbO.trans (hb1.mono hbO.size)
  rw [World.size_alloc] at hbx hrx
  obtain ⟨ao, cap, rfl, hxs, -⟩ := owns_xsees hrx
  have hbxl : bx < w1.heap.size := World.block_lt_of_cell? _ _ hcx
  have hXS : ∀ W', But wq.heap.size w1.heap.size w1 W' → XSees W' ao L := fun W' hW' i c hc => by
    obtain ⟨g, off, hao, t⟩ := hxs i c hc
    obtain ⟨ao2, cap2, e2, -, hT⟩ := owns_xsees hrx
    have hg : wq.heap.size + 1 ≤ g := by
      have := (hrx.lt g (by rw [hao]; rfl)).1
      exact this
    have hgl := t.lt
    refine ⟨g, off, hao, tenCarry t (hW'.block g hgl (by omega))⟩
  clear hxs
  have hnil : ∀ w : World, (binOp BinOp.eql 57 (.func (.func 49) #[] #[.pointer (some ⟨bx, 0, none⟩)]) .nilFunc).run Try.prog w = .ok (.bool false) w := fun w => by kernel_rfl
  gi_wp2
  rw [← sq]
  have SQ : Hid (wq.heap.size = w.heap.size + 1 + 1 + 1) := sq
  clear sq
  refine wpIn_rangeFunc_ownH hro h1 (gf := 49) (lb := #[.pointer (some ⟨bx, 0, none⟩)]) rfl trivial (enters_of Try.func49 (by kernel_rfl) rfl)
    (vals_stops Fence.wide (3 - 1) trivial hro (by omega) bx wq.heap.size w1.heap.size ao L cap hlen w1 hbxl (Nat.le_refl _) hcx hXS) But.trans (butK_b (Nat.le_refl _)) (Below.refl _ _) (fun _ => rfl)
    (GaI wq.heap.size w1.heap.size stop wq) (GaX wq.heap.size w1.heap.size stop wq) (gaI_own _ _ _ _ (by omega)) (fun c => gaX_own _ _ _ _ c (by omega))
    ⟨⟨_, bO, World.ownsRow_nil _ _ _ _, by simp; omega, fun _ => rfl⟩, hB0, Nat.le_refl _⟩
    (fun x a' W => ∃ g, Blk W g (xs10 x) 40 ∧ a' = { tmps := #[lv, .agg #[.string kt0, .string kp0, .int .i64 kr0, .string kcc0], .agg #[.string kt, .string kp, .int .i64 kr, .string kcc], .int .i64 stop, undef, .pointer (some ⟨w.heap.size, 0, none⟩), .pointer (some ⟨w.heap.size + 1, 0, none⟩), .pointer (some ⟨w.heap.size + 1 + 1, 0, none⟩), .slice none 0 0, .pointer (some ⟨wq.heap.size, 0, none⟩), .func (.func 49) #[] #[.pointer (some ⟨bx, 0, none⟩)], .pointer (some ⟨g, 0, none⟩), lv, .agg #[.string kt0, .string kp0, .int .i64 kr0, .string kcc0], .agg #[.string kt, .string kp, .int .i64 kr, .string kcc], .func (.func 49) #[] #[.pointer (some ⟨bx, 0, none⟩)], .func (.func 49) #[] #[.pointer (some ⟨bx, 0, none⟩)], .bool false, .func (.func 49) #[] #[.pointer (some ⟨bx, 0, none⟩)], x.val, undef, undef, undef, undef, undef, undef, undef, undef, undef], defers := [] })
    (fun x a' s A B row h hg hr => by
      obtain ⟨g, hb, e⟩ := h
      refine ⟨g, hb.carry (hg.block g hb.lt fun e2 => ?_), e⟩
      obtain ⟨-, o, ho, hc⟩ := hr g e2.symm
      rw [show A.heap[g]? = _ from hb] at ho
      cases ho; cases hc) ?assign ?body ?done ?stop
  case assign =>
    intro l pre x W K hI hK
    obtain ⟨⟨ct, cp, cr, cc⟩, ⟨cti, cd, cl, ck, cn, cstr⟩⟩ := x
    simp only [Cx.val, Cx.a] at hK ⊢
    have hA : Hid (KeepsFrom w1.heap.size W (W.alloc (.cells #[.string ct, .string cp, .int .i64 cr, .string cc, .int .i64 cti, .bool cd, .int .i64 cl, .int .i64 ck, .int .i64 cn, .string cstr] 40)) ∧ But wq.heap.size w1.heap.size W (W.alloc (.cells #[.string ct, .string cp, .int .i64 cr, .string cc, .int .i64 cti, .bool cd, .int .i64 cl, .int .i64 ck, .int .i64 cn, .string cstr] 40)) ∧ GaI wq.heap.size w1.heap.size stop wq pre (W.alloc (.cells #[.string ct, .string cp, .int .i64 cr, .string cc, .int .i64 cti, .bool cd, .int .i64 cl, .int .i64 ck, .int .i64 cn, .string cstr] 40)) ∧ Blk (W.alloc (.cells #[.string ct, .string cp, .int .i64 cr, .string cc, .int .i64 cti, .bool cd, .int .i64 cl, .int .i64 ck, .int .i64 cn, .string cstr] 40)) W.heap.size (xs10 ⟨⟨ct, cp, cr, cc⟩, ⟨cti, cd, cl, ck, cn, cstr⟩⟩) 40) :=
      ⟨(KeepsOthers.alloc W _).from _, (But.refl _ _ _).alloc hI.2.2 _, (gaI_own _ _ _ _ (Nat.le_refl _)).alloc _ hI, Blk.new W _ _⟩
    clear hI
    gi_wp2
    exact hK _ _ hA.out.1 hA.out.2.1 hA.out.2.2.1 ⟨W.heap.size, hA.out.2.2.2, rfl⟩
  case body =>
    rintro l pre x a' W hwl - ⟨⟨v, hv, hrow, hst, -⟩, hB, hsW⟩ ⟨g, hg, rfl⟩ hlt
    have hbS : W.cell? ⟨w.heap.size + 1 + 1, 0, none⟩ = some (.int .i64 stop) := by rw [World.cell?_of_block (hB.block _ bS.lt)]; exact bS.cell
    have hc := hv.cell
    have k0 := hg.cell 0 rfl
    have k1 := hg.cell 1 rfl
    have k2 := hg.cell 2 rfl
    have k3 := hg.cell 3 rfl
    have k4 := hg.cell 4 rfl
    have k5 := hg.cell 5 rfl
    have k6 := hg.cell 6 rfl
    have k7 := hg.cell 7 rfl
    have k8 := hg.cell 8 rfl
    have k9 := hg.cell 9 rfl
    obtain ⟨ap, cp', rfl, -, -⟩ := owns_xsees hrow
    by_cases hlt2 : (pre.length : Int) = stop
    · have hd : (pre ++ [x]).dropLast = pre := List.dropLast_concat
      have HX : Hid (GaX wq.heap.size w1.heap.size stop wq (.exit 0) (pre ++ [x]) W) := by
        unfold GaX
        rw [hd]
        exact ⟨⟨_, hv, hrow, rfl, hlt2, by simp⟩, hB⟩
      clear hv hrow hd
      gi_wp2
      exact ⟨KeepsFrom.refl _ _, HX.out⟩
    · obtain ⟨W1, hW1⟩ : ∃ W1, W1 = (W.alloc (.cells x.a 40)) := ⟨_, rfl⟩
      have hsz : W1.heap.size = W.heap.size + 1 := by rw [hW1]; exact World.size_alloc _ _
      have hsrc : Src Try.prog 10 23 (.slice (some ⟨W.heap.size, 0, none⟩) 1 1) 1 (([x] : List Cx).flatMap xs10) W1 := by
        rw [hW1]; exact src_cells (sees_one W x) (fun h => by cases h) 1
      have hrow1 : W1.ownsRow w1.heap.size 40 10 (.slice ap pre.length cp') pre.length (pre.flatMap xs10) := by rw [hW1]; exact hrow.alloc _
      obtain ⟨v', w2, hr, ho2, hg2⟩ := run_append_grew (P := Try.prog) W1 w1.heap.size 23 23 23 40 i1 _ 10 112 Try.underlying23 hi1 hy0 hy1 hy2 rfl _ pre.length _ hrow1 _ 1 _ hsrc (by unfold maxLen; omega) (by omega) (by omega)
      obtain ⟨g', cap', rfl⟩ := ownsRow_succ ho2
      have hbox1 : Boxed w2 wq.heap.size 23 (.slice ap pre.length cp') := by
        have hb0 : Boxed W1 wq.heap.size 23 (.slice ap pre.length cp') := by rw [hW1]; exact hv.alloc _
        exact hb0.kept hg2.rows (fun e => hb0.not_row (by decide) hrow1 e)
      have hgrow : (W.alloc (.cells x.a 40)).grownBy w2 (Value.slice ap pre.length cp').ownBlock := by
        have hh := hg2.rows
        rw [hW1] at hh
        exact hh
      obtain ⟨-, hv2, -, hk2, hb2⟩ := hv.appended (by decide) (owMono hrow (show wq.heap.size ≤ w1.heap.size by omega)) hB.size (Nat.le_refl _) (owMono ho2 (show wq.heap.size ≤ w1.heap.size by omega)) hgrow
      have hr3 : (w2.setCell ⟨wq.heap.size, 0, none⟩ (.slice (some ⟨g', 0, none⟩) (pre.length + 1) cap')).ownsRow w1.heap.size 40 10 (.slice (some ⟨g', 0, none⟩) (pre.length + 1) cap') (pre.length + 1) (pre.flatMap xs10 ++ [x].flatMap xs10) :=
        ho2.kept (grownBy_setCell' w2 wq.heap.size _) (.inr (hbox1.not_row (by decide) ho2).symm)
      have hbut : But wq.heap.size w1.heap.size W (w2.setCell ⟨wq.heap.size, 0, none⟩ (.slice (some ⟨g', 0, none⟩) (pre.length + 1) cap')) := by
        have a1 : But wq.heap.size w1.heap.size W (W.alloc (.cells x.a 40)) := (But.refl _ _ _).alloc hsW _
        have a2 : But wq.heap.size w1.heap.size (W.alloc (.cells x.a 40)) w2 := ⟨hgrow.os, hgrow.tape, hgrow.output, hgrow.size, fun k hk _ => hgrow.block k (by rw [World.size_alloc]; omega) fun e => by have := (hrow.lt k e.symm).1; omega⟩
        have a3 : But wq.heap.size w1.heap.size w2 (w2.setCell ⟨wq.heap.size, 0, none⟩ (.slice (some ⟨g', 0, none⟩) (pre.length + 1) cap')) := by
          have hgs := grownBy_setCell' w2 wq.heap.size (.slice (some ⟨g', 0, none⟩) (pre.length + 1) cap')
          have hs2 := hgrow.size
          rw [World.size_alloc] at hs2
          exact ⟨hgs.os, hgs.tape, hgs.output, hgs.size, fun k hk hne => hgs.block k (by omega) fun e => hne (by cases e; rfl)⟩
        exact (a1.trans a2).trans a3
      have HEnd : Hid (KeepsOthers W (w2.setCell ⟨wq.heap.size, 0, none⟩ (.slice (some ⟨g', 0, none⟩) (pre.length + 1) cap')) ∧ But wq.heap.size w1.heap.size W (w2.setCell ⟨wq.heap.size, 0, none⟩ (.slice (some ⟨g', 0, none⟩) (pre.length + 1) cap')) ∧ GaI wq.heap.size w1.heap.size stop wq (pre ++ [x]) (w2.setCell ⟨wq.heap.size, 0, none⟩ (.slice (some ⟨g', 0, none⟩) (pre.length + 1) cap'))) :=
        ⟨hk2, hbut, ⟨_, hv2, by rw [List.flatMap_append, List.length_append]; exact hr3, by rw [List.length_append]; simp; omega, fun h => by simp at h⟩, hB.trans hb2, Nat.le_trans hsW hbut.size⟩
      have hvlt := hv.lt
      have cb := hbox1.cell
      have fb := hbox1.frozen
      have hsl : Src Try.prog 10 23 (.slice (some ⟨W.heap.size, 0, none⟩) 1 1) 1 (([x] : List Cx).flatMap xs10) W1 := hsrc
      rw [hW1] at hr
      have hc2 : (W.alloc (.cells x.a 40)).cell? ⟨wq.heap.size, 0, none⟩ = some (.slice ap pre.length cp') := (hv.alloc _).cell
      clear hv2 hr3 hk2 hb2 hgrow hbut hsl hsrc hrow1 hrow ho2 hg2 hv hg
      obtain ⟨⟨xa, xp, xr, xc⟩, ⟨xt, xd, xl, xk, xn, xs⟩⟩ := x
      simp only [Cx.a, Cx.val] at k0 k1 k2 k3 k4 k5 k6 k7 k8 k9 hr hc2 ⊢
      gi_wp2_with (refine wpListIn_append_eq rfl _ _ _ _ rfl _ _ rfl rfl (by exact hr) ?_)
      exact ⟨HEnd.out.1.from _, HEnd.out.2⟩
  case done =>
    rintro D ys W hD hys ⟨⟨v, hv, hrow, hst, hz⟩, hB, hsW⟩ hK
    have e : upto stop L = ys := by
      rw [hys] at hst ⊢
      unfold upto
      split
      · rfl
      · exact List.take_of_length_le (by omega)
    have hc := hv.cell
    gi_wp2
    refine ⟨by simp, .inl ⟨_, _, rfl, run_takeDeferred hK, ?_⟩⟩
    obtain ⟨e1, e2⟩ := gather_end (x := .deferred none) hq hB hK (by omega) (by omega) hrow
    exact ⟨_, results_tmp rfl _ _ _, v, rfl, by rw [e]; exact e1, e2, fun h => hz (by rw [hys]; exact h)⟩
  case stop =>
    rintro D c pre W hD hpre ⟨⟨v, hv, hrow, rfl, hst, hne⟩, hB⟩ hK
    have e : upto stop L = pre.dropLast := by
      obtain ⟨rest, rfl⟩ := hpre
      unfold upto
      rw [if_neg (by omega), ← hst]
      have h2 : pre = pre.dropLast ++ [pre.getLast hne] := (List.dropLast_concat_getLast hne).symm
      rw [h2]
      simp
    have hc := hv.cell
    gi_wp2
    refine ⟨by simp, .inl ⟨_, _, rfl, run_takeDeferred hK, ?_⟩⟩
    obtain ⟨e1, e2⟩ := gather_end (x := .deferred none) hq hB hK (by omega) (by omega) hrow
    exact ⟨_, results_tmp rfl _ _ _, v, rfl, by rw [e]; exact e1, e2, fun h => by obtain ⟨r, hr⟩ := hpre; rw [h] at hr; simp at hr; exact absurd hr.1 hne⟩
theorem gather_any (S : SkId) (hs : List Nat) (T : List Tw) (a u : Kb) (stop : Int) (w : World) (h : SkAt w S hs T) :
    Calls Try.prog 16 #[.pointer (some ⟨S.l, 0, none⟩), a.v, u.v, .int .i64 stop] w fun e W' => ∃ v, e = .returned v ∧ W'.ownsRow w.heap.size 40 10 v (upto stop (scanC a u (T.map Tw.c))).length ((upto stop (scanC a u (T.map Tw.c))).flatMap xs10) ∧ Below w.heap.size w W' :=
  (gather_core _ _ a u stop w (by have := scan_len a u (T.map Tw.c); have := h.len; rw [List.length_map] at *; omega) fun w' hb => scan_any S hs T a u w' (h.below hb (Nat.le_refl _))).mono fun _ _ ⟨v, he, ho, hb, _⟩ => ⟨v, he, ho, hb⟩
theorem gather_none (lv : Value) (a u : Kb) (stop : Int) (w : World) (h : Unmade w lv) :
    Calls Try.prog 16 #[lv, a.v, u.v, .int .i64 stop] w fun e W' => e = .returned (.slice none 0 0) ∧ Below w.heap.size w W' :=
  (gather_core lv [] a u stop w (by simp) fun w' hb => scan_none lv a u w' (h.below hb (Nat.le_refl _))).mono fun _ _ ⟨_, he, _, hb, hz⟩ => ⟨by rw [he, hz rfl], hb⟩
end Go.Proofs.Ytlhojbgpmjcjlaa

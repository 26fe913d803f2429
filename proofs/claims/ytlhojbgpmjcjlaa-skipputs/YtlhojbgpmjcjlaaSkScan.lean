/-
  CONTRACT: the cells of a skip list between two keys (Scan).
-/
import Derived.Test.YtlhojbgpmjcjlaaSkAll
import Derived.Test.YtlhojbgpmjcjlaaSkVals
import Derived.Test.YtlhojbgpmjcjlaaSkScanP
import Derived.Test.YtlhojbgpmjcjlaaRegClIn
import Derived.Test.YtlhojbgpmjcjlaaCxRefMore
namespace Go.Proofs.Ytlhojbgpmjcjlaa
open Go.RowKit Go.Shelf

attribute [local go_sem] Oper.semAt_some

/-- The towers ahead of a key. -/
def under (u : Kb) (R : List Tw) : List Tw := R.takeWhile fun t => decide (kc t.c.k.ky u.ky < 0)
theorem under_stop {u : Kb} {A : List Tw} {t : Tw} {C : List Tw} (h : ∀ t ∈ A, kc t.c.k.ky u.ky < 0) (ht : ¬ kc t.c.k.ky u.ky < 0) : under u (A ++ t :: C) = A := by
  unfold under
  rw [List.takeWhile_append_of_pos (fun t ht => decide_eq_true (h t ht)), List.takeWhile_cons_of_neg (by simpa using ht), List.append_nil]
theorem under_all {u : Kb} {A : List Tw} (h : ∀ t ∈ A, kc t.c.k.ky u.ky < 0) : under u A = A := by
  have : under u (A ++ []) = A := by
    unfold under
    rw [List.takeWhile_append_of_pos (fun t ht => decide_eq_true (h t ht))]; simp
  rwa [List.append_nil] at this
theorem keepsB {W U : World} (h : Below W.heap.size W U) : KeepsOthers W U := ⟨h.size, fun k o hk _ => by rw [h.block k (Array.getElem?_eq_some_iff.1 hk).1]; exact hk⟩
theorem boxBelow {W U : World} {B : Nat} {t : TypeId} {v : Value} (h : Boxed W B t v) (hb : Below W.heap.size W U) : Boxed U B t v := (hb.block B h.lt).trans h
/-- What a scan has gathered. -/
def ScI (R : List Tw) (k : Kb) (wq : World) (pre : List (TwIn R)) (W : World) : Prop := (∃ v, Boxed W wq.heap.size 23 v ∧ W.ownsRow wq.heap.size 40 10 v pre.length ((pre.map fun x => x.1.c).flatMap xs10) ∧ ∀ y ∈ pre, kc y.1.c.k.ky k.ky < 0) ∧ Below wq.heap.size wq W
/-- How it is left. -/
def ScX (R : List Tw) (k : Kb) (wq : World) (c : Code) (pre : List (TwIn R)) (W : World) : Prop := (∃ v, Boxed W wq.heap.size 23 v ∧ W.ownsRow wq.heap.size 40 10 v pre.dropLast.length ((pre.dropLast.map fun x => x.1.c).flatMap xs10) ∧ (c = .exit 0 ∧ (∀ y ∈ pre.dropLast, kc y.1.c.k.ky k.ky < 0) ∧ ∃ x, pre = pre.dropLast ++ [x] ∧ ¬ kc x.1.c.k.ky k.ky < 0)) ∧ Below wq.heap.size wq W
theorem scI_own (R : List Tw) (k : Kb) (wq : World) {B : Nat} (hB : wq.heap.size ≤ B) : OwnFrom B (ScI R k wq) :=
  OwnFrom.and (Own.from (holdsRow_own wq.heap.size wq.heap.size 23 40 10 (fun pre : List (TwIn R) => pre.length) (fun pre => (pre.map fun x => x.1.c).flatMap xs10) (fun pre _ => ∀ y ∈ pre, kc y.1.c.k.ky k.ky < 0)) _) (ownFrom_below (Nat.le_refl _) hB)
theorem scX_own (R : List Tw) (k : Kb) (wq : World) (c : Code) {B : Nat} (hB : wq.heap.size ≤ B) : OwnFrom B (ScX R k wq c) :=
  OwnFrom.and (Own.from (holdsRow_own wq.heap.size wq.heap.size 23 40 10 (fun pre : List (TwIn R) => pre.dropLast.length) (fun pre => (pre.dropLast.map fun x => x.1.c).flatMap xs10) (fun pre _ => (c = .exit 0 ∧ (∀ y ∈ pre.dropLast, kc y.1.c.k.ky k.ky < 0) ∧ ∃ x, pre = pre.dropLast ++ [x] ∧ ¬ kc x.1.c.k.ky k.ky < 0))) _) (ownFrom_below (Nat.le_refl _) hB)
theorem scan_end {w wq W : World} {D n cap : Nat} {ao : Option Addr} {L : List Cx} {x : Obj} (hq : Below w.heap.size w wq) (hB : Below wq.heap.size wq W) (hK : W.heap[D]? = some (.deferred (some []))) (hD : wq.heap.size ≤ D) (hR : W.ownsRow wq.heap.size 40 10 (.slice ao n cap) L.length (L.flatMap xs10)) :
    (W.alloc (.cells #[.slice ao n cap] 23)).heap[D]? = some (.deferred (some [])) ∧ ((W.alloc (.cells #[.slice ao n cap] 23)).putObj D x).cell? ⟨W.heap.size, 0, none⟩ = some (.slice ao n cap) ∧ w.heap.size ≤ W.heap.size ∧ ((W.alloc (.cells #[.slice ao n cap] 23)).putObj D x).ownsRow w.heap.size 40 10 (.slice ao n cap) L.length (L.flatMap xs10) ∧ Below w.heap.size w ((W.alloc (.cells #[.slice ao n cap] 23)).putObj D x) := by
  have hlt : D < W.heap.size := (Array.getElem?_eq_some_iff.1 hK).1
  have hbA : Below W.heap.size W (W.alloc (.cells #[.slice ao n cap] 23)) := (Below.refl _ _).alloc (Nat.le_refl _) _
  have hK2 : (W.alloc (.cells #[.slice ao n cap] 23)).heap[D]? = some (.deferred (some [])) := by rw [hbA.block D hlt]; exact hK
  have hbP : Below wq.heap.size (W.alloc (.cells #[.slice ao n cap] 23)) ((W.alloc (.cells #[.slice ao n cap] 23)).putObj D x) := belowK_b (w := wq) (Nat.le_refl _) _ D _ x hD hK2 rfl rfl
  have hall : Below wq.heap.size wq ((W.alloc (.cells #[.slice ao n cap] 23)).putObj D x) := (hB.trans (hbA.mono hB.size)).trans hbP
  refine ⟨hK2, ?_, Nat.le_trans hq.size hB.size, ?_, hq.trans (hall.mono hq.size)⟩
  · rw [World.cell?_of_block (World.putObj_heap_other (by show W.heap.size ≠ D; omega))]
    exact (Boxed.new W _ _).cell
  · exact owMono (ownsRow_putObj (hR.alloc _) _ hK2 rfl) hq.size
set_option maxRecDepth 100000 in
set_option maxHeartbeats 4000000 in
theorem scan_core (lv : Value) (R : List Tw) (a u : Kb) (w : World) (L0 : ∀ w', Below w.heap.size w w' → Calls Try.prog 34 #[lv, a.v] w' fun e w'' => e = .returned (pt (R.head?.map Tw.g)) ∧ Below w'.heap.size w' w'') (hC : Chain w R) (hh : ∀ t ∈ R, 1 ≤ t.h) (hnd : (R.map Tw.g).Nodup) (hlen : R.length ≤ 1000000) :
    Calls Try.prog 22 #[lv, a.v, u.v] w fun e W' => ∃ b v, e = .returned (.func (.func 49) #[] #[.pointer (some ⟨b, 0, none⟩)]) ∧ W'.cell? ⟨b, 0, none⟩ = some v ∧ w.heap.size ≤ b ∧ W'.ownsRow w.heap.size 40 10 v (under u R).length (((under u R).map Tw.c).flatMap xs10) ∧ Below w.heap.size w W' := by
  refine (callsIn_wide (n := 3)).1 ?_
  have hro : Fence.wide.round = none := rfl
  have h1 : 1 ≤ 3 := by omega
  obtain ⟨i1, hi1, hy0, hy1, hy2⟩ := infoX infoCx
  obtain ⟨wq, hwq⟩ : ∃ wq, wq = (w.alloc (.cells #[.string a.t, .string a.p, .int .i64 a.r, .string a.c] 25)).alloc (.cells #[.string u.t, .string u.p, .int .i64 u.r, .string u.c] 25) := ⟨_, rfl⟩
  have hq : Below w.heap.size w wq := by rw [hwq]; exact ((Below.refl _ _).alloc (Nat.le_refl _) _).alloc (by simp) _
  have sq : wq.heap.size = w.heap.size + 1 + 1 := by rw [hwq]; simp
  have ub : Blk wq (w.heap.size + 1) [.string u.t, .string u.p, .int .i64 u.r, .string u.c] 25 := by
    have := Blk.new (w.alloc (.cells #[.string a.t, .string a.p, .int .i64 a.r, .string a.c] 25)) [.string u.t, .string u.p, .int .i64 u.r, .string u.c] 25
    rw [World.size_alloc] at this
    rw [hwq]; exact this
  have hCq : Chain wq R := hC.carry fun t ht => hq.block _ (hC.lt t ht)
  have ltq : ∀ t ∈ R, t.g < wq.heap.size := fun t ht => Nat.lt_of_lt_of_le (hC.lt t ht) hq.size
  have hbO : Below wq.heap.size wq (wq.alloc (.cells #[.slice none 0 0] 23)) := (Below.refl _ _).alloc (Nat.le_refl _) _
  have L1 := L0 _ (hq.trans (hbO.mono hq.size))
  clear L0
  obtain ⟨p0, hp0⟩ : ∃ p0, pt (R.head?.map Tw.g) = .pointer p0 := ⟨_, rfl⟩
  rw [hp0] at L1
  have L : Hid (Calls Try.prog 34 #[lv, .agg #[.string a.t, .string a.p, .int .i64 a.r, .string a.c]] (wq.alloc (.cells #[.slice none 0 0] 23)) fun e w'' => e = .returned (.pointer p0) ∧ Below (wq.alloc (.cells #[.slice none 0 0] 23)).heap.size (wq.alloc (.cells #[.slice none 0 0] 23)) w'') := L1
  have HU : Hid (u = u) := rfl
  obtain ⟨kt, kp, kr, kcc⟩ := u
  obtain ⟨kt0, kp0, kr0, kcc0⟩ := a
  simp only [Kb.v] at L hwq ub ⊢
  refine callsIn_of_wp_marks Try.func22 rfl trivial ?_ hro
  simp only [Try.ntmps22, List.size_toArray, List.length_cons, List.length_nil, Nat.reduceAdd, Nat.reduceSub, Array.replicate_succ, Array.replicate_zero, List.push_toArray, List.append_toArray, List.nil_append, List.cons_append]
  gi_wp2
  rw [← hwq]
  clear hwq L1
  refine ⟨trivial, ?_⟩
  refine (callsIn_wide.2 L.out).mono ?_
  rintro e w1 ⟨rfl, hb1⟩
  clear L
  gi_wp2_with (refine ⟨trivial, ?_⟩; gi_at_call 36; refine (on_in Fence.wide _ trivial hro _ _).mono ?_; rintro e w' ⟨rfl, rfl⟩)
  have bO := boxBelow (Boxed.new wq 23 (.slice none 0 0)) hb1
  have bN := Boxed.new w1 61 (.pointer p0)
  have s1 : wq.heap.size + 1 ≤ w1.heap.size := by have := hb1.size; rwa [World.size_alloc] at this
  have hB0 : Below wq.heap.size wq (w1.alloc (.cells #[.pointer p0] 61)) := (hbO.trans (hb1.mono hbO.size)).alloc (by omega) _
  rw [← sq]
  have SQ : Hid (wq.heap.size = w.heap.size + 1 + 1) := sq
  clear sq
  refine wpIn_rangeFunc_ownG hro h1 (gf := 45) (lb := #[.pointer (some ⟨w1.heap.size, 0, none⟩)]) rfl trivial (enters_of Try.func45 (by kernel_rfl) rfl)
    (on_stops Fence.wide (3 - 1) trivial hro (by omega) (w1.heap.size) wq.heap.size R _ (by simp) (by simp; omega) (by rw [hp0]; exact bN.cell) (hCq.carry fun t ht => hB0.block _ (ltq t ht)) ltq hh hnd) belowK_t (belowK_b (by simp; omega)) (Below.refl _ _) (fun _ => rfl)
    (ScI R ⟨kt, kp, kr, kcc⟩ wq) (ScX R ⟨kt, kp, kr, kcc⟩ wq) (scI_own _ _ _ (by simp; omega)) (fun c => scX_own _ _ _ c (by simp; omega))
    ⟨⟨_, bO.alloc _, World.ownsRow_nil _ _ _ _, fun x hx => by cases hx⟩, hB0⟩
    (fun x => { tmps := #[lv, .agg #[.string kt0, .string kp0, .int .i64 kr0, .string kcc0], .agg #[.string kt, .string kp, .int .i64 kr, .string kcc], undef, .pointer (some ⟨w.heap.size, 0, none⟩), .pointer (some ⟨w.heap.size + 1, 0, none⟩), .nilFunc, .pointer (some ⟨wq.heap.size, 0, none⟩), .pointer (some ⟨x.1.g, 0, none⟩), lv, .agg #[.string kt0, .string kp0, .int .i64 kr0, .string kcc0], .pointer p0, .func (.func 45) #[] #[.pointer (some ⟨w1.heap.size, 0, none⟩)], .pointer (some ⟨x.1.g, 0, none⟩), undef, undef, undef, undef, undef, undef, undef, undef, undef, undef, undef, undef, undef, undef, undef, undef, undef], defers := [] }) ?assign ?body ?done ?stop
  case assign =>
    intro l x W K hK
    gi_wp2
    exact hK
  case body =>
    rintro l pre x W ⟨⟨v, hv, hrow, hlt0⟩, hB⟩ hlt
    have hpl : pre.length < R.length := by simpa using hlt
    obtain ⟨A, R', hT⟩ := List.append_of_mem x.2
    have htx : TenX W x.1.g 0 x.1.c := by
      have hC2 : Chain W R := hCq.carry fun t ht => hB.block _ (ltq t ht)
      rw [hT] at hC2
      exact hC2.at.ten
    have ubW : Blk W (w.heap.size + 1) [.string kt, .string kp, .int .i64 kr, .string kcc] 25 := ub.carry (hB.block _ ub.lt)
    have hg4 : Hid (∀ z : Cl W.heap.size W, Calls Try.prog 38 #[x.1.c.k.v, Kb.v ⟨kt, kp, kr, kcc⟩] z.u fun x' w' => x' = .returned (.int .i64 (kc x.1.c.k.ky (Kb.ky ⟨kt, kp, kr, kcc⟩))) ∧ Below z.u.heap.size z.u w') := fun z => cmp_any _ _ z.u
    have q0 : ∀ z : Cl W.heap.size W, z.u.cell? ⟨x.1.g, 0, none⟩ = some (.string x.1.c.k.t) := fun z => z.cell htx.lt (by simpa using htx.c0)
    have q1 : ∀ z : Cl W.heap.size W, z.u.cell? ⟨x.1.g, 1, none⟩ = some (.string x.1.c.k.p) := fun z => z.cell htx.lt (by simpa using htx.c1)
    have q2 : ∀ z : Cl W.heap.size W, z.u.cell? ⟨x.1.g, 2, none⟩ = some (.int .i64 x.1.c.k.r) := fun z => z.cell htx.lt (by simpa using htx.c2)
    have q3 : ∀ z : Cl W.heap.size W, z.u.cell? ⟨x.1.g, 3, none⟩ = some (.string x.1.c.k.c) := fun z => z.cell htx.lt (by simpa using htx.c3)
    have r0 : ∀ z : Cl W.heap.size W, z.u.cell? ⟨w.heap.size + 1, 0, none⟩ = some (.string kt) := fun z => z.cell ubW.lt (ubW.cell 0 rfl)
    have r1 : ∀ z : Cl W.heap.size W, z.u.cell? ⟨w.heap.size + 1, 1, none⟩ = some (.string kp) := fun z => z.cell ubW.lt (ubW.cell 1 rfl)
    have r2 : ∀ z : Cl W.heap.size W, z.u.cell? ⟨w.heap.size + 1, 2, none⟩ = some (.int .i64 kr) := fun z => z.cell ubW.lt (ubW.cell 2 rfl)
    have r3 : ∀ z : Cl W.heap.size W, z.u.cell? ⟨w.heap.size + 1, 3, none⟩ = some (.string kcc) := fun z => z.cell ubW.lt (ubW.cell 3 rfl)
    haveI := Cl.inh W.heap.size W
    have h1' : 1 ≤ 3 - 1 - 1 := by omega
    simp only [Kb.v] at hg4
    have HF : Hid (∀ U, Below W.heap.size W U → TenX U x.1.g 0 x.1.c) := fun U h => htx.below h htx.lt
    obtain ⟨D, hD⟩ : ∃ D, D = kc x.1.c.k.ky (Kb.ky ⟨kt, kp, kr, kcc⟩) := ⟨_, rfl⟩
    have HD : Hid (kc x.1.c.k.ky (Kb.ky ⟨kt, kp, kr, kcc⟩) = D) := hD.symm
    rw [← hD] at hg4
    clear hD htx ubW
    gi_wp2
    refine wpInR_region_cl W.heap.size (by kernel_rfl) (by kernel_rfl) (by kernel_rfl) ?_
    quiet_step_in (fail)
    quiet_step_in (fail)
    quiet_step_in (fail)
    quiet_step_in (fail)
    quiet_step_in (fail)
    quiet_step_in (fail)
    refine wpQuietIn_step (fun _ _ _ _ => trivial) (fun K hK => ?_)
    go_simp
    apply Exists.intro
    refine ⟨fun _ => ?_, hK _ ?_⟩
    first | exact Cl.callsIn (Nat.le_refl _) (hg4.out _) | exact ⟨fun _ => by omega, Cl.callsIn (Nat.le_refl _) (hg4.out _)⟩
    clear hK K
    quiet_step_in (fail)
    refine wpQuietIn_nil ?_
    rintro U ⟨z, rfl⟩
    clear q0 q1 q2 q3 r0 r1 r2 r3 hg4
    have hzW := z.h
    generalize z.u = U at *
    by_cases hlt2 : 0 ≤ D
    · have hvU := boxBelow hv hzW
      have hrU := owBelow hrow hzW
      have hd : (pre ++ [x]).dropLast = pre := List.dropLast_concat
      have HX : Hid (KeepsOthers W U ∧ ScX R ⟨kt, kp, kr, kcc⟩ wq (.exit 0) (pre ++ [x]) U) := by
        refine ⟨keepsB hzW, ?_⟩
        unfold ScX
        rw [hd]
        exact ⟨⟨v, hvU, hrU, rfl, hlt0, x, rfl, by rw [HD.out]; omega⟩, hB.trans (hzW.mono hB.size)⟩
      clear hvU hrU hd hv hrow
      gi_wp2
      exact ⟨HX.out.1.from _, HX.out.2⟩
    · have hltD : kc x.1.c.k.ky (Kb.ky ⟨kt, kp, kr, kcc⟩) < 0 := by rw [HD.out]; omega
      have htx := HF.out U hzW
      have hvU := boxBelow hv hzW
      have hrU := owBelow hrow hzW
      have hBU := hB.trans (hzW.mono hB.size)
      have hkU := keepsB hzW
      have hWU : Below wq.heap.size W U := hzW.mono hB.size
      clear hv hrow hzW HF HD
      have hc := hvU.cell
      obtain ⟨W1, hW1⟩ : ∃ W1, W1 = (U.alloc (.cells x.1.c.a 40)).drew := ⟨_, rfl⟩
      have hsz : W1.heap.size = U.heap.size + 1 := by rw [hW1]; exact World.size_alloc _ _
      have hsrc : Src Try.prog 10 23 (.slice (some ⟨U.heap.size, 0, none⟩) 1 1) 1 (([x.1.c] : List Cx).flatMap xs10) W1 := by
        rw [hW1]; exact src_one_cell U x.1.c
      have hrow1 : W1.ownsRow wq.heap.size 40 10 v pre.length ((pre.map fun x => x.1.c).flatMap xs10) := by rw [hW1]; exact hrU.alloc _
      obtain ⟨v', w2, hr, ho2, hg2⟩ := run_append_grew (P := Try.prog) W1 wq.heap.size 23 23 23 40 i1 _ 10 112 Try.underlying23 hi1 hy0 hy1 hy2 rfl v pre.length _ hrow1 _ 1 _ hsrc (by unfold maxLen; omega) (by omega) (by have := hBU.size; omega)
      obtain ⟨g', cap', rfl⟩ := ownsRow_succ ho2
      rw [hW1] at hr
      have hbox1 : Boxed w2 wq.heap.size 23 v := by
        have hb0 : Boxed W1 wq.heap.size 23 v := by rw [hW1]; exact hvU.alloc _
        exact hb0.kept hg2.rows (fun e => hb0.not_row (by decide) hrow1 e)
      have hgrow : (U.alloc (.cells x.1.c.a 40)).grownBy w2 v.ownBlock := by
        have hh := hg2.rows
        rw [hW1] at hh
        exact ⟨hh.os, hh.tape, hh.output, hh.size, hh.block⟩
      obtain ⟨-, hv2, hr3, hk2, hb2⟩ := hvU.appended (by decide) hrU hBU.size (Nat.le_refl _) ho2 hgrow
      have HEnd : Hid (KeepsOthers W (w2.setCell ⟨wq.heap.size, 0, none⟩ (.slice (some ⟨g', 0, none⟩) (pre.length + 1) cap')) ∧ Below wq.heap.size W (w2.setCell ⟨wq.heap.size, 0, none⟩ (.slice (some ⟨g', 0, none⟩) (pre.length + 1) cap')) ∧ ScI R ⟨kt, kp, kr, kcc⟩ wq (pre ++ [x]) (w2.setCell ⟨wq.heap.size, 0, none⟩ (.slice (some ⟨g', 0, none⟩) (pre.length + 1) cap'))) := ⟨hkU.trans hk2, hWU.trans hb2, ⟨_, hv2, by rw [List.map_append, List.flatMap_append, List.length_append]; exact hr3, fun y hy => by
        rcases List.mem_append.1 hy with hy | hy
        · exact hlt0 y hy
        · obtain rfl : y = x := by simpa using hy
          exact hltD⟩, hBU.trans hb2⟩
      have hvlt := hvU.lt
      have cb := hbox1.cell
      have fb := hbox1.frozen
      clear hv2 hr3 hk2 hb2 hgrow hltD hlt0
      obtain ⟨⟨tg, ⟨⟨xa, xp, xr, xc⟩, ⟨xt, xd, xl, xk, xn, xs⟩⟩, thv, th⟩, hxm⟩ := x
      obtain ⟨x0, x1, x2, x3, x4, x5, x6, x7, x8, x9⟩ := htx
      simp only [Nat.zero_add, Cx.a] at x0 x1 x2 x3 x4 x5 x6 x7 x8 x9 hr
      have hmix : Try.prog.follows Departure.mixedOrders = true := by kernel_rfl
      have hr2 : (Builtin.append_ #[23, 23] 23 #[v, .slice (some ⟨U.heap.size, 0, none⟩) 1 1]).run Try.prog (U.drew.alloc (.cells #[.string xa, .string xp, .int .i64 xr, .string xc, .int .i64 xt, .bool xd, .int .i64 xl, .int .i64 xk, .int .i64 xn, .string xs] 40)) = .ok (.slice (some ⟨g', 0, none⟩) (pre.length + 1) cap') w2 := hr
      have hc2 : (U.alloc (.cells #[.string xa, .string xp, .int .i64 xr, .string xc, .int .i64 xt, .bool xd, .int .i64 xl, .int .i64 xk, .int .i64 xn, .string xs] 40)).drew.cell? ⟨wq.heap.size, 0, none⟩ = some v := (hvU.alloc _).cell
      clear hr
      gi_wp2
      refine wpIn_region_any (by assumption) ?_
      change wpAnyIn _ _ _ _ _ _ _ _ _ (World.drew _)
      refine wpAnyIn_ready (rs := [0, 1]) (by kernel_rfl) (by simp) ?_
      refine AllReadyIn.cons rfl (fun K hK => ?_) (AllReadyIn.cons rfl (fun K hK => ?_) AllReadyIn.nil)
      · go_simp
        refine hK _ _ ?_
        clear hK K
        refine wpAnyIn_ready (rs := [1]) (by kernel_rfl) (by simp) ?_
        refine AllReadyIn.cons rfl (fun K hK => ?_) AllReadyIn.nil
        go_simp
        refine hK _ _ ?_
        clear hK K
        refine wpAnyIn_ready (rs := [2]) (by kernel_rfl) (by simp) ?_
        refine AllReadyIn.cons rfl (fun K hK => ?_) AllReadyIn.nil
        go_simp
        refine hK _ _ ?_
        clear hK K
        refine wpAnyIn_ready (rs := [3]) (by kernel_rfl) (by simp) ?_
        refine AllReadyIn.cons rfl (fun K hK => ?_) AllReadyIn.nil
        go_simp
        refine hK _ _ ?_
        clear hK K
        refine wpAnyIn_ready (rs := [4]) (by kernel_rfl) (by simp) ?_
        refine AllReadyIn.cons rfl (fun K hK => ?_) AllReadyIn.nil
        go_simp
        refine hK _ _ ?_
        clear hK K
        refine wpAnyIn_ready (rs := [5]) (by kernel_rfl) (by simp) ?_
        refine AllReadyIn.cons rfl (fun K hK => ?_) AllReadyIn.nil
        go_simp
        refine hK _ _ ?_
        clear hK K
        refine wpAnyIn_ready (rs := [6]) (by kernel_rfl) (by simp) ?_
        refine AllReadyIn.cons rfl (fun K hK => ?_) AllReadyIn.nil
        refine stepIn_append rfl _ _ _ _ rfl _ _ rfl rfl (by exact hr2) ?_
        refine hK _ _ ?_
        clear hK K
        refine wpAnyIn_ready (rs := [7]) (by kernel_rfl) (by simp) ?_
        refine AllReadyIn.cons rfl (fun K hK => ?_) AllReadyIn.nil
        go_simp
        refine hK _ _ ?_
        clear hK K
        refine wpAnyIn_done (by kernel_rfl) ?_ _
        gi_wp2
        exact ⟨HEnd.out.1.from _, HEnd.out.2⟩
      · go_simp
        refine hK _ _ ?_
        clear hK K
        refine wpAnyIn_ready (rs := [0, 2]) (by kernel_rfl) (by simp) ?_
        refine AllReadyIn.cons rfl (fun K hK => ?_) (AllReadyIn.cons rfl (fun K hK => ?_) AllReadyIn.nil)
        · go_simp
          refine hK _ _ ?_
          clear hK K
          refine wpAnyIn_ready (rs := [2]) (by kernel_rfl) (by simp) ?_
          refine AllReadyIn.cons rfl (fun K hK => ?_) AllReadyIn.nil
          go_simp
          refine hK _ _ ?_
          clear hK K
          refine wpAnyIn_ready (rs := [3]) (by kernel_rfl) (by simp) ?_
          refine AllReadyIn.cons rfl (fun K hK => ?_) AllReadyIn.nil
          go_simp
          refine hK _ _ ?_
          clear hK K
          refine wpAnyIn_ready (rs := [4]) (by kernel_rfl) (by simp) ?_
          refine AllReadyIn.cons rfl (fun K hK => ?_) AllReadyIn.nil
          go_simp
          refine hK _ _ ?_
          clear hK K
          refine wpAnyIn_ready (rs := [5]) (by kernel_rfl) (by simp) ?_
          refine AllReadyIn.cons rfl (fun K hK => ?_) AllReadyIn.nil
          go_simp
          refine hK _ _ ?_
          clear hK K
          refine wpAnyIn_ready (rs := [6]) (by kernel_rfl) (by simp) ?_
          refine AllReadyIn.cons rfl (fun K hK => ?_) AllReadyIn.nil
          refine stepIn_append rfl _ _ _ _ rfl _ _ rfl rfl (by exact hr2) ?_
          refine hK _ _ ?_
          clear hK K
          refine wpAnyIn_ready (rs := [7]) (by kernel_rfl) (by simp) ?_
          refine AllReadyIn.cons rfl (fun K hK => ?_) AllReadyIn.nil
          go_simp
          refine hK _ _ ?_
          clear hK K
          refine wpAnyIn_done (by kernel_rfl) ?_ _
          gi_wp2
          exact ⟨HEnd.out.1.from _, HEnd.out.2⟩
        · go_simp
          refine hK _ _ ?_
          clear hK K
          refine wpAnyIn_ready (rs := [0, 3]) (by kernel_rfl) (by simp) ?_
          refine AllReadyIn.cons rfl (fun K hK => ?_) (AllReadyIn.cons rfl (fun K hK => ?_) AllReadyIn.nil)
          · go_simp
            refine hK _ _ ?_
            clear hK K
            refine wpAnyIn_ready (rs := [3]) (by kernel_rfl) (by simp) ?_
            refine AllReadyIn.cons rfl (fun K hK => ?_) AllReadyIn.nil
            go_simp
            refine hK _ _ ?_
            clear hK K
            refine wpAnyIn_ready (rs := [4]) (by kernel_rfl) (by simp) ?_
            refine AllReadyIn.cons rfl (fun K hK => ?_) AllReadyIn.nil
            go_simp
            refine hK _ _ ?_
            clear hK K
            refine wpAnyIn_ready (rs := [5]) (by kernel_rfl) (by simp) ?_
            refine AllReadyIn.cons rfl (fun K hK => ?_) AllReadyIn.nil
            go_simp
            refine hK _ _ ?_
            clear hK K
            refine wpAnyIn_ready (rs := [6]) (by kernel_rfl) (by simp) ?_
            refine AllReadyIn.cons rfl (fun K hK => ?_) AllReadyIn.nil
            refine stepIn_append rfl _ _ _ _ rfl _ _ rfl rfl (by exact hr2) ?_
            refine hK _ _ ?_
            clear hK K
            refine wpAnyIn_ready (rs := [7]) (by kernel_rfl) (by simp) ?_
            refine AllReadyIn.cons rfl (fun K hK => ?_) AllReadyIn.nil
            go_simp
            refine hK _ _ ?_
            clear hK K
            refine wpAnyIn_done (by kernel_rfl) ?_ _
            gi_wp2
            exact ⟨HEnd.out.1.from _, HEnd.out.2⟩
          · go_simp
            refine hK _ _ ?_
            clear hK K
            refine wpAnyIn_ready (rs := [0, 4]) (by kernel_rfl) (by simp) ?_
            refine AllReadyIn.cons rfl (fun K hK => ?_) (AllReadyIn.cons rfl (fun K hK => ?_) AllReadyIn.nil)
            · go_simp
              refine hK _ _ ?_
              clear hK K
              refine wpAnyIn_ready (rs := [4]) (by kernel_rfl) (by simp) ?_
              refine AllReadyIn.cons rfl (fun K hK => ?_) AllReadyIn.nil
              go_simp
              refine hK _ _ ?_
              clear hK K
              refine wpAnyIn_ready (rs := [5]) (by kernel_rfl) (by simp) ?_
              refine AllReadyIn.cons rfl (fun K hK => ?_) AllReadyIn.nil
              go_simp
              refine hK _ _ ?_
              clear hK K
              refine wpAnyIn_ready (rs := [6]) (by kernel_rfl) (by simp) ?_
              refine AllReadyIn.cons rfl (fun K hK => ?_) AllReadyIn.nil
              refine stepIn_append rfl _ _ _ _ rfl _ _ rfl rfl (by exact hr2) ?_
              refine hK _ _ ?_
              clear hK K
              refine wpAnyIn_ready (rs := [7]) (by kernel_rfl) (by simp) ?_
              refine AllReadyIn.cons rfl (fun K hK => ?_) AllReadyIn.nil
              go_simp
              refine hK _ _ ?_
              clear hK K
              refine wpAnyIn_done (by kernel_rfl) ?_ _
              gi_wp2
              exact ⟨HEnd.out.1.from _, HEnd.out.2⟩
            · go_simp
              refine hK _ _ ?_
              clear hK K
              refine wpAnyIn_ready (rs := [0, 5]) (by kernel_rfl) (by simp) ?_
              refine AllReadyIn.cons rfl (fun K hK => ?_) (AllReadyIn.cons rfl (fun K hK => ?_) AllReadyIn.nil)
              · go_simp
                refine hK _ _ ?_
                clear hK K
                refine wpAnyIn_ready (rs := [5]) (by kernel_rfl) (by simp) ?_
                refine AllReadyIn.cons rfl (fun K hK => ?_) AllReadyIn.nil
                go_simp
                refine hK _ _ ?_
                clear hK K
                refine wpAnyIn_ready (rs := [6]) (by kernel_rfl) (by simp) ?_
                refine AllReadyIn.cons rfl (fun K hK => ?_) AllReadyIn.nil
                refine stepIn_append rfl _ _ _ _ rfl _ _ rfl rfl (by exact hr2) ?_
                refine hK _ _ ?_
                clear hK K
                refine wpAnyIn_ready (rs := [7]) (by kernel_rfl) (by simp) ?_
                refine AllReadyIn.cons rfl (fun K hK => ?_) AllReadyIn.nil
                go_simp
                refine hK _ _ ?_
                clear hK K
                refine wpAnyIn_done (by kernel_rfl) ?_ _
                gi_wp2
                exact ⟨HEnd.out.1.from _, HEnd.out.2⟩
              · go_simp
                refine hK _ _ ?_
                clear hK K
                refine wpAnyIn_ready (rs := [0]) (by kernel_rfl) (by simp) ?_
                refine AllReadyIn.cons rfl (fun K hK => ?_) AllReadyIn.nil
                go_simp
                refine hK _ _ ?_
                clear hK K
                refine wpAnyIn_ready (rs := [6]) (by kernel_rfl) (by simp) ?_
                refine AllReadyIn.cons rfl (fun K hK => ?_) AllReadyIn.nil
                refine stepIn_append rfl _ _ _ _ rfl _ _ rfl rfl (by exact hr2) ?_
                refine hK _ _ ?_
                clear hK K
                refine wpAnyIn_ready (rs := [7]) (by kernel_rfl) (by simp) ?_
                refine AllReadyIn.cons rfl (fun K hK => ?_) AllReadyIn.nil
                go_simp
                refine hK _ _ ?_
                clear hK K
                refine wpAnyIn_done (by kernel_rfl) ?_ _
                gi_wp2
                exact ⟨HEnd.out.1.from _, HEnd.out.2⟩
  case done =>
    rintro D ys W hD rfl ⟨⟨v, hv, hrow, hlt0⟩, hB⟩ hK
    have hun : under ⟨kt, kp, kr, kcc⟩ R = R := under_all fun t ht => hlt0 ⟨t, ht⟩ (by simp)
    have hmap : (R.attach.map fun x => x.1.c) = R.map Tw.c := by
      have := attach_val R
      rw [← this, List.map_map]; simp
    have hrow2 : W.ownsRow wq.heap.size 40 10 v (R.map Tw.c).length ((R.map Tw.c).flatMap xs10) := by rw [hmap] at hrow; simpa using hrow
    have hc := hv.cell
    obtain ⟨ao, cap, rfl, -, -⟩ := owns_xsees hrow2
    have HE := fun x => scan_end (x := x) hq hB hK (by simp at hD; omega) hrow2
    have HEh : Hid (∀ x, (W.alloc (.cells #[.slice ao (R.map Tw.c).length cap] 23)).heap[D]? = some (.deferred (some [])) ∧ ((W.alloc (.cells #[.slice ao (R.map Tw.c).length cap] 23)).putObj D x).cell? ⟨W.heap.size, 0, none⟩ = some (.slice ao (R.map Tw.c).length cap) ∧ w.heap.size ≤ W.heap.size ∧ ((W.alloc (.cells #[.slice ao (R.map Tw.c).length cap] 23)).putObj D x).ownsRow w.heap.size 40 10 (.slice ao (R.map Tw.c).length cap) (R.map Tw.c).length ((R.map Tw.c).flatMap xs10) ∧ Below w.heap.size w ((W.alloc (.cells #[.slice ao (R.map Tw.c).length cap] 23)).putObj D x)) := HE
    clear hrow hrow2 hmap HE
    have hln : Hid ((R.map Tw.c).length = R.length) := List.length_map _
    generalize (R.map Tw.c).length = m at *
    gi_wp2_with (refine ⟨trivial, ?_⟩; gi_at_call 39; refine (callsIn_wide.2 (seqVals_any _ _ _ _)).mono ?_; rintro e w' ⟨rfl, rfl⟩)
    obtain ⟨e1, -⟩ := HEh.out (.deferred none)
    refine ⟨by simp, .inl ⟨_, _, rfl, run_takeDeferred e1, ?_⟩⟩
    obtain ⟨-, e2, e3, e4, e5⟩ := HEh.out (.deferred none)
    exact ⟨_, results_tmp rfl _ _ _, _, _, rfl, e2, e3, by rw [hun, ← hln.out]; exact e4, e5⟩
  case stop =>
    rintro D c pre W hD hpre ⟨⟨v, hv, hrow, rfl, hlt0, y, hy, hny⟩, hB⟩ hK
    obtain ⟨rest, hrest⟩ := hpre
    have hun : under ⟨kt, kp, kr, kcc⟩ R = pre.dropLast.map fun x => x.1 := by
      have hR := attach_split hrest.symm
      rw [hy, List.map_append, List.map_cons, List.map_nil, List.append_assoc] at hR
      refine (congrArg (under ⟨kt, kp, kr, kcc⟩) hR).trans ?_
      refine under_stop (t := y.1) (C := rest.map fun x => x.1) (fun t ht => ?_) hny
      obtain ⟨x, hx, rfl⟩ := List.mem_map.1 ht
      exact hlt0 x hx
    have hmap : (pre.dropLast.map fun x => x.1.c) = (under ⟨kt, kp, kr, kcc⟩ R).map Tw.c := by rw [hun, List.map_map]; rfl
    have hlen2 : pre.dropLast.length = ((under ⟨kt, kp, kr, kcc⟩ R).map Tw.c).length := by rw [hun]; simp
    have hrow2 : W.ownsRow wq.heap.size 40 10 v ((under ⟨kt, kp, kr, kcc⟩ R).map Tw.c).length (((under ⟨kt, kp, kr, kcc⟩ R).map Tw.c).flatMap xs10) := by rw [hmap, hlen2] at hrow; exact hrow
    have hc := hv.cell
    clear hrow hmap hlen2 hlt0 hy hny hun hrest
    obtain ⟨R2, hR2⟩ : ∃ R2, R2 = under ⟨kt, kp, kr, kcc⟩ R := ⟨_, rfl⟩
    rw [← hR2] at hrow2
    have HR2 : Hid (under ⟨kt, kp, kr, kcc⟩ R = R2) := hR2.symm
    clear hR2
    obtain ⟨ao, cap, rfl, -, -⟩ := owns_xsees hrow2
    have HE := fun x => scan_end (x := x) hq hB hK (by simp at hD; omega) hrow2
    have HEh : Hid (∀ x, (W.alloc (.cells #[.slice ao (R2.map Tw.c).length cap] 23)).heap[D]? = some (.deferred (some [])) ∧ ((W.alloc (.cells #[.slice ao (R2.map Tw.c).length cap] 23)).putObj D x).cell? ⟨W.heap.size, 0, none⟩ = some (.slice ao (R2.map Tw.c).length cap) ∧ w.heap.size ≤ W.heap.size ∧ ((W.alloc (.cells #[.slice ao (R2.map Tw.c).length cap] 23)).putObj D x).ownsRow w.heap.size 40 10 (.slice ao (R2.map Tw.c).length cap) (R2.map Tw.c).length ((R2.map Tw.c).flatMap xs10) ∧ Below w.heap.size w ((W.alloc (.cells #[.slice ao (R2.map Tw.c).length cap] 23)).putObj D x)) := HE
    clear hrow2 HE
    have hln : Hid ((R2.map Tw.c).length = R2.length) := List.length_map _
    generalize (R2.map Tw.c).length = m at *
    gi_wp2_with (refine ⟨trivial, ?_⟩; gi_at_call 39; refine (callsIn_wide.2 (seqVals_any _ _ _ _)).mono ?_; rintro e w' ⟨rfl, rfl⟩)
    obtain ⟨e1, -⟩ := HEh.out (.deferred none)
    refine ⟨by simp, .inl ⟨_, _, rfl, run_takeDeferred e1, ?_⟩⟩
    obtain ⟨-, e2, e3, e4, e5⟩ := HEh.out (.deferred none)
    exact ⟨_, results_tmp rfl _ _ _, _, _, rfl, e2, e3, by rw [HR2.out, ← hln.out]; exact e4, e5⟩
/-- Scan. -/
theorem scan_any (S : SkId) (hs : List Nat) (T : List Tw) (a u : Kb) (w : World) (h : SkAt w S hs T) :
    Calls Try.prog 22 #[.pointer (some ⟨S.l, 0, none⟩), a.v, u.v] w fun e W' => ∃ b v, e = .returned (.func (.func 49) #[] #[.pointer (some ⟨b, 0, none⟩)]) ∧ W'.cell? ⟨b, 0, none⟩ = some v ∧ w.heap.size ≤ b ∧ W'.ownsRow w.heap.size 40 10 v (scanC a u (T.map Tw.c)).length ((scanC a u (T.map Tw.c)).flatMap xs10) ∧ Below w.heap.size w W' := by
  obtain ⟨A, R, rfl, hA, hR⟩ := key_part a T h.up
  have hup : (R.map Tw.c).Pairwise fun x y => kx x y < 0 := by
    have := h.up
    rw [List.map_append, List.pairwise_append] at this
    exact this.2.1
  have e : scanC a u ((A ++ R).map Tw.c) = (under u R).map Tw.c := by
    rw [List.map_append]
    have hp : R = under u R ++ R.dropWhile (fun t => decide (kc t.c.k.ky u.ky < 0)) := (List.takeWhile_append_dropWhile).symm
    conv => lhs; rw [hp]
    rw [List.map_append]
    refine scan_parts ?_ ?_ ?_
    · intro c hc
      obtain ⟨t, ht, rfl⟩ := List.mem_map.1 hc
      exact hA t ht
    · intro c hc
      obtain ⟨t, ht, rfl⟩ := List.mem_map.1 hc
      have hm := List.all_eq_true.1 (List.all_takeWhile (p := fun t : Tw => decide (kc t.c.k.ky u.ky < 0)) (l := R)) t ht
      exact ⟨hR t (by rw [hp]; exact List.mem_append_left _ ht), by simpa using hm⟩
    · intro c hc
      obtain ⟨t, ht, rfl⟩ := List.mem_map.1 hc
      cases hd : R.dropWhile (fun t => decide (kc t.c.k.ky u.ky < 0)) with
      | nil => rw [hd] at ht; cases ht
      | cons x C =>
        have hx : ¬ kc x.c.k.ky u.ky < 0 := by
          have := List.head?_dropWhile_not (fun t : Tw => decide (kc t.c.k.ky u.ky < 0)) R
          rw [hd] at this
          simpa using this
        rw [hd] at ht hp
        rcases List.mem_cons.1 ht with rfl | ht
        · omega
        · have h2 : ((x :: C).map Tw.c).Pairwise fun x y => kx x y < 0 := by
            rw [hp, List.map_append, List.pairwise_append] at hup
            exact hup.2.1
          rw [List.map_cons] at h2
          exact kc_behind ((List.pairwise_cons.1 h2).1 t.c (List.mem_map_of_mem ht)) (by omega)
  have hc := h.tw.chain
  have hn := (List.nodup_cons.1 h.tw.nodup).2
  rw [List.map_append] at hn
  have := scan_core (.pointer (some ⟨S.l, 0, none⟩)) R a u w (fun w' hb => skFirst_any S hs A R a w' (h.below hb (Nat.le_refl _)) hA hR) (hc.tail (A := A)) (fun t ht => (h.ok t (by simp [ht])).1) (List.nodup_append.1 hn).2.1 (by have := h.len; rw [List.length_append] at this; omega)
  rw [e, List.length_map]
  exact this
theorem scan_none (v : Value) (a u : Kb) (w : World) (h : Unmade w v) :
    Calls Try.prog 22 #[v, a.v, u.v] w fun e W' => ∃ b v, e = .returned (.func (.func 49) #[] #[.pointer (some ⟨b, 0, none⟩)]) ∧ W'.cell? ⟨b, 0, none⟩ = some v ∧ w.heap.size ≤ b ∧ W'.ownsRow w.heap.size 40 10 v ([] : List Cx).length (([] : List Cx).flatMap xs10) ∧ Below w.heap.size w W' :=
  scan_core v [] a u w (fun w' hb => first_none v a w' (h.below hb (Nat.le_refl _))) trivial (fun t ht => by cases ht) (by simp) (by simp)
end Go.Proofs.Ytlhojbgpmjcjlaa

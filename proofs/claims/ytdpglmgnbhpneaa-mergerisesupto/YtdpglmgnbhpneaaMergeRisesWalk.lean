/-
  THE WALK of the law MergeRises: the cells rise, the counts are all cells of all lists' Norms, each cell is one of the lists' own.
-/
import Derived.Test.YtdpglmgnbhpneaaMrgPile
import Derived.Test.YtdpglmgnbhpneaaMrgEq
import Derived.Test.YtdpglmgnbhpneaaMrgLives
namespace Go.Proofs.Ytdpglmgnbhpneaa.mergeRises
open Go.RowKit
attribute [local go_sem] Oper.semAt_some
attribute [local go_sem] Oper.pureAt Oper.pureUpon

def NAll (vs : List Lv) : List Cx := nrm (vs.map (fun v => nrm v.l)).flatten
/-- The box of the total, behind the range. -/
structure Rk (w6 : World) (db : Nat) (t : Int) (wr : World) : Prop where
  box : Blk wr w6.heap.size [.int .i64 t] 3
  bel : Below w6.heap.size w6 wr
  dfr : wr.heap[db]? = some (.deferred (some []))
theorem Rk.more {w6 wr u : World} {db : Nat} {t : Int} (h : Rk w6 db t wr) (hu : Below wr.heap.size wr u) : Rk w6 db t u :=
  ⟨h.box.carry (hu.block _ h.box.lt), h.bel.trans (hu.mono h.bel.size), (hu.block _ (Array.getElem?_eq_some_iff.1 h.dfr).1).trans h.dfr⟩
theorem Rk.set {w6 wr : World} {db : Nat} {t : Int} (h : Rk w6 db t wr) (hd : db ≠ w6.heap.size) (t' : Int) : Rk w6 db t' (wr.setCell ⟨w6.heap.size, 0, none⟩ (.int .i64 t')) :=
  ⟨h.box.setTo 0 _ _ rfl, h.bel.trans ((Below.refl _ _).setCell (p := ⟨w6.heap.size, 0, none⟩) (Nat.le_refl _) _), ((grownBy_setCell' wr w6.heap.size _).block db (Array.getElem?_eq_some_iff.1 h.dfr).1 (by simpa using hd)).trans h.dfr⟩
def nls (vs : List Lv) : Nat := ((vs.map (fun v => nrm v.l)).map List.length).sum
theorem nls_succ {vs : List Lv} {j : Nat} {x : Lv} (h : vs[j]? = some x) : nls (vs.take (j + 1)) = nls (vs.take j) + (nrm x.l).length := by
  unfold nls; rw [List.take_add_one, h]; simp
theorem nls_take (vs : List Lv) (j : Nat) : nls (vs.take j) ≤ nls vs := by
  have : nls vs = nls (vs.take j) + nls (vs.drop j) := by
    unfold nls; rw [← List.sum_append_nat, ← List.map_append, ← List.map_append, List.take_append_drop]
  omega
theorem nall_tot {vs : List Lv} (h : SmallLs vs) : (vs.map (fun v => nrm v.l)).flatten.length ≤ 110000 := by
  have h1 := flat_nrm_len (vs.map Lv.l)
  rw [List.map_map] at h1
  exact Nat.le_trans h1 h.tot
theorem rise_srt {l : List Cx} (h : Rising l) : srtB l = true := srtB_true fun j x y _ hx hy => by
  obtain ⟨h1, e1⟩ := List.getElem?_eq_some_iff.1 hx
  obtain ⟨h2, e2⟩ := List.getElem?_eq_some_iff.1 hy
  have := List.pairwise_iff_getElem.1 h j (j + 1) h1 h2 (by omega)
  rw [e1, e2] at this
  exact this
set_option maxRecDepth 100000 in
set_option maxHeartbeats 2000000 in
theorem walk (lo : Option Addr) (vs : List Lv) (lcap : Nat) (w : World) (hs : LSees w lo vs) (hin : ∀ v ∈ vs, XSees w v.ao v.l) (hsm : SmallLs vs) :
    Calls Try.prog 8 #[.slice lo vs.length lcap] w fun e w' => e = .returned (.bool true) ∧ Below w.heap.size w w' := by
  have LV : Hid (∀ w : World, Calls Try.prog 10 #[] w fun e w' => e = .returned (.bool true) ∧ Below w.heap.size w w') := lives10_any
  have FW : Hid (Calls Try.prog 9 #[.slice lo vs.length lcap] w fun e w' => (∃ b, e = .returned (.bool b) ∧ (b = true → vs.length ≤ 400)) ∧ Below w.heap.size w w') :=
    few_any lo vs lcap w hs hin hsm.n (fun v hv => ⟨by have := (hsm.each v hv).1; omega, (hsm.each v hv).2⟩)
  have hro : Fence.wide.round = none := rfl
  have AL : Hid (vs.length ≤ 400 → ∀ u, Below w.heap.size w u → Calls Try.prog 15 #[.slice lo vs.length lcap] u fun e w' => ∃ v, e = .returned v ∧ w'.ownsRow u.heap.size 39 10 v (NAll vs).length ((NAll vs).flatMap xs10) ∧ Below u.heap.size u w') := fun h4 u hu =>
    all_anyM lo vs lcap u (hs.below hu (Nat.le_refl _)) (fun v hv => (hin v hv).below hu (Nat.le_refl _)) (by omega) (fun v hv => by have := (hsm.each v hv).1; omega) (by have := nall_tot hsm; omega)
  have EA : Hid (vs.length ≤ 400 → ∀ u, Below w.heap.size w u → Calls Try.prog 13 #[.slice lo vs.length lcap] u fun e w' => ∃ (Bn : Nat) (so : Option Addr) (ss : List Lv) (scap : Nat), e = .returned (.func (.func 29) #[] #[.pointer (some ⟨Bn, 0, none⟩)]) ∧ w'.cell? ⟨Bn, 0, none⟩ = some (.slice so ss.length scap) ∧ LSees w' so ss ∧ (∀ v ∈ ss, v.At w' (fun k => u.heap.size ≤ k ∧ k < w'.heap.size)) ∧ ss.map Lv.l = vs.map (fun v => nrm v.l) ∧ Below u.heap.size u w' ∧ u.heap.size ≤ Bn) := fun h4 u hu =>
    each_any lo vs lcap u (hs.below hu (Nat.le_refl _)) (fun v hv => (hin v hv).below hu (Nat.le_refl _)) (by omega) (fun v hv => by have := (hsm.each v hv).1; omega)
  have HS0 : Hid (LSees w lo vs) := hs
  have HI0 : Hid (∀ v ∈ vs, XSees w v.ao v.l) := hin
  have HSM : Hid (SmallLs vs) := hsm
  have hNL : (NAll vs).length ≤ 110000 := Nat.le_trans (nrm_len _) (nall_tot hsm)
  clear hs hin hsm
  refine (callsIn_wide (n := 6)).1 ?_
  refine callsIn_of_wp_marks Try.func8 rfl trivial ?_ hro
  simp only [Try.ntmps8, List.size_toArray, List.length_cons, List.length_nil, Nat.reduceAdd, Nat.reduceSub, Array.replicate_succ, Array.replicate_zero, List.push_toArray, List.append_toArray, List.nil_append, List.cons_append]
  refine wpIn_wide.2 ?_
  go_wp2_with fail
  refine FW.out.mono ?_
  clear FW
  rintro e w3 ⟨⟨b, rfl, h400⟩, hb3⟩
  cases b with
  | false =>
    clear h400
    go_wp2_with fail
    refine (LV.out _).mono ?_
    rintro e w4 ⟨rfl, hb4⟩
    go_wp2_with fail
    exact ⟨_, results_tmp rfl _ _ _, rfl, hb3.trans (hb4.mono hb3.size)⟩
  | true =>
    have h4 : vs.length ≤ 400 := h400 rfl
    have h4z : (vs.length : Int) ≤ 400 := by omega
    have AL2 := AL.out h4
    have EA2 : Hid _ := EA.out h4
    clear AL EA h400
    have AL3 : Hid _ := AL2 w3 hb3
    clear AL2
    go_wp2_with fail
    refine (show Calls _ _ _ _ _ from AL3.out).mono ?_
    clear AL3
    rintro e w4 ⟨v4, rfl, ho4, b4⟩
    obtain ⟨na, nc, rfl⟩ := ownsM_shape ho4
    have sN4 := (owns_see ho4).1
    have B4 := hb3.trans (b4.mono hb3.size)
    have ST := sorted_any na (NAll vs) nc w4 sN4 (by omega)
    rw [show srtB (NAll vs) = true from rise_srt (nrm_rising _)] at ST
    have STh : Hid _ := ST
    clear ST ho4 b4 hb3
    go_wp2_with fail
    refine (show Calls _ _ _ _ _ from STh.out).mono ?_
    clear STh
    rintro e w5 ⟨rfl, b5⟩
    have sN5 := sN4.below b5 (Nat.le_refl _)
    have B5 := B4.trans (b5.mono B4.size)
    have EA3 : Hid _ := EA2.out w5 B5
    clear EA2 B4 b5 sN4
    go_wp2_with fail
    refine (show Calls _ _ _ _ _ from EA3.out).mono ?_
    clear EA3
    rintro e w6 ⟨Bn, so, ss, scap, rfl, hBn, hss, hat, hsl, hB6, hBnl⟩
    have hnf : ∀ u : World, (binOp BinOp.eql 30 (.func (.func 29) #[] #[.pointer (some ⟨Bn, 0, none⟩)]) .nilFunc).run Try.prog u = .ok (.bool false) u := fun u => by kernel_rfl
    have sN6 := sN5.below hB6 (Nat.le_refl _)
    have B6 := B5.trans (hB6.mono B5.size)
    clear sN5
    go_wp2_with fail
    clear hnf
    obtain ⟨w7, hw7⟩ : ∃ w7, w7 = w6.alloc (.cells #[.int .i64 0] 3) := ⟨_, rfl⟩
    rw [← hw7]
    have h76 : Below w6.heap.size w6 w7 := by rw [hw7]; exact (Below.refl _ _).alloc (Nat.le_refl _) _
    have hs7 : w7.heap.size = w6.heap.size + 1 := by rw [hw7]; simp
    have bO : Blk w7 w6.heap.size [.int .i64 0] 3 := by rw [hw7]; exact Blk.new w6 [.int .i64 0] _
    have hBn7 : w7.cell? ⟨Bn, 0, none⟩ = some (.slice so ss.length scap) := (h76.cell (p := ⟨Bn, 0, none⟩) (World.block_lt_of_cell? _ _ hBn)).trans hBn
    have hss7 := hss.below h76 (Nat.le_refl _)
    have hlen : ss.length = vs.length := by have := congrArg List.length hsl; simpa using this
    have hris : ∀ l ∈ ss.map Lv.l, Rising l := fun l hlm => by
      rw [hsl] at hlm
      obtain ⟨v, _, rfl⟩ := List.mem_map.1 hlm
      exact nrm_rising _
    obtain ⟨R, hR1, hR2⟩ := ss_ex hris
    have hRl : R.length ≤ 110000 := by
      rw [hR2.length_eq, ← List.length_map (f := Prod.fst), prL_fst, hsl]
      exact nall_tot HSM.out
    have HTOT : Hid (((j2 (R.map Prod.fst)).map Prod.snd).sum = ((vs.map (fun v => nrm v.l)).map List.length).sum) := by rw [← hsl]; exact j2_total hR2
    have hsum : ((j2 (R.map Prod.fst)).map Prod.snd).sum ≤ 110000 := by rw [j2_sum, List.length_map]; exact hRl
    clear hw7
    refine (wpIn_wide (n := 6)).1 ?_
    refine range_zone (I := fun z pre X => Blk X w6.heap.size [.int .i64 (((pre.map Prod.snd).sum : Nat) : Int)] 3 ∧ Below w6.heap.size w6 X) (Ix := fun _ _ _ _ => False) (Ex := fun k => k = w6.heap.size) (Fp := fun _ k => k = w6.heap.size) (xs := j2 (R.map Prod.fst)) (encs := fun p : Cx × Nat => #[p.1.val, .int .i64 p.2]) hro (by omega) (gf := 29) (lb := #[.pointer (some ⟨Bn, 0, none⟩)]) rfl trivial (enters_of Try.func29 (by kernel_rfl) rfl)
      (each1_zone (6 - 1) (by omega) _ _ (fun _ _ _ _ h => h) Bn so ss scap R w7 hBn7 (fun k hk => by omega) hss7 (fun v hv => (hat v hv).blk (fun a e => h76.block _ ((hat v hv).2.1 a e).2) (fun k hk => ⟨by omega, by omega⟩)) (fun v hv => hris _ (List.mem_map_of_mem hv)) (by omega) hR1 hR2 (by omega)) (fun k hk => by omega) (fun _ _ _ _ h => h) (fun _ => rfl) ?hI ?hIx ?hF ?h0 ?round ?done ?stop
    case hI => exact fun z pre X Y h hz => ⟨zoned_blk hz h.1 (by omega), h.2.trans (hz.below (by omega) h.2.size)⟩
    case hIx => exact fun _ _ _ _ _ h _ => h
    case hF => exact fun z pre X h k hk => ⟨.inl hk, by rw [show k = w6.heap.size from hk]; exact h.1.lt⟩
    case h0 =>
      intro V hV _
      exact ⟨bO.carry (hV.block _ (by omega)), h76.trans (hV.mono (by omega))⟩
    case stop => exact fun _ _ _ _ _ _ _ h _ => h.elim
    case round =>
      rintro l2 z pre ⟨x, m⟩ V K hz hzV hi hpre hK
      obtain ⟨⟨xa, xp, xr, xc⟩, ⟨xt, xd, xl, xk, xn, xs⟩⟩ := x
      simp only [Cx.val, Cx.a]
      gi_wp2
      refine hK _ _ (Below.refl _ _) ?_
      intro W2 hz2 hsz2
      clear hK K
      have b1 : Blk W2 w6.heap.size [.int .i64 (((pre.map Prod.snd).sum : Nat) : Int)] 3 := zoned_blk hz2 hi.1 (by omega)
      have b2 : Below w6.heap.size w6 W2 := hi.2.trans (hz2.below (by omega) hi.2.size)
      have hsm2 : (pre.map Prod.snd).sum + m ≤ 110000 := by
        obtain ⟨t, ht⟩ := hpre
        have := congrArg (fun l => (l.map Prod.snd).sum) ht
        simp at this
        omega
      have hsn : ((pre ++ [((⟨⟨xa, xp, xr, xc⟩, ⟨xt, xd, xl, xk, xn, xs⟩⟩ : Cx), m)]).map Prod.snd).sum = (pre.map Prod.snd).sum + m := by simp
      have HE : Hid (∀ s : Nat, s = (pre.map Prod.snd).sum → zPost (fun _ k => k = w6.heap.size) w7.heap.size z (fun z pre X => Blk X w6.heap.size [.int .i64 (((pre.map Prod.snd).sum : Nat) : Int)] 3 ∧ Below w6.heap.size w6 X) (fun _ _ _ _ => False) (pre ++ [(⟨⟨xa, xp, xr, xc⟩, ⟨xt, xd, xl, xk, xn, xs⟩⟩, m)]) W2 .normal ⟨#[], []⟩ (W2.setCell ⟨w6.heap.size, 0, none⟩ (.int .i64 ((s : Int) + (m : Int))))) := fun s e => by
        subst e
        refine ⟨SparedF.of_grown (grownBy_setCell' W2 w6.heap.size _) (fun k e => .inl (by cases e; rfl)), ?_, b2.trans ((Below.refl _ _).setCell (p := ⟨w6.heap.size, 0, none⟩) (Nat.le_refl _) _)⟩
        rw [hsn, Int.natCast_add]
        exact b1.setTo 0 _ _ rfl
      have c0 := b1.cell 0 rfl
      have f0 := b1.frozen 0
      have HE2 := HE.out _ rfl
      simp only [zPost] at HE2
      have HE3 : Hid _ := HE2
      clear HE HE2 hi hz2 hpre hsn
      generalize (pre.map Prod.snd).sum = s at *
      have hsz3 : (s : Int) + (m : Int) ≤ 110000 := by omega
      gi_wp2
      exact HE3.out
    case done =>
      intro z W3 hz hzW hi hK
      have HT2 : Hid (nls vs ≤ 110000) := by have := HTOT.out; unfold nls; show _ ≤ _; omega
      have hdb : w7.heap.size ≠ w6.heap.size := by omega
      have hdw : w.heap.size ≤ w7.heap.size := by have := B6.size; omega
      have hR0 : Rk w6 w7.heap.size (((nls vs : Nat) : Int)) W3 := ⟨by have h := hi.1; rw [HTOT.out] at h; exact h, hi.2, hK⟩
      have HR : Hid (Rk w6 w7.heap.size (((nls vs : Nat) : Int) - ((nls (vs.take 0) : Nat) : Int)) W3) := by
        have e : (((nls vs : Nat) : Int) - ((nls (vs.take 0) : Nat) : Int)) = ((nls vs : Nat) : Int) := by simp [nls]
        rw [e]; exact hR0
      clear hR0 hi hK HTOT hsum hRl hR1 hR2 hris hlen hss7 hBn7 bO h76 hss hat hsl hBn hBnl hB6 hzW hz hs7
      generalize w7.heap.size = db at *
      go_wp2_with fail
      go_loopw [38] (fun s38 wr => ∃ j : Nat, j ≤ vs.length ∧ s38 = .int .i64 j ∧ Rk w6 db (((nls vs : Nat) : Int) - ((nls (vs.take j) : Nat) : Int)) wr) (fun s38 _ => vs.length - (intOf s38).toNat)
      case atStart => exact ⟨0, by omega, by go_num, HR.out⟩
      case round =>
        clear HR
        obtain ⟨j, hj, rfl, hJ⟩ := hrel
        have BJ := B6.trans (hJ.bel.mono B6.size)
        rcases Nat.lt_or_ge j vs.length with hjl | hjg
        · obtain ⟨x, hx⟩ : ∃ x, vs[j]? = some x := ⟨_, List.getElem?_eq_getElem hjl⟩
          obtain ⟨lb, lof, rfl, hxc⟩ := (HS0.out.below BJ (Nat.le_refl _)) j x hx
          have hxm := List.mem_of_getElem? hx
          have hjz : (j : Int) < (vs.length : Int) := by omega
          have N : Hid (∀ u, Below wr.heap.size wr u → Calls Try.prog 23 #[x.s] u fun e w' => ∃ v, e = .returned v ∧ w'.ownsRow u.heap.size 39 10 v (nrm x.l).length ((nrm x.l).flatMap xs10) ∧ Below u.heap.size u w') := fun u hu =>
            refNorm_any x.ao x.l x.cap u ((HI0.out x hxm).below (BJ.trans (hu.mono BJ.size)) (Nat.le_refl _)) (by have := (HSM.out.each x hxm).1; omega)
          have hn1 := nls_succ hx
          have hn2 := nls_take vs (j + 1)
          have hn3 := HT2.out
          obtain ⟨t0, ht0⟩ : ∃ t0 : Int, t0 = ((nls vs : Nat) : Int) - ((nls (vs.take j) : Nat) : Int) := ⟨_, rfl⟩
          rw [← ht0] at hJ
          have htb : 0 ≤ t0 - ((nrm x.l).length : Int) := by omega
          have htc : t0 - ((nrm x.l).length : Int) ≤ 110000 := by omega
          have HTN : Hid (∀ wq, Rk w6 db (t0 - ((nrm x.l).length : Int)) wq → Rk w6 db (((nls vs : Nat) : Int) - ((nls (vs.take (j + 1)) : Nat) : Int)) wq) := fun wq h => by
            have e : ((nls vs : Nat) : Int) - ((nls (vs.take (j + 1)) : Nat) : Int) = t0 - ((nrm x.l).length : Int) := by omega
            rw [e]; exact h
          obtain ⟨nl, hnl⟩ : ∃ nl, nl = nrm x.l := ⟨_, rfl⟩
          rw [← hnl] at N htb htc HTN
          obtain ⟨xv, hxv⟩ : ∃ xv, xv = x.s := ⟨_, rfl⟩
          rw [← hxv] at N hxc
          have hxs : ∃ xa xn xc, xv = .slice xa xn xc := ⟨_, _, _, hxv⟩
          obtain ⟨xa, xn, xc, rfl⟩ := hxs
          have bB := hJ.box.cell 0 rfl
          have HJ : Hid (Rk w6 db t0 wr) := hJ
          clear hn1 hn2 hn3 ht0 hx hxm hxv hJ hnl BJ
          go_wp2_with fail
          have HP : Hid (∀ u, u.cell? ⟨w6.heap.size, 0, none⟩ = some (.int .i64 t0) → ∃ p : Bx1 w6.heap.size (.int .i64 t0), u = p.u) := fun u h => ⟨⟨u, h⟩, rfl⟩
          have q0 : ∀ q : Bx1 w6.heap.size (.int .i64 t0), q.u.cell? ⟨w6.heap.size, 0, none⟩ = some (.int .i64 t0) := fun q => q.h
          haveI : Nonempty (Bx1 w6.heap.size (.int .i64 t0)) := ⟨⟨wr, bB⟩⟩
          refine wp_region_C (fun u => ∃ p : Bx1 w6.heap.size (.int .i64 t0), u = p.u) 5 _ (by kernel_rfl) ?reg (fun _ _ h => h)
          refine anyC_pure 0 rfl (by kernel_rfl) (by kernel_rfl) (by kernel_rfl) (HP.out _ bB) (fun K hK => ?_)
          go_simp
          refine hK _ ?_
          clear hK K
          refine anyC_pure 1 rfl (by kernel_rfl) (by kernel_rfl) (by kernel_rfl) (HP.out _ bB) (fun K hK => ?_)
          go_simp
          refine hK _ ?_
          clear hK K
          refine anyC_loud 2 (by kernel_rfl) ?_
          refine lou_of rfl (fun K hK => ?_)
          go_simp
          refine (N.out _ (Below.refl _ _).drew).mono ?_
          rintro e u1 ⟨v1, rfl, ho1, hu1⟩
          have hu1' : Below wr.heap.size wr u1 := (Below.refl _ _).drew.trans hu1
          obtain ⟨va, vc, rfl⟩ := ownsM_shape ho1
          have hJ1 := HJ.out.more hu1'
          refine hK _ _ ⟨fun _ => HP.out _ (hJ1.box.cell 0 rfl), ?_⟩
          clear hK K
          refine anyC_pure 3 rfl (by kernel_rfl) (by kernel_rfl) (by kernel_rfl) (HP.out _ (hJ1.box.cell 0 rfl)) (fun K hK => ?_)
          go_simp
          refine hK _ ?_
          clear hK K
          refine anyC_pure 4 rfl (by kernel_rfl) (by kernel_rfl) (by kernel_rfl) (HP.out _ (hJ1.box.cell 0 rfl)) (fun K hK => ?_)
          go_simp
          refine hK _ ?_
          clear hK K
          have z1 := hJ1.box.cell 0 rfl
          have z2 := hJ1.box.frozen 0
          have HJ2 : Hid (Rk w6 db (((nls vs : Nat) : Int) - ((nls (vs.take (j + 1)) : Nat) : Int)) (u1.setCell ⟨w6.heap.size, 0, none⟩ (.int .i64 (t0 - (nl.length : Int))))) := HTN.out _ (hJ1.set hdb _)
          clear hJ1 ho1 HTN HJ
          refine anyC_loud 5 (by kernel_rfl) ?_
          refine lou_of rfl (fun K hK => ?_)
          go_simp
          refine hK _ _ ⟨fun h => absurd rfl h, ?_⟩
          clear hK K
          refine anyC_done (by kernel_rfl) ?_
          clear z1 z2 q0 HP N
          go_wp2_with fail
          go_roundw
          case rel => exact ⟨j + 1, by omega, by go_num, HJ2.out⟩
          case measure => simp [intOf]; omega
        · obtain rfl : j = vs.length := by omega
          rw [List.take_of_length_le (Nat.le_refl _), Int.sub_self] at hJ
          have hjg' : ¬ (vs.length : Int) < (vs.length : Int) := by omega
          have HR2 : Hid (Rk w6 db 0 wr) := hJ
          clear hJ BJ
          have hNz : ((NAll vs).length : Int) ≤ 110000 := by omega
          obtain ⟨N, hN⟩ : ∃ N, N = NAll vs := ⟨_, rfl⟩
          rw [← hN] at sN6 hNL hNz
          rw [← hN]
          have HIN : Hid (∀ c ∈ N, ∃ v ∈ vs, c ∈ v.l) := fun c hc => by
            rw [hN] at hc
            have e : vs.map (fun v => nrm v.l) = (vs.map Lv.l).map nrm := by rw [List.map_map]; rfl
            unfold NAll at hc
            rw [e] at hc
            obtain ⟨l, hl, hcl⟩ := nrm_flat_mem hc
            obtain ⟨v, hv, rfl⟩ := List.mem_map.1 hl
            exact ⟨v, hv, hcl⟩
          clear hN
          generalize wr = wa at *
          go_wp2_with fail
          go_loopw [50] (fun s50 wr => ∃ i : Nat, i ≤ N.length ∧ s50 = .int .i64 i ∧ Rk w6 db 0 wr) (fun s50 _ => N.length - (intOf s50).toNat)
          case atStart => exact ⟨0, by omega, by go_num, HR2.out⟩
          case round =>
            clear HR2
            obtain ⟨i, hi, rfl, hJ⟩ := hrel
            have BJ := B6.trans (hJ.bel.mono B6.size)
            rcases Nat.lt_or_ge i N.length with hil | hig
            · obtain ⟨c, hc⟩ : ∃ c, N[i]? = some c := ⟨_, List.getElem?_eq_getElem hil⟩
              obtain ⟨nb, nof, rfl, h1⟩ := (sN6.below hJ.bel (Nat.le_refl _)) i c hc
              have hiz : (i : Int) < (N.length : Int) := by omega
              have HCV : Hid (∃ v ∈ vs, c ∈ v.l) := HIN.out c (List.mem_of_getElem? hc)
              have k0 := h1.c0
              have k1 := h1.c1
              have k2 := h1.c2
              have k3 := h1.c3
              have k4 := h1.c4
              have k5 := h1.c5
              have k6 := h1.c6
              have k7 := h1.c7
              have k8 := h1.c8
              have k9 := h1.c9
              have bc0 := Blk.new wr (xs10 c) 39
              obtain ⟨wc, hwc⟩ : ∃ wc, wc = wr.alloc (.cells c.a 39) := ⟨_, rfl⟩
              have bcc : Blk wc wr.heap.size (xs10 c) 39 := by rw [hwc]; exact bc0
              have hJc : Rk w6 db 0 wc := by rw [hwc]; exact hJ.more ((Below.refl _ _).alloc (Nat.le_refl _) _)
              have hBc : Below w.heap.size w wc := by rw [hwc]; exact BJ.alloc BJ.size _
              have HSc : Hid (LSees wc lo vs) := HS0.out.below hBc (Nat.le_refl _)
              have HIc : Hid (∀ v ∈ vs, XSees wc v.ao v.l) := fun v hv => (HI0.out v hv).below hBc (Nat.le_refl _)
              have HRc : Hid (Rk w6 db 0 wc) := hJc
              have HBC : Hid (Blk wc wr.heap.size (xs10 c) 39) := bcc
              have EQ0 := fun y : Cx => cellEq_run y c
              have HCE : Hid (∀ y : Cx, eqC y c = true ↔ y = c) := fun y => eqC_iff
              obtain ⟨cx, hcx⟩ : ∃ cx, cx = c := ⟨_, rfl⟩
              have HEC : Hid (∀ y : Cx, eqC y c = eqC y cx) := fun y => by rw [hcx]
              have HCX : Hid (cx = c) := hcx
              obtain ⟨⟨ca, cp, cr, cc⟩, ⟨ct, cd, cl, ck, cn, cs⟩⟩ := c
              simp only at k0 k1 k2 k3 k4 k5 k6 k7 k8 k9
              simp only [Cx.a] at EQ0 hwc
              have EQ : Hid _ := EQ0
              clear EQ0
              clear bc0 bcc hJc hBc h1 hc hJ BJ hcx
              go_wp2_with fail
              rw [← hwc]
              clear hwc k0 k1 k2 k3 k4 k5 k6 k7 k8 k9
              generalize wr.heap.size = b11 at *
              go_loopw [12, 56] (fun s12 s56 wr => ∃ (j : Nat) (ib : Bool), j ≤ vs.length ∧ s56 = .int .i64 j ∧ s12 = .bool ib ∧ (ib = false → ∀ v ∈ vs.take j, cx ∉ v.l) ∧ Below wc.heap.size wc wr) (fun _ s56 _ => vs.length - (intOf s56).toNat)
              case atStart => exact ⟨0, false, by omega, by go_num, rfl, fun _ v hv => by simp at hv, Below.refl _ _⟩
              case round =>
                obtain ⟨j, ib, hj, rfl, rfl, hno, hB⟩ := hrel
                rcases Nat.lt_or_ge j vs.length with hjl | hjg
                · obtain ⟨x, hx⟩ : ∃ x, vs[j]? = some x := ⟨_, List.getElem?_eq_getElem hjl⟩
                  obtain ⟨lb, lof, rfl, hxc⟩ := (HSc.out.below hB (Nat.le_refl _)) j x hx
                  have hxm := List.mem_of_getElem? hx
                  have hjz : (j : Int) < (vs.length : Int) := by omega
                  have sx := HIc.out x hxm
                  have hx1 := (HSM.out.each x hxm).1
                  have HNO : Hid (ib = false → ∀ v ∈ vs.take j, cx ∉ v.l) := hno
                  have HTK : Hid (vs.take (j + 1) = vs.take j ++ [x]) := takeX_succ hx
                  obtain ⟨xa, xc, xl⟩ := x
                  have HTK2 : Hid (∀ v ∈ vs.take (j + 1), v ∈ vs.take j ∨ v.l = xl) := fun v hv => by
                    rw [HTK.out] at hv
                    rcases List.mem_append.1 hv with h | h
                    · exact .inl h
                    · exact .inr (by have : v = ⟨xa, xc, xl⟩ := by simpa using h
                                     rw [this])
                  simp only [Lv.s] at hxc
                  simp only at hx1 sx
                  have hx1z : (xl.length : Int) ≤ 100000 := by omega
                  clear HTK hno hx hxm
                  generalize wr = wj at *
                  go_wp2_with fail
                  clear hxc
                  go_loopw [12, 62] (fun s12 s62 wr => ∃ (i2 : Nat) (jb : Bool), i2 ≤ xl.length ∧ s62 = .int .i64 i2 ∧ s12 = .bool jb ∧ (jb = false → (∀ v ∈ vs.take j, cx ∉ v.l) ∧ cx ∉ xl.take i2) ∧ Below wc.heap.size wc wr) (fun _ s62 _ => xl.length - (intOf s62).toNat)
                  case atStart => exact ⟨0, ib, by omega, by go_num, rfl, fun h => ⟨HNO.out h, by simp⟩, hB⟩
                  case round =>
                    clear HNO hB
                    obtain ⟨i2, jb, hi2, rfl, rfl, hno2, hB2⟩ := hrel
                    rcases Nat.lt_or_ge i2 xl.length with hil2 | hig2
                    · obtain ⟨y, hy⟩ : ∃ y, xl[i2]? = some y := ⟨_, List.getElem?_eq_getElem hil2⟩
                      obtain ⟨yb, yof, rfl, h1⟩ := (sx.below hB2 (Nat.le_refl _)) i2 y hy
                      have hyz : (i2 : Int) < (xl.length : Int) := by omega
                      have HT4 : Hid (xl.take (i2 + 1) = xl.take i2 ++ [y]) := takeX_succ hy
                      have HN2 : Hid (jb = false → (∀ v ∈ vs.take j, cx ∉ v.l) ∧ cx ∉ xl.take i2) := hno2
                      have bcW := (HBC.out.carry (hB2.block _ HBC.out.lt)).alloc (.cells y.a 39)
                      have HB3 : Hid (Below wc.heap.size wc (wr.alloc (.cells y.a 39))) := hB2.alloc hB2.size _
                      have EQy := EQ.out y
                      have HGB0 : Hid (∀ gb, eqC y cx = gb → gb = false → cx ≠ y) := fun gb e h e2 => by
                        rw [← e2] at e
                        rw [eqC_iff.2 rfl] at e
                        rw [← e] at h; cases h
                      have HEy : Hid (eqC y ⟨⟨ca, cp, cr, cc⟩, ⟨ct, cd, cl, ck, cn, cs⟩⟩ = eqC y cx) := HEC.out y
                      rw [HEy.out] at EQy
                      have HNW : Hid (∀ gb, eqC y cx = gb → jb = false → gb = false → (∀ v ∈ vs.take j, cx ∉ v.l) ∧ cx ∉ xl.take (i2 + 1)) := fun gb e hj hg => by
                        obtain ⟨a1, a2⟩ := HN2.out hj
                        refine ⟨a1, fun hm => ?_⟩
                        rw [HT4.out] at hm
                        rcases List.mem_append.1 hm with h | h
                        · exact a2 h
                        · exact HGB0.out gb e hg (by simpa using h)
                      have l0 := h1.c0
                      have l1 := h1.c1
                      have l2 := h1.c2
                      have l3 := h1.c3
                      have l4 := h1.c4
                      have l5 := h1.c5
                      have l6 := h1.c6
                      have l7 := h1.c7
                      have l8 := h1.c8
                      have l9 := h1.c9
                      have m0 := bcW.cell 0 rfl
                      have m1 := bcW.cell 1 rfl
                      have m2 := bcW.cell 2 rfl
                      have m3 := bcW.cell 3 rfl
                      have m4 := bcW.cell 4 rfl
                      have m5 := bcW.cell 5 rfl
                      have m6 := bcW.cell 6 rfl
                      have m7 := bcW.cell 7 rfl
                      have m8 := bcW.cell 8 rfl
                      have m9 := bcW.cell 9 rfl
                      obtain ⟨gb, hgb⟩ : ∃ gb, eqC y cx = gb := ⟨_, rfl⟩
                      have HNV : Hid (jb = false → gb = false → (∀ v ∈ vs.take j, cx ∉ v.l) ∧ cx ∉ xl.take (i2 + 1)) := HNW.out gb hgb
                      rw [hgb] at EQy
                      clear hgb HNW HEy HGB0 HT4 HN2 hno2 bcW h1 hy hB2
                      obtain ⟨⟨ya, yp, yr, yc⟩, ⟨yt, yd, yl, yk, yn, ys⟩⟩ := y
                      simp only at l0 l1 l2 l3 l4 l5 l6 l7 l8 l9
                      simp only [Cx.a] at EQy HB3 m0 m1 m2 m3 m4 m5 m6 m7 m8 m9
                      cases jb with
                      | true =>
                        go_wp2_with fail
                        go_roundw
                        case rel => exact ⟨i2 + 1, true, by omega, by go_num, rfl, fun h => by (cases h), HB3.out⟩
                        case measure => simp [intOf]; omega
                      | false =>
                        go_wp2_with fail
                        go_roundw
                        case rel => exact ⟨i2 + 1, gb, by omega, by go_num, rfl, HNV.out rfl, HB3.out⟩
                        case measure => simp [intOf]; omega
                    · obtain rfl : i2 = xl.length := by omega
                      rw [List.take_of_length_le (Nat.le_refl _)] at hno2
                      have hig2' : ¬ (xl.length : Int) < (xl.length : Int) := by omega
                      have HN3 : Hid (jb = false → ∀ v ∈ vs.take (j + 1), cx ∉ v.l) := fun h v hv => by
                        rcases HTK2.out v hv with h1 | h1
                        · exact (hno2 h).1 v h1
                        · rw [h1]; exact (hno2 h).2
                      clear hno2 HTK2
                      go_wp2_with fail
                      go_roundw
                      case rel => exact ⟨j + 1, jb, by omega, by go_num, rfl, HN3.out, hB2⟩
                      case measure => simp [intOf]; omega
                · obtain rfl : j = vs.length := by omega
                  rw [List.take_of_length_le (Nat.le_refl _)] at hno
                  have hjg2 : ¬ (vs.length : Int) < (vs.length : Int) := by omega
                  have hib : ib = true := by
                    cases ib with
                    | true => rfl
                    | false =>
                      obtain ⟨v, hv, hc⟩ := HCV.out
                      rw [← HCX.out] at hc
                      exact absurd hc (hno rfl v hv)
                  subst hib
                  have HR5 : Hid (Rk w6 db 0 wr) := HRc.out.more hB
                  clear hno hB
                  go_wp2_with fail
                  go_roundw
                  case rel => exact ⟨i + 1, by omega, by go_num, HR5.out⟩
                  case measure => simp [intOf]; omega
            · obtain rfl : i = N.length := by omega
              have hig' : ¬ (N.length : Int) < (N.length : Int) := by omega
              have z1 := hJ.box.cell 0 rfl
              have HJ9 : Hid (Rk w6 db 0 wr) := hJ
              clear hJ
              go_wp2_with fail
              refine (LV.out _).mono ?_
              clear z1
              rintro e u9 ⟨rfl, hu9⟩
              have hJ9 := HJ9.out.more hu9
              have B9 := BJ.trans (hu9.mono BJ.size)
              have hK9 := hJ9.dfr
              clear hJ9 HJ9
              go_wp2_with fail
              refine ⟨by simp, .inl ⟨_, _, rfl, run_takeDeferred hK9, ?_⟩⟩
              exact ⟨_, results_tmp rfl _ _ _, rfl, B9.trans ((zoned_put db (db + 1) u9 db (.deferred none) (Nat.le_refl _) (by omega)).below (by omega) B9.size)⟩
end Go.Proofs.Ytdpglmgnbhpneaa.mergeRises

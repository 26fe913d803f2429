/-
  THE WALK of the law MergeEach: the cells of any lists, by keys, joined, and how many lists have each; left anywhere, and gone over again.
-/
import Derived.Test.YtdpglmgnbhpneaaCntAll
import Derived.Test.YtdpglmgnbhpneaaMrgEq
import Derived.Test.YtdpglmgnbhpneaaMrgLives
namespace Go.Proofs.Ytdpglmgnbhpneaa.mergeEach
open Go.RowKit
attribute [local go_sem] Oper.semAt_some
attribute [local go_sem] Oper.pureAt Oper.pureUpon

/-- The box of the number, and the mark of the first range. -/
structure Rk (w6 : World) (db : Nat) (t : Int) (wr : World) : Prop where
  box : Blk wr w6.heap.size [.int .i64 t] 3
  bel : Below w6.heap.size w6 wr
  dfr : wr.heap[db]? = some (.deferred (some []))
theorem Rk.more {w6 wr u : World} {db : Nat} {t : Int} (h : Rk w6 db t wr) (hu : Below wr.heap.size wr u) : Rk w6 db t u :=
  ⟨h.box.carry (hu.block _ h.box.lt), h.bel.trans (hu.mono h.bel.size), (hu.block _ (Array.getElem?_eq_some_iff.1 h.dfr).1).trans h.dfr⟩
theorem Rk.set {w6 wr : World} {db : Nat} {t : Int} (h : Rk w6 db t wr) (hd : db ≠ w6.heap.size) (t' : Int) : Rk w6 db t' (wr.setCell ⟨w6.heap.size, 0, none⟩ (.int .i64 t')) :=
  ⟨h.box.setTo 0 _ _ rfl, h.bel.trans ((Below.refl _ _).setCell (p := ⟨w6.heap.size, 0, none⟩) (Nat.le_refl _) _), ((grownBy_setCell' wr w6.heap.size _).block db (Array.getElem?_eq_some_iff.1 h.dfr).1 (by simpa using hd)).trans h.dfr⟩
theorem Rk.zoned {w6 X Y : World} {db a z : Nat} {t : Int} (h : Rk w6 db t X) (hz : Zoned a z X Y) (h1 : w6.heap.size < a) (h2 : db < a) : Rk w6 db t Y :=
  ⟨zoned_blk hz h.box h1, h.bel.trans (hz.below (by omega) h.bel.size), (hz.block _ (Array.getElem?_eq_some_iff.1 h.dfr).1 (.inl h2)).trans h.dfr⟩
/-- Worlds in which two boxes hold two values. -/
structure Bx2 (B C : Nat) (v x : Value) where
  u : World
  h : u.cell? ⟨B, 0, none⟩ = some v
  g : u.cell? ⟨C, 0, none⟩ = some x
/-- What lies still while the ranges go. -/
structure Fx (b3 b5 : Nat) (stop : Int) (na : Option Addr) (nc : Nat) (N : List Cx) (ka : Option Addr) (kc : Nat) (cs : List Value) (X : World) : Prop where
  s : Blk X b3 [.int .i64 stop] 3
  r : Blk X (b3 + 1) [.bool false] 4
  a : Blk X b5 [.slice na N.length nc] 25
  c : Blk X (b5 + 1) [.slice ka cs.length kc] 27
  n : XSees X na N
  k : ∀ i x, cs[i]? = some x → ∃ b off, ka = some ⟨b, off, none⟩ ∧ X.cell? ⟨b, off + i, none⟩ = some x
theorem Fx.below {b3 b5 : Nat} {stop : Int} {na : Option Addr} {nc : Nat} {N : List Cx} {ka : Option Addr} {kc : Nat} {cs : List Value} {X Y : World} {B : Nat} (h : Fx b3 b5 stop na nc N ka kc cs X) (hb : Below B X Y) (hB : X.heap.size ≤ B) : Fx b3 b5 stop na nc N ka kc cs Y :=
  ⟨h.s.carry (hb.block _ (Nat.lt_of_lt_of_le h.s.lt hB)), h.r.carry (hb.block _ (Nat.lt_of_lt_of_le h.r.lt hB)), h.a.carry (hb.block _ (Nat.lt_of_lt_of_le h.a.lt hB)), h.c.carry (hb.block _ (Nat.lt_of_lt_of_le h.c.lt hB)), h.n.below hb hB,
    fun i x hx => by
      obtain ⟨b, off, e, hc⟩ := h.k i x hx
      have := World.block_lt_of_cell? _ _ hc
      exact ⟨b, off, e, (hb.cell (p := ⟨b, off + i, none⟩) (Nat.lt_of_lt_of_le this hB)).trans hc⟩⟩
theorem own_k {w : World} {B : Nat} {ka : Option Addr} {kc : Nat} {cs : List Value} (h : w.ownsRow B 3 1 (.slice ka cs.length kc) cs.length cs) : ∀ i x, cs[i]? = some x → ∃ b off, ka = some ⟨b, off, none⟩ ∧ w.cell? ⟨b, off + i, none⟩ = some x := fun i x hx => by
  have hi := (List.getElem?_eq_some_iff.1 hx).1
  rcases h.2 with ⟨h1, h2⟩ | ⟨g, cap', cur, h1, _⟩
  · rw [h2] at hi; omega
  · have e : ka = some ⟨g, 0, none⟩ := by injection h1
    subst e
    exact ⟨g, 0, rfl, by rw [Nat.zero_add, h.cellAt i (by omega)]; exact hx⟩
theorem cellNe_self (a : Cx) (w : World) : (binOp BinOp.neq 39 (.agg a.a) (.agg a.a)).run Try.prog w = .ok (.bool false) w := by
  unfold Cx.a
  obtain ⟨⟨a1, a2, a3, a4⟩, ⟨t1, d1, l1, k1, n1, s1⟩⟩ := a
  go_simp
set_option maxRecDepth 100000 in
set_option maxHeartbeats 2000000 in
theorem walk (lo : Option Addr) (vs : List Lv) (lcap : Nat) (stop : Int) (w : World) (hs : LSees w lo vs) (hin : ∀ v ∈ vs, XSees w v.ao v.l) (hsm : SmallLs vs) :
    Calls Try.prog 3 #[.slice lo vs.length lcap, .int .i64 stop] w fun e w' => e = .returned (.bool true) ∧ Below w.heap.size w w' := by
  have hro : Fence.wide.round = none := rfl
  have LV : Hid (∀ w : World, Calls Try.prog 10 #[] w fun e w' => e = .returned (.bool true) ∧ Below w.heap.size w w') := lives10_any
  obtain ⟨wb, hwb⟩ : ∃ wb, wb = (w.alloc (.cells #[.int .i64 stop] 3)).alloc (.cells #[.bool false] 4) := ⟨_, rfl⟩
  have hwB : Below w.heap.size w wb := by rw [hwb]; exact ((Below.refl _ _).alloc (Nat.le_refl _) _).alloc (by simp) _
  have bS : Blk wb w.heap.size [.int .i64 stop] 3 := by rw [hwb]; exact (Blk.new w [.int .i64 stop] _).alloc _
  have bR : Blk wb (w.heap.size + 1) [.bool false] 4 := by
    have h := Blk.new (w.alloc (.cells #[.int .i64 stop] 3)) [.bool false] 4
    rw [World.size_alloc] at h
    rw [hwb]; exact h
  have FW : Hid (Calls Try.prog 9 #[.slice lo vs.length lcap] wb fun e w' => (∃ b, e = .returned (.bool b) ∧ (b = true → vs.length ≤ 400)) ∧ Below wb.heap.size wb w') :=
    few_any lo vs lcap wb (hs.below hwB (Nat.le_refl _)) (fun v hv => (hin v hv).below hwB (Nat.le_refl _)) hsm.n (fun v hv => ⟨by have := (hsm.each v hv).1; omega, (hsm.each v hv).2⟩)
  have htot : (nfl vs).length ≤ 110000 := by
    have h1 := flat_nrm_len (vs.map Lv.l)
    rw [List.map_map] at h1
    exact Nat.le_trans h1 hsm.tot
  have h1 : ∀ v ∈ vs, v.l.length ≤ 1000000 := fun v hv => by have := (hsm.each v hv).1; omega
  have RA : Hid (vs.length ≤ 400 → ∀ u, Below w.heap.size w u → Calls Try.prog 11 #[.slice lo vs.length lcap] u fun e w' => ∃ v, e = .returned v ∧ w'.ownsRow u.heap.size 39 10 v (nrm (nfl vs)).length ((nrm (nfl vs)).flatMap xs10) ∧ Below u.heap.size u w') := fun h4 u hu =>
    rall_any lo vs lcap u (hs.below hu (Nat.le_refl _)) (fun v hv => (hin v hv).below hu (Nat.le_refl _)) (by omega) h1 (by omega)
  have RC : Hid (vs.length ≤ 400 → ∀ u, Below w.heap.size w u → Calls Try.prog 12 #[.slice lo vs.length lcap] u fun e w' => ∃ v, e = .returned v ∧ w'.ownsRow u.heap.size 3 1 v (cnts vs (nrm (nfl vs))).length (cnts vs (nrm (nfl vs))) ∧ Below u.heap.size u w') := fun h4 u hu =>
    rcounts_any lo vs lcap u (hs.below hu (Nat.le_refl _)) (fun v hv => (hin v hv).below hu (Nat.le_refl _)) (by omega) h1 (by omega)
  have AL : Hid (vs.length ≤ 400 → ∀ u, Below w.heap.size w u → Calls Try.prog 15 #[.slice lo vs.length lcap] u fun e w' => ∃ v, e = .returned v ∧ w'.ownsRow u.heap.size 39 10 v (nrm (nfl vs)).length ((nrm (nfl vs)).flatMap xs10) ∧ Below u.heap.size u w') := fun h4 u hu =>
    all_anyM lo vs lcap u (hs.below hu (Nat.le_refl _)) (fun v hv => (hin v hv).below hu (Nat.le_refl _)) (by omega) h1 (by have : (vs.map (fun v => nrm v.l)).flatten.length ≤ 110000 := htot; omega)
  have EA : Hid (vs.length ≤ 400 → ∀ u, Below w.heap.size w u → Calls Try.prog 13 #[.slice lo vs.length lcap] u fun e w' => ∃ (Bn : Nat) (so : Option Addr) (ss : List Lv) (scap : Nat), e = .returned (.func (.func 29) #[] #[.pointer (some ⟨Bn, 0, none⟩)]) ∧ w'.cell? ⟨Bn, 0, none⟩ = some (.slice so ss.length scap) ∧ LSees w' so ss ∧ (∀ v ∈ ss, v.At w' (fun k => u.heap.size ≤ k ∧ k < w'.heap.size)) ∧ ss.map Lv.l = vs.map (fun v => nrm v.l) ∧ Below u.heap.size u w' ∧ u.heap.size ≤ Bn) := fun h4 u hu =>
    each_any lo vs lcap u (hs.below hu (Nat.le_refl _)) (fun v hv => (hin v hv).below hu (Nat.le_refl _)) (by omega) h1
  have hNL : (nrm (nfl vs)).length ≤ 110000 := Nat.le_trans (nrm_len _) htot
  have HSM : Hid (SmallLs vs) := hsm
  clear hs hin hsm h1
  refine (callsIn_wide (n := 6)).1 ?_
  refine callsIn_of_wp_marks Try.func3 rfl trivial ?_ hro
  simp only [Try.ntmps3, List.size_toArray, List.length_cons, List.length_nil, Nat.reduceAdd, Nat.reduceSub, Array.replicate_succ, Array.replicate_zero, List.push_toArray, List.append_toArray, List.nil_append, List.cons_append]
  refine wpIn_wide.2 ?_
  go_wp2_with fail
  rw [← hwb]
  clear hwb
  refine FW.out.mono ?_
  clear FW
  rintro e w3 ⟨⟨b, rfl, h400⟩, hb3⟩
  have bS3 := bS.carry (hb3.block _ bS.lt)
  have bR3 := bR.carry (hb3.block _ bR.lt)
  have B3 := hwB.trans (hb3.mono hwB.size)
  clear bS bR hb3 hwB
  cases b with
  | false =>
    clear h400
    go_wp2_with fail
    refine (LV.out _).mono ?_
    rintro e w4 ⟨rfl, hb4⟩
    have bR4 := bR3.carry (hb4.block _ bR3.lt)
    have c4 := bR4.cell 0 rfl
    have f4 := bR4.frozen 0
    have B4 := B3.trans (hb4.mono B3.size)
    have bR5 : Blk (w4.setCell ⟨w.heap.size + 1, 0, none⟩ (.bool true)) (w.heap.size + 1) [.bool true] 4 := bR4.setTo 0 _ _ rfl
    have HE : Hid ((w4.setCell ⟨w.heap.size + 1, 0, none⟩ (.bool true)).cell? ⟨w.heap.size + 1, 0, none⟩ = some (.bool true) ∧ Below w.heap.size w (w4.setCell ⟨w.heap.size + 1, 0, none⟩ (.bool true))) := ⟨bR5.cell 0 rfl, B4.trans ((Below.refl _ _).setCell (p := ⟨w.heap.size + 1, 0, none⟩) (by simp) _)⟩
    clear bR4 bR5 B4 hb4
    go_wp2_with fail
    exact ⟨_, res_bool rfl _ _ (w.heap.size + 1) true rfl HE.out.1 Try.underlying4, rfl, HE.out.2⟩
  | true =>
    have h4 : vs.length ≤ 400 := h400 rfl
    have h4z : (vs.length : Int) ≤ 400 := by omega
    have RA1 : Hid _ := RA.out h4 w3 B3
    have RC1 : Hid _ := RC.out h4
    have AL1 : Hid _ := AL.out h4
    have EA1 : Hid _ := EA.out h4
    clear RA RC AL EA h400
    obtain ⟨N, hN⟩ : ∃ N, N = nrm (nfl vs) := ⟨_, rfl⟩
    rw [← hN] at RA1 RC1 AL1 hNL
    have HNN : Hid (N = nrm (nfl vs)) := hN
    clear hN
    have hNz : (N.length : Int) ≤ 110000 := by omega
    go_wp2_with fail
    refine (show Calls _ _ _ _ _ from RA1.out).mono ?_
    clear RA1
    rintro e u1 ⟨v1, rfl, ho1, hu1⟩
    obtain ⟨na, nc, rfl⟩ := ownsM_shape ho1
    have sN1 := (owns_see ho1).1
    have B4 := B3.trans (hu1.mono B3.size)
    have bS4 := bS3.carry (hu1.block _ bS3.lt)
    have bR4 := bR3.carry (hu1.block _ bR3.lt)
    have RC2 : Hid _ := RC1.out u1 B4
    clear RC1 ho1 hu1 B3 bS3 bR3
    go_wp2_with fail
    refine (show Calls _ _ _ _ _ from RC2.out).mono ?_
    clear RC2
    rintro e u2 ⟨v2, rfl, ho2, hu2⟩
    obtain ⟨ka, kc, rfl⟩ := ownsM_shape ho2
    have sN2 := sN1.below hu2 (Nat.le_refl _)
    have B5 := B4.trans (hu2.mono B4.size)
    have bS5 := bS4.carry (hu2.block _ bS4.lt)
    have bR5 := bR4.carry (hu2.block _ bR4.lt)
    clear hu2 B4 bS4 bR4 sN1
    go_wp2_with fail
    obtain ⟨wA, hwA⟩ : ∃ wA, wA = (u2.alloc (.cells #[.slice na N.length nc] 25)).alloc (.cells #[.slice ka (cnts vs N).length kc] 27) := ⟨_, rfl⟩
    rw [← hwA]
    have hAB : Below u2.heap.size u2 wA := by rw [hwA]; exact ((Below.refl _ _).alloc (Nat.le_refl _) _).alloc (by simp) _
    have FA : Fx w.heap.size u2.heap.size stop na nc N ka kc (cnts vs N) wA := by
      have hC := Blk.new (u2.alloc (.cells #[.slice na N.length nc] 25)) [.slice ka (cnts vs N).length kc] 27
      rw [World.size_alloc] at hC
      refine ⟨bS5.carry (hAB.block _ bS5.lt), bR5.carry (hAB.block _ bR5.lt), ?_, ?_, sN2.below hAB (Nat.le_refl _), fun i x hx => ?_⟩
      · rw [hwA]; exact (Blk.new u2 [.slice na N.length nc] _).alloc _
      · rw [hwA]; exact hC
      · obtain ⟨b, off, e, hc⟩ := own_k ho2 i x hx
        exact ⟨b, off, e, (hAB.cell (p := ⟨b, off + i, none⟩) (World.block_lt_of_cell? _ _ hc)).trans hc⟩
    have B6 := B5.trans (hAB.mono B5.size)
    have EA2 : Hid _ := EA1.out wA B6
    have hbA : u2.heap.size + 1 < wA.heap.size := FA.c.lt
    have hbW : w.heap.size + 1 < wA.heap.size := FA.r.lt
    clear hwA hAB ho2 sN2 bS5 bR5 B5 EA1
    generalize u2.heap.size = b5 at *
    refine (show Calls _ _ _ _ _ from EA2.out).mono ?_
    clear EA2
    rintro e w6 ⟨Bn, so, ss, scap, rfl, hBn, hss, hat, hsl, hB6, hBnl⟩
    have F6 : Hid (Fx w.heap.size b5 stop na nc N ka kc (cnts vs N) w6) := FA.below hB6 (Nat.le_refl _)
    have B7 := B6.trans (hB6.mono B6.size)
    have hnf : ∀ u : World, (binOp BinOp.eql 30 (.func (.func 29) #[] #[.pointer (some ⟨Bn, 0, none⟩)]) .nilFunc).run Try.prog u = .ok (.bool false) u := fun u => by kernel_rfl
    clear FA B6 hbA hbW
    go_wp2_with fail
    clear hnf
    obtain ⟨w7, hw7⟩ : ∃ w7, w7 = w6.alloc (.cells #[.int .i64 0] 3) := ⟨_, rfl⟩
    rw [← hw7]
    have h76 : Below w6.heap.size w6 w7 := by rw [hw7]; exact (Below.refl _ _).alloc (Nat.le_refl _) _
    have hs7 : w7.heap.size = w6.heap.size + 1 := by rw [hw7]; simp
    have bO : Blk w7 w6.heap.size [.int .i64 0] 3 := by rw [hw7]; exact Blk.new w6 [.int .i64 0] _
    have hBn7 : w7.cell? ⟨Bn, 0, none⟩ = some (.slice so ss.length scap) := (h76.cell (p := ⟨Bn, 0, none⟩) (World.block_lt_of_cell? _ _ hBn)).trans hBn
    have hss7 := hss.below h76 (Nat.le_refl _)
    have hlen : ss.length = vs.length := by have := congrArg List.length hsl; simpa using this
    have hris : ∀ l ∈ ss.map Lv.l, Rising l := fun l hlm => by
      rw [hsl] at hlm
      obtain ⟨v, _, rfl⟩ := List.mem_map.1 hlm
      exact nrm_rising _
    obtain ⟨R, hR1, hR2⟩ := ss_ex hris
    have hRl : R.length ≤ 110000 := by
      rw [hR2.length_eq, ← List.length_map (f := Prod.fst), prL_fst, hsl]
      exact htot
    have HJ2 : Hid (j2 (R.map Prod.fst) = N.map fun c => (c, cntK vs c.k)) := by show _ = _; rw [HNN.out]; exact j2_tells hsl hR1 hR2
    have HAT : Hid (∀ (pre : List (Cx × Nat)) (x : Cx) (m : Nat), pre ++ [(x, m)] <+: j2 (R.map Prod.fst) → pre.length < N.length ∧ N[pre.length]? = some x ∧ (cnts vs N)[pre.length]? = some (.int .i64 (m : Int))) := fun pre x m h => by
      rw [HJ2.out] at h
      obtain ⟨t, ht⟩ := h
      have h1 : (N.map fun c => (c, cntK vs c.k))[pre.length]? = some (x, m) := by rw [← ht]; simp
      rw [List.getElem?_map] at h1
      obtain ⟨y, hy, e⟩ := Option.map_eq_some_iff.1 h1
      have e1 : y = x := congrArg Prod.fst e
      have e2 : cntK vs y.k = m := congrArg Prod.snd e
      subst e1
      refine ⟨(List.getElem?_eq_some_iff.1 hy).1, hy, ?_⟩
      unfold cnts
      rw [List.getElem?_map, hy, ← e2]; rfl
    have hcl : (cnts vs N).length = N.length := by unfold cnts; simp
    clear hw7
    refine (wpIn_wide (n := 6)).1 ?_
    refine range_zone (I := fun z pre X => Blk X w6.heap.size [.int .i64 ((pre.length : Nat) : Int)] 3 ∧ Below w6.heap.size w6 X) (Ix := fun c z pre X => (∃ i : Int, Blk X w6.heap.size [.int .i64 i] 3) ∧ Below w6.heap.size w6 X ∧ c = .exit 0) (Ex := fun k => k = w6.heap.size) (Fp := fun _ k => k = w6.heap.size) (xs := j2 (R.map Prod.fst)) (encs := fun p : Cx × Nat => #[p.1.val, .int .i64 p.2]) hro (by omega) (gf := 29) (lb := #[.pointer (some ⟨Bn, 0, none⟩)]) rfl trivial (enters_of Try.func29 (by kernel_rfl) rfl)
      (each1_zone (6 - 1) (by omega) _ _ (fun _ _ _ _ h => h) Bn so ss scap R w7 hBn7 (fun k hk => by omega) hss7 (fun v hv => (hat v hv).blk (fun a e => h76.block _ ((hat v hv).2.1 a e).2) (fun k hk => ⟨by omega, by omega⟩)) (fun v hv => hris _ (List.mem_map_of_mem hv)) (by omega) hR1 hR2 (by omega)) (fun k hk => by omega) (fun _ _ _ _ h => h) (fun _ => rfl) ?hI ?hIx ?hF ?h0 ?round ?done ?stop
    case hI => exact fun z pre X Y h hz => ⟨zoned_blk hz h.1 (by omega), h.2.trans (hz.below (by omega) h.2.size)⟩
    case hIx => exact fun c z pre X Y ⟨⟨i, hi⟩, h2, h3⟩ hz => ⟨⟨i, zoned_blk hz hi (by omega)⟩, h2.trans (hz.below (by omega) h2.size), h3⟩
    case hF => exact fun z pre X h k hk => ⟨.inl hk, by rw [show k = w6.heap.size from hk]; exact h.1.lt⟩
    case h0 =>
      intro V hV _
      exact ⟨bO.carry (hV.block _ (by omega)), h76.trans (hV.mono (by omega))⟩
    case round =>
      rintro l2 z pre ⟨x, m⟩ V K hz hzV hi hpre hK
      obtain ⟨hpl, hNx, hCx⟩ := HAT.out pre x m hpre
      have hxa := x.a
      have HNX : Hid (N[pre.length]? = some x) := hNx
      have NES := cellNe_self x
      obtain ⟨⟨xa, xp, xr, xc⟩, ⟨xt, xd, xl, xk, xn, xs⟩⟩ := x
      simp only [Cx.val, Cx.a] at NES ⊢
      gi_wp2
      refine hK _ _ ((Below.refl _ _).alloc (Nat.le_refl _) _) ?_
      intro W2 hz2 hsz2
      clear hK K hxa
      rw [World.size_alloc] at hsz2
      have hVW : Zoned w7.heap.size z V W2 := ((Zoned.refl _ _ _).alloc _).trans (hz2.wide (Nat.le_refl _) hz)
      have bx : Blk W2 V.heap.size [.string xa, .string xp, .int .i64 xr, .string xc, .int .i64 xt, .bool xd, .int .i64 xl, .int .i64 xk, .int .i64 xn, .string xs] 39 := (Blk.new V [.string xa, .string xp, .int .i64 xr, .string xc, .int .i64 xt, .bool xd, .int .i64 xl, .int .i64 xk, .int .i64 xn, .string xs] _).carry (hz2.block _ (by simp) (.inr (by omega)))
      have b1 : Blk W2 w6.heap.size [.int .i64 ((pre.length : Nat) : Int)] 3 := zoned_blk hVW hi.1 (by omega)
      have b2 : Below w6.heap.size w6 W2 := hi.2.trans (hVW.below (by omega) hi.2.size)
      have FW2 := F6.out.below b2 (Nat.le_refl _)
      have i0 := b1.cell 0 rfl
      have s0 := FW2.s.cell 0 rfl
      by_cases hst : ((pre.length : Nat) : Int) = stop
      · have HE : Hid (zPost (fun _ k => k = w6.heap.size) w7.heap.size z (fun z pre X => Blk X w6.heap.size [.int .i64 ((pre.length : Nat) : Int)] 3 ∧ Below w6.heap.size w6 X) (fun c z pre X => (∃ i : Int, Blk X w6.heap.size [.int .i64 i] 3) ∧ Below w6.heap.size w6 X ∧ c = .exit 0) (pre ++ [(⟨⟨xa, xp, xr, xc⟩, ⟨xt, xd, xl, xk, xn, xs⟩⟩, m)]) W2 (.exit 0) ⟨#[], []⟩ W2) := ⟨Spared.refl _ _ _, ⟨_, b1⟩, b2, rfl⟩
        clear b1 b2 bx FW2 hVW hz2 hi hpre HNX hNx hCx
        gi_wp2
        exact HE.out
      · clear hz2 hi hVW hpre
        have hpz : ((pre.length : Nat) : Int) < (N.length : Int) := by omega
        have hpn : ¬ (N.length : Int) ≤ ((pre.length : Nat) : Int) := by omega
        obtain ⟨nb, nof, rfl, tx⟩ := FW2.n pre.length _ HNX.out
        obtain ⟨kb, kof, rfl, hk0⟩ := FW2.k pre.length _ hCx
        have p0 := fun q : Cl W2.heap.size W2 => (tx.below q.h tx.lt).c0
        have p1 := fun q : Cl W2.heap.size W2 => (tx.below q.h tx.lt).c1
        have p2 := fun q : Cl W2.heap.size W2 => (tx.below q.h tx.lt).c2
        have p3 := fun q : Cl W2.heap.size W2 => (tx.below q.h tx.lt).c3
        have p4 := fun q : Cl W2.heap.size W2 => (tx.below q.h tx.lt).c4
        have p5 := fun q : Cl W2.heap.size W2 => (tx.below q.h tx.lt).c5
        have p6 := fun q : Cl W2.heap.size W2 => (tx.below q.h tx.lt).c6
        have p7 := fun q : Cl W2.heap.size W2 => (tx.below q.h tx.lt).c7
        have p8 := fun q : Cl W2.heap.size W2 => (tx.below q.h tx.lt).c8
        have p9 := fun q : Cl W2.heap.size W2 => (tx.below q.h tx.lt).c9
        have x0 := fun q : Cl W2.heap.size W2 => (bx.carry (q.h.block _ bx.lt)).cell 0 rfl
        have x1 := fun q : Cl W2.heap.size W2 => (bx.carry (q.h.block _ bx.lt)).cell 1 rfl
        have x2 := fun q : Cl W2.heap.size W2 => (bx.carry (q.h.block _ bx.lt)).cell 2 rfl
        have x3 := fun q : Cl W2.heap.size W2 => (bx.carry (q.h.block _ bx.lt)).cell 3 rfl
        have x4 := fun q : Cl W2.heap.size W2 => (bx.carry (q.h.block _ bx.lt)).cell 4 rfl
        have x5 := fun q : Cl W2.heap.size W2 => (bx.carry (q.h.block _ bx.lt)).cell 5 rfl
        have x6 := fun q : Cl W2.heap.size W2 => (bx.carry (q.h.block _ bx.lt)).cell 6 rfl
        have x7 := fun q : Cl W2.heap.size W2 => (bx.carry (q.h.block _ bx.lt)).cell 7 rfl
        have x8 := fun q : Cl W2.heap.size W2 => (bx.carry (q.h.block _ bx.lt)).cell 8 rfl
        have x9 := fun q : Cl W2.heap.size W2 => (bx.carry (q.h.block _ bx.lt)).cell 9 rfl
        have qk := fun q : Cl W2.heap.size W2 => (q.h.cell (p := ⟨kb, kof + pre.length, none⟩) (World.block_lt_of_cell? _ _ hk0)).trans hk0
        have qi := fun q : Cl W2.heap.size W2 => (b1.carry (q.h.block _ b1.lt)).cell 0 rfl
        have qa := fun q : Cl W2.heap.size W2 => (FW2.a.carry (q.h.block _ FW2.a.lt)).cell 0 rfl
        have qc := fun q : Cl W2.heap.size W2 => (FW2.c.carry (q.h.block _ FW2.c.lt)).cell 0 rfl
        simp only [hcl] at qc
        simp only at p0 p1 p2 p3 p4 p5 p6 p7 p8 p9
        have HE : Hid (∀ U, Below W2.heap.size W2 U → U.cell? ⟨w6.heap.size, 0, none⟩ = some (.int .i64 ((pre.length : Nat) : Int)) ∧ U.frozen? ⟨w6.heap.size, 0, none⟩ = false ∧ SparedF (fun _ k => k = w6.heap.size) W2 (U.setCell ⟨w6.heap.size, 0, none⟩ (.int .i64 (((pre.length : Nat) : Int) + 1))) ∧ Blk (U.setCell ⟨w6.heap.size, 0, none⟩ (.int .i64 (((pre.length : Nat) : Int) + 1))) w6.heap.size [.int .i64 (((pre ++ [((⟨⟨xa, xp, xr, xc⟩, ⟨xt, xd, xl, xk, xn, xs⟩⟩ : Cx), m)]).length : Nat) : Int)] 3 ∧ Below w6.heap.size w6 (U.setCell ⟨w6.heap.size, 0, none⟩ (.int .i64 (((pre.length : Nat) : Int) + 1)))) := fun U hU => by
          have c1 := b1.carry (hU.block _ b1.lt)
          refine ⟨c1.cell 0 rfl, c1.frozen 0, (SparedF.of_below hU (Nat.le_refl _)).trans (SparedF.of_grown (grownBy_setCell' U w6.heap.size _) (fun k e => .inl (by cases e; rfl))) (fun _ _ h => h), ?_, (b2.trans (hU.mono b2.size)).trans ((Below.refl _ _).setCell (p := ⟨w6.heap.size, 0, none⟩) (Nat.le_refl _) _)⟩
          have := c1.setTo 0 (.int .i64 (((pre.length : Nat) : Int) + 1)) _ rfl
          simpa using this
        haveI := Cl.inh W2.heap.size W2
        clear b1 b2 bx FW2 tx hk0 HNX hNx hCx hsz2
        obtain ⟨pl, hpl2⟩ : ∃ pl, pl = pre.length := ⟨_, rfl⟩
        rw [← hpl2] at HE p0 p1 p2 p3 p4 p5 p6 p7 p8 p9 qk qi hpz hpn hpl i0 hst
        have hplz : (pl : Int) ≤ 110000 := by omega
        clear hpl2
        gi_wp2
        refine wpInR_region_cl W2.heap.size (by kernel_rfl) (by kernel_rfl) (by kernel_rfl) ?_
        repeat (first | quiet_step_in (fail) | (refine wpQuietIn_step (fun _ _ _ _ => trivial) (fun K hK => ?_); go_simp; refine hK _ ?_; clear hK K))
        refine wpQuietIn_nil ?_
        rintro w0 ⟨q, rfl⟩
        obtain ⟨e1, e2, e3, e4, e5⟩ := HE.out _ q.h
        have HE9 : Hid _ := (⟨e3, e4, e5⟩ : _ ∧ _ ∧ _)
        clear HE e3 e4 e5 qk qi qa qc p0 p1 p2 p3 p4 p5 p6 p7 p8 p9 x0 x1 x2 x3 x4 x5 x6 x7 x8 x9
        generalize q.u = U at *
        gi_wp2
        exact HE9.out
    case done =>
      intro z W3 hz hzW hi hK
      obtain ⟨hb0, hB0⟩ := hi
      obtain ⟨i0, hi0⟩ : ∃ i0 : Int, i0 = (((j2 (R.map Prod.fst)).length : Nat) : Int) := ⟨_, rfl⟩
      rw [← hi0] at hb0
      clear hi0
      have hR3 : Rk w6 w7.heap.size i0 W3 := ⟨hb0, hB0, hK⟩
      have hdb : w7.heap.size ≠ w6.heap.size := by omega
      have hR4 := hR3.set hdb 0
      have c0 := hb0.cell 0 rfl
      have f0 := hb0.frozen 0
      obtain ⟨W4, hW4⟩ : ∃ W4, W4 = W3.setCell ⟨w6.heap.size, 0, none⟩ (.int .i64 0) := ⟨_, rfl⟩
      rw [← hW4] at hR4
      have hdl : w7.heap.size < W4.heap.size := (Array.getElem?_eq_some_iff.1 hR4.dfr).1
      have hdw : w.heap.size ≤ w7.heap.size := by have := B7.size; omega
      have hd6 : w6.heap.size < w7.heap.size := by omega
      have hw64 : w6.heap.size < W4.heap.size := hR4.box.lt
      have HBn4 : W4.cell? ⟨Bn, 0, none⟩ = some (.slice so ss.length scap) := (hR4.bel.cell (p := ⟨Bn, 0, none⟩) (World.block_lt_of_cell? _ _ hBn)).trans hBn
      have hss4 := hss.below hR4.bel (Nat.le_refl _)
      have hat4 : ∀ v ∈ ss, v.At W4 (fun k => k < W4.heap.size ∧ ¬ k = w6.heap.size) := fun v hv => (hat v hv).blk (fun a e => hR4.bel.block _ ((hat v hv).2.1 a e).2) (fun k hk => ⟨by omega, by omega⟩)
      clear hR3 hb0 hB0 hK hz hzW hBn7 hss7 hs7 bO h76
      generalize w7.heap.size = db at *
      go_wp2_with fail
      rw [← hW4]
      clear hW4 c0 f0
      refine (wpIn_wide (n := 6)).1 ?_
      refine range_zone (I := fun z pre X => Rk w6 db ((pre.length : Nat) : Int) X) (Ix := fun _ _ _ _ => False) (Ex := fun k => k = w6.heap.size) (Fp := fun _ k => k = w6.heap.size) (xs := j2 (R.map Prod.fst)) (encs := fun p : Cx × Nat => #[p.1.val, .int .i64 p.2]) hro (by omega) (gf := 29) (lb := #[.pointer (some ⟨Bn, 0, none⟩)]) rfl trivial (enters_of Try.func29 (by kernel_rfl) rfl)
        (each1_zone (6 - 1) (by omega) _ _ (fun _ _ _ _ h => h) Bn so ss scap R W4 HBn4 (fun k hk => by omega) hss4 hat4 (fun v hv => hris _ (List.mem_map_of_mem hv)) (by omega) hR1 hR2 (by omega)) (fun k hk => by omega) (fun _ _ _ _ h => h) (fun _ => rfl) ?jI ?jIx ?jF ?j0 ?jround ?jdone ?jstop
      case jI => exact fun z pre X Y h hz => h.zoned hz hw64 hdl
      case jIx => exact fun _ _ _ _ _ h _ => h
      case jF => exact fun z pre X h k hk => ⟨.inl hk, by rw [show k = w6.heap.size from hk]; exact h.box.lt⟩
      case j0 =>
        intro V hV _
        exact hR4.more hV
      case jstop => exact fun _ _ _ _ _ _ _ h _ => h.elim
      case jround =>
        rintro l2 z pre ⟨x, m⟩ V K hz hzV hi hpre hK
        obtain ⟨hpl, hNx, hCx⟩ := HAT.out pre x m hpre
        have HNX : Hid (N[pre.length]? = some x) := hNx
        have NES := cellNe_self x
        obtain ⟨⟨xa, xp, xr, xc⟩, ⟨xt, xd, xl, xk, xn, xs⟩⟩ := x
        simp only [Cx.val, Cx.a] at NES ⊢
        gi_wp2
        refine hK _ _ ((Below.refl _ _).alloc (Nat.le_refl _) _) ?_
        intro W2 hz2 hsz2
        clear hK K
        rw [World.size_alloc] at hsz2
        have hVW : Zoned W4.heap.size z V W2 := ((Zoned.refl _ _ _).alloc _).trans (hz2.wide (Nat.le_refl _) hz)
        have bx : Blk W2 V.heap.size [.string xa, .string xp, .int .i64 xr, .string xc, .int .i64 xt, .bool xd, .int .i64 xl, .int .i64 xk, .int .i64 xn, .string xs] 39 := (Blk.new V [.string xa, .string xp, .int .i64 xr, .string xc, .int .i64 xt, .bool xd, .int .i64 xl, .int .i64 xk, .int .i64 xn, .string xs] _).carry (hz2.block _ (by simp) (.inr (by omega)))
        have bk : Rk w6 db ((pre.length : Nat) : Int) W2 := hi.zoned hVW hw64 hdl
        have b1 := bk.box
        have b2 := bk.bel
        have FW2 := F6.out.below b2 (Nat.le_refl _)
        clear hz2 hi hVW hpre
        have hpz : ((pre.length : Nat) : Int) < (N.length : Int) := by omega
        have hpn : ¬ (N.length : Int) ≤ ((pre.length : Nat) : Int) := by omega
        obtain ⟨nb, nof, rfl, tx⟩ := FW2.n pre.length _ HNX.out
        obtain ⟨kb, kof, rfl, hk0⟩ := FW2.k pre.length _ hCx
        have p0 := fun q : Cl W2.heap.size W2 => (tx.below q.h tx.lt).c0
        have p1 := fun q : Cl W2.heap.size W2 => (tx.below q.h tx.lt).c1
        have p2 := fun q : Cl W2.heap.size W2 => (tx.below q.h tx.lt).c2
        have p3 := fun q : Cl W2.heap.size W2 => (tx.below q.h tx.lt).c3
        have p4 := fun q : Cl W2.heap.size W2 => (tx.below q.h tx.lt).c4
        have p5 := fun q : Cl W2.heap.size W2 => (tx.below q.h tx.lt).c5
        have p6 := fun q : Cl W2.heap.size W2 => (tx.below q.h tx.lt).c6
        have p7 := fun q : Cl W2.heap.size W2 => (tx.below q.h tx.lt).c7
        have p8 := fun q : Cl W2.heap.size W2 => (tx.below q.h tx.lt).c8
        have p9 := fun q : Cl W2.heap.size W2 => (tx.below q.h tx.lt).c9
        have x0 := fun q : Cl W2.heap.size W2 => (bx.carry (q.h.block _ bx.lt)).cell 0 rfl
        have x1 := fun q : Cl W2.heap.size W2 => (bx.carry (q.h.block _ bx.lt)).cell 1 rfl
        have x2 := fun q : Cl W2.heap.size W2 => (bx.carry (q.h.block _ bx.lt)).cell 2 rfl
        have x3 := fun q : Cl W2.heap.size W2 => (bx.carry (q.h.block _ bx.lt)).cell 3 rfl
        have x4 := fun q : Cl W2.heap.size W2 => (bx.carry (q.h.block _ bx.lt)).cell 4 rfl
        have x5 := fun q : Cl W2.heap.size W2 => (bx.carry (q.h.block _ bx.lt)).cell 5 rfl
        have x6 := fun q : Cl W2.heap.size W2 => (bx.carry (q.h.block _ bx.lt)).cell 6 rfl
        have x7 := fun q : Cl W2.heap.size W2 => (bx.carry (q.h.block _ bx.lt)).cell 7 rfl
        have x8 := fun q : Cl W2.heap.size W2 => (bx.carry (q.h.block _ bx.lt)).cell 8 rfl
        have x9 := fun q : Cl W2.heap.size W2 => (bx.carry (q.h.block _ bx.lt)).cell 9 rfl
        have qk := fun q : Cl W2.heap.size W2 => (q.h.cell (p := ⟨kb, kof + pre.length, none⟩) (World.block_lt_of_cell? _ _ hk0)).trans hk0
        have qi := fun q : Cl W2.heap.size W2 => (b1.carry (q.h.block _ b1.lt)).cell 0 rfl
        have qa := fun q : Cl W2.heap.size W2 => (FW2.a.carry (q.h.block _ FW2.a.lt)).cell 0 rfl
        have qc := fun q : Cl W2.heap.size W2 => (FW2.c.carry (q.h.block _ FW2.c.lt)).cell 0 rfl
        simp only [hcl] at qc
        simp only at p0 p1 p2 p3 p4 p5 p6 p7 p8 p9
        have HE : Hid (∀ U, Below W2.heap.size W2 U → U.cell? ⟨w6.heap.size, 0, none⟩ = some (.int .i64 ((pre.length : Nat) : Int)) ∧ U.frozen? ⟨w6.heap.size, 0, none⟩ = false ∧ SparedF (fun _ k => k = w6.heap.size) W2 (U.setCell ⟨w6.heap.size, 0, none⟩ (.int .i64 (((pre.length : Nat) : Int) + 1))) ∧ Rk w6 db (((pre ++ [((⟨⟨xa, xp, xr, xc⟩, ⟨xt, xd, xl, xk, xn, xs⟩⟩ : Cx), m)]).length : Nat) : Int) (U.setCell ⟨w6.heap.size, 0, none⟩ (.int .i64 (((pre.length : Nat) : Int) + 1)))) := fun U hU => by
          have c1 := b1.carry (hU.block _ b1.lt)
          refine ⟨c1.cell 0 rfl, c1.frozen 0, (SparedF.of_below hU (Nat.le_refl _)).trans (SparedF.of_grown (grownBy_setCell' U w6.heap.size _) (fun k e => .inl (by cases e; rfl))) (fun _ _ h => h), ?_⟩
          have := (bk.more hU).set hdb (((pre.length : Nat) : Int) + 1)
          simpa using this
        haveI := Cl.inh W2.heap.size W2
        clear b1 b2 bk bx FW2 tx hk0 HNX hNx hCx hsz2
        obtain ⟨pl, hpl2⟩ : ∃ pl, pl = pre.length := ⟨_, rfl⟩
        rw [← hpl2] at HE p0 p1 p2 p3 p4 p5 p6 p7 p8 p9 qk qi hpz hpn hpl
        have hplz : (pl : Int) ≤ 110000 := by omega
        clear hpl2
        gi_wp2
        refine wpInR_region_cl W2.heap.size (by kernel_rfl) (by kernel_rfl) (by kernel_rfl) ?_
        repeat (first | quiet_step_in (fail) | (refine wpQuietIn_step (fun _ _ _ _ => trivial) (fun K hK => ?_); go_simp; refine hK _ ?_; clear hK K))
        refine wpQuietIn_nil ?_
        rintro w0 ⟨q, rfl⟩
        obtain ⟨e1, e2, e3, e4⟩ := HE.out _ q.h
        have HE9 : Hid _ := (⟨e3, e4⟩ : _ ∧ _)
        clear HE e3 e4 qk qi qa qc p0 p1 p2 p3 p4 p5 p6 p7 p8 p9 x0 x1 x2 x3 x4 x5 x6 x7 x8 x9
        generalize q.u = U at *
        gi_wp2
        exact HE9.out
      case jdone =>
        intro z W5 hz hzW hi hK5
        have hjl : (j2 (R.map Prod.fst)).length = N.length := by rw [HJ2.out, List.length_map]
        rw [hjl] at hi
        have hF5 := F6.out.below hi.bel (Nat.le_refl _)
        have B8 := B7.trans (hi.bel.mono B7.size)
        have HD2 : Hid (W5.heap[W4.heap.size]? = some (.deferred (some []))) := hK5
        clear hK5 hz hat4 hss4 HBn4 hR4 hjl hR1 hR2 hRl hris hlen hss hat hsl hBn hBnl hB6
        have bB := hi.box.cell 0 rfl
        have bA5 := hF5.a.cell 0 rfl
        have HI5 : Hid (Rk w6 db ((N.length : Nat) : Int) W5) := hi
        have HF5 : Hid (Fx w.heap.size b5 stop na nc N ka kc (cnts vs N) W5) := hF5
        have hb4 : w.heap.size + 1 < w6.heap.size := F6.out.r.lt
        clear hi hF5 F6 HAT HJ2
        go_wp2_with fail
        have HP : Hid (∀ u, u.cell? ⟨w6.heap.size, 0, none⟩ = some (.int .i64 ((N.length : Nat) : Int)) → u.cell? ⟨b5, 0, none⟩ = some (.slice na N.length nc) → ∃ p : Bx2 w6.heap.size b5 (.int .i64 ((N.length : Nat) : Int)) (.slice na N.length nc), u = p.u) := fun u h g => ⟨⟨u, h, g⟩, rfl⟩
        have q0 : ∀ q : Bx2 w6.heap.size b5 (.int .i64 ((N.length : Nat) : Int)) (.slice na N.length nc), q.u.cell? ⟨w6.heap.size, 0, none⟩ = some (.int .i64 ((N.length : Nat) : Int)) := fun q => q.h
        have q1 : ∀ q : Bx2 w6.heap.size b5 (.int .i64 ((N.length : Nat) : Int)) (.slice na N.length nc), q.u.cell? ⟨b5, 0, none⟩ = some (.slice na N.length nc) := fun q => q.g
        haveI : Nonempty (Bx2 w6.heap.size b5 (.int .i64 ((N.length : Nat) : Int)) (.slice na N.length nc)) := ⟨⟨W5, bB, bA5⟩⟩
        refine wp_region_C (fun u => ∃ p : Bx2 w6.heap.size b5 (.int .i64 ((N.length : Nat) : Int)) (.slice na N.length nc), u = p.u) 13 _ (by kernel_rfl) ?reg (fun _ _ h => h)
        refine anyC_pure 0 rfl (by kernel_rfl) (by kernel_rfl) (by kernel_rfl) (HP.out _ bB bA5) (fun K hK => ?_)
        go_simp
        refine hK _ ?_
        clear hK K
        refine anyC_pure 1 rfl (by kernel_rfl) (by kernel_rfl) (by kernel_rfl) (HP.out _ bB bA5) (fun K hK => ?_)
        go_simp
        refine hK _ ?_
        clear hK K
        refine anyC_pure 2 rfl (by kernel_rfl) (by kernel_rfl) (by kernel_rfl) (HP.out _ bB bA5) (fun K hK => ?_)
        go_simp
        refine hK _ ?_
        clear hK K
        refine anyC_pure 3 rfl (by kernel_rfl) (by kernel_rfl) (by kernel_rfl) (HP.out _ bB bA5) (fun K hK => ?_)
        go_simp
        refine hK _ ?_
        clear hK K
        refine anyC_pure 4 rfl (by kernel_rfl) (by kernel_rfl) (by kernel_rfl) (HP.out _ bB bA5) (fun K hK => ?_)
        go_simp
        refine hK _ ?_
        clear hK K
        refine anyC_pure 5 rfl (by kernel_rfl) (by kernel_rfl) (by kernel_rfl) (HP.out _ bB bA5) (fun K hK => ?_)
        go_simp
        refine hK _ ?_
        clear hK K
        refine anyC_pure 7 rfl (by kernel_rfl) (by kernel_rfl) (by kernel_rfl) (HP.out _ bB bA5) (fun K hK => ?_)
        go_simp
        refine hK _ ?_
        clear hK K
        refine anyC_loud 6 (by kernel_rfl) ?_
        refine lou_of rfl (fun K hK => ?_)
        go_simp
        refine (AL1.out _ (B8.trans ((Below.refl _ _).drew.mono B8.size))).mono ?_
        rintro e u1 ⟨v1, rfl, ho1, hu1⟩
        have hu1' : Below W5.heap.size W5 u1 := (Below.refl _ _).drew.trans hu1
        obtain ⟨a1, c1, rfl⟩ := ownsM_shape ho1
        have sA1 := (owns_see ho1).1
        have hJ1 := HI5.out.more hu1'
        have hF1 := HF5.out.below hu1' (Nat.le_refl _)
        have B9 := B8.trans (hu1'.mono B8.size)
        have HC1 : Hid (∃ p : Bx2 w6.heap.size b5 (.int .i64 ((N.length : Nat) : Int)) (.slice na N.length nc), u1 = p.u) := HP.out _ (hJ1.box.cell 0 rfl) (hF1.a.cell 0 rfl)
        refine hK _ _ ⟨fun _ => HC1.out, ?_⟩
        clear hK K
        have LK : Hid (∀ u, Below u1.heap.size u1 u → Calls Try.prog 14 #[.slice a1 N.length c1, .slice na N.length nc] u fun e w' => e = .returned (.bool true) ∧ Below u.heap.size u w') := fun u hu => likeX_same a1 na N c1 nc u (sA1.below hu (Nat.le_refl _)) (hF1.n.below hu (Nat.le_refl _)) (by omega)
        have HD3 : Hid (u1.heap[W4.heap.size]? = some (.deferred (some []))) := (hu1'.block _ (Array.getElem?_eq_some_iff.1 HD2.out).1).trans HD2.out
        clear ho1 hu1 hu1' sA1 HD2
        refine anyC_loud 8 (by kernel_rfl) ?_
        refine lou_of rfl (fun K hK => ?_)
        go_simp
        refine (LK.out _ (Below.refl _ _)).mono ?_
        rintro e u2 ⟨rfl, hu2⟩
        have hu2' : Below u1.heap.size u1 u2 := hu2
        have hJ2 := hJ1.more hu2'
        have hF2 := hF1.below hu2' (Nat.le_refl _)
        have B10 := B9.trans (hu2'.mono B9.size)
        have HD4 : Hid (u2.heap[W4.heap.size]? = some (.deferred (some []))) := (hu2'.block _ (Array.getElem?_eq_some_iff.1 HD3.out).1).trans HD3.out
        have HC2 : Hid (∃ p : Bx2 w6.heap.size b5 (.int .i64 ((N.length : Nat) : Int)) (.slice na N.length nc), u2 = p.u) := HP.out _ (hJ2.box.cell 0 rfl) (hF2.a.cell 0 rfl)
        refine hK _ _ ⟨fun _ => HC2.out, ?_⟩
        clear hK K hu2 hu2' HD3 HC1 LK hJ1 hF1
        refine anyC_pure 9 rfl (by kernel_rfl) (by kernel_rfl) (by kernel_rfl) (HC2.out) (fun K hK => ?_)
        go_simp
        refine hK _ ?_
        clear hK K
        refine anyC_pure 10 rfl (by kernel_rfl) (by kernel_rfl) (by kernel_rfl) (HC2.out) (fun K hK => ?_)
        go_simp
        refine hK _ ?_
        clear hK K
        refine anyC_loud 11 (by kernel_rfl) ?_
        refine lou_of rfl (fun K hK => ?_)
        go_simp
        refine (LV.out _).mono ?_
        rintro e u3 ⟨rfl, hu3⟩
        have hu3' : Below u2.heap.size u2 u3 := hu3
        have hJ3 := hJ2.more hu3'
        have hF3 := hF2.below hu3' (Nat.le_refl _)
        have B11 := B10.trans (hu3'.mono B10.size)
        have HD5 : Hid (u3.heap[W4.heap.size]? = some (.deferred (some []))) := (hu3'.block _ (Array.getElem?_eq_some_iff.1 HD4.out).1).trans HD4.out
        have HC3 : Hid (∃ p : Bx2 w6.heap.size b5 (.int .i64 ((N.length : Nat) : Int)) (.slice na N.length nc), u3 = p.u) := HP.out _ (hJ3.box.cell 0 rfl) (hF3.a.cell 0 rfl)
        refine hK _ _ ⟨fun _ => HC3.out, ?_⟩
        clear hK K hu3 hu3' HD4 HC2 hJ2 hF2
        refine anyC_pure 12 rfl (by kernel_rfl) (by kernel_rfl) (by kernel_rfl) (HC3.out) (fun K hK => ?_)
        go_simp
        refine hK _ ?_
        clear hK K
        have r1 := hF3.r.cell 0 rfl
        have r2 := hF3.r.frozen 0
        have g3 := grownBy_setCell' u3 (w.heap.size + 1) (.bool true)
        have HX : Hid ((u3.setCell ⟨w.heap.size + 1, 0, none⟩ (.bool true)).heap[W4.heap.size]? = some (.deferred (some [])) ∧ ((u3.setCell ⟨w.heap.size + 1, 0, none⟩ (.bool true)).putObj W4.heap.size (.deferred none)).heap[db]? = some (.deferred (some [])) ∧ (((u3.setCell ⟨w.heap.size + 1, 0, none⟩ (.bool true)).putObj W4.heap.size (.deferred none)).putObj db (.deferred none)).cell? ⟨w.heap.size + 1, 0, none⟩ = some (.bool true) ∧ Below w.heap.size w (((u3.setCell ⟨w.heap.size + 1, 0, none⟩ (.bool true)).putObj W4.heap.size (.deferred none)).putObj db (.deferred none))) := by
          have h1 : (u3.setCell ⟨w.heap.size + 1, 0, none⟩ (.bool true)).heap[W4.heap.size]? = some (.deferred (some [])) := (g3.block _ (Array.getElem?_eq_some_iff.1 HD5.out).1 (by simp; omega)).trans HD5.out
          have h2 : (u3.setCell ⟨w.heap.size + 1, 0, none⟩ (.bool true)).heap[db]? = some (.deferred (some [])) := (g3.block _ (Array.getElem?_eq_some_iff.1 hJ3.dfr).1 (by simp; omega)).trans hJ3.dfr
          have b5' : Blk (u3.setCell ⟨w.heap.size + 1, 0, none⟩ (.bool true)) (w.heap.size + 1) [.bool true] 4 := hF3.r.setTo 0 _ _ rfl
          have b6' : Blk ((u3.setCell ⟨w.heap.size + 1, 0, none⟩ (.bool true)).putObj W4.heap.size (.deferred none)) (w.heap.size + 1) [.bool true] 4 := b5'.carry (World.putObj_heap_other (by omega))
          have b7' : Blk (((u3.setCell ⟨w.heap.size + 1, 0, none⟩ (.bool true)).putObj W4.heap.size (.deferred none)).putObj db (.deferred none)) (w.heap.size + 1) [.bool true] 4 := b6'.carry (World.putObj_heap_other (by omega))
          have B12 : Below w.heap.size w (u3.setCell ⟨w.heap.size + 1, 0, none⟩ (.bool true)) := B11.trans ((Below.refl _ _).setCell (p := ⟨w.heap.size + 1, 0, none⟩) (by simp) _)
          have B13 := B12.trans ((zoned_put W4.heap.size (W4.heap.size + 1) _ W4.heap.size (.deferred none) (Nat.le_refl _) (by omega)).below (by omega) B12.size)
          have B14 := B13.trans ((zoned_put db (db + 1) _ db (.deferred none) (Nat.le_refl _) (by omega)).below (by omega) B13.size)
          exact ⟨h1, (World.putObj_heap_other (by omega)).trans h2, b7'.cell 0 rfl, B14⟩
        clear g3 hF3 hJ3 B8 B9 B10 B11 HD5
        refine anyC_loud 13 (by kernel_rfl) ?_
        refine lou_of rfl (fun K hK => ?_)
        go_simp
        refine hK _ _ ⟨fun h => absurd rfl h, ?_⟩
        clear hK K
        refine anyC_done (by kernel_rfl) ?_
        clear r1 r2 q0 q1 HP
        go_wp2_with fail
        refine ⟨by simp, .inl ⟨_, _, rfl, run_takeDeferred HX.out.1, ?_⟩⟩
        refine ⟨by simp, .inl ⟨_, _, rfl, run_takeDeferred HX.out.2.1, ?_⟩⟩
        exact ⟨_, res_bool rfl _ _ (w.heap.size + 1) true rfl HX.out.2.2.1 Try.underlying4, rfl, HX.out.2.2.2⟩
    case stop =>
      rintro z c pre W3 hz hzW hpre ⟨⟨i0, hb0⟩, hB0, rfl⟩ hK
      clear hpre pre
      refine wpIn_wide.2 ?_
      have hR3 : Rk w6 w7.heap.size i0 W3 := ⟨hb0, hB0, hK⟩
      have hdb : w7.heap.size ≠ w6.heap.size := by omega
      have hR4 := hR3.set hdb 0
      have c0 := hb0.cell 0 rfl
      have f0 := hb0.frozen 0
      obtain ⟨W4, hW4⟩ : ∃ W4, W4 = W3.setCell ⟨w6.heap.size, 0, none⟩ (.int .i64 0) := ⟨_, rfl⟩
      rw [← hW4] at hR4
      have hdl : w7.heap.size < W4.heap.size := (Array.getElem?_eq_some_iff.1 hR4.dfr).1
      have hdw : w.heap.size ≤ w7.heap.size := by have := B7.size; omega
      have hd6 : w6.heap.size < w7.heap.size := by omega
      have hw64 : w6.heap.size < W4.heap.size := hR4.box.lt
      have HBn4 : W4.cell? ⟨Bn, 0, none⟩ = some (.slice so ss.length scap) := (hR4.bel.cell (p := ⟨Bn, 0, none⟩) (World.block_lt_of_cell? _ _ hBn)).trans hBn
      have hss4 := hss.below hR4.bel (Nat.le_refl _)
      have hat4 : ∀ v ∈ ss, v.At W4 (fun k => k < W4.heap.size ∧ ¬ k = w6.heap.size) := fun v hv => (hat v hv).blk (fun a e => hR4.bel.block _ ((hat v hv).2.1 a e).2) (fun k hk => ⟨by omega, by omega⟩)
      clear hR3 hb0 hB0 hK hz hzW hBn7 hss7 hs7 bO h76
      generalize w7.heap.size = db at *
      go_wp2_with fail
      rw [← hW4]
      clear hW4 c0 f0
      refine (wpIn_wide (n := 6)).1 ?_
      refine range_zone (I := fun z pre X => Rk w6 db ((pre.length : Nat) : Int) X) (Ix := fun _ _ _ _ => False) (Ex := fun k => k = w6.heap.size) (Fp := fun _ k => k = w6.heap.size) (xs := j2 (R.map Prod.fst)) (encs := fun p : Cx × Nat => #[p.1.val, .int .i64 p.2]) hro (by omega) (gf := 29) (lb := #[.pointer (some ⟨Bn, 0, none⟩)]) rfl trivial (enters_of Try.func29 (by kernel_rfl) rfl)
        (each1_zone (6 - 1) (by omega) _ _ (fun _ _ _ _ h => h) Bn so ss scap R W4 HBn4 (fun k hk => by omega) hss4 hat4 (fun v hv => hris _ (List.mem_map_of_mem hv)) (by omega) hR1 hR2 (by omega)) (fun k hk => by omega) (fun _ _ _ _ h => h) (fun _ => rfl) ?kI ?kIx ?kF ?k0 ?kround ?kdone ?kstop
      case kI => exact fun z pre X Y h hz => h.zoned hz hw64 hdl
      case kIx => exact fun _ _ _ _ _ h _ => h
      case kF => exact fun z pre X h k hk => ⟨.inl hk, by rw [show k = w6.heap.size from hk]; exact h.box.lt⟩
      case k0 =>
        intro V hV _
        exact hR4.more hV
      case kstop => exact fun _ _ _ _ _ _ _ h _ => h.elim
      case kround =>
        rintro l2 z pre ⟨x, m⟩ V K hz hzV hi hpre hK
        obtain ⟨hpl, hNx, hCx⟩ := HAT.out pre x m hpre
        have HNX : Hid (N[pre.length]? = some x) := hNx
        have NES := cellNe_self x
        obtain ⟨⟨xa, xp, xr, xc⟩, ⟨xt, xd, xl, xk, xn, xs⟩⟩ := x
        simp only [Cx.val, Cx.a] at NES ⊢
        gi_wp2
        refine hK _ _ ((Below.refl _ _).alloc (Nat.le_refl _) _) ?_
        intro W2 hz2 hsz2
        clear hK K
        rw [World.size_alloc] at hsz2
        have hVW : Zoned W4.heap.size z V W2 := ((Zoned.refl _ _ _).alloc _).trans (hz2.wide (Nat.le_refl _) hz)
        have bx : Blk W2 V.heap.size [.string xa, .string xp, .int .i64 xr, .string xc, .int .i64 xt, .bool xd, .int .i64 xl, .int .i64 xk, .int .i64 xn, .string xs] 39 := (Blk.new V [.string xa, .string xp, .int .i64 xr, .string xc, .int .i64 xt, .bool xd, .int .i64 xl, .int .i64 xk, .int .i64 xn, .string xs] _).carry (hz2.block _ (by simp) (.inr (by omega)))
        have bk : Rk w6 db ((pre.length : Nat) : Int) W2 := hi.zoned hVW hw64 hdl
        have b1 := bk.box
        have b2 := bk.bel
        have FW2 := F6.out.below b2 (Nat.le_refl _)
        clear hz2 hi hVW hpre
        have hpz : ((pre.length : Nat) : Int) < (N.length : Int) := by omega
        have hpn : ¬ (N.length : Int) ≤ ((pre.length : Nat) : Int) := by omega
        obtain ⟨nb, nof, rfl, tx⟩ := FW2.n pre.length _ HNX.out
        obtain ⟨kb, kof, rfl, hk0⟩ := FW2.k pre.length _ hCx
        have p0 := fun q : Cl W2.heap.size W2 => (tx.below q.h tx.lt).c0
        have p1 := fun q : Cl W2.heap.size W2 => (tx.below q.h tx.lt).c1
        have p2 := fun q : Cl W2.heap.size W2 => (tx.below q.h tx.lt).c2
        have p3 := fun q : Cl W2.heap.size W2 => (tx.below q.h tx.lt).c3
        have p4 := fun q : Cl W2.heap.size W2 => (tx.below q.h tx.lt).c4
        have p5 := fun q : Cl W2.heap.size W2 => (tx.below q.h tx.lt).c5
        have p6 := fun q : Cl W2.heap.size W2 => (tx.below q.h tx.lt).c6
        have p7 := fun q : Cl W2.heap.size W2 => (tx.below q.h tx.lt).c7
        have p8 := fun q : Cl W2.heap.size W2 => (tx.below q.h tx.lt).c8
        have p9 := fun q : Cl W2.heap.size W2 => (tx.below q.h tx.lt).c9
        have x0 := fun q : Cl W2.heap.size W2 => (bx.carry (q.h.block _ bx.lt)).cell 0 rfl
        have x1 := fun q : Cl W2.heap.size W2 => (bx.carry (q.h.block _ bx.lt)).cell 1 rfl
        have x2 := fun q : Cl W2.heap.size W2 => (bx.carry (q.h.block _ bx.lt)).cell 2 rfl
        have x3 := fun q : Cl W2.heap.size W2 => (bx.carry (q.h.block _ bx.lt)).cell 3 rfl
        have x4 := fun q : Cl W2.heap.size W2 => (bx.carry (q.h.block _ bx.lt)).cell 4 rfl
        have x5 := fun q : Cl W2.heap.size W2 => (bx.carry (q.h.block _ bx.lt)).cell 5 rfl
        have x6 := fun q : Cl W2.heap.size W2 => (bx.carry (q.h.block _ bx.lt)).cell 6 rfl
        have x7 := fun q : Cl W2.heap.size W2 => (bx.carry (q.h.block _ bx.lt)).cell 7 rfl
        have x8 := fun q : Cl W2.heap.size W2 => (bx.carry (q.h.block _ bx.lt)).cell 8 rfl
        have x9 := fun q : Cl W2.heap.size W2 => (bx.carry (q.h.block _ bx.lt)).cell 9 rfl
        have qk := fun q : Cl W2.heap.size W2 => (q.h.cell (p := ⟨kb, kof + pre.length, none⟩) (World.block_lt_of_cell? _ _ hk0)).trans hk0
        have qi := fun q : Cl W2.heap.size W2 => (b1.carry (q.h.block _ b1.lt)).cell 0 rfl
        have qa := fun q : Cl W2.heap.size W2 => (FW2.a.carry (q.h.block _ FW2.a.lt)).cell 0 rfl
        have qc := fun q : Cl W2.heap.size W2 => (FW2.c.carry (q.h.block _ FW2.c.lt)).cell 0 rfl
        simp only [hcl] at qc
        simp only at p0 p1 p2 p3 p4 p5 p6 p7 p8 p9
        have HE : Hid (∀ U, Below W2.heap.size W2 U → U.cell? ⟨w6.heap.size, 0, none⟩ = some (.int .i64 ((pre.length : Nat) : Int)) ∧ U.frozen? ⟨w6.heap.size, 0, none⟩ = false ∧ SparedF (fun _ k => k = w6.heap.size) W2 (U.setCell ⟨w6.heap.size, 0, none⟩ (.int .i64 (((pre.length : Nat) : Int) + 1))) ∧ Rk w6 db (((pre ++ [((⟨⟨xa, xp, xr, xc⟩, ⟨xt, xd, xl, xk, xn, xs⟩⟩ : Cx), m)]).length : Nat) : Int) (U.setCell ⟨w6.heap.size, 0, none⟩ (.int .i64 (((pre.length : Nat) : Int) + 1)))) := fun U hU => by
          have c1 := b1.carry (hU.block _ b1.lt)
          refine ⟨c1.cell 0 rfl, c1.frozen 0, (SparedF.of_below hU (Nat.le_refl _)).trans (SparedF.of_grown (grownBy_setCell' U w6.heap.size _) (fun k e => .inl (by cases e; rfl))) (fun _ _ h => h), ?_⟩
          have := (bk.more hU).set hdb (((pre.length : Nat) : Int) + 1)
          simpa using this
        haveI := Cl.inh W2.heap.size W2
        clear b1 b2 bk bx FW2 tx hk0 HNX hNx hCx hsz2
        obtain ⟨pl, hpl2⟩ : ∃ pl, pl = pre.length := ⟨_, rfl⟩
        rw [← hpl2] at HE p0 p1 p2 p3 p4 p5 p6 p7 p8 p9 qk qi hpz hpn hpl
        have hplz : (pl : Int) ≤ 110000 := by omega
        clear hpl2
        gi_wp2
        refine wpInR_region_cl W2.heap.size (by kernel_rfl) (by kernel_rfl) (by kernel_rfl) ?_
        repeat (first | quiet_step_in (fail) | (refine wpQuietIn_step (fun _ _ _ _ => trivial) (fun K hK => ?_); go_simp; refine hK _ ?_; clear hK K))
        refine wpQuietIn_nil ?_
        rintro w0 ⟨q, rfl⟩
        obtain ⟨e1, e2, e3, e4⟩ := HE.out _ q.h
        have HE9 : Hid _ := (⟨e3, e4⟩ : _ ∧ _)
        clear HE e3 e4 qk qi qa qc p0 p1 p2 p3 p4 p5 p6 p7 p8 p9 x0 x1 x2 x3 x4 x5 x6 x7 x8 x9
        generalize q.u = U at *
        gi_wp2
        exact HE9.out
      case kdone =>
        intro z W5 hz hzW hi hK5
        have hjl : (j2 (R.map Prod.fst)).length = N.length := by rw [HJ2.out, List.length_map]
        rw [hjl] at hi
        have hF5 := F6.out.below hi.bel (Nat.le_refl _)
        have B8 := B7.trans (hi.bel.mono B7.size)
        have HD2 : Hid (W5.heap[W4.heap.size]? = some (.deferred (some []))) := hK5
        clear hK5 hz hat4 hss4 HBn4 hR4 hjl hR1 hR2 hRl hris hlen hss hat hsl hBn hBnl hB6
        have bB := hi.box.cell 0 rfl
        have bA5 := hF5.a.cell 0 rfl
        have HI5 : Hid (Rk w6 db ((N.length : Nat) : Int) W5) := hi
        have HF5 : Hid (Fx w.heap.size b5 stop na nc N ka kc (cnts vs N) W5) := hF5
        have hb4 : w.heap.size + 1 < w6.heap.size := F6.out.r.lt
        clear hi hF5 F6 HAT HJ2
        go_wp2_with fail
        have HP : Hid (∀ u, u.cell? ⟨w6.heap.size, 0, none⟩ = some (.int .i64 ((N.length : Nat) : Int)) → u.cell? ⟨b5, 0, none⟩ = some (.slice na N.length nc) → ∃ p : Bx2 w6.heap.size b5 (.int .i64 ((N.length : Nat) : Int)) (.slice na N.length nc), u = p.u) := fun u h g => ⟨⟨u, h, g⟩, rfl⟩
        have q0 : ∀ q : Bx2 w6.heap.size b5 (.int .i64 ((N.length : Nat) : Int)) (.slice na N.length nc), q.u.cell? ⟨w6.heap.size, 0, none⟩ = some (.int .i64 ((N.length : Nat) : Int)) := fun q => q.h
        have q1 : ∀ q : Bx2 w6.heap.size b5 (.int .i64 ((N.length : Nat) : Int)) (.slice na N.length nc), q.u.cell? ⟨b5, 0, none⟩ = some (.slice na N.length nc) := fun q => q.g
        haveI : Nonempty (Bx2 w6.heap.size b5 (.int .i64 ((N.length : Nat) : Int)) (.slice na N.length nc)) := ⟨⟨W5, bB, bA5⟩⟩
        refine wp_region_C (fun u => ∃ p : Bx2 w6.heap.size b5 (.int .i64 ((N.length : Nat) : Int)) (.slice na N.length nc), u = p.u) 13 _ (by kernel_rfl) ?reg2 (fun _ _ h => h)
        refine anyC_pure 0 rfl (by kernel_rfl) (by kernel_rfl) (by kernel_rfl) (HP.out _ bB bA5) (fun K hK => ?_)
        go_simp
        refine hK _ ?_
        clear hK K
        refine anyC_pure 1 rfl (by kernel_rfl) (by kernel_rfl) (by kernel_rfl) (HP.out _ bB bA5) (fun K hK => ?_)
        go_simp
        refine hK _ ?_
        clear hK K
        refine anyC_pure 2 rfl (by kernel_rfl) (by kernel_rfl) (by kernel_rfl) (HP.out _ bB bA5) (fun K hK => ?_)
        go_simp
        refine hK _ ?_
        clear hK K
        refine anyC_pure 3 rfl (by kernel_rfl) (by kernel_rfl) (by kernel_rfl) (HP.out _ bB bA5) (fun K hK => ?_)
        go_simp
        refine hK _ ?_
        clear hK K
        refine anyC_pure 4 rfl (by kernel_rfl) (by kernel_rfl) (by kernel_rfl) (HP.out _ bB bA5) (fun K hK => ?_)
        go_simp
        refine hK _ ?_
        clear hK K
        refine anyC_pure 5 rfl (by kernel_rfl) (by kernel_rfl) (by kernel_rfl) (HP.out _ bB bA5) (fun K hK => ?_)
        go_simp
        refine hK _ ?_
        clear hK K
        refine anyC_pure 7 rfl (by kernel_rfl) (by kernel_rfl) (by kernel_rfl) (HP.out _ bB bA5) (fun K hK => ?_)
        go_simp
        refine hK _ ?_
        clear hK K
        refine anyC_loud 6 (by kernel_rfl) ?_
        refine lou_of rfl (fun K hK => ?_)
        go_simp
        refine (AL1.out _ (B8.trans ((Below.refl _ _).drew.mono B8.size))).mono ?_
        rintro e u1 ⟨v1, rfl, ho1, hu1⟩
        have hu1' : Below W5.heap.size W5 u1 := (Below.refl _ _).drew.trans hu1
        obtain ⟨a1, c1, rfl⟩ := ownsM_shape ho1
        have sA1 := (owns_see ho1).1
        have hJ1 := HI5.out.more hu1'
        have hF1 := HF5.out.below hu1' (Nat.le_refl _)
        have B9 := B8.trans (hu1'.mono B8.size)
        have HC1 : Hid (∃ p : Bx2 w6.heap.size b5 (.int .i64 ((N.length : Nat) : Int)) (.slice na N.length nc), u1 = p.u) := HP.out _ (hJ1.box.cell 0 rfl) (hF1.a.cell 0 rfl)
        refine hK _ _ ⟨fun _ => HC1.out, ?_⟩
        clear hK K
        have LK : Hid (∀ u, Below u1.heap.size u1 u → Calls Try.prog 14 #[.slice a1 N.length c1, .slice na N.length nc] u fun e w' => e = .returned (.bool true) ∧ Below u.heap.size u w') := fun u hu => likeX_same a1 na N c1 nc u (sA1.below hu (Nat.le_refl _)) (hF1.n.below hu (Nat.le_refl _)) (by omega)
        have HD3 : Hid (u1.heap[W4.heap.size]? = some (.deferred (some []))) := (hu1'.block _ (Array.getElem?_eq_some_iff.1 HD2.out).1).trans HD2.out
        clear ho1 hu1 hu1' sA1 HD2
        refine anyC_loud 8 (by kernel_rfl) ?_
        refine lou_of rfl (fun K hK => ?_)
        go_simp
        refine (LK.out _ (Below.refl _ _)).mono ?_
        rintro e u2 ⟨rfl, hu2⟩
        have hu2' : Below u1.heap.size u1 u2 := hu2
        have hJ2 := hJ1.more hu2'
        have hF2 := hF1.below hu2' (Nat.le_refl _)
        have B10 := B9.trans (hu2'.mono B9.size)
        have HD4 : Hid (u2.heap[W4.heap.size]? = some (.deferred (some []))) := (hu2'.block _ (Array.getElem?_eq_some_iff.1 HD3.out).1).trans HD3.out
        have HC2 : Hid (∃ p : Bx2 w6.heap.size b5 (.int .i64 ((N.length : Nat) : Int)) (.slice na N.length nc), u2 = p.u) := HP.out _ (hJ2.box.cell 0 rfl) (hF2.a.cell 0 rfl)
        refine hK _ _ ⟨fun _ => HC2.out, ?_⟩
        clear hK K hu2 hu2' HD3 HC1 LK hJ1 hF1
        refine anyC_pure 9 rfl (by kernel_rfl) (by kernel_rfl) (by kernel_rfl) (HC2.out) (fun K hK => ?_)
        go_simp
        refine hK _ ?_
        clear hK K
        refine anyC_pure 10 rfl (by kernel_rfl) (by kernel_rfl) (by kernel_rfl) (HC2.out) (fun K hK => ?_)
        go_simp
        refine hK _ ?_
        clear hK K
        refine anyC_loud 11 (by kernel_rfl) ?_
        refine lou_of rfl (fun K hK => ?_)
        go_simp
        refine (LV.out _).mono ?_
        rintro e u3 ⟨rfl, hu3⟩
        have hu3' : Below u2.heap.size u2 u3 := hu3
        have hJ3 := hJ2.more hu3'
        have hF3 := hF2.below hu3' (Nat.le_refl _)
        have B11 := B10.trans (hu3'.mono B10.size)
        have HD5 : Hid (u3.heap[W4.heap.size]? = some (.deferred (some []))) := (hu3'.block _ (Array.getElem?_eq_some_iff.1 HD4.out).1).trans HD4.out
        have HC3 : Hid (∃ p : Bx2 w6.heap.size b5 (.int .i64 ((N.length : Nat) : Int)) (.slice na N.length nc), u3 = p.u) := HP.out _ (hJ3.box.cell 0 rfl) (hF3.a.cell 0 rfl)
        refine hK _ _ ⟨fun _ => HC3.out, ?_⟩
        clear hK K hu3 hu3' HD4 HC2 hJ2 hF2
        refine anyC_pure 12 rfl (by kernel_rfl) (by kernel_rfl) (by kernel_rfl) (HC3.out) (fun K hK => ?_)
        go_simp
        refine hK _ ?_
        clear hK K
        have r1 := hF3.r.cell 0 rfl
        have r2 := hF3.r.frozen 0
        have g3 := grownBy_setCell' u3 (w.heap.size + 1) (.bool true)
        have HX : Hid ((u3.setCell ⟨w.heap.size + 1, 0, none⟩ (.bool true)).heap[W4.heap.size]? = some (.deferred (some [])) ∧ ((u3.setCell ⟨w.heap.size + 1, 0, none⟩ (.bool true)).putObj W4.heap.size (.deferred none)).heap[db]? = some (.deferred (some [])) ∧ (((u3.setCell ⟨w.heap.size + 1, 0, none⟩ (.bool true)).putObj W4.heap.size (.deferred none)).putObj db (.deferred none)).cell? ⟨w.heap.size + 1, 0, none⟩ = some (.bool true) ∧ Below w.heap.size w (((u3.setCell ⟨w.heap.size + 1, 0, none⟩ (.bool true)).putObj W4.heap.size (.deferred none)).putObj db (.deferred none))) := by
          have h1 : (u3.setCell ⟨w.heap.size + 1, 0, none⟩ (.bool true)).heap[W4.heap.size]? = some (.deferred (some [])) := (g3.block _ (Array.getElem?_eq_some_iff.1 HD5.out).1 (by simp; omega)).trans HD5.out
          have h2 : (u3.setCell ⟨w.heap.size + 1, 0, none⟩ (.bool true)).heap[db]? = some (.deferred (some [])) := (g3.block _ (Array.getElem?_eq_some_iff.1 hJ3.dfr).1 (by simp; omega)).trans hJ3.dfr
          have b5' : Blk (u3.setCell ⟨w.heap.size + 1, 0, none⟩ (.bool true)) (w.heap.size + 1) [.bool true] 4 := hF3.r.setTo 0 _ _ rfl
          have b6' : Blk ((u3.setCell ⟨w.heap.size + 1, 0, none⟩ (.bool true)).putObj W4.heap.size (.deferred none)) (w.heap.size + 1) [.bool true] 4 := b5'.carry (World.putObj_heap_other (by omega))
          have b7' : Blk (((u3.setCell ⟨w.heap.size + 1, 0, none⟩ (.bool true)).putObj W4.heap.size (.deferred none)).putObj db (.deferred none)) (w.heap.size + 1) [.bool true] 4 := b6'.carry (World.putObj_heap_other (by omega))
          have B12 : Below w.heap.size w (u3.setCell ⟨w.heap.size + 1, 0, none⟩ (.bool true)) := B11.trans ((Below.refl _ _).setCell (p := ⟨w.heap.size + 1, 0, none⟩) (by simp) _)
          have B13 := B12.trans ((zoned_put W4.heap.size (W4.heap.size + 1) _ W4.heap.size (.deferred none) (Nat.le_refl _) (by omega)).below (by omega) B12.size)
          have B14 := B13.trans ((zoned_put db (db + 1) _ db (.deferred none) (Nat.le_refl _) (by omega)).below (by omega) B13.size)
          exact ⟨h1, (World.putObj_heap_other (by omega)).trans h2, b7'.cell 0 rfl, B14⟩
        clear g3 hF3 hJ3 B8 B9 B10 B11 HD5
        refine anyC_loud 13 (by kernel_rfl) ?_
        refine lou_of rfl (fun K hK => ?_)
        go_simp
        refine hK _ _ ⟨fun h => absurd rfl h, ?_⟩
        clear hK K
        refine anyC_done (by kernel_rfl) ?_
        clear r1 r2 q0 q1 HP
        go_wp2_with fail
        refine ⟨by simp, .inl ⟨_, _, rfl, run_takeDeferred HX.out.1, ?_⟩⟩
        refine ⟨by simp, .inl ⟨_, _, rfl, run_takeDeferred HX.out.2.1, ?_⟩⟩
        exact ⟨_, res_bool rfl _ _ (w.heap.size + 1) true rfl HX.out.2.2.1 Try.underlying4, rfl, HX.out.2.2.2⟩
end Go.Proofs.Ytdpglmgnbhpneaa.mergeEach

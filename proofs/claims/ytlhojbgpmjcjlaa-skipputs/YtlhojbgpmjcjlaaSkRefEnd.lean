/-
  CONTRACT: the document's Put (skerryref06), the cell being behind all others.
-/
import Derived.Test.YtlhojbgpmjcjlaaSkRefP
namespace Go.Proofs.Ytlhojbgpmjcjlaa
open Go.RowKit

attribute [local go_sem] Oper.pureAt Oper.pureUpon
attribute [local irreducible] wpQuiet
set_option maxRecDepth 100000 in
set_option maxHeartbeats 8000000 in
theorem refLPut_end (B : Nat) (w : World) (rb : Nat) (io : Option Addr) (li : List Int) (icap : Nat) (M : List (Cx × Nat)) (vL vH : Value) (c : Cx) (h : RfAt B w rb (.slice io li.length icap) M vL vH) (his : ISees w io li) (hBs : B ≤ w.heap.size) (hlen : M.length ≤ 200) (hl : li.length ≤ 1000) (h1 : c.k.t.size ≤ maxLen) (h2 : c.k.p.size ≤ maxLen) (h3 : c.k.c.size ≤ maxLen) (h4 : c.v.s.size ≤ maxLen) (hall : ∀ p ∈ M, kx p.1 c < 0) :
    Calls Try.prog 11 #[.pointer (some ⟨rb, 0, none⟩), c.val] w fun e w' => e = .returned (.int .i64 (if goodC c then 0 else 2)) ∧ ∃ vL' vH', RfAt B w' rb (.slice io li.length icap) (putG (lvls li) M c) vL' vH' ∧ Moved w w' (rft rb vL) (rft rb vL') ∧ ∀ g, vH'.ownBlock = some g → vH.ownBlock = some g ∨ w.heap.size ≤ g := by
  obtain ⟨i1, hi1, hy0, hy1, hy2⟩ := infoX infoCx
  obtain ⟨aL, cL, rfl, xL, tL⟩ := owns_xsees (l := M.map Prod.fst) (by rw [List.length_map]; exact h.L)
  obtain ⟨aH, cH, rfl, xH⟩ := owns_isees h.H
  simp only [List.length_map] at *
  have hcL := owns_cap h.L
  have hrbl := h.blk.lt
  have hcH := owns_cap h.H
  obtain ⟨w1, hw1⟩ : ∃ w1, w1 = w.alloc (.cells c.a 40) := ⟨_, rfl⟩
  have hb1 : Below w.heap.size w w1 := by rw [hw1]; exact (Below.refl _ _).alloc (Nat.le_refl _) _
  have tc : TenX w1 w.heap.size 0 c := by rw [hw1]; exact TenX.new w c _
  have HR : Hid (∀ u, Below w1.heap.size w1 u → RfAt B u rb (.slice io li.length icap) M (.slice aL M.length cL) (.slice aH M.length cH) ∧ ISees u io li ∧ XSees u aL (M.map Prod.fst) ∧ ISees u aH (M.map fun p => (p.2 : Int)) ∧ TenX u w.heap.size 0 c ∧ Below w.heap.size w u) := fun u hu => by
    have hwu := hb1.trans (hu.mono hb1.size)
    exact ⟨h.below hwu, his.below hwu (Nat.le_refl _), xL.below hwu (Nat.le_refl _), xH.below hwu (Nat.le_refl _), tc.below hu tc.lt, hwu⟩
  have GD : Hid (Calls Try.prog 32 #[c.val] w1 fun x w' => x = .returned (.bool (goodC c)) ∧ Below w1.heap.size w1 w') := refGoodX_any c w1 h1 h2 h3 h4
  have tc0 := tc
  rw [hw1] at tc0
  obtain ⟨k0, k1, k2, k3, k4, k5, k6, k7, k8, k9⟩ := tc0
  simp only [Nat.zero_add] at k0 k1 k2 k3 k4 k5 k6 k7 k8 k9
  have RC : Hid (∀ (a : Kb) (w : World), Calls Try.prog 21 #[a.v, c.k.v] w fun e w' => e = .returned (.int .i64 (kc a.ky c.k.ky)) ∧ Below w.heap.size w w') := fun a w => refCmp_any a c.k w
  have RJ : Hid (∀ (a : Vr) (w : World), Calls Try.prog 24 #[a.v, c.v.v] w fun e w' => e = .returned (jn a c.v).v ∧ Below w.heap.size w w') := fun a w => refJoin_any a c.v w
  have hw1s : w.heap.size < w1.heap.size := tc.lt
  clear xL xH his tc
  have HC : Hid (∀ {k : Nat} {x : Cx × Nat}, M[k]? = some x → (∀ j p, j < k → M[j]? = some p → kx p.1 c < 0) → kx x.1 c = 0 → putM (lvls li) M c = M.set k (jnC x.1 c, x.2)) := fun hx h h0 => putM_same hx h h0
  have HN : Hid (∀ {k : Nat}, k ≤ M.length → (∀ j p, j < k → M[j]? = some p → kx p.1 c < 0) → (∀ x, M[k]? = some x → 0 < kx x.1 c) → putM (lvls li) M c = M.take k ++ [(c, nextH (lvls li) M.length)] ++ M.drop k) := fun hk h h0 => putM_new hk h h0
  have KX : Hid (∀ x : Cx, kx x c = kc x.k.ky c.k.ky) := fun _ => rfl
  have PG : Hid (goodC c = true → putG (lvls li) M c = putM (lvls li) M c) := fun hg => by show putG _ _ _ = _; unfold putG; rw [if_pos hg]
  have PB : Hid (goodC c = false → putG (lvls li) M c = M) := fun hg => by show putG _ _ _ = _; unfold putG; rw [if_neg (by simp [hg])]
  have hMz : (M.length : Int) ≤ 200 := by omega
  have HX : Hid (∀ (k : Nat) (p : Cx × Nat), M[k]? = some p → kx p.1 c < 0) := fun k p hp => hall p (List.mem_of_getElem? hp)
  clear hall
  have hnil := h.nil
  generalize hgc : goodC c = gd at *
  obtain ⟨⟨ct, cp, cr, cc⟩, ⟨cti, cd, cl, ck, cn, cstr⟩⟩ := c
  simp only [Cx.val, Cx.a, Kb.v, Vr.v] at hw1 GD RC RJ k0 k1 k2 k3 k4 k5 k6 k7 k8 k9 ⊢
  go_enter Try.func11, Try.ntmps11
  go_wp2_with fail
  rw [← hw1]
  clear hw1 k0 k1 k2 k3 k4 k5 k6 k7 k8 k9
  refine GD.out.mono ?_
  rintro e w2 ⟨rfl, hb2⟩
  cases gd
  · obtain ⟨hR, -, -, -, -, hB⟩ := HR.out w2 hb2
    have hP := PB.out rfl
    have HE : Hid (RfAt B w2 rb (.slice io li.length icap) (putG (lvls li) M ⟨⟨ct, cp, cr, cc⟩, ⟨cti, cd, cl, ck, cn, cstr⟩⟩) (.slice aL M.length cL) (.slice aH M.length cH) ∧ Moved w w2 (rft rb (.slice aL M.length cL)) (rft rb (.slice aL M.length cL))) := by
      rw [hP]
      exact ⟨hR, hB.os, hB.tape, hB.output, hB.size, fun i hi _ => hB.block i hi, fun i hi => .inl hi⟩
    clear hR hB hP
    go_wp2_with fail
    go_ret
    exact ⟨rfl, _, _, HE.out.1, HE.out.2, fun g hg => .inl hg⟩
  · have hPG := toHidR (PG.out rfl)
    clear PG PB GD
    go_wp2_with fail
    go_loopw [5] (fun s5 wr => ∃ k : Nat, k ≤ M.length ∧ s5 = .int .i64 k ∧ Below w1.heap.size w1 wr ∧ ∀ j p, j < k → M[j]? = some p → kx p.1 ⟨⟨ct, cp, cr, cc⟩, ⟨cti, cd, cl, ck, cn, cstr⟩⟩ < 0) (fun s5 _ => M.length - (intOf s5).toNat)
    case atStart => exact ⟨0, by omega, rfl, hb2, fun j p hj => by omega⟩
    case round =>
      obtain ⟨k, hk, rfl, hbr, hless⟩ := hrel
      rcases Nat.lt_or_ge k M.length with hlt | hge
      · have hx0 : M[k]? = some M[k] := List.getElem?_eq_getElem hlt
        have hx1 : (M.map Prod.fst)[k]? = some M[k].1 := by rw [List.getElem?_map, hx0]; rfl
        have hless2 : Hid (kx M[k].1 ⟨⟨ct, cp, cr, cc⟩, ⟨cti, cd, cl, ck, cn, cstr⟩⟩ < 0 → ∀ j p, j < k + 1 → M[j]? = some p → kx p.1 ⟨⟨ct, cp, cr, cc⟩, ⟨cti, cd, cl, ck, cn, cstr⟩⟩ < 0) := fun hD j p hj hp => by
          rcases Nat.lt_or_ge j k with h1 | h1
          · exact hless j p h1 hp
          · obtain rfl : j = k := by omega
            rw [hx0] at hp
            obtain rfl := Option.some.inj hp
            exact hD
        generalize M[k] = x at *
        obtain ⟨⟨⟨xt, xp, xr, xc⟩, ⟨xti, xd, xl, xk, xn, xs⟩⟩, xh⟩ := x
        simp only at hx1
        obtain ⟨g, rfl, hgB, -⟩ := tL k _ hx1
        obtain ⟨D, hD⟩ : ∃ D, D = kc (Kb.ky ⟨xt, xp, xr, xc⟩) (Kb.ky ⟨ct, cp, cr, cc⟩) := ⟨_, rfl⟩
        have HD : Hid (kx ⟨⟨xt, xp, xr, xc⟩, ⟨xti, xd, xl, xk, xn, xs⟩⟩ ⟨⟨ct, cp, cr, cc⟩, ⟨cti, cd, cl, ck, cn, cstr⟩⟩ = D) := hD.symm
        have RC1 := RC.out ⟨xt, xp, xr, xc⟩
        simp only [← hD] at RC1
        have RCh := toHidR RC1
        have hbZ : ∀ z : Cl wr.heap.size wr, Below w1.heap.size w1 z.u := fun z => hbr.trans (z.h.mono hbr.size)
        have q1 : ∀ z : Cl wr.heap.size wr, z.u.cell? ⟨rb, 1, none⟩ = some (.slice (some ⟨g, 0, none⟩) M.length cL) := fun z => (HR.out z.u (hbZ z)).1.blk.cell 1 rfl
        have d0 : ∀ z : Cl wr.heap.size wr, z.u.cell? ⟨w.heap.size, 0, none⟩ = some (.string ct) := fun z => by simpa using (HR.out z.u (hbZ z)).2.2.2.2.1.c0
        have d1 : ∀ z : Cl wr.heap.size wr, z.u.cell? ⟨w.heap.size, 1, none⟩ = some (.string cp) := fun z => by simpa using (HR.out z.u (hbZ z)).2.2.2.2.1.c1
        have d2 : ∀ z : Cl wr.heap.size wr, z.u.cell? ⟨w.heap.size, 2, none⟩ = some (.int .i64 cr) := fun z => by simpa using (HR.out z.u (hbZ z)).2.2.2.2.1.c2
        have d3 : ∀ z : Cl wr.heap.size wr, z.u.cell? ⟨w.heap.size, 3, none⟩ = some (.string cc) := fun z => by simpa using (HR.out z.u (hbZ z)).2.2.2.2.1.c3
        haveI := Cl.inh wr.heap.size wr
        have tz := fun z : Cl wr.heap.size wr => (HR.out z.u (hbZ z)).2.2.1 k _ hx1
        have tz2 : ∀ z : Cl wr.heap.size wr, TenX z.u g (k * 10) ⟨⟨xt, xp, xr, xc⟩, ⟨xti, xd, xl, xk, xn, xs⟩⟩ := fun z => by
          obtain ⟨g', off', e, t⟩ := tz z
          obtain ⟨rfl, rfl⟩ : g = g' ∧ 0 = off' := by simpa using e
          rwa [Nat.zero_add] at t
        have x0 : ∀ z : Cl wr.heap.size wr, z.u.cell? ⟨g, k * 10, none⟩ = some (.string xt) := fun z => (tz2 z).c0
        have x1 : ∀ z : Cl wr.heap.size wr, z.u.cell? ⟨g, k * 10 + 1, none⟩ = some (.string xp) := fun z => (tz2 z).c1
        have x2 : ∀ z : Cl wr.heap.size wr, z.u.cell? ⟨g, k * 10 + 2, none⟩ = some (.int .i64 xr) := fun z => (tz2 z).c2
        have x3 : ∀ z : Cl wr.heap.size wr, z.u.cell? ⟨g, k * 10 + 3, none⟩ = some (.string xc) := fun z => (tz2 z).c3
        have hkz : (k : Int) < (M.length : Int) := by omega
        have HBZ := toHidR hbZ
        have hkd : decide ((k : Int) < (M.length : Int)) = true := decide_eq_true hkz
        have HL := toHidR hless
        clear tz tz2 hbZ hD RC1 RC hless
        go_wp2_with fail
        refine wp_region_cl wr.heap.size (by kernel_rfl) (by kernel_rfl) ?_
        repeat quiet_step ((go_at_call 21; exact Cl.calls (Nat.le_refl _) (RCh.out _)))
        refine wpQuiet_nil ?_
        rintro w3 ⟨z, rfl⟩
        have hb3 := HBZ.out z
        have hD0 : D < 0 := by rw [← HD.out]; exact HX.out k _ hx0
        have hl2 := hless2.out (by rw [HD.out]; exact hD0)
        go_wp2_with fail
        go_roundw
        case rel => exact ⟨k + 1, by omega, by go_num, hb3, hl2⟩
        case measure => (simp [intOf]; try omega)
      · obtain rfl : k = M.length := by omega
        have hPM := hPG.out.trans (HN.out (Nat.le_refl _) hless (fun x hx => by simp at hx))
        have hbZ : ∀ z : Cl wr.heap.size wr, Below w1.heap.size w1 z.u := fun z => hbr.trans (z.h.mono hbr.size)
        have q1 : ∀ z : Cl wr.heap.size wr, z.u.cell? ⟨rb, 1, none⟩ = some (.slice aL M.length cL) := fun z => (HR.out z.u (hbZ z)).1.blk.cell 1 rfl
        have HBZ := toHidR hbZ
        haveI := Cl.inh wr.heap.size wr
        clear hbZ RC RJ HC HN hless
        go_wp2_with fail
        refine wp_region_cl wr.heap.size (by kernel_rfl) (by kernel_rfl) ?_
        repeat quiet_step (fail)
        refine wpQuiet_nil ?_
        rintro w3 ⟨z, rfl⟩
        have hb3 := HBZ.out z
        generalize z.u = w3 at *
        clear q1 HBZ
        have hbZ : ∀ z : Cl w3.heap.size w3, Below w1.heap.size w1 z.u := fun z => hb3.trans (z.h.mono hb3.size)
        have q1 : ∀ z : Cl w3.heap.size w3, z.u.cell? ⟨rb, 1, none⟩ = some (.slice aL M.length cL) := fun z => (HR.out z.u (hbZ z)).1.blk.cell 1 rfl
        have HBZ := toHidR hbZ
        haveI := Cl.inh w3.heap.size w3
        clear hbZ
        go_wp2_with fail
        refine wp_region_cl w3.heap.size (by kernel_rfl) (by kernel_rfl) ?_
        repeat quiet_step (fail)
        refine wpQuiet_nil ?_
        rintro w4 ⟨z, rfl⟩
        have hb4 := HBZ.out z
        generalize z.u = w4 at *
        clear q1 HBZ
        by_cases hMe : M = []
        · skip
          subst hMe
          obtain ⟨hn1, hn2⟩ := hnil rfl
          injection hn1 with e1 e2 e3
          injection hn2 with f1 f2 f3
          subst e1 e3 f1 f3
          simp only [List.length_nil] at *
          obtain ⟨hR4, hI4, -⟩ := HR.out w4 hb4
          have HT := toHidR (refHeight_any rb io li icap _ 0 0 _ w4 hR4.blk hI4 hl (by omega))
          clear hR4 hI4
          generalize nextH (lvls li) 0 = N at *
          have HPM := toHidR hPM
          clear hPM
          go_wp2_with fail
          refine HT.out.mono ?_
          rintro e w5 ⟨rfl, hb5⟩
          have hb51 : Below w1.heap.size w1 w5 := hb4.trans (hb5.mono hb4.size)
          have hbZ : ∀ z : Cl w5.heap.size w5, Below w1.heap.size w1 z.u := fun z => hb51.trans (z.h.mono hb51.size)
          have q1 := fun z : Cl w5.heap.size w5 => (HR.out z.u (hbZ z)).1.blk.cell 1 rfl
          have tz := fun z : Cl w5.heap.size w5 => (HR.out z.u (hbZ z)).2.2.2.2.1
          have d0 := fun z => (tz z).c0
          have d1 := fun z => (tz z).c1
          have d2 := fun z => (tz z).c2
          have d3 := fun z => (tz z).c3
          have d4 := fun z => (tz z).c4
          have d5 := fun z => (tz z).c5
          have d6 := fun z => (tz z).c6
          have d7 := fun z => (tz z).c7
          have d8 := fun z => (tz z).c8
          have d9 := fun z => (tz z).c9
          simp only [Nat.zero_add] at d0 d1 d2 d3 d4 d5 d6 d7 d8 d9
          haveI := Cl.inh w5.heap.size w5
          have HC5 : Hid (∃ p : Cl w5.heap.size w5, w5.drew = p.u) := ⟨⟨_, (Below.refl _ _).drew⟩, rfl⟩
          have AL5 : Hid (∀ o : Obj, Below w5.heap.size w5 (w5.drew.alloc o)) := fun o => ((Below.refl w5.heap.size w5).drew).alloc (Nat.le_refl _) o
          have ALL5 : Hid (∀ o o' : Obj, Below w5.heap.size w5 ((w5.drew.alloc o).alloc o')) := fun o o' => (AL5.out o).alloc (AL5.out o).size o'
          have BB5 : Hid (∀ s, Below w5.heap.size w5.drew s → Below w5.heap.size w5 s) := fun s hs => (Below.refl w5.heap.size w5).drew.trans hs
          have XL5 : Hid (∀ s, Below w5.heap.size w5 s → RfAt B s rb (.slice io li.length icap) [] (.slice none 0 0) (.slice none 0 0) ∧ XSees s none (([] : List (Cx × Nat)).map Prod.fst) ∧ Below w.heap.size w s) := fun s hs => by
            have h0 := HR.out s (hb51.trans (hs.mono hb51.size))
            exact ⟨h0.1, h0.2.2.1, h0.2.2.2.2.2⟩
          have hml : (([] : List (Cx × Nat)).map Prod.fst).length = 0 := List.length_map _
          have SRA : ∀ s, Below w5.heap.size w5 s → Src Try.prog 10 23 (.slice none 0 0) 0 (((([] : List (Cx × Nat)).map Prod.fst).take 0).flatMap xs10) s := fun s _ => src_zero _ _
          have SRC : ∀ s, Below w5.heap.size w5 s → Src Try.prog 10 23 (.slice none 0 0) 0 (((([] : List (Cx × Nat)).map Prod.fst).drop 0).flatMap xs10) s := fun s _ => src_zero _ _
          have I5 := toHidR (ins3 (k := 10) (bytes := 112) (t := 23) (e := 40) Try.underlying23 hi1 hy0 hy1 hy2 rfl w5.drew (.slice none 0 0) (.slice none 0 0) 0 0 (((([] : List (Cx × Nat)).map Prod.fst).take 0).flatMap xs10) (((([] : List (Cx × Nat)).map Prod.fst).drop 0).flatMap xs10) (xs10 ⟨⟨ct, cp, cr, cc⟩, ⟨cti, cd, cl, ck, cn, cstr⟩⟩) #[.string ct, .string cp, .int .i64 cr, .string cc, .int .i64 cti, .bool cd, .int .i64 cl, .int .i64 ck, .int .i64 cn, .string cstr] (fun s hs => SRA s (BB5.out s hs)) (fun s hs => SRC s (BB5.out s hs)) (fun s b hb => src_box (c := ⟨⟨ct, cp, cr, cc⟩, ⟨cti, cd, cl, ck, cn, cstr⟩⟩) hb) (by omega) (by omega))
          have FZ5 : Hid (∀ s, Below w5.heap.size w5 s → s.frozen? ⟨rb, 1, none⟩ = false ∧ s.cell? ⟨rb, 1, none⟩ = some (.slice none 0 0)) := fun s hs => ⟨frozen_at (XL5.out s hs).1.blk 1, (XL5.out s hs).1.blk.cell 1 rfl⟩
          have FIN5 : Hid (∀ v3 s3, s3.ownsRow w5.drew.heap.size 40 10 v3 (0 + 1 + 0) (((([] : List (Cx × Nat)).map Prod.fst).take 0).flatMap xs10 ++ xs10 ⟨⟨ct, cp, cr, cc⟩, ⟨cti, cd, cl, ck, cn, cstr⟩⟩ ++ ((([] : List (Cx × Nat)).map Prod.fst).drop 0).flatMap xs10) → Below w5.heap.size w5 s3 → Mid B w (s3.setCell ⟨rb, 1, none⟩ v3) rb (.slice io li.length icap) (([] : List (Cx × Nat)).take 0 ++ [(⟨⟨ct, cp, cr, cc⟩, ⟨cti, cd, cl, ck, cn, cstr⟩⟩, N)] ++ ([] : List (Cx × Nat)).drop 0) [] v3 (.slice none 0 0) ∧ TenX (s3.setCell ⟨rb, 1, none⟩ v3) w.heap.size 0 ⟨⟨ct, cp, cr, cc⟩, ⟨cti, cd, cl, ck, cn, cstr⟩⟩) := fun v3 s3 o3 b3 => by
            obtain ⟨hR, -, hBw⟩ := XL5.out s3 b3
            have ht := (HR.out s3 (hb51.trans (b3.mono hb51.size))).2.2.2.2.1
            exact mid_of hR hBw o3 (Nat.le_trans hBs (Nat.le_trans (by omega) hb51.size)) (Nat.le_trans (Nat.le_of_lt hw1s) hb51.size) rfl (xN_ins [] 0 ⟨⟨ct, cp, cr, cc⟩, ⟨cti, cd, cl, ck, cn, cstr⟩⟩ N) ht hrbl
          clear tz hbZ
          go_wp2_with fail
          refine wp_region_C (fun w' => ∃ p : Cl w5.heap.size w5, w' = p.u) 21 (fun a' w' =>  a' = { tmps := #[.pointer (some ⟨rb, 0, none⟩), (a'.tmps.getD 1 undef), (a'.tmps.getD 2 undef), .pointer (some ⟨w.heap.size, 0, none⟩), (a'.tmps.getD 4 undef), .int .i64 0, .int .i64 N, (a'.tmps.getD 7 undef), (a'.tmps.getD 8 undef), (a'.tmps.getD 9 undef), (a'.tmps.getD 10 undef), (a'.tmps.getD 11 undef), (a'.tmps.getD 12 undef), (a'.tmps.getD 13 undef), (a'.tmps.getD 14 undef), (a'.tmps.getD 15 undef), (a'.tmps.getD 16 undef), (a'.tmps.getD 17 undef), (a'.tmps.getD 18 undef), (a'.tmps.getD 19 undef), (a'.tmps.getD 20 undef), (a'.tmps.getD 21 undef), (a'.tmps.getD 22 undef), (a'.tmps.getD 23 undef), (a'.tmps.getD 24 undef), (a'.tmps.getD 25 undef), (a'.tmps.getD 26 undef), (a'.tmps.getD 27 undef), (a'.tmps.getD 28 undef), (a'.tmps.getD 29 undef), (a'.tmps.getD 30 undef), (a'.tmps.getD 31 undef), (a'.tmps.getD 32 undef), (a'.tmps.getD 33 undef), (a'.tmps.getD 34 undef), (a'.tmps.getD 35 undef), (a'.tmps.getD 36 undef), (a'.tmps.getD 37 undef), (a'.tmps.getD 38 undef), (a'.tmps.getD 39 undef), (a'.tmps.getD 40 undef), (a'.tmps.getD 41 undef), (a'.tmps.getD 42 undef), (a'.tmps.getD 43 undef), (a'.tmps.getD 44 undef), (a'.tmps.getD 45 undef), (a'.tmps.getD 46 undef), (a'.tmps.getD 47 undef), (a'.tmps.getD 48 undef), (a'.tmps.getD 49 undef), (a'.tmps.getD 50 undef), (a'.tmps.getD 51 undef), (a'.tmps.getD 52 undef), (a'.tmps.getD 53 undef), (a'.tmps.getD 54 undef), (a'.tmps.getD 55 undef), (a'.tmps.getD 56 undef), (a'.tmps.getD 57 undef), (a'.tmps.getD 58 undef), (a'.tmps.getD 59 undef), (a'.tmps.getD 60 undef), (a'.tmps.getD 61 undef), (a'.tmps.getD 62 undef), (a'.tmps.getD 63 undef), (a'.tmps.getD 64 undef), (a'.tmps.getD 65 undef), (a'.tmps.getD 66 undef), (a'.tmps.getD 67 undef), (a'.tmps.getD 68 undef), (a'.tmps.getD 69 undef), (a'.tmps.getD 70 undef), (a'.tmps.getD 71 undef), (a'.tmps.getD 72 undef), (a'.tmps.getD 73 undef), (a'.tmps.getD 74 undef), (a'.tmps.getD 75 undef), (a'.tmps.getD 76 undef), (a'.tmps.getD 77 undef), (a'.tmps.getD 78 undef), (a'.tmps.getD 79 undef), (a'.tmps.getD 80 undef), (a'.tmps.getD 81 undef), (a'.tmps.getD 82 undef), (a'.tmps.getD 83 undef), (a'.tmps.getD 84 undef), (a'.tmps.getD 85 undef), (a'.tmps.getD 86 undef), (a'.tmps.getD 87 undef), (a'.tmps.getD 88 undef), (a'.tmps.getD 89 undef), (a'.tmps.getD 90 undef), (a'.tmps.getD 91 undef), (a'.tmps.getD 92 undef), (a'.tmps.getD 93 undef), (a'.tmps.getD 94 undef), (a'.tmps.getD 95 undef), (a'.tmps.getD 96 undef), (a'.tmps.getD 97 undef), (a'.tmps.getD 98 undef), (a'.tmps.getD 99 undef), (a'.tmps.getD 100 undef), (a'.tmps.getD 101 undef), (a'.tmps.getD 102 undef), (a'.tmps.getD 103 undef), (a'.tmps.getD 104 undef), (a'.tmps.getD 105 undef), (a'.tmps.getD 106 undef), (a'.tmps.getD 107 undef), (a'.tmps.getD 108 undef), (a'.tmps.getD 109 undef), (a'.tmps.getD 110 undef), (a'.tmps.getD 111 undef), (a'.tmps.getD 112 undef), (a'.tmps.getD 113 undef), (a'.tmps.getD 114 undef)], defers := [] } ∧ ∃ v3, Mid B w w' rb (.slice io li.length icap) (([] : List (Cx × Nat)).take 0 ++ [(⟨⟨ct, cp, cr, cc⟩, ⟨cti, cd, cl, ck, cn, cstr⟩⟩, N)] ++ ([] : List (Cx × Nat)).drop 0) [] v3 (.slice none 0 0) ∧ TenX w' w.heap.size 0 ⟨⟨ct, cp, cr, cc⟩, ⟨cti, cd, cl, ck, cn, cstr⟩⟩) (by kernel_rfl) ?reg ?rest
          case reg =>
            refine anyC_pure 0 rfl (by kernel_rfl) (by kernel_rfl) (by kernel_rfl) HC5.out (fun K hK => ?_)
            go_simp
            refine hK _ ?_
            clear hK K
            refine anyC_pure 2 rfl (by kernel_rfl) (by kernel_rfl) (by kernel_rfl) HC5.out (fun K hK => ?_)
            go_simp
            refine hK _ ?_
            clear hK K
            refine anyC_pure 3 rfl (by kernel_rfl) (by kernel_rfl) (by kernel_rfl) HC5.out (fun K hK => ?_)
            go_simp
            refine hK _ ?_
            clear hK K
            refine anyC_pure 4 rfl (by kernel_rfl) (by kernel_rfl) (by kernel_rfl) HC5.out (fun K hK => ?_)
            go_simp
            refine hK _ ?_
            clear hK K
            refine anyC_pure 5 rfl (by kernel_rfl) (by kernel_rfl) (by kernel_rfl) HC5.out (fun K hK => ?_)
            go_simp
            refine hK _ ?_
            clear hK K
            refine anyC_pure 6 rfl (by kernel_rfl) (by kernel_rfl) (by kernel_rfl) HC5.out (fun K hK => ?_)
            go_simp
            refine hK _ ?_
            clear hK K
            refine anyC_pure 7 rfl (by kernel_rfl) (by kernel_rfl) (by kernel_rfl) HC5.out (fun K hK => ?_)
            go_simp
            refine hK _ ?_
            clear hK K
            refine anyC_pure 9 rfl (by kernel_rfl) (by kernel_rfl) (by kernel_rfl) HC5.out (fun K hK => ?_)
            go_simp
            refine hK _ ?_
            clear hK K
            refine anyC_pure 12 rfl (by kernel_rfl) (by kernel_rfl) (by kernel_rfl) HC5.out (fun K hK => ?_)
            go_simp
            refine hK _ ?_
            clear hK K
            refine anyC_pure 13 rfl (by kernel_rfl) (by kernel_rfl) (by kernel_rfl) HC5.out (fun K hK => ?_)
            go_simp
            refine hK _ ?_
            clear hK K
            refine anyC_pure 14 rfl (by kernel_rfl) (by kernel_rfl) (by kernel_rfl) HC5.out (fun K hK => ?_)
            go_simp
            refine hK _ ?_
            clear hK K
            refine anyC_pure 15 rfl (by kernel_rfl) (by kernel_rfl) (by kernel_rfl) HC5.out (fun K hK => ?_)
            go_simp
            refine hK _ ?_
            clear hK K
            refine anyC_pure 16 rfl (by kernel_rfl) (by kernel_rfl) (by kernel_rfl) HC5.out (fun K hK => ?_)
            go_simp
            refine hK _ ?_
            clear hK K
            refine anyC_pure 17 rfl (by kernel_rfl) (by kernel_rfl) (by kernel_rfl) HC5.out (fun K hK => ?_)
            go_simp
            refine hK _ ?_
            clear hK K
            refine anyC_loud2 1 10 (by kernel_rfl) ?_ ?_
            · refine lou_of rfl (fun K hK => ?_)
              go_simp
              refine hK _ _ ⟨fun _ => ⟨⟨_, (AL5.out _)⟩, rfl⟩, ?_⟩
              clear hK K
              refine anyC_loud2 8 10 (by kernel_rfl) ?_ ?_
              · obtain ⟨v1, s1, v2, s2, v3, s3, r1, r2, r3, o3, c1, c2, c3⟩ := I5.out.1
                obtain ⟨g3, p3, rfl⟩ := owns_pos o3 (by omega)
                have b1 := BB5.out _ c1
                have b2 := BB5.out _ c2
                have b3 := BB5.out _ c3
                refine lou_append rfl rfl _ _ _ _ rfl _ _ rfl rfl (by exact r1) ?_
                refine ⟨fun _ => ⟨⟨_, b1⟩, rfl⟩, ?_⟩
                refine anyC_loud 10 (by kernel_rfl) ?_
                refine lou_of rfl (fun K hK => ?_)
                go_simp
                refine hK _ _ ⟨fun _ => ⟨⟨_, b1.alloc b1.size _⟩, rfl⟩, ?_⟩
                clear hK K
                refine anyC_loud 11 (by kernel_rfl) ?_
                refine lou_append rfl rfl _ _ _ _ rfl _ _ rfl rfl (by exact r2) ?_
                refine ⟨fun _ => ⟨⟨_, b2⟩, rfl⟩, ?_⟩
                refine anyC_loud 18 (by kernel_rfl) ?_
                refine lou_append rfl rfl _ _ _ _ rfl _ _ rfl rfl (by exact r3) ?_
                refine ⟨fun _ => ⟨⟨_, b3⟩, rfl⟩, ?_⟩
                refine anyC_pure 19 rfl (by kernel_rfl) (by kernel_rfl) (by kernel_rfl) ⟨⟨_, b3⟩, rfl⟩ (fun K hK => ?_)
                go_simp
                refine hK _ ?_
                clear hK K
                refine anyC_pure 20 rfl (by kernel_rfl) (by kernel_rfl) (by kernel_rfl) ⟨⟨_, b3⟩, rfl⟩ (fun K hK => ?_)
                go_simp
                refine hK _ ?_
                clear hK K
                refine anyC_loud 21 (by kernel_rfl) ?_
                refine lou_of rfl (fun K hK => ?_)
                obtain ⟨fz, cz⟩ := FZ5.out s3 b3
                go_simp
                refine hK _ _ ⟨fun h => absurd rfl h, ?_⟩
                clear hK K
                refine anyC_done (by kernel_rfl) ?_
                exact ⟨by kernel_rfl, _, FIN5.out _ s3 o3 b3⟩
              · refine lou_of rfl (fun K hK => ?_)
                go_simp
                refine hK _ _ ⟨fun _ => ⟨⟨_, (ALL5.out _ _)⟩, rfl⟩, ?_⟩
                clear hK K
                obtain ⟨v1, s1, v2, s2, v3, s3, r1, r2, r3, o3, c1, c2, c3⟩ := I5.out.2.1
                obtain ⟨g3, p3, rfl⟩ := owns_pos o3 (by omega)
                have b1 := BB5.out _ c1
                have b2 := BB5.out _ c2
                have b3 := BB5.out _ c3
                refine anyC_loud 8 (by kernel_rfl) ?_
                refine lou_append rfl rfl _ _ _ _ rfl _ _ rfl rfl (by exact r1) ?_
                refine ⟨fun _ => ⟨⟨_, b1⟩, rfl⟩, ?_⟩
                refine anyC_loud 11 (by kernel_rfl) ?_
                refine lou_append rfl rfl _ _ _ _ rfl _ _ rfl rfl (by exact r2) ?_
                refine ⟨fun _ => ⟨⟨_, b2⟩, rfl⟩, ?_⟩
                refine anyC_loud 18 (by kernel_rfl) ?_
                refine lou_append rfl rfl _ _ _ _ rfl _ _ rfl rfl (by exact r3) ?_
                refine ⟨fun _ => ⟨⟨_, b3⟩, rfl⟩, ?_⟩
                refine anyC_pure 19 rfl (by kernel_rfl) (by kernel_rfl) (by kernel_rfl) ⟨⟨_, b3⟩, rfl⟩ (fun K hK => ?_)
                go_simp
                refine hK _ ?_
                clear hK K
                refine anyC_pure 20 rfl (by kernel_rfl) (by kernel_rfl) (by kernel_rfl) ⟨⟨_, b3⟩, rfl⟩ (fun K hK => ?_)
                go_simp
                refine hK _ ?_
                clear hK K
                refine anyC_loud 21 (by kernel_rfl) ?_
                refine lou_of rfl (fun K hK => ?_)
                obtain ⟨fz, cz⟩ := FZ5.out s3 b3
                go_simp
                refine hK _ _ ⟨fun h => absurd rfl h, ?_⟩
                clear hK K
                refine anyC_done (by kernel_rfl) ?_
                exact ⟨by kernel_rfl, _, FIN5.out _ s3 o3 b3⟩
            · refine lou_of rfl (fun K hK => ?_)
              go_simp
              refine hK _ _ ⟨fun _ => ⟨⟨_, (AL5.out _)⟩, rfl⟩, ?_⟩
              clear hK K
              refine anyC_loud 1 (by kernel_rfl) ?_
              refine lou_of rfl (fun K hK => ?_)
              go_simp
              refine hK _ _ ⟨fun _ => ⟨⟨_, (ALL5.out _ _)⟩, rfl⟩, ?_⟩
              clear hK K
              obtain ⟨v1, s1, v2, s2, v3, s3, r1, r2, r3, o3, c1, c2, c3⟩ := I5.out.2.2
              obtain ⟨g3, p3, rfl⟩ := owns_pos o3 (by omega)
              have b1 := BB5.out _ c1
              have b2 := BB5.out _ c2
              have b3 := BB5.out _ c3
              refine anyC_loud 8 (by kernel_rfl) ?_
              refine lou_append rfl rfl _ _ _ _ rfl _ _ rfl rfl (by exact r1) ?_
              refine ⟨fun _ => ⟨⟨_, b1⟩, rfl⟩, ?_⟩
              refine anyC_loud 11 (by kernel_rfl) ?_
              refine lou_append rfl rfl _ _ _ _ rfl _ _ rfl rfl (by exact r2) ?_
              refine ⟨fun _ => ⟨⟨_, b2⟩, rfl⟩, ?_⟩
              refine anyC_loud 18 (by kernel_rfl) ?_
              refine lou_append rfl rfl _ _ _ _ rfl _ _ rfl rfl (by exact r3) ?_
              refine ⟨fun _ => ⟨⟨_, b3⟩, rfl⟩, ?_⟩
              refine anyC_pure 19 rfl (by kernel_rfl) (by kernel_rfl) (by kernel_rfl) ⟨⟨_, b3⟩, rfl⟩ (fun K hK => ?_)
              go_simp
              refine hK _ ?_
              clear hK K
              refine anyC_pure 20 rfl (by kernel_rfl) (by kernel_rfl) (by kernel_rfl) ⟨⟨_, b3⟩, rfl⟩ (fun K hK => ?_)
              go_simp
              refine hK _ ?_
              clear hK K
              refine anyC_loud 21 (by kernel_rfl) ?_
              refine lou_of rfl (fun K hK => ?_)
              obtain ⟨fz, cz⟩ := FZ5.out s3 b3
              go_simp
              refine hK _ _ ⟨fun h => absurd rfl h, ?_⟩
              clear hK K
              refine anyC_done (by kernel_rfl) ?_
              exact ⟨by kernel_rfl, _, FIN5.out _ s3 o3 b3⟩
          case rest =>
            rintro a' w6 ⟨ha, v3, hMid, htc⟩
            obtain ⟨y, hy⟩ : ∃ y : Nat → Value, y = fun j => a'.tmps.getD j undef := ⟨_, rfl⟩
            have ha2 : a' = { tmps := #[.pointer (some ⟨rb, 0, none⟩), (y 1), (y 2), .pointer (some ⟨w.heap.size, 0, none⟩), (y 4), .int .i64 0, .int .i64 N, (y 7), (y 8), (y 9), (y 10), (y 11), (y 12), (y 13), (y 14), (y 15), (y 16), (y 17), (y 18), (y 19), (y 20), (y 21), (y 22), (y 23), (y 24), (y 25), (y 26), (y 27), (y 28), (y 29), (y 30), (y 31), (y 32), (y 33), (y 34), (y 35), (y 36), (y 37), (y 38), (y 39), (y 40), (y 41), (y 42), (y 43), (y 44), (y 45), (y 46), (y 47), (y 48), (y 49), (y 50), (y 51), (y 52), (y 53), (y 54), (y 55), (y 56), (y 57), (y 58), (y 59), (y 60), (y 61), (y 62), (y 63), (y 64), (y 65), (y 66), (y 67), (y 68), (y 69), (y 70), (y 71), (y 72), (y 73), (y 74), (y 75), (y 76), (y 77), (y 78), (y 79), (y 80), (y 81), (y 82), (y 83), (y 84), (y 85), (y 86), (y 87), (y 88), (y 89), (y 90), (y 91), (y 92), (y 93), (y 94), (y 95), (y 96), (y 97), (y 98), (y 99), (y 100), (y 101), (y 102), (y 103), (y 104), (y 105), (y 106), (y 107), (y 108), (y 109), (y 110), (y 111), (y 112), (y 113), (y 114)], defers := [] } := by rw [hy]; exact ha
            clear ha hy
            subst ha2
            clear q1 d0 d1 d2 d3 d4 d5 d6 d7 d8 d9 I5 FZ5 FIN5 HC5 AL5 ALL5 BB5
            obtain ⟨j1, hj1, hv0, hv1, hv2⟩ := infoX infoInt
            have hMl : Hid (∀ s, Below w6.heap.size w6 s → Mid B w s rb (.slice io li.length icap) (([] : List (Cx × Nat)).take 0 ++ [(⟨⟨ct, cp, cr, cc⟩, ⟨cti, cd, cl, ck, cn, cstr⟩⟩, N)] ++ ([] : List (Cx × Nat)).drop 0) [] v3 (.slice none 0 0)) := fun s hs => hMid.below hs
            obtain ⟨av, cv, hav, hIv⟩ := owns_isees hMid.H
            have hIs : ISees w6 none (([] : List (Cx × Nat)).map fun p => (p.2 : Int)) := by
              injection hav with e1 _ _
              rw [e1]; exact hIv
            have hil : (([] : List (Cx × Nat)).map fun p => (p.2 : Int)).length = 0 := List.length_map _
            have p2 : ∀ z : Cl w6.heap.size w6, z.u.cell? ⟨rb, 2, none⟩ = some (.slice none 0 0) := fun z => (hMl.out z.u z.h).blk.cell 2 rfl
            haveI := Cl.inh w6.heap.size w6
            have HC6 : Hid (∃ p : Cl w6.heap.size w6, w6.drew = p.u) := ⟨⟨_, (Below.refl _ _).drew⟩, rfl⟩
            have AL6 : Hid (∀ o : Obj, Below w6.heap.size w6 (w6.drew.alloc o)) := fun o => ((Below.refl w6.heap.size w6).drew).alloc (Nat.le_refl _) o
            have ALL6 : Hid (∀ o o' : Obj, Below w6.heap.size w6 ((w6.drew.alloc o).alloc o')) := fun o o' => (AL6.out o).alloc (AL6.out o).size o'
            have BB6 : Hid (∀ s, Below w6.heap.size w6.drew s → Below w6.heap.size w6 s) := fun s hs => (Below.refl w6.heap.size w6).drew.trans hs
            have HRA : ∀ s, Below w6.heap.size w6 s → Src Try.prog 1 22 (.slice none 0 0) 0 (vI ((([] : List (Cx × Nat)).map fun p => (p.2 : Int)).take 0)) s := fun s _ => srcI_zero _ _
            have HRC : ∀ s, Below w6.heap.size w6 s → Src Try.prog 1 22 (.slice none 0 0) 0 (vI ((([] : List (Cx × Nat)).map fun p => (p.2 : Int)).drop 0)) s := fun s _ => srcI_zero _ _
            have I6 := toHidR (ins3 (k := 1) (bytes := 8) (t := 22) (e := 3) Try.underlying22 hj1 hv0 hv1 hv2 rfl w6.drew (.slice none 0 0) (.slice none 0 0) 0 0 (vI ((([] : List (Cx × Nat)).map fun p => (p.2 : Int)).take 0)) (vI ((([] : List (Cx × Nat)).map fun p => (p.2 : Int)).drop 0)) (vI [(N : Int)]) #[.int .i64 (N : Int)] (fun s hs => HRA s (BB6.out s hs)) (fun s hs => HRC s (BB6.out s hs)) (fun s b hb => srcI_box hb) (by omega) (by omega))
            have FZ6 : Hid (∀ s, Below w6.heap.size w6 s → s.frozen? ⟨rb, 2, none⟩ = false ∧ s.cell? ⟨rb, 2, none⟩ = some (.slice none 0 0)) := fun s hs => ⟨frozen_at (hMl.out s hs).blk 2, (hMl.out s hs).blk.cell 2 rfl⟩
            have FIN6 : Hid (∀ v4 s4, s4.ownsRow w6.drew.heap.size 3 1 v4 (0 + 1 + 0) (vI ((([] : List (Cx × Nat)).map fun p => (p.2 : Int)).take 0) ++ vI [(N : Int)] ++ vI ((([] : List (Cx × Nat)).map fun p => (p.2 : Int)).drop 0)) → Below w6.heap.size w6 s4 → RfAt B (s4.setCell ⟨rb, 2, none⟩ v4) rb (.slice io li.length icap) (([] : List (Cx × Nat)).take 0 ++ [(⟨⟨ct, cp, cr, cc⟩, ⟨cti, cd, cl, ck, cn, cstr⟩⟩, N)] ++ ([] : List (Cx × Nat)).drop 0) v3 v4 ∧ Moved w (s4.setCell ⟨rb, 2, none⟩ v4) (rft rb (.slice none 0 0)) (rft rb v3) ∧ ∀ g, v4.ownBlock = some g → w.heap.size ≤ g) := fun v4 s4 o4 b4 =>
              fin_of (hMl.out s4 b4) o4 (Nat.le_trans hBs hMid.size) hMid.size rfl (vN_ins [] 0 ⟨⟨ct, cp, cr, cc⟩, ⟨cti, cd, cl, ck, cn, cstr⟩⟩ N) (by simp)
            clear hIs hIv hav hil
            go_wp2_with fail
            refine wp_region_C (fun w' => ∃ p : Cl w6.heap.size w6, w' = p.u) 21 (fun a' w' =>  a' = { tmps := #[.pointer (some ⟨rb, 0, none⟩), (a'.tmps.getD 1 undef), (a'.tmps.getD 2 undef), .pointer (some ⟨w.heap.size, 0, none⟩), (a'.tmps.getD 4 undef), .int .i64 0, .int .i64 N, (a'.tmps.getD 7 undef), (a'.tmps.getD 8 undef), (a'.tmps.getD 9 undef), (a'.tmps.getD 10 undef), (a'.tmps.getD 11 undef), (a'.tmps.getD 12 undef), (a'.tmps.getD 13 undef), (a'.tmps.getD 14 undef), (a'.tmps.getD 15 undef), (a'.tmps.getD 16 undef), (a'.tmps.getD 17 undef), (a'.tmps.getD 18 undef), (a'.tmps.getD 19 undef), (a'.tmps.getD 20 undef), (a'.tmps.getD 21 undef), (a'.tmps.getD 22 undef), (a'.tmps.getD 23 undef), (a'.tmps.getD 24 undef), (a'.tmps.getD 25 undef), (a'.tmps.getD 26 undef), (a'.tmps.getD 27 undef), (a'.tmps.getD 28 undef), (a'.tmps.getD 29 undef), (a'.tmps.getD 30 undef), (a'.tmps.getD 31 undef), (a'.tmps.getD 32 undef), (a'.tmps.getD 33 undef), (a'.tmps.getD 34 undef), (a'.tmps.getD 35 undef), (a'.tmps.getD 36 undef), (a'.tmps.getD 37 undef), (a'.tmps.getD 38 undef), (a'.tmps.getD 39 undef), (a'.tmps.getD 40 undef), (a'.tmps.getD 41 undef), (a'.tmps.getD 42 undef), (a'.tmps.getD 43 undef), (a'.tmps.getD 44 undef), (a'.tmps.getD 45 undef), (a'.tmps.getD 46 undef), (a'.tmps.getD 47 undef), (a'.tmps.getD 48 undef), (a'.tmps.getD 49 undef), (a'.tmps.getD 50 undef), (a'.tmps.getD 51 undef), (a'.tmps.getD 52 undef), (a'.tmps.getD 53 undef), (a'.tmps.getD 54 undef), (a'.tmps.getD 55 undef), (a'.tmps.getD 56 undef), (a'.tmps.getD 57 undef), (a'.tmps.getD 58 undef), (a'.tmps.getD 59 undef), (a'.tmps.getD 60 undef), (a'.tmps.getD 61 undef), (a'.tmps.getD 62 undef), (a'.tmps.getD 63 undef), (a'.tmps.getD 64 undef), (a'.tmps.getD 65 undef), (a'.tmps.getD 66 undef), (a'.tmps.getD 67 undef), (a'.tmps.getD 68 undef), (a'.tmps.getD 69 undef), (a'.tmps.getD 70 undef), (a'.tmps.getD 71 undef), (a'.tmps.getD 72 undef), (a'.tmps.getD 73 undef), (a'.tmps.getD 74 undef), (a'.tmps.getD 75 undef), (a'.tmps.getD 76 undef), (a'.tmps.getD 77 undef), (a'.tmps.getD 78 undef), (a'.tmps.getD 79 undef), (a'.tmps.getD 80 undef), (a'.tmps.getD 81 undef), (a'.tmps.getD 82 undef), (a'.tmps.getD 83 undef), (a'.tmps.getD 84 undef), (a'.tmps.getD 85 undef), (a'.tmps.getD 86 undef), (a'.tmps.getD 87 undef), (a'.tmps.getD 88 undef), (a'.tmps.getD 89 undef), (a'.tmps.getD 90 undef), (a'.tmps.getD 91 undef), (a'.tmps.getD 92 undef), (a'.tmps.getD 93 undef), (a'.tmps.getD 94 undef), (a'.tmps.getD 95 undef), (a'.tmps.getD 96 undef), (a'.tmps.getD 97 undef), (a'.tmps.getD 98 undef), (a'.tmps.getD 99 undef), (a'.tmps.getD 100 undef), (a'.tmps.getD 101 undef), (a'.tmps.getD 102 undef), (a'.tmps.getD 103 undef), (a'.tmps.getD 104 undef), (a'.tmps.getD 105 undef), (a'.tmps.getD 106 undef), (a'.tmps.getD 107 undef), (a'.tmps.getD 108 undef), (a'.tmps.getD 109 undef), (a'.tmps.getD 110 undef), (a'.tmps.getD 111 undef), (a'.tmps.getD 112 undef), (a'.tmps.getD 113 undef), (a'.tmps.getD 114 undef)], defers := [] } ∧ ∃ v4, RfAt B w' rb (.slice io li.length icap) (([] : List (Cx × Nat)).take 0 ++ [(⟨⟨ct, cp, cr, cc⟩, ⟨cti, cd, cl, ck, cn, cstr⟩⟩, N)] ++ ([] : List (Cx × Nat)).drop 0) v3 v4 ∧ Moved w w' (rft rb (.slice none 0 0)) (rft rb v3) ∧ ∀ g, v4.ownBlock = some g → w.heap.size ≤ g) (by kernel_rfl) ?reg2 ?rest2
            case reg2 =>
              refine anyC_pure 0 rfl (by kernel_rfl) (by kernel_rfl) (by kernel_rfl) HC6.out (fun K hK => ?_)
              go_simp
              refine hK _ ?_
              clear hK K
              refine anyC_pure 2 rfl (by kernel_rfl) (by kernel_rfl) (by kernel_rfl) HC6.out (fun K hK => ?_)
              go_simp
              refine hK _ ?_
              clear hK K
              refine anyC_pure 3 rfl (by kernel_rfl) (by kernel_rfl) (by kernel_rfl) HC6.out (fun K hK => ?_)
              go_simp
              refine hK _ ?_
              clear hK K
              refine anyC_pure 4 rfl (by kernel_rfl) (by kernel_rfl) (by kernel_rfl) HC6.out (fun K hK => ?_)
              go_simp
              refine hK _ ?_
              clear hK K
              refine anyC_pure 5 rfl (by kernel_rfl) (by kernel_rfl) (by kernel_rfl) HC6.out (fun K hK => ?_)
              go_simp
              refine hK _ ?_
              clear hK K
              refine anyC_pure 6 rfl (by kernel_rfl) (by kernel_rfl) (by kernel_rfl) HC6.out (fun K hK => ?_)
              go_simp
              refine hK _ ?_
              clear hK K
              refine anyC_pure 7 rfl (by kernel_rfl) (by kernel_rfl) (by kernel_rfl) HC6.out (fun K hK => ?_)
              go_simp
              refine hK _ ?_
              clear hK K
              refine anyC_pure 9 rfl (by kernel_rfl) (by kernel_rfl) (by kernel_rfl) HC6.out (fun K hK => ?_)
              go_simp
              refine hK _ ?_
              clear hK K
              refine anyC_pure 12 rfl (by kernel_rfl) (by kernel_rfl) (by kernel_rfl) HC6.out (fun K hK => ?_)
              go_simp
              refine hK _ ?_
              clear hK K
              refine anyC_pure 13 rfl (by kernel_rfl) (by kernel_rfl) (by kernel_rfl) HC6.out (fun K hK => ?_)
              go_simp
              refine hK _ ?_
              clear hK K
              refine anyC_pure 14 rfl (by kernel_rfl) (by kernel_rfl) (by kernel_rfl) HC6.out (fun K hK => ?_)
              go_simp
              refine hK _ ?_
              clear hK K
              refine anyC_pure 15 rfl (by kernel_rfl) (by kernel_rfl) (by kernel_rfl) HC6.out (fun K hK => ?_)
              go_simp
              refine hK _ ?_
              clear hK K
              refine anyC_pure 16 rfl (by kernel_rfl) (by kernel_rfl) (by kernel_rfl) HC6.out (fun K hK => ?_)
              go_simp
              refine hK _ ?_
              clear hK K
              refine anyC_pure 17 rfl (by kernel_rfl) (by kernel_rfl) (by kernel_rfl) HC6.out (fun K hK => ?_)
              go_simp
              refine hK _ ?_
              clear hK K
              refine anyC_loud2 1 10 (by kernel_rfl) ?_ ?_
              · refine lou_of rfl (fun K hK => ?_)
                go_simp
                refine hK _ _ ⟨fun _ => ⟨⟨_, (AL6.out _)⟩, rfl⟩, ?_⟩
                clear hK K
                refine anyC_loud2 8 10 (by kernel_rfl) ?_ ?_
                · obtain ⟨v1, s1, v2, s2, v3, s3, r1, r2, r3, o3, c1, c2, c3⟩ := I6.out.1
                  obtain ⟨g3, p3, rfl⟩ := owns_pos o3 (by omega)
                  have b1 := BB6.out _ c1
                  have b2 := BB6.out _ c2
                  have b3 := BB6.out _ c3
                  refine lou_append rfl rfl _ _ _ _ rfl _ _ rfl rfl (by exact r1) ?_
                  refine ⟨fun _ => ⟨⟨_, b1⟩, rfl⟩, ?_⟩
                  refine anyC_loud 10 (by kernel_rfl) ?_
                  refine lou_of rfl (fun K hK => ?_)
                  go_simp
                  refine hK _ _ ⟨fun _ => ⟨⟨_, b1.alloc b1.size _⟩, rfl⟩, ?_⟩
                  clear hK K
                  refine anyC_loud 11 (by kernel_rfl) ?_
                  refine lou_append rfl rfl _ _ _ _ rfl _ _ rfl rfl (by exact r2) ?_
                  refine ⟨fun _ => ⟨⟨_, b2⟩, rfl⟩, ?_⟩
                  refine anyC_loud 18 (by kernel_rfl) ?_
                  refine lou_append rfl rfl _ _ _ _ rfl _ _ rfl rfl (by exact r3) ?_
                  refine ⟨fun _ => ⟨⟨_, b3⟩, rfl⟩, ?_⟩
                  refine anyC_pure 19 rfl (by kernel_rfl) (by kernel_rfl) (by kernel_rfl) ⟨⟨_, b3⟩, rfl⟩ (fun K hK => ?_)
                  go_simp
                  refine hK _ ?_
                  clear hK K
                  refine anyC_pure 20 rfl (by kernel_rfl) (by kernel_rfl) (by kernel_rfl) ⟨⟨_, b3⟩, rfl⟩ (fun K hK => ?_)
                  go_simp
                  refine hK _ ?_
                  clear hK K
                  refine anyC_loud 21 (by kernel_rfl) ?_
                  refine lou_of rfl (fun K hK => ?_)
                  obtain ⟨fz, cz⟩ := FZ6.out s3 b3
                  go_simp
                  refine hK _ _ ⟨fun h => absurd rfl h, ?_⟩
                  clear hK K
                  refine anyC_done (by kernel_rfl) ?_
                  exact ⟨by kernel_rfl, _, FIN6.out _ s3 o3 b3⟩
                · refine lou_of rfl (fun K hK => ?_)
                  go_simp
                  refine hK _ _ ⟨fun _ => ⟨⟨_, (ALL6.out _ _)⟩, rfl⟩, ?_⟩
                  clear hK K
                  obtain ⟨v1, s1, v2, s2, v3, s3, r1, r2, r3, o3, c1, c2, c3⟩ := I6.out.2.1
                  obtain ⟨g3, p3, rfl⟩ := owns_pos o3 (by omega)
                  have b1 := BB6.out _ c1
                  have b2 := BB6.out _ c2
                  have b3 := BB6.out _ c3
                  refine anyC_loud 8 (by kernel_rfl) ?_
                  refine lou_append rfl rfl _ _ _ _ rfl _ _ rfl rfl (by exact r1) ?_
                  refine ⟨fun _ => ⟨⟨_, b1⟩, rfl⟩, ?_⟩
                  refine anyC_loud 11 (by kernel_rfl) ?_
                  refine lou_append rfl rfl _ _ _ _ rfl _ _ rfl rfl (by exact r2) ?_
                  refine ⟨fun _ => ⟨⟨_, b2⟩, rfl⟩, ?_⟩
                  refine anyC_loud 18 (by kernel_rfl) ?_
                  refine lou_append rfl rfl _ _ _ _ rfl _ _ rfl rfl (by exact r3) ?_
                  refine ⟨fun _ => ⟨⟨_, b3⟩, rfl⟩, ?_⟩
                  refine anyC_pure 19 rfl (by kernel_rfl) (by kernel_rfl) (by kernel_rfl) ⟨⟨_, b3⟩, rfl⟩ (fun K hK => ?_)
                  go_simp
                  refine hK _ ?_
                  clear hK K
                  refine anyC_pure 20 rfl (by kernel_rfl) (by kernel_rfl) (by kernel_rfl) ⟨⟨_, b3⟩, rfl⟩ (fun K hK => ?_)
                  go_simp
                  refine hK _ ?_
                  clear hK K
                  refine anyC_loud 21 (by kernel_rfl) ?_
                  refine lou_of rfl (fun K hK => ?_)
                  obtain ⟨fz, cz⟩ := FZ6.out s3 b3
                  go_simp
                  refine hK _ _ ⟨fun h => absurd rfl h, ?_⟩
                  clear hK K
                  refine anyC_done (by kernel_rfl) ?_
                  exact ⟨by kernel_rfl, _, FIN6.out _ s3 o3 b3⟩
              · refine lou_of rfl (fun K hK => ?_)
                go_simp
                refine hK _ _ ⟨fun _ => ⟨⟨_, (AL6.out _)⟩, rfl⟩, ?_⟩
                clear hK K
                refine anyC_loud 1 (by kernel_rfl) ?_
                refine lou_of rfl (fun K hK => ?_)
                go_simp
                refine hK _ _ ⟨fun _ => ⟨⟨_, (ALL6.out _ _)⟩, rfl⟩, ?_⟩
                clear hK K
                obtain ⟨v1, s1, v2, s2, v3, s3, r1, r2, r3, o3, c1, c2, c3⟩ := I6.out.2.2
                obtain ⟨g3, p3, rfl⟩ := owns_pos o3 (by omega)
                have b1 := BB6.out _ c1
                have b2 := BB6.out _ c2
                have b3 := BB6.out _ c3
                refine anyC_loud 8 (by kernel_rfl) ?_
                refine lou_append rfl rfl _ _ _ _ rfl _ _ rfl rfl (by exact r1) ?_
                refine ⟨fun _ => ⟨⟨_, b1⟩, rfl⟩, ?_⟩
                refine anyC_loud 11 (by kernel_rfl) ?_
                refine lou_append rfl rfl _ _ _ _ rfl _ _ rfl rfl (by exact r2) ?_
                refine ⟨fun _ => ⟨⟨_, b2⟩, rfl⟩, ?_⟩
                refine anyC_loud 18 (by kernel_rfl) ?_
                refine lou_append rfl rfl _ _ _ _ rfl _ _ rfl rfl (by exact r3) ?_
                refine ⟨fun _ => ⟨⟨_, b3⟩, rfl⟩, ?_⟩
                refine anyC_pure 19 rfl (by kernel_rfl) (by kernel_rfl) (by kernel_rfl) ⟨⟨_, b3⟩, rfl⟩ (fun K hK => ?_)
                go_simp
                refine hK _ ?_
                clear hK K
                refine anyC_pure 20 rfl (by kernel_rfl) (by kernel_rfl) (by kernel_rfl) ⟨⟨_, b3⟩, rfl⟩ (fun K hK => ?_)
                go_simp
                refine hK _ ?_
                clear hK K
                refine anyC_loud 21 (by kernel_rfl) ?_
                refine lou_of rfl (fun K hK => ?_)
                obtain ⟨fz, cz⟩ := FZ6.out s3 b3
                go_simp
                refine hK _ _ ⟨fun h => absurd rfl h, ?_⟩
                clear hK K
                refine anyC_done (by kernel_rfl) ?_
                exact ⟨by kernel_rfl, _, FIN6.out _ s3 o3 b3⟩
            case rest2 =>
              rintro a' w7 ⟨ha, v4, hR7, hM7, hO7⟩
              obtain ⟨y', hy⟩ : ∃ y' : Nat → Value, y' = fun j => a'.tmps.getD j undef := ⟨_, rfl⟩
              have ha2 : a' = { tmps := #[.pointer (some ⟨rb, 0, none⟩), (y' 1), (y' 2), .pointer (some ⟨w.heap.size, 0, none⟩), (y' 4), .int .i64 0, .int .i64 N, (y' 7), (y' 8), (y' 9), (y' 10), (y' 11), (y' 12), (y' 13), (y' 14), (y' 15), (y' 16), (y' 17), (y' 18), (y' 19), (y' 20), (y' 21), (y' 22), (y' 23), (y' 24), (y' 25), (y' 26), (y' 27), (y' 28), (y' 29), (y' 30), (y' 31), (y' 32), (y' 33), (y' 34), (y' 35), (y' 36), (y' 37), (y' 38), (y' 39), (y' 40), (y' 41), (y' 42), (y' 43), (y' 44), (y' 45), (y' 46), (y' 47), (y' 48), (y' 49), (y' 50), (y' 51), (y' 52), (y' 53), (y' 54), (y' 55), (y' 56), (y' 57), (y' 58), (y' 59), (y' 60), (y' 61), (y' 62), (y' 63), (y' 64), (y' 65), (y' 66), (y' 67), (y' 68), (y' 69), (y' 70), (y' 71), (y' 72), (y' 73), (y' 74), (y' 75), (y' 76), (y' 77), (y' 78), (y' 79), (y' 80), (y' 81), (y' 82), (y' 83), (y' 84), (y' 85), (y' 86), (y' 87), (y' 88), (y' 89), (y' 90), (y' 91), (y' 92), (y' 93), (y' 94), (y' 95), (y' 96), (y' 97), (y' 98), (y' 99), (y' 100), (y' 101), (y' 102), (y' 103), (y' 104), (y' 105), (y' 106), (y' 107), (y' 108), (y' 109), (y' 110), (y' 111), (y' 112), (y' 113), (y' 114)], defers := [] } := by rw [hy]; exact ha
              clear ha hy
              subst ha2
              rw [← HPM.out] at hR7
              have HR7 := toHidR hR7
              clear hR7
              go_wp2_with fail
              go_ret
              exact ⟨rfl, _, _, HR7.out, hM7, fun g hg => .inr (hO7 g hg)⟩
        · have hMp : 0 < M.length := List.length_pos_iff.2 hMe
          obtain ⟨p0, hp0⟩ : ∃ p0, M[0]? = some p0 := ⟨_, List.getElem?_eq_getElem hMp⟩
          obtain ⟨g, rfl, -, -⟩ := tL 0 p0.1 (by rw [List.getElem?_map, hp0]; rfl)
          obtain ⟨gh, oh, rfl, -⟩ := (HR.out w4 hb4).2.2.2.1 0 (p0.2 : Int) (by rw [List.getElem?_map, hp0]; rfl)
          clear hp0 hnil hMe
          have hkc : M.length ≤ cL := hcL
          have hkh : M.length ≤ cH := hcH
          by_cases hck : cL = M.length
          · subst hck
            by_cases hch : cH = M.length
            · subst hch
              obtain ⟨hR4, hI4, -⟩ := HR.out w4 hb4
              have HT := toHidR (refHeight_any rb io li icap _ M.length M.length _ w4 hR4.blk hI4 hl (by omega))
              clear hR4 hI4
              generalize nextH (lvls li) M.length = N at *
              have HPM := toHidR hPM
              clear hPM
              go_wp2_with fail
              refine HT.out.mono ?_
              rintro e w5 ⟨rfl, hb5⟩
              have hb51 : Below w1.heap.size w1 w5 := hb4.trans (hb5.mono hb4.size)
              have hbZ : ∀ z : Cl w5.heap.size w5, Below w1.heap.size w1 z.u := fun z => hb51.trans (z.h.mono hb51.size)
              have q1 := fun z : Cl w5.heap.size w5 => (HR.out z.u (hbZ z)).1.blk.cell 1 rfl
              have tz := fun z : Cl w5.heap.size w5 => (HR.out z.u (hbZ z)).2.2.2.2.1
              have d0 := fun z => (tz z).c0
              have d1 := fun z => (tz z).c1
              have d2 := fun z => (tz z).c2
              have d3 := fun z => (tz z).c3
              have d4 := fun z => (tz z).c4
              have d5 := fun z => (tz z).c5
              have d6 := fun z => (tz z).c6
              have d7 := fun z => (tz z).c7
              have d8 := fun z => (tz z).c8
              have d9 := fun z => (tz z).c9
              simp only [Nat.zero_add] at d0 d1 d2 d3 d4 d5 d6 d7 d8 d9
              haveI := Cl.inh w5.heap.size w5
              have HC5 : Hid (∃ p : Cl w5.heap.size w5, w5.drew = p.u) := ⟨⟨_, (Below.refl _ _).drew⟩, rfl⟩
              have AL5 : Hid (∀ o : Obj, Below w5.heap.size w5 (w5.drew.alloc o)) := fun o => ((Below.refl w5.heap.size w5).drew).alloc (Nat.le_refl _) o
              have ALL5 : Hid (∀ o o' : Obj, Below w5.heap.size w5 ((w5.drew.alloc o).alloc o')) := fun o o' => (AL5.out o).alloc (AL5.out o).size o'
              have BB5 : Hid (∀ s, Below w5.heap.size w5.drew s → Below w5.heap.size w5 s) := fun s hs => (Below.refl w5.heap.size w5).drew.trans hs
              have XL5 : Hid (∀ s, Below w5.heap.size w5 s → RfAt B s rb (.slice io li.length icap) M (.slice (some ⟨g, 0, none⟩) M.length M.length) (.slice (some ⟨gh, oh, none⟩) M.length M.length) ∧ XSees s (some ⟨g, 0, none⟩) (M.map Prod.fst) ∧ Below w.heap.size w s) := fun s hs => by
                have h0 := HR.out s (hb51.trans (hs.mono hb51.size))
                exact ⟨h0.1, h0.2.2.1, h0.2.2.2.2.2⟩
              have hml : (M.map Prod.fst).length = M.length := List.length_map _
              have SRA : ∀ s, Below w5.heap.size w5 s → Src Try.prog 10 23 (.slice (some ⟨g, 0, none⟩) M.length M.length) M.length (((M.map Prod.fst).take M.length).flatMap xs10) s := fun s hs => src_take (XL5.out s hs).2.1 (by omega) _
              have hdn : ((M.map Prod.fst).drop M.length).flatMap xs10 = [] := by rw [List.drop_of_length_le (by omega)]; rfl
              have SRC : ∀ s, Below w5.heap.size w5 s → Src Try.prog 10 23 (.slice (some ⟨g, 0, none⟩) 0 0) 0 (((M.map Prod.fst).drop M.length).flatMap xs10) s := fun s _ => by rw [hdn]; exact src_zero _ _
              clear hdn
              have I5 := toHidR (ins3 (k := 10) (bytes := 112) (t := 23) (e := 40) Try.underlying23 hi1 hy0 hy1 hy2 rfl w5.drew (.slice (some ⟨g, 0, none⟩) M.length M.length) (.slice (some ⟨g, 0, none⟩) 0 0) M.length 0 (((M.map Prod.fst).take M.length).flatMap xs10) (((M.map Prod.fst).drop M.length).flatMap xs10) (xs10 ⟨⟨ct, cp, cr, cc⟩, ⟨cti, cd, cl, ck, cn, cstr⟩⟩) #[.string ct, .string cp, .int .i64 cr, .string cc, .int .i64 cti, .bool cd, .int .i64 cl, .int .i64 ck, .int .i64 cn, .string cstr] (fun s hs => SRA s (BB5.out s hs)) (fun s hs => SRC s (BB5.out s hs)) (fun s b hb => src_box (c := ⟨⟨ct, cp, cr, cc⟩, ⟨cti, cd, cl, ck, cn, cstr⟩⟩) hb) (by omega) (by omega))
              have FZ5 : Hid (∀ s, Below w5.heap.size w5 s → s.frozen? ⟨rb, 1, none⟩ = false ∧ s.cell? ⟨rb, 1, none⟩ = some (.slice (some ⟨g, 0, none⟩) M.length M.length)) := fun s hs => ⟨frozen_at (XL5.out s hs).1.blk 1, (XL5.out s hs).1.blk.cell 1 rfl⟩
              have FIN5 : Hid (∀ v3 s3, s3.ownsRow w5.drew.heap.size 40 10 v3 (M.length + 1 + 0) (((M.map Prod.fst).take M.length).flatMap xs10 ++ xs10 ⟨⟨ct, cp, cr, cc⟩, ⟨cti, cd, cl, ck, cn, cstr⟩⟩ ++ ((M.map Prod.fst).drop M.length).flatMap xs10) → Below w5.heap.size w5 s3 → Mid B w (s3.setCell ⟨rb, 1, none⟩ v3) rb (.slice io li.length icap) (M.take M.length ++ [(⟨⟨ct, cp, cr, cc⟩, ⟨cti, cd, cl, ck, cn, cstr⟩⟩, N)] ++ M.drop M.length) M v3 (.slice (some ⟨gh, oh, none⟩) M.length M.length) ∧ TenX (s3.setCell ⟨rb, 1, none⟩ v3) w.heap.size 0 ⟨⟨ct, cp, cr, cc⟩, ⟨cti, cd, cl, ck, cn, cstr⟩⟩) := fun v3 s3 o3 b3 => by
                obtain ⟨hR, -, hBw⟩ := XL5.out s3 b3
                have ht := (HR.out s3 (hb51.trans (b3.mono hb51.size))).2.2.2.2.1
                exact mid_of hR hBw o3 (Nat.le_trans hBs (Nat.le_trans (by omega) hb51.size)) (Nat.le_trans (Nat.le_of_lt hw1s) hb51.size) (by rw [len_ins _ _ (by omega)]; omega) (xN_ins M M.length ⟨⟨ct, cp, cr, cc⟩, ⟨cti, cd, cl, ck, cn, cstr⟩⟩ N) ht hrbl
              clear tz hbZ
              go_wp2_with fail
              refine wp_region_C (fun w' => ∃ p : Cl w5.heap.size w5, w' = p.u) 21 (fun a' w' =>  a' = { tmps := #[.pointer (some ⟨rb, 0, none⟩), (a'.tmps.getD 1 undef), (a'.tmps.getD 2 undef), .pointer (some ⟨w.heap.size, 0, none⟩), (a'.tmps.getD 4 undef), .int .i64 M.length, .int .i64 N, (a'.tmps.getD 7 undef), (a'.tmps.getD 8 undef), (a'.tmps.getD 9 undef), (a'.tmps.getD 10 undef), (a'.tmps.getD 11 undef), (a'.tmps.getD 12 undef), (a'.tmps.getD 13 undef), (a'.tmps.getD 14 undef), (a'.tmps.getD 15 undef), (a'.tmps.getD 16 undef), (a'.tmps.getD 17 undef), (a'.tmps.getD 18 undef), (a'.tmps.getD 19 undef), (a'.tmps.getD 20 undef), (a'.tmps.getD 21 undef), (a'.tmps.getD 22 undef), (a'.tmps.getD 23 undef), (a'.tmps.getD 24 undef), (a'.tmps.getD 25 undef), (a'.tmps.getD 26 undef), (a'.tmps.getD 27 undef), (a'.tmps.getD 28 undef), (a'.tmps.getD 29 undef), (a'.tmps.getD 30 undef), (a'.tmps.getD 31 undef), (a'.tmps.getD 32 undef), (a'.tmps.getD 33 undef), (a'.tmps.getD 34 undef), (a'.tmps.getD 35 undef), (a'.tmps.getD 36 undef), (a'.tmps.getD 37 undef), (a'.tmps.getD 38 undef), (a'.tmps.getD 39 undef), (a'.tmps.getD 40 undef), (a'.tmps.getD 41 undef), (a'.tmps.getD 42 undef), (a'.tmps.getD 43 undef), (a'.tmps.getD 44 undef), (a'.tmps.getD 45 undef), (a'.tmps.getD 46 undef), (a'.tmps.getD 47 undef), (a'.tmps.getD 48 undef), (a'.tmps.getD 49 undef), (a'.tmps.getD 50 undef), (a'.tmps.getD 51 undef), (a'.tmps.getD 52 undef), (a'.tmps.getD 53 undef), (a'.tmps.getD 54 undef), (a'.tmps.getD 55 undef), (a'.tmps.getD 56 undef), (a'.tmps.getD 57 undef), (a'.tmps.getD 58 undef), (a'.tmps.getD 59 undef), (a'.tmps.getD 60 undef), (a'.tmps.getD 61 undef), (a'.tmps.getD 62 undef), (a'.tmps.getD 63 undef), (a'.tmps.getD 64 undef), (a'.tmps.getD 65 undef), (a'.tmps.getD 66 undef), (a'.tmps.getD 67 undef), (a'.tmps.getD 68 undef), (a'.tmps.getD 69 undef), (a'.tmps.getD 70 undef), (a'.tmps.getD 71 undef), (a'.tmps.getD 72 undef), (a'.tmps.getD 73 undef), (a'.tmps.getD 74 undef), (a'.tmps.getD 75 undef), (a'.tmps.getD 76 undef), (a'.tmps.getD 77 undef), (a'.tmps.getD 78 undef), (a'.tmps.getD 79 undef), (a'.tmps.getD 80 undef), (a'.tmps.getD 81 undef), (a'.tmps.getD 82 undef), (a'.tmps.getD 83 undef), (a'.tmps.getD 84 undef), (a'.tmps.getD 85 undef), (a'.tmps.getD 86 undef), (a'.tmps.getD 87 undef), (a'.tmps.getD 88 undef), (a'.tmps.getD 89 undef), (a'.tmps.getD 90 undef), (a'.tmps.getD 91 undef), (a'.tmps.getD 92 undef), (a'.tmps.getD 93 undef), (a'.tmps.getD 94 undef), (a'.tmps.getD 95 undef), (a'.tmps.getD 96 undef), (a'.tmps.getD 97 undef), (a'.tmps.getD 98 undef), (a'.tmps.getD 99 undef), (a'.tmps.getD 100 undef), (a'.tmps.getD 101 undef), (a'.tmps.getD 102 undef), (a'.tmps.getD 103 undef), (a'.tmps.getD 104 undef), (a'.tmps.getD 105 undef), (a'.tmps.getD 106 undef), (a'.tmps.getD 107 undef), (a'.tmps.getD 108 undef), (a'.tmps.getD 109 undef), (a'.tmps.getD 110 undef), (a'.tmps.getD 111 undef), (a'.tmps.getD 112 undef), (a'.tmps.getD 113 undef), (a'.tmps.getD 114 undef)], defers := [] } ∧ ∃ v3, Mid B w w' rb (.slice io li.length icap) (M.take M.length ++ [(⟨⟨ct, cp, cr, cc⟩, ⟨cti, cd, cl, ck, cn, cstr⟩⟩, N)] ++ M.drop M.length) M v3 (.slice (some ⟨gh, oh, none⟩) M.length M.length) ∧ TenX w' w.heap.size 0 ⟨⟨ct, cp, cr, cc⟩, ⟨cti, cd, cl, ck, cn, cstr⟩⟩) (by kernel_rfl) ?reg ?rest
              case reg =>
                refine anyC_pure 0 rfl (by kernel_rfl) (by kernel_rfl) (by kernel_rfl) HC5.out (fun K hK => ?_)
                go_simp
                refine hK _ ?_
                clear hK K
                refine anyC_pure 2 rfl (by kernel_rfl) (by kernel_rfl) (by kernel_rfl) HC5.out (fun K hK => ?_)
                go_simp
                refine hK _ ?_
                clear hK K
                refine anyC_pure 3 rfl (by kernel_rfl) (by kernel_rfl) (by kernel_rfl) HC5.out (fun K hK => ?_)
                go_simp
                refine hK _ ?_
                clear hK K
                refine anyC_pure 4 rfl (by kernel_rfl) (by kernel_rfl) (by kernel_rfl) HC5.out (fun K hK => ?_)
                go_simp
                refine hK _ ?_
                clear hK K
                refine anyC_pure 5 rfl (by kernel_rfl) (by kernel_rfl) (by kernel_rfl) HC5.out (fun K hK => ?_)
                go_simp
                refine hK _ ?_
                clear hK K
                refine anyC_pure 6 rfl (by kernel_rfl) (by kernel_rfl) (by kernel_rfl) HC5.out (fun K hK => ?_)
                go_simp
                refine hK _ ?_
                clear hK K
                refine anyC_pure 7 rfl (by kernel_rfl) (by kernel_rfl) (by kernel_rfl) HC5.out (fun K hK => ?_)
                go_simp
                refine hK _ ?_
                clear hK K
                refine anyC_pure 9 rfl (by kernel_rfl) (by kernel_rfl) (by kernel_rfl) HC5.out (fun K hK => ?_)
                go_simp
                refine hK _ ?_
                clear hK K
                refine anyC_pure 12 rfl (by kernel_rfl) (by kernel_rfl) (by kernel_rfl) HC5.out (fun K hK => ?_)
                go_simp
                refine hK _ ?_
                clear hK K
                refine anyC_pure 13 rfl (by kernel_rfl) (by kernel_rfl) (by kernel_rfl) HC5.out (fun K hK => ?_)
                go_simp
                refine hK _ ?_
                clear hK K
                refine anyC_pure 14 rfl (by kernel_rfl) (by kernel_rfl) (by kernel_rfl) HC5.out (fun K hK => ?_)
                go_simp
                refine hK _ ?_
                clear hK K
                refine anyC_pure 15 rfl (by kernel_rfl) (by kernel_rfl) (by kernel_rfl) HC5.out (fun K hK => ?_)
                go_simp
                refine hK _ ?_
                clear hK K
                refine anyC_pure 16 rfl (by kernel_rfl) (by kernel_rfl) (by kernel_rfl) HC5.out (fun K hK => ?_)
                go_simp
                refine hK _ ?_
                clear hK K
                refine anyC_pure 17 rfl (by kernel_rfl) (by kernel_rfl) (by kernel_rfl) HC5.out (fun K hK => ?_)
                go_simp
                refine hK _ ?_
                clear hK K
                refine anyC_loud2 1 10 (by kernel_rfl) ?_ ?_
                · refine lou_of rfl (fun K hK => ?_)
                  go_simp
                  refine hK _ _ ⟨fun _ => ⟨⟨_, (AL5.out _)⟩, rfl⟩, ?_⟩
                  clear hK K
                  refine anyC_loud2 8 10 (by kernel_rfl) ?_ ?_
                  · obtain ⟨v1, s1, v2, s2, v3, s3, r1, r2, r3, o3, c1, c2, c3⟩ := I5.out.1
                    obtain ⟨g3, p3, rfl⟩ := owns_pos o3 (by omega)
                    have b1 := BB5.out _ c1
                    have b2 := BB5.out _ c2
                    have b3 := BB5.out _ c3
                    refine lou_append rfl rfl _ _ _ _ rfl _ _ rfl rfl (by exact r1) ?_
                    refine ⟨fun _ => ⟨⟨_, b1⟩, rfl⟩, ?_⟩
                    refine anyC_loud 10 (by kernel_rfl) ?_
                    refine lou_of rfl (fun K hK => ?_)
                    go_simp
                    refine hK _ _ ⟨fun _ => ⟨⟨_, b1.alloc b1.size _⟩, rfl⟩, ?_⟩
                    clear hK K
                    refine anyC_loud 11 (by kernel_rfl) ?_
                    refine lou_append rfl rfl _ _ _ _ rfl _ _ rfl rfl (by exact r2) ?_
                    refine ⟨fun _ => ⟨⟨_, b2⟩, rfl⟩, ?_⟩
                    refine anyC_loud 18 (by kernel_rfl) ?_
                    refine lou_append rfl rfl _ _ _ _ rfl _ _ rfl rfl (by exact r3) ?_
                    refine ⟨fun _ => ⟨⟨_, b3⟩, rfl⟩, ?_⟩
                    refine anyC_pure 19 rfl (by kernel_rfl) (by kernel_rfl) (by kernel_rfl) ⟨⟨_, b3⟩, rfl⟩ (fun K hK => ?_)
                    go_simp
                    refine hK _ ?_
                    clear hK K
                    refine anyC_pure 20 rfl (by kernel_rfl) (by kernel_rfl) (by kernel_rfl) ⟨⟨_, b3⟩, rfl⟩ (fun K hK => ?_)
                    go_simp
                    refine hK _ ?_
                    clear hK K
                    refine anyC_loud 21 (by kernel_rfl) ?_
                    refine lou_of rfl (fun K hK => ?_)
                    obtain ⟨fz, cz⟩ := FZ5.out s3 b3
                    go_simp
                    refine hK _ _ ⟨fun h => absurd rfl h, ?_⟩
                    clear hK K
                    refine anyC_done (by kernel_rfl) ?_
                    exact ⟨by kernel_rfl, _, FIN5.out _ s3 o3 b3⟩
                  · refine lou_of rfl (fun K hK => ?_)
                    go_simp
                    refine hK _ _ ⟨fun _ => ⟨⟨_, (ALL5.out _ _)⟩, rfl⟩, ?_⟩
                    clear hK K
                    obtain ⟨v1, s1, v2, s2, v3, s3, r1, r2, r3, o3, c1, c2, c3⟩ := I5.out.2.1
                    obtain ⟨g3, p3, rfl⟩ := owns_pos o3 (by omega)
                    have b1 := BB5.out _ c1
                    have b2 := BB5.out _ c2
                    have b3 := BB5.out _ c3
                    refine anyC_loud 8 (by kernel_rfl) ?_
                    refine lou_append rfl rfl _ _ _ _ rfl _ _ rfl rfl (by exact r1) ?_
                    refine ⟨fun _ => ⟨⟨_, b1⟩, rfl⟩, ?_⟩
                    refine anyC_loud 11 (by kernel_rfl) ?_
                    refine lou_append rfl rfl _ _ _ _ rfl _ _ rfl rfl (by exact r2) ?_
                    refine ⟨fun _ => ⟨⟨_, b2⟩, rfl⟩, ?_⟩
                    refine anyC_loud 18 (by kernel_rfl) ?_
                    refine lou_append rfl rfl _ _ _ _ rfl _ _ rfl rfl (by exact r3) ?_
                    refine ⟨fun _ => ⟨⟨_, b3⟩, rfl⟩, ?_⟩
                    refine anyC_pure 19 rfl (by kernel_rfl) (by kernel_rfl) (by kernel_rfl) ⟨⟨_, b3⟩, rfl⟩ (fun K hK => ?_)
                    go_simp
                    refine hK _ ?_
                    clear hK K
                    refine anyC_pure 20 rfl (by kernel_rfl) (by kernel_rfl) (by kernel_rfl) ⟨⟨_, b3⟩, rfl⟩ (fun K hK => ?_)
                    go_simp
                    refine hK _ ?_
                    clear hK K
                    refine anyC_loud 21 (by kernel_rfl) ?_
                    refine lou_of rfl (fun K hK => ?_)
                    obtain ⟨fz, cz⟩ := FZ5.out s3 b3
                    go_simp
                    refine hK _ _ ⟨fun h => absurd rfl h, ?_⟩
                    clear hK K
                    refine anyC_done (by kernel_rfl) ?_
                    exact ⟨by kernel_rfl, _, FIN5.out _ s3 o3 b3⟩
                · refine lou_of rfl (fun K hK => ?_)
                  go_simp
                  refine hK _ _ ⟨fun _ => ⟨⟨_, (AL5.out _)⟩, rfl⟩, ?_⟩
                  clear hK K
                  refine anyC_loud 1 (by kernel_rfl) ?_
                  refine lou_of rfl (fun K hK => ?_)
                  go_simp
                  refine hK _ _ ⟨fun _ => ⟨⟨_, (ALL5.out _ _)⟩, rfl⟩, ?_⟩
                  clear hK K
                  obtain ⟨v1, s1, v2, s2, v3, s3, r1, r2, r3, o3, c1, c2, c3⟩ := I5.out.2.2
                  obtain ⟨g3, p3, rfl⟩ := owns_pos o3 (by omega)
                  have b1 := BB5.out _ c1
                  have b2 := BB5.out _ c2
                  have b3 := BB5.out _ c3
                  refine anyC_loud 8 (by kernel_rfl) ?_
                  refine lou_append rfl rfl _ _ _ _ rfl _ _ rfl rfl (by exact r1) ?_
                  refine ⟨fun _ => ⟨⟨_, b1⟩, rfl⟩, ?_⟩
                  refine anyC_loud 11 (by kernel_rfl) ?_
                  refine lou_append rfl rfl _ _ _ _ rfl _ _ rfl rfl (by exact r2) ?_
                  refine ⟨fun _ => ⟨⟨_, b2⟩, rfl⟩, ?_⟩
                  refine anyC_loud 18 (by kernel_rfl) ?_
                  refine lou_append rfl rfl _ _ _ _ rfl _ _ rfl rfl (by exact r3) ?_
                  refine ⟨fun _ => ⟨⟨_, b3⟩, rfl⟩, ?_⟩
                  refine anyC_pure 19 rfl (by kernel_rfl) (by kernel_rfl) (by kernel_rfl) ⟨⟨_, b3⟩, rfl⟩ (fun K hK => ?_)
                  go_simp
                  refine hK _ ?_
                  clear hK K
                  refine anyC_pure 20 rfl (by kernel_rfl) (by kernel_rfl) (by kernel_rfl) ⟨⟨_, b3⟩, rfl⟩ (fun K hK => ?_)
                  go_simp
                  refine hK _ ?_
                  clear hK K
                  refine anyC_loud 21 (by kernel_rfl) ?_
                  refine lou_of rfl (fun K hK => ?_)
                  obtain ⟨fz, cz⟩ := FZ5.out s3 b3
                  go_simp
                  refine hK _ _ ⟨fun h => absurd rfl h, ?_⟩
                  clear hK K
                  refine anyC_done (by kernel_rfl) ?_
                  exact ⟨by kernel_rfl, _, FIN5.out _ s3 o3 b3⟩
              case rest =>
                rintro a' w6 ⟨ha, v3, hMid, htc⟩
                obtain ⟨y, hy⟩ : ∃ y : Nat → Value, y = fun j => a'.tmps.getD j undef := ⟨_, rfl⟩
                have ha2 : a' = { tmps := #[.pointer (some ⟨rb, 0, none⟩), (y 1), (y 2), .pointer (some ⟨w.heap.size, 0, none⟩), (y 4), .int .i64 M.length, .int .i64 N, (y 7), (y 8), (y 9), (y 10), (y 11), (y 12), (y 13), (y 14), (y 15), (y 16), (y 17), (y 18), (y 19), (y 20), (y 21), (y 22), (y 23), (y 24), (y 25), (y 26), (y 27), (y 28), (y 29), (y 30), (y 31), (y 32), (y 33), (y 34), (y 35), (y 36), (y 37), (y 38), (y 39), (y 40), (y 41), (y 42), (y 43), (y 44), (y 45), (y 46), (y 47), (y 48), (y 49), (y 50), (y 51), (y 52), (y 53), (y 54), (y 55), (y 56), (y 57), (y 58), (y 59), (y 60), (y 61), (y 62), (y 63), (y 64), (y 65), (y 66), (y 67), (y 68), (y 69), (y 70), (y 71), (y 72), (y 73), (y 74), (y 75), (y 76), (y 77), (y 78), (y 79), (y 80), (y 81), (y 82), (y 83), (y 84), (y 85), (y 86), (y 87), (y 88), (y 89), (y 90), (y 91), (y 92), (y 93), (y 94), (y 95), (y 96), (y 97), (y 98), (y 99), (y 100), (y 101), (y 102), (y 103), (y 104), (y 105), (y 106), (y 107), (y 108), (y 109), (y 110), (y 111), (y 112), (y 113), (y 114)], defers := [] } := by rw [hy]; exact ha
                clear ha hy
                subst ha2
                clear q1 d0 d1 d2 d3 d4 d5 d6 d7 d8 d9 I5 FZ5 FIN5 HC5 AL5 ALL5 BB5
                obtain ⟨j1, hj1, hv0, hv1, hv2⟩ := infoX infoInt
                have hMl : Hid (∀ s, Below w6.heap.size w6 s → Mid B w s rb (.slice io li.length icap) (M.take M.length ++ [(⟨⟨ct, cp, cr, cc⟩, ⟨cti, cd, cl, ck, cn, cstr⟩⟩, N)] ++ M.drop M.length) M v3 (.slice (some ⟨gh, oh, none⟩) M.length M.length)) := fun s hs => hMid.below hs
                obtain ⟨av, cv, hav, hIv⟩ := owns_isees hMid.H
                have hIs : ISees w6 (some ⟨gh, oh, none⟩) (M.map fun p => (p.2 : Int)) := by
                  injection hav with e1 _ _
                  rw [e1]; exact hIv
                have hil : (M.map fun p => (p.2 : Int)).length = M.length := List.length_map _
                have p2 : ∀ z : Cl w6.heap.size w6, z.u.cell? ⟨rb, 2, none⟩ = some (.slice (some ⟨gh, oh, none⟩) M.length M.length) := fun z => (hMl.out z.u z.h).blk.cell 2 rfl
                haveI := Cl.inh w6.heap.size w6
                have HC6 : Hid (∃ p : Cl w6.heap.size w6, w6.drew = p.u) := ⟨⟨_, (Below.refl _ _).drew⟩, rfl⟩
                have AL6 : Hid (∀ o : Obj, Below w6.heap.size w6 (w6.drew.alloc o)) := fun o => ((Below.refl w6.heap.size w6).drew).alloc (Nat.le_refl _) o
                have ALL6 : Hid (∀ o o' : Obj, Below w6.heap.size w6 ((w6.drew.alloc o).alloc o')) := fun o o' => (AL6.out o).alloc (AL6.out o).size o'
                have BB6 : Hid (∀ s, Below w6.heap.size w6.drew s → Below w6.heap.size w6 s) := fun s hs => (Below.refl w6.heap.size w6).drew.trans hs
                have HRA : ∀ s, Below w6.heap.size w6 s → Src Try.prog 1 22 (.slice (some ⟨gh, oh, none⟩) M.length M.length) M.length (vI ((M.map fun p => (p.2 : Int)).take M.length)) s := fun s hs => srcI_take (hIs.below hs (Nat.le_refl _)) (by omega) _
                have hdh : vI ((M.map fun p => (p.2 : Int)).drop M.length) = [] := by rw [List.drop_of_length_le (by omega)]; rfl
                have HRC : ∀ s, Below w6.heap.size w6 s → Src Try.prog 1 22 (.slice (some ⟨gh, oh, none⟩) 0 0) 0 (vI ((M.map fun p => (p.2 : Int)).drop M.length)) s := fun s _ => by rw [hdh]; exact srcI_zero _ _
                clear hdh
                have I6 := toHidR (ins3 (k := 1) (bytes := 8) (t := 22) (e := 3) Try.underlying22 hj1 hv0 hv1 hv2 rfl w6.drew (.slice (some ⟨gh, oh, none⟩) M.length M.length) (.slice (some ⟨gh, oh, none⟩) 0 0) M.length 0 (vI ((M.map fun p => (p.2 : Int)).take M.length)) (vI ((M.map fun p => (p.2 : Int)).drop M.length)) (vI [(N : Int)]) #[.int .i64 (N : Int)] (fun s hs => HRA s (BB6.out s hs)) (fun s hs => HRC s (BB6.out s hs)) (fun s b hb => srcI_box hb) (by omega) (by omega))
                have FZ6 : Hid (∀ s, Below w6.heap.size w6 s → s.frozen? ⟨rb, 2, none⟩ = false ∧ s.cell? ⟨rb, 2, none⟩ = some (.slice (some ⟨gh, oh, none⟩) M.length M.length)) := fun s hs => ⟨frozen_at (hMl.out s hs).blk 2, (hMl.out s hs).blk.cell 2 rfl⟩
                have FIN6 : Hid (∀ v4 s4, s4.ownsRow w6.drew.heap.size 3 1 v4 (M.length + 1 + 0) (vI ((M.map fun p => (p.2 : Int)).take M.length) ++ vI [(N : Int)] ++ vI ((M.map fun p => (p.2 : Int)).drop M.length)) → Below w6.heap.size w6 s4 → RfAt B (s4.setCell ⟨rb, 2, none⟩ v4) rb (.slice io li.length icap) (M.take M.length ++ [(⟨⟨ct, cp, cr, cc⟩, ⟨cti, cd, cl, ck, cn, cstr⟩⟩, N)] ++ M.drop M.length) v3 v4 ∧ Moved w (s4.setCell ⟨rb, 2, none⟩ v4) (rft rb (.slice (some ⟨g, 0, none⟩) M.length M.length)) (rft rb v3) ∧ ∀ g, v4.ownBlock = some g → w.heap.size ≤ g) := fun v4 s4 o4 b4 =>
                  fin_of (hMl.out s4 b4) o4 (Nat.le_trans hBs hMid.size) hMid.size (by rw [len_ins _ _ (by omega)]; omega) (vN_ins M M.length ⟨⟨ct, cp, cr, cc⟩, ⟨cti, cd, cl, ck, cn, cstr⟩⟩ N) (by simp)
                clear hIs hIv hav hil
                go_wp2_with fail
                refine wp_region_C (fun w' => ∃ p : Cl w6.heap.size w6, w' = p.u) 21 (fun a' w' =>  a' = { tmps := #[.pointer (some ⟨rb, 0, none⟩), (a'.tmps.getD 1 undef), (a'.tmps.getD 2 undef), .pointer (some ⟨w.heap.size, 0, none⟩), (a'.tmps.getD 4 undef), .int .i64 M.length, .int .i64 N, (a'.tmps.getD 7 undef), (a'.tmps.getD 8 undef), (a'.tmps.getD 9 undef), (a'.tmps.getD 10 undef), (a'.tmps.getD 11 undef), (a'.tmps.getD 12 undef), (a'.tmps.getD 13 undef), (a'.tmps.getD 14 undef), (a'.tmps.getD 15 undef), (a'.tmps.getD 16 undef), (a'.tmps.getD 17 undef), (a'.tmps.getD 18 undef), (a'.tmps.getD 19 undef), (a'.tmps.getD 20 undef), (a'.tmps.getD 21 undef), (a'.tmps.getD 22 undef), (a'.tmps.getD 23 undef), (a'.tmps.getD 24 undef), (a'.tmps.getD 25 undef), (a'.tmps.getD 26 undef), (a'.tmps.getD 27 undef), (a'.tmps.getD 28 undef), (a'.tmps.getD 29 undef), (a'.tmps.getD 30 undef), (a'.tmps.getD 31 undef), (a'.tmps.getD 32 undef), (a'.tmps.getD 33 undef), (a'.tmps.getD 34 undef), (a'.tmps.getD 35 undef), (a'.tmps.getD 36 undef), (a'.tmps.getD 37 undef), (a'.tmps.getD 38 undef), (a'.tmps.getD 39 undef), (a'.tmps.getD 40 undef), (a'.tmps.getD 41 undef), (a'.tmps.getD 42 undef), (a'.tmps.getD 43 undef), (a'.tmps.getD 44 undef), (a'.tmps.getD 45 undef), (a'.tmps.getD 46 undef), (a'.tmps.getD 47 undef), (a'.tmps.getD 48 undef), (a'.tmps.getD 49 undef), (a'.tmps.getD 50 undef), (a'.tmps.getD 51 undef), (a'.tmps.getD 52 undef), (a'.tmps.getD 53 undef), (a'.tmps.getD 54 undef), (a'.tmps.getD 55 undef), (a'.tmps.getD 56 undef), (a'.tmps.getD 57 undef), (a'.tmps.getD 58 undef), (a'.tmps.getD 59 undef), (a'.tmps.getD 60 undef), (a'.tmps.getD 61 undef), (a'.tmps.getD 62 undef), (a'.tmps.getD 63 undef), (a'.tmps.getD 64 undef), (a'.tmps.getD 65 undef), (a'.tmps.getD 66 undef), (a'.tmps.getD 67 undef), (a'.tmps.getD 68 undef), (a'.tmps.getD 69 undef), (a'.tmps.getD 70 undef), (a'.tmps.getD 71 undef), (a'.tmps.getD 72 undef), (a'.tmps.getD 73 undef), (a'.tmps.getD 74 undef), (a'.tmps.getD 75 undef), (a'.tmps.getD 76 undef), (a'.tmps.getD 77 undef), (a'.tmps.getD 78 undef), (a'.tmps.getD 79 undef), (a'.tmps.getD 80 undef), (a'.tmps.getD 81 undef), (a'.tmps.getD 82 undef), (a'.tmps.getD 83 undef), (a'.tmps.getD 84 undef), (a'.tmps.getD 85 undef), (a'.tmps.getD 86 undef), (a'.tmps.getD 87 undef), (a'.tmps.getD 88 undef), (a'.tmps.getD 89 undef), (a'.tmps.getD 90 undef), (a'.tmps.getD 91 undef), (a'.tmps.getD 92 undef), (a'.tmps.getD 93 undef), (a'.tmps.getD 94 undef), (a'.tmps.getD 95 undef), (a'.tmps.getD 96 undef), (a'.tmps.getD 97 undef), (a'.tmps.getD 98 undef), (a'.tmps.getD 99 undef), (a'.tmps.getD 100 undef), (a'.tmps.getD 101 undef), (a'.tmps.getD 102 undef), (a'.tmps.getD 103 undef), (a'.tmps.getD 104 undef), (a'.tmps.getD 105 undef), (a'.tmps.getD 106 undef), (a'.tmps.getD 107 undef), (a'.tmps.getD 108 undef), (a'.tmps.getD 109 undef), (a'.tmps.getD 110 undef), (a'.tmps.getD 111 undef), (a'.tmps.getD 112 undef), (a'.tmps.getD 113 undef), (a'.tmps.getD 114 undef)], defers := [] } ∧ ∃ v4, RfAt B w' rb (.slice io li.length icap) (M.take M.length ++ [(⟨⟨ct, cp, cr, cc⟩, ⟨cti, cd, cl, ck, cn, cstr⟩⟩, N)] ++ M.drop M.length) v3 v4 ∧ Moved w w' (rft rb (.slice (some ⟨g, 0, none⟩) M.length M.length)) (rft rb v3) ∧ ∀ g, v4.ownBlock = some g → w.heap.size ≤ g) (by kernel_rfl) ?reg2 ?rest2
                case reg2 =>
                  refine anyC_pure 0 rfl (by kernel_rfl) (by kernel_rfl) (by kernel_rfl) HC6.out (fun K hK => ?_)
                  go_simp
                  refine hK _ ?_
                  clear hK K
                  refine anyC_pure 2 rfl (by kernel_rfl) (by kernel_rfl) (by kernel_rfl) HC6.out (fun K hK => ?_)
                  go_simp
                  refine hK _ ?_
                  clear hK K
                  refine anyC_pure 3 rfl (by kernel_rfl) (by kernel_rfl) (by kernel_rfl) HC6.out (fun K hK => ?_)
                  go_simp
                  refine hK _ ?_
                  clear hK K
                  refine anyC_pure 4 rfl (by kernel_rfl) (by kernel_rfl) (by kernel_rfl) HC6.out (fun K hK => ?_)
                  go_simp
                  refine hK _ ?_
                  clear hK K
                  refine anyC_pure 5 rfl (by kernel_rfl) (by kernel_rfl) (by kernel_rfl) HC6.out (fun K hK => ?_)
                  go_simp
                  refine hK _ ?_
                  clear hK K
                  refine anyC_pure 6 rfl (by kernel_rfl) (by kernel_rfl) (by kernel_rfl) HC6.out (fun K hK => ?_)
                  go_simp
                  refine hK _ ?_
                  clear hK K
                  refine anyC_pure 7 rfl (by kernel_rfl) (by kernel_rfl) (by kernel_rfl) HC6.out (fun K hK => ?_)
                  go_simp
                  refine hK _ ?_
                  clear hK K
                  refine anyC_pure 9 rfl (by kernel_rfl) (by kernel_rfl) (by kernel_rfl) HC6.out (fun K hK => ?_)
                  go_simp
                  refine hK _ ?_
                  clear hK K
                  refine anyC_pure 12 rfl (by kernel_rfl) (by kernel_rfl) (by kernel_rfl) HC6.out (fun K hK => ?_)
                  go_simp
                  refine hK _ ?_
                  clear hK K
                  refine anyC_pure 13 rfl (by kernel_rfl) (by kernel_rfl) (by kernel_rfl) HC6.out (fun K hK => ?_)
                  go_simp
                  refine hK _ ?_
                  clear hK K
                  refine anyC_pure 14 rfl (by kernel_rfl) (by kernel_rfl) (by kernel_rfl) HC6.out (fun K hK => ?_)
                  go_simp
                  refine hK _ ?_
                  clear hK K
                  refine anyC_pure 15 rfl (by kernel_rfl) (by kernel_rfl) (by kernel_rfl) HC6.out (fun K hK => ?_)
                  go_simp
                  refine hK _ ?_
                  clear hK K
                  refine anyC_pure 16 rfl (by kernel_rfl) (by kernel_rfl) (by kernel_rfl) HC6.out (fun K hK => ?_)
                  go_simp
                  refine hK _ ?_
                  clear hK K
                  refine anyC_pure 17 rfl (by kernel_rfl) (by kernel_rfl) (by kernel_rfl) HC6.out (fun K hK => ?_)
                  go_simp
                  refine hK _ ?_
                  clear hK K
                  refine anyC_loud2 1 10 (by kernel_rfl) ?_ ?_
                  · refine lou_of rfl (fun K hK => ?_)
                    go_simp
                    refine hK _ _ ⟨fun _ => ⟨⟨_, (AL6.out _)⟩, rfl⟩, ?_⟩
                    clear hK K
                    refine anyC_loud2 8 10 (by kernel_rfl) ?_ ?_
                    · obtain ⟨v1, s1, v2, s2, v3, s3, r1, r2, r3, o3, c1, c2, c3⟩ := I6.out.1
                      obtain ⟨g3, p3, rfl⟩ := owns_pos o3 (by omega)
                      have b1 := BB6.out _ c1
                      have b2 := BB6.out _ c2
                      have b3 := BB6.out _ c3
                      refine lou_append rfl rfl _ _ _ _ rfl _ _ rfl rfl (by exact r1) ?_
                      refine ⟨fun _ => ⟨⟨_, b1⟩, rfl⟩, ?_⟩
                      refine anyC_loud 10 (by kernel_rfl) ?_
                      refine lou_of rfl (fun K hK => ?_)
                      go_simp
                      refine hK _ _ ⟨fun _ => ⟨⟨_, b1.alloc b1.size _⟩, rfl⟩, ?_⟩
                      clear hK K
                      refine anyC_loud 11 (by kernel_rfl) ?_
                      refine lou_append rfl rfl _ _ _ _ rfl _ _ rfl rfl (by exact r2) ?_
                      refine ⟨fun _ => ⟨⟨_, b2⟩, rfl⟩, ?_⟩
                      refine anyC_loud 18 (by kernel_rfl) ?_
                      refine lou_append rfl rfl _ _ _ _ rfl _ _ rfl rfl (by exact r3) ?_
                      refine ⟨fun _ => ⟨⟨_, b3⟩, rfl⟩, ?_⟩
                      refine anyC_pure 19 rfl (by kernel_rfl) (by kernel_rfl) (by kernel_rfl) ⟨⟨_, b3⟩, rfl⟩ (fun K hK => ?_)
                      go_simp
                      refine hK _ ?_
                      clear hK K
                      refine anyC_pure 20 rfl (by kernel_rfl) (by kernel_rfl) (by kernel_rfl) ⟨⟨_, b3⟩, rfl⟩ (fun K hK => ?_)
                      go_simp
                      refine hK _ ?_
                      clear hK K
                      refine anyC_loud 21 (by kernel_rfl) ?_
                      refine lou_of rfl (fun K hK => ?_)
                      obtain ⟨fz, cz⟩ := FZ6.out s3 b3
                      go_simp
                      refine hK _ _ ⟨fun h => absurd rfl h, ?_⟩
                      clear hK K
                      refine anyC_done (by kernel_rfl) ?_
                      exact ⟨by kernel_rfl, _, FIN6.out _ s3 o3 b3⟩
                    · refine lou_of rfl (fun K hK => ?_)
                      go_simp
                      refine hK _ _ ⟨fun _ => ⟨⟨_, (ALL6.out _ _)⟩, rfl⟩, ?_⟩
                      clear hK K
                      obtain ⟨v1, s1, v2, s2, v3, s3, r1, r2, r3, o3, c1, c2, c3⟩ := I6.out.2.1
                      obtain ⟨g3, p3, rfl⟩ := owns_pos o3 (by omega)
                      have b1 := BB6.out _ c1
                      have b2 := BB6.out _ c2
                      have b3 := BB6.out _ c3
                      refine anyC_loud 8 (by kernel_rfl) ?_
                      refine lou_append rfl rfl _ _ _ _ rfl _ _ rfl rfl (by exact r1) ?_
                      refine ⟨fun _ => ⟨⟨_, b1⟩, rfl⟩, ?_⟩
                      refine anyC_loud 11 (by kernel_rfl) ?_
                      refine lou_append rfl rfl _ _ _ _ rfl _ _ rfl rfl (by exact r2) ?_
                      refine ⟨fun _ => ⟨⟨_, b2⟩, rfl⟩, ?_⟩
                      refine anyC_loud 18 (by kernel_rfl) ?_
                      refine lou_append rfl rfl _ _ _ _ rfl _ _ rfl rfl (by exact r3) ?_
                      refine ⟨fun _ => ⟨⟨_, b3⟩, rfl⟩, ?_⟩
                      refine anyC_pure 19 rfl (by kernel_rfl) (by kernel_rfl) (by kernel_rfl) ⟨⟨_, b3⟩, rfl⟩ (fun K hK => ?_)
                      go_simp
                      refine hK _ ?_
                      clear hK K
                      refine anyC_pure 20 rfl (by kernel_rfl) (by kernel_rfl) (by kernel_rfl) ⟨⟨_, b3⟩, rfl⟩ (fun K hK => ?_)
                      go_simp
                      refine hK _ ?_
                      clear hK K
                      refine anyC_loud 21 (by kernel_rfl) ?_
                      refine lou_of rfl (fun K hK => ?_)
                      obtain ⟨fz, cz⟩ := FZ6.out s3 b3
                      go_simp
                      refine hK _ _ ⟨fun h => absurd rfl h, ?_⟩
                      clear hK K
                      refine anyC_done (by kernel_rfl) ?_
                      exact ⟨by kernel_rfl, _, FIN6.out _ s3 o3 b3⟩
                  · refine lou_of rfl (fun K hK => ?_)
                    go_simp
                    refine hK _ _ ⟨fun _ => ⟨⟨_, (AL6.out _)⟩, rfl⟩, ?_⟩
                    clear hK K
                    refine anyC_loud 1 (by kernel_rfl) ?_
                    refine lou_of rfl (fun K hK => ?_)
                    go_simp
                    refine hK _ _ ⟨fun _ => ⟨⟨_, (ALL6.out _ _)⟩, rfl⟩, ?_⟩
                    clear hK K
                    obtain ⟨v1, s1, v2, s2, v3, s3, r1, r2, r3, o3, c1, c2, c3⟩ := I6.out.2.2
                    obtain ⟨g3, p3, rfl⟩ := owns_pos o3 (by omega)
                    have b1 := BB6.out _ c1
                    have b2 := BB6.out _ c2
                    have b3 := BB6.out _ c3
                    refine anyC_loud 8 (by kernel_rfl) ?_
                    refine lou_append rfl rfl _ _ _ _ rfl _ _ rfl rfl (by exact r1) ?_
                    refine ⟨fun _ => ⟨⟨_, b1⟩, rfl⟩, ?_⟩
                    refine anyC_loud 11 (by kernel_rfl) ?_
                    refine lou_append rfl rfl _ _ _ _ rfl _ _ rfl rfl (by exact r2) ?_
                    refine ⟨fun _ => ⟨⟨_, b2⟩, rfl⟩, ?_⟩
                    refine anyC_loud 18 (by kernel_rfl) ?_
                    refine lou_append rfl rfl _ _ _ _ rfl _ _ rfl rfl (by exact r3) ?_
                    refine ⟨fun _ => ⟨⟨_, b3⟩, rfl⟩, ?_⟩
                    refine anyC_pure 19 rfl (by kernel_rfl) (by kernel_rfl) (by kernel_rfl) ⟨⟨_, b3⟩, rfl⟩ (fun K hK => ?_)
                    go_simp
                    refine hK _ ?_
                    clear hK K
                    refine anyC_pure 20 rfl (by kernel_rfl) (by kernel_rfl) (by kernel_rfl) ⟨⟨_, b3⟩, rfl⟩ (fun K hK => ?_)
                    go_simp
                    refine hK _ ?_
                    clear hK K
                    refine anyC_loud 21 (by kernel_rfl) ?_
                    refine lou_of rfl (fun K hK => ?_)
                    obtain ⟨fz, cz⟩ := FZ6.out s3 b3
                    go_simp
                    refine hK _ _ ⟨fun h => absurd rfl h, ?_⟩
                    clear hK K
                    refine anyC_done (by kernel_rfl) ?_
                    exact ⟨by kernel_rfl, _, FIN6.out _ s3 o3 b3⟩
                case rest2 =>
                  rintro a' w7 ⟨ha, v4, hR7, hM7, hO7⟩
                  obtain ⟨y', hy⟩ : ∃ y' : Nat → Value, y' = fun j => a'.tmps.getD j undef := ⟨_, rfl⟩
                  have ha2 : a' = { tmps := #[.pointer (some ⟨rb, 0, none⟩), (y' 1), (y' 2), .pointer (some ⟨w.heap.size, 0, none⟩), (y' 4), .int .i64 M.length, .int .i64 N, (y' 7), (y' 8), (y' 9), (y' 10), (y' 11), (y' 12), (y' 13), (y' 14), (y' 15), (y' 16), (y' 17), (y' 18), (y' 19), (y' 20), (y' 21), (y' 22), (y' 23), (y' 24), (y' 25), (y' 26), (y' 27), (y' 28), (y' 29), (y' 30), (y' 31), (y' 32), (y' 33), (y' 34), (y' 35), (y' 36), (y' 37), (y' 38), (y' 39), (y' 40), (y' 41), (y' 42), (y' 43), (y' 44), (y' 45), (y' 46), (y' 47), (y' 48), (y' 49), (y' 50), (y' 51), (y' 52), (y' 53), (y' 54), (y' 55), (y' 56), (y' 57), (y' 58), (y' 59), (y' 60), (y' 61), (y' 62), (y' 63), (y' 64), (y' 65), (y' 66), (y' 67), (y' 68), (y' 69), (y' 70), (y' 71), (y' 72), (y' 73), (y' 74), (y' 75), (y' 76), (y' 77), (y' 78), (y' 79), (y' 80), (y' 81), (y' 82), (y' 83), (y' 84), (y' 85), (y' 86), (y' 87), (y' 88), (y' 89), (y' 90), (y' 91), (y' 92), (y' 93), (y' 94), (y' 95), (y' 96), (y' 97), (y' 98), (y' 99), (y' 100), (y' 101), (y' 102), (y' 103), (y' 104), (y' 105), (y' 106), (y' 107), (y' 108), (y' 109), (y' 110), (y' 111), (y' 112), (y' 113), (y' 114)], defers := [] } := by rw [hy]; exact ha
                  clear ha hy
                  subst ha2
                  rw [← HPM.out] at hR7
                  have HR7 := toHidR hR7
                  clear hR7
                  go_wp2_with fail
                  go_ret
                  exact ⟨rfl, _, _, HR7.out, hM7, fun g hg => .inr (hO7 g hg)⟩
            · skip
              obtain ⟨hR4, hI4, -⟩ := HR.out w4 hb4
              have HT := toHidR (refHeight_any rb io li icap _ M.length M.length _ w4 hR4.blk hI4 hl (by omega))
              clear hR4 hI4
              generalize nextH (lvls li) M.length = N at *
              have HPM := toHidR hPM
              clear hPM
              go_wp2_with fail
              refine HT.out.mono ?_
              rintro e w5 ⟨rfl, hb5⟩
              have hb51 : Below w1.heap.size w1 w5 := hb4.trans (hb5.mono hb4.size)
              have hbZ : ∀ z : Cl w5.heap.size w5, Below w1.heap.size w1 z.u := fun z => hb51.trans (z.h.mono hb51.size)
              have q1 := fun z : Cl w5.heap.size w5 => (HR.out z.u (hbZ z)).1.blk.cell 1 rfl
              have tz := fun z : Cl w5.heap.size w5 => (HR.out z.u (hbZ z)).2.2.2.2.1
              have d0 := fun z => (tz z).c0
              have d1 := fun z => (tz z).c1
              have d2 := fun z => (tz z).c2
              have d3 := fun z => (tz z).c3
              have d4 := fun z => (tz z).c4
              have d5 := fun z => (tz z).c5
              have d6 := fun z => (tz z).c6
              have d7 := fun z => (tz z).c7
              have d8 := fun z => (tz z).c8
              have d9 := fun z => (tz z).c9
              simp only [Nat.zero_add] at d0 d1 d2 d3 d4 d5 d6 d7 d8 d9
              haveI := Cl.inh w5.heap.size w5
              have HC5 : Hid (∃ p : Cl w5.heap.size w5, w5.drew = p.u) := ⟨⟨_, (Below.refl _ _).drew⟩, rfl⟩
              have AL5 : Hid (∀ o : Obj, Below w5.heap.size w5 (w5.drew.alloc o)) := fun o => ((Below.refl w5.heap.size w5).drew).alloc (Nat.le_refl _) o
              have ALL5 : Hid (∀ o o' : Obj, Below w5.heap.size w5 ((w5.drew.alloc o).alloc o')) := fun o o' => (AL5.out o).alloc (AL5.out o).size o'
              have BB5 : Hid (∀ s, Below w5.heap.size w5.drew s → Below w5.heap.size w5 s) := fun s hs => (Below.refl w5.heap.size w5).drew.trans hs
              have XL5 : Hid (∀ s, Below w5.heap.size w5 s → RfAt B s rb (.slice io li.length icap) M (.slice (some ⟨g, 0, none⟩) M.length M.length) (.slice (some ⟨gh, oh, none⟩) M.length cH) ∧ XSees s (some ⟨g, 0, none⟩) (M.map Prod.fst) ∧ Below w.heap.size w s) := fun s hs => by
                have h0 := HR.out s (hb51.trans (hs.mono hb51.size))
                exact ⟨h0.1, h0.2.2.1, h0.2.2.2.2.2⟩
              have hml : (M.map Prod.fst).length = M.length := List.length_map _
              have SRA : ∀ s, Below w5.heap.size w5 s → Src Try.prog 10 23 (.slice (some ⟨g, 0, none⟩) M.length M.length) M.length (((M.map Prod.fst).take M.length).flatMap xs10) s := fun s hs => src_take (XL5.out s hs).2.1 (by omega) _
              have hdn : ((M.map Prod.fst).drop M.length).flatMap xs10 = [] := by rw [List.drop_of_length_le (by omega)]; rfl
              have SRC : ∀ s, Below w5.heap.size w5 s → Src Try.prog 10 23 (.slice (some ⟨g, 0, none⟩) 0 0) 0 (((M.map Prod.fst).drop M.length).flatMap xs10) s := fun s _ => by rw [hdn]; exact src_zero _ _
              clear hdn
              have I5 := toHidR (ins3 (k := 10) (bytes := 112) (t := 23) (e := 40) Try.underlying23 hi1 hy0 hy1 hy2 rfl w5.drew (.slice (some ⟨g, 0, none⟩) M.length M.length) (.slice (some ⟨g, 0, none⟩) 0 0) M.length 0 (((M.map Prod.fst).take M.length).flatMap xs10) (((M.map Prod.fst).drop M.length).flatMap xs10) (xs10 ⟨⟨ct, cp, cr, cc⟩, ⟨cti, cd, cl, ck, cn, cstr⟩⟩) #[.string ct, .string cp, .int .i64 cr, .string cc, .int .i64 cti, .bool cd, .int .i64 cl, .int .i64 ck, .int .i64 cn, .string cstr] (fun s hs => SRA s (BB5.out s hs)) (fun s hs => SRC s (BB5.out s hs)) (fun s b hb => src_box (c := ⟨⟨ct, cp, cr, cc⟩, ⟨cti, cd, cl, ck, cn, cstr⟩⟩) hb) (by omega) (by omega))
              have FZ5 : Hid (∀ s, Below w5.heap.size w5 s → s.frozen? ⟨rb, 1, none⟩ = false ∧ s.cell? ⟨rb, 1, none⟩ = some (.slice (some ⟨g, 0, none⟩) M.length M.length)) := fun s hs => ⟨frozen_at (XL5.out s hs).1.blk 1, (XL5.out s hs).1.blk.cell 1 rfl⟩
              have FIN5 : Hid (∀ v3 s3, s3.ownsRow w5.drew.heap.size 40 10 v3 (M.length + 1 + 0) (((M.map Prod.fst).take M.length).flatMap xs10 ++ xs10 ⟨⟨ct, cp, cr, cc⟩, ⟨cti, cd, cl, ck, cn, cstr⟩⟩ ++ ((M.map Prod.fst).drop M.length).flatMap xs10) → Below w5.heap.size w5 s3 → Mid B w (s3.setCell ⟨rb, 1, none⟩ v3) rb (.slice io li.length icap) (M.take M.length ++ [(⟨⟨ct, cp, cr, cc⟩, ⟨cti, cd, cl, ck, cn, cstr⟩⟩, N)] ++ M.drop M.length) M v3 (.slice (some ⟨gh, oh, none⟩) M.length cH) ∧ TenX (s3.setCell ⟨rb, 1, none⟩ v3) w.heap.size 0 ⟨⟨ct, cp, cr, cc⟩, ⟨cti, cd, cl, ck, cn, cstr⟩⟩) := fun v3 s3 o3 b3 => by
                obtain ⟨hR, -, hBw⟩ := XL5.out s3 b3
                have ht := (HR.out s3 (hb51.trans (b3.mono hb51.size))).2.2.2.2.1
                exact mid_of hR hBw o3 (Nat.le_trans hBs (Nat.le_trans (by omega) hb51.size)) (Nat.le_trans (Nat.le_of_lt hw1s) hb51.size) (by rw [len_ins _ _ (by omega)]; omega) (xN_ins M M.length ⟨⟨ct, cp, cr, cc⟩, ⟨cti, cd, cl, ck, cn, cstr⟩⟩ N) ht hrbl
              clear tz hbZ
              go_wp2_with fail
              refine wp_region_C (fun w' => ∃ p : Cl w5.heap.size w5, w' = p.u) 21 (fun a' w' =>  a' = { tmps := #[.pointer (some ⟨rb, 0, none⟩), (a'.tmps.getD 1 undef), (a'.tmps.getD 2 undef), .pointer (some ⟨w.heap.size, 0, none⟩), (a'.tmps.getD 4 undef), .int .i64 M.length, .int .i64 N, (a'.tmps.getD 7 undef), (a'.tmps.getD 8 undef), (a'.tmps.getD 9 undef), (a'.tmps.getD 10 undef), (a'.tmps.getD 11 undef), (a'.tmps.getD 12 undef), (a'.tmps.getD 13 undef), (a'.tmps.getD 14 undef), (a'.tmps.getD 15 undef), (a'.tmps.getD 16 undef), (a'.tmps.getD 17 undef), (a'.tmps.getD 18 undef), (a'.tmps.getD 19 undef), (a'.tmps.getD 20 undef), (a'.tmps.getD 21 undef), (a'.tmps.getD 22 undef), (a'.tmps.getD 23 undef), (a'.tmps.getD 24 undef), (a'.tmps.getD 25 undef), (a'.tmps.getD 26 undef), (a'.tmps.getD 27 undef), (a'.tmps.getD 28 undef), (a'.tmps.getD 29 undef), (a'.tmps.getD 30 undef), (a'.tmps.getD 31 undef), (a'.tmps.getD 32 undef), (a'.tmps.getD 33 undef), (a'.tmps.getD 34 undef), (a'.tmps.getD 35 undef), (a'.tmps.getD 36 undef), (a'.tmps.getD 37 undef), (a'.tmps.getD 38 undef), (a'.tmps.getD 39 undef), (a'.tmps.getD 40 undef), (a'.tmps.getD 41 undef), (a'.tmps.getD 42 undef), (a'.tmps.getD 43 undef), (a'.tmps.getD 44 undef), (a'.tmps.getD 45 undef), (a'.tmps.getD 46 undef), (a'.tmps.getD 47 undef), (a'.tmps.getD 48 undef), (a'.tmps.getD 49 undef), (a'.tmps.getD 50 undef), (a'.tmps.getD 51 undef), (a'.tmps.getD 52 undef), (a'.tmps.getD 53 undef), (a'.tmps.getD 54 undef), (a'.tmps.getD 55 undef), (a'.tmps.getD 56 undef), (a'.tmps.getD 57 undef), (a'.tmps.getD 58 undef), (a'.tmps.getD 59 undef), (a'.tmps.getD 60 undef), (a'.tmps.getD 61 undef), (a'.tmps.getD 62 undef), (a'.tmps.getD 63 undef), (a'.tmps.getD 64 undef), (a'.tmps.getD 65 undef), (a'.tmps.getD 66 undef), (a'.tmps.getD 67 undef), (a'.tmps.getD 68 undef), (a'.tmps.getD 69 undef), (a'.tmps.getD 70 undef), (a'.tmps.getD 71 undef), (a'.tmps.getD 72 undef), (a'.tmps.getD 73 undef), (a'.tmps.getD 74 undef), (a'.tmps.getD 75 undef), (a'.tmps.getD 76 undef), (a'.tmps.getD 77 undef), (a'.tmps.getD 78 undef), (a'.tmps.getD 79 undef), (a'.tmps.getD 80 undef), (a'.tmps.getD 81 undef), (a'.tmps.getD 82 undef), (a'.tmps.getD 83 undef), (a'.tmps.getD 84 undef), (a'.tmps.getD 85 undef), (a'.tmps.getD 86 undef), (a'.tmps.getD 87 undef), (a'.tmps.getD 88 undef), (a'.tmps.getD 89 undef), (a'.tmps.getD 90 undef), (a'.tmps.getD 91 undef), (a'.tmps.getD 92 undef), (a'.tmps.getD 93 undef), (a'.tmps.getD 94 undef), (a'.tmps.getD 95 undef), (a'.tmps.getD 96 undef), (a'.tmps.getD 97 undef), (a'.tmps.getD 98 undef), (a'.tmps.getD 99 undef), (a'.tmps.getD 100 undef), (a'.tmps.getD 101 undef), (a'.tmps.getD 102 undef), (a'.tmps.getD 103 undef), (a'.tmps.getD 104 undef), (a'.tmps.getD 105 undef), (a'.tmps.getD 106 undef), (a'.tmps.getD 107 undef), (a'.tmps.getD 108 undef), (a'.tmps.getD 109 undef), (a'.tmps.getD 110 undef), (a'.tmps.getD 111 undef), (a'.tmps.getD 112 undef), (a'.tmps.getD 113 undef), (a'.tmps.getD 114 undef)], defers := [] } ∧ ∃ v3, Mid B w w' rb (.slice io li.length icap) (M.take M.length ++ [(⟨⟨ct, cp, cr, cc⟩, ⟨cti, cd, cl, ck, cn, cstr⟩⟩, N)] ++ M.drop M.length) M v3 (.slice (some ⟨gh, oh, none⟩) M.length cH) ∧ TenX w' w.heap.size 0 ⟨⟨ct, cp, cr, cc⟩, ⟨cti, cd, cl, ck, cn, cstr⟩⟩) (by kernel_rfl) ?reg ?rest
              case reg =>
                refine anyC_pure 0 rfl (by kernel_rfl) (by kernel_rfl) (by kernel_rfl) HC5.out (fun K hK => ?_)
                go_simp
                refine hK _ ?_
                clear hK K
                refine anyC_pure 2 rfl (by kernel_rfl) (by kernel_rfl) (by kernel_rfl) HC5.out (fun K hK => ?_)
                go_simp
                refine hK _ ?_
                clear hK K
                refine anyC_pure 3 rfl (by kernel_rfl) (by kernel_rfl) (by kernel_rfl) HC5.out (fun K hK => ?_)
                go_simp
                refine hK _ ?_
                clear hK K
                refine anyC_pure 4 rfl (by kernel_rfl) (by kernel_rfl) (by kernel_rfl) HC5.out (fun K hK => ?_)
                go_simp
                refine hK _ ?_
                clear hK K
                refine anyC_pure 5 rfl (by kernel_rfl) (by kernel_rfl) (by kernel_rfl) HC5.out (fun K hK => ?_)
                go_simp
                refine hK _ ?_
                clear hK K
                refine anyC_pure 6 rfl (by kernel_rfl) (by kernel_rfl) (by kernel_rfl) HC5.out (fun K hK => ?_)
                go_simp
                refine hK _ ?_
                clear hK K
                refine anyC_pure 7 rfl (by kernel_rfl) (by kernel_rfl) (by kernel_rfl) HC5.out (fun K hK => ?_)
                go_simp
                refine hK _ ?_
                clear hK K
                refine anyC_pure 9 rfl (by kernel_rfl) (by kernel_rfl) (by kernel_rfl) HC5.out (fun K hK => ?_)
                go_simp
                refine hK _ ?_
                clear hK K
                refine anyC_pure 12 rfl (by kernel_rfl) (by kernel_rfl) (by kernel_rfl) HC5.out (fun K hK => ?_)
                go_simp
                refine hK _ ?_
                clear hK K
                refine anyC_pure 13 rfl (by kernel_rfl) (by kernel_rfl) (by kernel_rfl) HC5.out (fun K hK => ?_)
                go_simp
                refine hK _ ?_
                clear hK K
                refine anyC_pure 14 rfl (by kernel_rfl) (by kernel_rfl) (by kernel_rfl) HC5.out (fun K hK => ?_)
                go_simp
                refine hK _ ?_
                clear hK K
                refine anyC_pure 15 rfl (by kernel_rfl) (by kernel_rfl) (by kernel_rfl) HC5.out (fun K hK => ?_)
                go_simp
                refine hK _ ?_
                clear hK K
                refine anyC_pure 16 rfl (by kernel_rfl) (by kernel_rfl) (by kernel_rfl) HC5.out (fun K hK => ?_)
                go_simp
                refine hK _ ?_
                clear hK K
                refine anyC_pure 17 rfl (by kernel_rfl) (by kernel_rfl) (by kernel_rfl) HC5.out (fun K hK => ?_)
                go_simp
                refine hK _ ?_
                clear hK K
                refine anyC_loud2 1 10 (by kernel_rfl) ?_ ?_
                · refine lou_of rfl (fun K hK => ?_)
                  go_simp
                  refine hK _ _ ⟨fun _ => ⟨⟨_, (AL5.out _)⟩, rfl⟩, ?_⟩
                  clear hK K
                  refine anyC_loud2 8 10 (by kernel_rfl) ?_ ?_
                  · obtain ⟨v1, s1, v2, s2, v3, s3, r1, r2, r3, o3, c1, c2, c3⟩ := I5.out.1
                    obtain ⟨g3, p3, rfl⟩ := owns_pos o3 (by omega)
                    have b1 := BB5.out _ c1
                    have b2 := BB5.out _ c2
                    have b3 := BB5.out _ c3
                    refine lou_append rfl rfl _ _ _ _ rfl _ _ rfl rfl (by exact r1) ?_
                    refine ⟨fun _ => ⟨⟨_, b1⟩, rfl⟩, ?_⟩
                    refine anyC_loud 10 (by kernel_rfl) ?_
                    refine lou_of rfl (fun K hK => ?_)
                    go_simp
                    refine hK _ _ ⟨fun _ => ⟨⟨_, b1.alloc b1.size _⟩, rfl⟩, ?_⟩
                    clear hK K
                    refine anyC_loud 11 (by kernel_rfl) ?_
                    refine lou_append rfl rfl _ _ _ _ rfl _ _ rfl rfl (by exact r2) ?_
                    refine ⟨fun _ => ⟨⟨_, b2⟩, rfl⟩, ?_⟩
                    refine anyC_loud 18 (by kernel_rfl) ?_
                    refine lou_append rfl rfl _ _ _ _ rfl _ _ rfl rfl (by exact r3) ?_
                    refine ⟨fun _ => ⟨⟨_, b3⟩, rfl⟩, ?_⟩
                    refine anyC_pure 19 rfl (by kernel_rfl) (by kernel_rfl) (by kernel_rfl) ⟨⟨_, b3⟩, rfl⟩ (fun K hK => ?_)
                    go_simp
                    refine hK _ ?_
                    clear hK K
                    refine anyC_pure 20 rfl (by kernel_rfl) (by kernel_rfl) (by kernel_rfl) ⟨⟨_, b3⟩, rfl⟩ (fun K hK => ?_)
                    go_simp
                    refine hK _ ?_
                    clear hK K
                    refine anyC_loud 21 (by kernel_rfl) ?_
                    refine lou_of rfl (fun K hK => ?_)
                    obtain ⟨fz, cz⟩ := FZ5.out s3 b3
                    go_simp
                    refine hK _ _ ⟨fun h => absurd rfl h, ?_⟩
                    clear hK K
                    refine anyC_done (by kernel_rfl) ?_
                    exact ⟨by kernel_rfl, _, FIN5.out _ s3 o3 b3⟩
                  · refine lou_of rfl (fun K hK => ?_)
                    go_simp
                    refine hK _ _ ⟨fun _ => ⟨⟨_, (ALL5.out _ _)⟩, rfl⟩, ?_⟩
                    clear hK K
                    obtain ⟨v1, s1, v2, s2, v3, s3, r1, r2, r3, o3, c1, c2, c3⟩ := I5.out.2.1
                    obtain ⟨g3, p3, rfl⟩ := owns_pos o3 (by omega)
                    have b1 := BB5.out _ c1
                    have b2 := BB5.out _ c2
                    have b3 := BB5.out _ c3
                    refine anyC_loud 8 (by kernel_rfl) ?_
                    refine lou_append rfl rfl _ _ _ _ rfl _ _ rfl rfl (by exact r1) ?_
                    refine ⟨fun _ => ⟨⟨_, b1⟩, rfl⟩, ?_⟩
                    refine anyC_loud 11 (by kernel_rfl) ?_
                    refine lou_append rfl rfl _ _ _ _ rfl _ _ rfl rfl (by exact r2) ?_
                    refine ⟨fun _ => ⟨⟨_, b2⟩, rfl⟩, ?_⟩
                    refine anyC_loud 18 (by kernel_rfl) ?_
                    refine lou_append rfl rfl _ _ _ _ rfl _ _ rfl rfl (by exact r3) ?_
                    refine ⟨fun _ => ⟨⟨_, b3⟩, rfl⟩, ?_⟩
                    refine anyC_pure 19 rfl (by kernel_rfl) (by kernel_rfl) (by kernel_rfl) ⟨⟨_, b3⟩, rfl⟩ (fun K hK => ?_)
                    go_simp
                    refine hK _ ?_
                    clear hK K
                    refine anyC_pure 20 rfl (by kernel_rfl) (by kernel_rfl) (by kernel_rfl) ⟨⟨_, b3⟩, rfl⟩ (fun K hK => ?_)
                    go_simp
                    refine hK _ ?_
                    clear hK K
                    refine anyC_loud 21 (by kernel_rfl) ?_
                    refine lou_of rfl (fun K hK => ?_)
                    obtain ⟨fz, cz⟩ := FZ5.out s3 b3
                    go_simp
                    refine hK _ _ ⟨fun h => absurd rfl h, ?_⟩
                    clear hK K
                    refine anyC_done (by kernel_rfl) ?_
                    exact ⟨by kernel_rfl, _, FIN5.out _ s3 o3 b3⟩
                · refine lou_of rfl (fun K hK => ?_)
                  go_simp
                  refine hK _ _ ⟨fun _ => ⟨⟨_, (AL5.out _)⟩, rfl⟩, ?_⟩
                  clear hK K
                  refine anyC_loud 1 (by kernel_rfl) ?_
                  refine lou_of rfl (fun K hK => ?_)
                  go_simp
                  refine hK _ _ ⟨fun _ => ⟨⟨_, (ALL5.out _ _)⟩, rfl⟩, ?_⟩
                  clear hK K
                  obtain ⟨v1, s1, v2, s2, v3, s3, r1, r2, r3, o3, c1, c2, c3⟩ := I5.out.2.2
                  obtain ⟨g3, p3, rfl⟩ := owns_pos o3 (by omega)
                  have b1 := BB5.out _ c1
                  have b2 := BB5.out _ c2
                  have b3 := BB5.out _ c3
                  refine anyC_loud 8 (by kernel_rfl) ?_
                  refine lou_append rfl rfl _ _ _ _ rfl _ _ rfl rfl (by exact r1) ?_
                  refine ⟨fun _ => ⟨⟨_, b1⟩, rfl⟩, ?_⟩
                  refine anyC_loud 11 (by kernel_rfl) ?_
                  refine lou_append rfl rfl _ _ _ _ rfl _ _ rfl rfl (by exact r2) ?_
                  refine ⟨fun _ => ⟨⟨_, b2⟩, rfl⟩, ?_⟩
                  refine anyC_loud 18 (by kernel_rfl) ?_
                  refine lou_append rfl rfl _ _ _ _ rfl _ _ rfl rfl (by exact r3) ?_
                  refine ⟨fun _ => ⟨⟨_, b3⟩, rfl⟩, ?_⟩
                  refine anyC_pure 19 rfl (by kernel_rfl) (by kernel_rfl) (by kernel_rfl) ⟨⟨_, b3⟩, rfl⟩ (fun K hK => ?_)
                  go_simp
                  refine hK _ ?_
                  clear hK K
                  refine anyC_pure 20 rfl (by kernel_rfl) (by kernel_rfl) (by kernel_rfl) ⟨⟨_, b3⟩, rfl⟩ (fun K hK => ?_)
                  go_simp
                  refine hK _ ?_
                  clear hK K
                  refine anyC_loud 21 (by kernel_rfl) ?_
                  refine lou_of rfl (fun K hK => ?_)
                  obtain ⟨fz, cz⟩ := FZ5.out s3 b3
                  go_simp
                  refine hK _ _ ⟨fun h => absurd rfl h, ?_⟩
                  clear hK K
                  refine anyC_done (by kernel_rfl) ?_
                  exact ⟨by kernel_rfl, _, FIN5.out _ s3 o3 b3⟩
              case rest =>
                rintro a' w6 ⟨ha, v3, hMid, htc⟩
                obtain ⟨y, hy⟩ : ∃ y : Nat → Value, y = fun j => a'.tmps.getD j undef := ⟨_, rfl⟩
                have ha2 : a' = { tmps := #[.pointer (some ⟨rb, 0, none⟩), (y 1), (y 2), .pointer (some ⟨w.heap.size, 0, none⟩), (y 4), .int .i64 M.length, .int .i64 N, (y 7), (y 8), (y 9), (y 10), (y 11), (y 12), (y 13), (y 14), (y 15), (y 16), (y 17), (y 18), (y 19), (y 20), (y 21), (y 22), (y 23), (y 24), (y 25), (y 26), (y 27), (y 28), (y 29), (y 30), (y 31), (y 32), (y 33), (y 34), (y 35), (y 36), (y 37), (y 38), (y 39), (y 40), (y 41), (y 42), (y 43), (y 44), (y 45), (y 46), (y 47), (y 48), (y 49), (y 50), (y 51), (y 52), (y 53), (y 54), (y 55), (y 56), (y 57), (y 58), (y 59), (y 60), (y 61), (y 62), (y 63), (y 64), (y 65), (y 66), (y 67), (y 68), (y 69), (y 70), (y 71), (y 72), (y 73), (y 74), (y 75), (y 76), (y 77), (y 78), (y 79), (y 80), (y 81), (y 82), (y 83), (y 84), (y 85), (y 86), (y 87), (y 88), (y 89), (y 90), (y 91), (y 92), (y 93), (y 94), (y 95), (y 96), (y 97), (y 98), (y 99), (y 100), (y 101), (y 102), (y 103), (y 104), (y 105), (y 106), (y 107), (y 108), (y 109), (y 110), (y 111), (y 112), (y 113), (y 114)], defers := [] } := by rw [hy]; exact ha
                clear ha hy
                subst ha2
                clear q1 d0 d1 d2 d3 d4 d5 d6 d7 d8 d9 I5 FZ5 FIN5 HC5 AL5 ALL5 BB5
                obtain ⟨j1, hj1, hv0, hv1, hv2⟩ := infoX infoInt
                have hMl : Hid (∀ s, Below w6.heap.size w6 s → Mid B w s rb (.slice io li.length icap) (M.take M.length ++ [(⟨⟨ct, cp, cr, cc⟩, ⟨cti, cd, cl, ck, cn, cstr⟩⟩, N)] ++ M.drop M.length) M v3 (.slice (some ⟨gh, oh, none⟩) M.length cH)) := fun s hs => hMid.below hs
                obtain ⟨av, cv, hav, hIv⟩ := owns_isees hMid.H
                have hIs : ISees w6 (some ⟨gh, oh, none⟩) (M.map fun p => (p.2 : Int)) := by
                  injection hav with e1 _ _
                  rw [e1]; exact hIv
                have hil : (M.map fun p => (p.2 : Int)).length = M.length := List.length_map _
                have p2 : ∀ z : Cl w6.heap.size w6, z.u.cell? ⟨rb, 2, none⟩ = some (.slice (some ⟨gh, oh, none⟩) M.length cH) := fun z => (hMl.out z.u z.h).blk.cell 2 rfl
                haveI := Cl.inh w6.heap.size w6
                have HC6 : Hid (∃ p : Cl w6.heap.size w6, w6.drew = p.u) := ⟨⟨_, (Below.refl _ _).drew⟩, rfl⟩
                have AL6 : Hid (∀ o : Obj, Below w6.heap.size w6 (w6.drew.alloc o)) := fun o => ((Below.refl w6.heap.size w6).drew).alloc (Nat.le_refl _) o
                have ALL6 : Hid (∀ o o' : Obj, Below w6.heap.size w6 ((w6.drew.alloc o).alloc o')) := fun o o' => (AL6.out o).alloc (AL6.out o).size o'
                have BB6 : Hid (∀ s, Below w6.heap.size w6.drew s → Below w6.heap.size w6 s) := fun s hs => (Below.refl w6.heap.size w6).drew.trans hs
                have HRA : ∀ s, Below w6.heap.size w6 s → Src Try.prog 1 22 (.slice (some ⟨gh, oh, none⟩) M.length cH) M.length (vI ((M.map fun p => (p.2 : Int)).take M.length)) s := fun s hs => srcI_take (hIs.below hs (Nat.le_refl _)) (by omega) _
                have hdh : vI ((M.map fun p => (p.2 : Int)).drop M.length) = [] := by rw [List.drop_of_length_le (by omega)]; rfl
                have HRC : ∀ s, Below w6.heap.size w6 s → Src Try.prog 1 22 (.slice (some ⟨gh, oh + M.length, none⟩) 0 (cH - M.length)) 0 (vI ((M.map fun p => (p.2 : Int)).drop M.length)) s := fun s _ => by rw [hdh]; exact srcI_zero _ _
                clear hdh
                have I6 := toHidR (ins3 (k := 1) (bytes := 8) (t := 22) (e := 3) Try.underlying22 hj1 hv0 hv1 hv2 rfl w6.drew (.slice (some ⟨gh, oh, none⟩) M.length cH) (.slice (some ⟨gh, oh + M.length, none⟩) 0 (cH - M.length)) M.length 0 (vI ((M.map fun p => (p.2 : Int)).take M.length)) (vI ((M.map fun p => (p.2 : Int)).drop M.length)) (vI [(N : Int)]) #[.int .i64 (N : Int)] (fun s hs => HRA s (BB6.out s hs)) (fun s hs => HRC s (BB6.out s hs)) (fun s b hb => srcI_box hb) (by omega) (by omega))
                have FZ6 : Hid (∀ s, Below w6.heap.size w6 s → s.frozen? ⟨rb, 2, none⟩ = false ∧ s.cell? ⟨rb, 2, none⟩ = some (.slice (some ⟨gh, oh, none⟩) M.length cH)) := fun s hs => ⟨frozen_at (hMl.out s hs).blk 2, (hMl.out s hs).blk.cell 2 rfl⟩
                have FIN6 : Hid (∀ v4 s4, s4.ownsRow w6.drew.heap.size 3 1 v4 (M.length + 1 + 0) (vI ((M.map fun p => (p.2 : Int)).take M.length) ++ vI [(N : Int)] ++ vI ((M.map fun p => (p.2 : Int)).drop M.length)) → Below w6.heap.size w6 s4 → RfAt B (s4.setCell ⟨rb, 2, none⟩ v4) rb (.slice io li.length icap) (M.take M.length ++ [(⟨⟨ct, cp, cr, cc⟩, ⟨cti, cd, cl, ck, cn, cstr⟩⟩, N)] ++ M.drop M.length) v3 v4 ∧ Moved w (s4.setCell ⟨rb, 2, none⟩ v4) (rft rb (.slice (some ⟨g, 0, none⟩) M.length M.length)) (rft rb v3) ∧ ∀ g, v4.ownBlock = some g → w.heap.size ≤ g) := fun v4 s4 o4 b4 =>
                  fin_of (hMl.out s4 b4) o4 (Nat.le_trans hBs hMid.size) hMid.size (by rw [len_ins _ _ (by omega)]; omega) (vN_ins M M.length ⟨⟨ct, cp, cr, cc⟩, ⟨cti, cd, cl, ck, cn, cstr⟩⟩ N) (by simp)
                clear hIs hIv hav hil
                go_wp2_with fail
                refine wp_region_C (fun w' => ∃ p : Cl w6.heap.size w6, w' = p.u) 21 (fun a' w' =>  a' = { tmps := #[.pointer (some ⟨rb, 0, none⟩), (a'.tmps.getD 1 undef), (a'.tmps.getD 2 undef), .pointer (some ⟨w.heap.size, 0, none⟩), (a'.tmps.getD 4 undef), .int .i64 M.length, .int .i64 N, (a'.tmps.getD 7 undef), (a'.tmps.getD 8 undef), (a'.tmps.getD 9 undef), (a'.tmps.getD 10 undef), (a'.tmps.getD 11 undef), (a'.tmps.getD 12 undef), (a'.tmps.getD 13 undef), (a'.tmps.getD 14 undef), (a'.tmps.getD 15 undef), (a'.tmps.getD 16 undef), (a'.tmps.getD 17 undef), (a'.tmps.getD 18 undef), (a'.tmps.getD 19 undef), (a'.tmps.getD 20 undef), (a'.tmps.getD 21 undef), (a'.tmps.getD 22 undef), (a'.tmps.getD 23 undef), (a'.tmps.getD 24 undef), (a'.tmps.getD 25 undef), (a'.tmps.getD 26 undef), (a'.tmps.getD 27 undef), (a'.tmps.getD 28 undef), (a'.tmps.getD 29 undef), (a'.tmps.getD 30 undef), (a'.tmps.getD 31 undef), (a'.tmps.getD 32 undef), (a'.tmps.getD 33 undef), (a'.tmps.getD 34 undef), (a'.tmps.getD 35 undef), (a'.tmps.getD 36 undef), (a'.tmps.getD 37 undef), (a'.tmps.getD 38 undef), (a'.tmps.getD 39 undef), (a'.tmps.getD 40 undef), (a'.tmps.getD 41 undef), (a'.tmps.getD 42 undef), (a'.tmps.getD 43 undef), (a'.tmps.getD 44 undef), (a'.tmps.getD 45 undef), (a'.tmps.getD 46 undef), (a'.tmps.getD 47 undef), (a'.tmps.getD 48 undef), (a'.tmps.getD 49 undef), (a'.tmps.getD 50 undef), (a'.tmps.getD 51 undef), (a'.tmps.getD 52 undef), (a'.tmps.getD 53 undef), (a'.tmps.getD 54 undef), (a'.tmps.getD 55 undef), (a'.tmps.getD 56 undef), (a'.tmps.getD 57 undef), (a'.tmps.getD 58 undef), (a'.tmps.getD 59 undef), (a'.tmps.getD 60 undef), (a'.tmps.getD 61 undef), (a'.tmps.getD 62 undef), (a'.tmps.getD 63 undef), (a'.tmps.getD 64 undef), (a'.tmps.getD 65 undef), (a'.tmps.getD 66 undef), (a'.tmps.getD 67 undef), (a'.tmps.getD 68 undef), (a'.tmps.getD 69 undef), (a'.tmps.getD 70 undef), (a'.tmps.getD 71 undef), (a'.tmps.getD 72 undef), (a'.tmps.getD 73 undef), (a'.tmps.getD 74 undef), (a'.tmps.getD 75 undef), (a'.tmps.getD 76 undef), (a'.tmps.getD 77 undef), (a'.tmps.getD 78 undef), (a'.tmps.getD 79 undef), (a'.tmps.getD 80 undef), (a'.tmps.getD 81 undef), (a'.tmps.getD 82 undef), (a'.tmps.getD 83 undef), (a'.tmps.getD 84 undef), (a'.tmps.getD 85 undef), (a'.tmps.getD 86 undef), (a'.tmps.getD 87 undef), (a'.tmps.getD 88 undef), (a'.tmps.getD 89 undef), (a'.tmps.getD 90 undef), (a'.tmps.getD 91 undef), (a'.tmps.getD 92 undef), (a'.tmps.getD 93 undef), (a'.tmps.getD 94 undef), (a'.tmps.getD 95 undef), (a'.tmps.getD 96 undef), (a'.tmps.getD 97 undef), (a'.tmps.getD 98 undef), (a'.tmps.getD 99 undef), (a'.tmps.getD 100 undef), (a'.tmps.getD 101 undef), (a'.tmps.getD 102 undef), (a'.tmps.getD 103 undef), (a'.tmps.getD 104 undef), (a'.tmps.getD 105 undef), (a'.tmps.getD 106 undef), (a'.tmps.getD 107 undef), (a'.tmps.getD 108 undef), (a'.tmps.getD 109 undef), (a'.tmps.getD 110 undef), (a'.tmps.getD 111 undef), (a'.tmps.getD 112 undef), (a'.tmps.getD 113 undef), (a'.tmps.getD 114 undef)], defers := [] } ∧ ∃ v4, RfAt B w' rb (.slice io li.length icap) (M.take M.length ++ [(⟨⟨ct, cp, cr, cc⟩, ⟨cti, cd, cl, ck, cn, cstr⟩⟩, N)] ++ M.drop M.length) v3 v4 ∧ Moved w w' (rft rb (.slice (some ⟨g, 0, none⟩) M.length M.length)) (rft rb v3) ∧ ∀ g, v4.ownBlock = some g → w.heap.size ≤ g) (by kernel_rfl) ?reg2 ?rest2
                case reg2 =>
                  refine anyC_pure 0 rfl (by kernel_rfl) (by kernel_rfl) (by kernel_rfl) HC6.out (fun K hK => ?_)
                  go_simp
                  refine hK _ ?_
                  clear hK K
                  refine anyC_pure 2 rfl (by kernel_rfl) (by kernel_rfl) (by kernel_rfl) HC6.out (fun K hK => ?_)
                  go_simp
                  refine hK _ ?_
                  clear hK K
                  refine anyC_pure 3 rfl (by kernel_rfl) (by kernel_rfl) (by kernel_rfl) HC6.out (fun K hK => ?_)
                  go_simp
                  refine hK _ ?_
                  clear hK K
                  refine anyC_pure 4 rfl (by kernel_rfl) (by kernel_rfl) (by kernel_rfl) HC6.out (fun K hK => ?_)
                  go_simp
                  refine hK _ ?_
                  clear hK K
                  refine anyC_pure 5 rfl (by kernel_rfl) (by kernel_rfl) (by kernel_rfl) HC6.out (fun K hK => ?_)
                  go_simp
                  refine hK _ ?_
                  clear hK K
                  refine anyC_pure 6 rfl (by kernel_rfl) (by kernel_rfl) (by kernel_rfl) HC6.out (fun K hK => ?_)
                  go_simp
                  refine hK _ ?_
                  clear hK K
                  refine anyC_pure 7 rfl (by kernel_rfl) (by kernel_rfl) (by kernel_rfl) HC6.out (fun K hK => ?_)
                  go_simp
                  refine hK _ ?_
                  clear hK K
                  refine anyC_pure 9 rfl (by kernel_rfl) (by kernel_rfl) (by kernel_rfl) HC6.out (fun K hK => ?_)
                  go_simp
                  refine hK _ ?_
                  clear hK K
                  refine anyC_pure 12 rfl (by kernel_rfl) (by kernel_rfl) (by kernel_rfl) HC6.out (fun K hK => ?_)
                  go_simp
                  refine hK _ ?_
                  clear hK K
                  refine anyC_pure 13 rfl (by kernel_rfl) (by kernel_rfl) (by kernel_rfl) HC6.out (fun K hK => ?_)
                  go_simp
                  refine hK _ ?_
                  clear hK K
                  refine anyC_pure 14 rfl (by kernel_rfl) (by kernel_rfl) (by kernel_rfl) HC6.out (fun K hK => ?_)
                  go_simp
                  refine hK _ ?_
                  clear hK K
                  refine anyC_pure 15 rfl (by kernel_rfl) (by kernel_rfl) (by kernel_rfl) HC6.out (fun K hK => ?_)
                  go_simp
                  refine hK _ ?_
                  clear hK K
                  refine anyC_pure 16 rfl (by kernel_rfl) (by kernel_rfl) (by kernel_rfl) HC6.out (fun K hK => ?_)
                  go_simp
                  refine hK _ ?_
                  clear hK K
                  refine anyC_pure 17 rfl (by kernel_rfl) (by kernel_rfl) (by kernel_rfl) HC6.out (fun K hK => ?_)
                  go_simp
                  refine hK _ ?_
                  clear hK K
                  refine anyC_loud2 1 10 (by kernel_rfl) ?_ ?_
                  · refine lou_of rfl (fun K hK => ?_)
                    go_simp
                    refine hK _ _ ⟨fun _ => ⟨⟨_, (AL6.out _)⟩, rfl⟩, ?_⟩
                    clear hK K
                    refine anyC_loud2 8 10 (by kernel_rfl) ?_ ?_
                    · obtain ⟨v1, s1, v2, s2, v3, s3, r1, r2, r3, o3, c1, c2, c3⟩ := I6.out.1
                      obtain ⟨g3, p3, rfl⟩ := owns_pos o3 (by omega)
                      have b1 := BB6.out _ c1
                      have b2 := BB6.out _ c2
                      have b3 := BB6.out _ c3
                      refine lou_append rfl rfl _ _ _ _ rfl _ _ rfl rfl (by exact r1) ?_
                      refine ⟨fun _ => ⟨⟨_, b1⟩, rfl⟩, ?_⟩
                      refine anyC_loud 10 (by kernel_rfl) ?_
                      refine lou_of rfl (fun K hK => ?_)
                      go_simp
                      refine hK _ _ ⟨fun _ => ⟨⟨_, b1.alloc b1.size _⟩, rfl⟩, ?_⟩
                      clear hK K
                      refine anyC_loud 11 (by kernel_rfl) ?_
                      refine lou_append rfl rfl _ _ _ _ rfl _ _ rfl rfl (by exact r2) ?_
                      refine ⟨fun _ => ⟨⟨_, b2⟩, rfl⟩, ?_⟩
                      refine anyC_loud 18 (by kernel_rfl) ?_
                      refine lou_append rfl rfl _ _ _ _ rfl _ _ rfl rfl (by exact r3) ?_
                      refine ⟨fun _ => ⟨⟨_, b3⟩, rfl⟩, ?_⟩
                      refine anyC_pure 19 rfl (by kernel_rfl) (by kernel_rfl) (by kernel_rfl) ⟨⟨_, b3⟩, rfl⟩ (fun K hK => ?_)
                      go_simp
                      refine hK _ ?_
                      clear hK K
                      refine anyC_pure 20 rfl (by kernel_rfl) (by kernel_rfl) (by kernel_rfl) ⟨⟨_, b3⟩, rfl⟩ (fun K hK => ?_)
                      go_simp
                      refine hK _ ?_
                      clear hK K
                      refine anyC_loud 21 (by kernel_rfl) ?_
                      refine lou_of rfl (fun K hK => ?_)
                      obtain ⟨fz, cz⟩ := FZ6.out s3 b3
                      go_simp
                      refine hK _ _ ⟨fun h => absurd rfl h, ?_⟩
                      clear hK K
                      refine anyC_done (by kernel_rfl) ?_
                      exact ⟨by kernel_rfl, _, FIN6.out _ s3 o3 b3⟩
                    · refine lou_of rfl (fun K hK => ?_)
                      go_simp
                      refine hK _ _ ⟨fun _ => ⟨⟨_, (ALL6.out _ _)⟩, rfl⟩, ?_⟩
                      clear hK K
                      obtain ⟨v1, s1, v2, s2, v3, s3, r1, r2, r3, o3, c1, c2, c3⟩ := I6.out.2.1
                      obtain ⟨g3, p3, rfl⟩ := owns_pos o3 (by omega)
                      have b1 := BB6.out _ c1
                      have b2 := BB6.out _ c2
                      have b3 := BB6.out _ c3
                      refine anyC_loud 8 (by kernel_rfl) ?_
                      refine lou_append rfl rfl _ _ _ _ rfl _ _ rfl rfl (by exact r1) ?_
                      refine ⟨fun _ => ⟨⟨_, b1⟩, rfl⟩, ?_⟩
                      refine anyC_loud 11 (by kernel_rfl) ?_
                      refine lou_append rfl rfl _ _ _ _ rfl _ _ rfl rfl (by exact r2) ?_
                      refine ⟨fun _ => ⟨⟨_, b2⟩, rfl⟩, ?_⟩
                      refine anyC_loud 18 (by kernel_rfl) ?_
                      refine lou_append rfl rfl _ _ _ _ rfl _ _ rfl rfl (by exact r3) ?_
                      refine ⟨fun _ => ⟨⟨_, b3⟩, rfl⟩, ?_⟩
                      refine anyC_pure 19 rfl (by kernel_rfl) (by kernel_rfl) (by kernel_rfl) ⟨⟨_, b3⟩, rfl⟩ (fun K hK => ?_)
                      go_simp
                      refine hK _ ?_
                      clear hK K
                      refine anyC_pure 20 rfl (by kernel_rfl) (by kernel_rfl) (by kernel_rfl) ⟨⟨_, b3⟩, rfl⟩ (fun K hK => ?_)
                      go_simp
                      refine hK _ ?_
                      clear hK K
                      refine anyC_loud 21 (by kernel_rfl) ?_
                      refine lou_of rfl (fun K hK => ?_)
                      obtain ⟨fz, cz⟩ := FZ6.out s3 b3
                      go_simp
                      refine hK _ _ ⟨fun h => absurd rfl h, ?_⟩
                      clear hK K
                      refine anyC_done (by kernel_rfl) ?_
                      exact ⟨by kernel_rfl, _, FIN6.out _ s3 o3 b3⟩
                  · refine lou_of rfl (fun K hK => ?_)
                    go_simp
                    refine hK _ _ ⟨fun _ => ⟨⟨_, (AL6.out _)⟩, rfl⟩, ?_⟩
                    clear hK K
                    refine anyC_loud 1 (by kernel_rfl) ?_
                    refine lou_of rfl (fun K hK => ?_)
                    go_simp
                    refine hK _ _ ⟨fun _ => ⟨⟨_, (ALL6.out _ _)⟩, rfl⟩, ?_⟩
                    clear hK K
                    obtain ⟨v1, s1, v2, s2, v3, s3, r1, r2, r3, o3, c1, c2, c3⟩ := I6.out.2.2
                    obtain ⟨g3, p3, rfl⟩ := owns_pos o3 (by omega)
                    have b1 := BB6.out _ c1
                    have b2 := BB6.out _ c2
                    have b3 := BB6.out _ c3
                    refine anyC_loud 8 (by kernel_rfl) ?_
                    refine lou_append rfl rfl _ _ _ _ rfl _ _ rfl rfl (by exact r1) ?_
                    refine ⟨fun _ => ⟨⟨_, b1⟩, rfl⟩, ?_⟩
                    refine anyC_loud 11 (by kernel_rfl) ?_
                    refine lou_append rfl rfl _ _ _ _ rfl _ _ rfl rfl (by exact r2) ?_
                    refine ⟨fun _ => ⟨⟨_, b2⟩, rfl⟩, ?_⟩
                    refine anyC_loud 18 (by kernel_rfl) ?_
                    refine lou_append rfl rfl _ _ _ _ rfl _ _ rfl rfl (by exact r3) ?_
                    refine ⟨fun _ => ⟨⟨_, b3⟩, rfl⟩, ?_⟩
                    refine anyC_pure 19 rfl (by kernel_rfl) (by kernel_rfl) (by kernel_rfl) ⟨⟨_, b3⟩, rfl⟩ (fun K hK => ?_)
                    go_simp
                    refine hK _ ?_
                    clear hK K
                    refine anyC_pure 20 rfl (by kernel_rfl) (by kernel_rfl) (by kernel_rfl) ⟨⟨_, b3⟩, rfl⟩ (fun K hK => ?_)
                    go_simp
                    refine hK _ ?_
                    clear hK K
                    refine anyC_loud 21 (by kernel_rfl) ?_
                    refine lou_of rfl (fun K hK => ?_)
                    obtain ⟨fz, cz⟩ := FZ6.out s3 b3
                    go_simp
                    refine hK _ _ ⟨fun h => absurd rfl h, ?_⟩
                    clear hK K
                    refine anyC_done (by kernel_rfl) ?_
                    exact ⟨by kernel_rfl, _, FIN6.out _ s3 o3 b3⟩
                case rest2 =>
                  rintro a' w7 ⟨ha, v4, hR7, hM7, hO7⟩
                  obtain ⟨y', hy⟩ : ∃ y' : Nat → Value, y' = fun j => a'.tmps.getD j undef := ⟨_, rfl⟩
                  have ha2 : a' = { tmps := #[.pointer (some ⟨rb, 0, none⟩), (y' 1), (y' 2), .pointer (some ⟨w.heap.size, 0, none⟩), (y' 4), .int .i64 M.length, .int .i64 N, (y' 7), (y' 8), (y' 9), (y' 10), (y' 11), (y' 12), (y' 13), (y' 14), (y' 15), (y' 16), (y' 17), (y' 18), (y' 19), (y' 20), (y' 21), (y' 22), (y' 23), (y' 24), (y' 25), (y' 26), (y' 27), (y' 28), (y' 29), (y' 30), (y' 31), (y' 32), (y' 33), (y' 34), (y' 35), (y' 36), (y' 37), (y' 38), (y' 39), (y' 40), (y' 41), (y' 42), (y' 43), (y' 44), (y' 45), (y' 46), (y' 47), (y' 48), (y' 49), (y' 50), (y' 51), (y' 52), (y' 53), (y' 54), (y' 55), (y' 56), (y' 57), (y' 58), (y' 59), (y' 60), (y' 61), (y' 62), (y' 63), (y' 64), (y' 65), (y' 66), (y' 67), (y' 68), (y' 69), (y' 70), (y' 71), (y' 72), (y' 73), (y' 74), (y' 75), (y' 76), (y' 77), (y' 78), (y' 79), (y' 80), (y' 81), (y' 82), (y' 83), (y' 84), (y' 85), (y' 86), (y' 87), (y' 88), (y' 89), (y' 90), (y' 91), (y' 92), (y' 93), (y' 94), (y' 95), (y' 96), (y' 97), (y' 98), (y' 99), (y' 100), (y' 101), (y' 102), (y' 103), (y' 104), (y' 105), (y' 106), (y' 107), (y' 108), (y' 109), (y' 110), (y' 111), (y' 112), (y' 113), (y' 114)], defers := [] } := by rw [hy]; exact ha
                  clear ha hy
                  subst ha2
                  rw [← HPM.out] at hR7
                  have HR7 := toHidR hR7
                  clear hR7
                  go_wp2_with fail
                  go_ret
                  exact ⟨rfl, _, _, HR7.out, hM7, fun g hg => .inr (hO7 g hg)⟩
          · by_cases hch : cH = M.length
            · subst hch
              obtain ⟨hR4, hI4, -⟩ := HR.out w4 hb4
              have HT := toHidR (refHeight_any rb io li icap _ M.length cL _ w4 hR4.blk hI4 hl (by omega))
              clear hR4 hI4
              generalize nextH (lvls li) M.length = N at *
              have HPM := toHidR hPM
              clear hPM
              go_wp2_with fail
              refine HT.out.mono ?_
              rintro e w5 ⟨rfl, hb5⟩
              have hb51 : Below w1.heap.size w1 w5 := hb4.trans (hb5.mono hb4.size)
              have hbZ : ∀ z : Cl w5.heap.size w5, Below w1.heap.size w1 z.u := fun z => hb51.trans (z.h.mono hb51.size)
              have q1 := fun z : Cl w5.heap.size w5 => (HR.out z.u (hbZ z)).1.blk.cell 1 rfl
              have tz := fun z : Cl w5.heap.size w5 => (HR.out z.u (hbZ z)).2.2.2.2.1
              have d0 := fun z => (tz z).c0
              have d1 := fun z => (tz z).c1
              have d2 := fun z => (tz z).c2
              have d3 := fun z => (tz z).c3
              have d4 := fun z => (tz z).c4
              have d5 := fun z => (tz z).c5
              have d6 := fun z => (tz z).c6
              have d7 := fun z => (tz z).c7
              have d8 := fun z => (tz z).c8
              have d9 := fun z => (tz z).c9
              simp only [Nat.zero_add] at d0 d1 d2 d3 d4 d5 d6 d7 d8 d9
              haveI := Cl.inh w5.heap.size w5
              have HC5 : Hid (∃ p : Cl w5.heap.size w5, w5.drew = p.u) := ⟨⟨_, (Below.refl _ _).drew⟩, rfl⟩
              have AL5 : Hid (∀ o : Obj, Below w5.heap.size w5 (w5.drew.alloc o)) := fun o => ((Below.refl w5.heap.size w5).drew).alloc (Nat.le_refl _) o
              have ALL5 : Hid (∀ o o' : Obj, Below w5.heap.size w5 ((w5.drew.alloc o).alloc o')) := fun o o' => (AL5.out o).alloc (AL5.out o).size o'
              have BB5 : Hid (∀ s, Below w5.heap.size w5.drew s → Below w5.heap.size w5 s) := fun s hs => (Below.refl w5.heap.size w5).drew.trans hs
              have XL5 : Hid (∀ s, Below w5.heap.size w5 s → RfAt B s rb (.slice io li.length icap) M (.slice (some ⟨g, 0, none⟩) M.length cL) (.slice (some ⟨gh, oh, none⟩) M.length M.length) ∧ XSees s (some ⟨g, 0, none⟩) (M.map Prod.fst) ∧ Below w.heap.size w s) := fun s hs => by
                have h0 := HR.out s (hb51.trans (hs.mono hb51.size))
                exact ⟨h0.1, h0.2.2.1, h0.2.2.2.2.2⟩
              have hml : (M.map Prod.fst).length = M.length := List.length_map _
              have SRA : ∀ s, Below w5.heap.size w5 s → Src Try.prog 10 23 (.slice (some ⟨g, 0, none⟩) M.length cL) M.length (((M.map Prod.fst).take M.length).flatMap xs10) s := fun s hs => src_take (XL5.out s hs).2.1 (by omega) _
              have hdn : ((M.map Prod.fst).drop M.length).flatMap xs10 = [] := by rw [List.drop_of_length_le (by omega)]; rfl
              have SRC : ∀ s, Below w5.heap.size w5 s → Src Try.prog 10 23 (.slice (some ⟨g, M.length * 10, none⟩) 0 (cL - M.length)) 0 (((M.map Prod.fst).drop M.length).flatMap xs10) s := fun s _ => by rw [hdn]; exact src_zero _ _
              clear hdn
              have I5 := toHidR (ins3 (k := 10) (bytes := 112) (t := 23) (e := 40) Try.underlying23 hi1 hy0 hy1 hy2 rfl w5.drew (.slice (some ⟨g, 0, none⟩) M.length cL) (.slice (some ⟨g, M.length * 10, none⟩) 0 (cL - M.length)) M.length 0 (((M.map Prod.fst).take M.length).flatMap xs10) (((M.map Prod.fst).drop M.length).flatMap xs10) (xs10 ⟨⟨ct, cp, cr, cc⟩, ⟨cti, cd, cl, ck, cn, cstr⟩⟩) #[.string ct, .string cp, .int .i64 cr, .string cc, .int .i64 cti, .bool cd, .int .i64 cl, .int .i64 ck, .int .i64 cn, .string cstr] (fun s hs => SRA s (BB5.out s hs)) (fun s hs => SRC s (BB5.out s hs)) (fun s b hb => src_box (c := ⟨⟨ct, cp, cr, cc⟩, ⟨cti, cd, cl, ck, cn, cstr⟩⟩) hb) (by omega) (by omega))
              have FZ5 : Hid (∀ s, Below w5.heap.size w5 s → s.frozen? ⟨rb, 1, none⟩ = false ∧ s.cell? ⟨rb, 1, none⟩ = some (.slice (some ⟨g, 0, none⟩) M.length cL)) := fun s hs => ⟨frozen_at (XL5.out s hs).1.blk 1, (XL5.out s hs).1.blk.cell 1 rfl⟩
              have FIN5 : Hid (∀ v3 s3, s3.ownsRow w5.drew.heap.size 40 10 v3 (M.length + 1 + 0) (((M.map Prod.fst).take M.length).flatMap xs10 ++ xs10 ⟨⟨ct, cp, cr, cc⟩, ⟨cti, cd, cl, ck, cn, cstr⟩⟩ ++ ((M.map Prod.fst).drop M.length).flatMap xs10) → Below w5.heap.size w5 s3 → Mid B w (s3.setCell ⟨rb, 1, none⟩ v3) rb (.slice io li.length icap) (M.take M.length ++ [(⟨⟨ct, cp, cr, cc⟩, ⟨cti, cd, cl, ck, cn, cstr⟩⟩, N)] ++ M.drop M.length) M v3 (.slice (some ⟨gh, oh, none⟩) M.length M.length) ∧ TenX (s3.setCell ⟨rb, 1, none⟩ v3) w.heap.size 0 ⟨⟨ct, cp, cr, cc⟩, ⟨cti, cd, cl, ck, cn, cstr⟩⟩) := fun v3 s3 o3 b3 => by
                obtain ⟨hR, -, hBw⟩ := XL5.out s3 b3
                have ht := (HR.out s3 (hb51.trans (b3.mono hb51.size))).2.2.2.2.1
                exact mid_of hR hBw o3 (Nat.le_trans hBs (Nat.le_trans (by omega) hb51.size)) (Nat.le_trans (Nat.le_of_lt hw1s) hb51.size) (by rw [len_ins _ _ (by omega)]; omega) (xN_ins M M.length ⟨⟨ct, cp, cr, cc⟩, ⟨cti, cd, cl, ck, cn, cstr⟩⟩ N) ht hrbl
              clear tz hbZ
              go_wp2_with fail
              refine wp_region_C (fun w' => ∃ p : Cl w5.heap.size w5, w' = p.u) 21 (fun a' w' =>  a' = { tmps := #[.pointer (some ⟨rb, 0, none⟩), (a'.tmps.getD 1 undef), (a'.tmps.getD 2 undef), .pointer (some ⟨w.heap.size, 0, none⟩), (a'.tmps.getD 4 undef), .int .i64 M.length, .int .i64 N, (a'.tmps.getD 7 undef), (a'.tmps.getD 8 undef), (a'.tmps.getD 9 undef), (a'.tmps.getD 10 undef), (a'.tmps.getD 11 undef), (a'.tmps.getD 12 undef), (a'.tmps.getD 13 undef), (a'.tmps.getD 14 undef), (a'.tmps.getD 15 undef), (a'.tmps.getD 16 undef), (a'.tmps.getD 17 undef), (a'.tmps.getD 18 undef), (a'.tmps.getD 19 undef), (a'.tmps.getD 20 undef), (a'.tmps.getD 21 undef), (a'.tmps.getD 22 undef), (a'.tmps.getD 23 undef), (a'.tmps.getD 24 undef), (a'.tmps.getD 25 undef), (a'.tmps.getD 26 undef), (a'.tmps.getD 27 undef), (a'.tmps.getD 28 undef), (a'.tmps.getD 29 undef), (a'.tmps.getD 30 undef), (a'.tmps.getD 31 undef), (a'.tmps.getD 32 undef), (a'.tmps.getD 33 undef), (a'.tmps.getD 34 undef), (a'.tmps.getD 35 undef), (a'.tmps.getD 36 undef), (a'.tmps.getD 37 undef), (a'.tmps.getD 38 undef), (a'.tmps.getD 39 undef), (a'.tmps.getD 40 undef), (a'.tmps.getD 41 undef), (a'.tmps.getD 42 undef), (a'.tmps.getD 43 undef), (a'.tmps.getD 44 undef), (a'.tmps.getD 45 undef), (a'.tmps.getD 46 undef), (a'.tmps.getD 47 undef), (a'.tmps.getD 48 undef), (a'.tmps.getD 49 undef), (a'.tmps.getD 50 undef), (a'.tmps.getD 51 undef), (a'.tmps.getD 52 undef), (a'.tmps.getD 53 undef), (a'.tmps.getD 54 undef), (a'.tmps.getD 55 undef), (a'.tmps.getD 56 undef), (a'.tmps.getD 57 undef), (a'.tmps.getD 58 undef), (a'.tmps.getD 59 undef), (a'.tmps.getD 60 undef), (a'.tmps.getD 61 undef), (a'.tmps.getD 62 undef), (a'.tmps.getD 63 undef), (a'.tmps.getD 64 undef), (a'.tmps.getD 65 undef), (a'.tmps.getD 66 undef), (a'.tmps.getD 67 undef), (a'.tmps.getD 68 undef), (a'.tmps.getD 69 undef), (a'.tmps.getD 70 undef), (a'.tmps.getD 71 undef), (a'.tmps.getD 72 undef), (a'.tmps.getD 73 undef), (a'.tmps.getD 74 undef), (a'.tmps.getD 75 undef), (a'.tmps.getD 76 undef), (a'.tmps.getD 77 undef), (a'.tmps.getD 78 undef), (a'.tmps.getD 79 undef), (a'.tmps.getD 80 undef), (a'.tmps.getD 81 undef), (a'.tmps.getD 82 undef), (a'.tmps.getD 83 undef), (a'.tmps.getD 84 undef), (a'.tmps.getD 85 undef), (a'.tmps.getD 86 undef), (a'.tmps.getD 87 undef), (a'.tmps.getD 88 undef), (a'.tmps.getD 89 undef), (a'.tmps.getD 90 undef), (a'.tmps.getD 91 undef), (a'.tmps.getD 92 undef), (a'.tmps.getD 93 undef), (a'.tmps.getD 94 undef), (a'.tmps.getD 95 undef), (a'.tmps.getD 96 undef), (a'.tmps.getD 97 undef), (a'.tmps.getD 98 undef), (a'.tmps.getD 99 undef), (a'.tmps.getD 100 undef), (a'.tmps.getD 101 undef), (a'.tmps.getD 102 undef), (a'.tmps.getD 103 undef), (a'.tmps.getD 104 undef), (a'.tmps.getD 105 undef), (a'.tmps.getD 106 undef), (a'.tmps.getD 107 undef), (a'.tmps.getD 108 undef), (a'.tmps.getD 109 undef), (a'.tmps.getD 110 undef), (a'.tmps.getD 111 undef), (a'.tmps.getD 112 undef), (a'.tmps.getD 113 undef), (a'.tmps.getD 114 undef)], defers := [] } ∧ ∃ v3, Mid B w w' rb (.slice io li.length icap) (M.take M.length ++ [(⟨⟨ct, cp, cr, cc⟩, ⟨cti, cd, cl, ck, cn, cstr⟩⟩, N)] ++ M.drop M.length) M v3 (.slice (some ⟨gh, oh, none⟩) M.length M.length) ∧ TenX w' w.heap.size 0 ⟨⟨ct, cp, cr, cc⟩, ⟨cti, cd, cl, ck, cn, cstr⟩⟩) (by kernel_rfl) ?reg ?rest
              case reg =>
                refine anyC_pure 0 rfl (by kernel_rfl) (by kernel_rfl) (by kernel_rfl) HC5.out (fun K hK => ?_)
                go_simp
                refine hK _ ?_
                clear hK K
                refine anyC_pure 2 rfl (by kernel_rfl) (by kernel_rfl) (by kernel_rfl) HC5.out (fun K hK => ?_)
                go_simp
                refine hK _ ?_
                clear hK K
                refine anyC_pure 3 rfl (by kernel_rfl) (by kernel_rfl) (by kernel_rfl) HC5.out (fun K hK => ?_)
                go_simp
                refine hK _ ?_
                clear hK K
                refine anyC_pure 4 rfl (by kernel_rfl) (by kernel_rfl) (by kernel_rfl) HC5.out (fun K hK => ?_)
                go_simp
                refine hK _ ?_
                clear hK K
                refine anyC_pure 5 rfl (by kernel_rfl) (by kernel_rfl) (by kernel_rfl) HC5.out (fun K hK => ?_)
                go_simp
                refine hK _ ?_
                clear hK K
                refine anyC_pure 6 rfl (by kernel_rfl) (by kernel_rfl) (by kernel_rfl) HC5.out (fun K hK => ?_)
                go_simp
                refine hK _ ?_
                clear hK K
                refine anyC_pure 7 rfl (by kernel_rfl) (by kernel_rfl) (by kernel_rfl) HC5.out (fun K hK => ?_)
                go_simp
                refine hK _ ?_
                clear hK K
                refine anyC_pure 9 rfl (by kernel_rfl) (by kernel_rfl) (by kernel_rfl) HC5.out (fun K hK => ?_)
                go_simp
                refine hK _ ?_
                clear hK K
                refine anyC_pure 12 rfl (by kernel_rfl) (by kernel_rfl) (by kernel_rfl) HC5.out (fun K hK => ?_)
                go_simp
                refine hK _ ?_
                clear hK K
                refine anyC_pure 13 rfl (by kernel_rfl) (by kernel_rfl) (by kernel_rfl) HC5.out (fun K hK => ?_)
                go_simp
                refine hK _ ?_
                clear hK K
                refine anyC_pure 14 rfl (by kernel_rfl) (by kernel_rfl) (by kernel_rfl) HC5.out (fun K hK => ?_)
                go_simp
                refine hK _ ?_
                clear hK K
                refine anyC_pure 15 rfl (by kernel_rfl) (by kernel_rfl) (by kernel_rfl) HC5.out (fun K hK => ?_)
                go_simp
                refine hK _ ?_
                clear hK K
                refine anyC_pure 16 rfl (by kernel_rfl) (by kernel_rfl) (by kernel_rfl) HC5.out (fun K hK => ?_)
                go_simp
                refine hK _ ?_
                clear hK K
                refine anyC_pure 17 rfl (by kernel_rfl) (by kernel_rfl) (by kernel_rfl) HC5.out (fun K hK => ?_)
                go_simp
                refine hK _ ?_
                clear hK K
                refine anyC_loud2 1 10 (by kernel_rfl) ?_ ?_
                · refine lou_of rfl (fun K hK => ?_)
                  go_simp
                  refine hK _ _ ⟨fun _ => ⟨⟨_, (AL5.out _)⟩, rfl⟩, ?_⟩
                  clear hK K
                  refine anyC_loud2 8 10 (by kernel_rfl) ?_ ?_
                  · obtain ⟨v1, s1, v2, s2, v3, s3, r1, r2, r3, o3, c1, c2, c3⟩ := I5.out.1
                    obtain ⟨g3, p3, rfl⟩ := owns_pos o3 (by omega)
                    have b1 := BB5.out _ c1
                    have b2 := BB5.out _ c2
                    have b3 := BB5.out _ c3
                    refine lou_append rfl rfl _ _ _ _ rfl _ _ rfl rfl (by exact r1) ?_
                    refine ⟨fun _ => ⟨⟨_, b1⟩, rfl⟩, ?_⟩
                    refine anyC_loud 10 (by kernel_rfl) ?_
                    refine lou_of rfl (fun K hK => ?_)
                    go_simp
                    refine hK _ _ ⟨fun _ => ⟨⟨_, b1.alloc b1.size _⟩, rfl⟩, ?_⟩
                    clear hK K
                    refine anyC_loud 11 (by kernel_rfl) ?_
                    refine lou_append rfl rfl _ _ _ _ rfl _ _ rfl rfl (by exact r2) ?_
                    refine ⟨fun _ => ⟨⟨_, b2⟩, rfl⟩, ?_⟩
                    refine anyC_loud 18 (by kernel_rfl) ?_
                    refine lou_append rfl rfl _ _ _ _ rfl _ _ rfl rfl (by exact r3) ?_
                    refine ⟨fun _ => ⟨⟨_, b3⟩, rfl⟩, ?_⟩
                    refine anyC_pure 19 rfl (by kernel_rfl) (by kernel_rfl) (by kernel_rfl) ⟨⟨_, b3⟩, rfl⟩ (fun K hK => ?_)
                    go_simp
                    refine hK _ ?_
                    clear hK K
                    refine anyC_pure 20 rfl (by kernel_rfl) (by kernel_rfl) (by kernel_rfl) ⟨⟨_, b3⟩, rfl⟩ (fun K hK => ?_)
                    go_simp
                    refine hK _ ?_
                    clear hK K
                    refine anyC_loud 21 (by kernel_rfl) ?_
                    refine lou_of rfl (fun K hK => ?_)
                    obtain ⟨fz, cz⟩ := FZ5.out s3 b3
                    go_simp
                    refine hK _ _ ⟨fun h => absurd rfl h, ?_⟩
                    clear hK K
                    refine anyC_done (by kernel_rfl) ?_
                    exact ⟨by kernel_rfl, _, FIN5.out _ s3 o3 b3⟩
                  · refine lou_of rfl (fun K hK => ?_)
                    go_simp
                    refine hK _ _ ⟨fun _ => ⟨⟨_, (ALL5.out _ _)⟩, rfl⟩, ?_⟩
                    clear hK K
                    obtain ⟨v1, s1, v2, s2, v3, s3, r1, r2, r3, o3, c1, c2, c3⟩ := I5.out.2.1
                    obtain ⟨g3, p3, rfl⟩ := owns_pos o3 (by omega)
                    have b1 := BB5.out _ c1
                    have b2 := BB5.out _ c2
                    have b3 := BB5.out _ c3
                    refine anyC_loud 8 (by kernel_rfl) ?_
                    refine lou_append rfl rfl _ _ _ _ rfl _ _ rfl rfl (by exact r1) ?_
                    refine ⟨fun _ => ⟨⟨_, b1⟩, rfl⟩, ?_⟩
                    refine anyC_loud 11 (by kernel_rfl) ?_
                    refine lou_append rfl rfl _ _ _ _ rfl _ _ rfl rfl (by exact r2) ?_
                    refine ⟨fun _ => ⟨⟨_, b2⟩, rfl⟩, ?_⟩
                    refine anyC_loud 18 (by kernel_rfl) ?_
                    refine lou_append rfl rfl _ _ _ _ rfl _ _ rfl rfl (by exact r3) ?_
                    refine ⟨fun _ => ⟨⟨_, b3⟩, rfl⟩, ?_⟩
                    refine anyC_pure 19 rfl (by kernel_rfl) (by kernel_rfl) (by kernel_rfl) ⟨⟨_, b3⟩, rfl⟩ (fun K hK => ?_)
                    go_simp
                    refine hK _ ?_
                    clear hK K
                    refine anyC_pure 20 rfl (by kernel_rfl) (by kernel_rfl) (by kernel_rfl) ⟨⟨_, b3⟩, rfl⟩ (fun K hK => ?_)
                    go_simp
                    refine hK _ ?_
                    clear hK K
                    refine anyC_loud 21 (by kernel_rfl) ?_
                    refine lou_of rfl (fun K hK => ?_)
                    obtain ⟨fz, cz⟩ := FZ5.out s3 b3
                    go_simp
                    refine hK _ _ ⟨fun h => absurd rfl h, ?_⟩
                    clear hK K
                    refine anyC_done (by kernel_rfl) ?_
                    exact ⟨by kernel_rfl, _, FIN5.out _ s3 o3 b3⟩
                · refine lou_of rfl (fun K hK => ?_)
                  go_simp
                  refine hK _ _ ⟨fun _ => ⟨⟨_, (AL5.out _)⟩, rfl⟩, ?_⟩
                  clear hK K
                  refine anyC_loud 1 (by kernel_rfl) ?_
                  refine lou_of rfl (fun K hK => ?_)
                  go_simp
                  refine hK _ _ ⟨fun _ => ⟨⟨_, (ALL5.out _ _)⟩, rfl⟩, ?_⟩
                  clear hK K
                  obtain ⟨v1, s1, v2, s2, v3, s3, r1, r2, r3, o3, c1, c2, c3⟩ := I5.out.2.2
                  obtain ⟨g3, p3, rfl⟩ := owns_pos o3 (by omega)
                  have b1 := BB5.out _ c1
                  have b2 := BB5.out _ c2
                  have b3 := BB5.out _ c3
                  refine anyC_loud 8 (by kernel_rfl) ?_
                  refine lou_append rfl rfl _ _ _ _ rfl _ _ rfl rfl (by exact r1) ?_
                  refine ⟨fun _ => ⟨⟨_, b1⟩, rfl⟩, ?_⟩
                  refine anyC_loud 11 (by kernel_rfl) ?_
                  refine lou_append rfl rfl _ _ _ _ rfl _ _ rfl rfl (by exact r2) ?_
                  refine ⟨fun _ => ⟨⟨_, b2⟩, rfl⟩, ?_⟩
                  refine anyC_loud 18 (by kernel_rfl) ?_
                  refine lou_append rfl rfl _ _ _ _ rfl _ _ rfl rfl (by exact r3) ?_
                  refine ⟨fun _ => ⟨⟨_, b3⟩, rfl⟩, ?_⟩
                  refine anyC_pure 19 rfl (by kernel_rfl) (by kernel_rfl) (by kernel_rfl) ⟨⟨_, b3⟩, rfl⟩ (fun K hK => ?_)
                  go_simp
                  refine hK _ ?_
                  clear hK K
                  refine anyC_pure 20 rfl (by kernel_rfl) (by kernel_rfl) (by kernel_rfl) ⟨⟨_, b3⟩, rfl⟩ (fun K hK => ?_)
                  go_simp
                  refine hK _ ?_
                  clear hK K
                  refine anyC_loud 21 (by kernel_rfl) ?_
                  refine lou_of rfl (fun K hK => ?_)
                  obtain ⟨fz, cz⟩ := FZ5.out s3 b3
                  go_simp
                  refine hK _ _ ⟨fun h => absurd rfl h, ?_⟩
                  clear hK K
                  refine anyC_done (by kernel_rfl) ?_
                  exact ⟨by kernel_rfl, _, FIN5.out _ s3 o3 b3⟩
              case rest =>
                rintro a' w6 ⟨ha, v3, hMid, htc⟩
                obtain ⟨y, hy⟩ : ∃ y : Nat → Value, y = fun j => a'.tmps.getD j undef := ⟨_, rfl⟩
                have ha2 : a' = { tmps := #[.pointer (some ⟨rb, 0, none⟩), (y 1), (y 2), .pointer (some ⟨w.heap.size, 0, none⟩), (y 4), .int .i64 M.length, .int .i64 N, (y 7), (y 8), (y 9), (y 10), (y 11), (y 12), (y 13), (y 14), (y 15), (y 16), (y 17), (y 18), (y 19), (y 20), (y 21), (y 22), (y 23), (y 24), (y 25), (y 26), (y 27), (y 28), (y 29), (y 30), (y 31), (y 32), (y 33), (y 34), (y 35), (y 36), (y 37), (y 38), (y 39), (y 40), (y 41), (y 42), (y 43), (y 44), (y 45), (y 46), (y 47), (y 48), (y 49), (y 50), (y 51), (y 52), (y 53), (y 54), (y 55), (y 56), (y 57), (y 58), (y 59), (y 60), (y 61), (y 62), (y 63), (y 64), (y 65), (y 66), (y 67), (y 68), (y 69), (y 70), (y 71), (y 72), (y 73), (y 74), (y 75), (y 76), (y 77), (y 78), (y 79), (y 80), (y 81), (y 82), (y 83), (y 84), (y 85), (y 86), (y 87), (y 88), (y 89), (y 90), (y 91), (y 92), (y 93), (y 94), (y 95), (y 96), (y 97), (y 98), (y 99), (y 100), (y 101), (y 102), (y 103), (y 104), (y 105), (y 106), (y 107), (y 108), (y 109), (y 110), (y 111), (y 112), (y 113), (y 114)], defers := [] } := by rw [hy]; exact ha
                clear ha hy
                subst ha2
                clear q1 d0 d1 d2 d3 d4 d5 d6 d7 d8 d9 I5 FZ5 FIN5 HC5 AL5 ALL5 BB5
                obtain ⟨j1, hj1, hv0, hv1, hv2⟩ := infoX infoInt
                have hMl : Hid (∀ s, Below w6.heap.size w6 s → Mid B w s rb (.slice io li.length icap) (M.take M.length ++ [(⟨⟨ct, cp, cr, cc⟩, ⟨cti, cd, cl, ck, cn, cstr⟩⟩, N)] ++ M.drop M.length) M v3 (.slice (some ⟨gh, oh, none⟩) M.length M.length)) := fun s hs => hMid.below hs
                obtain ⟨av, cv, hav, hIv⟩ := owns_isees hMid.H
                have hIs : ISees w6 (some ⟨gh, oh, none⟩) (M.map fun p => (p.2 : Int)) := by
                  injection hav with e1 _ _
                  rw [e1]; exact hIv
                have hil : (M.map fun p => (p.2 : Int)).length = M.length := List.length_map _
                have p2 : ∀ z : Cl w6.heap.size w6, z.u.cell? ⟨rb, 2, none⟩ = some (.slice (some ⟨gh, oh, none⟩) M.length M.length) := fun z => (hMl.out z.u z.h).blk.cell 2 rfl
                haveI := Cl.inh w6.heap.size w6
                have HC6 : Hid (∃ p : Cl w6.heap.size w6, w6.drew = p.u) := ⟨⟨_, (Below.refl _ _).drew⟩, rfl⟩
                have AL6 : Hid (∀ o : Obj, Below w6.heap.size w6 (w6.drew.alloc o)) := fun o => ((Below.refl w6.heap.size w6).drew).alloc (Nat.le_refl _) o
                have ALL6 : Hid (∀ o o' : Obj, Below w6.heap.size w6 ((w6.drew.alloc o).alloc o')) := fun o o' => (AL6.out o).alloc (AL6.out o).size o'
                have BB6 : Hid (∀ s, Below w6.heap.size w6.drew s → Below w6.heap.size w6 s) := fun s hs => (Below.refl w6.heap.size w6).drew.trans hs
                have HRA : ∀ s, Below w6.heap.size w6 s → Src Try.prog 1 22 (.slice (some ⟨gh, oh, none⟩) M.length M.length) M.length (vI ((M.map fun p => (p.2 : Int)).take M.length)) s := fun s hs => srcI_take (hIs.below hs (Nat.le_refl _)) (by omega) _
                have hdh : vI ((M.map fun p => (p.2 : Int)).drop M.length) = [] := by rw [List.drop_of_length_le (by omega)]; rfl
                have HRC : ∀ s, Below w6.heap.size w6 s → Src Try.prog 1 22 (.slice (some ⟨gh, oh, none⟩) 0 0) 0 (vI ((M.map fun p => (p.2 : Int)).drop M.length)) s := fun s _ => by rw [hdh]; exact srcI_zero _ _
                clear hdh
                have I6 := toHidR (ins3 (k := 1) (bytes := 8) (t := 22) (e := 3) Try.underlying22 hj1 hv0 hv1 hv2 rfl w6.drew (.slice (some ⟨gh, oh, none⟩) M.length M.length) (.slice (some ⟨gh, oh, none⟩) 0 0) M.length 0 (vI ((M.map fun p => (p.2 : Int)).take M.length)) (vI ((M.map fun p => (p.2 : Int)).drop M.length)) (vI [(N : Int)]) #[.int .i64 (N : Int)] (fun s hs => HRA s (BB6.out s hs)) (fun s hs => HRC s (BB6.out s hs)) (fun s b hb => srcI_box hb) (by omega) (by omega))
                have FZ6 : Hid (∀ s, Below w6.heap.size w6 s → s.frozen? ⟨rb, 2, none⟩ = false ∧ s.cell? ⟨rb, 2, none⟩ = some (.slice (some ⟨gh, oh, none⟩) M.length M.length)) := fun s hs => ⟨frozen_at (hMl.out s hs).blk 2, (hMl.out s hs).blk.cell 2 rfl⟩
                have FIN6 : Hid (∀ v4 s4, s4.ownsRow w6.drew.heap.size 3 1 v4 (M.length + 1 + 0) (vI ((M.map fun p => (p.2 : Int)).take M.length) ++ vI [(N : Int)] ++ vI ((M.map fun p => (p.2 : Int)).drop M.length)) → Below w6.heap.size w6 s4 → RfAt B (s4.setCell ⟨rb, 2, none⟩ v4) rb (.slice io li.length icap) (M.take M.length ++ [(⟨⟨ct, cp, cr, cc⟩, ⟨cti, cd, cl, ck, cn, cstr⟩⟩, N)] ++ M.drop M.length) v3 v4 ∧ Moved w (s4.setCell ⟨rb, 2, none⟩ v4) (rft rb (.slice (some ⟨g, 0, none⟩) M.length cL)) (rft rb v3) ∧ ∀ g, v4.ownBlock = some g → w.heap.size ≤ g) := fun v4 s4 o4 b4 =>
                  fin_of (hMl.out s4 b4) o4 (Nat.le_trans hBs hMid.size) hMid.size (by rw [len_ins _ _ (by omega)]; omega) (vN_ins M M.length ⟨⟨ct, cp, cr, cc⟩, ⟨cti, cd, cl, ck, cn, cstr⟩⟩ N) (by simp)
                clear hIs hIv hav hil
                go_wp2_with fail
                refine wp_region_C (fun w' => ∃ p : Cl w6.heap.size w6, w' = p.u) 21 (fun a' w' =>  a' = { tmps := #[.pointer (some ⟨rb, 0, none⟩), (a'.tmps.getD 1 undef), (a'.tmps.getD 2 undef), .pointer (some ⟨w.heap.size, 0, none⟩), (a'.tmps.getD 4 undef), .int .i64 M.length, .int .i64 N, (a'.tmps.getD 7 undef), (a'.tmps.getD 8 undef), (a'.tmps.getD 9 undef), (a'.tmps.getD 10 undef), (a'.tmps.getD 11 undef), (a'.tmps.getD 12 undef), (a'.tmps.getD 13 undef), (a'.tmps.getD 14 undef), (a'.tmps.getD 15 undef), (a'.tmps.getD 16 undef), (a'.tmps.getD 17 undef), (a'.tmps.getD 18 undef), (a'.tmps.getD 19 undef), (a'.tmps.getD 20 undef), (a'.tmps.getD 21 undef), (a'.tmps.getD 22 undef), (a'.tmps.getD 23 undef), (a'.tmps.getD 24 undef), (a'.tmps.getD 25 undef), (a'.tmps.getD 26 undef), (a'.tmps.getD 27 undef), (a'.tmps.getD 28 undef), (a'.tmps.getD 29 undef), (a'.tmps.getD 30 undef), (a'.tmps.getD 31 undef), (a'.tmps.getD 32 undef), (a'.tmps.getD 33 undef), (a'.tmps.getD 34 undef), (a'.tmps.getD 35 undef), (a'.tmps.getD 36 undef), (a'.tmps.getD 37 undef), (a'.tmps.getD 38 undef), (a'.tmps.getD 39 undef), (a'.tmps.getD 40 undef), (a'.tmps.getD 41 undef), (a'.tmps.getD 42 undef), (a'.tmps.getD 43 undef), (a'.tmps.getD 44 undef), (a'.tmps.getD 45 undef), (a'.tmps.getD 46 undef), (a'.tmps.getD 47 undef), (a'.tmps.getD 48 undef), (a'.tmps.getD 49 undef), (a'.tmps.getD 50 undef), (a'.tmps.getD 51 undef), (a'.tmps.getD 52 undef), (a'.tmps.getD 53 undef), (a'.tmps.getD 54 undef), (a'.tmps.getD 55 undef), (a'.tmps.getD 56 undef), (a'.tmps.getD 57 undef), (a'.tmps.getD 58 undef), (a'.tmps.getD 59 undef), (a'.tmps.getD 60 undef), (a'.tmps.getD 61 undef), (a'.tmps.getD 62 undef), (a'.tmps.getD 63 undef), (a'.tmps.getD 64 undef), (a'.tmps.getD 65 undef), (a'.tmps.getD 66 undef), (a'.tmps.getD 67 undef), (a'.tmps.getD 68 undef), (a'.tmps.getD 69 undef), (a'.tmps.getD 70 undef), (a'.tmps.getD 71 undef), (a'.tmps.getD 72 undef), (a'.tmps.getD 73 undef), (a'.tmps.getD 74 undef), (a'.tmps.getD 75 undef), (a'.tmps.getD 76 undef), (a'.tmps.getD 77 undef), (a'.tmps.getD 78 undef), (a'.tmps.getD 79 undef), (a'.tmps.getD 80 undef), (a'.tmps.getD 81 undef), (a'.tmps.getD 82 undef), (a'.tmps.getD 83 undef), (a'.tmps.getD 84 undef), (a'.tmps.getD 85 undef), (a'.tmps.getD 86 undef), (a'.tmps.getD 87 undef), (a'.tmps.getD 88 undef), (a'.tmps.getD 89 undef), (a'.tmps.getD 90 undef), (a'.tmps.getD 91 undef), (a'.tmps.getD 92 undef), (a'.tmps.getD 93 undef), (a'.tmps.getD 94 undef), (a'.tmps.getD 95 undef), (a'.tmps.getD 96 undef), (a'.tmps.getD 97 undef), (a'.tmps.getD 98 undef), (a'.tmps.getD 99 undef), (a'.tmps.getD 100 undef), (a'.tmps.getD 101 undef), (a'.tmps.getD 102 undef), (a'.tmps.getD 103 undef), (a'.tmps.getD 104 undef), (a'.tmps.getD 105 undef), (a'.tmps.getD 106 undef), (a'.tmps.getD 107 undef), (a'.tmps.getD 108 undef), (a'.tmps.getD 109 undef), (a'.tmps.getD 110 undef), (a'.tmps.getD 111 undef), (a'.tmps.getD 112 undef), (a'.tmps.getD 113 undef), (a'.tmps.getD 114 undef)], defers := [] } ∧ ∃ v4, RfAt B w' rb (.slice io li.length icap) (M.take M.length ++ [(⟨⟨ct, cp, cr, cc⟩, ⟨cti, cd, cl, ck, cn, cstr⟩⟩, N)] ++ M.drop M.length) v3 v4 ∧ Moved w w' (rft rb (.slice (some ⟨g, 0, none⟩) M.length cL)) (rft rb v3) ∧ ∀ g, v4.ownBlock = some g → w.heap.size ≤ g) (by kernel_rfl) ?reg2 ?rest2
                case reg2 =>
                  refine anyC_pure 0 rfl (by kernel_rfl) (by kernel_rfl) (by kernel_rfl) HC6.out (fun K hK => ?_)
                  go_simp
                  refine hK _ ?_
                  clear hK K
                  refine anyC_pure 2 rfl (by kernel_rfl) (by kernel_rfl) (by kernel_rfl) HC6.out (fun K hK => ?_)
                  go_simp
                  refine hK _ ?_
                  clear hK K
                  refine anyC_pure 3 rfl (by kernel_rfl) (by kernel_rfl) (by kernel_rfl) HC6.out (fun K hK => ?_)
                  go_simp
                  refine hK _ ?_
                  clear hK K
                  refine anyC_pure 4 rfl (by kernel_rfl) (by kernel_rfl) (by kernel_rfl) HC6.out (fun K hK => ?_)
                  go_simp
                  refine hK _ ?_
                  clear hK K
                  refine anyC_pure 5 rfl (by kernel_rfl) (by kernel_rfl) (by kernel_rfl) HC6.out (fun K hK => ?_)
                  go_simp
                  refine hK _ ?_
                  clear hK K
                  refine anyC_pure 6 rfl (by kernel_rfl) (by kernel_rfl) (by kernel_rfl) HC6.out (fun K hK => ?_)
                  go_simp
                  refine hK _ ?_
                  clear hK K
                  refine anyC_pure 7 rfl (by kernel_rfl) (by kernel_rfl) (by kernel_rfl) HC6.out (fun K hK => ?_)
                  go_simp
                  refine hK _ ?_
                  clear hK K
                  refine anyC_pure 9 rfl (by kernel_rfl) (by kernel_rfl) (by kernel_rfl) HC6.out (fun K hK => ?_)
                  go_simp
                  refine hK _ ?_
                  clear hK K
                  refine anyC_pure 12 rfl (by kernel_rfl) (by kernel_rfl) (by kernel_rfl) HC6.out (fun K hK => ?_)
                  go_simp
                  refine hK _ ?_
                  clear hK K
                  refine anyC_pure 13 rfl (by kernel_rfl) (by kernel_rfl) (by kernel_rfl) HC6.out (fun K hK => ?_)
                  go_simp
                  refine hK _ ?_
                  clear hK K
                  refine anyC_pure 14 rfl (by kernel_rfl) (by kernel_rfl) (by kernel_rfl) HC6.out (fun K hK => ?_)
                  go_simp
                  refine hK _ ?_
                  clear hK K
                  refine anyC_pure 15 rfl (by kernel_rfl) (by kernel_rfl) (by kernel_rfl) HC6.out (fun K hK => ?_)
                  go_simp
                  refine hK _ ?_
                  clear hK K
                  refine anyC_pure 16 rfl (by kernel_rfl) (by kernel_rfl) (by kernel_rfl) HC6.out (fun K hK => ?_)
                  go_simp
                  refine hK _ ?_
                  clear hK K
                  refine anyC_pure 17 rfl (by kernel_rfl) (by kernel_rfl) (by kernel_rfl) HC6.out (fun K hK => ?_)
                  go_simp
                  refine hK _ ?_
                  clear hK K
                  refine anyC_loud2 1 10 (by kernel_rfl) ?_ ?_
                  · refine lou_of rfl (fun K hK => ?_)
                    go_simp
                    refine hK _ _ ⟨fun _ => ⟨⟨_, (AL6.out _)⟩, rfl⟩, ?_⟩
                    clear hK K
                    refine anyC_loud2 8 10 (by kernel_rfl) ?_ ?_
                    · obtain ⟨v1, s1, v2, s2, v3, s3, r1, r2, r3, o3, c1, c2, c3⟩ := I6.out.1
                      obtain ⟨g3, p3, rfl⟩ := owns_pos o3 (by omega)
                      have b1 := BB6.out _ c1
                      have b2 := BB6.out _ c2
                      have b3 := BB6.out _ c3
                      refine lou_append rfl rfl _ _ _ _ rfl _ _ rfl rfl (by exact r1) ?_
                      refine ⟨fun _ => ⟨⟨_, b1⟩, rfl⟩, ?_⟩
                      refine anyC_loud 10 (by kernel_rfl) ?_
                      refine lou_of rfl (fun K hK => ?_)
                      go_simp
                      refine hK _ _ ⟨fun _ => ⟨⟨_, b1.alloc b1.size _⟩, rfl⟩, ?_⟩
                      clear hK K
                      refine anyC_loud 11 (by kernel_rfl) ?_
                      refine lou_append rfl rfl _ _ _ _ rfl _ _ rfl rfl (by exact r2) ?_
                      refine ⟨fun _ => ⟨⟨_, b2⟩, rfl⟩, ?_⟩
                      refine anyC_loud 18 (by kernel_rfl) ?_
                      refine lou_append rfl rfl _ _ _ _ rfl _ _ rfl rfl (by exact r3) ?_
                      refine ⟨fun _ => ⟨⟨_, b3⟩, rfl⟩, ?_⟩
                      refine anyC_pure 19 rfl (by kernel_rfl) (by kernel_rfl) (by kernel_rfl) ⟨⟨_, b3⟩, rfl⟩ (fun K hK => ?_)
                      go_simp
                      refine hK _ ?_
                      clear hK K
                      refine anyC_pure 20 rfl (by kernel_rfl) (by kernel_rfl) (by kernel_rfl) ⟨⟨_, b3⟩, rfl⟩ (fun K hK => ?_)
                      go_simp
                      refine hK _ ?_
                      clear hK K
                      refine anyC_loud 21 (by kernel_rfl) ?_
                      refine lou_of rfl (fun K hK => ?_)
                      obtain ⟨fz, cz⟩ := FZ6.out s3 b3
                      go_simp
                      refine hK _ _ ⟨fun h => absurd rfl h, ?_⟩
                      clear hK K
                      refine anyC_done (by kernel_rfl) ?_
                      exact ⟨by kernel_rfl, _, FIN6.out _ s3 o3 b3⟩
                    · refine lou_of rfl (fun K hK => ?_)
                      go_simp
                      refine hK _ _ ⟨fun _ => ⟨⟨_, (ALL6.out _ _)⟩, rfl⟩, ?_⟩
                      clear hK K
                      obtain ⟨v1, s1, v2, s2, v3, s3, r1, r2, r3, o3, c1, c2, c3⟩ := I6.out.2.1
                      obtain ⟨g3, p3, rfl⟩ := owns_pos o3 (by omega)
                      have b1 := BB6.out _ c1
                      have b2 := BB6.out _ c2
                      have b3 := BB6.out _ c3
                      refine anyC_loud 8 (by kernel_rfl) ?_
                      refine lou_append rfl rfl _ _ _ _ rfl _ _ rfl rfl (by exact r1) ?_
                      refine ⟨fun _ => ⟨⟨_, b1⟩, rfl⟩, ?_⟩
                      refine anyC_loud 11 (by kernel_rfl) ?_
                      refine lou_append rfl rfl _ _ _ _ rfl _ _ rfl rfl (by exact r2) ?_
                      refine ⟨fun _ => ⟨⟨_, b2⟩, rfl⟩, ?_⟩
                      refine anyC_loud 18 (by kernel_rfl) ?_
                      refine lou_append rfl rfl _ _ _ _ rfl _ _ rfl rfl (by exact r3) ?_
                      refine ⟨fun _ => ⟨⟨_, b3⟩, rfl⟩, ?_⟩
                      refine anyC_pure 19 rfl (by kernel_rfl) (by kernel_rfl) (by kernel_rfl) ⟨⟨_, b3⟩, rfl⟩ (fun K hK => ?_)
                      go_simp
                      refine hK _ ?_
                      clear hK K
                      refine anyC_pure 20 rfl (by kernel_rfl) (by kernel_rfl) (by kernel_rfl) ⟨⟨_, b3⟩, rfl⟩ (fun K hK => ?_)
                      go_simp
                      refine hK _ ?_
                      clear hK K
                      refine anyC_loud 21 (by kernel_rfl) ?_
                      refine lou_of rfl (fun K hK => ?_)
                      obtain ⟨fz, cz⟩ := FZ6.out s3 b3
                      go_simp
                      refine hK _ _ ⟨fun h => absurd rfl h, ?_⟩
                      clear hK K
                      refine anyC_done (by kernel_rfl) ?_
                      exact ⟨by kernel_rfl, _, FIN6.out _ s3 o3 b3⟩
                  · refine lou_of rfl (fun K hK => ?_)
                    go_simp
                    refine hK _ _ ⟨fun _ => ⟨⟨_, (AL6.out _)⟩, rfl⟩, ?_⟩
                    clear hK K
                    refine anyC_loud 1 (by kernel_rfl) ?_
                    refine lou_of rfl (fun K hK => ?_)
                    go_simp
                    refine hK _ _ ⟨fun _ => ⟨⟨_, (ALL6.out _ _)⟩, rfl⟩, ?_⟩
                    clear hK K
                    obtain ⟨v1, s1, v2, s2, v3, s3, r1, r2, r3, o3, c1, c2, c3⟩ := I6.out.2.2
                    obtain ⟨g3, p3, rfl⟩ := owns_pos o3 (by omega)
                    have b1 := BB6.out _ c1
                    have b2 := BB6.out _ c2
                    have b3 := BB6.out _ c3
                    refine anyC_loud 8 (by kernel_rfl) ?_
                    refine lou_append rfl rfl _ _ _ _ rfl _ _ rfl rfl (by exact r1) ?_
                    refine ⟨fun _ => ⟨⟨_, b1⟩, rfl⟩, ?_⟩
                    refine anyC_loud 11 (by kernel_rfl) ?_
                    refine lou_append rfl rfl _ _ _ _ rfl _ _ rfl rfl (by exact r2) ?_
                    refine ⟨fun _ => ⟨⟨_, b2⟩, rfl⟩, ?_⟩
                    refine anyC_loud 18 (by kernel_rfl) ?_
                    refine lou_append rfl rfl _ _ _ _ rfl _ _ rfl rfl (by exact r3) ?_
                    refine ⟨fun _ => ⟨⟨_, b3⟩, rfl⟩, ?_⟩
                    refine anyC_pure 19 rfl (by kernel_rfl) (by kernel_rfl) (by kernel_rfl) ⟨⟨_, b3⟩, rfl⟩ (fun K hK => ?_)
                    go_simp
                    refine hK _ ?_
                    clear hK K
                    refine anyC_pure 20 rfl (by kernel_rfl) (by kernel_rfl) (by kernel_rfl) ⟨⟨_, b3⟩, rfl⟩ (fun K hK => ?_)
                    go_simp
                    refine hK _ ?_
                    clear hK K
                    refine anyC_loud 21 (by kernel_rfl) ?_
                    refine lou_of rfl (fun K hK => ?_)
                    obtain ⟨fz, cz⟩ := FZ6.out s3 b3
                    go_simp
                    refine hK _ _ ⟨fun h => absurd rfl h, ?_⟩
                    clear hK K
                    refine anyC_done (by kernel_rfl) ?_
                    exact ⟨by kernel_rfl, _, FIN6.out _ s3 o3 b3⟩
                case rest2 =>
                  rintro a' w7 ⟨ha, v4, hR7, hM7, hO7⟩
                  obtain ⟨y', hy⟩ : ∃ y' : Nat → Value, y' = fun j => a'.tmps.getD j undef := ⟨_, rfl⟩
                  have ha2 : a' = { tmps := #[.pointer (some ⟨rb, 0, none⟩), (y' 1), (y' 2), .pointer (some ⟨w.heap.size, 0, none⟩), (y' 4), .int .i64 M.length, .int .i64 N, (y' 7), (y' 8), (y' 9), (y' 10), (y' 11), (y' 12), (y' 13), (y' 14), (y' 15), (y' 16), (y' 17), (y' 18), (y' 19), (y' 20), (y' 21), (y' 22), (y' 23), (y' 24), (y' 25), (y' 26), (y' 27), (y' 28), (y' 29), (y' 30), (y' 31), (y' 32), (y' 33), (y' 34), (y' 35), (y' 36), (y' 37), (y' 38), (y' 39), (y' 40), (y' 41), (y' 42), (y' 43), (y' 44), (y' 45), (y' 46), (y' 47), (y' 48), (y' 49), (y' 50), (y' 51), (y' 52), (y' 53), (y' 54), (y' 55), (y' 56), (y' 57), (y' 58), (y' 59), (y' 60), (y' 61), (y' 62), (y' 63), (y' 64), (y' 65), (y' 66), (y' 67), (y' 68), (y' 69), (y' 70), (y' 71), (y' 72), (y' 73), (y' 74), (y' 75), (y' 76), (y' 77), (y' 78), (y' 79), (y' 80), (y' 81), (y' 82), (y' 83), (y' 84), (y' 85), (y' 86), (y' 87), (y' 88), (y' 89), (y' 90), (y' 91), (y' 92), (y' 93), (y' 94), (y' 95), (y' 96), (y' 97), (y' 98), (y' 99), (y' 100), (y' 101), (y' 102), (y' 103), (y' 104), (y' 105), (y' 106), (y' 107), (y' 108), (y' 109), (y' 110), (y' 111), (y' 112), (y' 113), (y' 114)], defers := [] } := by rw [hy]; exact ha
                  clear ha hy
                  subst ha2
                  rw [← HPM.out] at hR7
                  have HR7 := toHidR hR7
                  clear hR7
                  go_wp2_with fail
                  go_ret
                  exact ⟨rfl, _, _, HR7.out, hM7, fun g hg => .inr (hO7 g hg)⟩
            · skip
              obtain ⟨hR4, hI4, -⟩ := HR.out w4 hb4
              have HT := toHidR (refHeight_any rb io li icap _ M.length cL _ w4 hR4.blk hI4 hl (by omega))
              clear hR4 hI4
              generalize nextH (lvls li) M.length = N at *
              have HPM := toHidR hPM
              clear hPM
              go_wp2_with fail
              refine HT.out.mono ?_
              rintro e w5 ⟨rfl, hb5⟩
              have hb51 : Below w1.heap.size w1 w5 := hb4.trans (hb5.mono hb4.size)
              have hbZ : ∀ z : Cl w5.heap.size w5, Below w1.heap.size w1 z.u := fun z => hb51.trans (z.h.mono hb51.size)
              have q1 := fun z : Cl w5.heap.size w5 => (HR.out z.u (hbZ z)).1.blk.cell 1 rfl
              have tz := fun z : Cl w5.heap.size w5 => (HR.out z.u (hbZ z)).2.2.2.2.1
              have d0 := fun z => (tz z).c0
              have d1 := fun z => (tz z).c1
              have d2 := fun z => (tz z).c2
              have d3 := fun z => (tz z).c3
              have d4 := fun z => (tz z).c4
              have d5 := fun z => (tz z).c5
              have d6 := fun z => (tz z).c6
              have d7 := fun z => (tz z).c7
              have d8 := fun z => (tz z).c8
              have d9 := fun z => (tz z).c9
              simp only [Nat.zero_add] at d0 d1 d2 d3 d4 d5 d6 d7 d8 d9
              haveI := Cl.inh w5.heap.size w5
              have HC5 : Hid (∃ p : Cl w5.heap.size w5, w5.drew = p.u) := ⟨⟨_, (Below.refl _ _).drew⟩, rfl⟩
              have AL5 : Hid (∀ o : Obj, Below w5.heap.size w5 (w5.drew.alloc o)) := fun o => ((Below.refl w5.heap.size w5).drew).alloc (Nat.le_refl _) o
              have ALL5 : Hid (∀ o o' : Obj, Below w5.heap.size w5 ((w5.drew.alloc o).alloc o')) := fun o o' => (AL5.out o).alloc (AL5.out o).size o'
              have BB5 : Hid (∀ s, Below w5.heap.size w5.drew s → Below w5.heap.size w5 s) := fun s hs => (Below.refl w5.heap.size w5).drew.trans hs
              have XL5 : Hid (∀ s, Below w5.heap.size w5 s → RfAt B s rb (.slice io li.length icap) M (.slice (some ⟨g, 0, none⟩) M.length cL) (.slice (some ⟨gh, oh, none⟩) M.length cH) ∧ XSees s (some ⟨g, 0, none⟩) (M.map Prod.fst) ∧ Below w.heap.size w s) := fun s hs => by
                have h0 := HR.out s (hb51.trans (hs.mono hb51.size))
                exact ⟨h0.1, h0.2.2.1, h0.2.2.2.2.2⟩
              have hml : (M.map Prod.fst).length = M.length := List.length_map _
              have SRA : ∀ s, Below w5.heap.size w5 s → Src Try.prog 10 23 (.slice (some ⟨g, 0, none⟩) M.length cL) M.length (((M.map Prod.fst).take M.length).flatMap xs10) s := fun s hs => src_take (XL5.out s hs).2.1 (by omega) _
              have hdn : ((M.map Prod.fst).drop M.length).flatMap xs10 = [] := by rw [List.drop_of_length_le (by omega)]; rfl
              have SRC : ∀ s, Below w5.heap.size w5 s → Src Try.prog 10 23 (.slice (some ⟨g, M.length * 10, none⟩) 0 (cL - M.length)) 0 (((M.map Prod.fst).drop M.length).flatMap xs10) s := fun s _ => by rw [hdn]; exact src_zero _ _
              clear hdn
              have I5 := toHidR (ins3 (k := 10) (bytes := 112) (t := 23) (e := 40) Try.underlying23 hi1 hy0 hy1 hy2 rfl w5.drew (.slice (some ⟨g, 0, none⟩) M.length cL) (.slice (some ⟨g, M.length * 10, none⟩) 0 (cL - M.length)) M.length 0 (((M.map Prod.fst).take M.length).flatMap xs10) (((M.map Prod.fst).drop M.length).flatMap xs10) (xs10 ⟨⟨ct, cp, cr, cc⟩, ⟨cti, cd, cl, ck, cn, cstr⟩⟩) #[.string ct, .string cp, .int .i64 cr, .string cc, .int .i64 cti, .bool cd, .int .i64 cl, .int .i64 ck, .int .i64 cn, .string cstr] (fun s hs => SRA s (BB5.out s hs)) (fun s hs => SRC s (BB5.out s hs)) (fun s b hb => src_box (c := ⟨⟨ct, cp, cr, cc⟩, ⟨cti, cd, cl, ck, cn, cstr⟩⟩) hb) (by omega) (by omega))
              have FZ5 : Hid (∀ s, Below w5.heap.size w5 s → s.frozen? ⟨rb, 1, none⟩ = false ∧ s.cell? ⟨rb, 1, none⟩ = some (.slice (some ⟨g, 0, none⟩) M.length cL)) := fun s hs => ⟨frozen_at (XL5.out s hs).1.blk 1, (XL5.out s hs).1.blk.cell 1 rfl⟩
              have FIN5 : Hid (∀ v3 s3, s3.ownsRow w5.drew.heap.size 40 10 v3 (M.length + 1 + 0) (((M.map Prod.fst).take M.length).flatMap xs10 ++ xs10 ⟨⟨ct, cp, cr, cc⟩, ⟨cti, cd, cl, ck, cn, cstr⟩⟩ ++ ((M.map Prod.fst).drop M.length).flatMap xs10) → Below w5.heap.size w5 s3 → Mid B w (s3.setCell ⟨rb, 1, none⟩ v3) rb (.slice io li.length icap) (M.take M.length ++ [(⟨⟨ct, cp, cr, cc⟩, ⟨cti, cd, cl, ck, cn, cstr⟩⟩, N)] ++ M.drop M.length) M v3 (.slice (some ⟨gh, oh, none⟩) M.length cH) ∧ TenX (s3.setCell ⟨rb, 1, none⟩ v3) w.heap.size 0 ⟨⟨ct, cp, cr, cc⟩, ⟨cti, cd, cl, ck, cn, cstr⟩⟩) := fun v3 s3 o3 b3 => by
                obtain ⟨hR, -, hBw⟩ := XL5.out s3 b3
                have ht := (HR.out s3 (hb51.trans (b3.mono hb51.size))).2.2.2.2.1
                exact mid_of hR hBw o3 (Nat.le_trans hBs (Nat.le_trans (by omega) hb51.size)) (Nat.le_trans (Nat.le_of_lt hw1s) hb51.size) (by rw [len_ins _ _ (by omega)]; omega) (xN_ins M M.length ⟨⟨ct, cp, cr, cc⟩, ⟨cti, cd, cl, ck, cn, cstr⟩⟩ N) ht hrbl
              clear tz hbZ
              go_wp2_with fail
              refine wp_region_C (fun w' => ∃ p : Cl w5.heap.size w5, w' = p.u) 21 (fun a' w' =>  a' = { tmps := #[.pointer (some ⟨rb, 0, none⟩), (a'.tmps.getD 1 undef), (a'.tmps.getD 2 undef), .pointer (some ⟨w.heap.size, 0, none⟩), (a'.tmps.getD 4 undef), .int .i64 M.length, .int .i64 N, (a'.tmps.getD 7 undef), (a'.tmps.getD 8 undef), (a'.tmps.getD 9 undef), (a'.tmps.getD 10 undef), (a'.tmps.getD 11 undef), (a'.tmps.getD 12 undef), (a'.tmps.getD 13 undef), (a'.tmps.getD 14 undef), (a'.tmps.getD 15 undef), (a'.tmps.getD 16 undef), (a'.tmps.getD 17 undef), (a'.tmps.getD 18 undef), (a'.tmps.getD 19 undef), (a'.tmps.getD 20 undef), (a'.tmps.getD 21 undef), (a'.tmps.getD 22 undef), (a'.tmps.getD 23 undef), (a'.tmps.getD 24 undef), (a'.tmps.getD 25 undef), (a'.tmps.getD 26 undef), (a'.tmps.getD 27 undef), (a'.tmps.getD 28 undef), (a'.tmps.getD 29 undef), (a'.tmps.getD 30 undef), (a'.tmps.getD 31 undef), (a'.tmps.getD 32 undef), (a'.tmps.getD 33 undef), (a'.tmps.getD 34 undef), (a'.tmps.getD 35 undef), (a'.tmps.getD 36 undef), (a'.tmps.getD 37 undef), (a'.tmps.getD 38 undef), (a'.tmps.getD 39 undef), (a'.tmps.getD 40 undef), (a'.tmps.getD 41 undef), (a'.tmps.getD 42 undef), (a'.tmps.getD 43 undef), (a'.tmps.getD 44 undef), (a'.tmps.getD 45 undef), (a'.tmps.getD 46 undef), (a'.tmps.getD 47 undef), (a'.tmps.getD 48 undef), (a'.tmps.getD 49 undef), (a'.tmps.getD 50 undef), (a'.tmps.getD 51 undef), (a'.tmps.getD 52 undef), (a'.tmps.getD 53 undef), (a'.tmps.getD 54 undef), (a'.tmps.getD 55 undef), (a'.tmps.getD 56 undef), (a'.tmps.getD 57 undef), (a'.tmps.getD 58 undef), (a'.tmps.getD 59 undef), (a'.tmps.getD 60 undef), (a'.tmps.getD 61 undef), (a'.tmps.getD 62 undef), (a'.tmps.getD 63 undef), (a'.tmps.getD 64 undef), (a'.tmps.getD 65 undef), (a'.tmps.getD 66 undef), (a'.tmps.getD 67 undef), (a'.tmps.getD 68 undef), (a'.tmps.getD 69 undef), (a'.tmps.getD 70 undef), (a'.tmps.getD 71 undef), (a'.tmps.getD 72 undef), (a'.tmps.getD 73 undef), (a'.tmps.getD 74 undef), (a'.tmps.getD 75 undef), (a'.tmps.getD 76 undef), (a'.tmps.getD 77 undef), (a'.tmps.getD 78 undef), (a'.tmps.getD 79 undef), (a'.tmps.getD 80 undef), (a'.tmps.getD 81 undef), (a'.tmps.getD 82 undef), (a'.tmps.getD 83 undef), (a'.tmps.getD 84 undef), (a'.tmps.getD 85 undef), (a'.tmps.getD 86 undef), (a'.tmps.getD 87 undef), (a'.tmps.getD 88 undef), (a'.tmps.getD 89 undef), (a'.tmps.getD 90 undef), (a'.tmps.getD 91 undef), (a'.tmps.getD 92 undef), (a'.tmps.getD 93 undef), (a'.tmps.getD 94 undef), (a'.tmps.getD 95 undef), (a'.tmps.getD 96 undef), (a'.tmps.getD 97 undef), (a'.tmps.getD 98 undef), (a'.tmps.getD 99 undef), (a'.tmps.getD 100 undef), (a'.tmps.getD 101 undef), (a'.tmps.getD 102 undef), (a'.tmps.getD 103 undef), (a'.tmps.getD 104 undef), (a'.tmps.getD 105 undef), (a'.tmps.getD 106 undef), (a'.tmps.getD 107 undef), (a'.tmps.getD 108 undef), (a'.tmps.getD 109 undef), (a'.tmps.getD 110 undef), (a'.tmps.getD 111 undef), (a'.tmps.getD 112 undef), (a'.tmps.getD 113 undef), (a'.tmps.getD 114 undef)], defers := [] } ∧ ∃ v3, Mid B w w' rb (.slice io li.length icap) (M.take M.length ++ [(⟨⟨ct, cp, cr, cc⟩, ⟨cti, cd, cl, ck, cn, cstr⟩⟩, N)] ++ M.drop M.length) M v3 (.slice (some ⟨gh, oh, none⟩) M.length cH) ∧ TenX w' w.heap.size 0 ⟨⟨ct, cp, cr, cc⟩, ⟨cti, cd, cl, ck, cn, cstr⟩⟩) (by kernel_rfl) ?reg ?rest
              case reg =>
                refine anyC_pure 0 rfl (by kernel_rfl) (by kernel_rfl) (by kernel_rfl) HC5.out (fun K hK => ?_)
                go_simp
                refine hK _ ?_
                clear hK K
                refine anyC_pure 2 rfl (by kernel_rfl) (by kernel_rfl) (by kernel_rfl) HC5.out (fun K hK => ?_)
                go_simp
                refine hK _ ?_
                clear hK K
                refine anyC_pure 3 rfl (by kernel_rfl) (by kernel_rfl) (by kernel_rfl) HC5.out (fun K hK => ?_)
                go_simp
                refine hK _ ?_
                clear hK K
                refine anyC_pure 4 rfl (by kernel_rfl) (by kernel_rfl) (by kernel_rfl) HC5.out (fun K hK => ?_)
                go_simp
                refine hK _ ?_
                clear hK K
                refine anyC_pure 5 rfl (by kernel_rfl) (by kernel_rfl) (by kernel_rfl) HC5.out (fun K hK => ?_)
                go_simp
                refine hK _ ?_
                clear hK K
                refine anyC_pure 6 rfl (by kernel_rfl) (by kernel_rfl) (by kernel_rfl) HC5.out (fun K hK => ?_)
                go_simp
                refine hK _ ?_
                clear hK K
                refine anyC_pure 7 rfl (by kernel_rfl) (by kernel_rfl) (by kernel_rfl) HC5.out (fun K hK => ?_)
                go_simp
                refine hK _ ?_
                clear hK K
                refine anyC_pure 9 rfl (by kernel_rfl) (by kernel_rfl) (by kernel_rfl) HC5.out (fun K hK => ?_)
                go_simp
                refine hK _ ?_
                clear hK K
                refine anyC_pure 12 rfl (by kernel_rfl) (by kernel_rfl) (by kernel_rfl) HC5.out (fun K hK => ?_)
                go_simp
                refine hK _ ?_
                clear hK K
                refine anyC_pure 13 rfl (by kernel_rfl) (by kernel_rfl) (by kernel_rfl) HC5.out (fun K hK => ?_)
                go_simp
                refine hK _ ?_
                clear hK K
                refine anyC_pure 14 rfl (by kernel_rfl) (by kernel_rfl) (by kernel_rfl) HC5.out (fun K hK => ?_)
                go_simp
                refine hK _ ?_
                clear hK K
                refine anyC_pure 15 rfl (by kernel_rfl) (by kernel_rfl) (by kernel_rfl) HC5.out (fun K hK => ?_)
                go_simp
                refine hK _ ?_
                clear hK K
                refine anyC_pure 16 rfl (by kernel_rfl) (by kernel_rfl) (by kernel_rfl) HC5.out (fun K hK => ?_)
                go_simp
                refine hK _ ?_
                clear hK K
                refine anyC_pure 17 rfl (by kernel_rfl) (by kernel_rfl) (by kernel_rfl) HC5.out (fun K hK => ?_)
                go_simp
                refine hK _ ?_
                clear hK K
                refine anyC_loud2 1 10 (by kernel_rfl) ?_ ?_
                · refine lou_of rfl (fun K hK => ?_)
                  go_simp
                  refine hK _ _ ⟨fun _ => ⟨⟨_, (AL5.out _)⟩, rfl⟩, ?_⟩
                  clear hK K
                  refine anyC_loud2 8 10 (by kernel_rfl) ?_ ?_
                  · obtain ⟨v1, s1, v2, s2, v3, s3, r1, r2, r3, o3, c1, c2, c3⟩ := I5.out.1
                    obtain ⟨g3, p3, rfl⟩ := owns_pos o3 (by omega)
                    have b1 := BB5.out _ c1
                    have b2 := BB5.out _ c2
                    have b3 := BB5.out _ c3
                    refine lou_append rfl rfl _ _ _ _ rfl _ _ rfl rfl (by exact r1) ?_
                    refine ⟨fun _ => ⟨⟨_, b1⟩, rfl⟩, ?_⟩
                    refine anyC_loud 10 (by kernel_rfl) ?_
                    refine lou_of rfl (fun K hK => ?_)
                    go_simp
                    refine hK _ _ ⟨fun _ => ⟨⟨_, b1.alloc b1.size _⟩, rfl⟩, ?_⟩
                    clear hK K
                    refine anyC_loud 11 (by kernel_rfl) ?_
                    refine lou_append rfl rfl _ _ _ _ rfl _ _ rfl rfl (by exact r2) ?_
                    refine ⟨fun _ => ⟨⟨_, b2⟩, rfl⟩, ?_⟩
                    refine anyC_loud 18 (by kernel_rfl) ?_
                    refine lou_append rfl rfl _ _ _ _ rfl _ _ rfl rfl (by exact r3) ?_
                    refine ⟨fun _ => ⟨⟨_, b3⟩, rfl⟩, ?_⟩
                    refine anyC_pure 19 rfl (by kernel_rfl) (by kernel_rfl) (by kernel_rfl) ⟨⟨_, b3⟩, rfl⟩ (fun K hK => ?_)
                    go_simp
                    refine hK _ ?_
                    clear hK K
                    refine anyC_pure 20 rfl (by kernel_rfl) (by kernel_rfl) (by kernel_rfl) ⟨⟨_, b3⟩, rfl⟩ (fun K hK => ?_)
                    go_simp
                    refine hK _ ?_
                    clear hK K
                    refine anyC_loud 21 (by kernel_rfl) ?_
                    refine lou_of rfl (fun K hK => ?_)
                    obtain ⟨fz, cz⟩ := FZ5.out s3 b3
                    go_simp
                    refine hK _ _ ⟨fun h => absurd rfl h, ?_⟩
                    clear hK K
                    refine anyC_done (by kernel_rfl) ?_
                    exact ⟨by kernel_rfl, _, FIN5.out _ s3 o3 b3⟩
                  · refine lou_of rfl (fun K hK => ?_)
                    go_simp
                    refine hK _ _ ⟨fun _ => ⟨⟨_, (ALL5.out _ _)⟩, rfl⟩, ?_⟩
                    clear hK K
                    obtain ⟨v1, s1, v2, s2, v3, s3, r1, r2, r3, o3, c1, c2, c3⟩ := I5.out.2.1
                    obtain ⟨g3, p3, rfl⟩ := owns_pos o3 (by omega)
                    have b1 := BB5.out _ c1
                    have b2 := BB5.out _ c2
                    have b3 := BB5.out _ c3
                    refine anyC_loud 8 (by kernel_rfl) ?_
                    refine lou_append rfl rfl _ _ _ _ rfl _ _ rfl rfl (by exact r1) ?_
                    refine ⟨fun _ => ⟨⟨_, b1⟩, rfl⟩, ?_⟩
                    refine anyC_loud 11 (by kernel_rfl) ?_
                    refine lou_append rfl rfl _ _ _ _ rfl _ _ rfl rfl (by exact r2) ?_
                    refine ⟨fun _ => ⟨⟨_, b2⟩, rfl⟩, ?_⟩
                    refine anyC_loud 18 (by kernel_rfl) ?_
                    refine lou_append rfl rfl _ _ _ _ rfl _ _ rfl rfl (by exact r3) ?_
                    refine ⟨fun _ => ⟨⟨_, b3⟩, rfl⟩, ?_⟩
                    refine anyC_pure 19 rfl (by kernel_rfl) (by kernel_rfl) (by kernel_rfl) ⟨⟨_, b3⟩, rfl⟩ (fun K hK => ?_)
                    go_simp
                    refine hK _ ?_
                    clear hK K
                    refine anyC_pure 20 rfl (by kernel_rfl) (by kernel_rfl) (by kernel_rfl) ⟨⟨_, b3⟩, rfl⟩ (fun K hK => ?_)
                    go_simp
                    refine hK _ ?_
                    clear hK K
                    refine anyC_loud 21 (by kernel_rfl) ?_
                    refine lou_of rfl (fun K hK => ?_)
                    obtain ⟨fz, cz⟩ := FZ5.out s3 b3
                    go_simp
                    refine hK _ _ ⟨fun h => absurd rfl h, ?_⟩
                    clear hK K
                    refine anyC_done (by kernel_rfl) ?_
                    exact ⟨by kernel_rfl, _, FIN5.out _ s3 o3 b3⟩
                · refine lou_of rfl (fun K hK => ?_)
                  go_simp
                  refine hK _ _ ⟨fun _ => ⟨⟨_, (AL5.out _)⟩, rfl⟩, ?_⟩
                  clear hK K
                  refine anyC_loud 1 (by kernel_rfl) ?_
                  refine lou_of rfl (fun K hK => ?_)
                  go_simp
                  refine hK _ _ ⟨fun _ => ⟨⟨_, (ALL5.out _ _)⟩, rfl⟩, ?_⟩
                  clear hK K
                  obtain ⟨v1, s1, v2, s2, v3, s3, r1, r2, r3, o3, c1, c2, c3⟩ := I5.out.2.2
                  obtain ⟨g3, p3, rfl⟩ := owns_pos o3 (by omega)
                  have b1 := BB5.out _ c1
                  have b2 := BB5.out _ c2
                  have b3 := BB5.out _ c3
                  refine anyC_loud 8 (by kernel_rfl) ?_
                  refine lou_append rfl rfl _ _ _ _ rfl _ _ rfl rfl (by exact r1) ?_
                  refine ⟨fun _ => ⟨⟨_, b1⟩, rfl⟩, ?_⟩
                  refine anyC_loud 11 (by kernel_rfl) ?_
                  refine lou_append rfl rfl _ _ _ _ rfl _ _ rfl rfl (by exact r2) ?_
                  refine ⟨fun _ => ⟨⟨_, b2⟩, rfl⟩, ?_⟩
                  refine anyC_loud 18 (by kernel_rfl) ?_
                  refine lou_append rfl rfl _ _ _ _ rfl _ _ rfl rfl (by exact r3) ?_
                  refine ⟨fun _ => ⟨⟨_, b3⟩, rfl⟩, ?_⟩
                  refine anyC_pure 19 rfl (by kernel_rfl) (by kernel_rfl) (by kernel_rfl) ⟨⟨_, b3⟩, rfl⟩ (fun K hK => ?_)
                  go_simp
                  refine hK _ ?_
                  clear hK K
                  refine anyC_pure 20 rfl (by kernel_rfl) (by kernel_rfl) (by kernel_rfl) ⟨⟨_, b3⟩, rfl⟩ (fun K hK => ?_)
                  go_simp
                  refine hK _ ?_
                  clear hK K
                  refine anyC_loud 21 (by kernel_rfl) ?_
                  refine lou_of rfl (fun K hK => ?_)
                  obtain ⟨fz, cz⟩ := FZ5.out s3 b3
                  go_simp
                  refine hK _ _ ⟨fun h => absurd rfl h, ?_⟩
                  clear hK K
                  refine anyC_done (by kernel_rfl) ?_
                  exact ⟨by kernel_rfl, _, FIN5.out _ s3 o3 b3⟩
              case rest =>
                rintro a' w6 ⟨ha, v3, hMid, htc⟩
                obtain ⟨y, hy⟩ : ∃ y : Nat → Value, y = fun j => a'.tmps.getD j undef := ⟨_, rfl⟩
                have ha2 : a' = { tmps := #[.pointer (some ⟨rb, 0, none⟩), (y 1), (y 2), .pointer (some ⟨w.heap.size, 0, none⟩), (y 4), .int .i64 M.length, .int .i64 N, (y 7), (y 8), (y 9), (y 10), (y 11), (y 12), (y 13), (y 14), (y 15), (y 16), (y 17), (y 18), (y 19), (y 20), (y 21), (y 22), (y 23), (y 24), (y 25), (y 26), (y 27), (y 28), (y 29), (y 30), (y 31), (y 32), (y 33), (y 34), (y 35), (y 36), (y 37), (y 38), (y 39), (y 40), (y 41), (y 42), (y 43), (y 44), (y 45), (y 46), (y 47), (y 48), (y 49), (y 50), (y 51), (y 52), (y 53), (y 54), (y 55), (y 56), (y 57), (y 58), (y 59), (y 60), (y 61), (y 62), (y 63), (y 64), (y 65), (y 66), (y 67), (y 68), (y 69), (y 70), (y 71), (y 72), (y 73), (y 74), (y 75), (y 76), (y 77), (y 78), (y 79), (y 80), (y 81), (y 82), (y 83), (y 84), (y 85), (y 86), (y 87), (y 88), (y 89), (y 90), (y 91), (y 92), (y 93), (y 94), (y 95), (y 96), (y 97), (y 98), (y 99), (y 100), (y 101), (y 102), (y 103), (y 104), (y 105), (y 106), (y 107), (y 108), (y 109), (y 110), (y 111), (y 112), (y 113), (y 114)], defers := [] } := by rw [hy]; exact ha
                clear ha hy
                subst ha2
                clear q1 d0 d1 d2 d3 d4 d5 d6 d7 d8 d9 I5 FZ5 FIN5 HC5 AL5 ALL5 BB5
                obtain ⟨j1, hj1, hv0, hv1, hv2⟩ := infoX infoInt
                have hMl : Hid (∀ s, Below w6.heap.size w6 s → Mid B w s rb (.slice io li.length icap) (M.take M.length ++ [(⟨⟨ct, cp, cr, cc⟩, ⟨cti, cd, cl, ck, cn, cstr⟩⟩, N)] ++ M.drop M.length) M v3 (.slice (some ⟨gh, oh, none⟩) M.length cH)) := fun s hs => hMid.below hs
                obtain ⟨av, cv, hav, hIv⟩ := owns_isees hMid.H
                have hIs : ISees w6 (some ⟨gh, oh, none⟩) (M.map fun p => (p.2 : Int)) := by
                  injection hav with e1 _ _
                  rw [e1]; exact hIv
                have hil : (M.map fun p => (p.2 : Int)).length = M.length := List.length_map _
                have p2 : ∀ z : Cl w6.heap.size w6, z.u.cell? ⟨rb, 2, none⟩ = some (.slice (some ⟨gh, oh, none⟩) M.length cH) := fun z => (hMl.out z.u z.h).blk.cell 2 rfl
                haveI := Cl.inh w6.heap.size w6
                have HC6 : Hid (∃ p : Cl w6.heap.size w6, w6.drew = p.u) := ⟨⟨_, (Below.refl _ _).drew⟩, rfl⟩
                have AL6 : Hid (∀ o : Obj, Below w6.heap.size w6 (w6.drew.alloc o)) := fun o => ((Below.refl w6.heap.size w6).drew).alloc (Nat.le_refl _) o
                have ALL6 : Hid (∀ o o' : Obj, Below w6.heap.size w6 ((w6.drew.alloc o).alloc o')) := fun o o' => (AL6.out o).alloc (AL6.out o).size o'
                have BB6 : Hid (∀ s, Below w6.heap.size w6.drew s → Below w6.heap.size w6 s) := fun s hs => (Below.refl w6.heap.size w6).drew.trans hs
                have HRA : ∀ s, Below w6.heap.size w6 s → Src Try.prog 1 22 (.slice (some ⟨gh, oh, none⟩) M.length cH) M.length (vI ((M.map fun p => (p.2 : Int)).take M.length)) s := fun s hs => srcI_take (hIs.below hs (Nat.le_refl _)) (by omega) _
                have hdh : vI ((M.map fun p => (p.2 : Int)).drop M.length) = [] := by rw [List.drop_of_length_le (by omega)]; rfl
                have HRC : ∀ s, Below w6.heap.size w6 s → Src Try.prog 1 22 (.slice (some ⟨gh, oh + M.length, none⟩) 0 (cH - M.length)) 0 (vI ((M.map fun p => (p.2 : Int)).drop M.length)) s := fun s _ => by rw [hdh]; exact srcI_zero _ _
                clear hdh
                have I6 := toHidR (ins3 (k := 1) (bytes := 8) (t := 22) (e := 3) Try.underlying22 hj1 hv0 hv1 hv2 rfl w6.drew (.slice (some ⟨gh, oh, none⟩) M.length cH) (.slice (some ⟨gh, oh + M.length, none⟩) 0 (cH - M.length)) M.length 0 (vI ((M.map fun p => (p.2 : Int)).take M.length)) (vI ((M.map fun p => (p.2 : Int)).drop M.length)) (vI [(N : Int)]) #[.int .i64 (N : Int)] (fun s hs => HRA s (BB6.out s hs)) (fun s hs => HRC s (BB6.out s hs)) (fun s b hb => srcI_box hb) (by omega) (by omega))
                have FZ6 : Hid (∀ s, Below w6.heap.size w6 s → s.frozen? ⟨rb, 2, none⟩ = false ∧ s.cell? ⟨rb, 2, none⟩ = some (.slice (some ⟨gh, oh, none⟩) M.length cH)) := fun s hs => ⟨frozen_at (hMl.out s hs).blk 2, (hMl.out s hs).blk.cell 2 rfl⟩
                have FIN6 : Hid (∀ v4 s4, s4.ownsRow w6.drew.heap.size 3 1 v4 (M.length + 1 + 0) (vI ((M.map fun p => (p.2 : Int)).take M.length) ++ vI [(N : Int)] ++ vI ((M.map fun p => (p.2 : Int)).drop M.length)) → Below w6.heap.size w6 s4 → RfAt B (s4.setCell ⟨rb, 2, none⟩ v4) rb (.slice io li.length icap) (M.take M.length ++ [(⟨⟨ct, cp, cr, cc⟩, ⟨cti, cd, cl, ck, cn, cstr⟩⟩, N)] ++ M.drop M.length) v3 v4 ∧ Moved w (s4.setCell ⟨rb, 2, none⟩ v4) (rft rb (.slice (some ⟨g, 0, none⟩) M.length cL)) (rft rb v3) ∧ ∀ g, v4.ownBlock = some g → w.heap.size ≤ g) := fun v4 s4 o4 b4 =>
                  fin_of (hMl.out s4 b4) o4 (Nat.le_trans hBs hMid.size) hMid.size (by rw [len_ins _ _ (by omega)]; omega) (vN_ins M M.length ⟨⟨ct, cp, cr, cc⟩, ⟨cti, cd, cl, ck, cn, cstr⟩⟩ N) (by simp)
                clear hIs hIv hav hil
                go_wp2_with fail
                refine wp_region_C (fun w' => ∃ p : Cl w6.heap.size w6, w' = p.u) 21 (fun a' w' =>  a' = { tmps := #[.pointer (some ⟨rb, 0, none⟩), (a'.tmps.getD 1 undef), (a'.tmps.getD 2 undef), .pointer (some ⟨w.heap.size, 0, none⟩), (a'.tmps.getD 4 undef), .int .i64 M.length, .int .i64 N, (a'.tmps.getD 7 undef), (a'.tmps.getD 8 undef), (a'.tmps.getD 9 undef), (a'.tmps.getD 10 undef), (a'.tmps.getD 11 undef), (a'.tmps.getD 12 undef), (a'.tmps.getD 13 undef), (a'.tmps.getD 14 undef), (a'.tmps.getD 15 undef), (a'.tmps.getD 16 undef), (a'.tmps.getD 17 undef), (a'.tmps.getD 18 undef), (a'.tmps.getD 19 undef), (a'.tmps.getD 20 undef), (a'.tmps.getD 21 undef), (a'.tmps.getD 22 undef), (a'.tmps.getD 23 undef), (a'.tmps.getD 24 undef), (a'.tmps.getD 25 undef), (a'.tmps.getD 26 undef), (a'.tmps.getD 27 undef), (a'.tmps.getD 28 undef), (a'.tmps.getD 29 undef), (a'.tmps.getD 30 undef), (a'.tmps.getD 31 undef), (a'.tmps.getD 32 undef), (a'.tmps.getD 33 undef), (a'.tmps.getD 34 undef), (a'.tmps.getD 35 undef), (a'.tmps.getD 36 undef), (a'.tmps.getD 37 undef), (a'.tmps.getD 38 undef), (a'.tmps.getD 39 undef), (a'.tmps.getD 40 undef), (a'.tmps.getD 41 undef), (a'.tmps.getD 42 undef), (a'.tmps.getD 43 undef), (a'.tmps.getD 44 undef), (a'.tmps.getD 45 undef), (a'.tmps.getD 46 undef), (a'.tmps.getD 47 undef), (a'.tmps.getD 48 undef), (a'.tmps.getD 49 undef), (a'.tmps.getD 50 undef), (a'.tmps.getD 51 undef), (a'.tmps.getD 52 undef), (a'.tmps.getD 53 undef), (a'.tmps.getD 54 undef), (a'.tmps.getD 55 undef), (a'.tmps.getD 56 undef), (a'.tmps.getD 57 undef), (a'.tmps.getD 58 undef), (a'.tmps.getD 59 undef), (a'.tmps.getD 60 undef), (a'.tmps.getD 61 undef), (a'.tmps.getD 62 undef), (a'.tmps.getD 63 undef), (a'.tmps.getD 64 undef), (a'.tmps.getD 65 undef), (a'.tmps.getD 66 undef), (a'.tmps.getD 67 undef), (a'.tmps.getD 68 undef), (a'.tmps.getD 69 undef), (a'.tmps.getD 70 undef), (a'.tmps.getD 71 undef), (a'.tmps.getD 72 undef), (a'.tmps.getD 73 undef), (a'.tmps.getD 74 undef), (a'.tmps.getD 75 undef), (a'.tmps.getD 76 undef), (a'.tmps.getD 77 undef), (a'.tmps.getD 78 undef), (a'.tmps.getD 79 undef), (a'.tmps.getD 80 undef), (a'.tmps.getD 81 undef), (a'.tmps.getD 82 undef), (a'.tmps.getD 83 undef), (a'.tmps.getD 84 undef), (a'.tmps.getD 85 undef), (a'.tmps.getD 86 undef), (a'.tmps.getD 87 undef), (a'.tmps.getD 88 undef), (a'.tmps.getD 89 undef), (a'.tmps.getD 90 undef), (a'.tmps.getD 91 undef), (a'.tmps.getD 92 undef), (a'.tmps.getD 93 undef), (a'.tmps.getD 94 undef), (a'.tmps.getD 95 undef), (a'.tmps.getD 96 undef), (a'.tmps.getD 97 undef), (a'.tmps.getD 98 undef), (a'.tmps.getD 99 undef), (a'.tmps.getD 100 undef), (a'.tmps.getD 101 undef), (a'.tmps.getD 102 undef), (a'.tmps.getD 103 undef), (a'.tmps.getD 104 undef), (a'.tmps.getD 105 undef), (a'.tmps.getD 106 undef), (a'.tmps.getD 107 undef), (a'.tmps.getD 108 undef), (a'.tmps.getD 109 undef), (a'.tmps.getD 110 undef), (a'.tmps.getD 111 undef), (a'.tmps.getD 112 undef), (a'.tmps.getD 113 undef), (a'.tmps.getD 114 undef)], defers := [] } ∧ ∃ v4, RfAt B w' rb (.slice io li.length icap) (M.take M.length ++ [(⟨⟨ct, cp, cr, cc⟩, ⟨cti, cd, cl, ck, cn, cstr⟩⟩, N)] ++ M.drop M.length) v3 v4 ∧ Moved w w' (rft rb (.slice (some ⟨g, 0, none⟩) M.length cL)) (rft rb v3) ∧ ∀ g, v4.ownBlock = some g → w.heap.size ≤ g) (by kernel_rfl) ?reg2 ?rest2
                case reg2 =>
                  refine anyC_pure 0 rfl (by kernel_rfl) (by kernel_rfl) (by kernel_rfl) HC6.out (fun K hK => ?_)
                  go_simp
                  refine hK _ ?_
                  clear hK K
                  refine anyC_pure 2 rfl (by kernel_rfl) (by kernel_rfl) (by kernel_rfl) HC6.out (fun K hK => ?_)
                  go_simp
                  refine hK _ ?_
                  clear hK K
                  refine anyC_pure 3 rfl (by kernel_rfl) (by kernel_rfl) (by kernel_rfl) HC6.out (fun K hK => ?_)
                  go_simp
                  refine hK _ ?_
                  clear hK K
                  refine anyC_pure 4 rfl (by kernel_rfl) (by kernel_rfl) (by kernel_rfl) HC6.out (fun K hK => ?_)
                  go_simp
                  refine hK _ ?_
                  clear hK K
                  refine anyC_pure 5 rfl (by kernel_rfl) (by kernel_rfl) (by kernel_rfl) HC6.out (fun K hK => ?_)
                  go_simp
                  refine hK _ ?_
                  clear hK K
                  refine anyC_pure 6 rfl (by kernel_rfl) (by kernel_rfl) (by kernel_rfl) HC6.out (fun K hK => ?_)
                  go_simp
                  refine hK _ ?_
                  clear hK K
                  refine anyC_pure 7 rfl (by kernel_rfl) (by kernel_rfl) (by kernel_rfl) HC6.out (fun K hK => ?_)
                  go_simp
                  refine hK _ ?_
                  clear hK K
                  refine anyC_pure 9 rfl (by kernel_rfl) (by kernel_rfl) (by kernel_rfl) HC6.out (fun K hK => ?_)
                  go_simp
                  refine hK _ ?_
                  clear hK K
                  refine anyC_pure 12 rfl (by kernel_rfl) (by kernel_rfl) (by kernel_rfl) HC6.out (fun K hK => ?_)
                  go_simp
                  refine hK _ ?_
                  clear hK K
                  refine anyC_pure 13 rfl (by kernel_rfl) (by kernel_rfl) (by kernel_rfl) HC6.out (fun K hK => ?_)
                  go_simp
                  refine hK _ ?_
                  clear hK K
                  refine anyC_pure 14 rfl (by kernel_rfl) (by kernel_rfl) (by kernel_rfl) HC6.out (fun K hK => ?_)
                  go_simp
                  refine hK _ ?_
                  clear hK K
                  refine anyC_pure 15 rfl (by kernel_rfl) (by kernel_rfl) (by kernel_rfl) HC6.out (fun K hK => ?_)
                  go_simp
                  refine hK _ ?_
                  clear hK K
                  refine anyC_pure 16 rfl (by kernel_rfl) (by kernel_rfl) (by kernel_rfl) HC6.out (fun K hK => ?_)
                  go_simp
                  refine hK _ ?_
                  clear hK K
                  refine anyC_pure 17 rfl (by kernel_rfl) (by kernel_rfl) (by kernel_rfl) HC6.out (fun K hK => ?_)
                  go_simp
                  refine hK _ ?_
                  clear hK K
                  refine anyC_loud2 1 10 (by kernel_rfl) ?_ ?_
                  · refine lou_of rfl (fun K hK => ?_)
                    go_simp
                    refine hK _ _ ⟨fun _ => ⟨⟨_, (AL6.out _)⟩, rfl⟩, ?_⟩
                    clear hK K
                    refine anyC_loud2 8 10 (by kernel_rfl) ?_ ?_
                    · obtain ⟨v1, s1, v2, s2, v3, s3, r1, r2, r3, o3, c1, c2, c3⟩ := I6.out.1
                      obtain ⟨g3, p3, rfl⟩ := owns_pos o3 (by omega)
                      have b1 := BB6.out _ c1
                      have b2 := BB6.out _ c2
                      have b3 := BB6.out _ c3
                      refine lou_append rfl rfl _ _ _ _ rfl _ _ rfl rfl (by exact r1) ?_
                      refine ⟨fun _ => ⟨⟨_, b1⟩, rfl⟩, ?_⟩
                      refine anyC_loud 10 (by kernel_rfl) ?_
                      refine lou_of rfl (fun K hK => ?_)
                      go_simp
                      refine hK _ _ ⟨fun _ => ⟨⟨_, b1.alloc b1.size _⟩, rfl⟩, ?_⟩
                      clear hK K
                      refine anyC_loud 11 (by kernel_rfl) ?_
                      refine lou_append rfl rfl _ _ _ _ rfl _ _ rfl rfl (by exact r2) ?_
                      refine ⟨fun _ => ⟨⟨_, b2⟩, rfl⟩, ?_⟩
                      refine anyC_loud 18 (by kernel_rfl) ?_
                      refine lou_append rfl rfl _ _ _ _ rfl _ _ rfl rfl (by exact r3) ?_
                      refine ⟨fun _ => ⟨⟨_, b3⟩, rfl⟩, ?_⟩
                      refine anyC_pure 19 rfl (by kernel_rfl) (by kernel_rfl) (by kernel_rfl) ⟨⟨_, b3⟩, rfl⟩ (fun K hK => ?_)
                      go_simp
                      refine hK _ ?_
                      clear hK K
                      refine anyC_pure 20 rfl (by kernel_rfl) (by kernel_rfl) (by kernel_rfl) ⟨⟨_, b3⟩, rfl⟩ (fun K hK => ?_)
                      go_simp
                      refine hK _ ?_
                      clear hK K
                      refine anyC_loud 21 (by kernel_rfl) ?_
                      refine lou_of rfl (fun K hK => ?_)
                      obtain ⟨fz, cz⟩ := FZ6.out s3 b3
                      go_simp
                      refine hK _ _ ⟨fun h => absurd rfl h, ?_⟩
                      clear hK K
                      refine anyC_done (by kernel_rfl) ?_
                      exact ⟨by kernel_rfl, _, FIN6.out _ s3 o3 b3⟩
                    · refine lou_of rfl (fun K hK => ?_)
                      go_simp
                      refine hK _ _ ⟨fun _ => ⟨⟨_, (ALL6.out _ _)⟩, rfl⟩, ?_⟩
                      clear hK K
                      obtain ⟨v1, s1, v2, s2, v3, s3, r1, r2, r3, o3, c1, c2, c3⟩ := I6.out.2.1
                      obtain ⟨g3, p3, rfl⟩ := owns_pos o3 (by omega)
                      have b1 := BB6.out _ c1
                      have b2 := BB6.out _ c2
                      have b3 := BB6.out _ c3
                      refine anyC_loud 8 (by kernel_rfl) ?_
                      refine lou_append rfl rfl _ _ _ _ rfl _ _ rfl rfl (by exact r1) ?_
                      refine ⟨fun _ => ⟨⟨_, b1⟩, rfl⟩, ?_⟩
                      refine anyC_loud 11 (by kernel_rfl) ?_
                      refine lou_append rfl rfl _ _ _ _ rfl _ _ rfl rfl (by exact r2) ?_
                      refine ⟨fun _ => ⟨⟨_, b2⟩, rfl⟩, ?_⟩
                      refine anyC_loud 18 (by kernel_rfl) ?_
                      refine lou_append rfl rfl _ _ _ _ rfl _ _ rfl rfl (by exact r3) ?_
                      refine ⟨fun _ => ⟨⟨_, b3⟩, rfl⟩, ?_⟩
                      refine anyC_pure 19 rfl (by kernel_rfl) (by kernel_rfl) (by kernel_rfl) ⟨⟨_, b3⟩, rfl⟩ (fun K hK => ?_)
                      go_simp
                      refine hK _ ?_
                      clear hK K
                      refine anyC_pure 20 rfl (by kernel_rfl) (by kernel_rfl) (by kernel_rfl) ⟨⟨_, b3⟩, rfl⟩ (fun K hK => ?_)
                      go_simp
                      refine hK _ ?_
                      clear hK K
                      refine anyC_loud 21 (by kernel_rfl) ?_
                      refine lou_of rfl (fun K hK => ?_)
                      obtain ⟨fz, cz⟩ := FZ6.out s3 b3
                      go_simp
                      refine hK _ _ ⟨fun h => absurd rfl h, ?_⟩
                      clear hK K
                      refine anyC_done (by kernel_rfl) ?_
                      exact ⟨by kernel_rfl, _, FIN6.out _ s3 o3 b3⟩
                  · refine lou_of rfl (fun K hK => ?_)
                    go_simp
                    refine hK _ _ ⟨fun _ => ⟨⟨_, (AL6.out _)⟩, rfl⟩, ?_⟩
                    clear hK K
                    refine anyC_loud 1 (by kernel_rfl) ?_
                    refine lou_of rfl (fun K hK => ?_)
                    go_simp
                    refine hK _ _ ⟨fun _ => ⟨⟨_, (ALL6.out _ _)⟩, rfl⟩, ?_⟩
                    clear hK K
                    obtain ⟨v1, s1, v2, s2, v3, s3, r1, r2, r3, o3, c1, c2, c3⟩ := I6.out.2.2
                    obtain ⟨g3, p3, rfl⟩ := owns_pos o3 (by omega)
                    have b1 := BB6.out _ c1
                    have b2 := BB6.out _ c2
                    have b3 := BB6.out _ c3
                    refine anyC_loud 8 (by kernel_rfl) ?_
                    refine lou_append rfl rfl _ _ _ _ rfl _ _ rfl rfl (by exact r1) ?_
                    refine ⟨fun _ => ⟨⟨_, b1⟩, rfl⟩, ?_⟩
                    refine anyC_loud 11 (by kernel_rfl) ?_
                    refine lou_append rfl rfl _ _ _ _ rfl _ _ rfl rfl (by exact r2) ?_
                    refine ⟨fun _ => ⟨⟨_, b2⟩, rfl⟩, ?_⟩
                    refine anyC_loud 18 (by kernel_rfl) ?_
                    refine lou_append rfl rfl _ _ _ _ rfl _ _ rfl rfl (by exact r3) ?_
                    refine ⟨fun _ => ⟨⟨_, b3⟩, rfl⟩, ?_⟩
                    refine anyC_pure 19 rfl (by kernel_rfl) (by kernel_rfl) (by kernel_rfl) ⟨⟨_, b3⟩, rfl⟩ (fun K hK => ?_)
                    go_simp
                    refine hK _ ?_
                    clear hK K
                    refine anyC_pure 20 rfl (by kernel_rfl) (by kernel_rfl) (by kernel_rfl) ⟨⟨_, b3⟩, rfl⟩ (fun K hK => ?_)
                    go_simp
                    refine hK _ ?_
                    clear hK K
                    refine anyC_loud 21 (by kernel_rfl) ?_
                    refine lou_of rfl (fun K hK => ?_)
                    obtain ⟨fz, cz⟩ := FZ6.out s3 b3
                    go_simp
                    refine hK _ _ ⟨fun h => absurd rfl h, ?_⟩
                    clear hK K
                    refine anyC_done (by kernel_rfl) ?_
                    exact ⟨by kernel_rfl, _, FIN6.out _ s3 o3 b3⟩
                case rest2 =>
                  rintro a' w7 ⟨ha, v4, hR7, hM7, hO7⟩
                  obtain ⟨y', hy⟩ : ∃ y' : Nat → Value, y' = fun j => a'.tmps.getD j undef := ⟨_, rfl⟩
                  have ha2 : a' = { tmps := #[.pointer (some ⟨rb, 0, none⟩), (y' 1), (y' 2), .pointer (some ⟨w.heap.size, 0, none⟩), (y' 4), .int .i64 M.length, .int .i64 N, (y' 7), (y' 8), (y' 9), (y' 10), (y' 11), (y' 12), (y' 13), (y' 14), (y' 15), (y' 16), (y' 17), (y' 18), (y' 19), (y' 20), (y' 21), (y' 22), (y' 23), (y' 24), (y' 25), (y' 26), (y' 27), (y' 28), (y' 29), (y' 30), (y' 31), (y' 32), (y' 33), (y' 34), (y' 35), (y' 36), (y' 37), (y' 38), (y' 39), (y' 40), (y' 41), (y' 42), (y' 43), (y' 44), (y' 45), (y' 46), (y' 47), (y' 48), (y' 49), (y' 50), (y' 51), (y' 52), (y' 53), (y' 54), (y' 55), (y' 56), (y' 57), (y' 58), (y' 59), (y' 60), (y' 61), (y' 62), (y' 63), (y' 64), (y' 65), (y' 66), (y' 67), (y' 68), (y' 69), (y' 70), (y' 71), (y' 72), (y' 73), (y' 74), (y' 75), (y' 76), (y' 77), (y' 78), (y' 79), (y' 80), (y' 81), (y' 82), (y' 83), (y' 84), (y' 85), (y' 86), (y' 87), (y' 88), (y' 89), (y' 90), (y' 91), (y' 92), (y' 93), (y' 94), (y' 95), (y' 96), (y' 97), (y' 98), (y' 99), (y' 100), (y' 101), (y' 102), (y' 103), (y' 104), (y' 105), (y' 106), (y' 107), (y' 108), (y' 109), (y' 110), (y' 111), (y' 112), (y' 113), (y' 114)], defers := [] } := by rw [hy]; exact ha
                  clear ha hy
                  subst ha2
                  rw [← HPM.out] at hR7
                  have HR7 := toHidR hR7
                  clear hR7
                  go_wp2_with fail
                  go_ret
                  exact ⟨rfl, _, _, HR7.out, hM7, fun g hg => .inr (hO7 g hg)⟩
end Go.Proofs.Ytlhojbgpmjcjlaa

/-
  CONTRACT: the numbers that bytes tell (numbers).
-/
import Derived.Test.YthihljjefncfoaaDoorManTake
namespace Go.Proofs.YthihljjefncfoaaDoor
open Go.RowKit
attribute [local go_sem] Oper.pureAt Oper.pureUpon

theorem owns_form2 {w : World} {base e n : Nat} {v : Value} {xs : List Value} (h : w.ownsRow base e 1 v n xs) : ∃ ao cap, v = .slice ao n cap ∧ n ≤ cap := by
  rcases h.2 with ⟨rfl, rfl⟩ | ⟨g, cap, cur, rfl, _, _, hn, hm, _⟩
  · exact ⟨_, _, rfl, Nat.le_refl _⟩
  · exact ⟨_, _, rfl, hn⟩
set_option maxRecDepth 100000 in
set_option maxHeartbeats 2000000 in
theorem numbersM_any (ao : Option Addr) (l : List UInt8) (cap : Nat) (w : World) (hs : Sees w ao l) (h3 : l.length ≤ cap) (h4 : cap ≤ 9223372036854775807) (h5 : (ao = none ∧ l.length = 0) ∨ ∃ b off, ao = some ⟨b, off, none⟩ ∧ b < w.heap.size) (hl : l.length ≤ 1000000) (u : TypeId) (pv : Value) (he : Err w u pv) :
    Calls Tryd.prog 29 #[.slice ao l.length cap] w fun e w' => ∃ a5 c5, e = .returned (mval a5 c5 (numM l)) ∧ MSees w' a5 c5 (numM l) ∧ c5 ≤ 9223372036854775807 ∧ (∀ a, a5 = some a → w.heap.size ≤ a.block) ∧ Below w.heap.size w w' := by
  obtain ⟨i0, hi, hz0, hz1, hz2⟩ := info_parts infoInt
  have h0 := numStart ao l cap hs h3 h4 h5
  have CT : Hid (∀ x c v ts nx fr, NSt w x c v ts nx fr → c.length ≤ 1000000 → Calls Tryd.prog 49 #[.pointer (some ⟨w.heap.size, 0, none⟩)] x fun e x' => e = .returned (.int .i64 (tkV c : Int)) ∧ NSt w x' (tkR c) v ts nx fr) := fun x c v ts nx fr hx hc => by
    have he' : Err x u pv := by unfold Err at he ⊢; rw [hx.bel.cell (World.block_lt_of_cell? _ _ he)]; exact he
    exact (takeM_any w.heap.size c x hx.tk hc u pv he').mono fun e x' hh => ⟨hh.1, hx.took hh.2.1 hh.2.2⟩
  have hmf : ∀ (fn : Fn) (first cap : Array Value) (w : World), (Instr.makeFunc fn first cap).run Tryd.prog w = .ok (.func fn first cap) w := fun _ _ _ _ => rfl
  have l1 := tkR_len l
  have l2 := tkR_len (tkR l)
  have l3 := tkR_len (tkR (tkR l))
  have HN : Hid (numM l = ⟨tks (min (tkV (tkR (tkR l))) 31) (tkR (tkR (tkR l))), (tkV l : Int), (tkV (tkR l) : Int)⟩) := rfl
  have HLn : Hid (∀ k, (tkRs k (tkR (tkR (tkR l)))).length ≤ 1000000) := fun k => by have := tkRs_len k (tkR (tkR (tkR l))); omega
  have HV : Hid (∀ c, (tkV c : Int) ≤ 1000000000) := fun c => by unfold tkV; omega
  have C0 := CT.out _ _ _ _ _ _ h0 hl
  clear hs h3 h4 h5 he h0
  go_enter Tryd.func29, Tryd.ntmps29
  go_wp2_with fail
  go_fit C0
  rintro e x1 ⟨rfl, hx1⟩
  have y1 := hx1.m.cell 1 rfl
  have z1 := hx1.m.frozen 1
  have h2 := hx1.setM 1 (.int .i64 (tkV l : Int)) _ (tkV l : Int) _ rfl hx1.row
  have C1 := CT.out _ _ _ _ _ _ h2 (by omega)
  clear C0 hx1 h2
  go_wp2_with fail
  go_fit C1
  rintro e x2 ⟨rfl, hx2⟩
  have y2 := hx2.m.cell 2 rfl
  have z2 := hx2.m.frozen 2
  have h3 := hx2.setM 2 (.int .i64 (tkV (tkR l) : Int)) _ _ (tkV (tkR l) : Int) rfl hx2.row
  have C2 := CT.out _ _ _ _ _ _ h3 (by omega)
  clear C1 hx2 h3 y1 z1
  go_wp2_with fail
  go_fit C2
  rintro e x3 ⟨rfl, hx3⟩
  have HX3 : Hid (NSt w x3 (tkR (tkR (tkR l))) (.slice none 0 0) [] (tkV l : Int) (tkV (tkR l) : Int)) := hx3
  clear C2 hx3 y2 z2 l1 l2 l3
  generalize tkR (tkR (tkR l)) = c3 at *
  generalize tkV (tkR (tkR l)) = V at *
  generalize tkV (tkR l) = fr at *
  generalize tkV l = nx at *
  obtain ⟨N, hN⟩ : ∃ N, min V 31 = N := ⟨_, rfl⟩
  rw [hN] at HN
  have hNi : min (V : Int) 31 = (N : Int) := by omega
  have hN31 : N ≤ 31 := by omega
  go_wp2_with fail
  try rw [hNi]
  clear hN hNi
  go_loopw [15] (fun i wr => ∃ (k : Nat) (v : Value), k ≤ N ∧ i = .int .i64 (k : Int) ∧ NSt w wr (tkRs k c3) v (tks k c3) (nx : Int) (fr : Int)) (fun i _ => N - (intOf i).toNat)
  case atStart => exact ⟨0, _, Nat.zero_le _, rfl, HX3.out⟩
  case round =>
    obtain ⟨k, v, hk, rfl, hS⟩ := hrel
    rcases Nat.lt_or_ge k N with hlt | hge
    · have hki : (k : Int) < (N : Int) := by omega
      obtain ⟨va, vc, hv, -⟩ := owns_msees hS.row
      subst hv
      have bB := hS.m.cell 0 rfl
      have CK := CT.out _ _ _ _ _ _ (hS.more ((Below.refl _ _).drew)) (HLn.out k)
      obtain ⟨sn1, sn2⟩ := tks_snoc k c3
      have HS1 : Hid (tks (k + 1) c3 = tks k c3 ++ [(tkV (tkRs k c3) : Int)]) := sn1
      have HS2 : Hid (tkRs (k + 1) c3 = tkR (tkRs k c3)) := sn2
      have hkl := tks_len k c3
      have hxb := HV.out (tkRs k c3)
      clear hS HX3 sn1 sn2
      obtain ⟨tl, htl⟩ : ∃ tl, tks k c3 = tl := ⟨_, rfl⟩
      rw [htl] at CK HS1 hkl bB
      clear htl
      obtain ⟨n, hn⟩ : ∃ n, tl.length = n := ⟨_, rfl⟩
      have HNL : Hid (tl.length = n) := hn
      have HKL : Hid (tl.length = k) := hkl
      rw [hn] at bB
      clear hn hkl
      generalize tkV (tkRs k c3) = x at *
      generalize tkRs k c3 = ck at *
      go_wp2_with fail
      have HP : Hid (∀ u, u.cell? ⟨w.heap.size + 2, 0, none⟩ = some (.slice va n vc) → ∃ p : BxM (w.heap.size + 2) (.slice va n vc), u = p.u) := fun u h => ⟨⟨u, h⟩, rfl⟩
      have q0 : ∀ q : BxM (w.heap.size + 2) (.slice va n vc), q.u.cell? ⟨w.heap.size + 1 + 1, 0, none⟩ = some (.slice va n vc) := fun q => q.h
      haveI : Nonempty (BxM (w.heap.size + 2) (.slice va n vc)) := ⟨⟨wr, bB⟩⟩
      refine wp_region_C (fun u => ∃ p : BxM (w.heap.size + 2) (.slice va n vc), u = p.u) 7 _ (by kernel_rfl) ?reg (fun _ _ h => h)
      refine anyC_pure 0 rfl (by kernel_rfl) (by kernel_rfl) (by kernel_rfl) (HP.out _ bB) (fun K hK => ?_)
      go_simp
      refine hK _ ?_
      clear hK K
      refine anyC_pure 1 rfl (by kernel_rfl) (by kernel_rfl) (by kernel_rfl) (HP.out _ bB) (fun K hK => ?_)
      go_simp
      refine hK _ ?_
      clear hK K
      refine anyC_pure 2 rfl (by kernel_rfl) (by kernel_rfl) (by kernel_rfl) (HP.out _ bB) (fun K hK => ?_)
      go_simp
      refine hK _ ?_
      clear hK K
      refine anyC_loud 3 (by kernel_rfl) ?_
      refine lou_of rfl (fun K hK => ?_)
      go_simp
      refine CK.mono ?_
      rintro e u1 ⟨rfl, hS1⟩
      have c1 := hS1.m.cell 0 rfl
      rw [HNL.out] at c1
      refine hK _ _ ⟨fun _ => HP.out _ c1, ?_⟩
      clear hK K
      refine anyC_loud 4 (by kernel_rfl) ?_
      refine lou_of rfl (fun K hK => ?_)
      go_simp
      have hS2 := hS1.more ((Below.refl _ _).alloc (Nat.le_refl u1.heap.size) (.cells #[.int .i64 (x : Int)] 3))
      have c2 := hS2.m.cell 0 rfl
      rw [HNL.out] at c2
      refine hK _ _ ⟨fun _ => HP.out _ c2, ?_⟩
      clear hK K
      have hkl := HKL.out
      obtain ⟨v', w3, hr3, ho3, hg3⟩ := run_append_grew (P := Tryd.prog) (u1.alloc (.cells #[.int .i64 (x : Int)] 3)) (w.heap.size + 3) 22 22 22 3 i0 (.int .i64 0) 1 8 Tryd.underlying22 hi hz0 hz1 hz2 rfl _ tl.length _ hS2.row _ 1 (vI [(x : Int)]) (src_oneI u1 x) (by unfold maxLen; omega) (by omega) hS2.sz
      rw [HNL.out] at hr3
      have hS3 : NSt w (w3.setCell ⟨w.heap.size + 2, 0, none⟩ v') (tkR ck) v' (tl ++ [(x : Int)]) (nx : Int) (fr : Int) := by
        have hrow : w3.ownsRow (w.heap.size + 3) 3 1 v' (tl ++ [(x : Int)]).length (vI (tl ++ [(x : Int)])) := by
          have e1 : (tl ++ [(x : Int)]).length = tl.length + 1 := by simp
          have e2 : vI (tl ++ [(x : Int)]) = vI tl ++ vI [(x : Int)] := by simp [vI]
          rw [e1, e2]; exact ho3
        have hsz := hS2.sz
        have hbl : ∀ i, i < w.heap.size + 3 → w3.heap[i]? = (u1.alloc (.cells #[.int .i64 (x : Int)] 3)).heap[i]? := fun i hi => hg3.rows.block i (by omega) (fun e => by have := (hS2.row.lt i e.symm).1; omega)
        have hbs : ∀ i, i ≠ w.heap.size + 2 → (w3.setCell ⟨w.heap.size + 2, 0, none⟩ v').heap[i]? = w3.heap[i]? := fun i hi => Below.heap_setCell _ _ _ _ (fun e => hi e)
        have hB3 : Below w.heap.size w w3 := hS2.bel.trans (hg3.below hS2.bel.size (fun g hg => by have := (hS2.row.lt g hg).1; omega))
        refine ⟨hS2.tk.keep fun i hi => (hbs i (by omega)).trans (hbl i (by omega)), hS2.m0.carry ((hbs _ (by omega)).trans (hbl _ (by omega))), (hS2.m.carry (hbl _ (by omega))).setTo 0 v' _ rfl, owns_carryM hrow fun g h1 h2 => hbs g (by omega), hB3.setCell (by show w.heap.size ≤ w.heap.size + 2; omega) _, ?_⟩
        rw [size_setCell]
        have := hg3.rows.size
        omega
      have bx3 : Blk w3 (w.heap.size + 2) [.slice va tl.length vc, .int .i64 (nx : Int), .int .i64 (fr : Int)] 24 := hS2.m.carry (hg3.rows.block _ (by have := hS2.sz; omega) (fun e => by have := (hS2.row.lt _ e.symm).1; omega))
      have HS3 : Hid (NSt w (w3.setCell ⟨w.heap.size + 2, 0, none⟩ v') (tkR ck) v' (tl ++ [(x : Int)]) (nx : Int) (fr : Int)) := hS3
      have z1 := bx3.cell 0 rfl
      have z2 := bx3.frozen 0
      rw [HNL.out] at z1
      refine anyC_loud 5 (by kernel_rfl) ?_
      refine lou_append rfl rfl _ _ _ _ rfl _ _ rfl rfl (by exact hr3) ?_
      refine ⟨fun _ => HP.out _ z1, ?_⟩
      obtain ⟨a5, c5, e5, -⟩ := owns_form2 ho3
      subst e5
      clear hS3 bx3 ho3 hg3 hr3 hS2 hS1 c1 c2 hkl
      refine anyC_pure 6 rfl (by kernel_rfl) (by kernel_rfl) (by kernel_rfl) (HP.out _ z1) (fun K hK => ?_)
      go_simp
      refine hK _ ?_
      clear hK K
      refine anyC_loud 7 (by kernel_rfl) ?_
      refine lou_of rfl (fun K hK => ?_)
      go_simp
      refine hK _ _ ⟨fun h => absurd rfl h, ?_⟩
      clear hK K
      refine anyC_done (by kernel_rfl) ?_
      clear z1 z2 q0 HP
      generalize (w3.setCell ⟨w.heap.size + 2, 0, none⟩ _) = u6 at *
      go_wp2_with fail
      go_roundw
      case rel => exact ⟨k + 1, _, by omega, by go_num, by rw [HS1.out, HS2.out]; exact HS3.out⟩
      case measure => (simp [intOf]; try omega)
    · obtain rfl : N = k := by omega
      obtain ⟨va, vc, hv, -⟩ := owns_msees hS.row
      subst hv
      have hk7 : Blk (((wr.setCell ⟨w.heap.size + 1, 0, none⟩ (.slice va (tks N c3).length vc)).setCell ⟨w.heap.size + 1, 1, none⟩ (.int .i64 (nx : Int))).setCell ⟨w.heap.size + 1, 2, none⟩ (.int .i64 (fr : Int))) (w.heap.size + 1) [.slice va (tks N c3).length vc, .int .i64 (nx : Int), .int .i64 (fr : Int)] 24 := ((hS.m0.setTo 0 _ _ rfl).setTo 1 _ _ rfl).setTo 2 _ _ rfl
      have hr7 : (((wr.setCell ⟨w.heap.size + 1, 0, none⟩ (.slice va (tks N c3).length vc)).setCell ⟨w.heap.size + 1, 1, none⟩ (.int .i64 (nx : Int))).setCell ⟨w.heap.size + 1, 2, none⟩ (.int .i64 (fr : Int))).ownsRow (w.heap.size + 3) 3 1 (.slice va (tks N c3).length vc) (tks N c3).length (vI (tks N c3)) := owns_carryM hS.row fun g h1 h2 => by
        rw [Below.heap_setCell _ _ _ _ (by show g ≠ w.heap.size + 1; omega), Below.heap_setCell _ _ _ _ (by show g ≠ w.heap.size + 1; omega), Below.heap_setCell _ _ _ _ (by show g ≠ w.heap.size + 1; omega)]
      have hB7 : Below w.heap.size w (((wr.setCell ⟨w.heap.size + 1, 0, none⟩ (.slice va (tks N c3).length vc)).setCell ⟨w.heap.size + 1, 1, none⟩ (.int .i64 (nx : Int))).setCell ⟨w.heap.size + 1, 2, none⟩ (.int .i64 (fr : Int))) := ((hS.bel.setCell (by show w.heap.size ≤ w.heap.size + 1; omega) _).setCell (by show w.heap.size ≤ w.heap.size + 1; omega) _).setCell (by show w.heap.size ≤ w.heap.size + 1; omega) _
      obtain ⟨va', vc', hv', hse, hnl, hcp, hcm⟩ := owns_msees hr7
      simp only [Value.slice.injEq] at hv'
      obtain ⟨rfl, -, rfl⟩ := hv'
      have HE : Hid (MSees (((wr.setCell ⟨w.heap.size + 1, 0, none⟩ (.slice va (tks N c3).length vc)).setCell ⟨w.heap.size + 1, 1, none⟩ (.int .i64 (nx : Int))).setCell ⟨w.heap.size + 1, 2, none⟩ (.int .i64 (fr : Int))) va vc (numM l)) := by rw [HN.out]; exact ⟨hse, hnl, hcp⟩
      have HK7 : Hid (Blk (((wr.setCell ⟨w.heap.size + 1, 0, none⟩ (.slice va (tks N c3).length vc)).setCell ⟨w.heap.size + 1, 1, none⟩ (.int .i64 (nx : Int))).setCell ⟨w.heap.size + 1, 2, none⟩ (.int .i64 (fr : Int))) (w.heap.size + 1) [.slice va (tks N c3).length vc, .int .i64 (nx : Int), .int .i64 (fr : Int)] 24) := hk7
      have HB7 : Hid (Below w.heap.size w (((wr.setCell ⟨w.heap.size + 1, 0, none⟩ (.slice va (tks N c3).length vc)).setCell ⟨w.heap.size + 1, 1, none⟩ (.int .i64 (nx : Int))).setCell ⟨w.heap.size + 1, 2, none⟩ (.int .i64 (fr : Int)))) := hB7
      have HA : Hid (∀ a, va = some a → w.heap.size ≤ a.block) := fun a ha => by subst ha; have := (hr7.lt a.block rfl).1; omega
      have HM : Hid (mval va vc (numM l) = .agg #[.slice va (tks N c3).length vc, .int .i64 (nx : Int), .int .i64 (fr : Int)]) := by rw [HN.out]; exact rfl
      have m0 := hS.m.cell 0 rfl
      have m1 := hS.m.cell 1 rfl
      have m2 := hS.m.cell 2 rfl
      have f0 := hS.m0.frozen 0
      have f1 := hS.m0.frozen 1
      have f2 := hS.m0.frozen 2
      have n0 := hS.m0.cell 0 rfl
      have n1 := hS.m0.cell 1 rfl
      have n2 := hS.m0.cell 2 rfl
      clear hS hse hnl hcp hk7 hB7 hr7
      obtain ⟨tn, htn⟩ : ∃ tn, (tks N c3).length = tn := ⟨_, rfl⟩
      rw [htn] at HK7 HB7 HM HE m0
      clear htn
      go_wp2_with fail
      refine bodyPost_ret (v := .agg #[.slice va tn vc, .int .i64 (nx : Int), .int .i64 (fr : Int)]) (results_cell_row Tryd.results29 _ _ (w.heap.size + 1) 24 _ _ _ rfl HK7.out Tryd.underlying24 rfl (by kernel_rfl)) rfl ?_
      exact ⟨va, vc, by rw [HM.out], HE.out, hcm, HA.out, HB7.out⟩
end Go.Proofs.YthihljjefncfoaaDoor

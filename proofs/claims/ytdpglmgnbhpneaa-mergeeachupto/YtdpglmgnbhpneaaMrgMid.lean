/-
  CONTRACT: does what is left begin with a version that is as great? (covers) WHAT IS RANGED OVER: what one list lacks of another one (lacking). CONTRACTS: what one list lacks of another one (Sub), and whether it lacks nothing (Over).
-/
import Derived.Test.YtdpglmgnbhpneaaMrgIt
import Derived.Test.YtdpglmgnbhpneaaMrgAll
import Derived.Test.YtdpglmgnbhpneaaRegClIn
namespace Go.Proofs.Ytdpglmgnbhpneaa
open Go.RowKit

noncomputable def cov : List Cx → Cx → Bool
  | [], _ => false
  | x :: _, c => @decide (x.k = c.k) (Classical.propDecidable _) && decide (0 ≤ cv x.v c.v)
theorem cov_other {x c : Cx} {r : List Cx} (h : x.k ≠ c.k) : cov (x :: r) c = false := by show (@decide (x.k = c.k) (Classical.propDecidable _) && decide (0 ≤ cv x.v c.v)) = _; rw [@decide_eq_false _ (Classical.propDecidable _) h]; rfl
theorem cov_same {x c : Cx} {r : List Cx} (h : x.k = c.k) : cov (x :: r) c = decide (0 ≤ cv x.v c.v) := by show (@decide (x.k = c.k) (Classical.propDecidable _) && decide (0 ≤ cv x.v c.v)) = _; rw [@decide_eq_true _ (Classical.propDecidable _) h]; rfl
attribute [local irreducible] wpQuiet
set_option maxRecDepth 100000 in
set_option maxHeartbeats 1000000 in
theorem covers_any (ao : Option Addr) (rest : List Cx) (cap : Nat) (c : Cx) (w : World) (hs : XSees w ao rest) :
    Calls Try.prog 52 #[.slice ao rest.length cap, c.val] w fun e w' => e = .returned (.bool (cov rest c)) ∧ Below w.heap.size w w' := by
  obtain ⟨wa, hwa⟩ : ∃ wa, wa = w.alloc (.cells c.a 39) := ⟨_, rfl⟩
  have hB : Below w.heap.size w wa := by rw [hwa]; exact (Below.refl _ _).alloc (Nat.le_refl _) _
  have tc : TenX wa w.heap.size 0 c := by rw [hwa]; exact TenX.new w c _
  have HE : Hid (∀ u, Below wa.heap.size wa u → Below w.heap.size w u) := fun u hu => hB.trans (hu.mono hB.size)
  cases rest with
  | nil =>
    have HR : Hid (cov [] c = false) := rfl
    obtain ⟨⟨ca, cp, cr, cc⟩, ⟨ct, cd, cl, ck, cn, cs⟩⟩ := c
    simp only [Cx.val, Cx.a, List.length_nil] at *
    clear hs hB tc
    haveI := Cl.inh wa.heap.size wa
    go_enter Try.func52, Try.ntmps52
    go_wp2_with fail
    rw [← hwa]
    clear hwa
    refine wp_region_cl wa.heap.size (by kernel_rfl) (by kernel_rfl) ?_
    repeat (quiet_step (fail))
    refine wpQuiet_nil ?_
    rintro w0 ⟨q, rfl⟩
    have hq := HE.out _ q.h
    go_wp2_with fail
    go_ret
    exact ⟨rfl, hq⟩
  | cons x r =>
    obtain ⟨b, o, rfl, tx0⟩ := hs 0 x rfl
    have tx : TenX wa b o x := by have := tx0.below hB tx0.lt; simpa using this
    have C : Hid (∀ q : Cl wa.heap.size wa, Calls Try.prog 49 #[x.v.v, c.v.v] q.u fun e w' => e = .returned (.int .i64 (cv x.v c.v)) ∧ Below q.u.heap.size q.u w') := fun q => vcmp_any x.v c.v q.u
    by_cases hk : x.k = c.k
    · have HR : Hid (cov (x :: r) c = decide (0 ≤ cv x.v c.v)) := cov_same hk
      generalize cv x.v c.v = V at *
      obtain ⟨⟨ka, kp, kr, kc'⟩, ⟨kt, kd, kl, kk, kn, ks⟩⟩ := x
      obtain ⟨⟨ca, cp, cr, cc⟩, ⟨ct, cd, cl, ck, cn, cs⟩⟩ := c
      simp only at hk
      obtain ⟨rfl, rfl, rfl, rfl⟩ : ka = ca ∧ kp = cp ∧ kr = cr ∧ kc' = cc := by injection hk with a1 a2 a3 a4; exact ⟨a1, a2, a3, a4⟩
      simp only [Cx.val, Cx.a, Vr.v, List.length_cons] at *
      have p0 := fun q : Cl wa.heap.size wa => (tx.below q.h tx.lt).c0
      have q0 := fun q : Cl wa.heap.size wa => (tc.below q.h tc.lt).c0
      have p1 := fun q : Cl wa.heap.size wa => (tx.below q.h tx.lt).c1
      have q1 := fun q : Cl wa.heap.size wa => (tc.below q.h tc.lt).c1
      have p2 := fun q : Cl wa.heap.size wa => (tx.below q.h tx.lt).c2
      have q2 := fun q : Cl wa.heap.size wa => (tc.below q.h tc.lt).c2
      have p3 := fun q : Cl wa.heap.size wa => (tx.below q.h tx.lt).c3
      have q3 := fun q : Cl wa.heap.size wa => (tc.below q.h tc.lt).c3
      have p4 := fun q : Cl wa.heap.size wa => (tx.below q.h tx.lt).c4
      have q4 := fun q : Cl wa.heap.size wa => (tc.below q.h tc.lt).c4
      have p5 := fun q : Cl wa.heap.size wa => (tx.below q.h tx.lt).c5
      have q5 := fun q : Cl wa.heap.size wa => (tc.below q.h tc.lt).c5
      have p6 := fun q : Cl wa.heap.size wa => (tx.below q.h tx.lt).c6
      have q6 := fun q : Cl wa.heap.size wa => (tc.below q.h tc.lt).c6
      have p7 := fun q : Cl wa.heap.size wa => (tx.below q.h tx.lt).c7
      have q7 := fun q : Cl wa.heap.size wa => (tc.below q.h tc.lt).c7
      have p8 := fun q : Cl wa.heap.size wa => (tx.below q.h tx.lt).c8
      have q8 := fun q : Cl wa.heap.size wa => (tc.below q.h tc.lt).c8
      have p9 := fun q : Cl wa.heap.size wa => (tx.below q.h tx.lt).c9
      have q9 := fun q : Cl wa.heap.size wa => (tc.below q.h tc.lt).c9
      simp only [Nat.zero_add] at q0 q1 q2 q3 q4 q5 q6 q7 q8 q9 p0 p1 p2 p3 p4 p5 p6 p7 p8 p9
      clear hs hB tc tx tx0
      have hlx : (0 : Int) < (r.length : Int) + 1 := by omega
      haveI := Cl.inh wa.heap.size wa
      go_enter Try.func52, Try.ntmps52
      go_wp2_with fail
      rw [← hwa]
      clear hwa
      refine wp_region_cl wa.heap.size (by kernel_rfl) (by kernel_rfl) ?_
      iterate 10 (quiet_step (fail))
      refine wpQuiet_step (fun K hK => ?_)
      go_simp
      refine hK _ ?_
      clear hK K
      repeat (quiet_step (first | (go_at_call 49; exact Cl.calls (Nat.le_refl _) (C.out _))))
      refine wpQuiet_nil ?_
      rintro w0 ⟨q, rfl⟩
      have hq := HE.out _ q.h
      go_wp2_with fail
      go_ret
      exact ⟨ret_bool HR.out.symm, hq⟩
    · have HR : Hid (cov (x :: r) c = false) := cov_other hk
      generalize cv x.v c.v = V at *
      obtain ⟨⟨ka, kp, kr, kc'⟩, ⟨kt, kd, kl, kk, kn, ks⟩⟩ := x
      obtain ⟨⟨ca, cp, cr, cc⟩, ⟨ct, cd, cl, ck, cn, cs⟩⟩ := c
      have HK : Hid (¬ (ka.toList = ca.toList ∧ kp.toList = cp.toList ∧ kr = cr ∧ kc'.toList = cc.toList)) := fun ⟨a1, a2, a3, a4⟩ => hk (by
        rw [ba_list, ba_list, nb_inj] at a1 a2 a4
        show (⟨ka, kp, kr, kc'⟩ : Kb) = ⟨ca, cp, cr, cc⟩
        rw [a1, a2, a3, a4])
      clear hk
      simp only [Cx.val, Cx.a, Vr.v, List.length_cons] at *
      have p0 := fun q : Cl wa.heap.size wa => (tx.below q.h tx.lt).c0
      have q0 := fun q : Cl wa.heap.size wa => (tc.below q.h tc.lt).c0
      have p1 := fun q : Cl wa.heap.size wa => (tx.below q.h tx.lt).c1
      have q1 := fun q : Cl wa.heap.size wa => (tc.below q.h tc.lt).c1
      have p2 := fun q : Cl wa.heap.size wa => (tx.below q.h tx.lt).c2
      have q2 := fun q : Cl wa.heap.size wa => (tc.below q.h tc.lt).c2
      have p3 := fun q : Cl wa.heap.size wa => (tx.below q.h tx.lt).c3
      have q3 := fun q : Cl wa.heap.size wa => (tc.below q.h tc.lt).c3
      have p4 := fun q : Cl wa.heap.size wa => (tx.below q.h tx.lt).c4
      have q4 := fun q : Cl wa.heap.size wa => (tc.below q.h tc.lt).c4
      have p5 := fun q : Cl wa.heap.size wa => (tx.below q.h tx.lt).c5
      have q5 := fun q : Cl wa.heap.size wa => (tc.below q.h tc.lt).c5
      have p6 := fun q : Cl wa.heap.size wa => (tx.below q.h tx.lt).c6
      have q6 := fun q : Cl wa.heap.size wa => (tc.below q.h tc.lt).c6
      have p7 := fun q : Cl wa.heap.size wa => (tx.below q.h tx.lt).c7
      have q7 := fun q : Cl wa.heap.size wa => (tc.below q.h tc.lt).c7
      have p8 := fun q : Cl wa.heap.size wa => (tx.below q.h tx.lt).c8
      have q8 := fun q : Cl wa.heap.size wa => (tc.below q.h tc.lt).c8
      have p9 := fun q : Cl wa.heap.size wa => (tx.below q.h tx.lt).c9
      have q9 := fun q : Cl wa.heap.size wa => (tc.below q.h tc.lt).c9
      simp only [Nat.zero_add] at q0 q1 q2 q3 q4 q5 q6 q7 q8 q9 p0 p1 p2 p3 p4 p5 p6 p7 p8 p9
      clear hs hB tc tx tx0
      have hlx : (0 : Int) < (r.length : Int) + 1 := by omega
      haveI := Cl.inh wa.heap.size wa
      go_enter Try.func52, Try.ntmps52
      go_wp2_with fail
      rw [← hwa]
      clear hwa
      refine wp_region_cl wa.heap.size (by kernel_rfl) (by kernel_rfl) ?_
      iterate 10 (quiet_step (fail))
      refine wpQuiet_step (fun K hK => ?_)
      go_simp
      refine ⟨.bool false, fun q => ?_, hK _ ?_⟩
      · have hk2 := HK.out
        by_cases e1 : ka.toList = ca.toList <;> by_cases e2 : kp.toList = cp.toList <;> by_cases e3 : kr = cr <;> by_cases e4 : kc'.toList = cc.toList <;> simp_all
      clear hK K
      repeat (quiet_step (first | (go_at_call 49; exact Cl.calls (Nat.le_refl _) (C.out _))))
      refine wpQuiet_nil ?_
      rintro w0 ⟨q, rfl⟩
      have hq := HE.out _ q.h
      go_wp2_with fail
      go_ret
      exact ⟨ret_bool HR.out.symm, hq⟩
end Go.Proofs.Ytdpglmgnbhpneaa
namespace Go.Proofs.Ytdpglmgnbhpneaa
open Go.RowKit Go.Shelf

attribute [local go_sem] Oper.semAt_some

/-- Without the cells ahead of c. -/
def dw (c : Cx) (l : List Cx) : List Cx := l.dropWhile fun x => decide (kx x c < 0)
theorem dw_drop {c x : Cx} {l : List Cx} (h : kx x c < 0) : dw c (x :: l) = dw c l := by unfold dw; rw [List.dropWhile_cons_of_pos (by simpa using h)]
theorem dw_stay {c x : Cx} {l : List Cx} (h : ¬ kx x c < 0) : dw c (x :: l) = x :: l := by unfold dw; rw [List.dropWhile_cons_of_neg (by simpa using h)]
theorem dw_dw {c d : Cx} (h : kx c d < 0) (l : List Cx) : dw d (dw c l) = dw d l := by
  induction l with
  | nil => rfl
  | cons x l ih =>
    by_cases hx : kx x c < 0
    · rw [dw_drop hx, ih, dw_drop (kx_strict hx h)]
    · rw [dw_stay hx]
/-- What is lacking. -/
noncomputable def lck (B : List Cx) (A : List Cx) : List Cx := A.filter fun c => !cov (dw c B) c
theorem lck_snoc (B A : List Cx) (c : Cx) : lck B (A ++ [c]) = lck B A ++ (if cov (dw c B) c = true then [] else [c]) := by
  unfold lck
  rw [List.filter_append]
  congr 1
  cases h : cov (dw c B) c <;> simp [h]
theorem XSees.tail {w : World} {b o : Nat} {c : Cx} {r : List Cx} (h : XSees w (some ⟨b, o, none⟩) (c :: r)) : XSees w (some ⟨b, o + 10, none⟩) r := fun i x hx => by
  obtain ⟨b', o', e, t⟩ := h (i + 1) x (by simpa using hx)
  injection e with e
  injection e with e1 e2
  subst e1 e2
  refine ⟨b, o + 10, rfl, ?_⟩
  have : o + 10 + i * 10 = o + (i + 1) * 10 := by omega
  rw [this]; exact t
theorem XSees.blk {w w' : World} {ao : Option Addr} {l : List Cx} (h : XSees w ao l) (e : ∀ a, ao = some a → w'.heap[a.block]? = w.heap[a.block]?) : XSees w' ao l := fun i c hc => by
  obtain ⟨b, o, e2, t⟩ := h i c hc
  exact ⟨b, o, e2, tenBlk t (e _ e2)⟩
theorem lacking_any (ao : Option Addr) (an acap : Nat) (bo : Option Addr) (bn bcap : Nat) (w : World) :
    Calls Try.prog 34 #[.slice ao an acap, .slice bo bn bcap] w fun e w' => e = .returned (.func (.func 51) #[] #[.pointer (some ⟨w.heap.size + 1, 0, none⟩), .pointer (some ⟨w.heap.size, 0, none⟩)]) ∧ w' = (w.alloc (.cells #[.slice ao an acap] 25)).alloc (.cells #[.slice bo bn bcap] 25) := by
  go_enter Try.func34, Try.ntmps34
  go_wp2_with fail
  go_ret
  exact ⟨rfl, rfl⟩
theorem owns_see {w' : World} {B : Nat} {ao : Option Addr} {cap : Nat} {l : List Cx} (h : w'.ownsRow B 39 10 (.slice ao l.length cap) l.length (l.flatMap xs10)) : XSees w' ao l ∧ (∀ a, ao = some a → B ≤ a.block ∧ a.block < w'.heap.size) ∧ l.length ≤ cap := by
  obtain ⟨ao2, cap2, e, hx, -⟩ := owns_xsees h
  have e1 : ao = ao2 := by injection e
  subst e1
  refine ⟨hx, fun a e => ?_, ?_⟩
  · subst e; exact h.lt _ rfl
  · rcases h.2 with ⟨h1, h2⟩ | ⟨g, cap', cur, h1, _, _, h2, _⟩
    · omega
    · injection h1 with _ _ e3
      subst e3; exact h2
/-- Between two rounds: what is left of the other list, and the list itself. -/
structure LI (J : Nat → List Cx → World → Prop) (A B : List Cx) (ga : Option Addr) (n0 : Nat) (z i : Nat) (ro : Option Addr) (rc : Nat) (r : List Cx) (W : World) : Prop where
  rest : XSees W ro r
  rb : ∀ a, ro = some a → n0 ≤ a.block ∧ a.block < z
  rc' : r.length ≤ rc
  aa : XSees W ga A
  ab : ∀ a, ga = some a → n0 ≤ a.block ∧ a.block < z
  dws : ∀ j c, i ≤ j → A[j]? = some c → dw c r = dw c B
  j : J z (lck B (A.take i)) W
  z1 : n0 ≤ z
  z2 : z ≤ W.heap.size
theorem LI.more {J : Nat → List Cx → World → Prop} {A B : List Cx} {ga : Option Addr} {n0 z i : Nat} {ro : Option Addr} {rc : Nat} {r : List Cx} {W W' : World} (h : LI J A B ga n0 z i ro rc r W) (hb : Below W.heap.size W W') (hJ : ∀ z pre X Y, J z pre X → Zoned n0 z X Y → J z pre Y) : LI J A B ga n0 z i ro rc r W' :=
  { rest := h.rest.blk fun a e => hb.block _ (by have := (h.rb a e).2; have := h.z2; omega)
    rb := h.rb
    rc' := h.rc'
    aa := h.aa.blk fun a e => hb.block _ (by have := (h.ab a e).2; have := h.z2; omega)
    ab := h.ab
    dws := h.dws
    j := hJ _ _ _ _ h.j (.of_below hb (Nat.le_refl _))
    z1 := h.z1
    z2 := Nat.le_trans h.z2 hb.size }
set_option maxRecDepth 100000 in
set_option maxHeartbeats 2000000 in
theorem lacking1_zone (n : Nat) (hn : 2 ≤ n) (Ex : Nat → Prop) (Fp : World → Nat → Prop) (Ba Bb : Nat) (ao bo : Option Addr) (la lb : List Cx) (acap bcap : Nat) (w : World) (hEx : ∀ k, Ex k → k < w.heap.size)
    (ha : w.cell? ⟨Ba, 0, none⟩ = some (.slice ao la.length acap)) (hb : w.cell? ⟨Bb, 0, none⟩ = some (.slice bo lb.length bcap)) (sa : XSees w ao la) (sb : XSees w bo lb) (hla : la.length ≤ 1000000) (hlb : lb.length ≤ 1000000) :
    SeqZ Fence.wide n Try.prog 51 #[.pointer (some ⟨Bb, 0, none⟩), .pointer (some ⟨Ba, 0, none⟩)] (fun c : Cx => #[c.val]) Ex Fp (lck (nrm lb) (nrm la)) w := by
  intro l J Jx W hW hJ hJx h0 hFp hY
  have hro : Fence.wide.round = none := rfl
  have h1n : 1 ≤ n := by omega
  have hwW := hW.size
  have NB : Hid (Calls Try.prog 28 #[.slice bo lb.length bcap] W fun e w' => ∃ v, e = .returned v ∧ w'.ownsRow W.heap.size 39 10 v (nrm lb).length ((nrm lb).flatMap xs10) ∧ Below W.heap.size W w') := mnorm_any bo lb bcap W (sb.below hW (Nat.le_refl _)) hlb
  have NA : Hid (∀ u, Below W.heap.size W u → Calls Try.prog 28 #[.slice ao la.length acap] u fun e w' => ∃ v, e = .returned v ∧ w'.ownsRow u.heap.size 39 10 v (nrm la).length ((nrm la).flatMap xs10) ∧ Below u.heap.size u w') := fun u hu => mnorm_any ao la acap u (sa.below (hW.trans (hu.mono hwW)) (Nat.le_refl _)) hla
  have hlA := nrm_len la
  have hlB := nrm_len lb
  have hrA := nrm_rising la
  have hBlA := World.block_lt_of_cell? _ _ ha
  have hBlB := World.block_lt_of_cell? _ _ hb
  have ca0 : ∀ u, Below W.heap.size W u → u.cell? ⟨Ba, 0, none⟩ = some (.slice ao la.length acap) := fun u hu => (hu.cell (p := ⟨Ba, 0, none⟩) (Nat.lt_of_lt_of_le hBlA hwW)).trans ((hW.cell (p := ⟨Ba, 0, none⟩) hBlA).trans ha)
  have cb0 : W.cell? ⟨Bb, 0, none⟩ = some (.slice bo lb.length bcap) := (hW.cell (p := ⟨Bb, 0, none⟩) hBlB).trans hb
  have CA : Hid (∀ u, Below W.heap.size W u → u.cell? ⟨Ba, 0, none⟩ = some (.slice ao la.length acap)) := ca0
  generalize nrm la = A at *
  generalize nrm lb = B at *
  clear ca0 ha hb sa sb
  refine callsIn_of_wp Try.func51 rfl trivial ?_ hro
  simp only [Try.ntmps51, List.size_toArray, List.length_cons, List.length_nil, Nat.reduceAdd, Nat.reduceSub, Array.replicate_succ, Array.replicate_zero, List.push_toArray, List.append_toArray, List.nil_append, List.cons_append]
  gi_wp2_with (first
    | (refine ⟨trivial, ?_⟩; gi_at_call 28; refine (callsIn_wide.2 NB.out).mono ?_; clear NB; rintro e W1 ⟨vb, rfl, hob, hBb⟩; obtain ⟨ob, cbp, rfl⟩ := ownsM_shape hob; have ca0 := CA.out W1 hBb)
    | (refine ⟨trivial, ?_⟩; gi_at_call 28; refine (callsIn_wide.2 (NA.out W1 hBb)).mono ?_; clear NA; rintro e W2 ⟨va, rfl, hoa, hBa⟩; obtain ⟨oa, cap, rfl⟩ := ownsM_shape hoa))
  obtain ⟨sB1, bB1, cB1⟩ := owns_see hob
  obtain ⟨sA2, bA2, cA2⟩ := owns_see hoa
  have hsW1 := hBb.size
  have hsW2 := hBa.size
  have hBW2 : Below W.heap.size W W2 := hBb.trans (hBa.mono hsW1)
  have LI0 : Hid (LI J A B oa W.heap.size W2.heap.size 0 ob cbp B W2) :=
    { rest := sB1.below hBa (Nat.le_refl _)
      rb := fun a e => ⟨(bB1 a e).1, by have := (bB1 a e).2; omega⟩
      rc' := cB1
      aa := sA2
      ab := fun a e => ⟨by have := (bA2 a e).1; omega, (bA2 a e).2⟩
      dws := fun _ _ _ _ => rfl
      j := by rw [List.take_zero]; exact h0 W2 hBW2
      z1 := by omega
      z2 := Nat.le_refl _ }
  have hAz : (A.length : Int) ≤ 1000000 := by omega
  have hAn : A.length ≤ 1000000 := by omega
  clear sB1 bB1 cB1 sA2 bA2 cA2 hob hoa hBb hBa hBW2 h0 CA cb0 ca0 hlA hlB hla hlb
  gi_loopw [4, 12] (fun s4 s12 wr => ∃ (z i : Nat) (ro : Option Addr) (rc : Nat) (r : List Cx), i ≤ A.length ∧ s12 = .int .i64 i ∧ s4 = .slice ro r.length rc ∧ LI J A B oa W.heap.size z i ro rc r wr) (fun _ s12 _ => A.length - (intOf s12).toNat)
  case atStart => exact ⟨W2.heap.size, 0, ob, cbp, B, by omega, by go_num, rfl, LI0.out⟩
  case round =>
    clear LI0
    obtain ⟨z, i, ro, rc, r, hi, rfl, rfl, hL⟩ := hrel
    rcases Nat.lt_or_ge i A.length with hlt | hge
    · obtain ⟨c, hc⟩ : ∃ c, A[i]? = some c := ⟨_, List.getElem?_eq_getElem hlt⟩
      obtain ⟨ab, aof, rfl, tc⟩ := hL.aa i c hc
      have hiz : (i : Int) < (A.length : Int) := by omega
      have htk := takeX_succ hc
      have hdw := hL.dws i c (Nat.le_refl _) hc
      -- what follows, by the other list's rest
      have HYES : Hid (cov (dw c B) c = true → ∀ U ro rc r, LI J A B (some ⟨ab, aof, none⟩) W.heap.size z i ro rc r U → dw c r = r → LI J A B (some ⟨ab, aof, none⟩) W.heap.size z (i + 1) ro rc r U) := fun hcv U ro rc r h hr =>
        { h with
          dws := fun j d hj hd => by
            have e1 := h.dws j d (by omega) hd
            exact e1
          j := by rw [htk, lck_snoc, hcv]; simpa using h.j }
      have HNO : Hid (cov (dw c B) c = false → ∀ U ro rc r, LI J A B (some ⟨ab, aof, none⟩) W.heap.size z i ro rc r U → YieldAt Fence.wide (n - 1) Try.prog l #[c.val] U fun e W' => (e = .returned (.bool true) ∧ LI J A B (some ⟨ab, aof, none⟩) W.heap.size z (i + 1) ro rc r W') ∨ (e = .returned (.bool false) ∧ z ≤ W'.heap.size ∧ ∃ q, q <+: lck B A ∧ Jx z q W')) := fun hcv U ro rc r h => by
        have e1 : lck B (A.take (i + 1)) = lck B (A.take i) ++ [c] := by rw [htk, lck_snoc, hcv]; rfl
        have hpf : lck B (A.take i) ++ [c] <+: lck B A := by rw [← e1]; exact ⟨lck B (A.drop (i + 1)), by unfold lck; rw [← List.filter_append, List.take_append_drop]⟩
        refine YieldAt.mono (hY z _ c U h.j h.z1 h.z2 hpf) ?_
        rintro e W' (⟨rfl, hJ3, hs3⟩ | ⟨rfl, hJx3, hs3⟩)
        · have hp3 := hs3.plain h.z2 (hFp _ _ _ h.j)
          have hnE : ∀ k, W.heap.size ≤ k → ¬ Ex k := fun k hk e => by have := hEx k e; omega
          refine .inl ⟨rfl, { rest := h.rest.blk fun a e => hp3.block _ (h.rb a e).2 (hnE _ (h.rb a e).1), rb := h.rb, rc' := h.rc', aa := h.aa.blk fun a e => hp3.block _ (h.ab a e).2 (hnE _ (h.ab a e).1), ab := h.ab, dws := fun j d hj hd => h.dws j d (by omega) hd, j := by rw [e1]; exact hJ3, z1 := h.z1, z2 := by have := hp3.size; have := h.z2; omega }⟩
        · exact .inr ⟨rfl, by have := hs3.size; have := h.z2; omega, _, hpf, hJx3⟩
      have CV : Hid (∀ (U : World) (ro : Option Addr) (r : List Cx) (rc : Nat), XSees U ro r → dw c r = r → dw c r = dw c B → Calls Try.prog 52 #[.slice ro r.length rc, c.val] U fun e w' => e = .returned (.bool (cov (dw c B) c)) ∧ Below U.heap.size U w') := fun U ro r rc h e1 e2 => by
        rw [← e2, e1]; exact covers_any ro r rc c U h
      have CK : Hid (∀ x : Cx, ∀ u, Calls Try.prog 31 #[x.k.v, c.k.v] u fun e w' => e = .returned (.int .i64 (kx x c)) ∧ Below u.heap.size u w') := fun x u => cmp_any x.k c.k u
      have HKX : Hid (∀ (x : Cx) (r : List Cx), (kx x c < 0 → dw c (x :: r) = dw c r) ∧ (¬ kx x c < 0 → dw c (x :: r) = x :: r)) := fun x r => ⟨fun h => dw_drop h, fun h => dw_stay h⟩
      have HLM : Hid (∀ U U' ro rc r, LI J A B (some ⟨ab, aof, none⟩) W.heap.size z i ro rc r U → Below U.heap.size U U' → LI J A B (some ⟨ab, aof, none⟩) W.heap.size z i ro rc r U') := fun U U' ro rc r h hb => h.more hb hJ
      have HL : Hid (LI J A B (some ⟨ab, aof, none⟩) W.heap.size z i ro rc r wr) := hL
      have HTL : Hid (∀ U b o rc x r, LI J A B (some ⟨ab, aof, none⟩) W.heap.size z i (some ⟨b, o, none⟩) rc (x :: r) U → kx x c < 0 → 1 ≤ rc ∧ ∀ ao', (r = [] ∨ ao' = some ⟨b, o + 10, none⟩) → (∀ a, ao' = some a → a.block = b) → LI J A B (some ⟨ab, aof, none⟩) W.heap.size z i ao' (rc - 1) r U) := fun U b o rc x r h hx =>
        ⟨by have := h.rc'; simp at this; omega, fun ao' h1 h2 => { h with
          rest := by
            rcases h1 with rfl | rfl
            · intro j d hd; simp at hd
            · exact h.rest.tail
          rb := fun a e => by rw [h2 a e]; exact h.rb ⟨b, o, none⟩ rfl
          rc' := by have := h.rc'; simp at this; omega
          dws := fun j d hj hd => by
            have h3 := h.dws j d hj hd
            have hxd : kx x d < 0 := by
              rcases Nat.lt_or_ge i j with hij | hij
              · have h5 : kx c d < 0 := by
                  obtain ⟨l1, e1⟩ := List.getElem?_eq_some_iff.1 hc
                  obtain ⟨l2, e2⟩ := List.getElem?_eq_some_iff.1 hd
                  have := List.pairwise_iff_getElem.1 hrA i j l1 l2 hij
                  rw [e1, e2] at this; exact this
                exact kx_strict hx h5
              · have : j = i := by omega
                subst this
                rw [hc] at hd; cases hd; exact hx
            rw [dw_drop hxd] at h3; exact h3 }⟩
      have HDW : Hid (∀ U ro rc r, LI J A B (some ⟨ab, aof, none⟩) W.heap.size z i ro rc r U → dw c r = dw c B) := fun U ro rc r h => h.dws i c (Nat.le_refl _) hc
      obtain ⟨⟨ca, cp, cr, cc⟩, ⟨ct, cd, cl, ck, cn, cs⟩⟩ := c
      obtain ⟨t0, t1, t2, t3, t4, t5, t6, t7, t8, t9⟩ := tc
      simp only at t0 t1 t2 t3 t4 t5 t6 t7 t8 t9
      clear hL htk hdw hc hY hFp hJx hJ hrA
      generalize wr = wo at *
      have bc0 := Blk.new wo [.string ca, .string cp, .int .i64 cr, .string cc, .int .i64 ct, .bool cd, .int .i64 cl, .int .i64 ck, .int .i64 cn, .string cs] 39
      have hLc : Hid _ := HLM.out _ _ _ _ _ HL.out ((Below.refl _ _).alloc (Nat.le_refl _) (.cells #[.string ca, .string cp, .int .i64 cr, .string cc, .int .i64 ct, .bool cd, .int .i64 cl, .int .i64 ck, .int .i64 cn, .string cs] 39))
      gi_wp2
      gi_loopw [4] (fun s4 wr => ∃ (ro : Option Addr) (rc : Nat) (r : List Cx), s4 = .slice ro r.length rc ∧ LI J A B (some ⟨ab, aof, none⟩) W.heap.size z i ro rc r wr ∧ Blk wr wo.heap.size [.string ca, .string cp, .int .i64 cr, .string cc, .int .i64 ct, .bool cd, .int .i64 cl, .int .i64 ck, .int .i64 cn, .string cs] 39) (fun s4 _ => lenOf (some s4))
      case atStart => exact ⟨ro, rc, r, rfl, hLc.out, bc0⟩
      case round =>
        clear hLc bc0 t0 t1 t2 t3 t4 t5 t6 t7 t8 t9
        obtain ⟨ro, rc, r, rfl, hL, bc⟩ := hrel
        haveI := Cl.inh wr.heap.size wr
        cases r with
        | nil =>
          have HLq : Hid (∀ U, Below wr.heap.size wr U → LI J A B (some ⟨ab, aof, none⟩) W.heap.size z i ro rc [] U ∧ Blk U wo.heap.size [.string ca, .string cp, .int .i64 cr, .string cc, .int .i64 ct, .bool cd, .int .i64 cl, .int .i64 ck, .int .i64 cn, .string cs] 39) := fun U hU => ⟨HLM.out _ _ _ _ _ hL hU, bc.carry (hU.block _ bc.lt)⟩
          clear hL bc
          simp only [List.length_nil]
          gi_wp2
          refine wpInR_region_cl wr.heap.size (by kernel_rfl) (by kernel_rfl) (by kernel_rfl) ?_
          iterate 10 (quiet_step_in (fail))
          refine wpQuietIn_step (fun _ _ _ _ => trivial) (fun K hK => ?_)
          go_simp
          refine hK _ ?_
          clear hK K
          iterate 2 (quiet_step_in (fail))
          refine wpQuietIn_nil ?_
          rintro w0 ⟨q, rfl⟩
          obtain ⟨hL, bc⟩ := HLq.out _ q.h
          generalize q.u = U at *
          have hdr : dw ⟨⟨ca, cp, cr, cc⟩, ⟨ct, cd, cl, ck, cn, cs⟩⟩ [] = [] := rfl
          clear HLq
          have CV2 : Hid _ := CV.out U _ _ rc hL.rest hdr (HDW.out _ _ _ _ hL)
          have HLM2 : Hid (∀ U', Below U.heap.size U U' → LI J A B (some ⟨ab, aof, none⟩) W.heap.size z i _ rc [] U') := fun U' hb => HLM.out _ _ _ _ _ hL hb
          have HBC : Hid (∀ U', Below U.heap.size U U' → Blk U' wo.heap.size [.string ca, .string cp, .int .i64 cr, .string cc, .int .i64 ct, .bool cd, .int .i64 cl, .int .i64 ck, .int .i64 cn, .string cs] 39) := fun U' hb => bc.carry (hb.block _ bc.lt)
          have k0 := bc.cell 0 rfl
          have k1 := bc.cell 1 rfl
          have k2 := bc.cell 2 rfl
          have k3 := bc.cell 3 rfl
          have k4 := bc.cell 4 rfl
          have k5 := bc.cell 5 rfl
          have k6 := bc.cell 6 rfl
          have k7 := bc.cell 7 rfl
          have k8 := bc.cell 8 rfl
          have k9 := bc.cell 9 rfl
          by_cases hcv : cov (dw ⟨⟨ca, cp, cr, cc⟩, ⟨ct, cd, cl, ck, cn, cs⟩⟩ B) ⟨⟨ca, cp, cr, cc⟩, ⟨ct, cd, cl, ck, cn, cs⟩⟩ = true
          · have HY2 : Hid (∀ U', Below U.heap.size U U' → LI J A B (some ⟨ab, aof, none⟩) W.heap.size z (i + 1) _ rc [] U') := fun U' hb => HYES.out hcv U' _ _ _ (HLM2.out U' hb) hdr
            rw [hcv] at CV2
            clear hL bc HYES HNO CV CK HKX HLM HTL HL HDW HLM2 HBC hdr hcv
            simp only [Cx.val, Cx.a, List.length_nil] at CV2
            gi_wp2_with (refine ⟨trivial, ?_⟩; gi_at_call 52; refine (callsIn_wide.2 CV2.out).mono ?_; rintro e U2 ⟨rfl, hU2⟩)
            refine ⟨fun _ h => (by cases h), ?_⟩
            gi_wp2
            go_roundw
            case rel => exact ⟨z, i + 1, _, rc, [], by omega, by go_num, rfl, HY2.out U2 hU2⟩
            case measure => simp [intOf]; omega
          · have hcv' : cov (dw ⟨⟨ca, cp, cr, cc⟩, ⟨ct, cd, cl, ck, cn, cs⟩⟩ B) ⟨⟨ca, cp, cr, cc⟩, ⟨ct, cd, cl, ck, cn, cs⟩⟩ = false := by simpa using hcv
            have HN2 : Hid (∀ U', Below U.heap.size U U' → YieldAt Fence.wide (n - 1) Try.prog l #[Cx.val ⟨⟨ca, cp, cr, cc⟩, ⟨ct, cd, cl, ck, cn, cs⟩⟩] U' fun e W' => (e = .returned (.bool true) ∧ LI J A B (some ⟨ab, aof, none⟩) W.heap.size z (i + 1) _ rc [] W') ∨ (e = .returned (.bool false) ∧ z ≤ W'.heap.size ∧ ∃ q, q <+: lck B A ∧ Jx z q W')) := fun U' hb => HNO.out hcv' U' _ _ _ (HLM2.out U' hb)
            have hz1 := hL.z1
            rw [hcv'] at CV2
            clear hL bc HYES HNO CV CK HKX HLM HTL HL HDW HLM2 hdr hcv hcv'
            simp only [Cx.val, Cx.a, List.length_nil] at CV2 HN2
            gi_wp2_with (refine ⟨trivial, ?_⟩; gi_at_call 52; refine (callsIn_wide.2 CV2.out).mono ?_; rintro e U2 ⟨rfl, hU2⟩; clear k0 k1 k2 k3 k4 k5 k6 k7 k8 k9; have bc2 := HBC.out U2 hU2; have k0 := bc2.cell 0 rfl; have k1 := bc2.cell 1 rfl; have k2 := bc2.cell 2 rfl; have k3 := bc2.cell 3 rfl; have k4 := bc2.cell 4 rfl; have k5 := bc2.cell 5 rfl; have k6 := bc2.cell 6 rfl; have k7 := bc2.cell 7 rfl; have k8 := bc2.cell 8 rfl; have k9 := bc2.cell 9 rfl; obtain ⟨fn, tmps, assign, body, hy, hRd⟩ := HN2.out U2 hU2; clear bc2)
            refine hRd.mono ?_
            rintro e W3 (⟨rfl, hL3⟩ | ⟨rfl, hz3, q, hq, hx3⟩)
            · have HL3 : Hid (LI J A B (some ⟨ab, aof, none⟩) W.heap.size z (i + 1) _ rc [] W3) := hL3
              clear hL3 HN2 HBC hy hRd k0 k1 k2 k3 k4 k5 k6 k7 k8 k9
              dsimp only
              gi_wp2
              go_roundw
              case rel => exact ⟨z, i + 1, _, rc, [], by omega, by go_num, rfl, HL3.out⟩
              case measure => simp [intOf]; omega
            · clear HN2 HBC hy hRd k0 k1 k2 k3 k4 k5 k6 k7 k8 k9
              dsimp only
              gi_wp2
              refine bodyPost_ret (results_none rfl _ _ _) rfl ?_
              exact ⟨⟨_, rfl⟩, z, hz1, hz3, .inr ⟨q, hq, hx3⟩⟩
        | cons x r =>
          obtain ⟨rb, rof, rfl, tx⟩ := hL.rest 0 x rfl
          have hrx := HKX.out x r
          have htl : Hid (kx x _ < 0 → _) := fun h => HTL.out wr rb rof rc x r hL h
          have CK2 : Hid (∀ u, Calls Try.prog 31 #[x.k.v, .agg #[.string ca, .string cp, .int .i64 cr, .string cc]] u fun e w' => e = .returned (.int .i64 (kx x ⟨⟨ca, cp, cr, cc⟩, ⟨ct, cd, cl, ck, cn, cs⟩⟩)) ∧ Below u.heap.size u w') := CK.out x
          have hrl := hL.rc'
          generalize hkx : kx x ⟨⟨ca, cp, cr, cc⟩, ⟨ct, cd, cl, ck, cn, cs⟩⟩ = D at *
          obtain ⟨⟨xa, xp, xr, xc⟩, ⟨xt, xd, xl, xk, xn, xs⟩⟩ := x
          simp only [Nat.zero_mul, Nat.add_zero] at tx
          have p0 := fun q : Cl wr.heap.size wr => (tx.below q.h tx.lt).c0
          have p1 := fun q : Cl wr.heap.size wr => (tx.below q.h tx.lt).c1
          have p2 := fun q : Cl wr.heap.size wr => (tx.below q.h tx.lt).c2
          have p3 := fun q : Cl wr.heap.size wr => (tx.below q.h tx.lt).c3
          have q0 := fun q : Cl wr.heap.size wr => (bc.carry (q.h.block _ bc.lt)).cell 0 rfl
          have q1 := fun q : Cl wr.heap.size wr => (bc.carry (q.h.block _ bc.lt)).cell 1 rfl
          have q2 := fun q : Cl wr.heap.size wr => (bc.carry (q.h.block _ bc.lt)).cell 2 rfl
          have q3 := fun q : Cl wr.heap.size wr => (bc.carry (q.h.block _ bc.lt)).cell 3 rfl
          simp only at p0 p1 p2 p3
          have HLq : Hid (∀ U, Below wr.heap.size wr U → LI J A B (some ⟨ab, aof, none⟩) W.heap.size z i (some ⟨rb, rof, none⟩) rc (⟨⟨xa, xp, xr, xc⟩, ⟨xt, xd, xl, xk, xn, xs⟩⟩ :: r) U ∧ Blk U wo.heap.size [.string ca, .string cp, .int .i64 cr, .string cc, .int .i64 ct, .bool cd, .int .i64 cl, .int .i64 ck, .int .i64 cn, .string cs] 39) := fun U hU => ⟨HLM.out _ _ _ _ _ hL hU, bc.carry (hU.block _ bc.lt)⟩
          simp only [Kb.v] at CK2
          simp only [List.length_cons] at hrl ⊢
          clear tx htl
          have hrz : (0 : Int) < (r.length : Int) + 1 := by omega
          clear hL bc
          gi_wp2
          refine wpInR_region_cl wr.heap.size (by kernel_rfl) (by kernel_rfl) (by kernel_rfl) ?_
          iterate 10 (quiet_step_in (fail))
          refine wpQuietIn_step (fun _ _ _ _ => trivial) (fun K hK => ?_)
          go_simp
          apply Exists.intro
          refine ⟨fun _ => ?_, hK _ ?_⟩
          first | exact callsIn_wide.2 (Cl.calls (Nat.le_refl _) (CK2.out _)) | exact ⟨fun _ => by omega, callsIn_wide.2 (Cl.calls (Nat.le_refl _) (CK2.out _))⟩
          clear hK K
          iterate 2 (quiet_step_in (fail))
          refine wpQuietIn_nil ?_
          rintro w0 ⟨q, rfl⟩
          obtain ⟨hL, bc⟩ := HLq.out _ q.h
          generalize q.u = U at *
          clear HLq p0 p1 p2 p3 q0 q1 q2 q3 CK2
          by_cases hD : D < 0
          · have HT := HTL.out U rb rof rc _ r hL (by rw [hkx]; exact hD)
            have BC : Hid (Blk U wo.heap.size [.string ca, .string cp, .int .i64 cr, .string cc, .int .i64 ct, .bool cd, .int .i64 cl, .int .i64 ck, .int .i64 cn, .string cs] 39) := bc
            have hrc : (r.length : Int) + 1 ≤ (rc : Int) := by omega
            obtain ⟨-, HT2⟩ := HT
            have HT3 : Hid (∀ (ao' : Option Addr), (r = [] ∨ ao' = some ⟨rb, rof + 10, none⟩) → (∀ a, ao' = some a → a.block = rb) → LI J A B (some ⟨ab, aof, none⟩) W.heap.size z i ao' (rc - 1) r U) := HT2
            clear hL bc HYES HNO CV CK HKX HLM HTL HL HDW hrx hkx HT2 hrl
            cases r with
            | nil =>
              simp only [List.length_nil] at hrc ⊢
              gi_wp2
              go_roundw
              case rel => exact ⟨_, _, [], rfl, HT3.out _ (.inl rfl) (fun a e => by split at e <;> (cases e; rfl)), BC.out⟩
              case measure => simp [lenOf]
            | cons d r =>
              simp only [List.length_cons] at hrc ⊢
              have hrc2 : (r.length : Int) + 1 + 1 ≤ (rc : Int) := by omega
              clear hrc
              gi_wp2
              go_roundw
              case rel => exact ⟨_, _, d :: r, rfl, HT3.out _ (.inr (if_neg (by omega))) (fun a e => by split at e <;> (cases e; rfl)), BC.out⟩
              case measure => simp [lenOf]
          · have hdr := hrx.2 (by omega)
            clear hrx hkx
            have CV2 : Hid _ := CV.out U _ _ rc hL.rest hdr (HDW.out _ _ _ _ hL)
            have HLM2 : Hid (∀ U', Below U.heap.size U U' → LI J A B (some ⟨ab, aof, none⟩) W.heap.size z i _ rc (⟨⟨xa, xp, xr, xc⟩, ⟨xt, xd, xl, xk, xn, xs⟩⟩ :: r) U') := fun U' hb => HLM.out _ _ _ _ _ hL hb
            have HBC : Hid (∀ U', Below U.heap.size U U' → Blk U' wo.heap.size [.string ca, .string cp, .int .i64 cr, .string cc, .int .i64 ct, .bool cd, .int .i64 cl, .int .i64 ck, .int .i64 cn, .string cs] 39) := fun U' hb => bc.carry (hb.block _ bc.lt)
            have k0 := bc.cell 0 rfl
            have k1 := bc.cell 1 rfl
            have k2 := bc.cell 2 rfl
            have k3 := bc.cell 3 rfl
            have k4 := bc.cell 4 rfl
            have k5 := bc.cell 5 rfl
            have k6 := bc.cell 6 rfl
            have k7 := bc.cell 7 rfl
            have k8 := bc.cell 8 rfl
            have k9 := bc.cell 9 rfl
            by_cases hcv : cov (dw ⟨⟨ca, cp, cr, cc⟩, ⟨ct, cd, cl, ck, cn, cs⟩⟩ B) ⟨⟨ca, cp, cr, cc⟩, ⟨ct, cd, cl, ck, cn, cs⟩⟩ = true
            · have HY2 : Hid (∀ U', Below U.heap.size U U' → LI J A B (some ⟨ab, aof, none⟩) W.heap.size z (i + 1) _ rc (⟨⟨xa, xp, xr, xc⟩, ⟨xt, xd, xl, xk, xn, xs⟩⟩ :: r) U') := fun U' hb => HYES.out hcv U' _ _ _ (HLM2.out U' hb) hdr
              rw [hcv] at CV2
              clear hL bc HYES HNO CV CK HKX HLM HTL HL HDW HLM2 HBC hdr hcv
              simp only [Cx.val, Cx.a, List.length_cons] at CV2
              gi_wp2_with (refine ⟨trivial, ?_⟩; gi_at_call 52; refine (callsIn_wide.2 CV2.out).mono ?_; rintro e U2 ⟨rfl, hU2⟩)
              refine ⟨fun _ h => (by cases h), ?_⟩
              gi_wp2
              go_roundw
              case rel => exact ⟨z, i + 1, _, rc, (⟨⟨xa, xp, xr, xc⟩, ⟨xt, xd, xl, xk, xn, xs⟩⟩ :: r), by omega, by go_num, rfl, HY2.out U2 hU2⟩
              case measure => simp [intOf]; omega
            · have hcv' : cov (dw ⟨⟨ca, cp, cr, cc⟩, ⟨ct, cd, cl, ck, cn, cs⟩⟩ B) ⟨⟨ca, cp, cr, cc⟩, ⟨ct, cd, cl, ck, cn, cs⟩⟩ = false := by simpa using hcv
              have HN2 : Hid (∀ U', Below U.heap.size U U' → YieldAt Fence.wide (n - 1) Try.prog l #[Cx.val ⟨⟨ca, cp, cr, cc⟩, ⟨ct, cd, cl, ck, cn, cs⟩⟩] U' fun e W' => (e = .returned (.bool true) ∧ LI J A B (some ⟨ab, aof, none⟩) W.heap.size z (i + 1) _ rc (⟨⟨xa, xp, xr, xc⟩, ⟨xt, xd, xl, xk, xn, xs⟩⟩ :: r) W') ∨ (e = .returned (.bool false) ∧ z ≤ W'.heap.size ∧ ∃ q, q <+: lck B A ∧ Jx z q W')) := fun U' hb => HNO.out hcv' U' _ _ _ (HLM2.out U' hb)
              have hz1 := hL.z1
              rw [hcv'] at CV2
              clear hL bc HYES HNO CV CK HKX HLM HTL HL HDW HLM2 hdr hcv hcv'
              simp only [Cx.val, Cx.a, List.length_cons] at CV2 HN2
              gi_wp2_with (refine ⟨trivial, ?_⟩; gi_at_call 52; refine (callsIn_wide.2 CV2.out).mono ?_; rintro e U2 ⟨rfl, hU2⟩; clear k0 k1 k2 k3 k4 k5 k6 k7 k8 k9; have bc2 := HBC.out U2 hU2; have k0 := bc2.cell 0 rfl; have k1 := bc2.cell 1 rfl; have k2 := bc2.cell 2 rfl; have k3 := bc2.cell 3 rfl; have k4 := bc2.cell 4 rfl; have k5 := bc2.cell 5 rfl; have k6 := bc2.cell 6 rfl; have k7 := bc2.cell 7 rfl; have k8 := bc2.cell 8 rfl; have k9 := bc2.cell 9 rfl; obtain ⟨fn, tmps, assign, body, hy, hRd⟩ := HN2.out U2 hU2; clear bc2)
              refine hRd.mono ?_
              rintro e W3 (⟨rfl, hL3⟩ | ⟨rfl, hz3, q, hq, hx3⟩)
              · have HL3 : Hid (LI J A B (some ⟨ab, aof, none⟩) W.heap.size z (i + 1) _ rc (⟨⟨xa, xp, xr, xc⟩, ⟨xt, xd, xl, xk, xn, xs⟩⟩ :: r) W3) := hL3
                clear hL3 HN2 HBC hy hRd k0 k1 k2 k3 k4 k5 k6 k7 k8 k9
                dsimp only
                gi_wp2
                go_roundw
                case rel => exact ⟨z, i + 1, _, rc, (⟨⟨xa, xp, xr, xc⟩, ⟨xt, xd, xl, xk, xn, xs⟩⟩ :: r), by omega, by go_num, rfl, HL3.out⟩
                case measure => simp [intOf]; omega
              · clear HN2 HBC hy hRd k0 k1 k2 k3 k4 k5 k6 k7 k8 k9
                dsimp only
                gi_wp2
                refine bodyPost_ret (results_none rfl _ _ _) rfl ?_
                exact ⟨⟨_, rfl⟩, z, hz1, hz3, .inr ⟨q, hq, hx3⟩⟩
    · obtain rfl : i = A.length := by omega
      have hge' : ¬ (A.length : Int) < (A.length : Int) := by omega
      have HE : Hid (J z (lck B A) wr ∧ W.heap.size ≤ z ∧ z ≤ wr.heap.size) := ⟨by have := hL.j; rwa [List.take_of_length_le (Nat.le_refl _)] at this, hL.z1, hL.z2⟩
      clear hL hY hFp hJx hJ hrA
      gi_wp2
      go_end0
      exact ⟨⟨_, rfl⟩, z, HE.out.2.1, HE.out.2.2, .inl HE.out.1⟩
end Go.Proofs.Ytdpglmgnbhpneaa
namespace Go.Proofs.Ytdpglmgnbhpneaa
open Go.RowKit Go.Shelf

attribute [local go_sem] Oper.semAt_some

theorem lck_len (B A : List Cx) : (lck B A).length ≤ A.length := List.length_filter_le _ _
set_option maxRecDepth 100000 in
set_option maxHeartbeats 1000000 in
theorem sub_any (ao bo : Option Addr) (la lb : List Cx) (acap bcap : Nat) (w : World) (sa : XSees w ao la) (sb : XSees w bo lb) (hla : la.length ≤ 1000000) (hlb : lb.length ≤ 1000000) :
    Calls Try.prog 17 #[.slice ao la.length acap, .slice bo lb.length bcap] w fun e w' => ∃ v, e = .returned v ∧ w'.ownsRow w.heap.size 39 10 v (lck (nrm lb) (nrm la)).length ((lck (nrm lb) (nrm la)).flatMap xs10) ∧ Below w.heap.size w w' := by
  refine (callsIn_wide (n := 6)).1 ?_
  have hro : Fence.wide.round = none := rfl
  have h1 : 1 ≤ 6 := by omega
  obtain ⟨i1, hi1, hy0, hy1, hy2⟩ := infoX infoCx
  have LK : Hid (∀ w, Calls Try.prog 34 #[.slice ao la.length acap, .slice bo lb.length bcap] w fun e w' => e = .returned (.func (.func 51) #[] #[.pointer (some ⟨w.heap.size + 1, 0, none⟩), .pointer (some ⟨w.heap.size, 0, none⟩)]) ∧ w' = (w.alloc (.cells #[.slice ao la.length acap] 25)).alloc (.cells #[.slice bo lb.length bcap] 25)) := lacking_any ao la.length acap bo lb.length bcap
  refine callsIn_of_wp_marks Try.func17 rfl trivial ?_ hro
  simp only [Try.ntmps17, List.size_toArray, List.length_cons, List.length_nil, Nat.reduceAdd, Nat.reduceSub, Array.replicate_succ, Array.replicate_zero, List.push_toArray, List.append_toArray, List.nil_append, List.cons_append]
  gi_wp2_with (refine ⟨trivial, ?_⟩; gi_at_call 34; refine (callsIn_wide.2 (LK.out _)).mono ?_; rintro e w1 ⟨rfl, rfl⟩)
  clear LK
  obtain ⟨w1, hw1⟩ : ∃ w1, w1 = ((w.alloc (.cells #[.slice none 0 0] 25)).alloc (.cells #[.slice ao la.length acap] 25)).alloc (.cells #[.slice bo lb.length bcap] 25) := ⟨_, rfl⟩
  rw [← hw1]
  have hs1 : w1.heap.size = w.heap.size + 1 + 1 + 1 := by rw [hw1]; simp
  have hBw : Below w.heap.size w w1 := by rw [hw1]; exact (((Below.refl _ _).alloc (Nat.le_refl _) _).alloc (by simp) _).alloc (by simp; omega) _
  have bO : Blk w1 w.heap.size [.slice none 0 0] 25 := by rw [hw1]; exact ((Blk.new w [.slice none 0 0] _).alloc _).alloc _
  have bA : Blk w1 (w.heap.size + 1) [.slice ao la.length acap] 25 := by
    have h := Blk.new (w.alloc (.cells #[.slice none 0 0] 25)) [.slice ao la.length acap] 25
    rw [World.size_alloc] at h
    rw [hw1]; exact h.alloc _
  have bB : Blk w1 (w.heap.size + 1 + 1) [.slice bo lb.length bcap] 25 := by
    have h := Blk.new ((w.alloc (.cells #[.slice none 0 0] 25)).alloc (.cells #[.slice ao la.length acap] 25)) [.slice bo lb.length bcap] 25
    rw [World.size_alloc, World.size_alloc] at h
    rw [hw1]; exact h
  clear hw1
  refine range_zone (I := fun z pre X => Ga w.heap.size w.heap.size z w pre X) (Ix := fun _ _ _ _ => False) (Ex := fun k => k = w.heap.size) (Fp := GFp w.heap.size) (xs := lck (nrm lb) (nrm la)) (encs := fun c : Cx => #[c.val]) hro h1 (gf := 51) (lb := #[.pointer (some ⟨w.heap.size + 1 + 1, 0, none⟩), .pointer (some ⟨w.heap.size + 1, 0, none⟩)]) rfl trivial (enters_of Try.func51 (by kernel_rfl) rfl)
    (lacking1_zone (6 - 1) (by omega) _ _ (w.heap.size + 1) (w.heap.size + 1 + 1) ao bo la lb acap bcap w1 (fun k hk => by omega) (bA.cell 0 rfl) (bB.cell 0 rfl) (sa.below hBw (Nat.le_refl _)) (sb.below hBw (Nat.le_refl _)) hla hlb) (fun k hk => by omega) (gfp_told _) (fun _ => rfl) ?hI ?hIx ?hF ?h0 ?round ?done ?stop
  case hI => exact fun z pre X Y h hz => h.zoned hz (by omega) (by omega)
  case hIx => exact fun _ _ _ _ _ h _ => h
  case hF => exact fun z pre X h => h.fp
  case h0 =>
    intro V hV _
    refine ⟨⟨_, bO.carry (hV.block _ (by omega)), World.ownsRow_nil _ _ _ _, fun g hg => by simp [Value.ownBlock] at hg⟩, hBw.trans (hV.mono (by omega))⟩
  case round =>
    intro l2 z pre x V K hz hzV hi hpre hK
    obtain ⟨⟨xa, xp, xr, xc⟩, ⟨xt, xd, xl, xk, xn, xs⟩⟩ := x
    simp only [Cx.val, Cx.a]
    gi_wp2
    refine hK _ _ ((Below.refl _ _).alloc (Nat.le_refl _) _) ?_
    intro W2 hz2 hsz2
    clear hK K
    rw [World.size_alloc] at hsz2
    have hVW : Zoned w1.heap.size z V W2 := ((Zoned.refl _ _ _).alloc _).trans (hz2.wide (Nat.le_refl _) hz)
    have hi2 := hi.zoned hVW (by omega) (by omega)
    have bx : Blk W2 V.heap.size [.string xa, .string xp, .int .i64 xr, .string xc, .int .i64 xt, .bool xd, .int .i64 xl, .int .i64 xk, .int .i64 xn, .string xs] 39 := (Blk.new V [.string xa, .string xp, .int .i64 xr, .string xc, .int .i64 xt, .bool xd, .int .i64 xl, .int .i64 xk, .int .i64 xn, .string xs] _).carry (hz2.block _ (by simp) (.inr (by omega)))
    clear hz2 hi hVW
    have hpl : pre.length ≤ 1000000 := by
      have h2 := hpre.length_le
      have h3 := lck_len (nrm lb) (nrm la)
      have h4 := nrm_len la
      simp at h2
      omega
    obtain ⟨⟨v, b1, b2, b3⟩, b4⟩ := hi2
    have b2' := b2
    obtain ⟨va, vc, rfl⟩ := ownsM_shape b2'
    have c0 := b1.cell 0 rfl
    obtain ⟨v', w3, hr3, ho3, hg3⟩ := run_append_grew (P := Try.prog) (W2.alloc (.cells (Cx.a ⟨⟨xa, xp, xr, xc⟩, ⟨xt, xd, xl, xk, xn, xs⟩⟩) 39)) w.heap.size 25 25 25 39 i1 _ 10 112 Try.underlying25 hi1 hy0 hy1 hy2 rfl _ pre.length _ (b2'.alloc _) _ 1 _ (src_one_cx W2 ⟨⟨xa, xp, xr, xc⟩, ⟨xt, xd, xl, xk, xn, xs⟩⟩) (by unfold maxLen; omega) (by omega) (by have := b4.size; simp; omega)
    obtain ⟨p1, p2, p3⟩ := Ga.add (X := W2) (X2 := W2) ⟨⟨_, b1, b2, b3⟩, b4⟩ c0 (Below.refl _ _) (by omega) (by omega) (Nat.le_refl _) ho3 hg3
    have HE : Hid (zPost (GFp w.heap.size) w1.heap.size z (fun z pre X => Ga w.heap.size w.heap.size z w pre X) (fun _ _ _ _ => False) (pre ++ [⟨⟨xa, xp, xr, xc⟩, ⟨xt, xd, xl, xk, xn, xs⟩⟩]) W2 .normal ⟨#[], []⟩ (w3.setCell ⟨w.heap.size, 0, none⟩ v')) := ⟨p2, p1⟩
    obtain ⟨va', vc', rfl⟩ := ownsM_shape ho3
    have c3 := p3.cell 0 rfl
    have f3 := p3.frozen 0
    have x0 := bx.cell 0 rfl
    have x1 := bx.cell 1 rfl
    have x2 := bx.cell 2 rfl
    have x3 := bx.cell 3 rfl
    have x4 := bx.cell 4 rfl
    have x5 := bx.cell 5 rfl
    have x6 := bx.cell 6 rfl
    have x7 := bx.cell 7 rfl
    have x8 := bx.cell 8 rfl
    have x9 := bx.cell 9 rfl
    simp only [Cx.a] at hr3
    simp only [zPost] at HE
    clear b1 b2 b2' b3 b4 p1 p2 p3 ho3 hg3 bx hpre hsz2
    gi_wp2_with (refine wpListIn_appM rfl _ _ _ _ rfl _ _ rfl rfl (by exact hr3) ?_)
    exact HE.out
  case done =>
    intro z W3 hz hzW hi hK
    obtain ⟨⟨v, b1, b2, b3⟩, b4⟩ := hi
    have c0 := b1.cell 0 rfl
    have HE : Hid ((W3.putObj w1.heap.size (.deferred none)).ownsRow w.heap.size 39 10 v (lck (nrm lb) (nrm la)).length ((lck (nrm lb) (nrm la)).flatMap xs10) ∧ Below w.heap.size w (W3.putObj w1.heap.size (.deferred none))) := by
      refine ⟨ownsRow_blk b2 fun g hg => World.putObj_heap_other (by have := b3 g hg; omega), b4.trans ((zoned_put w1.heap.size (w1.heap.size + 1) W3 w1.heap.size (.deferred none) (Nat.le_refl _) (by omega)).below (by omega) b4.size)⟩
    clear b1 b2 b3 b4
    gi_wp2
    refine ⟨by simp, .inl ⟨_, _, rfl, run_takeDeferred hK, ?_⟩⟩
    exact ⟨_, results_tmp rfl _ _ _, v, rfl, HE.out⟩
  case stop => exact fun _ _ _ _ _ _ _ h _ => h.elim

theorem res_bool {P : Program} {fn : Func} {p : Tmp} {ty : TypeId} (h : fn.results = #[.cell p ty]) (tmps : Array Value) (w : World) (g : Nat) (b : Bool)
    (hp : tmps.getD p undef = .pointer (some ⟨g, 0, none⟩)) (hc : w.cell? ⟨g, 0, none⟩ = some (.bool b)) (hu : P.underlying ty = some .bool) : (results fn tmps).run P w = .ok (.bool b) w := by
  have hp' : tmps[p]?.getD undef = .pointer (some ⟨g, 0, none⟩) := by simpa using hp
  simp [results, h, hp', asAddr, go_sem, isAgg, run_underlying hu, hc]
set_option maxRecDepth 100000 in
set_option maxHeartbeats 1000000 in
theorem over_any (ao bo : Option Addr) (la lb : List Cx) (acap bcap : Nat) (w : World) (sa : XSees w ao la) (sb : XSees w bo lb) (hla : la.length ≤ 1000000) (hlb : lb.length ≤ 1000000) :
    Calls Try.prog 18 #[.slice ao la.length acap, .slice bo lb.length bcap] w fun e w' => e = .returned (.bool (lck (nrm lb) (nrm la)).isEmpty) ∧ Below w.heap.size w w' := by
  refine (callsIn_wide (n := 6)).1 ?_
  have hro : Fence.wide.round = none := rfl
  have h1 : 1 ≤ 6 := by omega
  have LK : Hid (∀ w, Calls Try.prog 34 #[.slice ao la.length acap, .slice bo lb.length bcap] w fun e w' => e = .returned (.func (.func 51) #[] #[.pointer (some ⟨w.heap.size + 1, 0, none⟩), .pointer (some ⟨w.heap.size, 0, none⟩)]) ∧ w' = (w.alloc (.cells #[.slice ao la.length acap] 25)).alloc (.cells #[.slice bo lb.length bcap] 25)) := lacking_any ao la.length acap bo lb.length bcap
  refine callsIn_of_wp_marks Try.func18 rfl trivial ?_ hro
  simp only [Try.ntmps18, List.size_toArray, List.length_cons, List.length_nil, Nat.reduceAdd, Nat.reduceSub, Array.replicate_succ, Array.replicate_zero, List.push_toArray, List.append_toArray, List.nil_append, List.cons_append]
  gi_wp2_with (refine ⟨trivial, ?_⟩; gi_at_call 34; refine (callsIn_wide.2 (LK.out _)).mono ?_; rintro e w1 ⟨rfl, rfl⟩)
  clear LK
  obtain ⟨w1, hw1⟩ : ∃ w1, w1 = ((w.alloc (.cells #[.bool false] 4)).alloc (.cells #[.slice ao la.length acap] 25)).alloc (.cells #[.slice bo lb.length bcap] 25) := ⟨_, rfl⟩
  rw [← hw1]
  have hs1 : w1.heap.size = w.heap.size + 1 + 1 + 1 := by rw [hw1]; simp
  have hBw : Below w.heap.size w w1 := by rw [hw1]; exact (((Below.refl _ _).alloc (Nat.le_refl _) _).alloc (by simp) _).alloc (by simp; omega) _
  have bO : Blk w1 w.heap.size [.bool false] 4 := by rw [hw1]; exact ((Blk.new w [.bool false] _).alloc _).alloc _
  have bA : Blk w1 (w.heap.size + 1) [.slice ao la.length acap] 25 := by
    have h := Blk.new (w.alloc (.cells #[.bool false] 4)) [.slice ao la.length acap] 25
    rw [World.size_alloc] at h
    rw [hw1]; exact h.alloc _
  have bB : Blk w1 (w.heap.size + 1 + 1) [.slice bo lb.length bcap] 25 := by
    have h := Blk.new ((w.alloc (.cells #[.bool false] 4)).alloc (.cells #[.slice ao la.length acap] 25)) [.slice bo lb.length bcap] 25
    rw [World.size_alloc, World.size_alloc] at h
    rw [hw1]; exact h
  clear hw1
  have hbz : ∀ {z : Nat} {X Y : World}, Below w.heap.size w X → Zoned w1.heap.size z X Y → Below w.heap.size w Y := fun h hz => h.trans (hz.below (by omega) h.size)
  refine range_zone (I := fun z pre X => pre = [] ∧ Blk X w.heap.size [.bool false] 4 ∧ Below w.heap.size w X) (Ix := fun c z pre X => c = .ret ∧ lck (nrm lb) (nrm la) ≠ [] ∧ Blk X w.heap.size [.bool false] 4 ∧ Below w.heap.size w X) (Ex := fun k => k = w.heap.size) (Fp := fun _ k => k = w.heap.size) (xs := lck (nrm lb) (nrm la)) (encs := fun c : Cx => #[c.val]) hro h1 (gf := 51) (lb := #[.pointer (some ⟨w.heap.size + 1 + 1, 0, none⟩), .pointer (some ⟨w.heap.size + 1, 0, none⟩)]) rfl trivial (enters_of Try.func51 (by kernel_rfl) rfl)
    (lacking1_zone (6 - 1) (by omega) _ _ (w.heap.size + 1) (w.heap.size + 1 + 1) ao bo la lb acap bcap w1 (fun k hk => by omega) (bA.cell 0 rfl) (bB.cell 0 rfl) (sa.below hBw (Nat.le_refl _)) (sb.below hBw (Nat.le_refl _)) hla hlb) (fun k hk => by omega) (fun _ _ _ _ h => h) (fun _ => rfl) ?hI ?hIx ?hF ?h0 ?round ?done ?stop
  case hI =>
    rintro z pre X Y ⟨h1, h2, h3⟩ hz
    exact ⟨h1, zoned_blk hz h2 (by omega), hbz h3 hz⟩
  case hIx =>
    rintro c z pre X Y ⟨h0, h1, h2, h3⟩ hz
    exact ⟨h0, h1, zoned_blk hz h2 (by omega), hbz h3 hz⟩
  case hF =>
    rintro z pre X ⟨h1, h2, h3⟩ k rfl
    exact ⟨.inl rfl, h2.lt⟩
  case h0 =>
    intro V hV _
    exact ⟨rfl, bO.carry (hV.block _ (by omega)), hBw.trans (hV.mono (by omega))⟩
  case round =>
    rintro l2 z pre x V K hz hzV ⟨rfl, hb, hB⟩ hpre hK
    have hne : lck (nrm lb) (nrm la) ≠ [] := fun e => by rw [e] at hpre; have := hpre.length_le; simp at this
    obtain ⟨⟨xa, xp, xr, xc⟩, ⟨xt, xd, xl, xk, xn, xs⟩⟩ := x
    simp only [Cx.val, Cx.a]
    gi_wp2
    refine hK _ _ (Below.refl _ _) ?_
    intro W2 hz2 hsz2
    have hb2 := zoned_blk hz2 hb (by omega)
    have hB2 := hbz hB hz2
    have c0 := hb2.cell 0 rfl
    have f0 := hb2.frozen 0
    have HE : Hid (zPost (fun _ k => k = w.heap.size) w1.heap.size z (fun z pre X => pre = [] ∧ Blk X w.heap.size [.bool false] 4 ∧ Below w.heap.size w X) (fun c z pre X => c = .ret ∧ lck (nrm lb) (nrm la) ≠ [] ∧ Blk X w.heap.size [.bool false] 4 ∧ Below w.heap.size w X) ([] ++ [(⟨⟨xa, xp, xr, xc⟩, ⟨xt, xd, xl, xk, xn, xs⟩⟩ : Cx)]) W2 .ret ⟨#[], []⟩ (W2.setCell ⟨w.heap.size, 0, none⟩ (.bool false))) := by
      refine ⟨?_, rfl, hne, hb2.set 0 _, hB2.trans ((Below.refl _ _).setCell (p := ⟨w.heap.size, 0, none⟩) (Nat.le_refl _) _)⟩
      have g4 := grownBy_setCell' W2 w.heap.size (.bool false)
      exact .of_grown g4 (by omega) (fun k e => by cases e; exact .inl (by omega))
    clear hK K hb hB hb2 hB2 hsz2 hz2
    gi_wp2
    exact HE.out
  case done =>
    rintro z W3 hz hzW ⟨hnil, hb, hB⟩ hK
    have c0 := hb.cell 0 rfl
    have f0 := hb.frozen 0
    have hD : (W3.setCell ⟨w.heap.size, 0, none⟩ (.bool true)).heap[w1.heap.size]? = some (.deferred (some [])) := (grownBy_setCell' W3 w.heap.size (.bool true)).block _ (by omega) (by simp; omega) |>.trans hK
    have HE : Hid (((W3.setCell ⟨w.heap.size, 0, none⟩ (.bool true)).putObj w1.heap.size (.deferred none)).cell? ⟨w.heap.size, 0, none⟩ = some (.bool true) ∧ Below w.heap.size w ((W3.setCell ⟨w.heap.size, 0, none⟩ (.bool true)).putObj w1.heap.size (.deferred none))) := by
      have b5 : Blk (W3.setCell ⟨w.heap.size, 0, none⟩ (.bool true)) w.heap.size [.bool true] 4 := hb.set 0 _
      have b6 : Blk ((W3.setCell ⟨w.heap.size, 0, none⟩ (.bool true)).putObj w1.heap.size (.deferred none)) w.heap.size [.bool true] 4 := b5.carry (World.putObj_heap_other (by omega))
      have hB5 : Below w.heap.size w (W3.setCell ⟨w.heap.size, 0, none⟩ (.bool true)) := hB.trans ((Below.refl _ _).setCell (p := ⟨w.heap.size, 0, none⟩) (Nat.le_refl _) _)
      exact ⟨b6.cell 0 rfl, hbz hB5 (zoned_put w1.heap.size (w1.heap.size + 1) _ w1.heap.size (.deferred none) (Nat.le_refl _) (by omega))⟩
    clear hb hB hK
    gi_wp2
    refine ⟨by simp, .inl ⟨_, _, rfl, run_takeDeferred hD, ?_⟩⟩
    exact ⟨_, res_bool rfl _ _ w.heap.size true rfl HE.out.1 Try.underlying4, ret_bool (by rw [hnil]; rfl), HE.out.2⟩
  case stop =>
    rintro z c pre W3 hz hzW hpre ⟨rfl, hne, hb, hB⟩ hK
    have HE : Hid ((W3.putObj w1.heap.size (.deferred none)).cell? ⟨w.heap.size, 0, none⟩ = some (.bool false) ∧ Below w.heap.size w (W3.putObj w1.heap.size (.deferred none))) := by
      have b6 : Blk (W3.putObj w1.heap.size (.deferred none)) w.heap.size [.bool false] 4 := hb.carry (World.putObj_heap_other (by omega))
      exact ⟨b6.cell 0 rfl, hbz hB (zoned_put w1.heap.size (w1.heap.size + 1) _ w1.heap.size (.deferred none) (Nat.le_refl _) (by omega))⟩
    have hem : (lck (nrm lb) (nrm la)).isEmpty = false := by simpa using hne
    clear hb hB
    gi_wp2
    refine ⟨by simp, .inl ⟨_, _, rfl, run_takeDeferred hK, ?_⟩⟩
    exact ⟨_, res_bool rfl _ _ w.heap.size false rfl HE.out.1 Try.underlying4, ret_bool hem.symm, HE.out.2⟩
end Go.Proofs.Ytdpglmgnbhpneaa

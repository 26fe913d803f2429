/-
  CONTRACTS: may a table have a cell? (Fits, by the program and by the document).
-/
import Derived.Test.YtgjajffpkjcenaaDoorSchCol
import Derived.Test.YtgjajffpkjcenaaDoorVerRefGood
namespace Go.Proofs.YtgjajffpkjcenaaDoor
open Go.RowKit

/-- What kindOf tells. -/
def kindR (cs : List Co) (s : ByteArray) : Int × Bool := if s.size = 0 then (0, true) else ((colR cs s).1.k, (colR cs s).2)
set_option maxRecDepth 100000 in
theorem kindOf_any (T : Tb) (ao : Option Addr) (cap : Nat) (s : ByteArray) (w : World) (hC : CSee w ao T.cs) (hl : T.cs.length * 24 ≤ 140737488351232) :
    Calls Tryd.prog 38 #[T.v ao cap, .string s] w fun e w' => e = .returned (.tuple #[.int .i64 (kindR T.cs s).1, .bool (kindR T.cs s).2]) ∧ Below w.heap.size w w' := by
  obtain ⟨w0, hw0⟩ : ∃ w0, w0 = w.alloc (.cells #[.string T.t, .string T.p, .string T.r, .slice ao T.cs.length cap] 26) := ⟨_, rfl⟩
  have hB : Below w.heap.size w w0 := by rw [hw0]; exact (Below.refl _ _).alloc (Nat.le_refl _) _
  have hX : Blk w0 w.heap.size [.string T.t, .string T.p, .string T.r, .slice ao T.cs.length cap] 26 := by rw [hw0]; exact Blk.new w [.string T.t, .string T.p, .string T.r, .slice ao T.cs.length cap] _
  have K : Calls Tryd.prog 11 #[.agg #[.string T.t, .string T.p, .string T.r, .slice ao T.cs.length cap], .string s] w0 fun e w' => e = .returned (.tuple #[.agg #[.string (colR T.cs s).1.n, .int .i64 (colR T.cs s).1.k], .bool (colR T.cs s).2]) ∧ Below w0.heap.size w0 w' := column_any T ao cap s w0 (hC.below hB) hl
  have hem := ba_isEmpty s
  have HB : Hid (Below w.heap.size w w0) := hB
  have HW : Hid (∀ w', Below w0.heap.size w0 w' → Below w.heap.size w w') := fun w' h => hB.trans (h.mono hB.size)
  have e0 := hX.cell 0 rfl
  have e1 := hX.cell 1 rfl
  have e2 := hX.cell 2 rfl
  have e3 := hX.cell 3 rfl
  rw [hw0] at e0 e1 e2 e3
  simp only [Tb.v, Tb.a]
  by_cases h0 : s.size = 0
  · rw [decide_eq_true h0] at hem
    have hk : Hid (kindR T.cs s = (0, true)) := by show _ = _; unfold kindR; rw [if_pos h0]
    clear K hC hl hB hX h0
    go_enter Tryd.func38, Tryd.ntmps38
    go_wp2_with fail
    rw [← hw0]
    go_ret2
    exact ⟨by rw [hk.out]; rfl, HB.out⟩
  · rw [decide_eq_false h0] at hem
    have hk : Hid (kindR T.cs s = ((colR T.cs s).1.k, (colR T.cs s).2)) := by show _ = _; unfold kindR; rw [if_neg h0]
    clear hC hl hB hX h0
    generalize colR T.cs s = q at *
    obtain ⟨⟨qn, qk⟩, qb⟩ := q
    simp only at K hk
    go_enter Tryd.func38, Tryd.ntmps38
    go_wp2_with fail
    rw [← hw0]
    clear e0 e1 e2 e3
    refine K.mono ?_
    rintro e w1 ⟨rfl, hb1⟩
    have h2 := HW.out _ (hb1.alloc hb1.size (.cells #[.string qn, .int .i64 qk] 29))
    have b := Blk.new w1 [.string qn, .int .i64 qk] 29
    have d1 := b.cell 1 rfl
    clear b
    go_wp2_with fail
    go_ret2
    exact ⟨by rw [hk.out]; rfl, h2⟩
/-- What Fits tells. -/
def fitsB (T : Tb) (c : Cx) : Bool := goodC c && (decide (nb c.k.t = nb T.t) && ((kindR T.cs c.k.c).2 && (c.v.dead || decide (c.v.kind = (kindR T.cs c.k.c).1))))
theorem fits_mark {T : Tb} {c : Cx} (hg : goodC c = true) (ht : nb c.k.t = nb T.t) (h0 : c.k.c.size = 0) : fitsB T c = true := by
  unfold fitsB kindR
  rw [hg, decide_eq_true ht, if_pos h0]
  unfold goodC at hg
  rw [decide_eq_true h0] at hg
  have hv : goodV true c.v = true := by
    cases h : goodV true c.v
    · rw [h, Bool.and_false] at hg; cases hg
    · rfl
  cases hd : c.v.dead
  · rw [goodV_live hd] at hv
    unfold goodU at hv
    simp at hv
    simp [hv.2.1]
  · rfl
structure CBox (w : World) (X : Nat) (T : Tb) (ao : Option Addr) (cap : Nat) (c : Cx) : Prop where
  tab : Blk w X [.string T.t, .string T.p, .string T.r, .slice ao T.cs.length cap] 26
  cel : TenX w (X + 1) 0 c
theorem CBox.below {w w' : World} {X : Nat} {T : Tb} {ao : Option Addr} {cap : Nat} {c : Cx} (h : CBox w X T ao cap c) (hb : Below w.heap.size w w') : CBox w' X T ao cap c :=
  ⟨h.tab.carry (hb.block _ h.tab.lt), h.cel.below hb h.cel.lt⟩
set_option maxRecDepth 100000 in
set_option maxHeartbeats 2000000 in
theorem fits_any (T : Tb) (ao : Option Addr) (cap : Nat) (c : Cx) (w : World) (hC : CSee w ao T.cs) (hl : T.cs.length * 24 ≤ 140737488351232) (h1 : c.k.t.size ≤ maxLen) (h2 : c.k.p.size ≤ maxLen) (h3 : c.k.c.size ≤ maxLen) (h4 : c.v.s.size ≤ maxLen) :
    Calls Tryd.prog 18 #[T.v ao cap, c.val] w fun e w' => e = .returned (.bool (fitsB T c)) ∧ Below w.heap.size w w' := by
  obtain ⟨w0, hw0⟩ : ∃ w0, w0 = (w.alloc (.cells #[.string T.t, .string T.p, .string T.r, .slice ao T.cs.length cap] 26)).alloc (.cells c.a 47) := ⟨_, rfl⟩
  have hB : Below w.heap.size w w0 := by rw [hw0]; exact ((Below.refl _ _).alloc (Nat.le_refl _) _).alloc (by simp) _
  have hX : CBox w0 w.heap.size T ao cap c := by
    rw [hw0]
    refine ⟨(Blk.new w [.string T.t, .string T.p, .string T.r, .slice ao T.cs.length cap] _).alloc _, ?_⟩
    have := TenX.new (w.alloc (.cells #[.string T.t, .string T.p, .string T.r, .slice ao T.cs.length cap] 26)) c 47
    rwa [World.size_alloc] at this
  have G := goodX_any c w0 h1 h2 h3 h4
  have HX : Hid (∀ w', Below w0.heap.size w0 w' → CBox w' w.heap.size T ao cap c ∧ Below w.heap.size w w' ∧ CSee w' ao T.cs) := fun w' h => ⟨hX.below h, hB.trans (h.mono hB.size), hC.below (hB.trans (h.mono hB.size))⟩
  have K : Hid (∀ w', Below w0.heap.size w0 w' → Calls Tryd.prog 38 #[.agg #[.string T.t, .string T.p, .string T.r, .slice ao T.cs.length cap], .string c.k.c] w' fun e w'' => e = .returned (.tuple #[.int .i64 (kindR T.cs c.k.c).1, .bool (kindR T.cs c.k.c).2]) ∧ Below w'.heap.size w' w'') := fun w' h => kindOf_any T ao cap c.k.c w' (HX.out w' h).2.2 hl
  have Lv : Hid (∀ w' : World, Calls Tryd.prog 39 #[c.v.v] w' fun x w'' => x = .returned (.bool (!c.v.dead)) ∧ Below w'.heap.size w' w'') := fun w' => live_any c.v w'
  have HF : Hid (fitsB T c = (goodC c && (decide (nb c.k.t = nb T.t) && ((kindR T.cs c.k.c).2 && (c.v.dead || decide (c.v.kind = (kindR T.cs c.k.c).1)))))) := rfl
  obtain ⟨t0, t1, t2, t3, t4, t5, t6, t7, t8, t9⟩ := hX.cel
  have e0 := hX.tab.cell 0 rfl
  have e3 := hX.tab.cell 3 rfl
  rw [hw0] at t0 t1 t2 t3 t4 t5 t6 t7 t8 t9 e0 e3
  clear hC hl hB hX h1 h2 h3 h4
  generalize kindR T.cs c.k.c = q at *
  obtain ⟨qk, qb⟩ := q
  generalize fitsB T c = F at *
  generalize goodC c = g at *
  simp only [Tb.v, Tb.a]
  obtain ⟨⟨ct, cp, cr, cc⟩, ⟨vt, vd, vl, vk, vn, vs⟩⟩ := c
  simp only [Cx.val, Cx.a, Vr.v, Nat.zero_add] at *
  cases g
  · have hF : Hid (F = false) := by show _ = _; rw [HF.out]; rfl
    clear HF K Lv
    go_enter Tryd.func18, Tryd.ntmps18
    go_wp2_with fail
    rw [← hw0]
    clear t0 t1 t2 t3 t4 t5 t6 t7 t8 t9 e0 e3
    refine G.mono ?_
    rintro e w1 ⟨rfl, hb1⟩
    have hW := (HX.out w1 hb1).2.1
    go_wp2_with fail
    go_ret
    exact ⟨ret_bool hF.out.symm, hW⟩
  · go_enter Tryd.func18, Tryd.ntmps18
    go_wp2_with fail
    rw [← hw0]
    clear t0 t1 t2 t3 t4 t5 t6 t7 t8 t9 e0 e3 hw0
    refine G.mono ?_
    rintro e w1 ⟨rfl, hb1⟩
    obtain ⟨⟨y, ⟨t0, t1, t2, t3, t4, t5, t6, t7, t8, t9⟩⟩, hW, -⟩ := HX.out w1 hb1
    simp only [Nat.zero_add] at t0 t1 t2 t3 t4 t5 t6 t7 t8 t9
    have e0 := y.cell 0 rfl
    have e1 := y.cell 1 rfl
    have e2 := y.cell 2 rfl
    have e3 := y.cell 3 rfl
    clear G y
    by_cases hn : nb ct = nb T.t
    · have hn2 := eqB hn
      have hn3 : (ct.toList == T.t.toList) = true := beq_iff_eq.2 hn2
      have hn4 : (ct.toList != T.t.toList) = false := by unfold bne; rw [hn3]; rfl
      rw [decide_eq_true hn, Bool.true_and, Bool.true_and] at HF
      have K1 := K.out w1 hb1
      clear hn K
      go_wp2_with fail
      refine K1.mono ?_
      rintro e w2 ⟨rfl, hb2⟩
      have hb3 := hb1.trans (hb2.mono hb1.size)
      obtain ⟨⟨y, ⟨s0, s1, s2, s3, s4, s5, s6, s7, s8, s9⟩⟩, hW2, -⟩ := HX.out w2 hb3
      simp only [Nat.zero_add] at s0 s1 s2 s3 s4 s5 s6 s7 s8 s9
      clear K1 t0 t1 t2 t3 t4 t5 t6 t7 t8 t9 e0 e1 e2 e3 hn2 hn3 hn4 y
      cases qb
      · have hF : Hid (F = false) := HF.out
        clear HF HX
        go_wp2_with fail
        go_ret
        exact ⟨ret_bool hF.out.symm, hW2⟩
      · rw [Bool.true_and] at HF
        have L1 := Lv.out w2
        clear Lv
        cases vd
        · rw [Bool.false_or] at HF
          go_wp2_with fail
          refine L1.mono ?_
          rintro e w3 ⟨rfl, hb4⟩
          obtain ⟨⟨-, ⟨-, -, -, -, -, -, -, r7, -, -⟩⟩, hW3, -⟩ := HX.out w3 (hb3.trans (hb4.mono hb3.size))
          simp only [Nat.zero_add] at r7
          clear HX s0 s1 s2 s3 s4 s5 s6 s7 s8 s9 L1
          go_wp2_with fail
          go_ret
          refine ⟨ret_bool ?_, hW3⟩
          rw [HF.out]
          first | rfl | (by_cases e : vk = qk <;> simp [e])
        · rw [Bool.true_or] at HF
          have hF : Hid (F = true) := HF.out
          clear HF
          go_wp2_with fail
          refine L1.mono ?_
          rintro e w3 ⟨rfl, hb4⟩
          obtain ⟨-, hW3, -⟩ := HX.out w3 (hb3.trans (hb4.mono hb3.size))
          clear HX s0 s1 s2 s3 s4 s5 s6 s7 s8 s9 L1
          go_wp2_with fail
          go_ret
          exact ⟨ret_bool hF.out.symm, hW3⟩
    · have hn2 := neB hn
      have hn3 := neB2 hn
      have hn4 : (ct.toList != T.t.toList) = true := by unfold bne; rw [hn3]; rfl
      have hF : Hid (F = false) := by show _ = _; rw [HF.out, decide_eq_false hn]; rfl
      clear hn HF K Lv HX
      go_wp2_with fail
      go_ret
      exact ⟨ret_bool hF.out.symm, hW⟩
set_option maxRecDepth 100000 in
set_option maxHeartbeats 2000000 in
theorem refFits_any (T : Tb) (ao : Option Addr) (cap : Nat) (c : Cx) (w : World) (hC : CSee w ao T.cs) (hl : T.cs.length * 24 ≤ 140737488351232) (h1 : c.k.t.size ≤ maxLen) (h2 : c.k.p.size ≤ maxLen) (h3 : c.k.c.size ≤ maxLen) (h4 : c.v.s.size ≤ maxLen) :
    Calls Tryd.prog 19 #[T.v ao cap, c.val] w fun e w' => e = .returned (.bool (fitsB T c)) ∧ Below w.heap.size w w' := by
  obtain ⟨w0, hw0⟩ : ∃ w0, w0 = (w.alloc (.cells #[.string T.t, .string T.p, .string T.r, .slice ao T.cs.length cap] 26)).alloc (.cells c.a 47) := ⟨_, rfl⟩
  have hB : Below w.heap.size w w0 := by rw [hw0]; exact ((Below.refl _ _).alloc (Nat.le_refl _) _).alloc (by simp) _
  have hX : CBox w0 w.heap.size T ao cap c := by
    rw [hw0]
    refine ⟨(Blk.new w [.string T.t, .string T.p, .string T.r, .slice ao T.cs.length cap] _).alloc _, ?_⟩
    have := TenX.new (w.alloc (.cells #[.string T.t, .string T.p, .string T.r, .slice ao T.cs.length cap] 26)) c 47
    rwa [World.size_alloc] at this
  have G := refGoodX_any c w0 h1 h2 h3 h4
  have HX : Hid (∀ w', Below w0.heap.size w0 w' → CBox w' w.heap.size T ao cap c ∧ Below w.heap.size w w' ∧ CSee w' ao T.cs) := fun w' h => ⟨hX.below h, hB.trans (h.mono hB.size), hC.below (hB.trans (h.mono hB.size))⟩
  have K : Hid (∀ w', Below w0.heap.size w0 w' → Calls Tryd.prog 12 #[.agg #[.string T.t, .string T.p, .string T.r, .slice ao T.cs.length cap], .string c.k.c] w' fun e w'' => e = .returned (.tuple #[.agg #[.string (colR T.cs c.k.c).1.n, .int .i64 (colR T.cs c.k.c).1.k], .bool (colR T.cs c.k.c).2]) ∧ Below w'.heap.size w' w'') := fun w' h => refColumn_any T ao cap c.k.c w' (HX.out w' h).2.2 hl
  have HF : Hid (fitsB T c = (goodC c && (decide (nb c.k.t = nb T.t) && ((kindR T.cs c.k.c).2 && (c.v.dead || decide (c.v.kind = (kindR T.cs c.k.c).1)))))) := rfl
  have HMk : Hid (goodC c = true → nb c.k.t = nb T.t → c.k.c.size = 0 → fitsB T c = true) := fits_mark
  have HK : Hid (c.k.c.size ≠ 0 → kindR T.cs c.k.c = ((colR T.cs c.k.c).1.k, (colR T.cs c.k.c).2)) := fun h => by unfold kindR; rw [if_neg h]
  obtain ⟨t0, t1, t2, t3, t4, t5, t6, t7, t8, t9⟩ := hX.cel
  have hem := ba_isEmpty c.k.c
  have e0 := hX.tab.cell 0 rfl
  have e3 := hX.tab.cell 3 rfl
  rw [hw0] at t0 t1 t2 t3 t4 t5 t6 t7 t8 t9 e0 e3
  clear hC hl hB hX h1 h2 h3 h4
  generalize kindR T.cs c.k.c = q at *
  generalize colR T.cs c.k.c = z at *
  obtain ⟨⟨zn, zk⟩, zb⟩ := z
  generalize fitsB T c = F at *
  generalize goodC c = g at *
  simp only [Tb.v, Tb.a]
  obtain ⟨⟨ct, cp, cr, cc⟩, ⟨vt, vd, vl, vk, vn, vs⟩⟩ := c
  simp only [Cx.val, Cx.a, Nat.zero_add] at *
  cases g
  · have hF : Hid (F = false) := by show _ = _; rw [HF.out]; rfl
    clear HF K HMk HK hem
    go_enter Tryd.func19, Tryd.ntmps19
    go_wp2_with fail
    rw [← hw0]
    clear t0 t1 t2 t3 t4 t5 t6 t7 t8 t9 e0 e3
    refine G.mono ?_
    rintro e w1 ⟨rfl, hb1⟩
    have hW := (HX.out w1 hb1).2.1
    go_wp2_with fail
    go_ret
    exact ⟨ret_bool hF.out.symm, hW⟩
  · go_enter Tryd.func19, Tryd.ntmps19
    go_wp2_with fail
    rw [← hw0]
    clear t0 t1 t2 t3 t4 t5 t6 t7 t8 t9 e0 e3 hw0
    refine G.mono ?_
    rintro e w1 ⟨rfl, hb1⟩
    obtain ⟨⟨y, ⟨t0, t1, t2, t3, t4, t5, t6, t7, t8, t9⟩⟩, hW, -⟩ := HX.out w1 hb1
    simp only [Nat.zero_add] at t0 t1 t2 t3 t4 t5 t6 t7 t8 t9
    have e0 := y.cell 0 rfl
    have e1 := y.cell 1 rfl
    have e2 := y.cell 2 rfl
    have e3 := y.cell 3 rfl
    clear G y
    by_cases hn : nb ct = nb T.t
    · have hn2 := eqB hn
      have hn3 : (ct.toList == T.t.toList) = true := beq_iff_eq.2 hn2
      have hn4 : (ct.toList != T.t.toList) = false := by unfold bne; rw [hn3]; rfl
      rw [decide_eq_true hn, Bool.true_and, Bool.true_and] at HF
      have K1 := K.out w1 hb1
      have HM : Hid (cc.size = 0 → F = true) := HMk.out (by trivial) hn
      clear hn K HMk
      go_wp2_with fail
      refine K1.mono ?_
      rintro e w2 ⟨rfl, hb2⟩
      have hb3 := hb1.trans (hb2.mono hb1.size)
      have hb4 : Below w0.heap.size w0 (w2.alloc (.cells #[.string zn, .int .i64 zk] 29)) := hb3.alloc hb3.size _
      obtain ⟨⟨y, ⟨s0, s1, s2, s3, s4, s5, s6, s7, s8, s9⟩⟩, hW2, -⟩ := HX.out _ hb4
      simp only [Nat.zero_add] at s0 s1 s2 s3 s4 s5 s6 s7 s8 s9
      have bz := (Blk.new w2 [.string zn, .int .i64 zk] 29).cell 1 rfl
      clear K1 t0 t1 t2 t3 t4 t5 t6 t7 t8 t9 e0 e1 e2 e3 hn2 hn3 hn4 y HX
      by_cases h0 : cc.size = 0
      · rw [decide_eq_true h0] at hem
        have hF : Hid (F = true) := HM.out h0
        clear HF HM HK h0
        go_wp2_with fail
        go_ret
        exact ⟨ret_bool hF.out.symm, hW2⟩
      · rw [decide_eq_false h0] at hem
        have hq : q = (zk, zb) := HK.out h0
        subst hq
        clear HM HK h0
        cases zb
        · have hF : Hid (F = false) := HF.out
          clear HF
          go_wp2_with fail
          go_ret
          exact ⟨ret_bool hF.out.symm, hW2⟩
        · rw [Bool.true_and] at HF
          cases vd
          · rw [Bool.false_or] at HF
            go_wp2_with fail
            go_ret
            refine ⟨ret_bool ?_, hW2⟩
            rw [HF.out]
            first | rfl | (by_cases e : vk = zk <;> simp [e])
          · rw [Bool.true_or] at HF
            have hF : Hid (F = true) := HF.out
            clear HF
            go_wp2_with fail
            go_ret
            exact ⟨ret_bool hF.out.symm, hW2⟩
    · have hn2 := neB hn
      have hn3 := neB2 hn
      have hn4 : (ct.toList != T.t.toList) = true := by unfold bne; rw [hn3]; rfl
      have hF : Hid (F = false) := by show _ = _; rw [HF.out, decide_eq_false hn]; rfl
      clear hn HF K HX HMk HK hem
      go_wp2_with fail
      go_ret
      exact ⟨ret_bool hF.out.symm, hW⟩
end Go.Proofs.YtgjajffpkjcenaaDoor

/-
  THE LAW CellJoins: the walk.
-/
import Derived.Test.YtlbakepijncfgaaVerLives
import Derived.Deep.DeepCutAuto
namespace Go.Proofs.Ytlbakepijncfgaa.cellJoins
open Go.RowKit

theorem ne_first {t1 t2 l1 l2 k1 k2 n1 n2 : Int} {d1 d2 : Bool} {s1 s2 : ByteArray} (h : ¬ (⟨t1, d1, l1, k1, n1, s1⟩ : Vr) = ⟨t2, d2, l2, k2, n2, s2⟩) :
    ¬ t2 = t1 ∨ (t2 = t1 ∧ ¬ d2 = d1) ∨ (t2 = t1 ∧ d2 = d1 ∧ ¬ l2 = l1) ∨ (t2 = t1 ∧ d2 = d1 ∧ l2 = l1 ∧ ¬ k2 = k1) ∨ (t2 = t1 ∧ d2 = d1 ∧ l2 = l1 ∧ k2 = k1 ∧ ¬ n2 = n1) ∨ (t2 = t1 ∧ d2 = d1 ∧ l2 = l1 ∧ k2 = k1 ∧ n2 = n1 ∧ ¬ s2.toList = s1.toList) := by
  by_cases e1 : t2 = t1
  · by_cases e2 : d2 = d1
    · by_cases e3 : l2 = l1
      · by_cases e4 : k2 = k1
        · by_cases e5 : n2 = n1
          · refine Or.inr (Or.inr (Or.inr (Or.inr (Or.inr ⟨e1, e2, e3, e4, e5, fun e6 => h ?_⟩))))
            rw [ba_list, ba_list] at e6
            rw [e1, e2, e3, e4, e5, nb_inj.1 e6]
          · exact Or.inr (Or.inr (Or.inr (Or.inr (Or.inl ⟨e1, e2, e3, e4, e5⟩))))
        · exact Or.inr (Or.inr (Or.inr (Or.inl ⟨e1, e2, e3, e4⟩)))
      · exact Or.inr (Or.inr (Or.inl ⟨e1, e2, e3⟩))
    · exact Or.inr (Or.inl ⟨e1, e2⟩)
  · exact Or.inl e1
/-- What good versions give. -/
theorem facts (a b c : Vr) (ha : goodC ⟨⟨⟨#[116]⟩, ⟨#[120]⟩, 1, ⟨#[97]⟩⟩, a⟩ = true) (hb : goodC ⟨⟨⟨#[116]⟩, ⟨#[120]⟩, 1, ⟨#[97]⟩⟩, b⟩ = true) (_ : goodC ⟨⟨⟨#[116]⟩, ⟨#[120]⟩, 1, ⟨#[97]⟩⟩, c⟩ = true) : jn b a = jn a b ∧ jn a (jn b c) = jn (jn a b) c := by
  unfold goodC at ha hb
  rw [Bool.and_eq_true] at ha hb
  exact ⟨jn_comm hb.2 ha.2, (jn_assoc a b c).symm⟩
theorem index_0 (t1 l1 k1 n1 t2 l2 k2 n2 t3 l3 k3 n3 : Int) (d1 d2 d3 : Bool) (s1 s2 s3 : ByteArray) (w : World) : (Instr.index 40 (.agg #[.int .i64 t1, .bool d1, .int .i64 l1, .int .i64 k1, .int .i64 n1, .string s1, .int .i64 t2, .bool d2, .int .i64 l2, .int .i64 k2, .int .i64 n2, .string s2, .int .i64 t3, .bool d3, .int .i64 l3, .int .i64 k3, .int .i64 n3, .string s3]) (.int .i64 0)).run Try.prog w = .ok (.agg #[.int .i64 t1, .bool d1, .int .i64 l1, .int .i64 k1, .int .i64 n1, .string s1]) w := by kernel_rfl
theorem index_1 (t1 l1 k1 n1 t2 l2 k2 n2 t3 l3 k3 n3 : Int) (d1 d2 d3 : Bool) (s1 s2 s3 : ByteArray) (w : World) : (Instr.index 40 (.agg #[.int .i64 t1, .bool d1, .int .i64 l1, .int .i64 k1, .int .i64 n1, .string s1, .int .i64 t2, .bool d2, .int .i64 l2, .int .i64 k2, .int .i64 n2, .string s2, .int .i64 t3, .bool d3, .int .i64 l3, .int .i64 k3, .int .i64 n3, .string s3]) (.int .i64 1)).run Try.prog w = .ok (.agg #[.int .i64 t2, .bool d2, .int .i64 l2, .int .i64 k2, .int .i64 n2, .string s2]) w := by kernel_rfl
theorem index_2 (t1 l1 k1 n1 t2 l2 k2 n2 t3 l3 k3 n3 : Int) (d1 d2 d3 : Bool) (s1 s2 s3 : ByteArray) (w : World) : (Instr.index 40 (.agg #[.int .i64 t1, .bool d1, .int .i64 l1, .int .i64 k1, .int .i64 n1, .string s1, .int .i64 t2, .bool d2, .int .i64 l2, .int .i64 k2, .int .i64 n2, .string s2, .int .i64 t3, .bool d3, .int .i64 l3, .int .i64 k3, .int .i64 n3, .string s3]) (.int .i64 2)).run Try.prog w = .ok (.agg #[.int .i64 t3, .bool d3, .int .i64 l3, .int .i64 k3, .int .i64 n3, .string s3]) w := by kernel_rfl
attribute [local irreducible] wpQuiet
set_option maxRecDepth 100000 in
set_option maxHeartbeats 4000000 in
theorem walk (a b c : Vr) (w : World) (_ : InI a.time ∧ InI a.loc ∧ InI a.kind ∧ InI a.num) (ha : a.s.size ≤ 140737488355328) (_ : InI b.time ∧ InI b.loc ∧ InI b.kind ∧ InI b.num) (hb : b.s.size ≤ 140737488355328) (_ : InI c.time ∧ InI c.loc ∧ InI c.kind ∧ InI c.num) (hc : c.s.size ≤ 140737488355328) :
    Calls Try.prog 5 #[a.v, b.v, c.v] w fun e w' => e = .returned (.bool true) ∧ Below w.heap.size w w' := by
  obtain ⟨g1, hg1⟩ : ∃ g, goodC ⟨⟨⟨#[116]⟩, ⟨#[120]⟩, 1, ⟨#[97]⟩⟩, a⟩ = g := ⟨_, rfl⟩
  have G1 : Hid (∀ w : World, Calls Try.prog 11 #[Cx.val ⟨⟨⟨#[116]⟩, ⟨#[120]⟩, 1, ⟨#[97]⟩⟩, a⟩] w fun x w' => x = .returned (.bool g1) ∧ Below w.heap.size w w') := fun w => hg1 ▸ goodX_any _ w (by show (1 : Nat) ≤ _; decide) (by show (1 : Nat) ≤ _; decide) (by show (1 : Nat) ≤ _; decide) (by unfold maxLen; show a.s.size ≤ _; omega)
  obtain ⟨g2, hg2⟩ : ∃ g, goodC ⟨⟨⟨#[116]⟩, ⟨#[120]⟩, 1, ⟨#[97]⟩⟩, b⟩ = g := ⟨_, rfl⟩
  have G2 : Hid (∀ w : World, Calls Try.prog 11 #[Cx.val ⟨⟨⟨#[116]⟩, ⟨#[120]⟩, 1, ⟨#[97]⟩⟩, b⟩] w fun x w' => x = .returned (.bool g2) ∧ Below w.heap.size w w') := fun w => hg2 ▸ goodX_any _ w (by show (1 : Nat) ≤ _; decide) (by show (1 : Nat) ≤ _; decide) (by show (1 : Nat) ≤ _; decide) (by unfold maxLen; show b.s.size ≤ _; omega)
  obtain ⟨g3, hg3⟩ : ∃ g, goodC ⟨⟨⟨#[116]⟩, ⟨#[120]⟩, 1, ⟨#[97]⟩⟩, c⟩ = g := ⟨_, rfl⟩
  have G3 : Hid (∀ w : World, Calls Try.prog 11 #[Cx.val ⟨⟨⟨#[116]⟩, ⟨#[120]⟩, 1, ⟨#[97]⟩⟩, c⟩] w fun x w' => x = .returned (.bool g3) ∧ Below w.heap.size w w') := fun w => hg3 ▸ goodX_any _ w (by show (1 : Nat) ≤ _; decide) (by show (1 : Nat) ≤ _; decide) (by show (1 : Nat) ≤ _; decide) (by unfold maxLen; show c.s.size ≤ _; omega)
  have K1 : Hid (∀ w : World, Calls Try.prog 18 #[.string ⟨#[97]⟩] w fun x w' => x = .returned (Kb.v ⟨⟨#[116]⟩, ⟨#[120]⟩, 1, ⟨#[97]⟩⟩) ∧ Below w.heap.size w w') := fun w => lawKey_any _ w
  have LV : Hid (∀ w : World, Calls Try.prog 10 #[] w fun x w' => x = .returned (.bool true) ∧ Below w.heap.size w w') := lives_any
  obtain ⟨j, hj⟩ : ∃ j, jn a b = j := ⟨_, rfl⟩
  obtain ⟨n, hn⟩ : ∃ n, jn b c = n := ⟨_, rfl⟩
  obtain ⟨m, hm⟩ : ∃ m, jn j c = m := ⟨_, rfl⟩
  have J12 : Hid (∀ w : World, Calls Try.prog 15 #[a.v, b.v] w fun x w' => x = .returned j.v ∧ Below w.heap.size w w') := fun w => hj ▸ join_any a b w
  have J11 : Hid (∀ w : World, Calls Try.prog 15 #[a.v, a.v] w fun x w' => x = .returned a.v ∧ Below w.heap.size w w') := fun w => by have := join_any a a w; rwa [jn_self] at this
  have J23 : Hid (∀ w : World, Calls Try.prog 15 #[b.v, c.v] w fun x w' => x = .returned n.v ∧ Below w.heap.size w w') := fun w => hn ▸ join_any b c w
  have JJ : Hid (∀ w : World, Calls Try.prog 15 #[j.v, c.v] w fun x w' => x = .returned m.v ∧ Below w.heap.size w w') := fun w => hm ▸ join_any j c w
  have J21 : Hid (jn b a = j → ∀ w : World, Calls Try.prog 15 #[b.v, a.v] w fun x w' => x = .returned j.v ∧ Below w.heap.size w w') := fun h w => h ▸ join_any b a w
  have JN : Hid (jn a n = m → ∀ w : World, Calls Try.prog 15 #[a.v, n.v] w fun x w' => x = .returned m.v ∧ Below w.heap.size w w') := fun h w => h ▸ join_any a n w
  have hF : Hid (g1 = true → g2 = true → g3 = true → jn b a = j ∧ jn a n = m) := fun h1 h2 h3 => by
    have := facts a b c (hg1.trans h1) (hg2.trans h2) (hg3.trans h3)
    rw [hj, hn, hm] at this
    exact this
  have hor : Hid (a = j ∨ b = j) := by rw [← hj]; exact (jn_or a b).imp Eq.symm Eq.symm
  obtain ⟨R1, hR1⟩ : ∃ R, cv j a = R := ⟨_, rfl⟩
  obtain ⟨R2, hR2⟩ : ∃ R, cv j b = R := ⟨_, rfl⟩
  have CA : Hid (∀ w : World, Calls Try.prog 13 #[j.v, a.v] w fun x w' => x = .returned (.int .i64 R1) ∧ Below w.heap.size w w') := fun w => hR1 ▸ vcmp_any j a w
  have CB : Hid (∀ w : World, Calls Try.prog 13 #[j.v, b.v] w fun x w' => x = .returned (.int .i64 R2) ∧ Below w.heap.size w w') := fun w => hR2 ▸ vcmp_any j b w
  have h1 : 0 ≤ R1 := by rw [← hR1, ← hj]; exact (jn_ge a b).1
  have h2 : 0 ≤ R2 := by rw [← hR2, ← hj]; exact (jn_ge a b).2
  have dR1 : decide (0 ≤ R1) = true := decide_eq_true h1
  have dR2 : decide (0 ≤ R2) = true := decide_eq_true h2
  clear h1 h2 hR1 hR2 hj hn hm hg1 hg2 hg3
  obtain ⟨wa, hwa, va, vb, vc, _, hB⟩ := boxes3 w a b c
  have HE : Hid (∀ w' : World, Below wa.heap.size wa w' → Below w.heap.size w w') := fun w' h => hB.trans (h.mono hB.size)
  have VA : Hid (VAt wa w.heap.size 0 a) := va
  have VB : Hid (VAt wa (w.heap.size + 1) 0 b) := vb
  have VC : Hid (VAt wa (w.heap.size + 1 + 1) 0 c) := vc
  clear hB va vb vc
  obtain ⟨t1, d1, l1, k1, n1, s1⟩ := a
  obtain ⟨t2, d2, l2, k2, n2, s2⟩ := b
  obtain ⟨t3, d3, l3, k3, n3, s3⟩ := c
  obtain ⟨t4, d4, l4, k4, n4, s4⟩ := j
  obtain ⟨t5, d5, l5, k5, n5, s5⟩ := n
  obtain ⟨t6, d6, l6, k6, n6, s6⟩ := m
  have hS1 : (s1.size : Int) ≤ 140737488355328 := by simp only at ha; omega
  have hS2 : (s2.size : Int) ≤ 140737488355328 := by simp only at hb; omega
  have hS3 : (s3.size : Int) ≤ 140737488355328 := by simp only at hc; omega
  clear ha hb hc
  simp only [Vr.v, Vr.a, Cx.val, Cx.a, Kb.v] at J12 J11 J23 JJ J21 JN CA CB G1 G2 G3 K1 hwa ⊢
  go_enter Try.func5, Try.ntmps5
  go_wp2_with fail
  rw [← hwa]
  clear hwa
  refine (K1.out _).mono ?_
  rintro x w1 ⟨rfl, hb1⟩
  obtain ⟨wb, hwb⟩ : ∃ wb, wb = w1.alloc (.cells #[.string ⟨#[116]⟩, .string ⟨#[120]⟩, .int .i64 1, .string ⟨#[97]⟩] 23) := ⟨_, rfl⟩
  have hb2 : Below wa.heap.size wa wb := by rw [hwb]; exact hb1.alloc hb1.size _
  have hkb : wb.heap[w1.heap.size]? = some (.cells #[.string ⟨#[116]⟩, .string ⟨#[120]⟩, .int .i64 1, .string ⟨#[97]⟩] 23) := by rw [hwb]; exact heap_alloc_new w1 _
  have hlk : w1.heap.size < wb.heap.size := by
    rcases Nat.lt_or_ge w1.heap.size wb.heap.size with h | h
    · exact h
    · rw [Array.getElem?_eq_none h] at hkb; cases hkb
  have va2 := VA.out.below hb2 VA.out.lt
  have vb2 := VB.out.below hb2 VB.out.lt
  have vc2 := VC.out.below hb2 VC.out.lt
  have VA2 : Hid (VAt wb w.heap.size 0 ⟨t1, d1, l1, k1, n1, s1⟩) := va2
  have VB2 : Hid (VAt wb (w.heap.size + 1) 0 ⟨t2, d2, l2, k2, n2, s2⟩) := vb2
  have VC2 : Hid (VAt wb (w.heap.size + 1 + 1) 0 ⟨t3, d3, l3, k3, n3, s3⟩) := vc2
  have HE2 : Hid (∀ w' : World, Below wb.heap.size wb w' → Below w.heap.size w w') := fun w' h => HE.out _ (hb2.trans (h.mono hb2.size))
  have HK : Hid (∀ w' : World, Below wb.heap.size wb w' → w'.cell? ⟨w1.heap.size, 0, none⟩ = some (.string ⟨#[116]⟩) ∧ w'.cell? ⟨w1.heap.size, 1, none⟩ = some (.string ⟨#[120]⟩) ∧ w'.cell? ⟨w1.heap.size, 2, none⟩ = some (.int .i64 1) ∧ w'.cell? ⟨w1.heap.size, 3, none⟩ = some (.string ⟨#[97]⟩)) := fun w' h => by
    refine ⟨?_, ?_, ?_, ?_⟩ <;> (rw [h.cell hlk]; simp [World.cell?, hkb])
  clear hkb hlk
  obtain ⟨x1, x2, x3, x4, x5, x6⟩ := va2
  obtain ⟨y1, y2, y3, y4, y5, y6⟩ := vb2
  obtain ⟨z1, z2, z3, z4, z5, z6⟩ := vc2
  simp only [Nat.zero_add] at x1 x2 x3 x4 x5 x6 y1 y2 y3 y4 y5 y6 z1 z2 z3 z4 z5 z6
  rw [hwb] at x1 x2 x3 x4 x5 x6 y1 y2 y3 y4 y5 y6 z1 z2 z3 z4 z5 z6
  go_wp2_with fail
  rw [← hwb]
  clear hwb hb1 hb2 VA VB VC HE K1 x1 x2 x3 x4 x5 x6 y1 y2 y3 y4 y5 y6 z1 z2 z3 z4 z5 z6
  generalize w1.heap.size = gk at *
  go_loopw [16] (fun s16 wr => ∃ k : Nat, k ≤ 3 ∧ s16 = .int .i64 k ∧ Below wb.heap.size wb wr ∧ (1 ≤ k → g1 = true) ∧ (2 ≤ k → g2 = true) ∧ (3 ≤ k → g3 = true)) (fun s16 _ => 3 - (intOf s16).toNat)
  case atStart => exact ⟨0, by omega, rfl, Below.refl _ _, by omega, by omega, by omega⟩
  case round =>
    obtain ⟨k, hk, rfl, hbr, q1, q2, q3⟩ := hrel
    match k, hk with
    | 0, _ =>
      have hix := index_0 t1 l1 k1 n1 t2 l2 k2 n2 t3 l3 k3 n3 d1 d2 d3 s1 s2 s3 wr
      obtain ⟨wv, hwv⟩ : ∃ wv, wv = wr.alloc (.cells #[.int .i64 t1, .bool d1, .int .i64 l1, .int .i64 k1, .int .i64 n1, .string s1] 27) := ⟨_, rfl⟩
      have hbv : Below wb.heap.size wb wv := by rw [hwv]; exact hbr.alloc hbr.size _
      obtain ⟨e1, e2, e3, e4⟩ := HK.out _ hbv
      rw [hwv] at e1 e2 e3 e4
      have HV : Hid (Below wb.heap.size wb (wr.alloc (.cells #[.int .i64 t1, .bool d1, .int .i64 l1, .int .i64 k1, .int .i64 n1, .string s1] 27))) := hwv ▸ hbv
      clear hbv hwv wv
      by_cases hs : 5000 < (s1.size : Int)
      · have d : decide (5000 < (s1.size : Int)) = true := decide_eq_true hs
        clear hbr
        go_wp2_with fail
        refine (LV.out _).mono ?_
        rintro x w9 ⟨rfl, hb9⟩
        go_wp2_with fail
        go_ret
        exact ⟨rfl, HE2.out _ (HV.out.trans (hb9.mono HV.out.size))⟩
      · have d : decide (5000 < (s1.size : Int)) = false := decide_eq_false hs
        clear hbr hs
        go_wp2_with fail
        refine (G1.out _).mono ?_
        rintro x w2 ⟨rfl, hb2⟩
        have hb3 : Below wb.heap.size wb w2 := HV.out.trans (hb2.mono HV.out.size)
        clear hb2 HV
        cases g1
        · go_wp2_with fail
          refine (LV.out _).mono ?_
          rintro x w9 ⟨rfl, hb9⟩
          go_wp2_with fail
          go_ret
          exact ⟨rfl, HE2.out _ (hb3.trans (hb9.mono hb3.size))⟩
        · go_wp2_with fail
          exact ⟨⟨1, by omega, by go_num, hb3, fun _ => trivial, by omega, by omega⟩, by simp [intOf]⟩
    | 1, _ =>
      have hix := index_1 t1 l1 k1 n1 t2 l2 k2 n2 t3 l3 k3 n3 d1 d2 d3 s1 s2 s3 wr
      obtain ⟨wv, hwv⟩ : ∃ wv, wv = wr.alloc (.cells #[.int .i64 t2, .bool d2, .int .i64 l2, .int .i64 k2, .int .i64 n2, .string s2] 27) := ⟨_, rfl⟩
      have hbv : Below wb.heap.size wb wv := by rw [hwv]; exact hbr.alloc hbr.size _
      obtain ⟨e1, e2, e3, e4⟩ := HK.out _ hbv
      rw [hwv] at e1 e2 e3 e4
      have HV : Hid (Below wb.heap.size wb (wr.alloc (.cells #[.int .i64 t2, .bool d2, .int .i64 l2, .int .i64 k2, .int .i64 n2, .string s2] 27))) := hwv ▸ hbv
      clear hbv hwv wv
      by_cases hs : 5000 < (s2.size : Int)
      · have d : decide (5000 < (s2.size : Int)) = true := decide_eq_true hs
        clear hbr
        go_wp2_with fail
        refine (LV.out _).mono ?_
        rintro x w9 ⟨rfl, hb9⟩
        go_wp2_with fail
        go_ret
        exact ⟨rfl, HE2.out _ (HV.out.trans (hb9.mono HV.out.size))⟩
      · have d : decide (5000 < (s2.size : Int)) = false := decide_eq_false hs
        clear hbr hs
        go_wp2_with fail
        refine (G2.out _).mono ?_
        rintro x w2 ⟨rfl, hb2⟩
        have hb3 : Below wb.heap.size wb w2 := HV.out.trans (hb2.mono HV.out.size)
        clear hb2 HV
        cases g2
        · go_wp2_with fail
          refine (LV.out _).mono ?_
          rintro x w9 ⟨rfl, hb9⟩
          go_wp2_with fail
          go_ret
          exact ⟨rfl, HE2.out _ (hb3.trans (hb9.mono hb3.size))⟩
        · go_wp2_with fail
          exact ⟨⟨2, by omega, by go_num, hb3, fun _ => q1 (by omega), fun _ => trivial, by omega⟩, by simp [intOf]⟩
    | 2, _ =>
      have hix := index_2 t1 l1 k1 n1 t2 l2 k2 n2 t3 l3 k3 n3 d1 d2 d3 s1 s2 s3 wr
      obtain ⟨wv, hwv⟩ : ∃ wv, wv = wr.alloc (.cells #[.int .i64 t3, .bool d3, .int .i64 l3, .int .i64 k3, .int .i64 n3, .string s3] 27) := ⟨_, rfl⟩
      have hbv : Below wb.heap.size wb wv := by rw [hwv]; exact hbr.alloc hbr.size _
      obtain ⟨e1, e2, e3, e4⟩ := HK.out _ hbv
      rw [hwv] at e1 e2 e3 e4
      have HV : Hid (Below wb.heap.size wb (wr.alloc (.cells #[.int .i64 t3, .bool d3, .int .i64 l3, .int .i64 k3, .int .i64 n3, .string s3] 27))) := hwv ▸ hbv
      clear hbv hwv wv
      by_cases hs : 5000 < (s3.size : Int)
      · have d : decide (5000 < (s3.size : Int)) = true := decide_eq_true hs
        clear hbr
        go_wp2_with fail
        refine (LV.out _).mono ?_
        rintro x w9 ⟨rfl, hb9⟩
        go_wp2_with fail
        go_ret
        exact ⟨rfl, HE2.out _ (HV.out.trans (hb9.mono HV.out.size))⟩
      · have d : decide (5000 < (s3.size : Int)) = false := decide_eq_false hs
        clear hbr hs
        go_wp2_with fail
        refine (G3.out _).mono ?_
        rintro x w2 ⟨rfl, hb2⟩
        have hb3 : Below wb.heap.size wb w2 := HV.out.trans (hb2.mono HV.out.size)
        clear hb2 HV
        cases g3
        · go_wp2_with fail
          refine (LV.out _).mono ?_
          rintro x w9 ⟨rfl, hb9⟩
          go_wp2_with fail
          go_ret
          exact ⟨rfl, HE2.out _ (hb3.trans (hb9.mono hb3.size))⟩
        · go_wp2_with fail
          exact ⟨⟨3, by omega, by go_num, hb3, fun _ => q1 (by omega), fun _ => q2 (by omega), fun _ => trivial⟩, by simp [intOf]⟩
    | 3, _ =>
      have hg1 := q1 (by omega)
      have hg2 := q2 (by omega)
      have hg3 := q3 (by omega)
      clear q1 q2 q3
      obtain ⟨f1, f2⟩ := hF.out hg1 hg2 hg3
      have J21o := J21.out f1
      have JNo := JN.out f2
      have J21' : Hid (∀ w : World, Calls Try.prog 15 #[.agg #[.int .i64 t2, .bool d2, .int .i64 l2, .int .i64 k2, .int .i64 n2, .string s2], .agg #[.int .i64 t1, .bool d1, .int .i64 l1, .int .i64 k1, .int .i64 n1, .string s1]] w fun x w' => x = .returned (.agg #[.int .i64 t4, .bool d4, .int .i64 l4, .int .i64 k4, .int .i64 n4, .string s4]) ∧ Below w.heap.size w w') := J21o
      have JN' : Hid (∀ w : World, Calls Try.prog 15 #[.agg #[.int .i64 t1, .bool d1, .int .i64 l1, .int .i64 k1, .int .i64 n1, .string s1], .agg #[.int .i64 t5, .bool d5, .int .i64 l5, .int .i64 k5, .int .i64 n5, .string s5]] w fun x w' => x = .returned (.agg #[.int .i64 t6, .bool d6, .int .i64 l6, .int .i64 k6, .int .i64 n6, .string s6]) ∧ Below w.heap.size w w') := JNo
      clear J21 JN J21o JNo f1 f2 hF hg1 hg2 hg3 G1 G2 G3 HK hS1 hS2 hS3
      have va := VA2.out.below hbr VA2.out.lt
      have vb := VB2.out.below hbr VB2.out.lt
      have vc := VC2.out.below hbr VC2.out.lt
      have HE3 : Hid (∀ w' : World, Below wr.heap.size wr w' → Below w.heap.size w w') := fun w' h => HE2.out _ (hbr.trans (h.mono hbr.size))
      have VA3 : Hid (VAt wr w.heap.size 0 ⟨t1, d1, l1, k1, n1, s1⟩) := va
      have VB3 : Hid (VAt wr (w.heap.size + 1) 0 ⟨t2, d2, l2, k2, n2, s2⟩) := vb
      clear hbr VA2 VB2 VC2 HE2
      go_wp2_with fail
      go_cut [59] from 33 to 60 (fun s59 wx => s59 = .bool false ∧ Below wr.heap.size wr wx)
      case first =>
        have p1 : ∀ q : Cl wr.heap.size wr, q.u.cell? ⟨w.heap.size, 0, none⟩ = some (.int .i64 t1) := fun q => (va.cl q).time
        have p2 : ∀ q : Cl wr.heap.size wr, q.u.cell? ⟨w.heap.size, 1, none⟩ = some (.bool d1) := fun q => (va.cl q).dead
        have p3 : ∀ q : Cl wr.heap.size wr, q.u.cell? ⟨w.heap.size, 2, none⟩ = some (.int .i64 l1) := fun q => (va.cl q).loc
        have p4 : ∀ q : Cl wr.heap.size wr, q.u.cell? ⟨w.heap.size, 3, none⟩ = some (.int .i64 k1) := fun q => (va.cl q).kind
        have p5 : ∀ q : Cl wr.heap.size wr, q.u.cell? ⟨w.heap.size, 4, none⟩ = some (.int .i64 n1) := fun q => (va.cl q).num
        have p6 : ∀ q : Cl wr.heap.size wr, q.u.cell? ⟨w.heap.size, 5, none⟩ = some (.string s1) := fun q => (va.cl q).s
        have r1 : ∀ q : Cl wr.heap.size wr, q.u.cell? ⟨w.heap.size + 1, 0, none⟩ = some (.int .i64 t2) := fun q => (vb.cl q).time
        have r2 : ∀ q : Cl wr.heap.size wr, q.u.cell? ⟨w.heap.size + 1, 1, none⟩ = some (.bool d2) := fun q => (vb.cl q).dead
        have r3 : ∀ q : Cl wr.heap.size wr, q.u.cell? ⟨w.heap.size + 1, 2, none⟩ = some (.int .i64 l2) := fun q => (vb.cl q).loc
        have r4 : ∀ q : Cl wr.heap.size wr, q.u.cell? ⟨w.heap.size + 1, 3, none⟩ = some (.int .i64 k2) := fun q => (vb.cl q).kind
        have r5 : ∀ q : Cl wr.heap.size wr, q.u.cell? ⟨w.heap.size + 1, 4, none⟩ = some (.int .i64 n2) := fun q => (vb.cl q).num
        have r6 : ∀ q : Cl wr.heap.size wr, q.u.cell? ⟨w.heap.size + 1, 5, none⟩ = some (.string s2) := fun q => (vb.cl q).s
        have z1 : ∀ q : Cl wr.heap.size wr, q.u.cell? ⟨w.heap.size + 1 + 1, 0, none⟩ = some (.int .i64 t3) := fun q => (vc.cl q).time
        have z2 : ∀ q : Cl wr.heap.size wr, q.u.cell? ⟨w.heap.size + 1 + 1, 1, none⟩ = some (.bool d3) := fun q => (vc.cl q).dead
        have z3 : ∀ q : Cl wr.heap.size wr, q.u.cell? ⟨w.heap.size + 1 + 1, 2, none⟩ = some (.int .i64 l3) := fun q => (vc.cl q).loc
        have z4 : ∀ q : Cl wr.heap.size wr, q.u.cell? ⟨w.heap.size + 1 + 1, 3, none⟩ = some (.int .i64 k3) := fun q => (vc.cl q).kind
        have z5 : ∀ q : Cl wr.heap.size wr, q.u.cell? ⟨w.heap.size + 1 + 1, 4, none⟩ = some (.int .i64 n3) := fun q => (vc.cl q).num
        have z6 : ∀ q : Cl wr.heap.size wr, q.u.cell? ⟨w.heap.size + 1 + 1, 5, none⟩ = some (.string s3) := fun q => (vc.cl q).s
        clear va vb vc VA3 VB3 HE3 LV CA CB hor dR1 dR2
        haveI := Cl.inh wr.heap.size wr
        refine wp_region_cl wr.heap.size (by kernel_rfl) (by kernel_rfl) ?_
        quiet_step (fail)
        quiet_step (fail)
        quiet_step ((go_at_call 15; exact Cl.calls (Nat.le_refl _) (J12.out _)))
        quiet_step (fail)
        quiet_step (fail)
        quiet_step ((go_at_call 15; exact Cl.calls (Nat.le_refl _) (J21'.out _)))
        quiet_step (fail)
        quiet_step (fail)
        quiet_step (fail)
        quiet_step (fail)
        quiet_step ((go_at_call 15; exact Cl.calls (Nat.le_refl _) (J11.out _)))
        quiet_step (fail)
        quiet_step (fail)
        quiet_step (fail)
        quiet_step (fail)
        quiet_step (fail)
        quiet_step (fail)
        quiet_step ((go_at_call 15; exact Cl.calls (Nat.le_refl _) (J12.out _)))
        quiet_step (fail)
        quiet_step ((go_at_call 15; exact Cl.calls (Nat.le_refl _) (JJ.out _)))
        quiet_step (fail)
        quiet_step (fail)
        quiet_step (fail)
        quiet_step ((go_at_call 15; exact Cl.calls (Nat.le_refl _) (J23.out _)))
        quiet_step ((go_at_call 15; exact Cl.calls (Nat.le_refl _) (JN'.out _)))
        quiet_step (fail)
        quiet_step (fail)
        refine wpQuiet_nil ?_
        rintro w4 ⟨q, rfl⟩
        go_wp2_with fail
        go_meet
        case rel => exact ⟨rfl, q.h⟩
      case rest =>
        obtain ⟨rfl, hbq⟩ := hcut
        have va4 := VA3.out.below hbq VA3.out.lt
        have vb4 := VB3.out.below hbq VB3.out.lt
        clear va vb vc JJ J11 J23 VA3 VB3
        have J21' := J21'
        clear J21' JN'
        have HE4 : Hid (∀ w' : World, Below wc.heap.size wc w' → Below w.heap.size w w') := fun w' h => HE3.out _ (hbq.trans (h.mono hbq.size))
        have VA4 : Hid (VAt wc w.heap.size 0 ⟨t1, d1, l1, k1, n1, s1⟩) := va4
        have VB4 : Hid (VAt wc (w.heap.size + 1) 0 ⟨t2, d2, l2, k2, n2, s2⟩) := vb4
        obtain ⟨x1, x2, x3, x4, x5, x6⟩ := va4
        obtain ⟨y1, y2, y3, y4, y5, y6⟩ := vb4
        simp only [Nat.zero_add] at x1 x2 x3 x4 x5 x6 y1 y2 y3 y4 y5 y6
        clear hbq HE3
        go_wp2_with fail
        refine (J12.out _).mono ?_
        rintro x w5 ⟨rfl, hb5⟩
        clear x1 x2 x3 x4 x5 x6 y1 y2 y3 y4 y5 y6
        obtain ⟨w6, hw6⟩ : ∃ w6, w6 = w5.alloc (.cells #[.int .i64 t4, .bool d4, .int .i64 l4, .int .i64 k4, .int .i64 n4, .string s4] 27) := ⟨_, rfl⟩
        have hb6 : Below wc.heap.size wc w6 := by rw [hw6]; exact hb5.alloc hb5.size _
        have vj6 : VAt w6 w5.heap.size 0 ⟨t4, d4, l4, k4, n4, s4⟩ := by rw [hw6]; exact VAt.new w5 ⟨t4, d4, l4, k4, n4, s4⟩ _
        have HV : Hid (∀ w' : World, Below w6.heap.size w6 w' → VAt w' w.heap.size 0 ⟨t1, d1, l1, k1, n1, s1⟩ ∧ VAt w' (w.heap.size + 1) 0 ⟨t2, d2, l2, k2, n2, s2⟩ ∧ VAt w' w5.heap.size 0 ⟨t4, d4, l4, k4, n4, s4⟩ ∧ Below w.heap.size w w') := fun w' h =>
          have h6 := hb6.trans (h.mono hb6.size)
          ⟨VA4.out.below h6 VA4.out.lt, VB4.out.below h6 VB4.out.lt, vj6.below h vj6.lt, HE4.out _ h6⟩
        clear hb6 vj6 VA4 VB4 HE4 hb5
        have HW : Hid (w6 = w5.alloc (.cells #[.int .i64 t4, .bool d4, .int .i64 l4, .int .i64 k4, .int .i64 n4, .string s4] 27)) := hw6
        by_cases hab : (⟨t1, d1, l1, k1, n1, s1⟩ : Vr) = ⟨t4, d4, l4, k4, n4, s4⟩
        · have e := hab
          clear hab hor
          simp only [Vr.mk.injEq] at e
          obtain ⟨rfl, rfl, rfl, rfl, rfl, rfl⟩ := e
          obtain ⟨va, vb, vj, _⟩ := HV.out _ (Below.refl _ _)
          obtain ⟨x1, x2, x3, x4, x5, x6⟩ := va
          obtain ⟨y1, y2, y3, y4, y5, y6⟩ := vb
          obtain ⟨z1, z2, z3, z4, z5, z6⟩ := vj
          simp only [Nat.zero_add] at x1 x2 x3 x4 x5 x6 y1 y2 y3 y4 y5 y6 z1 z2 z3 z4 z5 z6
          rw [hw6] at x1 x2 x3 x4 x5 x6 y1 y2 y3 y4 y5 y6 z1 z2 z3 z4 z5 z6
          clear hw6
          go_wp2_with fail
          rw [← HW.out]
          refine (CA.out _).mono ?_
          rintro x w7 ⟨rfl, hb7⟩
          obtain ⟨va, vb, vj, _⟩ := HV.out _ hb7
          obtain ⟨y1, y2, y3, y4, y5, y6⟩ := vb
          obtain ⟨z1, z2, z3, z4, z5, z6⟩ := vj
          simp only [Nat.zero_add] at y1 y2 y3 y4 y5 y6 z1 z2 z3 z4 z5 z6
          clear va
          go_wp2_with fail
          refine (CB.out _).mono ?_
          rintro x w8 ⟨rfl, hb8⟩
          have hb8e := (HV.out _ (hb7.trans (hb8.mono hb7.size))).2.2.2
          clear hb7 hb8 y1 y2 y3 y4 y5 y6 z1 z2 z3 z4 z5 z6
          go_wp2_with fail
          refine (LV.out _).mono ?_
          rintro x w9 ⟨rfl, hb9⟩
          go_wp2_with fail
          go_ret
          exact ⟨rfl, hb8e.trans (hb9.mono hb8e.size)⟩
        have e : (⟨t2, d2, l2, k2, n2, s2⟩ : Vr) = ⟨t4, d4, l4, k4, n4, s4⟩ := hor.out.resolve_left hab
        clear hor
        simp only [Vr.mk.injEq] at e
        obtain ⟨rfl, rfl, rfl, rfl, rfl, rfl⟩ := e
        have hdif := ne_first hab
        clear hab
        obtain ⟨va, vb, vj, _⟩ := HV.out _ (Below.refl _ _)
        obtain ⟨x1, x2, x3, x4, x5, x6⟩ := va
        obtain ⟨y1, y2, y3, y4, y5, y6⟩ := vb
        obtain ⟨z1, z2, z3, z4, z5, z6⟩ := vj
        simp only [Nat.zero_add] at x1 x2 x3 x4 x5 x6 y1 y2 y3 y4 y5 y6 z1 z2 z3 z4 z5 z6
        rw [hw6] at x1 x2 x3 x4 x5 x6 y1 y2 y3 y4 y5 y6 z1 z2 z3 z4 z5 z6
        clear hw6
        rcases hdif with h | ⟨rfl, h⟩ | ⟨rfl, rfl, h⟩ | ⟨rfl, rfl, rfl, h⟩ | ⟨rfl, rfl, rfl, rfl, h⟩ | ⟨rfl, rfl, rfl, rfl, rfl, h⟩
        · go_wp2_with fail
          rw [← HW.out]
          refine (CA.out _).mono ?_
          rintro x w7 ⟨rfl, hb7⟩
          obtain ⟨va, vb, vj, _⟩ := HV.out _ hb7
          obtain ⟨y1, y2, y3, y4, y5, y6⟩ := vb
          obtain ⟨z1, z2, z3, z4, z5, z6⟩ := vj
          simp only [Nat.zero_add] at y1 y2 y3 y4 y5 y6 z1 z2 z3 z4 z5 z6
          clear va
          go_wp2_with fail
          refine (CB.out _).mono ?_
          rintro x w8 ⟨rfl, hb8⟩
          have hb8e := (HV.out _ (hb7.trans (hb8.mono hb7.size))).2.2.2
          clear hb7 hb8 y1 y2 y3 y4 y5 y6 z1 z2 z3 z4 z5 z6
          go_wp2_with fail
          refine (LV.out _).mono ?_
          rintro x w9 ⟨rfl, hb9⟩
          go_wp2_with fail
          go_ret
          exact ⟨rfl, hb8e.trans (hb9.mono hb8e.size)⟩
        · go_wp2_with fail
          rw [← HW.out]
          refine (CA.out _).mono ?_
          rintro x w7 ⟨rfl, hb7⟩
          obtain ⟨va, vb, vj, _⟩ := HV.out _ hb7
          obtain ⟨y1, y2, y3, y4, y5, y6⟩ := vb
          obtain ⟨z1, z2, z3, z4, z5, z6⟩ := vj
          simp only [Nat.zero_add] at y1 y2 y3 y4 y5 y6 z1 z2 z3 z4 z5 z6
          clear va
          go_wp2_with fail
          refine (CB.out _).mono ?_
          rintro x w8 ⟨rfl, hb8⟩
          have hb8e := (HV.out _ (hb7.trans (hb8.mono hb7.size))).2.2.2
          clear hb7 hb8 y1 y2 y3 y4 y5 y6 z1 z2 z3 z4 z5 z6
          go_wp2_with fail
          refine (LV.out _).mono ?_
          rintro x w9 ⟨rfl, hb9⟩
          go_wp2_with fail
          go_ret
          exact ⟨rfl, hb8e.trans (hb9.mono hb8e.size)⟩
        · go_wp2_with fail
          rw [← HW.out]
          refine (CA.out _).mono ?_
          rintro x w7 ⟨rfl, hb7⟩
          obtain ⟨va, vb, vj, _⟩ := HV.out _ hb7
          obtain ⟨y1, y2, y3, y4, y5, y6⟩ := vb
          obtain ⟨z1, z2, z3, z4, z5, z6⟩ := vj
          simp only [Nat.zero_add] at y1 y2 y3 y4 y5 y6 z1 z2 z3 z4 z5 z6
          clear va
          go_wp2_with fail
          refine (CB.out _).mono ?_
          rintro x w8 ⟨rfl, hb8⟩
          have hb8e := (HV.out _ (hb7.trans (hb8.mono hb7.size))).2.2.2
          clear hb7 hb8 y1 y2 y3 y4 y5 y6 z1 z2 z3 z4 z5 z6
          go_wp2_with fail
          refine (LV.out _).mono ?_
          rintro x w9 ⟨rfl, hb9⟩
          go_wp2_with fail
          go_ret
          exact ⟨rfl, hb8e.trans (hb9.mono hb8e.size)⟩
        · go_wp2_with fail
          rw [← HW.out]
          refine (CA.out _).mono ?_
          rintro x w7 ⟨rfl, hb7⟩
          obtain ⟨va, vb, vj, _⟩ := HV.out _ hb7
          obtain ⟨y1, y2, y3, y4, y5, y6⟩ := vb
          obtain ⟨z1, z2, z3, z4, z5, z6⟩ := vj
          simp only [Nat.zero_add] at y1 y2 y3 y4 y5 y6 z1 z2 z3 z4 z5 z6
          clear va
          go_wp2_with fail
          refine (CB.out _).mono ?_
          rintro x w8 ⟨rfl, hb8⟩
          have hb8e := (HV.out _ (hb7.trans (hb8.mono hb7.size))).2.2.2
          clear hb7 hb8 y1 y2 y3 y4 y5 y6 z1 z2 z3 z4 z5 z6
          go_wp2_with fail
          refine (LV.out _).mono ?_
          rintro x w9 ⟨rfl, hb9⟩
          go_wp2_with fail
          go_ret
          exact ⟨rfl, hb8e.trans (hb9.mono hb8e.size)⟩
        · go_wp2_with fail
          rw [← HW.out]
          refine (CA.out _).mono ?_
          rintro x w7 ⟨rfl, hb7⟩
          obtain ⟨va, vb, vj, _⟩ := HV.out _ hb7
          obtain ⟨y1, y2, y3, y4, y5, y6⟩ := vb
          obtain ⟨z1, z2, z3, z4, z5, z6⟩ := vj
          simp only [Nat.zero_add] at y1 y2 y3 y4 y5 y6 z1 z2 z3 z4 z5 z6
          clear va
          go_wp2_with fail
          refine (CB.out _).mono ?_
          rintro x w8 ⟨rfl, hb8⟩
          have hb8e := (HV.out _ (hb7.trans (hb8.mono hb7.size))).2.2.2
          clear hb7 hb8 y1 y2 y3 y4 y5 y6 z1 z2 z3 z4 z5 z6
          go_wp2_with fail
          refine (LV.out _).mono ?_
          rintro x w9 ⟨rfl, hb9⟩
          go_wp2_with fail
          go_ret
          exact ⟨rfl, hb8e.trans (hb9.mono hb8e.size)⟩
        · go_wp2_with fail
          rw [← HW.out]
          refine (CA.out _).mono ?_
          rintro x w7 ⟨rfl, hb7⟩
          obtain ⟨va, vb, vj, _⟩ := HV.out _ hb7
          obtain ⟨y1, y2, y3, y4, y5, y6⟩ := vb
          obtain ⟨z1, z2, z3, z4, z5, z6⟩ := vj
          simp only [Nat.zero_add] at y1 y2 y3 y4 y5 y6 z1 z2 z3 z4 z5 z6
          clear va
          go_wp2_with fail
          refine (CB.out _).mono ?_
          rintro x w8 ⟨rfl, hb8⟩
          have hb8e := (HV.out _ (hb7.trans (hb8.mono hb7.size))).2.2.2
          clear hb7 hb8 y1 y2 y3 y4 y5 y6 z1 z2 z3 z4 z5 z6
          go_wp2_with fail
          refine (LV.out _).mono ?_
          rintro x w9 ⟨rfl, hb9⟩
          go_wp2_with fail
          go_ret
          exact ⟨rfl, hb8e.trans (hb9.mono hb8e.size)⟩
end Go.Proofs.Ytlbakepijncfgaa.cellJoins

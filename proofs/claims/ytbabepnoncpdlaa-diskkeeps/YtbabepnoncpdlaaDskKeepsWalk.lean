/-
  The law DiskKeeps.
-/
import Derived.Test.YtbabepnoncpdlaaDskKeepsQ
namespace Go.Proofs.Ytbabepnoncpdlaa
open Go.RowKit Go.Maps

theorem row0 (w : World) : (w.alloc (.cells #[] 5)).ownsRow w.heap.size 5 1 (.slice (some ⟨w.heap.size, 0, none⟩) 0 0) 0 [] :=
  ⟨rfl, .inr ⟨w.heap.size, 0, #[], rfl, Nat.le_refl _, heap_alloc_new w _, Nat.le_refl _, by unfold maxLen; omega, rfl, rfl⟩⟩
set_option maxRecDepth 100000 in
set_option maxHeartbeats 8000000 in
theorem diskKeeps.walk (ao1 : Option Addr) (l1 : List UInt8) (c1 : Nat) (ao2 : Option Addr) (l2 : List UInt8) (c2 : Nat) (ao3 : Option Addr) (l3 : List UInt8) (c3 : Nat) (keep : Int) (w : World)
    (s1 : Sees w ao1 l1) (z1 : ao1 = none → l1.length = 0) (m1 : l1.length ≤ 140737488351232) (s2 : Sees w ao2 l2) (z2 : ao2 = none → l2.length = 0) (m2 : l2.length ≤ 140737488351232) (s3 : Sees w ao3 l3) (z3 : ao3 = none → l3.length = 0) (m3 : l3.length ≤ 140737488351232) (hk : -9223372036854775808 ≤ keep ∧ keep ≤ 9223372036854775807) :
    Calls Try.prog 4 #[.slice ao1 l1.length c1, .slice ao2 l2.length c2, .agg #[.slice ao3 l3.length c3, .int .i64 keep]] w fun e w' => e = .returned (.bool true) ∧ Below w.heap.size w w' := by
  obtain ⟨w0, hw0⟩ : ∃ w0, w.alloc (.cells #[.slice ao3 l3.length c3, .int .i64 keep] 28) = w0 := ⟨_, rfl⟩
  have B1 : Blk w0 w.heap.size [.slice ao3 l3.length c3, .int .i64 keep] 28 := by rw [← hw0]; exact Blk.new w _ _
  have hb0 : Below w.heap.size w w0 := by rw [← hw0]; exact (Below.refl _ w).alloc (Nat.le_refl _) _
  have hz0 : w.heap.size < w0.heap.size := by rw [← hw0]; simp
  have t1 : Sees w0 ao1 l1 := s1.below hb0 (Nat.le_refl _)
  have t2 : Sees w0 ao2 l2 := s2.below hb0 (Nat.le_refl _)
  have t3 : Sees w0 ao3 l3 := s3.below hb0 (Nat.le_refl _)
  have L : Hid (∀ w, Calls Try.prog 8 #[] w fun x w' => x = .returned (.bool true) ∧ Below w.heap.size w w') := lives_any
  have e00 := B1.cell 0 rfl
  have e01 := B1.cell 1 rfl
  have BX : Hid (∀ d A w', Kp w0 d A w' → w'.cell? ⟨w.heap.size, 0, none⟩ = some (.slice ao3 l3.length c3) ∧ w'.cell? ⟨w.heap.size, 1, none⟩ = some (.int .i64 keep)) := fun d A w' h => ⟨(h.below.cell (p := ⟨w.heap.size, 0, none⟩) hz0).trans e00, (h.below.cell (p := ⟨w.heap.size, 1, none⟩) hz0).trans e01⟩
  have HB0 : Hid (Below w.heap.size w w0) := hb0
  by_cases hbig : 5000 < l1.length + l2.length + l3.length
  · clear BX B1
    go_enter Try.func4, Try.ntmps4
    go_wp2_with (go_at_call 8; go_fit (L.out _); rintro x w1 ⟨rfl, hb1⟩)
    go_ret
    exact ⟨rfl, HB0.out.trans (hb1.mono (Nat.le_of_lt hz0))⟩
  have hb : l1.length + l2.length + l3.length ≤ 5000 := by omega
  have N0 : Hid (Calls Try.prog 13 #[.int .i64 10000] w0 fun x w' => ∃ d, x = .returned (.pointer (some ⟨d, 0, none⟩)) ∧ Kp w0 d (newA 10000) w') := kp_new 10000 (by omega) w0
  have N1 : Hid (∀ d w1, Kp w0 d (newA 10000) w1 → Calls Try.prog 14 #[.pointer (some ⟨d, 0, none⟩), .string ⟨#[97]⟩] w1 fun x w' => x = .returned (.int .i64 0) ∧ Kp w0 d kA1 w') := fun d w1 h => k_create h
  have N2 : Hid (∀ d w1, Kp w0 d kA1 w1 → Calls Try.prog 15 #[.pointer (some ⟨d, 0, none⟩), .string ⟨#[97]⟩, .slice ao1 l1.length c1] w1 fun x w' => x = .returned (.int .i64 0) ∧ Kp w0 d (kA2 l1) w') := fun d w1 h => k_append1 hb h ao1 c1 t1
  have N3 : Hid (∀ d w1, Kp w0 d (kA2 l1) w1 → Calls Try.prog 16 #[.pointer (some ⟨d, 0, none⟩), .string ⟨#[97]⟩] w1 fun x w' => x = .returned (.int .i64 0) ∧ Kp w0 d (kA3 l1) w') := fun d w1 h => k_sync1 h
  have N4 : Hid (∀ d w1, Kp w0 d (kA3 l1) w1 → Calls Try.prog 14 #[.pointer (some ⟨d, 0, none⟩), .string ⟨#[98]⟩] w1 fun x w' => x = .returned (.int .i64 0) ∧ Kp w0 d (kA4 l1) w') := fun d w1 h => k_create2 hb h
  have N5 : Hid (∀ d w1, Kp w0 d (kA4 l1) w1 → Calls Try.prog 15 #[.pointer (some ⟨d, 0, none⟩), .string ⟨#[98]⟩, .slice ao3 l3.length c3] w1 fun x w' => x = .returned (.int .i64 0) ∧ Kp w0 d (kA5 l1 l3) w') := fun d w1 h => k_append2 hb h ao3 c3 t3
  have N6 : Hid (∀ d w1, Kp w0 d (kA5 l1 l3) w1 → Calls Try.prog 15 #[.pointer (some ⟨d, 0, none⟩), .string ⟨#[97]⟩, .slice ao2 l2.length c2] w1 fun x w' => x = .returned (.int .i64 0) ∧ Kp w0 d (kA6 l1 l2 l3) w') := fun d w1 h => k_append3 hb h ao2 c2 t2
  have N7 : Hid (∀ d w1, Kp w0 d (kA6 l1 l2 l3) w1 → Calls Try.prog 16 #[.pointer (some ⟨d, 0, none⟩), .string ⟨#[98]⟩] w1 fun x w' => x = .returned (.int .i64 0) ∧ Kp w0 d (kA7 l1 l2 l3) w') := fun d w1 h => k_sync2 h
  have N8 : Hid (∀ d w1, Kp w0 d (kA7 l1 l2 l3) w1 → Calls Try.prog 17 #[.pointer (some ⟨d, 0, none⟩), .int .i64 keep] w1 fun x w' => x = .returned (.tuple #[]) ∧ Kp w0 d { kA9 l1 l2 l3 keep.toNat with on := false } w') := fun d w1 h => k_crash hb h keep hk.1 hk.2
  have N9 : Hid (∀ d w1, Kp w0 d { kA9 l1 l2 l3 keep.toNat with on := false } w1 → Calls Try.prog 18 #[.pointer (some ⟨d, 0, none⟩)] w1 fun x w' => x = .returned (.tuple #[]) ∧ Kp w0 d (kA9 l1 l2 l3 keep.toNat) w') := fun d w1 h => k_start h
  obtain ⟨la, hla⟩ : ∃ la, (l1 ++ l2).take (keepM l1 l2 keep.toNat) = la := ⟨_, rfl⟩
  have NA : Hid (∀ d w1, Kp w0 d (kA9 l1 l2 l3 keep.toNat) w1 → Calls Try.prog 19 #[.pointer (some ⟨d, 0, none⟩), .string ⟨#[97]⟩] w1 fun x w' => ∃ ao c, x = .returned (.tuple #[.slice ao la.length c, .int .i64 0]) ∧ Sees w' ao la ∧ (ao = none → la.length = 0) ∧ la.length ≤ c ∧ w1.grownBy w' none ∧ Kp w0 d (kA9 l1 l2 l3 keep.toNat) w') := fun d w1 h => by rw [← hla]; exact k_readA hb h
  have NB : Hid (∀ d w1, Kp w0 d (kA9 l1 l2 l3 keep.toNat) w1 → Calls Try.prog 19 #[.pointer (some ⟨d, 0, none⟩), .string ⟨#[98]⟩] w1 fun x w' => ∃ ao c, x = .returned (.tuple #[.slice ao l3.length c, .int .i64 0]) ∧ Sees w' ao l3 ∧ (ao = none → l3.length = 0) ∧ l3.length ≤ c ∧ w1.grownBy w' none ∧ Kp w0 d (kA9 l1 l2 l3 keep.toNat) w') := fun d w1 h => k_readB hb h
  have ND : Hid (∀ d w1, Kp w0 d (kA9 l1 l2 l3 keep.toNat) w1 → Calls Try.prog 21 #[.pointer (some ⟨d, 0, none⟩)] w1 fun x w' => x = .returned (.int .i64 0) ∧ w1.grownBy w' none ∧ Kp w0 d (kA9 l1 l2 l3 keep.toNat) w') := fun d w1 h => k_dirty hb h
  have HM := keepM_facts l1 l2 keep
  have hlm : la.length = keepM l1 l2 keep.toNat := by rw [← hla, List.length_take, List.length_append]; omega
  rw [← hlm] at HM
  have HLA : Hid ((l1 ++ l2).take la.length = la) := by show _ = _; rw [hlm]; exact hla
  have HM : Hid (l1.length ≤ la.length ∧ la.length ≤ l1.length + l2.length ∧ (la.length = l1.length ∨ la.length = l1.length + l2.length ∨ la.length % 16 = 0) ∧ (keep ≤ 0 → la.length = l1.length) ∧ ((l1.length : Int) + l2.length ≤ keep → la.length = l1.length + l2.length)) := HM
  have T1 : Hid (Sees w0 ao1 l1 ∧ Sees w0 ao2 l2 ∧ Sees w0 ao3 l3) := ⟨t1, t2, t3⟩
  have Z1 : Hid ((ao1 = none → l1.length = 0) ∧ (ao2 = none → l2.length = 0) ∧ (ao3 = none → l3.length = 0)) := ⟨z1, z2, z3⟩
  have hlab : la.length ≤ 5000 := by have := HM.out; omega
  obtain ⟨i0, hi, hq0, hq1, hq2⟩ := info_parts info8
  have SR : Hid (∀ d w', Kp w0 d (kA9 l1 l2 l3 keep.toNat) w' → Src Try.prog 1 26 (.slice ao1 l1.length c1) l1.length (B8 l1) (w'.alloc (.cells #[] 5)) ∧ True) := fun d w' h => ⟨src_sees Try.underlying26 ((h.grown (World.grownBy_alloc _ _ _)).sees t1) z1 c1, trivial⟩
  have ST : Hid (∀ d w12 w13 ao13 cap13, Kp w0 d (kA9 l1 l2 l3 keep.toNat) w12 → w13.ownsRow w12.heap.size 5 1 (.slice ao13 l1.length cap13) l1.length (B8 l1) → Grew (w12.alloc (.cells #[] 5)) w13 (.slice (some ⟨w12.heap.size, 0, none⟩) 0 0) (.slice ao13 l1.length cap13) →
      Kp w0 d (kA9 l1 l2 l3 keep.toNat) w13 ∧ w12.grownBy w13 none ∧ Src Try.prog 1 26 (.slice ao2 l2.length c2) l2.length (B8 l2) w13) := fun d w12 w13 ao13 cap13 h _ hg => by
    have hgn : w12.grownBy w13 none := (World.grownBy_alloc w12 (.cells #[] 5) none).andThen hg.rows (fun j hj => .inl (by cases hj; exact Nat.le_refl _))
    exact ⟨h.grown hgn, hgn, src_sees Try.underlying26 ((h.grown hgn).sees t2) z2 c2⟩
  have EN : Hid (∀ d w11 w12 w13 w14 ao13 cap13 ao14 cap14 aoA cA aoB cB, Kp w0 d (kA9 l1 l2 l3 keep.toNat) w12 → Sees w11 aoA la → w11.grownBy w12 none → (aoA = none → la.length = 0) → Sees w12 aoB l3 → (aoB = none → l3.length = 0) → w12.grownBy w13 none → w13.ownsRow w12.heap.size 5 1 (.slice ao13 l1.length cap13) l1.length (B8 l1) →
      Grew w13 w14 (.slice ao13 l1.length cap13) (.slice ao14 (l1.length + l2.length) cap14) → w14.ownsRow w12.heap.size 5 1 (.slice ao14 (l1.length + l2.length) cap14) (l1.length + l2.length) (B8 l1 ++ B8 l2) →
      w14.cell? ⟨w.heap.size, 0, none⟩ = some (.slice ao3 l3.length c3) ∧ w14.cell? ⟨w.heap.size, 1, none⟩ = some (.int .i64 keep) ∧ (la.length : Int) ≤ (cap14 : Int) ∧ Kp w0 d (kA9 l1 l2 l3 keep.toNat) w14 ∧
      (Calls Try.prog 20 #[.slice aoB l3.length cB, .slice ao3 l3.length c3] w14 fun e w' => e = .returned (.bool true) ∧ w' = w14) ∧ (Calls Try.prog 20 #[.slice aoA la.length cA, .slice ao14 la.length cap14] w14 fun e w' => e = .returned (.bool true) ∧ w' = w14)) := by
    intro d w11 w12 w13 w14 ao13 cap13 ao14 cap14 aoA cA aoB cB hK hsA g12 hzA hsB hzB g13 ho13 hg14 ho14
    have g14 : w12.grownBy w14 none := g13.andThen hg14.rows (fun j hj => .inl (ho13.lt j hj).1)
    have hK14 := hK.grown g14
    have hbx := BX.out _ _ _ hK14
    have sA14 : Sees w14 aoA la := (hsA.kept (w' := w12) fun a ha h0 => g12.block _ (hsA.lt ha h0) (by simp)).kept fun a ha h0 => g14.block _ ((hsA.kept (w' := w12) fun a ha h0 => g12.block _ (hsA.lt ha h0) (by simp)).lt ha h0) (by simp)
    have sB14 : Sees w14 aoB l3 := hsB.kept fun a ha h0 => g14.block _ (hsB.lt ha h0) (by simp)
    have s314 : Sees w14 ao3 l3 := hK14.sees t3
    rw [← B8_append] at ho14
    obtain ⟨ao, cp, hv, hsee, _, hnn⟩ := owns_sees ho14
    obtain ⟨_, _, hv2, hcp, _⟩ := owns_form ho14
    cases hv
    cases hv2
    have hm := HM.out
    have hsl : Sees w14 ao14 la := by
      intro i hi
      obtain ⟨a, ea, hc⟩ := hsee i (by rw [List.length_append]; omega)
      refine ⟨a, ea, ?_⟩
      rw [hc, ← HLA.out]
      simp [List.getD, hi]
    have c1' := same_any aoB ao3 l3 l3 cB c3 w14 sB14 s314 hzB z3
    have c2' := same_any aoA ao14 la la cA cap14 w14 sA14 hsl hzA (fun e => by have := (hnn e).1; omega)
    rw [beq_self_eq_true] at c1' c2'
    exact ⟨hbx.1, hbx.2, by omega, hK14, c1', c2'⟩
  have FIN : Hid (∀ d A w17 w18, Kp w0 d A w17 → Below w17.heap.size w17 w18 → Below w.heap.size w w18) := fun d A w17 w18 h hb' => (HB0.out.trans (h.below.mono (Nat.le_of_lt hz0))).trans (hb'.mono (by have := h.below.size; omega))
  clear hla hlm s1 s2 s3 t1 t2 t3 z1 z2 z3 B1 hb0
  go_enter Try.func4, Try.ntmps4
  go_wp2_with (first
    | (go_at_call 13; go_fit N0.out; rintro x w1 ⟨d, rfl, n0⟩; obtain ⟨a0, a1⟩ := BX.out _ _ _ n0)
    | (go_at_call 14; first | (go_fit (N1.out _ _ n0); rintro x w2 ⟨rfl, n1⟩; obtain ⟨a0, a1⟩ := BX.out _ _ _ n1) | (go_fit (N4.out _ _ n3); rintro x w5 ⟨rfl, n4⟩; obtain ⟨a0, a1⟩ := BX.out _ _ _ n4))
    | (go_at_call 15; first | (go_fit (N2.out _ _ n1); rintro x w3 ⟨rfl, n2⟩; obtain ⟨a0, a1⟩ := BX.out _ _ _ n2) | (go_fit (N5.out _ _ n4); rintro x w6 ⟨rfl, n5⟩; obtain ⟨a0, a1⟩ := BX.out _ _ _ n5) | (go_fit (N6.out _ _ n5); rintro x w7 ⟨rfl, n6⟩; obtain ⟨a0, a1⟩ := BX.out _ _ _ n6))
    | (go_at_call 16; first | (go_fit (N3.out _ _ n2); rintro x w4 ⟨rfl, n3⟩; obtain ⟨a0, a1⟩ := BX.out _ _ _ n3) | (go_fit (N7.out _ _ n6); rintro x w8 ⟨rfl, n7⟩; obtain ⟨a0, a1⟩ := BX.out _ _ _ n7))
    | (go_at_call 17; go_fit (N8.out _ _ n7); rintro x w9 ⟨rfl, n8⟩; obtain ⟨a0, a1⟩ := BX.out _ _ _ n8)
    | (go_at_call 18; go_fit (N9.out _ _ n8); rintro x w10 ⟨rfl, n9⟩; obtain ⟨a0, a1⟩ := BX.out _ _ _ n9)
    | (go_at_call 19; first | (go_fit (NA.out _ _ n9); rintro x w11 ⟨aoA, cA, rfl, sA, zA, hcA, gA, n10⟩; obtain ⟨a0, a1⟩ := BX.out _ _ _ n10) | (go_fit (NB.out _ _ n10); rintro x w12 ⟨aoB, cB, rfl, sB, zB, hcB, gB, n11⟩; obtain ⟨a0, a1⟩ := BX.out _ _ _ n11; have src1 := SR.out _ _ n11))
    | ((with_reducible (show wpList _ _ _ (Oper.mk _ (Op.call ⟨Callee.builtin Builtin.append, #[.tmp 78, .tmp 79], _⟩) _ _ _ _ :: _) _ _)); go_must (refine wpList_append_shape _ rfl (.tmp 78) (.tmp 79) 26 26 rfl w12.heap.size 5 i0 (.int .u8 0) 1 Try.underlying26 hi hq0 hq1 hq2 rfl _ 0 [] rfl (row0 w12) _ l1.length (B8 l1) rfl src1.1 (by unfold maxLen; omega) (by omega) (by simp) ?_; intro ao13 cap13 w13 ho13 hg13; rw [Nat.zero_add] at ho13 hg13; rw [List.nil_append] at ho13; obtain ⟨n13, g13, src2⟩ := ST.out _ _ _ _ _ n11 ho13 hg13))
    | ((with_reducible (show wpList _ _ _ (Oper.mk _ (Op.call ⟨Callee.builtin Builtin.append, #[.tmp 80, .tmp 81], _⟩) _ _ _ _ :: _) _ _)); go_must (refine wpList_append_shape _ rfl (.tmp 80) (.tmp 81) 26 26 rfl w12.heap.size 5 i0 (.int .u8 0) 1 Try.underlying26 hi hq0 hq1 hq2 rfl _ l1.length (B8 l1) rfl ho13 _ l2.length (B8 l2) rfl src2 (by unfold maxLen; omega) (by omega) (by have := g13.size; omega) ?_; intro ao14 cap14 w14 ho14 hg14; obtain ⟨b0, b1, hcap14, n14, hS1, hS2⟩ := EN.out _ _ _ _ _ _ _ _ _ _ _ _ _ n11 sA gB zA sB zB g13 ho13 hg14 ho14; have HS1 : Hid (Calls Try.prog 20 #[.slice aoB l3.length cB, .slice ao3 l3.length c3] w14 fun e w' => e = .returned (.bool true) ∧ w' = w14) := hS1; have HS2 : Hid (Calls Try.prog 20 #[.slice aoA la.length cA, .slice ao14 la.length cap14] w14 fun e w' => e = .returned (.bool true) ∧ w' = w14) := hS2; clear hS1 hS2 src1 src2))
    | (go_at_call 20; first | (go_fit HS1.out; rintro x w15 ⟨rfl, rfl⟩) | (go_fit HS2.out; rintro x w16 ⟨rfl, rfl⟩))
    | (go_at_call 21; go_fit (ND.out _ _ n14); rintro x w17 ⟨rfl, g17, n17⟩)
    | (go_at_call 8; go_fit (L.out _); rintro x w18 ⟨rfl, hb18⟩))
  all_goals
    have hm := HM.out
    go_ret
    first
      | exact ⟨rfl, FIN.out _ _ _ _ n17 hb18⟩
      | (exfalso; omega)
      | (exfalso; simp only [Bool.or_eq_true, Bool.and_eq_true, decide_eq_true_eq, beq_iff_eq, Bool.or_eq_false_iff, decide_eq_false_iff_not, beq_eq_false_iff_ne, Bool.not_eq_true, not_or] at *; omega)
      | (refine ⟨ret_bool ?_, FIN.out _ _ _ _ n17 hb18⟩; simp only [Bool.or_eq_true, decide_eq_true_eq, beq_iff_eq]; omega)
      | (refine ⟨ret_bool ?_, FIN.out _ _ _ _ n17 hb18⟩; simp_all; omega)
      | (rename_i hq; have h3 := hq.2; rw [bne_iff_ne] at h3; exfalso; omega)
end Go.Proofs.Ytbabepnoncpdlaa

/-
  THE LAW SchemaOrders: the walk.
-/
import Derived.Test.YtgjajffpkjcenaaDoorSchLives
namespace Go.Proofs.YtgjajffpkjcenaaDoor.schemaOrders
open Go.RowKit

theorem fold_all : ∀ (N o : List ByteArray), ((o ++ N).map nb).Nodup → N.foldl (ordStep []) o = o ++ N := by
  intro N
  induction N with
  | nil => intro o _; simp
  | cons a N ih =>
    intro o h
    have hs : ordStep [] o a = o ++ [a] := by
      unfold ordStep
      have hno : ¬ nb a ∈ o.map nb := fun hm => by
        rw [List.map_append, List.nodup_append] at h
        exact h.2.2 _ hm (nb a) (by simp) rfl
      rw [decide_eq_false hno]; rfl
    rw [List.foldl_cons, hs, ih (o ++ [a]) (by rw [List.append_assoc]; exact h), List.append_assoc]; rfl
theorem ord_all {N : List ByteArray} (h : (N.map nb).Nodup) : ordR [] N = N := by
  unfold ordR ordL
  rw [if_pos (by rfl), fold_all N [] h]; rfl
theorem ord_sub (C N : List ByteArray) : (ordR C N).Sublist N := by
  have h : ∀ k, k ≤ N.length → (ordL C (N.take k)).Sublist (N.take k) := by
    intro k
    induction k with
    | zero => intro _; exact List.nil_sublist _
    | succ k ih =>
      intro hk
      have hc : N[k]? = some N[k] := List.getElem?_eq_getElem hk
      have ht : N.take (k + 1) = N.take k ++ [N[k]] := by rw [List.take_add_one, hc]; rfl
      have hi := ih (by omega)
      rw [ordL_take hc, ht]
      unfold ordStep
      split
      · exact hi.append (List.Sublist.refl _)
      · exact hi.trans (List.sublist_append_left _ _)
  unfold ordR
  split
  · have := h N.length (Nat.le_refl _)
    rwa [List.take_length] at this
  · exact List.nil_sublist _
theorem ord_has {C N : List ByteArray} (h : allIn C N = true) {s : ByteArray} (hs : s ∈ C) : nb s ∈ (ordR C N).map nb := by
  unfold ordR
  rw [if_pos h]
  refine mem_ordL.2 ⟨?_, ?_⟩
  · have := List.all_eq_true.1 h s hs
    simpa using this
  · unfold wantB
    rw [decide_eq_true (List.mem_map_of_mem hs), Bool.or_true]
theorem sub_step {s x : ByteArray} {R L : List ByteArray} (h : (s :: R).Sublist (x :: L)) : (x = s → R.Sublist L) ∧ (x ≠ s → (s :: R).Sublist L) := by
  constructor
  · rintro rfl
    cases h with
    | cons _ h => exact (List.sublist_cons_self _ _).trans h
    | cons_cons _ h => exact h
  · intro hne
    cases h with
    | cons _ h => exact h
    | cons_cons _ h => exact absurd rfl hne
theorem tab0 {T : Tb} (h : tabE T = 0) : T.cs.length ≤ 6 ∧ ((nmC T).map nb).Nodup := by
  unfold tabE at h
  split at h
  · cases h
  · split at h
    · cases h
    · rename_i h2
      split at h
      · cases h
      · split at h
        · cases h
        · rename_i h4
          have h5 : uniqB T = true := by simpa using h4
          have h6 := of_decide_eq_true h5
          simp only [List.map_cons, List.nodup_cons] at h6
          exact ⟨by simp at h2; exact h2.2, h6.2.2⟩
theorem drop_at {L : List ByteArray} {i : Nat} (h : i < L.length) : L.drop i = L[i] :: L.drop (i + 1) := List.drop_eq_getElem_cons h
def hasN (O : List ByteArray) (i : Nat) (x : ByteArray) : Bool := (O.take i).any fun s => decide (nb s = nb x)
theorem hasN_succ {O : List ByteArray} {i : Nat} {s : ByteArray} (h : O[i]? = some s) (x : ByteArray) : hasN O (i + 1) x = (hasN O i x || decide (nb s = nb x)) := by
  unfold hasN
  rw [List.take_add_one, h, List.any_append]; simp
theorem hasN_end (O : List ByteArray) (x : ByteArray) : hasN O O.length x = decide (nb x ∈ O.map nb) := by
  unfold hasN
  rw [List.take_length, Bool.eq_iff_iff, List.any_eq_true, decide_eq_true_eq, List.mem_map]
  exact ⟨fun ⟨s, h1, h2⟩ => ⟨s, h1, by simpa using h2⟩, fun ⟨s, h1, h2⟩ => ⟨s, h1, by simpa using h2⟩⟩
set_option maxRecDepth 100000 in
set_option maxHeartbeats 4000000 in
theorem walk (T : Tb) (ao : Option Addr) (cap : Nat) (C : List ByteArray) (co : Option Addr) (cc : Nat) (w : World) (hC : CSee w ao T.cs) (hT : T.Ok) (hN : NSee w co C) (hCl : C.length * 16 ≤ 140737488351232) (hCs : ∀ s ∈ C, s.size ≤ maxLen) (hS : SpT w) :
    Calls Tryd.prog 6 #[T.v ao cap, .slice co C.length cc] w fun e w' => e = .returned (.bool true) ∧ Below w.heap.size w w' := by
  obtain ⟨w0, hw0⟩ : ∃ w0, w0 = w.alloc (.cells #[.string T.t, .string T.p, .string T.r, .slice ao T.cs.length cap] 26) := ⟨_, rfl⟩
  have hB : Below w.heap.size w w0 := by rw [hw0]; exact (Below.refl _ _).alloc (Nat.le_refl _) _
  have hX : Blk w0 w.heap.size [.string T.t, .string T.p, .string T.r, .slice ao T.cs.length cap] 26 := by rw [hw0]; exact Blk.new w [.string T.t, .string T.p, .string T.r, .slice ao T.cs.length cap] _
  have HX : Hid (∀ wr, Below w0.heap.size w0 wr → Blk wr w.heap.size [.string T.t, .string T.p, .string T.r, .slice ao T.cs.length cap] 26 ∧ CSee wr ao T.cs ∧ NSee wr co C ∧ SpT wr ∧ Below w.heap.size w wr) := fun wr hb =>
    ⟨hX.carry (hb.block _ hX.lt), hC.below (hB.trans (hb.mono hB.size)), hN.below (hB.trans (hb.mono hB.size)), hS.below (hB.trans (hb.mono hB.size)) hS.lt, hB.trans (hb.mono hB.size)⟩
  have L : Hid (∀ wr, Below w0.heap.size w0 wr → Calls Tryd.prog 8 #[] wr fun e w' => e = .returned (.bool true) ∧ Below w.heap.size w w') := fun wr hb => (lives17_any wr (HX.out wr hb).2.2.2.1).mono fun e w' h => ⟨h.1, (HX.out wr hb).2.2.2.2.trans (h.2.mono (HX.out wr hb).2.2.2.2.size)⟩
  have K5 : Calls Tryd.prog 15 #[.agg #[.string T.t, .string T.p, .string T.r, .slice ao T.cs.length cap]] w0 fun e w' => e = .returned (.int .i64 (tabE T)) ∧ Below w0.heap.size w0 w' := table_any T ao cap w0 (HX.out w0 (Below.refl _ _)).2.1 hT (HX.out w0 (Below.refl _ _)).2.2.2.1
  have hnz : (T.cs.length : Int) ≤ 5864062014634 := by have := hT.l; omega
  have hcz : (C.length : Int) ≤ 8796093021952 := by omega
  have HT : Hid T.Ok := hT
  have HCs : Hid (∀ s ∈ C, s.size ≤ maxLen) := hCs
  have e0 := hX.cell 0 rfl
  have e1 := hX.cell 1 rfl
  have e2 := hX.cell 2 rfl
  have e3 := hX.cell 3 rfl
  rw [hw0] at e0 e1 e2 e3
  clear hC hT hN hCl hCs hS hB hX
  simp only [Tb.v, Tb.a]
  by_cases h0 : tabE T = 0
  · obtain ⟨hl6, hnd⟩ := tab0 h0
    rw [h0] at K5
    by_cases h2 : 200 < C.length
    · have hz2 : (200 : Int) < (C.length : Int) := by omega
      clear h2 HX HT HCs hnd hl6
      go_enter Tryd.func6, Tryd.ntmps6
      go_wp2_with fail
      rw [← hw0]
      refine K5.mono ?_
      rintro e w1 ⟨rfl, hb1⟩
      have L1 := L.out w1 hb1
      clear hw0 e0 e1 e2 e3 K5
      go_wp2_with fail
      refine L1.mono ?_
      rintro e w2 ⟨rfl, hb2⟩
      go_wp2_with fail
      go_ret
      exact ⟨rfl, hb2⟩
    · have hz2 : ¬ (200 : Int) < (C.length : Int) := by omega
      have K3 : Hid (∀ wr, Below w0.heap.size w0 wr → Calls Tryd.prog 13 #[.agg #[.string T.t, .string T.p, .string T.r, .slice ao T.cs.length cap], .slice co C.length cc] wr fun e w' => ∃ a1 c1, e = .returned (.tuple #[.slice a1 (ordR C (nmC T)).length c1, .bool (allIn C (nmC T))]) ∧ NSee w' a1 (ordR C (nmC T)) ∧ Below wr.heap.size wr w') := fun wr hb => (order_any T ao cap C co cc wr (HX.out wr hb).2.1 HT.out (by omega) (HX.out wr hb).2.2.1 (by omega) HCs.out).mono fun e w' h => by
        obtain ⟨v, rfl, ho, h2⟩ := h
        obtain ⟨a1, c1, rfl, h3⟩ := owns_see ho rfl
        exact ⟨a1, c1, rfl, h3, h2⟩
      have K4 : Hid (∀ wr, Below w0.heap.size w0 wr → Calls Tryd.prog 13 #[.agg #[.string T.t, .string T.p, .string T.r, .slice ao T.cs.length cap], .slice none 0 0] wr fun e w' => ∃ a1 c1, e = .returned (.tuple #[.slice a1 T.cs.length c1, .bool true]) ∧ NSee w' a1 (nmC T) ∧ Below wr.heap.size wr w') := fun wr hb => (order_any T ao cap [] none 0 wr (HX.out wr hb).2.1 HT.out (by omega) (fun i s h => by cases h) (by simp) (fun s h => by cases h)).mono fun e w' h => by
        obtain ⟨v, rfl, ho, h2⟩ := h
        rw [ord_all hnd] at ho
        obtain ⟨a1, c1, rfl, h3⟩ := owns_see ho rfl
        exact ⟨a1, c1, by rw [show (nmC T).length = T.cs.length by simp [nmC]]; rfl, h3, h2⟩
      have hsub := ord_sub C (nmC T)
      have hhas : allIn C (nmC T) = true → ∀ s ∈ C, nb s ∈ (ordR C (nmC T)).map nb := fun h s hs => ord_has h hs
      have hnil : allIn C (nmC T) = false → ordR C (nmC T) = [] := fun h => by unfold ordR; rw [h]; rfl
      have HNL : Hid ((nmC T).length = T.cs.length) := by show _ = _; simp [nmC]
      have hn6 : (T.cs.length : Int) ≤ 6 := by omega
      have HCN : Hid (∀ wr, Below w0.heap.size w0 wr → NSee wr co C ∧ Blk wr w.heap.size [.string T.t, .string T.p, .string T.r, .slice ao T.cs.length cap] 26) := fun wr hb => ⟨(HX.out wr hb).2.2.1, (HX.out wr hb).1⟩
      clear h2 HX HT HCs hnd hl6 h0
      have HRl : Hid ((ordR C (nmC T)).length ≤ 6) := by show _ ≤ _; have := ordR_len C (nmC T); rw [HNL.out] at this; omega
      generalize ordR C (nmC T) = R at *
      generalize allIn C (nmC T) = b at *
      generalize nmC T = N at *
      have hRz : (R.length : Int) ≤ 6 := by have := HRl.out; omega
      have Hsub : Hid (R.Sublist N) := hsub
      have Hhas : Hid (b = true → ∀ s ∈ C, nb s ∈ R.map nb) := hhas
      have Hnil : Hid (b = false → R = []) := hnil
      clear hsub hhas hnil
      go_enter Tryd.func6, Tryd.ntmps6
      go_wp2_with fail
      rw [← hw0]
      refine K5.mono ?_
      rintro e w1 ⟨rfl, hb1⟩
      have y1 := (HCN.out w1 hb1).2
      have f0 := y1.cell 0 rfl
      have f1 := y1.cell 1 rfl
      have f2 := y1.cell 2 rfl
      have f3 := y1.cell 3 rfl
      clear hw0 e0 e1 e2 e3 K5 y1
      go_wp2_with fail
      refine (K3.out w1 hb1).mono ?_
      rintro e w2 ⟨a1, c1, rfl, hn1, hb2⟩
      have hb2' := hb1.trans (hb2.mono hb1.size)
      have y1 := (HCN.out w2 hb2').2
      have d0 := y1.cell 0 rfl
      have d1 := y1.cell 1 rfl
      have d2 := y1.cell 2 rfl
      have d3 := y1.cell 3 rfl
      clear K3 f0 f1 f2 f3 y1 hb2
      go_wp2_with fail
      refine (K4.out w2 hb2').mono ?_
      rintro e w3 ⟨a2, c2, rfl, hn2, hb3⟩
      have hb3' := hb2'.trans (hb3.mono hb2'.size)
      obtain ⟨hnc, y1⟩ := HCN.out w3 hb3'
      have h3 := y1.cell 3 rfl
      have hn1' := hn1.below hb3
      have L3 : Hid (Calls Tryd.prog 8 #[] w3 fun e w' => e = .returned (.bool true) ∧ Below w.heap.size w w') := L.out w3 hb3'
      have H1 : Hid (NSee w3 a1 R) := hn1'
      have H2 : Hid (NSee w3 a2 N) := hn2
      have H3 : Hid (NSee w3 co C) := hnc
      clear K4 d0 d1 d2 d3 y1 hb3 hb2' hb1 hb3' hn1 hn1' hn2 hnc HCN L
      go_wp2_with fail
      go_loopw [9, 49] (fun s9 s49 wz => ∃ k a : Nat, k ≤ R.length ∧ a ≤ N.length ∧ s49 = .int .i64 (k : Int) ∧ s9 = .int .i64 (a : Int) ∧ wz = w3 ∧ (R.drop k).Sublist (N.drop a)) (fun _ s49 _ => R.length - (intOf s49).toNat)
      case atStart => exact ⟨0, 0, Nat.zero_le _, Nat.zero_le _, rfl, rfl, rfl, Hsub.out⟩
      case round =>
        obtain ⟨k, a, hk, ha, rfl, rfl, hwz, hsl⟩ := hrel
        obtain rfl := hwz.symm
        clear hwz
        rcases Nat.lt_or_ge k R.length with hlt | hge
        · have hck : R[k]? = some R[k] := List.getElem?_eq_getElem hlt
          obtain ⟨b1, o1, ho1, x0⟩ := H1.out k _ hck
          subst ho1
          rw [drop_at hlt] at hsl
          generalize R[k] = s at *
          have hkz : (k : Int) < (R.length : Int) := by omega
          have HKL : Hid (k < R.length) := hlt
          have Hsl : Hid ((s :: R.drop (k + 1)).Sublist (N.drop a)) := hsl
          clear hck hlt hsl
          go_wp2_with fail
          go_loopw [9] (fun s9 wz => ∃ a : Nat, a ≤ N.length ∧ s9 = .int .i64 (a : Int) ∧ wz = w3 ∧ (s :: R.drop (k + 1)).Sublist (N.drop a)) (fun s9 _ => N.length - (intOf s9).toNat)
          case atStart => exact ⟨a, ha, rfl, rfl, Hsl.out⟩
          case round =>
            obtain ⟨q, hq, rfl, hwz, hsq⟩ := hrel
            obtain rfl := hwz.symm
            clear hwz
            have hql : q < N.length := by
              have h1 := hsq.length_le
              simp only [List.length_cons, List.length_drop] at h1
              omega
            have hcq : N[q]? = some N[q] := List.getElem?_eq_getElem hql
            obtain ⟨b2, o2, ho2, y0⟩ := H2.out q _ hcq
            subst ho2
            rw [drop_at hql] at hsq
            have hst := sub_step hsq
            have hqn : q < T.cs.length := by have := HNL.out; omega
            have hqz : (q : Int) < (T.cs.length : Int) := by omega
            have HQL : Hid (q < N.length) := hql
            generalize N[q] = x at *
            by_cases he : nb x = nb s
            · have hrs : Hid ((R.drop (k + 1)).Sublist (N.drop (q + 1))) := hst.1 (nb_inj.1 he)
              have he2 := eqB he
              have he3 : (x.toList == s.toList) = true := beq_iff_eq.2 he2
              have he4 : (x.toList != s.toList) = false := by unfold bne; rw [he3]; rfl
              have hqe : ¬ (q : Int) = (T.cs.length : Int) := by omega
              have hqe2 : ((q : Int) == (T.cs.length : Int)) = false := beq_false_of_ne hqe
              clear hst hsq hcq he hql hqn
              go_wp2_with fail
              go_roundw
              case rel => exact ⟨k + 1, q + 1, by have := HKL.out; omega, by have := HQL.out; omega, by go_num, by go_num, by first | rfl | trivial, hrs.out⟩
              case measure => have := HKL.out; simp [intOf]; omega
            · have hrs : Hid ((s :: R.drop (k + 1)).Sublist (N.drop (q + 1))) := hst.2 (fun e => he (by rw [e]))
              have he2 := neB he
              have he3 := neB2 he
              have he4 : (x.toList != s.toList) = true := by unfold bne; rw [he3]; rfl
              clear hst hsq hcq he hql hqn
              go_wp2_with fail
              go_roundw
              case rel => exact ⟨q + 1, by have := HQL.out; omega, by go_num, by first | rfl | trivial, hrs.out⟩
              case measure => have := HQL.out; simp [intOf]; omega
        · obtain rfl : k = R.length := by omega
          clear hsl
          have Hin : Hid (∀ s ∈ C, hasN R R.length s = b) := fun s hs => by
            rw [hasN_end]
            cases hb : b
            · rw [Hnil.out hb]; simp
            · exact decide_eq_true (Hhas.out hb s hs)
          have hbb : (b != b) = false := by simp
          go_wp2_with fail
          go_loopw [76] (fun s76 wz => ∃ k : Nat, k ≤ C.length ∧ s76 = .int .i64 (k : Int) ∧ wz = w3) (fun s76 _ => C.length - (intOf s76).toNat)
          case atStart => exact ⟨0, Nat.zero_le _, rfl, rfl⟩
          case round =>
            obtain ⟨k, hk, rfl, hwz⟩ := hrel
            obtain rfl := hwz.symm
            clear hwz
            rcases Nat.lt_or_ge k C.length with hlt | hge
            · have hck : C[k]? = some C[k] := List.getElem?_eq_getElem hlt
              obtain ⟨b1, o1, ho1, x0⟩ := H3.out k _ hck
              subst ho1
              have hin := Hin.out C[k] (List.getElem_mem hlt)
              generalize C[k] = s at *
              have hkz : (k : Int) < (C.length : Int) := by omega
              have HKL : Hid (k < C.length) := hlt
              have HIN : Hid (hasN R R.length s = b) := hin
              have hs0 : hasN R 0 s = false := by unfold hasN; simp
              clear hck hlt hin
              go_wp2_with fail
              go_loopw [14, 82] (fun s14 s82 wz => ∃ q : Nat, q ≤ R.length ∧ s82 = .int .i64 (q : Int) ∧ s14 = .bool (hasN R q s) ∧ wz = w3) (fun _ s82 _ => R.length - (intOf s82).toNat)
              case atStart => exact ⟨0, Nat.zero_le _, rfl, by rw [hs0], rfl⟩
              case round =>
                obtain ⟨q, hq, rfl, rfl, hwz⟩ := hrel
                obtain rfl := hwz.symm
                clear hwz
                rcases Nat.lt_or_ge q R.length with hlt | hge
                · have hcq : R[q]? = some R[q] := List.getElem?_eq_getElem hlt
                  obtain ⟨b2, o2, ho2, y0⟩ := H1.out q _ hcq
                  subst ho2
                  have hs := hasN_succ hcq s
                  generalize R[q] = x at *
                  have hqz : (q : Int) < (R.length : Int) := by omega
                  have HQL : Hid (q < R.length) := hlt
                  clear hcq hlt hbb hs0
                  cases hv : hasN R q s
                  · rw [hv, Bool.false_or] at hs
                    by_cases he : nb x = nb s
                    · have hn : Hid (hasN R (q + 1) s = true) := hs.trans (decide_eq_true he)
                      have he2 := eqB he
                      have he3 : (x.toList == s.toList) = true := beq_iff_eq.2 he2
                      clear hs he
                      go_wp2_with fail
                      go_roundw
                      case rel => exact ⟨q + 1, by have := HQL.out; omega, by go_num, by rw [hn.out], by first | rfl | trivial⟩
                      case measure => have := HQL.out; simp [intOf]; omega
                    · have hn : Hid (hasN R (q + 1) s = false) := hs.trans (decide_eq_false he)
                      have he2 := neB he
                      have he3 := neB2 he
                      clear hs he
                      go_wp2_with fail
                      go_roundw
                      case rel => exact ⟨q + 1, by have := HQL.out; omega, by go_num, by rw [hn.out], by first | rfl | trivial⟩
                      case measure => have := HQL.out; simp [intOf]; omega
                  · rw [hv, Bool.true_or] at hs
                    have hn : Hid (hasN R (q + 1) s = true) := hs
                    clear hs
                    go_wp2_with fail
                    go_roundw
                    case rel => exact ⟨q + 1, by have := HQL.out; omega, by go_num, by rw [hn.out], by first | rfl | trivial⟩
                    case measure => have := HQL.out; simp [intOf]; omega
                · obtain rfl : q = R.length := by omega
                  rw [HIN.out]
                  clear hs0
                  go_wp2_with fail
                  go_roundw
                  case rel => exact ⟨k + 1, by have := HKL.out; omega, by go_num, by first | rfl | trivial⟩
                  case measure => have := HKL.out; simp [intOf]; omega
            · obtain rfl : k = C.length := by omega
              have L4 := L3.out
              clear Hin hbb
              cases hb : b
              · have hr : R.length = 0 := by rw [Hnil.out hb]; rfl
                clear Hsub Hhas Hnil HRl H1
                generalize R.length = r at *
                subst hr hb
                go_wp2_with fail
                refine L4.mono ?_
                rintro e w5 ⟨rfl, hb5⟩
                go_wp2_with fail
                go_ret
                exact ⟨rfl, hb5⟩
              · subst hb
                clear Hsub Hhas Hnil
                go_wp2_with fail
                refine L4.mono ?_
                rintro e w5 ⟨rfl, hb5⟩
                go_wp2_with fail
                go_ret
                exact ⟨rfl, hb5⟩
  · have h0z : ¬ tabE T = 0 := h0
    have h0b : (tabE T != 0) = true := bne_iff_ne.2 h0
    clear HX HT HCs
    generalize tabE T = tE at *
    go_enter Tryd.func6, Tryd.ntmps6
    go_wp2_with fail
    rw [← hw0]
    refine K5.mono ?_
    rintro e w1 ⟨rfl, hb1⟩
    have L1 := L.out w1 hb1
    clear hw0 e0 e1 e2 e3 K5
    go_wp2_with fail
    refine L1.mono ?_
    rintro e w2 ⟨rfl, hb2⟩
    go_wp2_with fail
    go_ret
    exact ⟨rfl, hb2⟩
end Go.Proofs.YtgjajffpkjcenaaDoor.schemaOrders

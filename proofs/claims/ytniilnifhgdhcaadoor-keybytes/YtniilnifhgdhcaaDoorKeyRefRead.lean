/-
  CONTRACT: bytes as a key, by the document.
-/
import Derived.Test.YtniilnifhgdhcaaDoorKeyTaken
namespace Go.Proofs.YtniilnifhgdhcaaDoor
open Go.RowKit

/-- A text was taken, or there is none. -/
def Took (l : List UInt8) (e : Ending) (w' : World) : Prop :=
  (∃ s l1 ao1 cap1, tk l = some (s, l1) ∧ l1.length ≤ l.length ∧ l1.length ≤ cap1 ∧ Sees w' ao1 l1 ∧ (ao1 = none → l1.length = 0) ∧ e = .returned (.tuple #[.string (strB s), .slice ao1 l1.length cap1, .bool true])) ∨ (tk l = none ∧ e = .returned (.tuple #[.string ⟨#[]⟩, .slice none 0 0, .bool false]))
theorem took_any (ao : Option Addr) (l : List UInt8) (cap : Nat) (w : World) (hs : Sees w ao l) (hn : ao = none → l.length = 0) (hc : l.length ≤ cap) (hl : l.length ≤ 100000) :
    Calls Tryd.prog 39 #[.slice ao l.length cap] w fun e w' => Below w.heap.size w w' ∧ Took l e w' := by
  refine (taken_any ao l cap w hs hn hc hl).mono ?_
  rintro e w' ⟨⟨n, rfl⟩, h⟩
  have hb : Below w.heap.size w (w.drewN n) := ⟨rfl, rfl, rfl, Nat.le_refl _, fun _ _ => rfl⟩
  refine ⟨hb, ?_⟩
  rcases h with ⟨s, k, ao1, h1, h2, h3, h4, rfl⟩ | ⟨h1, rfl⟩
  · refine Or.inl ⟨s, l.drop k, ao1, cap - k, h1, ?_, ?_, h3.below hb (Nat.le_refl _), h4, ?_⟩
    · rw [List.length_drop]; omega
    · rw [List.length_drop]; omega
    · rw [List.length_drop]
  · exact Or.inr ⟨h1, rfl⟩
/-- The call's own blocks: the answer and the key. -/
structure QSt (w wi : World) : Prop where
  res : wi.heap[w.heap.size]? = some (.cells #[.string ⟨#[]⟩, .string ⟨#[]⟩, .int .i64 0, .string ⟨#[]⟩] 23)
  key : wi.heap[w.heap.size + 1]? = some (.cells #[.string ⟨#[]⟩, .string ⟨#[]⟩, .int .i64 0, .string ⟨#[]⟩] 23)
  bel : Below w.heap.size w wi
theorem QSt.below {w wi wj : World} (h : QSt w wi) (hb : Below wi.heap.size wi wj) : QSt w wj := by
  have h1 : w.heap.size < wi.heap.size := (Array.getElem?_eq_some_iff.1 h.res).1
  have h2 : w.heap.size + 1 < wi.heap.size := (Array.getElem?_eq_some_iff.1 h.key).1
  exact ⟨by rw [hb.block _ h1, h.res], by rw [hb.block _ h2, h.key], h.bel.trans (hb.mono h.bel.size)⟩
/-- No key: the answer is the zero one. -/
theorem q_none {w wi : World} (h : QSt w wi) {tmps : Array Value} (hp : tmps.getD 2 undef = .pointer (some ⟨w.heap.size, 0, none⟩)) (hv : tmps.getD 3 undef = .bool false) {l : List UInt8} (hr : rdRes l = (⟨⟨#[]⟩, ⟨#[]⟩, 0, ⟨#[]⟩⟩, false)) :
    bodyPost Tryd.prog Tryd.f22 (fun e w' => e = .returned (.tuple #[(rdRes l).1.v, .bool (rdRes l).2]) ∧ Below w.heap.size w w') Exit.ret { tmps := tmps, defers := [] } ((((wi.setCell ⟨w.heap.size, 0, none⟩ (.string ⟨#[]⟩)).setCell ⟨w.heap.size, 1, none⟩ (.string ⟨#[]⟩)).setCell ⟨w.heap.size, 2, none⟩ (.int .i64 0)).setCell ⟨w.heap.size, 3, none⟩ (.string ⟨#[]⟩)) := by
  refine bodyPost_ret (v := .tuple #[.agg #[.string ⟨#[]⟩, .string ⟨#[]⟩, .int .i64 0, .string ⟨#[]⟩], .bool false]) (results_row_tmp Tryd.results22 _ _ w.heap.size 23 _ _ _ _ hp hv (set_four (k := ⟨⟨#[]⟩, ⟨#[]⟩, 0, ⟨#[]⟩⟩) h.res _ _ _ _) Tryd.underlying23 rfl (by kernel_rfl)) rfl ?_
  exact ⟨by rw [hr]; rfl, below_four h.bel _ _ _ _⟩
theorem four_other (w : World) (h g : Nat) (hne : g ≠ h) (a b c d : Value) : ((((w.setCell ⟨h, 0, none⟩ a).setCell ⟨h, 1, none⟩ b).setCell ⟨h, 2, none⟩ c).setCell ⟨h, 3, none⟩ d).heap[g]? = w.heap[g]? := by
  rw [Below.heap_setCell _ _ _ _ hne, Below.heap_setCell _ _ _ _ hne, Below.heap_setCell _ _ _ _ hne, Below.heap_setCell _ _ _ _ hne]
theorem below_four1 {w w5 : World} (h : Below w.heap.size w w5) (a b c d : Value) : Below w.heap.size w ((((w5.setCell ⟨w.heap.size + 1, 0, none⟩ a).setCell ⟨w.heap.size + 1, 1, none⟩ b).setCell ⟨w.heap.size + 1, 2, none⟩ c).setCell ⟨w.heap.size + 1, 3, none⟩ d) :=
  (((h.setCell (by simp) _).setCell (by simp) _).setCell (by simp) _).setCell (by simp) _
theorem q_some {w wi : World} (h : QSt w wi) {tmps : Array Value} (t p c : ByteArray) (r z : Int) (hp : tmps.getD 2 undef = .pointer (some ⟨w.heap.size, 0, none⟩)) (hv : tmps.getD 3 undef = .bool true) {l : List UInt8} (hz : z = r) (hr : rdRes l = (⟨t, p, r, c⟩, true)) :
    bodyPost Tryd.prog Tryd.f22 (fun e w' => e = .returned (.tuple #[(rdRes l).1.v, .bool (rdRes l).2]) ∧ Below w.heap.size w w') Exit.ret { tmps := tmps, defers := [] } ((((((((wi.setCell ⟨w.heap.size + 1, 0, none⟩ (.string t)).setCell ⟨w.heap.size + 1, 1, none⟩ (.string p)).setCell ⟨w.heap.size + 1, 2, none⟩ (.int .i64 z)).setCell ⟨w.heap.size + 1, 3, none⟩ (.string c)).setCell ⟨w.heap.size, 0, none⟩ (.string t)).setCell ⟨w.heap.size, 1, none⟩ (.string p)).setCell ⟨w.heap.size, 2, none⟩ (.int .i64 z)).setCell ⟨w.heap.size, 3, none⟩ (.string c)) := by
  subst hz
  refine bodyPost_ret (v := .tuple #[.agg #[.string t, .string p, .int .i64 z, .string c], .bool true]) (results_row_tmp Tryd.results22 _ _ w.heap.size 23 _ _ _ _ hp hv (set_four (k := ⟨⟨#[]⟩, ⟨#[]⟩, 0, ⟨#[]⟩⟩) (by rw [four_other _ _ _ (by omega), h.res]) _ _ _ _) Tryd.underlying23 rfl (by kernel_rfl)) rfl ?_
  exact ⟨by rw [hr]; rfl, below_four (below_four1 h.bel _ _ _ _) _ _ _ _⟩
theorem rd_n1 {l : List UInt8} (h : tk l = none) : rdRes l = (⟨⟨#[]⟩, ⟨#[]⟩, 0, ⟨#[]⟩⟩, false) := by unfold rdRes rd; rw [h]
theorem rd_n2 {l s1 l1 : List UInt8} (h1 : tk l = some (s1, l1)) (h2 : tk l1 = none) : rdRes l = (⟨⟨#[]⟩, ⟨#[]⟩, 0, ⟨#[]⟩⟩, false) := by unfold rdRes rd; rw [h1]; simp only; rw [h2]
theorem rd_n3 {l s1 l1 s2 l2 : List UInt8} (h1 : tk l = some (s1, l1)) (h2 : tk l1 = some (s2, l2)) (h : l2.length < 8) : rdRes l = (⟨⟨#[]⟩, ⟨#[]⟩, 0, ⟨#[]⟩⟩, false) := by unfold rdRes rd; rw [h1]; simp only; rw [h2]; simp only; rw [if_pos h]
theorem rd_n4 {l s1 l1 s2 l2 : List UInt8} (h1 : tk l = some (s1, l1)) (h2 : tk l1 = some (s2, l2)) (h : ¬ l2.length < 8) (h3 : tk (l2.drop 8) = none) : rdRes l = (⟨⟨#[]⟩, ⟨#[]⟩, 0, ⟨#[]⟩⟩, false) := by unfold rdRes rd; rw [h1]; simp only; rw [h2]; simp only; rw [if_neg h, h3]
theorem rd_n5 {l s1 l1 s2 l2 s3 l3 : List UInt8} (h1 : tk l = some (s1, l1)) (h2 : tk l1 = some (s2, l2)) (h : ¬ l2.length < 8) (h3 : tk (l2.drop 8) = some (s3, l3)) (h4 : l3.length ≠ 0) : rdRes l = (⟨⟨#[]⟩, ⟨#[]⟩, 0, ⟨#[]⟩⟩, false) := by
  unfold rdRes rd; rw [h1]; simp only; rw [h2]; simp only; rw [if_neg h, h3]; simp only; rw [if_neg (by rintro rfl; exact h4 rfl)]
theorem rd_some {l s1 l1 s2 l2 s3 l3 : List UInt8} (h1 : tk l = some (s1, l1)) (h2 : tk l1 = some (s2, l2)) (h : ¬ l2.length < 8) (h3 : tk (l2.drop 8) = some (s3, l3)) (h4 : l3.length = 0) : rdRes l = (⟨strB s1, strB s2, decR (l2.take 8), strB s3⟩, true) := by
  unfold rdRes rd; rw [h1]; simp only; rw [h2]; simp only; rw [if_neg h, h3]; simp only; rw [if_pos (List.eq_nil_of_length_eq_zero h4)]; rfl

set_option maxRecDepth 100000 in
set_option maxHeartbeats 4000000 in
theorem refRead_any (ao : Option Addr) (l : List UInt8) (cap : Nat) (w : World) (hs : Sees w ao l) (hn : ao = none → l.length = 0) (hc : l.length ≤ cap) (hl : l.length ≤ 100000) :
    Calls Tryd.prog 22 #[.slice ao l.length cap] w fun e w' => e = .returned (.tuple #[(rdRes l).1.v, .bool (rdRes l).2]) ∧ Below w.heap.size w w' := by
  obtain ⟨wa, hwa⟩ : ∃ wa, wa = (w.alloc (.cells #[.string ⟨#[]⟩, .string ⟨#[]⟩, .int .i64 0, .string ⟨#[]⟩] 23)).alloc (.cells #[.string ⟨#[]⟩, .string ⟨#[]⟩, .int .i64 0, .string ⟨#[]⟩] 23) := ⟨_, rfl⟩
  have hB : Below w.heap.size w wa := by rw [hwa]; exact ((Below.refl _ _).alloc (Nat.le_refl _) _).alloc (by simp) _
  have Q0 : QSt w wa := by
    refine ⟨?_, ?_, hB⟩
    · rw [hwa, Below.heap_alloc _ _ _ (by rw [World.size_alloc]; omega)]; exact heap_alloc_new w _
    · rw [hwa]; have := heap_alloc_new (w.alloc (.cells #[.string ⟨#[]⟩, .string ⟨#[]⟩, .int .i64 0, .string ⟨#[]⟩] 23)) (.cells #[.string ⟨#[]⟩, .string ⟨#[]⟩, .int .i64 0, .string ⟨#[]⟩] 23); rwa [World.size_alloc] at this
  have T1 : Hid (Calls Tryd.prog 39 #[.slice ao l.length cap] wa fun e w' => Below wa.heap.size wa w' ∧ Took l e w') := took_any ao l cap wa (hs.below hB (Nat.le_refl _)) hn hc hl
  have HQ0 : Hid (QSt w wa) := Q0
  clear hs hn hc hB Q0
  go_enter Tryd.func22, Tryd.ntmps22
  go_wp2_with fail
  rw [← hwa]
  clear hwa
  refine T1.out.mono ?_
  rintro e w1 ⟨hb1, hT1⟩
  have Q1 := HQ0.out.below hb1
  have kr := KAt.of (k := ⟨⟨#[]⟩, ⟨#[]⟩, 0, ⟨#[]⟩⟩) Q1.res
  have c0 := kr.t
  have c1 := kr.p
  have c2 := kr.r
  have c3 := kr.c
  have f0 := frozen_of Q1.res 0
  have f1 := frozen_of Q1.res 1
  have f2 := frozen_of Q1.res 2
  have f3 := frozen_of Q1.res 3
  have HQ1 : Hid (QSt w w1) := Q1
  clear kr Q1 hb1 T1 HQ0
  rcases hT1 with ⟨s1, l1, ao1, cap1, e1, hl1, hc1, hs1, hn1, rfl⟩ | ⟨e1, rfl⟩
  rotate_left
  · have HR : Hid (rdRes l = (⟨⟨#[]⟩, ⟨#[]⟩, 0, ⟨#[]⟩⟩, false)) := rd_n1 e1
    clear e1
    go_wp2_with fail
    exact q_none HQ1.out rfl rfl HR.out
  have T2 : Hid (Calls Tryd.prog 39 #[.slice ao1 l1.length cap1] w1 fun e w' => Below w1.heap.size w1 w' ∧ Took l1 e w') := took_any ao1 l1 cap1 w1 hs1 hn1 hc1 (by omega)
  have E1 : Hid (tk l = some (s1, l1)) := e1
  clear hs1 hn1 hc1 e1 c0 c1 c2 c3 f0 f1 f2 f3
  go_wp2_with fail
  refine T2.out.mono ?_
  rintro e w2 ⟨hb2, hT2⟩
  have Q2 := HQ1.out.below hb2
  have kr := KAt.of (k := ⟨⟨#[]⟩, ⟨#[]⟩, 0, ⟨#[]⟩⟩) Q2.res
  have c0 := kr.t
  have c1 := kr.p
  have c2 := kr.r
  have c3 := kr.c
  have f0 := frozen_of Q2.res 0
  have f1 := frozen_of Q2.res 1
  have f2 := frozen_of Q2.res 2
  have f3 := frozen_of Q2.res 3
  have HQ2 : Hid (QSt w w2) := Q2
  clear kr Q2 hb2 T2 HQ1
  rcases hT2 with ⟨s2, l2, ao2, cap2, e2, hl2, hc2, hs2, hn2, rfl⟩ | ⟨e2, rfl⟩
  rotate_left
  · have HR : Hid (rdRes l = (⟨⟨#[]⟩, ⟨#[]⟩, 0, ⟨#[]⟩⟩, false)) := rd_n2 E1.out e2
    clear e2 E1
    go_wp2_with fail
    exact q_none HQ2.out rfl rfl HR.out
  have E2 : Hid (tk l1 = some (s2, l2)) := e2
  have hl2i : (l2.length : Int) ≤ 100000 := by omega
  by_cases h8 : l2.length < 8
  · have HR : Hid (rdRes l = (⟨⟨#[]⟩, ⟨#[]⟩, 0, ⟨#[]⟩⟩, false)) := rd_n3 E1.out e2 h8
    have d8 : decide ((l2.length : Int) < 8) = true := decide_eq_true (by omega)
    clear e2 E1 E2 hs2 hn2
    go_wp2_with fail
    exact q_none HQ2.out rfl rfl HR.out
  have d8 : decide ((l2.length : Int) < 8) = false := decide_eq_false (by omega)
  obtain ⟨a2, rfl, -⟩ := hs2 0 (by omega)
  clear e2 hn2 c0 c1 c2 c3 f0 f1 f2 f3
  have HS2 : Hid (Sees w2 (some a2) l2) := hs2
  have h8n : 8 ≤ l2.length := by omega
  have h8i : (8 : Int) ≤ (l2.length : Int) := by omega
  clear hs2
  go_wp2_with fail
  go_loop [9, 10] (fun s9 s10 => ∃ i U : Nat, i ≤ 8 ∧ s10 = .int .i64 i ∧ s9 = .int .u64 U ∧ U = unbe (l2.take i)) (fun _ s10 => 8 - (intOf s10).toNat)
  case atStart => exact ⟨0, 0, by omega, rfl, rfl, by simp [unbe]⟩
  case round =>
    obtain ⟨i, U, hi, rfl, rfl, hU⟩ := hrel
    have hUb : U < 256 ^ i := by rw [hU]; have := unbe_lt0 (l2.take i); rwa [List.length_take, Nat.min_eq_left (by omega)] at this
    have HU : Hid (U = unbe (l2.take i)) := hU
    by_cases hlt : i < 8
    · have hU56 : U < 72057594037927936 := Nat.lt_of_lt_of_le hUb (Nat.le_trans (Nat.pow_le_pow_right (by omega) (by omega : i ≤ 7)) (by decide))
      have hcell := HS2.out.at i (by omega)
      have HP : Hid (unbe (l2.take (i + 1)) = U * 256 + (l2.getD i 0).toNat) := by
        show _ = _
        have e : l2.getD i 0 = l2[i] := by simp [List.getD, show i < l2.length by omega]
        rw [List.take_succ_eq_append_getElem (by omega), unbe_snoc, ← hU, e]
      have hcb := (l2.getD i 0).toNat_lt
      generalize (l2.getD i 0).toNat = c at *
      have hc : c < 256 := hcb
      obtain ⟨u, hu⟩ : ∃ u : Int, u = (U : Int) := ⟨_, rfl⟩
      obtain ⟨z, hz⟩ : ∃ z : Int, z = (c : Int) := ⟨_, rfl⟩
      have hu0 : 0 ≤ u := by omega
      have hz0 : 0 ≤ z := by omega
      have hUi : u < 72057594037927936 := by omega
      have hci : z < 256 := by omega
      rw [← hz] at hcell
      have Hu : Hid (u = (U : Int)) := hu
      have Hz : Hid (z = (c : Int)) := hz
      rw [← hu]
      have hil : (i : Int) < (l2.length : Int) := by omega
      clear hcb hU hUb hU56 hc hu hz
      go_wp2_with fail
      refine ⟨⟨i + 1, U * 256 + c, by omega, by go_num, ?_, HP.out.symm⟩, by simp [intOf]; omega⟩
      rw [Hu.out, Hz.out]
      exact congrArg _ (or_step U c (by have := Hz.out; omega) (by have := Hu.out; omega))
    · obtain rfl : i = 8 := by omega
      have HF := row_back U (Nat.lt_of_lt_of_le hUb (by decide))
      have HFF : Hid (wrap64 (bits BinOp.xor IntKind.u64 (U : Int) 9223372036854775808) = (U : Int) - 9223372036854775808) := HF
      have HD : Hid ((U : Int) - 9223372036854775808 = decR (l2.take 8)) := by show _ = (unbe (l2.take 8) : Int) - _; rw [← hU]
      clear hU HF hUb HU
      have T3 : Hid (∀ (ao3 : Option Addr), (cap2 = 8 → ao3 = some a2) → (cap2 ≠ 8 → ao3 = some (a2.add 8)) → Calls Tryd.prog 39 #[.slice ao3 (l2.length - 8) (cap2 - 8)] w2 fun e w' => Below w2.heap.size w2 w' ∧ Took (l2.drop 8) e w') := fun ao3 h1 h2 => by
        have := took_any ao3 (l2.drop 8) (cap2 - 8) w2 (by
          by_cases h : cap2 = 8
          · rw [h1 h]; intro j hj; rw [List.length_drop] at hj; omega
          · rw [h2 h]; exact HS2.out.dropAdd 8) (fun e => by
          by_cases h : cap2 = 8
          · rw [h1 h] at e; cases e
          · rw [h2 h] at e; cases e) (by rw [List.length_drop]; omega) (by rw [List.length_drop]; omega)
        rw [List.length_drop] at this; exact this
      by_cases hcap : cap2 = 8
      · have T3' : Hid (Calls Tryd.prog 39 #[.slice (some a2) (l2.length - 8) 0] w2 fun e w' => Below w2.heap.size w2 w' ∧ Took (l2.drop 8) e w') := by
          have := T3.out (some a2) (fun _ => rfl) (fun h => absurd hcap h)
          rw [hcap] at this; exact this
        go_wp2_with fail
        refine T3'.out.mono ?_
        rintro e w3 ⟨hb3, hT3⟩
        have Q3 := HQ2.out.below hb3
        have HQ3 : Hid (QSt w w3) := Q3
        have kr := KAt.of (k := ⟨⟨#[]⟩, ⟨#[]⟩, 0, ⟨#[]⟩⟩) Q3.res
        have c0 := kr.t
        have c1 := kr.p
        have c2 := kr.r
        have c3 := kr.c
        have f0 := frozen_of Q3.res 0
        have f1 := frozen_of Q3.res 1
        have f2 := frozen_of Q3.res 2
        have f3 := frozen_of Q3.res 3
        have kq := KAt.of (k := ⟨⟨#[]⟩, ⟨#[]⟩, 0, ⟨#[]⟩⟩) Q3.key
        have p0 := kq.t
        have p1 := kq.p
        have p2 := kq.r
        have p3 := kq.c
        have j0 := frozen_of Q3.key 0
        have j1 := frozen_of Q3.key 1
        have j2 := frozen_of Q3.key 2
        have j3 := frozen_of Q3.key 3
        clear kr kq Q3 hb3 T3 T3' HQ2
        rcases hT3 with ⟨s3, l3, ao3, cap3, e3, hl3, hc3, hs3, hn3, rfl⟩ | ⟨e3, rfl⟩
        · have hl3i : (l3.length : Int) ≤ 100000 := by rw [List.length_drop] at hl3; omega
          clear hs3 hn3 hc3 hl3
          by_cases h0 : l3.length = 0
          · have HR : Hid (rdRes l = (⟨strB s1, strB s2, decR (l2.take 8), strB s3⟩, true)) := rd_some E1.out E2.out (by omega) e3 h0
            have d0 : decide (0 < (l3.length : Int)) = false := decide_eq_false (by omega)
            have d1 : decide (0 < l3.length) = false := decide_eq_false (by omega)
            have d2 : ¬ 0 < l3.length := by omega
            have HZ : Hid (wrap64 (bits BinOp.xor IntKind.u64 (U : Int) 9223372036854775808) = decR (l2.take 8)) := HFF.out.trans HD.out
            clear e3 E1 E2 h0 HS2 HFF HD
            go_wp2_with fail
            have hz := HZ.out
            clear HZ
            revert hz
            generalize wrap64 (bits BinOp.xor IntKind.u64 (U : Int) 9223372036854775808) = zz
            intro hz
            exact q_some HQ3.out (strB s1) (strB s2) (strB s3) (decR (l2.take 8)) zz rfl rfl hz HR.out
          · have HR : Hid (rdRes l = (⟨⟨#[]⟩, ⟨#[]⟩, 0, ⟨#[]⟩⟩, false)) := rd_n5 E1.out E2.out (by omega) e3 h0
            have d0 : decide (0 < (l3.length : Int)) = true := decide_eq_true (by omega)
            have d1 : decide (0 < l3.length) = true := decide_eq_true (by omega)
            have d2 : 0 < l3.length := by omega
            clear e3 E1 E2 h0 HS2
            go_wp2_with fail
            exact q_none HQ3.out rfl rfl HR.out
        · have HR : Hid (rdRes l = (⟨⟨#[]⟩, ⟨#[]⟩, 0, ⟨#[]⟩⟩, false)) := rd_n4 E1.out E2.out (by omega) e3
          clear e3 E1 E2 HS2
          go_wp2_with fail
          exact q_none HQ3.out rfl rfl HR.out
      · have T3' : Hid (Calls Tryd.prog 39 #[.slice (some ⟨a2.block, a2.off + 8, none⟩) (l2.length - 8) (cap2 - 8)] w2 fun e w' => Below w2.heap.size w2 w' ∧ Took (l2.drop 8) e w') := T3.out (some (a2.add 8)) (fun h => absurd h hcap) (fun _ => rfl)
        go_wp2_with fail
        refine T3'.out.mono ?_
        rintro e w3 ⟨hb3, hT3⟩
        have Q3 := HQ2.out.below hb3
        have HQ3 : Hid (QSt w w3) := Q3
        have kr := KAt.of (k := ⟨⟨#[]⟩, ⟨#[]⟩, 0, ⟨#[]⟩⟩) Q3.res
        have c0 := kr.t
        have c1 := kr.p
        have c2 := kr.r
        have c3 := kr.c
        have f0 := frozen_of Q3.res 0
        have f1 := frozen_of Q3.res 1
        have f2 := frozen_of Q3.res 2
        have f3 := frozen_of Q3.res 3
        have kq := KAt.of (k := ⟨⟨#[]⟩, ⟨#[]⟩, 0, ⟨#[]⟩⟩) Q3.key
        have p0 := kq.t
        have p1 := kq.p
        have p2 := kq.r
        have p3 := kq.c
        have j0 := frozen_of Q3.key 0
        have j1 := frozen_of Q3.key 1
        have j2 := frozen_of Q3.key 2
        have j3 := frozen_of Q3.key 3
        clear kr kq Q3 hb3 T3 T3' HQ2
        rcases hT3 with ⟨s3, l3, ao3, cap3, e3, hl3, hc3, hs3, hn3, rfl⟩ | ⟨e3, rfl⟩
        · have hl3i : (l3.length : Int) ≤ 100000 := by rw [List.length_drop] at hl3; omega
          clear hs3 hn3 hc3 hl3
          by_cases h0 : l3.length = 0
          · have HR : Hid (rdRes l = (⟨strB s1, strB s2, decR (l2.take 8), strB s3⟩, true)) := rd_some E1.out E2.out (by omega) e3 h0
            have d0 : decide (0 < (l3.length : Int)) = false := decide_eq_false (by omega)
            have d1 : decide (0 < l3.length) = false := decide_eq_false (by omega)
            have d2 : ¬ 0 < l3.length := by omega
            have HZ : Hid (wrap64 (bits BinOp.xor IntKind.u64 (U : Int) 9223372036854775808) = decR (l2.take 8)) := HFF.out.trans HD.out
            clear e3 E1 E2 h0 HS2 HFF HD
            go_wp2_with fail
            have hz := HZ.out
            clear HZ
            revert hz
            generalize wrap64 (bits BinOp.xor IntKind.u64 (U : Int) 9223372036854775808) = zz
            intro hz
            exact q_some HQ3.out (strB s1) (strB s2) (strB s3) (decR (l2.take 8)) zz rfl rfl hz HR.out
          · have HR : Hid (rdRes l = (⟨⟨#[]⟩, ⟨#[]⟩, 0, ⟨#[]⟩⟩, false)) := rd_n5 E1.out E2.out (by omega) e3 h0
            have d0 : decide (0 < (l3.length : Int)) = true := decide_eq_true (by omega)
            have d1 : decide (0 < l3.length) = true := decide_eq_true (by omega)
            have d2 : 0 < l3.length := by omega
            clear e3 E1 E2 h0 HS2
            go_wp2_with fail
            exact q_none HQ3.out rfl rfl HR.out
        · have HR : Hid (rdRes l = (⟨⟨#[]⟩, ⟨#[]⟩, 0, ⟨#[]⟩⟩, false)) := rd_n4 E1.out E2.out (by omega) e3
          clear e3 E1 E2 HS2
          go_wp2_with fail
          exact q_none HQ3.out rfl rfl HR.out
end Go.Proofs.YtniilnifhgdhcaaDoor

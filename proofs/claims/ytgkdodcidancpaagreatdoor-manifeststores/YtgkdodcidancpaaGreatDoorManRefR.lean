/-
  CONTRACT: the document's answer for layer 13: Read.
-/
import Derived.Test.YtgkdodcidancpaaGreatDoorMany29
import Derived.Test.YtgkdodcidancpaaGreatDoorRefUnframe
namespace Go.Proofs.YtgkdodcidancpaaGreatDoor
open Go.RowKit

theorem numsB_ge (l : List Int) : l.length ≤ (numsB l).length := by
  induction l with
  | nil => simp [numsB]
  | cons n l ih =>
    have := numL_length n.toNat
    rw [numsB_cons, List.length_append, List.length_cons]; omega
/-- What is no manifest: the content does not go on with a number. -/
theorem none_stop {b : List UInt8} {l : List Int} {r : List UInt8} (h : unfB b = numsB l ++ r) (hl : Bdd l) (hr : r ≠ []) (hb : getK r = 0 ∨ 999999999 < getV r) : rdM b = none := rdM_none fun m hg e => by
  subst e
  obtain ⟨t1, t2, t3⟩ := tells_whole (contM m) (by have := good_len hg; omega) []
  rw [List.append_nil] at t3
  have h2 : numsB l ++ r = numsB (listM m) := by rw [← h]; exact t3
  have := numsB_stop hl (good_bdd hg) h2 hr
  omega
theorem none_list {b : List UInt8} {l : List Int} (h : unfB b = numsB l) (hl : Bdd l) (hb : ∀ m, goodM m = true → listM m ≠ l) : rdM b = none := rdM_none fun m hg e => by
  subst e
  obtain ⟨t1, t2, t3⟩ := tells_whole (contM m) (by have := good_len hg; omega) []
  rw [List.append_nil] at t3
  have h2 : numsB (listM m) = numsB l := by rw [← h]; exact t3.symm
  exact hb m hg (numsB_inj (good_bdd hg) hl h2)
theorem some_list {b : List UInt8} {m : Mf} (h : unfB b = numsB (listM m)) (hE : unfE b = 0) (hN : unfN b = b.length) (hg : goodM m = true) : rdM b = some m := by
  refine rdM_iff.2 ⟨hg, ?_⟩
  have := (frame_back hE hN).1
  rw [h] at this
  exact this
theorem listM_inj {m m' : Mf} (h : listM m = listM m') : m = m' := by
  obtain ⟨ts, nx, fr⟩ := m
  obtain ⟨ts', nx', fr'⟩ := m'
  simp only [listM, List.cons.injEq] at h
  obtain ⟨rfl, rfl, -, rfl⟩ := h
  rfl
theorem list_shape {l : List Int} (h3 : 3 ≤ l.length) (hz : (l.length : Int) = 3 + l.getD 2 0) : l = listM ⟨l.drop 3, l.getD 0 0, l.getD 1 0⟩ := by
  match l, h3 with
  | x0 :: x1 :: x2 :: r, _ =>
    simp only [listM, List.drop_succ_cons, List.drop_zero]
    have : x2 = (r.length : Int) := by simp at hz; omega
    rw [this]
    rfl
/-- Read, on its way: l is read, r is left. -/
structure RSt (w w2 u : World) (b : List UInt8) (l : List Int) (v : Value) (r : List UInt8) (a : Option Addr) (cp : Nat) : Prop where
  cont : unfB b = numsB l ++ r
  bdd : Bdd l
  row : u.ownsRow w2.heap.size 3 1 v l.length (vI l)
  see : Sees u a r
  cap : r.length ≤ cp ∧ cp ≤ 9223372036854775807
  at' : (a = none ∧ r.length = 0) ∨ ∃ q off, a = some ⟨q, off, none⟩ ∧ q < w2.heap.size
  bel : Below w2.heap.size w2 u
theorem RSt.few {w w2 u : World} {b : List UInt8} {l : List Int} {v : Value} {r : List UInt8} {a : Option Addr} {cp : Nat} (h : RSt w w2 u b l v r a cp) : l.length + r.length ≤ (unfB b).length := by
  have := numsB_ge l
  rw [h.cont, List.length_append]; omega
def lenOf : Value → Nat
  | .slice _ n _ => n
  | _ => 0
theorem RSt.next {w w2 u u' : World} {b : List UInt8} {l : List Int} {v v' : Value} {r : List UInt8} {q off cp : Nat} (h : RSt w w2 u b l v r (some ⟨q, off, none⟩) cp) (hq : q < w2.heap.size) (hk : getK r ≠ 0) (hv : getV r ≤ 999999999) (ho : u'.ownsRow w2.heap.size 3 1 v' (l.length + 1) (vI l ++ vI [(getV r : Int)])) (hb : Below w2.heap.size w2 u') (o' : Nat) (hoo : getK r < cp → o' = off + getK r) : RSt w w2 u' b (l ++ [(getV r : Int)]) v' (r.drop (getK r)) (some ⟨q, o', none⟩) (cp - getK r) := by
  obtain ⟨g1, g2, g3, g4⟩ := get_canon hk
  have hkl := getK_le r
  have e1 : (l ++ [(getV r : Int)]).length = l.length + 1 := by simp
  have e2 : vI (l ++ [(getV r : Int)]) = vI l ++ vI [(getV r : Int)] := by simp [vI]
  have hsu : Sees u' (some ⟨q, off, none⟩) r := fun i hi => by
    obtain ⟨a', e, hc⟩ := h.see i hi
    cases e
    refine ⟨_, rfl, ?_⟩
    rw [World.cell?_of_block (w := u)]
    · exact hc
    · rw [Addr.add_block]
      exact (hb.block q hq).trans (h.bel.block q hq).symm
  refine ⟨?_, fun n hn => ?_, by rw [e1, e2]; exact ho, ?_, ?_, .inr ⟨q, o', rfl, hq⟩, hb⟩
  · rw [numsB_app, h.cont, List.append_assoc]
    congr 1
    rw [numsB_cons, numsB_nil, List.append_nil, Int.toNat_natCast]
    exact g1
  · rcases List.mem_append.1 hn with hn | hn
    · exact h.bdd n hn
    · rw [List.mem_singleton] at hn; omega
  · rcases Nat.lt_or_ge (getK r) cp with hlt | hge
    · rw [hoo hlt]; exact sees_dropM hsu _
    · intro i hi
      rw [List.length_drop] at hi
      have := h.cap
      omega
  · have := h.cap
    rw [List.length_drop]
    omega
set_option maxRecDepth 100000 in
set_option maxHeartbeats 4000000 in
theorem refReadM_any (ao : Option Addr) (b : List UInt8) (cap : Nat) (w : World) (hs : Sees w ao b) (hcap : b.length ≤ cap) (hl : b.length ≤ 1000000) :
    Calls Tryz.prog 42 #[.slice ao b.length cap] w fun e w' => ∃ a5 c5, e = .returned (.tuple #[mval a5 c5 (rdF b), .int .i64 (rdE b)]) ∧ MSees w' a5 c5 (rdF b) ∧ Below w.heap.size w w' := by
  obtain ⟨i0, hi, hz0, hz1, hz2⟩ := info_parts infoInt
  have hB0 : Below w.heap.size w (w.alloc (.cells #[.slice none 0 0, .int .i64 0, .int .i64 0] 39)) := (Below.refl _ _).alloc (Nat.le_refl _) _
  have k0 := Blk.new w [.slice none 0 0, .int .i64 0, .int .i64 0] 39
  have CU : Hid (Calls Tryz.prog 82 #[.slice ao b.length cap] (w.alloc (.cells #[.slice none 0 0, .int .i64 0, .int .i64 0] 39)) fun e w' => ∃ a c, e = .returned (.tuple #[.slice a (unfB b).length c, .int .i64 (unfN b), .int .i64 (unfE b)]) ∧ RSt w w' w' b [] (.slice none 0 0) (unfB b) a c ∧ Below w.heap.size w w' ∧ Blk w' w.heap.size [.slice none 0 0, .int .i64 0, .int .i64 0] 39) := by
    refine (refUnframe_any ao b cap _ (hs.below hB0 (Nat.le_refl _)) (by omega) hcap).mono ?_
    rintro e w' ⟨v', rfl, h2, h3⟩
    obtain ⟨a, c, rfl, s1, l1, n1⟩ := owns_sees h2
    have hcm : (unfB b).length ≤ c ∧ c ≤ 9223372036854775807 := by
      rcases h2.2 with ⟨e, h0⟩ | ⟨g, cp, cur, e, g1, g2, g3, g4, _⟩
      · simp only [Value.slice.injEq] at e; omega
      · simp only [Value.slice.injEq] at e; unfold maxLen at g4; omega
    have hat : (a = none ∧ (unfB b).length = 0) ∨ ∃ q off, a = some ⟨q, off, none⟩ ∧ q < w'.heap.size := by
      rcases h2.2 with ⟨e, h0⟩ | ⟨g, cp, cur, e, g1, g2, _⟩
      · simp only [Value.slice.injEq] at e; exact .inl ⟨e.1, h0⟩
      · simp only [Value.slice.injEq] at e; exact .inr ⟨g, 0, e.1, (Array.getElem?_eq_some_iff.1 g2).1⟩
    exact ⟨a, c, rfl, ⟨rfl, (fun n hn => by cases hn), World.ownsRow_nil _ _ _ _, s1, hcm, hat, Below.refl _ _⟩, hB0.trans (h3.mono hB0.size), k0.carry (h3.block _ k0.lt)⟩
  have HZ : Hid (∀ w', Below w.heap.size w w' → rdM b = none → ∃ a5 c5, Ending.returned (.tuple #[.agg #[.slice none 0 0, .int .i64 0, .int .i64 0], .int .i64 8]) = .returned (.tuple #[mval a5 c5 (rdF b), .int .i64 (rdE b)]) ∧ MSees w' a5 c5 (rdF b) ∧ Below w.heap.size w w') := fun w' hb hr => by
    obtain ⟨e1, e2⟩ := rd_none hr
    rw [e1, e2]
    exact ⟨none, 0, rfl, ⟨fun i x hx => by simp at hx, fun _ => rfl, Nat.le_refl _⟩, hb⟩
  have hlB : (unfB b).length ≤ 1000000 := by
    unfold unfB
    split
    · rw [List.length_take, List.length_drop]; omega
    · simp
  by_cases hbad : unfE b ≠ 0 ∨ unfN b ≠ b.length
  · have HR : Hid (rdM b = none) := by
      rcases hbad with h | h
      · exact rdM_bad h
      · exact rdM_more h
    have hbl : (b.length : Int) ≤ 1000000 := by omega
    clear hs hcap hl k0 hB0 hlB
    by_cases hE : unfE b = 0
    · have hNi : ((unfN b : Int) == (b.length : Int)) = false := by rw [beq_eq_false_iff_ne]; rcases hbad with h | h; exact absurd hE h; omega
      rw [hE] at CU
      generalize (unfN b : Int) = Nn at *
      clear hbad hE
      go_enter Tryz.func42, Tryz.ntmps42
      go_wp2_with fail
      go_fit CU.out
      rintro e w5 ⟨a, c, rfl, _, hB5, hk5⟩
      have HB5 : Hid (Below w.heap.size w w5) := hB5
      have f0 := hk5.frozen 0
      have f1 := hk5.frozen 1
      have f2 := hk5.frozen 2
      have n0 := hk5.cell 0 rfl
      have n1 := hk5.cell 1 rfl
      have n2 := hk5.cell 2 rfl
      have HKz : Hid (Blk (((w5.setCell ⟨w.heap.size, 0, none⟩ (.slice none 0 0)).setCell ⟨w.heap.size, 1, none⟩ (.int .i64 0)).setCell ⟨w.heap.size, 2, none⟩ (.int .i64 0)) w.heap.size [.slice none 0 0, .int .i64 0, .int .i64 0] 39) := ((hk5.setTo 0 _ _ rfl).setTo 1 _ _ rfl).setTo 2 _ _ rfl
      clear hk5 hB5 CU
      go_wp2_with fail
      refine bodyPost_ret (v := .tuple #[.agg #[.slice none 0 0, .int .i64 0, .int .i64 0], .int .i64 8]) (results_row_tmpM Tryz.results42 _ _ w.heap.size 39 _ _ _ _ rfl rfl HKz.out Tryz.underlying39 rfl (by kernel_rfl)) rfl ?_
      exact HZ.out _ (((HB5.out.setCell (Nat.le_refl _) _).setCell (Nat.le_refl _) _).setCell (Nat.le_refl _) _) HR.out
    · have hEi : ((unfE b : Int) == 0) = false := by rw [beq_eq_false_iff_ne]; omega
      generalize (unfE b : Int) = En at *
      clear hbad hE
      go_enter Tryz.func42, Tryz.ntmps42
      go_wp2_with fail
      go_fit CU.out
      rintro e w5 ⟨a, c, rfl, _, hB5, hk5⟩
      have HB5 : Hid (Below w.heap.size w w5) := hB5
      have f0 := hk5.frozen 0
      have f1 := hk5.frozen 1
      have f2 := hk5.frozen 2
      have n0 := hk5.cell 0 rfl
      have n1 := hk5.cell 1 rfl
      have n2 := hk5.cell 2 rfl
      have HKz : Hid (Blk (((w5.setCell ⟨w.heap.size, 0, none⟩ (.slice none 0 0)).setCell ⟨w.heap.size, 1, none⟩ (.int .i64 0)).setCell ⟨w.heap.size, 2, none⟩ (.int .i64 0)) w.heap.size [.slice none 0 0, .int .i64 0, .int .i64 0] 39) := ((hk5.setTo 0 _ _ rfl).setTo 1 _ _ rfl).setTo 2 _ _ rfl
      clear hk5 hB5 CU
      go_wp2_with fail
      refine bodyPost_ret (v := .tuple #[.agg #[.slice none 0 0, .int .i64 0, .int .i64 0], .int .i64 8]) (results_row_tmpM Tryz.results42 _ _ w.heap.size 39 _ _ _ _ rfl rfl HKz.out Tryz.underlying39 rfl (by kernel_rfl)) rfl ?_
      exact HZ.out _ (((HB5.out.setCell (Nat.le_refl _) _).setCell (Nat.le_refl _) _).setCell (Nat.le_refl _) _) HR.out
  have hE : unfE b = 0 := Classical.byContradiction fun h => hbad (.inl h)
  have hN : unfN b = b.length := Classical.byContradiction fun h => hbad (.inr h)
  have HEN : Hid (unfE b = 0 ∧ unfN b = b.length) := ⟨hE, hN⟩
  rw [hE, hN] at CU
  have hbl : (b.length : Int) ≤ 1000000 := by omega
  clear hs hcap hl k0 hB0 hbad hE hN
  go_enter Tryz.func42, Tryz.ntmps42
  go_wp2_with fail
  go_fit CU.out
  rintro e w2 ⟨a, c, rfl, hR0, hB2, hk2⟩
  have HB2 : Hid (Below w.heap.size w w2) := hB2
  have HK2 : Hid (Blk w2 w.heap.size [.slice none 0 0, .int .i64 0, .int .i64 0] 39) := hk2
  have HR0 : Hid (RSt w w2 w2 b [] (.slice none 0 0) (unfB b) a c) := hR0
  have HLB : Hid ((unfB b).length ≤ 1000000) := hlB
  clear hB2 hk2 hR0 CU hlB
  go_wp2_with fail
  go_loopw [4, 7] (fun s4 s7 wr => ∃ (l : List Int) (v : Value) (r : List UInt8) (a : Option Addr) (cp : Nat), v = s7 ∧ s4 = .slice a r.length cp ∧ RSt w w2 wr b l v r a cp) (fun s4 _ _ => lenOf s4)
  case atStart => exact ⟨[], _, unfB b, a, c, rfl, rfl, HR0.out⟩
  case round =>
    clear HR0
    obtain ⟨l, v, r, a, cp, rfl, rfl, hR⟩ := hrel
    have hfew := hR.few
    have hlb := HLB.out
    have HBr : Hid (Below w.heap.size w wr) := HB2.out.trans (hR.bel.mono HB2.out.size)
    have hk5 : Blk wr w.heap.size [.slice none 0 0, .int .i64 0, .int .i64 0] 39 := HK2.out.carry (hR.bel.block _ HK2.out.lt)
    have HB5 := HBr
    rcases Nat.eq_zero_or_pos r.length with hr0 | hrp
    · have hr1 : r = [] := List.eq_nil_of_length_eq_zero hr0
      have hcont : unfB b = numsB l := by have := hR.cont; rw [hr1, List.append_nil] at this; exact this
      obtain ⟨va, vc, hv, hse, hnl, hvc, hvm⟩ := owns_msees hR.row
      subst hv
      have hli : (l.length : Int) ≤ 1000000 := by omega
      have hr0i : ¬ (0 : Int) < (r.length : Int) := by omega
      have hbd := hR.bdd
      rw [hr0]
      by_cases h3 : l.length < 3
      · have HR : Hid (rdM b = none) := none_list hcont hbd fun m _ e => by rw [← e] at h3; simp [listM] at h3; omega
        have h3i : (l.length : Int) < 3 := by omega
        have f0 := hk5.frozen 0
        have f1 := hk5.frozen 1
        have f2 := hk5.frozen 2
        have n0 := hk5.cell 0 rfl
        have n1 := hk5.cell 1 rfl
        have n2 := hk5.cell 2 rfl
        have HKz : Hid (Blk (((wr.setCell ⟨w.heap.size, 0, none⟩ (.slice none 0 0)).setCell ⟨w.heap.size, 1, none⟩ (.int .i64 0)).setCell ⟨w.heap.size, 2, none⟩ (.int .i64 0)) w.heap.size [.slice none 0 0, .int .i64 0, .int .i64 0] 39) := ((hk5.setTo 0 _ _ rfl).setTo 1 _ _ rfl).setTo 2 _ _ rfl
        clear hk5 hR hfew hcont hbd hse hnl hr0i
        generalize l.length = ln at *
        go_wp2_with fail
        refine bodyPost_ret (v := .tuple #[.agg #[.slice none 0 0, .int .i64 0, .int .i64 0], .int .i64 8]) (results_row_tmpM Tryz.results42 _ _ w.heap.size 39 _ _ _ _ rfl rfl HKz.out Tryz.underlying39 rfl (by kernel_rfl)) rfl ?_
        exact HZ.out _ (((HB5.out.setCell (Nat.le_refl _) _).setCell (Nat.le_refl _) _).setCell (Nat.le_refl _) _) HR.out
      obtain ⟨bq, oq, rfl, hcs⟩ := isees_at hse (by omega)
      have c2 := hcs 2 (by omega)
      have hz2' : 0 ≤ l.getD 2 0 ∧ l.getD 2 0 ≤ 999999999 := hbd _ (by rw [List.getD_eq_getElem?_getD, List.getElem?_eq_getElem (show 2 < l.length by omega)]; exact List.getElem_mem _)
      have h3i : ¬ (l.length : Int) < 3 := by omega
      have h3l : (3 : Int) ≤ (l.length : Int) := by omega
      by_cases hz : (l.length : Int) = 3 + l.getD 2 0
      · have hlm := list_shape (l := l) (by omega) hz
        have c0 : wr.cell? ⟨bq, oq, none⟩ = some (.int .i64 (l.getD 0 0)) := hcs 0 (by omega)
        have c1 := hcs 1 (by omega)
        have HCS : Hid (∀ j, j < l.length → wr.cell? ⟨bq, oq + j, none⟩ = some (.int .i64 (l.getD j 0))) := hcs
        have HLM : Hid (l = listM ⟨l.drop 3, l.getD 0 0, l.getD 1 0⟩) := hlm
        have HCO : Hid (unfB b = numsB l) := hcont
        have HBD : Hid (Bdd l) := hbd
        have hblt : bq < wr.heap.size := World.block_lt_of_cell? _ _ c0
        have HBQ : Hid (bq ≠ w.heap.size) := by
          have h1 := (hR.row.lt bq rfl).1
          have h2 := HK2.out.lt
          show bq ≠ w.heap.size
          omega
        have HK5 : Hid (Blk wr w.heap.size [.slice none 0 0, .int .i64 0, .int .i64 0] 39) := hk5
        have hzb : ((l.length : Int) == 3 + l.getD 2 0) = true := by rw [beq_iff_eq]; exact hz
        have HDR : Hid ((l.drop 3).length = l.length - 3) := List.length_drop
        by_cases hv3 : vc = 3
        · subst hv3
          have hl3 : l.length = 3 := by omega
          have q0 := fun o : Obj => (Below.refl wr.heap.size wr).alloc (Nat.le_refl _) o
          have d0 : ∀ o : Obj, (wr.alloc o).cell? ⟨bq, oq, none⟩ = some (.int .i64 (l.getD 0 0)) := fun o => by rw [(q0 o).cell hblt]; exact c0
          have d1 : ∀ o : Obj, (wr.alloc o).cell? ⟨bq, oq + 1, none⟩ = some (.int .i64 (l.getD 1 0)) := fun o => by rw [(q0 o).cell hblt]; exact c1
          clear hk5 hR hfew hcont hbd hse hnl hr0i hcs hlm hz q0
          obtain ⟨x0, hx0⟩ : ∃ x0, l.getD 0 0 = x0 := ⟨_, rfl⟩
          obtain ⟨x1, hx1⟩ : ∃ x1, l.getD 1 0 = x1 := ⟨_, rfl⟩
          obtain ⟨x2, hx2⟩ : ∃ x2, l.getD 2 0 = x2 := ⟨_, rfl⟩
          obtain ⟨ln, hln⟩ : ∃ ln, l.length = ln := ⟨_, rfl⟩
          rw [hx0] at c0 d0
          rw [hx1] at c1 d1
          rw [hx2] at c2 hzb hz2'
          rw [hln] at hzb hli h3i h3l hvc h3
          rw [hln]
          have HDR2 : Hid ((l.drop 3).length = 0) := by show _ = _; rw [List.length_drop, hln]; omega
          have HLM2 : Hid (l = listM ⟨l.drop 3, x0, x1⟩) := by have := HLM.out; rw [hx0, hx1] at this; exact this
          have HMS : Hid (∀ u, Below wr.heap.size wr u → MSees u (some ⟨bq, oq, none⟩) (0) ⟨l.drop 3, x0, x1⟩) := fun u hu => ⟨(fun i x hx => by
            have hil : 3 + i < l.length := by have := (List.getElem?_eq_some_iff.1 hx).1; rw [List.length_drop] at this; omega
            omega), (fun e => by cases e), by show (l.drop 3).length ≤ _; rw [HDR2.out]; omega⟩
          have hln3 : ln = 3 := by omega
          clear hx0 hx1 hx2 hln hl3
          subst hln3
          go_wp2_with fail
          go_region
          have hu : Below wr.heap.size wr (wr.alloc (.cells #[.slice (some ⟨bq, oq, none⟩) 0 0, .int .i64 x0, .int .i64 x1] 39)).drew := ((Below.refl _ _).alloc (Nat.le_refl _) _).drew
          have kX : Blk (wr.alloc (.cells #[.slice (some ⟨bq, oq, none⟩) 0 0, .int .i64 x0, .int .i64 x1] 39)).drew wr.heap.size [.slice (some ⟨bq, oq, none⟩) 0 0, .int .i64 x0, .int .i64 x1] 39 := Blk.new wr _ _
          have hk4 : Blk (wr.alloc (.cells #[.slice (some ⟨bq, oq, none⟩) 0 0, .int .i64 x0, .int .i64 x1] 39)).drew w.heap.size [.slice none 0 0, .int .i64 0, .int .i64 0] 39 := HK5.out.carry (hu.block _ HK5.out.lt)
          have hBu : Below w.heap.size w (wr.alloc (.cells #[.slice (some ⟨bq, oq, none⟩) 0 0, .int .i64 x0, .int .i64 x1] 39)).drew := HBr.out.trans (hu.mono HBr.out.size)
          have hms := HMS.out _ hu
          generalize (wr.alloc (.cells #[.slice (some ⟨bq, oq, none⟩) 0 0, .int .i64 x0, .int .i64 x1] 39)).drew = u5 at *
          have hXne : wr.heap.size ≠ w.heap.size := by have := HK5.out.lt; omega
          have CG : Calls Tryz.prog 65 #[.agg #[.slice (some ⟨bq, oq, none⟩) 0 0, .int .i64 x0, .int .i64 x1]] u5 fun e w' => e = .returned (.bool (goodM ⟨l.drop 3, x0, x1⟩)) ∧ Below u5.heap.size u5 w' := by
            have := refGoodM_any (some ⟨bq, oq, none⟩) (0) ⟨l.drop 3, x0, x1⟩ u5 hms (by show (l.drop 3).length ≤ _; rw [HDR2.out]; omega)
            unfold mval at this
            dsimp only at this
            rw [HDR2.out] at this
            exact this
          have g0 := kX.cell 0 rfl
          have g1 := kX.cell 1 rfl
          have g2 := kX.cell 2 rfl
          clear hu
          cases hgd : goodM ⟨l.drop 3, x0, x1⟩ with
          | false =>
            rw [hgd] at CG
            have HR : Hid (rdM b = none) := none_list HCO.out HBD.out fun m hg e => by
              have : listM m = listM ⟨l.drop 3, x0, x1⟩ := e.trans HLM2.out
              rw [listM_inj this, hgd] at hg
              cases hg
            clear hgd
            go_wp2_with fail
            go_fit CG
            rintro e w6 ⟨rfl, hB6⟩
            have hk5 := hk4.carry (hB6.block _ hk4.lt)
            have HB6 : Hid (Below w.heap.size w w6) := hBu.trans (hB6.mono hBu.size)
            have f0 := hk5.frozen 0
            have f1 := hk5.frozen 1
            have f2 := hk5.frozen 2
            have n0 := hk5.cell 0 rfl
            have n1 := hk5.cell 1 rfl
            have n2 := hk5.cell 2 rfl
            have HKz : Hid (Blk (((w6.setCell ⟨w.heap.size, 0, none⟩ (.slice none 0 0)).setCell ⟨w.heap.size, 1, none⟩ (.int .i64 0)).setCell ⟨w.heap.size, 2, none⟩ (.int .i64 0)) w.heap.size [.slice none 0 0, .int .i64 0, .int .i64 0] 39) := ((hk5.setTo 0 _ _ rfl).setTo 1 _ _ rfl).setTo 2 _ _ rfl
            clear hk5 hk4 hB6 hBu CG hms kX g0 g1 g2
            go_wp2_with fail
            refine bodyPost_ret (v := .tuple #[.agg #[.slice none 0 0, .int .i64 0, .int .i64 0], .int .i64 8]) (results_row_tmpM Tryz.results42 _ _ w.heap.size 39 _ _ _ _ rfl rfl HKz.out Tryz.underlying39 rfl (by kernel_rfl)) rfl ?_
            exact HZ.out _ (((HB6.out.setCell (Nat.le_refl _) _).setCell (Nat.le_refl _) _).setCell (Nat.le_refl _) _) HR.out
          | true =>
            rw [hgd] at CG
            have HR : rdM b = some ⟨l.drop 3, x0, x1⟩ := some_list (by rw [← HLM2.out]; exact HCO.out) HEN.out.1 HEN.out.2 hgd
            obtain ⟨r1, r2⟩ := rd_some HR
            clear hgd HR
            go_wp2_with fail
            go_fit CG
            rintro e w6 ⟨rfl, hB6⟩
            have hk5 := hk4.carry (hB6.block _ hk4.lt)
            have kX6 := kX.carry (hB6.block _ kX.lt)
            have hm6 := hms.below hB6 (Nat.le_refl _)
            have HB6 : Hid (Below w.heap.size w w6) := hBu.trans (hB6.mono hBu.size)
            have f0 := hk5.frozen 0
            have f1 := hk5.frozen 1
            have f2 := hk5.frozen 2
            have n0 := hk5.cell 0 rfl
            have n1 := hk5.cell 1 rfl
            have n2 := hk5.cell 2 rfl
            have m0 := kX6.cell 0 rfl
            have m1 := kX6.cell 1 rfl
            have m2 := kX6.cell 2 rfl
            have HKz : Hid (Blk (((w6.setCell ⟨w.heap.size, 0, none⟩ (.slice (some ⟨bq, oq, none⟩) 0 0)).setCell ⟨w.heap.size, 1, none⟩ (.int .i64 x0)).setCell ⟨w.heap.size, 2, none⟩ (.int .i64 x1)) w.heap.size [.slice (some ⟨bq, oq, none⟩) 0 0, .int .i64 x0, .int .i64 x1] 39) := ((hk5.setTo 0 _ _ rfl).setTo 1 _ _ rfl).setTo 2 _ _ rfl
            have HEX : Hid (∃ a5 c5, Ending.returned (.tuple #[.agg #[.slice (some ⟨bq, oq, none⟩) 0 0, .int .i64 x0, .int .i64 x1], .int .i64 0]) = .returned (.tuple #[mval a5 c5 (rdF b), .int .i64 (rdE b)]) ∧ MSees (((w6.setCell ⟨w.heap.size, 0, none⟩ (.slice (some ⟨bq, oq, none⟩) 0 0)).setCell ⟨w.heap.size, 1, none⟩ (.int .i64 x0)).setCell ⟨w.heap.size, 2, none⟩ (.int .i64 x1)) a5 c5 (rdF b) ∧ Below w.heap.size w (((w6.setCell ⟨w.heap.size, 0, none⟩ (.slice (some ⟨bq, oq, none⟩) 0 0)).setCell ⟨w.heap.size, 1, none⟩ (.int .i64 x0)).setCell ⟨w.heap.size, 2, none⟩ (.int .i64 x1))) := by
              rw [r1, r2]
              refine ⟨some ⟨bq, oq, none⟩, 0, by unfold mval; dsimp only; rw [HDR2.out], ⟨fun i x hx => ?_, hm6.nil, hm6.cap⟩, ((HB6.out.setCell (Nat.le_refl _) _).setCell (Nat.le_refl _) _).setCell (Nat.le_refl _) _⟩
              obtain ⟨q, off, e, hc⟩ := hm6.see i x hx
              cases e
              refine ⟨bq, _, rfl, ?_⟩
              rw [World.cell?_of_block (w := w6)]
              · exact hc
              · show (((w6.setCell _ _).setCell _ _).setCell _ _).heap[bq]? = _
                rw [Below.heap_setCell _ _ _ _ (by show bq ≠ w.heap.size; exact HBQ.out), Below.heap_setCell _ _ _ _ (by show bq ≠ w.heap.size; exact HBQ.out), Below.heap_setCell _ _ _ _ (by show bq ≠ w.heap.size; exact HBQ.out)]
            clear hk5 hk4 hB6 hBu CG hms kX g0 g1 g2 kX6 hm6 r1 r2
            go_wp2_with fail
            refine bodyPost_ret (v := .tuple #[.agg #[.slice (some ⟨bq, oq, none⟩) 0 0, .int .i64 x0, .int .i64 x1], .int .i64 0]) (results_row_tmpM Tryz.results42 _ _ w.heap.size 39 _ _ _ _ rfl rfl HKz.out Tryz.underlying39 rfl (by kernel_rfl)) rfl ?_
            exact HEX.out
        · have q0 := fun o : Obj => (Below.refl wr.heap.size wr).alloc (Nat.le_refl _) o
          have d0 : ∀ o : Obj, (wr.alloc o).cell? ⟨bq, oq, none⟩ = some (.int .i64 (l.getD 0 0)) := fun o => by rw [(q0 o).cell hblt]; exact c0
          have d1 : ∀ o : Obj, (wr.alloc o).cell? ⟨bq, oq + 1, none⟩ = some (.int .i64 (l.getD 1 0)) := fun o => by rw [(q0 o).cell hblt]; exact c1
          have hvi : (vc : Int) ≤ 9223372036854775807 := by omega
          have hvl : (l.length : Int) ≤ (vc : Int) := by omega
          clear hk5 hR hfew hcont hbd hse hnl hr0i hcs hlm hz q0
          obtain ⟨x0, hx0⟩ : ∃ x0, l.getD 0 0 = x0 := ⟨_, rfl⟩
          obtain ⟨x1, hx1⟩ : ∃ x1, l.getD 1 0 = x1 := ⟨_, rfl⟩
          obtain ⟨x2, hx2⟩ : ∃ x2, l.getD 2 0 = x2 := ⟨_, rfl⟩
          obtain ⟨ln, hln⟩ : ∃ ln, l.length = ln := ⟨_, rfl⟩
          rw [hx0] at c0 d0
          rw [hx1] at c1 d1
          rw [hx2] at c2 hzb hz2'
          rw [hln] at hzb hli h3i h3l hvl hvc h3
          rw [hln]
          have HDR2 : Hid ((l.drop 3).length = ln - 3) := by show _ = _; rw [List.length_drop, hln]
          have HLM2 : Hid (l = listM ⟨l.drop 3, x0, x1⟩) := by have := HLM.out; rw [hx0, hx1] at this; exact this
          have HMS : Hid (∀ u, Below wr.heap.size wr u → MSees u (some ⟨bq, oq + 3, none⟩) (vc - 3) ⟨l.drop 3, x0, x1⟩) := fun u hu => ⟨(fun i x hx => by
            have hil : 3 + i < l.length := by have := (List.getElem?_eq_some_iff.1 hx).1; rw [List.length_drop] at this; omega
            have hcc := HCS.out (3 + i) hil
            rw [List.getElem?_drop] at hx
            have hxx : l.getD (3 + i) 0 = x := by rw [List.getD_eq_getElem?_getD, hx]; rfl
            rw [hxx] at hcc
            refine ⟨bq, oq + 3, rfl, ?_⟩
            rw [Nat.add_assoc, hu.cell (World.block_lt_of_cell? _ _ hcc)]
            exact hcc), (fun e => by cases e), by show (l.drop 3).length ≤ _; rw [HDR2.out]; omega⟩
          clear hx0 hx1 hx2 hln
          go_wp2_with fail
          go_region
          have hu : Below wr.heap.size wr (wr.alloc (.cells #[.slice (some ⟨bq, oq + 3, none⟩) (ln - 3) (vc - 3), .int .i64 x0, .int .i64 x1] 39)).drew := ((Below.refl _ _).alloc (Nat.le_refl _) _).drew
          have kX : Blk (wr.alloc (.cells #[.slice (some ⟨bq, oq + 3, none⟩) (ln - 3) (vc - 3), .int .i64 x0, .int .i64 x1] 39)).drew wr.heap.size [.slice (some ⟨bq, oq + 3, none⟩) (ln - 3) (vc - 3), .int .i64 x0, .int .i64 x1] 39 := Blk.new wr _ _
          have hk4 : Blk (wr.alloc (.cells #[.slice (some ⟨bq, oq + 3, none⟩) (ln - 3) (vc - 3), .int .i64 x0, .int .i64 x1] 39)).drew w.heap.size [.slice none 0 0, .int .i64 0, .int .i64 0] 39 := HK5.out.carry (hu.block _ HK5.out.lt)
          have hBu : Below w.heap.size w (wr.alloc (.cells #[.slice (some ⟨bq, oq + 3, none⟩) (ln - 3) (vc - 3), .int .i64 x0, .int .i64 x1] 39)).drew := HBr.out.trans (hu.mono HBr.out.size)
          have hms := HMS.out _ hu
          generalize (wr.alloc (.cells #[.slice (some ⟨bq, oq + 3, none⟩) (ln - 3) (vc - 3), .int .i64 x0, .int .i64 x1] 39)).drew = u5 at *
          have hXne : wr.heap.size ≠ w.heap.size := by have := HK5.out.lt; omega
          have CG : Calls Tryz.prog 65 #[.agg #[.slice (some ⟨bq, oq + 3, none⟩) (ln - 3) (vc - 3), .int .i64 x0, .int .i64 x1]] u5 fun e w' => e = .returned (.bool (goodM ⟨l.drop 3, x0, x1⟩)) ∧ Below u5.heap.size u5 w' := by
            have := refGoodM_any (some ⟨bq, oq + 3, none⟩) ((vc - 3)) ⟨l.drop 3, x0, x1⟩ u5 hms (by show (l.drop 3).length ≤ _; rw [HDR2.out]; omega)
            unfold mval at this
            dsimp only at this
            rw [HDR2.out] at this
            exact this
          have g0 := kX.cell 0 rfl
          have g1 := kX.cell 1 rfl
          have g2 := kX.cell 2 rfl
          clear hu
          cases hgd : goodM ⟨l.drop 3, x0, x1⟩ with
          | false =>
            rw [hgd] at CG
            have HR : Hid (rdM b = none) := none_list HCO.out HBD.out fun m hg e => by
              have : listM m = listM ⟨l.drop 3, x0, x1⟩ := e.trans HLM2.out
              rw [listM_inj this, hgd] at hg
              cases hg
            clear hgd
            go_wp2_with fail
            go_fit CG
            rintro e w6 ⟨rfl, hB6⟩
            have hk5 := hk4.carry (hB6.block _ hk4.lt)
            have HB6 : Hid (Below w.heap.size w w6) := hBu.trans (hB6.mono hBu.size)
            have f0 := hk5.frozen 0
            have f1 := hk5.frozen 1
            have f2 := hk5.frozen 2
            have n0 := hk5.cell 0 rfl
            have n1 := hk5.cell 1 rfl
            have n2 := hk5.cell 2 rfl
            have HKz : Hid (Blk (((w6.setCell ⟨w.heap.size, 0, none⟩ (.slice none 0 0)).setCell ⟨w.heap.size, 1, none⟩ (.int .i64 0)).setCell ⟨w.heap.size, 2, none⟩ (.int .i64 0)) w.heap.size [.slice none 0 0, .int .i64 0, .int .i64 0] 39) := ((hk5.setTo 0 _ _ rfl).setTo 1 _ _ rfl).setTo 2 _ _ rfl
            clear hk5 hk4 hB6 hBu CG hms kX g0 g1 g2
            go_wp2_with fail
            refine bodyPost_ret (v := .tuple #[.agg #[.slice none 0 0, .int .i64 0, .int .i64 0], .int .i64 8]) (results_row_tmpM Tryz.results42 _ _ w.heap.size 39 _ _ _ _ rfl rfl HKz.out Tryz.underlying39 rfl (by kernel_rfl)) rfl ?_
            exact HZ.out _ (((HB6.out.setCell (Nat.le_refl _) _).setCell (Nat.le_refl _) _).setCell (Nat.le_refl _) _) HR.out
          | true =>
            rw [hgd] at CG
            have HR : rdM b = some ⟨l.drop 3, x0, x1⟩ := some_list (by rw [← HLM2.out]; exact HCO.out) HEN.out.1 HEN.out.2 hgd
            obtain ⟨r1, r2⟩ := rd_some HR
            clear hgd HR
            go_wp2_with fail
            go_fit CG
            rintro e w6 ⟨rfl, hB6⟩
            have hk5 := hk4.carry (hB6.block _ hk4.lt)
            have kX6 := kX.carry (hB6.block _ kX.lt)
            have hm6 := hms.below hB6 (Nat.le_refl _)
            have HB6 : Hid (Below w.heap.size w w6) := hBu.trans (hB6.mono hBu.size)
            have f0 := hk5.frozen 0
            have f1 := hk5.frozen 1
            have f2 := hk5.frozen 2
            have n0 := hk5.cell 0 rfl
            have n1 := hk5.cell 1 rfl
            have n2 := hk5.cell 2 rfl
            have m0 := kX6.cell 0 rfl
            have m1 := kX6.cell 1 rfl
            have m2 := kX6.cell 2 rfl
            have HKz : Hid (Blk (((w6.setCell ⟨w.heap.size, 0, none⟩ (.slice (some ⟨bq, oq + 3, none⟩) (ln - 3) (vc - 3))).setCell ⟨w.heap.size, 1, none⟩ (.int .i64 x0)).setCell ⟨w.heap.size, 2, none⟩ (.int .i64 x1)) w.heap.size [.slice (some ⟨bq, oq + 3, none⟩) (ln - 3) (vc - 3), .int .i64 x0, .int .i64 x1] 39) := ((hk5.setTo 0 _ _ rfl).setTo 1 _ _ rfl).setTo 2 _ _ rfl
            have HEX : Hid (∃ a5 c5, Ending.returned (.tuple #[.agg #[.slice (some ⟨bq, oq + 3, none⟩) (ln - 3) (vc - 3), .int .i64 x0, .int .i64 x1], .int .i64 0]) = .returned (.tuple #[mval a5 c5 (rdF b), .int .i64 (rdE b)]) ∧ MSees (((w6.setCell ⟨w.heap.size, 0, none⟩ (.slice (some ⟨bq, oq + 3, none⟩) (ln - 3) (vc - 3))).setCell ⟨w.heap.size, 1, none⟩ (.int .i64 x0)).setCell ⟨w.heap.size, 2, none⟩ (.int .i64 x1)) a5 c5 (rdF b) ∧ Below w.heap.size w (((w6.setCell ⟨w.heap.size, 0, none⟩ (.slice (some ⟨bq, oq + 3, none⟩) (ln - 3) (vc - 3))).setCell ⟨w.heap.size, 1, none⟩ (.int .i64 x0)).setCell ⟨w.heap.size, 2, none⟩ (.int .i64 x1))) := by
              rw [r1, r2]
              refine ⟨some ⟨bq, oq + 3, none⟩, (vc - 3), by unfold mval; dsimp only; rw [HDR2.out], ⟨fun i x hx => ?_, hm6.nil, hm6.cap⟩, ((HB6.out.setCell (Nat.le_refl _) _).setCell (Nat.le_refl _) _).setCell (Nat.le_refl _) _⟩
              obtain ⟨q, off, e, hc⟩ := hm6.see i x hx
              cases e
              refine ⟨bq, _, rfl, ?_⟩
              rw [World.cell?_of_block (w := w6)]
              · exact hc
              · show (((w6.setCell _ _).setCell _ _).setCell _ _).heap[bq]? = _
                rw [Below.heap_setCell _ _ _ _ (by show bq ≠ w.heap.size; exact HBQ.out), Below.heap_setCell _ _ _ _ (by show bq ≠ w.heap.size; exact HBQ.out), Below.heap_setCell _ _ _ _ (by show bq ≠ w.heap.size; exact HBQ.out)]
            clear hk5 hk4 hB6 hBu CG hms kX g0 g1 g2 kX6 hm6 r1 r2
            go_wp2_with fail
            refine bodyPost_ret (v := .tuple #[.agg #[.slice (some ⟨bq, oq + 3, none⟩) (ln - 3) (vc - 3), .int .i64 x0, .int .i64 x1], .int .i64 0]) (results_row_tmpM Tryz.results42 _ _ w.heap.size 39 _ _ _ _ rfl rfl HKz.out Tryz.underlying39 rfl (by kernel_rfl)) rfl ?_
            exact HEX.out
      · have HR : Hid (rdM b = none) := none_list hcont hbd fun m _ e => by
          apply hz
          rw [← e]
          simp [listM]
          omega
        have hzb : ((l.length : Int) == 3 + l.getD 2 0) = false := by rw [beq_eq_false_iff_ne]; exact hz
        have f0 := hk5.frozen 0
        have f1 := hk5.frozen 1
        have f2 := hk5.frozen 2
        have n0 := hk5.cell 0 rfl
        have n1 := hk5.cell 1 rfl
        have n2 := hk5.cell 2 rfl
        have HKz : Hid (Blk (((wr.setCell ⟨w.heap.size, 0, none⟩ (.slice none 0 0)).setCell ⟨w.heap.size, 1, none⟩ (.int .i64 0)).setCell ⟨w.heap.size, 2, none⟩ (.int .i64 0)) w.heap.size [.slice none 0 0, .int .i64 0, .int .i64 0] 39) := ((hk5.setTo 0 _ _ rfl).setTo 1 _ _ rfl).setTo 2 _ _ rfl
        clear hk5 hR hfew hcont hbd hse hnl hr0i hcs hz
        generalize l.getD 2 0 = z2 at *
        generalize l.length = ln at *
        go_wp2_with fail
        refine bodyPost_ret (v := .tuple #[.agg #[.slice none 0 0, .int .i64 0, .int .i64 0], .int .i64 8]) (results_row_tmpM Tryz.results42 _ _ w.heap.size 39 _ _ _ _ rfl rfl HKz.out Tryz.underlying39 rfl (by kernel_rfl)) rfl ?_
        exact HZ.out _ (((HB5.out.setCell (Nat.le_refl _) _).setCell (Nat.le_refl _) _).setCell (Nat.le_refl _) _) HR.out
    · have hrne : r ≠ [] := fun e => by rw [e] at hrp; simp at hrp
      obtain ⟨q, off, rfl, hq⟩ : ∃ q off, a = some ⟨q, off, none⟩ ∧ q < w2.heap.size := by
        rcases hR.at' with ⟨_, h⟩ | h
        · omega
        · exact h
      have hkl := getK_le r
      have hVlt := getV_lt r
      have CG : Hid (Calls Tryz.prog 83 #[.slice (some ⟨q, off, none⟩) r.length cp] wr fun e w' => e = .returned (.tuple #[.int .u64 (getV r), .int .i64 (getK r)]) ∧ w' = wr) := refGet_any _ r cp wr hR.see (by omega)
      have hrpi : (0 : Int) < (r.length : Int) := by omega
      have hcp := hR.cap
      by_cases hbad : getK r = 0 ∨ 999999999 < getV r
      · have HR : Hid (rdM b = none) := none_stop hR.cont hR.bdd hrne hbad
        have f0 := hk5.frozen 0
        have f1 := hk5.frozen 1
        have f2 := hk5.frozen 2
        have n0 := hk5.cell 0 rfl
        have n1 := hk5.cell 1 rfl
        have n2 := hk5.cell 2 rfl
        have HKz : Hid (Blk (((wr.setCell ⟨w.heap.size, 0, none⟩ (.slice none 0 0)).setCell ⟨w.heap.size, 1, none⟩ (.int .i64 0)).setCell ⟨w.heap.size, 2, none⟩ (.int .i64 0)) w.heap.size [.slice none 0 0, .int .i64 0, .int .i64 0] 39) := ((hk5.setTo 0 _ _ rfl).setTo 1 _ _ rfl).setTo 2 _ _ rfl
        by_cases hk0 : getK r = 0
        · rw [hk0] at CG
          have hvi : (getV r : Int) ≤ 18446744073709551615 := by omega
          clear hk5 hR hbad hfew
          generalize getV r = V at *
          generalize r.length = rn at *
          go_wp2_with fail
          go_fit CG.out
          rintro e w5 ⟨rfl, rfl⟩
          go_wp2_with fail
          refine bodyPost_ret (v := .tuple #[.agg #[.slice none 0 0, .int .i64 0, .int .i64 0], .int .i64 8]) (results_row_tmpM Tryz.results42 _ _ w.heap.size 39 _ _ _ _ rfl rfl HKz.out Tryz.underlying39 rfl (by kernel_rfl)) rfl ?_
          exact HZ.out _ (((HB5.out.setCell (Nat.le_refl _) _).setCell (Nat.le_refl _) _).setCell (Nat.le_refl _) _) HR.out
        · have hki : ((getK r : Int) == 0) = false := by rw [beq_eq_false_iff_ne]; omega
          have hVi : (999999999 : Int) < (getV r : Int) := by omega
          clear hk5 hR hbad hfew hk0 hkl
          generalize getV r = V at *
          generalize getK r = kk at *
          generalize r.length = rn at *
          go_wp2_with fail
          go_fit CG.out
          rintro e w5 ⟨rfl, rfl⟩
          go_wp2_with fail
          refine bodyPost_ret (v := .tuple #[.agg #[.slice none 0 0, .int .i64 0, .int .i64 0], .int .i64 8]) (results_row_tmpM Tryz.results42 _ _ w.heap.size 39 _ _ _ _ rfl rfl HKz.out Tryz.underlying39 rfl (by kernel_rfl)) rfl ?_
          exact HZ.out _ (((HB5.out.setCell (Nat.le_refl _) _).setCell (Nat.le_refl _) _).setCell (Nat.le_refl _) _) HR.out
      · have hk0 : getK r ≠ 0 := fun e => hbad (.inl e)
        have hVn : getV r ≤ 999999999 := by omega
        obtain ⟨va, vc, hv, -⟩ := owns_msees hR.row
        subst hv
        have hB2s : w2.heap.size ≤ wr.heap.size := hR.bel.size
        obtain ⟨v', w3, hr3, ho3, hg3⟩ := run_append_grew (P := Tryz.prog) (wr.alloc (.cells #[.int .i64 ((getV r : Nat) : Int)] 3)) w2.heap.size 34 34 34 3 i0 (.int .i64 0) 1 8 Tryz.underlying34 hi hz0 hz1 hz2 rfl _ l.length _ (hR.row.alloc _) _ 1 (vI [((getV r : Nat) : Int)]) (src_oneI wr (getV r)) (by unfold maxLen; omega) (by omega) (by rw [World.size_alloc]; omega)
        have hB3 : Below w2.heap.size w2 w3 := (hR.bel.alloc hR.bel.size _).trans (hg3.below (by rw [World.size_alloc]; omega) (fun g hg => (hR.row.lt g hg).1))
        have HN : Hid (∀ o', (getK r < cp → o' = off + getK r) → RSt w w2 w3 b (l ++ [(getV r : Int)]) v' (r.drop (getK r)) (some ⟨q, o', none⟩) (cp - getK r)) := fun o' h => hR.next hq hk0 hVn ho3 hB3 o' h
        have hki : ((getK r : Int) == 0) = false := by rw [beq_eq_false_iff_ne]; omega
        have hVi : ¬ (999999999 : Int) < (getV r : Int) := by omega
        have hVb : (getV r : Int) ≤ 999999999 := by omega
        have hdl : (r.drop (getK r)).length = r.length - getK r := List.length_drop
        obtain ⟨va', vc', hv', -⟩ := owns_form2 ho3
        subst hv'
        obtain ⟨V, hV⟩ : ∃ V, getV r = V := ⟨_, rfl⟩
        obtain ⟨kk, hkk⟩ : ∃ kk, getK r = kk := ⟨_, rfl⟩
        obtain ⟨rn, hrn⟩ : ∃ rn, r.length = rn := ⟨_, rfl⟩
        obtain ⟨ln, hln⟩ : ∃ ln, l.length = ln := ⟨_, rfl⟩
        rw [hV, hkk] at CG
        rw [hrn] at CG
        rw [hkk] at hkl hki hdl hk0
        rw [hV] at hVi hVb hr3
        rw [hrn] at hkl hrpi hdl hcp hrp
        rw [hln] at hr3
        have HKK : Hid (getK r = kk) := hkk
        have HRN : Hid (r.length = rn) := hrn
        have HLN : Hid (l.length = ln) := hln
        have HDL : Hid ((r.drop (getK r)).length = rn - kk) := by show _ = _; rw [List.length_drop, hkk, hrn]
        have hkki : (kk : Int) ≤ (rn : Int) := by omega
        have hrci : (rn : Int) ≤ (cp : Int) := by omega
        have hcpi : (cp : Int) ≤ 9223372036854775807 := by omega
        rw [hrn, hln]
        clear hk5 hR hbad hfew hkk hrn hln hdl ho3 hg3 hB3 hVlt hVn hV hrne
        by_cases hcc : cp = kk
        · have hrk : rn = kk := by omega
          subst hrk
          subst hcc
          have HN2 := HN.out off (fun h => by rw [HKK.out] at h; omega)
          have HN3 : Hid (RSt w w2 w3 b (l ++ [(getV r : Int)]) (.slice va' (ln + 1) vc') (r.drop (getK r)) (some ⟨q, off, none⟩) (cp - getK r)) := by rw [HLN.out] at HN2; exact HN2
          clear HN HN2
          go_wp2_with fail
          go_fit CG.out
          rintro e w5 ⟨rfl, rfl⟩
          go_wp2_with (at_builtin; refine wpList_append_run _ rfl _ _ 34 34 rfl _ _ rfl rfl hr3 ?_)
          go_roundw
          case rel => exact ⟨l ++ [(getV r : Int)], _, r.drop (getK r), _, cp - getK r, rfl, by rw [HDL.out, HKK.out]; simp, HN3.out⟩
          case measure => (simp [lenOf]; try omega)
        · have HN2 := HN.out (off + kk) (fun h => by rw [HKK.out])
          have HN3 : Hid (RSt w w2 w3 b (l ++ [(getV r : Int)]) (.slice va' (ln + 1) vc') (r.drop (getK r)) (some ⟨q, off + kk, none⟩) (cp - getK r)) := by rw [HLN.out] at HN2; exact HN2
          clear HN HN2
          go_wp2_with fail
          go_fit CG.out
          rintro e w5 ⟨rfl, rfl⟩
          go_wp2_with (at_builtin; refine wpList_append_run _ rfl _ _ 34 34 rfl _ _ rfl rfl hr3 ?_)
          go_roundw
          case rel => exact ⟨l ++ [(getV r : Int)], _, r.drop (getK r), _, cp - getK r, rfl, by rw [HDL.out, HKK.out], HN3.out⟩
          case measure => (simp [lenOf]; try omega)
end Go.Proofs.YtgkdodcidancpaaGreatDoor

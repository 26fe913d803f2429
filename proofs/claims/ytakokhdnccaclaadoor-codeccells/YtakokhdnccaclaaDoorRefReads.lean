/-
  CONTRACTS: the document's ReadCells, for every argument.
-/
import Derived.Test.YtakokhdnccaclaaDoorRefCell
import Derived.Test.YtakokhdnccaclaaDoorCellGet
namespace Go.Proofs.YtakokhdnccaclaaDoor
open Go.RowKit

theorem signN_lt {l : List UInt8} {n : Int} {r : List UInt8} (h : signN l = some (n, r)) : r.length < l.length := by
  unfold signN at h
  split at h
  · cases h
  · rename_i v r' e
    simp only [Option.some.injEq, Prod.mk.injEq] at h
    obtain ⟨_, rfl⟩ := h
    exact (get_bd e).2
theorem keyN_lt {l : List UInt8} {k : KeyV} {r : List UInt8} (h : keyN l = some (k, r)) : r.length < l.length := by
  unfold keyN at h
  split at h
  · cases h
  · rename_i t r1 e1
    split at h
    · cases h
    · rename_i p r2 e2
      split at h
      · cases h
      · rename_i n r3 e3
        split at h
        · cases h
        · rename_i c r4 e4
          simp only [Option.some.injEq, Prod.mk.injEq] at h
          obtain ⟨_, rfl⟩ := h
          have h1 := (textN_drop e1).2
          have h2 := (textN_drop e2).2
          have h3 := signN_lt e3
          have h4 := (textN_drop e4).2
          omega
theorem valN_lt {l : List UInt8} {k : ValV} {r : List UInt8} (h : valN l = some (k, r)) : r.length < l.length := by
  unfold valN at h
  split at h
  · cases h
  · rename_i t r1 e1
    split at h
    · cases h
    · rename_i p r2 e2
      split at h
      · cases h
      · rename_i n r3 e3
        simp only [Option.some.injEq, Prod.mk.injEq] at h
        obtain ⟨_, rfl⟩ := h
        have h1 := (get_bd e1).2
        have h2 := signN_lt e2
        have h3 := (textN_drop e3).2
        omega
theorem verN_lt {l : List UInt8} {k : VerV} {r : List UInt8} (h : verN l = some (k, r)) : r.length < l.length := by
  unfold verN at h
  split at h
  · cases h
  · rename_i t r1 e1
    have h1 := signN_lt e1
    split at h
    · cases h
    · rename_i m r2
      rw [List.length_cons] at h1
      split at h
      · split at h
        · cases h
        · rename_i v r3 e3
          simp only [Option.some.injEq, Prod.mk.injEq] at h
          obtain ⟨_, rfl⟩ := h
          have h3 := valN_lt e3
          omega
      · split at h
        · split at h
          · cases h
          · rename_i n r3 e3
            simp only [Option.some.injEq, Prod.mk.injEq] at h
            obtain ⟨_, rfl⟩ := h
            have h3 := signN_lt e3
            omega
        · cases h
theorem cellN_lt {l : List UInt8} {c : CellV} {r : List UInt8} (h : cellN l = some (c, r)) : r.length < l.length := by
  unfold cellN at h
  split at h
  · cases h
  · rename_i k r1 e1
    split at h
    · cases h
    · rename_i v r2 e2
      simp only [Option.some.injEq, Prod.mk.injEq] at h
      obtain ⟨_, rfl⟩ := h
      have h1 := keyN_lt e1
      have h2 := verN_lt e2
      omega

theorem RS.made {w : World} {ao : Option Addr} {l : List UInt8} {cap : Nat} (hs : Sees w ao l) (hn : ao = none → l.length = 0) (hcap : l.length ≤ cap) (hl : l.length ≤ 1000000000) : RS (w.alloc (.cells #[.slice ao l.length cap, .bool false] 85)) w.heap.size l false := by
  refine ⟨⟨ao, cap, Box.new _ _ _, hs.below ((Below.refl _ _).alloc (Nat.le_refl _) _) (Nat.le_refl _), hn, hcap, fun hne a e => ?_⟩, hl⟩
  obtain ⟨a', e', hc⟩ := hs 0 (by omega)
  obtain rfl := Option.some.inj (e.symm.trans e')
  have := World.block_lt_of_cell? _ _ hc
  rwa [Addr.add_block] at this

/-- What is read so far. -/
def Far (l : List UInt8) (n i : Nat) (cs : List CellV) (lb : List UInt8) (g : Bool) : Prop :=
  (g = false ∧ i + lb.length ≤ l.length ∧ ∃ r1, getN 0 0 l = some (n, r1) ∧ manyN n r1 = (manyN (n - i) lb).map fun x => (cs ++ x.1, x.2)) ∨ (g = true ∧ cellsN l = none)
theorem Far.start (l : List UInt8) {n : Nat} {lb : List UInt8} {g : Bool} (h : nS (l, false) = (n, (lb, g))) : Far l n 0 [] lb g := by
  cases g
  · obtain ⟨_, f1⟩ := nS_false h
    simp only at f1
    have := (get_bd f1).2
    exact .inl ⟨rfl, by omega, lb, f1, by simp⟩
  · have f1 := (nS_true h).1.resolve_left (by simp)
    simp only at f1
    exact .inr ⟨rfl, by unfold cellsN; simp only [f1]⟩
theorem Far.step {l : List UInt8} {n i : Nat} {cs : List CellV} {lb lb' : List UInt8} {c : CellV} {g' : Bool} (h : Far l n i cs lb false) (hi : i < n) (ht : Took lb c lb' g') : Far l n (i + 1) (cs ++ [c]) lb' g' := by
  rcases h with ⟨_, h2, r1, h3, h4⟩ | ⟨h1, _⟩
  · unfold Took at ht
    obtain ⟨k, hk⟩ : ∃ k, n - i = k + 1 := ⟨n - i - 1, by omega⟩
    rw [hk, manyN] at h4
    split at ht
    · rename_i c0 r e
      obtain ⟨rfl, rfl, rfl⟩ := ht
      have := cellN_lt e
      refine .inl ⟨rfl, by omega, r1, h3, ?_⟩
      rw [h4, e, show n - (i + 1) = k by omega]
      simp only []
      cases manyN k lb' <;> simp
    · rename_i e
      refine .inr ⟨ht, ?_⟩
      rw [e] at h4
      unfold cellsN
      simp only [h3, h4, Option.map_none]
  · cases h1

set_option maxRecDepth 100000 in
set_option maxHeartbeats 1600000 in
theorem refReadCells_any (ao : Option Addr) (l : List UInt8) (cap : Nat) (w : World) (hs : Sees w ao l) (hn : ao = none → l.length = 0) (hcap : l.length ≤ cap) (hl : l.length ≤ 1000000000) :
    Calls Tryd.prog 33 #[.slice ao l.length cap] w fun e w' => ∃ v, e = .returned (.tuple #[v, .int .i64 (redE l)]) ∧ w'.ownsRow w.heap.size 63 10 v (redC l).length (C10 (redC l)) ∧ Below w.heap.size w w' := by
  obtain ⟨i0, hi, hz0, hz1, hz2⟩ := info_parts infoCell
  have HR : Hid (RS _ _ _ _) := RS.made (cap := cap) hs hn hcap hl
  have Hc : Hid _ := refNum_any w.heap.size l false _ HR.out
  have Hb : Hid _ := nS_lt (l, false)
  generalize hy : nS (l, false) = y at Hc Hb
  obtain ⟨n, lb1, g1⟩ := y
  have Hf : Hid (Far l n 0 [] lb1 g1) := Far.start l hy
  clear hs hn hy
  go_enter Tryd.func33, Tryd.ntmps33
  go_wp2_with fail
  refine Calls.mono (Hid.out Hc) ?_
  rintro e w1 ⟨rfl, hR1, hg1⟩
  have hb1 : Below w.heap.size w w1 := below_made hg1
  have hnI : (n : Int) ≤ 18446744073709551615 := by have h2 : n < 18446744073709551616 := Hb.out; omega
  clear Hc
  go_wp2_with fail
  go_loopw [6, 7] (fun s6 s7 wr => ∃ (i : Nat) (cs : List CellV) (lb : List UInt8) (g : Bool), i ≤ n ∧ i ≤ l.length + 1 ∧ s7 = .int .u64 i ∧ cs.length = i ∧ RS wr w.heap.size lb g ∧ wr.ownsRow (w.heap.size + 1) 63 10 s6 i (C10 cs) ∧ Below w.heap.size w wr ∧ Far l n i cs lb g) (fun _ s7 _ => n - (intOf s7).toNat)
  case atStart => exact ⟨0, [], lb1, g1, by omega, by omega, rfl, rfl, hR1, World.ownsRow_nil _ _ _ _, hb1, Hf.out⟩
  case round =>
    obtain ⟨i, cs, lb, g, hin, hil, rfl, hcl, hR, ho, hbr, hf⟩ := hrel
    obtain ⟨ao', cap', hB, _, _, _, _⟩ := hR.ex
    have c0 := hB.cell 0
    have c1 := hB.cell 1
    have hmx := hR.max
    have Hfr : Hid (Far l n i cs lb g) := hf
    clear hf hB
    cases g
    · rcases Nat.lt_or_ge i n with hlt | hge
      · have hltI : (i : Int) < (n : Int) := by omega
        have Hce : Hid _ := refCell_any w.heap.size lb wr hR
        have hil2 : i + lb.length ≤ l.length := by
          rcases Hfr.out with ⟨_, h2, _⟩ | ⟨h1, _⟩
          · exact h2
          · cases h1
        go_wp2_with fail
        refine Calls.mono (Hid.out Hce) ?_
        rintro e w2 ⟨c, lb', g', rfl, hR2, hg2, htk⟩
        have ho2 := owns_heap (w' := w2) ho (fun k hk => hg2.block k (ho.lt k hk).2 (fun e => by have := Option.some.inj e; have := (ho.lt k hk).1; omega))
        have hb2 : Below w.heap.size w w2 := hbr.trans ⟨hg2.os, hg2.tape, hg2.output, hg2.size, fun k hk => hg2.block k (Nat.lt_of_lt_of_le hk hbr.size) (fun e => by have := Option.some.inj e; omega)⟩
        have Htk : Hid (Took lb c lb' g') := htk
        have hlt2 := hR2.lt
        clear Hce c0 c1 htk hg2
        obtain ⟨⟨table, part, row, col⟩, ⟨time, dead, loc, kind, num, s⟩⟩ := c
        unfold cellA
        go_wp2_with (at_builtin; go_must (refine wpList_append_grew _ rfl (.tmp 25) (.tmp 28) 47 47 rfl (w.heap.size + 1) 63 i0 _ 10 112 Tryd.underlying47 hi hz0 hz1 hz2 rfl _ i _ rfl (ho2.alloc _) _ 1 (C10 [⟨⟨table, part, row, col⟩, ⟨time, dead, loc, kind, num, s⟩⟩]) rfl (src_cell ⟨⟨table, part, row, col⟩, ⟨time, dead, loc, kind, num, s⟩⟩ (heap_alloc_new _ _)) (by unfold maxLen; omega) (by omega) (by simp; omega) ?_; intro v4 w4 ho4 hg4))
        have g4 := hg4.alloc
        clear hg4
        go_wp2
        go_roundw
        case rel =>
          refine ⟨i + 1, cs ++ [⟨⟨table, part, row, col⟩, ⟨time, dead, loc, kind, num, s⟩⟩], lb', g', by omega, by omega, by go_num, by simp [hcl], ?_, ?_, ?_, Hfr.out.step hlt Htk.out⟩
          · exact hR2.carry (fun k hk => g4.rows.block k (by omega) (fun e => by have := (ho2.lt k e.symm).1; omega))
          · rw [C10_append]
            exact ho4
          · exact hb2.trans (g4.below hb2.size (fun k hk => by have := (ho2.lt k hk).1; omega))
        case measure => simp [intOf]; omega
      · obtain rfl : i = n := by omega
        have hm : ∃ r1, getN 0 0 l = some (i, r1) ∧ manyN i r1 = some (cs, lb) := by
          rcases Hfr.out with ⟨_, _, r1, h3, h4⟩ | ⟨h1, _⟩
          · rw [Nat.sub_self, manyN] at h4
            exact ⟨r1, h3, by simpa using h4⟩
          · cases h1
        obtain ⟨r1, hm1, hm2⟩ := hm
        cases lb with
        | nil =>
          have e1 : cellsN l = some cs := by unfold cellsN; simp only [hm1, hm2]
          have E2 : Hid (redC l = cs) := by show _ = _; unfold redC; rw [e1]; rfl
          have E3 : Hid (redE l = 0) := by show _ = _; unfold redE; rw [e1]
          clear e1 hm1 hm2 hge hin
          go_wp2
          go_ret2
          refine ⟨_, by rw [E3.out]; rfl, ?_, hbr⟩
          rw [E2.out, hcl]
          exact owns_mono ho (by omega)
        | cons b r =>
          have e1 : cellsN l = none := by unfold cellsN; simp only [hm1, hm2]
          have E2 : Hid (redC l = []) := by show _ = _; unfold redC; rw [e1]; rfl
          have E3 : Hid (redE l = 8) := by show _ = _; unfold redE; rw [e1]
          simp only [List.length_cons] at c0 hmx
          have hpos : (0 : Int) < (r.length : Int) + 1 := by omega
          clear e1 hm1 hm2 hge hin
          go_wp2
          go_ret2
          exact ⟨_, by rw [E3.out]; rfl, by rw [E2.out]; exact World.ownsRow_nil _ _ _ _, hbr⟩
    · have e1 : cellsN l = none := by
        rcases Hfr.out with ⟨h1, _⟩ | ⟨_, h1⟩
        · cases h1
        · exact h1
      have E2 : Hid (redC l = []) := by show _ = _; unfold redC; rw [e1]; rfl
      have E3 : Hid (redE l = 8) := by show _ = _; unfold redE; rw [e1]
      clear e1
      rcases Nat.lt_or_ge i n with hlt | hge
      · have hltI : (i : Int) < (n : Int) := by omega
        go_wp2
        go_ret2
        exact ⟨_, by rw [E3.out]; rfl, by rw [E2.out]; exact World.ownsRow_nil _ _ _ _, hbr⟩
      · have hltI : ¬ (i : Int) < (n : Int) := by omega
        go_wp2
        go_ret2
        exact ⟨_, by rw [E3.out]; rfl, by rw [E2.out]; exact World.ownsRow_nil _ _ _ _, hbr⟩
end Go.Proofs.YtakokhdnccaclaaDoor

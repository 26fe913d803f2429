/-
  CONTRACTS: the codec's reader reads all cells, in every state.
-/
import Derived.Test.YtglaocghcgcghaaGreatDoorMany24
import Derived.Test.YtglaocghcgcghaaGreatDoorCellMany
import Derived.RegionDies
namespace Go.Proofs.YtglaocghcgcghaaGreatDoor
open Go.RowKit

/-- Cells, flat. -/
def C10 (l : List CellV) : List Value := l.flatMap fun c => (cellA c).toList
theorem C10_length (l : List CellV) : (C10 l).length = l.length * 10 := by
  induction l with
  | nil => rfl
  | cons c l ih =>
    unfold C10 at *
    simp only [List.flatMap_cons, List.length_append, List.length_cons, ih]
    simp [cellA]
    omega
theorem C10_append (a b : List CellV) : C10 (a ++ b) = C10 a ++ C10 b := by unfold C10; rw [List.flatMap_append]
theorem C10_one (c : CellV) : C10 [c] = (cellA c).toList := by unfold C10; simp
theorem C10_single (l : List CellV) : ∀ u ∈ C10 l, u.oneCell' = true := by
  intro u hu
  unfold C10 at hu
  obtain ⟨c, _, hc⟩ := List.mem_flatMap.1 hu
  simp [cellA] at hc
  rcases hc with h | h | h | h | h | h | h | h | h | h <;> subst h <;> rfl
theorem C10_at : ∀ (l : List CellV) (i j : Nat) (c : CellV) (v : Value), l[i]? = some c → (cellA c).toList[j]? = some v → (C10 l)[i * 10 + j]? = some v := by
  intro l
  induction l with
  | nil => intro i j c v h; simp at h
  | cons d l ih =>
    intro i j c v h hv
    have e : C10 (d :: l) = (cellA d).toList ++ C10 l := by unfold C10; simp
    have hl : (cellA d).toList.length = 10 := rfl
    rw [e]
    cases i with
    | zero =>
      simp at h
      subst h
      have hj : j < 10 := (List.getElem?_eq_some_iff.1 hv).1
      rw [Nat.zero_mul, Nat.zero_add, List.getElem?_append_left (by rw [hl]; exact hj)]
      exact hv
    | succ i =>
      rw [List.getElem?_append_right (by rw [hl]; omega), hl, show (i + 1) * 10 + j - 10 = i * 10 + j by omega]
      exact ih i j c v (by simpa using h) hv
theorem owns_csees {w : World} {base n : Nat} {l : List CellV} {v : Value} (h : w.ownsRow base 50 10 v n (C10 l)) : ∃ ao cap, v = .slice ao n cap ∧ CSees w ao l ∧ l.length = n ∧ (ao = none → n = 0) := by
  have hl : l.length = n := by have := h.1; rw [C10_length] at this; omega
  have h0 := h
  rcases h.2 with ⟨rfl, rfl⟩ | ⟨g, cap, cur, rfl, hg, hh, hn, hm, hs, ht⟩
  · exact ⟨none, 0, rfl, fun i c hc => by have := (List.getElem?_eq_some_iff.1 hc).1; omega, hl, fun _ => rfl⟩
  · refine ⟨some ⟨g, 0, none⟩, cap, rfl, fun i c hc => ⟨g, 0, rfl, fun j v hv => ?_⟩, hl, fun e => by cases e⟩
    have := h0.cells (g := g) rfl _ _ (C10_at l i j c v hc hv)
    rw [Addr.add_lit] at this
    rw [Nat.add_assoc]
    exact this
theorem src_cell {w : World} {g : Nat} (c : CellV) (h : w.heap[g]? = some (.cells (cellA c) 50 (0, 0))) : Src Tryz.prog 10 26 (.slice (some ⟨g, 0, none⟩) 1 1) 1 (C10 [c]) w := by
  refine Src.ofSlice _ Tryz.underlying26 _ 1 1 _ (by rw [C10_length]; rfl) ?_ (C10_single _)
  intro j u hu
  rw [C10_one] at hu
  rw [Addr.add_lit, Nat.zero_add, cell_of_row w g j _ _ _ h]
  simpa using hu
theorem infoCell : (Tryz.prog.info? 50).map (fun i => (i.zero, i.size, i.bytes)) = some (some (.agg (cellA ⟨⟨⟨#[]⟩, ⟨#[]⟩, 0, ⟨#[]⟩⟩, ⟨0, false, 0, noVal⟩⟩)), 10, 112) := by kernel_rfl

/-- How the reading of all cells ends. -/
def ReadsC (p : Option (List CellV)) (u : TypeId) (pv : Value) (w : World) (R : Nat) (ao : Option Addr) (l : List UInt8) (cap : Nat) (e : Ending) (w' : World) : Prop :=
  match p with
  | some cs => ∃ v, e = .returned v ∧ w'.ownsRow w.heap.size 50 10 v cs.length (C10 cs) ∧ ∃ m, Rd w' R ao l cap m ∧ w.grownBy w' (some R)
  | none => e = .panicked [{ v := .iface u pv, recovered := false }] ∧ ∃ m, Rd w' R ao l cap m ∧ w.grownBy w' (some R)

theorem manyN_none {k : Nat} {x : List UInt8} (h : cellN x = none) : manyN (k + 1) x = none := by rw [manyN, h]
theorem grownBy_grew {w w1 w2 : World} {R : Nat} {v v' : Value} (h : w.grownBy w1 (some R)) (hg : Grew w1 w2 v v') (hv : ∀ k, v.ownBlock = some k → w.heap.size ≤ k) : w.grownBy w2 (some R) :=
  ⟨hg.rows.os.trans h.os, hg.rows.tape.trans h.tape, hg.rows.output.trans h.output, Nat.le_trans h.size hg.rows.size, fun i hi hne => (hg.rows.block i (Nat.lt_of_lt_of_le hi h.size) (fun e => by have := hv i e.symm; omega)).trans (h.block i hi hne)⟩
theorem Ready.grew {w w1 w2 : World} {u : TypeId} {pv : Value} {R : Nat} {ao : Option Addr} {l : List UInt8} {cap n m : Nat} {v v' : Value} (h0 : Ready w u pv R ao l cap n) (h : Ready w1 u pv R ao l cap m) (hs : w.heap.size ≤ w1.heap.size) (hg : Grew w1 w2 v v') (hv : ∀ k, v.ownBlock = some k → w.heap.size ≤ k) : Ready w2 u pv R ao l cap m := by
  have e : ∀ p : Addr, p.block < w.heap.size → w2.cell? p = w1.cell? p := fun p hp => World.cell?_of_block (hg.rows.block p.block (by omega) (fun e => by have := hv _ e.symm; omega))
  have hE : (⟨4, 0, none⟩ : Addr).block < w.heap.size := World.block_lt_of_cell? w ⟨4, 0, none⟩ h0.err
  have hR : R < w.heap.size := h0.rd.lt
  refine ⟨⟨?_, ?_, ?_, h.rd.le, h.rd.max, ?_, h.rd.ne⟩, ?_, h.ne, h.cap⟩
  · rw [e ⟨R, 0, none⟩ hR]; exact h.rd.c0
  · rw [e ⟨R, 1, none⟩ hR]; exact h.rd.c1
  · rw [World.frozen?_of_block (a := ⟨R, 1, none⟩) (hg.rows.block R (by omega) (fun e => by have := hv _ e.symm; omega))]; exact h.rd.f1
  · intro i hi
    obtain ⟨a, ea, hc⟩ := h0.rd.sees i hi
    obtain ⟨a', ea', hc'⟩ := h.rd.sees i hi
    obtain rfl := Option.some.inj (ea.symm.trans ea')
    exact ⟨a, ea, by rw [e _ (World.block_lt_of_cell? _ _ hc)]; exact hc'⟩
  · have := h.err
    unfold Err at this ⊢
    rw [e _ hE]
    exact this

theorem Ready.heap {w w' : World} {u : TypeId} {pv : Value} {R : Nat} {ao : Option Addr} {l : List UInt8} {cap n : Nat} (h : Ready w u pv R ao l cap n) (e : w'.heap = w.heap) : Ready w' u pv R ao l cap n := by
  refine ⟨h.rd.carry (fun k _ => by rw [e]), ?_, h.ne, h.cap⟩
  have := h.err
  unfold Err at this ⊢
  rw [World.cell?_of_block (w := w) (w' := w') (a := ⟨4, 0, none⟩) (by rw [e]), this]
theorem Ready.alloc {w : World} {u : TypeId} {pv : Value} {R : Nat} {ao : Option Addr} {l : List UInt8} {cap n : Nat} (h : Ready w u pv R ao l cap n) (o : Obj) : Ready (w.alloc o) u pv R ao l cap n :=
  ⟨h.rd.carry (fun _ hk => Below.heap_alloc _ _ _ hk), err_alloc h.err o, h.ne, h.cap⟩
theorem grownBy_like {u w w' : World} {r : Option Nat} (h : u.grownBy w' r) (h1 : u.heap = w.heap) (h2 : u.os = w.os) (h3 : u.tape = w.tape) (h4 : u.output = w.output) : w.grownBy w' r :=
  ⟨h.os.trans h2, h.tape.trans h3, h.output.trans h4, by rw [← h1]; exact h.size, by rw [← h1]; exact h.block⟩
theorem grownBy_allocated {w w1 : World} {r : Option Nat} (h : w.grownBy w1 r) (o : Obj) : w.grownBy (w1.alloc o) r :=
  ⟨h.os, h.tape, h.output, by rw [World.size_alloc]; exact Nat.le_succ_of_le h.size, fun k hk hne => (Below.heap_alloc _ _ _ (Nat.lt_of_lt_of_le hk h.size)).trans (h.block k hk hne)⟩

set_option maxRecDepth 100000 in
set_option maxHeartbeats 1600000 in
theorem rcells_any (R : Nat) (ao : Option Addr) (l : List UInt8) (cap n : Nat) (w : World) (u : TypeId) (pv : Value) (h : Ready w u pv R ao l cap n) (hl : l.length ≤ 1000000000) :
    Calls Tryz.prog 163 #[.pointer (some ⟨R, 0, none⟩)] w (ReadsC (cellsN (l.drop n)) u pv w R ao l cap) := by
  obtain ⟨i0, hi, hz0, hz1, hz2⟩ := info_parts infoCell
  have Hr : Hid (Ready _ _ _ _ _ _ _ _) := h
  have hR := h.rd.lt
  have Hc : Hid _ := number_any R ao l cap n w u pv h
  clear h
  go_enter Tryz.func163, Tryz.ntmps163
  go_wp2_with fail
  cases h1 : getN 0 0 (l.drop n) with
  | none =>
    have hp : cellsN (l.drop n) = none := by unfold cellsN; simp only [h1]
    rw [h1] at Hc
    refine Calls.mono (Hid.out Hc) ?_
    rintro e w1 ⟨rfl, m, hR1, hg1⟩
    clear h1
    go_wp2_with fail
    try rw [hp]
    exact ⟨rfl, rfl, m, hR1, hg1⟩
  | some x1 =>
  obtain ⟨cnt, r1⟩ := x1
  rw [h1] at Hc
  have Hcnt : Hid (cnt < 18446744073709551616) := (get_bd h1).1
  refine Calls.mono (Hid.out Hc) ?_
  rintro e w1 ⟨rfl, m1, hR1, hd1, hm1, hg1⟩
  have H1 : Hid (Ready _ _ _ _ _ _ _ _) := Hr.out.grown hR1 hg1
  have Hp : Hid _ := h1
  clear Hc h1
  go_wp2_with fail
  go_loopw [3, 7] (fun s3 s7 wr => ∃ (i m : Nat) (cs : List CellV), i ≤ cnt ∧ s7 = .int .u64 i ∧ cs.length = i ∧ i ≤ m ∧ wr.ownsRow w.heap.size 50 10 s3 i (C10 cs) ∧ Ready wr u pv R ao l cap m ∧ w.grownBy wr (some R) ∧ manyN cnt r1 = (manyN (cnt - i) (l.drop m)).map fun x => (cs ++ x.1, x.2)) (fun _ s7 _ => cnt - (intOf s7).toNat)
  case atStart =>
    refine ⟨0, m1, [], by omega, rfl, rfl, by omega, World.ownsRow_nil _ _ _ _, H1.out, hg1, ?_⟩
    rw [hd1]
    simp
  case round =>
    obtain ⟨i, m, cs, hic, rfl, hcl, him, ho, hrd, hgr, hmany⟩ := hrel
    have hml := hrd.rd.le
    have hcb := Hcnt.out
    rcases Nat.lt_or_ge i cnt with hlt | hge
    · obtain ⟨k, hk⟩ : ∃ k, cnt - i = k + 1 := ⟨cnt - i - 1, by omega⟩
      rw [hk] at hmany
      have hltI : (i : Int) < (cnt : Int) := by omega
      have hcbI : (cnt : Int) ≤ 18446744073709551615 := by omega
      have Hmany : Hid _ := hmany
      have hsz := hgr.size
      clear hmany
      go_wp2_with fail
      have Hc : Hid _ := key_any R ao l cap m _ u pv hrd
      cases h2 : keyN (l.drop m) with
      | none =>
        have hp : cellsN (l.drop n) = none := by
          unfold cellsN
          simp only [Hid.out Hp]
          rw [Hid.out Hmany, manyN_none (by unfold cellN; simp only [h2])]
          rfl
        rw [h2] at Hc
        refine Calls.mono (Hid.out Hc) ?_
        rintro e w2 ⟨rfl, m2, hR2, hg2⟩
        clear h2
        go_wp2_with fail
        try rw [hp]
        exact ⟨rfl, rfl, m2, hR2, grownBy_trans hgr hg2⟩
      | some x2 =>
      obtain ⟨⟨table, part, row, col⟩, r2⟩ := x2
      rw [h2] at Hc
      refine Calls.mono (Hid.out Hc) ?_
      rintro e w2 ⟨rfl, m2, hR2, hd2, hm2, hg2⟩
      have H2 : Hid (Ready _ _ _ _ _ _ _ _) := hrd.grown hR2 hg2
      have Hh2 : Hid _ := h2
      have hgr2 := grownBy_trans hgr hg2
      have ho2 : w2.ownsRow w.heap.size 50 10 u3 i (C10 cs) := owns_heap ho (fun g hg => hg2.block g (ho.lt g hg).2 (fun e => by have := Option.some.inj e; have := (ho.lt g hg).1; omega))
      clear Hc h2 hg2 hgr ho hrd
      unfold keyA
      have HW : Hid (Ready _ _ _ _ _ _ _ _) := H2.out.alloc (.cells #[.string table, .string part, .int .i64 row, .string col] 44)
      have HB : Hid (Box _ _ _ _) := Box.new w2 #[.string table, .string part, .int .i64 row, .string col] 44
      have Hv : Hid (∀ wx : World, wx.heap = (w2.alloc (.cells #[.string table, .string part, .int .i64 row, .string col] 44)).heap → Calls Tryz.prog 171 #[.pointer (some ⟨R, 0, none⟩)] wx (Reads (verN (l.drop m2)) (fun k : VerV => .agg (verA k)) u pv wx R ao l cap m2)) := fun wx e => version_any R ao l cap m2 wx u pv (HW.out.heap e)
      have hRw : R ≠ w2.heap.size := by have := hgr2.size; omega
      have ho2' := ho2.alloc (.cells #[.string table, .string part, .int .i64 row, .string col] 44)
      have hgr2' := grownBy_allocated hgr2 (.cells #[.string table, .string part, .int .i64 row, .string col] 44)
      go_wp2_with fail
      cases h3 : verN (l.drop m2) with
      | none =>
        have hp : cellsN (l.drop n) = none := by
          unfold cellsN
          simp only [Hid.out Hp]
          rw [Hid.out Hmany, manyN_none (by unfold cellN; simp only [Hid.out Hh2, ← hd2, h3])]
          rfl
        rw [h3] at Hv
        clear h3
        go_region_dies
        all_goals
          refine Calls.mono (Hid.out Hv _ rfl) ?_
          rintro e w3 ⟨rfl, m3, hR3, hg3⟩
          go_wp2_with fail
          try rw [hp]
          exact ⟨rfl, rfl, m3, hR3, grownBy_trans hgr2' (grownBy_like hg3 rfl rfl rfl rfl)⟩
      | some x3 =>
      obtain ⟨⟨time, dead, loc, kind, num, s⟩, r3⟩ := x3
      rw [h3] at Hv
      unfold verA at Hv
      have hcell : cellN (l.drop m) = some (⟨⟨table, part, row, col⟩, ⟨time, dead, loc, kind, num, s⟩⟩, r3) := by unfold cellN; simp only [Hid.out Hh2, ← hd2, h3]
      have Hcell : Hid _ := hcell
      clear h3 hcell
      go_region_law (first
        | (refine step_append_grew rfl (.tmp 11) (.tmp 16) 26 26 rfl w.heap.size 50 i0 _ 10 112 Tryz.underlying26 hi hz0 hz1 hz2 rfl _ _ _ rfl (by exact ho3.alloc _) _ 1 (C10 [⟨⟨table, part, row, col⟩, ⟨time, dead, loc, kind, num, s⟩⟩]) rfl (src_cell ⟨⟨table, part, row, col⟩, ⟨time, dead, loc, kind, num, s⟩⟩ (by exact heap_alloc_new w3 _)) (by unfold maxLen; omega) (by omega) (by exact Nat.le_trans g3.size (by simp)) ?_; intro v4 w4 ho4 hg4)
        | (go_simp; go_at_call 171; refine Calls.mono (Hid.out Hv _ rfl) ?_; rintro e w3 ⟨rfl, m3, hR3, hd3, hm3, hg3⟩; have g3' := grownBy_like (w := w2.alloc (.cells #[.string table, .string part, .int .i64 row, .string col] 44)) hg3 rfl rfl rfl rfl; have g3 := grownBy_trans hgr2' g3'; have hB3 := HB.out.grown g3' hRw; have d0 := hB3.cell 0; have d1 := hB3.cell 1; have d2 := hB3.cell 2; have d3 := hB3.cell 3; have ho3 := owns_heap ho2' (fun g hg => g3'.block g (ho2'.lt g hg).2 (fun e => by have := Option.some.inj e; have := (ho2'.lt g hg).1; omega))))
      all_goals
        have g4 : Grew w3 w4 u3 v4 := Grew.alloc (w := w3) (o := .cells (cellA ⟨⟨table, part, row, col⟩, ⟨time, dead, loc, kind, num, s⟩⟩) 50) (hg4.like rfl rfl rfl rfl)
        clear hg4 d0 d1 d2 d3
        have hle3 := hR3.le
        go_wp2
        go_roundw
        case rel =>
          refine ⟨i + 1, m3, cs ++ [⟨⟨table, part, row, col⟩, ⟨time, dead, loc, kind, num, s⟩⟩], by omega, by go_num, by simp [hcl], by omega, ?_, ?_, ?_, ?_⟩
          · rw [C10_append]
            exact ho4
          · exact Ready.grew Hr.out (HW.out.grown hR3 g3') g3.size g4 (fun k hk => (ho3.lt k hk).1)
          · exact grownBy_grew g3 g4 (fun k hk => (ho3.lt k hk).1)
          · rw [Hmany.out, manyN, Hcell.out, hd3, show cnt - (i + 1) = k by omega]
            simp only []
            cases manyN k r3 <;> simp
        case measure => simp [intOf]; omega
    · obtain rfl : i = cnt := by omega
      have c0 := hrd.rd.c0
      have c1 := hrd.rd.c1
      have he := hrd.err
      unfold Err at he
      rw [Nat.sub_self, manyN] at hmany
      simp only [Option.map_some, List.append_nil] at hmany
      have Hmany : Hid _ := hmany
      have hmax := hrd.rd.max
      clear hmany hge hic
      by_cases hme : m = l.length
      · have hp : cellsN (l.drop n) = some cs := by
          unfold cellsN
          simp only [Hid.out Hp]
          rw [Hid.out Hmany, List.drop_eq_nil_of_le (by omega)]
        have hcmp : ((m : Int) == (l.length : Int)) = true := by simp [hme]
        clear hme
        go_wp2
        go_quiet (fail)
        go_wp2
        go_ret
        rw [hp]
        refine ⟨_, rfl, ?_, m, hrd.rd.drewN _, grownBy_drewN hgr _⟩
        rw [hcl]
        exact ho
      · have hp : cellsN (l.drop n) = none := by
          unfold cellsN
          simp only [Hid.out Hp]
          rw [Hid.out Hmany, List.drop_eq_getElem_cons (by omega)]
        have hcmp : ((m : Int) == (l.length : Int)) = false := by simp; omega
        clear hme
        go_wp2
        go_quiet (fail)
        go_wp2
        try rw [hp]
        exact ⟨rfl, rfl, m, hrd.rd.drewN _, grownBy_drewN hgr _⟩
end Go.Proofs.YtglaocghcgcghaaGreatDoor

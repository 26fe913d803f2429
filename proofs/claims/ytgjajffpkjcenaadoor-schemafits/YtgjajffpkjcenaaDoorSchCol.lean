/-
  CONTRACTS: a table's column (Column), by the program and by the document.
-/
import Derived.Test.YtgjajffpkjcenaaDoorSchMem
namespace Go.Proofs.YtgjajffpkjcenaaDoor
open Go.RowKit

def colF (cs : List Co) (s : ByteArray) : Option Co := cs.find? fun c => decide (nb c.n = nb s)
/-- What Column tells. -/
def colR (cs : List Co) (s : ByteArray) : Co × Bool := match colF cs s with | some c => (c, true) | none => (⟨⟨#[]⟩, 0⟩, false)
theorem colF_at {cs : List Co} {s : ByteArray} {i : Nat} (hn : ∀ j c, j < i → cs[j]? = some c → nb c.n ≠ nb s) : colF cs s = colF (cs.drop i) s := by
  induction i generalizing cs with
  | zero => rfl
  | succ i ih =>
    cases cs with
    | nil => rfl
    | cons a cs =>
      have h0 := hn 0 a (by omega) rfl
      rw [List.drop_succ_cons, ← ih (cs := cs) fun j c hj hc => hn (j + 1) c (by omega) hc]
      unfold colF
      rw [List.find?_cons, decide_eq_false h0]
theorem colF_hit {cs : List Co} {s : ByteArray} {i : Nat} {c : Co} (hn : ∀ j c, j < i → cs[j]? = some c → nb c.n ≠ nb s) (hc : cs[i]? = some c) (h : nb c.n = nb s) : colF cs s = some c := by
  obtain ⟨hlt, rfl⟩ := List.getElem?_eq_some_iff.1 hc
  rw [colF_at hn, List.drop_eq_getElem_cons hlt]
  unfold colF
  rw [List.find?_cons, decide_eq_true h]
theorem colF_none {cs : List Co} {s : ByteArray} (hn : ∀ j c, j < cs.length → cs[j]? = some c → nb c.n ≠ nb s) : colF cs s = none := by
  rw [colF_at hn, List.drop_length]; rfl
theorem results_row_tmp17 {P : Program} {fn : Func} {p u : Tmp} {ty : TypeId} (h : fn.results = #[.cell p ty, .tmp u]) (tmps : Array Value) (w : World) (g : Nat) (t : TypeId) (cs : Array Value) (fr : Nat × Nat) (d : TypeDesc) (v : Value)
    (hp : tmps.getD p undef = .pointer (some ⟨g, 0, none⟩)) (hv : tmps.getD u undef = v) (hg : w.heap[g]? = some (.cells cs t fr))
    (hu : P.underlying ty = some d) (hd : (match d with | .struct _ | .array _ _ => true | _ => false) = true) (hi : (P.info? ty).map (·.size) = some cs.size) :
    (results fn tmps).run P w = .ok (.tuple #[.agg cs, v]) w := by
  rw [results_cell_tmp h, hp, hv]
  simp [asAddr, run_loadVar_row w g t ty cs fr d hg hu hd hi, Result.andThen]
theorem neB {a b : ByteArray} (h : nb a ≠ nb b) : ¬ a.toList = b.toList := by rw [Go.ByteArray.toList_eq, Go.ByteArray.toList_eq]; exact h
theorem neB2 {a b : ByteArray} (h : nb a ≠ nb b) : (a.toList == b.toList) = false := beq_false_of_ne (neB h)
theorem eqB {a b : ByteArray} (h : nb a = nb b) : a.toList = b.toList := by rw [Go.ByteArray.toList_eq, Go.ByteArray.toList_eq]; exact h
set_option maxRecDepth 100000 in
set_option maxHeartbeats 2000000 in
theorem column_any (T : Tb) (ao : Option Addr) (cap : Nat) (s : ByteArray) (w : World) (hC : CSee w ao T.cs) (hl : T.cs.length * 24 ≤ 140737488351232) :
    Calls Tryd.prog 11 #[T.v ao cap, .string s] w fun e w' => e = .returned (.tuple #[(colR T.cs s).1.v, .bool (colR T.cs s).2]) ∧ Below w.heap.size w w' := by
  obtain ⟨tt, tp, tr, cs⟩ := T
  have hnz : (cs.length : Int) ≤ 5864062014634 := by have : cs.length * 24 ≤ 140737488351232 := hl; omega
  obtain ⟨wa, hwa⟩ : ∃ wa, wa = (w.alloc (.cells #[.string tt, .string tp, .string tr, .slice ao cs.length cap] 26)).alloc (.cells #[.string ⟨#[]⟩, .int .i64 0] 29) := ⟨_, rfl⟩
  have hsz : wa.heap.size = w.heap.size + 2 := by rw [hwa, World.size_alloc, World.size_alloc]
  have hB : Below w.heap.size w wa := by rw [hwa]; exact ((Below.refl _ _).alloc (Nat.le_refl _) _).alloc (by simp) _
  have hR0 : Blk wa (w.heap.size + 1) [.string ⟨#[]⟩, .int .i64 0] 29 := by
    have := Blk.new (w.alloc (.cells #[.string tt, .string tp, .string tr, .slice ao cs.length cap] 26)) [.string ⟨#[]⟩, .int .i64 0] 29
    rw [World.size_alloc] at this
    rw [hwa]; exact this
  have hS : Blk wa w.heap.size [.string tt, .string tp, .string tr, .slice ao cs.length cap] 26 := by
    rw [hwa]; exact (Blk.new w [.string tt, .string tp, .string tr, .slice ao cs.length cap] 26).alloc _
  have hS3 := hS.cell 3 rfl
  have HC : Hid (∀ wr, Below wa.heap.size wa wr → CSee wr ao cs ∧ Blk wr (w.heap.size + 1) [.string ⟨#[]⟩, .int .i64 0] 29 ∧ Below w.heap.size w wr) := fun wr hb => ⟨hC.below (hB.trans (hb.mono hB.size)), hR0.carry (hb.block _ (by omega)), hB.trans (hb.mono hB.size)⟩
  have HS : Hid (∀ (wr : World) (x y : Value), Blk wr (w.heap.size + 1) [.string ⟨#[]⟩, .int .i64 0] 29 → ((wr.setCell ⟨w.heap.size + 1, 0, none⟩ x).setCell ⟨w.heap.size + 1, 1, none⟩ y).heap[w.heap.size + 1]? = some (.cells #[x, y] 29)) := fun wr x y h => (h.set 0 x).set 1 y
  have HBB : Hid (∀ (wr : World) (x y : Value), Below w.heap.size w wr → Below w.heap.size w ((wr.setCell ⟨w.heap.size + 1, 0, none⟩ x).setCell ⟨w.heap.size + 1, 1, none⟩ y)) := fun wr x y h => (h.setCell (p := ⟨w.heap.size + 1, 0, none⟩) (Nat.le_succ _) x).setCell (p := ⟨w.heap.size + 1, 1, none⟩) (Nat.le_succ _) y
  have HH : Hid (∀ (i : Nat) (c : Co), (∀ (j : Nat) (c : Co), j < i → cs[j]? = some c → nb c.n ≠ nb s) → cs[i]? = some c → nb c.n = nb s → colR cs s = (c, true)) := fun i c h1 h2 h3 => by show colR cs s = _; unfold colR; rw [colF_hit h1 h2 h3]
  have HN : Hid ((∀ (j : Nat) (c : Co), j < cs.length → cs[j]? = some c → nb c.n ≠ nb s) → colR cs s = (⟨⟨#[]⟩, 0⟩, false)) := fun h => by show colR cs s = _; unfold colR; rw [colF_none h]
  rw [hwa] at hS3
  clear hC hl hS hR0 hB
  simp only [Tb.v, Tb.a]
  generalize colR cs s = Q at *
  go_enter Tryd.func11, Tryd.ntmps11
  go_wp2_with fail
  rw [← hwa]
  clear hwa hS3
  go_loopw [11] (fun s11 wr => ∃ k : Nat, k ≤ cs.length ∧ s11 = .int .i64 (k : Int) ∧ Below wa.heap.size wa wr ∧ ∀ j c, j < k → cs[j]? = some c → nb c.n ≠ nb s) (fun s11 _ => cs.length - (intOf s11).toNat)
  case atStart => exact ⟨0, Nat.zero_le _, rfl, Below.refl _ _, fun j c hj => absurd hj (Nat.not_lt_zero _)⟩
  case round =>
    obtain ⟨k, hk, rfl, hb, hno⟩ := hrel
    rcases Nat.lt_or_ge k cs.length with hlt | hge
    · have hcs : cs[k]? = some cs[k] := List.getElem?_eq_getElem hlt
      obtain ⟨b, off, rfl, k0, k1⟩ := (HC.out wr hb).1 k _ hcs
      have hkz : (k : Int) < (cs.length : Int) := by omega
      have hb1 : Below wa.heap.size wa (wr.alloc (.cells #[.string cs[k].n, .int .i64 cs[k].k] 29)) := hb.alloc hb.size _
      obtain ⟨-, hR, hBw⟩ := HC.out _ hb1
      have f0 := hR.frozen 0
      have f1 := hR.frozen 1
      have d0 := hR.cell 0 rfl
      have d1 := hR.cell 1 rfl
      have HW := HS.out _ (.string cs[k].n) (.int .i64 cs[k].k) hR
      have HV := HBB.out _ (.string cs[k].n) (.int .i64 cs[k].k) hBw
      have HB1 : Hid (Below wa.heap.size wa (wr.alloc (.cells #[.string cs[k].n, .int .i64 cs[k].k] 29))) := hb1
      by_cases he : nb cs[k].n = nb s
      · have HQ : Hid (Q = (cs[k], true)) := HH.out k _ hno hcs he
        have he2 := eqB he
        generalize cs[k] = c at *
        obtain ⟨cn, ck⟩ := c
        simp only at *
        have HW' : Hid _ := HW
        have HV' : Hid _ := HV
        clear hcs hno hb hb1 hR hBw HW HV HH HN HS HBB HC he
        go_wp2_with fail
        refine bodyPost_ret (v := .tuple #[.agg #[.string cn, .int .i64 ck], .bool true]) (results_row_tmp17 Tryd.results11 _ _ (w.heap.size + 1) 29 _ _ _ _ rfl rfl HW'.out Tryd.underlying29 rfl (by kernel_rfl)) rfl ?_
        exact ⟨by rw [HQ.out]; rfl, HV'.out⟩
      · have HNo : Hid (∀ (j : Nat) (c : Co), j < k + 1 → cs[j]? = some c → nb c.n ≠ nb s) := fun j c hj hc => by
          by_cases e : j = k
          · subst e; rw [hcs] at hc; cases hc; exact he
          · exact hno j c (by omega) hc
        have he2 := neB he
        have he3 := neB2 he
        generalize cs[k] = c at *
        obtain ⟨cn, ck⟩ := c
        simp only at *
        clear hcs hno hb hb1 hR hBw HW HV HH HN HS HBB HC he d0 d1 f0 f1
        go_wp2_with fail
        go_roundw
        case rel => exact ⟨k + 1, by omega, by go_num, HB1.out, HNo.out⟩
        case measure => simp [intOf]; omega
    · obtain rfl : k = cs.length := by omega
      obtain ⟨-, hR, hBw⟩ := HC.out _ hb
      have f0 := hR.frozen 0
      have f1 := hR.frozen 1
      have d0 := hR.cell 0 rfl
      have d1 := hR.cell 1 rfl
      have HW : Hid _ := HS.out _ (.string ⟨#[]⟩) (.int .i64 0) hR
      have HV : Hid _ := HBB.out _ (.string ⟨#[]⟩) (.int .i64 0) hBw
      have HQ : Hid (Q = (⟨⟨#[]⟩, 0⟩, false)) := HN.out hno
      clear hno hb hR hBw HH HN HS HBB HC
      go_wp2_with fail
      refine bodyPost_ret (v := .tuple #[.agg #[.string ⟨#[]⟩, .int .i64 0], .bool false]) (results_row_tmp17 Tryd.results11 _ _ (w.heap.size + 1) 29 _ _ _ _ rfl rfl HW.out Tryd.underlying29 rfl (by kernel_rfl)) rfl ?_
      exact ⟨by rw [HQ.out]; rfl, HV.out⟩
set_option maxRecDepth 100000 in
set_option maxHeartbeats 2000000 in
theorem refColumn_any (T : Tb) (ao : Option Addr) (cap : Nat) (s : ByteArray) (w : World) (hC : CSee w ao T.cs) (hl : T.cs.length * 24 ≤ 140737488351232) :
    Calls Tryd.prog 12 #[T.v ao cap, .string s] w fun e w' => e = .returned (.tuple #[(colR T.cs s).1.v, .bool (colR T.cs s).2]) ∧ Below w.heap.size w w' := by
  obtain ⟨tt, tp, tr, cs⟩ := T
  have hnz : (cs.length : Int) ≤ 5864062014634 := by have : cs.length * 24 ≤ 140737488351232 := hl; omega
  obtain ⟨wa, hwa⟩ : ∃ wa, wa = (w.alloc (.cells #[.string tt, .string tp, .string tr, .slice ao cs.length cap] 26)).alloc (.cells #[.string ⟨#[]⟩, .int .i64 0] 29) := ⟨_, rfl⟩
  have hsz : wa.heap.size = w.heap.size + 2 := by rw [hwa, World.size_alloc, World.size_alloc]
  have hB : Below w.heap.size w wa := by rw [hwa]; exact ((Below.refl _ _).alloc (Nat.le_refl _) _).alloc (by simp) _
  have hR0 : Blk wa (w.heap.size + 1) [.string ⟨#[]⟩, .int .i64 0] 29 := by
    have := Blk.new (w.alloc (.cells #[.string tt, .string tp, .string tr, .slice ao cs.length cap] 26)) [.string ⟨#[]⟩, .int .i64 0] 29
    rw [World.size_alloc] at this
    rw [hwa]; exact this
  have hS : Blk wa w.heap.size [.string tt, .string tp, .string tr, .slice ao cs.length cap] 26 := by
    rw [hwa]; exact (Blk.new w [.string tt, .string tp, .string tr, .slice ao cs.length cap] 26).alloc _
  have hS3 := hS.cell 3 rfl
  have HC : Hid (∀ wr, Below wa.heap.size wa wr → CSee wr ao cs ∧ Blk wr (w.heap.size + 1) [.string ⟨#[]⟩, .int .i64 0] 29 ∧ Below w.heap.size w wr) := fun wr hb => ⟨hC.below (hB.trans (hb.mono hB.size)), hR0.carry (hb.block _ (by omega)), hB.trans (hb.mono hB.size)⟩
  have HS : Hid (∀ (wr : World) (x y : Value), Blk wr (w.heap.size + 1) [.string ⟨#[]⟩, .int .i64 0] 29 → ((wr.setCell ⟨w.heap.size + 1, 0, none⟩ x).setCell ⟨w.heap.size + 1, 1, none⟩ y).heap[w.heap.size + 1]? = some (.cells #[x, y] 29)) := fun wr x y h => (h.set 0 x).set 1 y
  have HBB : Hid (∀ (wr : World) (x y : Value), Below w.heap.size w wr → Below w.heap.size w ((wr.setCell ⟨w.heap.size + 1, 0, none⟩ x).setCell ⟨w.heap.size + 1, 1, none⟩ y)) := fun wr x y h => (h.setCell (p := ⟨w.heap.size + 1, 0, none⟩) (Nat.le_succ _) x).setCell (p := ⟨w.heap.size + 1, 1, none⟩) (Nat.le_succ _) y
  have HH : Hid (∀ (i : Nat) (c : Co), (∀ (j : Nat) (c : Co), j < i → cs[j]? = some c → nb c.n ≠ nb s) → cs[i]? = some c → nb c.n = nb s → colR cs s = (c, true)) := fun i c h1 h2 h3 => by show colR cs s = _; unfold colR; rw [colF_hit h1 h2 h3]
  have HN : Hid ((∀ (j : Nat) (c : Co), j < cs.length → cs[j]? = some c → nb c.n ≠ nb s) → colR cs s = (⟨⟨#[]⟩, 0⟩, false)) := fun h => by show colR cs s = _; unfold colR; rw [colF_none h]
  rw [hwa] at hS3
  clear hC hl hS hR0 hB
  simp only [Tb.v, Tb.a]
  generalize colR cs s = Q at *
  go_enter Tryd.func12, Tryd.ntmps12
  go_wp2_with fail
  rw [← hwa]
  clear hwa hS3
  go_loopw [11] (fun s11 wr => ∃ k : Nat, k ≤ cs.length ∧ s11 = .int .i64 (k : Int) ∧ Below wa.heap.size wa wr ∧ ∀ j c, j < k → cs[j]? = some c → nb c.n ≠ nb s) (fun s11 _ => cs.length - (intOf s11).toNat)
  case atStart => exact ⟨0, Nat.zero_le _, rfl, Below.refl _ _, fun j c hj => absurd hj (Nat.not_lt_zero _)⟩
  case round =>
    obtain ⟨k, hk, rfl, hb, hno⟩ := hrel
    rcases Nat.lt_or_ge k cs.length with hlt | hge
    · have hcs : cs[k]? = some cs[k] := List.getElem?_eq_getElem hlt
      obtain ⟨b, off, rfl, k0, k1⟩ := (HC.out wr hb).1 k _ hcs
      have hkz : (k : Int) < (cs.length : Int) := by omega
      have hb1 : Below wa.heap.size wa (wr.alloc (.cells #[.string cs[k].n, .int .i64 cs[k].k] 29)) := hb.alloc hb.size _
      obtain ⟨-, hR, hBw⟩ := HC.out _ hb1
      have f0 := hR.frozen 0
      have f1 := hR.frozen 1
      have d0 := hR.cell 0 rfl
      have d1 := hR.cell 1 rfl
      have HW := HS.out _ (.string cs[k].n) (.int .i64 cs[k].k) hR
      have HV := HBB.out _ (.string cs[k].n) (.int .i64 cs[k].k) hBw
      have HB1 : Hid (Below wa.heap.size wa (wr.alloc (.cells #[.string cs[k].n, .int .i64 cs[k].k] 29))) := hb1
      by_cases he : nb cs[k].n = nb s
      · have HQ : Hid (Q = (cs[k], true)) := HH.out k _ hno hcs he
        have he2 := eqB he
        generalize cs[k] = c at *
        obtain ⟨cn, ck⟩ := c
        simp only at *
        have HW' : Hid _ := HW
        have HV' : Hid _ := HV
        clear hcs hno hb hb1 hR hBw HW HV HH HN HS HBB HC he
        go_wp2_with fail
        refine bodyPost_ret (v := .tuple #[.agg #[.string cn, .int .i64 ck], .bool true]) (results_row_tmp17 Tryd.results12 _ _ (w.heap.size + 1) 29 _ _ _ _ rfl rfl HW'.out Tryd.underlying29 rfl (by kernel_rfl)) rfl ?_
        exact ⟨by rw [HQ.out]; rfl, HV'.out⟩
      · have HNo : Hid (∀ (j : Nat) (c : Co), j < k + 1 → cs[j]? = some c → nb c.n ≠ nb s) := fun j c hj hc => by
          by_cases e : j = k
          · subst e; rw [hcs] at hc; cases hc; exact he
          · exact hno j c (by omega) hc
        have he2 := neB he
        have he3 := neB2 he
        generalize cs[k] = c at *
        obtain ⟨cn, ck⟩ := c
        simp only at *
        clear hcs hno hb hb1 hR hBw HW HV HH HN HS HBB HC he d0 d1 f0 f1
        go_wp2_with fail
        go_roundw
        case rel => exact ⟨k + 1, by omega, by go_num, HB1.out, HNo.out⟩
        case measure => simp [intOf]; omega
    · obtain rfl : k = cs.length := by omega
      obtain ⟨-, hR, hBw⟩ := HC.out _ hb
      have f0 := hR.frozen 0
      have f1 := hR.frozen 1
      have d0 := hR.cell 0 rfl
      have d1 := hR.cell 1 rfl
      have HW : Hid _ := HS.out _ (.string ⟨#[]⟩) (.int .i64 0) hR
      have HV : Hid _ := HBB.out _ (.string ⟨#[]⟩) (.int .i64 0) hBw
      have HQ : Hid (Q = (⟨⟨#[]⟩, 0⟩, false)) := HN.out hno
      clear hno hb hR hBw HH HN HS HBB HC
      go_wp2_with fail
      refine bodyPost_ret (v := .tuple #[.agg #[.string ⟨#[]⟩, .int .i64 0], .bool false]) (results_row_tmp17 Tryd.results12 _ _ (w.heap.size + 1) 29 _ _ _ _ rfl rfl HW.out Tryd.underlying29 rfl (by kernel_rfl)) rfl ?_
      exact ⟨by rw [HQ.out]; rfl, HV.out⟩
end Go.Proofs.YtgjajffpkjcenaaDoor

/-
  CONTRACTS: a table of a name (Find), by the program and by the document.
-/
import Derived.Test.YtgjajffpkjcenaaDoorSchFits
import Derived.Test.YtgjajffpkjcenaaDoorSchTabC
namespace Go.Proofs.YtgjajffpkjcenaaDoor
open Go.RowKit

/-- A table with the place of its columns. -/
structure Tx where
  T : Tb
  o : Option Addr
  k : Nat
/-- Tables in memory. -/
def TSee (w : World) (ao : Option Addr) (l : List Tx) : Prop := ∀ i x, l[i]? = some x → ∃ b off, ao = some ⟨b, off, none⟩ ∧ (w.cell? ⟨b, off + i * 4, none⟩ = some (.string x.T.t) ∧ w.cell? ⟨b, off + i * 4 + 1, none⟩ = some (.string x.T.p) ∧ w.cell? ⟨b, off + i * 4 + 2, none⟩ = some (.string x.T.r) ∧ w.cell? ⟨b, off + i * 4 + 3, none⟩ = some (.slice x.o x.T.cs.length x.k)) ∧ CSee w x.o x.T.cs
theorem TSee.below {w w' : World} {ao : Option Addr} {l : List Tx} (h : TSee w ao l) (hb : Below w.heap.size w w') : TSee w' ao l := fun i x hx => by
  obtain ⟨b, off, e, ⟨k0, k1, k2, k3⟩, hc⟩ := h i x hx
  have hl := World.block_lt_of_cell? _ _ k0
  refine ⟨b, off, e, ⟨?_, ?_, ?_, ?_⟩, hc.below hb⟩
  · rw [hb.cell (p := ⟨b, off + i * 4, none⟩) hl]; exact k0
  · rw [hb.cell (p := ⟨b, off + i * 4 + 1, none⟩) hl]; exact k1
  · rw [hb.cell (p := ⟨b, off + i * 4 + 2, none⟩) hl]; exact k2
  · rw [hb.cell (p := ⟨b, off + i * 4 + 3, none⟩) hl]; exact k3
def Co.l (c : Co) : List Value := [.string c.n, .int .i64 c.k]
theorem infoCo17 : (Tryd.prog.info? 29).map (fun i => (i.zero, i.size, i.bytes)) = some (some (.agg #[.string ⟨#[]⟩, .int .i64 0]), 2, 24) := by kernel_rfl
theorem flat_len17 (l : List Co) : (l.flatMap Co.l).length = l.length * 2 := by
  induction l with
  | nil => rfl
  | cons a l ih => rw [List.flatMap_cons, List.length_append, ih, List.length_cons]; simp [Co.l]; omega
theorem flat_at17 : ∀ (l : List Co) (j : Nat) (u : Value), (l.flatMap Co.l)[j]? = some u → ∃ i c, l[i]? = some c ∧ ((j = i * 2 ∧ u = .string c.n) ∨ (j = i * 2 + 1 ∧ u = .int .i64 c.k))
  | [], j, u, h => by cases h
  | a :: l, 0, u, h => by cases h; exact ⟨0, a, rfl, .inl ⟨rfl, rfl⟩⟩
  | a :: l, 1, u, h => by cases h; exact ⟨0, a, rfl, .inr ⟨rfl, rfl⟩⟩
  | a :: l, j + 2, u, h => by
    obtain ⟨i, c, h1, h2⟩ := flat_at17 l j u h
    exact ⟨i + 1, c, h1, h2.imp (fun h => ⟨by omega, h.2⟩) fun h => ⟨by omega, h.2⟩⟩
theorem src_cols {w : World} {ao : Option Addr} {l : List Co} (h : CSee w ao l) (cap : Nat) : Src Tryd.prog 2 24 (.slice ao l.length cap) l.length (l.flatMap Co.l) w := by
  cases ao with
  | none =>
    have : l = [] := by
      cases l with
      | nil => rfl
      | cons a l => obtain ⟨b, off, e, _⟩ := h 0 a rfl; cases e
    subst this
    exact Src.ofNil w Tryd.underlying24 cap
  | some a =>
    refine Src.ofSlice w Tryd.underlying24 a _ cap _ (flat_len17 l) (fun j u hu => ?_) (fun u hu => ?_)
    · obtain ⟨i, c, hc, hj⟩ := flat_at17 l j u hu
      obtain ⟨b, off, e, k0, k1⟩ := h i c hc
      cases e
      rw [Addr.add_lit]
      rcases hj with ⟨rfl, rfl⟩ | ⟨rfl, rfl⟩
      · exact k0
      · rw [← Nat.add_assoc]; exact k1
    · obtain ⟨c, _, hc⟩ := List.mem_flatMap.1 hu
      simp [Co.l] at hc
      rcases hc with rfl | rfl <;> rfl
theorem isNil17 (cap : Nat) (w : World) : (binOp BinOp.eql 24 (.slice none 0 cap) (.slice none 0 0)).run Tryd.prog w = .ok (.bool true) w := by kernel_rfl
theorem notNil17 (a : Addr) (n cap : Nat) (w : World) : (binOp BinOp.eql 24 (.slice (some a) n cap) (.slice none 0 0)).run Tryd.prog w = .ok (.bool false) w := by kernel_rfl
theorem owns_none17 (w : World) : (w.alloc (.cells #[] 29)).ownsRow w.heap.size 29 2 (.slice (some ⟨w.heap.size, 0, none⟩) 0 0) 0 [] :=
  ⟨rfl, .inr ⟨w.heap.size, 0, _, rfl, Nat.le_refl _, heap_alloc_new w _, Nat.le_refl _, by unfold maxLen; omega, rfl, rfl⟩⟩
set_option maxRecDepth 100000 in
set_option maxHeartbeats 1000000 in
theorem clone17_any (ao : Option Addr) (l : List Co) (cap : Nat) (w : World) (hs : CSee w ao l) (hl : l.length ≤ 1000000) :
    Calls Tryd.prog 41 #[.slice ao l.length cap] w fun e w' => ∃ o c, e = .returned (.slice o l.length c) ∧ Below w.heap.size w w' := by
  obtain ⟨i1, hi1, hy0, hy1, hy2⟩ := info_of17 infoCo17
  cases ao with
  | none =>
    have : l = [] := by
      cases l with
      | nil => rfl
      | cons a l => obtain ⟨b, off, e, _⟩ := hs 0 a rfl; cases e
    subst this
    simp only [List.length_nil]
    clear hs
    have hq := isNil17 cap w
    go_enter Tryd.func41, Tryd.ntmps41
    go_wp2_with fail
    go_ret
    exact ⟨none, 0, rfl, Below.refl _ _⟩
  | some a =>
    have hlz : (l.length : Int) ≤ 1000000 := by omega
    have hq := notNil17 a l.length cap w
    have hbe : Below w.heap.size w (w.alloc (.cells #[] 29)) := (Below.refl _ _).alloc (Nat.le_refl _) _
    have hs2 := hs.below hbe
    go_enter Tryd.func41, Tryd.ntmps41
    go_wp2_with (at_builtin; go_must (refine wpList_append_grew _ rfl _ _ 24 24 rfl w.heap.size 29 i1 _ 2 24 Tryd.underlying24 hi1 hy0 hy1 hy2 rfl _ 0 [] rfl (owns_none17 w) _ l.length (l.flatMap Co.l) rfl (src_cols hs2 cap) (by unfold maxLen; omega) (by omega) (by rw [World.size_alloc]; omega) ?_; intro v2 w2 ho2 hg2; simp only [Nat.zero_add, List.nil_append] at ho2))
    go_ret
    have hb2 : Below w.heap.size w w2 := hbe.trans (hg2.below (by rw [World.size_alloc]; omega) (fun g hg => by
      obtain rfl := Option.some.inj hg
      exact Nat.le_refl _))
    rcases ho2.2 with ⟨rfl, h0⟩ | ⟨g, c, cur, rfl, _⟩
    · exact ⟨none, 0, by rw [h0]; rfl, hb2⟩
    · exact ⟨_, c, rfl, hb2⟩
def fdT (l : List Tx) (s : ByteArray) : Option Tx := l.find? fun x => decide (nb x.T.t = nb s)
/-- What Find tells of a table, but for its columns: how many. -/
structure Fd where
  t : ByteArray
  p : ByteArray
  r : ByteArray
  n : Nat
  ok : Bool
def fdR (l : List Tx) (s : ByteArray) : Fd := match fdT l s with | some x => ⟨x.T.t, x.T.p, x.T.r, x.T.cs.length, true⟩ | none => ⟨⟨#[]⟩, ⟨#[]⟩, ⟨#[]⟩, 0, false⟩
theorem fdT_at {l : List Tx} {s : ByteArray} {i : Nat} (hn : ∀ (j : Nat) (x : Tx), j < i → l[j]? = some x → nb x.T.t ≠ nb s) : fdT l s = fdT (l.drop i) s := by
  induction i generalizing l with
  | zero => rfl
  | succ i ih =>
    cases l with
    | nil => rfl
    | cons a l =>
      have h0 := hn 0 a (by omega) rfl
      rw [List.drop_succ_cons, ← ih (l := l) fun j x hj hx => hn (j + 1) x (by omega) hx]
      unfold fdT
      rw [List.find?_cons, decide_eq_false h0]
theorem fdT_hit {l : List Tx} {s : ByteArray} {i : Nat} {x : Tx} (hn : ∀ (j : Nat) (x : Tx), j < i → l[j]? = some x → nb x.T.t ≠ nb s) (hx : l[i]? = some x) (h : nb x.T.t = nb s) : fdT l s = some x := by
  obtain ⟨hlt, rfl⟩ := List.getElem?_eq_some_iff.1 hx
  rw [fdT_at hn, List.drop_eq_getElem_cons hlt]
  unfold fdT
  rw [List.find?_cons, decide_eq_true h]
theorem fdT_none {l : List Tx} {s : ByteArray} (hn : ∀ (j : Nat) (x : Tx), j < l.length → l[j]? = some x → nb x.T.t ≠ nb s) : fdT l s = none := by
  rw [fdT_at hn, List.drop_length]; rfl
set_option maxRecDepth 100000 in
set_option maxHeartbeats 2000000 in
theorem find_any (l : List Tx) (ao : Option Addr) (cap : Nat) (s : ByteArray) (w : World) (hL : TSee w ao l) (hl : l.length ≤ 1000000) (hn : ∀ x ∈ l, x.T.cs.length ≤ 1000000) :
    Calls Tryd.prog 20 #[.slice ao l.length cap, .string s] w fun e w' => ∃ o c, e = .returned (.tuple #[.agg #[.string (fdR l s).t, .string (fdR l s).p, .string (fdR l s).r, .slice o (fdR l s).n c], .bool (fdR l s).ok]) ∧ Below w.heap.size w w' := by
  have hnz : (l.length : Int) ≤ 1000000 := by omega
  obtain ⟨wa, hwa⟩ : ∃ wa, wa = w.alloc (.cells #[.string ⟨#[]⟩, .string ⟨#[]⟩, .string ⟨#[]⟩, .slice none 0 0] 26) := ⟨_, rfl⟩
  have hsz : wa.heap.size = w.heap.size + 1 := by rw [hwa, World.size_alloc]
  have hB : Below w.heap.size w wa := by rw [hwa]; exact (Below.refl _ _).alloc (Nat.le_refl _) _
  have hR0 : Blk wa w.heap.size [.string ⟨#[]⟩, .string ⟨#[]⟩, .string ⟨#[]⟩, .slice none 0 0] 26 := by rw [hwa]; exact Blk.new w [.string ⟨#[]⟩, .string ⟨#[]⟩, .string ⟨#[]⟩, .slice none 0 0] _
  have HC : Hid (∀ wr, Below wa.heap.size wa wr → TSee wr ao l ∧ Blk wr w.heap.size [.string ⟨#[]⟩, .string ⟨#[]⟩, .string ⟨#[]⟩, .slice none 0 0] 26 ∧ Below w.heap.size w wr ∧ w.heap.size < wr.heap.size) := fun wr hb => ⟨hL.below (hB.trans (hb.mono hB.size)), hR0.carry (hb.block _ (by omega)), hB.trans (hb.mono hB.size), by have := hb.size; omega⟩
  have HS : Hid (∀ (wr : World) (x y z v : Value), Blk wr w.heap.size [.string ⟨#[]⟩, .string ⟨#[]⟩, .string ⟨#[]⟩, .slice none 0 0] 26 → ((((wr.setCell ⟨w.heap.size, 0, none⟩ x).setCell ⟨w.heap.size, 1, none⟩ y).setCell ⟨w.heap.size, 2, none⟩ z).setCell ⟨w.heap.size, 3, none⟩ v).heap[w.heap.size]? = some (.cells #[x, y, z, v] 26)) := fun wr x y z v h => (((h.set 0 x).set 1 y).set 2 z).set 3 v
  have HBB : Hid (∀ (wr : World) (x y z v : Value), Below w.heap.size w wr → Below w.heap.size w ((((wr.setCell ⟨w.heap.size, 0, none⟩ x).setCell ⟨w.heap.size, 1, none⟩ y).setCell ⟨w.heap.size, 2, none⟩ z).setCell ⟨w.heap.size, 3, none⟩ v)) := fun wr x y z v h => (((h.setCell (p := ⟨w.heap.size, 0, none⟩) (Nat.le_refl _) x).setCell (p := ⟨w.heap.size, 1, none⟩) (Nat.le_refl _) y).setCell (p := ⟨w.heap.size, 2, none⟩) (Nat.le_refl _) z).setCell (p := ⟨w.heap.size, 3, none⟩) (Nat.le_refl _) v
  have HH : Hid (∀ (i : Nat) (x : Tx), (∀ (j : Nat) (y : Tx), j < i → l[j]? = some y → nb y.T.t ≠ nb s) → l[i]? = some x → nb x.T.t = nb s → fdR l s = ⟨x.T.t, x.T.p, x.T.r, x.T.cs.length, true⟩) := fun i x h1 h2 h3 => by show fdR l s = _; unfold fdR; rw [fdT_hit h1 h2 h3]
  have HN : Hid ((∀ (j : Nat) (x : Tx), j < l.length → l[j]? = some x → nb x.T.t ≠ nb s) → fdR l s = ⟨⟨#[]⟩, ⟨#[]⟩, ⟨#[]⟩, 0, false⟩) := fun h => by show fdR l s = _; unfold fdR; rw [fdT_none h]
  have HLn : Hid (∀ x ∈ l, x.T.cs.length ≤ 1000000) := hn
  clear hL hl hn hB hR0
  generalize fdR l s = Q at *
  go_enter Tryd.func20, Tryd.ntmps20
  go_wp2_with fail
  rw [← hwa]
  clear hwa
  go_loopw [10] (fun s10 wr => ∃ k : Nat, k ≤ l.length ∧ s10 = .int .i64 (k : Int) ∧ Below wa.heap.size wa wr ∧ ∀ (j : Nat) (x : Tx), j < k → l[j]? = some x → nb x.T.t ≠ nb s) (fun s10 _ => l.length - (intOf s10).toNat)
  case atStart => exact ⟨0, Nat.zero_le _, rfl, Below.refl _ _, fun j x hj => absurd hj (Nat.not_lt_zero _)⟩
  case round =>
    obtain ⟨k, hk, rfl, hb, hno⟩ := hrel
    rcases Nat.lt_or_ge k l.length with hlt | hge
    · have hcs : l[k]? = some l[k] := List.getElem?_eq_getElem hlt
      obtain ⟨hLr, hR, hW, hgt⟩ := HC.out wr hb
      obtain ⟨b, off, rfl, ⟨k0, k1, k2, k3⟩, hcc⟩ := hLr k _ hcs
      have hkz : (k : Int) < (l.length : Int) := by omega
      have hln := HLn.out _ (List.getElem_mem hlt)
      by_cases he : nb l[k].T.t = nb s
      · have HQ : Hid (Q = ⟨l[k].T.t, l[k].T.p, l[k].T.r, l[k].T.cs.length, true⟩) := HH.out k _ hno hcs he
        have he2 := eqB he
        have he3 : (l[k].T.t.toList == s.toList) = true := beq_iff_eq.2 he2
        generalize l[k] = x at *
        obtain ⟨⟨tt, tp, tr, cs⟩, xo, xk⟩ := x
        simp only at *
        obtain ⟨w1, hw1⟩ : ∃ w1, w1 = wr.alloc (.cells #[.string tt, .string tp, .string tr, .slice xo cs.length xk] 26) := ⟨_, rfl⟩
        have hb1 : Below wr.heap.size wr w1 := by rw [hw1]; exact (Below.refl _ _).alloc (Nat.le_refl _) _
        have hK : Blk w1 wr.heap.size [.string tt, .string tp, .string tr, .slice xo cs.length xk] 26 := by rw [hw1]; exact Blk.new wr [.string tt, .string tp, .string tr, .slice xo cs.length xk] _
        have CL := clone17_any xo cs xk w1 (hcc.below hb1) hln
        have c0 := hK.cell 0 rfl
        have c3 := hK.cell 3 rfl
        rw [hw1] at c0 c3
        have HK : Hid (Blk w1 wr.heap.size [.string tt, .string tp, .string tr, .slice xo cs.length xk] 26) := hK
        have HR : Hid (∀ w2, Below w1.heap.size w1 w2 → Blk w2 w.heap.size [.string ⟨#[]⟩, .string ⟨#[]⟩, .string ⟨#[]⟩, .slice none 0 0] 26 ∧ Blk w2 wr.heap.size [.string tt, .string tp, .string tr, .slice xo cs.length xk] 26 ∧ Below w.heap.size w w2) := fun w2 h2 =>
          ⟨hR.carry ((h2.block _ (by have := hb1.size; omega)).trans (hb1.block _ (by omega))), hK.carry (h2.block _ hK.lt), hW.trans ((hb1.trans (h2.mono hb1.size)).mono hW.size)⟩
        have hgt2 : wr.heap.size ≠ w.heap.size := by omega
        clear hcs hno hb hR HH HN HC he hcc hLr hW hln hb1 hK HLn
        go_wp2_with fail
        rw [← hw1]
        clear c0 c3 hw1 k0 k1 k2 k3
        refine CL.mono ?_
        rintro e w2 ⟨o, c, rfl, h2⟩
        obtain ⟨hR2, hK2, hW2⟩ := HR.out w2 h2
        have HRR : Hid (Blk w2 w.heap.size [.string ⟨#[]⟩, .string ⟨#[]⟩, .string ⟨#[]⟩, .slice none 0 0] 26) := hR2
        have x3 := hK2.cell 3 rfl
        have z3 := hK2.frozen 3
        have hK3 := hK2.set 3 (.slice o cs.length c)
        simp only [List.set_cons_succ, List.set_cons_zero] at hK3
        have hR3 : Blk (w2.setCell ⟨wr.heap.size, 3, none⟩ (.slice o cs.length c)) w.heap.size [.string ⟨#[]⟩, .string ⟨#[]⟩, .string ⟨#[]⟩, .slice none 0 0] 26 := hR2.carry (Below.heap_setCell _ _ _ _ (Ne.symm hgt2))
        have hW3 : Below w.heap.size w (w2.setCell ⟨wr.heap.size, 3, none⟩ (.slice o cs.length c)) := hW2.setCell (p := ⟨wr.heap.size, 3, none⟩) (show w.heap.size ≤ wr.heap.size by omega) _
        have y0 := hK3.cell 0 rfl
        have y1 := hK3.cell 1 rfl
        have y2 := hK3.cell 2 rfl
        have y3 := hK3.cell 3 rfl
        have d0 := hR3.cell 0 rfl
        have d1 := hR3.cell 1 rfl
        have d2 := hR3.cell 2 rfl
        have d3 := hR3.cell 3 rfl
        have f0 := hR3.frozen 0
        have f1 := hR3.frozen 1
        have f2 := hR3.frozen 2
        have f3 := hR3.frozen 3
        have HW' : Hid _ := HS.out _ (.string tt) (.string tp) (.string tr) (.slice o cs.length c) hR3
        have HV' : Hid _ := HBB.out _ (.string tt) (.string tp) (.string tr) (.slice o cs.length c) hW3
        clear HRR hR2 hK2 hW2 hK3 hR3 hW3 HS HBB HR HK CL h2
        go_wp2_with fail
        refine bodyPost_ret (v := .tuple #[.agg #[.string tt, .string tp, .string tr, .slice o cs.length c], .bool true]) (results_row_tmp17 Tryd.results20 _ _ w.heap.size 26 _ _ _ _ rfl rfl HW'.out Tryd.underlying26 rfl (by kernel_rfl)) rfl ?_
        exact ⟨o, c, by rw [HQ.out], HV'.out⟩
      · have HNo : Hid (∀ (j : Nat) (x : Tx), j < k + 1 → l[j]? = some x → nb x.T.t ≠ nb s) := fun j x hj hx => by
          by_cases e : j = k
          · subst e; rw [hcs] at hx; cases hx; exact he
          · exact hno j x (by omega) hx
        have he2 := neB he
        have he3 := neB2 he
        have HB1 : Hid (∀ o, Below wa.heap.size wa (wr.alloc o)) := fun o => hb.alloc hb.size o
        generalize l[k] = x at *
        obtain ⟨⟨tt, tp, tr, cs⟩, xo, xk⟩ := x
        simp only at *
        clear hcs hno hb hR HH HN HS HBB HC HLn he hcc hLr hW hln hgt
        go_wp2_with fail
        go_roundw
        case rel => exact ⟨k + 1, by omega, by go_num, HB1.out _, HNo.out⟩
        case measure => simp [intOf]; omega
    · obtain rfl : k = l.length := by omega
      obtain ⟨-, hR, hBw, -⟩ := HC.out _ hb
      have f0 := hR.frozen 0
      have f1 := hR.frozen 1
      have f2 := hR.frozen 2
      have f3 := hR.frozen 3
      have d0 := hR.cell 0 rfl
      have d1 := hR.cell 1 rfl
      have d2 := hR.cell 2 rfl
      have d3 := hR.cell 3 rfl
      have HW : Hid _ := HS.out _ (.string ⟨#[]⟩) (.string ⟨#[]⟩) (.string ⟨#[]⟩) (.slice none 0 0) hR
      have HV : Hid _ := HBB.out _ (.string ⟨#[]⟩) (.string ⟨#[]⟩) (.string ⟨#[]⟩) (.slice none 0 0) hBw
      have HQ : Hid (Q = ⟨⟨#[]⟩, ⟨#[]⟩, ⟨#[]⟩, 0, false⟩) := HN.out hno
      clear hno hb hR hBw HH HN HS HBB HC HLn
      go_wp2_with fail
      refine bodyPost_ret (v := .tuple #[.agg #[.string ⟨#[]⟩, .string ⟨#[]⟩, .string ⟨#[]⟩, .slice none 0 0], .bool false]) (results_row_tmp17 Tryd.results20 _ _ w.heap.size 26 _ _ _ _ rfl rfl HW.out Tryd.underlying26 rfl (by kernel_rfl)) rfl ?_
      exact ⟨none, 0, by rw [HQ.out], HV.out⟩
set_option maxRecDepth 100000 in
set_option maxHeartbeats 2000000 in
theorem refFind_any (l : List Tx) (ao : Option Addr) (cap : Nat) (s : ByteArray) (w : World) (hL : TSee w ao l) (hl : l.length ≤ 1000000) (hn : ∀ x ∈ l, x.T.cs.length ≤ 1000000) :
    Calls Tryd.prog 21 #[.slice ao l.length cap, .string s] w fun e w' => ∃ o c, e = .returned (.tuple #[.agg #[.string (fdR l s).t, .string (fdR l s).p, .string (fdR l s).r, .slice o (fdR l s).n c], .bool (fdR l s).ok]) ∧ Below w.heap.size w w' := by
  have hnz : (l.length : Int) ≤ 1000000 := by omega
  obtain ⟨wa, hwa⟩ : ∃ wa, wa = w.alloc (.cells #[.string ⟨#[]⟩, .string ⟨#[]⟩, .string ⟨#[]⟩, .slice none 0 0] 26) := ⟨_, rfl⟩
  have hsz : wa.heap.size = w.heap.size + 1 := by rw [hwa, World.size_alloc]
  have hB : Below w.heap.size w wa := by rw [hwa]; exact (Below.refl _ _).alloc (Nat.le_refl _) _
  have hR0 : Blk wa w.heap.size [.string ⟨#[]⟩, .string ⟨#[]⟩, .string ⟨#[]⟩, .slice none 0 0] 26 := by rw [hwa]; exact Blk.new w [.string ⟨#[]⟩, .string ⟨#[]⟩, .string ⟨#[]⟩, .slice none 0 0] _
  have HC : Hid (∀ wr, Below wa.heap.size wa wr → TSee wr ao l ∧ Blk wr w.heap.size [.string ⟨#[]⟩, .string ⟨#[]⟩, .string ⟨#[]⟩, .slice none 0 0] 26 ∧ Below w.heap.size w wr ∧ w.heap.size < wr.heap.size) := fun wr hb => ⟨hL.below (hB.trans (hb.mono hB.size)), hR0.carry (hb.block _ (by omega)), hB.trans (hb.mono hB.size), by have := hb.size; omega⟩
  have HS : Hid (∀ (wr : World) (x y z v : Value), Blk wr w.heap.size [.string ⟨#[]⟩, .string ⟨#[]⟩, .string ⟨#[]⟩, .slice none 0 0] 26 → ((((wr.setCell ⟨w.heap.size, 0, none⟩ x).setCell ⟨w.heap.size, 1, none⟩ y).setCell ⟨w.heap.size, 2, none⟩ z).setCell ⟨w.heap.size, 3, none⟩ v).heap[w.heap.size]? = some (.cells #[x, y, z, v] 26)) := fun wr x y z v h => (((h.set 0 x).set 1 y).set 2 z).set 3 v
  have HBB : Hid (∀ (wr : World) (x y z v : Value), Below w.heap.size w wr → Below w.heap.size w ((((wr.setCell ⟨w.heap.size, 0, none⟩ x).setCell ⟨w.heap.size, 1, none⟩ y).setCell ⟨w.heap.size, 2, none⟩ z).setCell ⟨w.heap.size, 3, none⟩ v)) := fun wr x y z v h => (((h.setCell (p := ⟨w.heap.size, 0, none⟩) (Nat.le_refl _) x).setCell (p := ⟨w.heap.size, 1, none⟩) (Nat.le_refl _) y).setCell (p := ⟨w.heap.size, 2, none⟩) (Nat.le_refl _) z).setCell (p := ⟨w.heap.size, 3, none⟩) (Nat.le_refl _) v
  have HH : Hid (∀ (i : Nat) (x : Tx), (∀ (j : Nat) (y : Tx), j < i → l[j]? = some y → nb y.T.t ≠ nb s) → l[i]? = some x → nb x.T.t = nb s → fdR l s = ⟨x.T.t, x.T.p, x.T.r, x.T.cs.length, true⟩) := fun i x h1 h2 h3 => by show fdR l s = _; unfold fdR; rw [fdT_hit h1 h2 h3]
  have HN : Hid ((∀ (j : Nat) (x : Tx), j < l.length → l[j]? = some x → nb x.T.t ≠ nb s) → fdR l s = ⟨⟨#[]⟩, ⟨#[]⟩, ⟨#[]⟩, 0, false⟩) := fun h => by show fdR l s = _; unfold fdR; rw [fdT_none h]
  have HLn : Hid (∀ x ∈ l, x.T.cs.length ≤ 1000000) := hn
  clear hL hl hn hB hR0
  generalize fdR l s = Q at *
  go_enter Tryd.func21, Tryd.ntmps21
  go_wp2_with fail
  rw [← hwa]
  clear hwa
  go_loopw [10] (fun s10 wr => ∃ k : Nat, k ≤ l.length ∧ s10 = .int .i64 (k : Int) ∧ Below wa.heap.size wa wr ∧ ∀ (j : Nat) (x : Tx), j < k → l[j]? = some x → nb x.T.t ≠ nb s) (fun s10 _ => l.length - (intOf s10).toNat)
  case atStart => exact ⟨0, Nat.zero_le _, rfl, Below.refl _ _, fun j x hj => absurd hj (Nat.not_lt_zero _)⟩
  case round =>
    obtain ⟨k, hk, rfl, hb, hno⟩ := hrel
    rcases Nat.lt_or_ge k l.length with hlt | hge
    · have hcs : l[k]? = some l[k] := List.getElem?_eq_getElem hlt
      obtain ⟨hLr, hR, hW, hgt⟩ := HC.out wr hb
      obtain ⟨b, off, rfl, ⟨k0, k1, k2, k3⟩, hcc⟩ := hLr k _ hcs
      have hkz : (k : Int) < (l.length : Int) := by omega
      have hln := HLn.out _ (List.getElem_mem hlt)
      by_cases he : nb l[k].T.t = nb s
      · have HQ : Hid (Q = ⟨l[k].T.t, l[k].T.p, l[k].T.r, l[k].T.cs.length, true⟩) := HH.out k _ hno hcs he
        have he2 := eqB he
        have he3 : (l[k].T.t.toList == s.toList) = true := beq_iff_eq.2 he2
        generalize l[k] = x at *
        obtain ⟨⟨tt, tp, tr, cs⟩, xo, xk⟩ := x
        simp only at *
        obtain ⟨w1, hw1⟩ : ∃ w1, w1 = wr.alloc (.cells #[.string tt, .string tp, .string tr, .slice xo cs.length xk] 26) := ⟨_, rfl⟩
        have hb1 : Below wr.heap.size wr w1 := by rw [hw1]; exact (Below.refl _ _).alloc (Nat.le_refl _) _
        have hK : Blk w1 wr.heap.size [.string tt, .string tp, .string tr, .slice xo cs.length xk] 26 := by rw [hw1]; exact Blk.new wr [.string tt, .string tp, .string tr, .slice xo cs.length xk] _
        have hR1 : Blk w1 w.heap.size [.string ⟨#[]⟩, .string ⟨#[]⟩, .string ⟨#[]⟩, .slice none 0 0] 26 := hR.carry (hb1.block _ (by omega))
        have hW1 : Below w.heap.size w w1 := hW.trans (hb1.mono hW.size)
        have d0 := hR1.cell 0 rfl
        have d1 := hR1.cell 1 rfl
        have d2 := hR1.cell 2 rfl
        have d3 := hR1.cell 3 rfl
        have f0 := hR1.frozen 0
        have f1 := hR1.frozen 1
        have f2 := hR1.frozen 2
        have f3 := hR1.frozen 3
        have HW' := HS.out _ (.string tt) (.string tp) (.string tr) (.slice xo cs.length xk) hR1
        have HV' := HBB.out _ (.string tt) (.string tp) (.string tr) (.slice xo cs.length xk) hW1
        rw [hw1] at d0 d1 d2 d3 f0 f1 f2 f3 HW' HV'
        have HWW : Hid _ := HW'
        have HVV : Hid _ := HV'
        clear hcs hno hb hR HH HN HC he hcc hLr hW hln hb1 hK hR1 hW1 HS HBB HW' HV' hw1 HLn hgt hsz
        go_wp2_with fail
        refine bodyPost_ret (v := .tuple #[.agg #[.string tt, .string tp, .string tr, .slice xo cs.length xk], .bool true]) (results_row_tmp17 Tryd.results21 _ _ w.heap.size 26 _ _ _ _ rfl rfl HWW.out Tryd.underlying26 rfl (by kernel_rfl)) rfl ?_
        exact ⟨xo, xk, by rw [HQ.out], HVV.out⟩
      · have HNo : Hid (∀ (j : Nat) (x : Tx), j < k + 1 → l[j]? = some x → nb x.T.t ≠ nb s) := fun j x hj hx => by
          by_cases e : j = k
          · subst e; rw [hcs] at hx; cases hx; exact he
          · exact hno j x (by omega) hx
        have he2 := neB he
        have he3 := neB2 he
        have HB1 : Hid (∀ o, Below wa.heap.size wa (wr.alloc o)) := fun o => hb.alloc hb.size o
        generalize l[k] = x at *
        obtain ⟨⟨tt, tp, tr, cs⟩, xo, xk⟩ := x
        simp only at *
        clear hcs hno hb hR HH HN HS HBB HC HLn he hcc hLr hW hln hgt
        go_wp2_with fail
        go_roundw
        case rel => exact ⟨k + 1, by omega, by go_num, HB1.out _, HNo.out⟩
        case measure => simp [intOf]; omega
    · obtain rfl : k = l.length := by omega
      obtain ⟨-, hR, hBw, -⟩ := HC.out _ hb
      have f0 := hR.frozen 0
      have f1 := hR.frozen 1
      have f2 := hR.frozen 2
      have f3 := hR.frozen 3
      have d0 := hR.cell 0 rfl
      have d1 := hR.cell 1 rfl
      have d2 := hR.cell 2 rfl
      have d3 := hR.cell 3 rfl
      have HW : Hid _ := HS.out _ (.string ⟨#[]⟩) (.string ⟨#[]⟩) (.string ⟨#[]⟩) (.slice none 0 0) hR
      have HV : Hid _ := HBB.out _ (.string ⟨#[]⟩) (.string ⟨#[]⟩) (.string ⟨#[]⟩) (.slice none 0 0) hBw
      have HQ : Hid (Q = ⟨⟨#[]⟩, ⟨#[]⟩, ⟨#[]⟩, 0, false⟩) := HN.out hno
      clear hno hb hR hBw HH HN HS HBB HC HLn
      go_wp2_with fail
      refine bodyPost_ret (v := .tuple #[.agg #[.string ⟨#[]⟩, .string ⟨#[]⟩, .string ⟨#[]⟩, .slice none 0 0], .bool false]) (results_row_tmp17 Tryd.results21 _ _ w.heap.size 26 _ _ _ _ rfl rfl HW.out Tryd.underlying26 rfl (by kernel_rfl)) rfl ?_
      exact ⟨none, 0, by rw [HQ.out], HV.out⟩
end Go.Proofs.YtgjajffpkjcenaaDoor

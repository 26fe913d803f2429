/-
  A RANGE OVER CELLS (slices.Values): the iterator's contract.
-/
import Derived.Test.YtlhojbgpmjcjlaaSkOn
namespace Go.Proofs.Ytlhojbgpmjcjlaa
open Go.RowKit Go.Shelf

attribute [local go_sem] Oper.semAt_some

/-- All blocks below n are as they were, but one. -/
structure But (ob n : Nat) (w w' : World) : Prop where
  os : w'.os = w.os
  tape : w'.tape = w.tape
  output : w'.output = w.output
  size : w.heap.size ≤ w'.heap.size
  block : ∀ k, k < n → k ≠ ob → w'.heap[k]? = w.heap[k]?
theorem But.refl (ob n : Nat) (w : World) : But ob n w w := ⟨rfl, rfl, rfl, Nat.le_refl _, fun _ _ _ => rfl⟩
theorem But.trans {ob n : Nat} {a b c : World} (h : But ob n a b) (g : But ob n b c) : But ob n a c := ⟨g.os.trans h.os, g.tape.trans h.tape, g.output.trans h.output, Nat.le_trans h.size g.size, fun k hk hn => (g.block k hk hn).trans (h.block k hk hn)⟩
theorem Below.but {n m : Nat} {a b : World} (h : Below m a b) (hn : n ≤ m) (ob : Nat) : But ob n a b := ⟨h.os, h.tape, h.output, h.size, fun k hk _ => h.block k (Nat.lt_of_lt_of_le hk hn)⟩
theorem But.alloc {ob n : Nat} {a b : World} (h : But ob n a b) (hn : n ≤ b.heap.size) (o : Obj) : But ob n a (b.alloc o) := h.trans (Below.but ((Below.refl _ _).alloc hn o) (Nat.le_refl _) ob)
theorem butK_b {ob n : Nat} {w : World} (hn : n ≤ w.heap.size) (W : World) (l : Nat) (o o' : Obj) (hl : w.heap.size ≤ l) (h : W.heap[l]? = some o) (h1 : o.isCells = false) (h2 : o.isWalk = false) : But ob n W (W.putObj l o') := Below.but (belowK_b hn W l o o' hl h h1 h2) (Nat.le_refl _) ob
set_option maxRecDepth 100000 in
set_option maxHeartbeats 2000000 in
theorem vals1_in (F : Fence) (n : Nat) (h91 : F.fn 49) (hro : F.round = none) (hn : 1 ≤ n) (l Bn ob n₀ : Nat) (ao : Option Addr) (L : List Cx) (cap : Nat) (hL : L.length ≤ 1000000) (J Jx : List Cx → World → Prop)
    (hY : ∀ pre x W, J pre W → pre.length < L.length → YieldAt F (n - 1) Try.prog l #[x.val] W fun e W' =>
      (e = .returned (.bool true) ∧ J (pre ++ [x]) W' ∧ But ob n₀ W W') ∨ (e = .returned (.bool false) ∧ Jx (pre ++ [x]) W'))
    (W : World) (hBn : W.cell? ⟨Bn, 0, none⟩ = some (.slice ao L.length cap)) (hX : ∀ W', But ob n₀ W W' → XSees W' ao L) (hn₀ : n₀ ≤ W.heap.size) (hA : AbidesFrom W.heap.size J) (h0 : J [] W) :
    CallsIn F n Try.prog 49 #[.func (.yield l) #[] #[], .pointer (some ⟨Bn, 0, none⟩)] W fun e W' => (∃ v, e = .returned v) ∧
      ((∃ ys, ys = L ∧ J ys W') ∨ (∃ pre, pre <+: L ∧ Jx pre W')) := by
  refine callsIn_of_wp Try.func49 rfl h91 ?_ hro
  simp only [Try.ntmps49, List.size_toArray, List.length_cons, List.length_nil, Nat.reduceAdd, Nat.reduceSub, Array.replicate_succ, Array.replicate_zero, List.push_toArray, List.append_toArray, List.nil_append, List.cons_append]
  have hLz : (L.length : Int) ≤ 1000000 := by omega
  gi_wp2
  gi_loopw [7] (fun i wr => ∃ k : Nat, k ≤ L.length ∧ i = .int .i64 k ∧ J (L.take k) wr ∧ But ob n₀ W wr) (fun i _ => L.length - (intOf i).toNat)
  case atStart => exact ⟨0, Nat.zero_le _, rfl, h0, But.refl _ _ _⟩
  case round =>
    obtain ⟨k, hk, rfl, hJs, hnx⟩ := hrel
    by_cases hlt : k < L.length
    · have hc0 : L[k]? = some L[k] := List.getElem?_eq_getElem hlt
      have hts := takeX_succ hc0
      obtain ⟨b, off, rfl, x1⟩ := hX wr hnx k _ hc0
      have hJ2 := hA _ wr (wr.alloc (.cells L[k].a 40)) none hJs (World.grownBy_alloc wr _ none) (fun r e => by cases e)
      obtain ⟨fn, tmps, assign, body, hy, hR⟩ := hY _ L[k] (wr.alloc (.cells L[k].a 40)) hJ2 (by rw [List.length_take]; omega)
      have hbx : But ob n₀ W (wr.alloc (.cells L[k].a 40)) := hnx.alloc (Nat.le_trans hn₀ hnx.size) _
      have hpre : L.take (k + 1) <+: L := List.take_prefix _ _
      have hltz : (k : Int) < (L.length : Int) := by omega
      generalize L[k] = c at *
      obtain ⟨⟨ct, cp, cr, cc⟩, ⟨cti, cd, cl, ck, cn, cstr⟩⟩ := c
      obtain ⟨k0, k1, k2, k3, k4, k5, k6, k7, k8, k9⟩ := x1
      simp only [Cx.val, Cx.a] at k0 k1 k2 k3 k4 k5 k6 k7 k8 k9 hR hy hbx
      clear hX hJ2 hc0
      gi_wp2
      refine hR.mono ?_
      rintro e W3 (⟨rfl, hJ3, hk3⟩ | ⟨rfl, hJx3⟩)
      · dsimp only
        gi_wp2
        go_roundw
        case rel => exact ⟨k + 1, by omega, by simp, by rw [hts]; exact hJ3, hbx.trans hk3⟩
        case measure => simp [intOf]; omega
      · dsimp only
        gi_wp2
        refine bodyPost_ret (results_none rfl _ _ _) rfl ?_
        exact ⟨⟨_, rfl⟩, .inr ⟨_, hpre, by rw [hts]; exact hJx3⟩⟩
    · obtain rfl : k = L.length := by omega
      rw [List.take_length] at hJs
      clear hX
      gi_wp2
      go_end0
      exact ⟨⟨_, rfl⟩, .inl ⟨_, rfl, hJs⟩⟩
set_option maxRecDepth 100000 in
theorem seqVals_any (ao : Option Addr) (m cap : Nat) (w : World) :
    Calls Try.prog 39 #[.slice ao m cap] w fun e w' => e = .returned (.func (.func 49) #[] #[.pointer (some ⟨w.heap.size, 0, none⟩)]) ∧ w' = w.alloc (.cells #[.slice ao m cap] 23) := by
  go_enter Try.func39, Try.ntmps39
  go_wp2_with fail
  go_ret
  exact ⟨rfl, rfl⟩
theorem vals_stops (F : Fence) (n : Nat) (h91 : F.fn 49) (hro : F.round = none) (hn : 1 ≤ n) (Bn ob n₀ : Nat) (ao : Option Addr) (L : List Cx) (cap : Nat) (hL : L.length ≤ 1000000) (w : World) (hBn : Bn < w.heap.size) (hn₀ : n₀ ≤ w.heap.size)
    (hc : w.cell? ⟨Bn, 0, none⟩ = some (.slice ao L.length cap)) (hX : ∀ W', But ob n₀ w W' → XSees W' ao L) :
    SeqStopsK F n Try.prog 49 #[.pointer (some ⟨Bn, 0, none⟩)] (fun x : Cx => #[x.val]) (But ob n₀) (fun ys => ys = L) (fun pre => pre <+: L) L.length w := fun l J Jx W hW hA _ hY h0 =>
  vals1_in F n h91 hro hn l Bn ob n₀ ao L cap hL J Jx hY W ((hW.cell (p := ⟨Bn, 0, none⟩) hBn).trans hc) (fun W' h => hX W' ((Below.but hW hn₀ ob).trans h)) (Nat.le_trans hn₀ hW.size) hA h0
end Go.Proofs.Ytlhojbgpmjcjlaa

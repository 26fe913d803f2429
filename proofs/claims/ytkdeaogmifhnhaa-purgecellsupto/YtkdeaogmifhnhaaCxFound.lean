/-
  CONTRACTS: a key's version (Find), by the program and by the document.
-/
import Derived.Test.YtkdeaogmifhnhaaCxFind
import Derived.Laws.ResultCell
namespace Go.Proofs.Ytkdeaogmifhnhaa
open Go.RowKit

theorem resX_row_tmp {P : Program} {fn : Func} {p u : Tmp} {ty : TypeId} (h : fn.results = #[.cell p ty, .tmp u]) (tmps : Array Value) (w : World) (g : Nat) (t : TypeId) (cs : Array Value) (fr : Nat × Nat) (d : TypeDesc) (v : Value)
    (hp : tmps.getD p undef = .pointer (some ⟨g, 0, none⟩)) (hv : tmps.getD u undef = v) (hg : w.heap[g]? = some (.cells cs t fr))
    (hu : P.underlying ty = some d) (hd : (match d with | .struct _ | .array _ _ => true | _ => false) = true) (hi : (P.info? ty).map (·.size) = some cs.size) :
    (results fn tmps).run P w = .ok (.tuple #[.agg cs, v]) w := by
  rw [results_cell_tmp h, hp, hv]
  simp [asAddr, run_loadVar_row w g t ty cs fr d hg hu hd hi, Result.andThen]
set_option maxRecDepth 100000 in
set_option maxHeartbeats 4000000 in
theorem find_any (ao : Option Addr) (l : List Cx) (cap : Nat) (k : Kb) (w : World) (hs : XSees w ao l) (hl : l.length ≤ 1000000) :
    Calls Try.prog 13 #[.slice ao l.length cap, k.v] w fun e w' => e = .returned (.tuple #[(fnd k l).1.v, .bool (fnd k l).2]) ∧ Below w.heap.size w w' := by
  have hlz : (l.length : Int) ≤ 1000000 := by omega
  obtain ⟨wa, hwa, ⟨b0, b1, b2, b3⟩, hz, hsz, hB⟩ := find_box w k
  have HF : Hid (∀ w', Below wa.heap.size wa w' → (w'.cell? ⟨w.heap.size, 0, none⟩ = some (.string k.t) ∧ w'.cell? ⟨w.heap.size, 1, none⟩ = some (.string k.p) ∧ w'.cell? ⟨w.heap.size, 2, none⟩ = some (.int .i64 k.r) ∧ w'.cell? ⟨w.heap.size, 3, none⟩ = some (.string k.c)) ∧ w'.heap[w.heap.size + 1]? = some (.cells zeroV.a 33) ∧ XSees w' ao l ∧ Below w.heap.size w w') := fun w' h => by
    have h1 : w.heap.size < wa.heap.size := by omega
    exact ⟨⟨by rw [h.cell h1, b0], by rw [h.cell h1, b1], by rw [h.cell h1, b2], by rw [h.cell h1, b3]⟩, by rw [h.block _ (by omega)]; exact hz, hs.below (hB.trans (h.mono hB.size)) (Nat.le_refl _), hB.trans (h.mono hB.size)⟩
  have HD : Hid (∀ i, i ≤ l.length → (∀ j c, j < i → l[j]? = some c → c.k ≠ k) → fnd k l = fnd k (l.drop i)) := fun i h1 h2 => fnd_drop i h1 h2
  clear b0 b1 b2 b3 hz hs hB hsz
  obtain ⟨kt, kp, kr, kcc⟩ := k
  simp only [Kb.v, zeroV, Vr.a] at hwa ⊢
  go_enter Try.func13, Try.ntmps13
  go_wp2_with fail
  rw [← hwa]
  clear hwa
  go_loopw [10] (fun s10 wr => ∃ i : Nat, i ≤ l.length ∧ s10 = .int .i64 i ∧ (∀ j c, j < i → l[j]? = some c → c.k ≠ ⟨kt, kp, kr, kcc⟩) ∧ Below wa.heap.size wa wr) (fun s10 _ => l.length - (intOf s10).toNat)
  case atStart => exact ⟨0, by omega, rfl, fun j c hj => by omega, Below.refl _ _⟩
  case round =>
    obtain ⟨i, hi, rfl, hne, hbr⟩ := hrel
    rcases Nat.lt_or_ge i l.length with hlt | hge
    · have hc : l[i]? = some l[i] := List.getElem?_eq_getElem hlt
      have hdr := HD.out i hi hne
      rw [List.drop_eq_getElem_cons hlt] at hdr
      generalize l[i] = c at *
      obtain ⟨-, -, hx, -⟩ := HF.out wr hbr
      obtain ⟨b, off, rfl, t⟩ := hx i c hc
      obtain ⟨wv, hwv⟩ : ∃ wv, wv = wr.alloc (.cells c.a 35) := ⟨_, rfl⟩
      have hbv : Below wa.heap.size wa wv := by rw [hwv]; exact hbr.alloc hbr.size _
      obtain ⟨⟨e0, e1, e2, e3⟩, hz, -, hBw⟩ := HF.out wv hbv
      have f0 := frozen_at hz 0
      have f1 := frozen_at hz 1
      have f2 := frozen_at hz 2
      have f3 := frozen_at hz 3
      have f4 := frozen_at hz 4
      have f5 := frozen_at hz 5
      obtain ⟨d1, d2, d3, d4, d5, d6⟩ := VAt.of hz
      simp only [Nat.zero_add] at d1 d2 d3 d4 d5 d6
      have HS : Hid (∀ v0 v1 v2 v3 v4 v5 : Value, ((((((wv.setCell ⟨w.heap.size + 1, 0, none⟩ v0).setCell ⟨w.heap.size + 1, 1, none⟩ v1).setCell ⟨w.heap.size + 1, 2, none⟩ v2).setCell ⟨w.heap.size + 1, 3, none⟩ v3).setCell ⟨w.heap.size + 1, 4, none⟩ v4).setCell ⟨w.heap.size + 1, 5, none⟩ v5).heap[w.heap.size + 1]? = some (.cells #[v0, v1, v2, v3, v4, v5] 33)) := set6 hz
      have HBB : Hid (∀ v0 v1 v2 v3 v4 v5 : Value, Below w.heap.size w ((((((wv.setCell ⟨w.heap.size + 1, 0, none⟩ v0).setCell ⟨w.heap.size + 1, 1, none⟩ v1).setCell ⟨w.heap.size + 1, 2, none⟩ v2).setCell ⟨w.heap.size + 1, 3, none⟩ v3).setCell ⟨w.heap.size + 1, 4, none⟩ v4).setCell ⟨w.heap.size + 1, 5, none⟩ v5)) := below6 hBw (by omega)
      rw [hwv] at e0 e1 e2 e3 f0 f1 f2 f3 f4 f5 d1 d2 d3 d4 d5 d6 HS HBB hbv
      have Hbv : Hid (Below wa.heap.size wa (wr.alloc (.cells c.a 35))) := hbv
      clear hz hBw hx hwv wv hbv
      obtain ⟨⟨ct, cp, cr, cc⟩, ⟨tm, dd, lc, kd, nm, st⟩⟩ := c
      obtain ⟨x0, x1, x2, x3, x4, x5, x6, x7, x8, x9⟩ := t
      simp only [Cx.a, zeroV] at *
      by_cases hck : (⟨ct, cp, cr, cc⟩ : Kb) = ⟨kt, kp, kr, kcc⟩
      · have HR : Hid (fnd ⟨kt, kp, kr, kcc⟩ l = (⟨tm, dd, lc, kd, nm, st⟩, true)) := hdr.trans (fnd_hit _ hck)
        clear hdr hne hc
        simp only [Kb.mk.injEq] at hck
        obtain ⟨rfl, rfl, rfl, rfl⟩ := hck
        go_wp2_with fail
        refine bodyPost_ret (v := .tuple #[.agg #[.int .i64 tm, .bool dd, .int .i64 lc, .int .i64 kd, .int .i64 nm, .string st], .bool true]) (resX_row_tmp Try.results13 _ _ (w.heap.size + 1) 33 _ _ _ _ rfl rfl (HS.out _ _ _ _ _ _) Try.underlying33 rfl (by kernel_rfl)) rfl ?_
        exact ⟨by rw [HR.out]; rfl, HBB.out _ _ _ _ _ _⟩
      · have HN : Hid (∀ j c, j < i + 1 → l[j]? = some c → c.k ≠ ⟨kt, kp, kr, kcc⟩) := fun j c hj hcj => by
          rcases Nat.lt_or_ge j i with g | g
          · exact hne j c g hcj
          · have : j = i := by omega
            rw [this, hc] at hcj
            rw [← Option.some.inj hcj]; exact hck
        have hkf := key_first hck
        clear hdr hne hc hck HS HBB f0 f1 f2 f3 f4 f5 d1 d2 d3 d4 d5 d6
        have hltz : (i : Int) < (l.length : Int) := by omega
        rcases hkf with h | ⟨rfl, h⟩ | ⟨rfl, rfl, h⟩ | ⟨rfl, rfl, rfl, h⟩ <;> (go_wp2_with fail; go_roundw; (case rel => exact ⟨i + 1, by omega, by go_num, HN.out, Hbv.out⟩); (case measure => (simp [intOf]; omega)))
    · have hi2 : i = l.length := by omega
      have hdr := HD.out i hi hne
      rw [hi2, List.drop_length] at hdr
      have HR : Hid (fnd ⟨kt, kp, kr, kcc⟩ l = (zeroV, false)) := hdr
      obtain ⟨-, hz, -, hBw⟩ := HF.out wr hbr
      have f0 := frozen_at hz 0
      have f1 := frozen_at hz 1
      have f2 := frozen_at hz 2
      have f3 := frozen_at hz 3
      have f4 := frozen_at hz 4
      have f5 := frozen_at hz 5
      obtain ⟨d1, d2, d3, d4, d5, d6⟩ := VAt.of hz
      simp only [Nat.zero_add, zeroV] at d1 d2 d3 d4 d5 d6
      have HS : Hid (∀ v0 v1 v2 v3 v4 v5 : Value, ((((((wr.setCell ⟨w.heap.size + 1, 0, none⟩ v0).setCell ⟨w.heap.size + 1, 1, none⟩ v1).setCell ⟨w.heap.size + 1, 2, none⟩ v2).setCell ⟨w.heap.size + 1, 3, none⟩ v3).setCell ⟨w.heap.size + 1, 4, none⟩ v4).setCell ⟨w.heap.size + 1, 5, none⟩ v5).heap[w.heap.size + 1]? = some (.cells #[v0, v1, v2, v3, v4, v5] 33)) := set6 hz
      have HBB : Hid (∀ v0 v1 v2 v3 v4 v5 : Value, Below w.heap.size w ((((((wr.setCell ⟨w.heap.size + 1, 0, none⟩ v0).setCell ⟨w.heap.size + 1, 1, none⟩ v1).setCell ⟨w.heap.size + 1, 2, none⟩ v2).setCell ⟨w.heap.size + 1, 3, none⟩ v3).setCell ⟨w.heap.size + 1, 4, none⟩ v4).setCell ⟨w.heap.size + 1, 5, none⟩ v5)) := below6 hBw (by omega)
      have hgez : ¬ (i : Int) < (l.length : Int) := by omega
      clear hdr hne hz hBw hi2
      go_wp2_with fail
      refine bodyPost_ret (v := .tuple #[.agg #[.int .i64 0, .bool false, .int .i64 0, .int .i64 0, .int .i64 0, .string ⟨#[]⟩], .bool false]) (resX_row_tmp Try.results13 _ _ (w.heap.size + 1) 33 _ _ _ _ rfl rfl (HS.out _ _ _ _ _ _) Try.underlying33 rfl (by kernel_rfl)) rfl ?_
      exact ⟨by rw [HR.out]; rfl, HBB.out _ _ _ _ _ _⟩
set_option maxRecDepth 100000 in
set_option maxHeartbeats 4000000 in
theorem refFind_any (ao : Option Addr) (l : List Cx) (cap : Nat) (k : Kb) (w : World) (hs : XSees w ao l) (hl : l.length ≤ 1000000) :
    Calls Try.prog 21 #[.slice ao l.length cap, k.v] w fun e w' => e = .returned (.tuple #[(fnd k l).1.v, .bool (fnd k l).2]) ∧ Below w.heap.size w w' := by
  have hlz : (l.length : Int) ≤ 1000000 := by omega
  obtain ⟨wa, hwa, ⟨b0, b1, b2, b3⟩, hz, hsz, hB⟩ := find_box w k
  have HF : Hid (∀ w', Below wa.heap.size wa w' → (w'.cell? ⟨w.heap.size, 0, none⟩ = some (.string k.t) ∧ w'.cell? ⟨w.heap.size, 1, none⟩ = some (.string k.p) ∧ w'.cell? ⟨w.heap.size, 2, none⟩ = some (.int .i64 k.r) ∧ w'.cell? ⟨w.heap.size, 3, none⟩ = some (.string k.c)) ∧ w'.heap[w.heap.size + 1]? = some (.cells zeroV.a 33) ∧ XSees w' ao l ∧ Below w.heap.size w w') := fun w' h => by
    have h1 : w.heap.size < wa.heap.size := by omega
    exact ⟨⟨by rw [h.cell h1, b0], by rw [h.cell h1, b1], by rw [h.cell h1, b2], by rw [h.cell h1, b3]⟩, by rw [h.block _ (by omega)]; exact hz, hs.below (hB.trans (h.mono hB.size)) (Nat.le_refl _), hB.trans (h.mono hB.size)⟩
  have HD : Hid (∀ i, i ≤ l.length → (∀ j c, j < i → l[j]? = some c → c.k ≠ k) → fnd k l = fnd k (l.drop i)) := fun i h1 h2 => fnd_drop i h1 h2
  clear b0 b1 b2 b3 hz hs hB hsz
  obtain ⟨kt, kp, kr, kcc⟩ := k
  simp only [Kb.v, zeroV, Vr.a] at hwa ⊢
  go_enter Try.func21, Try.ntmps21
  go_wp2_with fail
  rw [← hwa]
  clear hwa
  go_loopw [10] (fun s10 wr => ∃ i : Nat, i ≤ l.length ∧ s10 = .int .i64 i ∧ (∀ j c, j < i → l[j]? = some c → c.k ≠ ⟨kt, kp, kr, kcc⟩) ∧ Below wa.heap.size wa wr) (fun s10 _ => l.length - (intOf s10).toNat)
  case atStart => exact ⟨0, by omega, rfl, fun j c hj => by omega, Below.refl _ _⟩
  case round =>
    obtain ⟨i, hi, rfl, hne, hbr⟩ := hrel
    rcases Nat.lt_or_ge i l.length with hlt | hge
    · have hc : l[i]? = some l[i] := List.getElem?_eq_getElem hlt
      have hdr := HD.out i hi hne
      rw [List.drop_eq_getElem_cons hlt] at hdr
      generalize l[i] = c at *
      obtain ⟨-, -, hx, -⟩ := HF.out wr hbr
      obtain ⟨b, off, rfl, t⟩ := hx i c hc
      obtain ⟨wv, hwv⟩ : ∃ wv, wv = wr.alloc (.cells c.a 35) := ⟨_, rfl⟩
      have hbv : Below wa.heap.size wa wv := by rw [hwv]; exact hbr.alloc hbr.size _
      obtain ⟨⟨e0, e1, e2, e3⟩, hz, -, hBw⟩ := HF.out wv hbv
      have f0 := frozen_at hz 0
      have f1 := frozen_at hz 1
      have f2 := frozen_at hz 2
      have f3 := frozen_at hz 3
      have f4 := frozen_at hz 4
      have f5 := frozen_at hz 5
      obtain ⟨d1, d2, d3, d4, d5, d6⟩ := VAt.of hz
      simp only [Nat.zero_add] at d1 d2 d3 d4 d5 d6
      have HS : Hid (∀ v0 v1 v2 v3 v4 v5 : Value, ((((((wv.setCell ⟨w.heap.size + 1, 0, none⟩ v0).setCell ⟨w.heap.size + 1, 1, none⟩ v1).setCell ⟨w.heap.size + 1, 2, none⟩ v2).setCell ⟨w.heap.size + 1, 3, none⟩ v3).setCell ⟨w.heap.size + 1, 4, none⟩ v4).setCell ⟨w.heap.size + 1, 5, none⟩ v5).heap[w.heap.size + 1]? = some (.cells #[v0, v1, v2, v3, v4, v5] 33)) := set6 hz
      have HBB : Hid (∀ v0 v1 v2 v3 v4 v5 : Value, Below w.heap.size w ((((((wv.setCell ⟨w.heap.size + 1, 0, none⟩ v0).setCell ⟨w.heap.size + 1, 1, none⟩ v1).setCell ⟨w.heap.size + 1, 2, none⟩ v2).setCell ⟨w.heap.size + 1, 3, none⟩ v3).setCell ⟨w.heap.size + 1, 4, none⟩ v4).setCell ⟨w.heap.size + 1, 5, none⟩ v5)) := below6 hBw (by omega)
      rw [hwv] at e0 e1 e2 e3 f0 f1 f2 f3 f4 f5 d1 d2 d3 d4 d5 d6 HS HBB hbv
      have Hbv : Hid (Below wa.heap.size wa (wr.alloc (.cells c.a 35))) := hbv
      clear hz hBw hx hwv wv hbv
      obtain ⟨⟨ct, cp, cr, cc⟩, ⟨tm, dd, lc, kd, nm, st⟩⟩ := c
      obtain ⟨x0, x1, x2, x3, x4, x5, x6, x7, x8, x9⟩ := t
      simp only [Cx.a, zeroV] at *
      by_cases hck : (⟨ct, cp, cr, cc⟩ : Kb) = ⟨kt, kp, kr, kcc⟩
      · have HR : Hid (fnd ⟨kt, kp, kr, kcc⟩ l = (⟨tm, dd, lc, kd, nm, st⟩, true)) := hdr.trans (fnd_hit _ hck)
        clear hdr hne hc
        simp only [Kb.mk.injEq] at hck
        obtain ⟨rfl, rfl, rfl, rfl⟩ := hck
        go_wp2_with fail
        refine bodyPost_ret (v := .tuple #[.agg #[.int .i64 tm, .bool dd, .int .i64 lc, .int .i64 kd, .int .i64 nm, .string st], .bool true]) (resX_row_tmp Try.results21 _ _ (w.heap.size + 1) 33 _ _ _ _ rfl rfl (HS.out _ _ _ _ _ _) Try.underlying33 rfl (by kernel_rfl)) rfl ?_
        exact ⟨by rw [HR.out]; rfl, HBB.out _ _ _ _ _ _⟩
      · have HN : Hid (∀ j c, j < i + 1 → l[j]? = some c → c.k ≠ ⟨kt, kp, kr, kcc⟩) := fun j c hj hcj => by
          rcases Nat.lt_or_ge j i with g | g
          · exact hne j c g hcj
          · have : j = i := by omega
            rw [this, hc] at hcj
            rw [← Option.some.inj hcj]; exact hck
        have hkf := key_first hck
        clear hdr hne hc hck HS HBB f0 f1 f2 f3 f4 f5 d1 d2 d3 d4 d5 d6
        have hltz : (i : Int) < (l.length : Int) := by omega
        rcases hkf with h | ⟨rfl, h⟩ | ⟨rfl, rfl, h⟩ | ⟨rfl, rfl, rfl, h⟩ <;> (go_wp2_with fail; go_roundw; (case rel => exact ⟨i + 1, by omega, by go_num, HN.out, Hbv.out⟩); (case measure => (simp [intOf]; omega)))
    · have hi2 : i = l.length := by omega
      have hdr := HD.out i hi hne
      rw [hi2, List.drop_length] at hdr
      have HR : Hid (fnd ⟨kt, kp, kr, kcc⟩ l = (zeroV, false)) := hdr
      obtain ⟨-, hz, -, hBw⟩ := HF.out wr hbr
      have f0 := frozen_at hz 0
      have f1 := frozen_at hz 1
      have f2 := frozen_at hz 2
      have f3 := frozen_at hz 3
      have f4 := frozen_at hz 4
      have f5 := frozen_at hz 5
      obtain ⟨d1, d2, d3, d4, d5, d6⟩ := VAt.of hz
      simp only [Nat.zero_add, zeroV] at d1 d2 d3 d4 d5 d6
      have HS : Hid (∀ v0 v1 v2 v3 v4 v5 : Value, ((((((wr.setCell ⟨w.heap.size + 1, 0, none⟩ v0).setCell ⟨w.heap.size + 1, 1, none⟩ v1).setCell ⟨w.heap.size + 1, 2, none⟩ v2).setCell ⟨w.heap.size + 1, 3, none⟩ v3).setCell ⟨w.heap.size + 1, 4, none⟩ v4).setCell ⟨w.heap.size + 1, 5, none⟩ v5).heap[w.heap.size + 1]? = some (.cells #[v0, v1, v2, v3, v4, v5] 33)) := set6 hz
      have HBB : Hid (∀ v0 v1 v2 v3 v4 v5 : Value, Below w.heap.size w ((((((wr.setCell ⟨w.heap.size + 1, 0, none⟩ v0).setCell ⟨w.heap.size + 1, 1, none⟩ v1).setCell ⟨w.heap.size + 1, 2, none⟩ v2).setCell ⟨w.heap.size + 1, 3, none⟩ v3).setCell ⟨w.heap.size + 1, 4, none⟩ v4).setCell ⟨w.heap.size + 1, 5, none⟩ v5)) := below6 hBw (by omega)
      have hgez : ¬ (i : Int) < (l.length : Int) := by omega
      clear hdr hne hz hBw hi2
      go_wp2_with fail
      refine bodyPost_ret (v := .tuple #[.agg #[.int .i64 0, .bool false, .int .i64 0, .int .i64 0, .int .i64 0, .string ⟨#[]⟩], .bool false]) (resX_row_tmp Try.results21 _ _ (w.heap.size + 1) 33 _ _ _ _ rfl rfl (HS.out _ _ _ _ _ _) Try.underlying33 rfl (by kernel_rfl)) rfl ?_
      exact ⟨by rw [HR.out]; rfl, HBB.out _ _ _ _ _ _⟩
end Go.Proofs.Ytkdeaogmifhnhaa

/-
  SEVERAL TEXTS IN ONE: ManRead, DskSmall.
-/
import Derived.Test.YtgkdodcidancpaaGreatDoorMany9
import Derived.Test.YtgkdodcidancpaaGreatDoorMany4
import Derived.Test.YtgkdodcidancpaaGreatDoorMany2
namespace Go.Proofs.YtgkdodcidancpaaGreatDoor
open Go.RowKit

/-- What Read tells. -/
def rdF (b : List UInt8) : Mf := (rdM b).getD ⟨[], 0, 0⟩
def rdE (b : List UInt8) : Int := if (rdM b).isSome then 0 else 8
theorem rd_none {b : List UInt8} (h : rdM b = none) : rdF b = ⟨[], 0, 0⟩ ∧ rdE b = 8 := by unfold rdF rdE; rw [h]; exact ⟨rfl, rfl⟩
theorem rd_some {b : List UInt8} {m : Mf} (h : rdM b = some m) : rdF b = m ∧ rdE b = 0 := by unfold rdF rdE; rw [h]; exact ⟨rfl, rfl⟩
theorem numM_len (c : List UInt8) : (numM c).ts.length ≤ 31 := by unfold numM; dsimp only; rw [tks_len]; omega
theorem results_row_tmpM {P : Program} {fn : Func} {p u : Tmp} {ty : TypeId} (h : fn.results = #[.cell p ty, .tmp u]) (tmps : Array Value) (w : World) (g : Nat) (t : TypeId) (cs : Array Value) (fr : Nat × Nat) (d : TypeDesc) (v : Value)
    (hp : tmps.getD p undef = .pointer (some ⟨g, 0, none⟩)) (hv : tmps.getD u undef = v) (hg : w.heap[g]? = some (.cells cs t fr))
    (hu : P.underlying ty = some d) (hd : (match d with | .struct _ | .array _ _ => true | _ => false) = true) (hi : (P.info? ty).map (·.size) = some cs.size) :
    (results fn tmps).run P w = .ok (.tuple #[.agg cs, v]) w := by
  rw [results_cell_tmp h, hp, hv]
  simp [asAddr, run_loadVar_row w g t ty cs fr d hg hu hd hi, Result.andThen]
set_option maxRecDepth 100000 in
set_option maxHeartbeats 2000000 in
theorem readM_any (ao : Option Addr) (b : List UInt8) (cap : Nat) (w : World) (hs : Sees w ao b) (hn : ao = none → b.length = 0) (hcap : b.length ≤ cap) (hcm : cap ≤ 9223372036854775807) (hl : b.length ≤ 1000000) (ht : Tab w) (u : TypeId) (pv : Value) (he : Err w u pv) :
    Calls Tryz.prog 38 #[.slice ao b.length cap] w fun e w' => ∃ a5 c5, e = .returned (.tuple #[mval a5 c5 (rdF b), .int .i64 (rdE b)]) ∧ MSees w' a5 c5 (rdF b) ∧ c5 ≤ 9223372036854775807 ∧ (∀ a, a5 = some a → w.heap.size ≤ a.block) ∧ Below w.heap.size w w' := by
  have hB0 : Below w.heap.size w (w.alloc (.cells #[.slice none 0 0, .int .i64 0, .int .i64 0] 36)) := (Below.refl _ _).alloc (Nat.le_refl _) _
  have k0 := Blk.new w [.slice none 0 0, .int .i64 0, .int .i64 0] 36
  have CU : Hid (Calls Tryz.prog 78 #[.slice ao b.length cap] (w.alloc (.cells #[.slice none 0 0, .int .i64 0, .int .i64 0] 36)) fun e w' => ∃ v', e = .returned (.tuple #[v', .int .i64 (unfN b), .int .i64 (unfE b)]) ∧ w'.ownsRow w.heap.size 5 1 v' (unfB b).length (B8 (unfB b)) ∧ Below w.heap.size w w' ∧ Blk w' w.heap.size [.slice none 0 0, .int .i64 0, .int .i64 0] 36) :=
    (unframe_any ao b cap _ (hs.below hB0 (Nat.le_refl _)) (by omega) hcap hcm (ht.below hB0 (Nat.le_refl _))).mono fun e w' ⟨v', h1, h2, h3⟩ => ⟨v', h1, owns_baseI h2 hB0.size, hB0.trans (h3.mono hB0.size), k0.carry (h3.block _ k0.lt)⟩
  have HZ : Hid (∀ w', Below w.heap.size w w' → rdM b = none → ∃ a5 c5, Ending.returned (.tuple #[.agg #[.slice none 0 0, .int .i64 0, .int .i64 0], .int .i64 8]) = .returned (.tuple #[mval a5 c5 (rdF b), .int .i64 (rdE b)]) ∧ MSees w' a5 c5 (rdF b) ∧ c5 ≤ 9223372036854775807 ∧ (∀ a, a5 = some a → w.heap.size ≤ a.block) ∧ Below w.heap.size w w') := fun w' hb hr => by
    obtain ⟨e1, e2⟩ := rd_none hr
    rw [e1, e2]
    exact ⟨none, 0, rfl, ⟨fun i x hx => by simp at hx, fun _ => rfl, Nat.le_refl _⟩, by omega, (fun a e => by cases e), hb⟩
  by_cases hE : unfE b = 0
  · have hlB : (unfB b).length ≤ 1000000 := by
      unfold unfB
      rw [if_pos hE, List.length_take, List.length_drop]; omega
    have HRD : Hid (rdM b = if unfE b = 0 ∧ goodM (numM (unfB b)) = true ∧ encM (numM (unfB b)) = b then some (numM (unfB b)) else none) := rfl
    have CN : Hid (∀ x a' c', Below w.heap.size w x → x.ownsRow w.heap.size 5 1 (.slice a' (unfB b).length c') (unfB b).length (B8 (unfB b)) → Calls Tryz.prog 79 #[.slice a' (unfB b).length c'] x fun e x' => ∃ a5 c5, e = .returned (mval a5 c5 (numM (unfB b))) ∧ MSees x' a5 c5 (numM (unfB b)) ∧ c5 ≤ 9223372036854775807 ∧ (∀ a, a5 = some a → x.heap.size ≤ a.block) ∧ Below x.heap.size x x') := fun x a' c' hx ho => by
      obtain ⟨a1, c1, e1, s1, l1, n1⟩ := owns_sees ho
      cases e1
      have he' : Err x u pv := by unfold Err at he ⊢; rw [hx.cell (World.block_lt_of_cell? _ _ he)]; exact he
      have h5 : (a' = none ∧ (unfB b).length = 0) ∨ ∃ q off, a' = some ⟨q, off, none⟩ ∧ q < x.heap.size := by
        rcases ho.2 with ⟨e, h0⟩ | ⟨g, cp, cur, e, h1, h2, _⟩
        · simp only [Value.slice.injEq] at e; exact .inl ⟨e.1, h0⟩
        · simp only [Value.slice.injEq] at e; exact .inr ⟨g, 0, e.1, (Array.getElem?_eq_some_iff.1 h2).1⟩
      obtain ⟨_, _, e2, hcp⟩ := owns_form2 ho
      cases e2
      have hcm2 : c' ≤ 9223372036854775807 := by
        rcases ho.2 with ⟨e, h0⟩ | ⟨g, cp, cur, e, h1, h2, h3, h4, _⟩
        · simp only [Value.slice.injEq] at e; omega
        · simp only [Value.slice.injEq] at e; unfold maxLen at h4; omega
      exact numbersM_any a' (unfB b) c' x s1 hcp hcm2 h5 hlB u pv he'
    have HTab : Hid (∀ x, Below w.heap.size w x → Tab x) := fun x hx => ht.below hx (Nat.le_refl _)
    have HEQ : Hid (∀ x a1 c1 (E : List UInt8), Below w.heap.size w x → Sees x a1 E → (a1 = none → E.length = 0) → Calls Tryz.prog 80 #[.slice a1 E.length c1, .slice ao b.length cap] x fun e w' => e = .returned (.bool (E == b)) ∧ w' = x) := fun x a1 c1 E hx h1 h2 => equal_any a1 ao E b c1 cap x h1 (hs.below hx (Nat.le_refl _)) h2 hn
    have hnl := numM_len (unfB b)
    rw [hE] at CU
    have HE0 : Hid (unfE b = 0) := hE
    clear hs hn hcap hcm hl ht he hE hlB k0 hB0
    generalize unfB b = c at *
    generalize numM c = m at *
    generalize unfN b = nn at *
    obtain ⟨ts, nx, fr⟩ := m
    cases hg : goodM ⟨ts, nx, fr⟩ with
    | false =>
      have HR : Hid (rdM b = none) := by show _ = _; rw [HRD.out, if_neg (fun h => by rw [hg] at h; exact absurd h.2.1 (by simp))]
      have CN := CN
      unfold mval at CN
      dsimp only at CN hnl
      go_enter Tryz.func38, Tryz.ntmps38
      go_wp2_with fail
      go_fit CU.out
      rintro e w2 ⟨v', rfl, ho, hB2, hk2⟩
      obtain ⟨a', c', rfl, -⟩ := owns_form2 ho
      have C2 := CN.out w2 a' c' hB2 ho
      clear ho CN
      generalize c.length = cl at *
      go_wp2_with fail
      go_fit C2
      rintro e w3 ⟨a5, c5, rfl, hm, hc5, ha5, hB3⟩
      have ha5' : ∀ a, a5 = some a → w.heap.size < a.block := fun a e => Nat.lt_of_lt_of_le hk2.lt (ha5 a e)
      clear ha5
      have hB3' : Below w.heap.size w w3 := hB2.trans (hB3.mono hB2.size)
      have hk3 := hk2.carry (hB3.block _ hk2.lt)
      clear C2 hB3 hB2 hk2
      have k4 := Blk.new w3 [.slice a5 ts.length c5, .int .i64 nx, .int .i64 fr] 36
      have hB4 : Below w3.heap.size w3 (w3.alloc (.cells #[.slice a5 ts.length c5, .int .i64 nx, .int .i64 fr] 36)) := (Below.refl _ _).alloc (Nat.le_refl _) _
      have hB4' : Below w.heap.size w (w3.alloc (.cells #[.slice a5 ts.length c5, .int .i64 nx, .int .i64 fr] 36)) := hB3'.trans (hB4.mono hB3'.size)
      have m0 := k4.cell 0 rfl
      have m1 := k4.cell 1 rfl
      have m2 := k4.cell 2 rfl
      have hk4 := hk3.alloc (.cells #[.slice a5 ts.length c5, .int .i64 nx, .int .i64 fr] 36)
      have hm4 := hm.below hB4 (Nat.le_refl _)
      have C4 : Calls Tryz.prog 19 #[.agg #[.slice a5 ts.length c5, .int .i64 nx, .int .i64 fr]] (w3.alloc (.cells #[.slice a5 ts.length c5, .int .i64 nx, .int .i64 fr] 36)) fun e w' => e = .returned (.tuple #[.slice none 0 0, .int .i64 2]) ∧ Below w.heap.size w w' ∧ Blk w' w.heap.size [.slice none 0 0, .int .i64 0, .int .i64 0] 36 :=
        (bytesM_bad a5 c5 ⟨ts, nx, fr⟩ _ hm4 (by show ts.length ≤ _; omega) hc5 hg).mono fun e w' hh => ⟨hh.1, hB4'.trans (hh.2.mono hB4'.size), hk4.carry (hh.2.block _ hk4.lt)⟩
      clear hB3' hk3 k4 hB4 hB4' hk4 hm4 hm hg
      go_wp2_with fail
      go_fit C4
      rintro e w5 ⟨rfl, hB5, hk5⟩
      have f0 := hk5.frozen 0
      have f1 := hk5.frozen 1
      have f2 := hk5.frozen 2
      have n0 := hk5.cell 0 rfl
      have n1 := hk5.cell 1 rfl
      have n2 := hk5.cell 2 rfl
      have HK : Hid (Blk (((w5.setCell ⟨w.heap.size, 0, none⟩ (.slice none 0 0)).setCell ⟨w.heap.size, 1, none⟩ (.int .i64 0)).setCell ⟨w.heap.size, 2, none⟩ (.int .i64 0)) w.heap.size [.slice none 0 0, .int .i64 0, .int .i64 0] 36) := ((hk5.setTo 0 _ _ rfl).setTo 1 _ _ rfl).setTo 2 _ _ rfl
      have HB5 : Hid (Below w.heap.size w w5) := hB5
      clear hk5 hB5 C4 m0 m1 m2
      go_wp2_with fail
      refine bodyPost_ret (v := .tuple #[.agg #[.slice none 0 0, .int .i64 0, .int .i64 0], .int .i64 8]) (results_row_tmpM Tryz.results38 _ _ w.heap.size 36 _ _ _ _ rfl rfl HK.out Tryz.underlying36 rfl (by kernel_rfl)) rfl ?_
      exact HZ.out _ (((HB5.out.setCell (Nat.le_refl _) _).setCell (Nat.le_refl _) _).setCell (Nat.le_refl _) _) HR.out
    | true =>
      have CN := CN
      unfold mval at CN
      dsimp only at CN hnl
      go_enter Tryz.func38, Tryz.ntmps38
      go_wp2_with fail
      go_fit CU.out
      rintro e w2 ⟨v', rfl, ho, hB2, hk2⟩
      obtain ⟨a', c', rfl, -⟩ := owns_form2 ho
      have C2 := CN.out w2 a' c' hB2 ho
      clear ho CN
      generalize c.length = cl at *
      go_wp2_with fail
      go_fit C2
      rintro e w3 ⟨a5, c5, rfl, hm, hc5, ha5, hB3⟩
      have ha5' : ∀ a, a5 = some a → w.heap.size < a.block := fun a e => Nat.lt_of_lt_of_le hk2.lt (ha5 a e)
      clear ha5
      have hB3' : Below w.heap.size w w3 := hB2.trans (hB3.mono hB2.size)
      have hk3 := hk2.carry (hB3.block _ hk2.lt)
      clear C2 hB3 hB2 hk2
      have k4 := Blk.new w3 [.slice a5 ts.length c5, .int .i64 nx, .int .i64 fr] 36
      have hB4 : Below w3.heap.size w3 (w3.alloc (.cells #[.slice a5 ts.length c5, .int .i64 nx, .int .i64 fr] 36)) := (Below.refl _ _).alloc (Nat.le_refl _) _
      have hB4' : Below w.heap.size w (w3.alloc (.cells #[.slice a5 ts.length c5, .int .i64 nx, .int .i64 fr] 36)) := hB3'.trans (hB4.mono hB3'.size)
      have m0 := k4.cell 0 rfl
      have m1 := k4.cell 1 rfl
      have m2 := k4.cell 2 rfl
      have hk4 := hk3.alloc (.cells #[.slice a5 ts.length c5, .int .i64 nx, .int .i64 fr] 36)
      have hm4 := hm.below hB4 (Nat.le_refl _)
      have C4 : Calls Tryz.prog 19 #[.agg #[.slice a5 ts.length c5, .int .i64 nx, .int .i64 fr]] (w3.alloc (.cells #[.slice a5 ts.length c5, .int .i64 nx, .int .i64 fr] 36)) fun e w' => ∃ g, e = .returned (.tuple #[.slice (some ⟨g, 0, none⟩) (encM ⟨ts, nx, fr⟩).length (encM ⟨ts, nx, fr⟩).length, .int .i64 0]) ∧ Row w' g (encM ⟨ts, nx, fr⟩) ∧ Below w.heap.size w w' ∧ Blk w' w.heap.size [.slice none 0 0, .int .i64 0, .int .i64 0] 36 ∧ Blk w' w3.heap.size [.slice a5 ts.length c5, .int .i64 nx, .int .i64 fr] 36 ∧ MSees w' a5 c5 ⟨ts, nx, fr⟩ :=
        (bytesM_ok a5 c5 ⟨ts, nx, fr⟩ _ hm4 hc5 (HTab.out _ hB4') hg).mono fun e w' ⟨g, h1, h2, h3, h4⟩ => ⟨g, h1, h3, hB4'.trans (h4.mono hB4'.size), hk4.carry (h4.block _ hk4.lt), k4.carry (h4.block _ k4.lt), hm4.below h4 (Nat.le_refl _)⟩
      have hne : w.heap.size ≠ w3.heap.size := by have := hk3.lt; omega
      clear hB3' hk3 k4 hB4 hB4' hk4 hm4 hm
      have HRD2 : Hid (rdM b = if encM ⟨ts, nx, fr⟩ = b then some ⟨ts, nx, fr⟩ else none) := by
        show _ = _
        rw [HRD.out]
        by_cases hq : encM ⟨ts, nx, fr⟩ = b
        · rw [if_pos hq, if_pos ⟨HE0.out, hg, hq⟩]
        · rw [if_neg hq, if_neg (fun h => hq h.2.2)]
      clear hg HRD
      generalize encM ⟨ts, nx, fr⟩ = E at *
      go_wp2_with fail
      go_fit C4
      rintro e w5 ⟨g, rfl, hrow, hB5, hk5, hk6, hm5⟩
      have hsee : Sees w5 (some ⟨g, 0, none⟩) E := by have := hrow.sees 0 E.length (by omega); simpa using this
      have C5 := HEQ.out w5 (some ⟨g, 0, none⟩) E.length E hB5 hsee (fun e => by cases e)
      clear hrow hsee C4 HEQ m0 m1 m2
      have HB5 : Hid (Below w.heap.size w w5) := hB5
      by_cases hq : E = b
      · subst hq
        rw [beq_self_eq_true] at C5
        have HR := HRD2.out
        rw [if_pos rfl] at HR
        obtain ⟨r1, r2⟩ := rd_some HR
        have m0 := hk6.cell 0 rfl
        have m1 := hk6.cell 1 rfl
        have m2 := hk6.cell 2 rfl
        have f0 := hk5.frozen 0
        have f1 := hk5.frozen 1
        have f2 := hk5.frozen 2
        have n0 := hk5.cell 0 rfl
        have n1 := hk5.cell 1 rfl
        have n2 := hk5.cell 2 rfl
        have HK : Hid (Blk (((w5.setCell ⟨w.heap.size, 0, none⟩ (.slice a5 ts.length c5)).setCell ⟨w.heap.size, 1, none⟩ (.int .i64 nx)).setCell ⟨w.heap.size, 2, none⟩ (.int .i64 fr)) w.heap.size [.slice a5 ts.length c5, .int .i64 nx, .int .i64 fr] 36) := ((hk5.setTo 0 _ _ rfl).setTo 1 _ _ rfl).setTo 2 _ _ rfl
        have HE : Hid (∃ a6 c6, Ending.returned (.tuple #[.agg #[.slice a5 ts.length c5, .int .i64 nx, .int .i64 fr], .int .i64 0]) = .returned (.tuple #[mval a6 c6 (rdF E), .int .i64 (rdE E)]) ∧ MSees (((w5.setCell ⟨w.heap.size, 0, none⟩ (.slice a5 ts.length c5)).setCell ⟨w.heap.size, 1, none⟩ (.int .i64 nx)).setCell ⟨w.heap.size, 2, none⟩ (.int .i64 fr)) a6 c6 (rdF E) ∧ c6 ≤ 9223372036854775807 ∧ (∀ a, a6 = some a → w.heap.size ≤ a.block) ∧ Below w.heap.size w (((w5.setCell ⟨w.heap.size, 0, none⟩ (.slice a5 ts.length c5)).setCell ⟨w.heap.size, 1, none⟩ (.int .i64 nx)).setCell ⟨w.heap.size, 2, none⟩ (.int .i64 fr))) := by
          rw [r1, r2]
          refine ⟨a5, c5, rfl, ⟨fun i x hx => ?_, hm5.nil, hm5.cap⟩, hc5, fun a e => Nat.le_of_lt (ha5' a e), ((HB5.out.setCell (Nat.le_refl _) _).setCell (Nat.le_refl _) _).setCell (Nat.le_refl _) _⟩
          obtain ⟨q, off, e, hc⟩ := hm5.see i x hx
          have hq := ha5' _ e
          refine ⟨q, off, e, ?_⟩
          rw [World.cell?_of_block (w := w5)]
          · exact hc
          · show (((w5.setCell _ _).setCell _ _).setCell _ _).heap[q]? = _
            rw [Below.heap_setCell _ _ _ _ (by show q ≠ w.heap.size; exact Nat.ne_of_gt hq), Below.heap_setCell _ _ _ _ (by show q ≠ w.heap.size; exact Nat.ne_of_gt hq), Below.heap_setCell _ _ _ _ (by show q ≠ w.heap.size; exact Nat.ne_of_gt hq)]
        clear hk5 hB5 hk6 hm5 HRD2 HR r1 r2 ha5'
        obtain ⟨el, hel⟩ : ∃ el, E.length = el := ⟨_, rfl⟩
        have HEL : Hid (E.length = el) := hel
        rw [hel] at C5
        rw [hel]
        clear hel
        go_wp2_with fail
        go_fit C5
        rintro e w6 ⟨rfl, rfl⟩
        go_wp2_with fail
        refine bodyPost_ret (v := .tuple #[.agg #[.slice a5 ts.length c5, .int .i64 nx, .int .i64 fr], .int .i64 0]) (results_row_tmpM Tryz.results38 _ _ w.heap.size 36 _ _ _ _ rfl rfl HK.out Tryz.underlying36 rfl (by kernel_rfl)) rfl ?_
        exact HE.out
      · have hqb : (E == b) = false := by rw [beq_eq_false_iff_ne]; exact hq
        rw [hqb] at C5
        have HR : Hid (rdM b = none) := by show _ = _; rw [HRD2.out, if_neg hq]
        have f0 := hk5.frozen 0
        have f1 := hk5.frozen 1
        have f2 := hk5.frozen 2
        have n0 := hk5.cell 0 rfl
        have n1 := hk5.cell 1 rfl
        have n2 := hk5.cell 2 rfl
        have HK : Hid (Blk (((w5.setCell ⟨w.heap.size, 0, none⟩ (.slice none 0 0)).setCell ⟨w.heap.size, 1, none⟩ (.int .i64 0)).setCell ⟨w.heap.size, 2, none⟩ (.int .i64 0)) w.heap.size [.slice none 0 0, .int .i64 0, .int .i64 0] 36) := ((hk5.setTo 0 _ _ rfl).setTo 1 _ _ rfl).setTo 2 _ _ rfl
        clear hk5 hB5 hk6 hm5 HRD2 hq hqb
        generalize E.length = el at *
        go_wp2_with fail
        go_fit C5
        rintro e w6 ⟨rfl, rfl⟩
        go_wp2_with fail
        refine bodyPost_ret (v := .tuple #[.agg #[.slice none 0 0, .int .i64 0, .int .i64 0], .int .i64 8]) (results_row_tmpM Tryz.results38 _ _ w.heap.size 36 _ _ _ _ rfl rfl HK.out Tryz.underlying36 rfl (by kernel_rfl)) rfl ?_
        exact HZ.out _ (((HB5.out.setCell (Nat.le_refl _) _).setCell (Nat.le_refl _) _).setCell (Nat.le_refl _) _) HR.out
  · have HR : Hid (rdM b = none) := rdM_bad hE
    have hEi : ((unfE b : Int) == 0) = false := by rw [beq_eq_false_iff_ne]; omega
    generalize (unfE b : Int) = E at *
    clear hs hn hcap hcm hl ht he hE k0 hB0
    go_enter Tryz.func38, Tryz.ntmps38
    go_wp2_with fail
    go_fit CU.out
    rintro e w2 ⟨v', rfl, ho, hB2, hk2⟩
    have HB2 : Hid (Below w.heap.size w w2) := hB2
    have f0 := hk2.frozen 0
    have f1 := hk2.frozen 1
    have f2 := hk2.frozen 2
    have n0 := hk2.cell 0 rfl
    have n1 := hk2.cell 1 rfl
    have n2 := hk2.cell 2 rfl
    have HK : Hid (Blk (((w2.setCell ⟨w.heap.size, 0, none⟩ (.slice none 0 0)).setCell ⟨w.heap.size, 1, none⟩ (.int .i64 0)).setCell ⟨w.heap.size, 2, none⟩ (.int .i64 0)) w.heap.size [.slice none 0 0, .int .i64 0, .int .i64 0] 36) := ((hk2.setTo 0 _ _ rfl).setTo 1 _ _ rfl).setTo 2 _ _ rfl
    clear hB2 hk2 ho
    go_wp2_with fail
    refine bodyPost_ret (v := .tuple #[.agg #[.slice none 0 0, .int .i64 0, .int .i64 0], .int .i64 8]) (results_row_tmpM Tryz.results38 _ _ w.heap.size 36 _ _ _ _ rfl rfl HK.out Tryz.underlying36 rfl (by kernel_rfl)) rfl ?_
    exact HZ.out _ (((HB2.out.setCell (Nat.le_refl _) _).setCell (Nat.le_refl _) _).setCell (Nat.le_refl _) _) HR.out
end Go.Proofs.YtgkdodcidancpaaGreatDoor
namespace Go.Proofs.YtgkdodcidancpaaGreatDoor
open Go.RowKit Go.Maps

theorem i64_wrap {x : Int} (h1 : -9223372036854775808 ≤ x) (h2 : x < 9223372036854775808) : IntKind.i64.wrap x = x := by
  simp [IntKind.wrap, IntKind.signed, IntKind.bits]
  omega
/-- How many sectors so many bytes need. -/
def secI (x : Int) : Int := if x < 1 then 0 else (x - 1) / 16 + 1
theorem sectors_num (x : Int) (w : World) (h1 : -9223372036854775808 ≤ x) (h2 : x < 9223372036854775808) :
    Calls Tryz.prog 98 #[.int .i64 x] w fun e w' => e = .returned (.int .i64 (secI x)) ∧ w' = w := by
  have H : Hid (secI x = if x < 1 then 0 else (x - 1) / 16 + 1) := rfl
  go_enter Tryz.func98, Tryz.ntmps98
  go_wp2
  all_goals go_ret
  · exact ⟨ret_int (by rw [H.out, if_pos (by assumption)]), rfl⟩
  · exact ⟨ret_int (by rw [H.out, if_neg (by omega)]), rfl⟩
theorem refSectors_num (x : Int) (w : World) (h1 : -9223372036854775808 ≤ x) (h2 : x < 9223372036854775808) :
    Calls Tryz.prog 102 #[.int .i64 x] w fun e w' => e = .returned (.int .i64 (secI x)) ∧ w' = w := by
  have H : Hid (secI x = if x < 1 then 0 else (x - 1) / 16 + 1) := rfl
  go_enter Tryz.func102, Tryz.ntmps102
  go_wp2
  all_goals go_ret
  · exact ⟨ret_int (by rw [H.out, if_pos (by assumption)]), rfl⟩
  · exact ⟨ret_int (by rw [H.out, if_neg (by omega)]), rfl⟩
def letterI (c : Int) : Bool := decide (97 ≤ c) && decide (c ≤ 122)
theorem letterD_any (c : Int) (w : World) :
    Calls Tryz.prog 94 #[.int .u8 c] w fun e w' => e = .returned (.bool (letterI c)) ∧ w' = w := by
  have H : Hid (letterI c = (decide (97 ≤ c) && decide (c ≤ 122))) := rfl
  go_enter Tryz.func94, Tryz.ntmps94
  go_wp2
  all_goals go_ret
  · exact ⟨ret_bool (by rw [H.out]; simp [*]), rfl⟩
  · exact ⟨ret_bool (by rw [H.out, decide_eq_false (by omega : ¬ 97 ≤ c)]; rfl), rfl⟩
def allowedI (c : Int) : Bool := letterI c || (decide (48 ≤ c) && decide (c ≤ 57)) || c == 46 || c == 45
theorem allowed_any (c : Int) (w : World) :
    Calls Tryz.prog 95 #[.int .u8 c] w fun e w' => e = .returned (.bool (allowedI c)) ∧ w' = w := by
  have H : Hid (allowedI c = (letterI c || (decide (48 ≤ c) && decide (c ≤ 57)) || c == 46 || c == 45)) := rfl
  have L : Hid (∀ w, Calls Tryz.prog 94 #[.int .u8 c] w fun e w' => e = .returned (.bool (letterI c)) ∧ w' = w) := letterD_any c
  go_enter Tryz.func95, Tryz.ntmps95
  go_wp2_with (go_at_call 94; refine (L.out _).mono ?_; rintro e w1 ⟨rfl, rfl⟩)
  all_goals go_ret
  all_goals refine ⟨ret_bool ?_, rfl⟩
  all_goals first | (rw [H.out]; simp [*]; done) | (unfold allowedI; simp [*]; done) | skip
  · rename_i h1 h2 h3
    rw [H.out, Bool.eq_false_iff.2 h1, decide_eq_false (by omega : ¬ (48 : Int) ≤ c)]
    rfl
theorem ne_map (bm : Nat) (w : World) : (binOp BinOp.neq 55 (.map (some bm)) (.map none)).run Tryz.prog w = .ok (.bool true) w := by kernel_rfl
theorem ne_nomap (w : World) : (binOp BinOp.neq 55 (.map none) (.map none)).run Tryz.prog w = .ok (.bool false) w := by kernel_rfl
theorem made_any (d bm : Nat) (w : World) (h : w.cell? ⟨d, 0, none⟩ = some (.map (some bm))) :
    Calls Tryz.prog 44 #[.pointer (some ⟨d, 0, none⟩)] w fun e w' => e = .returned (.bool true) ∧ w' = w := by
  have hq := ne_map
  go_enter Tryz.func44, Tryz.ntmps44
  go_wp2
  go_ret
  exact ⟨rfl, rfl⟩
theorem made_zero (d : Nat) (w : World) (h : w.cell? ⟨d, 0, none⟩ = some (.map none)) :
    Calls Tryz.prog 44 #[.pointer (some ⟨d, 0, none⟩)] w fun e w' => e = .returned (.bool false) ∧ w' = w := by
  have hq := ne_nomap
  go_enter Tryz.func44, Tryz.ntmps44
  go_wp2
  go_ret
  exact ⟨rfl, rfl⟩
theorem made_nil (w : World) :
    Calls Tryz.prog 44 #[.pointer none] w fun e w' => e = .returned (.bool false) ∧ w' = w := by
  go_enter Tryz.func44, Tryz.ntmps44
  go_wp2
  go_ret
  exact ⟨rfl, rfl⟩
/-- May a file be called so? -/
def goodB (l : List UInt8) : Bool := decide (0 < l.length) && decide (l.length ≤ 40) && letterI ((l.getD 0 0).toNat : Int) && l.all fun c => allowedI (c.toNat : Int)
theorem goodD_any (s : ByteArray) (w : World) (hs : s.size ≤ maxLen) :
    Calls Tryz.prog 53 #[.string s] w fun e w' => e = .returned (.bool (goodB s.data.toList)) ∧ w' = w := by
  have hsz : (s.size : Int) ≤ 9223372036854775807 := by unfold maxLen at hs; omega
  have H : Hid (goodB s.data.toList = (decide (0 < s.size) && decide (s.size ≤ 40) && letterI ((s.data.toList.getD 0 0).toNat : Int) && s.data.toList.all fun c => allowedI (c.toNat : Int))) := rfl
  have L : Hid (∀ c w, Calls Tryz.prog 94 #[.int .u8 c] w fun e w' => e = .returned (.bool (letterI c)) ∧ w' = w) := letterD_any
  have M : Hid (∀ c w, Calls Tryz.prog 95 #[.int .u8 c] w fun e w' => e = .returned (.bool (allowedI c)) ∧ w' = w) := allowed_any
  clear hs
  by_cases h0 : s.size = 0
  · go_enter Tryz.func53, Tryz.ntmps53
    go_wp2_with fail
    go_ret
    exact ⟨ret_bool (by rw [H.out, h0]; rfl), rfl⟩
  by_cases h40 : 40 < s.size
  · go_enter Tryz.func53, Tryz.ntmps53
    go_wp2_with fail
    go_ret
    exact ⟨ret_bool (by rw [H.out, decide_eq_false (by omega : ¬ s.size ≤ 40)]; simp), rfl⟩
  have hb0 : ((s.size : Int) == 0) = false := by rw [beq_eq_false_iff_ne]; omega
  have hb1 : decide (40 < (s.size : Int)) = false := decide_eq_false (by omega)
  have hsi : (s.size : Int) ≤ 40 := by omega
  have hpos : 0 < s.size := by omega
  have hat : ∀ k (hk : k < s.size), s.data.toList.getD k 0 = s[k] := by
    intro k hk
    have : k < s.data.toList.length := by simpa using hk
    rw [List.getD_eq_getElem?_getD, List.getElem?_eq_getElem this]
    rfl
  have H0 : Hid (decide (0 < s.size) = true ∧ decide (s.size ≤ 40) = true) := ⟨by simp; omega, by simp; omega⟩
  have Hat : Hid (∀ k (hk : k < s.size), s.data.toList.getD k 0 = s[k]) := hat
  have Hlen : Hid (s.data.toList.length = s.size) := by show _ = _; simp
  clear hat h0 h40
  cases hl : letterI ((s.data.toList.getD 0 0).toNat : Int)
  · have L0 : Hid (∀ w, Calls Tryz.prog 94 #[.int .u8 (s[0].toNat : Int)] w fun e w' => e = .returned (.bool false) ∧ w' = w) := by
      intro w
      rw [← hl, Hat.out 0 hpos]
      exact L.out _ w
    go_enter Tryz.func53, Tryz.ntmps53
    go_wp2_with (go_at_call 94; refine (L0.out _).mono ?_; rintro e w1 ⟨rfl, rfl⟩)
    go_ret
    exact ⟨ret_bool (by rw [H.out, hl]; simp), rfl⟩
  · have L0 : Hid (∀ w, Calls Tryz.prog 94 #[.int .u8 (s[0].toNat : Int)] w fun e w' => e = .returned (.bool true) ∧ w' = w) := by
      intro w
      rw [← hl, Hat.out 0 hpos]
      exact L.out _ w
    have HL : Hid (letterI ((s.data.toList.getD 0 0).toNat : Int) = true) := hl
    clear hl
    go_enter Tryz.func53, Tryz.ntmps53
    go_wp2_with (go_at_call 94; refine (L0.out _).mono ?_; rintro e w1 ⟨rfl, rfl⟩)
    go_loop [20] (fun i => ∃ k : Nat, k ≤ s.size ∧ i = .int .i64 k ∧ ∀ j, j < k → allowedI ((s.data.toList.getD j 0).toNat : Int) = true) (fun i => s.size - (intOf i).toNat)
    case atStart => exact ⟨0, Nat.zero_le _, rfl, fun j hj => absurd hj (Nat.not_lt_zero _)⟩
    case round =>
      obtain ⟨k, hk, rfl, hall⟩ := hrel
      have HA : Hid (∀ j, j < k → allowedI ((s.data.toList.getD j 0).toNat : Int) = true) := hall
      clear hall
      by_cases hlt : k < s.size
      · cases hak : allowedI (s[k].toNat : Int)
        · have M0 : Hid (∀ w, Calls Tryz.prog 95 #[.int .u8 (s[k].toNat : Int)] w fun e w' => e = .returned (.bool false) ∧ w' = w) := by
            intro w
            rw [← hak]
            exact M.out _ w
          have HK : Hid (allowedI (s[k].toNat : Int) = false) := hak
          clear hak
          go_wp2_with (go_at_call 95; refine (M0.out _).mono ?_; rintro e w2 ⟨rfl, rfl⟩)
          go_ret
          refine ⟨ret_bool ?_, rfl⟩
          rw [H.out]
          have : (s.data.toList.all fun c => allowedI (c.toNat : Int)) = false := by
            rw [List.all_eq_false]
            refine ⟨s.data.toList.getD k 0, ?_, ?_⟩
            · have hk' : k < s.data.toList.length := by rw [Hlen.out]; exact hlt
              rw [List.getD_eq_getElem?_getD, List.getElem?_eq_getElem hk']
              exact List.getElem_mem hk'
            · rw [Hat.out k hlt, HK.out]
              simp
          rw [this]
          simp
        · have M0 : Hid (∀ w, Calls Tryz.prog 95 #[.int .u8 (s[k].toNat : Int)] w fun e w' => e = .returned (.bool true) ∧ w' = w) := by
            intro w
            rw [← hak]
            exact M.out _ w
          have HK : Hid (allowedI (s[k].toNat : Int) = true) := hak
          clear hak
          go_wp2_with (go_at_call 95; refine (M0.out _).mono ?_; rintro e w2 ⟨rfl, rfl⟩)
          go_round
          case rel =>
            refine ⟨k + 1, by omega, by go_num, fun j hj => ?_⟩
            by_cases e : j = k
            · subst e
              rw [Hat.out j hlt]
              exact HK.out
            · exact HA.out j (by omega)
          case measure => simp [intOf]; omega
      · obtain rfl : k = s.size := by omega
        go_wp2_with fail
        go_ret
        refine ⟨ret_bool ?_, rfl⟩
        rw [H.out, H0.out.1, H0.out.2, HL.out]
        have : (s.data.toList.all fun c => allowedI (c.toNat : Int)) = true := by
          rw [List.all_eq_true]
          intro c hc
          obtain ⟨j, hj, rfl⟩ := List.getElem_of_mem hc
          have := HA.out j (by rw [← Hlen.out]; exact hj)
          rw [List.getD_eq_getElem?_getD, List.getElem?_eq_getElem hj] at this
          exact this
        rw [this]
        rfl

/-! ### what a disk tells of itself -/
section
variable {w : World} {d bm : Nat} {S : St}
theorem on_any (h : DiskAt w d bm S) : Calls Tryz.prog 118 #[.pointer (some ⟨d, 0, none⟩)] w fun e w' => e = .returned (.bool S.on) ∧ w' = w := by
  have M : Hid (Calls Tryz.prog 44 #[.pointer (some ⟨d, 0, none⟩)] w fun e w' => e = .returned (.bool true) ∧ w' = w) := made_any d bm w h.c0
  have c2 := h.c2
  clear h
  go_enter Tryz.func118, Tryz.ntmps118
  go_wp2_with (go_at_call 44; refine M.out.mono ?_; rintro e w1 ⟨rfl, rfl⟩)
  go_ret
  exact ⟨rfl, rfl⟩
theorem ops_any (h : DiskAt w d bm S) : Calls Tryz.prog 15 #[.pointer (some ⟨d, 0, none⟩)] w fun e w' => e = .returned (.int .i64 (S.ops : Int)) ∧ w' = w := by
  have M : Hid (Calls Tryz.prog 44 #[.pointer (some ⟨d, 0, none⟩)] w fun e w' => e = .returned (.bool true) ∧ w' = w) := made_any d bm w h.c0
  have c3 := h.c3
  clear h
  go_enter Tryz.func15, Tryz.ntmps15
  go_wp2_with (go_at_call 44; refine M.out.mono ?_; rintro e w1 ⟨rfl, rfl⟩)
  go_ret
  exact ⟨rfl, rfl⟩
theorem nothing_any (w : World) : Calls Tryz.prog 57 #[] w fun e w' => e = .returned (.tuple #[]) ∧ w' = w := by
  go_enter Tryz.func57, Tryz.ntmps57
  go_wp2
  go_end0
  exact ⟨rfl, rfl⟩
end
end Go.Proofs.YtgkdodcidancpaaGreatDoor

/-
  CONTRACT: a key's bytes, by the program.
-/
import Derived.Test.YtniilnifhgdhcaaDoorKeyRow
import Derived.Test.YtniilnifhgdhcaaDoorKeyPrint
namespace Go.Proofs.YtniilnifhgdhcaaDoor
open Go.RowKit

/-- The bytes l in a row that is new since wa; all that was there is as it was. -/
structure Aw (wa : World) (w1 : World) (v : Value) (l : List UInt8) : Prop where
  own : w1.ownsRow wa.heap.size 5 1 v l.length (B8 l)
  bel : Below wa.heap.size wa w1
theorem aw_text {wa w1 : World} {v : Value} {l : List UInt8} (h : Aw wa w1 v l) (s : ByteArray) (hs : s.size ≤ 5000) (hn : l.length ≤ 1000000) :
    Calls Tryd.prog 40 #[v, .string s] w1 fun e w2 => ∃ v2, e = .returned v2 ∧ Aw wa w2 v2 (l ++ encT (nb s)) :=
  (addText_any wa.heap.size v l.length l s w1 h.own hs hn h.bel.size).mono fun e w2 ⟨v2, h1, h2, h3⟩ =>
    ⟨v2, h1, by rw [List.length_append]; exact h2, h.bel.trans (h3.below h.bel.size fun g hg => (h.own.lt g hg).1)⟩
theorem aw_row {wa w1 : World} {v : Value} {l : List UInt8} (h : Aw wa w1 v l) (r : Int) (hr : InI r) (hn : l.length ≤ 1000000) :
    Calls Tryd.prog 41 #[v, .int .i64 r] w1 fun e w2 => ∃ v2, e = .returned v2 ∧ Aw wa w2 v2 (l ++ encR r) :=
  (addRow_any wa.heap.size v l.length l r w1 hr h.own hn h.bel.size).mono fun e w2 ⟨v2, h1, h2, h3⟩ =>
    ⟨v2, h1, by rw [List.length_append, show (encR r).length = 8 from be_length _ _]; exact h2, h.bel.trans (h3.below h.bel.size fun g hg => (h.own.lt g hg).1)⟩
theorem Aw.cell {wa w1 : World} {v : Value} {l : List UInt8} (h : Aw wa w1 v l) {a : Addr} {u : Value} (hc : wa.cell? a = some u) : w1.cell? a = some u := by
  rw [h.bel.cell (World.block_lt_of_cell? _ _ hc), hc]
theorem Aw.start {wa w : World} (hB : Below w.heap.size w wa) {w1 : World} {v : Value} {l : List UInt8} (h : Aw wa w1 v l) : Aw w w1 v l :=
  ⟨⟨h.own.1, h.own.2.imp id fun ⟨g, cap, cur, a, b, c⟩ => ⟨g, cap, cur, a, Nat.le_trans hB.size b, c⟩⟩, hB.trans (h.bel.mono hB.size)⟩
theorem encT_le (s : ByteArray) (h : s.size ≤ 5000) : (encT (nb s)).length ≤ 10002 := by
  rw [encT_len]; have := esc_len (nb s); rw [nb_size] at this; omega

set_option maxRecDepth 100000 in
set_option maxHeartbeats 1000000 in
theorem bytes_any (k : Kb) (w : World) (hk : k.Ok) :
    Calls Tryd.prog 24 #[k.v] w fun e w' => ∃ v, e = .returned v ∧ Aw w w' v (encK k.ky) := by
  obtain ⟨t, p, r, c⟩ := k
  obtain ⟨ht, hp, hc, hr⟩ := hk
  simp only at ht hp hc hr
  have lt := encT_le t ht
  have lp := encT_le p hp
  have lr : (encR r).length = 8 := be_length _ _
  have ht' : (t.size : Int) ≤ 5000 := by omega
  have hp' : (p.size : Int) ≤ 5000 := by omega
  have hc' : (c.size : Int) ≤ 5000 := by omega
  have HK : Hid (encK (Kb.ky ⟨t, p, r, c⟩) = [] ++ encT (nb t) ++ encT (nb p) ++ encR r ++ encT (nb c)) := by
    show encT (nb t) ++ (encT (nb p) ++ (encR r ++ encT (nb c))) = _
    simp [List.append_assoc]
  obtain ⟨i0, hi, hz0, hz1, hz2⟩ := info_parts info8
  obtain ⟨wa, hwa⟩ : ∃ wa, wa = w.alloc (.cells #[.string t, .string p, .int .i64 r, .string c] 23) := ⟨_, rfl⟩
  have hB : Hid (Below w.heap.size w wa) := by show Below _ _ _; rw [hwa]; exact (Below.refl _ _).alloc (Nat.le_refl _) _
  have hS : Hid (∀ (w5 : World) (v5 : Value) (l : List UInt8), Aw wa w5 v5 l → Aw w w5 v5 l) := fun _ _ _ h => h.start hB.out
  clear hB
  have hg : wa.heap[w.heap.size]? = some (.cells #[.string t, .string p, .int .i64 r, .string c] 23) := by rw [hwa]; exact heap_alloc_new w _
  have a0 : wa.cell? ⟨w.heap.size, 0, none⟩ = some (.string t) := by simp [World.cell?, hg]
  have a1 : wa.cell? ⟨w.heap.size, 1, none⟩ = some (.string p) := by simp [World.cell?, hg]
  have a2 : wa.cell? ⟨w.heap.size, 2, none⟩ = some (.int .i64 r) := by simp [World.cell?, hg]
  have a3 : wa.cell? ⟨w.heap.size, 3, none⟩ = some (.string c) := by simp [World.cell?, hg]
  obtain ⟨w1, hmk, ho1, hg1⟩ := run_make_own (P := Tryd.prog) wa.drew wa.heap.size 32 5 i0 (.int .u8 0) 1 Tryd.underlying32 hi hz0 hz1 .i64 .i64 (t.size + p.size + c.size + 14) (by rw [hz2]; omega) (by unfold maxLen; omega) (Nat.le_refl _)
  have A1 : Aw wa w1 (.slice (some ⟨wa.heap.size, 0, none⟩) 0 (t.size + p.size + c.size + 14)) [] := ⟨ho1, (Below.refl _ _).drew.grown hg1 (Nat.le_refl _) (fun k hk => by cases hk)⟩
  have hcast : (((t.size + p.size + c.size + 14 : Nat)) : Int) = (t.size : Int) + (p.size : Int) + (c.size : Int) + 6 + 8 := by omega
  rw [hcast] at hmk
  have hmk' : Sem.run Tryd.prog (Instr.makeSlice 32 (.int .i64 0) (.int .i64 ((t.size : Int) + (p.size : Int) + (c.size : Int) + 6 + 8))) wa.drew = .ok (.slice (some ⟨wa.heap.size, 0, none⟩) 0 (t.size + p.size + c.size + 14)) w1 := hmk
  have T1 : Hid (Calls Tryd.prog 40 #[.slice (some ⟨wa.heap.size, 0, none⟩) 0 (t.size + p.size + c.size + 14), .string t] w1 fun e w2 => ∃ v2, e = .returned v2 ∧ Aw wa w2 v2 ([] ++ encT (nb t))) := aw_text A1 t ht (by simp)
  have c10 := A1.cell a0
  clear hg hcast hmk ho1 hg1 hi hz0 hz1 hz2
  simp only [Kb.v]
  go_enter Tryd.func24, Tryd.ntmps24
  go_wp2_with fail
  rw [← hwa]
  clear hwa
  generalize w.heap.size = g at *
  go_region_law (go_simp; go_at_call 40; refine T1.out.mono ?_; rintro x w2 ⟨v2, rfl, A2⟩)
  all_goals
    have T2 : Hid (Calls Tryd.prog 40 #[v2, .string p] w2 fun e w3 => ∃ v3, e = .returned v3 ∧ Aw wa w3 v3 ([] ++ encT (nb t) ++ encT (nb p))) := aw_text A2 p hp (by simp only [List.nil_append]; omega)
    have c21 := A2.cell a1
    go_wp2_with fail
    refine T2.out.mono ?_
    rintro x w3 ⟨v3, rfl, A3⟩
    have T3 : Hid (Calls Tryd.prog 41 #[v3, .int .i64 r] w3 fun e w4 => ∃ v4, e = .returned v4 ∧ Aw wa w4 v4 ([] ++ encT (nb t) ++ encT (nb p) ++ encR r)) := aw_row A3 r hr (by simp only [List.nil_append, List.length_append]; omega)
    have c32 := A3.cell a2
    go_wp2_with fail
    refine T3.out.mono ?_
    rintro x w4 ⟨v4, rfl, A4⟩
    have T4 : Hid (Calls Tryd.prog 40 #[v4, .string c] w4 fun e w5 => ∃ v5, e = .returned v5 ∧ Aw wa w5 v5 ([] ++ encT (nb t) ++ encT (nb p) ++ encR r ++ encT (nb c))) := aw_text A4 c hc (by simp only [List.nil_append, List.length_append]; omega)
    have c43 := A4.cell a3
    go_wp2_with fail
    refine T4.out.mono ?_
    rintro x w5 ⟨v5, rfl, A5⟩
    go_wp2_with fail
    go_ret
    exact ⟨v5, rfl, by rw [HK.out]; exact hS.out _ _ _ A5⟩
end Go.Proofs.YtniilnifhgdhcaaDoor

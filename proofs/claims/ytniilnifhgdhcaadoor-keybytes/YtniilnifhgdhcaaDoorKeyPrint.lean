/-
  CONTRACT: a key's text, by the program.
-/
import Derived.Test.YtniilnifhgdhcaaDoorKeyEnv
import Derived.Lib.ItoaLen
namespace Go.Proofs.YtniilnifhgdhcaaDoor
open Go.RowKit

theorem itoa_any (n : Int) (hn : InI n) (w : World) (he : Env w) :
    Calls Tryd.prog 29 #[.int .i64 n] w fun x w' => x = .returned (.string (strB (Lib.itoa n))) ∧ Below w.heap.size w w' :=
  (Tryd.strconv_Itoa n hn.1 hn.2 w he.tab).mono fun x w' ⟨h1, k, os, h2⟩ => ⟨h1, by
    rw [h2]
    exact ⟨rfl, rfl, rfl, by show w.heap.size ≤ (w.heap ++ os).size; simp, fun j hj => by show (w.heap ++ os)[j]? = _; rw [Array.getElem?_append_left hj]⟩⟩

/-- The texts that hang together. -/
def catP (a b c d : ByteArray) : ByteArray := a ++ ⟨#[47]⟩ ++ b ++ ⟨#[47]⟩ ++ c ++ ⟨#[47]⟩ ++ d
theorem nb_app (a b : ByteArray) : nb (a ++ b) = nb a ++ nb b := by
  show (a ++ b).data.toList = a.data.toList ++ b.data.toList
  rw [ByteArray.data_append, Array.toList_append]
theorem catP_eq (a b c d : List UInt8) : catP (strB a) (strB b) (strB c) (strB d) = strB (a ++ (47 :: (b ++ (47 :: (c ++ (47 :: d)))))) := by
  rw [← nb_inj]
  unfold catP
  simp only [nb_app, nb_strB]
  simp [nb]

theorem msk_size (s : ByteArray) (h : s.size ≤ 5000) : (strB (msk (nb s))).size ≤ 15000 := by
  have l1 : ∀ b, (m1 b).length ≤ 3 := fun b => by unfold m1; split; · decide
                                                  split; · decide
                                                  simp
  have l2 : ∀ l : List UInt8, (msk l).length ≤ 3 * l.length := by
    intro l
    induction l with
    | nil => simp [msk]
    | cons b l ih => rw [msk_cons, List.length_append, List.length_cons]; have := l1 b; omega
  rw [strB_size]; have := l2 (nb s); rw [nb_size] at this; omega
structure Kb.Ok (k : Kb) : Prop where
  t : k.t.size ≤ 5000
  p : k.p.size ≤ 5000
  c : k.c.size ≤ 5000
  r : InI k.r

set_option maxHeartbeats 1000000 in
theorem print_any (k : Kb) (w : World) (hk : k.Ok) (he : Env w) :
    Calls Tryd.prog 17 #[k.v] w fun x w' => x = .returned (.string (strB (prK k.ky))) ∧ Below w.heap.size w w' := by
  obtain ⟨t, p, r, c⟩ := k
  obtain ⟨ht, hp, hc, hr⟩ := hk
  simp only at ht hp hc hr
  have hres : Hid (catP (strB (msk (nb t))) (strB (msk (nb p))) (strB (Lib.itoa r)) (strB (msk (nb c))) = strB (prK (Kb.ky ⟨t, p, r, c⟩))) := catP_eq _ _ _ _
  obtain ⟨wa, hwa⟩ : ∃ wa, wa = w.alloc (.cells #[.string t, .string p, .int .i64 r, .string c] 23) := ⟨_, rfl⟩
  have hB : Below w.heap.size w wa := by rw [hwa]; exact (Below.refl _ _).alloc (Nat.le_refl _) _
  have hsz : wa.heap.size = w.heap.size + 1 := by rw [hwa]; simp
  have hg : wa.heap[w.heap.size]? = some (.cells #[.string t, .string p, .int .i64 r, .string c] 23) := by rw [hwa]; exact heap_alloc_new w _
  have k0 : ∀ q : Cl wa.heap.size wa, q.u.cell? ⟨w.heap.size, 0, none⟩ = some (.string t) := fun q => q.cell (by simp [hsz]) (by simp [World.cell?, hg])
  have k1 : ∀ q : Cl wa.heap.size wa, q.u.cell? ⟨w.heap.size, 1, none⟩ = some (.string p) := fun q => q.cell (by simp [hsz]) (by simp [World.cell?, hg])
  have k2 : ∀ q : Cl wa.heap.size wa, q.u.cell? ⟨w.heap.size, 2, none⟩ = some (.int .i64 r) := fun q => q.cell (by simp [hsz]) (by simp [World.cell?, hg])
  have k3 : ∀ q : Cl wa.heap.size wa, q.u.cell? ⟨w.heap.size, 3, none⟩ = some (.string c) := fun q => q.cell (by simp [hsz]) (by simp [World.cell?, hg])
  have E : ∀ q : Cl wa.heap.size wa, Env q.u := fun q => he.below ((hB.trans (q.h.mono (by omega))))
  obtain ⟨s1, e1⟩ : ∃ s, s = strB (msk (nb t)) := ⟨_, rfl⟩
  obtain ⟨s2, e2⟩ : ∃ s, s = strB (msk (nb p)) := ⟨_, rfl⟩
  obtain ⟨s3, e3⟩ : ∃ s, s = strB (Lib.itoa r) := ⟨_, rfl⟩
  obtain ⟨s4, e4⟩ : ∃ s, s = strB (msk (nb c)) := ⟨_, rfl⟩
  have z1 : s1.size ≤ 15000 := by rw [e1]; exact msk_size t ht
  have z2 : s2.size ≤ 15000 := by rw [e2]; exact msk_size p hp
  have z3 : s3.size ≤ 21 := by rw [e3, strB_size]; exact Lib.itoa_length_le r hr.1 hr.2
  have z4 : s4.size ≤ 15000 := by rw [e4]; exact msk_size c hc
  have P1 : Hid (∀ q : Cl wa.heap.size wa, Calls Tryd.prog 28 #[.string t] q.u fun e w'' => e = .returned (.string s1) ∧ ∃ q' : Cl wa.heap.size wa, w'' = q'.u) := fun q => e1 ▸ Cl.calls (Nat.le_refl _) (plain_any t q.u ht (E q))
  have P2 : Hid (∀ q : Cl wa.heap.size wa, Calls Tryd.prog 28 #[.string p] q.u fun e w'' => e = .returned (.string s2) ∧ ∃ q' : Cl wa.heap.size wa, w'' = q'.u) := fun q => e2 ▸ Cl.calls (Nat.le_refl _) (plain_any p q.u hp (E q))
  have P3 : Hid (∀ q : Cl wa.heap.size wa, Calls Tryd.prog 29 #[.int .i64 r] q.u fun e w'' => e = .returned (.string s3) ∧ ∃ q' : Cl wa.heap.size wa, w'' = q'.u) := fun q => e3 ▸ Cl.calls (Nat.le_refl _) (itoa_any r hr q.u (E q))
  have P4 : Hid (∀ q : Cl wa.heap.size wa, Calls Tryd.prog 28 #[.string c] q.u fun e w'' => e = .returned (.string s4) ∧ ∃ q' : Cl wa.heap.size wa, w'' = q'.u) := fun q => e4 ▸ Cl.calls (Nat.le_refl _) (plain_any c q.u hc (E q))
  rw [← e1, ← e2, ← e3, ← e4] at hres
  have y1 : ¬ (9223372036854775807 < s1.size + 1) := by omega
  have y2 : ¬ (9223372036854775807 < s1.size + 1 + s2.size) := by omega
  have y3 : ¬ (9223372036854775807 < s1.size + 1 + s2.size + 1) := by omega
  have y4 : ¬ (9223372036854775807 < s1.size + 1 + s2.size + 1 + s3.size) := by omega
  have y5 : ¬ (9223372036854775807 < s1.size + 1 + s2.size + 1 + s3.size + 1) := by omega
  have y6 : ¬ (9223372036854775807 < s1.size + 1 + s2.size + 1 + s3.size + 1 + s4.size) := by omega
  clear e1 e2 e3 e4 z1 z2 z3 z4 ht hp hc hr
  have hE : Hid (∀ q : Cl wa.heap.size wa, Below w.heap.size w q.u) := fun q => hB.trans (q.h.mono (by omega))
  clear E he hg hB hsz
  simp only [Kb.v]
  go_enter Tryd.func17, Tryd.ntmps17
  go_wp2_with fail
  rw [← hwa]
  clear hwa
  haveI := Cl.inh wa.heap.size wa
  refine wp_region_cl wa.heap.size (by kernel_rfl) (by kernel_rfl) ?_
  repeat (quiet_step (first | (go_at_call 29; exact P3.out _) | (go_at_call_of 28 (Value.string t); exact P1.out _) | (go_at_call_of 28 (Value.string p); exact P2.out _) | (go_at_call_of 28 (Value.string c); exact P4.out _)))
  refine wpQuiet_nil ?_
  rintro _ ⟨q, rfl⟩
  go_wp2_with fail
  go_ret
  exact ⟨ret_str hres.out, hE.out q⟩
end Go.Proofs.YtniilnifhgdhcaaDoor

/-
  THE DOCUMENT'S FILTER: Bytes.
-/
import Derived.Test.YtblblngcmgdnnaaBlmRef
import Derived.Test.YtblblngcmgdnnaaBlmBytes
import Derived.Test.YtblblngcmgdnnaaRefNum
import Derived.Test.YtblblngcmgdnnaaSteps
namespace Go.Proofs.Ytblblngcmgdnnaa
open Go.RowKit

attribute [local go_sem] Oper.pureAt Oper.pureUpon
theorem RAt.sees {w : World} {m : FM} {k : Nat} {l : List UInt8} (h : RAt w m k l) : Sees w (some ⟨m.g, 0, none⟩) l := by
  intro i hi
  refine ⟨_, rfl, ?_⟩
  rw [Addr.add_lit, Nat.zero_add]
  exact h.byte hi
set_option maxRecDepth 100000 in
set_option maxHeartbeats 1000000 in
theorem refBytes_any {w : World} {m : FM} {k : Nat} {l : List UInt8} (h : RAt w m k l) :
    Calls Try.prog 19 #[m.v] w fun e w' => ∃ v, e = .returned v ∧ w'.ownsRow w.heap.size 5 1 v (encF k l).length (B8 (encF k l)) ∧ Below w.heap.size w w' := by
  obtain ⟨i0, hi, hz0, hz1, hz2⟩ := info_parts info8
  have hlen := h.len
  have hk2 := h.k2
  have l1 := h.head.lt
  have hn1 : (numL k).length ≤ 10 := (numL_length k).2
  have hn2 : (numL l.length).length ≤ 10 := (numL_length l.length).2
  have P1 : Hid (∀ u, Below w.heap.size w u → Calls Try.prog 26 #[.slice none 0 0, .int .u64 (k : Int)] u fun e w' => ∃ v', e = .returned v' ∧ w'.ownsRow w.heap.size 5 1 v' (numL k).length (B8 (numL k)) ∧ Below w.heap.size w w') := fun u hu => by
    refine (refPut_any none [] 0 k u (Sees.nil _ _) (fun _ => rfl) (by simp) (by omega)).mono ?_
    rintro e w' ⟨v, rfl, ho, hb⟩
    refine ⟨v, rfl, ?_, hu.trans (hb.mono hu.size)⟩
    simp only [List.length_nil, Nat.zero_add, List.nil_append] at ho
    exact owns_mono ho hu.size
  have P2 : Hid (∀ u v, Below w.heap.size w u → u.ownsRow w.heap.size 5 1 v (numL k).length (B8 (numL k)) → Calls Try.prog 26 #[v, .int .u64 (l.length : Int)] u fun e w' => ∃ v', e = .returned v' ∧ w'.ownsRow w.heap.size 5 1 v' (numL k ++ numL l.length).length (B8 (numL k ++ numL l.length)) ∧ Below w.heap.size w w') := fun u v hu hv => by
    obtain ⟨ao, cap, rfl, hsee, hll, hnn⟩ := owns_sees hv
    refine (refPut_any ao (numL k) cap l.length u hsee (fun e => (hnn e).1 ▸ rfl) (by omega) (by omega)).mono ?_
    rintro e w' ⟨v, rfl, ho, hb⟩
    refine ⟨v, rfl, ?_, hu.trans (hb.mono hu.size)⟩
    rw [List.length_append]
    exact owns_mono ho hu.size
  have c0 : ∀ q : Cl w.heap.size w, q.u.cell? ⟨m.d, 0, none⟩ = some (.int .i64 (k : Int)) := fun q => q.cell l1 h.c0
  have c1 : ∀ q : Cl w.heap.size w, q.u.cell? ⟨m.d, 1, none⟩ = some (.slice (some ⟨m.g, 0, none⟩) l.length m.cap) := fun q => q.cell l1 h.c1
  have Wk : Hid (IntKind.u64.wrap (k : Int) = (k : Int)) := by show _ = _; rw [IntKind.wrap_u64]; omega
  have Wl : Hid (IntKind.u64.wrap (l.length : Int) = (l.length : Int)) := by show _ = _; rw [IntKind.wrap_u64]; omega
  have hl2 : (numL k ++ numL l.length).length ≤ 20 := by rw [List.length_append]; omega
  haveI := Cl.inh w.heap.size w
  go_enter Try.func19, Try.ntmps19
  go_wp2_with fail
  refine wp_region_sched (fun w' => ∃ p : Cl w.heap.size w, w' = p.u) [(0, true), (1, true), (2, true), (3, true), (4, true), (6, true), (7, true), (8, true), (9, true), (10, true), (11, true), (13, true), (14, true), (15, true), (16, true), (5, false), (12, false), (17, false), (18, true)] rfl (by kernel_rfl) (by kernel_rfl) (by kernel_rfl) ⟨⟨_, (Below.refl _ _).drew⟩, rfl⟩ ?_
  iterate 15 (refine sched_pure rfl (fun K hK => ?_); go_simp; refine hK _ ?_; clear hK K)
  rw [Wk.out, Wl.out]
  refine sched_loud rfl (fun K hK => ?_)
  go_simp
  refine (P1.out _ (Below.refl _ _).drew).mono ?_
  rintro e u1 ⟨v1, rfl, x1, y1⟩
  refine hK _ _ ⟨⟨u1, y1⟩, rfl⟩ ?_
  clear hK K
  refine sched_loud rfl (fun K hK => ?_)
  go_simp
  refine (P2.out _ _ y1 x1).mono ?_
  rintro e u2 ⟨v2, rfl, x2, y2⟩
  refine hK _ _ ⟨⟨u2, y2⟩, rfl⟩ ?_
  clear hK K
  have h2 := h.below y2 (Nat.le_refl _)
  refine sched_loud rfl (fun K hK => ?_)
  refine step_append_grew rfl (.tmp 15) (.tmp 19) 29 29 rfl w.heap.size 5 i0 (.int .u8 0) 1 1 Try.underlying29 hi hz0 hz1 hz2 rfl _ (numL k ++ numL l.length).length _ rfl x2 _ l.length (B8 l) rfl (src_sees Try.underlying29 h2.sees (fun e => by cases e) _) (by unfold maxLen; omega) (by omega) y2.size ?_
  intro v3 w3 ho3 hG3
  have y3 : Below w.heap.size w w3 := y2.trans (hG3.below y2.size (fun g hg => (x2.lt g hg).1))
  refine hK _ _ ⟨⟨w3, y3⟩, rfl⟩ ?_
  clear hK K
  refine sched_pure rfl (fun K hK => ?_)
  go_simp
  refine hK _ ?_
  clear hK K
  refine sched_nil ?_
  go_wp2_with fail
  go_ret
  refine ⟨_, rfl, ?_, y3⟩
  unfold encF
  rw [List.length_append, B8_append]
  exact ho3
end Go.Proofs.Ytblblngcmgdnnaa

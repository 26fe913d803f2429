/-
  CONTRACTS: a text's bytes onto a row of the call's own, by the program and by the document.
-/
import Derived.Test.YtniilnifhgdhcaaDoorKeyCmp
import Derived.Test.YtniilnifhgdhcaaDoorKeyName
namespace Go.Proofs.YtniilnifhgdhcaaDoor
open Go.RowKit

theorem info8 : (Tryd.prog.info? 5).map (fun i => (i.zero, i.size, i.bytes)) = some (some (.int .u8 0), 1, 1) := by kernel_rfl
/-- One byte, laid in a block of its own, as a source. -/
theorem src_one (w : World) (z : Int) (b : UInt8) (h : (b.toNat : Int) = z) :
    Src Tryd.prog 1 32 (.slice (some ⟨w.heap.size, 0, none⟩) 1 1) 1 (B8 [b]) (w.alloc (.cells #[.int .u8 z] 5)) := by
  refine Src.ofSlice _ Tryd.underlying32 _ 1 1 _ (by simp [B8_length]) ?_ (B8_one _)
  intro j u hu
  match j, hu with
  | 0, hu => simp [B8] at hu; subst hu; simp [Addr.add, h]
  | j + 1, hu => simp [B8] at hu
theorem sees_lit (w : World) (l : List UInt8) (pr : Nat × Nat) : Sees (w.alloc (.cells (B8 l).toArray 5 pr)) (some ⟨w.heap.size, 0, none⟩) l := by
  intro i hi
  refine ⟨_, rfl, ?_⟩
  have h : (w.alloc (.cells (B8 l).toArray 5 pr)).heap[w.heap.size]? = some (.cells (B8 l).toArray 5 pr) := heap_alloc_new w _
  have e := B8_at l i hi
  rw [Addr.add_lit, Nat.zero_add]
  simp only [World.cell?, h]
  simpa using e
theorem esc_len : ∀ l : List UInt8, (esc l).length ≤ 2 * l.length
  | [] => by simp [esc]
  | b :: l => by have := esc_len l; simp only [esc]; split <;> simp only [List.length_cons] <;> omega
theorem esc_succ (l : List UInt8) (k : Nat) (hk : k < l.length) : esc (l.take (k + 1)) = esc (l.take k) ++ (if l.getD k 0 = 0 then [0, 255] else [l.getD k 0]) := by
  have e : l.getD k 0 = l[k] := by simp [List.getD, hk]
  rw [List.take_succ_eq_append_getElem hk, esc_append, e]
  simp only [esc]
theorem encT_len (l : List UInt8) : (encT l).length = (esc l).length + 2 := by simp [encT]

set_option maxRecDepth 100000 in
set_option maxHeartbeats 1000000 in
theorem addText_any (base : Nat) (v : Value) (n : Nat) (xs : List UInt8) (s : ByteArray) (w : World) (hown : w.ownsRow base 5 1 v n (B8 xs)) (hs : s.size ≤ 5000) (hn : n ≤ 1000000) (hb : base ≤ w.heap.size) :
    Calls Tryd.prog 40 #[v, .string s] w fun e w' => ∃ v', e = .returned v' ∧ w'.ownsRow base 5 1 v' (n + (encT (nb s)).length) (B8 (xs ++ encT (nb s))) ∧ Grew w w' v v' := by
  obtain ⟨i0, hi, hz0, hz1, hz2⟩ := info_parts info8
  have hsz : (s.size : Int) ≤ 5000 := by omega
  have Hat : Hid _ := at_nb s
  have Hlen : Hid ((nb s).length = s.size) := nb_size s
  go_enter Tryd.func40, Tryd.ntmps40
  go_wp2_with fail
  go_loopw [0, 8] (fun s0 s1 wr => ∃ k : Nat, k ≤ s.size ∧ s1 = .int .i64 k ∧ wr.ownsRow base 5 1 s0 (n + (esc ((nb s).take k)).length) (B8 (xs ++ esc ((nb s).take k))) ∧ Grew w wr v s0 ∧ base ≤ wr.heap.size) (fun _ s1 _ => s.size - (intOf s1).toNat)
  case atStart => exact ⟨0, Nat.zero_le _, rfl, by simpa [esc] using hown, Grew.refl _ _, hb⟩
  case round =>
    obtain ⟨k, hk, rfl, ho, hg, hbr⟩ := hrel
    have hle : (esc ((nb s).take k)).length ≤ 10000 := by
      have := esc_len ((nb s).take k); rw [List.length_take, Hlen.out] at this; omega
    by_cases hlt : k < s.size
    · have Hsucc : Hid _ := esc_succ (nb s) k (by rw [Hlen.out]; exact hlt)
      rw [Hat.out k hlt] at Hsucc
      generalize hE : esc ((nb s).take k) = E at *
      by_cases h0 : s[k] = 0
      · have hx : ((s[k].toNat : Nat) : Int) = 0 := by rw [h0]; rfl
        have Hnew : Hid (esc ((nb s).take (k + 1)) = E ++ [0] ++ [255]) := by show _ = _; rw [Hsucc.out, if_pos h0, List.append_assoc]; rfl
        clear Hsucc h0 hE
        go_wp2_with (first
          | (at_builtin; have h9 := ho1; go_must (refine wpList_append_grew _ rfl _ _ 32 32 rfl base 5 i0 (.int .u8 0) 1 1 Tryd.underlying32 hi hz0 hz1 hz2 rfl _ _ _ rfl (ho1.alloc _) _ 1 (B8 [255]) rfl (src_one _ _ _ rfl) (by unfold maxLen; omega) (by omega) (by rw [World.size_alloc]; have h1 := hg1.rows.size; rw [World.size_alloc] at h1; omega) ?_; intro v2 w2 ho2 hg2))
          | (at_builtin; go_must (refine wpList_append_grew _ rfl _ _ 32 32 rfl base 5 i0 (.int .u8 0) 1 1 Tryd.underlying32 hi hz0 hz1 hz2 rfl _ _ _ rfl (ho.alloc _) _ 1 (B8 [0]) rfl (src_one _ _ _ rfl) (by unfold maxLen; omega) (by omega) (by rw [World.size_alloc]; omega) ?_; intro v1 w1 ho1 hg1)))
        go_roundw
        case rel =>
          refine ⟨k + 1, by omega, by go_num, ?_, (hg.trans hg1.alloc).trans hg2.alloc, ?_⟩
          · rw [Hnew.out, ← List.append_assoc, ← List.append_assoc, B8_append _ [255], B8_append _ [0], List.length_append, List.length_append, ← Nat.add_assoc, ← Nat.add_assoc]
            exact ho2
          · have h1 := hg1.rows.size; have h2 := hg2.rows.size; rw [World.size_alloc] at h1 h2; omega
        case measure => simp [intOf]; omega
      · obtain ⟨x, hx⟩ : ∃ x, ((s[k].toNat : Nat) : Int) = x := ⟨_, rfl⟩
        have hx0 : (x == 0) = false := by
          rw [beq_eq_false_iff_ne]; rintro rfl; apply h0; apply UInt8.toNat_inj.1; show s[k].toNat = 0; omega
        have Hnew : Hid (esc ((nb s).take (k + 1)) = E ++ [s[k]]) := by show _ = _; rw [Hsucc.out, if_neg h0]
        have Hsrc : Hid _ := fun wa : World => src_one wa x s[k] hx
        clear Hsucc h0 hE
        go_wp2_with (at_builtin; go_must (refine wpList_append_grew _ rfl _ _ 32 32 rfl base 5 i0 (.int .u8 0) 1 1 Tryd.underlying32 hi hz0 hz1 hz2 rfl _ _ _ rfl (ho.alloc _) _ 1 (B8 [s[k]]) rfl (Hsrc.out _) (by unfold maxLen; omega) (by omega) (by rw [World.size_alloc]; omega) ?_; intro v1 w1 ho1 hg1))
        go_roundw
        case rel =>
          refine ⟨k + 1, by omega, by go_num, ?_, hg.trans hg1.alloc, ?_⟩
          · rw [Hnew.out, ← List.append_assoc, B8_append _ [_], List.length_append, ← Nat.add_assoc]
            exact ho1
          · have h1 := hg1.rows.size; rw [World.size_alloc] at h1; omega
        case measure => simp [intOf]; omega
    · obtain rfl : k = s.size := by omega
      have e : (nb s).take s.size = nb s := by rw [← Hlen.out, List.take_length]
      rw [e] at ho hle
      clear e
      go_wp2_with (at_builtin; go_must (refine wpList_append_grew _ rfl _ _ 32 32 rfl base 5 i0 (.int .u8 0) 1 1 Tryd.underlying32 hi hz0 hz1 hz2 rfl _ _ _ rfl (ho.alloc _) _ 2 (B8 [0, 0]) rfl (src_sees Tryd.underlying32 (sees_lit _ [0, 0] (0, 0)) (fun h => by cases h) 2) (by unfold maxLen; omega) (by omega) (by rw [World.size_alloc]; omega) ?_; intro v1 w1 ho1 hg1))
      go_ret
      refine ⟨v1, rfl, ?_, hg.trans hg1.alloc⟩
      rw [encT, ← List.append_assoc, B8_append _ [0, 0], List.length_append, ← Nat.add_assoc]
      exact ho1
set_option maxRecDepth 100000 in
set_option maxHeartbeats 1000000 in
theorem refText_any (base : Nat) (v : Value) (n : Nat) (xs : List UInt8) (s : ByteArray) (w : World) (hown : w.ownsRow base 5 1 v n (B8 xs)) (hs : s.size ≤ 5000) (hn : n ≤ 1000000) (hb : base ≤ w.heap.size) :
    Calls Tryd.prog 42 #[v, .string s] w fun e w' => ∃ v', e = .returned v' ∧ w'.ownsRow base 5 1 v' (n + (encT (nb s)).length) (B8 (xs ++ encT (nb s))) ∧ Grew w w' v v' := by
  obtain ⟨i0, hi, hz0, hz1, hz2⟩ := info_parts info8
  have hsz : (s.size : Int) ≤ 5000 := by omega
  have Hat : Hid _ := at_nb s
  have Hlen : Hid ((nb s).length = s.size) := nb_size s
  go_enter Tryd.func42, Tryd.ntmps42
  go_wp2_with fail
  go_loopw [0, 5] (fun s0 s1 wr => ∃ k : Nat, k ≤ s.size ∧ s1 = .int .i64 k ∧ wr.ownsRow base 5 1 s0 (n + (esc ((nb s).take k)).length) (B8 (xs ++ esc ((nb s).take k))) ∧ Grew w wr v s0 ∧ base ≤ wr.heap.size) (fun _ s1 _ => s.size - (intOf s1).toNat)
  case atStart => exact ⟨0, Nat.zero_le _, rfl, by simpa [esc] using hown, Grew.refl _ _, hb⟩
  case round =>
    obtain ⟨k, hk, rfl, ho, hg, hbr⟩ := hrel
    have hle : (esc ((nb s).take k)).length ≤ 10000 := by
      have := esc_len ((nb s).take k); rw [List.length_take, Hlen.out] at this; omega
    by_cases hlt : k < s.size
    · have Hsucc : Hid _ := esc_succ (nb s) k (by rw [Hlen.out]; exact hlt)
      rw [Hat.out k hlt] at Hsucc
      generalize hE : esc ((nb s).take k) = E at *
      by_cases h0 : s[k] = 0
      · have hx : ((s[k].toNat : Nat) : Int) = 0 := by rw [h0]; rfl
        have Hnew : Hid (esc ((nb s).take (k + 1)) = E ++ [0] ++ [255]) := by show _ = _; rw [Hsucc.out, if_pos h0, List.append_assoc]; rfl
        clear Hsucc h0 hE
        go_wp2_with (first
          | (at_builtin; have h9 := ho1; go_must (refine wpList_append_grew _ rfl _ _ 32 32 rfl base 5 i0 (.int .u8 0) 1 1 Tryd.underlying32 hi hz0 hz1 hz2 rfl _ _ _ rfl (ho1.alloc _) _ 1 (B8 [255]) rfl (src_one _ _ _ rfl) (by unfold maxLen; omega) (by omega) (by rw [World.size_alloc]; have h1 := hg1.rows.size; rw [World.size_alloc] at h1; omega) ?_; intro v2 w2 ho2 hg2))
          | (at_builtin; go_must (refine wpList_append_grew _ rfl _ _ 32 32 rfl base 5 i0 (.int .u8 0) 1 1 Tryd.underlying32 hi hz0 hz1 hz2 rfl _ _ _ rfl (ho.alloc _) _ 1 (B8 [0]) rfl (src_one _ _ _ rfl) (by unfold maxLen; omega) (by omega) (by rw [World.size_alloc]; omega) ?_; intro v1 w1 ho1 hg1)))
        go_roundw
        case rel =>
          refine ⟨k + 1, by omega, by go_num, ?_, (hg.trans hg1.alloc).trans hg2.alloc, ?_⟩
          · rw [Hnew.out, ← List.append_assoc, ← List.append_assoc, B8_append _ [255], B8_append _ [0], List.length_append, List.length_append, ← Nat.add_assoc, ← Nat.add_assoc]
            exact ho2
          · have h1 := hg1.rows.size; have h2 := hg2.rows.size; rw [World.size_alloc] at h1 h2; omega
        case measure => simp [intOf]; omega
      · obtain ⟨x, hx⟩ : ∃ x, ((s[k].toNat : Nat) : Int) = x := ⟨_, rfl⟩
        have hx0 : (x == 0) = false := by
          rw [beq_eq_false_iff_ne]; rintro rfl; apply h0; apply UInt8.toNat_inj.1; show s[k].toNat = 0; omega
        have Hnew : Hid (esc ((nb s).take (k + 1)) = E ++ [s[k]]) := by show _ = _; rw [Hsucc.out, if_neg h0]
        have Hsrc : Hid _ := fun wa : World => src_one wa x s[k] hx
        clear Hsucc h0 hE
        go_wp2_with (at_builtin; go_must (refine wpList_append_grew _ rfl _ _ 32 32 rfl base 5 i0 (.int .u8 0) 1 1 Tryd.underlying32 hi hz0 hz1 hz2 rfl _ _ _ rfl (ho.alloc _) _ 1 (B8 [s[k]]) rfl (Hsrc.out _) (by unfold maxLen; omega) (by omega) (by rw [World.size_alloc]; omega) ?_; intro v1 w1 ho1 hg1))
        go_roundw
        case rel =>
          refine ⟨k + 1, by omega, by go_num, ?_, hg.trans hg1.alloc, ?_⟩
          · rw [Hnew.out, ← List.append_assoc, B8_append _ [_], List.length_append, ← Nat.add_assoc]
            exact ho1
          · have h1 := hg1.rows.size; rw [World.size_alloc] at h1; omega
        case measure => simp [intOf]; omega
    · obtain rfl : k = s.size := by omega
      have e : (nb s).take s.size = nb s := by rw [← Hlen.out, List.take_length]
      rw [e] at ho hle
      clear e
      go_wp2_with (at_builtin; go_must (refine wpList_append_grew _ rfl _ _ 32 32 rfl base 5 i0 (.int .u8 0) 1 1 Tryd.underlying32 hi hz0 hz1 hz2 rfl _ _ _ rfl (ho.alloc _) _ 2 (B8 [0, 0]) rfl (src_sees Tryd.underlying32 (sees_lit _ [0, 0] (0, 0)) (fun h => by cases h) 2) (by unfold maxLen; omega) (by omega) (by rw [World.size_alloc]; omega) ?_; intro v1 w1 ho1 hg1))
      go_ret
      refine ⟨v1, rfl, ?_, hg.trans hg1.alloc⟩
      rw [encT, ← List.append_assoc, B8_append _ [0, 0], List.length_append, ← Nat.add_assoc]
      exact ho1
end Go.Proofs.YtniilnifhgdhcaaDoor

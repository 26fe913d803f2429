/-
  CONTRACT: a key's bytes, by the document.
-/
import Derived.Test.YtniilnifhgdhcaaDoorKeyBytes
import Derived.Test.YtniilnifhgdhcaaDoorKeyAt
import Derived.Deep.CutRange
namespace Go.Proofs.YtniilnifhgdhcaaDoor
open Go.RowKit

theorem awr_text {wa w1 : World} {v : Value} {l : List UInt8} (h : Aw wa w1 v l) (s : ByteArray) (hs : s.size ≤ 5000) (hn : l.length ≤ 1000000) :
    Calls Tryd.prog 42 #[v, .string s] w1 fun e w2 => ∃ v2, e = .returned v2 ∧ Aw wa w2 v2 (l ++ encT (nb s)) :=
  (refText_any wa.heap.size v l.length l s w1 h.own hs hn h.bel.size).mono fun _ _ ⟨v2, h1, h2, h3⟩ =>
    ⟨v2, h1, by rw [List.length_append]; exact h2, h.bel.trans (h3.below h.bel.size fun g hg => (h.own.lt g hg).1)⟩
theorem aw_nil (w : World) : Aw w w (.slice none 0 0) [] := ⟨World.ownsRow_nil w _ _ _, Below.refl _ _⟩
theorem Aw.drew {wa w1 : World} {v : Value} {l : List UInt8} (h : Aw wa w1 v l) : Aw wa w1.drew v l := ⟨h.own, h.bel.drew⟩

set_option maxRecDepth 100000 in
set_option maxHeartbeats 2000000 in
theorem refBytes_any (k : Kb) (w : World) (hk : k.Ok) :
    Calls Tryd.prog 25 #[k.v] w fun e w' => ∃ v, e = .returned v ∧ Aw w w' v (encK k.ky) := by
  obtain ⟨t, p, r, c⟩ := k
  obtain ⟨ht, hp, hc, hr⟩ := hk
  simp only at ht hp hc hr
  have lt := encT_le t ht
  have lp := encT_le p hp
  have HK : Hid (encK (Kb.ky ⟨t, p, r, c⟩) = [] ++ encT (nb t) ++ encT (nb p) ++ encR r ++ encT (nb c)) := by
    show encT (nb t) ++ (encT (nb p) ++ (encR r ++ encT (nb c))) = _
    simp [List.append_assoc]
  obtain ⟨i0, hi, hz0, hz1, hz2⟩ := info_parts info8
  obtain ⟨wa, hwa⟩ : ∃ wa, wa = w.alloc (.cells #[.string t, .string p, .int .i64 r, .string c] 23) := ⟨_, rfl⟩
  have hB : Hid (Below w.heap.size w wa) := by show Below _ _ _; rw [hwa]; exact (Below.refl _ _).alloc (Nat.le_refl _) _
  have hS : Hid (∀ (w5 : World) (v5 : Value) (l : List UInt8), Aw wa w5 v5 l → Aw w w5 v5 l) := fun _ _ _ h => h.start hB.out
  clear hB
  have hg : wa.heap[w.heap.size]? = some (.cells #[.string t, .string p, .int .i64 r, .string c] 23) := by rw [hwa]; exact heap_alloc_new w _
  have a0 : wa.cell? ⟨w.heap.size, 0, none⟩ = some (.string t) := by simp [World.cell?, hg]
  have a1 : wa.cell? ⟨w.heap.size, 1, none⟩ = some (.string p) := by simp [World.cell?, hg]
  have a2 : wa.cell? ⟨w.heap.size, 2, none⟩ = some (.int .i64 r) := by simp [World.cell?, hg]
  have a3 : wa.cell? ⟨w.heap.size, 3, none⟩ = some (.string c) := by simp [World.cell?, hg]
  have T1 : Hid (Calls Tryd.prog 42 #[.slice none 0 0, .string t] wa.drew fun e w2 => ∃ v2, e = .returned v2 ∧ Aw wa w2 v2 ([] ++ encT (nb t))) := awr_text (aw_nil wa).drew t ht (by simp)
  have HC1 : Hid (∀ (w1 : World) (v : Value) (l : List UInt8), Aw wa w1 v l → w1.cell? ⟨w.heap.size, 1, none⟩ = some (.string p)) := fun _ _ _ h => h.cell a1
  have HC2 : Hid (∀ (w1 : World) (v : Value) (l : List UInt8), Aw wa w1 v l → w1.cell? ⟨w.heap.size, 2, none⟩ = some (.int .i64 r)) := fun _ _ _ h => h.cell a2
  have HC3 : Hid (∀ (w1 : World) (v : Value) (l : List UInt8), Aw wa w1 v l → w1.cell? ⟨w.heap.size, 3, none⟩ = some (.string c)) := fun _ _ _ h => h.cell a3
  have T2 : Hid (∀ (w1 : World) (v1 : Value), Aw wa w1 v1 ([] ++ encT (nb t)) → Calls Tryd.prog 42 #[v1, .string p] w1 fun e w2 => ∃ v2, e = .returned v2 ∧ Aw wa w2 v2 ([] ++ encT (nb t) ++ encT (nb p))) := fun w1 v1 h => awr_text h p hp (by simp only [List.nil_append]; omega)
  obtain ⟨u, hu⟩ : ∃ u, u = (r + 9223372036854775808).toNat := ⟨_, rfl⟩
  have hX := row_bits r hr
  rw [← hu] at hX
  have HR : Hid (encR r = be 8 u) := by show encR r = be 8 u; rw [hu]; rfl
  have hub : u < 18446744073709551616 := by unfold InI at hr; omega
  clear hg hu a2 a3
  simp only [Kb.v]
  go_enter Tryd.func25, Tryd.ntmps25
  go_wp2_with fail
  rw [← hwa]
  clear hwa
  go_cut [3] from 6 to 11 (fun s3 wx => Aw wa wx s3 ([] ++ encT (nb t) ++ encT (nb p)))
  case first =>
    go_region_law (first
      | (go_simp; go_at_call_of 42 (Value.slice none 0 0); refine T1.out.mono ?_; rintro e u1 ⟨v1, rfl, A1⟩; have z1 := HC1.out _ _ _ A1)
      | (go_simp; go_at_call 42; have A1' := A1; refine (T2.out _ _ A1').mono ?_; rintro e u2 ⟨v2, rfl, A2⟩))
    all_goals
      go_wp2_with fail
      go_meet
      case rel => exact A2
  case rest =>
    have A2 := hcut
    have z2 := HC2.out _ _ _ A2
    clear hcut a0 a1 T1 T2 HC1
    have HA2 : Hid (Aw wa wc _ ([] ++ encT (nb t) ++ encT (nb p))) := A2
    obtain ⟨pre, hpre⟩ : ∃ pre, pre = [] ++ encT (nb t) ++ encT (nb p) := ⟨_, rfl⟩
    rw [← hpre] at HA2 HK
    have hpl : pre.length ≤ 30000 := by rw [hpre]; simp only [List.nil_append, List.length_append]; omega
    clear A2 hpre lt lp
    go_wp2_with fail
    go_loopw [3, 5] (fun s3 s5 wr => ∃ k j : Nat, k + j = 8 ∧ s5 = .int .i64 ((j : Int) - 1) ∧ Aw wa wr s3 (pre ++ (encR r).take k)) (fun _ s5 _ => (intOf s5 + 1).toNat)
    case atStart => exact ⟨0, 8, rfl, rfl, by simpa using HA2.out⟩
    case round =>
      obtain ⟨k, j, hkj, rfl, hA⟩ := hrel
      have hlr : (encR r).length = 8 := be_length _ _
      have hl2 : (pre ++ (encR r).take k).length ≤ 40000 := by rw [List.length_append, List.length_take]; omega
      have HA : Hid (Aw wa wr _ (pre ++ (encR r).take k)) := hA
      clear hA hlr
      by_cases hj : j = 0
      · subst hj
        obtain rfl : k = 8 := by omega
        have z3 := HC3.out _ _ _ HA.out
        have e : (encR r).take 8 = encR r := List.take_of_length_le (by rw [HR.out, be_length]; exact Nat.le_refl _)
        rw [e] at HA hl2
        have T4 : Hid (Calls Tryd.prog 42 #[_, .string c] wr fun e w2 => ∃ v2, e = .returned v2 ∧ Aw wa w2 v2 (pre ++ encR r ++ encT (nb c))) := awr_text HA.out c hc (by omega)
        clear e HA2
        go_wp2_with fail
        refine T4.out.mono ?_
        rintro y w5 ⟨v5, rfl, A5⟩
        go_wp2_with fail
        go_ret
        exact ⟨v5, rfl, by rw [HK.out]; exact hS.out _ _ _ A5⟩
      · obtain ⟨m, rfl⟩ : ∃ m, j = m + 1 := ⟨j - 1, by omega⟩
        have hm7 : m ≤ 7 := by omega
        have hmi : (m : Int) ≤ 7 := by omega
        have hcast : (((m + 1 : Nat) : Int) - 1) = (m : Int) := by omega
        rw [hcast]
        obtain ⟨b, hbb⟩ : ∃ b : UInt8, b = UInt8.ofNat (u / 256 ^ m % 256) := ⟨_, rfl⟩
        have Hnew : Hid ((encR r).take (k + 1) = (encR r).take k ++ [b]) := by
          show _ = _
          have e7 : 8 - 1 - k = m := by omega
          rw [HR.out, be_succ u 8 k (by omega), hbb, e7]
        have Hsrc : Hid (∀ wz : World, Src Tryd.prog 1 32 (.slice (some ⟨wz.heap.size, 0, none⟩) 1 1) 1 (B8 [b]) (wz.alloc (.cells #[.int .u8 ((u : Int) / 2 ^ (8 * m) % 256)] 5))) := fun wz => src_one wz _ b (by
          rw [hbb, UInt8.toNat_ofNat_of_lt' (Nat.mod_lt _ (by decide)), Int.natCast_emod, Int.natCast_ediv]
          have : (256 : Nat) ^ m = 2 ^ (8 * m) := by rw [show (256 : Nat) = 2 ^ 8 from rfl, ← Nat.pow_mul]
          rw [this]; simp)
        have HKJ : Hid (k + 1 + m = 8) := by show k + 1 + m = 8; omega
        clear hbb hcast hkj HA2
        go_wp2_with (at_builtin; go_must (refine wpList_append_grew _ rfl _ _ 32 32 rfl wa.heap.size 5 i0 (.int .u8 0) 1 1 Tryd.underlying32 hi hz0 hz1 hz2 rfl _ _ _ rfl (HA.out.own.alloc _) _ 1 (B8 [b]) rfl (Hsrc.out _) (by unfold maxLen; omega) (by omega) (by rw [World.size_alloc]; have := HA.out.bel.size; omega) ?_; intro v9 w9 ho9 hg9))
        go_roundw
        case rel =>
          refine ⟨k + 1, m, HKJ.out, by go_num, ?_⟩
          have hv9 := fun g hg => (HA.out.own.lt g hg).1
          refine ⟨?_, HA.out.bel.trans (hg9.alloc.below HA.out.bel.size hv9)⟩
          have el : (pre ++ (encR r).take (k + 1)).length = (pre ++ (encR r).take k).length + 1 := by rw [Hnew.out, ← List.append_assoc, List.length_append]; rfl
          rw [el, Hnew.out, ← List.append_assoc, B8_append _ [b]]
          exact ho9
        case measure => simp only [intOf]; omega
end Go.Proofs.YtniilnifhgdhcaaDoor

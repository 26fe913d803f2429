/-
  THE LAW MurmurHalves: the walk.
-/
import Derived.Test.YtdmfbhaojcoodaaMurToken
namespace Go.Proofs.Ytdmfbhaojcoodaa.murmurHalves
open Go.RowKit

theorem info8 : (Try.prog.info? 5).map (fun i => (i.zero, i.size, i.bytes)) = some (some (.int .u8 0), 1, 1) := by kernel_rfl
/-- One byte, laid in a block of its own, as a source. -/
theorem src_one (w : World) (z : Int) (b : UInt8) (h : (b.toNat : Int) = z) :
    Src Try.prog 1 22 (.slice (some ⟨w.heap.size, 0, none⟩) 1 1) 1 (B8 [b]) (w.alloc (.cells #[.int .u8 z] 5)) := by
  refine Src.ofSlice _ Try.underlying22 _ 1 1 _ (by simp [B8_length]) ?_ (B8_one _)
  intro j u hu
  match j, hu with
  | 0, hu => simp [B8] at hu; subst hu; simp [Addr.add, h]
  | j + 1, hu => simp [B8] at hu
theorem own_one (w : World) : (w.alloc (.cells #[.int .u8 9] 5)).ownsRow w.heap.size 5 1 (.slice (some ⟨w.heap.size, 0, none⟩) 1 1) 1 (B8 [9]) :=
  Row.owns (l := [9]) (heap_alloc_new w _) (Nat.le_refl _) (by unfold maxLen; simp)
theorem conv_sees {w : World} {ao : Option Addr} {l : List UInt8} (h : Sees w ao l) (hn : ao = none → l.length = 0) (cap : Nat) :
    (convert 22 9 (.slice ao l.length cap)).run Try.prog w = .ok (.string ⟨l.toArray⟩) w := by
  cases ao with
  | none =>
    obtain rfl : l = [] := List.eq_nil_of_length_eq_zero (hn rfl)
    rw [run_convert_bytes_string w 22 9 5 none _ cap Try.underlying22 Try.underlying5 Try.underlying9]
    rfl
  | some a =>
    refine run_convert_bytes_back w 22 9 5 a cap l Try.underlying22 Try.underlying5 Try.underlying9 fun j hj => ?_
    obtain ⟨a', e, hc⟩ := h j hj
    obtain rfl := Option.some.inj e
    rw [hc]; simp [List.getD, hj]
/-- What a row of the call's own, of some bytes, looks like. -/
theorem owns_shape {w : World} {base n : Nat} {l : List UInt8} {v : Value} (h : w.ownsRow base 5 1 v n (B8 l)) (hn : 0 < n) :
    ∃ g cap, v = .slice (some ⟨g, 0, none⟩) n cap ∧ n ≤ cap ∧ base ≤ g ∧ g < w.heap.size ∧ l.length = n ∧ ∀ i, i < n → w.cell? ⟨g, i, none⟩ = some (.int .u8 ((l.getD i 0).toNat : Int)) := by
  have hl : l.length = n := by have := h.1; rwa [B8_length, Nat.mul_one] at this
  have h0 := h
  rcases h.2 with ⟨rfl, rfl⟩ | ⟨g, cap, cur, rfl, hg, hh, hnc, hm, hs, ht⟩
  · omega
  · refine ⟨g, cap, rfl, hnc, hg, (Array.getElem?_eq_some_iff.1 hh).1, hl, fun i hi => ?_⟩
    have := h0.cells (g := g) rfl _ _ (B8_at l i (by omega))
    rwa [Addr.add_lit, Nat.zero_add] at this
theorem mid_at (l : List UInt8) (i : Nat) (hi : i < l.length) : ([9] ++ l ++ [9] : List UInt8).getD (1 + i) 0 = l.getD i 0 := by
  rw [Nat.add_comm, List.append_assoc]
  show ((9 :: (l ++ [9]) : List UInt8)).getD (i + 1) 0 = _
  rw [List.getD_cons_succ]
  simp [List.getD, List.getElem?_append, hi]
theorem last_at (l : List UInt8) : ([9] ++ l ++ [9] : List UInt8).getD (1 + l.length) 0 = 9 := by
  rw [Nat.add_comm, List.append_assoc]
  show ((9 :: (l ++ [9]) : List UInt8)).getD (l.length + 1) 0 = _
  rw [List.getD_cons_succ]
  simp [List.getD]
theorem sum_len (ao : Option Addr) (l : List UInt8) (n cap : Nat) (h g : BitVec 64) (w : World) (hn : l.length = n) (hF : sumB l 0#64 = (h, g)) (hl : n ≤ 140737488354000) (hcap : n ≤ cap) (hs : Sees w ao l) :
    Calls Try.prog 9 #[.slice ao n cap, .int .u64 0] w fun e w' => e = .returned (.tuple #[.int .u64 (h.toNat : Int), .int .u64 (g.toNat : Int)]) ∧ Below w.heap.size w w' := by
  subst hn
  have := sum_any ao l cap 0#64 w hl hcap hs
  rw [hF] at this
  exact this

set_option maxRecDepth 100000 in
set_option maxHeartbeats 800000 in
theorem walk (ao : Option Addr) (l : List UInt8) (cap : Nat) (w : World) (hs : Sees w ao l) (hnone : ao = none → l.length = 0) (hl : l.length ≤ maxLen) (hc : l.length ≤ cap) :
    Calls Try.prog 6 #[.slice ao l.length cap] w fun e w' => e = .returned (.bool true) ∧ Below w.heap.size w w' := by
  have L : Hid (∀ w : World, Calls Try.prog 8 #[] w fun e w' => e = .returned (.bool true) ∧ Below w.heap.size w w') := lives_any
  unfold maxLen at hl
  rcases Nat.lt_or_ge 100000 l.length with hbig | hsmall
  · clear hnone
    go_enter Try.func6, Try.ntmps6
    go_wp2_with fail
    refine (L.out _).mono ?_
    rintro e w1 ⟨rfl, hB⟩
    go_wp2_with fail
    go_ret
    exact ⟨rfl, hB⟩
  · obtain ⟨i0, hi, hz0, hz1, hz2⟩ := info_parts info8
    have Hnone : Hid (ao = none → l.length = 0) := hnone
    have HS : Hid (Sees w ao l) := hs
    clear hnone hs
    go_enter Try.func6, Try.ntmps6
    go_wp2_with (first
      | (at_builtin; refine wpList_append_grew _ rfl (.tmp 12) (.tmp 13) 22 22 rfl w.heap.size 5 i0 (.int .u8 0) 1 1 Try.underlying22 hi hz0 hz1 hz2 rfl _ _ _ rfl (own_one w) _ l.length (B8 l) rfl (src_sees Try.underlying22 (HS.out.below ((Below.refl _ _).alloc (Nat.le_refl _) _) (Nat.le_refl _)) Hnone.out cap) (by unfold maxLen; omega) (by omega) (by rw [World.size_alloc]; omega) ?_; intro v2 w2 ho2 hg2)
      | (at_builtin; refine wpList_append_grew _ rfl (.tmp 14) (.tmp 15) 22 22 rfl w.heap.size 5 i0 (.int .u8 0) 1 1 Try.underlying22 hi hz0 hz1 hz2 rfl _ _ _ rfl (ho2.alloc _) _ 1 (B8 [9]) rfl (src_one _ _ _ rfl) (by unfold maxLen; omega) (by omega) (by have := hg2.rows.size; rw [World.size_alloc] at this ⊢; omega) ?_; intro v3 w3 ho3 hg3; obtain ⟨g, cap3, hv3, hc3, hg0, hg1, hl3, cell3⟩ := owns_shape (l := [9] ++ l ++ [9]) (by rw [B8_append, B8_append]; exact ho3) (by omega); have HC : Hid (∀ i, i < 1 + l.length + 1 → w3.cell? ⟨g, i, none⟩ = some (.int .u8 ((([9] ++ l ++ [9] : List UInt8).getD i 0).toNat : Int))) := cell3; clear cell3; rw [hv3]))
    have hsz2 := hg2.rows.size
    have hsz3 := hg3.rows.size
    rw [World.size_alloc] at hsz2 hsz3
    have hB3 : Below w.heap.size w w3 := (hg2.alloc.below (Nat.le_refl _) (fun k hk => by cases hk; exact Nat.le_refl _)).trans (hg3.alloc.below (by omega) (fun k hk => (ho2.lt k hk).1))
    have Sg : Sees w3 (some ⟨g, 1, none⟩) l := fun i hi => ⟨_, rfl, by
      rw [Addr.add_lit, HC.out (1 + i) (by omega)]
      rw [mid_at l i hi]⟩
    have HB3 : Hid (Below w.heap.size w w3) := hB3
    have C0 : Hid (w3.cell? ⟨g, 0, none⟩ = some (.int .u8 9)) := HC.out 0 (by omega)
    have C1 : Hid (w3.cell? ⟨g, 1 + l.length, none⟩ = some (.int .u8 9)) := by
      have := HC.out (1 + l.length) (by omega)
      rw [last_at l] at this
      exact this
    obtain ⟨h, q, hF⟩ : ∃ h q, sumB l 0#64 = (h, q) := ⟨_, _, rfl⟩
    have HF : Hid (sumB l 0#64 = (h, q)) := hF
    have HSg : Hid (Sees w3 (some ⟨g, 1, none⟩) l) := Sg
    have Htok : Hid (∀ w : World, Calls Try.prog 11 #[.string ⟨l.toArray⟩] w fun e w' => e = .returned (.int .i64 (wrap64 (h.toNat : Int))) ∧ Below w.heap.size w w') := fun w => by
      have e : tokenB ⟨l.toArray⟩ = wrap64 (h.toNat : Int) := by
        unfold tokenB
        rw [show (⟨l.toArray⟩ : ByteArray).data.toList = l from rfl, hF]
      have := token_any ⟨l.toArray⟩ w (by show l.toArray.size ≤ _; simp; omega)
      rw [e] at this
      exact this
    clear hF Sg hB3 HC hl3 hg2 hg3 ho2 ho3 hv3
    refine (sum_len (some ⟨g, 1, none⟩) l _ _ h q _ rfl HF.out (by omega) (by omega) HSg.out).mono ?_
    rintro e w4 ⟨rfl, hB4⟩
    have hz4 := hB4.size
    have HB4 : Hid (Below w.heap.size w w4) := HB3.out.trans (hB4.mono (by omega))
    have HD0 : Hid (w4.cell? ⟨g, 0, none⟩ = some (.int .u8 9)) := (hB4.cell (p := ⟨g, 0, none⟩) hg1).trans C0.out
    have HD1 : Hid (w4.cell? ⟨g, 1 + l.length, none⟩ = some (.int .u8 9)) := (hB4.cell (p := ⟨g, 1 + l.length, none⟩) hg1).trans C1.out
    clear hB4 C0 C1
    go_wp2_with fail
    refine (sum_len ao l _ _ h q _ rfl HF.out (by omega) hc (HS.out.below HB4.out (Nat.le_refl _))).mono ?_
    rintro e w5 ⟨rfl, hB5⟩
    have hz5 := hB5.size
    have HB5 : Hid (Below w.heap.size w w5) := HB4.out.trans (hB5.mono (by omega))
    have HE0 : Hid (w5.cell? ⟨g, 0, none⟩ = some (.int .u8 9)) := (hB5.cell (p := ⟨g, 0, none⟩) (by show g < _; omega)).trans HD0.out
    have HE1 : Hid (w5.cell? ⟨g, 1 + l.length, none⟩ = some (.int .u8 9)) := (hB5.cell (p := ⟨g, 1 + l.length, none⟩) (by show g < _; omega)).trans HD1.out
    have hcv := conv_sees (HS.out.below HB5.out (Nat.le_refl _)) Hnone.out cap
    clear hB5 HD0 HD1
    go_wp2_with fail
    refine (Htok.out _).mono ?_
    rintro e w6 ⟨rfl, hB6⟩
    have hz6 := hB6.size
    have HB6 : Hid (Below w.heap.size w w6) := HB5.out.trans (hB6.mono (by omega))
    have c0 : w6.cell? ⟨g, 0, none⟩ = some (.int .u8 9) := (hB6.cell (p := ⟨g, 0, none⟩) (by show g < _; omega)).trans HE0.out
    have c1 : w6.cell? ⟨g, 1 + l.length, none⟩ = some (.int .u8 9) := (hB6.cell (p := ⟨g, 1 + l.length, none⟩) (by show g < _; omega)).trans HE1.out
    clear hB6 HE0 HE1
    go_wp2_with fail
    refine (L.out _).mono ?_
    rintro e w7 ⟨rfl, hB7⟩
    go_wp2_with fail
    go_ret
    exact ⟨rfl, HB6.out.trans (hB7.mono (by omega))⟩
end Go.Proofs.Ytdmfbhaojcoodaa.murmurHalves

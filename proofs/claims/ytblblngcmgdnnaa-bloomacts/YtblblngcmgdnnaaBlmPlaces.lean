/-
  CONTRACT: Places.
-/
import Derived.Test.YtblblngcmgdnnaaBlmOps
import Derived.Test.YtblblngcmgdnnaaBlmIx
import Derived.Laws.OwnMore
namespace Go.Proofs.Ytblblngcmgdnnaa
open Go.RowKit

/-- Ints, as cells. -/
def P64 (l : List Nat) : List Value := l.map fun p : Nat => Value.int .i64 (p : Int)
theorem P64_length (l : List Nat) : (P64 l).length = l.length := List.length_map _
theorem P64_at (l : List Nat) (i : Nat) (h : i < l.length) : (P64 l)[i]? = some (.int .i64 ((l.getD i 0 : Nat) : Int)) := by simp [P64, h]
theorem info64 : (Try.prog.info? 3).map (fun i => (i.zero, i.size, i.bytes)) = some (some (.int .i64 0), 1, 8) := by kernel_rfl
theorem made64 (m : Nat) : (madeCells (Value.int .i64 0).cells (m * 1)).toList = P64 (List.replicate m 0) := by
  have h : (Value.int .i64 0).cells = #[.int .i64 0] := rfl
  rw [h, Nat.mul_one]
  apply List.ext_getElem
  · simp [madeCells, P64]
  · intro i h1 h2
    simp [madeCells, P64, Nat.mod_one]
theorem make_ints (n : Nat) (hn : n ≤ 1099511627776) (w : World) : ∃ w', (Instr.makeSlice 31 (.int .i64 (n : Int)) (.int .i64 (n : Int))).run Try.prog w = .ok (.slice (some ⟨w.heap.size, 0, none⟩) n n) w' ∧ Blk w' w.heap.size (P64 (List.replicate n 0)) 3 ∧ w.grownBy w' none := by
  obtain ⟨i0, hi, hz0, hz1, hz2⟩ := info_parts info64
  have := run_make_full (P := Try.prog) w w.heap.size 31 3 i0 (.int .i64 0) 1 Try.underlying31 hi hz0 hz1 .i64 .i64 n (by rw [hz2]; omega) (by unfold maxLen; omega) (Nat.le_refl _)
  rw [made64] at this
  obtain ⟨w', h1, h2, h3⟩ := this
  refine ⟨w', h1, ?_, h3⟩
  obtain ⟨hl, h2⟩ := h2
  rcases h2 with ⟨h2, _⟩ | ⟨g', cap, cur, hv, hg, hh, hn, hm, hs, ht⟩
  · cases h2
  · cases hv
    unfold Blk
    rw [hh, ← ht, List.take_of_length_le (by simp; omega)]
theorem places_none {w : World} {v : Value} (h : FNo w v) (ao : Option Addr) (n cap : Nat) : Calls Try.prog 11 #[v, .slice ao n cap] w fun e w' => e = .returned (.slice none 0 0) ∧ w' = w := by
  have M := made_none h
  go_enter Try.func11, Try.ntmps11
  go_wp2_with (go_at_call 21; refine M.mono ?_; rintro e w1 ⟨rfl, rfl⟩)
  go_ret
  exact ⟨rfl, rfl⟩
theorem row_step (hh : BitVec 64 × BitVec 64) (n k i : Nat) (hi : i < k) : (P64 (plcs hh n i ++ List.replicate (k - i) 0)).set i (.int .i64 (plc hh n i : Int)) = P64 (plcs hh n (i + 1) ++ List.replicate (k - (i + 1)) 0) := by
  have e : k - i = (k - (i + 1)) + 1 := by omega
  rw [e, List.replicate_succ, plcs_step]
  unfold P64
  rw [List.map_append, List.set_append_right _ _ (by simp [plcs_length]), List.length_map, plcs_length]
  simp
theorem row_cell (hh : BitVec 64 × BitVec 64) (n k i : Nat) (hi : i < k) : (P64 (plcs hh n i ++ List.replicate (k - i) 0))[i]? = some (.int .i64 0) := by
  unfold P64
  rw [List.map_append, List.getElem?_append_right (by simp [plcs_length]), List.length_map, plcs_length, Nat.sub_self]
  have : 0 < k - i := by omega
  simp [this]
set_option maxRecDepth 100000 in
set_option maxHeartbeats 1000000 in
theorem places_any {w : World} {m : FM} {k : Nat} {l : List UInt8} (h : FAt w m k l) (ao : Option Addr) (b : List UInt8) (cap : Nat) (hb : b.length ≤ 140737488354000) (hcap : b.length ≤ cap) (hs : Sees w ao b) :
    Calls Try.prog 11 #[m.v, .slice ao b.length cap] w fun e w' => ∃ g, e = .returned (.slice (some ⟨g, 0, none⟩) k k) ∧ Blk w' g (P64 (plcs (sumB b 0#64) l.length k)) 3 ∧ w.heap.size ≤ g ∧ Below w.heap.size w w' := by
  have M := made_any h
  have c0 := h.c0
  have hlen := h.len
  have hk2 := h.k2
  obtain ⟨wm, MK, hbm, hgm⟩ := make_ints k (by omega) w
  have hBm : Below w.heap.size w wm := ⟨hgm.os, hgm.tape, hgm.output, hgm.size, fun i hi => hgm.block i hi (by simp)⟩
  have hm := h.below hBm (Nat.le_refl _)
  have P := placer_any hm ao b cap hb hcap (hs.below hBm (Nat.le_refl _))
  have c0m := hm.c0
  have hgl := hbm.lt
  generalize sumB b 0#64 = hh at *
  go_enter Try.func11, Try.ntmps11
  go_wp2_with fail
  refine M.mono ?_
  rintro e w1 ⟨rfl, rfl⟩
  go_wp2_with fail
  refine P.mono ?_
  rintro e w2 ⟨v, rfl, ⟨pa, pb, pc, rfl, Ha, Hb, Hc, la, lb, lc⟩, hB⟩
  have h1 := hm.below hB (Nat.le_refl _)
  have c01 := h1.c0
  have hb2 : Blk w2 w1.heap.size (P64 (List.replicate k 0)) 3 := hbm.carry (hB.block _ hgl)
  clear M P
  go_wp2_with fail
  go_loopw [23] (fun s23 wr => ∃ i : Nat, i ≤ k ∧ s23 = .int .i64 (i : Int) ∧ Blk wr w1.heap.size (P64 (plcs hh l.length i ++ List.replicate (k - i) 0)) 3 ∧ w2.grownBy wr (some w1.heap.size)) (fun s23 _ => k - (intOf s23).toNat)
  case atStart => exact ⟨0, Nat.zero_le _, rfl, hb2, ⟨rfl, rfl, rfl, Nat.le_refl _, fun _ _ _ => rfl⟩⟩
  case round =>
    obtain ⟨i, hi, rfl, hR, hg⟩ := hrel
    rcases Nat.lt_or_ge i k with hlt | hge
    · have L := place_any (n := l.length) (Ha.grown hg (by omega)) (Hb.grown hg (by omega)) (Hc.grown hg (by omega)) h.pos h.len i (by omega)
      have hst := row_step hh l.length k i hlt
      have cb : wr.cell? ⟨w1.heap.size, i, none⟩ = some (.int .i64 0) := hR.cell i (row_cell hh l.length k i hlt)
      have fr := hR.frozen i
      generalize plc hh l.length i = p at *
      go_wp2_with fail
      refine L.mono ?_
      rintro e w3 ⟨rfl, rfl⟩
      clear L
      go_wp2_with fail
      have hg' := grownBy_setCell (i := i) (v := .int .i64 (p : Int)) hg
      refine ⟨⟨i + 1, by omega, by simp, ?_, hg'⟩, by simp only [intOf]; omega⟩
      exact hR.setTo i _ _ hst
    · obtain rfl : i = k := by omega
      go_wp2_with fail
      go_ret
      rw [Nat.sub_self, List.replicate_zero, List.append_nil] at hR
      have hs1 := hgm.size
      refine ⟨_, rfl, hR, Nat.le_refl _, ?_⟩
      refine ⟨hg.os.trans (hB.os.trans hBm.os), hg.tape.trans (hB.tape.trans hBm.tape), hg.output.trans (hB.output.trans hBm.output), Nat.le_trans hs1 (Nat.le_trans hB.size hg.size), fun j hj => ?_⟩
      exact (hg.block j (by have := hB.size; omega) (fun e => by cases e; omega)).trans ((hB.block j (by omega)).trans (hBm.block j hj))
end Go.Proofs.Ytblblngcmgdnnaa

/-
  CONTRACTS: Lend and Kept, each for every argument.
-/
import Derived.Test.YtdookhmaiapclaaGreatDoorRefGet
namespace Go.Proofs.YtdookhmaiapclaaGreatDoor
open Go.RowKit

/-- Memory that is lent out, the first k bytes laid. -/
def lentK (l : List UInt8) (k : Nat) : List UInt8 := (165 : UInt8) :: (l.take k ++ (List.replicate (l.length - k) 0 ++ [90]))
def lent (l : List UInt8) : List UInt8 := (165 : UInt8) :: (l ++ [90])
theorem lentK_length (l : List UInt8) (k : Nat) (h : k ≤ l.length) : (lentK l k).length = l.length + 2 := by simp [lentK]; omega
theorem take_snoc (l : List UInt8) (k : Nat) (h : k < l.length) : l.take (k + 1) = l.take k ++ [l.getD k 0] := by
  have e : l.getD k 0 = l[k] := by simp [List.getD, h]
  rw [e, ← List.take_succ_eq_append_getElem h]
theorem lentK_step (l : List UInt8) (k : Nat) (h : k < l.length) : (lentK l k).set (k + 1) (l.getD k 0) = lentK l (k + 1) := by
  unfold lentK
  have h1 : (l.take k).length = k := by simp; omega
  obtain ⟨m, hm⟩ : ∃ m, l.length - k = m + 1 := ⟨l.length - k - 1, by omega⟩
  have hm' : l.length - (k + 1) = m := by omega
  rw [List.set_cons_succ, List.set_append_right _ _ (by omega), h1, Nat.sub_self, hm, hm', List.replicate_succ, List.cons_append, List.set_cons_zero, take_snoc l k h, List.append_assoc]
  rfl
theorem lentK_start (l : List UInt8) : ((List.replicate (l.length + 2) (0 : UInt8)).set 0 165).set (l.length + 1) 90 = lentK l 0 := by
  unfold lentK
  rw [List.replicate_succ, List.set_cons_zero, List.set_cons_succ, List.replicate_succ', List.set_append_right _ _ (by simp)]
  simp
theorem lentK_end (l : List UInt8) : lentK l l.length = lent l := by simp [lentK, lent]

theorem lent_sees {w : World} {g : Nat} {l : List UInt8} (h : Row w g (lent l)) : Sees w (some ⟨g, 1, none⟩) l := by
  have hlen : (lent l).length = l.length + 2 := by simp [lent]
  have := h.sees 1 l.length (by omega)
  simpa [lent] using this

set_option maxRecDepth 100000 in
set_option maxHeartbeats 800000 in
theorem lend_any (ao : Option Addr) (l : List UInt8) (cap : Nat) (w : World) (hs : Sees w ao l) (hl : l.length ≤ 140737488350000) :
    Calls Tryz.prog 12 #[.slice ao l.length cap] w fun e w' => e = .returned (.tuple #[.slice (some ⟨w.heap.size, 0, none⟩) (l.length + 2) (l.length + 2), .slice (some ⟨w.heap.size, 1, none⟩) l.length (l.length + 1)]) ∧ Row w' w.heap.size (lent l) ∧ Below w.heap.size w w' := by
  obtain ⟨i0, hi, hz0, hz1, hz2⟩ := info_parts info8
  go_enter Tryz.func12, Tryz.ntmps12
  go_wp2_with (at_make; go_must (refine wpList_make_full _ rfl _ _ 29 rfl w.heap.size 5 i0 (.int .u8 0) 1 Tryz.underlying29 hi hz0 hz1 .i64 .i64 _ _ (l.length + 2) rfl rfl (by omega) (by omega) (by rw [hz2]; omega) (by unfold maxLen; omega) (Nat.le_refl _) ?_; intro w1 ho1 hg1; rw [made8] at ho1; obtain ⟨hr1, hl1, _⟩ := Row.of_owns ho1; have hc10 := hr1.cell 0 (by simp); have hf10 := hr1.frozen 0; have hc11 := hr1.cell (l.length + 1) (by simp); have hf11 := hr1.frozen (l.length + 1)))
  have hb1 : Below w.heap.size w w1 := (Below.refl _ _).grown hg1 (Nat.le_refl _) (fun k hk => by cases hk)
  have hr2 : Row ((w1.setCell ⟨w.heap.size, 0, none⟩ (.int .u8 165)).setCell ⟨w.heap.size, l.length + 1, none⟩ (.int .u8 90)) w.heap.size (lentK l 0) := by
    rw [← lentK_start]
    exact (hr1.setZ 0 165 165 rfl).setZ _ 90 90 rfl
  clear ho1 hg1 hr1 hl1 hc10 hf10 hc11 hf11
  go_loopw [20] (fun i wr => ∃ k : Nat, k ≤ l.length ∧ i = .int .i64 k ∧ Row wr w.heap.size (lentK l k) ∧ Below w.heap.size w wr) (fun i _ => l.length - (intOf i).toNat)
  case atStart => exact ⟨0, Nat.zero_le _, rfl, hr2, (hb1.setCell (Nat.le_refl _) _).setCell (Nat.le_refl _) _⟩
  case round =>
    obtain ⟨k, hk, rfl, hr, hb⟩ := hrel
    by_cases hlt : k < l.length
    · obtain ⟨b, off, rfl, hc0⟩ := sees_at hs hlt
      have hblt := World.block_lt_of_cell? _ _ hc0
      have hc : wr.cell? ⟨b, off + k, none⟩ = some (.int .u8 ((l.getD k 0).toNat : Int)) := by rw [hb.cell (p := ⟨b, off + k, none⟩) hblt]; exact hc0
      have hcr := hr.cell (k + 1) (by rw [lentK_length _ _ (by omega)]; omega)
      have hfr := hr.frozen (k + 1)
      have Hst : Hid _ := lentK_step l k hlt
      have hx := (l.getD k 0).toNat_lt
      generalize (l.getD k 0) = y at *
      clear hs hc0
      go_wp2
      go_roundw
      case rel => exact ⟨k + 1, by omega, by go_num, by rw [← Hst.out]; exact hr.setZ _ _ _ rfl, hb.setCell (Nat.le_refl _) _⟩
      case measure => simp [intOf]; omega
    · obtain rfl : k = l.length := by omega
      rw [lentK_end] at hr
      go_wp2
      go_quiet (fail)
      go_wp2
      go_ret2
      exact ⟨by simp, hr, hb.trans ⟨rfl, rfl, rfl, Nat.le_refl _, fun _ _ => rfl⟩⟩

set_option maxRecDepth 100000 in
set_option maxHeartbeats 800000 in
theorem kept_any (g c : Nat) (ao : Option Addr) (l : List UInt8) (cap : Nat) (w : World) (hs : Sees w ao l) (hn : ao = none → l.length = 0) (hl : l.length ≤ 140737488350000) (hr : Row w g (lent l)) (hc : l.length + 2 ≤ c) :
    Calls Tryz.prog 13 #[.slice (some ⟨g, 0, none⟩) (l.length + 2) c, .slice ao l.length cap] w fun e w' => e = .returned (.bool true) ∧ ∃ k, w' = w.drewN k := by
  have hlen : (lent l).length = l.length + 2 := by simp [lent]
  have c0 : w.cell? ⟨g, 0, none⟩ = some (.int .u8 165) := hr.cell 0 (by omega)
  have c1 : w.cell? ⟨g, l.length + 1, none⟩ = some (.int .u8 90) := by rw [hr.cell (l.length + 1) (by omega)]; simp [lent]
  have s1 := lent_sees hr
  have v1 := fun k : Nat => conv_sees (w := w.drewN k) s1 (fun h => by cases h) (c - 1)
  have v2 := fun k : Nat => conv_sees (w := w.drewN k) hs hn cap
  clear hs hn hr hlen s1
  go_enter Tryz.func13, Tryz.ntmps13
  go_wp2
  go_quiet (fail)
  go_wp2
  go_ret
  exact ⟨rfl, nq, rfl⟩

theorem Row.below {w w' : World} {g : Nat} {l : List UInt8} (h : Row w g l) {B : Nat} (hb : Below B w w') (hB : g < B) : Row w' g l := (hb.block g hB).trans h
/-- The codec's Get, whatever the bytes. -/
theorem codGet_any (ao : Option Addr) (l : List UInt8) (cap : Nat) (w : World) (u : TypeId) (pv : Value) (hs : Sees w ao l) (hl : l.length ≤ 140737488354000) (he : Err w u pv) :
    Calls Tryz.prog 80 #[.slice ao l.length cap] w fun e w' => e = .returned (.tuple #[.int .u64 (getV l), .int .i64 (getK l)]) ∧ Below w.heap.size w w' := by
  cases hg : getN 0 0 l with
  | none =>
    have h1 : getV l = 0 := by unfold getV; rw [hg]
    have h2 : getK l = 0 := by unfold getK; rw [hg]
    rw [h1, h2]
    exact get_no ao l cap w u pv hs (by omega) hg he
  | some vr =>
    obtain ⟨v, r⟩ := vr
    have h1 : getV l = v := by unfold getV; rw [hg]
    have h2 : getK l = l.length - r.length := by unfold getK; rw [hg]
    rw [h1, h2]
    exact get_ok ao l cap w v r hs (by omega) hg
end Go.Proofs.YtdookhmaiapclaaGreatDoor

/-
  CONTRACT: an operator (op).
-/
import Derived.Test.YtajebjkpmbehgaaGreatDoorLexBegin
namespace Go.Proofs.YtajebjkpmbehgaaGreatDoor
open Go.RowKit

def opsL : List (List UInt8) := [[62, 61], [61], [60], [40], [41], [44], [42]]
/-- The program's operators, as they lie. -/
def OpsV (w : World) : Prop := ∀ i, i < 7 → w.cell? ⟨1, i, none⟩ = some (.string (xB (opsL.getD i [])))
theorem OpsV.below {w w' : World} (h : OpsV w) (hb : Below w.heap.size w w') : OpsV w' := by
  intro i hi
  have hl : 1 < w.heap.size := World.block_lt_of_cell? _ _ (h 0 (by omega))
  exact (World.cell?_of_block (a := ⟨1, i, none⟩) (hb.block 1 hl)).trans (h i hi)
theorem beq_nat (x c : UInt8) : (x == c) = decide (c.toNat = x.toNat) := by
  by_cases h : c.toNat = x.toNat
  · rw [decide_eq_true h, UInt8.toNat_inj.1 h]; simp
  · rw [decide_eq_false h]
    exact beq_false_of_ne (fun e => h (by rw [e]))
theorem pre_op (L : List UInt8) : ∀ i, i < 7 → Lib.hasPrefix L (opsL.getD i []) = match i, L with
    | 0, b :: c :: _ => decide (b.toNat = 62) && decide (c.toNat = 61)
    | 0, _ => false
    | _, [] => false
    | 1, b :: _ => decide (b.toNat = 61)
    | 2, b :: _ => decide (b.toNat = 60)
    | 3, b :: _ => decide (b.toNat = 40)
    | 4, b :: _ => decide (b.toNat = 41)
    | 5, b :: _ => decide (b.toNat = 44)
    | _, b :: _ => decide (b.toNat = 42)
  | 0, _ => by
    match L with
    | [] => rfl
    | [b] => simp [opsL, Lib.hasPrefix, List.isPrefixOf]
    | b :: c :: r => simp [opsL, Lib.hasPrefix, List.isPrefixOf, beq_nat]
  | 1, _ => by cases L <;> simp [opsL, Lib.hasPrefix, List.isPrefixOf, beq_nat]
  | 2, _ => by cases L <;> simp [opsL, Lib.hasPrefix, List.isPrefixOf, beq_nat]
  | 3, _ => by cases L <;> simp [opsL, Lib.hasPrefix, List.isPrefixOf, beq_nat]
  | 4, _ => by cases L <;> simp [opsL, Lib.hasPrefix, List.isPrefixOf, beq_nat]
  | 5, _ => by cases L <;> simp [opsL, Lib.hasPrefix, List.isPrefixOf, beq_nat]
  | 6, _ => by cases L <;> simp [opsL, Lib.hasPrefix, List.isPrefixOf, beq_nat]
theorem op_hit (L : List UInt8) (i : Nat) (hi : i < 7) (h : Lib.hasPrefix L (opsL.getD i []) = true) : opT L = (some ⟨1, opsL.getD i [], 0, 0, [], 0, (opsL.getD i []).length⟩, 0) := by
  have hp := List.isPrefixOf_iff_prefix.1 h
  obtain ⟨t, rfl⟩ := hp
  have hl : opN (opsL.getD i [] ++ t) = (opsL.getD i []).length := by
    match i, hi with
    | 0, _ => rfl
    | 1, _ => rfl
    | 2, _ => rfl
    | 3, _ => rfl
    | 4, _ => rfl
    | 5, _ => rfl
    | 6, _ => rfl
  have h0 : (opsL.getD i []).length ≠ 0 := by
    match i, hi with
    | 0, _ => decide
    | 1, _ => decide
    | 2, _ => decide
    | 3, _ => decide
    | 4, _ => decide
    | 5, _ => decide
    | 6, _ => decide
  unfold opT
  rw [hl, if_neg h0, List.take_left]
theorem op_none (L : List UInt8) (h : ∀ j, j < 7 → Lib.hasPrefix L (opsL.getD j []) = false) : opT L = (none, 0) := by
  have h0 := h 0 (by omega)
  have h1 := h 1 (by omega)
  have h2 := h 2 (by omega)
  have h3 := h 3 (by omega)
  have h4 := h 4 (by omega)
  have h5 := h 5 (by omega)
  have h6 := h 6 (by omega)
  rw [pre_op L _ (by omega)] at h0 h1 h2 h3 h4 h5 h6
  have : opN L = 0 := by
    match L with
    | [] => rfl
    | [b] =>
      simp only [decide_eq_false_iff_not] at h1 h2 h3 h4 h5 h6
      simp [opN, h1, h2, h3, h4, h5, h6]
    | b :: c :: r =>
      simp only [decide_eq_false_iff_not, Bool.and_eq_false_iff] at h0 h1 h2 h3 h4 h5 h6
      simp only [opN, h1, h2, h3, h4, h5, h6, or_self, if_false]
      split
      · rcases h0 with h0 | h0
        · omega
        · rw [if_neg h0]
      · rfl
  unfold opT
  rw [if_pos this]
/-- The operators, as a value. -/
def opsA : Value := .agg #[.string ⟨#[62, 61]⟩, .string ⟨#[61]⟩, .string ⟨#[60]⟩, .string ⟨#[40]⟩, .string ⟨#[41]⟩, .string ⟨#[44]⟩, .string ⟨#[42]⟩]
theorem opsA_at (w : World) : ∀ i : Nat, i < 7 → (Instr.index 72 (.agg #[.string ⟨#[62, 61]⟩, .string ⟨#[61]⟩, .string ⟨#[60]⟩, .string ⟨#[40]⟩, .string ⟨#[41]⟩, .string ⟨#[44]⟩, .string ⟨#[42]⟩]) (.int .i64 (i : Int))).run Tryz.prog w = .ok (.string (xB (opsL.getD i []))) w
  | 0, _ => by kernel_rfl
  | 1, _ => by kernel_rfl
  | 2, _ => by kernel_rfl
  | 3, _ => by kernel_rfl
  | 4, _ => by kernel_rfl
  | 5, _ => by kernel_rfl
  | 6, _ => by kernel_rfl
/-- What a cut's own two blocks are, whatever was called. -/
structure Pr (w : World) (s : ByteArray) (p : Int) (w1 : World) : Prop where
  q0 : w1.cell? ⟨w.heap.size, 0, none⟩ = some (.string s)
  q1 : w1.cell? ⟨w.heap.size, 1, none⟩ = some (.int .i64 p)
  res : Blk w1 (w.heap.size + 1) [.int .i64 0, .string ⟨#[]⟩, .int .i64 0, .int .i64 0, .string ⟨#[]⟩, .int .i64 0, .int .i64 0] 25
  below : Below w.heap.size w w1
theorem pair_all (w : World) (s : ByteArray) (p : Int) (w1 : World) (hb : Below ((w.alloc (.cells #[.string s, .int .i64 p] 43)).alloc (.cells #[.int .i64 0, .string ⟨#[]⟩, .int .i64 0, .int .i64 0, .string ⟨#[]⟩, .int .i64 0, .int .i64 0] 25)).heap.size ((w.alloc (.cells #[.string s, .int .i64 p] 43)).alloc (.cells #[.int .i64 0, .string ⟨#[]⟩, .int .i64 0, .int .i64 0, .string ⟨#[]⟩, .int .i64 0, .int .i64 0] 25)) w1) : Pr w s p w1 := by
  have h2 : w.heap.size + 1 < ((w.alloc (.cells #[.string s, .int .i64 p] 43)).alloc (.cells #[.int .i64 0, .string ⟨#[]⟩, .int .i64 0, .int .i64 0, .string ⟨#[]⟩, .int .i64 0, .int .i64 0] 25)).heap.size := by simp
  have hN : Blk w1 w.heap.size [.string s, .int .i64 p] 43 := ((Blk.new w [.string s, .int .i64 p] 43).alloc _).carry (hb.block _ (by omega))
  refine ⟨hN.cell 0 rfl, hN.cell 1 rfl, Blk.carry (new_at _ _ (by simp)) (hb.block _ h2), ?_⟩
  have hB : Below w.heap.size w ((w.alloc (.cells #[.string s, .int .i64 p] 43)).alloc (.cells #[.int .i64 0, .string ⟨#[]⟩, .int .i64 0, .int .i64 0, .string ⟨#[]⟩, .int .i64 0, .int .i64 0] 25)) := ((Below.refl _ _).alloc (Nat.le_refl _) _).alloc (by simp) _
  exact hB.trans (hb.mono hB.size)
theorem Pr.to {w : World} {s : ByteArray} {p : Int} {w1 w2 : World} (h : Pr w s p w1) (hb : Below w1.heap.size w1 w2) : Pr w s p w2 := by
  have hlt := h.res.lt
  exact ⟨(hb.cell (p := ⟨w.heap.size, 0, none⟩) (by show w.heap.size < _; omega)).trans h.q0, (hb.cell (p := ⟨w.heap.size, 1, none⟩) (by show w.heap.size < _; omega)).trans h.q1, h.res.carry (hb.block _ hlt), h.below.trans (hb.mono (by omega))⟩
/-- The result's cells, all stored. -/
theorem Pr.fin {w : World} {s : ByteArray} {p : Int} {w1 : World} (h : Pr w s p w1) (v0 v1 v2 v3 v4 v5 v6 : Value) :
    (((((((w1.setCell ⟨w.heap.size + 1, 0, none⟩ v0).setCell ⟨w.heap.size + 1, 1, none⟩ v1).setCell ⟨w.heap.size + 1, 2, none⟩ v2).setCell ⟨w.heap.size + 1, 3, none⟩ v3).setCell ⟨w.heap.size + 1, 4, none⟩ v4).setCell ⟨w.heap.size + 1, 5, none⟩ v5).setCell ⟨w.heap.size + 1, 6, none⟩ v6).heap[w.heap.size + 1]? = some (.cells #[v0, v1, v2, v3, v4, v5, v6] 25 (0, 0)) ∧
    Below w.heap.size w (((((((w1.setCell ⟨w.heap.size + 1, 0, none⟩ v0).setCell ⟨w.heap.size + 1, 1, none⟩ v1).setCell ⟨w.heap.size + 1, 2, none⟩ v2).setCell ⟨w.heap.size + 1, 3, none⟩ v3).setCell ⟨w.heap.size + 1, 4, none⟩ v4).setCell ⟨w.heap.size + 1, 5, none⟩ v5).setCell ⟨w.heap.size + 1, 6, none⟩ v6) :=
  ⟨set7 h.res _ _ _ _ _ _ _, below7 h.below (Nat.le_succ _) _ _ _ _ _ _ _⟩
/-- The result's block before it is stored. -/
theorem Pr.fro {w : World} {s : ByteArray} {p : Int} {w1 : World} (h : Pr w s p w1) : (∀ i, w1.frozen? ⟨w.heap.size + 1, i, none⟩ = false) ∧
    w1.cell? ⟨w.heap.size + 1, 0, none⟩ = some (.int .i64 0) ∧ w1.cell? ⟨w.heap.size + 1, 1, none⟩ = some (.string ⟨#[]⟩) ∧ w1.cell? ⟨w.heap.size + 1, 2, none⟩ = some (.int .i64 0) ∧ w1.cell? ⟨w.heap.size + 1, 3, none⟩ = some (.int .i64 0) ∧ w1.cell? ⟨w.heap.size + 1, 4, none⟩ = some (.string ⟨#[]⟩) ∧ w1.cell? ⟨w.heap.size + 1, 5, none⟩ = some (.int .i64 0) ∧ w1.cell? ⟨w.heap.size + 1, 6, none⟩ = some (.int .i64 0) :=
  ⟨fun i => h.res.frozen i, h.res.cell 0 rfl, h.res.cell 1 rfl, h.res.cell 2 rfl, h.res.cell 3 rfl, h.res.cell 4 rfl, h.res.cell 5 rfl, h.res.cell 6 rfl⟩
theorem resT_no (m p : Nat) : resT (none, m) p = .tuple #[.agg #[.int .i64 0, .string ⟨#[]⟩, .int .i64 0, .int .i64 0, .string ⟨#[]⟩, .int .i64 0, .int .i64 0], .int .i64 ((m : Int) + (p : Int)), .int .i64 11] := by
  have : ((m + p : Nat) : Int) = (m : Int) + (p : Int) := by omega
  unfold resT
  simp only [this]
  rfl
theorem wrongT_any (p : Int) (w : World) : Calls Tryz.prog 39 #[.int .i64 p] w fun e w' => e = .returned (.tuple #[.agg #[.int .i64 0, .string ⟨#[]⟩, .int .i64 0, .int .i64 0, .string ⟨#[]⟩, .int .i64 0, .int .i64 0], .int .i64 p, .int .i64 11]) ∧ Below w.heap.size w w' := wrong_any p w
set_option maxRecDepth 100000 in
set_option maxHeartbeats 2000000 in
theorem op_any (s : ByteArray) (p : Nat) (w : World) (hp : p ≤ s.size) (hs : s.size ≤ 600) (hO : OpsV w) :
    Calls Tryz.prog 24 #[.agg #[.string s, .int .i64 (p : Int)]] w fun e w' => e = .returned (resT (opT (s.data.toList.drop p)) p) ∧ Below w.heap.size w w' := by
  have CR : Hid (∀ wr, Calls Tryz.prog 18 #[.agg #[.string s, .int .i64 (p : Int)]] wr fun e w' => e = .returned (.string (s.extract p s.size)) ∧ Below wr.heap.size wr w') := fun wr => rest_any s p wr hp
  have CP : Hid (∀ (t : List UInt8) wr, Calls Tryz.prog 17 #[.string (s.extract p s.size), .string (xB t)] wr fun e w' => e = .returned (.bool (Lib.hasPrefix (s.data.toList.drop p) t)) ∧ w' = wr) := fun t wr => by
    have := Tryz.strings_HasPrefix (s.extract p s.size) (xB t) wr
    rw [ext_end] at this
    exact this
  have CW : Hid _ := fun wr => wrongT_any (p : Int) wr
  have CU : Hid (∀ (t : List UInt8) wr, Calls Tryz.prog 40 #[.agg #[.string s, .int .i64 (p : Int)], .int .i64 ((p : Int) + ((xB t).size : Int)), .agg #[.int .i64 1, .string (xB t), .int .i64 0, .int .i64 0, .string ⟨#[]⟩, .int .i64 0, .int .i64 0]] wr fun e w' =>
      e = .returned (.tuple #[.agg #[.int .i64 1, .string (xB t), .int .i64 0, .int .i64 0, .string ⟨#[]⟩, .int .i64 (p : Int), .int .i64 ((p : Int) + ((xB t).size : Int))], .int .i64 0, .int .i64 0]) ∧ Below wr.heap.size wr w') := fun t wr => upTo_any s p ((p : Int) + ((xB t).size : Int)) 1 0 0 0 0 (xB t) ⟨#[]⟩ wr
  obtain ⟨W, hW⟩ : ∃ W, W = (w.alloc (.cells #[.string s, .int .i64 (p : Int)] 43)).alloc (.cells #[.int .i64 0, .string ⟨#[]⟩, .int .i64 0, .int .i64 0, .string ⟨#[]⟩, .int .i64 0, .int .i64 0] 25) := ⟨_, rfl⟩
  have HPr : Hid (∀ w1, Below W.heap.size W w1 → Pr w s p w1) := fun w1 hb => by rw [hW] at hb; exact pair_all w s p w1 hb
  have hOW : OpsV W := hO.below (by rw [hW]; exact ((Below.refl _ _).alloc (Nat.le_refl _) _).alloc (by simp) _)
  have o0 : W.cell? ⟨1, 0, none⟩ = some (.string ⟨#[62, 61]⟩) := hOW 0 (by omega)
  have o1 : W.cell? ⟨1, 1, none⟩ = some (.string ⟨#[61]⟩) := hOW 1 (by omega)
  have o2 : W.cell? ⟨1, 2, none⟩ = some (.string ⟨#[60]⟩) := hOW 2 (by omega)
  have o3 : W.cell? ⟨1, 3, none⟩ = some (.string ⟨#[40]⟩) := hOW 3 (by omega)
  have o4 : W.cell? ⟨1, 4, none⟩ = some (.string ⟨#[41]⟩) := hOW 4 (by omega)
  have o5 : W.cell? ⟨1, 5, none⟩ = some (.string ⟨#[44]⟩) := hOW 5 (by omega)
  have o6 : W.cell? ⟨1, 6, none⟩ = some (.string ⟨#[42]⟩) := hOW 6 (by omega)
  rw [hW] at o0 o1 o2 o3 o4 o5 o6
  have HH : Hid (∀ i : Nat, i < 7 → Lib.hasPrefix (s.data.toList.drop p) (opsL.getD i []) = true → resT (opT (s.data.toList.drop p)) p = .tuple #[.agg #[.int .i64 1, .string (xB (opsL.getD i [])), .int .i64 0, .int .i64 0, .string ⟨#[]⟩, .int .i64 (p : Int), .int .i64 ((p : Int) + ((xB (opsL.getD i [])).size : Int))], .int .i64 0, .int .i64 0]) := fun i hi h => by
    show resT _ _ = _
    rw [op_hit _ i hi h, resT_at]
    have : (((opsL.getD i []).length + p : Nat) : Int) = (p : Int) + ((opsL.getD i []).length : Int) := by omega
    rw [this]
    rfl
  have HN : Hid ((∀ j, j < 7 → Lib.hasPrefix (s.data.toList.drop p) (opsL.getD j []) = false) → resT (opT (s.data.toList.drop p)) p = .tuple #[.agg #[.int .i64 0, .string ⟨#[]⟩, .int .i64 0, .int .i64 0, .string ⟨#[]⟩, .int .i64 0, .int .i64 0], .int .i64 (p : Int), .int .i64 11]) := fun h => by
    show resT _ _ = _
    rw [op_none _ h, resT_no]
    simp
  have HI : Hid (∀ (w : World) (i : Nat), i < 7 → (Instr.index 72 (.agg #[.string ⟨#[62, 61]⟩, .string ⟨#[61]⟩, .string ⟨#[60]⟩, .string ⟨#[40]⟩, .string ⟨#[41]⟩, .string ⟨#[44]⟩, .string ⟨#[42]⟩]) (.int .i64 (i : Int))).run Tryz.prog w = .ok (.string (xB (opsL.getD i []))) w) := opsA_at
  have hol : ∀ i : Nat, (opsL.getD i []).length ≤ 2 := fun i => by
    match i with
    | 0 => decide
    | 1 => decide
    | 2 => decide
    | 3 => decide
    | 4 => decide
    | 5 => decide
    | 6 => decide
    | n + 7 => simp [opsL]
  have HOl : Hid (∀ i : Nat, (opsL.getD i []).length ≤ 2) := hol
  clear hOW hO hol
  have hp2 : p ≤ 600 := by omega
  obtain ⟨T, hT⟩ : ∃ T, opT (s.data.toList.drop p) = T := ⟨_, rfl⟩
  rw [hT] at HH HN ⊢
  clear hT
  obtain ⟨n, hn⟩ : ∃ n, w.heap.size = n := ⟨_, rfl⟩
  rw [hn]
  go_enter Tryz.func24, Tryz.ntmps24
  go_wp2_with fail
  rw [← hW]
  clear hW o0 o1 o2 o3 o4 o5 o6
  have h7 : Hid (∀ wr, Below W.heap.size W wr → Pr w s p wr) := HPr
  clear HPr
  go_loopw [8] (fun s8 wr => ∃ i : Nat, i ≤ 7 ∧ s8 = .int .i64 (i : Int) ∧ Below W.heap.size W wr ∧ ∀ j, j < i → Lib.hasPrefix (s.data.toList.drop p) (opsL.getD j []) = false) (fun s8 _ => 7 - (intOf s8).toNat)
  case atStart => exact ⟨0, by omega, rfl, Below.refl _ _, fun j hj => by omega⟩
  case round =>
    obtain ⟨i, hi, rfl, hb, hno⟩ := hrel
    have hpr := h7.out wr hb
    have HB : Hid (Below W.heap.size W wr) := hb
    have HNo : Hid (∀ j, j < i → Lib.hasPrefix (s.data.toList.drop p) (opsL.getD j []) = false) := hno
    have HP0 : Hid (Pr w s p wr) := hpr
    have q0 := hpr.q0
    have q1 := hpr.q1
    rw [hn] at q0 q1
    clear hb hno hpr
    by_cases h : i < 7
    · have hiz : (i : Int) < 7 := by omega
      have hix := fun w => HI.out w i h
      have hl := HOl.out i
      have hl2 : ((xB (opsL.getD i [])).size : Int) ≤ 2 := by show ((opsL.getD i []).length : Int) ≤ 2; omega
      by_cases hx : Lib.hasPrefix (s.data.toList.drop p) (opsL.getD i []) = true
      · have HR : Hid _ := HH.out i h hx
        have C2 : Hid (∀ wr, Calls Tryz.prog 17 #[.string (s.extract p s.size), .string (xB (opsL.getD i []))] wr fun e w' => e = .returned (.bool true) ∧ w' = wr) := fun wr => by have := CP.out (opsL.getD i []) wr; rw [hx] at this; exact this
        have C3 : Hid _ := CU.out (opsL.getD i [])
        have HF : Hid (∀ w1, Pr w s p w1 → ∀ v0 v1 v2 v3 v4 v5 v6 : Value, (((((((w1.setCell ⟨w.heap.size + 1, 0, none⟩ v0).setCell ⟨w.heap.size + 1, 1, none⟩ v1).setCell ⟨w.heap.size + 1, 2, none⟩ v2).setCell ⟨w.heap.size + 1, 3, none⟩ v3).setCell ⟨w.heap.size + 1, 4, none⟩ v4).setCell ⟨w.heap.size + 1, 5, none⟩ v5).setCell ⟨w.heap.size + 1, 6, none⟩ v6).heap[w.heap.size + 1]? = some (.cells #[v0, v1, v2, v3, v4, v5, v6] 25 (0, 0)) ∧
    Below w.heap.size w (((((((w1.setCell ⟨w.heap.size + 1, 0, none⟩ v0).setCell ⟨w.heap.size + 1, 1, none⟩ v1).setCell ⟨w.heap.size + 1, 2, none⟩ v2).setCell ⟨w.heap.size + 1, 3, none⟩ v3).setCell ⟨w.heap.size + 1, 4, none⟩ v4).setCell ⟨w.heap.size + 1, 5, none⟩ v5).setCell ⟨w.heap.size + 1, 6, none⟩ v6)) := fun w1 h => h.fin
        rw [hn] at HF
        clear HH HN HI HOl CP CU hx CW
        generalize opsL.getD i [] = t at *
        go_wp2_with (first | (go_at_call 18; with_reducible (refine (CR.out _).mono ?_); rintro e w1 ⟨rfl, hb⟩; have HP1 := HP0.out.to hb; have r0 := HP1.q0; have r1 := HP1.q1; rw [hn] at r0 r1; clear hb) | (go_at_call 17; with_reducible (refine (C2.out _).mono ?_); rintro e _ ⟨rfl, hw⟩; obtain rfl := hw.symm; clear hw) | (go_at_call 40; with_reducible (refine (C3.out _).mono ?_); rintro e w2 ⟨rfl, hb⟩; have HP2 := HP1.to hb; obtain ⟨fz, e0, e1, e2, e3, e4, e5, e6⟩ := HP2.fro; rw [hn] at fz e0 e1 e2 e3 e4 e5 e6; have f0 := fz 0; have f1 := fz 1; have f2 := fz 2; have f3 := fz 3; have f4 := fz 4; have f5 := fz 5; have f6 := fz 6; clear hb fz r0 r1))
        refine bodyPost_ret (v := .tuple #[.agg #[.int .i64 1, .string (xB t), .int .i64 0, .int .i64 0, .string ⟨#[]⟩, .int .i64 (p : Int), .int .i64 ((p : Int) + ((xB t).size : Int))], .int .i64 0, .int .i64 0]) (results_row_two Tryz.results24 _ _ (n + 1) 25 _ _ _ _ _ rfl rfl rfl (HF.out _ HP2 _ _ _ _ _ _ _).1 Tryz.underlying25 rfl (by kernel_rfl)) rfl ?_
        exact ⟨by rw [HR.out], (HF.out _ HP2 _ _ _ _ _ _ _).2⟩
      · have hx2 : Lib.hasPrefix (s.data.toList.drop p) (opsL.getD i []) = false := by simpa using hx
        have C2 : Hid (∀ wr, Calls Tryz.prog 17 #[.string (s.extract p s.size), .string (xB (opsL.getD i []))] wr fun e w' => e = .returned (.bool false) ∧ w' = wr) := fun wr => by have := CP.out (opsL.getD i []) wr; rw [hx2] at this; exact this
        have HNo2 : Hid (∀ j, j < i + 1 → Lib.hasPrefix (s.data.toList.drop p) (opsL.getD j []) = false) := fun j hj => by
          by_cases e : j = i
          · rw [e]; exact hx2
          · exact HNo.out j (by omega)
        clear HH HN HI HOl CP CU hx hx2 CW HNo
        generalize opsL.getD i [] = t at hix C2 hl hl2
        go_wp2_with (first | (go_at_call 18; with_reducible (refine (CR.out _).mono ?_); rintro e w1 ⟨rfl, hb⟩) | (go_at_call 17; with_reducible (refine (C2.out _).mono ?_); rintro e _ ⟨rfl, hw⟩; obtain rfl := hw.symm; clear hw))
        go_roundw
        case rel => exact ⟨i + 1, by omega, by go_num, HB.out.trans (hb.mono HB.out.size), HNo2.out⟩
        case measure => simp [intOf]; omega
    · obtain rfl : i = 7 := by omega
      have HR : Hid _ := HN.out HNo.out
      have HF : Hid (∀ w1, Pr w s p w1 → ∀ v0 v1 v2 v3 v4 v5 v6 : Value, (((((((w1.setCell ⟨w.heap.size + 1, 0, none⟩ v0).setCell ⟨w.heap.size + 1, 1, none⟩ v1).setCell ⟨w.heap.size + 1, 2, none⟩ v2).setCell ⟨w.heap.size + 1, 3, none⟩ v3).setCell ⟨w.heap.size + 1, 4, none⟩ v4).setCell ⟨w.heap.size + 1, 5, none⟩ v5).setCell ⟨w.heap.size + 1, 6, none⟩ v6).heap[w.heap.size + 1]? = some (.cells #[v0, v1, v2, v3, v4, v5, v6] 25 (0, 0)) ∧
    Below w.heap.size w (((((((w1.setCell ⟨w.heap.size + 1, 0, none⟩ v0).setCell ⟨w.heap.size + 1, 1, none⟩ v1).setCell ⟨w.heap.size + 1, 2, none⟩ v2).setCell ⟨w.heap.size + 1, 3, none⟩ v3).setCell ⟨w.heap.size + 1, 4, none⟩ v4).setCell ⟨w.heap.size + 1, 5, none⟩ v5).setCell ⟨w.heap.size + 1, 6, none⟩ v6)) := fun w1 h => h.fin
      rw [hn] at HF
      clear HH HN HI HOl CP CU
      go_wp2_with (go_at_call 39; with_reducible (refine (CW.out _).mono ?_); rintro e w2 ⟨rfl, hb⟩; have HP2 := HP0.out.to hb; obtain ⟨fz, e0, e1, e2, e3, e4, e5, e6⟩ := HP2.fro; rw [hn] at fz e0 e1 e2 e3 e4 e5 e6; have f0 := fz 0; have f1 := fz 1; have f2 := fz 2; have f3 := fz 3; have f4 := fz 4; have f5 := fz 5; have f6 := fz 6; clear hb fz)
      refine bodyPost_ret (v := .tuple #[.agg #[.int .i64 0, .string ⟨#[]⟩, .int .i64 0, .int .i64 0, .string ⟨#[]⟩, .int .i64 0, .int .i64 0], .int .i64 (p : Int), .int .i64 11]) (results_row_two Tryz.results24 _ _ (n + 1) 25 _ _ _ _ _ rfl rfl rfl (HF.out _ HP2 _ _ _ _ _ _ _).1 Tryz.underlying25 rfl (by kernel_rfl)) rfl ?_
      exact ⟨by rw [HR.out], (HF.out _ HP2 _ _ _ _ _ _ _).2⟩
end Go.Proofs.YtajebjkpmbehgaaGreatDoor

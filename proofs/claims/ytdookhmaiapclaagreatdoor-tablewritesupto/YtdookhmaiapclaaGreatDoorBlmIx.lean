/-
  A BYTE OF A ROW: its address.
-/
import Derived.Test.YtdookhmaiapclaaGreatDoorBlmMem
import Derived.Test.YtdookhmaiapclaaGreatDoorCodAdd
import Derived.StillTailTactics
namespace Go.Proofs.YtdookhmaiapclaaGreatDoor
open Go.RowKit

theorem elem_byte : Tryz.prog.elem 29 = 5 := by kernel_rfl
theorem index_byte (g n cap q : Nat) (h : q < n) (w : World) : (Instr.indexAt 29 (.slice (some ⟨g, 0, none⟩) n cap) (.int .i64 (q : Int))).run Tryz.prog w = .ok (.pointer (some ⟨g, q, none⟩)) w := by
  obtain ⟨i0, hi, hz0, hz1, hz2⟩ := info_parts info8
  rw [run_indexAt_slice (h := by rw [elem_byte]; exact Tryz.underlying29), if_pos ⟨by omega, by omega⟩, elem_byte]
  simp [sizeOf, typeInfo, hi, hz1, Addr.add_lit]
/-- An index in a region that draws its order. -/
theorem still_ix {P : Program} {ops : Array Oper} {w : World} {Q : Act → Prop} {a : Act} {o : Oper} {rest : List Oper} {t : TypeId} {s i : Operand} {sv iv v : Value} (hg : o.guard = none) (ho : o.op = .indexAddr t s i) (hs : a.eval s = sv) (hi : a.eval i = iv)
    (hr : (Instr.indexAt t sv iv).run P w = .ok v w) (h : wpStill P ops w Q rest (a.put o.dst v)) : wpStill P ops w Q (o :: rest) a := by
  refine wpStill_step (fun K hK => ?_)
  have hw : Region.wanted o (yielded ops a.tmps) = true := by simp [Region.wanted, hg]
  rw [if_pos hw]
  simp [Oper.still, Oper.stillUpon, execOp, ho, hs, hi, hr]
  exact hK _ h
/-- .. and in one that is walked in the text's order. -/
theorem wpList_ix {P : Program} {ops : Array Oper} {w : World} {Q : Exit → Act → World → Prop} {a : Act} {o : Oper} {rest : List Oper} {t : TypeId} {s i : Operand} {sv iv v : Value} (hg : o.guard = none) (ho : o.op = .indexAddr t s i) (hs : a.eval s = sv) (hi : a.eval i = iv)
    (hr : (Instr.indexAt t sv iv).run P w = .ok v w) (h : wpList P ops Q rest (a.put o.dst v) w) : wpList P ops Q (o :: rest) a w := by
  refine wpList_plain hg fun K hK => ?_
  simp [Oper.wp, Oper.upon, execOp, ho, hs, hi, hr]
  exact hK _ _ h
theorem run_shr (t : TypeId) (x : UInt8) (r : Nat) (hr : r < 8) (w : World) : (binOp .shr t (.int .u8 (x.toNat : Int)) (.int .u64 (r : Int))).run Tryz.prog w = .ok (.int .u8 ((x.toNat : Int) / 2 ^ r)) w := by
  have e : min r 8 = r := Nat.min_eq_left (by omega)
  go_simp
theorem run_shl (t : TypeId) (r : Nat) (hr : r < 8) (w : World) : (binOp .shl t (.int .u8 1) (.int .u64 (r : Int))).run Tryz.prog w = .ok (.int .u8 ((2 ^ r : Nat) : Int)) w := by
  obtain rfl | rfl | rfl | rfl | rfl | rfl | rfl | rfl : r = 0 ∨ r = 1 ∨ r = 2 ∨ r = 3 ∨ r = 4 ∨ r = 5 ∨ r = 6 ∨ r = 7 := by omega
  all_goals rfl
theorem wpList_bin {P : Program} {ops : Array Oper} {w : World} {Q : Exit → Act → World → Prop} {a : Act} {o : Oper} {rest : List Oper} {b : BinOp} {t t2 : TypeId} {x y : Operand} {xv yv v : Value} (hg : o.guard = none) (ho : o.op = .binOp b t x y t2) (hb : b = .shr ∨ b = .shl) (hx : a.eval x = xv) (hy : a.eval y = yv)
    (hr : (binOp b t xv yv).run P w = .ok v w) (h : wpList P ops Q rest (a.put o.dst v) w) : wpList P ops Q (o :: rest) a w := by
  refine wpList_plain hg fun K hK => ?_
  rcases hb with rfl | rfl
  · simp [Oper.wp, Oper.upon, execOp, ho, hx, hy, hr, eqGuard]
    exact hK _ _ h
  · simp [Oper.wp, Oper.upon, execOp, ho, hx, hy, hr, eqGuard]
    exact hK _ _ h
end Go.Proofs.YtdookhmaiapclaaGreatDoor

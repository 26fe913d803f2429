/-
  A BYTE OF A ROW: its address.
-/
import Derived.Test.YtblblngcmgdnnaaDoorBlmMem
import Derived.Test.YtblblngcmgdnnaaDoorCodAdd
import Derived.StillTailTactics
namespace Go.Proofs.YtblblngcmgdnnaaDoor
open Go.RowKit

theorem elem_byte : Tryd.prog.elem 22 = 5 := by kernel_rfl
theorem index_byte (g n cap q : Nat) (h : q < n) (w : World) : (Instr.indexAt 22 (.slice (some ⟨g, 0, none⟩) n cap) (.int .i64 (q : Int))).run Tryd.prog w = .ok (.pointer (some ⟨g, q, none⟩)) w := by
  obtain ⟨i0, hi, hz0, hz1, hz2⟩ := info_parts info8
  rw [run_indexAt_slice (h := by rw [elem_byte]; exact Tryd.underlying22), if_pos ⟨by omega, by omega⟩, elem_byte]
  simp [sizeOf, typeInfo, hi, hz1, Addr.add_lit]
/-- An index in a region that draws its order. -/
theorem still_ix {P : Program} {ops : Array Oper} {w : World} {Q : Act → Prop} {a : Act} {o : Oper} {rest : List Oper} {t : TypeId} {s i : Operand} {sv iv v : Value} (hg : o.guard = none) (ho : o.op = .indexAddr t s i) (hs : a.eval s = sv) (hi : a.eval i = iv)
    (hr : (Instr.indexAt t sv iv).run P w = .ok v w) (h : wpStill P ops w Q rest (a.put o.dst v)) : wpStill P ops w Q (o :: rest) a := by
  refine wpStill_step (fun K hK => ?_)
  have hw : Region.wanted o (yielded ops a.tmps) = true := by simp [Region.wanted, hg]
  rw [if_pos hw]
  simp [Oper.still, Oper.stillUpon, execOp, ho, hs, hi, hr]
  exact hK _ h
end Go.Proofs.YtblblngcmgdnnaaDoor

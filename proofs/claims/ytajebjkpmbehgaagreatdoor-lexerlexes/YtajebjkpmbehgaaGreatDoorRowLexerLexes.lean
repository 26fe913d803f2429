/-
  PROVED HERE: Lex of any text is what the document says: the same tokens, the same byte, the same error
-/
import Derived.Test.YtajebjkpmbehgaaGreatDoorLexerLexesWalk
import Derived.Test.YtajebjkpmbehgaaGreatDoorLexDoor
namespace Go.Proofs.YtajebjkpmbehgaaGreatDoor.lexerLexes
open Go.ChangeShapes Go.WideShapes Go.ChangeAt Go.RowKit
open Go.ChangeMaps (open_string shut_string)

/-- No parameter wants a stand-in; the program's own looks are off. -/
theorem plain (f : FuncId) (fn : Func) (hf : Tryz.pinned.checked.prog.funcNamed Rows.lexerLexesRow.func = some f) (hfn : Tryz.pinned.checked.prog.funcs[f]? = some fn) :
    true = Tryz.pinned.checked.prog.looks [] ∧ ∀ (j : Nat) t, fn.params[j]? = some t → Tryz.pinned.checked.prog.wantsStandIn t = false := by
  obtain rfl : f = 4 := Option.some.inj ((show Tryz.prog.funcNamed Rows.lexerLexesRow.func = some 4 by kernel_rfl).symm.trans hf) |>.symm
  obtain rfl : fn = Tryz.f4 := (Option.some.inj (Tryz.func4.symm.trans hfn)).symm
  refine ⟨by kernel_rfl, fun j t ht => ?_⟩
  rw [Tryz.params4] at ht
  obtain rfl : t = 9 := by simpa using Array.mem_of_getElem? ht
  exact (show Tryz.prog.wantsStandIn 9 = false by kernel_rfl)

end Go.Proofs.YtajebjkpmbehgaaGreatDoor.lexerLexes
namespace Go.Proofs.YtajebjkpmbehgaaGreatDoor
end Go.Proofs.YtajebjkpmbehgaaGreatDoor

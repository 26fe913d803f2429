/-
  CONTRACTS: the codec's reader reads a text, in every state.
-/
import Derived.Test.YthihljjefncfoaaDoorCodGot
import Derived.Test.YthihljjefncfoaaDoorTextPlain
namespace Go.Proofs.YthihljjefncfoaaDoor
open Go.RowKit

theorem conv_zero (w : World) (ao : Option Addr) (c : Nat) : (convert 25 9 (.slice ao 0 c)).run Tryd.prog w = .ok (.string ⟨#[]⟩) w := by
  have := conv_sees (w := w) (ao := ao) (l := []) (Sees.nil _ _) (fun _ => rfl) c
  exact this

theorem sees_cut {w : World} {b off : Nat} {l : List UInt8} (h : Sees w (some ⟨b, off, none⟩) l) (m v : Nat) (hv : m + v ≤ l.length) : Sees w (some ⟨b, off + m, none⟩) ((l.drop m).take v) := by
  intro i hi
  rw [List.length_take, List.length_drop] at hi
  obtain ⟨a, e, hc⟩ := h (m + i) (by omega)
  obtain rfl := Option.some.inj e
  refine ⟨_, rfl, ?_⟩
  rw [Addr.add_lit] at hc ⊢
  rw [Nat.add_assoc, hc]
  have : i < v := by omega
  simp [List.getD, this]

theorem err_grown {w w' : World} {u : TypeId} {pv : Value} {R : Nat} (he : Err w u pv) (hg : w.grownBy w' (some R)) (hER : R ≠ 1) : Err w' u pv := by
  unfold Err at he ⊢
  rw [World.cell?_of_block (hg.block _ (World.block_lt_of_cell? _ _ he) (fun e => hER (Option.some.inj e).symm)), he]

end Go.Proofs.YthihljjefncfoaaDoor

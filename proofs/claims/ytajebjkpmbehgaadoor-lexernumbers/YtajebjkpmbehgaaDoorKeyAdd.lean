/-
  CONTRACTS: a text's bytes onto a row of the call's own, by the program and by the document.
-/
import Derived.Test.YtajebjkpmbehgaaDoorKeyCmp
import Derived.Test.YtajebjkpmbehgaaDoorKeyName
namespace Go.Proofs.YtajebjkpmbehgaaDoor
open Go.RowKit

theorem info8K : (Tryd.prog.info? 5).map (fun i => (i.zero, i.size, i.bytes)) = some (some (.int .u8 0), 1, 1) := by kernel_rfl
/-- One byte, laid in a block of its own, as a source. -/
theorem src_oneK (w : World) (z : Int) (b : UInt8) (h : (b.toNat : Int) = z) :
    Src Tryd.prog 1 39 (.slice (some ⟨w.heap.size, 0, none⟩) 1 1) 1 (B8 [b]) (w.alloc (.cells #[.int .u8 z] 5)) := by
  refine Src.ofSlice _ Tryd.underlying39 _ 1 1 _ (by simp [B8_length]) ?_ (B8_one _)
  intro j u hu
  match j, hu with
  | 0, hu => simp [B8] at hu; subst hu; simp [Addr.add, h]
  | j + 1, hu => simp [B8] at hu
theorem sees_litK (w : World) (l : List UInt8) (pr : Nat × Nat) : Sees (w.alloc (.cells (B8 l).toArray 5 pr)) (some ⟨w.heap.size, 0, none⟩) l := by
  intro i hi
  refine ⟨_, rfl, ?_⟩
  have h : (w.alloc (.cells (B8 l).toArray 5 pr)).heap[w.heap.size]? = some (.cells (B8 l).toArray 5 pr) := heap_alloc_new w _
  have e := B8_at l i hi
  rw [Addr.add_lit, Nat.zero_add]
  simp only [World.cell?, h]
  simpa using e
theorem esc_len : ∀ l : List UInt8, (esc l).length ≤ 2 * l.length
  | [] => by simp [esc]
  | b :: l => by have := esc_len l; simp only [esc]; split <;> simp only [List.length_cons] <;> omega
theorem esc_succ (l : List UInt8) (k : Nat) (hk : k < l.length) : esc (l.take (k + 1)) = esc (l.take k) ++ (if l.getD k 0 = 0 then [0, 255] else [l.getD k 0]) := by
  have e : l.getD k 0 = l[k] := by simp [List.getD, hk]
  rw [List.take_succ_eq_append_getElem hk, esc_append, e]
  simp only [esc]
theorem encT_len (l : List UInt8) : (encT l).length = (esc l).length + 2 := by simp [encT]

end Go.Proofs.YtajebjkpmbehgaaDoor

/-
  PLAIN: texts as lists of bytes.
-/
import Derived.Test.YthihljjefncfoaaDoorOwn
namespace Go.Proofs.YthihljjefncfoaaDoor
open Go.RowKit

def tB (l : List UInt8) : ByteArray := ⟨l.toArray⟩
theorem tB_list (l : List UInt8) : (tB l).data.toList = l := by simp [tB]
theorem tB_size (l : List UInt8) : (tB l).size = l.length := by show l.toArray.size = _; simp
theorem tB_of (s : ByteArray) : tB s.data.toList = s := by cases s; simp [tB]
theorem tB_inj {a b : List UInt8} (h : tB a = tB b) : a = b := by rw [← tB_list a, h, tB_list]
theorem tB_app (a b : List UInt8) : tB a ++ tB b = tB (a ++ b) := by
  have h : ∀ x y : ByteArray, x.data.toList = y.data.toList → x = y := fun x y e => by rw [← tB_of x, ← tB_of y, e]
  apply h
  rw [ByteArray.data_append, Array.toList_append, tB_list, tB_list, tB_list]
theorem tB_max (l : List UInt8) (h : l.length ≤ 1000) : (tB l).size ≤ maxLen := by rw [tB_size]; unfold maxLen; omega
end Go.Proofs.YthihljjefncfoaaDoor

/-
  THE ENVIRONMENT: what the library's variables hold.
-/
import Derived.Test.YtcnceipkoapcpaaDoorKeyCmp
import Derived.Test.YtcnceipkoapcpaaDoorKeyText
import Derived.Test.YtcnceipkoapcpaaDoorRegCl
namespace Go.Proofs.YtcnceipkoapcpaaDoor
open Go.RowKit

/-- What a key that came in is like. -/
structure Kb.Fits (k : Kb) : Prop where
  r : InI k.r
  t : k.t.size ≤ 140737488351232
  p : k.p.size ≤ 140737488351232
  c : k.c.size ≤ 140737488351232
theorem gPow : Tryd.prog.globalNamed "internal/strconv.uint64pow10" = some 0 := by kernel_rfl
theorem countB_le (s : ByteArray) (c : ByteArray) : Lib.countB s c ≤ s.size + 1 := by
  have := Lib.count_le (nb s) (nb c)
  rw [nb_size] at this
  exact this
theorem strB_size (l : List UInt8) : (strB l).size = l.length := by show l.toArray.size = _; simp
theorem ret_str {a b : ByteArray} (h : a = b) : Ending.returned (.string a) = .returned (.string b) := by rw [h]

end Go.Proofs.YtcnceipkoapcpaaDoor

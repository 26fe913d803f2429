/-
  CONTRACT: a key's bytes, by the program.
-/
import Derived.Test.YtcnceipkoapcpaaDoorKeyRow
namespace Go.Proofs.YtcnceipkoapcpaaDoor
open Go.RowKit

/-- The bytes l in a row that is new since wa; all that was there is as it was. -/
structure Aw (wa : World) (w1 : World) (v : Value) (l : List UInt8) : Prop where
  own : w1.ownsRow wa.heap.size 5 1 v l.length (B8 l)
  bel : Below wa.heap.size wa w1
theorem Aw.cell {wa w1 : World} {v : Value} {l : List UInt8} (h : Aw wa w1 v l) {a : Addr} {u : Value} (hc : wa.cell? a = some u) : w1.cell? a = some u := by
  rw [h.bel.cell (World.block_lt_of_cell? _ _ hc), hc]
theorem Aw.start {wa w : World} (hB : Below w.heap.size w wa) {w1 : World} {v : Value} {l : List UInt8} (h : Aw wa w1 v l) : Aw w w1 v l :=
  ⟨⟨h.own.1, h.own.2.imp id fun ⟨g, cap, cur, a, b, c⟩ => ⟨g, cap, cur, a, Nat.le_trans hB.size b, c⟩⟩, hB.trans (h.bel.mono hB.size)⟩
theorem encT_le (s : ByteArray) (h : s.size ≤ 2000000) : (encT (nb s)).length ≤ 4000002 := by
  rw [encT_len]; have := esc_len (nb s); rw [nb_size] at this; omega

end Go.Proofs.YtcnceipkoapcpaaDoor

/-
  THE WALK: the token of any text from any byte on.
-/
import Derived.Test.YtajebjkpmbehgaaGreatDoorLxrLike
namespace Go.Proofs.YtajebjkpmbehgaaGreatDoor
open Go.RowKit

theorem nxV_form (x : Option Tk × Nat × Int) : ∃ (k vk vn b e m f : Int) (ts vs : ByteArray), nxV x = .tuple #[.agg #[.int .i64 k, .string ts, .int .i64 vk, .int .i64 vn, .string vs, .int .i64 b, .int .i64 e], .int .i64 m, .int .i64 f] := by
  obtain ⟨o, m, f⟩ := x
  cases o with
  | none => exact ⟨_, _, _, _, _, _, _, _, _, rfl⟩
  | some t => exact ⟨_, _, _, _, _, _, _, _, _, rfl⟩
namespace lexerNexts
set_option maxRecDepth 100000 in
set_option maxHeartbeats 4000000 in
theorem walk (s : ByteArray) (x : Int) (w : World) (_hs : s.size ≤ 140737488351232) (_hx : -9223372036854775808 ≤ x ∧ x ≤ 9223372036854775807) (he : EnvL w) :
    Calls Tryz.prog 3 #[.string s, .int .i64 x] w fun e w' => e = .returned (.bool true) ∧ Below w.heap.size w w' := by
  obtain ⟨k, vk, vn, b, e, m, f, ts, vs, hfo⟩ := nxV_form (nextT s.data.toList x)
  have L : Hid (∀ wr, Below w.heap.size w wr → Calls Tryz.prog 8 #[] wr fun e w' => e = .returned (.bool true) ∧ Below wr.heap.size wr w') := fun wr hb => lives18_any wr (he.below hb)
  have CA : Hid (Calls Tryz.prog 5 #[.string s, .int .i64 x] w fun y w' => y = .returned (.tuple #[.agg #[.int .i64 k, .string ts, .int .i64 vk, .int .i64 vn, .string vs, .int .i64 b, .int .i64 e], .int .i64 m, .int .i64 f]) ∧ Below w.heap.size w w') := by
    show Calls _ _ _ _ _
    rw [← hfo]
    exact nextL_any s x w he
  have CB : Hid (∀ wr, Calls Tryz.prog 6 #[.string s, .int .i64 x] wr fun y w' => y = .returned (.tuple #[.agg #[.int .i64 k, .string ts, .int .i64 vk, .int .i64 vn, .string vs, .int .i64 b, .int .i64 e], .int .i64 m, .int .i64 f]) ∧ Below wr.heap.size wr w') := by
    intro wr
    rw [← hfo]
    exact nextR_any s x wr
  have CL : Hid (∀ wr, _) := fun wr => like_same k vk vn b e ts vs wr
  have HX : Hid (∀ w1 w2 : World, Below w.heap.size w w1 → Below (w1.alloc (.cells #[.int .i64 k, .string ts, .int .i64 vk, .int .i64 vn, .string vs, .int .i64 b, .int .i64 e] 25)).heap.size (w1.alloc (.cells #[.int .i64 k, .string ts, .int .i64 vk, .int .i64 vn, .string vs, .int .i64 b, .int .i64 e] 25)) w2 →
      Blk w2 w1.heap.size [.int .i64 k, .string ts, .int .i64 vk, .int .i64 vn, .string vs, .int .i64 b, .int .i64 e] 25 ∧ Hid (∀ o w3, Below (w2.alloc o).heap.size (w2.alloc o) w3 → Hid (Below w.heap.size w w3))) := fun w1 w2 h1 h2 => by
    have hN : Blk (w1.alloc (.cells #[.int .i64 k, .string ts, .int .i64 vk, .int .i64 vn, .string vs, .int .i64 b, .int .i64 e] 25)) w1.heap.size [.int .i64 k, .string ts, .int .i64 vk, .int .i64 vn, .string vs, .int .i64 b, .int .i64 e] 25 := Blk.new w1 [.int .i64 k, .string ts, .int .i64 vk, .int .i64 vn, .string vs, .int .i64 b, .int .i64 e] _
    have hB1 := h1.alloc (o := .cells #[.int .i64 k, .string ts, .int .i64 vk, .int .i64 vn, .string vs, .int .i64 b, .int .i64 e] 25) h1.size
    have hB2 := hB1.trans (h2.mono hB1.size)
    exact ⟨hN.carry (h2.block _ hN.lt), fun o w3 h3 => (hB2.alloc hB2.size _).trans (h3.mono (hB2.alloc hB2.size _).size)⟩
  clear he hfo _hs _hx
  go_enter Tryz.func3, Tryz.ntmps3
  go_wp2_with (first | (go_at_call 5; with_reducible (refine CA.out.mono ?_); rintro y w1 ⟨rfl, hb1⟩) | (go_at_call 6; with_reducible (refine (CB.out _).mono ?_); rintro y w2 ⟨rfl, hb2⟩; obtain ⟨R, HB2⟩ := HX.out w1 w2 hb1 hb2; have hz := R.lt; have d0 := R.cell 0 rfl; have d1 := R.cell 1 rfl; have d2 := R.cell 2 rfl; have d3 := R.cell 3 rfl; have d4 := R.cell 4 rfl; have d5 := R.cell 5 rfl; have d6 := R.cell 6 rfl; clear R hb2) | (go_at_call 7; with_reducible (refine (CL.out _).mono ?_); rintro y w3 ⟨rfl, hb3⟩; have HB3 := HB2.out _ _ hb3; clear hb3) | (go_at_call 8; with_reducible (refine (L.out _ HB3.out).mono ?_); rintro y w4 ⟨rfl, hb4⟩))
  go_ret
  exact ⟨rfl, HB3.out.trans (hb4.mono HB3.out.size)⟩
end lexerNexts
end Go.Proofs.YtajebjkpmbehgaaGreatDoor

/-
  A FILTER IN MEMORY: made, Size, the closure that tells places.
-/
import Derived.Test.YtdookhmaiapclaaGreatDoorBlk
import Derived.Test.YtdookhmaiapclaaGreatDoorMurHalf
import Derived.Test.YtdookhmaiapclaaGreatDoorBlmPlain
namespace Go.Proofs.YtdookhmaiapclaaGreatDoor
open Go.RowKit

/-- Where a filter lies: its head, its bits, how many there is room for, and what stands behind them. -/
structure FM where
  d : Nat
  g : Nat
  cap : Nat
  rest : List Value
structure FAt (w : World) (m : FM) (k : Nat) (l : List UInt8) : Prop where
  head : Blk w m.d [.int .i64 (k : Int), .slice (some ⟨m.g, 0, none⟩) l.length m.cap] 122
  bits : Blk w m.g (B8 l ++ m.rest) 5
  ne : m.d ≠ m.g
  pos : 0 < l.length
  len : l.length ≤ 400000
  k1 : 1 ≤ k
  k2 : k ≤ 16
abbrev FM.v (m : FM) : Value := .pointer (some ⟨m.d, 0, none⟩)
theorem FAt.carry {w w' : World} {m : FM} {k : Nat} {l : List UInt8} (h : FAt w m k l) (hd : w'.heap[m.d]? = w.heap[m.d]?) (hg : w'.heap[m.g]? = w.heap[m.g]?) : FAt w' m k l :=
  ⟨h.head.carry hd, h.bits.carry hg, h.ne, h.pos, h.len, h.k1, h.k2⟩
theorem FAt.below {w w' : World} {m : FM} {k : Nat} {l : List UInt8} (h : FAt w m k l) {B : Nat} (hB : Below B w w') (hs : w.heap.size ≤ B) : FAt w' m k l := by
  have h1 := h.head.lt
  have h2 := h.bits.lt
  exact h.carry (hB.block _ (by omega)) (hB.block _ (by omega))
theorem FAt.c0 {w : World} {m : FM} {k : Nat} {l : List UInt8} (h : FAt w m k l) : w.cell? ⟨m.d, 0, none⟩ = some (.int .i64 (k : Int)) := h.head.cell 0 rfl
theorem FAt.c1 {w : World} {m : FM} {k : Nat} {l : List UInt8} (h : FAt w m k l) : w.cell? ⟨m.d, 1, none⟩ = some (.slice (some ⟨m.g, 0, none⟩) l.length m.cap) := h.head.cell 1 rfl
theorem FAt.byte {w : World} {m : FM} {k : Nat} {l : List UInt8} (h : FAt w m k l) {i : Nat} (hi : i < l.length) : w.cell? ⟨m.g, i, none⟩ = some (.int .u8 ((l.getD i 0).toNat : Int)) :=
  h.bits.cell i (by rw [List.getElem?_append_left (by rw [B8_length]; exact hi)]; exact B8_at l i hi)
theorem FAt.set {w : World} {m : FM} {k : Nat} {l : List UInt8} (h : FAt w m k l) {i : Nat} (hi : i < l.length) (b : UInt8) : FAt (w.setCell ⟨m.g, i, none⟩ (.int .u8 (b.toNat : Int))) m k (l.set i b) := by
  have e : (B8 l ++ m.rest).set i (.int .u8 (b.toNat : Int)) = B8 (l.set i b) ++ m.rest := by
    rw [List.set_append_left _ _ (by rw [B8_length]; exact hi)]
    simp [B8, List.map_set]
  refine ⟨?_, h.bits.setTo i _ _ e, h.ne, by rw [List.length_set]; exact h.pos, by rw [List.length_set]; exact h.len, h.k1, h.k2⟩
  rw [List.length_set]
  exact h.head.carry (Below.heap_setCell _ _ _ _ (fun e => h.ne e))
/-- No call made it. -/
def FNo (w : World) (v : Value) : Prop := v = .pointer none ∨ ∃ d, v = .pointer (some ⟨d, 0, none⟩) ∧ w.cell? ⟨d, 1, none⟩ = some (.slice none 0 0)

theorem made_any {w : World} {m : FM} {k : Nat} {l : List UInt8} (h : FAt w m k l) : Calls Tryz.prog 74 #[m.v] w fun e w' => e = .returned (.bool true) ∧ w' = w := by
  have c1 := h.c1
  have hp := h.pos
  go_enter Tryz.func74, Tryz.ntmps74
  go_wp2
  go_ret
  refine ⟨?_, rfl⟩
  refine ret_bool ?_
  simp
theorem made_none {w : World} {v : Value} (h : FNo w v) : Calls Tryz.prog 74 #[v] w fun e w' => e = .returned (.bool false) ∧ w' = w := by
  rcases h with rfl | ⟨d, rfl, c1⟩
  · go_enter Tryz.func74, Tryz.ntmps74
    go_wp2
    go_ret
    exact ⟨rfl, rfl⟩
  · go_enter Tryz.func74, Tryz.ntmps74
    go_wp2
    go_ret
    exact ⟨rfl, rfl⟩
theorem size_any {w : World} {m : FM} {k : Nat} {l : List UInt8} (h : FAt w m k l) : Calls Tryz.prog 106 #[m.v] w fun e w' => e = .returned (.int .i64 ((8 * l.length : Nat) : Int)) ∧ w' = w := by
  have c1 := h.c1
  have hl := h.len
  have M := made_any h
  go_enter Tryz.func106, Tryz.ntmps106
  go_wp2_with (go_at_call 74; refine M.mono ?_; rintro e w1 ⟨rfl, rfl⟩)
  go_ret
  refine ⟨ret_int ?_, rfl⟩
  omega
theorem size_noneF {w : World} {v : Value} (h : FNo w v) : Calls Tryz.prog 106 #[v] w fun e w' => e = .returned (.int .i64 0) ∧ w' = w := by
  have M := made_none h
  go_enter Tryz.func106, Tryz.ntmps106
  go_wp2_with (go_at_call 74; refine M.mono ?_; rintro e w1 ⟨rfl, rfl⟩)
  go_ret
  exact ⟨rfl, rfl⟩
/-- One place, over plain numbers. -/
theorem place_num (i x h1 h2 y s n r : Int) (a b c : Nat) (w : World) (ca : w.cell? ⟨a, 0, none⟩ = some (.int .u64 h1)) (cb : w.cell? ⟨b, 0, none⟩ = some (.int .u64 h2)) (cc : w.cell? ⟨c, 0, none⟩ = some (.int .u64 n))
    (m1 : IntKind.u64.wrap i = x) (m2 : IntKind.u64.wrap (x * h2) = y) (m3 : IntKind.u64.wrap (h1 + y) = s) (m4 : s.tmod n = r) (m5 : IntKind.i64.wrap r = r) (hn : n ≠ 0) :
    Calls Tryz.prog 107 #[.int .i64 i, .pointer (some ⟨a, 0, none⟩), .pointer (some ⟨b, 0, none⟩), .pointer (some ⟨c, 0, none⟩)] w fun e w' => e = .returned (.int .i64 r) ∧ w' = w := by
  go_enter Tryz.func107, Tryz.ntmps107
  go_wp2
  go_ret
  exact ⟨rfl, rfl⟩
end Go.Proofs.YtdookhmaiapclaaGreatDoor

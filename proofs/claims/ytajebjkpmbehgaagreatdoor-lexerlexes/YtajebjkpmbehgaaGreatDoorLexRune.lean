/-
  PLAIN: the runes of a text, byte by byte.
-/
import Derived.Test.YtajebjkpmbehgaaGreatDoorLexPlain
import Derived.Laws.RangeAny
namespace Go.Proofs.YtajebjkpmbehgaaGreatDoor
open Go.RowKit

theorem get_at2 (s : ByteArray) (p k : Nat) (h : p + k < s.size) : s.get! (p + k) = s[p + k]'h := by
  simp [ByteArray.get!, getElem!_pos, h]
  rfl
/-- A byte below 128 is a rune of its own. -/
theorem dec_low (s : ByteArray) (p : Nat) (h : p < s.size) (hb : (s[p]'h).toNat < 128) : Utf8.decode s p = ((s[p]'h).toNat, 1) := by
  simp only [Utf8.decode, get_at s p h, hb, if_true]
/-- The bytes of a rune that is 128 or more are so, too. -/
theorem dec_high (s : ByteArray) (p : Nat) (h : p < s.size) (hb : 128 ≤ (s[p]'h).toNat) : ∃ r m, Utf8.decode s p = (r, m) ∧ 128 ≤ r ∧ r ≤ 2147483647 ∧ 1 ≤ m ∧ p + m ≤ s.size ∧ ∀ j, j < m → ∃ b, (s.data.toList.drop p)[j]? = some b ∧ 128 ≤ b.toNat := by
  obtain ⟨h1, h2⟩ := decode_high s p h hb
  have h3 := decode_le s p
  have hat : ∀ k (hk : p + k < s.size), (s.data.toList.drop p)[k]? = some (s[p + k]'hk) := fun k hk => by
    rw [List.getElem?_drop, Array.getElem?_toList]
    exact Array.getElem?_eq_getElem hk
  have hc : ∀ k, (decide (p + k < s.size) && (s.get! (p + k)).toNat / 64 == 2) = true → ∃ hk : p + k < s.size, 128 ≤ (s[p + k]'hk).toNat := fun k hk => by
    rw [Bool.and_eq_true, decide_eq_true_eq, beq_iff_eq] at hk
    refine ⟨hk.1, ?_⟩
    rw [← get_at2 s p k hk.1]
    omega
  have h0 : ∃ hk : p + 0 < s.size, 128 ≤ (s[p + 0]'hk).toNat := ⟨h, hb⟩
  have hn : ¬ (s[p]'h).toNat < 128 := by omega
  have one : ∀ j, j < 1 → ∃ b, (s.data.toList.drop p)[j]? = some b ∧ 128 ≤ b.toNat := fun j hj => by
    obtain rfl : j = 0 := by omega
    obtain ⟨a, b⟩ := h0
    exact ⟨_, hat 0 a, b⟩
  suffices K : p + (Utf8.decode s p).2 ≤ s.size ∧ ∀ j, j < (Utf8.decode s p).2 → ∃ b, (s.data.toList.drop p)[j]? = some b ∧ 128 ≤ b.toNat from ⟨(Utf8.decode s p).1, (Utf8.decode s p).2, rfl, h1, h3, h2, K.1, K.2⟩
  clear h1 h2 h3
  simp only [Utf8.decode, get_at s p h, hn, if_false]
  split
  · rename_i hx
    rw [Bool.and_eq_true] at hx
    obtain ⟨a1, b1⟩ := hc 1 hx.2
    split
    · refine ⟨by show p + 2 ≤ s.size; omega, fun j hj => ?_⟩
      have : j < 2 := hj
      obtain rfl | rfl : j = 0 ∨ j = 1 := by omega
      · exact one 0 (by omega)
      · exact ⟨_, hat 1 a1, b1⟩
    · exact ⟨by show p + 1 ≤ s.size; omega, one⟩
  · split
    · rename_i hx
      rw [Bool.and_eq_true, Bool.and_eq_true] at hx
      obtain ⟨a1, b1⟩ := hc 1 hx.1.2
      obtain ⟨a2, b2⟩ := hc 2 hx.2
      split
      · refine ⟨by show p + 3 ≤ s.size; omega, fun j hj => ?_⟩
        have : j < 3 := hj
        obtain rfl | rfl | rfl : j = 0 ∨ j = 1 ∨ j = 2 := by omega
        · exact one 0 (by omega)
        · exact ⟨_, hat 1 a1, b1⟩
        · exact ⟨_, hat 2 a2, b2⟩
      · exact ⟨by show p + 1 ≤ s.size; omega, one⟩
    · split
      · rename_i hx
        rw [Bool.and_eq_true, Bool.and_eq_true, Bool.and_eq_true] at hx
        obtain ⟨a1, b1⟩ := hc 1 hx.1.1.2
        obtain ⟨a2, b2⟩ := hc 2 hx.1.2
        obtain ⟨a3, b3⟩ := hc 3 hx.2
        split
        · refine ⟨by show p + 4 ≤ s.size; omega, fun j hj => ?_⟩
          have : j < 4 := hj
          obtain rfl | rfl | rfl | rfl : j = 0 ∨ j = 1 ∨ j = 2 ∨ j = 3 := by omega
          · exact one 0 (by omega)
          · exact ⟨_, hat 1 a1, b1⟩
          · exact ⟨_, hat 2 a2, b2⟩
          · exact ⟨_, hat 3 a3, b3⟩
        · exact ⟨by show p + 1 ≤ s.size; omega, one⟩
      · exact ⟨by show p + 1 ≤ s.size; omega, one⟩
theorem drop_consB (s : ByteArray) (p : Nat) (h : p < s.size) : s.data.toList.drop p = (s[p]'h) :: s.data.toList.drop (p + 1) := by
  have h2 : p < s.data.toList.length := by simpa using h
  rw [List.drop_eq_getElem_cons h2]
  congr 1
theorem ext_list (s : ByteArray) (a b : Nat) : (s.extract a b).data.toList = (s.data.toList.drop a).take (b - a) := by
  rw [ByteArray.data_extract, Array.toList_extract]
theorem ext_end (s : ByteArray) (a : Nat) : (s.extract a s.size).data.toList = s.data.toList.drop a := by
  rw [ext_list, List.take_of_length_le]
  simp
/-- A world whose iterator stands elsewhere. -/
def World.stand (w : World) (k : Nat) (s : ByteArray) (p : Nat) : World := { w with heap := w.heap.setIfInBounds k (.stringIter s p) }
/-- In block k stands an iterator over s, at byte p. -/
def AtIt (w : World) (k : Nat) (s : ByteArray) (p : Nat) : Prop := w.heap[k]? = some (.stringIter s p)
theorem AtIt.lt {w : World} {k : Nat} {s : ByteArray} {p : Nat} (h : AtIt w k s p) : k < w.heap.size := (Array.getElem?_eq_some_iff.1 h).1
theorem AtIt.of_iter (w : World) (s : ByteArray) (p : Nat) : AtIt (w.iter s p) w.heap.size s p := World.iter_heap w s p
theorem AtIt.stand {w : World} {k : Nat} {s : ByteArray} {p : Nat} (h : AtIt w k s p) (q : Nat) : AtIt (World.stand w k s q) k s q := by
  have := h.lt
  unfold AtIt World.stand
  rw [Array.getElem?_setIfInBounds_self_of_lt this]
theorem stand_other {w : World} {k i : Nat} {s : ByteArray} {q : Nat} (hi : i ≠ k) : (World.stand w k s q).heap[i]? = w.heap[i]? := by
  unfold World.stand
  rw [Array.getElem?_setIfInBounds_ne (Ne.symm hi)]
theorem stand_size (w : World) (k : Nat) (s : ByteArray) (q : Nat) : (World.stand w k s q).heap.size = w.heap.size := by
  unfold World.stand
  simp
theorem stand_below {n k : Nat} {w w' : World} {s : ByteArray} {q : Nat} (h : Below n w w') (hk : n ≤ k) : Below n w (World.stand w' k s q) :=
  ⟨h.os, h.tape, h.output, by rw [stand_size]; exact h.size, fun i hi => (stand_other (by omega)).trans (h.block i hi)⟩
theorem AtIt.below {w w' : World} {k B : Nat} {s : ByteArray} {p : Nat} (h : AtIt w k s p) (hb : Below B w w') (hk : k < B) : AtIt w' k s p := (hb.block k hk).trans h
theorem next_any {P : Program} {w : World} {k : Nat} {s : ByteArray} {pos : Nat} (h : AtIt w k s pos) (ty : TypeId) (hp : pos < s.size) :
    (Instr.next (.pointer (some ⟨k, 0, none⟩)) true ty).run P w = .ok (.tuple #[.bool true, .int .i64 pos, .int .i32 (Utf8.decode s pos).1]) (World.stand w k s (pos + (Utf8.decode s pos).2)) := by
  have h2 := h
  unfold AtIt at h2
  simp only [Instr.next, getObj, setObj, Sem.run_bind, Sem.run, h2, Result.andThen, hp, if_true]
  simp [goInt, World.stand]
theorem next_low {P : Program} {w : World} {k : Nat} {s : ByteArray} {pos : Nat} (h : AtIt w k s pos) (ty : TypeId) (hp : pos < s.size) (b : UInt8) (hb : s[pos]'hp = b) (hl : b.toNat < 128) :
    (Instr.next (.pointer (some ⟨k, 0, none⟩)) true ty).run P w = .ok (.tuple #[.bool true, .int .i64 pos, .int .i32 b.toNat]) (World.stand w k s (pos + 1)) := by
  subst hb
  have := next_any (P := P) h ty hp
  rw [dec_low s pos hp hl] at this
  exact this
theorem next_end {P : Program} {w : World} {k : Nat} {s : ByteArray} {pos : Nat} (h : AtIt w k s pos) (ty : TypeId) (hp : ¬ pos < s.size) :
    (Instr.next (.pointer (some ⟨k, 0, none⟩)) true ty).run P w = .ok (.tuple #[.bool false]) w := by
  have h2 := h
  unfold AtIt at h2
  simp [Instr.next, getObj, Sem.run, h2, hp]
end Go.Proofs.YtajebjkpmbehgaaGreatDoor

/-
  ACTS in memory, and how heavy they are: the law's 'light', for every list of acts.
-/
import Derived.Test.YtbabepnoncpdlaaDskMem
import Derived.Deep.MidRow
namespace Go.Proofs.Ytbabepnoncpdlaa
open Go.RowKit

/-- An act: its kind, two texts, bytes, two numbers. -/
structure ActV where
  kind : Int
  sa : ByteArray
  sb : ByteArray
  ao : Option Addr
  data : List UInt8
  cap : Nat
  n : Int
  m : Int
def actA (c : ActV) : Array Value := #[.int .i64 c.kind, .string c.sa, .string c.sb, .slice c.ao c.data.length c.cap, .int .i64 c.n, .int .i64 c.m]
/-- The acts l can be read from the address on. -/
def ASees (w : World) (ao : Option Addr) (l : List ActV) : Prop := ∀ i c, l[i]? = some c → ∃ b off, ao = some ⟨b, off, none⟩ ∧ w.rangeAt b (off + i * 6) (actA c).toList
theorem ASees.below {w w' : World} {ao : Option Addr} {l : List ActV} (h : ASees w ao l) {B : Nat} (hb : Below B w w') (hB : w.heap.size ≤ B) : ASees w' ao l := by
  intro i c hc
  obtain ⟨b, off, e, hr⟩ := h i c hc
  refine ⟨b, off, e, fun j v hv => ?_⟩
  have h1 := hr j v hv
  have hlt := World.block_lt_of_cell? _ _ h1
  rw [hb.cell (p := ⟨b, off + i * 6 + j, none⟩) (by omega), h1]
/-- Six cells, one by one. -/
structure SixAt (w : World) (b o : Nat) (c : ActV) : Prop where
  c0 : w.cell? ⟨b, o, none⟩ = some (.int .i64 c.kind)
  c1 : w.cell? ⟨b, o + 1, none⟩ = some (.string c.sa)
  c2 : w.cell? ⟨b, o + 2, none⟩ = some (.string c.sb)
  c3 : w.cell? ⟨b, o + 3, none⟩ = some (.slice c.ao c.data.length c.cap)
  c4 : w.cell? ⟨b, o + 4, none⟩ = some (.int .i64 c.n)
  c5 : w.cell? ⟨b, o + 5, none⟩ = some (.int .i64 c.m)
theorem SixAt.of {w : World} {b o : Nat} {c : ActV} (h : w.rangeAt b o (actA c).toList) : SixAt w b o c := ⟨h 0 _ rfl, h 1 _ rfl, h 2 _ rfl, h 3 _ rfl, h 4 _ rfl, h 5 _ rfl⟩
theorem ASees.six {w : World} {ao : Option Addr} {l : List ActV} (h : ASees w ao l) {i : Nat} {c : ActV} (hc : l[i]? = some c) : ∃ b off, ao = some ⟨b, off, none⟩ ∧ SixAt w b (off + i * 6) c := by
  obtain ⟨b, off, e, hr⟩ := h i c hc
  exact ⟨b, off, e, .of hr⟩
/-- What came in is as it must be: its bytes lie in memory, numbers and sizes are such that can be. -/
structure ActV.Ok (w : World) (c : ActV) : Prop where
  sees : Sees w c.ao c.data
  zero : c.ao = none → c.data.length = 0
  kind : -9223372036854775808 ≤ c.kind ∧ c.kind ≤ 9223372036854775807
  n : -9223372036854775808 ≤ c.n ∧ c.n ≤ 9223372036854775807
  m : -9223372036854775808 ≤ c.m ∧ c.m ≤ 9223372036854775807
  big : c.data.length + c.sa.size + c.sb.size ≤ 562949953421312
theorem take_succ_act {α : Type} {l : List α} {i : Nat} {c : α} (h : l[i]? = some c) : l.take (i + 1) = l.take i ++ [c] := by
  rw [List.take_add_one, h]
  rfl
def hvA (c : ActV) : Nat := 1 + (c.data.length + c.sa.size + c.sb.size) / 40
def hvL (l : List ActV) : Nat := (l.map hvA).sum
theorem hvL_step {l : List ActV} {i : Nat} {c : ActV} (h : l[i]? = some c) : hvL (l.take (i + 1)) = hvL (l.take i) + hvA c := by
  rw [take_succ_act h]
  unfold hvL
  rw [List.map_append, List.sum_append]
  simp
theorem hvL_mem {l : List ActV} {c : ActV} (h : c ∈ l) : hvA c ≤ hvL l := by
  unfold hvL
  induction l with
  | nil => cases h
  | cons y r ih =>
    simp only [List.map_cons, List.sum_cons]
    rcases List.mem_cons.1 h with rfl | h
    · omega
    · have := ih h; omega
theorem hvL_len (l : List ActV) : l.length ≤ hvL l := by
  unfold hvL
  induction l with
  | nil => exact Nat.zero_le _
  | cons y r ih =>
    simp only [List.map_cons, List.sum_cons, List.length_cons]
    have : 1 ≤ hvA y := by unfold hvA; omega
    omega
set_option maxRecDepth 100000 in
set_option maxHeartbeats 1600000 in
theorem light_any (ao : Option Addr) (l : List ActV) (cap : Nat) (w : World) (ha : ASees w ao l) (hl : l.length ≤ 140737488355328) (hw : ∀ c ∈ l, c.data.length + c.sa.size + c.sb.size ≤ 562949953421312) :
    Calls Try.prog 22 #[.slice ao l.length cap] w fun e w' => (∃ z : Bool, e = .returned (.bool z) ∧ (z = true → hvL l ≤ 250)) ∧ Below w.heap.size w w' := by
  go_enter Try.func22, Try.ntmps22
  go_wp2
  go_loopw [3, 8] (fun s3 s8 wr => ∃ i z : Nat, i ≤ l.length ∧ s3 = .int .i64 z ∧ s8 = .int .i64 i ∧ z ≤ 250 ∧ hvL (l.take i) = z ∧ Below w.heap.size w wr) (fun _ s8 _ => l.length - (intOf s8).toNat)
  case atStart => exact ⟨0, 0, by omega, rfl, rfl, by omega, by simp [hvL], Below.refl _ _⟩
  case round =>
    obtain ⟨i, z, hi, rfl, rfl, hz, hwz, hbr⟩ := hrel
    rcases Nat.lt_or_ge i l.length with hlt | hge
    · have hc : l[i]? = some l[i] := List.getElem?_eq_getElem hlt
      have hcw := hw l[i] (List.getElem_mem hlt)
      have hst := hvL_step hc
      obtain ⟨b1, o1, rfl, h1⟩ := (ha.below hbr (Nat.le_refl _)).six hc
      generalize l[i] = c at *
      obtain ⟨kind, sa, sb, ao', data, cp, n, m⟩ := c
      obtain ⟨k0, k1, k2, k3, k4, k5⟩ := h1
      simp only at k0 k1 k2 k3 k4 k5
      unfold hvA at hst
      simp only at hcw hst
      have hb2 : Hid (∀ o, Below w.heap.size w (wr.alloc o)) := fun o => hbr.alloc hbr.size o
      have Hst : Hid _ := hst
      have Hw : Hid _ := hw
      clear hc ha hst hw
      have hsum : (data.length : Int) + sa.size + sb.size ≤ 562949953421312 := by omega
      generalize data.length = dl at *
      by_cases hbig : z + (1 + (dl + sa.size + sb.size) / 40) ≤ 250
      · have hq : ¬ ((250 : Int) < (z : Int) + (1 + ((dl : Int) + sa.size + sb.size) / 40)) := by omega
        go_wp2
        go_roundw
        case rel =>
          refine ⟨i + 1, z + (1 + (dl + sa.size + sb.size) / 40), by omega, ?_, by go_num, hbig, ?_, hb2.out _⟩
          · congr 1
          · rw [Hst.out, hwz]
        case measure => simp [intOf]; omega
      · have hq : ((250 : Int) < (z : Int) + (1 + ((dl : Int) + sa.size + sb.size) / 40)) := by omega
        go_wp2
        go_ret
        exact ⟨⟨false, rfl, fun h => by cases h⟩, hb2.out _⟩
    · obtain rfl : i = l.length := by omega
      rw [List.take_length] at hwz
      go_wp2
      go_ret
      exact ⟨⟨true, rfl, fun _ => by omega⟩, hbr⟩
end Go.Proofs.Ytbabepnoncpdlaa

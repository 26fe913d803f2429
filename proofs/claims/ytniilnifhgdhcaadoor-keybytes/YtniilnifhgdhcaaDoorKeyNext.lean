/-
  CONTRACTS: the program's reader: the next byte, and whether a zero was one of the text's bytes.
-/
import Derived.Test.YtniilnifhgdhcaaDoorKeyLives
namespace Go.Proofs.YtniilnifhgdhcaaDoor
open Go.RowKit

/-- The reader in block R, with these bytes ahead of it. -/
structure RdS (w : World) (R : Nat) (r : List UInt8) (bad : Bool) (ao : Option Addr) (cap : Nat) : Prop where
  h : w.heap[R]? = some (.cells #[.slice ao r.length cap, .bool bad] 48)
  sees : Sees w ao r
  nil0 : ao = .none → r.length = 0
  cap : r.length ≤ cap
  apart : ∀ a, ao = some a → r.length = 0 ∨ a.block ≠ R
theorem RdS.c0 {w : World} {R : Nat} {r : List UInt8} {bad : Bool} {ao : Option Addr} {cap : Nat} (h : RdS w R r bad ao cap) : w.cell? ⟨R, 0, none⟩ = some (.slice ao r.length cap) := by simp [World.cell?, h.h]
theorem RdS.c1 {w : World} {R : Nat} {r : List UInt8} {bad : Bool} {ao : Option Addr} {cap : Nat} (h : RdS w R r bad ao cap) : w.cell? ⟨R, 1, none⟩ = some (.bool bad) := by simp [World.cell?, h.h]
theorem RdS.fr {w : World} {R : Nat} {r : List UInt8} {bad : Bool} {ao : Option Addr} {cap : Nat} (h : RdS w R r bad ao cap) (i : Nat) : w.frozen? ⟨R, i, none⟩ = false := by simp [World.frozen?, h.h]
theorem RdS.lt {w : World} {R : Nat} {r : List UInt8} {bad : Bool} {ao : Option Addr} {cap : Nat} (h : RdS w R r bad ao cap) : R < w.heap.size := World.block_lt_of_cell? _ _ h.c0

theorem grown_refl (w : World) (r : Option Nat) : w.grownBy w r := ⟨rfl, rfl, rfl, Nat.le_refl _, fun _ _ _ => rfl⟩
theorem grown_trans {w w1 w2 : World} {R : Nat} (h : w.grownBy w1 (some R)) (k : w1.grownBy w2 (some R)) : w.grownBy w2 (some R) :=
  ⟨k.os.trans h.os, k.tape.trans h.tape, k.output.trans h.output, Nat.le_trans h.size k.size, fun i hi hne => (k.block i (Nat.lt_of_lt_of_le hi h.size) hne).trans (h.block i hi hne)⟩
theorem Sees.setOther {w : World} {ao : Option Addr} {l : List UInt8} (h : Sees w ao l) (R i : Nat) (v : Value) (hne : ∀ a, ao = some a → l.length = 0 ∨ a.block ≠ R) : Sees (w.setCell ⟨R, i, none⟩ v) ao l := by
  intro j hj
  obtain ⟨a, e, hc⟩ := h j hj
  refine ⟨a, e, ?_⟩
  have hb : a.block ≠ R := by
    rcases hne a e with h0 | h0
    · omega
    · exact h0
  rw [World.cell?_of_block (w := w) (Below.heap_setCell w ⟨R, i, none⟩ v (a.add j).block (by rw [Addr.add_block]; exact hb)), hc]
theorem RdS.step {w : World} {R : Nat} {c : UInt8} {r : List UInt8} {bad : Bool} {a : Addr} {cap : Nat} (h : RdS w R (c :: r) bad (some a) cap) :
    RdS (w.setCell ⟨R, 0, none⟩ (.slice (some (a.add 1)) r.length (cap - 1))) R r bad (some (a.add 1)) (cap - 1) := by
  have hap : a.block ≠ R := by
    rcases h.apart a rfl with h0 | h0
    · simp at h0
    · exact h0
  refine ⟨?_, ?_, (fun e => by cases e), (by have := h.cap; simp only [List.length_cons] at this; omega), (fun b e => by obtain rfl := Option.some.inj e; rw [Addr.add_block]; exact Or.inr hap)⟩
  · simp only [World.setCell, Array.getElem?_modify, h.h]; simp
  · refine Sees.setOther ?_ R 0 _ (fun b e => by obtain rfl := Option.some.inj e; rw [Addr.add_block]; exact Or.inr hap)
    intro j hj
    obtain ⟨a', e, hc⟩ := h.sees (j + 1) (by simp only [List.length_cons]; omega)
    obtain rfl := Option.some.inj e
    refine ⟨_, rfl, ?_⟩
    have e2 : (a.add 1).add j = a.add (j + 1) := by
      rw [Addr.add_succ']
      cases j with
      | zero => rw [Addr.add_zero', Addr.add_succ']
      | succ j => rw [Addr.add_succ', Addr.add_succ']; simp; omega
    rw [e2, hc]; simp
theorem RdS.stepEnd {w : World} {R : Nat} {c : UInt8} {r : List UInt8} {bad : Bool} {a : Addr} {cap : Nat} (h : RdS w R (c :: r) bad (some a) cap) (h1 : cap = 1) :
    RdS (w.setCell ⟨R, 0, none⟩ (.slice (some a) r.length 0)) R r bad (some a) 0 := by
  have hr : r.length = 0 := by have := h.cap; simp only [List.length_cons] at this; omega
  obtain rfl : r = [] := List.eq_nil_of_length_eq_zero hr
  refine ⟨?_, Sees.nil _ _, (fun e => by cases e), Nat.le_refl _, fun _ _ => Or.inl rfl⟩
  simp only [World.setCell, Array.getElem?_modify, h.h]; simp

set_option maxRecDepth 100000 in
theorem next_cons (R : Nat) (c : UInt8) (r : List UInt8) (bad : Bool) (ao : Option Addr) (cap : Nat) (w : World) (h : RdS w R (c :: r) bad ao cap) (hl : r.length ≤ 1000000) :
    Calls Tryd.prog 47 #[.pointer (some ⟨R, 0, none⟩)] w fun e w' => e = .returned (.int .u8 (c.toNat : Int)) ∧ w.grownBy w' (some R) ∧ ∃ ao' cap', RdS w' R r bad ao' cap' ∧ ∀ a', ao' = some a' → ∃ a, ao = some a ∧ a'.block = a.block := by
  obtain ⟨a, rfl, hc⟩ := h.sees 0 (by simp)
  have c0 := h.c0
  have f0 := h.fr 0
  simp only [List.getD_cons_zero, Addr.add_zero'] at hc
  have hcap := h.cap
  simp only [List.length_cons] at c0 hcap
  have hl' : (r.length : Int) ≤ 1000000 := by omega
  by_cases h1 : cap = 1
  · have HS : Hid (RdS (w.setCell ⟨R, 0, none⟩ (.slice (some a) r.length 0)) R r bad (some a) 0) := h.stepEnd h1
    have HG : Hid (∀ v, w.grownBy (w.setCell ⟨R, 0, none⟩ v) (some R)) := fun v => grownBy_setCell (grown_refl w _)
    obtain rfl : r = [] := List.eq_nil_of_length_eq_zero (by omega)
    clear h
    subst h1
    go_enter Tryd.func47, Tryd.ntmps47
    go_wp2_with fail
    go_ret
    exact ⟨rfl, HG.out _, _, _, HS.out, fun a' e => ⟨a', e, rfl⟩⟩
  · have HS : Hid (RdS (w.setCell ⟨R, 0, none⟩ (.slice (some (a.add 1)) r.length (cap - 1))) R r bad (some (a.add 1)) (cap - 1)) := h.step
    have HG : Hid (∀ v, w.grownBy (w.setCell ⟨R, 0, none⟩ v) (some R)) := fun v => grownBy_setCell (grown_refl w _)
    clear h
    go_enter Tryd.func47, Tryd.ntmps47
    go_wp2_with fail
    go_ret
    exact ⟨rfl, HG.out _, _, _, HS.out, fun a' e => ⟨a, rfl, by obtain rfl := Option.some.inj e; exact Addr.add_block a 1⟩⟩
theorem next_nil (R : Nat) (bad : Bool) (ao : Option Addr) (cap : Nat) (w : World) (h : RdS w R [] bad ao cap) :
    Calls Tryd.prog 47 #[.pointer (some ⟨R, 0, none⟩)] w fun e w' => e = .returned (.int .u8 0) ∧ w.grownBy w' (some R) ∧ RdS w' R [] true ao cap := by
  have c0 := h.c0
  have c1 := h.c1
  have f0 := h.fr 1
  simp only [List.length_nil] at c0
  have HS : Hid (RdS (w.setCell ⟨R, 1, none⟩ (.bool true)) R [] true ao cap) := ⟨by simp only [World.setCell, Array.getElem?_modify, h.h]; simp, Sees.nil _ _, h.nil0, h.cap, h.apart⟩
  have HG : Hid (∀ v, w.grownBy (w.setCell ⟨R, 1, none⟩ v) (some R)) := fun v => grownBy_setCell (grown_refl w _)
  clear h
  go_enter Tryd.func47, Tryd.ntmps47
  go_wp2_with fail
  go_ret
  exact ⟨rfl, HG.out _, HS.out⟩

/-- The next byte, what is behind it, and whether there was none. -/
def nx (r : List UInt8) (b : Bool) : UInt8 × List UInt8 × Bool := match r with | [] => (0, [], true) | c :: r => (c, r, b)
def Rdr (B : Nat) (w : World) (R : Nat) (r : List UInt8) (b : Bool) : Prop := R < B ∧ ∃ ao cap, RdS w R r b ao cap ∧ ∀ a, ao = some a → r.length = 0 ∨ a.block < B
theorem next_any (B R : Nat) (r : List UInt8) (b : Bool) (w : World) (h : Rdr B w R r b) (hl : r.length ≤ 1000000) :
    Calls Tryd.prog 47 #[.pointer (some ⟨R, 0, none⟩)] w fun e w' => e = .returned (.int .u8 ((nx r b).1.toNat : Int)) ∧ w.grownBy w' (some R) ∧ Rdr B w' R (nx r b).2.1 (nx r b).2.2 := by
  obtain ⟨hRB, ao, cap, h, hlow⟩ := h
  cases r with
  | nil => exact (next_nil R b ao cap w h).mono fun e w' ⟨h1, h2, h3⟩ => ⟨h1, h2, hRB, ao, cap, h3, fun _ _ => Or.inl rfl⟩
  | cons c r => exact (next_cons R c r b ao cap w h (by simp only [List.length_cons] at hl; omega)).mono fun e w' ⟨h1, h2, ao', cap', h3, h4⟩ => ⟨h1, h2, hRB, ao', cap', h3, fun a' e => by
      obtain ⟨a, e1, e2⟩ := h4 a' e
      rcases hlow a e1 with h | h
      · simp at h
      · exact Or.inr (by rw [e2]; exact h)⟩

/-- A zero was read: does the text go on? -/
def mo (r : List UInt8) (b : Bool) : Bool × List UInt8 × Bool :=
  if (nx r b).1 = 255 then (true, (nx r b).2) else if (nx r b).1 = 0 then (false, (nx r b).2) else (false, (nx r b).2.1, true)
theorem Rdr.setBad {B : Nat} {w : World} {R : Nat} {r : List UInt8} {b : Bool} (h : Rdr B w R r b) : Rdr B (w.setCell ⟨R, 1, none⟩ (.bool true)) R r true := by
  obtain ⟨hRB, ao, cap, h, hlow⟩ := h
  exact ⟨hRB, ao, cap, ⟨by simp only [World.setCell, Array.getElem?_modify, h.h]; simp, h.sees.setOther R 1 _ h.apart, h.nil0, h.cap, h.apart⟩, hlow⟩
theorem more_any (B R : Nat) (r : List UInt8) (b : Bool) (w : World) (h : Rdr B w R r b) (hl : r.length ≤ 1000000) :
    Calls Tryd.prog 48 #[.pointer (some ⟨R, 0, none⟩)] w fun e w' => e = .returned (.bool (mo r b).1) ∧ w.grownBy w' (some R) ∧ Rdr B w' R (mo r b).2.1 (mo r b).2.2 := by
  have N : Hid (Calls Tryd.prog 47 #[.pointer (some ⟨R, 0, none⟩)] w fun e w' => e = .returned (.int .u8 ((nx r b).1.toNat : Int)) ∧ w.grownBy w' (some R) ∧ Rdr B w' R (nx r b).2.1 (nx r b).2.2) := next_any B R r b w h hl
  obtain ⟨x, hx⟩ : ∃ x, (((nx r b).1.toNat : Nat) : Int) = x := ⟨_, rfl⟩
  rw [hx] at N
  have hxe : ∀ c : UInt8, (c.toNat : Int) = x → (nx r b).1 = c := fun c hc => UInt8.toNat_inj.1 (by omega)
  clear h
  by_cases h1 : x = 255
  · subst h1
    have e : mo r b = (true, (nx r b).2) := by unfold mo; rw [if_pos (hxe 255 rfl)]
    rw [e]
    clear hxe hx e
    go_enter Tryd.func48, Tryd.ntmps48
    go_wp2_with fail
    refine N.out.mono ?_
    rintro y w1 ⟨rfl, hg, hR⟩
    go_wp2_with fail
    go_ret
    exact ⟨rfl, hg, hR⟩
  have n1 : (x == 255) = false := by rw [beq_eq_false_iff_ne]; exact h1
  have hn1 : (nx r b).1 ≠ 255 := fun e => h1 (by rw [← hx, e]; rfl)
  by_cases h2 : x = 0
  · subst h2
    have e : mo r b = (false, (nx r b).2) := by unfold mo; rw [if_neg hn1, if_pos (hxe 0 rfl)]
    rw [e]
    clear hxe hx e hn1
    go_enter Tryd.func48, Tryd.ntmps48
    go_wp2_with fail
    refine N.out.mono ?_
    rintro y w1 ⟨rfl, hg, hR⟩
    go_wp2_with fail
    go_ret
    exact ⟨rfl, hg, hR⟩
  have n2 : (x == 0) = false := by rw [beq_eq_false_iff_ne]; exact h2
  have hn2 : (nx r b).1 ≠ 0 := fun e => h2 (by rw [← hx, e]; rfl)
  have e : mo r b = (false, (nx r b).2.1, true) := by unfold mo; rw [if_neg hn1, if_neg hn2]
  rw [e]
  clear hxe hx e hn1 hn2 h1 h2
  go_enter Tryd.func48, Tryd.ntmps48
  go_wp2_with fail
  refine N.out.mono ?_
  rintro y w1 ⟨rfl, hg, hR⟩
  have HB : Hid (Rdr B (w1.setCell ⟨R, 1, none⟩ (.bool true)) R (nx r b).2.1 true) := hR.setBad
  have HG : Hid (∀ v, w.grownBy (w1.setCell ⟨R, 1, none⟩ v) (some R)) := fun v => grownBy_setCell hg
  obtain ⟨_, ao, cap, hS, _⟩ := hR
  have c1 := hS.c1
  have f1 := hS.fr 1
  clear hS hg
  go_wp2_with fail
  go_ret
  exact ⟨rfl, HG.out _, HB.out⟩
end Go.Proofs.YtniilnifhgdhcaaDoor

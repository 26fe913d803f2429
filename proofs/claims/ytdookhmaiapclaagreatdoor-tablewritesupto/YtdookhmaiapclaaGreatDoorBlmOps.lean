/-
  A FILTER'S CALLS: placer, bit, Add, May.
-/
import Derived.Test.YtdookhmaiapclaaGreatDoorBlmMem
import Derived.Test.YtdookhmaiapclaaGreatDoorMurSum
import Derived.StillTailTactics
namespace Go.Proofs.YtdookhmaiapclaaGreatDoor
open Go.RowKit

/-- What tells places. -/
def Plr (w : World) (v : Value) (h : BitVec 64 × BitVec 64) (n B : Nat) : Prop :=
  ∃ a b c, v = .func (.func 107) #[] #[.pointer (some ⟨a, 0, none⟩), .pointer (some ⟨b, 0, none⟩), .pointer (some ⟨c, 0, none⟩)] ∧ Half w a h.1 ∧ Half w b h.2 ∧ Half w c (BitVec.ofNat 64 (8 * n)) ∧ B ≤ a ∧ B ≤ b ∧ B ≤ c
theorem Half.carry {w w' : World} {g : Nat} {h : BitVec 64} (k : Half w g h) (e : w'.heap[g]? = w.heap[g]?) : Half w' g h := e.trans k

theorem tmod_nat (s n : Nat) : (s : Int).tmod (n : Int) = ((s % n : Nat) : Int) := by
  rw [Int.tmod_eq_emod_of_nonneg (by omega)]; rfl
/-- One place. -/
theorem place_any {w : World} {a b c n : Nat} {h : BitVec 64 × BitVec 64} (ha : Half w a h.1) (hb : Half w b h.2) (hc : Half w c (BitVec.ofNat 64 (8 * n))) (hn : 0 < n) (hn2 : n ≤ 400000) (i : Nat) (hi : i < 100) :
    Calls Tryz.prog 107 #[.int .i64 (i : Int), .pointer (some ⟨a, 0, none⟩), .pointer (some ⟨b, 0, none⟩), .pointer (some ⟨c, 0, none⟩)] w fun e w' => e = .returned (.int .i64 (plc h n i : Int)) ∧ w' = w := by
  have e8 : (BitVec.ofNat 64 (8 * n)).toNat = 8 * n := by rw [BitVec.toNat_ofNat]; omega
  have hcc := hc.cell
  rw [e8] at hcc
  have hlt := plc_lt h n i hn
  refine place_num (i : Int) ((BitVec.ofNat 64 i).toNat : Int) _ _ ((BitVec.ofNat 64 i * h.2).toNat : Int) ((h.1 + BitVec.ofNat 64 i * h.2).toNat : Int) _ (plc h n i : Int) a b c w ha.cell hb.cell hcc ?_ (u_mul _ _) (u_add _ _) ?_ ?_ (by omega)
  · rw [← u_lit i (by omega)]
    rw [IntKind.wrap_u64]; omega
  · rw [tmod_nat]; rfl
  · rw [IntKind.wrap_i64]; omega

theorem placer_any {w : World} {m : FM} {k : Nat} {l : List UInt8} (h : FAt w m k l) (ao : Option Addr) (b : List UInt8) (cap : Nat) (hb : b.length ≤ 140737488354000) (hcap : b.length ≤ cap) (hs : Sees w ao b) :
    Calls Tryz.prog 75 #[m.v, .slice ao b.length cap] w fun e w' => ∃ v, e = .returned v ∧ Plr w' v (sumB b 0#64) l.length w.heap.size ∧ Below w.heap.size w w' := by
  have hSum := murSum_any ao b cap 0#64 w hb hcap hs
  have HS : Hid (Calls Tryz.prog 105 #[.slice ao b.length cap, .int .u64 0] w fun e w' => e = .returned (.tuple #[.int .u64 ((sumB b 0#64).1.toNat : Int), .int .u64 ((sumB b 0#64).2.toNat : Int)]) ∧ Below w.heap.size w w') := hSum
  clear hSum
  generalize sumB b 0#64 = hh at *
  have SZ : Hid (∀ w1, Below w.heap.size w w1 → ∀ o1 o2, Calls Tryz.prog 106 #[m.v] ((w1.alloc o1).alloc o2) fun e w' => e = .returned (.int .i64 ((8 * l.length : Nat) : Int)) ∧ w' = (w1.alloc o1).alloc o2) := fun w1 hB o1 o2 => size_any (h.below ((hB.alloc hB.size o1).alloc (by rw [World.size_alloc]; have := hB.size; omega) o2) (Nat.le_refl _))
  have hln := h.len
  go_enter Tryz.func75, Tryz.ntmps75
  go_wp2_with fail
  refine HS.out.mono ?_
  rintro e w1 ⟨rfl, hB⟩
  go_wp2_with fail
  refine (SZ.out _ hB _ _).mono ?_
  rintro e w2 ⟨rfl, rfl⟩
  have hsz := hB.size
  clear HS SZ
  go_wp2_with fail
  go_ret
  have e8 : ((8 * l.length : Nat) : Int) = ((BitVec.ofNat 64 (8 * l.length)).toNat : Int) := u_lit _ (by omega)
  refine ⟨_, rfl, ⟨_, _, _, rfl, ?_, ?_, ?_, hsz, Nat.le_trans hsz (Nat.le_succ _), by omega⟩, ?_⟩
  · exact (Below.heap_alloc _ _ _ (by simp; omega)).trans ((Below.heap_alloc _ _ _ (by simp)).trans (heap_alloc_new w1 _))
  · refine (Below.heap_alloc _ _ _ (by simp)).trans ?_
    have := heap_alloc_new (w1.alloc (.cells #[.int .u64 (hh.1.toNat : Int)] 73)) (.cells #[.int .u64 (hh.2.toNat : Int)] 73)
    rwa [World.size_alloc] at this
  · have := heap_alloc_new ((w1.alloc (.cells #[.int .u64 (hh.1.toNat : Int)] 73)).alloc (.cells #[.int .u64 (hh.2.toNat : Int)] 73)) (.cells #[.int .u64 ((BitVec.ofNat 64 (8 * l.length)).toNat : Int)] 73)
    rw [World.size_alloc, World.size_alloc] at this
    unfold Half
    rw [← this, ← e8]
    rfl
  · exact ((hB.alloc hsz _).alloc (by rw [World.size_alloc]; omega) _).alloc (by rw [World.size_alloc, World.size_alloc]; omega) _

theorem bit_any (p : Nat) (hp : p < 4000000) (w : World) : Calls Tryz.prog 76 #[.int .i64 (p : Int)] w fun e w' => e = .returned (.int .u8 ((2 ^ (p % 8) : Nat) : Int)) ∧ w' = w := by
  go_enter Tryz.func76, Tryz.ntmps76
  go_wp2
  go_ret
  refine ⟨ret_int ?_, rfl⟩
  have hk : p % 8 < 8 := Nat.mod_lt _ (by decide)
  generalize p % 8 = k at hk ⊢
  obtain rfl | rfl | rfl | rfl | rfl | rfl | rfl | rfl : k = 0 ∨ k = 1 ∨ k = 2 ∨ k = 3 ∨ k = 4 ∨ k = 5 ∨ k = 6 ∨ k = 7 := by omega
  all_goals decide
theorem add_none {w : World} {v : Value} (h : FNo w v) (ao : Option Addr) (n cap : Nat) : Calls Tryz.prog 93 #[v, .slice ao n cap] w fun e w' => e = .returned (.tuple #[]) ∧ w' = w := by
  have M := made_none h
  go_enter Tryz.func93, Tryz.ntmps93
  go_wp2_with (go_at_call 74; refine M.mono ?_; rintro e w1 ⟨rfl, rfl⟩)
  (try simp only [Exit.inBlock, Exit.then])
  refine bodyPost_ret (results_none rfl _ _ _) rfl ?_
  exact ⟨rfl, rfl⟩
theorem may_none {w : World} {v : Value} (h : FNo w v) (ao : Option Addr) (n cap : Nat) : Calls Tryz.prog 42 #[v, .slice ao n cap] w fun e w' => e = .returned (.bool false) ∧ w' = w := by
  have M := made_none h
  go_enter Tryz.func42, Tryz.ntmps42
  go_wp2_with (go_at_call 74; refine M.mono ?_; rintro e w1 ⟨rfl, rfl⟩)
  go_ret
  exact ⟨rfl, rfl⟩
theorem below_grown {w w1 w2 : World} {g : Nat} (h : Below w.heap.size w w1) (k : w1.grownBy w2 (some g)) : w.grownBy w2 (some g) :=
  ⟨k.os.trans h.os, k.tape.trans h.tape, k.output.trans h.output, Nat.le_trans h.size k.size, fun i hi hne => (k.block i (Nat.lt_of_lt_of_le hi h.size) hne).trans (h.block i hi)⟩
theorem grown_trans {w w1 w2 : World} {g : Option Nat} (h : w.grownBy w1 g) (k : w1.grownBy w2 g) : w.grownBy w2 g :=
  ⟨k.os.trans h.os, k.tape.trans h.tape, k.output.trans h.output, Nat.le_trans h.size k.size, fun i hi hne => (k.block i (Nat.lt_of_lt_of_le hi h.size) hne).trans (h.block i hi hne)⟩
theorem FAt.drew {w : World} {m : FM} {k : Nat} {l : List UInt8} (h : FAt w m k l) : FAt w.drew m k l := h.carry rfl rfl

end Go.Proofs.YtdookhmaiapclaaGreatDoor

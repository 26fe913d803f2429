/-
  CONTRACTS: a bit of a file is turned, for every disk in memory.
-/
import Derived.Test.YthihljjefncfoaaGreatDoorDskMore
namespace Go.Proofs.YthihljjefncfoaaGreatDoor
open Go.RowKit Go.Maps

/-- A byte with one bit turned. -/
def flipB (b : UInt8) (k : Nat) : UInt8 := b ^^^ UInt8.ofNat (2 ^ k)
/-- The file e with one bit turned: it lies in memory so. -/
theorem ent_flip {w : World} {e : Ent} (h : EntAt w e) {g cap : Nat} (hv : e.v1 = .slice (some ⟨g, 0, none⟩) e.bs.length cap) (i : Nat) (b : UInt8) (y : Int) (hy : (b.toNat : Int) = y) :
    EntAt (w.setCell ⟨g, i, none⟩ (.int .u8 y)).drew { e with bs := e.bs.set i b } ∧ Moved w (w.setCell ⟨g, i, none⟩ (.int .u8 y)).drew e.foot e.foot := by
  subst hy
  have hap := h.apart
  simp only [Ent.foot, List.nodup_cons, List.mem_append, not_or, List.nodup_append] at hap
  have hog : e.v1.ownBlock = some g := by rw [hv]; rfl
  have hk : ∀ j, j ≠ g → (w.setCell ⟨g, i, none⟩ (.int .u8 (b.toNat : Int))).drew.heap[j]? = w.heap[j]? := fun j hj => Below.heap_setCell _ _ _ _ hj
  refine ⟨⟨h.head.carry (hk _ fun e1 => hap.1.1 (mem_own.2 (e1 ▸ hog))), ?_, owns_carry h.row2 fun j hj => hk j fun e1 => hap.2.2.2 g (mem_own.2 hog) j (mem_own.2 hj) e1.symm, h.apart⟩, ((Moved.of_set g i _).drew).wider (fun j hj => .inl (by simp at hj; subst hj; simp only [Ent.foot, List.mem_cons, List.mem_append]; exact .inr (.inl (mem_own.2 hog)))) (fun j hj => .inl hj)⟩
  show World.ownsRow _ 0 5 1 e.v1 (e.bs.set i b).length (B8 (e.bs.set i b))
  have hr := h.row1
  rw [hv] at hr ⊢
  have := hr.stored i (.int .u8 (b.toNat : Int))
  rw [List.length_set]
  have hB : B8 (e.bs.set i b) = (B8 e.bs).set i (.int .u8 (b.toNat : Int)) := by simp [B8, List.map_set]
  rw [hB]
  exact this.1
theorem flip_text0 : ∀ n : Nat, n < 256 → bits BinOp.xor IntKind.u8 (n : Int) 1 = ((flipB (UInt8.ofNat n) 0).toNat : Int) := by decide +kernel
theorem flip_text1 : ∀ n : Nat, n < 256 → bits BinOp.xor IntKind.u8 (n : Int) 2 = ((flipB (UInt8.ofNat n) 1).toNat : Int) := by decide +kernel
theorem flip_text2 : ∀ n : Nat, n < 256 → bits BinOp.xor IntKind.u8 (n : Int) 4 = ((flipB (UInt8.ofNat n) 2).toNat : Int) := by decide +kernel
theorem flip_text3 : ∀ n : Nat, n < 256 → bits BinOp.xor IntKind.u8 (n : Int) 8 = ((flipB (UInt8.ofNat n) 3).toNat : Int) := by decide +kernel
theorem flip_text4 : ∀ n : Nat, n < 256 → bits BinOp.xor IntKind.u8 (n : Int) 16 = ((flipB (UInt8.ofNat n) 4).toNat : Int) := by decide +kernel
theorem flip_text5 : ∀ n : Nat, n < 256 → bits BinOp.xor IntKind.u8 (n : Int) 32 = ((flipB (UInt8.ofNat n) 5).toNat : Int) := by decide +kernel
theorem flip_text6 : ∀ n : Nat, n < 256 → bits BinOp.xor IntKind.u8 (n : Int) 64 = ((flipB (UInt8.ofNat n) 6).toNat : Int) := by decide +kernel
theorem flip_text7 : ∀ n : Nat, n < 256 → bits BinOp.xor IntKind.u8 (n : Int) 128 = ((flipB (UInt8.ofNat n) 7).toNat : Int) := by decide +kernel
end Go.Proofs.YthihljjefncfoaaGreatDoor

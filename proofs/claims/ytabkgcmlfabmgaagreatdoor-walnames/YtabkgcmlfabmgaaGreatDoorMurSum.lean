/-
  CONTRACT: murmur's Sum, for every bytes and every seed.
-/
import Derived.Test.YtabkgcmlfabmgaaGreatDoorWalM3
namespace Go.Proofs.YtabkgcmlfabmgaaGreatDoor
open Go.RowKit

theorem sees_drop {w : World} {b off : Nat} {l : List UInt8} (h : Sees w (some ⟨b, off, none⟩) l) (k : Nat) : Sees w (some ⟨b, off + k, none⟩) (l.drop k) := by
  intro i hi
  rw [List.length_drop] at hi
  obtain ⟨a, e, hc⟩ := h (k + i) (by omega)
  obtain rfl := Option.some.inj e
  refine ⟨_, rfl, ?_⟩
  rw [Addr.add_lit] at hc ⊢
  rw [show off + k + i = off + (k + i) by omega, hc]
  simp [List.getD, List.getElem?_drop]

theorem slice_next (av : Option Addr) (n c k len cap : Nat) (h1 : n + 16 * k = len) (h2 : c + 16 * k = cap) :
    Value.slice av (n - 16) (c - 16) = .slice av (len - 16 * (k + 1)) (cap - 16 * (k + 1)) := by
  rw [show n - 16 = len - 16 * (k + 1) by omega, show c - 16 = cap - 16 * (k + 1) by omega]
theorem av_next (b off k n c len : Nat) (hnc : n ≤ c) (h1 : n + 16 * k = len) :
    16 * (k + 1) < len → ∀ b' off', (some ⟨b, off, none⟩ : Option Addr) = some ⟨b', off', none⟩ → (if c = 16 then some ⟨b, off + 16 * k, none⟩ else some ⟨b, off + 16 * k + 16, none⟩ : Option Addr) = some ⟨b', off' + 16 * (k + 1), none⟩ := by
  intro h b' off' e
  cases e
  rw [if_neg (by omega), show off + 16 * k + 16 = off + 16 * (k + 1) by omega]
def sliceLen : Value → Nat
  | .slice _ n _ => n
  | _ => 0
theorem sum_end (l : List UInt8) (seed : BitVec 64) (k : Nat) (h1 : 16 * k ≤ l.length) (h2 : l.length - 16 * k < 16) :
    sumB l seed = finishB (restB (l.drop (16 * k)) (blocksB l seed k)) (BitVec.ofNat 64 l.length) := by
  have e : l.length / 16 = k := by omega
  unfold sumB
  rw [e]
theorem grownBy_sees {w w' : World} {g b off : Nat} {l : List UInt8} (h : Sees w (some ⟨b, off, none⟩) l) (hg : w.grownBy w' (some g)) (hb : b < g) : Sees w' (some ⟨b, off, none⟩) l := by
  intro i hi
  obtain ⟨a, e, hc⟩ := h i hi
  obtain rfl := Option.some.inj e
  refine ⟨_, rfl, ?_⟩
  have hlt : b < w.heap.size := by
    have := World.block_lt_of_cell? _ _ hc
    rwa [Addr.add_block] at this
  have hbl : (Addr.add ⟨b, off, none⟩ i).block = b := Addr.add_block _ _
  have hblk : w'.heap[(Addr.add ⟨b, off, none⟩ i).block]? = w.heap[(Addr.add ⟨b, off, none⟩ i).block]? := by
    rw [hbl]
    exact hg.block b hlt (fun e => by have := Option.some.inj e; omega)
  rw [World.cell?_of_block hblk, hc]

end Go.Proofs.YtabkgcmlfabmgaaGreatDoor

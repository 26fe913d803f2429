/-
  WHAT COMES IN: bytes as a row's reading gives them; over any program.
-/
import Derived.Test.YthihljjefncfoaaDoorOwn
import Derived.Test.YthihljjefncfoaaDoorRows
import Derived.ProofKit
import Derived.OpenShut
import Derived.ShutString
import Derived.ChangeOld
import Derived.SizedLaws
namespace Go.Proofs.YthihljjefncfoaaDoor
open Go.ChangeShapes Go.WideShapes Go.ChangeAt Go.RowKit

theorem own : ownKnob Tryd.prog.godebug = none := by kernel_rfl
theorem laidOut : laidOutB Tryd.prog = true := by kernel_rfl
theorem byte_valR (n : Nat) (h : n < 256) : ((UInt8.ofNat n).toNat : Int) = n := by
  simp; omega
/-- Bytes that came in. -/
theorem bytes_open {H : Type} {enc : TypeId × Value → H} {W : World} {ao : Option Addr} {len cap : Nat} {d : DataW H} {p : List MemPlace}
    (h : DataW.Trod enc Tryd.prog W 0 (fun _ => true) true 25 (Value.slice ao len cap) d p) :
    ∃ l : List UInt8, l.length = len ∧ Sees W ao l ∧ (ao = none → l.length = 0) ∧ l.length ≤ maxLen ∧ l.length ≤ cap ∧ (l.length = 0 ∨ ∃ el sp, d = .slice el sp ∧ el.length = l.length) := by
  obtain ⟨fuel, hf⟩ := h
  rcases open_ints Tryd.underlying25 Tryd.underlying5 (by kernel_rfl) hf with ⟨hcs, _⟩ | ⟨x, n, c, zs, hcs, _, hl, hm, hz, hx, hcell, hwz⟩
  · simp [Value.cells] at hcs
    obtain ⟨rfl, rfl, rfl⟩ := hcs
    exact ⟨[], rfl, Sees.nil _ _, fun _ => rfl, Nat.zero_le _, Nat.zero_le _, .inl rfl⟩
  · simp [Value.cells] at hcs
    obtain ⟨rfl, rfl, rfl⟩ := hcs
    have hzl : zs.length = cap := by simpa using hz
    have hlen : ((zs.take len).map fun z : Int => UInt8.ofNat z.toNat).length = len := by simp; omega
    refine ⟨(zs.take len).map fun z : Int => UInt8.ofNat z.toNat, hlen, fun i hi => ⟨x, rfl, ?_⟩, (fun h => by cases h), by omega, by omega, .inr ⟨_, _, congrArg Prod.fst hx, by rw [hlen]; simp [lits]; omega⟩⟩
    rw [hlen] at hi
    have hi' : i < zs.length := by omega
    rw [hcell i hi']
    have hb := bounds_u8 (hwz (zs.getD i 0) (by simp [List.getD, hi']))
    have e : ((zs.take len).map fun z : Int => UInt8.ofNat z.toNat).getD i 0 = UInt8.ofNat (zs.getD i 0).toNat := by simp [List.getD, hi, hi']
    rw [e, byte_valR _ (by omega), Int.toNat_of_nonneg hb.1]
theorem bytes8 : Tryd.prog.bytesOf 5 = 1 := by kernel_rfl
/-- How many bytes can have come in. -/
theorem bytes_reach {H : Type} {ts : List TypeId} {ds : List (DataW H)} {j n : Nat} {d : DataW H} (h : (DataW.weightsEach Tryd.prog ts ds).all (· ≤ reachBytes) = true) (ht : ts[j]? = some 25) (hd : ds[j]? = some d)
    (hn : n = 0 ∨ ∃ el sp, d = .slice el sp ∧ el.length = n) : n ≤ 140737488351232 := by
  rcases hn with rfl | ⟨el, sp, rfl, rfl⟩
  · omega
  · have := sized_slice h ht hd Tryd.underlying25
    rw [bytes8] at this
    simp only [reachBytes] at this
    omega
end Go.Proofs.YthihljjefncfoaaDoor

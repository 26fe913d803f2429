/-
  WHAT THE ROWS' LISTS GIVE: the table's cells, the readers' error; bytes that came in.
-/
import Derived.Test.YtakokhdnccaclaaDoorCodGot
import Derived.Test.YtakokhdnccaclaaDoorCards
import Derived.Test.YtakokhdnccaclaaDoorTie
import Derived.ProofKit
import Derived.OpenShut
import Derived.ShutString
import Derived.ChangeOld
import Derived.Deep.DeepHandedRow
import Derived.Deep.DeepWitnessRowRef
import Derived.Lib.LaidTab
import Derived.LaidMore
import Derived.LaidHandle
import Derived.Stop.LaidErr
import Derived.SizedLaws
namespace Go.Proofs.YtakokhdnccaclaaDoor
open Go.ChangeShapes Go.WideShapes Go.ChangeAt Go.RowKit

theorem own : ownKnob Tryd.prog.godebug = none := by kernel_rfl
theorem laidOut : laidOutB Tryd.prog = true := by kernel_rfl
/-- The two lists that rows have. -/
def laidOne : List (String × DataW Unit) := [("skerry/codec.fourSteps", Rows.laid_skerry_codec_fourSteps)]
def laidTwo : List (String × DataW Unit) := [("skerry/codec.fourSteps", Rows.laid_skerry_codec_fourSteps), ("skerry/codec.errNone", Rows.laid_skerry_codec_errNone)]
theorem gTab : Tryd.prog.globalNamed "skerry/codec.fourSteps" = some 0 := by kernel_rfl
theorem gTabType : (Tryd.prog.globals[0]?).map (·.type) = some 89 := by kernel_rfl
theorem cellsTab : Tryd.prog.cellsOf 89 = 16 := by kernel_rfl
theorem cells32 : Tryd.prog.cellsOf 31 = 1 := by kernel_rfl
theorem gErr : Tryd.prog.globalNamed "skerry/codec.errNone" = some 1 := by kernel_rfl
theorem gErrType : (Tryd.prog.globals[1]?).map (·.type) = some 93 := by kernel_rfl
theorem cellsErr : Tryd.prog.cellsOf 114 = 1 := by kernel_rfl
theorem cellsStr : Tryd.prog.cellsOf 9 = 1 := by kernel_rfl
theorem star : "*" ++ "errors.errorString" = "*errors.errorString" := by decide
theorem rowErr (u : TypeId) (h : Tryd.prog.typeName? 3 u = some "*errors.errorString") : u = 99 :=
  typeName_ptr_named (nm := "errors.errorString") (by rw [star]; kernel_rfl) (by kernel_rfl) (by decide) u (by rw [star]; exact h)

theorem table1 {W : World} (h : laidMetH Tryd.prog laidOne W) : Tab W := by
  have hT : Lib.TabIs Tryd.prog W "skerry/codec.fourSteps" .u32 tabZ := Lib.tabIs_of_head (rest := []) gTab gTabType Tryd.underlying89 Tryd.underlying31 cells32 cellsTab h
  exact fun j hj => hT.cell gTab j hj
theorem table2 {W : World} (h : laidMetH Tryd.prog laidTwo W) : Tab W := by
  have hT : Lib.TabIs Tryd.prog W "skerry/codec.fourSteps" .u32 tabZ := Lib.tabIs_of_head (rest := [("skerry/codec.errNone", Rows.laid_skerry_codec_errNone)]) gTab gTabType Tryd.underlying89 Tryd.underlying31 cells32 cellsTab h
  exact fun j hj => hT.cell gTab j hj
theorem err_of {W : World} (h : laidMetH Tryd.prog laidTwo W) : ∃ u pv, Err W u pv := by
  have h2 : laidMet Tryd.prog laidTwo W := h
  obtain ⟨a0, s0, hv0, _, _, _⟩ := laid_sentinel (laidMet.tail h2) gErr gErrType Tryd.underlying93 rowErr Tryd.underlying99 Tryd.underlying114 rfl rfl Tryd.underlying9 cellsErr cellsStr
  exact ⟨99, .pointer (some a0), World.var?_cell gErr hv0 0⟩
theorem door_met1 (os : Os) (args : Array Value) : laidMet Tryd.prog laidOne ((World.doorLaid Tryd.prog 60 os).forCall (fun _ _ => 0) ⟨#[], args, []⟩).memory :=
  laidMet_of_run' 8 (by kernel_rfl) (by kernel_rfl)
theorem door_met2 (os : Os) (args : Array Value) : laidMet Tryd.prog laidTwo ((World.doorLaid Tryd.prog 60 os).forCall (fun _ _ => 0) ⟨#[], args, []⟩).memory :=
  laidMet_of_run' 8 (by kernel_rfl) (by kernel_rfl)

/-- Bytes that came in. -/
theorem bytes_open {H : Type} {enc : TypeId × Value → H} {W : World} {ao : Option Addr} {len cap : Nat} {d : DataW H} {p : List MemPlace}
    (h : DataW.Trod enc Tryd.prog W 0 (fun _ => true) true 22 (Value.slice ao len cap) d p) :
    ∃ l : List UInt8, l.length = len ∧ Sees W ao l ∧ (ao = none → l.length = 0) ∧ l.length ≤ maxLen ∧ l.length ≤ cap ∧ (l.length = 0 ∨ ∃ el sp, d = .slice el sp ∧ el.length = l.length) := by
  obtain ⟨fuel, hf⟩ := h
  rcases open_ints Tryd.underlying22 Tryd.underlying5 (by kernel_rfl) hf with ⟨hcs, _⟩ | ⟨x, n, c, zs, hcs, _, hl, hm, hz, hx, hcell, hwz⟩
  · simp [Value.cells] at hcs
    obtain ⟨rfl, rfl, rfl⟩ := hcs
    exact ⟨[], rfl, Sees.nil _ _, fun _ => rfl, Nat.zero_le _, Nat.zero_le _, .inl rfl⟩
  · simp [Value.cells] at hcs
    obtain ⟨rfl, rfl, rfl⟩ := hcs
    have hzl : zs.length = cap := by simpa using hz
    have hlen : ((zs.take len).map fun z : Int => UInt8.ofNat z.toNat).length = len := by simp; omega
    refine ⟨(zs.take len).map fun z : Int => UInt8.ofNat z.toNat, hlen, fun i hi => ⟨x, rfl, ?_⟩, (fun h => by cases h), by omega, by omega, .inr ⟨_, _, congrArg Prod.fst hx, by rw [hlen]; simp [lits]; omega⟩⟩
    rw [hlen] at hi
    have hi' : i < zs.length := by omega
    rw [hcell i hi']
    have hb := bounds_u8 (hwz (zs.getD i 0) (by simp [List.getD, hi']))
    have e : ((zs.take len).map fun z : Int => UInt8.ofNat z.toNat).getD i 0 = UInt8.ofNat (zs.getD i 0).toNat := by simp [List.getD, hi, hi']
    rw [e, byte_val _ (by omega), Int.toNat_of_nonneg hb.1]
theorem bytes8 : Tryd.prog.bytesOf 5 = 1 := by kernel_rfl
/-- How many bytes can have come in. -/
theorem bytes_reach {H : Type} {ts : List TypeId} {ds : List (DataW H)} {j n : Nat} {d : DataW H} (h : (DataW.weightsEach Tryd.prog ts ds).all (· ≤ reachBytes) = true) (ht : ts[j]? = some 22) (hd : ds[j]? = some d)
    (hn : n = 0 ∨ ∃ el sp, d = .slice el sp ∧ el.length = n) : n ≤ 140737488351232 := by
  rcases hn with rfl | ⟨el, sp, rfl, rfl⟩
  · omega
  · have := sized_slice h ht hd Tryd.underlying22
    rw [bytes8] at this
    simp only [reachBytes] at this
    omega
end Go.Proofs.YtakokhdnccaclaaDoor

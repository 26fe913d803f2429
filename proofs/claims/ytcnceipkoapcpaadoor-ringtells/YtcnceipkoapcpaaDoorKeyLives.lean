/-
  CONTRACT: the document's examples are as it says ('lives').
-/
import Derived.Test.YtcnceipkoapcpaaDoorKeyBytes
import Derived.Test.YtcnceipkoapcpaaDoorKeyPrint
import Derived.Test.YtcnceipkoapcpaaDoorKeyGood
import Derived.Laws.BytesString
import Derived.Lib.SlBytesConst
namespace Go.Proofs.YtcnceipkoapcpaaDoor
open Go.RowKit

theorem conv_seesK {w : World} {ao : Option Addr} {l : List UInt8} (h : Sees w ao l) (hn : ao = none → l.length = 0) (cap : Nat) :
    (convert 64 9 (.slice ao l.length cap)).run Tryd.prog w = .ok (.string ⟨l.toArray⟩) w := by
  cases ao with
  | none =>
    obtain rfl : l = [] := List.eq_nil_of_length_eq_zero (hn rfl)
    rw [run_convert_bytes_string w 64 9 5 none _ cap Tryd.underlying64 Tryd.underlying5 Tryd.underlying9]
    rfl
  | some a =>
    refine run_convert_bytes_back w 64 9 5 a cap l Tryd.underlying64 Tryd.underlying5 Tryd.underlying9 fun j hj => ?_
    obtain ⟨a', e, hc⟩ := h j hj
    obtain rfl := Option.some.inj e
    rw [hc]; simp [List.getD, hj]
def kA : Kb := ⟨⟨#[116]⟩, ⟨#[97]⟩, 1, ⟨#[120]⟩⟩
def kB : Kb := ⟨⟨#[116]⟩, ⟨#[97]⟩, 2, ⟨#[98]⟩⟩
def kP : Kb := ⟨⟨#[116]⟩, ⟨#[97, 47, 98]⟩, -3, ⟨#[120]⟩⟩
def kT : Kb := ⟨⟨#[116]⟩, ⟨#[97]⟩, 0, ⟨#[]⟩⟩
theorem kA_cmp : kc kA.ky kB.ky = -1 := by decide
theorem kA_good : goodK kA.ky = true := by decide
theorem kP_print : strB (prK kP.ky) = ⟨#[116, 47, 97, 37, 50, 102, 98, 47, 45, 51, 47, 120]⟩ := by
  have e : Lib.itoa (-3) = [45, 51] := by
    unfold Lib.itoa; rw [if_pos (by decide)]
    rw [dec_small (by decide)]; rfl
  have : prK kP.ky = [116, 47, 97, 37, 50, 102, 98, 47, 45, 51, 47, 120] := by
    show msk [116] ++ (47 :: (msk [97, 47, 98] ++ (47 :: (Lib.itoa (-3) ++ (47 :: msk [120]))))) = _
    rw [e]; decide
  rw [this]; rfl
def bT : List UInt8 := [116, 0, 0, 97, 0, 0, 128, 0, 0, 0, 0, 0, 0, 0, 0, 0]
theorem kT_bytes : encK kT.ky = bT := by decide
theorem ok_small (k : Kb) (h1 : k.t.size ≤ 5000) (h2 : k.p.size ≤ 5000) (h3 : k.c.size ≤ 5000) (h : InI k.r) : k.Ok := ⟨h1, h2, h3, h⟩

end Go.Proofs.YtcnceipkoapcpaaDoor

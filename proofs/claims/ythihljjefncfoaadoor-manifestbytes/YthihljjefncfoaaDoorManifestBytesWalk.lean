/-
  THE LAW ManifestBytes, walked.
-/
import Derived.Test.YthihljjefncfoaaDoorManM7
import Derived.Test.YthihljjefncfoaaDoorManLaid
namespace Go.Proofs.YthihljjefncfoaaDoor.manifestBytes
open Go.RowKit Go.Proofs.YthihljjefncfoaaDoor

theorem rdF_len (b : List UInt8) : (rdF b).ts.length ≤ 30 := by
  cases h : rdM b with
  | none => rw [(rd_none h).1]; simp
  | some m => rw [(rd_some h).1]; exact (goodM_iff.1 (rdM_iff.1 h).1).2.2.1
end Go.Proofs.YthihljjefncfoaaDoor.manifestBytes

/-
  THE LAW WalBack, walked, of what came in.
-/
import Derived.Test.YtlamncldbnagmaaGreatDoorWalBackWalk
import Derived.Test.YtlamncldbnagmaaGreatDoorMany28
namespace Go.Proofs.YtlamncldbnagmaaGreatDoor.walBack
open Go.RowKit Go.Proofs.YtlamncldbnagmaaGreatDoor

theorem walk (lo : Option Addr) (vs : List Lvx) (cap : Nat) (cut : Int) (w : World) (he : EnvW w) (ht : Tab w) (ue : TypeId) (pv : Value) (hE : Err w ue pv) (hL : LSees w lo vs) (hX : ∀ v ∈ vs, XSees w v.ao v.l ∧ ∀ c ∈ v.l, c.In)
    (hF : vs.length ≤ 140737488355328 ∧ ∀ v ∈ vs, v.l.length ≤ 140737488355328 ∧ ∀ c ∈ v.l, CxMax c ∧ wtX c ≤ 562949953421312) (hcut : 0 ≤ cut ∧ cut ≤ 18446744073709551615) :
    Calls Tryz.prog 4 #[.slice lo vs.length cap, .int .u64 cut] w fun e w' => e = .returned (.bool true) ∧ Below w.heap.size w w' :=
  walk0 lo vs cap cut w he ht ue pv hE hL (fun v hv => (hX v hv).1) (fun v hv => ⟨(hF.2 v hv).1, fun c hc => ((hF.2 v hv).2 c hc).1, fun c hc => ⟨((hX v hv).2 c hc).1, ((hX v hv).2 c hc).2⟩, fun c hc => ((hF.2 v hv).2 c hc).2⟩) hF.1 hcut
end Go.Proofs.YtlamncldbnagmaaGreatDoor.walBack

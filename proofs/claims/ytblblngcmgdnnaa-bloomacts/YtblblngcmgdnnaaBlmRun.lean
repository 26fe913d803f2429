/-
  A FILTER OF A LAW'S OWN, and keys that came in.
-/
import Derived.Test.YtblblngcmgdnnaaBlmLives
import Derived.Test.YtblblngcmgdnnaaDskParts
namespace Go.Proofs.Ytblblngcmgdnnaa
open Go.RowKit

/-- The law's filter: all of it new since w0. -/
structure Fil (w0 w : World) (m : FM) (k : Nat) (l : List UInt8) : Prop where
  at_ : FAt w m k l
  d : w0.heap.size ≤ m.d
  g : w0.heap.size ≤ m.g
  B : Below w0.heap.size w0 w
theorem Fil.below {w0 w w' : World} {m : FM} {k : Nat} {l : List UInt8} (h : Fil w0 w m k l) (hB : Below w.heap.size w w') : Fil w0 w' m k l :=
  ⟨h.at_.below hB (Nat.le_refl _), h.d, h.g, h.B.trans (hB.mono h.B.size)⟩
theorem Fil.grown {w0 w w' : World} {m : FM} {k : Nat} {l l' : List UInt8} (h : Fil w0 w m k l) (hF : FAt w' m k l') (hg : w.grownBy w' (some m.g)) : Fil w0 w' m k l' := by
  refine ⟨hF, h.d, h.g, h.B.trans ⟨hg.os, hg.tape, hg.output, hg.size, fun i hi => hg.block i (by have := h.B.size; omega) (fun e => ?_)⟩⟩
  have := h.g
  cases e
  omega
/-- Keys that came in. -/
structure Keys (w0 : World) (ao : Option Addr) (P : List PartV) : Prop where
  see : PSees w0 ao P
  cap : ∀ q ∈ P, q.bs.length ≤ q.cap
  big : P.length ≤ 140737488351232
  len : ∀ q ∈ P, q.bs.length ≤ 140737488351232
theorem Keys.part {w0 : World} {ao : Option Addr} {P : List PartV} (h : Keys w0 ao P) {i : Nat} {p : PartV} (hp : P[i]? = some p) {w : World} (hB : Below w0.heap.size w0 w) :
    Sees w p.ao p.bs ∧ p.bs.length ≤ p.cap ∧ p.bs.length ≤ 140737488354000 := by
  have hm : p ∈ P := List.mem_of_getElem? hp
  refine ⟨(h.see i p hp).2.1.below hB (Nat.le_refl _), h.cap p hm, ?_⟩
  have := h.len p hm
  omega
theorem fil_add {w0 w : World} {m : FM} {k : Nat} {l : List UInt8} {ao : Option Addr} {P : List PartV} (h : Fil w0 w m k l) (hK : Keys w0 ao P) {i : Nat} {p : PartV} (hp : P[i]? = some p) :
    Calls Try.prog 15 #[m.v, .slice p.ao p.bs.length p.cap] w fun e w' => e = .returned (.tuple #[]) ∧ Fil w0 w' m k (addK l (sumB p.bs 0#64) k) ∧ w.grownBy w' (some m.g) := by
  obtain ⟨h1, h2, h3⟩ := hK.part hp h.B
  refine (add_any h.at_ p.ao p.bs p.cap h3 h2 h1).mono ?_
  rintro e w' ⟨rfl, hF, hg⟩
  exact ⟨rfl, h.grown hF hg, hg⟩
theorem fil_may {w0 w : World} {m : FM} {k : Nat} {l : List UInt8} {ao : Option Addr} {P : List PartV} (h : Fil w0 w m k l) (hK : Keys w0 ao P) {i : Nat} {p : PartV} (hp : P[i]? = some p) :
    Calls Try.prog 13 #[m.v, .slice p.ao p.bs.length p.cap] w fun e w' => e = .returned (.bool (mayK l (sumB p.bs 0#64) k)) ∧ Fil w0 w' m k l ∧ Below w.heap.size w w' := by
  obtain ⟨h1, h2, h3⟩ := hK.part hp h.B
  refine (may_any h.at_ p.ao p.bs p.cap h3 h2 h1).mono ?_
  rintro e w' ⟨rfl, hB⟩
  exact ⟨rfl, h.below hB, hB⟩
set_option maxRecDepth 100000 in
set_option maxHeartbeats 1000000 in
theorem few_any (w0 w : World) (ao : Option Addr) (P : List PartV) (cap : Nat) (hK : Keys w0 ao P) (hB : Below w0.heap.size w0 w) :
    Calls Try.prog 8 #[.slice ao P.length cap] w fun e w' => ∃ b : Bool, e = .returned (.bool b) ∧ (b = true → totP P ≤ 5000) ∧ w' = w := by
  have hbig := hK.big
  go_enter Try.func8, Try.ntmps8
  go_wp2_with fail
  go_loopw [3, 8] (fun s3 s8 wr => ∃ i : Nat, i ≤ P.length ∧ s3 = .int .i64 (totP (P.take i) : Int) ∧ s8 = .int .i64 (i : Int) ∧ totP (P.take i) ≤ 5000 ∧ wr = w) (fun _ s8 _ => P.length - (intOf s8).toNat)
  case atStart => exact ⟨0, Nat.zero_le _, rfl, rfl, by simp [totP], rfl⟩
  case round =>
    obtain ⟨i, hi, rfl, rfl, ht, rfl⟩ := hrel
    rcases Nat.lt_or_ge i P.length with hlt | hge
    · obtain ⟨p, hp⟩ : ∃ p, P[i]? = some p := ⟨_, List.getElem?_eq_getElem hlt⟩
      obtain ⟨⟨b, off, e, hc⟩, _⟩ := hK.see i p hp
      have hst := totP_step hp
      have hl := hK.len p (List.mem_of_getElem? hp)
      subst e
      have hcell : wr.cell? ⟨b, off + i, none⟩ = some (.slice p.ao p.bs.length p.cap) := by rw [hB.cell (World.block_lt_of_cell? _ _ hc), hc]
      obtain ⟨t, et⟩ : ∃ t, totP (P.take i) = t := ⟨_, rfl⟩
      rw [et] at ht hst ⊢
      have Hst : Hid (totP (P.take (i + 1)) = t + (1 + p.bs.length)) := hst
      clear hst et
      rcases Nat.lt_or_ge 5000 (t + (1 + p.bs.length)) with hg | hg
      · go_wp2_with fail
        go_ret
        exact ⟨false, rfl, (fun h => Bool.noConfusion h), rfl⟩
      · go_wp2_with fail
        refine ⟨⟨i + 1, by omega, ?_, by simp, by rw [Hst.out]; omega, trivial⟩, by simp only [intOf]; omega⟩
        rw [Hst.out]
        simp
    · obtain rfl : i = P.length := by omega
      go_wp2_with fail
      go_ret
      rw [List.take_length] at ht
      exact ⟨true, rfl, fun _ => ht, rfl⟩
end Go.Proofs.Ytblblngcmgdnnaa

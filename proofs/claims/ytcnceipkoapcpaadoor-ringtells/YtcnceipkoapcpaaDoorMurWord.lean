/-
  CONTRACTS: murmur's word and the document's eight, each for every bytes.
-/
import Derived.Test.YtcnceipkoapcpaaDoorMurMix
import Derived.Test.YtcnceipkoapcpaaDoorOwn
namespace Go.Proofs.YtcnceipkoapcpaaDoor
open Go.RowKit

/-- An element's cell. -/
theorem sees_atM {w : World} {ao : Option Addr} {l : List UInt8} (h : Sees w ao l) {n : Nat} (hn : n < l.length) : ∃ b off, ao = some ⟨b, off, none⟩ ∧ w.cell? ⟨b, off + n, none⟩ = some (.int .u8 ((l.getD n 0).toNat : Int)) := by
  obtain ⟨a, rfl, hc⟩ := h n hn
  obtain ⟨a', e, hc0⟩ := h 0 (by omega)
  obtain rfl := Option.some.inj e
  obtain ⟨b, off, spot⟩ := a
  have hspot : spot = none := by simpa [Addr.add] using World.cell?_spot hc0
  subst hspot
  exact ⟨b, off, rfl, by rw [Addr.add_lit] at hc; exact hc⟩
/-- What a round of word's text reckons. -/
theorem or_textM (k x : Nat) (acc : BitVec 64) (hx : x < 256) :
    bits BinOp.or IntKind.u64 (acc.toNat : Int) (IntKind.u64.wrap ((x : Int) * 2 ^ (8 * k))) = ((acc ||| (BitVec.ofNat 64 x <<< (8 * k))).toNat : Int) := by
  have e : ((x : Int) * 2 ^ (8 * k)) = ((BitVec.ofNat 64 x).toNat : Int) * ((2 ^ (8 * k) : Nat) : Int) := by
    rw [← u_lit x (by omega)]
    simp
  rw [e, u_shl, u_or]

set_option maxRecDepth 100000 in
theorem word_anyM (ao : Option Addr) (l : List UInt8) (cap : Nat) (w : World) (hl : l.length ≤ 140737488354000) (hs : Sees w ao l) :
    Calls Tryd.prog 46 #[.slice ao l.length cap] w fun e w' => e = .returned (.int .u64 ((wordB l).toNat : Int)) ∧ w' = w := by
  rcases Nat.lt_or_ge 8 l.length with h8 | h8
  all_goals
    have hI : if 8 < l.length then (8 : Int) < (l.length : Int) else ¬ (8 : Int) < (l.length : Int) := by split <;> omega
    first | rw [if_pos h8] at hI | rw [if_neg (by omega)] at hI
    go_enter Tryd.func46, Tryd.ntmps46
    go_wp2
    go_loop [3, 8] (fun t i => ∃ k : Nat, k ≤ min l.length 8 ∧ i = .int .i64 k ∧ t = .int .u64 ((wordUp l k).toNat : Int)) (fun _ i => 8 - (intOf i).toNat)
    case atStart => exact ⟨0, Nat.zero_le _, rfl, rfl⟩
    case round =>
      obtain ⟨k, hk, rfl, rfl⟩ := hrel
      by_cases hlt : k < min l.length 8
      · obtain ⟨b, off, rfl, hc⟩ := sees_atM hs (n := k) (by omega)
        have hx := (l.getD k 0).toNat_lt
        have Hor : Hid _ := or_textM k (l.getD k 0).toNat (wordUp l k) hx
        have Hst : Hid (wordUp l (k + 1) = wordUp l k ||| (BitVec.ofNat 64 (l.getD k 0).toNat <<< (8 * k))) := rfl
        have hb := bv_bd (wordUp l k)
        generalize wordUp l k = acc at *
        generalize (l.getD k 0).toNat = x at *
        have h1 : k < l.length := by omega
        have h2 : k < 8 := by omega
        go_wp2
        go_round
        case rel => exact ⟨k + 1, by omega, by go_num, by rw [Hst.out, ← Hor.out]⟩
        case measure => simp [intOf]; omega
      · have h1 : k = l.length ∨ k = 8 := by omega
        have h2 : Hid (min l.length 8 = k) := by show _ = _; omega
        go_wp2
        go_ret
        exact ⟨ret_int (by unfold wordB; rw [h2.out]), rfl⟩

set_option maxRecDepth 100000 in
theorem eight_any (ao : Option Addr) (l : List UInt8) (cap at' : Nat) (w : World) (hl : l.length ≤ 140737488354000) (hat : at' ≤ l.length) (hs : Sees w ao l) :
    Calls Tryd.prog 52 #[.slice ao l.length cap, .int .i64 at'] w fun e w' => e = .returned (.int .u64 ((wordB (l.drop at')).toNat : Int)) ∧ w' = w := by
  have hd : (l.drop at').length = l.length - at' := List.length_drop
  go_enter Tryd.func52, Tryd.ntmps52
  go_wp2
  go_loop [5, 6] (fun t i => ∃ k : Nat, k ≤ min (l.drop at').length 8 ∧ i = .int .i64 k ∧ t = .int .u64 ((wordUp (l.drop at') k).toNat : Int)) (fun _ i => 8 - (intOf i).toNat)
  case atStart => exact ⟨0, Nat.zero_le _, rfl, rfl⟩
  case round =>
    obtain ⟨k, hk, rfl, rfl⟩ := hrel
    rw [hd] at hk
    by_cases hlt : k < min (l.length - at') 8
    · obtain ⟨b, off, rfl, hc⟩ := sees_atM hs (n := at' + k) (by omega)
      have hg : (l.drop at').getD k 0 = l.getD (at' + k) 0 := by simp [List.getD, List.getElem?_drop]
      have hx := (l.getD (at' + k) 0).toNat_lt
      have Hor : Hid _ := or_textM k (l.getD (at' + k) 0).toNat (wordUp (l.drop at') k) hx
      have Hst : Hid (wordUp (l.drop at') (k + 1) = wordUp (l.drop at') k ||| (BitVec.ofNat 64 (l.getD (at' + k) 0).toNat <<< (8 * k))) := by rw [← hg]; rfl
      have hb := bv_bd (wordUp (l.drop at') k)
      clear hg
      generalize wordUp (l.drop at') k = acc at *
      generalize (l.getD (at' + k) 0).toNat = x at *
      have h1 : at' + k < l.length := by omega
      have h2 : k < 8 := by omega
      go_wp2
      go_round
      case rel => exact ⟨k + 1, by omega, by go_num, by rw [Hst.out, ← Hor.out]⟩
      case measure => simp [intOf]; omega
    · have h2 : Hid (min (l.drop at').length 8 = k) := by show _ = _; omega
      by_cases h8 : k < 8
      all_goals
        go_wp2
        go_ret
        exact ⟨ret_int (by unfold wordB; rw [h2.out]), rfl⟩
end Go.Proofs.YtcnceipkoapcpaaDoor

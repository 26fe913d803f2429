/-
  CONTRACT: a text that bytes begin with, by the document.
-/
import Derived.Test.YtniilnifhgdhcaaDoorKeyRefText
import Derived.Test.YtniilnifhgdhcaaDoorKeyRead
import Derived.DataElems
namespace Go.Proofs.YtniilnifhgdhcaaDoor
open Go.RowKit

theorem Sees.at {w : World} {a : Addr} {l : List UInt8} (h : Sees w (some a) l) (i : Nat) (hi : i < l.length) : w.cell? (a.add i) = some (.int .u8 ((l.getD i 0).toNat : Int)) := by
  obtain ⟨a', e, hc⟩ := h i hi
  obtain rfl := Option.some.inj e
  exact hc
theorem drop_two (l : List UInt8) (k : Nat) (h : k + 1 < l.length) : l.drop k = l.getD k 0 :: l.getD (k + 1) 0 :: l.drop (k + 2) := by
  rw [List.drop_eq_getElem_cons (by omega : k < l.length), List.drop_eq_getElem_cons h]
  have e1 : l.getD k 0 = l[k] := by simp [List.getD, show k < l.length by omega]
  have e2 : l.getD (k + 1) 0 = l[k + 1] := by simp [List.getD, h]
  rw [e1, e2]
theorem drop_one (l : List UInt8) (k : Nat) (h : k < l.length) : l.drop k = l.getD k 0 :: l.drop (k + 1) := by
  rw [List.drop_eq_getElem_cons h]
  have e1 : l.getD k 0 = l[k] := by simp [List.getD, h]
  rw [e1]
theorem tk_short (l : List UInt8) (h : l.length ≤ 1) : tk l = none := by
  match l, h with
  | [], _ => rfl
  | [_], _ => rfl
/-- What the document takes. -/
def Tk (w : World) (l : List UInt8) (cap : Nat) (e : Ending) (w' : World) : Prop :=
  (∃ n : Nat, w' = w.drewN n) ∧ ((∃ s k ao, tk l = some (s, l.drop k) ∧ k ≤ l.length ∧ Sees w ao (l.drop k) ∧ (ao = none → (l.drop k).length = 0) ∧ e = .returned (.tuple #[.string (strB s), .slice ao (l.length - k) (cap - k), .bool true])) ∨ (tk l = none ∧ e = .returned (.tuple #[.string ⟨#[]⟩, .slice none 0 0, .bool false])))
theorem Sees.dropAdd {w : World} {a : Addr} {l : List UInt8} (h : Sees w (some a) l) (k : Nat) : Sees w (some (a.add k)) (l.drop k) := by
  intro i hi
  rw [List.length_drop] at hi
  refine ⟨_, rfl, ?_⟩
  rw [Addr.add_add, h.at (k + i) (by omega)]
  simp [List.getD]
set_option maxRecDepth 100000 in
set_option maxHeartbeats 2000000 in
theorem taken_some (a : Addr) (l : List UInt8) (cap : Nat) (w : World) (hs : Sees w (some a) l) (hc : l.length ≤ cap) (hl : l.length ≤ 100000) :
    Calls Tryd.prog 39 #[.slice (some a) l.length cap] w fun e w' => Tk w l cap e w' := by
  have hli : (l.length : Int) ≤ 100000 := by omega

  have HSees : Hid (Sees w (some a) l) := hs
  have HS : Hid (∀ i, i < l.length → w.cell? (a.add i) = some (.int .u8 ((l.getD i 0).toNat : Int))) := hs.at
  clear hs
  go_enter Tryd.func39, Tryd.ntmps39
  go_wp2_with fail
  go_loop [5, 6] (fun s5 s6 => ∃ (k : Nat) (T : List UInt8), k ≤ l.length ∧ T.length ≤ k ∧ s6 = .int .i64 k ∧ s5 = .string (strB T) ∧ tk l = (tk (l.drop k)).map fun q => (T ++ q.1, q.2)) (fun _ s6 => l.length - (intOf s6).toNat)
  case atStart => exact ⟨0, [], by omega, by simp, rfl, rfl, by simp⟩
  case round =>
    obtain ⟨k, T, hk, hT, rfl, rfl, htk⟩ := hrel
    have HT : Hid (tk l = (tk (l.drop k)).map fun q => (T ++ q.1, q.2)) := htk
    have hTs : (strB T).size ≤ 100000 := by rw [strB_size]; omega
    clear htk
    by_cases hlt : k + 1 < l.length
    · have hlti : (k : Int) + 1 < (l.length : Int) := by omega
      have hlt2 : (k : Int) < (l.length : Int) := by omega
      have b0 := HS.out k (by omega)
      have b1 := HS.out (k + 1) hlt
      rw [Addr.add_succ'] at b1
      have HD := drop_two l k hlt
      have HD1 := drop_one l k (by omega)
      obtain ⟨c, hcc⟩ : ∃ c, c = l.getD k 0 := ⟨_, rfl⟩
      obtain ⟨d, hdd⟩ : ∃ d, d = l.getD (k + 1) 0 := ⟨_, rfl⟩
      rw [← hcc] at b0 HD HD1
      rw [← hdd] at b1 HD
      clear hcc hdd
      obtain ⟨x, hx⟩ : ∃ x, (c.toNat : Int) = x := ⟨_, rfl⟩
      obtain ⟨y, hy⟩ : ∃ y, (d.toNat : Int) = y := ⟨_, rfl⟩
      rw [hx] at b0
      rw [hy] at b1
      by_cases h0 : c = 0
      · have hx0 : x = 0 := by rw [← hx, h0]; rfl
        subst hx0
        by_cases hd0 : d = 0
        · have hy0 : y = 0 := by rw [← hy, hd0]; rfl
          subst hy0
          have HE : Hid (tk l = some (T, l.drop (k + 2))) := by
            show _ = _
            rw [HT.out, HD, h0, hd0, tk_end]; simp
          have HL : Hid (Sees w (some (a.add (k + 2))) (l.drop (k + 2))) := HSees.out.dropAdd (k + 2)
          have hk2 : (k : Int) + 2 ≤ (l.length : Int) := by omega
          have hk2n : k + 2 ≤ l.length := by omega
          clear h0 hd0 HD HD1 HT hx hy HS
          by_cases hcap2 : cap = k + 2
          · have hl0 : l.length = k + 2 := by omega
            have hdn : (l.drop (k + 2)).length = 0 := by rw [List.length_drop]; omega
            have HZ : Hid (Sees w (some a) (l.drop (k + 2))) := fun i hi => by omega
            have HK2 : Hid (l.length - (k + 2) = 0) := by show _ = 0; omega
            clear HL hdn
            go_wp2_with fail
            go_quiet (fail)
            go_wp2_with fail
            go_ret3
            exact ⟨⟨nq, rfl⟩, Or.inl ⟨T, k + 2, some a, HE.out, hk2n, HZ.out, (fun h => by cases h), by rw [hl0, hcap2]; rfl⟩⟩
          · go_wp2_with fail
            go_quiet (fail)
            go_wp2_with fail
            go_ret3
            exact ⟨⟨nq, rfl⟩, Or.inl ⟨T, k + 2, some (a.add (k + 2)), HE.out, hk2n, HL.out, (fun h => by cases h), rfl⟩⟩
        · have hy0 : (y == 0) = false := by
            rw [beq_eq_false_iff_ne]; rintro rfl; apply hd0; apply UInt8.toNat_inj.1; show _ = 0; omega
          by_cases hd1 : d = 255
          · have hy1 : y = 255 := by rw [← hy, hd1]; rfl
            subst hy1
            have HE : Hid (tk l = (tk (l.drop (k + 2))).map fun q => (T ++ [0] ++ q.1, q.2)) := by
              show _ = _
              rw [HT.out, HD, h0, hd1, tk_more, Option.map_map]
              congr 1; funext q; simp
            have hcat : strB T ++ ⟨#[0]⟩ = strB (T ++ [0]) := strB_app T [0]
            clear h0 hd0 hd1 HD HD1 HT hx hy HS hy0
            go_wp2_with fail
            exact ⟨⟨k + 2, T ++ [0], by omega, by simp; omega, by go_num, rfl, HE.out⟩, by simp [intOf]; omega⟩
          · have hy1 : (y == 255) = false := by
              rw [beq_eq_false_iff_ne]; rintro rfl; apply hd1; apply UInt8.toNat_inj.1; show _ = 255; omega
            have HN : Hid (tk l = none) := by show _ = _; rw [HT.out, HD, h0, tk_bad hd0 hd1]; rfl
            clear h0 hd0 hd1 HD HD1 HT hx hy HS
            go_wp2_with fail
            go_ret3
            exact ⟨⟨0, rfl⟩, Or.inr ⟨HN.out, rfl⟩⟩
      · have hx0 : (x == 0) = false := by
          rw [beq_eq_false_iff_ne]; rintro rfl; apply h0; apply UInt8.toNat_inj.1; show _ = 0; omega
        have HE : Hid (tk l = (tk (l.drop (k + 1))).map fun q => (T ++ [c] ++ q.1, q.2)) := by
          show _ = _
          rw [HT.out, HD1, tk_ne h0, Option.map_map]
          congr 1; funext q; simp
        have hconv : Sem.run Tryd.prog (convert 32 9 (.slice (some (a.add k)) 1 (cap - k))) w = .ok (.string (strB [c])) w := by
          refine conv_sees (l := [c]) (ao := some (a.add k)) (fun i hi => ?_) (fun h => by cases h) (cap - k)
          obtain rfl : i = 0 := by simpa using hi
          refine ⟨_, rfl, ?_⟩
          rw [Addr.add_zero', b0]; simp [hx]
        have hcat : strB T ++ strB [c] = strB (T ++ [c]) := strB_app T [c]
        have z1 : (strB [c]).size = 1 := by rw [strB_size]; rfl
        clear h0 HD HD1 HT hy b1 hx
        go_wp2_with fail
        exact ⟨⟨k + 1, T ++ [c], by omega, by simp; omega, by go_num, rfl, HE.out⟩, by simp [intOf]; omega⟩
    · have hn : tk l = none := by rw [HT.out, tk_short _ (by rw [List.length_drop]; omega)]; rfl
      have HN : Hid (tk l = none) := hn
      clear hn HT
      have hge : decide ((k : Int) + 1 < (l.length : Int)) = false := decide_eq_false (by omega)
      go_wp2_with fail
      go_ret3
      exact ⟨⟨0, rfl⟩, Or.inr ⟨HN.out, rfl⟩⟩
theorem taken_none (cap : Nat) (w : World) : Calls Tryd.prog 39 #[.slice none 0 cap] w fun e w' => Tk w [] cap e w' := by
  go_enter Tryd.func39, Tryd.ntmps39
  go_wp2_with fail
  go_loop [5, 6] (fun s5 s6 => s6 = .int .i64 0) (fun _ _ => 0)
  case atStart => rfl
  case round =>
    obtain rfl := hrel
    go_wp2_with fail
    go_ret3
    exact ⟨⟨0, rfl⟩, Or.inr ⟨rfl, rfl⟩⟩
theorem taken_any (ao : Option Addr) (l : List UInt8) (cap : Nat) (w : World) (hs : Sees w ao l) (hn : ao = none → l.length = 0) (hc : l.length ≤ cap) (hl : l.length ≤ 100000) :
    Calls Tryd.prog 39 #[.slice ao l.length cap] w fun e w' => Tk w l cap e w' := by
  cases ao with
  | none =>
    obtain rfl : l = [] := List.eq_nil_of_length_eq_zero (hn rfl)
    exact taken_none cap w
  | some a => exact taken_some a l cap w hs hc hl
end Go.Proofs.YtniilnifhgdhcaaDoor

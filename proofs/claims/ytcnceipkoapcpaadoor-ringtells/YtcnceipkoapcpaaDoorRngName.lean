/-
  CONTRACTS: digits of a number below ten (the library's Itoa, the document's Digits); a point's name; its token.
-/
import Derived.Test.YtcnceipkoapcpaaDoorRngRange
namespace Go.Proofs.YtcnceipkoapcpaaDoor
open Go.RowKit

def dg (n : Nat) : ByteArray := ⟨#[UInt8.ofNat (48 + n)]⟩
theorem dg_size (n : Nat) : (dg n).size = 1 := rfl
set_option maxRecDepth 100000 in
theorem smallI_any (n : Nat) (hn : n < 10) (w : World) : Calls Tryd.prog 68 #[.int .i64 (n : Int)] w fun e w' => e = .returned (.string (dg n)) ∧ w' = w := by
  have key : ∀ (m : Nat) (u : World), m < 10 → m = n → Calls Tryd.prog 68 #[.int .i64 (n : Int)] u fun e w' => e = .returned (.string (dg n)) ∧ w' = u := by
    intro m u hm he
    subst he
    match m, hm with
    | 0, _ => go_enter Tryd.func68, Tryd.ntmps68; go_wp2_with fail; go_ret; exact ⟨rfl, rfl⟩
    | 1, _ => go_enter Tryd.func68, Tryd.ntmps68; go_wp2_with fail; go_ret; exact ⟨rfl, rfl⟩
    | 2, _ => go_enter Tryd.func68, Tryd.ntmps68; go_wp2_with fail; go_ret; exact ⟨rfl, rfl⟩
    | 3, _ => go_enter Tryd.func68, Tryd.ntmps68; go_wp2_with fail; go_ret; exact ⟨rfl, rfl⟩
    | 4, _ => go_enter Tryd.func68, Tryd.ntmps68; go_wp2_with fail; go_ret; exact ⟨rfl, rfl⟩
    | 5, _ => go_enter Tryd.func68, Tryd.ntmps68; go_wp2_with fail; go_ret; exact ⟨rfl, rfl⟩
    | 6, _ => go_enter Tryd.func68, Tryd.ntmps68; go_wp2_with fail; go_ret; exact ⟨rfl, rfl⟩
    | 7, _ => go_enter Tryd.func68, Tryd.ntmps68; go_wp2_with fail; go_ret; exact ⟨rfl, rfl⟩
    | 8, _ => go_enter Tryd.func68, Tryd.ntmps68; go_wp2_with fail; go_ret; exact ⟨rfl, rfl⟩
    | 9, _ => go_enter Tryd.func68, Tryd.ntmps68; go_wp2_with fail; go_ret; exact ⟨rfl, rfl⟩
  exact key n w hn rfl
set_option maxRecDepth 100000 in
theorem formatI_any (n : Nat) (hn : n < 10) (w : World) : Calls Tryd.prog 57 #[.int .i64 (n : Int), .int .i64 10] w fun e w' => e = .returned (.string (dg n)) ∧ w' = w := by
  have C : Hid (Calls Tryd.prog 68 #[.int .i64 (n : Int)] w fun e w' => e = .returned (.string (dg n)) ∧ w' = w) := smallI_any n hn w
  have h0 : (0 : Int) ≤ (n : Int) := by omega
  have h1 : (n : Int) < 100 := by omega
  go_enter Tryd.func57, Tryd.ntmps57
  go_wp2_with (go_at_call 68; refine C.out.mono ?_; rintro e w1 ⟨rfl, hw⟩; obtain rfl := hw.symm; clear hw)
  go_ret
  exact ⟨rfl, rfl⟩
set_option maxRecDepth 100000 in
theorem itoaI_any (n : Nat) (hn : n < 10) (w : World) : Calls Tryd.prog 36 #[.int .i64 (n : Int)] w fun e w' => e = .returned (.string (dg n)) ∧ w' = w := by
  have C : Hid (Calls Tryd.prog 57 #[.int .i64 (n : Int), .int .i64 10] w fun e w' => e = .returned (.string (dg n)) ∧ w' = w) := formatI_any n hn w
  have D : Hid (Calls Tryd.prog 48 #[.int .i64 (n : Int)] w fun e w' => e = .returned (.string (dg n)) ∧ w' = w) := by
    go_enter Tryd.func48, Tryd.ntmps48
    go_wp2_with (go_at_call 57; refine C.out.mono ?_; rintro e w1 ⟨rfl, hw⟩; obtain rfl := hw.symm; clear hw)
    go_ret
    exact ⟨rfl, rfl⟩
  clear C
  go_enter Tryd.func36, Tryd.ntmps36
  go_wp2_with (go_at_call 48; refine D.out.mono ?_; rintro e w1 ⟨rfl, hw⟩; obtain rfl := hw.symm; clear hw)
  go_ret
  exact ⟨rfl, rfl⟩
/-- What a point is hashed by. -/
def nmP (n i : Nat) : ByteArray := ⟨#[110]⟩ ++ dg n ++ ⟨#[45]⟩ ++ dg i
theorem nmP_size (n i : Nat) : (nmP n i).size = 4 := by
  unfold nmP
  simp only [ByteArray.size_append, dg_size]
  rfl
def tkP (n i : Nat) : Int := tokenB (nmP n i)
set_option maxRecDepth 100000 in
theorem nameR_any (n i : Nat) (hn : n < 10) (hi : i < 10) (w : World) : Calls Tryd.prog 25 #[.int .i64 (n : Int), .int .i64 (i : Int)] w fun e w' => e = .returned (.string (nmP n i)) ∧ w' = w := by
  have C1 : Hid (Calls Tryd.prog 36 #[.int .i64 (n : Int)] w fun e w' => e = .returned (.string (dg n)) ∧ w' = w) := itoaI_any n hn w
  have C2 : Hid (Calls Tryd.prog 36 #[.int .i64 (i : Int)] w fun e w' => e = .returned (.string (dg i)) ∧ w' = w) := itoaI_any i hi w
  have HN : Hid (nmP n i = ⟨#[110]⟩ ++ dg n ++ ⟨#[45]⟩ ++ dg i) := rfl
  have s1 := dg_size n
  have s2 := dg_size i
  generalize dg n = a at *
  generalize dg i = b at *
  go_enter Tryd.func25, Tryd.ntmps25
  go_wp2_with (first | (go_at_call 36; refine C1.out.mono ?_; rintro e w1 ⟨rfl, hw⟩; obtain rfl := hw.symm; clear hw C1) | (go_at_call 36; refine C2.out.mono ?_; rintro e w1 ⟨rfl, hw⟩; obtain rfl := hw.symm; clear hw))
  go_ret
  exact ⟨by rw [HN.out]; rfl, rfl⟩
theorem tokenP_any (n i : Nat) (w : World) : Calls Tryd.prog 24 #[.string (nmP n i)] w fun e w' => e = .returned (.int .i64 (tkP n i)) ∧ Below w.heap.size w w' := token_any _ w (by rw [nmP_size]; omega)
theorem refTokenP_any (n i : Nat) (w : World) : Calls Tryd.prog 27 #[.string (nmP n i)] w fun e w' => e = .returned (.int .i64 (tkP n i)) ∧ Below w.heap.size w w' := refToken_any _ w (by rw [nmP_size]; omega)
end Go.Proofs.YtcnceipkoapcpaaDoor

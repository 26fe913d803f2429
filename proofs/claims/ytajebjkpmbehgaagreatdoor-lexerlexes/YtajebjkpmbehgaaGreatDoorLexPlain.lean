/-
  PLAIN: a statement's tokens.
-/
import Derived.Test.YtajebjkpmbehgaaGreatDoorKeyName
import Derived.Shelf.Strconv.AtoiAll
import Derived.Lib.Case
namespace Go.Proofs.YtajebjkpmbehgaaGreatDoor
open Go.RowKit

def blB (b : UInt8) : Bool := decide (b.toNat = 32 ∨ b.toNat = 9 ∨ b.toNat = 10 ∨ b.toNat = 13)
def ltB (b : UInt8) : Bool := decide ((97 ≤ b.toNat ∧ b.toNat ≤ 122) ∨ (65 ≤ b.toNat ∧ b.toNat ≤ 90))
def dgB (b : UInt8) : Bool := decide (48 ≤ b.toNat ∧ b.toNat ≤ 57)
def wdB (b : UInt8) : Bool := ltB b || dgB b || decide (b.toNat = 95)
def plB (b : UInt8) : Bool := decide (32 ≤ b.toNat ∧ b.toNat ≤ 126 ∧ b.toNat ≠ 39 ∧ b.toNat ≠ 37)
/-- Is what comes here another - (so that a note begins)? -/
def dash : List UInt8 → Bool
  | [] => false
  | b :: _ => decide (b.toNat = 45)
/-- How many bytes stand ahead of a token: blanks and notes (in a note already, or not). -/
def skB : Bool → List UInt8 → Nat
  | _, [] => 0
  | true, b :: r => skB (!decide (b.toNat = 10)) r + 1
  | false, b :: r => if blB b then skB false r + 1 else if decide (b.toNat = 45) && dash r then skB true r + 1 else 0
/-- How many bytes digits take, between two of which there may be a _ (behind a digit, or not). -/
def dgN : Bool → List UInt8 → Nat
  | _, [] => 0
  | bd, b :: r => if dgB b then dgN true r + 1 else if decide (b.toNat = 95) && bd then (if dgN false r = 0 then 0 else dgN false r + 1) else 0
def wdN : List UInt8 → Nat
  | [] => 0
  | b :: r => if wdB b then wdN r + 1 else 0
def hexB (b : UInt8) : Option Nat := if 48 ≤ b.toNat ∧ b.toNat ≤ 57 then some (b.toNat - 48) else if 65 ≤ b.toNat ∧ b.toNat ≤ 70 then some (b.toNat - 55) else none
/-- The character that stands here: its byte, and how many it takes. -/
def chB : List UInt8 → Option (UInt8 × Nat)
  | [] => none
  | b :: r => if plB b then some (b, 1) else if b.toNat = 37 then
      (match r with
      | h :: g :: _ => (match hexB h, hexB g with
        | some x, some y => some (UInt8.ofNat (16 * x + y), 3)
        | _, _ => none)
      | _ => none) else none
/-- The rest of a quoted text behind k characters, where j bytes more are of the one ahead: its characters and how many bytes they take with the end's; else how many stand ahead of the byte that is wrong. -/
def qtR : Nat → Nat → List UInt8 → Option (List UInt8) × Nat
  | _, _, [] => (none, 0)
  | j + 1, k, _ :: r => ((qtR j k r).1, (qtR j k r).2 + 1)
  | 0, k, b :: r => if b.toNat = 39 then (some [], 1) else match chB (b :: r) with
    | none => (none, 0)
    | some (c, m) => if k = 64 then (none, 0) else ((qtR (m - 1) (k + 1) r).1.map (c :: ·), (qtR (m - 1) (k + 1) r).2 + 1)
/-- How many bytes an operator takes. -/
def opN : List UInt8 → Nat
  | [] => 0
  | b :: r => if b.toNat = 62 then (match r with | c :: _ => if c.toNat = 61 then 2 else 0 | [] => 0) else if b.toNat = 61 ∨ b.toNat = 60 ∨ b.toNat = 40 ∨ b.toNat = 41 ∨ b.toNat = 44 ∨ b.toNat = 42 then 1 else 0
def wordsU : List (List UInt8) := [[67, 82, 69, 65, 84, 69], [84, 65, 66, 76, 69], [80, 82, 73, 77, 65, 82, 89], [75, 69, 89], [73, 78, 83, 69, 82, 84], [73, 78, 84, 79], [86, 65, 76, 85, 69, 83], [85, 83, 73, 78, 71], [84, 73, 77, 69, 83, 84, 65, 77, 80], [67, 79, 78, 83, 73, 83, 84, 69, 78, 67, 89], [85, 80, 68, 65, 84, 69], [83, 69, 84], [87, 72, 69, 82, 69], [65, 78, 68], [68, 69, 76, 69, 84, 69], [70, 82, 79, 77], [83, 69, 76, 69, 67, 84], [76, 73, 77, 73, 84], [79, 78, 69], [81, 85, 79, 82, 85, 77], [65, 76, 76], [84, 69, 88, 84], [73, 78, 84]]
def isWd (l : List UInt8) : Bool := wordsU.contains (Lib.toUpperA l)
/-- A token: its kind, its text, its value (kind, number, text), its place. -/
structure Tk where
  kind : Int
  s : List UInt8
  vk : Int
  vn : Int
  vs : List UInt8
  b : Nat
  e : Nat
deriving DecidableEq
def Tk.at (t : Tk) (p : Nat) : Tk := { t with b := t.b + p, e := t.e + p }
def numT (l : List UInt8) : Option Tk × Nat :=
  let f := if dash l then 1 else 0
  let n := f + dgN false (l.drop f)
  match Lib.atoiAll ((l.take n).filter (fun b => !decide (b.toNat = 95))) with
  | .ok v => (some ⟨4, [], 1, v, [], 0, n⟩, 0)
  | _ => (none, 0)
def qtT (r : List UInt8) : Option Tk × Nat := match qtR 0 0 r with
  | (some t, n) => (some ⟨4, [], 2, 0, t, 0, n + 1⟩, 0)
  | (none, n) => (none, n + 1)
def wdT (l : List UInt8) : Option Tk × Nat :=
  let w := l.take (wdN l)
  if isWd w then (some ⟨2, Lib.toUpperA w, 0, 0, [], 0, w.length⟩, 0) else if nameB (Lib.toLowerA w) then (some ⟨3, Lib.toLowerA w, 0, 0, [], 0, w.length⟩, 0) else (none, 0)
def opT (l : List UInt8) : Option Tk × Nat := if opN l = 0 then (none, 0) else (some ⟨1, l.take (opN l), 0, 0, [], 0, opN l⟩, 0)
/-- The token that begins here; else the byte that is wrong. -/
def oneT : List UInt8 → Option Tk × Nat
  | [] => (some ⟨0, [], 0, 0, [], 0, 0⟩, 0)
  | b :: r => if dgB b || decide (b.toNat = 45) then numT (b :: r) else if b.toNat = 39 then qtT r else if ltB b then wdT (b :: r) else opT (b :: r)
/-- The first token from a byte on; else the byte that is wrong. -/
def nxT (l : List UInt8) (p : Nat) : Option Tk × Nat :=
  let q := p + skB false (l.drop p)
  let x := oneT (l.drop q)
  (x.1.map (·.at q), if x.1.isSome then 0 else x.2 + q)
/-- All tokens from a byte on (the first number is how many rounds there may be). -/
def lxT : Nat → List UInt8 → Nat → Option (List Tk) × Nat
  | 0, _, _ => (none, 0)
  | n + 1, l, p => match nxT l p with
    | (none, m) => (none, m)
    | (some t, _) => if t.kind = 0 then (some [t], 0) else ((lxT n l t.e).1.map (t :: ·), (lxT n l t.e).2)
/-- Next, with its number of the error. -/
def nextT (l : List UInt8) (at_ : Int) : Option Tk × Nat × Int :=
  if 600 < l.length then (none, 0, 17) else if at_ < 0 ∨ (l.length : Int) < at_ then (none, 0, 6) else
    match nxT l at_.toNat with
    | (some t, _) => (some t, 0, 0)
    | (none, m) => (none, m, 11)
/-- Lex, with its number of the error. -/
def lexT (l : List UInt8) : Option (List Tk) × Nat × Int :=
  if 600 < l.length then (none, 0, 17) else match lxT (l.length + 1) l 0 with
    | (some t, _) => (some t, 0, 0)
    | (none, m) => (none, m, 11)

/-! Bytes that are taken, and what is beyond. -/
theorem skB_high : ∀ (n : Nat) (l : List UInt8), n ≤ l.length → (∀ j, j < n → ∃ b, l[j]? = some b ∧ 128 ≤ b.toNat) → skB true l = n + skB true (l.drop n)
  | 0, l, _, _ => by simp
  | n + 1, [], h, _ => by simp at h
  | n + 1, b :: r, h, hh => by
    obtain ⟨c, hc, hcz⟩ := hh 0 (by omega)
    simp only [List.getElem?_cons_zero, Option.some.injEq] at hc
    subst hc
    have e : decide (b.toNat = 10) = false := decide_eq_false (by omega)
    have ih := skB_high n r (by simpa using h) (fun j hj => by
      obtain ⟨c, hc, hcz⟩ := hh (j + 1) (by omega)
      exact ⟨c, by simpa using hc, hcz⟩)
    rw [skB, e, Bool.not_false, ih, List.drop_succ_cons]
    omega
theorem skB_le : ∀ (n : Bool) (l : List UInt8), skB n l ≤ l.length
  | n, [] => by cases n <;> simp [skB]
  | true, b :: r => by have := skB_le (!decide (b.toNat = 10)) r; simp only [skB, List.length_cons]; omega
  | false, b :: r => by
    have h1 := skB_le false r
    have h2 := skB_le true r
    simp only [skB, List.length_cons]
    repeat' split
    all_goals omega
theorem dgN_le : ∀ (n : Bool) (l : List UInt8), dgN n l ≤ l.length
  | n, [] => by simp [dgN]
  | n, b :: r => by
    have h1 := dgN_le false r
    have h2 := dgN_le true r
    simp only [dgN, List.length_cons]
    repeat' split
    all_goals omega
theorem wdN_le : ∀ (l : List UInt8), wdN l ≤ l.length
  | [] => by simp [wdN]
  | b :: r => by have h1 := wdN_le r; simp only [wdN, List.length_cons]; split <;> omega
theorem wdN_all : ∀ (l : List UInt8), ∀ b ∈ l.take (wdN l), wdB b = true
  | [], b, h => by simp at h
  | c :: r, b, h => by
    simp only [wdN] at h
    split at h
    · rename_i hc
      rw [List.take_succ_cons, List.mem_cons] at h
      rcases h with rfl | h
      · exact hc
      · exact wdN_all r b h
    · simp at h
theorem skB_stop : ∀ (n : Bool) (l : List UInt8), skB false (l.drop (skB n l)) = 0
  | n, [] => by cases n <;> simp [skB]
  | true, b :: r => by simp only [skB]; rw [List.drop_succ_cons]; exact skB_stop _ r
  | false, b :: r => by
    simp only [skB]
    split
    · rw [List.drop_succ_cons]; exact skB_stop _ r
    · split
      · rw [List.drop_succ_cons]; exact skB_stop _ r
      · rename_i h1 h2
        rw [List.drop_zero]
        simp [skB, h1, h2]
end Go.Proofs.YtajebjkpmbehgaaGreatDoor

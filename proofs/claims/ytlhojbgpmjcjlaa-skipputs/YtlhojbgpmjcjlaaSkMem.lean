/-
  A SKIP LIST IN MEMORY: towers, their links; what is first, what is last on a level.
-/
import Derived.Test.YtlhojbgpmjcjlaaBlk
import Derived.Test.YtlhojbgpmjcjlaaSrtPlain
namespace Go.Proofs.Ytlhojbgpmjcjlaa
open Go.RowKit

/-- A tower: its block, its cell, the height that it was given, in how many levels it stands. -/
structure Tw where
  g : Nat
  c : Cx
  hv : Nat
  h : Nat
/-- The first tower that stands in a level. -/
def firstH (l : Nat) : List Tw → Option Nat
  | [] => none
  | t :: T => if l < t.h then some t.g else firstH l T
/-- The last one, or what is ahead of them. -/
def lastH (l : Nat) : Nat → List Tw → Nat
  | d, [] => d
  | d, t :: T => lastH l (if l < t.h then t.g else d) T
theorem firstH_skip {l : Nat} : ∀ {X : List Tw} (R : List Tw), (∀ t ∈ X, ¬ l < t.h) → firstH l (X ++ R) = firstH l R
  | [], _, _ => rfl
  | t :: X, R, h => by
    rw [List.cons_append, firstH, if_neg (h t (by simp))]
    exact firstH_skip R fun t ht => h t (by simp [ht])
theorem firstH_hit {l : Nat} {X : List Tw} {t : Tw} (R : List Tw) (h : ∀ t ∈ X, ¬ l < t.h) (ht : l < t.h) : firstH l (X ++ t :: R) = some t.g := by
  rw [firstH_skip _ h, firstH, if_pos ht]
theorem lastH_append (l : Nat) : ∀ (d : Nat) (X Y : List Tw), lastH l d (X ++ Y) = lastH l (lastH l d X) Y
  | _, [], _ => rfl
  | d, t :: X, Y => by rw [List.cons_append, lastH, lastH, lastH_append]
theorem lastH_hit {l : Nat} (d : Nat) (X : List Tw) {t : Tw} (R : List Tw) (ht : l < t.h) : lastH l d (X ++ t :: R) = lastH l t.g R := by
  rw [lastH_append, lastH, if_pos ht]
theorem lastH_skip {l : Nat} : ∀ {X : List Tw} (d : Nat), (∀ t ∈ X, ¬ l < t.h) → lastH l d X = d
  | [], _, _ => rfl
  | t :: X, d, h => by
    rw [lastH, if_neg (h t (by simp))]
    exact lastH_skip d fun t ht => h t (by simp [ht])
/-- Towers are parted at the first one that stands in a level. -/
theorem firstH_part (l : Nat) : ∀ A : List Tw, (∀ t ∈ A, ¬ l < t.h) ∨ ∃ X t Y, A = X ++ t :: Y ∧ (∀ t ∈ X, ¬ l < t.h) ∧ l < t.h
  | [] => .inl fun t h => by cases h
  | t :: A => by
    by_cases ht : l < t.h
    · exact .inr ⟨[], t, A, rfl, (fun t h => by cases h), ht⟩
    · rcases firstH_part l A with h | ⟨X, u, Y, rfl, hX, hu⟩
      · exact .inl fun u hu => by
          rcases List.mem_cons.1 hu with rfl | hu
          · exact ht
          · exact h u hu
      · exact .inr ⟨t :: X, u, Y, rfl, (fun v hv => by
          rcases List.mem_cons.1 hv with rfl | hv
          · exact ht
          · exact hX v hv), hu⟩
theorem lastH_part (l d : Nat) (A : List Tw) : ((∀ t ∈ A, ¬ l < t.h) ∧ lastH l d A = d) ∨ ∃ X t Y, A = X ++ t :: Y ∧ l < t.h ∧ (∀ t ∈ Y, ¬ l < t.h) ∧ lastH l d A = t.g := by
  rcases List.eq_nil_or_concat A with rfl | ⟨A', t, rfl⟩
  · exact .inl ⟨fun t h => (by cases h), rfl⟩
  · rw [List.concat_eq_append]
    by_cases ht : l < t.h
    · exact .inr ⟨A', t, [], rfl, ht, fun t h => (by cases h), by rw [lastH_hit d A' [] ht]; rfl⟩
    · rcases lastH_part l d A' with ⟨h, e⟩ | ⟨X, u, Y, rfl, hu, hY, e⟩
      · refine .inl ⟨fun u hu => ?_, ?_⟩
        · rcases List.mem_append.1 hu with hu | hu
          · exact h u hu
          · obtain rfl : u = t := by simpa using hu
            exact ht
        · rw [lastH_append, e, lastH, if_neg ht]; rfl
      · refine .inr ⟨X, u, Y ++ [t], by simp, hu, fun v hv => ?_, ?_⟩
        · rcases List.mem_append.1 hv with hv | hv
          · exact hY v hv
          · obtain rfl : v = t := by simpa using hv
            exact ht
        · rw [lastH_append, e, lastH, if_neg ht]; rfl
termination_by A.length

/-! ### In memory -/
def pt (o : Option Nat) : Value := .pointer (o.map fun g => ⟨g, 0, none⟩)
theorem pt_none : pt none = .pointer none := rfl
theorem pt_some (g : Nat) : pt (some g) = .pointer (some ⟨g, 0, none⟩) := rfl
/-- A tower's link in a level. -/
def lnk (h : Nat) (R : List Tw) (l : Nat) : Value := pt (if l < h then firstH l R else none)
theorem lnk_in {h l : Nat} (R : List Tw) (hl : l < h) : lnk h R l = pt (firstH l R) := by unfold lnk; rw [if_pos hl]
def twL (c : Cx) (hv : Nat) (n : Nat → Value) : List Value := xs10 c ++ [.int .i64 hv, n 0, n 1, n 2, n 3, n 4, n 5, n 6, n 7]
def TwAt (w : World) (g : Nat) (c : Cx) (hv h : Nat) (R : List Tw) : Prop := Blk w g (twL c hv (lnk h R)) 72
theorem twL_next (c : Cx) (hv : Nat) (n : Nat → Value) {l : Nat} (hl : l < 8) : (twL c hv n)[11 + l]? = some (n l) := by
  match l, hl with
  | 0, _ => rfl
  | 1, _ => rfl
  | 2, _ => rfl
  | 3, _ => rfl
  | 4, _ => rfl
  | 5, _ => rfl
  | 6, _ => rfl
  | 7, _ => rfl
theorem twL_set (c : Cx) (hv : Nat) (n : Nat → Value) {l : Nat} (hl : l < 8) (v : Value) : (twL c hv n).set (11 + l) v = twL c hv (fun i => if i = l then v else n i) := by
  match l, hl with
  | 0, _ => rfl
  | 1, _ => rfl
  | 2, _ => rfl
  | 3, _ => rfl
  | 4, _ => rfl
  | 5, _ => rfl
  | 6, _ => rfl
  | 7, _ => rfl
theorem twL_ext (c : Cx) (hv : Nat) {n m : Nat → Value} (h : ∀ l, l < 8 → n l = m l) : twL c hv n = twL c hv m := by
  unfold twL
  rw [h 0 (by omega), h 1 (by omega), h 2 (by omega), h 3 (by omega), h 4 (by omega), h 5 (by omega), h 6 (by omega), h 7 (by omega)]
theorem TwAt.next {w : World} {g : Nat} {c : Cx} {hv h : Nat} {R : List Tw} (t : TwAt w g c hv h R) {l : Nat} (hl : l < 8) (hh : l < h) : w.cell? ⟨g, 11 + l, none⟩ = some (pt (firstH l R)) := by
  rw [← lnk_in R hh]; exact Blk.cell t _ (twL_next _ _ _ hl)
theorem TwAt.lt {w : World} {g : Nat} {c : Cx} {hv h : Nat} {R : List Tw} (t : TwAt w g c hv h R) : g < w.heap.size := Blk.lt t
theorem TwAt.carry {w w' : World} {g : Nat} {c : Cx} {hv h : Nat} {R : List Tw} (t : TwAt w g c hv h R) (e : w'.heap[g]? = w.heap[g]?) : TwAt w' g c hv h R := Blk.carry t e
theorem TwAt.ten {w : World} {g : Nat} {c : Cx} {hv h : Nat} {R : List Tw} (t : TwAt w g c hv h R) : TenX w g 0 c := by
  constructor <;> exact Blk.cell t _ rfl
theorem TwAt.height {w : World} {g : Nat} {c : Cx} {hv h : Nat} {R : List Tw} (t : TwAt w g c hv h R) : w.cell? ⟨g, 10, none⟩ = some (.int .i64 hv) := Blk.cell t _ rfl
/-- Towers in memory, each linked to those behind it. -/
def Chain (w : World) : List Tw → Prop
  | [] => True
  | t :: R => TwAt w t.g t.c t.hv t.h R ∧ Chain w R
theorem Chain.at {w : World} : ∀ {A : List Tw} {t : Tw} {R : List Tw}, Chain w (A ++ t :: R) → TwAt w t.g t.c t.hv t.h R
  | [], _, _, h => h.1
  | _ :: A, _, _, h => Chain.at (A := A) h.2
theorem Chain.tail {w : World} : ∀ {A : List Tw} {R : List Tw}, Chain w (A ++ R) → Chain w R
  | [], _, h => h
  | _ :: A, _, h => Chain.tail (A := A) h.2
theorem Chain.carry {w w' : World} : ∀ {T : List Tw}, Chain w T → (∀ t ∈ T, w'.heap[t.g]? = w.heap[t.g]?) → Chain w' T
  | [], _, _ => trivial
  | t :: R, h, e => ⟨h.1.carry (e t (by simp)), Chain.carry h.2 fun u hu => e u (by simp [hu])⟩
theorem Chain.lt {w : World} : ∀ {T : List Tw}, Chain w T → ∀ t ∈ T, t.g < w.heap.size
  | [], _, _, h => by cases h
  | t :: R, h, u, hu => by
    rcases List.mem_cons.1 hu with rfl | hu
    · exact h.1.lt
    · exact Chain.lt h.2 u hu
def noX : Cx := ⟨⟨⟨#[]⟩, ⟨#[]⟩, 0, ⟨#[]⟩⟩, zeroV⟩
/-- The head and the towers. -/
structure Towers (w : World) (hd : Nat) (T : List Tw) : Prop where
  head : TwAt w hd noX 0 8 T
  chain : Chain w T
  nodup : (hd :: T.map Tw.g).Nodup
theorem Towers.carry {w w' : World} {hd : Nat} {T : List Tw} (h : Towers w hd T) (e : ∀ b, b < w.heap.size → b ∈ hd :: T.map Tw.g → w'.heap[b]? = w.heap[b]?) : Towers w' hd T :=
  ⟨h.head.carry (e _ h.head.lt (by simp)), h.chain.carry fun t ht => e _ (h.chain.lt t ht) (by simp; exact .inr ⟨t, ht, rfl⟩), h.nodup⟩
theorem Towers.below {w w' : World} {hd : Nat} {T : List Tw} (h : Towers w hd T) {B : Nat} (hb : Below B w w') (hB : w.heap.size ≤ B) : Towers w' hd T := h.carry fun b hlt _ => hb.block b (by omega)
end Go.Proofs.Ytlhojbgpmjcjlaa

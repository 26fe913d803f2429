/-
  PLAIN: a cell is put into a list of cells with heights; towers in memory, one of them turned, a new one among them.
-/
import Derived.Test.YtlhojbgpmjcjlaaSkNew2
import Derived.Test.YtlhojbgpmjcjlaaSkGet
import Derived.Test.YtlhojbgpmjcjlaaCxPlain
namespace Go.Proofs.Ytlhojbgpmjcjlaa
open Go.RowKit

/-- A cell is put in, with that height where it is new. -/
def putH (H : Nat) : List (Cx × Nat) → Cx → List (Cx × Nat)
  | [], c => [(c, H)]
  | x :: M, c => if kx x.1 c = 0 then (jnC x.1 c, x.2) :: M else if 0 < kx x.1 c then (c, H) :: x :: M else x :: putH H M c
theorem putH_same {H : Nat} {x : Cx × Nat} {c : Cx} (M : List (Cx × Nat)) (h : kx x.1 c = 0) : putH H (x :: M) c = (jnC x.1 c, x.2) :: M := by rw [putH, if_pos h]
theorem putH_ahead {H : Nat} {x : Cx × Nat} {c : Cx} (M : List (Cx × Nat)) (h : 0 < kx x.1 c) : putH H (x :: M) c = (c, H) :: x :: M := by rw [putH, if_neg (by omega), if_pos h]
theorem putH_behind {H : Nat} {x : Cx × Nat} {c : Cx} (M : List (Cx × Nat)) (h : kx x.1 c < 0) : putH H (x :: M) c = x :: putH H M c := by rw [putH, if_neg (by omega), if_neg (by omega)]
theorem putH_skip {H : Nat} {c : Cx} : ∀ {A : List (Cx × Nat)} (R : List (Cx × Nat)), (∀ a ∈ A, kx a.1 c < 0) → putH H (A ++ R) c = A ++ putH H R c
  | [], _, _ => rfl
  | a :: A, R, h => by rw [List.cons_append, putH_behind _ (h a (by simp)), putH_skip R fun b hb => h b (by simp [hb])]; rfl
theorem putH_fst (H : Nat) : ∀ (M : List (Cx × Nat)) (c : Cx), (putH H M c).map Prod.fst = addC (M.map Prod.fst) c
  | [], _ => rfl
  | x :: M, c => by
    by_cases h0 : kx x.1 c = 0
    · rw [putH_same _ h0, List.map_cons, List.map_cons, addC_same _ h0]
    · by_cases h1 : 0 < kx x.1 c
      · rw [putH_ahead _ h1, List.map_cons, List.map_cons, addC_ahead _ h1]
      · rw [putH_behind _ (by omega), List.map_cons, List.map_cons, addC_behind _ (by omega), putH_fst H M c]
/-- What a list holds. -/
def Tw.p (t : Tw) : Cx × Nat := (t.c, t.h)
/-- The next height. -/
def nextH (hs : List Nat) (n : Nat) : Nat := hs.getD (n % hs.length) 1
def putM (hs : List Nat) (M : List (Cx × Nat)) (c : Cx) : List (Cx × Nat) := putH (nextH hs M.length) M c
theorem putM_fst (hs : List Nat) (M : List (Cx × Nat)) (c : Cx) : (putM hs M c).map Prod.fst = addC (M.map Prod.fst) c := putH_fst _ M c

/-! ### Memory -/
theorem firstH_c {l : Nat} {t t' : Tw} (hg : t'.g = t.g) (hh : t'.h = t.h) (R : List Tw) : ∀ Y : List Tw, firstH l (Y ++ t' :: R) = firstH l (Y ++ t :: R)
  | [] => by show firstH l (t' :: R) = firstH l (t :: R); rw [firstH, firstH, hg, hh]
  | y :: Y => by rw [List.cons_append, List.cons_append, firstH, firstH, firstH_c hg hh R Y]
theorem lnk_c {h : Nat} {t t' : Tw} (hg : t'.g = t.g) (hh : t'.h = t.h) (Y R : List Tw) : lnk h (Y ++ t' :: R) = lnk h (Y ++ t :: R) := by
  funext l; unfold lnk; rw [firstH_c hg hh R Y]
/-- One tower's cell is turned. -/
theorem Towers.turn {w w' : World} {hd : Nat} {A R : List Tw} {t : Tw} (h : Towers w hd (A ++ t :: R)) (c' : Cx) (hb : TwAt w' t.g c' t.hv t.h R) (e : ∀ b, b ≠ t.g → b ∈ hd :: (A ++ t :: R).map Tw.g → w'.heap[b]? = w.heap[b]?) : Towers w' hd (A ++ ⟨t.g, c', t.hv, t.h⟩ :: R) := by
  have hnd := h.nodup
  have h2 : (hd :: (A.map Tw.g ++ t.g :: R.map Tw.g)).Nodup := by simpa using hnd
  obtain ⟨n1, n2⟩ := List.nodup_cons.1 h2
  obtain ⟨-, n3, n4⟩ := List.nodup_append.1 n2
  refine ⟨?_, Chain.mk fun A1 u R1 hs => ?_, by simpa using hnd⟩
  · have := h.head.carry (e hd (fun e2 => n1 (by rw [e2]; simp)) (by simp))
    unfold TwAt at this ⊢
    rwa [lnk_c (t := t) (t' := ⟨t.g, c', t.hv, t.h⟩) rfl rfl A R]
  · rcases split3 hs with ⟨Y, rfl, rfl⟩ | ⟨rfl, rfl, rfl⟩ | ⟨Z, rfl, rfl⟩
    · have hc := h.chain
      rw [show A1 ++ u :: Y ++ t :: R = A1 ++ u :: (Y ++ t :: R) by simp] at hc
      have := hc.at.carry (e u.g (fun e2 => n4 u.g (by simp) t.g (by simp) e2) (by simp))
      unfold TwAt at this ⊢
      rwa [lnk_c (t := t) (t' := ⟨t.g, c', t.hv, t.h⟩) rfl rfl Y R]
    · exact hb
    · have hc := h.chain
      rw [show A ++ t :: (Z ++ u :: R1) = A ++ [t] ++ (Z ++ u :: R1) by simp] at hc
      exact (hc.tail (A := A ++ [t])).at.carry (e u.g (fun e2 => (List.nodup_cons.1 n3).1 (by rw [← e2]; simp)) (by simp))
theorem firstH_0 {l n H : Nat} {c : Cx} (R : List Tw) : ∀ Y : List Tw, firstH l (Y ++ ⟨n, c, H, 0⟩ :: R) = firstH l (Y ++ R)
  | [] => by show firstH l (⟨n, c, H, 0⟩ :: R) = firstH l R; rw [firstH, if_neg (show ¬ l < (Tw.mk n c H 0).h from Nat.not_lt_zero l)]
  | y :: Y => by rw [List.cons_append, List.cons_append, firstH, firstH, firstH_0 R Y]
theorem lnk_0 {h n H : Nat} {c : Cx} (Y R : List Tw) : lnk h (Y ++ ⟨n, c, H, 0⟩ :: R) = lnk h (Y ++ R) := by
  funext l; unfold lnk; rw [firstH_0 R Y]
/-- A new tower, in no level yet. -/
theorem Towers.insert {w w' : World} {hd n H : Nat} {c : Cx} {A R : List Tw} (h : Towers w hd (A ++ R)) (hb : TwAt w' n c H 0 R) (hn : w.heap.size ≤ n) (e : ∀ b, b < w.heap.size → w'.heap[b]? = w.heap[b]?) : Towers w' hd (A ++ ⟨n, c, H, 0⟩ :: R) := by
  have hlt : ∀ b ∈ hd :: (A ++ R).map Tw.g, b < w.heap.size := fun b hb => by
    rcases List.mem_cons.1 hb with rfl | hb
    · exact h.head.lt
    · obtain ⟨t, ht, rfl⟩ := List.mem_map.1 hb
      exact h.chain.lt t ht
  refine ⟨?_, Chain.mk fun A1 u R1 hs => ?_, ?_⟩
  · have := h.head.carry (e hd (hlt hd (by simp)))
    unfold TwAt at this ⊢
    rwa [lnk_0 A R]
  · rcases split3 hs with ⟨Y, rfl, rfl⟩ | ⟨rfl, rfl, rfl⟩ | ⟨Z, rfl, rfl⟩
    · have hc := h.chain
      rw [show A1 ++ u :: Y ++ R = A1 ++ u :: (Y ++ R) by simp] at hc
      have := hc.at.carry (e u.g (hlt u.g (by simp)))
      unfold TwAt at this ⊢
      rwa [lnk_0 Y R]
    · exact hb
    · exact (h.chain.tail (A := A)).at.carry (e u.g (hlt u.g (by simp)))
  · have hnd := h.nodup
    have h2 : ((hd :: A.map Tw.g) ++ R.map Tw.g).Nodup := by simpa using hnd
    have hnot : n ∉ (hd :: A.map Tw.g) ++ R.map Tw.g := fun hm => by
      have := hlt n (by simpa using hm)
      omega
    have h3 : ((hd :: A.map Tw.g) ++ n :: R.map Tw.g).Nodup := by
      rw [List.nodup_append] at h2 ⊢
      refine ⟨h2.1, List.nodup_cons.2 ⟨fun hm => hnot (List.mem_append.2 (.inr hm)), h2.2.1⟩, fun a ha b hb => ?_⟩
      rcases List.mem_cons.1 hb with rfl | hb
      · exact fun e => hnot (List.mem_append.2 (.inl (e ▸ ha)))
      · exact h2.2.2 a ha b hb
    simpa using h3
end Go.Proofs.Ytlhojbgpmjcjlaa

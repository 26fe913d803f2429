/-
  WHAT THE BOUND GIVES: lists of cells whose readings are together of small bulk.
-/
import Derived.Test.YtdpglmgnbhpneaaCxLaid
import Derived.JoinedCond
namespace Go.Proofs.Ytdpglmgnbhpneaa
open Go.ChangeShapes Go.WideShapes Go.ChangeAt Go.RowKit

theorem bulk_part {H : Type} {d : DataW H} {l : List (DataW H)} (h : d ∈ l) : Rows.uptoBulk d ≤ Rows.uptoBulkAll l := by
  induction l with
  | nil => cases h
  | cons x r ih =>
    simp only [Rows.uptoBulkAll]
    rcases List.mem_cons.1 h with e | e
    · subst e; omega
    · have := ih e; omega
theorem bulk_cx {H : Type} (c : Cx) : 11 + wtX c ≤ Rows.uptoBulk (cxD (H := H) c) := by
  have e : ∀ s : ByteArray, s.data.toList.length = s.size := fun s => by rw [Array.length_toList]; rfl
  simp only [cxD, kxD, vxD, sD, iD, Rows.uptoBulk, Rows.uptoBulkAll, wtX, e]
  omega
theorem bulk_cxs {H : Type} (l : List Cx) : 11 * l.length ≤ Rows.uptoBulkAll (l.map (cxD (H := H))) := by
  induction l with
  | nil => simp [Rows.uptoBulkAll]
  | cons c r ih =>
    have := bulk_cx (H := H) c
    simp only [List.map_cons, Rows.uptoBulkAll, List.length_cons]
    omega
theorem bulk_bound {H : Type} {l : List (DataW H)} (hk : Rows.uptoSmall H l = true) : Rows.uptoBulkAll l ≤ 1048576 := of_decide_eq_true hk
theorem bulk_list {H : Type} {d : DataW H} {l : List Cx} {B : Nat} (hb : Rows.uptoBulk d ≤ B) (hB : B ≤ 1048576) (h : l.length = 0 ∨ ∃ sp, d = .slice (l.map cxD) sp) : 11 * l.length ≤ B ∧ ∀ c ∈ l, wtX c ≤ 562949953421312 := by
  rcases h with h0 | ⟨sp, rfl⟩
  · obtain rfl : l = [] := List.eq_nil_of_length_eq_zero h0
    exact ⟨by simp, fun c hc => by cases hc⟩
  · simp only [Rows.uptoBulk] at hb
    have h1 := bulk_cxs (H := H) l
    refine ⟨by omega, fun c hc => ?_⟩
    have h2 := bulk_part (List.mem_map_of_mem (f := cxD (H := H)) hc)
    have h3 := bulk_cx (H := H) c
    omega
/-- A list of cells that came in, where all that came in is small. -/
theorem bulk_cells {H : Type} {d : DataW H} {ds : List (DataW H)} {l : List Cx} (hk : Rows.uptoSmall H ds = true) (hd : d ∈ ds) (h : l.length = 0 ∨ ∃ sp, d = .slice (l.map cxD) sp) : l.length ≤ 100000 ∧ ∀ c ∈ l, wtX c ≤ 562949953421312 := by
  have h1 := bulk_bound hk
  have h2 := bulk_part hd
  have h3 := bulk_list (B := 1048576) (by omega) (Nat.le_refl _) h
  exact ⟨by omega, h3.2⟩
end Go.Proofs.Ytdpglmgnbhpneaa

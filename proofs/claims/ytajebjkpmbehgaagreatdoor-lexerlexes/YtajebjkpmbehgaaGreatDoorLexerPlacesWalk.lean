/-
  THE WALK: tokens stand one behind the other.
-/
import Derived.Test.YtajebjkpmbehgaaGreatDoorLexLives
namespace Go.Proofs.YtajebjkpmbehgaaGreatDoor
open Go.RowKit

/-- A token's seven cells in a slice. -/
structure TkAt (w : World) (g k : Nat) (t : Tk) : Prop where
  c0 : w.cell? ⟨g, k, none⟩ = some (.int .i64 t.kind)
  c1 : w.cell? ⟨g, k + 1, none⟩ = some (.string (xB t.s))
  c2 : w.cell? ⟨g, k + 2, none⟩ = some (.int .i64 t.vk)
  c3 : w.cell? ⟨g, k + 3, none⟩ = some (.int .i64 t.vn)
  c4 : w.cell? ⟨g, k + 4, none⟩ = some (.string (xB t.vs))
  c5 : w.cell? ⟨g, k + 5, none⟩ = some (.int .i64 (t.b : Int))
  c6 : w.cell? ⟨g, k + 6, none⟩ = some (.int .i64 (t.e : Int))
theorem TkSee.at {w : World} {ao : Option Addr} {ts : List Tk} (h : TkSee w ao ts) {i : Nat} {t : Tk} (ht : ts[i]? = some t) : ∃ g, ao = some ⟨g, 0, none⟩ ∧ TkAt w g (i * 7) t := by
  obtain ⟨g, e, hc⟩ := h i t ht
  exact ⟨g, e, hc 0 _ rfl, hc 1 _ rfl, hc 2 _ rfl, hc 3 _ rfl, hc 4 _ rfl, hc 5 _ rfl, hc 6 _ rfl⟩
theorem lexT_ok {l : List UInt8} {ts : List Tk} {m : Nat} {e : Int} (h : lexT l = (some ts, m, e)) : m = 0 ∧ e = 0 ∧ l.length ≤ 600 ∧ Ch l 0 ts := by
  unfold lexT at h
  split at h
  · cases h
  · rename_i hl
    split at h
    · rename_i t x hx
      cases h
      exact ⟨rfl, rfl, by omega, (lxT_ok (l.length + 1) l 0 (Nat.zero_le _) (by omega)).1 _ _ hx⟩
    · cases h
theorem lexT_no {l : List UInt8} {m : Nat} {e : Int} (h : lexT l = (none, m, e)) : m ≤ l.length ∧ (e = 17 ∨ e = 11) := by
  unfold lexT at h
  split at h
  · cases h; exact ⟨Nat.zero_le _, .inl rfl⟩
  · split at h
    · cases h
    · rename_i x hx
      cases h
      exact ⟨(lxT_ok (l.length + 1) l 0 (Nat.zero_le _) (by omega)).2 _ hx, .inr rfl⟩
theorem Ch.ne {l : List UInt8} {p : Nat} {ts : List Tk} (h : Ch l p ts) : ts ≠ [] := by
  cases ts with
  | nil => exact h.elim
  | cons t r => simp
theorem ch_len : ∀ {ts : List Tk} {l : List UInt8} {p : Nat}, Ch l p ts → ts.length ≤ l.length - p + 1
  | [], _, _, h => h.elim
  | t :: r, l, p, h => by
    obtain ⟨ho, h⟩ := h
    have := ho.low
    have := ho.high
    rcases h with ⟨-, rfl⟩ | ⟨hk, hr⟩
    · simp
    · have := ch_len hr
      have := ho.more hk
      rw [List.length_cons]
      omega
namespace lexerPlaces
end lexerPlaces
end Go.Proofs.YtajebjkpmbehgaaGreatDoor

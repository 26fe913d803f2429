/-
  CONTRACTS: Read, whatever the bytes: the program's and the document's.
-/
import Derived.Test.YtblblngcmgdnnaaDoorBlmReadNo
import Derived.Test.YtblblngcmgdnnaaDoorBlmRefNone
import Derived.Test.YtblblngcmgdnnaaDoorBlmRefNo
import Derived.Test.YtblblngcmgdnnaaDoorBlmRefNoE
import Derived.Test.YtblblngcmgdnnaaDoorBlmRefOk
import Derived.Test.YtblblngcmgdnnaaDoorBlmInts
import Derived.Test.YtblblngcmgdnnaaDoorBlmLives
namespace Go.Proofs.YtblblngcmgdnnaaDoor
open Go.RowKit

/-- What Read tells of bytes: the filter, or none. -/
theorem readB (b off : Nat) (B : List UInt8) (cap : Nat) (w : World) (u : TypeId) (pv : Value) (he : Err w u pv) (hs : Sees w (some ⟨b, off, none⟩) B) (hcap : B.length < cap) (hcm : cap ≤ 9223372036854775807) (hl : B.length ≤ 10000) :
    Calls Tryd.prog 7 #[.slice (some ⟨b, off, none⟩) B.length cap] w fun e w' => (okF B = false ∧ e = .returned (.tuple #[.pointer none, .int .i64 8]) ∧ Below w.heap.size w w') ∨
      (okF B = true ∧ ∃ m : FM, e = .returned (.tuple #[m.v, .int .i64 0]) ∧ FAt w' m (getV B) (B.drop (getK B + getK (B.drop (getK B)))) ∧ w.heap.size ≤ m.d ∧ w.heap.size ≤ m.g ∧ Below w.heap.size w w') := by
  have hp := getK_le B
  have hq := getK_le (B.drop (getK B))
  rw [List.length_drop] at hq
  have hd : (B.drop (getK B)).length = B.length - getK B := List.length_drop
  have s1 : Sees w (some ⟨b, off + getK B, none⟩) (B.drop (getK B)) := sees_drop hs _
  cases hok : okF B
  · have hbad := hok
    unfold okF at hbad
    rw [decide_eq_false_iff_not] at hbad
    refine (read_no b off (getV B) (getV (B.drop (getK B))) (getK B) (getK (B.drop (getK B))) B.length cap w hcap (by omega) hp (by omega) (getV_lt _) (getV_lt _) (codGet_any _ B cap w u pv hs (by omega) he) (fun w1 hb c => ?_) hbad).mono (fun e w' h => .inl ⟨rfl, h.1, h.2⟩)
    have := codGet_any (some ⟨b, off + getK B, none⟩) (B.drop (getK B)) c w1 u pv (s1.below hb (Nat.le_refl _)) (by omega) (he.below hb (Nat.le_refl _))
    rwa [hd] at this
  · have hgood := hok
    unfold okF at hgood
    rw [decide_eq_true_eq] at hgood
    obtain ⟨a1, a2, a3, a4, a5⟩ := hgood
    have k1 : getK B ≠ 0 := fun e => by have := getK_zero e; omega
    have k2 : getK (B.drop (getK B)) ≠ 0 := fun e => by have := getK_zero e; omega
    have g1 := (get_canon k1).2.2.2
    have g2 := (get_canon k2).2.2.2
    have hll : (B.drop (getK B + getK (B.drop (getK B)))).length = getV (B.drop (getK B)) := by rw [List.length_drop, a5]
    rw [List.drop_drop] at g2
    refine (read_core b off (getV B) (getK B) (getK (B.drop (getK B))) B.length B (B.drop (getK B)) (B.drop (getK B + getK (B.drop (getK B)))) cap w hs rfl (by omega) hcm (by omega) g1 (by rw [hll]; exact g2) (by omega) (by omega) (by omega) (by omega) rfl (List.drop_drop ..) a1 a2 (by omega) (by omega)).mono ?_
    rintro e w' ⟨m, h⟩
    exact .inr ⟨rfl, m, h⟩
theorem refReadB (ao : Option Addr) (B : List UInt8) (cap : Nat) (w : World) (hs : Sees w ao B) (hcap : B.length ≤ cap) (hl : B.length ≤ 10000) :
    Calls Tryd.prog 8 #[.slice ao B.length cap] w fun e w' => (okF B = false ∧ e = .returned (.tuple #[.pointer none, .int .i64 8]) ∧ Below w.heap.size w w') ∨
      (okF B = true ∧ ∃ m : FM, e = .returned (.tuple #[m.v, .int .i64 0]) ∧ RAt w' m (getV B) (B.drop (getK B + getK (B.drop (getK B)))) ∧ w.heap.size ≤ m.d ∧ w.heap.size ≤ m.g ∧ Below w.heap.size w w') := by
  have hp := getK_le B
  have hq := getK_le (B.drop (getK B))
  rw [List.length_drop] at hq
  have hd : (B.drop (getK B)).length = B.length - getK B := List.length_drop
  have G1 := refGet_any ao B cap w hs (by omega)
  by_cases hn : getK B = 0 ∨ getV B < 1 ∨ 16 < getV B
  · have hok : okF B = false := by
      unfold okF
      rw [decide_eq_false_iff_not]
      rcases hn with h | h
      · have := getK_zero h; omega
      · omega
    refine (refRead_none ao (getV B) (getK B) B.length cap w (getV_lt _) G1 hn).mono ?_
    rintro e w' ⟨rfl, rfl⟩
    exact .inl ⟨hok, rfl, Below.refl _ _⟩
  · have hpos : 0 < B.length := by omega
    obtain ⟨b, off, rfl, _⟩ := sees_at hs hpos
    have s1 : Sees w (some ⟨b, off + getK B, none⟩) (B.drop (getK B)) := sees_drop hs _
    have G2 : ∀ c, Calls Tryd.prog 23 #[.slice (some ⟨b, off + getK B, none⟩) (B.length - getK B) c] w fun e w' => e = .returned (.tuple #[.int .u64 (getV (B.drop (getK B)) : Int), .int .i64 (getK (B.drop (getK B)) : Int)]) ∧ w' = w := fun c => by
      have := refGet_any (some ⟨b, off + getK B, none⟩) (B.drop (getK B)) c w s1 (by omega)
      rwa [hd] at this
    have G3 : ∀ (a : Option Addr) c, B.length - getK B = 0 → Calls Tryd.prog 23 #[.slice a 0 c] w fun e w' => e = .returned (.tuple #[.int .u64 (getV (B.drop (getK B)) : Int), .int .i64 (getK (B.drop (getK B)) : Int)]) ∧ w' = w := fun a c h0 => by
      have e0 : B.drop (getK B) = [] := List.eq_nil_of_length_eq_zero (by omega)
      rw [e0]
      exact refGet_any a [] c w (Sees.nil _ _) (by simp)
    have GA : ∀ (a : Option Addr) c, (getK B < B.length → a = some ⟨b, off + getK B, none⟩) → Calls Tryd.prog 23 #[.slice a (B.length - getK B) c] w fun e w' => e = .returned (.tuple #[.int .u64 (getV (B.drop (getK B)) : Int), .int .i64 (getK (B.drop (getK B)) : Int)]) ∧ w' = w := fun a c h => by
      rcases Nat.lt_or_ge (getK B) B.length with h1 | h1
      · rw [h h1]; exact G2 c
      · have h0 : B.length - getK B = 0 := by omega
        rw [h0]; exact G3 a c h0
    have fin : okF B = false → Calls Tryd.prog 8 #[.slice (some ⟨b, off, none⟩) B.length cap] w (fun e w' => e = .returned (.tuple #[.pointer none, .int .i64 8]) ∧ w' = w) → Calls Tryd.prog 8 #[.slice (some ⟨b, off, none⟩) B.length cap] w fun e w' => (okF B = false ∧ e = .returned (.tuple #[.pointer none, .int .i64 8]) ∧ Below w.heap.size w w') ∨
      (okF B = true ∧ ∃ m : FM, e = .returned (.tuple #[m.v, .int .i64 0]) ∧ RAt w' m (getV B) (B.drop (getK B + getK (B.drop (getK B)))) ∧ w.heap.size ≤ m.d ∧ w.heap.size ≤ m.g ∧ Below w.heap.size w w') := fun hok hc => hc.mono (by
        rintro e w' ⟨rfl, rfl⟩
        exact .inl ⟨hok, rfl, Below.refl _ _⟩)
    have hnok : ¬ (1 ≤ getV B ∧ getV B ≤ 16 ∧ 1 ≤ getV (B.drop (getK B)) ∧ getV (B.drop (getK B)) ≤ 400000 ∧ B.length - (getK B + getK (B.drop (getK B))) = getV (B.drop (getK B))) → okF B = false := fun h => by unfold okF; rw [decide_eq_false_iff_not]; exact h
    have hvl := getV_lt (B.drop (getK B))
    have hz := fun e => getK_zero (l := B.drop (getK B)) e
    by_cases q0 : getK (B.drop (getK B)) = 0
    · refine fin (hnok (by have := hz q0; omega)) ?_
      by_cases hpc : getK B < cap
      · exact refRead_noA b off (getV B) (getV (B.drop (getK B))) (getK B) (getK (B.drop (getK B))) B.length cap w (by omega) (by omega) hp (by omega) (by omega) (by omega) (by omega) hvl G1 GA q0 hpc
      · obtain rfl : cap = B.length := by omega
        have hpe : getK B = B.length := by omega
        have GE := fun a c => G3 a c (by omega)
        rw [q0] at GE
        rw [hpe] at G1
        exact refRead_noE b off (getV B) (getV (B.drop (getK B))) B.length w (by omega) (by omega) (by omega) (by omega) G1 GE
    · have h1 : ((getK (B.drop (getK B)) : Int) == 0) = false := by simp; omega
      by_cases c1 : getV (B.drop (getK B)) < 1
      · exact fin (hnok (by omega)) (refRead_noB b off (getV B) (getV (B.drop (getK B))) (getK B) (getK (B.drop (getK B))) B.length cap w (by omega) (by omega) hp (by omega) (by omega) (by omega) (by omega) hvl G1 GA h1 c1)
      · by_cases c2 : 400000 < getV (B.drop (getK B))
        · exact fin (hnok (by omega)) (refRead_noC b off (getV B) (getV (B.drop (getK B))) (getK B) (getK (B.drop (getK B))) B.length cap w (by omega) (by omega) hp (by omega) (by omega) (by omega) (by omega) hvl G1 GA h1 (by omega) c2)
        · by_cases c3 : B.length - (getK B + getK (B.drop (getK B))) = getV (B.drop (getK B))
          · have hok : okF B = true := by unfold okF; rw [decide_eq_true_eq]; omega
            have hll : (B.drop (getK B + getK (B.drop (getK B)))).length = getV (B.drop (getK B)) := by rw [List.length_drop, c3]
            refine (refRead_ok b off (getV B) (getK B) (getK (B.drop (getK B))) B.length (B.drop (getK B + getK (B.drop (getK B)))) cap w (by omega) (by omega) (by omega) (by omega) (by omega) (by omega) (by omega) (by omega) (by omega) G1 (fun c => by rw [hll]; exact G2 c) (sees_drop hs _)).mono ?_
            rintro e w' ⟨m, h⟩
            exact .inr ⟨hok, m, h⟩
          · exact fin (hnok (by omega)) (refRead_noD b off (getV B) (getV (B.drop (getK B))) (getK B) (getK (B.drop (getK B))) B.length cap w (by omega) (by omega) hp (by omega) (by omega) (by omega) (by omega) hvl G1 GA h1 (by omega) (by omega) (by simp; omega))
end Go.Proofs.YtblblngcmgdnnaaDoor

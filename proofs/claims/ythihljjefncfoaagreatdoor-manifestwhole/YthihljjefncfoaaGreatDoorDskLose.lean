/-
  CONTRACT: what a file has behind a failure, for every file in memory.
-/
import Derived.Test.YthihljjefncfoaaGreatDoorDskFile
import Derived.Test.YthihljjefncfoaaGreatDoorDskShelf
import Derived.Deep.DeepFit
namespace Go.Proofs.YthihljjefncfoaaGreatDoor
open Go.RowKit Go.Maps

/-- How many of a file's places are ahead of the end. -/
def keptN (e : Ent) (x : Nat) : Nat := e.pl.countP (· < x)
/-- How many bytes a file has behind a failure. -/
def lostAt (e : Ent) (x : Nat) : Nat := if keptN e x = 0 then e.wr else min e.bs.length ((e.wr / 16 + keptN e x) * 16)
/-- What a file is behind a failure. -/
def loseE (e : Ent) (x : Nat) : Ent := endE e (lostAt e x)
theorem lostAt_le {e : Ent} (h : e.wr ≤ e.bs.length) (x : Nat) : lostAt e x ≤ e.bs.length := by unfold lostAt; split <;> omega
theorem I64_at (l : List Nat) (i : Nat) (h : i < l.length) : (I64D l)[i]? = some (.int .i64 ((l.getD i 0 : Nat) : Int)) := by simp [I64D, h]
theorem count_cast (l : List Nat) (x : Nat) : (l.map fun n : Nat => (n : Int)).countP (· < (x : Int)) = l.countP (· < x) := by
  rw [List.countP_map]
  congr 1
  funext n
  simp
theorem search_any {w : World} {e : Ent} (h : EntAt w e) (hp : e.pl.Pairwise (· < ·)) (hm : e.pl.length ≤ 1099511627776) (x : Nat) :
    ∃ b, Calls Tryz.prog 96 #[e.v2, .int .i64 (x : Int)] w fun z w' => z = .returned (.tuple #[.int .i64 (keptN e x : Int), .bool b]) ∧ ∃ q, w' = w.drewN q := by
  rcases h.row2.2 with ⟨hv, hl⟩ | ⟨g, cap, cur, hv, _⟩
  · rw [hv]
    have hz : e.pl = [] := List.eq_nil_of_length_eq_zero hl
    refine ⟨false, (Tryz.slices_BinarySearch_int_empty none 0 x w).mono ?_⟩
    rintro z w' ⟨rfl, rfl⟩
    refine ⟨?_, 0, rfl⟩
    simp [keptN, hz]
  · rw [hv]
    refine ⟨((e.pl.map fun n : Nat => (n : Int)).take e.pl.length).contains (x : Int), (Tryz.slices_BinarySearch_int g 0 e.pl.length cap (e.pl.map fun n : Nat => (n : Int)) x w (by simp) (by omega) ?_ ?_).mono ?_⟩
    · intro j hj
      rw [List.length_map] at hj
      have := h.row2.cells (g := g) (by rw [hv]; rfl) j _ (I64_at e.pl j hj)
      rw [Addr.add_lit] at this
      rw [this]
      simp [List.getD, hj]
    · rw [List.take_of_length_le (by simp), List.pairwise_map]
      exact hp.imp fun h => by omega
    · rintro z w' ⟨rfl, q, rfl⟩
      refine ⟨?_, q, rfl⟩
      rw [List.take_of_length_le (by simp), count_cast]
      rfl

set_option maxRecDepth 100000 in
set_option maxHeartbeats 4000000 in
theorem lose_any {w : World} {e : Ent} (h : EntAt w e) (hp : e.pl.Pairwise (· < ·)) (hm : e.pl.length ≤ 1099511627776) (hw : e.wr ≤ e.bs.length) (hl : e.bs.length ≤ 1099511627776) (x : Nat) :
    Calls Tryz.prog 55 #[.pointer (some ⟨e.b, 0, none⟩), .int .i64 (x : Int)] w fun z w' => z = .returned (.tuple #[]) ∧ EntAt w' (loseE e x) ∧ Moved w w' e.foot (loseE e x).foot := by
  obtain ⟨bb, B⟩ := search_any h hp hm x
  have hk : keptN e x ≤ e.pl.length := List.countP_le_length
  have B : Hid (Calls Tryz.prog 96 #[e.v2, .int .i64 (x : Int)] w fun z w' => z = .returned (.tuple #[.int .i64 (keptN e x : Int), .bool bb]) ∧ ∃ q, w' = w.drewN q) := B
  have c0 := h.c0
  have c1 := h.c1
  have c2 := h.c2
  obtain ⟨ao, cap, hv, _⟩ := owns_form h.row1
  rw [hv] at c0
  clear hv hp
  by_cases hz : keptN e x = 0
  · have E : Hid (∀ q, Calls Tryz.prog 70 #[.pointer (some ⟨e.b, 0, none⟩), .int .i64 (e.wr : Int)] (w.drewN q) fun z w' => z = .returned (.tuple #[]) ∧ EntAt w' (endE e e.wr) ∧ Moved (w.drewN q) w' e.foot (endE e e.wr).foot) := fun q => endAt_any (h.carry (w' := w.drewN q) fun _ _ => rfl) e.wr hw
    have HL : Hid (lostAt e x = e.wr) := by show _ = _; unfold lostAt; rw [if_pos hz]
    rw [hz] at B
    clear h hz hk
    go_enter Tryz.func55, Tryz.ntmps55
    go_wp2_with (first | (go_at_call 96; refine B.out.mono ?_; rintro z w1 ⟨rfl, q, rfl⟩) | (go_at_call 70; refine (E.out _).mono ?_; rintro z w2 ⟨rfl, hE⟩))
    refine bodyPost_ret (results_none rfl _ _ _) rfl ?_
    obtain ⟨a1, a7⟩ := hE
    unfold loseE
    rw [HL.out]
    exact ⟨rfl, a1, ⟨a7.os, a7.tape, a7.output, a7.size, a7.kept, a7.news⟩⟩
  · have hzb : ((keptN e x : Int) == 0) = false := by rw [beq_eq_false_iff_ne]; omega
    have E : Hid (∀ n : Nat, n ≤ e.bs.length → ∀ q, Calls Tryz.prog 70 #[.pointer (some ⟨e.b, 0, none⟩), .int .i64 (n : Int)] (w.drewN q) fun z w' => z = .returned (.tuple #[]) ∧ EntAt w' (endE e n) ∧ Moved (w.drewN q) w' e.foot (endE e n).foot) := fun n hn q => endAt_any (h.carry (w' := w.drewN q) fun _ _ => rfl) n hn
    have HL : lostAt e x = min e.bs.length ((e.wr / 16 + keptN e x) * 16) := by unfold lostAt; rw [if_neg hz]
    have hval : min (e.bs.length : Int) (IntKind.i64.wrap (IntKind.i64.wrap (IntKind.i64.wrap ((e.wr : Int) / 16) + (keptN e x : Int)) * 16)) = ((lostAt e x : Nat) : Int) := by
      rw [HL, i64_wrap (x := (e.wr : Int) / 16) (by omega) (by omega), i64_wrap (x := (e.wr : Int) / 16 + (keptN e x : Int)) (by omega) (by omega), i64_wrap (by omega) (by omega)]
      omega
    have HE : Hid (∀ q, Calls Tryz.prog 70 #[.pointer (some ⟨e.b, 0, none⟩), .int .i64 (min (e.bs.length : Int) (IntKind.i64.wrap (IntKind.i64.wrap (IntKind.i64.wrap ((e.wr : Int) / 16) + (keptN e x : Int)) * 16)))] (w.drewN q) fun z w' => z = .returned (.tuple #[]) ∧ EntAt w' (endE e (lostAt e x)) ∧ Moved (w.drewN q) w' e.foot (endE e (lostAt e x)).foot) := by
      intro q
      rw [hval]
      exact E.out _ (lostAt_le hw x) q
    clear h hz hk E hval HL
    generalize keptN e x = kn at *
    go_enter Tryz.func55, Tryz.ntmps55
    go_wp2_with (go_at_call 96; refine B.out.mono ?_; rintro z w1 ⟨rfl, q, rfl⟩)
    go_region_with (go_at_call 70; refine (HE.out _).mono ?_; rintro z w2 ⟨rfl, hE⟩)
    all_goals
      go_end0
      obtain ⟨a1, a7⟩ := hE
      exact ⟨rfl, a1, ⟨a7.os, a7.tape, a7.output, a7.size, a7.kept, a7.news⟩⟩
end Go.Proofs.YthihljjefncfoaaGreatDoor

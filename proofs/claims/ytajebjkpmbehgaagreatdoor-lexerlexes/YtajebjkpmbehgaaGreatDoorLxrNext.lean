/-
  CONTRACT: the document's Next.
-/
import Derived.Test.YtajebjkpmbehgaaGreatDoorLxrOne
import Derived.Test.YtajebjkpmbehgaaGreatDoorLexNext
namespace Go.Proofs.YtajebjkpmbehgaaGreatDoor
open Go.RowKit

theorem cell_old {w : World} (o : Obj) {a : Addr} (h : a.block < w.heap.size) : (w.alloc o).cell? a = w.cell? a := World.cell?_of_block (Below.heap_alloc _ _ _ h)
theorem froz_old {w : World} (o : Obj) {a : Addr} (h : a.block < w.heap.size) : (w.alloc o).frozen? a = w.frozen? a := World.frozen?_of_block (Below.heap_alloc _ _ _ h)
set_option maxRecDepth 100000 in
set_option maxHeartbeats 4000000 in
theorem nextR_in (s : ByteArray) (p : Nat) (w : World) (hp : p ≤ s.size) (hs : s.size ≤ 600) :
    Calls Tryz.prog 6 #[.string s, .int .i64 (p : Int)] w fun e w' => e = .returned (nxV (nextT s.data.toList (p : Int))) ∧ Below w.heap.size w w' := by
  have hlen : s.data.toList.length = s.size := by simp
  rw [nxV_of _ _ (by omega) (by omega)]
  obtain ⟨q, hq⟩ : ∃ q, p + skB false (s.data.toList.drop p) = q := ⟨_, rfl⟩
  have hqs : q ≤ s.size := by
    have := skB_le false (s.data.toList.drop p)
    rw [List.length_drop, hlen] at this
    omega
  have CS : Hid (∀ wr, Calls Tryz.prog 12 #[.string s, .int .i64 (p : Int)] wr fun e w' => e = .returned (.int .i64 (q : Int)) ∧ w' = wr) := fun wr => by
    have := skipR_any s p wr hp hs
    rw [hq] at this
    exact this
  rw [hq]
  have g1 : ¬ (600 < (s.size : Int)) := by omega
  have g2 : (p : Int) ≤ (s.size : Int) := by omega
  have HF : Hid (∀ w1, Ro w w1 → ∀ v0 v1 v2 v3 v4 v5 v6 : Value, (((((((w1.setCell ⟨w.heap.size, 0, none⟩ v0).setCell ⟨w.heap.size, 1, none⟩ v1).setCell ⟨w.heap.size, 2, none⟩ v2).setCell ⟨w.heap.size, 3, none⟩ v3).setCell ⟨w.heap.size, 4, none⟩ v4).setCell ⟨w.heap.size, 5, none⟩ v5).setCell ⟨w.heap.size, 6, none⟩ v6).heap[w.heap.size]? = some (.cells #[v0, v1, v2, v3, v4, v5, v6] 29 (0, 0)) ∧
    Below w.heap.size w (((((((w1.setCell ⟨w.heap.size, 0, none⟩ v0).setCell ⟨w.heap.size, 1, none⟩ v1).setCell ⟨w.heap.size, 2, none⟩ v2).setCell ⟨w.heap.size, 3, none⟩ v3).setCell ⟨w.heap.size, 4, none⟩ v4).setCell ⟨w.heap.size, 5, none⟩ v5).setCell ⟨w.heap.size, 6, none⟩ v6)) := fun w1 h => h.fin
  have HX : Hid (∀ w1, Below (w.alloc (.cells #[.int .i64 0, .string ⟨#[]⟩, .int .i64 0, .int .i64 0, .string ⟨#[]⟩, .int .i64 0, .int .i64 0] 29)).heap.size (w.alloc (.cells #[.int .i64 0, .string ⟨#[]⟩, .int .i64 0, .int .i64 0, .string ⟨#[]⟩, .int .i64 0, .int .i64 0] 29)) w1 → Ro w w1 ∧ w.heap.size < w1.heap.size) := fun w1 hb => ⟨(Ro.new w).to hb, ((Ro.new w).to hb).res.lt⟩
  have HF2 : Hid (∀ w1, Ro w w1 → ∀ (o : Obj) (v0 v1 v2 v3 v4 v5 v6 : Value), ((((((((w1.setCell ⟨w.heap.size, 0, none⟩ v0).setCell ⟨w.heap.size, 1, none⟩ v1).setCell ⟨w.heap.size, 2, none⟩ v2).setCell ⟨w.heap.size, 3, none⟩ v3).setCell ⟨w.heap.size, 4, none⟩ v4).setCell ⟨w.heap.size, 5, none⟩ v5).setCell ⟨w.heap.size, 6, none⟩ v6).alloc o).heap[w.heap.size]? = some (.cells #[v0, v1, v2, v3, v4, v5, v6] 29 (0, 0)) ∧ Below w.heap.size w ((((((((w1.setCell ⟨w.heap.size, 0, none⟩ v0).setCell ⟨w.heap.size, 1, none⟩ v1).setCell ⟨w.heap.size, 2, none⟩ v2).setCell ⟨w.heap.size, 3, none⟩ v3).setCell ⟨w.heap.size, 4, none⟩ v4).setCell ⟨w.heap.size, 5, none⟩ v5).setCell ⟨w.heap.size, 6, none⟩ v6).alloc o)) := fun w1 h o v0 v1 v2 v3 v4 v5 v6 => by
    obtain ⟨h1, h2⟩ := h.fin v0 v1 v2 v3 v4 v5 v6
    exact ⟨(Below.heap_alloc _ _ _ (by rw [Array.getElem?_eq_some_iff] at h1; exact h1.1)).trans h1, h2.alloc h2.size _⟩
  by_cases hlt : q < s.size
  · have hqz : ((q : Int) == (s.size : Int)) = false := beq_false_of_ne (by omega)
    have CO0 := fun wr => oneR_any s q wr hlt hs
    cases ho : oneT (s.data.toList.drop q) with
    | mk o m =>
      rw [ho] at CO0
      cases o with
      | none =>
        have HR : Hid (resT (none, m) q = .tuple #[.agg #[.int .i64 0, .string ⟨#[]⟩, .int .i64 0, .int .i64 0, .string ⟨#[]⟩, .int .i64 0, .int .i64 0], .int .i64 ((m + q : Nat) : Int), .int .i64 11]) := by show _ = _; rfl
        have CO : Hid (∀ wr, Calls Tryz.prog 13 #[.string s, .int .i64 (q : Int)] wr fun e w' => e = .returned (.tuple #[.agg #[.int .i64 0, .string ⟨#[]⟩, .int .i64 0, .int .i64 0, .string ⟨#[]⟩, .int .i64 0, .int .i64 0], .int .i64 ((m + q : Nat) : Int)]) ∧ Below wr.heap.size wr w') := CO0
        have hge : (0 : Int) ≤ ((m + q : Nat) : Int) := by omega
        generalize ((m + q : Nat) : Int) = y at *
        generalize resT (none, m) q = RR at *
        clear CO0 ho hq hqs hlen
        go_enter Tryz.func6, Tryz.ntmps6
        go_wp2_with (first | (go_at_call 12; with_reducible (refine (CS.out _).mono ?_); rintro e _ ⟨rfl, hw⟩; obtain rfl := hw.symm; clear hw) | (go_at_call 13; with_reducible (refine (CO.out _).mono ?_); rintro e w1 ⟨rfl, hb1⟩; obtain ⟨HP1, hz1⟩ := HX.out w1 hb1; obtain ⟨fz, e0, e1, e2, e3, e4, e5, e6⟩ := HP1.fro; have f0 := fz 0; have f1 := fz 1; have f2 := fz 2; have f3 := fz 3; have f4 := fz 4; have f5 := fz 5; have f6 := fz 6; clear fz; clear hb1))
        refine bodyPost_ret (v := .tuple #[.agg #[.int .i64 0, .string ⟨#[]⟩, .int .i64 0, .int .i64 0, .string ⟨#[]⟩, .int .i64 0, .int .i64 0], .int .i64 y, .int .i64 11]) (results_row_two Tryz.results6 _ _ w.heap.size 29 _ _ _ _ _ rfl rfl rfl (HF2.out _ HP1 _ _ _ _ _ _ _ _).1 Tryz.underlying29 rfl (by kernel_rfl)) rfl ?_
        exact ⟨by rw [HR.out], (HF2.out _ HP1 _ _ _ _ _ _ _ _).2⟩
      | some t =>
        obtain ⟨k, vk, vn, tb, te, ts, vs, hfo⟩ : ∃ (k vk vn tb te : Int) (ts vs : ByteArray), (t.at q).v = .agg #[.int .i64 k, .string ts, .int .i64 vk, .int .i64 vn, .string vs, .int .i64 tb, .int .i64 te] := ⟨_, _, _, _, _, _, _, rfl⟩
        have HR : Hid (resT (some t, m) q = .tuple #[.agg #[.int .i64 k, .string ts, .int .i64 vk, .int .i64 vn, .string vs, .int .i64 tb, .int .i64 te], .int .i64 0, .int .i64 0]) := by show _ = _; rw [← hfo]; rfl
        have CO : Hid (∀ wr, Calls Tryz.prog 13 #[.string s, .int .i64 (q : Int)] wr fun e w' => e = .returned (.tuple #[.agg #[.int .i64 k, .string ts, .int .i64 vk, .int .i64 vn, .string vs, .int .i64 tb, .int .i64 te], .int .i64 (-1)]) ∧ Below wr.heap.size wr w') := by
          intro wr
          rw [← hfo]
          exact CO0 wr
        generalize resT (some t, m) q = RR at *
        clear CO0 ho hq hqs hlen hfo
        go_enter Tryz.func6, Tryz.ntmps6
        go_wp2_with (first | (go_at_call 12; with_reducible (refine (CS.out _).mono ?_); rintro e _ ⟨rfl, hw⟩; obtain rfl := hw.symm; clear hw) | (go_at_call 13; with_reducible (refine (CO.out _).mono ?_); rintro e w1 ⟨rfl, hb1⟩; obtain ⟨HP1, hz1⟩ := HX.out w1 hb1; obtain ⟨fz, e0, e1, e2, e3, e4, e5, e6⟩ := HP1.fro; have f0 := fz 0; have f1 := fz 1; have f2 := fz 2; have f3 := fz 3; have f4 := fz 4; have f5 := fz 5; have f6 := fz 6; clear fz; clear hb1))
        refine bodyPost_ret (v := .tuple #[.agg #[.int .i64 k, .string ts, .int .i64 vk, .int .i64 vn, .string vs, .int .i64 tb, .int .i64 te], .int .i64 0, .int .i64 0]) (results_row_two Tryz.results6 _ _ w.heap.size 29 _ _ _ _ _ rfl rfl rfl (HF2.out _ HP1 _ _ _ _ _ _ _ _).1 Tryz.underlying29 rfl (by kernel_rfl)) rfl ?_
        exact ⟨by rw [HR.out], (HF2.out _ HP1 _ _ _ _ _ _ _ _).2⟩
  · obtain rfl : q = s.size := by omega
    have HR : Hid (resT (oneT (s.data.toList.drop s.size)) s.size = .tuple #[.agg #[.int .i64 0, .string ⟨#[]⟩, .int .i64 0, .int .i64 0, .string ⟨#[]⟩, .int .i64 (s.size : Int), .int .i64 (s.size : Int)], .int .i64 0, .int .i64 0]) := by
      show _ = _
      rw [drop_endB s s.size (Nat.le_refl _)]
      show resT (some ⟨0, [], 0, 0, [], 0, 0⟩, 0) s.size = _
      rw [resT_at, Nat.zero_add]
      rfl
    generalize resT (oneT (s.data.toList.drop s.size)) s.size = RR at *
    clear hq hqs hlen
    go_enter Tryz.func6, Tryz.ntmps6
    go_wp2_with (go_at_call 12; with_reducible (refine (CS.out _).mono ?_); rintro e _ ⟨rfl, hw⟩; obtain rfl := hw.symm; clear hw)
    refine bodyPost_ret (v := .tuple #[.agg #[.int .i64 0, .string ⟨#[]⟩, .int .i64 0, .int .i64 0, .string ⟨#[]⟩, .int .i64 (s.size : Int), .int .i64 (s.size : Int)], .int .i64 0, .int .i64 0]) (results_row_two Tryz.results6 _ _ w.heap.size 29 _ _ _ _ _ rfl rfl rfl (new_at _ _ rfl) Tryz.underlying29 rfl (by kernel_rfl)) rfl ?_
    exact ⟨by rw [HR.out], (Below.refl _ _).alloc (Nat.le_refl _) _⟩
set_option maxRecDepth 100000 in
set_option maxHeartbeats 4000000 in
theorem nextR_out (s : ByteArray) (x : Int) (w : World) (hx : 600 < s.size ∨ x < 0 ∨ (s.size : Int) < x) :
    Calls Tryz.prog 6 #[.string s, .int .i64 x] w fun e w' => e = .returned (nxV (nextT s.data.toList x)) ∧ Below w.heap.size w w' := by
  have hlen : s.data.toList.length = s.size := by simp
  unfold nextT
  rw [hlen]
  by_cases h1 : 600 < s.size
  · have h1z : (600 : Int) < (s.size : Int) := by omega
    rw [if_pos h1]
    clear hx hlen h1
    go_enter Tryz.func6, Tryz.ntmps6
    go_wp2_with fail
    refine bodyPost_ret (v := .tuple #[.agg #[.int .i64 0, .string ⟨#[]⟩, .int .i64 0, .int .i64 0, .string ⟨#[]⟩, .int .i64 0, .int .i64 0], .int .i64 0, .int .i64 17]) (results_row_two Tryz.results6 _ _ w.heap.size 29 _ _ _ _ _ rfl rfl rfl (new_at _ _ rfl) Tryz.underlying29 rfl (by kernel_rfl)) rfl ?_
    exact ⟨rfl, (Below.refl _ _).alloc (Nat.le_refl _) _⟩
  · have h1z : ¬ (600 : Int) < (s.size : Int) := by omega
    rw [if_neg h1]
    by_cases h2 : x < 0
    · have h2d : decide (x < 0) = true := decide_eq_true h2
      rw [if_pos (.inl h2)]
      clear hx hlen h1
      go_enter Tryz.func6, Tryz.ntmps6
      go_wp2_with fail
      refine bodyPost_ret (v := .tuple #[.agg #[.int .i64 0, .string ⟨#[]⟩, .int .i64 0, .int .i64 0, .string ⟨#[]⟩, .int .i64 0, .int .i64 0], .int .i64 0, .int .i64 6]) (results_row_two Tryz.results6 _ _ w.heap.size 29 _ _ _ _ _ rfl rfl rfl (new_at _ _ rfl) Tryz.underlying29 rfl (by kernel_rfl)) rfl ?_
      exact ⟨rfl, (Below.refl _ _).alloc (Nat.le_refl _) _⟩
    · have h2d : decide (x < 0) = false := decide_eq_false h2
      have h3 : (s.size : Int) < x := by omega
      rw [if_pos (.inr h3)]
      clear hx hlen h1
      go_enter Tryz.func6, Tryz.ntmps6
      go_wp2_with fail
      refine bodyPost_ret (v := .tuple #[.agg #[.int .i64 0, .string ⟨#[]⟩, .int .i64 0, .int .i64 0, .string ⟨#[]⟩, .int .i64 0, .int .i64 0], .int .i64 0, .int .i64 6]) (results_row_two Tryz.results6 _ _ w.heap.size 29 _ _ _ _ _ rfl rfl rfl (new_at _ _ rfl) Tryz.underlying29 rfl (by kernel_rfl)) rfl ?_
      exact ⟨rfl, (Below.refl _ _).alloc (Nat.le_refl _) _⟩
theorem nextR_any (s : ByteArray) (x : Int) (w : World) : Calls Tryz.prog 6 #[.string s, .int .i64 x] w fun e w' => e = .returned (nxV (nextT s.data.toList x)) ∧ Below w.heap.size w w' := by
  by_cases h : 600 < s.size ∨ x < 0 ∨ (s.size : Int) < x
  · exact nextR_out s x w h
  · obtain ⟨p, rfl⟩ : ∃ p : Nat, x = (p : Int) := ⟨x.toNat, by omega⟩
    exact nextR_in s p w (by omega) (by omega)
end Go.Proofs.YtajebjkpmbehgaaGreatDoor

/-
  CONTRACT: the token from a byte on (Next).
-/
import Derived.Test.YtajebjkpmbehgaaGreatDoorLexQuo
import Derived.Test.YtajebjkpmbehgaaGreatDoorLexWordC
namespace Go.Proofs.YtajebjkpmbehgaaGreatDoor
open Go.RowKit

/-- What Next tells. -/
def nxV (x : Option Tk × Nat × Int) : Value := .tuple #[(match x.1 with | some t => t.v | none => noTk.v), .int .i64 (x.2.1 : Int), .int .i64 x.2.2]
theorem cut_any (s : ByteArray) (q : Nat) (w : World) (hq : q ≤ s.size) (hs : s.size ≤ 600) (he : EnvL w) :
    Calls Tryz.prog (cutF (s.data.toList.drop q)) #[.agg #[.string s, .int .i64 (q : Int)]] w fun e w' => e = .returned (resT (oneT (s.data.toList.drop q)) q) ∧ Below w.heap.size w w' := by
  rcases Nat.lt_or_ge q s.size with h | h
  · have hc := drop_consB s q h
    obtain ⟨b, hb⟩ : ∃ b, s[q]'h = b := ⟨_, rfl⟩
    rw [hb] at hc
    by_cases h1 : (dgB b || decide (b.toNat = 45)) = true
    · have e1 : cutF (s.data.toList.drop q) = 20 := by rw [hc]; exact if_pos h1
      have e2 : oneT (s.data.toList.drop q) = numT (s.data.toList.drop q) := by rw [hc]; exact if_pos h1
      rw [e1, e2]
      exact number_any s q w h hs he
    · by_cases h2 : b.toNat = 39
      · have e1 : cutF (s.data.toList.drop q) = 21 := by rw [hc]; exact (if_neg h1).trans (if_pos h2)
        have e2 : oneT (s.data.toList.drop q) = qtT (s.data.toList.drop (q + 1)) := by rw [hc]; exact (if_neg h1).trans (if_pos h2)
        rw [e1, e2]
        exact quoted_any s q w h hs (by rw [hb]; exact h2)
      · by_cases h3 : ltB b = true
        · have e1 : cutF (s.data.toList.drop q) = 23 := by rw [hc]; exact (if_neg h1).trans ((if_neg h2).trans (if_pos h3))
          have e2 : oneT (s.data.toList.drop q) = wdT (s.data.toList.drop q) := by rw [hc]; exact (if_neg h1).trans ((if_neg h2).trans (if_pos h3))
          rw [e1, e2]
          exact word_any s q w hq hs he
        · have e1 : cutF (s.data.toList.drop q) = 24 := by rw [hc]; exact (if_neg h1).trans ((if_neg h2).trans (if_neg h3))
          have e2 : oneT (s.data.toList.drop q) = opT (s.data.toList.drop q) := by rw [hc]; exact (if_neg h1).trans ((if_neg h2).trans (if_neg h3))
          rw [e1, e2]
          exact op_any s q w hq hs he.ops
  · have hnil : s.data.toList.drop q = [] := List.drop_eq_nil_of_le (by simpa using h)
    rw [hnil]
    exact end_any s q w
theorem cutF_five (l : List UInt8) : cutF l = 25 ∨ cutF l = 20 ∨ cutF l = 21 ∨ cutF l = 23 ∨ cutF l = 24 := by
  cases l with
  | nil => exact .inl rfl
  | cons b r =>
    simp only [cutF]
    split
    · exact .inr (.inl rfl)
    · split
      · exact .inr (.inr (.inl rfl))
      · split
        · exact .inr (.inr (.inr (.inl rfl)))
        · exact .inr (.inr (.inr (.inr rfl)))
theorem nxV_of (l : List UInt8) (p : Nat) (h1 : l.length ≤ 600) (h2 : p ≤ l.length) : nxV (nextT l (p : Int)) = resT (oneT (l.drop (p + skB false (l.drop p)))) (p + skB false (l.drop p)) := by
  unfold nextT
  rw [if_neg (by omega), if_neg (by omega)]
  have : ((p : Int)).toNat = p := by omega
  rw [this]
  unfold nxT
  simp only
  generalize p + skB false (l.drop p) = q
  cases h : oneT (l.drop q) with
  | mk o m =>
    cases o with
    | none => simp [nxV, resT]
    | some t => simp [nxV, resT]
/-- A token, with the two numbers beside it: seven cells, and two. -/
theorem resT_seven (x : Option Tk × Nat) (p : Nat) : ∃ (k vk vn b e a c : Int) (ts vs : ByteArray), resT x p = .tuple #[.agg #[.int .i64 k, .string ts, .int .i64 vk, .int .i64 vn, .string vs, .int .i64 b, .int .i64 e], .int .i64 a, .int .i64 c] := by
  obtain ⟨o, m⟩ := x
  cases o with
  | none => exact ⟨_, _, _, _, _, _, _, _, _, rfl⟩
  | some t => exact ⟨_, _, _, _, _, _, _, _, _, rfl⟩
set_option maxRecDepth 100000 in
set_option maxHeartbeats 4000000 in
theorem next_in (s : ByteArray) (p : Nat) (w : World) (hp : p ≤ s.size) (hs : s.size ≤ 600) (he : EnvL w) :
    Calls Tryz.prog 5 #[.string s, .int .i64 (p : Int)] w fun e w' => e = .returned (nxV (nextT s.data.toList (p : Int))) ∧ Below w.heap.size w w' := by
  have hlen : s.data.toList.length = s.size := by simp
  rw [nxV_of _ _ (by omega) (by omega)]
  obtain ⟨q, hq⟩ : ∃ q, p + skB false (s.data.toList.drop p) = q := ⟨_, rfl⟩
  have hqs : q ≤ s.size := by
    have := skB_le false (s.data.toList.drop p)
    rw [List.length_drop, hlen] at this
    omega
  have CB : Hid (∀ wr, Calls Tryz.prog 11 #[.string s, .int .i64 (p : Int)] wr fun e w' => e = .returned (.tuple #[.agg #[.string s, .int .i64 (q : Int)], .func (.func (cutF (s.data.toList.drop q))) #[] #[]]) ∧ Below wr.heap.size wr w') := fun wr => by
    have := begin_any s p wr hp hs
    rw [hq] at this
    exact this
  rw [hq]
  obtain ⟨k, vk, vn, b, e, a, c, ts, vs, hR⟩ := resT_seven (oneT (s.data.toList.drop q)) q
  have CC : Hid (∀ wr, Below w.heap.size w wr → Calls Tryz.prog (cutF (s.data.toList.drop q)) #[.agg #[.string s, .int .i64 (q : Int)]] wr fun x w' => x = .returned (.tuple #[.agg #[.int .i64 k, .string ts, .int .i64 vk, .int .i64 vn, .string vs, .int .i64 b, .int .i64 e], .int .i64 a, .int .i64 c]) ∧ Below wr.heap.size wr w') := fun wr hb => by
    have := cut_any s q wr hqs hs (he.below hb)
    rw [hR] at this
    exact this
  rw [hR]
  have h5 := cutF_five (s.data.toList.drop q)
  obtain ⟨F, hF⟩ : ∃ F, cutF (s.data.toList.drop q) = F := ⟨_, rfl⟩
  rw [hF] at CB CC h5
  have g1 : ¬ (600 < (s.size : Int)) := by omega
  have g2 : (p : Int) ≤ (s.size : Int) := by omega
  obtain ⟨W0, hW0⟩ : ∃ W0, W0 = w.alloc (.cells #[.int .i64 0, .string ⟨#[]⟩, .int .i64 0, .int .i64 0, .string ⟨#[]⟩, .int .i64 0, .int .i64 0] 25) := ⟨_, rfl⟩
  have HX : Hid (∀ w1 w2 o, Below W0.heap.size W0 w1 → Below (w1.alloc o).heap.size (w1.alloc o) w2 → Blk w2 w.heap.size [.int .i64 0, .string ⟨#[]⟩, .int .i64 0, .int .i64 0, .string ⟨#[]⟩, .int .i64 0, .int .i64 0] 25 ∧ Below w.heap.size w (w1.alloc o) ∧ Hid (∀ v0 v1 v2 v3 v4 v5 v6 : Value, (((((((w2.setCell ⟨w.heap.size, 0, none⟩ v0).setCell ⟨w.heap.size, 1, none⟩ v1).setCell ⟨w.heap.size, 2, none⟩ v2).setCell ⟨w.heap.size, 3, none⟩ v3).setCell ⟨w.heap.size, 4, none⟩ v4).setCell ⟨w.heap.size, 5, none⟩ v5).setCell ⟨w.heap.size, 6, none⟩ v6).heap[w.heap.size]? = some (.cells #[v0, v1, v2, v3, v4, v5, v6] 25 (0, 0)) ∧ Below w.heap.size w (((((((w2.setCell ⟨w.heap.size, 0, none⟩ v0).setCell ⟨w.heap.size, 1, none⟩ v1).setCell ⟨w.heap.size, 2, none⟩ v2).setCell ⟨w.heap.size, 3, none⟩ v3).setCell ⟨w.heap.size, 4, none⟩ v4).setCell ⟨w.heap.size, 5, none⟩ v5).setCell ⟨w.heap.size, 6, none⟩ v6))) := fun w1 w2 o h1 h2 => by
    have hz : W0.heap.size = w.heap.size + 1 := by rw [hW0, World.size_alloc]
    have hb0 : Blk W0 w.heap.size [.int .i64 0, .string ⟨#[]⟩, .int .i64 0, .int .i64 0, .string ⟨#[]⟩, .int .i64 0, .int .i64 0] 25 := by rw [hW0]; exact Blk.new w [.int .i64 0, .string ⟨#[]⟩, .int .i64 0, .int .i64 0, .string ⟨#[]⟩, .int .i64 0, .int .i64 0] _
    have hB0 : Below w.heap.size w W0 := by rw [hW0]; exact (Below.refl _ _).alloc (Nat.le_refl _) _
    have hb1 := hb0.carry (h1.block _ (by omega))
    have hB1 := hB0.trans (h1.mono (by omega))
    have hB2 := hB1.alloc (o := o) hB1.size
    have hb2 := (hb1.alloc o).carry (h2.block _ (by rw [World.size_alloc]; have := hb1.lt; omega))
    exact ⟨hb2, hB2, fun v0 v1 v2 v3 v4 v5 v6 => ⟨set7 hb2 v0 v1 v2 v3 v4 v5 v6, below7 (hB2.trans (h2.mono hB2.size)) (Nat.le_refl _) v0 v1 v2 v3 v4 v5 v6⟩⟩
  clear hF hq hqs hR he hlen hs hp
  rcases h5 with rfl | rfl | rfl | rfl | rfl
  · go_enter Tryz.func5, Tryz.ntmps5
    go_wp2_with (first | (go_at_call 11; with_reducible (refine (CB.out _).mono ?_); rintro x w1 ⟨rfl, hb1⟩; rw [← hW0] at hb1) | (go_at_call 25; with_reducible (refine (CC.out _ (HX.out w1 _ _ hb1 (Below.refl _ _)).2.1).mono ?_); rintro x w2 ⟨rfl, hb2⟩; obtain ⟨R, -, HS⟩ := HX.out w1 w2 _ hb1 hb2; have f0 := R.frozen 0; have f1 := R.frozen 1; have f2 := R.frozen 2; have f3 := R.frozen 3; have f4 := R.frozen 4; have f5 := R.frozen 5; have f6 := R.frozen 6; have d0 := R.cell 0 rfl; have d1 := R.cell 1 rfl; have d2 := R.cell 2 rfl; have d3 := R.cell 3 rfl; have d4 := R.cell 4 rfl; have d5 := R.cell 5 rfl; have d6 := R.cell 6 rfl; clear hb1 hb2))
    refine bodyPost_ret (v := .tuple #[.agg #[.int .i64 k, .string ts, .int .i64 vk, .int .i64 vn, .string vs, .int .i64 b, .int .i64 e], .int .i64 a, .int .i64 c]) (results_row_two Tryz.results5 _ _ w.heap.size 25 _ _ _ _ _ rfl rfl rfl (HS.out _ _ _ _ _ _ _).1 Tryz.underlying25 rfl (by kernel_rfl)) rfl ?_
    exact ⟨rfl, (HS.out _ _ _ _ _ _ _).2⟩
  · go_enter Tryz.func5, Tryz.ntmps5
    go_wp2_with (first | (go_at_call 11; with_reducible (refine (CB.out _).mono ?_); rintro x w1 ⟨rfl, hb1⟩; rw [← hW0] at hb1) | (go_at_call 20; with_reducible (refine (CC.out _ (HX.out w1 _ _ hb1 (Below.refl _ _)).2.1).mono ?_); rintro x w2 ⟨rfl, hb2⟩; obtain ⟨R, -, HS⟩ := HX.out w1 w2 _ hb1 hb2; have f0 := R.frozen 0; have f1 := R.frozen 1; have f2 := R.frozen 2; have f3 := R.frozen 3; have f4 := R.frozen 4; have f5 := R.frozen 5; have f6 := R.frozen 6; have d0 := R.cell 0 rfl; have d1 := R.cell 1 rfl; have d2 := R.cell 2 rfl; have d3 := R.cell 3 rfl; have d4 := R.cell 4 rfl; have d5 := R.cell 5 rfl; have d6 := R.cell 6 rfl; clear hb1 hb2))
    refine bodyPost_ret (v := .tuple #[.agg #[.int .i64 k, .string ts, .int .i64 vk, .int .i64 vn, .string vs, .int .i64 b, .int .i64 e], .int .i64 a, .int .i64 c]) (results_row_two Tryz.results5 _ _ w.heap.size 25 _ _ _ _ _ rfl rfl rfl (HS.out _ _ _ _ _ _ _).1 Tryz.underlying25 rfl (by kernel_rfl)) rfl ?_
    exact ⟨rfl, (HS.out _ _ _ _ _ _ _).2⟩
  · go_enter Tryz.func5, Tryz.ntmps5
    go_wp2_with (first | (go_at_call 11; with_reducible (refine (CB.out _).mono ?_); rintro x w1 ⟨rfl, hb1⟩; rw [← hW0] at hb1) | (go_at_call 21; with_reducible (refine (CC.out _ (HX.out w1 _ _ hb1 (Below.refl _ _)).2.1).mono ?_); rintro x w2 ⟨rfl, hb2⟩; obtain ⟨R, -, HS⟩ := HX.out w1 w2 _ hb1 hb2; have f0 := R.frozen 0; have f1 := R.frozen 1; have f2 := R.frozen 2; have f3 := R.frozen 3; have f4 := R.frozen 4; have f5 := R.frozen 5; have f6 := R.frozen 6; have d0 := R.cell 0 rfl; have d1 := R.cell 1 rfl; have d2 := R.cell 2 rfl; have d3 := R.cell 3 rfl; have d4 := R.cell 4 rfl; have d5 := R.cell 5 rfl; have d6 := R.cell 6 rfl; clear hb1 hb2))
    refine bodyPost_ret (v := .tuple #[.agg #[.int .i64 k, .string ts, .int .i64 vk, .int .i64 vn, .string vs, .int .i64 b, .int .i64 e], .int .i64 a, .int .i64 c]) (results_row_two Tryz.results5 _ _ w.heap.size 25 _ _ _ _ _ rfl rfl rfl (HS.out _ _ _ _ _ _ _).1 Tryz.underlying25 rfl (by kernel_rfl)) rfl ?_
    exact ⟨rfl, (HS.out _ _ _ _ _ _ _).2⟩
  · go_enter Tryz.func5, Tryz.ntmps5
    go_wp2_with (first | (go_at_call 11; with_reducible (refine (CB.out _).mono ?_); rintro x w1 ⟨rfl, hb1⟩; rw [← hW0] at hb1) | (go_at_call 23; with_reducible (refine (CC.out _ (HX.out w1 _ _ hb1 (Below.refl _ _)).2.1).mono ?_); rintro x w2 ⟨rfl, hb2⟩; obtain ⟨R, -, HS⟩ := HX.out w1 w2 _ hb1 hb2; have f0 := R.frozen 0; have f1 := R.frozen 1; have f2 := R.frozen 2; have f3 := R.frozen 3; have f4 := R.frozen 4; have f5 := R.frozen 5; have f6 := R.frozen 6; have d0 := R.cell 0 rfl; have d1 := R.cell 1 rfl; have d2 := R.cell 2 rfl; have d3 := R.cell 3 rfl; have d4 := R.cell 4 rfl; have d5 := R.cell 5 rfl; have d6 := R.cell 6 rfl; clear hb1 hb2))
    refine bodyPost_ret (v := .tuple #[.agg #[.int .i64 k, .string ts, .int .i64 vk, .int .i64 vn, .string vs, .int .i64 b, .int .i64 e], .int .i64 a, .int .i64 c]) (results_row_two Tryz.results5 _ _ w.heap.size 25 _ _ _ _ _ rfl rfl rfl (HS.out _ _ _ _ _ _ _).1 Tryz.underlying25 rfl (by kernel_rfl)) rfl ?_
    exact ⟨rfl, (HS.out _ _ _ _ _ _ _).2⟩
  · go_enter Tryz.func5, Tryz.ntmps5
    go_wp2_with (first | (go_at_call 11; with_reducible (refine (CB.out _).mono ?_); rintro x w1 ⟨rfl, hb1⟩; rw [← hW0] at hb1) | (go_at_call 24; with_reducible (refine (CC.out _ (HX.out w1 _ _ hb1 (Below.refl _ _)).2.1).mono ?_); rintro x w2 ⟨rfl, hb2⟩; obtain ⟨R, -, HS⟩ := HX.out w1 w2 _ hb1 hb2; have f0 := R.frozen 0; have f1 := R.frozen 1; have f2 := R.frozen 2; have f3 := R.frozen 3; have f4 := R.frozen 4; have f5 := R.frozen 5; have f6 := R.frozen 6; have d0 := R.cell 0 rfl; have d1 := R.cell 1 rfl; have d2 := R.cell 2 rfl; have d3 := R.cell 3 rfl; have d4 := R.cell 4 rfl; have d5 := R.cell 5 rfl; have d6 := R.cell 6 rfl; clear hb1 hb2))
    refine bodyPost_ret (v := .tuple #[.agg #[.int .i64 k, .string ts, .int .i64 vk, .int .i64 vn, .string vs, .int .i64 b, .int .i64 e], .int .i64 a, .int .i64 c]) (results_row_two Tryz.results5 _ _ w.heap.size 25 _ _ _ _ _ rfl rfl rfl (HS.out _ _ _ _ _ _ _).1 Tryz.underlying25 rfl (by kernel_rfl)) rfl ?_
    exact ⟨rfl, (HS.out _ _ _ _ _ _ _).2⟩
set_option maxRecDepth 100000 in
set_option maxHeartbeats 4000000 in
theorem next_out (s : ByteArray) (x : Int) (w : World) (hx : 600 < s.size ∨ x < 0 ∨ (s.size : Int) < x) :
    Calls Tryz.prog 5 #[.string s, .int .i64 x] w fun e w' => e = .returned (nxV (nextT s.data.toList x)) ∧ Below w.heap.size w w' := by
  have hlen : s.data.toList.length = s.size := by simp
  unfold nextT
  rw [hlen]
  by_cases h1 : 600 < s.size
  · have h1z : (600 : Int) < (s.size : Int) := by omega
    rw [if_pos h1]
    clear hx hlen h1
    go_enter Tryz.func5, Tryz.ntmps5
    go_wp2_with fail
    refine bodyPost_ret (v := .tuple #[.agg #[.int .i64 0, .string ⟨#[]⟩, .int .i64 0, .int .i64 0, .string ⟨#[]⟩, .int .i64 0, .int .i64 0], .int .i64 0, .int .i64 17]) (results_row_two Tryz.results5 _ _ w.heap.size 25 _ _ _ _ _ rfl rfl rfl (new_at _ _ rfl) Tryz.underlying25 rfl (by kernel_rfl)) rfl ?_
    exact ⟨rfl, (Below.refl _ _).alloc (Nat.le_refl _) _⟩
  · have h1z : ¬ (600 : Int) < (s.size : Int) := by omega
    rw [if_neg h1]
    by_cases h2 : x < 0
    · have h2d : decide (x < 0) = true := decide_eq_true h2
      rw [if_pos (.inl h2)]
      clear hx hlen h1
      go_enter Tryz.func5, Tryz.ntmps5
      go_wp2_with fail
      refine bodyPost_ret (v := .tuple #[.agg #[.int .i64 0, .string ⟨#[]⟩, .int .i64 0, .int .i64 0, .string ⟨#[]⟩, .int .i64 0, .int .i64 0], .int .i64 0, .int .i64 6]) (results_row_two Tryz.results5 _ _ w.heap.size 25 _ _ _ _ _ rfl rfl rfl (new_at _ _ rfl) Tryz.underlying25 rfl (by kernel_rfl)) rfl ?_
      exact ⟨rfl, (Below.refl _ _).alloc (Nat.le_refl _) _⟩
    · have h2d : decide (x < 0) = false := decide_eq_false h2
      have h3 : (s.size : Int) < x := by omega
      rw [if_pos (.inr h3)]
      clear hx hlen h1
      go_enter Tryz.func5, Tryz.ntmps5
      go_wp2_with fail
      refine bodyPost_ret (v := .tuple #[.agg #[.int .i64 0, .string ⟨#[]⟩, .int .i64 0, .int .i64 0, .string ⟨#[]⟩, .int .i64 0, .int .i64 0], .int .i64 0, .int .i64 6]) (results_row_two Tryz.results5 _ _ w.heap.size 25 _ _ _ _ _ rfl rfl rfl (new_at _ _ rfl) Tryz.underlying25 rfl (by kernel_rfl)) rfl ?_
      exact ⟨rfl, (Below.refl _ _).alloc (Nat.le_refl _) _⟩
theorem nextL_any (s : ByteArray) (x : Int) (w : World) (he : EnvL w) : Calls Tryz.prog 5 #[.string s, .int .i64 x] w fun e w' => e = .returned (nxV (nextT s.data.toList x)) ∧ Below w.heap.size w w' := by
  by_cases h : 600 < s.size ∨ x < 0 ∨ (s.size : Int) < x
  · exact next_out s x w h
  · obtain ⟨p, rfl⟩ : ∃ p : Nat, x = (p : Int) := ⟨x.toNat, by omega⟩
    exact next_in s p w (by omega) (by omega) he
end Go.Proofs.YtajebjkpmbehgaaGreatDoor

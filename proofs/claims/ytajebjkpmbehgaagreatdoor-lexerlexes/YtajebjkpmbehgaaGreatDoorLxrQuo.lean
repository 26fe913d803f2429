/-
  CONTRACT: the document's quoted text.
-/
import Derived.Test.YtajebjkpmbehgaaGreatDoorLxrWd
import Derived.Test.YtajebjkpmbehgaaGreatDoorRegCl
import Derived.Test.YtajebjkpmbehgaaGreatDoorLoud
import Derived.Test.YtajebjkpmbehgaaGreatDoorSteps
namespace Go.Proofs.YtajebjkpmbehgaaGreatDoor
open Go.RowKit

attribute [local go_sem] Oper.pureAt Oper.pureUpon
theorem qtR_stop {b : UInt8} {r : List UInt8} {k : Nat} (h39 : b.toNat ≠ 39) (h : chB (b :: r) = none ∨ k = 64) : qtR 0 k (b :: r) = (none, 0) := by
  rw [qtR_zero, if_neg h39]
  cases hc : chB (b :: r) with
  | none => rfl
  | some y =>
    obtain ⟨c, m⟩ := y
    rcases h with h | h
    · rw [hc] at h; cases h
    · simp only [if_pos h]
theorem qtR_next {b c : UInt8} {r : List UInt8} {k m : Nat} (h39 : b.toNat ≠ 39) (h : chB (b :: r) = some (c, m)) (hk : k ≠ 64) : qtR 0 k (b :: r) = ((qtR (m - 1) (k + 1) r).1.map (c :: ·), (qtR (m - 1) (k + 1) r).2 + 1) := by
  rw [qtR_zero, if_neg h39, h]
  simp only [if_neg hk]
theorem chB_pl {b : UInt8} (h : plB b = true) (r : List UInt8) : chB (b :: r) = some (b, 1) := by simp [chB, h]
theorem chB_no {b : UInt8} (h : plB b = false) (h2 : b.toNat ≠ 37) (r : List UInt8) : chB (b :: r) = none := by simp [chB, h, h2]
theorem chB_short {b : UInt8} (h : plB b = false) {r : List UInt8} (h2 : r.length < 2) : chB (b :: r) = none := by
  match r, h2 with
  | [], _ => simp [chB, h]
  | [_], _ => simp [chB, h]
theorem chB_bad {b x y : UInt8} (h : plB b = false) (r : List UInt8) (h2 : ixH x < 0 ∨ ixH y < 0) : chB (b :: x :: y :: r) = none := by
  have e2 : ∀ c n, hexB c = some n → ¬ ixH c < 0 := fun c n hc => by unfold ixH; rw [hc]; simp only; omega
  simp only [chB, h, Bool.false_eq_true, if_false]
  split
  · cases hx : hexB x with
    | none => rfl
    | some n =>
      cases hy : hexB y with
      | none => rfl
      | some m => rcases h2 with h2 | h2
                  · exact absurd h2 (e2 x n hx)
                  · exact absurd h2 (e2 y m hy)
  · rfl
theorem chB_good {b x y : UInt8} (h : plB b = false) (h37 : b.toNat = 37) (r : List UInt8) (hx0 : 0 ≤ ixH x) (hy0 : 0 ≤ ixH y) : ∃ c : UInt8, chB (b :: x :: y :: r) = some (c, 3) ∧ (c.toNat : Int) = 16 * ixH x + ixH y := by
  have e1 : ∀ c, hexB c = none → ixH c = -1 := fun c hc => by unfold ixH; rw [hc]
  have e2 : ∀ c n, hexB c = some n → ixH c = (n : Int) := fun c n hc => by unfold ixH; rw [hc]
  have lx := ixH_low x
  have ly := ixH_low y
  cases hx : hexB x with
  | none => rw [e1 x hx] at hx0; omega
  | some n =>
    cases hy : hexB y with
    | none => rw [e1 y hy] at hy0; omega
    | some m =>
      rw [e2 x n hx] at lx ⊢
      rw [e2 y m hy] at ly ⊢
      refine ⟨UInt8.ofNat (16 * n + m), ?_, ?_⟩
      · simp only [chB, h, h37, Bool.false_eq_true, if_false, if_true, hx, hy]
      · rw [UInt8.toNat_ofNat']; omega
/-- What quoted has in memory. -/
structure Qr (w : World) (T : List UInt8) (v : Value) (wr : World) : Prop where
  ro : Ro w wr
  row : wr.ownsRow (w.heap.size + 1) 5 1 v T.length (B8 T)
section
variable {w : World} {T : List UInt8} {v : Value} {wr : World}
theorem Qr.to (h : Qr w T v wr) {w1 : World} (hb : Below wr.heap.size wr w1) : Qr w T v w1 :=
  ⟨h.ro.to hb, owns_keepL h.row fun k hk => hb.block _ (h.row.lt k hk).2⟩
theorem Qr.app (h : Qr w T v wr) {o : Obj} {w' : World} {v' : Value} {b : UInt8} (hg : Grew (wr.alloc o) w' v v') (ho : w'.ownsRow (w.heap.size + 1) 5 1 v' (T.length + 1) (B8 T ++ B8 [b])) : Qr w (T ++ [b]) v' w' := by
  have hlt := h.ro.res.lt
  have hbk : ∀ k, k < w.heap.size + 1 → w'.heap[k]? = wr.heap[k]? := fun k hk =>
    (hg.rows.block k (by rw [World.size_alloc]; omega) (fun e => by have := (h.row.lt k e.symm).1; omega)).trans (Below.heap_alloc _ _ _ (by omega))
  refine ⟨⟨h.ro.res.carry (hbk _ (by omega)), ?_⟩, ?_⟩
  · have hb := h.ro.below
    have hs := hb.size
    refine hb.trans ⟨hg.rows.os, hg.rows.tape, hg.rows.output, ?_, fun k hk => hbk k (by omega)⟩
    have := hg.rows.size
    rw [World.size_alloc] at this
    omega
  · rw [List.length_append, B8_append]
    exact ho
end
set_option maxRecDepth 100000 in
set_option maxHeartbeats 4000000 in
theorem quotedR_any (s : ByteArray) (p : Nat) (w : World) (hp : p < s.size) (hs : s.size ≤ 600) :
    Calls Tryz.prog 28 #[.string s, .int .i64 (p : Int)] w fun e w' => e = .returned (resR (qtT (s.data.toList.drop (p + 1))) p) ∧ Below w.heap.size w w' := by
  obtain ⟨Q, hQ⟩ : ∃ Q, qtR 0 0 (s.data.toList.drop (p + 1)) = Q := ⟨_, rfl⟩
  obtain ⟨RR, hRR⟩ : ∃ RR, resR (qtT (s.data.toList.drop (p + 1))) p = RR := ⟨_, rfl⟩
  rw [hRR]
  have HQ1 : Hid (∀ (t : List UInt8) (n : Nat), Q = (some t, n) → ∀ e : Nat, e = n + 1 + p → RR = .tuple #[.agg #[.int .i64 4, .string ⟨#[]⟩, .int .i64 2, .int .i64 0, .string (xB t), .int .i64 (p : Int), .int .i64 (e : Int)], .int .i64 (-1)]) := fun t n h e he => by
    rw [← hRR, qtT, hQ, h, he]
    exact resR_at 4 2 0 [] t (n + 1) p
  have HQ0 : Hid (∀ n : Nat, Q = (none, n) → ∀ e : Nat, e = n + 1 + p → RR = .tuple #[.agg #[.int .i64 0, .string ⟨#[]⟩, .int .i64 0, .int .i64 0, .string ⟨#[]⟩, .int .i64 0, .int .i64 0], .int .i64 (e : Int)]) := fun n h e he => by
    rw [← hRR, qtT, hQ, h, he]
    simp [resR, noTk, Tk.v, Tk.cs, xB]
  have HX : Hid (∀ p, s.size ≤ p → s.data.toList.drop p = []) := drop_endB s
  have HC : Hid (∀ p (h : p < s.size), s.data.toList.drop p = (s[p]'h) :: s.data.toList.drop (p + 1)) := drop_consB s
  have CPl : Hid (∀ (b : UInt8) w, Calls Tryz.prog 46 #[.int .u8 (b.toNat : Int)] w fun e w' => e = .returned (.bool (plB b)) ∧ w' = w) := fun b w => by rw [← plI_B]; exact plainR_any _ w
  have CHx : Hid (∀ (b : UInt8) w, Calls Tryz.prog 47 #[.int .u8 (b.toNat : Int)] w fun e w' => e = .returned (.int .i64 (ixH b)) ∧ w' = w) := fun b w => by rw [← hxI_B]; exact hexR_any _ w
  have HF : Hid (∀ w1, Ro w w1 → ∀ v0 v1 v2 v3 v4 v5 v6 : Value, (((((((w1.setCell ⟨w.heap.size, 0, none⟩ v0).setCell ⟨w.heap.size, 1, none⟩ v1).setCell ⟨w.heap.size, 2, none⟩ v2).setCell ⟨w.heap.size, 3, none⟩ v3).setCell ⟨w.heap.size, 4, none⟩ v4).setCell ⟨w.heap.size, 5, none⟩ v5).setCell ⟨w.heap.size, 6, none⟩ v6).heap[w.heap.size]? = some (.cells #[v0, v1, v2, v3, v4, v5, v6] 29 (0, 0)) ∧
    Below w.heap.size w (((((((w1.setCell ⟨w.heap.size, 0, none⟩ v0).setCell ⟨w.heap.size, 1, none⟩ v1).setCell ⟨w.heap.size, 2, none⟩ v2).setCell ⟨w.heap.size, 3, none⟩ v3).setCell ⟨w.heap.size, 4, none⟩ v4).setCell ⟨w.heap.size, 5, none⟩ v5).setCell ⟨w.heap.size, 6, none⟩ v6)) := fun w1 h => h.fin
  obtain ⟨W, hW⟩ : ∃ W, W = w.alloc (.cells #[.int .i64 0, .string ⟨#[]⟩, .int .i64 0, .int .i64 0, .string ⟨#[]⟩, .int .i64 0, .int .i64 0] 29) := ⟨_, rfl⟩
  have hq0 : Qr w [] (.slice none 0 0) W := ⟨by rw [hW]; exact Ro.new w, World.ownsRow_nil _ _ _ _⟩
  have HQz : Hid _ := hq0
  have HV0 : Hid (Q = ((qtR 0 ([] : List UInt8).length (s.data.toList.drop (p + 1))).1.map ([] ++ ·), (qtR 0 ([] : List UInt8).length (s.data.toList.drop (p + 1))).2 + 0)) := by
    show Q = _
    rw [List.length_nil, hQ]
    obtain ⟨a, b⟩ := Q
    cases a <;> simp
  clear hRR hQ hq0
  go_enter Tryz.func28, Tryz.ntmps28
  go_wp2_with fail
  rw [← hW]
  clear hW
  go_loopw [6, 7] (fun s6 s7 wr => ∃ (i n : Nat) (T : List UInt8), i = p + 1 + n ∧ i ≤ s.size ∧ s7 = .int .i64 (i : Int) ∧ T.length ≤ 64 ∧ Qr w T s6 wr ∧ Q = ((qtR 0 T.length (s.data.toList.drop i)).1.map (T ++ ·), (qtR 0 T.length (s.data.toList.drop i)).2 + n)) (fun _ s7 _ => s.size - (intOf s7).toNat)
  case atStart => exact ⟨p + 1, 0, [], rfl, by omega, by first | go_num | simp, by simp, HQz.out, HV0.out⟩
  case round =>
    obtain ⟨i, n, T, hin, hi, rfl, hT64, hq, hinv⟩ := hrel
    clear HQz HV0
    have HIN : Hid (i = p + 1 + n) := hin
    clear hin
    obtain ⟨ao, cap, rfl, hsee, -, hao⟩ := owns_sees hq.row
    have hTz : (T.length : Int) ≤ 64 := by omega
    rcases Nat.lt_or_ge i s.size with hlt | hge
    · have hltz : (i : Int) < (s.size : Int) := by omega
      obtain ⟨b, hb⟩ : ∃ b, s[i]'hlt = b := ⟨_, rfl⟩
      rw [HC.out i hlt, hb] at hinv
      have b256 := b.toNat_lt
      by_cases h39 : b.toNat = 39
      · have h39z : (b.toNat : Int) = 39 := by omega
        rw [qtR_zero, if_pos h39] at hinv
        simp only [Option.map_some, List.append_nil] at hinv
        have HR : Hid (RR = .tuple #[.agg #[.int .i64 4, .string ⟨#[]⟩, .int .i64 2, .int .i64 0, .string (xB T), .int .i64 (p : Int), .int .i64 ((i : Int) + 1)], .int .i64 (-1)]) := by
          show RR = _
          rw [HQ1.out _ _ hinv (i + 1) (by have := HIN.out; omega)]
          rfl
        have hcv := conv_seesL hsee (fun e => (hao e).1) cap
        obtain ⟨fz, e0, e1, e2, e3, e4, e5, e6⟩ := hq.ro.fro
        have f0 := fz 0
        have f1 := fz 1
        have f2 := fz 2
        have f3 := fz 3
        have f4 := fz 4
        have f5 := fz 5
        have f6 := fz 6
        clear fz
        have HG : Hid _ := HF.out _ hq.ro
        clear hq hsee hao hinv HQ0 HQ1 HX HC CPl CHx h39
        go_wp2_with fail
        refine bodyPost_ret (v := .tuple #[.agg #[.int .i64 4, .string ⟨#[]⟩, .int .i64 2, .int .i64 0, .string (xB T), .int .i64 (p : Int), .int .i64 ((i : Int) + 1)], .int .i64 (-1)]) (results_row_one Tryz.results28 _ _ w.heap.size 29 _ _ _ _ rfl rfl (HG.out _ _ _ _ _ _ _).1 Tryz.underlying29 rfl (by kernel_rfl)) rfl ?_
        exact ⟨by rw [HR.out], (HG.out _ _ _ _ _ _ _).2⟩
      · have h39z : ((b.toNat : Int) == 39) = false := beq_false_of_ne (by omega)
        by_cases h64 : T.length = 64
        · rw [qtR_stop h39 (.inr h64)] at hinv
          simp only [Option.map_none, Nat.zero_add] at hinv
          have h64z : ((T.length : Int) == 64) = true := beq_iff_eq.2 (by omega)
          clear HX HC CPl CHx h39 h64
          have HR : Hid (RR = .tuple #[.agg #[.int .i64 0, .string ⟨#[]⟩, .int .i64 0, .int .i64 0, .string ⟨#[]⟩, .int .i64 0, .int .i64 0], .int .i64 (i : Int)]) := HQ0.out _ hinv _ (by have := HIN.out; omega)
          clear hinv HQ0 HQ1
          obtain ⟨fz, e0, e1, e2, e3, e4, e5, e6⟩ := hq.ro.fro
          have f0 := fz 0
          have f1 := fz 1
          have f2 := fz 2
          have f3 := fz 3
          have f4 := fz 4
          have f5 := fz 5
          have f6 := fz 6
          clear fz
          have HG : Hid _ := HF.out _ hq.ro
          clear hq hsee hao
          go_wp2_with fail
          refine bodyPost_ret (v := .tuple #[.agg #[.int .i64 0, .string ⟨#[]⟩, .int .i64 0, .int .i64 0, .string ⟨#[]⟩, .int .i64 0, .int .i64 0], .int .i64 (i : Int)]) (results_row_one Tryz.results28 _ _ w.heap.size 29 _ _ _ _ rfl rfl (HG.out _ _ _ _ _ _ _).1 Tryz.underlying29 rfl (by kernel_rfl)) rfl ?_
          exact ⟨by rw [HR.out], (HG.out _ _ _ _ _ _ _).2⟩
        · have h64z : ((T.length : Int) == 64) = false := beq_false_of_ne (by omega)
          have CP0 := CPl.out b
          obtain ⟨i0, hi0, hz0, hz1, hz2⟩ : ∃ i, Tryz.prog.info? 5 = some i ∧ i.zero = some (.int .u8 0) ∧ i.size = 1 ∧ i.bytes = 1 := ⟨_, rfl, rfl, rfl, rfl⟩
          have HI : Hid (Tryz.prog.info? 5 = some i0 ∧ i0.zero = some (.int .u8 0) ∧ i0.size = 1 ∧ i0.bytes = 1) := ⟨hi0, hz0, hz1, hz2⟩
          clear hi0 hz0 hz1 hz2
          cases hpl : plB b
          · rw [hpl] at CP0
            have CP : Hid _ := CP0
            by_cases h37 : b.toNat = 37
            · have h37z : (b.toNat : Int) = 37 := by omega
              clear CP
              rw [h37z] at CP0
              have CP : Hid _ := CP0
              by_cases hlt2 : i + 2 < s.size
              · have hlt2z : (i : Int) + 2 < (s.size : Int) := by omega
                have hlt1 : i + 1 < s.size := by omega
                have hlt1z : (i : Int) + 1 < (s.size : Int) := by omega
                obtain ⟨x, hx⟩ : ∃ x, s[i + 1]'hlt1 = x := ⟨_, rfl⟩
                obtain ⟨y, hy⟩ : ∃ y, s[i + 2]'hlt2 = y := ⟨_, rfl⟩
                have hdx := HC.out (i + 1) hlt1
                have hdy := HC.out (i + 1 + 1) hlt2
                rw [hx] at hdx
                rw [show s[i + 1 + 1]'hlt2 = y from hy] at hdy
                rw [hdx, hdy] at hinv
                have CX : Hid _ := CHx.out x
                have CY : Hid _ := CHx.out y
                have x256 := x.toNat_lt
                have y256 := y.toNat_lt
                clear hdx hdy
                by_cases hbad : ixH x < 0
                · rw [qtR_stop h39 (.inl (chB_bad hpl _ (.inl hbad)))] at hinv
                  simp only [Option.map_none, Nat.zero_add] at hinv
                  have hbz : decide (ixH x < 0) = true := decide_eq_true hbad
                  clear HX HC CPl CHx h39 h64 CP0 hpl h37
                  have HR : Hid (RR = .tuple #[.agg #[.int .i64 0, .string ⟨#[]⟩, .int .i64 0, .int .i64 0, .string ⟨#[]⟩, .int .i64 0, .int .i64 0], .int .i64 (i : Int)]) := HQ0.out _ hinv _ (by have := HIN.out; omega)
                  clear hinv HQ0 HQ1
                  obtain ⟨fz, e0, e1, e2, e3, e4, e5, e6⟩ := hq.ro.fro
                  have f0 := fz 0
                  have f1 := fz 1
                  have f2 := fz 2
                  have f3 := fz 3
                  have f4 := fz 4
                  have f5 := fz 5
                  have f6 := fz 6
                  clear fz
                  have HG : Hid _ := HF.out _ hq.ro
                  clear hq hsee hao
                  go_wp2_with (first | (go_at_call 46; with_reducible (refine (CP.out _).mono ?_); rintro e _ ⟨rfl, hw⟩; obtain rfl := hw.symm; clear hw) | (go_at_call 47; with_reducible (refine (CX.out _).mono ?_); rintro e _ ⟨rfl, hw⟩; obtain rfl := hw.symm; clear hw) | (go_at_call 47; with_reducible (refine (CY.out _).mono ?_); rintro e _ ⟨rfl, hw⟩; obtain rfl := hw.symm; clear hw))
                  refine bodyPost_ret (v := .tuple #[.agg #[.int .i64 0, .string ⟨#[]⟩, .int .i64 0, .int .i64 0, .string ⟨#[]⟩, .int .i64 0, .int .i64 0], .int .i64 (i : Int)]) (results_row_one Tryz.results28 _ _ w.heap.size 29 _ _ _ _ rfl rfl (HG.out _ _ _ _ _ _ _).1 Tryz.underlying29 rfl (by kernel_rfl)) rfl ?_
                  exact ⟨by rw [HR.out], (HG.out _ _ _ _ _ _ _).2⟩
                · have hbz : decide (ixH x < 0) = false := decide_eq_false hbad
                  by_cases hbad2 : ixH y < 0
                  · rw [qtR_stop h39 (.inl (chB_bad hpl _ (.inr hbad2)))] at hinv
                    simp only [Option.map_none, Nat.zero_add] at hinv
                    have hbz2 : decide (ixH y < 0) = true := decide_eq_true hbad2
                    clear HX HC CPl CHx h39 h64 CP0 hpl h37
                    have HR : Hid (RR = .tuple #[.agg #[.int .i64 0, .string ⟨#[]⟩, .int .i64 0, .int .i64 0, .string ⟨#[]⟩, .int .i64 0, .int .i64 0], .int .i64 (i : Int)]) := HQ0.out _ hinv _ (by have := HIN.out; omega)
                    clear hinv HQ0 HQ1
                    obtain ⟨fz, e0, e1, e2, e3, e4, e5, e6⟩ := hq.ro.fro
                    have f0 := fz 0
                    have f1 := fz 1
                    have f2 := fz 2
                    have f3 := fz 3
                    have f4 := fz 4
                    have f5 := fz 5
                    have f6 := fz 6
                    clear fz
                    have HG : Hid _ := HF.out _ hq.ro
                    clear hq hsee hao
                    go_wp2_with (first | (go_at_call 46; with_reducible (refine (CP.out _).mono ?_); rintro e _ ⟨rfl, hw⟩; obtain rfl := hw.symm; clear hw) | (go_at_call 47; with_reducible (refine (CX.out _).mono ?_); rintro e _ ⟨rfl, hw⟩; obtain rfl := hw.symm; clear hw) | (go_at_call 47; with_reducible (refine (CY.out _).mono ?_); rintro e _ ⟨rfl, hw⟩; obtain rfl := hw.symm; clear hw))
                    refine bodyPost_ret (v := .tuple #[.agg #[.int .i64 0, .string ⟨#[]⟩, .int .i64 0, .int .i64 0, .string ⟨#[]⟩, .int .i64 0, .int .i64 0], .int .i64 (i : Int)]) (results_row_one Tryz.results28 _ _ w.heap.size 29 _ _ _ _ rfl rfl (HG.out _ _ _ _ _ _ _).1 Tryz.underlying29 rfl (by kernel_rfl)) rfl ?_
                    exact ⟨by rw [HR.out], (HG.out _ _ _ _ _ _ _).2⟩
                  · have hbz2 : decide (ixH y < 0) = false := decide_eq_false hbad2
                    obtain ⟨c, hch, hcz⟩ := chB_good (b := b) hpl h37 (s.data.toList.drop (i + 1 + 1 + 1)) (by omega : 0 ≤ ixH x) (by omega : 0 ≤ ixH y)
                    rw [qtR_next h39 hch h64] at hinv
                    have HV : Hid (Q = ((qtR 0 (T ++ [c]).length (s.data.toList.drop (i + 3))).1.map ((T ++ [c]) ++ ·), (qtR 0 (T ++ [c]).length (s.data.toList.drop (i + 3))).2 + (n + 3))) := by
                      show Q = _
                      have hl1 : (T ++ [c]).length = T.length + 1 := by simp
                      rw [hinv, hl1]
                      show _ = ((qtR 0 (T.length + 1) (s.data.toList.drop (i + 1 + 1 + 1))).1.map _, _ + (n + 3))
                      have hq2 : qtR (3 - 1) (T.length + 1) (x :: y :: s.data.toList.drop (i + 1 + 1 + 1)) = ((qtR 0 (T.length + 1) (s.data.toList.drop (i + 1 + 1 + 1))).1, (qtR 0 (T.length + 1) (s.data.toList.drop (i + 1 + 1 + 1))).2 + 2) := rfl
                      rw [hq2]
                      generalize qtR 0 (T.length + 1) (s.data.toList.drop (i + 1 + 1 + 1)) = z
                      obtain ⟨za, zb⟩ := z
                      cases za with
                      | none => simp only [Option.map_none, Prod.mk.injEq, true_and]; omega
                      | some za =>
                        simp only [Option.map_some, List.append_assoc, List.singleton_append, Prod.mk.injEq, true_and]
                        omega
                    have HL : Hid ((T ++ [c]).length ≤ 64) := by show _ ≤ _; rw [List.length_append, List.length_singleton]; omega
                    have lx := ixH_low x
                    have ly := ixH_low y
                    have hk0 : 0 ≤ 16 * ixH x + ixH y := by omega
                    have hk1 : 16 * ixH x + ixH y ≤ 255 := by omega
                    clear HX HC CPl CHx h39 h64 CP0 hpl h37 hinv hch hsee hao HQ0 HQ1 HF
                    generalize ixH x = ix at *
                    generalize ixH y = iy at *
                    go_wp2_with (first | (go_at_call 46; with_reducible (refine (CP.out _).mono ?_); rintro e _ ⟨rfl, hw⟩; obtain rfl := hw.symm; clear hw) | (go_at_call 47; with_reducible (refine (CX.out _).mono ?_); rintro e _ ⟨rfl, hw⟩; obtain rfl := hw.symm; clear hw) | (go_at_call 47; with_reducible (refine (CY.out _).mono ?_); rintro e _ ⟨rfl, hw⟩; obtain rfl := hw.symm; clear hw))
                    have hw1 : IntKind.i64.wrap ((i : Int) + 1) = (i : Int) + 1 := by rw [IntKind.wrap_i64]; omega
                    have hw2 : IntKind.i64.wrap ((i : Int) + 2) = (i : Int) + 2 := by rw [IntKind.wrap_i64]; omega
                    have hw3 : IntKind.i64.wrap (16 * ix) = 16 * ix := by rw [IntKind.wrap_i64]; omega
                    have hw4 : IntKind.i64.wrap (16 * ix + iy) = 16 * ix + iy := by rw [IntKind.wrap_i64]; omega
                    have hw5 : IntKind.u8.wrap (16 * ix + iy) = 16 * ix + iy := by rw [IntKind.wrap_u8]; omega
                    have ht1 : ((i : Int) + 1).toNat = i + 1 := by omega
                    have ht2 : ((i : Int) + 2).toNat = i + 2 := by omega
                    have hp1 : 0 ≤ (i : Int) + 1 := by omega
                    have hp2 : 0 ≤ (i : Int) + 2 := by omega
                    refine wp_region_C (fun _ => True) 16 _ (by kernel_rfl) ?_ (fun _ _ h => h)
                    have hqd := hq.to ((Below.refl _ _).drew)
                    clear hq
                    refine anyC_pure 0 rfl (by kernel_rfl) (by kernel_rfl) (by kernel_rfl) trivial (fun K hK => ?_)
                    go_simp
                    refine hK _ ?_
                    clear hK K
                    refine anyC_pure 1 rfl (by kernel_rfl) (by kernel_rfl) (by kernel_rfl) trivial (fun K hK => ?_)
                    go_simp
                    refine hK _ ?_
                    clear hK K
                    refine anyC_pure 2 rfl (by kernel_rfl) (by kernel_rfl) (by kernel_rfl) trivial (fun K hK => ?_)
                    go_simp
                    refine hK _ ?_
                    clear hK K
                    refine anyC_pure 3 rfl (by kernel_rfl) (by kernel_rfl) (by kernel_rfl) trivial (fun K hK => ?_)
                    go_simp
                    refine hK _ ?_
                    clear hK K
                    refine anyC_pure 4 rfl (by kernel_rfl) (by kernel_rfl) (by kernel_rfl) trivial (fun K hK => ?_)
                    go_simp
                    refine hK _ ?_
                    clear hK K
                    refine anyC_pure 7 rfl (by kernel_rfl) (by kernel_rfl) (by kernel_rfl) trivial (fun K hK => ?_)
                    go_simp
                    refine hK _ ?_
                    clear hK K
                    refine anyC_pure 8 rfl (by kernel_rfl) (by kernel_rfl) (by kernel_rfl) trivial (fun K hK => ?_)
                    go_simp
                    refine hK _ ?_
                    clear hK K
                    refine anyC_pure 9 rfl (by kernel_rfl) (by kernel_rfl) (by kernel_rfl) trivial (fun K hK => ?_)
                    go_simp
                    refine hK _ ?_
                    clear hK K
                    refine anyC_pure 10 rfl (by kernel_rfl) (by kernel_rfl) (by kernel_rfl) trivial (fun K hK => ?_)
                    go_simp
                    refine hK _ ?_
                    clear hK K
                    refine anyC_loud 5 (by kernel_rfl) ?_
                    refine lou_of rfl (fun K hK => ?_)
                    go_simp
                    refine (CX.out _).mono ?_
                    rintro e _ ⟨rfl, hw⟩
                    obtain rfl := hw.symm
                    clear hw
                    refine hK _ _ ⟨fun _ => trivial, ?_⟩
                    clear hK K
                    refine anyC_pure 6 rfl (by kernel_rfl) (by kernel_rfl) (by kernel_rfl) trivial (fun K hK => ?_)
                    go_simp
                    refine hK _ ?_
                    clear hK K
                    refine anyC_loud 11 (by kernel_rfl) ?_
                    refine lou_of rfl (fun K hK => ?_)
                    go_simp
                    refine (CY.out _).mono ?_
                    rintro e _ ⟨rfl, hw⟩
                    obtain rfl := hw.symm
                    clear hw
                    refine hK _ _ ⟨fun _ => trivial, ?_⟩
                    clear hK K
                    refine anyC_pure 12 rfl (by kernel_rfl) (by kernel_rfl) (by kernel_rfl) trivial (fun K hK => ?_)
                    go_simp
                    refine hK _ ?_
                    clear hK K
                    refine anyC_pure 13 rfl (by kernel_rfl) (by kernel_rfl) (by kernel_rfl) trivial (fun K hK => ?_)
                    go_simp
                    refine hK _ ?_
                    clear hK K
                    refine anyC_loud 14 (by kernel_rfl) ?_
                    refine lou_of rfl (fun K hK => ?_)
                    go_simp
                    refine hK _ _ ⟨fun _ => trivial, ?_⟩
                    clear hK K
                    refine anyC_loud 15 (by kernel_rfl) ?_
                    refine lou_of rfl (fun K hK => ?_)
                    refine step_append_grew rfl (.tmp 71) (.tmp 85) 57 57 rfl (w.heap.size + 1) 5 i0 (.int .u8 0) 1 1 Tryz.underlying57 HI.out.1 HI.out.2.1 HI.out.2.2.1 HI.out.2.2.2 rfl _ T.length _ rfl (hqd.row.alloc _) _ 1 (B8 [c]) rfl (src_oneZ wr.drew _ c hcz) (by unfold maxLen; omega) (by omega) (by have h1 := hqd.ro.res.lt; have h2 : wr.drew.heap.size = wr.heap.size := rfl; show _ ≤ (wr.heap.push _).size; rw [Array.size_push]; omega) ?_
                    intro v5 w5 ho5 hg5
                    refine hK _ _ ⟨fun _ => trivial, ?_⟩
                    clear hK K
                    refine anyC_loud 16 (by kernel_rfl) ?_
                    refine lou_of rfl (fun K hK => ?_)
                    go_simp
                    refine hK _ _ ⟨fun h => absurd rfl h, ?_⟩
                    clear hK K
                    refine anyC_done (by kernel_rfl) ?_
                    have HQ5 := hqd.app (o := .cells #[.int .u8 (16 * ix + iy)] 5) hg5 ho5
                    clear CX CY
                    go_wp2_with fail
                    go_roundw
                    case rel => exact ⟨i + 3, n + 3, T ++ [c], by have := HIN.out; omega, by omega, by first | go_num | simp, HL.out, HQ5, HV.out⟩
                    case measure => simp [intOf]; omega
              · have hlt2z : ¬ (i : Int) + 2 < (s.size : Int) := by omega
                have hlt2g : (s.size : Int) ≤ (i : Int) + 2 := by omega
                rw [qtR_stop h39 (.inl (chB_short hpl (by rw [List.length_drop]; simp; omega)))] at hinv
                simp only [Option.map_none, Nat.zero_add] at hinv
                clear HX HC CPl CHx h39 h64 CP0 hpl h37
                have HR : Hid (RR = .tuple #[.agg #[.int .i64 0, .string ⟨#[]⟩, .int .i64 0, .int .i64 0, .string ⟨#[]⟩, .int .i64 0, .int .i64 0], .int .i64 (i : Int)]) := HQ0.out _ hinv _ (by have := HIN.out; omega)
                clear hinv HQ0 HQ1
                obtain ⟨fz, e0, e1, e2, e3, e4, e5, e6⟩ := hq.ro.fro
                have f0 := fz 0
                have f1 := fz 1
                have f2 := fz 2
                have f3 := fz 3
                have f4 := fz 4
                have f5 := fz 5
                have f6 := fz 6
                clear fz
                have HG : Hid _ := HF.out _ hq.ro
                clear hq hsee hao
                go_wp2_with (go_at_call 46; with_reducible (refine (CP.out _).mono ?_); rintro e _ ⟨rfl, hw⟩; obtain rfl := hw.symm; clear hw)
                refine bodyPost_ret (v := .tuple #[.agg #[.int .i64 0, .string ⟨#[]⟩, .int .i64 0, .int .i64 0, .string ⟨#[]⟩, .int .i64 0, .int .i64 0], .int .i64 (i : Int)]) (results_row_one Tryz.results28 _ _ w.heap.size 29 _ _ _ _ rfl rfl (HG.out _ _ _ _ _ _ _).1 Tryz.underlying29 rfl (by kernel_rfl)) rfl ?_
                exact ⟨by rw [HR.out], (HG.out _ _ _ _ _ _ _).2⟩
            · have h37z : ((b.toNat : Int) == 37) = false := beq_false_of_ne (by omega)
              have h37n : ((b.toNat : Int) != 37) = true := bne_iff_ne.2 (by omega)
              rw [qtR_stop h39 (.inl (chB_no hpl h37 _))] at hinv
              simp only [Option.map_none, Nat.zero_add] at hinv
              clear HX HC CPl CHx h39 h64 CP0 hpl h37
              have HR : Hid (RR = .tuple #[.agg #[.int .i64 0, .string ⟨#[]⟩, .int .i64 0, .int .i64 0, .string ⟨#[]⟩, .int .i64 0, .int .i64 0], .int .i64 (i : Int)]) := HQ0.out _ hinv _ (by have := HIN.out; omega)
              clear hinv HQ0 HQ1
              obtain ⟨fz, e0, e1, e2, e3, e4, e5, e6⟩ := hq.ro.fro
              have f0 := fz 0
              have f1 := fz 1
              have f2 := fz 2
              have f3 := fz 3
              have f4 := fz 4
              have f5 := fz 5
              have f6 := fz 6
              clear fz
              have HG : Hid _ := HF.out _ hq.ro
              clear hq hsee hao
              go_wp2_with (go_at_call 46; with_reducible (refine (CP.out _).mono ?_); rintro e _ ⟨rfl, hw⟩; obtain rfl := hw.symm; clear hw)
              refine bodyPost_ret (v := .tuple #[.agg #[.int .i64 0, .string ⟨#[]⟩, .int .i64 0, .int .i64 0, .string ⟨#[]⟩, .int .i64 0, .int .i64 0], .int .i64 (i : Int)]) (results_row_one Tryz.results28 _ _ w.heap.size 29 _ _ _ _ rfl rfl (HG.out _ _ _ _ _ _ _).1 Tryz.underlying29 rfl (by kernel_rfl)) rfl ?_
              exact ⟨by rw [HR.out], (HG.out _ _ _ _ _ _ _).2⟩
          · rw [hpl] at CP0
            have CP : Hid _ := CP0
            rw [qtR_next h39 (chB_pl hpl _) h64] at hinv
            have HV : Hid (Q = ((qtR 0 (T ++ [b]).length (s.data.toList.drop (i + 1))).1.map ((T ++ [b]) ++ ·), (qtR 0 (T ++ [b]).length (s.data.toList.drop (i + 1))).2 + (n + 1))) := by
              show Q = _
              have hl1 : (T ++ [b]).length = T.length + 1 := by simp
              rw [hinv, hl1]
              generalize qtR 0 (T.length + 1) (s.data.toList.drop (i + 1)) = z
              obtain ⟨za, zb⟩ := z
              cases za with
              | none => simp only [Option.map_none, Prod.mk.injEq, true_and]; omega
              | some za =>
                simp only [Option.map_some, List.append_assoc, List.singleton_append, Prod.mk.injEq, true_and]
                omega
            have HL : Hid ((T ++ [b]).length ≤ 64) := by show _ ≤ _; rw [List.length_append, List.length_singleton]; omega
            clear HX HC CPl CHx h39 h64 CP0 hpl hinv hsee hao HQ0 HQ1 HF
            go_wp2_with (first | (go_at_call 46; with_reducible (refine (CP.out _).mono ?_); rintro e _ ⟨rfl, hw⟩; obtain rfl := hw.symm; clear hw) | (at_builtin; go_must (refine wpList_append_grew _ rfl _ _ 57 57 rfl (w.heap.size + 1) 5 i0 (.int .u8 0) 1 1 Tryz.underlying57 HI.out.1 HI.out.2.1 HI.out.2.2.1 HI.out.2.2.2 rfl _ T.length _ rfl (hq.row.alloc _) _ 1 (B8 [b]) rfl (src_oneL wr b) (by unfold maxLen; omega) (by omega) (by rw [World.size_alloc]; have := hq.ro.res.lt; omega) ?_; intro v5 w5 ho5 hg5)))
            have HQ5 := hq.app hg5 ho5
            go_roundw
            case rel => exact ⟨i + 1, n + 1, T ++ [b], by have := HIN.out; omega, by omega, by first | go_num | simp, HL.out, HQ5, HV.out⟩
            case measure => simp [intOf]; omega
    · have his : i = s.size := by omega
      rw [HX.out i hge] at hinv
      simp only [qtR, Option.map_none, Nat.zero_add] at hinv
      clear HX HC CPl CHx
      have hgez : (s.size : Int) ≤ (i : Int) := by omega
      have HR : Hid (RR = .tuple #[.agg #[.int .i64 0, .string ⟨#[]⟩, .int .i64 0, .int .i64 0, .string ⟨#[]⟩, .int .i64 0, .int .i64 0], .int .i64 (s.size : Int)]) := HQ0.out _ hinv _ (by have := HIN.out; omega)
      clear his
      clear hinv HQ0 HQ1
      obtain ⟨fz, e0, e1, e2, e3, e4, e5, e6⟩ := hq.ro.fro
      have f0 := fz 0
      have f1 := fz 1
      have f2 := fz 2
      have f3 := fz 3
      have f4 := fz 4
      have f5 := fz 5
      have f6 := fz 6
      clear fz
      have HG : Hid _ := HF.out _ hq.ro
      clear hq hsee hao
      go_wp2_with fail
      refine bodyPost_ret (v := .tuple #[.agg #[.int .i64 0, .string ⟨#[]⟩, .int .i64 0, .int .i64 0, .string ⟨#[]⟩, .int .i64 0, .int .i64 0], .int .i64 (s.size : Int)]) (results_row_one Tryz.results28 _ _ w.heap.size 29 _ _ _ _ rfl rfl (HG.out _ _ _ _ _ _ _).1 Tryz.underlying29 rfl (by kernel_rfl)) rfl ?_
      exact ⟨by rw [HR.out], (HG.out _ _ _ _ _ _ _).2⟩
end Go.Proofs.YtajebjkpmbehgaaGreatDoor

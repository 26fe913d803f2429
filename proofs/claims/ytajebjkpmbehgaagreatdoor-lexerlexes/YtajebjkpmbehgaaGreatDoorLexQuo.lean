/-
  CONTRACT: a quoted text (quoted).
-/
import Derived.Test.YtajebjkpmbehgaaGreatDoorLexChar
namespace Go.Proofs.YtajebjkpmbehgaaGreatDoor
open Go.RowKit

theorem owns_keepL {w w' : World} {base : Nat} {e : TypeId} {size : Nat} {v : Value} {n : Nat} {xs : List Value} (h : w.ownsRow base e size v n xs) (hk : ∀ k, v.ownBlock = some k → w'.heap[k]? = w.heap[k]?) : w'.ownsRow base e size v n xs := by
  obtain ⟨h1, h2⟩ := h
  refine ⟨h1, ?_⟩
  rcases h2 with h2 | ⟨g, cap, cur, rfl, hg, hh, h3⟩
  · exact .inl h2
  · exact .inr ⟨g, cap, cur, rfl, hg, (hk g rfl).trans hh, h3⟩
/-- What quoted has in memory. -/
structure Qs (w : World) (s S : ByteArray) (p0 g p : Nat) (T : List UInt8) (v : Value) (wr : World) : Prop where
  gt : w.heap.size + 1 < g
  it : AtIt wr g S p
  pr : Pr w s (p0 : Int) wr
  row : wr.ownsRow (g + 1) 5 1 v T.length (B8 T)
section
variable {w : World} {s S : ByteArray} {p0 g p : Nat} {T : List UInt8} {v : Value} {wr : World}
theorem Qs.stand (h : Qs w s S p0 g p T v wr) (q : Nat) : Qs w s S p0 g q T v (World.stand wr g S q) := by
  have hgt := h.gt
  have hc : ∀ i j, i ≠ g → (World.stand wr g S q).cell? ⟨i, j, none⟩ = wr.cell? ⟨i, j, none⟩ := fun i j hi => World.cell?_of_block (a := ⟨i, j, none⟩) (stand_other hi)
  refine ⟨hgt, h.it.stand q, ⟨(hc _ _ (by omega)).trans h.pr.q0, (hc _ _ (by omega)).trans h.pr.q1, h.pr.res.carry (stand_other (by omega)), stand_below h.pr.below (by omega)⟩, owns_keepL h.row fun k hk => stand_other ?_⟩
  have := (h.row.lt k hk).1
  omega
theorem Qs.to (h : Qs w s S p0 g p T v wr) {w1 : World} (hb : Below wr.heap.size wr w1) : Qs w s S p0 g p T v w1 :=
  ⟨h.gt, h.it.below hb h.it.lt, h.pr.to hb, owns_keepL h.row fun k hk => hb.block _ (h.row.lt k hk).2⟩
theorem Qs.app (h : Qs w s S p0 g p T v wr) {o : Obj} {w' : World} {v' : Value} {b : UInt8} (hg : Grew (wr.alloc o) w' v v') (ho : w'.ownsRow (g + 1) 5 1 v' (T.length + 1) (B8 T ++ B8 [b])) : Qs w s S p0 g p (T ++ [b]) v' w' := by
  have hgt := h.gt
  have hlt := h.it.lt
  have hbk : ∀ k, k < wr.heap.size → k < g + 1 → w'.heap[k]? = wr.heap[k]? := fun k hk hk2 =>
    (hg.rows.block k (by rw [World.size_alloc]; omega) (fun e => by have := (h.row.lt k e.symm).1; omega)).trans (Below.heap_alloc _ _ _ hk)
  have hc : ∀ k j, k < wr.heap.size → k < g + 1 → w'.cell? ⟨k, j, none⟩ = wr.cell? ⟨k, j, none⟩ := fun k j h1 h2 => World.cell?_of_block (a := ⟨k, j, none⟩) (hbk k h1 h2)
  refine ⟨hgt, (hbk g hlt (by omega)).trans h.it, ⟨(hc _ _ (by omega) (by omega)).trans h.pr.q0, (hc _ _ (by omega) (by omega)).trans h.pr.q1, h.pr.res.carry (hbk _ (by omega) (by omega)), ?_⟩, ?_⟩
  · have hb := h.pr.below
    have hs := hb.size
    refine hb.trans ⟨hg.rows.os, hg.rows.tape, hg.rows.output, ?_, fun k hk => hbk k (by omega) (by omega)⟩
    have := hg.rows.size
    rw [World.size_alloc] at this
    omega
  · rw [List.length_append, B8_append]
    exact ho
end
theorem conv_seesL {w : World} {ao : Option Addr} {l : List UInt8} (h : Sees w ao l) (hn : ao = none → l.length = 0) (cap : Nat) :
    (convert 57 9 (.slice ao l.length cap)).run Tryz.prog w = .ok (.string (xB l)) w := by
  cases ao with
  | none =>
    obtain rfl : l = [] := List.eq_nil_of_length_eq_zero (hn rfl)
    rw [run_convert_bytes_string w 57 9 5 none _ cap Tryz.underlying57 Tryz.underlying5 Tryz.underlying9]
    rfl
  | some a =>
    refine run_convert_bytes_back w 57 9 5 a cap l Tryz.underlying57 Tryz.underlying5 Tryz.underlying9 fun j hj => ?_
    obtain ⟨a', e, hc⟩ := h j hj
    obtain rfl := Option.some.inj e
    rw [hc]; simp [List.getD, hj]
theorem src_oneL (w : World) (b : UInt8) : Src Tryz.prog 1 57 (.slice (some ⟨w.heap.size, 0, none⟩) 1 1) 1 (B8 [b]) (w.alloc (.cells #[.int .u8 (b.toNat : Int)] 5)) := by
  refine src_sees (l := [b]) Tryz.underlying57 (fun i hi => ?_) (fun h => by cases h) 1
  simp only [List.length_singleton] at hi
  obtain rfl : i = 0 := by omega
  refine ⟨_, rfl, ?_⟩
  show World.cell? _ ⟨w.heap.size, 0, none⟩ = _
  exact Row.cell (l := [b]) (g := w.heap.size) (heap_alloc_new w _) 0 (by simp)
/-- What is told of the text between the quotes, and of how far it goes. -/
def qX : Option (List UInt8) × Nat → Option Tk × Nat
  | (some t, n) => (some ⟨4, [], 2, 0, t, 0, n⟩, 0)
  | (none, n) => (none, n)
theorem qX_some (t : List UInt8) (n : Nat) : qX (some t, n) = (some ⟨4, [], 2, 0, t, 0, n⟩, 0) := rfl
theorem qX_none (n : Nat) : qX (none, n) = (none, n) := rfl
theorem qtT_of (b : UInt8) (R : List UInt8) : qtT R = qX (qtR 1 0 (b :: R)) := by
  unfold qtT
  rw [qtR]
  cases h : qtR 0 0 R with
  | mk x n => cases x <;> rfl
theorem qtR_zero (k : Nat) (b : UInt8) (r : List UInt8) : qtR 0 k (b :: r) = if b.toNat = 39 then (some [], 1) else match chB (b :: r) with
    | none => (none, 0)
    | some (c, m) => if k = 64 then (none, 0) else ((qtR (m - 1) (k + 1) r).1.map (c :: ·), (qtR (m - 1) (k + 1) r).2 + 1) := by
  rw [qtR]
  rfl
theorem chB_width {l : List UInt8} {c : UInt8} {m : Nat} (h : chB l = some (c, m)) : chT l = ((c.toNat : Int), (m : Int)) ∧ 1 ≤ m ∧ m ≤ l.length ∧ ∀ i, i < m → ∃ b, l[i]? = some b ∧ b.toNat < 128 := by
  refine ⟨by unfold chT; rw [h], ?_⟩
  match l, h with
  | [], h => simp [chB] at h
  | b :: r, h =>
    simp only [chB] at h
    split at h
    · rename_i hp
      cases h
      have := (plB_iff c).1 hp
      refine ⟨Nat.le_refl _, by simp, fun i hi => ?_⟩
      obtain rfl : i = 0 := by omega
      exact ⟨c, rfl, by omega⟩
    · split at h
      · rename_i h37
        match r, h with
        | [], h => simp at h
        | [_], h => simp at h
        | x :: y :: r, h =>
          simp only at h
          split at h
          · rename_i u v hu hv
            cases h
            have lowx : ∀ (c : UInt8) n, hexB c = some n → c.toNat < 128 := fun c n hc => by
              unfold hexB at hc
              split at hc
              · omega
              · split at hc
                · omega
                · cases hc
            refine ⟨by omega, by simp, fun i hi => ?_⟩
            match i, hi with
            | 0, _ => exact ⟨b, rfl, by omega⟩
            | 1, _ => exact ⟨x, rfl, lowx x u hu⟩
            | 2, _ => exact ⟨y, rfl, lowx y v hv⟩
          · cases h
      · cases h
theorem chT_none {l : List UInt8} (h : chB l = none) : chT l = (0, 0) := by unfold chT; rw [h]
theorem src_oneZ (w : World) (z : Int) (b : UInt8) (h : (b.toNat : Int) = z) : Src Tryz.prog 1 57 (.slice (some ⟨w.heap.size, 0, none⟩) 1 1) 1 (B8 [b]) (w.alloc (.cells #[.int .u8 z] 5)) := by
  subst h
  exact src_oneL w b
set_option maxRecDepth 100000 in
set_option maxHeartbeats 4000000 in
theorem quoted_any (s : ByteArray) (p0 : Nat) (w : World) (hp : p0 < s.size) (hs : s.size ≤ 600) (hb : (s[p0]'hp).toNat = 39) :
    Calls Tryz.prog 21 #[.agg #[.string s, .int .i64 (p0 : Int)]] w fun e w' => e = .returned (resT (qtT (s.data.toList.drop (p0 + 1))) p0) ∧ Below w.heap.size w w' := by
  have hcons := drop_consB s p0 hp
  obtain ⟨b0, hb0⟩ : ∃ b0, s[p0]'hp = b0 := ⟨_, rfl⟩
  rw [hb0] at hcons hb
  rw [qtT_of b0]
  rw [← hcons, ← ext_end]
  obtain ⟨S, hS⟩ : ∃ S, s.extract p0 s.size = S := ⟨_, rfl⟩
  have hSc : S.data.toList = b0 :: s.data.toList.drop (p0 + 1) := by rw [← hS, ext_end, hcons]
  have zS : S.size = s.size - p0 := by rw [← hS]; simp
  have HZ : Hid (p0 + S.size = s.size) := by show _ = _; omega
  have hSpos : 0 < S.size := by omega
  have hp0 : p0 ≤ 600 := by omega
  have hz : S.size ≤ 600 := by omega
  have HSL : Hid (∀ p, (s.extract (p0 + p) s.size).data.toList = S.data.toList.drop p) := fun p => by rw [ext_end, ← List.drop_drop, ← ext_end, hS]
  have CR : Hid (∀ wr, Calls Tryz.prog 18 #[.agg #[.string s, .int .i64 (p0 : Int)]] wr fun e w' => e = .returned (.string S) ∧ Below wr.heap.size wr w') := fun wr => by
    have := rest_any s p0 wr (by omega)
    rw [hS] at this
    exact this
  obtain ⟨Q, hQ⟩ : ∃ Q, qtR 1 0 S.data.toList = Q := ⟨_, rfl⟩
  rw [hS, hQ]
  have HP0 : Hid (∀ w1, _ → Pr w s p0 w1) := pair_all w s p0
  have h0s : ∃ b, (S.data.toList.drop 0)[0]? = some b ∧ b.toNat < 128 := ⟨b0, by rw [List.drop_zero, hSc]; rfl, by omega⟩
  have HF : Hid (∀ w1, Pr w s p0 w1 → ∀ v0 v1 v2 v3 v4 v5 v6 : Value, (((((((w1.setCell ⟨w.heap.size + 1, 0, none⟩ v0).setCell ⟨w.heap.size + 1, 1, none⟩ v1).setCell ⟨w.heap.size + 1, 2, none⟩ v2).setCell ⟨w.heap.size + 1, 3, none⟩ v3).setCell ⟨w.heap.size + 1, 4, none⟩ v4).setCell ⟨w.heap.size + 1, 5, none⟩ v5).setCell ⟨w.heap.size + 1, 6, none⟩ v6).heap[w.heap.size + 1]? = some (.cells #[v0, v1, v2, v3, v4, v5, v6] 25 (0, 0)) ∧
    Below w.heap.size w (((((((w1.setCell ⟨w.heap.size + 1, 0, none⟩ v0).setCell ⟨w.heap.size + 1, 1, none⟩ v1).setCell ⟨w.heap.size + 1, 2, none⟩ v2).setCell ⟨w.heap.size + 1, 3, none⟩ v3).setCell ⟨w.heap.size + 1, 4, none⟩ v4).setCell ⟨w.heap.size + 1, 5, none⟩ v5).setCell ⟨w.heap.size + 1, 6, none⟩ v6)) := fun w1 h => h.fin
  have CW : Hid (∀ (x : Int) wr, _) := fun x wr => wrongT_any x wr
  clear hcons hb0 hSc hp hs zS
  go_enter Tryz.func21, Tryz.ntmps21
  go_wp2_with (go_at_call 18; with_reducible (refine (CR.out _).mono ?_); rintro e w1 ⟨rfl, hb1⟩; have HP1 := HP0.out _ hb1; clear hb1)
  have hQ0 : Qs w s S p0 w1.heap.size 0 [] (.slice none 0 0) (w1.iter S 0) :=
    ⟨HP1.res.lt, AtIt.of_iter w1 S 0, HP1.to ((Below.refl _ _).alloc (Nat.le_refl _) _), World.ownsRow_nil _ _ _ _⟩
  have HQ0 : Hid _ := hQ0
  clear hQ0 HP1 HP0 CR
  obtain ⟨g, hg⟩ : ∃ g, w1.heap.size = g := ⟨_, rfl⟩
  rw [hg] at HQ0 ⊢
  clear hg
  go_loopw [5, 6] (fun s5 s6 wr => ∃ (p j : Nat) (T : List UInt8) (nx : Int), p + j ≤ S.size ∧ Qs w s S p0 g p T s5 wr ∧ s6 = .int .i64 nx ∧ nx = (p0 : Int) + (p : Int) + (j : Int) ∧ T.length ≤ 64 ∧ (∀ i, i < j → ∃ b, (S.data.toList.drop p)[i]? = some b ∧ b.toNat < 128) ∧ Q = ((qtR j T.length (S.data.toList.drop p)).1.map (T ++ ·), (qtR j T.length (S.data.toList.drop p)).2 + p)) (fun _ _ wr => S.size - wr.iterPos g)
  case atStart =>
    refine ⟨0, 1, [], _, by omega, HQ0.out, rfl, by omega, by simp, fun i hi => ?_, ?_⟩
    · obtain rfl : i = 0 := by omega
      exact h0s
    · rw [← hQ, List.drop_zero, List.length_nil]
      cases h : qtR 1 0 S.data.toList with
      | mk x n => cases x <;> simp
  case round =>
    obtain ⟨p, j, T, nx, hpj, hq, rfl, hnx, hT64, hasc, hinv⟩ := hrel
    clear h0s hQ HQ0
    have hpos : wr.iterPos g = p := by
      have := hq.it
      unfold AtIt at this
      unfold World.iterPos
      rw [this]
    have HPos : Hid (∀ q T v w1, Qs w s S p0 g q T v w1 → w1.iterPos g = q) := fun q T v w1 h => by
      have := h.it
      unfold AtIt at this
      unfold World.iterPos
      rw [this]
    obtain ⟨ao, cap, rfl, hsee, -, hao⟩ := owns_sees hq.row
    rcases Nat.lt_or_ge p S.size with hlt | hge
    · obtain ⟨b, r, m, hr⟩ := rn_at S p hlt
      have hn2 := fun ty => next_any (P := Tryz.prog) hq.it ty hlt
      rw [hr.dec] at hn2
      have hq1 := hq.stand (p + m)
      have hsee1 : Sees (World.stand wr g S (p + m)) ao T := by
        obtain ⟨a1, c1, e1, h1, -, -⟩ := owns_sees hq1.row
        cases e1
        exact h1
      obtain ⟨W, hW⟩ : ∃ W, World.stand wr g S (p + m) = W := ⟨_, rfl⟩
      simp only [] at hn2
      rw [hW] at hn2 hq1 hsee1
      have q0 := hq1.pr.q0
      have q1 := hq1.pr.q1
      have HQ1 : Hid (Qs w s S p0 g (p + m) T (.slice ao T.length cap) W) := hq1
      have hle := hr.le
      have hfit := hr.fit
      have hpos1 := hr.pos
      have HM : Hid (S.size - (p + m) < S.size - p) := by show _ < _; omega
      have hrz : 0 ≤ (r : Int) := by omega
      have hrz2 : (r : Int) ≤ 2147483647 := by omega
      have hcons := hr.cons
      have hpz : (p : Int) ≤ 600 := by omega
      have hjz : (j : Int) ≤ 600 := by omega
      by_cases hj : 0 < j
      · obtain ⟨j, rfl⟩ : ∃ j', j = j' + 1 := ⟨j - 1, by omega⟩
        obtain ⟨b', hb', hbl⟩ := hasc 0 hj
        rw [hcons] at hb'
        obtain rfl : b = b' := by simpa using hb'
        obtain ⟨-, rfl⟩ := hr.low hbl
        have hlt2 : (p0 : Int) + (p : Int) < nx := by omega
        have HA : Hid (∀ i, i < j → ∃ b, (S.data.toList.drop (p + 1))[i]? = some b ∧ b.toNat < 128) := fun i hi => by
          obtain ⟨c, hc, hcl⟩ := hasc (i + 1) (by omega)
          rw [hcons] at hc
          exact ⟨c, by simpa using hc, hcl⟩
        have HV : Hid (Q = ((qtR j T.length (S.data.toList.drop (p + 1))).1.map (T ++ ·), (qtR j T.length (S.data.toList.drop (p + 1))).2 + (p + 1))) := by
          show Q = _
          rw [hinv, hcons, qtR]
          simp only [Prod.mk.injEq, true_and]
          omega
        have hnx2 : nx = (p0 : Int) + ((p + 1 : Nat) : Int) + (j : Int) := by omega
        have hpj2 : p + 1 + j ≤ S.size := by omega
        have HNx : Hid (nx = (p0 : Int) + ((p + 1 : Nat) : Int) + (j : Int)) := hnx2
        clear hnx hnx2 hinv hasc hcons hb' hr hq hq1 hW hsee hsee1 hao CW
        go_wp2_with fail
        go_roundw
        case rel => exact ⟨p + 1, j, T, nx, hpj2, HQ1.out, rfl, HNx.out, hT64, HA.out, HV.out⟩
        case measure => rw [HPos.out _ _ _ _ HQ1.out, hpos]; exact HM.out
      · obtain rfl : j = 0 := by omega
        have hnlt : ¬ (p0 : Int) + (p : Int) < nx := by omega
        rw [hcons, qtR_zero] at hinv
        by_cases h39 : b.toNat = 39
        · have hx : (r : Int) = 39 := (hr.eq 39 (by omega)).2 h39
          rw [if_pos h39] at hinv
          have HR : Hid (resT (qX Q) p0 = .tuple #[.agg #[.int .i64 4, .string ⟨#[]⟩, .int .i64 2, .int .i64 0, .string (xB T), .int .i64 (p0 : Int), .int .i64 ((p0 : Int) + (p : Int) + 1)], .int .i64 0, .int .i64 0]) := by
            show resT _ _ = _
            rw [hinv]
            simp only [Option.map_some, List.append_nil]
            rw [qX_some, resT_at]
            have : (((1 + p) + p0 : Nat) : Int) = (p0 : Int) + (p : Int) + 1 := by omega
            rw [this]
            rfl
          have hcv := conv_seesL hsee1 (fun e => (hao e).1) cap
          have CU : Hid (∀ wr, Calls Tryz.prog 40 #[.agg #[.string s, .int .i64 (p0 : Int)], .int .i64 ((p0 : Int) + (p : Int) + 1), .agg #[.int .i64 4, .string ⟨#[]⟩, .int .i64 2, .int .i64 0, .string (xB T), .int .i64 0, .int .i64 0]] wr fun e w' =>
            e = .returned (.tuple #[.agg #[.int .i64 4, .string ⟨#[]⟩, .int .i64 2, .int .i64 0, .string (xB T), .int .i64 (p0 : Int), .int .i64 ((p0 : Int) + (p : Int) + 1)], .int .i64 0, .int .i64 0]) ∧ Below wr.heap.size wr w') := fun wr => upTo_any s p0 ((p0 : Int) + (p : Int) + 1) 4 2 0 0 0 ⟨#[]⟩ (xB T) wr
          clear hnx hinv hasc hcons hr hq hq1 hW hsee hsee1 hao CW HPos HM h39 HSL
          generalize (r : Int) = x at *
          subst hx
          go_wp2_with (go_at_call 40; with_reducible (refine (CU.out _).mono ?_); rintro e w4 ⟨rfl, hb4⟩; have HP4 := HQ1.out.pr.to hb4; obtain ⟨fz, e0, e1, e2, e3, e4, e5, e6⟩ := HP4.fro; have f0 := fz 0; have f1 := fz 1; have f2 := fz 2; have f3 := fz 3; have f4 := fz 4; have f5 := fz 5; have f6 := fz 6; clear fz)
          refine bodyPost_ret (v := .tuple #[.agg #[.int .i64 4, .string ⟨#[]⟩, .int .i64 2, .int .i64 0, .string (xB T), .int .i64 (p0 : Int), .int .i64 ((p0 : Int) + (p : Int) + 1)], .int .i64 0, .int .i64 0]) (results_row_two Tryz.results21 _ _ (w.heap.size + 1) 25 _ _ _ _ _ rfl rfl rfl (HF.out _ HP4 _ _ _ _ _ _ _).1 Tryz.underlying25 rfl (by kernel_rfl)) rfl ?_
          exact ⟨by rw [HR.out], (HF.out _ HP4 _ _ _ _ _ _ _).2⟩
        · have hx : ¬ (r : Int) = 39 := fun e => h39 ((hr.eq 39 (by omega)).1 e)
          have hxb : ((r : Int) == 39) = false := beq_false_of_ne hx
          rw [if_neg h39] at hinv
          have hsl : (s.extract (p0 + p) s.size).data.toList = b :: S.data.toList.drop (p + 1) := by rw [← hcons, HSL.out p]
          have CC := fun wr => character_any (s.extract (p0 + p) s.size) b (S.data.toList.drop (p + 1)) hsl (r : Int) ⟨hrz, hrz2⟩ hr.pl (hr.eq 37 (by omega)) (fun h => by rw [(hr.low (by have := (plB_iff b).1 h; omega)).1]) (by simp; have := HZ.out; omega) wr
          have i3 : (p0 : Int) + (p : Int) ≤ (s.size : Int) := by have := HZ.out; omega
          have hCW : Hid _ := CW.out ((p0 : Int) + (p : Int))
          cases hch : chB (b :: S.data.toList.drop (p + 1)) with
          | none =>
            rw [chT_none hch] at CC
            rw [hch] at hinv
            simp only at hinv
            have HR : Hid (resT (qX Q) p0 = .tuple #[.agg #[.int .i64 0, .string ⟨#[]⟩, .int .i64 0, .int .i64 0, .string ⟨#[]⟩, .int .i64 0, .int .i64 0], .int .i64 ((p0 : Int) + (p : Int)), .int .i64 11]) := by
              show resT _ _ = _
              rw [hinv]
              simp only [Option.map_none, Nat.zero_add]
              rw [qX_none, resT_no, Int.add_comm (p : Int)]
            have HCC : Hid _ := CC
            clear hnx hinv hasc hcons hr hq hq1 hW hsee hsee1 hao CW HPos HM h39 HSL CC hch hsl
            generalize (r : Int) = x at *
            go_wp2_with (first | (go_at_call 41; with_reducible (refine (HCC.out _).mono ?_); rintro e w3 ⟨rfl, hb3⟩; have HQ3 := HQ1.out.to hb3) | (go_at_call 39; with_reducible (refine (hCW.out _).mono ?_); rintro e w4 ⟨rfl, hb4⟩; have HP4 := HQ3.pr.to hb4; obtain ⟨fz, e0, e1, e2, e3, e4, e5, e6⟩ := HP4.fro; have f0 := fz 0; have f1 := fz 1; have f2 := fz 2; have f3 := fz 3; have f4 := fz 4; have f5 := fz 5; have f6 := fz 6; clear fz))
            refine bodyPost_ret (v := .tuple #[.agg #[.int .i64 0, .string ⟨#[]⟩, .int .i64 0, .int .i64 0, .string ⟨#[]⟩, .int .i64 0, .int .i64 0], .int .i64 ((p0 : Int) + (p : Int)), .int .i64 11]) (results_row_two Tryz.results21 _ _ (w.heap.size + 1) 25 _ _ _ _ _ rfl rfl rfl (HF.out _ HP4 _ _ _ _ _ _ _).1 Tryz.underlying25 rfl (by kernel_rfl)) rfl ?_
            exact ⟨by rw [HR.out], (HF.out _ HP4 _ _ _ _ _ _ _).2⟩
          | some y =>
            obtain ⟨c, mm⟩ := y
            obtain ⟨hct, hm1, hml, hma⟩ := chB_width hch
            rw [hct] at CC
            rw [hch] at hinv
            simp only at hinv
            obtain ⟨bb, hbb, hbl⟩ := hma 0 (by omega)
            obtain rfl : b = bb := by simpa using hbb
            obtain ⟨-, rfl⟩ := hr.low hbl
            have hmz : ((mm : Int) == 0) = false := beq_false_of_ne (by omega)
            have hmz2 : (mm : Int) ≤ 600 := by
              have : (b :: S.data.toList.drop (p + 1)).length = S.size - p := by rw [← hcons, List.length_drop]; simp
              omega
            have hc256 := c.toNat_lt
            by_cases h64 : T.length = 64
            · rw [if_pos h64] at hinv
              have h64b : ((T.length : Int) == 64) = true := beq_iff_eq.2 (by omega)
              have HR : Hid (resT (qX Q) p0 = .tuple #[.agg #[.int .i64 0, .string ⟨#[]⟩, .int .i64 0, .int .i64 0, .string ⟨#[]⟩, .int .i64 0, .int .i64 0], .int .i64 ((p0 : Int) + (p : Int)), .int .i64 11]) := by
                show resT _ _ = _
                rw [hinv]
                simp only [Option.map_none, Nat.zero_add]
                rw [qX_none, resT_no, Int.add_comm (p : Int)]
              have HCC : Hid _ := CC
              clear hnx hinv hasc hcons hr hq hq1 hW hsee hsee1 hao CW HPos HM h39 HSL CC hch hsl hct hma hbb h64 hml
              generalize (r : Int) = x at *
              go_wp2_with (first | (go_at_call 41; with_reducible (refine (HCC.out _).mono ?_); rintro e w3 ⟨rfl, hb3⟩; have HQ3 := HQ1.out.to hb3) | (go_at_call 39; with_reducible (refine (hCW.out _).mono ?_); rintro e w4 ⟨rfl, hb4⟩; have HP4 := HQ3.pr.to hb4; obtain ⟨fz, e0, e1, e2, e3, e4, e5, e6⟩ := HP4.fro; have f0 := fz 0; have f1 := fz 1; have f2 := fz 2; have f3 := fz 3; have f4 := fz 4; have f5 := fz 5; have f6 := fz 6; clear fz))
              refine bodyPost_ret (v := .tuple #[.agg #[.int .i64 0, .string ⟨#[]⟩, .int .i64 0, .int .i64 0, .string ⟨#[]⟩, .int .i64 0, .int .i64 0], .int .i64 ((p0 : Int) + (p : Int)), .int .i64 11]) (results_row_two Tryz.results21 _ _ (w.heap.size + 1) 25 _ _ _ _ _ rfl rfl rfl (HF.out _ HP4 _ _ _ _ _ _ _).1 Tryz.underlying25 rfl (by kernel_rfl)) rfl ?_
              exact ⟨by rw [HR.out], (HF.out _ HP4 _ _ _ _ _ _ _).2⟩
            · rw [if_neg h64] at hinv
              have h64b : ((T.length : Int) == 64) = false := beq_false_of_ne (by omega)
              have HA : Hid (∀ i, i < mm - 1 → ∃ b, (S.data.toList.drop (p + 1))[i]? = some b ∧ b.toNat < 128) := fun i hi => by
                obtain ⟨x, hx, hxl⟩ := hma (i + 1) (by omega)
                exact ⟨x, by simpa using hx, hxl⟩
              have HV : Hid (Q = ((qtR (mm - 1) (T ++ [c]).length (S.data.toList.drop (p + 1))).1.map ((T ++ [c]) ++ ·), (qtR (mm - 1) (T ++ [c]).length (S.data.toList.drop (p + 1))).2 + (p + 1))) := by
                show Q = _
                have hl1 : (T ++ [c]).length = T.length + 1 := by simp
                rw [hinv, hl1]
                generalize qtR (mm - 1) (T.length + 1) (S.data.toList.drop (p + 1)) = z
                obtain ⟨za, zb⟩ := z
                cases za with
                | none => simp only [Option.map_none, Prod.mk.injEq, true_and]; omega
                | some za =>
                  simp only [Option.map_some, List.append_assoc, List.singleton_append, Prod.mk.injEq, true_and]
                  omega
              have HL : Hid ((T ++ [c]).length ≤ 64 ∧ p + 1 + (mm - 1) ≤ S.size) := by
                have : (b :: S.data.toList.drop (p + 1)).length = S.size - p := by rw [← hcons, List.length_drop]; simp
                refine ⟨by rw [List.length_append, List.length_singleton]; omega, by omega⟩
              have HNx : Hid ((p0 : Int) + (p : Int) + (mm : Int) = (p0 : Int) + ((p + 1 : Nat) : Int) + ((mm - 1 : Nat) : Int)) := by show _ = _; omega
              have HCC : Hid _ := CC
              obtain ⟨i0, hi, hz0, hz1, hz2⟩ : ∃ i, Tryz.prog.info? 5 = some i ∧ i.zero = some (.int .u8 0) ∧ i.size = 1 ∧ i.bytes = 1 := ⟨_, rfl, rfl, rfl, rfl⟩
              have HI : Hid (Tryz.prog.info? 5 = some i0 ∧ i0.zero = some (.int .u8 0) ∧ i0.size = 1 ∧ i0.bytes = 1) := ⟨hi, hz0, hz1, hz2⟩
              have hTl : T.length ≤ 64 := hT64
              clear hnx hinv hasc hcons hr hq hq1 hW hsee hsee1 hao CW hCW h39 HSL CC hch hsl hct hma hbb h64 hml hi hz0 hz1 hz2
              generalize (r : Int) = x at *
              go_wp2_with (first | (go_at_call 41; with_reducible (refine (HCC.out _).mono ?_); rintro e w3 ⟨rfl, hb3⟩; have HQ3 := HQ1.out.to hb3; have r1 := HQ3.pr.q1) | (at_builtin; go_must (refine wpList_append_grew _ rfl _ _ 57 57 rfl (g + 1) 5 i0 (.int .u8 0) 1 1 Tryz.underlying57 HI.out.1 HI.out.2.1 HI.out.2.2.1 HI.out.2.2.2 rfl _ T.length _ rfl (HQ3.row.alloc _) _ 1 (B8 [c]) rfl (src_oneL w3 c) (by unfold maxLen; omega) (by omega) (by rw [World.size_alloc]; have := HQ3.it.lt; omega) ?_; intro v5 w5 ho5 hg5)))
              have HQ5 := HQ3.app hg5 ho5
              go_roundw
              case rel => exact ⟨p + 1, mm - 1, T ++ [c], _, HL.out.2, HQ5, rfl, HNx.out, HL.out.1, HA.out, HV.out⟩
              case measure => rw [HPos.out _ _ _ _ HQ5, hpos]; exact HM.out
    · obtain rfl : p = S.size := by omega
      obtain rfl : j = 0 := by omega
      have hn2 := fun ty => next_end (P := Tryz.prog) hq.it ty (by omega)
      rw [List.drop_eq_nil_of_le (by simp)] at hinv
      have HR : Hid (resT (qX Q) p0 = .tuple #[.agg #[.int .i64 0, .string ⟨#[]⟩, .int .i64 0, .int .i64 0, .string ⟨#[]⟩, .int .i64 0, .int .i64 0], .int .i64 (s.size : Int), .int .i64 11]) := by
        show resT _ _ = _
        rw [hinv]
        simp only [qtR, Option.map_none, Nat.zero_add]
        rw [qX_none, resT_no]
        have : ((S.size : Int) + (p0 : Int)) = (s.size : Int) := by have := HZ.out; omega
        rw [this]
      have q0 := hq.pr.q0
      have q1 := hq.pr.q1
      have HQ1 : Hid (Qs w s S p0 g S.size T (.slice ao T.length cap) wr) := hq
      have hCW : Hid _ := CW.out (s.size : Int)
      clear hnx hinv hasc hq hsee hao CW HPos HSL
      go_wp2_with (go_at_call 39; with_reducible (refine (hCW.out _).mono ?_); rintro e w4 ⟨rfl, hb4⟩; have HP4 := HQ1.out.pr.to hb4; obtain ⟨fz, e0, e1, e2, e3, e4, e5, e6⟩ := HP4.fro; have f0 := fz 0; have f1 := fz 1; have f2 := fz 2; have f3 := fz 3; have f4 := fz 4; have f5 := fz 5; have f6 := fz 6; clear fz)
      refine bodyPost_ret (v := .tuple #[.agg #[.int .i64 0, .string ⟨#[]⟩, .int .i64 0, .int .i64 0, .string ⟨#[]⟩, .int .i64 0, .int .i64 0], .int .i64 (s.size : Int), .int .i64 11]) (results_row_two Tryz.results21 _ _ (w.heap.size + 1) 25 _ _ _ _ _ rfl rfl rfl (HF.out _ HP4 _ _ _ _ _ _ _).1 Tryz.underlying25 rfl (by kernel_rfl)) rfl ?_
      exact ⟨by rw [HR.out], (HF.out _ HP4 _ _ _ _ _ _ _).2⟩
end Go.Proofs.YtajebjkpmbehgaaGreatDoor

/-
  CONTRACTS: the document's ring: Range, Of, Replicas, Has, Ranges.
-/
import Derived.Test.YtcnceipkoapcpaaDoorRngRange
namespace Go.Proofs.YtcnceipkoapcpaaDoor
open Go.RowKit

theorem rng_found {l : List Pt} {t : Int} {i : Nat} {p : Pt} (hp : l[i]? = some p) (h1 : geP t p = true) (h2 : ∀ j q, j < i → l[j]? = some q → geP t q = false) : rngP l t = i := by
  have hi : i < l.length := (List.getElem?_eq_some_iff.1 hp).1
  have : l.findIdx (geP t) = i := by
    refine (List.findIdx_eq hi).2 ⟨?_, fun j hj => ?_⟩
    · rw [List.getElem?_eq_getElem hi] at hp
      rw [Option.some.inj hp]; exact h1
    · exact h2 j _ hj (List.getElem?_eq_getElem (by omega))
  rw [rngP, this, Nat.mod_eq_of_lt hi]
theorem rng_none {l : List Pt} {t : Int} (h2 : ∀ j q, j < l.length → l[j]? = some q → geP t q = false) : rngP l t = 0 := by
  have : l.findIdx (geP t) = l.length := by
    refine List.findIdx_eq_length.2 fun p hp => ?_
    obtain ⟨j, hj, rfl⟩ := List.getElem_of_mem hp
    exact h2 j _ hj (List.getElem?_eq_getElem hj)
  rw [rngP, this, Nat.mod_self]
set_option maxRecDepth 100000 in
set_option maxHeartbeats 2000000 in
theorem refRange_any {w : World} {r : Nat} {l : List Pt} {c : Nat} (h : RgAt w 33 r l c) (hl : l.length ≤ 40) (t : Int) :
    Calls Tryd.prog 14 #[.pointer (some ⟨r, 0, none⟩), .int .i64 t] w fun e w' => e = .returned (.int .i64 (rngP l t : Int)) ∧ Below w.heap.size w w' := by
  obtain ⟨g, cap, h1, h2⟩ := h.ex
  have c0 := h1.cell 0 rfl
  have hlz : (l.length : Int) ≤ 40 := by omega
  clear h h1
  go_enter Tryd.func14, Tryd.ntmps14
  go_wp2_with fail
  clear c0
  go_loopw [12] (fun s12 wr => ∃ i : Nat, i ≤ l.length ∧ s12 = .int .i64 i ∧ (∀ j q, j < i → l[j]? = some q → geP t q = false) ∧ Below w.heap.size w wr) (fun s12 _ => l.length - (intOf s12).toNat)
  case atStart => exact ⟨0, by omega, rfl, fun j q hj => by omega, Below.refl _ _⟩
  case round =>
    obtain ⟨i, hi, rfl, hno, hB⟩ := hrel
    rcases Nat.lt_or_ge i l.length with hlt | hge
    · have hc : l[i]? = some l[i] := List.getElem?_eq_getElem hlt
      obtain ⟨g', e, d0, d1⟩ := (h2.below hB (Nat.le_refl _)) i _ hc
      cases e
      have hltz : (i : Int) < (l.length : Int) := by omega
      have HY : Hid (t ≤ l[i].tok → rngP l t = i) := fun h => rng_found hc (decide_eq_true h) hno
      have HN : Hid (¬ t ≤ l[i].tok → ∀ j q, j < i + 1 → l[j]? = some q → geP t q = false) := fun h j q hj hq => by
        by_cases hji : j = i
        · subst hji
          rw [hc] at hq
          rw [← Option.some.inj hq]
          exact decide_eq_false h
        · exact hno j q (by omega) hq
      have HB : Hid (∀ o : Obj, Below w.heap.size w (wr.alloc o)) := fun o => hB.alloc hB.size _
      have HC : Hid (∀ a b : Value, (wr.alloc (.cells #[a, b] 41)).cell? ⟨wr.heap.size, 0, none⟩ = some a) := fun a b => (Blk.new wr [a, b] 41).cell 0 rfl
      generalize l[i].tok = y at *
      generalize l[i].nd = nd at *
      clear hc hno h2
      by_cases hty : t ≤ y
      · have HR : Hid ((rngP l t : Int) = (i : Int)) := congrArg Int.ofNat (HY.out hty)
        clear HY HN
        go_wp2_with fail
        go_ret
        exact ⟨ret_int HR.out.symm, HB.out _⟩
      · have HM := HN.out hty
        have HM2 : Hid (∀ j q, j < i + 1 → l[j]? = some q → geP t q = false) := HM
        clear HM HN HY
        go_wp2_with fail
        go_roundw
        case rel => exact ⟨i + 1, by omega, by go_num, HM2.out, HB.out _⟩
        case measure => (simp [intOf]; try omega)
    · obtain rfl : i = l.length := by omega
      have hgez : ¬ (l.length : Int) < (l.length : Int) := by omega
      have HR : Hid ((rngP l t : Int) = 0) := congrArg Int.ofNat (rng_none hno)
      clear hno h2
      go_wp2_with fail
      go_ret
      exact ⟨ret_int HR.out.symm, hB⟩
set_option maxRecDepth 100000 in
theorem refOf_any {w : World} {r : Nat} {l : List Pt} {c : Nat} (h : RgAt w 33 r l c) (hl : l.length ≤ 40) (s : ByteArray) (hs : s.size ≤ 140737488354000) :
    Calls Tryd.prog 23 #[.pointer (some ⟨r, 0, none⟩), .string s] w fun e w' => e = .returned (.int .i64 (rngP l (tokenB s) : Int)) ∧ Below w.heap.size w w' := by
  have T : Hid (Calls Tryd.prog 27 #[.string s] w fun e w' => e = .returned (.int .i64 (tokenB s)) ∧ Below w.heap.size w w') := refToken_any s w hs
  have R : Hid (∀ u, Below w.heap.size w u → Calls Tryd.prog 14 #[.pointer (some ⟨r, 0, none⟩), .int .i64 (tokenB s)] u fun e w' => e = .returned (.int .i64 (rngP l (tokenB s) : Int)) ∧ Below u.heap.size u w') := fun u hu => refRange_any (h.to hu) hl _
  clear h
  go_enter Tryd.func23, Tryd.ntmps23
  go_wp2_with (first | (go_at_call 27; refine T.out.mono ?_; rintro e w1 ⟨rfl, hB⟩) | (go_at_call 14; refine (R.out w1 hB).mono ?_; rintro e w2 ⟨rfl, hB2⟩))
  go_ret
  exact ⟨rfl, hB.trans (hB2.mono hB.size)⟩
end Go.Proofs.YtcnceipkoapcpaaDoor

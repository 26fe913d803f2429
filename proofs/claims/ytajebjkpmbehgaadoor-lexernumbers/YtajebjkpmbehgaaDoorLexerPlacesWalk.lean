/-
  THE WALK: tokens stand one behind the other.
-/
import Derived.Test.YtajebjkpmbehgaaDoorLexLives
namespace Go.Proofs.YtajebjkpmbehgaaDoor
open Go.RowKit

/-- A token's seven cells in a slice. -/
structure TkAt (w : World) (g k : Nat) (t : Tk) : Prop where
  c0 : w.cell? ⟨g, k, none⟩ = some (.int .i64 t.kind)
  c1 : w.cell? ⟨g, k + 1, none⟩ = some (.string (xB t.s))
  c2 : w.cell? ⟨g, k + 2, none⟩ = some (.int .i64 t.vk)
  c3 : w.cell? ⟨g, k + 3, none⟩ = some (.int .i64 t.vn)
  c4 : w.cell? ⟨g, k + 4, none⟩ = some (.string (xB t.vs))
  c5 : w.cell? ⟨g, k + 5, none⟩ = some (.int .i64 (t.b : Int))
  c6 : w.cell? ⟨g, k + 6, none⟩ = some (.int .i64 (t.e : Int))
theorem TkSee.at {w : World} {ao : Option Addr} {ts : List Tk} (h : TkSee w ao ts) {i : Nat} {t : Tk} (ht : ts[i]? = some t) : ∃ g, ao = some ⟨g, 0, none⟩ ∧ TkAt w g (i * 7) t := by
  obtain ⟨g, e, hc⟩ := h i t ht
  exact ⟨g, e, hc 0 _ rfl, hc 1 _ rfl, hc 2 _ rfl, hc 3 _ rfl, hc 4 _ rfl, hc 5 _ rfl, hc 6 _ rfl⟩
theorem lexT_ok {l : List UInt8} {ts : List Tk} {m : Nat} {e : Int} (h : lexT l = (some ts, m, e)) : m = 0 ∧ e = 0 ∧ l.length ≤ 600 ∧ Ch l 0 ts := by
  unfold lexT at h
  split at h
  · cases h
  · rename_i hl
    split at h
    · rename_i t x hx
      cases h
      exact ⟨rfl, rfl, by omega, (lxT_ok (l.length + 1) l 0 (Nat.zero_le _) (by omega)).1 _ _ hx⟩
    · cases h
theorem lexT_no {l : List UInt8} {m : Nat} {e : Int} (h : lexT l = (none, m, e)) : m ≤ l.length ∧ (e = 17 ∨ e = 11) := by
  unfold lexT at h
  split at h
  · cases h; exact ⟨Nat.zero_le _, .inl rfl⟩
  · split at h
    · cases h
    · rename_i x hx
      cases h
      exact ⟨(lxT_ok (l.length + 1) l 0 (Nat.zero_le _) (by omega)).2 _ hx, .inr rfl⟩
theorem Ch.ne {l : List UInt8} {p : Nat} {ts : List Tk} (h : Ch l p ts) : ts ≠ [] := by
  cases ts with
  | nil => exact h.elim
  | cons t r => simp
theorem ch_len : ∀ {ts : List Tk} {l : List UInt8} {p : Nat}, Ch l p ts → ts.length ≤ l.length - p + 1
  | [], _, _, h => h.elim
  | t :: r, l, p, h => by
    obtain ⟨ho, h⟩ := h
    have := ho.low
    have := ho.high
    rcases h with ⟨-, rfl⟩ | ⟨hk, hr⟩
    · simp
    · have := ch_len hr
      have := ho.more hk
      rw [List.length_cons]
      omega
namespace lexerPlaces
set_option maxRecDepth 100000 in
set_option maxHeartbeats 4000000 in
theorem walk (s : ByteArray) (w : World) (hs : s.size ≤ 140737488351232) (he : EnvL w) :
    Calls Tryd.prog 3 #[.string s] w fun e w' => e = .returned (.bool true) ∧ Below w.heap.size w w' := by
  have hlen : s.data.toList.length = s.size := by simp
  have L : Hid (∀ wr, Below w.heap.size w wr → Calls Tryd.prog 8 #[] wr fun e w' => e = .returned (.bool true) ∧ Below wr.heap.size wr w') := fun wr hb => lives18_any wr (he.below hb)
  cases hx : lexT s.data.toList with
  | mk o y =>
    obtain ⟨m, e⟩ := y
    cases o with
    | none =>
      obtain ⟨hm, hee⟩ := lexT_no hx
      have CL := lex_err s w he hx
      have heb : (e != 0) = true := by rcases hee with rfl | rfl <;> rfl
      have hmz : (m : Int) ≤ (s.size : Int) := by omega
      clear hx he hee hm
      go_enter Tryd.func3, Tryd.ntmps3
      go_wp2_with (first | (go_at_call 7; refine CL.mono ?_; rintro x w1 ⟨rfl, hb1⟩; clear CL) | (go_at_call 8; refine (L.out _ hb1).mono ?_; rintro x w2 ⟨rfl, hb2⟩))
      go_ret
      exact ⟨rfl, hb1.trans (hb2.mono hb1.size)⟩
    | some ts =>
      obtain ⟨rfl, rfl, hl6, hch⟩ := lexT_ok hx
      have CL : Calls Tryd.prog 7 #[.string s] w fun x w' => ∃ ao cap, x = .returned (.tuple #[.slice ao ts.length cap, .int .i64 0, .int .i64 0]) ∧ TkSee w' ao ts ∧ Below w.heap.size w w' := by
        refine (lex_any s w he).mono ?_
        rintro x w' ⟨ao, cap, rfl, hT, -, hB⟩
        rw [hx] at hT ⊢
        exact ⟨ao, cap, rfl, hT, hB⟩
      clear hx he
      go_enter Tryd.func3, Tryd.ntmps3
      go_wp2_with (go_at_call 7; refine CL.mono ?_; rintro x w1 ⟨ao, cap, rfl, hT, hb1⟩; clear CL)
      obtain ⟨n, hn⟩ : ∃ n, ts.length = n := ⟨_, rfl⟩
      have HNl : Hid (ts.length = n) := hn
      rw [hn]
      have hnz : n ≤ 100000 := by
        have := ch_len hch
        omega
      have hnz2 : (n : Int) ≤ 100000 := by omega
      have hs6 : (s.size : Int) ≤ 600 := by omega
      have HB1 : Hid (Below w.heap.size w w1) := hb1
      have HT : Hid (TkSee w1 ao ts) := hT
      have HCh : Hid (Ch s.data.toList 0 ts) := hch
      clear hn hb1 hT hch
      go_loopw [6, 35] (fun s6 s35 wr => ∃ i p : Nat, i ≤ n ∧ p ≤ s.size ∧ s35 = .int .i64 (i : Int) ∧ s6 = .int .i64 (p : Int) ∧ Below w1.heap.size w1 wr ∧ (i < n → Ch s.data.toList p (ts.drop i)) ∧ (i = n → p = s.size)) (fun _ s35 _ => n - (intOf s35).toNat)
      case atStart =>
        refine ⟨0, 0, Nat.zero_le _, Nat.zero_le _, rfl, rfl, Below.refl _ _, fun _ => HCh.out, fun h => ?_⟩
        exfalso
        have := HCh.out.ne
        have h2 := HNl.out
        rw [← h] at h2
        exact this (List.eq_nil_of_length_eq_zero h2)
      case round =>
        obtain ⟨i, p, hi, hp, rfl, rfl, hb, hc, hend⟩ := hrel
        rcases Nat.lt_or_ge i n with hlt | hge
        · have hi2 : i < ts.length := by rw [HNl.out]; exact hlt
          have hti : ts[i]? = some ts[i] := List.getElem?_eq_getElem hi2
          have hc1 := hc hlt
          rw [List.drop_eq_getElem_cons hi2] at hc1
          obtain ⟨g, rfl, h0, h1, h2, h3, h4, h5, h6⟩ := (HT.out.below hb).at hti
          generalize ts[i] = t at *
          obtain ⟨hok, hor⟩ := hc1
          have hiz : (i : Int) < (n : Int) := by omega
          have HB2 : Hid (∀ o m, Below w1.heap.size w1 ((wr.alloc o).drewN m)) := fun o m => by
            have := hb.alloc (o := o) hb.size
            exact ⟨this.os, this.tape, this.output, this.size, this.block⟩
          have HB3 : Hid (∀ o, Below w1.heap.size w1 (wr.alloc o)) := fun o => hb.alloc (o := o) hb.size
          have b1 : decide (t.b < p) = false := decide_eq_false (by have := hok.low; omega)
          have b2 : decide (t.e < t.b) = false := decide_eq_false (by have := hok.mid; omega)
          have b3 : decide (s.size < t.e) = false := decide_eq_false (by have := hok.high; omega)
          have hteh : t.e ≤ s.size := by have := hok.high; omega
          have hteh2 : Hid (t.e ≤ s.size) := hteh
          have htm := hok.mid
          have i1 : (t.b : Int) ≤ (t.e : Int) := by omega
          have i2 : (t.e : Int) ≤ (s.size : Int) := by omega
          by_cases hk : t.kind = 0
          · have hfin := hok.fin hk
            have hlast : i + 1 = n := by
              rcases hor with ⟨-, h⟩ | ⟨h, -⟩
              · have := congrArg List.length h
                rw [List.length_drop, HNl.out, List.length_nil] at this
                omega
              · exact absurd hk h
            have b4 : ((t.e : Int) == (t.b : Int)) = true := by rw [hfin]; simp
            have b5 : (t.kind == 0) = true := beq_iff_eq.2 hk
            have b6 : ((i : Int) + 1 == (n : Int)) = true := beq_iff_eq.2 (by omega)
            have b7 : (t.kind == 1) = false := beq_false_of_ne (by omega)
            have HE : Hid (t.e = s.size) := by show _ = _; rw [hfin]; exact hlen
            have HL1 : Hid (i + 1 = n) := hlast
            clear hk hfin hlast hok hor hc hend hti hb hteh htm
            go_wp2_with fail
            go_quiet (fail)
            go_wp2_with fail
            go_roundw
            case rel => exact ⟨i + 1, t.e, by omega, hteh2.out, by go_num, rfl, HB2.out _ _, fun h => absurd HL1.out (by omega), fun _ => HE.out⟩
            case measure => simp [intOf]; omega
          · have hmore := hok.more hk
            have hc2 : Ch s.data.toList t.e (ts.drop (i + 1)) := by
              rcases hor with ⟨h, -⟩ | ⟨-, h⟩
              · exact absurd h hk
              · exact h
            have hnl : i + 1 < n := by
              have h1 := hc2.ne
              have h2 : (ts.drop (i + 1)).length ≠ 0 := fun h => h1 (List.eq_nil_of_length_eq_zero h)
              rw [List.length_drop, HNl.out] at h2
              omega
            have b4 : ((t.e : Int) == (t.b : Int)) = false := beq_false_of_ne (by omega)
            have b5 : (t.kind == 0) = false := beq_false_of_ne hk
            have b6 : ((i : Int) + 1 == (n : Int)) = false := beq_false_of_ne (by omega)
            have HL1 : Hid (i + 1 < n) := hnl
            have HC2 : Hid (Ch s.data.toList t.e (ts.drop (i + 1))) := hc2
            by_cases h1 : t.kind = 1
            · have b7 : (t.kind == 1) = true := beq_iff_eq.2 h1
              have hsx : s.extract t.b t.e = xB t.s := by
                have h := hok.op h1
                rw [← ext_list] at h
                rw [← h]
                rfl
              clear hk h1 hmore hnl hok hor hc hend hti hb hteh htm hc2
              go_wp2_with fail
              go_quiet (fail)
              go_wp2_with fail
              go_roundw
              case rel => exact ⟨i + 1, t.e, by omega, hteh2.out, by go_num, rfl, HB2.out _ _, fun _ => HC2.out, fun h => absurd HL1.out (by omega)⟩
              case measure => simp [intOf]; omega
            · have b7 : (t.kind == 1) = false := beq_false_of_ne h1
              clear hk h1 hmore hnl hok hor hc hend hti hb hteh htm hc2
              go_wp2_with fail
              go_quiet (fail)
              go_wp2_with fail
              go_roundw
              case rel => exact ⟨i + 1, t.e, by omega, hteh2.out, by go_num, rfl, HB2.out _ _, fun _ => HC2.out, fun h => absurd HL1.out (by omega)⟩
              case measure => simp [intOf]; omega
        · obtain rfl : i = n := by omega
          have HE : Hid (p = s.size) := hend rfl
          have HB4 : Hid (Below w.heap.size w wr) := HB1.out.trans (hb.mono HB1.out.size)
          have hpos : (0 : Int) < (i : Int) := by
            have := HCh.out.ne
            have h2 := HNl.out
            have : ts.length ≠ 0 := fun h => this (List.eq_nil_of_length_eq_zero h)
            omega
          have hpe : ((p : Int) == (s.size : Int)) = true := beq_iff_eq.2 (by have := HE.out; omega)
          clear hend hc hb
          go_wp2_with (go_at_call 8; refine (L.out _ HB4.out).mono ?_; rintro x w2 ⟨rfl, hb2⟩)
          go_ret
          exact ⟨rfl, HB4.out.trans (hb2.mono HB4.out.size)⟩
end lexerPlaces
end Go.Proofs.YtajebjkpmbehgaaDoor

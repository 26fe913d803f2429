/-
  CONTRACT: where a token begins, and what cuts it (begin).
-/
import Derived.Test.YtajebjkpmbehgaaGreatDoorLexEnds
import Derived.Test.YtajebjkpmbehgaaGreatDoorKeyShelf
namespace Go.Proofs.YtajebjkpmbehgaaGreatDoor
open Go.RowKit

/-- What cuts the token that begins here: its function. -/
def cutF : List UInt8 → Nat
  | [] => 25
  | b :: _ => if dgB b || decide (b.toNat = 45) then 20 else if b.toNat = 39 then 21 else if ltB b then 23 else 24
theorem stand_stand (w : World) (k : Nat) (s : ByteArray) (p q : Nat) : World.stand (World.stand w k s p) k s q = World.stand w k s q := by
  unfold World.stand
  simp
/-- What begin has in memory. -/
structure Bg (w : World) (n : Nat) (S : ByteArray) (p : Nat) (wr : World) : Prop where
  it : AtIt wr (n + 1) S p
  res : Blk wr n [.string ⟨#[]⟩, .int .i64 0] 43
  below : Below n w wr
theorem Bg.next {w : World} {n : Nat} {S : ByteArray} {p : Nat} {wr : World} (h : Bg w n S p wr) (q : Nat) (o : Obj) : Bg w n S q ((World.stand wr (n + 1) S q).alloc o) ∧ (World.stand wr (n + 1) S q).heap.size = wr.heap.size ∧ n + 1 < wr.heap.size := by
  have hlt := h.it.lt
  have hs := stand_size wr (n + 1) S q
  have h1 := h.it.stand q
  refine ⟨⟨?_, ?_, ?_⟩, hs, hlt⟩
  · exact (heap_alloc_old _ _ (by rw [hs]; exact hlt)).trans h1
  · exact (h.res.carry (stand_other (by omega))).alloc _
  · exact (stand_below h.below (by omega)).alloc (by rw [hs]; omega) _
theorem Bg.to {w : World} {n : Nat} {S : ByteArray} {p : Nat} {wr w1 : World} (h : Bg w n S p wr) (hb : Below wr.heap.size wr w1) : Bg w n S p w1 := by
  have hlt := h.it.lt
  exact ⟨h.it.below hb hlt, h.res.carry (hb.block _ (by omega)), h.below.trans (hb.mono (by omega))⟩
theorem pref_dash (b : UInt8) (r : List UInt8) : Lib.hasPrefix (b :: r) [45, 45] = (decide (b.toNat = 45) && dash r) := by
  have e : ∀ c : UInt8, ((45 : UInt8) == c) = decide (c.toNat = 45) := fun c => by
    by_cases h : c.toNat = 45
    · obtain rfl : c = 45 := UInt8.toNat_inj.1 h
      rfl
    · rw [decide_eq_false h]
      exact beq_false_of_ne (fun e => h (by rw [← e]; rfl))
  cases r with
  | nil => simp [Lib.hasPrefix, dash, List.isPrefixOf]
  | cons c r => simp [Lib.hasPrefix, dash, List.isPrefixOf, e]
theorem Bg.fin {w : World} {n : Nat} {S : ByteArray} {p : Nat} {wr : World} (h : Bg w n S p wr) (v0 v1 : Value) :
    ((wr.setCell ⟨n, 0, none⟩ v0).setCell ⟨n, 1, none⟩ v1).heap[n]? = some (.cells #[v0, v1] 43 (0, 0)) ∧ Below n w ((wr.setCell ⟨n, 0, none⟩ v0).setCell ⟨n, 1, none⟩ v1) :=
  ⟨(h.res.set 0 v0).set 1 v1, (h.below.setCell (p := ⟨n, 0, none⟩) (Nat.le_refl _) v0).setCell (p := ⟨n, 1, none⟩) (Nat.le_refl _) v1⟩
theorem Bg.at {w : World} {n : Nat} {S : ByteArray} {p : Nat} {W : World} {v0 v1 : Value} (h : Bg w n S p (W.alloc (.cells #[v0, v1] 43))) (w1 : World) (hb : Below (W.alloc (.cells #[v0, v1] 43)).heap.size (W.alloc (.cells #[v0, v1] 43)) w1) :
    w1.cell? ⟨W.heap.size, 0, none⟩ = some v0 ∧ w1.cell? ⟨W.heap.size, 1, none⟩ = some v1 ∧ w1.cell? ⟨n, 0, none⟩ = some (.string ⟨#[]⟩) ∧ w1.cell? ⟨n, 1, none⟩ = some (.int .i64 0) ∧ w1.frozen? ⟨n, 0, none⟩ = false ∧ w1.frozen? ⟨n, 1, none⟩ = false ∧ Hid (Bg w n S p w1) := by
  have h1 := h.to hb
  have hN : Blk (W.alloc (.cells #[v0, v1] 43)) W.heap.size [v0, v1] 43 := Blk.new W [v0, v1] _
  have hN1 := hN.carry (hb.block _ hN.lt)
  exact ⟨hN1.cell 0 rfl, hN1.cell 1 rfl, h1.res.cell 0 rfl, h1.res.cell 1 rfl, h1.res.frozen 0, h1.res.frozen 1, h1⟩
/-- In a note, a rune on. -/
theorem Rn.note {S : ByteArray} {p : Nat} {b : UInt8} {r m : Nat} (h : Rn S p b r m) : skB true (S.data.toList.drop p) = m + skB ((r : Int) != 10) (S.data.toList.drop (p + m)) := by
  have h10 := h.eq 10 (by omega)
  by_cases hb : b.toNat < 128
  · obtain ⟨-, rfl⟩ := h.low hb
    rw [h.cons]
    have e : ((r : Int) != 10) = !decide (b.toNat = 10) := by
      by_cases e : b.toNat = 10
      · rw [decide_eq_true e, show (r : Int) = 10 from h10.2 e]; rfl
      · have : ¬ (r : Int) = 10 := fun x => e (h10.1 x)
        rw [decide_eq_false e]
        simpa using this
    rw [e]
    show skB _ _ + 1 = _
    omega
  · have hh := h.high (by omega)
    have e : ((r : Int) != 10) = true := by
      have : ¬ (r : Int) = 10 := by omega
      simpa using this
    rw [e, skB_high m _ (by rw [List.length_drop]; have := h.fit; simp; omega) (h.all (by omega)), List.drop_drop]
theorem skB_f (b : UInt8) (r : List UInt8) : skB false (b :: r) = if blB b then skB false r + 1 else if decide (b.toNat = 45) && dash r then skB true r + 1 else 0 := rfl
set_option maxRecDepth 100000 in
set_option maxHeartbeats 2000000 in
theorem begin_any (s : ByteArray) (p0 : Nat) (w : World) (hp : p0 ≤ s.size) (hs : s.size ≤ 600) :
    Calls Tryz.prog 11 #[.string s, .int .i64 (p0 : Int)] w fun e w' =>
      e = .returned (.tuple #[.agg #[.string s, .int .i64 ((p0 + skB false (s.data.toList.drop p0) : Nat) : Int)], .func (.func (cutF (s.data.toList.drop (p0 + skB false (s.data.toList.drop p0))))) #[] #[]]) ∧ Below w.heap.size w w' := by
  rw [← List.drop_drop, ← ext_end]
  obtain ⟨S, hS⟩ : ∃ S, s.extract p0 s.size = S := ⟨_, rfl⟩
  have zS : S.size = s.size - p0 := by rw [← hS]; simp
  have i1 : (p0 : Int) ≤ (s.size : Int) := by omega
  have HZ : Hid (p0 + S.size = s.size) := by show _ = _; omega
  have hp0 : p0 ≤ 600 := by omega
  have hz : S.size ≤ 600 := by omega
  have HSL : Hid (∀ p, (s.extract (p0 + p) s.size).data.toList = S.data.toList.drop p) := fun p => by rw [ext_end, ← List.drop_drop, ← ext_end, hS]
  have CD : Hid (∀ (x : Int) (w : World), Calls Tryz.prog 19 #[.int .i32 x] w fun e w' => e = .returned (.bool (dgI x)) ∧ w' = w) := digitL_any
  have CL : Hid (∀ (x : Int) (w : World), Calls Tryz.prog 22 #[.int .i32 x] w fun e w' => e = .returned (.bool (ltI x)) ∧ w' = w) := letterL_any
  have CB : Hid (∀ (x : Int) (w : World), Calls Tryz.prog 16 #[.int .i32 x] w fun e w' => e = .returned (.bool (blI x)) ∧ w' = w) := blank_any
  obtain ⟨A, hA⟩ : ∃ A, skB false S.data.toList = A := ⟨_, rfl⟩
  obtain ⟨n, hn⟩ : ∃ n, w.heap.size = n := ⟨_, rfl⟩
  rw [hS, hA, hn]
  go_enter Tryz.func11, Tryz.ntmps11
  go_wp2_with fail
  have HB0 : Hid (Bg w n S 0 ((w.alloc (.cells #[.string ⟨#[]⟩, .int .i64 0] 43)).iter S 0)) := by
    have h1 : Blk (w.alloc (.cells #[.string ⟨#[]⟩, .int .i64 0] 43)) n [.string ⟨#[]⟩, .int .i64 0] 43 := hn ▸ Blk.new w [.string ⟨#[]⟩, .int .i64 0] _
    refine ⟨?_, h1.alloc _, ((Below.refl _ _).alloc (by omega) _).alloc (by simp; omega) _⟩
    have := AtIt.of_iter (w.alloc (.cells #[.string ⟨#[]⟩, .int .i64 0] 43)) S 0
    rw [World.size_alloc, hn] at this
    exact this
  clear hS zS hp
  go_loopw [6] (fun s6 wr => ∃ (p : Nat) (nb : Bool), p ≤ S.size ∧ Bg w n S p wr ∧ s6 = .bool nb ∧ A = p + skB nb (S.data.toList.drop p)) (fun _ wr => S.size - wr.iterPos (n + 1))
  case atStart => exact ⟨0, false, Nat.zero_le _, HB0.out, rfl, by rw [← hA, List.drop_zero]; omega⟩
  case round =>
    obtain ⟨p, nb, hp, hbg, rfl, hinv⟩ := hrel
    clear hA HB0
    have hpos : wr.iterPos (n + 1) = p := by
      have := hbg.it
      unfold AtIt at this
      unfold World.iterPos
      rw [this]
    rcases Nat.lt_or_ge p S.size with hlt | hge
    · obtain ⟨b, r, m, hr⟩ := rn_at S p hlt
      have hn2 := fun ty => next_any (P := Tryz.prog) hbg.it ty hlt
      rw [hr.dec] at hn2
      have hpn : (p0 : Int) + (p : Int) = ((p0 + p : Nat) : Int) := by omega
      obtain ⟨H1, -, -⟩ := hbg.next (p + m) (.cells #[.string s, .int .i64 ((p0 : Int) + (p : Int))] 43)
      have hsz := (hbg.next (p + m) (.cells #[] 0)).2
      obtain ⟨W, hW⟩ : ∃ W, World.stand wr (n + 1) S (p + m) = W := ⟨_, rfl⟩
      simp only [] at hn2
      rw [hW] at hn2 H1 hsz
      have HN : Hid (Bg w n S (p + m) (W.alloc (.cells #[.string s, .int .i64 ((p0 : Int) + (p : Int))] 43))) := H1
      have HP : Hid ((W.alloc (.cells #[.string s, .int .i64 ((p0 : Int) + (p : Int))] 43)).iterPos (n + 1) = p + m) := by
        have := H1.it
        unfold AtIt at this
        show World.iterPos _ _ = _
        unfold World.iterPos
        rw [this]
      have HX : Hid (∀ w1, Below (W.alloc (.cells #[.string s, .int .i64 ((p0 : Int) + (p : Int))] 43)).heap.size (W.alloc (.cells #[.string s, .int .i64 ((p0 : Int) + (p : Int))] 43)) w1 →
        w1.cell? ⟨wr.heap.size, 0, none⟩ = some (.string s) ∧ w1.cell? ⟨wr.heap.size, 1, none⟩ = some (.int .i64 ((p0 : Int) + (p : Int))) ∧ w1.cell? ⟨n, 0, none⟩ = some (.string ⟨#[]⟩) ∧ w1.cell? ⟨n, 1, none⟩ = some (.int .i64 0) ∧ w1.frozen? ⟨n, 0, none⟩ = false ∧ w1.frozen? ⟨n, 1, none⟩ = false ∧ Hid (Bg w n S (p + m) w1)) := fun w1 hb => by have h := H1.at w1 hb; rw [hsz.1] at h; exact h
      have hle := hr.le
      have hfit := hr.fit
      have hpos1 := hr.pos
      have HM : Hid (S.size - (p + m) < S.size - p) := by show _ < _; omega
      have hrz : 0 ≤ (r : Int) := by omega
      have hrz2 : (r : Int) ≤ 2147483647 := by omega
      cases nb
      · have hbl := hr.bl
        have hdg := hr.dg
        have hlt2 := hr.lt
        have h45 : (r : Int) = 45 ↔ b.toNat = 45 := hr.eq 45 (by omega)
        have h39 : (r : Int) = 39 ↔ b.toNat = 39 := hr.eq 39 (by omega)
        have hlow := hr.low
        have hcons := hr.cons
        have hsl : (s.extract (p0 + p) s.size).data.toList = b :: S.data.toList.drop (p + 1) := by rw [← hcons, HSL.out p]
        rw [hcons, skB_f] at hinv
        have C1 : Hid (∀ wr, Calls Tryz.prog 16 #[.int .i32 (r : Int)] wr fun e w' => e = .returned (.bool (blB b)) ∧ w' = wr) := fun wr => by have := CB.out (r : Int) wr; rw [hbl] at this; exact this
        have C2 : Hid (∀ wr, Calls Tryz.prog 19 #[.int .i32 (r : Int)] wr fun e w' => e = .returned (.bool (dgB b)) ∧ w' = wr) := fun wr => by have := CD.out (r : Int) wr; rw [hdg] at this; exact this
        have C3 : Hid (∀ wr, Calls Tryz.prog 22 #[.int .i32 (r : Int)] wr fun e w' => e = .returned (.bool (ltB b)) ∧ w' = wr) := fun wr => by have := CL.out (r : Int) wr; rw [hlt2] at this; exact this
        have C4 : Hid (∀ wr, Calls Tryz.prog 18 #[.agg #[.string s, .int .i64 ((p0 : Int) + (p : Int))]] wr fun e w' => e = .returned (.string (s.extract (p0 + p) s.size)) ∧ Below wr.heap.size wr w') := fun wr => by rw [hpn]; exact rest_any s (p0 + p) wr (by have := HZ.out; omega)
        have C5 : Hid (∀ wr, Calls Tryz.prog 17 #[.string (s.extract (p0 + p) s.size), .string ⟨#[45, 45]⟩] wr fun e w' => e = .returned (.bool (decide (b.toNat = 45) && dash (S.data.toList.drop (p + 1)))) ∧ w' = wr) := fun wr => by
          have := Tryz.strings_HasPrefix (s.extract (p0 + p) s.size) ⟨#[45, 45]⟩ wr
          rw [hsl, show (⟨#[45, 45]⟩ : ByteArray).data.toList = [45, 45] from rfl, pref_dash] at this
          exact this
        have HCF : Hid (cutF (S.data.toList.drop p) = if dgB b || decide (b.toNat = 45) then 20 else if b.toNat = 39 then 21 else if ltB b then 23 else 24) := by show cutF _ = _; rw [hcons]; rfl
        clear hr CB CD CL hbl hdg hlt2 H1 hW hbg hsl hcons hpn
        by_cases x1 : blB b = true
        · rw [if_pos x1] at hinv
          obtain ⟨-, rfl⟩ := hlow (by unfold blB at x1; have := of_decide_eq_true x1; omega)
          have HV : Hid (A = p + 1 + skB false (S.data.toList.drop (p + 1))) := by show A = _; omega
          rw [x1] at C1
          clear hinv hlow h45 h39 C2 C3 C4 C5 HCF HX x1
          generalize (r : Int) = x at *
          go_wp2_with (go_at_call 16; with_reducible (refine (C1.out _).mono ?_); rintro e _ ⟨rfl, hw⟩; obtain rfl := hw.symm; clear hw)
          go_roundw
          case rel => exact ⟨p + 1, false, hfit, HN.out, rfl, HV.out⟩
          case measure => rw [HP.out, hpos]; exact HM.out
        · have x1' : blB b = false := by simpa using x1
          rw [if_neg x1] at hinv
          rw [x1'] at C1
          by_cases x2 : (decide (b.toNat = 45) && dash (S.data.toList.drop (p + 1))) = true
          · rw [if_pos x2] at hinv
            have hb45 : b.toNat = 45 := by simp at x2; exact x2.1
            obtain ⟨-, rfl⟩ := hlow (by omega)
            have HV : Hid (A = p + 1 + skB true (S.data.toList.drop (p + 1))) := by show A = _; omega
            rw [x2] at C5
            have HP2 : Hid (∀ w1, Bg w n S (p + 1) w1 → w1.iterPos (n + 1) = p + 1) := fun w1 h => by
              have := h.it
              unfold AtIt at this
              unfold World.iterPos
              rw [this]
            clear hinv hlow h45 h39 C2 C3 HCF x1 x1' x2 hb45
            generalize (r : Int) = x at *
            go_wp2_with (first | (go_at_call 16; with_reducible (refine (C1.out _).mono ?_); rintro e _ ⟨rfl, hw⟩; obtain rfl := hw.symm; clear hw) | (go_at_call 19; with_reducible (refine (C2.out _).mono ?_); rintro e _ ⟨rfl, hw⟩; obtain rfl := hw.symm; clear hw) | (go_at_call 22; with_reducible (refine (C3.out _).mono ?_); rintro e _ ⟨rfl, hw⟩; obtain rfl := hw.symm; clear hw) | (go_at_call 17; with_reducible (refine (C5.out _).mono ?_); rintro e _ ⟨rfl, hw⟩; obtain rfl := hw.symm; clear hw) | (go_at_call 18; with_reducible (refine (C4.out _).mono ?_); rintro e w1 ⟨rfl, hb⟩; obtain ⟨q0, q1, c0, c1, f0, f1, HG⟩ := HX.out w1 hb; clear HX hb))
            go_roundw
            case rel => exact ⟨p + 1, true, hfit, HG.out, rfl, HV.out⟩
            case measure => rw [HP2.out _ HG.out, hpos]; exact HM.out
          · have x2' : (decide (b.toNat = 45) && dash (S.data.toList.drop (p + 1))) = false := by simpa using x2
            rw [if_neg x2, Nat.add_zero] at hinv
            rw [x2'] at C5
            have HCF2 : Hid (cutF (S.data.toList.drop A) = if dgB b || decide (b.toNat = 45) then 20 else if b.toNat = 39 then 21 else if ltB b then 23 else 24) := by rw [hinv]; exact HCF.out
            clear HCF x1 x1' x2 x2' hlow
            by_cases y1 : b.toNat = 45
            · have hx : (r : Int) = 45 := h45.2 y1
              have HV : Hid (cutF (S.data.toList.drop A) = 20 ∧ A = p) := ⟨by rw [HCF2.out, decide_eq_true y1, Bool.or_true, if_pos rfl], hinv⟩
              clear HCF2 hinv h45 h39 C2 C3 y1
              generalize (r : Int) = x at *
              subst hx
              go_wp2_with (first | (go_at_call 16; with_reducible (refine (C1.out _).mono ?_); rintro e _ ⟨rfl, hw⟩; obtain rfl := hw.symm; clear hw) | (go_at_call 19; with_reducible (refine (C2.out _).mono ?_); rintro e _ ⟨rfl, hw⟩; obtain rfl := hw.symm; clear hw) | (go_at_call 22; with_reducible (refine (C3.out _).mono ?_); rintro e _ ⟨rfl, hw⟩; obtain rfl := hw.symm; clear hw) | (go_at_call 17; with_reducible (refine (C5.out _).mono ?_); rintro e _ ⟨rfl, hw⟩; obtain rfl := hw.symm; clear hw) | (go_at_call 18; with_reducible (refine (C4.out _).mono ?_); rintro e w1 ⟨rfl, hb⟩; obtain ⟨q0, q1, c0, c1, f0, f1, HG⟩ := HX.out w1 hb; clear HX hb))
              refine bodyPost_ret (v := .tuple #[.agg #[.string s, .int .i64 ((p0 : Int) + (p : Int))], .func (.func 20) #[] #[]]) (results_row_one Tryz.results11 _ _ n 43 _ _ _ _ rfl rfl (HG.out.fin _ _).1 Tryz.underlying43 rfl (by kernel_rfl)) rfl ?_
              exact ⟨by rw [HV.out.1, HV.out.2, Int.natCast_add], (HG.out.fin _ _).2⟩
            · have hx : ¬ (r : Int) = 45 := fun e => y1 (h45.1 e)
              have hxb : ((r : Int) == 45) = false := beq_false_of_ne hx
              rw [decide_eq_false y1, Bool.or_false] at HCF2
              clear h45 y1
              by_cases y2 : dgB b = true
              · have HV : Hid (cutF (S.data.toList.drop A) = 20 ∧ A = p) := ⟨by rw [HCF2.out, if_pos y2], hinv⟩
                rw [y2] at C2
                clear HCF2 hinv h39 C3 y2
                generalize (r : Int) = x at *
                go_wp2_with (first | (go_at_call 16; with_reducible (refine (C1.out _).mono ?_); rintro e _ ⟨rfl, hw⟩; obtain rfl := hw.symm; clear hw) | (go_at_call 19; with_reducible (refine (C2.out _).mono ?_); rintro e _ ⟨rfl, hw⟩; obtain rfl := hw.symm; clear hw) | (go_at_call 22; with_reducible (refine (C3.out _).mono ?_); rintro e _ ⟨rfl, hw⟩; obtain rfl := hw.symm; clear hw) | (go_at_call 17; with_reducible (refine (C5.out _).mono ?_); rintro e _ ⟨rfl, hw⟩; obtain rfl := hw.symm; clear hw) | (go_at_call 18; with_reducible (refine (C4.out _).mono ?_); rintro e w1 ⟨rfl, hb⟩; obtain ⟨q0, q1, c0, c1, f0, f1, HG⟩ := HX.out w1 hb; clear HX hb))
                refine bodyPost_ret (v := .tuple #[.agg #[.string s, .int .i64 ((p0 : Int) + (p : Int))], .func (.func 20) #[] #[]]) (results_row_one Tryz.results11 _ _ n 43 _ _ _ _ rfl rfl (HG.out.fin _ _).1 Tryz.underlying43 rfl (by kernel_rfl)) rfl ?_
                exact ⟨by rw [HV.out.1, HV.out.2, Int.natCast_add], (HG.out.fin _ _).2⟩
              · rw [if_neg y2] at HCF2
                rw [show dgB b = false by simpa using y2] at C2
                clear y2
                by_cases y3 : b.toNat = 39
                · have hx3 : (r : Int) = 39 := h39.2 y3
                  have HV : Hid (cutF (S.data.toList.drop A) = 21 ∧ A = p) := ⟨by rw [HCF2.out, if_pos y3], hinv⟩
                  clear HCF2 hinv h39 C3 y3 hx hxb
                  generalize (r : Int) = x at *
                  subst hx3
                  go_wp2_with (first | (go_at_call 16; with_reducible (refine (C1.out _).mono ?_); rintro e _ ⟨rfl, hw⟩; obtain rfl := hw.symm; clear hw) | (go_at_call 19; with_reducible (refine (C2.out _).mono ?_); rintro e _ ⟨rfl, hw⟩; obtain rfl := hw.symm; clear hw) | (go_at_call 22; with_reducible (refine (C3.out _).mono ?_); rintro e _ ⟨rfl, hw⟩; obtain rfl := hw.symm; clear hw) | (go_at_call 17; with_reducible (refine (C5.out _).mono ?_); rintro e _ ⟨rfl, hw⟩; obtain rfl := hw.symm; clear hw) | (go_at_call 18; with_reducible (refine (C4.out _).mono ?_); rintro e w1 ⟨rfl, hb⟩; obtain ⟨q0, q1, c0, c1, f0, f1, HG⟩ := HX.out w1 hb; clear HX hb))
                  refine bodyPost_ret (v := .tuple #[.agg #[.string s, .int .i64 ((p0 : Int) + (p : Int))], .func (.func 21) #[] #[]]) (results_row_one Tryz.results11 _ _ n 43 _ _ _ _ rfl rfl (HG.out.fin _ _).1 Tryz.underlying43 rfl (by kernel_rfl)) rfl ?_
                  exact ⟨by rw [HV.out.1, HV.out.2, Int.natCast_add], (HG.out.fin _ _).2⟩
                · have hx3 : ¬ (r : Int) = 39 := fun e => y3 (h39.1 e)
                  have hx3b : ((r : Int) == 39) = false := beq_false_of_ne hx3
                  rw [if_neg y3] at HCF2
                  clear h39 y3
                  by_cases y4 : ltB b = true
                  · have HV : Hid (cutF (S.data.toList.drop A) = 23 ∧ A = p) := ⟨by rw [HCF2.out, if_pos y4], hinv⟩
                    rw [y4] at C3
                    clear HCF2 hinv y4
                    generalize (r : Int) = x at *
                    go_wp2_with (first | (go_at_call 16; with_reducible (refine (C1.out _).mono ?_); rintro e _ ⟨rfl, hw⟩; obtain rfl := hw.symm; clear hw) | (go_at_call 19; with_reducible (refine (C2.out _).mono ?_); rintro e _ ⟨rfl, hw⟩; obtain rfl := hw.symm; clear hw) | (go_at_call 22; with_reducible (refine (C3.out _).mono ?_); rintro e _ ⟨rfl, hw⟩; obtain rfl := hw.symm; clear hw) | (go_at_call 17; with_reducible (refine (C5.out _).mono ?_); rintro e _ ⟨rfl, hw⟩; obtain rfl := hw.symm; clear hw) | (go_at_call 18; with_reducible (refine (C4.out _).mono ?_); rintro e w1 ⟨rfl, hb⟩; obtain ⟨q0, q1, c0, c1, f0, f1, HG⟩ := HX.out w1 hb; clear HX hb))
                    refine bodyPost_ret (v := .tuple #[.agg #[.string s, .int .i64 ((p0 : Int) + (p : Int))], .func (.func 23) #[] #[]]) (results_row_one Tryz.results11 _ _ n 43 _ _ _ _ rfl rfl (HG.out.fin _ _).1 Tryz.underlying43 rfl (by kernel_rfl)) rfl ?_
                    exact ⟨by rw [HV.out.1, HV.out.2, Int.natCast_add], (HG.out.fin _ _).2⟩
                  · have HV : Hid (cutF (S.data.toList.drop A) = 24 ∧ A = p) := ⟨by rw [HCF2.out, if_neg y4], hinv⟩
                    rw [show ltB b = false by simpa using y4] at C3
                    clear HCF2 hinv y4
                    generalize (r : Int) = x at *
                    go_wp2_with (first | (go_at_call 16; with_reducible (refine (C1.out _).mono ?_); rintro e _ ⟨rfl, hw⟩; obtain rfl := hw.symm; clear hw) | (go_at_call 19; with_reducible (refine (C2.out _).mono ?_); rintro e _ ⟨rfl, hw⟩; obtain rfl := hw.symm; clear hw) | (go_at_call 22; with_reducible (refine (C3.out _).mono ?_); rintro e _ ⟨rfl, hw⟩; obtain rfl := hw.symm; clear hw) | (go_at_call 17; with_reducible (refine (C5.out _).mono ?_); rintro e _ ⟨rfl, hw⟩; obtain rfl := hw.symm; clear hw) | (go_at_call 18; with_reducible (refine (C4.out _).mono ?_); rintro e w1 ⟨rfl, hb⟩; obtain ⟨q0, q1, c0, c1, f0, f1, HG⟩ := HX.out w1 hb; clear HX hb))
                    refine bodyPost_ret (v := .tuple #[.agg #[.string s, .int .i64 ((p0 : Int) + (p : Int))], .func (.func 24) #[] #[]]) (results_row_one Tryz.results11 _ _ n 43 _ _ _ _ rfl rfl (HG.out.fin _ _).1 Tryz.underlying43 rfl (by kernel_rfl)) rfl ?_
                    exact ⟨by rw [HV.out.1, HV.out.2, Int.natCast_add], (HG.out.fin _ _).2⟩
      · have hnote := hr.note
        rw [hnote] at hinv
        have HV : Hid (A = p + m + skB ((r : Int) != 10) (S.data.toList.drop (p + m))) := by show A = _; omega
        clear hinv hnote hr CB CD CL H1 hW hbg hpn HX
        generalize (r : Int) = x at *
        go_wp2_with fail
        go_roundw
        case rel => exact ⟨p + m, x != 10, hfit, HN.out, rfl, HV.out⟩
        case measure => rw [HP.out, hpos]; exact HM.out
    · obtain rfl : p = S.size := by omega
      have hn2 := fun ty => next_end (P := Tryz.prog) hbg.it ty (by omega)
      rw [List.drop_eq_nil_of_le (by simp)] at hinv
      have hA0 : A = S.size := by rw [hinv]; cases nb <;> rfl
      have HV : Hid (cutF (S.data.toList.drop A) = 25 ∧ ((p0 + A : Nat) : Int) = (s.size : Int)) := ⟨by rw [hA0, List.drop_eq_nil_of_le (by simp)]; rfl, by have := HZ.out; omega⟩
      have c0 := hbg.res.cell 0 rfl
      have c1 := hbg.res.cell 1 rfl
      have f0 := hbg.res.frozen 0
      have f1 := hbg.res.frozen 1
      have HG : Hid (Bg w n S S.size wr) := hbg
      clear hinv hbg hA0 hpos
      go_wp2_with fail
      refine bodyPost_ret (v := .tuple #[.agg #[.string s, .int .i64 (s.size : Int)], .func (.func 25) #[] #[]]) (results_row_one Tryz.results11 _ _ n 43 _ _ _ _ rfl rfl (HG.out.fin _ _).1 Tryz.underlying43 rfl (by kernel_rfl)) rfl ?_
      exact ⟨by rw [HV.out.1, HV.out.2], (HG.out.fin _ _).2⟩
end Go.Proofs.YtajebjkpmbehgaaGreatDoor

/-
  CONTRACTS: the checks of a table (every, hasKind, the four closures), and of an order.
-/
import Derived.Test.YtgjajffpkjcenaaDoorSchMap
import Derived.Test.YtgjajffpkjcenaaDoorLoud
namespace Go.Proofs.YtgjajffpkjcenaaDoor
open Go.RowKit Go.Maps Go.WideMaps

attribute [local go_sem] Oper.pureAt Oper.pureUpon

theorem all_take {α : Type} (f : α → Bool) (l : List α) (k : Nat) (a : α) (h : l[k]? = some a) (h1 : (l.take k).all f = true) (h2 : f a = true) : (l.take (k + 1)).all f = true := by
  rw [List.take_add_one, h, List.all_append, h1]; simp [h2]
theorem all_no {α : Type} (f : α → Bool) (l : List α) (k : Nat) (a : α) (h : l[k]? = some a) (h2 : f a = false) : l.all f = false := by
  rw [List.all_eq_false]
  exact ⟨a, List.mem_of_getElem? h, by rw [h2]; simp⟩
set_option maxRecDepth 100000 in
set_option maxHeartbeats 1000000 in
theorem everyName_any (ao : Option Addr) (l : List ByteArray) (cap : Nat) (w : World) (hN : NSee w ao l) (hl : l.length ≤ 9000000000000) (hs : ∀ s ∈ l, s.size ≤ maxLen) (hS : SpT w) :
    Calls Tryd.prog 28 #[.slice ao l.length cap, .func (.func 9) #[] #[]] w fun e w' => e = .returned (.bool (l.all nm17)) ∧ Below w.heap.size w w' := by
  have HN : Hid (∀ wr, Below w.heap.size w wr → NSee wr ao l ∧ SpT wr) := fun wr hb => ⟨hN.below hb, hS.below hb hS.lt⟩
  have HK : Hid (∀ s ∈ l, s.size ≤ maxLen) := hs
  have hlz : (l.length : Int) ≤ 9000000000000 := by omega
  clear hN hl hs hS
  go_enter Tryd.func28, Tryd.ntmps28
  go_wp2_with fail
  go_loopw [9] (fun s9 wr => ∃ k : Nat, k ≤ l.length ∧ s9 = .int .i64 (k : Int) ∧ Below w.heap.size w wr ∧ (l.take k).all nm17 = true) (fun s9 _ => l.length - (intOf s9).toNat)
  case atStart => exact ⟨0, Nat.zero_le _, rfl, Below.refl _ _, rfl⟩
  case round =>
    obtain ⟨k, hk, rfl, hb, hall⟩ := hrel
    rcases Nat.lt_or_ge k l.length with hlt | hge
    · have hcs : l[k]? = some l[k] := List.getElem?_eq_getElem hlt
      obtain ⟨hNr, hSr⟩ := HN.out wr hb
      obtain ⟨b, off, rfl, k0⟩ := hNr k _ hcs
      have C := name17_any l[k] wr (HK.out _ (List.getElem_mem hlt)) hSr
      have hkz : (k : Int) < (l.length : Int) := by omega
      have HB : Hid (∀ w', Below wr.heap.size wr w' → Below w.heap.size w w') := fun w' h => hb.trans (h.mono hb.size)
      cases hn : nm17 l[k]
      · have HA : Hid (l.all nm17 = false) := all_no _ _ _ _ hcs hn
        rw [hn] at C
        generalize l[k] = s at *
        clear hcs hall hn hNr hSr hb
        go_wp2_with fail
        refine C.mono ?_
        rintro e w1 ⟨rfl, h1⟩
        have h2 := HB.out _ h1
        go_wp2_with fail
        go_ret
        exact ⟨ret_bool HA.out.symm, h2⟩
      · have HA : Hid ((l.take (k + 1)).all nm17 = true) := all_take _ _ _ _ hcs hall hn
        rw [hn] at C
        generalize l[k] = s at *
        clear hcs hall hn hNr hSr hb
        go_wp2_with fail
        refine C.mono ?_
        rintro e w1 ⟨rfl, h1⟩
        have h2 := HB.out _ h1
        go_wp2_with fail
        go_roundw
        case rel => exact ⟨k + 1, by omega, by go_num, h2, HA.out⟩
        case measure => simp [intOf]; omega
    · obtain rfl : k = l.length := by omega
      rw [List.take_length] at hall
      have HA : Hid (l.all nm17 = true) := hall
      clear HN HK hall
      go_wp2_with fail
      go_ret
      exact ⟨ret_bool HA.out.symm, hb⟩
set_option maxRecDepth 100000 in
theorem order1_any (Y B n : Nat) (D : DataW Unit) (s : ByteArray) (w : World) (hY : w.cell? ⟨Y, 0, none⟩ = some (.map (some B))) (h : MAt w B n D) (hs : s.size ≤ maxLen) :
    Calls Tryd.prog 29 #[.string s, .pointer (some ⟨Y, 0, none⟩)] w fun e w' => e = .returned (.bool (Maps.has D (.string (nb s)))) ∧ w' = w := by
  have C := has_any B n D s w h hs
  go_enter Tryd.func29, Tryd.ntmps29
  go_wp2_with (go_at_call 30; refine C.mono ?_; rintro e w1 ⟨rfl, rfl⟩)
  go_ret
  exact ⟨rfl, rfl⟩
set_option maxRecDepth 100000 in
set_option maxHeartbeats 1000000 in
theorem everyHas_any (Y B n : Nat) (D : DataW Unit) (ao : Option Addr) (l : List ByteArray) (cap : Nat) (w : World) (hY : w.cell? ⟨Y, 0, none⟩ = some (.map (some B))) (h : MAt w B n D) (hN : NSee w ao l) (hl : l.length ≤ 9000000000000) (hs : ∀ s ∈ l, s.size ≤ maxLen) :
    Calls Tryd.prog 28 #[.slice ao l.length cap, .func (.func 29) #[] #[.pointer (some ⟨Y, 0, none⟩)]] w fun e w' => e = .returned (.bool (l.all fun s => Maps.has D (.string (nb s)))) ∧ w' = w := by
  have HK : Hid (∀ s ∈ l, Calls Tryd.prog 29 #[.string s, .pointer (some ⟨Y, 0, none⟩)] w fun e w' => e = .returned (.bool (Maps.has D (.string (nb s)))) ∧ w' = w) := fun s hm => order1_any Y B n D s w hY h (hs s hm)
  have HN : Hid (NSee w ao l) := hN
  have hlz : (l.length : Int) ≤ 9000000000000 := by omega
  clear hN hl hs hY h
  go_enter Tryd.func28, Tryd.ntmps28
  go_wp2_with fail
  go_loopw [9] (fun s9 wr => ∃ k : Nat, k ≤ l.length ∧ s9 = .int .i64 (k : Int) ∧ wr = w ∧ (l.take k).all (fun s => Maps.has D (.string (nb s))) = true) (fun s9 _ => l.length - (intOf s9).toNat)
  case atStart => exact ⟨0, Nat.zero_le _, rfl, rfl, rfl⟩
  case round =>
    obtain ⟨k, hk, rfl, rfl, hall⟩ := hrel
    rcases Nat.lt_or_ge k l.length with hlt | hge
    · have hcs : l[k]? = some l[k] := List.getElem?_eq_getElem hlt
      obtain ⟨b, off, rfl, k0⟩ := HN.out k _ hcs
      have C := HK.out _ (List.getElem_mem hlt)
      have hkz : (k : Int) < (l.length : Int) := by omega
      cases hn : Maps.has D (.string (nb l[k]))
      · have HA : Hid ((l.all fun s => Maps.has D (.string (nb s))) = false) := all_no _ _ _ _ hcs hn
        rw [hn] at C
        generalize l[k] = s at *
        clear hcs hall hn
        go_wp2_with fail
        refine C.mono ?_
        rintro e w1 ⟨rfl, rfl⟩
        go_wp2_with fail
        go_ret
        exact ⟨ret_bool HA.out.symm, rfl⟩
      · have HA : Hid ((l.take (k + 1)).all (fun s => Maps.has D (.string (nb s))) = true) := all_take _ _ _ _ hcs hall hn
        rw [hn] at C
        generalize l[k] = s at *
        clear hcs hall hn
        go_wp2_with fail
        refine C.mono ?_
        rintro e w1 ⟨rfl, rfl⟩
        go_wp2_with fail
        go_roundw
        case rel => exact ⟨k + 1, by omega, by go_num, by first | rfl | trivial, HA.out⟩
        case measure => simp [intOf]; omega
    · obtain rfl : k = l.length := by omega
      rw [List.take_length] at hall
      have HA : Hid ((l.all fun s => Maps.has D (.string (nb s))) = true) := hall
      clear HN HK hall
      go_wp2_with fail
      go_ret
      exact ⟨ret_bool HA.out.symm, rfl⟩
/-- Is a column's kind one of the two? -/
def kindB (c : Co) : Bool := decide (c.k = 1) || decide (c.k = 2)
set_option maxRecDepth 100000 in
theorem hasKind_any (c : Co) (w : World) : Calls Tryd.prog 35 #[c.v] w fun e w' => e = .returned (.bool (kindB c)) ∧ Below w.heap.size w w' := by
  obtain ⟨cn, ck⟩ := c
  unfold kindB Co.v Co.a
  by_cases h1 : ck = 1
  · subst h1
    go_enter Tryd.func35, Tryd.ntmps35
    go_wp2_with fail
    go_ret
    exact ⟨by simp, (Below.refl _ _).alloc (Nat.le_refl _) _⟩
  · by_cases h2 : ck = 2
    · subst h2
      go_enter Tryd.func35, Tryd.ntmps35
      go_wp2_with fail
      go_ret
      exact ⟨by simp, (Below.refl _ _).alloc (Nat.le_refl _) _⟩
    · go_enter Tryd.func35, Tryd.ntmps35
      go_wp2_with fail
      go_ret
      exact ⟨by simp [h1, h2], (Below.refl _ _).alloc (Nat.le_refl _) _⟩
set_option maxRecDepth 100000 in
set_option maxHeartbeats 1000000 in
theorem everyKind_any (ao : Option Addr) (l : List Co) (cap : Nat) (w : World) (hN : CSee w ao l) (hl : l.length ≤ 9000000000000) :
    Calls Tryd.prog 34 #[.slice ao l.length cap, .func (.func 35) #[] #[]] w fun e w' => e = .returned (.bool (l.all kindB)) ∧ Below w.heap.size w w' := by
  have HN : Hid (∀ wr, Below w.heap.size w wr → CSee wr ao l) := fun wr hb => hN.below hb
  have hlz : (l.length : Int) ≤ 9000000000000 := by omega
  clear hN hl
  go_enter Tryd.func34, Tryd.ntmps34
  go_wp2_with fail
  go_loopw [9] (fun s9 wr => ∃ k : Nat, k ≤ l.length ∧ s9 = .int .i64 (k : Int) ∧ Below w.heap.size w wr ∧ (l.take k).all kindB = true) (fun s9 _ => l.length - (intOf s9).toNat)
  case atStart => exact ⟨0, Nat.zero_le _, rfl, Below.refl _ _, rfl⟩
  case round =>
    obtain ⟨k, hk, rfl, hb, hall⟩ := hrel
    rcases Nat.lt_or_ge k l.length with hlt | hge
    · have hcs : l[k]? = some l[k] := List.getElem?_eq_getElem hlt
      obtain ⟨b, off, rfl, k0, k1⟩ := HN.out wr hb k _ hcs
      have C : Hid (∀ w, Calls Tryd.prog 35 #[l[k].v] w fun e w' => e = .returned (.bool (kindB l[k])) ∧ Below w.heap.size w w') := hasKind_any l[k]
      have hkz : (k : Int) < (l.length : Int) := by omega
      have HB : Hid (∀ o w', Below (wr.alloc o).heap.size (wr.alloc o) w' → Below w.heap.size w w') := fun o w' h => (hb.alloc hb.size o).trans (h.mono (by rw [World.size_alloc]; have := hb.size; omega))
      cases hn : kindB l[k]
      · have HA : Hid (l.all kindB = false) := all_no _ _ _ _ hcs hn
        rw [hn] at C
        generalize l[k] = s at *
        obtain ⟨cn, ck⟩ := s
        simp only [Co.v, Co.a] at C k0 k1
        clear hcs hall hn hb
        go_wp2_with fail
        refine (C.out _).mono ?_
        rintro e w1 ⟨rfl, h1⟩
        have h2 := HB.out _ _ h1
        go_wp2_with fail
        go_ret
        exact ⟨ret_bool HA.out.symm, h2⟩
      · have HA : Hid ((l.take (k + 1)).all kindB = true) := all_take _ _ _ _ hcs hall hn
        rw [hn] at C
        generalize l[k] = s at *
        obtain ⟨cn, ck⟩ := s
        simp only [Co.v, Co.a] at C k0 k1
        clear hcs hall hn hb
        go_wp2_with fail
        refine (C.out _).mono ?_
        rintro e w1 ⟨rfl, h1⟩
        have h2 := HB.out _ _ h1
        go_wp2_with fail
        go_roundw
        case rel => exact ⟨k + 1, by omega, by go_num, h2, HA.out⟩
        case measure => simp [intOf]; omega
    · obtain rfl : k = l.length := by omega
      rw [List.take_length] at hall
      have HA : Hid (l.all kindB = true) := hall
      clear HN hall
      go_wp2_with fail
      go_ret
      exact ⟨ret_bool HA.out.symm, hb⟩
end Go.Proofs.YtgjajffpkjcenaaDoor

/-
  The law DiskApart.
-/
import Derived.Test.YtbabepnoncpdlaaDskApartP
import Derived.Test.YtbabepnoncpdlaaDskActV
namespace Go.Proofs.Ytbabepnoncpdlaa
open Go.RowKit Go.Maps

theorem size_ok {c : ActV} {w : World} (h : c.Ok w) : c.sa.size ≤ maxLen ∧ c.sb.size ≤ maxLen := by
  have := h.big
  unfold maxLen
  omega
theorem ba_ne {a b : ByteArray} (h : a ≠ b) : (a == b) = false := by
  obtain ⟨x⟩ := a
  obtain ⟨y⟩ := b
  have hxy : x ≠ y := fun e => h (by rw [e])
  show (x == y) = false
  exact beq_eq_false_iff_ne.2 hxy
set_option maxRecDepth 100000 in
set_option maxHeartbeats 8000000 in
theorem diskApart.walk (po : Option Addr) (l : List ActV) (cap : Nat) (nm : ByteArray) (ao : Option Addr) (data : List UInt8) (cd : Nat) (w : World) (ha : ASees w po l) (hl : l.length ≤ 140737488355328) (hok : ∀ c ∈ l, c.Ok w) (hnm : nm.size ≤ maxLen) (hse : Sees w ao data) (hz : ao = none → data.length = 0) (hm : data.length ≤ 140737488351232) :
    Calls Try.prog 6 #[.slice po l.length cap, .string nm, .slice ao data.length cd] w fun e w' => e = .returned (.bool true) ∧ Below w.heap.size w w' := by
  have L : Hid (∀ w, Calls Try.prog 8 #[] w fun x w' => x = .returned (.bool true) ∧ Below w.heap.size w w') := lives_any
  have N0 : Hid (Calls Try.prog 13 #[.int .i64 1048576] w fun x w' => ∃ d, x = .returned (.pointer (some ⟨d, 0, none⟩)) ∧ Kp w d (newA 1048576) w') := kp_new 1048576 (by omega) w
  have NL : Hid (∀ w1, Below w.heap.size w w1 → Calls Try.prog 22 #[.slice po l.length cap] w1 fun e w' => (∃ z : Bool, e = .returned (.bool z) ∧ (z = true → hvL l ≤ 250)) ∧ Below w1.heap.size w1 w') := fun w1 hb => light_any po l cap w1 (ha.below hb (Nat.le_refl _)) hl (fun c hc => (hok c hc).big)
  have HA : Hid (ASees w po l) := ha
  have HO : Hid (∀ c ∈ l, c.Ok w) := hok
  have hmz : (data.length : Int) ≤ 140737488351232 := by omega
  have hlz : (l.length : Int) ≤ 140737488355328 := by omega
  clear ha hok
  cases hg : goodB (nameOf nm)
  · have NG : Hid (∀ w1, Calls Try.prog 9 #[.string nm] w1 fun e w' => e = .returned (.bool false) ∧ w' = w1) := fun w1 => by
      have := good_any nm w1 hnm
      rwa [show goodB nm.data.toList = false from hg] at this
    have NC : Hid (∀ d w1, Kp w d (newA 1048576) w1 → Calls Try.prog 14 #[.pointer (some ⟨d, 0, none⟩), .string nm] w1 fun x w' => x = .returned (.int .i64 3) ∧ Kp w d (newA 1048576) w') := fun d w1 h => kb_wrong h nm hnm hg
    clear hnm hse hz hl hm
    go_enter Try.func6, Try.ntmps6
    go_wp2_with (first
      | (go_at_call 13; go_fit N0.out; rintro x w1 ⟨d, rfl, n0⟩)
      | (go_at_call 9; go_fit (NG.out _); rintro x w2 ⟨rfl, rfl⟩)
      | (go_at_call 14; go_fit (NC.out _ _ n0); rintro x w3 ⟨rfl, n1⟩)
      | (go_at_call 8; go_fit (L.out _); rintro x w7 ⟨rfl, hb7⟩))
    go_ret
    exact ⟨rfl, n1.below.trans (hb7.mono n1.below.size)⟩
  · have NG : Hid (∀ w1, Calls Try.prog 9 #[.string nm] w1 fun e w' => e = .returned (.bool true) ∧ w' = w1) := fun w1 => by
      have := good_any nm w1 hnm
      rwa [show goodB nm.data.toList = true from hg] at this
    have NC : Hid (∀ d w1, Kp w d (newA 1048576) w1 → Calls Try.prog 14 #[.pointer (some ⟨d, 0, none⟩), .string nm] w1 fun x w' => x = .returned (.int .i64 0) ∧ Kp w d (crT (newA 1048576) (nameOf nm)) w') := fun d w1 h => kb_create h nm hnm hg
    by_cases hbig : 1000 < data.length
    · have hbz : (1000 : Int) < (data.length : Int) := by omega
      clear hnm hse hz hl hm
      go_enter Try.func6, Try.ntmps6
      go_wp2_with (first
        | (go_at_call 13; go_fit N0.out; rintro x w1 ⟨d, rfl, n0⟩)
        | (go_at_call 9; go_fit (NG.out _); rintro x w2 ⟨rfl, rfl⟩)
        | (go_at_call 14; go_fit (NC.out _ _ n0); rintro x w3 ⟨rfl, n1⟩)
        | (go_at_call 8; go_fit (L.out _); rintro x w7 ⟨rfl, hb7⟩))
      go_ret
      exact ⟨rfl, n1.below.trans (hb7.mono n1.below.size)⟩
    have hbz : (data.length : Int) ≤ 1000 := by omega
    have NA : Hid (∀ d w1, Kp w d (crT (newA 1048576) (nameOf nm)) w1 → Calls Try.prog 15 #[.pointer (some ⟨d, 0, none⟩), .string nm, .slice ao data.length cd] w1 fun x w' => x = .returned (.int .i64 0) ∧ KA w d (nameOf nm) data 2 w') := fun d w1 h => kb_append h hnm hg ao data cd hse (by omega)
    have NR : Hid (∀ d k w1, KA w d (nameOf nm) data k w1 → Calls Try.prog 19 #[.pointer (some ⟨d, 0, none⟩), .string nm] w1 fun x w' => ∃ a2 c, x = .returned (.tuple #[.slice a2 data.length c, .int .i64 0]) ∧ Below w.heap.size w w' ∧ Calls Try.prog 20 #[.slice a2 data.length c, .slice ao data.length cd] w' fun e w2 => e = .returned (.bool true) ∧ w2 = w') := fun d k w1 h => kb_read h hnm hg cd hse hz
    clear hnm hse hz hl hm hbig
    go_enter Try.func6, Try.ntmps6
    go_wp2_with (first
      | (go_at_call 13; go_fit N0.out; rintro x w1 ⟨d, rfl, n0⟩)
      | (go_at_call 9; go_fit (NG.out _); rintro x w2 ⟨rfl, rfl⟩)
      | (go_at_call 22; go_fit (NL.out _ n0.below); rintro x w4 ⟨⟨z, rfl, hzv⟩, hb4⟩; have n4 := n0.grown (grown_of_below hb4); have HZ : Hid (z = true → hvL l ≤ 250) := hzv; clear hzv; cases z)
      | (go_at_call 14; go_fit (NC.out _ _ n4); rintro x w5 ⟨rfl, n5⟩)
      | (go_at_call 15; go_fit (NA.out _ _ n5); rintro x w6 ⟨rfl, n6⟩)
      | (go_at_call 8; go_fit (L.out _); rintro x w7 ⟨rfl, hb7⟩))
    · go_ret
      exact ⟨rfl, n5.below.trans (hb7.mono n5.below.size)⟩
    · have HV : Hid (hvL l ≤ 250) := by first | exact HZ.out rfl | exact HZ.out trivial
      have S1 : Hid (KA w d (nameOf nm) data 2 w6) := n6
      clear n6 n5 n4 n0 HZ hb4
      go_loopw [51] (fun s51 wr => ∃ i : Nat, i ≤ l.length ∧ s51 = .int .i64 (i : Int) ∧ KA w d (nameOf nm) data (i + 2) wr) (fun s51 _ => l.length - (intOf s51).toNat)
      case atStart => exact ⟨0, by omega, rfl, S1.out⟩
      case round =>
        obtain ⟨i, hi, rfl, hK⟩ := hrel
        clear S1
        have hil := hvL_len l
        have hv := HV.out
        have hi2 : i ≤ 250 := by omega
        have hiz : (i : Int) ≤ 250 := by omega
        rcases Nat.lt_or_ge i l.length with hlt | hge
        · have hc : l[i]? = some l[i] := List.getElem?_eq_getElem hlt
          have hco := HO.out l[i] (List.getElem_mem hlt)
          have hcv := hvL_mem (List.getElem_mem hlt)
          obtain ⟨b1, o1, rfl, h1⟩ := (HA.out.below hK.below (Nat.le_refl _)).six hc
          generalize l[i] = c at *
          have hsz := size_ok hco
          have hdl : c.data.length ≤ 1000000000 := by unfold hvA at hcv; omega
          have HK : Hid (∀ o, KA w d (nameOf nm) data (i + 2) (wr.alloc o)) := fun o => hK.grown (World.grownBy_alloc _ _ _)
          obtain ⟨kind, sa, sb, ao', dat, cp, n, m⟩ := c
          obtain ⟨k0, k1, k2, k3, k4, k5⟩ := h1
          simp only at k0 k1 k2 k3 k4 k5 hsz hdl
          by_cases e1 : sa = nm
          · subst e1
            clear hK hco hcv hc
            go_wp2_with fail
            all_goals exact ⟨⟨i + 1, by omega, by go_num, (HK.out _).more (by omega)⟩, by simp [intOf]; omega⟩
          by_cases e2 : sb = nm
          · subst e2
            clear hK hco hcv hc
            have e1b : (sa == sb) = false := ba_ne e1
            go_wp2_with fail
            all_goals exact ⟨⟨i + 1, by omega, by go_num, (HK.out _).more (by omega)⟩, by simp [intOf]; omega⟩
          have e1b : (sa == nm) = false := ba_ne e1
          have e2b : (sb == nm) = false := ba_ne e2
          have M0 : Hid (∀ k w1, k ≤ 1000 → KA w d (nameOf nm) data k w1 → Calls Try.prog 14 #[.pointer (some ⟨d, 0, none⟩), .string sa] w1 fun x w' => ∃ c, x = .returned (.int .i64 c) ∧ KA w d (nameOf nm) data (k + 1) w') := fun k w1 hk h => ka_create h hk sa hsz.1 (nameOf_ne e1)
          have M1 : Hid (∀ k w1, k ≤ 1000 → KA w d (nameOf nm) data k w1 → Calls Try.prog 15 #[.pointer (some ⟨d, 0, none⟩), .string sa, .slice ao' dat.length cp] w1 fun x w' => ∃ c, x = .returned (.int .i64 c) ∧ KA w d (nameOf nm) data (k + 1) w') := fun k w1 hk h => ka_append h hk sa hsz.1 (nameOf_ne e1) ao' dat cp hco.sees hdl
          have M2 : Hid (∀ k w1, k ≤ 1000 → KA w d (nameOf nm) data k w1 → Calls Try.prog 16 #[.pointer (some ⟨d, 0, none⟩), .string sa] w1 fun x w' => ∃ c, x = .returned (.int .i64 c) ∧ KA w d (nameOf nm) data (k + 1) w') := fun k w1 hk h => ka_sync h hk sa hsz.1 (nameOf_ne e1)
          have M3 : Hid (∀ k w1, k ≤ 1000 → KA w d (nameOf nm) data k w1 → Calls Try.prog 25 #[.pointer (some ⟨d, 0, none⟩), .string sa, .string sb] w1 fun x w' => ∃ c, x = .returned (.int .i64 c) ∧ KA w d (nameOf nm) data (k + 1) w') := fun k w1 hk h => ka_rename h hk sa hsz.1 (nameOf_ne e1) sb hsz.2 (nameOf_ne e2)
          have M4 : Hid (∀ k w1, k ≤ 1000 → KA w d (nameOf nm) data k w1 → Calls Try.prog 26 #[.pointer (some ⟨d, 0, none⟩), .string sa] w1 fun x w' => ∃ c, x = .returned (.int .i64 c) ∧ KA w d (nameOf nm) data (k + 1) w') := fun k w1 hk h => ka_remove h hk sa hsz.1 (nameOf_ne e1)
          have M6 : Hid (∀ k w1, KA w d (nameOf nm) data k w1 → Calls Try.prog 28 #[.pointer (some ⟨d, 0, none⟩), .string sa, .int .i64 n, .int .i64 m] w1 fun x w' => ∃ c, x = .returned (.int .i64 c) ∧ KA w d (nameOf nm) data (k + 1) w') := fun k w1 h => ka_spoil h sa hsz.1 (nameOf_ne e1) n m
          have hk1 : i + 2 ≤ 1000 := by omega
          clear hK hco hcv hc hdl hsz
          go_wp2_with (first
            | (go_at_call 14; go_fit (M0.out _ _ hk1 (HK.out _)); rintro x w8 ⟨c8, rfl, n8⟩)
            | (go_at_call 15; go_fit (M1.out _ _ hk1 (HK.out _)); rintro x w8 ⟨c8, rfl, n8⟩)
            | (go_at_call 16; go_fit (M2.out _ _ hk1 (HK.out _)); rintro x w8 ⟨c8, rfl, n8⟩)
            | (go_at_call 25; go_fit (M3.out _ _ hk1 (HK.out _)); rintro x w8 ⟨c8, rfl, n8⟩)
            | (go_at_call 26; go_fit (M4.out _ _ hk1 (HK.out _)); rintro x w8 ⟨c8, rfl, n8⟩)
            | (go_at_call 28; go_fit (M6.out _ _ (HK.out _)); rintro x w8 ⟨c8, rfl, n8⟩))
          all_goals first
            | exact ⟨⟨i + 1, by omega, by go_num, n8⟩, by simp [intOf]; omega⟩
            | exact ⟨⟨i + 1, by omega, by go_num, (HK.out _).more (by omega)⟩, by simp [intOf]; omega⟩
        · obtain rfl : i = l.length := by omega
          go_wp2_with (first
            | (go_at_call 19; go_fit (NR.out _ _ _ hK); rintro x w9 ⟨a9, c9, rfl, hb9, hs9⟩; have HS9 : Hid (Calls Try.prog 20 #[.slice a9 data.length c9, .slice ao data.length cd] w9 fun e w2 => e = .returned (.bool true) ∧ w2 = w9) := hs9; clear hs9)
            | (go_at_call 20; go_fit HS9.out; rintro x w6 ⟨rfl, rfl⟩)
            | (go_at_call 8; go_fit (L.out _); rintro x w7 ⟨rfl, hb7⟩))
          go_ret
          exact ⟨rfl, hb9.trans (hb7.mono hb9.size)⟩
end Go.Proofs.Ytbabepnoncpdlaa

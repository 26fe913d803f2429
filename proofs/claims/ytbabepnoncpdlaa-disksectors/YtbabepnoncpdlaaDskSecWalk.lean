/-
  The law DiskSectors.
-/
import Derived.Test.YtbabepnoncpdlaaDskSecP
import Derived.Test.YtbabepnoncpdlaaDskParts
namespace Go.Proofs.Ytbabepnoncpdlaa
open Go.RowKit Go.Maps

set_option maxRecDepth 100000 in
set_option maxHeartbeats 8000000 in
theorem diskSectors.walk (po : Option Addr) (P : List PartV) (cap : Nat) (w : World) (hP : PSees w po P) (hlen : P.length ≤ 140737488351232) (hq : ∀ q ∈ P, q.bs.length ≤ 140737488351232) :
    Calls Try.prog 7 #[.slice po P.length cap] w fun e w' => e = .returned (.bool true) ∧ Below w.heap.size w w' := by
  have L : Hid (∀ w, Calls Try.prog 8 #[] w fun x w' => x = .returned (.bool true) ∧ Below w.heap.size w w') := lives_any
  have HP : Hid (PSees w po P) := hP
  have HQ : Hid (∀ q ∈ P, q.bs.length ≤ 140737488351232) := hq
  have N0 : Hid (Calls Try.prog 13 #[.int .i64 1048576] w fun x w' => ∃ d, x = .returned (.pointer (some ⟨d, 0, none⟩)) ∧ Kp w d (newA 1048576) w') := sec_new w
  have N1 : Hid (∀ d w1, Kp w d (newA 1048576) w1 → Calls Try.prog 14 #[.pointer (some ⟨d, 0, none⟩), .string ⟨#[97]⟩] w1 fun x w' => x = .returned (.int .i64 0) ∧ SxP w d [] 0 1 (.slice none 0 0) w') := fun d w1 h => sec_create h
  have NS : Hid (∀ d (l : List UInt8) syn k v w1, k ≤ 10000 → SxP w d l syn k v w1 → Calls Try.prog 16 #[.pointer (some ⟨d, 0, none⟩), .string ⟨#[97]⟩] w1 fun x w' => x = .returned (.int .i64 0) ∧ SxP w d l l.length (k + 1) v w') := fun d l syn k v w1 hk h => sec_sync hk h
  have ND0 : Hid (∀ d (l : List UInt8) k v w1, SxP w d l l.length k v w1 → Calls Try.prog 21 #[.pointer (some ⟨d, 0, none⟩)] w1 fun x w' => x = .returned (.int .i64 0) ∧ SxP w d l l.length k v w') := fun d l k v w1 h => sec_dirty0 h
  have NC : Hid (∀ d (l : List UInt8) syn k v w1, l.length ≤ 2000 → SxP w d l syn k v w1 → Calls Try.prog 17 #[.pointer (some ⟨d, 0, none⟩), .int .i64 1073741824] w1 fun x w' => x = .returned (.tuple #[]) ∧ ∃ A, A.sp = [⟨[97], l, l.length, []⟩] ∧ Sx w d A v l w') := fun d l syn k v w1 hl h => sec_crash hl h
  have NT : Hid (∀ d (l : List UInt8) v w1, (∃ A, A.sp = [⟨[97], l, l.length, []⟩] ∧ Sx w d A v l w1) → Calls Try.prog 18 #[.pointer (some ⟨d, 0, none⟩)] w1 fun x w' => x = .returned (.tuple #[]) ∧ ∃ A, A.sp = [⟨[97], l, l.length, []⟩] ∧ A.on = true ∧ Sx w d A v l w') := fun d l v w1 h => sec_start h
  have NR : Hid (∀ d (l : List UInt8) v w1, l.length ≤ 2000 → (∃ A, A.sp = [⟨[97], l, l.length, []⟩] ∧ A.on = true ∧ Sx w d A v l w1) → Calls Try.prog 19 #[.pointer (some ⟨d, 0, none⟩), .string ⟨#[97]⟩] w1 fun x w' => ∃ ao c, x = .returned (.tuple #[.slice ao l.length c, .int .i64 0]) ∧ Below w.heap.size w w' ∧ Calls Try.prog 20 #[.slice ao l.length c, v] w' fun e w2 => e = .returned (.bool true) ∧ w2 = w') := fun d l v w1 hl h => sec_read hl h
  clear hP hq
  have hlz : (P.length : Int) ≤ 140737488351232 := by omega
  go_enter Try.func7, Try.ntmps7
  go_wp2_with fail
  go_loop [3, 16] (fun s3 s16 => ∃ i t : Nat, i ≤ P.length ∧ s3 = .int .i64 (t : Int) ∧ s16 = .int .i64 i ∧ totP (P.take i) = t ∧ t ≤ 2000) (fun _ s16 => P.length - (intOf s16).toNat)
  case atStart => exact ⟨0, 0, by omega, rfl, rfl, by simp [totP], by omega⟩
  case round =>
    obtain ⟨i, t, hi, rfl, rfl, ht, ht2⟩ := hrel
    rcases Nat.lt_or_ge i P.length with hlt | hge
    · have hp : P[i]? = some P[i] := List.getElem?_eq_getElem hlt
      have hbl := HQ.out P[i] (List.getElem_mem hlt)
      have hst := totP_step hp
      obtain ⟨b, off, rfl, hc⟩ := HP.out.cell hp
      have k0 := hc w (Below.refl _ _)
      generalize P[i] = p at *
      have Hst : Hid _ := hst
      clear hst hc hp
      generalize p.bs.length = n at *
      have hn : (n : Int) ≤ 140737488351232 := by omega
      have htz : (t : Int) ≤ 2000 := by omega
      by_cases hbig : t + (1 + n) ≤ 2000
      · have hz : ¬ ((2000 : Int) < (t : Int) + (1 + (n : Int))) := by omega
        go_wp2_with fail
        go_round
        case rel => exact ⟨i + 1, t + (1 + n), by omega, by go_num, by go_num, by rw [Hst.out, ht], hbig⟩
        case measure => simp [intOf]; omega
      · have hz : (2000 : Int) < (t : Int) + (1 + (n : Int)) := by omega
        go_wp2_with (go_at_call 8; go_fit (L.out _); rintro x w1 ⟨rfl, hb1⟩)
        go_ret
        exact ⟨rfl, hb1⟩
    · obtain rfl : i = P.length := by omega
      rw [List.take_length] at ht
      have hcat := catP_len P
      have HT : Hid (totP P ≤ 2000) := by show totP P ≤ 2000; omega
      clear ht hge hcat
      go_wp2_with (first
        | (go_at_call 13; go_fit N0.out; rintro x w1 ⟨d, rfl, n0⟩)
        | (go_at_call 14; go_fit (N1.out _ _ n0); rintro x w2 ⟨rfl, n1⟩))
      have S1 : Hid (SxP w d [] 0 1 (.slice none 0 0) w2) := n1
      clear n1 n0 N0 N1
      go_loopw [7, 8, 39] (fun s7 s8 s39 wr => ∃ i syn k : Nat, i ≤ P.length ∧ s39 = .int .i64 (i : Int) ∧ s8 = .int .i64 (syn : Int) ∧ k ≤ 2 * i + 1 ∧ SxP w d (catP (P.take i)) syn k s7 wr) (fun _ _ s39 _ => P.length - (intOf s39).toNat)
      case atStart => exact ⟨0, 0, 1, by omega, rfl, rfl, by omega, S1.out⟩
      case round =>
        obtain ⟨i, syn, k, hi, rfl, rfl, hk, hS⟩ := hrel
        clear S1
        have hcl := catP_len (P.take i)
        have htt := totP_take P i
        have hTT := HT.out
        have hpl : (P.take i).length = i := by rw [List.length_take]; omega
        have hi2 : i ≤ 2000 := by omega
        have hL2 : (catP (P.take i)).length ≤ 2000 := by omega
        have hwr := hS.wr
        obtain ⟨ao7, c7, rfl⟩ := hS.form
        rcases Nat.lt_or_ge i P.length with hlt | hge
        · have hp : P[i]? = some P[i] := List.getElem?_eq_getElem hlt
          have hst := catP_step hp
          have hts := totP_step hp
          have ht3 := totP_take P (i + 1)
          obtain ⟨_, hse, hzz⟩ := HP.out i _ hp
          obtain ⟨b, off, rfl, hc⟩ := HP.out.cell hp
          generalize P[i] = p at *
          have k0 := hc _ hS.below
          have hsum : (catP (P.take i)).length + p.bs.length ≤ 2000 := by omega
          have Hst : Hid (catP (P.take (i + 1)) = catP (P.take i) ++ p.bs) := hst
          have Hse : Hid (Sees w p.ao p.bs) := hse
          have Hzz : Hid (p.ao = none → p.bs.length = 0) := hzz
          have HS : Hid (SxP w d (catP (P.take i)) syn k (.slice ao7 (catP (P.take i)).length c7) wr) := hS
          obtain ⟨pao, pbs, pcap⟩ := p
          simp only at *
          generalize hL : catP (P.take i) = l at *
          have NA : Hid (∀ syn k v w1, k ≤ 10000 → SxP w d l syn k v w1 → Calls Try.prog 15 #[.pointer (some ⟨d, 0, none⟩), .string ⟨#[97]⟩, .slice pao pbs.length pcap] w1 fun x w' => x = .returned (.int .i64 0) ∧ ∃ A, SecA A (l ++ pbs) syn (k + 1) ∧ Sx w d A v l w') := fun syn k v w1 hk h => sec_append hk pao pbs pcap Hse.out hsum h
          have NP : Hid (∀ syn k v w1 w2 ao c, (∃ A, SecA A (l ++ pbs) syn k ∧ Sx w d A v l w1) → Grew w1 w2 v (.slice ao (l.length + pbs.length) c) → w2.ownsRow w.heap.size 5 1 (.slice ao (l.length + pbs.length) c) (l.length + pbs.length) (B8 l ++ B8 pbs) → SxP w d (l ++ pbs) syn k (.slice ao (l.length + pbs.length) c) w2) := fun syn k v w1 w2 ao c h hg ho => sec_put h hg ho
          have NW : Hid (∀ syn k v w1, (∃ A, SecA A (l ++ pbs) syn k ∧ Sx w d A v l w1) → w1.ownsRow w.heap.size 5 1 v l.length (B8 l) ∧ w.heap.size ≤ w1.heap.size ∧ Src Try.prog 1 26 (.slice pao pbs.length pcap) pbs.length (B8 pbs) w1) := fun syn k v w1 h => ⟨(sec_row h).1, (sec_row h).2.1, src_sees Try.underlying26 ((sec_row h).2.2 _ Hse.out) Hzz.out pcap⟩
          have ND : Hid (∀ syn k v w1, SxP w d (l ++ pbs) syn k v w1 → Calls Try.prog 21 #[.pointer (some ⟨d, 0, none⟩)] w1 fun x w' => x = .returned (.int .i64 (wantN (l.length + pbs.length) syn : Int)) ∧ SxP w d (l ++ pbs) syn k v w') := fun syn k v w1 h => by rw [← List.length_append]; exact sec_dirty h
          have NU : Hid (∀ syn k v w1, SxP w d (l ++ pbs) syn k v w1 → Calls Try.prog 23 #[.pointer (some ⟨d, 0, none⟩)] w1 fun x w' => x = .returned (.int .i64 ((1 + (l.length + pbs.length + 15) / 16 : Nat) : Int)) ∧ SxP w d (l ++ pbs) syn k v w') := fun syn k v w1 h => by rw [← List.length_append]; exact sec_used h
          have NX : Hid (∀ w1, Calls Try.prog 11 #[.int .i64 ((l.length + pbs.length : Nat) : Int)] w1 fun x w' => x = .returned (.int .i64 (((l.length + pbs.length + 15) / 16 : Nat) : Int)) ∧ w' = w1) := fun w1 => by
            have h1 := sectors_num ((l.length + pbs.length : Nat) : Int) w1 (by omega) (by omega)
            rw [secI_nat] at h1
            exact h1
          obtain ⟨i0, hinf, hq0, hq1, hq2⟩ := info_parts info8
          have hk1 : k ≤ 10000 := by omega
          have hk2 : k + 1 ≤ 10000 := by omega
          generalize hm : l.length + pbs.length = m at *
          have HW : Hid (∀ x, (x < m → (wantN m x : Int) = ((m : Int) - 1) / 16 - (x : Int) / 16 + 1) ∧ (¬ x < m → wantN m x = 0)) := fun x => by
            constructor
            · intro h
              unfold wantN
              rw [if_pos h]
              omega
            · intro h
              unfold wantN
              rw [if_neg h]
          have hmz : (m : Int) ≤ 2000 := by omega
          have hnz : (l.length : Int) ≤ 2000 := by omega
          have hwz : (syn : Int) ≤ (l.length : Int) := by omega
          have hiz : (i : Int) ≤ 2000 := by omega
          clear hS hse hzz hst hts ht3 htt hTT hpl hcl hc hp
          go_wp2_with (first
            | (go_at_call 16; go_fit (NS.out _ _ _ _ _ _ hk1 HS.out); rintro x w3 ⟨rfl, n3⟩)
            | (go_at_call 21; first | (go_fit (ND.out _ _ _ _ n6); rintro x w7 ⟨rfl, n7⟩) | (go_fit (ND0.out _ _ _ _ _ n3); rintro x w4 ⟨rfl, n4⟩))
            | (go_at_call 15; first | (go_fit (NA.out _ _ _ _ hk2 n4); rintro x w5 ⟨rfl, n5⟩) | (go_fit (NA.out _ _ _ _ hk1 HS.out); rintro x w5 ⟨rfl, n5⟩))
            | ((with_reducible (show wpList _ _ _ (Oper.mk _ (Op.call ⟨Callee.builtin Builtin.append, #[.tmp 61, .tmp 62], _⟩) _ _ _ _ :: _) _ _)); go_must (refine wpList_append_shape _ rfl (.tmp 61) (.tmp 62) 26 26 rfl w.heap.size 5 i0 (.int .u8 0) 1 Try.underlying26 hinf hq0 hq1 hq2 rfl _ l.length (B8 l) rfl (NW.out _ _ _ _ n5).1 _ pbs.length (B8 pbs) rfl (NW.out _ _ _ _ n5).2.2 (by unfold maxLen; omega) (by omega) (NW.out _ _ _ _ n5).2.1 ?_; intro ao6 c6 w6 ho6 hg6; have n6 := NP.out _ _ _ _ _ _ _ n5 (by rw [← hm]; exact hg6) (by rw [← hm]; exact ho6); rw [hm]))
            | (go_at_call 23; go_fit (NU.out _ _ _ _ n7); rintro x w8 ⟨rfl, n8⟩)
            | (go_at_call 11; go_fit (NX.out _); rintro x w9 ⟨rfl, rfl⟩))
          all_goals first
            | (refine ⟨⟨i + 1, _, _, by omega, by go_num, rfl, ?_, (by rw [Hst.out]; exact n8)⟩, by simp [intOf]; omega⟩; omega)
            | (exfalso; have h3 := HW.out l.length; have h4 := HW.out syn; omega)
        · obtain rfl : i = P.length := by omega
          rw [List.take_length] at *
          have HS : Hid (SxP w d (catP P) syn k (.slice ao7 (catP P).length c7) wr) := hS
          generalize catP P = l at *
          clear hS hwr hcl htt hTT hpl
          go_wp2_with (first
            | (go_at_call 17; go_fit (NC.out _ _ _ _ _ _ hL2 HS.out); rintro x w3 ⟨rfl, n3⟩)
            | (go_at_call 18; go_fit (NT.out _ _ _ _ n3); rintro x w4 ⟨rfl, n4⟩)
            | (go_at_call 19; go_fit (NR.out _ _ _ _ hL2 n4); rintro x w5 ⟨ao5, c5, rfl, hb5, hs5⟩; have HS5 : Hid (Calls Try.prog 20 #[.slice ao5 l.length c5, .slice ao7 l.length c7] w5 fun e w2 => e = .returned (.bool true) ∧ w2 = w5) := hs5; clear hs5)
            | (go_at_call 20; go_fit HS5.out; rintro x w6 ⟨rfl, rfl⟩)
            | (go_at_call 8; go_fit (L.out _); rintro x w7 ⟨rfl, hb7⟩))
          go_ret
          exact ⟨rfl, hb5.trans (hb7.mono hb5.size)⟩
end Go.Proofs.Ytbabepnoncpdlaa

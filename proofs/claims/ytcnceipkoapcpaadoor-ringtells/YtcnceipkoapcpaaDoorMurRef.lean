/-
  CONTRACT: the document's Sum, for every bytes and every seed.
-/
import Derived.Test.YtcnceipkoapcpaaDoorMurSum
namespace Go.Proofs.YtcnceipkoapcpaaDoor
open Go.RowKit

/-- A call of a Go function of one word that answers a word, over plain numbers. -/
def Tells (f : FuncId) (y z : Int) : Prop := ∀ w, Calls Tryd.prog f #[.int .u64 y] w fun e w' => e = .returned (.int .u64 z) ∧ w' = w
theorem first_facts (k h : BitVec 64) : ∃ u x f p : BitVec 64, p = h ^^^ firstB k ∧ IntKind.u64.wrap ((k.toNat : Int) * 9782798678568883157) = (u.toNat : Int) ∧ Turns 53 .u64 31 (u.toNat : Int) (x.toNat : Int) ∧
    IntKind.u64.wrap ((x.toNat : Int) * 5545529020109919103) = (f.toNat : Int) ∧ bits BinOp.xor IntKind.u64 (h.toNat : Int) (f.toNat : Int) = (p.toNat : Int) :=
  ⟨k * C1, rotB (k * C1) 31, firstB k, _, rfl, u_mulc k 9782798678568883157 (by decide), rotl31_any _, u_mulc _ 5545529020109919103 (by decide), u_xor _ _⟩
theorem second_facts (k h : BitVec 64) : ∃ u x f p : BitVec 64, p = h ^^^ secondB k ∧ IntKind.u64.wrap ((k.toNat : Int) * 5545529020109919103) = (u.toNat : Int) ∧ Turns 53 .u64 33 (u.toNat : Int) (x.toNat : Int) ∧
    IntKind.u64.wrap ((x.toNat : Int) * 9782798678568883157) = (f.toNat : Int) ∧ bits BinOp.xor IntKind.u64 (h.toNat : Int) (f.toNat : Int) = (p.toNat : Int) :=
  ⟨k * C2, rotB (k * C2) 33, secondB k, _, rfl, u_mulc k 5545529020109919103 (by decide), rotl33_any _, u_mulc _ 9782798678568883157 (by decide), u_xor _ _⟩
theorem step1_facts (p h : BitVec 64) : ∃ z s1 s2 a : BitVec 64, a = (rotB p 27 + h) * 5#64 + 0x52dce729#64 ∧ Turns 53 .u64 27 (p.toNat : Int) (z.toNat : Int) ∧ IntKind.u64.wrap ((z.toNat : Int) + (h.toNat : Int)) = (s1.toNat : Int) ∧
    IntKind.u64.wrap ((s1.toNat : Int) * 5) = (s2.toNat : Int) ∧ IntKind.u64.wrap ((s2.toNat : Int) + 1390208809) = (a.toNat : Int) :=
  ⟨rotB p 27, _, _, _, rfl, rotl27_any _, u_add _ _, u_mulc _ 5 (by decide), u_addc _ 1390208809 (by decide)⟩
theorem step2_facts (p h : BitVec 64) : ∃ z s1 s2 a : BitVec 64, a = (rotB p 31 + h) * 5#64 + 0x38495ab5#64 ∧ Turns 53 .u64 31 (p.toNat : Int) (z.toNat : Int) ∧ IntKind.u64.wrap ((z.toNat : Int) + (h.toNat : Int)) = (s1.toNat : Int) ∧
    IntKind.u64.wrap ((s1.toNat : Int) * 5) = (s2.toNat : Int) ∧ IntKind.u64.wrap ((s2.toNat : Int) + 944331445) = (a.toNat : Int) :=
  ⟨rotB p 31, _, _, _, rfl, rotl31_any _, u_add _ _, u_mulc _ 5 (by decide), u_addc _ 944331445 (by decide)⟩
theorem end_facts (a b : BitVec 64) (n : Nat) (hn : n < 18446744073709551616) : ∃ x y s t m1 m2 f1 f2 : BitVec 64, finishB (a, b) (BitVec.ofNat 64 n) = (f1, f2) ∧ bits BinOp.xor IntKind.u64 (a.toNat : Int) (n : Int) = (x.toNat : Int) ∧
    bits BinOp.xor IntKind.u64 (b.toNat : Int) (n : Int) = (y.toNat : Int) ∧ IntKind.u64.wrap ((x.toNat : Int) + (y.toNat : Int)) = (s.toNat : Int) ∧ IntKind.u64.wrap ((y.toNat : Int) + (s.toNat : Int)) = (t.toNat : Int) ∧
    Tells 54 (s.toNat : Int) (m1.toNat : Int) ∧ Tells 54 (t.toNat : Int) (m2.toNat : Int) ∧ IntKind.u64.wrap ((m1.toNat : Int) + (m2.toNat : Int)) = (f1.toNat : Int) ∧ IntKind.u64.wrap ((m2.toNat : Int) + (f1.toNat : Int)) = (f2.toNat : Int) := by
  rw [u_lit n hn]
  generalize BitVec.ofNat 64 n = c
  exact ⟨a ^^^ c, b ^^^ c, _, _, _, _, _, _, rfl, u_xor _ _, u_xor _ _, u_add _ _, u_add _ _, refMix_any _, refMix_any _, u_add _ _, u_add _ _⟩

set_option maxRecDepth 100000 in
set_option maxHeartbeats 1600000 in
theorem refSum_anyM (ao : Option Addr) (l : List UInt8) (cap : Nat) (seed : BitVec 64) (w : World) (hl : l.length ≤ 140737488354000) (hs : Sees w ao l) :
    Calls Tryd.prog 41 #[.slice ao l.length cap, .int .u64 (seed.toNat : Int)] w fun e w' => e = .returned (.tuple #[.int .u64 ((sumB l seed).1.toNat : Int), .int .u64 ((sumB l seed).2.toNat : Int)]) ∧ w' = w := by
  have HS : Hid (Sees w ao l) := hs
  clear hs
  go_enter Tryd.func41, Tryd.ntmps41
  go_wp2
  go_loop [6, 7, 8] (fun v1 v2 i => ∃ k : Nat, 16 * k ≤ l.length ∧ i = .int .i64 (16 * k : Nat) ∧ v1 = .int .u64 ((blocksB l seed k).1.toNat : Int) ∧ v2 = .int .u64 ((blocksB l seed k).2.toNat : Int)) (fun _ _ i => l.length - (intOf i).toNat)
  case atStart => exact ⟨0, by omega, rfl, rfl, rfl⟩
  case round =>
    obtain ⟨k, hk0, rfl, rfl, rfl⟩ := hrel
    have hend : l.length - 16 * k < 16 → sumB l seed = finishB (restB (l.drop (16 * k)) (blocksB l seed k)) (BitVec.ofNat 64 l.length) := fun h => sum_end l seed k hk0 h
    have hnext : blocksB l seed (k + 1) = blockB (blocksB l seed k) (wordB (l.drop (16 * k))) (wordB (l.drop (16 * k + 8))) := rfl
    have hd : (l.drop (16 * k)).length = l.length - 16 * k := List.length_drop
    have hdd : (l.drop (16 * k)).drop 8 = l.drop (16 * k + 8) := List.drop_drop
    obtain ⟨h1, h2, hh⟩ : ∃ h1 h2, blocksB l seed k = (h1, h2) := ⟨_, _, rfl⟩
    rw [hh] at hend hnext ⊢
    have He : Hid (∀ (at' : Nat), at' ≤ l.length → Calls Tryd.prog 52 #[.slice ao l.length cap, .int .i64 at'] w fun e w' => e = .returned (.int .u64 ((wordB (l.drop at')).toNat : Int)) ∧ w' = w) := fun at' h => eight_any ao l cap at' w hl h HS.out
    have hk : 16 * k ≤ l.length := hk0
    obtain ⟨m, hm⟩ : ∃ m, m = 16 * k := ⟨_, rfl⟩
    rw [← hm] at hend hnext hd hdd hk ⊢
    have Hm : Hid (m = 16 * k) := hm
    have He1 := fun h => He.out m h
    have He2 := fun h => He.out (m + 8) h
    rw [show ((m + 8 : Nat) : Int) = (m : Int) + 8 by omega] at He2
    obtain ⟨k1, hk1⟩ : ∃ k1, k1 = wordB (l.drop m) := ⟨_, rfl⟩
    obtain ⟨k2, hk2⟩ : ∃ k2, k2 = wordB (l.drop (m + 8)) := ⟨_, rfl⟩
    rw [← hk1] at He1
    rw [← hk2] at He2
    have HE1 : Hid (m ≤ l.length → Calls Tryd.prog 52 #[.slice ao l.length cap, .int .i64 m] w fun e w' => e = .returned (.int .u64 (k1.toNat : Int)) ∧ w' = w) := He1
    have HE2 : Hid (m + 8 ≤ l.length → Calls Tryd.prog 52 #[.slice ao l.length cap, .int .i64 ((m : Int) + 8)] w fun e w' => e = .returned (.int .u64 (k2.toNat : Int)) ∧ w' = w) := He2
    clear He He1 He2 hm hk0 hh HS
    rcases Nat.lt_or_ge (l.length - m) 16 with hn | hn
    · have hl64 : l.length < 18446744073709551616 := by omega
      have hs0 := hend hn
      unfold restB at hs0
      rw [hd, hdd] at hs0
      rcases Nat.lt_or_ge 0 (l.length - m) with hn0 | hn0
      · obtain ⟨u, x, f, p, hp, a1, R1, a2, a3⟩ := first_facts k1 h1
        rw [if_pos hn0] at hs0
        have HR1 : Hid (Turns 53 .u64 31 (u.toNat : Int) (x.toNat : Int)) := R1
        clear R1
        rcases Nat.lt_or_ge 8 (l.length - m) with hn8 | hn8
        · obtain ⟨u', x', f', q, hq, d1, R3, d2, d3⟩ := second_facts k2 h2
          obtain ⟨xx, yy, s, t, m1, m2, f1, f2, hf, g1, g2, g3, g4, M1, M2, g5, g6⟩ := end_facts p q l.length hl64
          rw [if_pos hn8] at hs0
          have Hsum : Hid (sumB l seed = (f1, f2)) := by
            show _ = _
            rw [hs0, ← hf, hp, hq, hk1, hk2]
          have HR3 : Hid (Turns 53 .u64 33 (u'.toNat : Int) (x'.toNat : Int)) := R3
          have HM1 : Hid (Tells 54 (s.toNat : Int) (m1.toNat : Int)) := M1
          have HM2 : Hid (Tells 54 (t.toNat : Int) (m2.toNat : Int)) := M2
          clear M1 M2 hend hnext hd hdd hk1 hk2 hs0 hp hq hf R3
          go_wp2_with fail
          refine (HE2.out (by omega)).mono ?_
          rintro e w2 ⟨rfl, rfl⟩
          go_wp2_with fail
          refine (HR3.out _).mono ?_
          rintro e w5 ⟨rfl, rfl⟩
          go_wp2_with fail
          refine (HE1.out hk).mono ?_
          rintro e w1 ⟨rfl, rfl⟩
          go_wp2_with fail
          refine (HR1.out _).mono ?_
          rintro e w3 ⟨rfl, rfl⟩
          go_wp2_with fail
          refine (HM1.out _).mono ?_
          rintro e w8 ⟨rfl, rfl⟩
          go_wp2_with fail
          refine (HM2.out _).mono ?_
          rintro e w9 ⟨rfl, rfl⟩
          go_wp2_with fail
          go_ret2
          rw [Hsum.out]
          exact ⟨rfl, rfl⟩
        · obtain ⟨xx, yy, s, t, m1, m2, f1, f2, hf, g1, g2, g3, g4, M1, M2, g5, g6⟩ := end_facts p h2 l.length hl64
          rw [if_neg (by omega)] at hs0
          have Hsum : Hid (sumB l seed = (f1, f2)) := by
            show _ = _
            rw [hs0, ← hf, hp, hk1]
          have HM1 : Hid (Tells 54 (s.toNat : Int) (m1.toNat : Int)) := M1
          have HM2 : Hid (Tells 54 (t.toNat : Int) (m2.toNat : Int)) := M2
          clear M1 M2 hend hnext hd hdd hk1 hk2 hs0 hp hf
          go_wp2_with fail
          refine (HE1.out hk).mono ?_
          rintro e w1 ⟨rfl, rfl⟩
          go_wp2_with fail
          refine (HR1.out _).mono ?_
          rintro e w3 ⟨rfl, rfl⟩
          go_wp2_with fail
          refine (HM1.out _).mono ?_
          rintro e w8 ⟨rfl, rfl⟩
          go_wp2_with fail
          refine (HM2.out _).mono ?_
          rintro e w9 ⟨rfl, rfl⟩
          go_wp2_with fail
          go_ret2
          rw [Hsum.out]
          exact ⟨rfl, rfl⟩
      · obtain ⟨xx, yy, s, t, m1, m2, f1, f2, hf, g1, g2, g3, g4, M1, M2, g5, g6⟩ := end_facts h1 h2 l.length hl64
        rw [if_neg (by omega), if_neg (by omega)] at hs0
        have Hsum : Hid (sumB l seed = (f1, f2)) := by
          show _ = _
          rw [hs0, ← hf]
        have HM1 : Hid (Tells 54 (s.toNat : Int) (m1.toNat : Int)) := M1
        have HM2 : Hid (Tells 54 (t.toNat : Int) (m2.toNat : Int)) := M2
        clear M1 M2 hend hnext hd hdd hk1 hk2 hs0 hf
        go_wp2_with fail
        refine (HM1.out _).mono ?_
        rintro e w8 ⟨rfl, rfl⟩
        go_wp2_with fail
        refine (HM2.out _).mono ?_
        rintro e w9 ⟨rfl, rfl⟩
        go_wp2_with fail
        go_ret2
        rw [Hsum.out]
        exact ⟨rfl, rfl⟩
    · have hn1 : m + 16 ≤ l.length := by omega
      obtain ⟨u, x, f, p, hp, a1, R1, a2, a3⟩ := first_facts k1 h1
      obtain ⟨z, s1, s2, a, ha, R2, b1, b2, b3⟩ := step1_facts p h2
      obtain ⟨u', x', f', q, hq, d1, R3, d2, d3⟩ := second_facts k2 h2
      obtain ⟨y, t1, t2, b, hb, R4, e1, e2, e3⟩ := step2_facts q a
      have Hstep : Hid (blocksB l seed (k + 1) = (a, b)) := by
        show _ = _
        rw [hnext, hb, hq, ha, hp, hk1, hk2]
        rfl
      have HR1 : Hid (Turns 53 .u64 31 (u.toNat : Int) (x.toNat : Int)) := R1
      have HR2 : Hid (Turns 53 .u64 27 (p.toNat : Int) (z.toNat : Int)) := R2
      have HR3 : Hid (Turns 53 .u64 33 (u'.toNat : Int) (x'.toNat : Int)) := R3
      have HR4 : Hid (Turns 53 .u64 31 (q.toNat : Int) (y.toNat : Int)) := R4
      clear hp ha hq hb hend hnext hd hdd R1 R2 R3 R4 hk1 hk2
      go_wp2_with fail
      refine (HE1.out hk).mono ?_
      rintro e w1 ⟨rfl, rfl⟩
      go_wp2_with fail
      refine (HE2.out (by omega)).mono ?_
      rintro e w2 ⟨rfl, rfl⟩
      go_wp2_with fail
      refine (HR1.out _).mono ?_
      rintro e w3 ⟨rfl, rfl⟩
      go_wp2_with fail
      refine (HR2.out _).mono ?_
      rintro e w4 ⟨rfl, rfl⟩
      go_wp2_with fail
      refine (HR3.out _).mono ?_
      rintro e w5 ⟨rfl, rfl⟩
      go_wp2_with fail
      refine (HR4.out _).mono ?_
      rintro e w6 ⟨rfl, rfl⟩
      go_wp2_with fail
      go_round
      case rel => exact ⟨k + 1, by have := Hm.out; omega, by have := Hm.out; subst this; go_num, by rw [Hstep.out], by rw [Hstep.out]⟩
      case measure => simp [intOf]; omega
end Go.Proofs.YtcnceipkoapcpaaDoor

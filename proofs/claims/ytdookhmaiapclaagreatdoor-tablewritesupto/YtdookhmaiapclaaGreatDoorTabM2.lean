/-
  SEVERAL TEXTS IN ONE: MurRef, BlmRef, BlmReadNo, BlmReadE, TabFil, TabGood, TabCells, TabBlks, TellsPlain, TabOpenP, TabFilter, TabBlocks, TabWrite, TabOpen, TabLives, SrtSwap, SrtPlain, CxPlain, CxJoin, SrtRange, SrtRot, SrtIns, CxRuns, SrtSymA, SrtSymB, SrtSplit, SrtSym, SrtStable, SrtClone, CxNorm, CxFind, NormGood.
-/
import Derived.Test.YtdookhmaiapclaaGreatDoorMurSum
import Derived.Test.YtdookhmaiapclaaGreatDoorTabM1
import Derived.Test.YtdookhmaiapclaaGreatDoorBlmMay
import Derived.Deep.CutRange
import Derived.Test.YtdookhmaiapclaaGreatDoorRefLend
import Derived.Test.YtdookhmaiapclaaGreatDoorCellGet
import Derived.Test.YtdookhmaiapclaaGreatDoorCodUnframe
import Derived.Test.YtdookhmaiapclaaGreatDoorBlmAdd
import Derived.ScopeJumps
import Derived.WalkMore
import Derived.Deep.RegionLaw
namespace Go.Proofs.YtdookhmaiapclaaGreatDoor
open Go.RowKit

/-- A call of a Go function of one word that answers a word, over plain numbers. -/
def Tells (f : FuncId) (y z : Int) : Prop := ∀ w, Calls Tryz.prog f #[.int .u64 y] w fun e w' => e = .returned (.int .u64 z) ∧ w' = w
theorem first_facts (k h : BitVec 64) : ∃ u x f p : BitVec 64, p = h ^^^ firstB k ∧ IntKind.u64.wrap ((k.toNat : Int) * 9782798678568883157) = (u.toNat : Int) ∧ Turns 144 .u64 31 (u.toNat : Int) (x.toNat : Int) ∧
    IntKind.u64.wrap ((x.toNat : Int) * 5545529020109919103) = (f.toNat : Int) ∧ bits BinOp.xor IntKind.u64 (h.toNat : Int) (f.toNat : Int) = (p.toNat : Int) :=
  ⟨k * C1, rotB (k * C1) 31, firstB k, _, rfl, u_mulc k 9782798678568883157 (by decide), rotl31_any _, u_mulc _ 5545529020109919103 (by decide), u_xor _ _⟩
theorem second_facts (k h : BitVec 64) : ∃ u x f p : BitVec 64, p = h ^^^ secondB k ∧ IntKind.u64.wrap ((k.toNat : Int) * 5545529020109919103) = (u.toNat : Int) ∧ Turns 144 .u64 33 (u.toNat : Int) (x.toNat : Int) ∧
    IntKind.u64.wrap ((x.toNat : Int) * 9782798678568883157) = (f.toNat : Int) ∧ bits BinOp.xor IntKind.u64 (h.toNat : Int) (f.toNat : Int) = (p.toNat : Int) :=
  ⟨k * C2, rotB (k * C2) 33, secondB k, _, rfl, u_mulc k 5545529020109919103 (by decide), rotl33_any _, u_mulc _ 9782798678568883157 (by decide), u_xor _ _⟩
theorem step1_facts (p h : BitVec 64) : ∃ z s1 s2 a : BitVec 64, a = (rotB p 27 + h) * 5#64 + 0x52dce729#64 ∧ Turns 144 .u64 27 (p.toNat : Int) (z.toNat : Int) ∧ IntKind.u64.wrap ((z.toNat : Int) + (h.toNat : Int)) = (s1.toNat : Int) ∧
    IntKind.u64.wrap ((s1.toNat : Int) * 5) = (s2.toNat : Int) ∧ IntKind.u64.wrap ((s2.toNat : Int) + 1390208809) = (a.toNat : Int) :=
  ⟨rotB p 27, _, _, _, rfl, rotl27_any _, u_add _ _, u_mulc _ 5 (by decide), u_addc _ 1390208809 (by decide)⟩
theorem step2_facts (p h : BitVec 64) : ∃ z s1 s2 a : BitVec 64, a = (rotB p 31 + h) * 5#64 + 0x38495ab5#64 ∧ Turns 144 .u64 31 (p.toNat : Int) (z.toNat : Int) ∧ IntKind.u64.wrap ((z.toNat : Int) + (h.toNat : Int)) = (s1.toNat : Int) ∧
    IntKind.u64.wrap ((s1.toNat : Int) * 5) = (s2.toNat : Int) ∧ IntKind.u64.wrap ((s2.toNat : Int) + 944331445) = (a.toNat : Int) :=
  ⟨rotB p 31, _, _, _, rfl, rotl31_any _, u_add _ _, u_mulc _ 5 (by decide), u_addc _ 944331445 (by decide)⟩
theorem end_facts (a b : BitVec 64) (n : Nat) (hn : n < 18446744073709551616) : ∃ x y s t m1 m2 f1 f2 : BitVec 64, finishB (a, b) (BitVec.ofNat 64 n) = (f1, f2) ∧ bits BinOp.xor IntKind.u64 (a.toNat : Int) (n : Int) = (x.toNat : Int) ∧
    bits BinOp.xor IntKind.u64 (b.toNat : Int) (n : Int) = (y.toNat : Int) ∧ IntKind.u64.wrap ((x.toNat : Int) + (y.toNat : Int)) = (s.toNat : Int) ∧ IntKind.u64.wrap ((y.toNat : Int) + (s.toNat : Int)) = (t.toNat : Int) ∧
    Tells 145 (s.toNat : Int) (m1.toNat : Int) ∧ Tells 145 (t.toNat : Int) (m2.toNat : Int) ∧ IntKind.u64.wrap ((m1.toNat : Int) + (m2.toNat : Int)) = (f1.toNat : Int) ∧ IntKind.u64.wrap ((m2.toNat : Int) + (f1.toNat : Int)) = (f2.toNat : Int) := by
  rw [u_lit n hn]
  generalize BitVec.ofNat 64 n = c
  exact ⟨a ^^^ c, b ^^^ c, _, _, _, _, _, _, rfl, u_xor _ _, u_xor _ _, u_add _ _, u_add _ _, refMix_any _, refMix_any _, u_add _ _, u_add _ _⟩

set_option maxRecDepth 100000 in
set_option maxHeartbeats 1600000 in
theorem refSum_anyM (ao : Option Addr) (l : List UInt8) (cap : Nat) (seed : BitVec 64) (w : World) (hl : l.length ≤ 140737488354000) (hs : Sees w ao l) :
    Calls Tryz.prog 123 #[.slice ao l.length cap, .int .u64 (seed.toNat : Int)] w fun e w' => e = .returned (.tuple #[.int .u64 ((sumB l seed).1.toNat : Int), .int .u64 ((sumB l seed).2.toNat : Int)]) ∧ w' = w := by
  have HS : Hid (Sees w ao l) := hs
  clear hs
  go_enter Tryz.func123, Tryz.ntmps123
  go_wp2
  go_loop [6, 7, 8] (fun v1 v2 i => ∃ k : Nat, 16 * k ≤ l.length ∧ i = .int .i64 (16 * k : Nat) ∧ v1 = .int .u64 ((blocksB l seed k).1.toNat : Int) ∧ v2 = .int .u64 ((blocksB l seed k).2.toNat : Int)) (fun _ _ i => l.length - (intOf i).toNat)
  case atStart => exact ⟨0, by omega, rfl, rfl, rfl⟩
  case round =>
    obtain ⟨k, hk0, rfl, rfl, rfl⟩ := hrel
    have hend : l.length - 16 * k < 16 → sumB l seed = finishB (restB (l.drop (16 * k)) (blocksB l seed k)) (BitVec.ofNat 64 l.length) := fun h => sum_end l seed k hk0 h
    have hnext : blocksB l seed (k + 1) = blockB (blocksB l seed k) (wordB (l.drop (16 * k))) (wordB (l.drop (16 * k + 8))) := rfl
    have hd : (l.drop (16 * k)).length = l.length - 16 * k := List.length_drop
    have hdd : (l.drop (16 * k)).drop 8 = l.drop (16 * k + 8) := List.drop_drop
    obtain ⟨h1, h2, hh⟩ : ∃ h1 h2, blocksB l seed k = (h1, h2) := ⟨_, _, rfl⟩
    rw [hh] at hend hnext ⊢
    have He : Hid (∀ (at' : Nat), at' ≤ l.length → Calls Tryz.prog 143 #[.slice ao l.length cap, .int .i64 at'] w fun e w' => e = .returned (.int .u64 ((wordB (l.drop at')).toNat : Int)) ∧ w' = w) := fun at' h => eight_any ao l cap at' w hl h HS.out
    have hk : 16 * k ≤ l.length := hk0
    obtain ⟨m, hm⟩ : ∃ m, m = 16 * k := ⟨_, rfl⟩
    rw [← hm] at hend hnext hd hdd hk ⊢
    have Hm : Hid (m = 16 * k) := hm
    have He1 := fun h => He.out m h
    have He2 := fun h => He.out (m + 8) h
    rw [show ((m + 8 : Nat) : Int) = (m : Int) + 8 by omega] at He2
    obtain ⟨k1, hk1⟩ : ∃ k1, k1 = wordB (l.drop m) := ⟨_, rfl⟩
    obtain ⟨k2, hk2⟩ : ∃ k2, k2 = wordB (l.drop (m + 8)) := ⟨_, rfl⟩
    rw [← hk1] at He1
    rw [← hk2] at He2
    have HE1 : Hid (m ≤ l.length → Calls Tryz.prog 143 #[.slice ao l.length cap, .int .i64 m] w fun e w' => e = .returned (.int .u64 (k1.toNat : Int)) ∧ w' = w) := He1
    have HE2 : Hid (m + 8 ≤ l.length → Calls Tryz.prog 143 #[.slice ao l.length cap, .int .i64 ((m : Int) + 8)] w fun e w' => e = .returned (.int .u64 (k2.toNat : Int)) ∧ w' = w) := He2
    clear He He1 He2 hm hk0 hh HS
    rcases Nat.lt_or_ge (l.length - m) 16 with hn | hn
    · have hl64 : l.length < 18446744073709551616 := by omega
      have hs0 := hend hn
      unfold restB at hs0
      rw [hd, hdd] at hs0
      rcases Nat.lt_or_ge 0 (l.length - m) with hn0 | hn0
      · obtain ⟨u, x, f, p, hp, a1, R1, a2, a3⟩ := first_facts k1 h1
        rw [if_pos hn0] at hs0
        have HR1 : Hid (Turns 144 .u64 31 (u.toNat : Int) (x.toNat : Int)) := R1
        clear R1
        rcases Nat.lt_or_ge 8 (l.length - m) with hn8 | hn8
        · obtain ⟨u', x', f', q, hq, d1, R3, d2, d3⟩ := second_facts k2 h2
          obtain ⟨xx, yy, s, t, m1, m2, f1, f2, hf, g1, g2, g3, g4, M1, M2, g5, g6⟩ := end_facts p q l.length hl64
          rw [if_pos hn8] at hs0
          have Hsum : Hid (sumB l seed = (f1, f2)) := by
            show _ = _
            rw [hs0, ← hf, hp, hq, hk1, hk2]
          have HR3 : Hid (Turns 144 .u64 33 (u'.toNat : Int) (x'.toNat : Int)) := R3
          have HM1 : Hid (Tells 145 (s.toNat : Int) (m1.toNat : Int)) := M1
          have HM2 : Hid (Tells 145 (t.toNat : Int) (m2.toNat : Int)) := M2
          clear M1 M2 hend hnext hd hdd hk1 hk2 hs0 hp hq hf R3
          go_wp2_with fail
          refine (HE2.out (by omega)).mono ?_
          rintro e w2 ⟨rfl, rfl⟩
          go_wp2_with fail
          refine (HR3.out _).mono ?_
          rintro e w5 ⟨rfl, rfl⟩
          go_wp2_with fail
          refine (HE1.out hk).mono ?_
          rintro e w1 ⟨rfl, rfl⟩
          go_wp2_with fail
          refine (HR1.out _).mono ?_
          rintro e w3 ⟨rfl, rfl⟩
          go_wp2_with fail
          refine (HM1.out _).mono ?_
          rintro e w8 ⟨rfl, rfl⟩
          go_wp2_with fail
          refine (HM2.out _).mono ?_
          rintro e w9 ⟨rfl, rfl⟩
          go_wp2_with fail
          go_ret2
          rw [Hsum.out]
          exact ⟨rfl, rfl⟩
        · obtain ⟨xx, yy, s, t, m1, m2, f1, f2, hf, g1, g2, g3, g4, M1, M2, g5, g6⟩ := end_facts p h2 l.length hl64
          rw [if_neg (by omega)] at hs0
          have Hsum : Hid (sumB l seed = (f1, f2)) := by
            show _ = _
            rw [hs0, ← hf, hp, hk1]
          have HM1 : Hid (Tells 145 (s.toNat : Int) (m1.toNat : Int)) := M1
          have HM2 : Hid (Tells 145 (t.toNat : Int) (m2.toNat : Int)) := M2
          clear M1 M2 hend hnext hd hdd hk1 hk2 hs0 hp hf
          go_wp2_with fail
          refine (HE1.out hk).mono ?_
          rintro e w1 ⟨rfl, rfl⟩
          go_wp2_with fail
          refine (HR1.out _).mono ?_
          rintro e w3 ⟨rfl, rfl⟩
          go_wp2_with fail
          refine (HM1.out _).mono ?_
          rintro e w8 ⟨rfl, rfl⟩
          go_wp2_with fail
          refine (HM2.out _).mono ?_
          rintro e w9 ⟨rfl, rfl⟩
          go_wp2_with fail
          go_ret2
          rw [Hsum.out]
          exact ⟨rfl, rfl⟩
      · obtain ⟨xx, yy, s, t, m1, m2, f1, f2, hf, g1, g2, g3, g4, M1, M2, g5, g6⟩ := end_facts h1 h2 l.length hl64
        rw [if_neg (by omega), if_neg (by omega)] at hs0
        have Hsum : Hid (sumB l seed = (f1, f2)) := by
          show _ = _
          rw [hs0, ← hf]
        have HM1 : Hid (Tells 145 (s.toNat : Int) (m1.toNat : Int)) := M1
        have HM2 : Hid (Tells 145 (t.toNat : Int) (m2.toNat : Int)) := M2
        clear M1 M2 hend hnext hd hdd hk1 hk2 hs0 hf
        go_wp2_with fail
        refine (HM1.out _).mono ?_
        rintro e w8 ⟨rfl, rfl⟩
        go_wp2_with fail
        refine (HM2.out _).mono ?_
        rintro e w9 ⟨rfl, rfl⟩
        go_wp2_with fail
        go_ret2
        rw [Hsum.out]
        exact ⟨rfl, rfl⟩
    · have hn1 : m + 16 ≤ l.length := by omega
      obtain ⟨u, x, f, p, hp, a1, R1, a2, a3⟩ := first_facts k1 h1
      obtain ⟨z, s1, s2, a, ha, R2, b1, b2, b3⟩ := step1_facts p h2
      obtain ⟨u', x', f', q, hq, d1, R3, d2, d3⟩ := second_facts k2 h2
      obtain ⟨y, t1, t2, b, hb, R4, e1, e2, e3⟩ := step2_facts q a
      have Hstep : Hid (blocksB l seed (k + 1) = (a, b)) := by
        show _ = _
        rw [hnext, hb, hq, ha, hp, hk1, hk2]
        rfl
      have HR1 : Hid (Turns 144 .u64 31 (u.toNat : Int) (x.toNat : Int)) := R1
      have HR2 : Hid (Turns 144 .u64 27 (p.toNat : Int) (z.toNat : Int)) := R2
      have HR3 : Hid (Turns 144 .u64 33 (u'.toNat : Int) (x'.toNat : Int)) := R3
      have HR4 : Hid (Turns 144 .u64 31 (q.toNat : Int) (y.toNat : Int)) := R4
      clear hp ha hq hb hend hnext hd hdd R1 R2 R3 R4 hk1 hk2
      go_wp2_with fail
      refine (HE1.out hk).mono ?_
      rintro e w1 ⟨rfl, rfl⟩
      go_wp2_with fail
      refine (HE2.out (by omega)).mono ?_
      rintro e w2 ⟨rfl, rfl⟩
      go_wp2_with fail
      refine (HR1.out _).mono ?_
      rintro e w3 ⟨rfl, rfl⟩
      go_wp2_with fail
      refine (HR2.out _).mono ?_
      rintro e w4 ⟨rfl, rfl⟩
      go_wp2_with fail
      refine (HR3.out _).mono ?_
      rintro e w5 ⟨rfl, rfl⟩
      go_wp2_with fail
      refine (HR4.out _).mono ?_
      rintro e w6 ⟨rfl, rfl⟩
      go_wp2_with fail
      go_round
      case rel => exact ⟨k + 1, by have := Hm.out; omega, by have := Hm.out; subst this; go_num, by rw [Hstep.out], by rw [Hstep.out]⟩
      case measure => simp [intOf]; omega
end Go.Proofs.YtdookhmaiapclaaGreatDoor
namespace Go.Proofs.YtdookhmaiapclaaGreatDoor
open Go.RowKit

/-- The document's filter in memory. -/
structure RAt (w : World) (m : FM) (k : Nat) (l : List UInt8) : Prop where
  head : Blk w m.d [.int .i64 (k : Int), .slice (some ⟨m.g, 0, none⟩) l.length m.cap] 113
  bits : Blk w m.g (B8 l ++ m.rest) 5
  ne : m.d ≠ m.g
  pos : 0 < l.length
  len : l.length ≤ 400000
  k1 : 1 ≤ k
  k2 : k ≤ 16
set_option maxRecDepth 100000 in
theorem RAt.carry {w w' : World} {m : FM} {k : Nat} {l : List UInt8} (h : RAt w m k l) (hd : w'.heap[m.d]? = w.heap[m.d]?) (hg : w'.heap[m.g]? = w.heap[m.g]?) : RAt w' m k l :=
  ⟨h.head.carry hd, h.bits.carry hg, h.ne, h.pos, h.len, h.k1, h.k2⟩
set_option maxRecDepth 100000 in
theorem RAt.below {w w' : World} {m : FM} {k : Nat} {l : List UInt8} (h : RAt w m k l) {B : Nat} (hB : Below B w w') (hs : w.heap.size ≤ B) : RAt w' m k l := by
  have h1 := h.head.lt
  have h2 := h.bits.lt
  exact h.carry (hB.block _ (by omega)) (hB.block _ (by omega))
set_option maxRecDepth 100000 in
theorem RAt.c0 {w : World} {m : FM} {k : Nat} {l : List UInt8} (h : RAt w m k l) : w.cell? ⟨m.d, 0, none⟩ = some (.int .i64 (k : Int)) := h.head.cell 0 rfl
set_option maxRecDepth 100000 in
theorem RAt.c1 {w : World} {m : FM} {k : Nat} {l : List UInt8} (h : RAt w m k l) : w.cell? ⟨m.d, 1, none⟩ = some (.slice (some ⟨m.g, 0, none⟩) l.length m.cap) := h.head.cell 1 rfl
set_option maxRecDepth 100000 in
theorem RAt.byte {w : World} {m : FM} {k : Nat} {l : List UInt8} (h : RAt w m k l) {i : Nat} (hi : i < l.length) : w.cell? ⟨m.g, i, none⟩ = some (.int .u8 ((l.getD i 0).toNat : Int)) :=
  h.bits.cell i (by rw [List.getElem?_append_left (by rw [B8_length]; exact hi)]; exact B8_at l i hi)
set_option maxRecDepth 100000 in
theorem RAt.set {w : World} {m : FM} {k : Nat} {l : List UInt8} (h : RAt w m k l) {i : Nat} (hi : i < l.length) (b : UInt8) : RAt (w.setCell ⟨m.g, i, none⟩ (.int .u8 (b.toNat : Int))) m k (l.set i b) := by
  have e : (B8 l ++ m.rest).set i (.int .u8 (b.toNat : Int)) = B8 (l.set i b) ++ m.rest := by
    rw [List.set_append_left _ _ (by rw [B8_length]; exact hi)]
    simp [B8, List.map_set]
  refine ⟨?_, h.bits.setTo i _ _ e, h.ne, by rw [List.length_set]; exact h.pos, by rw [List.length_set]; exact h.len, h.k1, h.k2⟩
  rw [List.length_set]
  exact h.head.carry (Below.heap_setCell _ _ _ _ (fun e => h.ne e))
set_option maxRecDepth 100000 in
theorem src_int (w : World) (p : Nat) : Src Tryz.prog 1 146 (.slice (some ⟨w.heap.size, 0, none⟩) 1 1) 1 (P64 [p]) (w.alloc (.cells #[.int .i64 (p : Int)] 3)) := by
  refine Src.ofSlice _ Tryz.underlying146 _ 1 1 _ (by simp [P64]) ?_ (fun u hu => ?_)
  · intro j u hu
    match j, hu with
    | 0, hu => simp [P64] at hu; subst hu; simp [Addr.add]
    | j + 1, hu => simp [P64] at hu
  · simp [P64] at hu
    subst hu
    rfl
set_option maxRecDepth 100000 in
theorem owns_belowR {w w' : World} {base : Nat} {e : TypeId} {size : Nat} {v : Value} {n : Nat} {xs : List Value} (h : w.ownsRow base e size v n xs) (hB : Below w.heap.size w w') : w'.ownsRow base e size v n xs :=
  h.kept (row := none) ⟨hB.os, hB.tape, hB.output, hB.size, fun i hi _ => hB.block i hi⟩ (by cases v.ownBlock <;> simp)
set_option maxRecDepth 100000 in
set_option maxHeartbeats 1000000 in
theorem refPlaces_any {w : World} {m : FM} {k : Nat} {l : List UInt8} (h : RAt w m k l) (ao : Option Addr) (b : List UInt8) (cap : Nat) (hb : b.length ≤ 140737488354000) (hs : Sees w ao b) :
    Calls Tryz.prog 98 #[m.v, .slice ao b.length cap] w fun e w' => ∃ v, e = .returned v ∧ w'.ownsRow w.heap.size 3 1 v k (P64 (plcs (sumB b 0#64) l.length k)) ∧ Below w.heap.size w w' := by
  obtain ⟨i1, hi1, hy0, hy1, hy2⟩ := info_parts info64
  have hSum := refSum_anyM ao b cap 0#64 w hb hs
  have HS := show Hid (Calls Tryz.prog 123 #[.slice ao b.length cap, .int .u64 0] w _) from hSum
  clear hSum
  have hlen := h.len
  have hpos := h.pos
  have hk2 := h.k2
  generalize sumB b 0#64 = hh at *
  go_enter Tryz.func98, Tryz.ntmps98
  go_wp2_with fail
  refine HS.out.mono ?_
  rintro e w1 ⟨rfl, rfl⟩
  clear HS
  obtain ⟨h1, h2⟩ := hh
  go_wp2_with fail
  go_loopw [7, 8] (fun s7 s8 wr => ∃ (i : Nat) (v : Value), i ≤ k ∧ v = s7 ∧ s8 = .int .i64 (i : Int) ∧ wr.ownsRow w1.heap.size 3 1 v i (P64 (plcs (h1, h2) l.length i)) ∧ Below w1.heap.size w1 wr) (fun _ s8 _ => k - (intOf s8).toNat)
  case atStart => exact ⟨0, _, Nat.zero_le _, rfl, rfl, World.ownsRow_nil _ _ _ _, Below.refl _ _⟩
  case round =>
    obtain ⟨i, v, hi, rfl, rfl, ho, hB⟩ := hrel
    have hr := h.below hB (Nat.le_refl _)
    have c0 := hr.c0
    have c1 := hr.c1
    have hsz := hB.size
    have HO : Hid (wr.ownsRow w1.heap.size 3 1 v i (P64 (plcs (h1, h2) l.length i))) := ho
    clear ho
    rcases Nat.lt_or_ge i k with hlt | hge
    · have hpl := plc_lt (h1, h2) l.length i hpos
      have Hst : Hid (plcs (h1, h2) l.length (i + 1) = plcs (h1, h2) l.length i ++ [plc (h1, h2) l.length i]) := plcs_step _ _ _
      have m2 : IntKind.u64.wrap ((i : Int) * (h2.toNat : Int)) = ((BitVec.ofNat 64 i * h2).toNat : Int) := by rw [u_lit i (by omega)]; exact u_mul _ _
      have m3 : IntKind.u64.wrap ((h1.toNat : Int) + ((BitVec.ofNat 64 i * h2).toNat : Int)) = ((h1 + BitVec.ofNat 64 i * h2).toNat : Int) := u_add _ _
      have m4 : ((h1 + BitVec.ofNat 64 i * h2).toNat : Int).tmod (8 * (l.length : Int)) = (plc (h1, h2) l.length i : Int) := by
        rw [show (8 * (l.length : Int)) = ((8 * l.length : Nat) : Int) by omega, tmod_nat]; rfl
      have m5 : ((h1 + BitVec.ofNat 64 i * h2).toNat : Int) % (8 * (l.length : Int)) = (plc (h1, h2) l.length i : Int) := by
        rw [show (8 * (l.length : Int)) = ((8 * l.length : Nat) : Int) by omega]; rfl
      generalize plc (h1, h2) l.length i = p at *
      generalize h1 + BitVec.ofNat 64 i * h2 = s at *
      generalize BitVec.ofNat 64 i * h2 = y at *
      go_wp2_with (at_builtin; go_must (refine wpList_append_grew _ rfl _ _ 146 146 rfl w1.heap.size 3 i1 (.int .i64 0) 1 8 Tryz.underlying146 hi1 hy0 hy1 hy2 rfl _ i _ rfl (HO.out.alloc _) _ 1 (P64 [p]) rfl (src_int _ _) (by unfold maxLen; omega) (by omega) (by rw [World.size_alloc]; omega) ?_; intro v2 wz hO3 hG3))
      have hG : Grew (wr.alloc (.cells #[.int .i64 (p : Int)] 3)) wz v v2 := hG3
      refine ⟨⟨i + 1, v2, by omega, rfl, by simp, ?_, ?_⟩, by simp only [intOf]; omega⟩
      · rw [Hst.out]
        unfold P64
        rw [List.map_append]
        exact hO3
      · exact (hB.alloc hsz _).trans (hG.below (by rw [World.size_alloc]; omega) (fun g hg => ((HO.out.alloc (.cells #[.int .i64 (p : Int)] 3)).lt g hg).1))
    · obtain rfl : i = k := by omega
      go_wp2_with fail
      go_ret
      exact ⟨_, rfl, HO.out, hB⟩
set_option maxRecDepth 100000 in
/-- A row of ints that a call made, as it is read. -/
theorem owns_ints {w : World} {base : Nat} {v : Value} {ps : List Nat} {n : Nat} (h : w.ownsRow base 3 1 v n (P64 ps)) (hl : 0 < n) : ∃ g cap, v = .slice (some ⟨g, 0, none⟩) n cap ∧ base ≤ g ∧ g < w.heap.size ∧ ∀ (i z : Nat), ps[i]? = some z → w.cell? ⟨g, i, none⟩ = some (.int .i64 (z : Int)) := by
  have hlt := h.lt
  rcases h.2 with ⟨_, h2⟩ | ⟨g, cap, cur, rfl, hb, hg, hn, hm, hs, ht⟩
  · omega
  · refine ⟨g, cap, rfl, hb, (hlt g rfl).2, fun i z hz => ?_⟩
    have := h.cells (g := g) rfl i (.int .i64 (z : Int)) (by unfold P64; rw [List.getElem?_map, hz]; rfl)
    rwa [Addr.add_lit, Nat.zero_add] at this
set_option maxRecDepth 100000 in
theorem shr_word (x : UInt8) (p : Nat) : ∃ z : Int, bits BinOp.and IntKind.u8 (((x.toNat / 2 ^ (p % 8) : Nat)) : Int) 1 = z ∧ (x.toNat.testBit (p % 8) = true → z ≠ 0) ∧ (x.toNat.testBit (p % 8) = false → z = 0) := by
  have hlt : x.toNat / 2 ^ (p % 8) < 256 := Nat.lt_of_le_of_lt (Nat.div_le_self _ _) x.toNat_lt
  have e := u8_and_nat (x.toNat / 2 ^ (p % 8)) 1 hlt (by decide)
  refine ⟨_, e, fun h => ?_, fun h => ?_⟩
  · rw [Nat.testBit_eq_decide_div_mod_eq, decide_eq_true_eq] at h
    rw [Nat.and_one_is_mod, h]
    decide
  · rw [Nat.testBit_eq_decide_div_mod_eq, decide_eq_false_iff_not] at h
    rw [Nat.and_one_is_mod]
    omega
set_option maxRecDepth 100000 in
set_option maxHeartbeats 1000000 in
theorem refMay_any {w : World} {m : FM} {k : Nat} {l : List UInt8} (h : RAt w m k l) (ao : Option Addr) (b : List UInt8) (cap : Nat) (hb : b.length ≤ 140737488354000) (hs : Sees w ao b) :
    Calls Tryz.prog 70 #[m.v, .slice ao b.length cap] w fun e w' => e = .returned (.bool (mayK l (sumB b 0#64) k)) ∧ Below w.heap.size w w' := by
  obtain ⟨md, mg, mc, mrest⟩ := m
  show Calls Tryz.prog 70 #[.pointer (some ⟨md, 0, none⟩), .slice ao b.length cap] w _
  have P : Calls Tryz.prog 98 #[.pointer (some ⟨md, 0, none⟩), .slice ao b.length cap] w _ := refPlaces_any h ao b cap hb hs
  have hlen := h.len
  have hk1 := h.k1
  have hk2 := h.k2
  generalize sumB b 0#64 = hh at *
  go_enter Tryz.func70, Tryz.ntmps70
  go_wp2_with fail
  refine P.mono ?_
  rintro e w1 ⟨v, rfl, ho, hB⟩
  obtain ⟨g, cp, rfl, hg, hgl, hcells⟩ := owns_ints ho (by omega)
  have h1 := h.below hB (Nat.le_refl _)
  have c1 : w1.cell? ⟨md, 1, none⟩ = some (.slice (some ⟨mg, 0, none⟩) l.length mc) := h1.c1
  have HC := show Hid (∀ (i z : Nat), (plcs hh l.length k)[i]? = some z → w1.cell? ⟨g, i, none⟩ = some (.int .i64 (z : Int))) from hcells
  clear P ho hcells
  go_wp2_with fail
  go_loopw [11] (fun s11 wr => ∃ i : Nat, i ≤ k ∧ s11 = .int .i64 (i : Int) ∧ mayK l hh i = true ∧ wr = w1) (fun s11 _ => k - (intOf s11).toNat)
  case atStart => exact ⟨0, Nat.zero_le _, rfl, rfl, rfl⟩
  case round =>
    obtain ⟨i, hi, rfl, hm, rfl⟩ := hrel
    rcases Nat.lt_or_ge i k with hlt | hge
    · have hci := HC.out i _ (plcs_at hh l.length k i hlt)
      have hpl := plc_lt hh l.length i h.pos
      have hms := may_step l hh i
      have hml := fun hf => may_less (l := l) (h := hh) hlt hf
      generalize plc hh l.length i = p at *
      have hp3 : p ≤ 3200000 := by omega
      have hq : p / 8 < l.length := by omega
      have cb : wr.cell? ⟨mg, p / 8, none⟩ = some (.int .u8 ((l.getD (p / 8) 0).toNat : Int)) := h1.byte hq
      obtain ⟨z, O, z1, z0⟩ := shr_word (l.getD (p / 8) 0) p
      have hhp : hasP l p = (l.getD (p / 8) 0).toNat.testBit (p % 8) := rfl
      rw [← hhp] at z1 z0
      clear hhp
      have hq8 : (p : Int) / 8 = ((p / 8 : Nat) : Int) := by omega
      have hr8 : (p : Int) % 8 = ((p % 8 : Nat) : Int) := by omega
      have hr7 : p % 8 < 8 := Nat.mod_lt _ (by decide)
      have hwq : Hid (IntKind.i64.wrap ((p / 8 : Nat) : Int) = ((p / 8 : Nat) : Int)) := by show _ = _; rw [IntKind.wrap_i64]; omega
      have IX : Hid (∀ w, (Instr.indexAt 29 (.slice (some ⟨mg, 0, none⟩) l.length mc) (.int .i64 ((p / 8 : Nat) : Int))).run Tryz.prog w = .ok (.pointer (some ⟨mg, p / 8, none⟩)) w) := fun w => index_byte _ _ _ _ hq w
      have hwr : Hid ((p : Int).tmod 8 = ((p % 8 : Nat) : Int)) := tmod_nat p 8
      have hur : Hid (IntKind.u64.wrap ((p % 8 : Nat) : Int) = ((p % 8 : Nat) : Int)) := by show _ = _; rw [IntKind.wrap_u64]; omega
      clear hq
      have SH : Hid (∀ w, (binOp .shr 5 (.int .u8 ((l.getD (p / 8) 0).toNat : Int)) (.int .u64 ((p % 8 : Nat) : Int))).run Tryz.prog w = .ok (.int .u8 (((l.getD (p / 8) 0).toNat : Int) / 2 ^ (p % 8))) w) := fun w => run_shr _ _ _ (Nat.mod_lt _ (by decide)) w
      generalize l.getD (p / 8) 0 = x at *
      generalize p / 8 = q at *
      generalize p % 8 = r at *
      rw [show ((x.toNat / 2 ^ r : Nat) : Int) = (x.toNat : Int) / 2 ^ r by rw [Int.natCast_ediv, Int.natCast_pow]; rfl] at O
      cases hp : hasP l p
      · obtain rfl := z0 hp
        have hrr := hml hp
        clear z1 z0 hml hms
        go_upto_region 4 with fail
        refine wp_region_lit ?_
        iterate 6 (refine wpList_plain rfl fun K hK => ?_; go_simp; refine hK _ _ ?_; clear hK K)
        rw [hwq.out]
        refine wpList_ix rfl rfl rfl rfl (IX.out _) ?_
        iterate 3 (refine wpList_plain rfl fun K hK => ?_; go_simp; refine hK _ _ ?_; clear hK K)
        rw [hwr.out]
        refine wpList_plain rfl fun K hK => ?_
        go_simp
        refine hK _ _ ?_
        clear hK K
        rw [hur.out]
        refine wpList_bin rfl rfl (.inl rfl) rfl rfl (SH.out _) ?_
        go_wp2_with fail
        go_ret
        exact ⟨ret_bool hrr.symm, hB⟩
      · have hz := z1 hp
        rw [hm, hp] at hms
        clear z1 z0 hml
        go_upto_region 4 with fail
        refine wp_region_lit ?_
        iterate 6 (refine wpList_plain rfl fun K hK => ?_; go_simp; refine hK _ _ ?_; clear hK K)
        rw [hwq.out]
        refine wpList_ix rfl rfl rfl rfl (IX.out _) ?_
        iterate 3 (refine wpList_plain rfl fun K hK => ?_; go_simp; refine hK _ _ ?_; clear hK K)
        rw [hwr.out]
        refine wpList_plain rfl fun K hK => ?_
        go_simp
        refine hK _ _ ?_
        clear hK K
        rw [hur.out]
        refine wpList_bin rfl rfl (.inl rfl) rfl rfl (SH.out _) ?_
        go_wp2_with fail
        exact ⟨⟨i + 1, by omega, by simp, hms, trivial⟩, by simp only [intOf]; omega⟩
    · obtain rfl : i = k := by omega
      go_wp2_with fail
      go_ret
      exact ⟨ret_bool hm.symm, hB⟩
end Go.Proofs.YtdookhmaiapclaaGreatDoor
namespace Go.Proofs.YtdookhmaiapclaaGreatDoor
open Go.RowKit

set_option maxRecDepth 100000 in
theorem toHidD {p : Prop} (h : p) : Hid p := h
set_option maxRecDepth 100000 in
set_option maxHeartbeats 2000000 in
theorem read_no (b off k n p q N : Nat) (cap : Nat) (w : World) (hcap : N < cap) (hbm : N ≤ 140737488354000) (hpN : p ≤ N) (hqN : p + q ≤ N) (hk : k < 18446744073709551616) (hn : n < 18446744073709551616)
    (G1 : Calls Tryz.prog 80 #[.slice (some ⟨b, off, none⟩) N cap] w fun e w' => e = .returned (.tuple #[.int .u64 (k : Int), .int .i64 (p : Int)]) ∧ Below w.heap.size w w')
    (G2 : ∀ w1, Below w.heap.size w w1 → ∀ c, Calls Tryz.prog 80 #[.slice (some ⟨b, off + p, none⟩) (N - p) c] w1 fun e w' => e = .returned (.tuple #[.int .u64 (n : Int), .int .i64 (q : Int)]) ∧ Below w1.heap.size w1 w')
    (hbad : ¬ (1 ≤ k ∧ k ≤ 16 ∧ 1 ≤ n ∧ n ≤ 400000 ∧ N - (p + q) = n)) :
    Calls Tryz.prog 81 #[.slice (some ⟨b, off, none⟩) N cap] w fun e w' => e = .returned (.tuple #[.pointer none, .int .i64 8]) ∧ Below w.heap.size w w' := by
  have H1 := toHidD G1
  have H2 := toHidD G2
  clear G1 G2
  have hc : k < 1 ∨ (1 ≤ k ∧ 16 < k) ∨ (1 ≤ k ∧ k ≤ 16 ∧ n < 1) ∨ (1 ≤ k ∧ k ≤ 16 ∧ 1 ≤ n ∧ 400000 < n) ∨ (1 ≤ k ∧ k ≤ 16 ∧ 1 ≤ n ∧ n ≤ 400000 ∧ (((N - (p + q) : Nat) : Int) != (n : Int)) = true) := by
    by_cases e : N - (p + q) = n
    · omega
    · have : (((N - (p + q) : Nat) : Int) != (n : Int)) = true := by simp; omega
      rcases (show k < 1 ∨ (1 ≤ k ∧ 16 < k) ∨ (1 ≤ k ∧ k ≤ 16 ∧ n < 1) ∨ (1 ≤ k ∧ k ≤ 16 ∧ 1 ≤ n ∧ 400000 < n) ∨ (1 ≤ k ∧ k ≤ 16 ∧ 1 ≤ n ∧ n ≤ 400000) by omega) with h | h | h | h | h
      · exact .inl h
      · exact .inr (.inl h)
      · exact .inr (.inr (.inl h))
      · exact .inr (.inr (.inr (.inl h)))
      · exact .inr (.inr (.inr (.inr ⟨h.1, h.2.1, h.2.2.1, h.2.2.2, this⟩)))
  clear hbad
  rcases hc with h1 | ⟨h1, h2⟩ | ⟨h1, h2, h3⟩ | ⟨h1, h2, h3, h4⟩ | ⟨h1, h2, h3, h4, h5⟩
  all_goals (
    go_enter Tryz.func81, Tryz.ntmps81
    go_wp2_with fail
    refine (Hid.out H1).mono ?_
    rintro e w1 ⟨rfl, hB1⟩
    go_wp2_with fail
    refine (Hid.out H2 _ hB1 _).mono ?_
    rintro e w2 ⟨rfl, hB2⟩
    have hB02 : Below w.heap.size w w2 := hB1.trans (hB2.mono hB1.size)
    go_wp2_with fail
    go_ret2
    exact ⟨rfl, hB02⟩)
end Go.Proofs.YtdookhmaiapclaaGreatDoor
namespace Go.Proofs.YtdookhmaiapclaaGreatDoor
open Go.RowKit

set_option maxRecDepth 100000 in
set_option maxHeartbeats 2000000 in
theorem read_noA (b off k n p q N : Nat) (cap : Nat) (w : World) (_hcap : N ≤ cap) (hp : p < cap) (hq : p + q < cap) (hbm : N ≤ 140737488354000) (hpN : p ≤ N) (hqN : p + q ≤ N) (hk : k < 18446744073709551616) (hn : n < 18446744073709551616)
    (G1 : Calls Tryz.prog 80 #[.slice (some ⟨b, off, none⟩) N cap] w fun e w' => e = .returned (.tuple #[.int .u64 (k : Int), .int .i64 (p : Int)]) ∧ Below w.heap.size w w')
    (G2 : ∀ w1, Below w.heap.size w w1 → ∀ c, Calls Tryz.prog 80 #[.slice (some ⟨b, off + p, none⟩) (N - p) c] w1 fun e w' => e = .returned (.tuple #[.int .u64 (n : Int), .int .i64 (q : Int)]) ∧ Below w1.heap.size w1 w')
    (hbad : ¬ (1 ≤ k ∧ k ≤ 16 ∧ 1 ≤ n ∧ n ≤ 400000 ∧ N - (p + q) = n)) :
    Calls Tryz.prog 81 #[.slice (some ⟨b, off, none⟩) N cap] w fun e w' => e = .returned (.tuple #[.pointer none, .int .i64 8]) ∧ Below w.heap.size w w' := by
  have H1 := toHidD G1
  have H2 := toHidD G2
  clear G1 G2
  have hc : k < 1 ∨ (1 ≤ k ∧ 16 < k) ∨ (1 ≤ k ∧ k ≤ 16 ∧ n < 1) ∨ (1 ≤ k ∧ k ≤ 16 ∧ 1 ≤ n ∧ 400000 < n) ∨ (1 ≤ k ∧ k ≤ 16 ∧ 1 ≤ n ∧ n ≤ 400000 ∧ (((N - (p + q) : Nat) : Int) != (n : Int)) = true) := by
    by_cases e : N - (p + q) = n
    · omega
    · have : (((N - (p + q) : Nat) : Int) != (n : Int)) = true := by simp; omega
      rcases (show k < 1 ∨ (1 ≤ k ∧ 16 < k) ∨ (1 ≤ k ∧ k ≤ 16 ∧ n < 1) ∨ (1 ≤ k ∧ k ≤ 16 ∧ 1 ≤ n ∧ 400000 < n) ∨ (1 ≤ k ∧ k ≤ 16 ∧ 1 ≤ n ∧ n ≤ 400000) by omega) with h | h | h | h | h
      · exact .inl h
      · exact .inr (.inl h)
      · exact .inr (.inr (.inl h))
      · exact .inr (.inr (.inr (.inl h)))
      · exact .inr (.inr (.inr (.inr ⟨h.1, h.2.1, h.2.2.1, h.2.2.2, this⟩)))
  clear hbad
  rcases hc with h1 | ⟨h1, h2⟩ | ⟨h1, h2, h3⟩ | ⟨h1, h2, h3, h4⟩ | ⟨h1, h2, h3, h4, h5⟩
  all_goals (
    go_enter Tryz.func81, Tryz.ntmps81
    go_wp2_with fail
    refine (Hid.out H1).mono ?_
    rintro e w1 ⟨rfl, hB1⟩
    go_wp2_with fail
    refine (Hid.out H2 _ hB1 _).mono ?_
    rintro e w2 ⟨rfl, hB2⟩
    have hB02 : Below w.heap.size w w2 := hB1.trans (hB2.mono hB1.size)
    go_wp2_with fail
    go_ret2
    exact ⟨rfl, hB02⟩)
set_option maxRecDepth 100000 in
set_option maxHeartbeats 2000000 in
/-- The second number ends where the room does: there are no bits. -/
theorem read_noB (b off k n p q : Nat) (w : World) (hq0 : 0 < q) (hbm : p + q ≤ 140737488354000) (hk : k < 18446744073709551616) (hn : n < 18446744073709551616)
    (G1 : Calls Tryz.prog 80 #[.slice (some ⟨b, off, none⟩) (p + q) (p + q)] w fun e w' => e = .returned (.tuple #[.int .u64 (k : Int), .int .i64 (p : Int)]) ∧ Below w.heap.size w w')
    (G2 : ∀ w1, Below w.heap.size w w1 → ∀ c, Calls Tryz.prog 80 #[.slice (some ⟨b, off + p, none⟩) (p + q - p) c] w1 fun e w' => e = .returned (.tuple #[.int .u64 (n : Int), .int .i64 (q : Int)]) ∧ Below w1.heap.size w1 w') :
    Calls Tryz.prog 81 #[.slice (some ⟨b, off, none⟩) (p + q) (p + q)] w fun e w' => e = .returned (.tuple #[.pointer none, .int .i64 8]) ∧ Below w.heap.size w w' := by
  have H1 := toHidD G1
  have H2 := toHidD G2
  clear G1 G2
  have hc : k < 1 ∨ (1 ≤ k ∧ 16 < k) ∨ (1 ≤ k ∧ k ≤ 16 ∧ n < 1) ∨ (1 ≤ k ∧ k ≤ 16 ∧ 1 ≤ n ∧ 400000 < n) ∨ (1 ≤ k ∧ k ≤ 16 ∧ 1 ≤ n ∧ n ≤ 400000 ∧ ((0 : Int) != (n : Int)) = true) := by
    by_cases e : n = 0
    · omega
    · have : ((0 : Int) != (n : Int)) = true := by simp; omega
      rcases (show k < 1 ∨ (1 ≤ k ∧ 16 < k) ∨ (1 ≤ k ∧ k ≤ 16 ∧ n < 1) ∨ (1 ≤ k ∧ k ≤ 16 ∧ 1 ≤ n ∧ 400000 < n) ∨ (1 ≤ k ∧ k ≤ 16 ∧ 1 ≤ n ∧ n ≤ 400000) by omega) with h | h | h | h | h
      · exact .inl h
      · exact .inr (.inl h)
      · exact .inr (.inr (.inl h))
      · exact .inr (.inr (.inr (.inl h)))
      · exact .inr (.inr (.inr (.inr ⟨h.1, h.2.1, h.2.2.1, h.2.2.2, this⟩)))
  obtain ⟨N, hN⟩ : ∃ N, N = p + q := ⟨_, rfl⟩
  rw [← hN] at H1 H2 ⊢
  have hp : p < N := by omega
  have e0 : N - N = 0 := Nat.sub_self N
  have HN : Hid ((p : Int) + (q : Int) = (N : Int)) := by show _ = _; omega
  have hNz : (N : Int) ≤ 140737488354000 := by omega
  clear hN
  rcases hc with h1 | ⟨h1, h2⟩ | ⟨h1, h2, h3⟩ | ⟨h1, h2, h3, h4⟩ | ⟨h1, h2, h3, h4, h5⟩
  all_goals (
    go_enter Tryz.func81, Tryz.ntmps81
    go_wp2_with fail
    refine (Hid.out H1).mono ?_
    rintro e w1 ⟨rfl, hB1⟩
    go_wp2_with fail
    refine (Hid.out H2 _ hB1 _).mono ?_
    rintro e w2 ⟨rfl, hB2⟩
    have hB02 : Below w.heap.size w w2 := hB1.trans (hB2.mono hB1.size)
    have hpq := HN.out
    go_wp2_with fail
    go_ret2
    exact ⟨rfl, hB02⟩)
set_option maxRecDepth 100000 in
set_option maxHeartbeats 2000000 in
/-- The first number ends where the room does, or there are no bytes. -/
theorem read_noC (b off k p : Nat) (w : World) (hbm : p ≤ 140737488354000) (hk : k < 18446744073709551616)
    (G1 : Calls Tryz.prog 80 #[.slice (some ⟨b, off, none⟩) p p] w fun e w' => e = .returned (.tuple #[.int .u64 (k : Int), .int .i64 (p : Int)]) ∧ Below w.heap.size w w')
    (G2 : ∀ w1, Below w.heap.size w w1 → ∀ (ao : Option Addr) (c : Nat), Calls Tryz.prog 80 #[.slice ao 0 c] w1 fun e w' => e = .returned (.tuple #[.int .u64 0, .int .i64 0]) ∧ Below w1.heap.size w1 w') :
    Calls Tryz.prog 81 #[.slice (some ⟨b, off, none⟩) p p] w fun e w' => e = .returned (.tuple #[.pointer none, .int .i64 8]) ∧ Below w.heap.size w w' := by
  have H1 := toHidD G1
  have H2 := toHidD G2
  clear G1 G2
  have hc : k < 1 ∨ (1 ≤ k ∧ 16 < k) ∨ (1 ≤ k ∧ k ≤ 16) := by omega
  rcases hc with h1 | ⟨h1, h2⟩ | ⟨h1, h2⟩
  all_goals (
    go_enter Tryz.func81, Tryz.ntmps81
    go_wp2_with fail
    refine (Hid.out H1).mono ?_
    rintro e w1 ⟨rfl, hB1⟩
    go_wp2_with fail
    refine (Hid.out H2 _ hB1 _ _).mono ?_
    rintro e w2 ⟨rfl, hB2⟩
    have hB02 : Below w.heap.size w w2 := hB1.trans (hB2.mono hB1.size)
    go_wp2_with fail
    go_ret2
    exact ⟨rfl, hB02⟩)
set_option maxRecDepth 100000 in
theorem read_nil (c : Nat) (w : World) (G1 : ∀ w1, Below w.heap.size w w1 → ∀ (ao : Option Addr) (c : Nat), Calls Tryz.prog 80 #[.slice ao 0 c] w1 fun e w' => e = .returned (.tuple #[.int .u64 0, .int .i64 0]) ∧ Below w1.heap.size w1 w') :
    Calls Tryz.prog 81 #[.slice none 0 c] w fun e w' => e = .returned (.tuple #[.pointer none, .int .i64 8]) ∧ Below w.heap.size w w' := by
  have H1 := toHidD G1
  clear G1
  go_enter Tryz.func81, Tryz.ntmps81
  go_wp2_with fail
  refine (Hid.out H1 _ (Below.refl _ _) _ _).mono ?_
  rintro e w1 ⟨rfl, hB1⟩
  go_wp2_with fail
  refine (Hid.out H1 _ hB1 _ _).mono ?_
  rintro e w2 ⟨rfl, hB2⟩
  have hB02 : Below w.heap.size w w2 := hB1.trans (hB2.mono hB1.size)
  go_wp2_with fail
  go_ret2
  exact ⟨rfl, hB02⟩
end Go.Proofs.YtdookhmaiapclaaGreatDoor
namespace Go.Proofs.YtdookhmaiapclaaGreatDoor
open Go.RowKit

theorem getV_nil : getV [] = 0 := rfl
theorem getK_nil : getK [] = 0 := rfl
set_option maxRecDepth 100000 in
/-- Read of bytes in a row of the call's own, whatever they are. -/
theorem readAny {w : World} {base : Nat} {v : Value} {B : List UInt8} (ho : w.ownsRow base 5 1 v B.length (B8 B)) (hl : B.length ≤ 1000000000) (u : TypeId) (pv : Value) (he : Err w u pv) :
    Calls Tryz.prog 81 #[v] w fun e w' => (okF B = false ∧ e = .returned (.tuple #[.pointer none, .int .i64 8]) ∧ Below w.heap.size w w') ∨
      (okF B = true ∧ ∃ m : FM, e = .returned (.tuple #[m.v, .int .i64 0]) ∧ FAt w' m (getV B) (B.drop (getK B + getK (B.drop (getK B)))) ∧ w.heap.size ≤ m.d ∧ w.heap.size ≤ m.g ∧ Below w.heap.size w w') := by
  have GN : ∀ w1, Below w.heap.size w w1 → ∀ (ao : Option Addr) (c : Nat), Calls Tryz.prog 80 #[.slice ao 0 c] w1 fun e w' => e = .returned (.tuple #[.int .u64 0, .int .i64 0]) ∧ Below w1.heap.size w1 w' := fun w1 hb ao c => by
    have := codGet_any ao [] c w1 u pv (Sees.nil _ _) (by simp) (he.below hb (Nat.le_refl _))
    exact this
  obtain ⟨-, hs0⟩ := ho
  have ho2 : w.ownsRow base 5 1 v B.length (B8 B) := ⟨by rw [B8_length, Nat.mul_one], hs0⟩
  obtain ⟨ao, cap, rfl, hs, -, -⟩ := owns_sees ho2
  rcases hs0 with ⟨h1, h2⟩ | ⟨g, cap', cur, h, _, _, hn, hm, _⟩
  · injection h1 with e1 e2 e3
    obtain rfl : B = [] := List.eq_nil_of_length_eq_zero e2
    subst e1
    exact (read_nil cap w GN).mono fun e w' h => .inl ⟨rfl, h.1, h.2⟩
  · injection h with e1 e2 e3
    subst e1
    subst e3
    have hm2 : cap ≤ 9223372036854775807 := by unfold maxLen at hm; omega
    have hp := getK_le B
    have hq := getK_le (B.drop (getK B))
    rw [List.length_drop] at hq
    have hd : (B.drop (getK B)).length = B.length - getK B := List.length_drop
    have s1 : Sees w (some ⟨g, 0 + getK B, none⟩) (B.drop (getK B)) := hs.dropS _
    have G1 := codGet_any _ B cap w u pv hs (by omega) he
    have G2 : ∀ w1, Below w.heap.size w w1 → ∀ c, Calls Tryz.prog 80 #[.slice (some ⟨g, 0 + getK B, none⟩) (B.length - getK B) c] w1 fun e w' => e = .returned (.tuple #[.int .u64 (getV (B.drop (getK B)) : Int), .int .i64 (getK (B.drop (getK B)) : Int)]) ∧ Below w1.heap.size w1 w' := fun w1 hb c => by
      have := codGet_any (some ⟨g, 0 + getK B, none⟩) (B.drop (getK B)) c w1 u pv (s1.below hb (Nat.le_refl _)) (by omega) (he.below hb (Nat.le_refl _))
      rwa [hd] at this
    cases hok : okF B
    · have hbad := hok
      unfold okF at hbad
      rw [decide_eq_false_iff_not] at hbad
      by_cases hpc : getK B = cap
      · have hN : B.length = getK B := by omega
        rw [← hpc, hN] at G1
        rw [← hpc, hN]
        exact (read_noC g 0 (getV B) (getK B) w (by omega) (getV_lt _) G1 GN).mono fun e w' h => .inl ⟨rfl, h.1, h.2⟩
      · by_cases hqc : getK B + getK (B.drop (getK B)) = cap
        · have hN : B.length = getK B + getK (B.drop (getK B)) := by omega
          rw [← hqc, hN] at G1
          rw [hN] at G2
          rw [← hqc, hN]
          exact (read_noB g 0 (getV B) (getV (B.drop (getK B))) (getK B) (getK (B.drop (getK B))) w (by omega) (by omega) (getV_lt _) (getV_lt _) G1 G2).mono fun e w' h => .inl ⟨rfl, h.1, h.2⟩
        · exact (read_noA g 0 (getV B) (getV (B.drop (getK B))) (getK B) (getK (B.drop (getK B))) B.length cap w hn (by omega) (by omega) (by omega) hp (by omega) (getV_lt _) (getV_lt _) G1 G2 hbad).mono fun e w' h => .inl ⟨rfl, h.1, h.2⟩
    · have hgood := hok
      unfold okF at hgood
      rw [decide_eq_true_eq] at hgood
      obtain ⟨a1, a2, a3, a4, a5⟩ := hgood
      have k1 : getK B ≠ 0 := fun e => by have := getK_zero e; omega
      have k2 : getK (B.drop (getK B)) ≠ 0 := fun e => by have := getK_zero e; omega
      have g1 := (get_canon k1).2.2.2
      have g2 := (get_canon k2).2.2.2
      have hll : (B.drop (getK B + getK (B.drop (getK B)))).length = getV (B.drop (getK B)) := by rw [List.length_drop, a5]
      rw [List.drop_drop] at g2
      refine (read_core g 0 (getV B) (getK B) (getK (B.drop (getK B))) B.length B (B.drop (getK B)) (B.drop (getK B + getK (B.drop (getK B)))) cap w hs rfl hn hm2 (by omega) g1 (by rw [hll]; exact g2) (by omega) (by omega) (by omega) (by omega) rfl (List.drop_drop ..) a1 a2 (by omega) (by omega)).mono ?_
      rintro e w' ⟨m, h⟩
      exact .inr ⟨rfl, m, h⟩
/-- The filter at the end of bytes: how many are ahead of it, its hashes, its bits. -/
def fltN (r : List UInt8) (u : Nat) : Option (Nat × Nat × List UInt8) :=
  if r.length < u then none
  else if unfE (r.drop (r.length - u)) = 0 ∧ okF (unfB (r.drop (r.length - u))) = true then
    some (r.length - u, getV (unfB (r.drop (r.length - u))), (unfB (r.drop (r.length - u))).drop (getK (unfB (r.drop (r.length - u))) + getK ((unfB (r.drop (r.length - u))).drop (getK (unfB (r.drop (r.length - u)))))))
  else none
theorem unfB_len (l : List UInt8) : (unfB l).length ≤ l.length := by
  unfold unfB
  split
  · rw [List.length_take, List.length_drop]; omega
  · simp
set_option maxRecDepth 100000 in
set_option maxHeartbeats 1000000 in
theorem cutFilter_any {w : World} {P b off : Nat} {r : List UInt8} {cap : Nat} (h : PAt w P b off r cap) (u : Nat) (hu2 : u < 18446744073709551616) (ht : Tab w) (hP : 0 ≠ P) (hP2 : 1 ≠ P) (ue : TypeId) (pv : Value) (he : Err w ue pv) :
    Calls Tryz.prog 47 #[.pointer (some ⟨P, 0, none⟩), .int .u64 (u : Int)] w fun e w' => Moved w w' [P] [P] ∧
      ((fltN r u = none ∧ ∃ q, e = .returned (.tuple #[.pointer q, .bool false])) ∨
       (∃ m k bits, fltN r u = some (m, k, bits) ∧ m ≤ r.length ∧ PAt w' P b off (r.take m) cap ∧ ∃ fm : FM, e = .returned (.tuple #[fm.v, .bool true]) ∧ FAt w' fm k bits ∧ w.heap.size ≤ fm.d ∧ w.heap.size ≤ fm.g)) := by
  by_cases hns : r.length < u
  · have CF : Hid (Calls Tryz.prog 79 #[.pointer (some ⟨P, 0, none⟩), .int .u64 (u : Int)] w fun e w' => e = .returned (.tuple #[.slice none 0 0, .bool false]) ∧ w' = w) := cutFrame_no h.box h.len u hns hu2
    have HE2 : Hid (fltN r u = none) := by show _ = _; unfold fltN; rw [if_pos hns]
    clear h ht he
    go_enter Tryz.func47, Tryz.ntmps47
    go_wp2_with fail
    refine CF.out.mono ?_
    rintro e w2 ⟨rfl, rfl⟩
    go_wp2_with fail
    go_ret2
    exact ⟨Moved.refl _ _, .inl ⟨HE2.out, _, rfl⟩⟩
  · have CF : Hid (Calls Tryz.prog 79 #[.pointer (some ⟨P, 0, none⟩), .int .u64 (u : Int)] w fun e w' => ∃ v, e = .returned (.tuple #[v, .bool (decide (unfE (r.drop (r.length - u)) = 0))]) ∧ w'.ownsRow w.heap.size 5 1 v (unfB (r.drop (r.length - u))).length (B8 (unfB (r.drop (r.length - u)))) ∧ PAt w' P b off (r.take (r.length - u)) cap ∧ Moved w w' [P] [P]) := cutFrame_ok h u (by omega) ht hP
    have hbl : (unfB (r.drop (r.length - u))).length ≤ 1000000000 := by
      have h1 := unfB_len (r.drop (r.length - u))
      have h2 := h.len
      rw [List.length_drop] at h1
      omega
    by_cases hu : unfE (r.drop (r.length - u)) = 0
    · have HFN : Hid (fltN r u = if okF (unfB (r.drop (r.length - u))) = true then some (r.length - u, getV (unfB (r.drop (r.length - u))), (unfB (r.drop (r.length - u))).drop (getK (unfB (r.drop (r.length - u))) + getK ((unfB (r.drop (r.length - u))).drop (getK (unfB (r.drop (r.length - u))))))) else none) := by
        show _ = _
        unfold fltN
        rw [if_neg hns]
        simp only [hu, true_and]
      rw [decide_eq_true hu] at CF
      have hmr : r.length - u ≤ r.length := Nat.sub_le _ _
      clear hu h ht
      generalize unfB (r.drop (r.length - u)) = B at *
      generalize r.length - u = m at *
      go_enter Tryz.func47, Tryz.ntmps47
      go_wp2_with fail
      refine CF.out.mono ?_
      rintro e w1 ⟨v1, rfl, ho1, hP1, hM1⟩
      have he1 : Err w1 ue pv := by
        unfold Err at he ⊢
        rw [← he]
        exact World.cell?_of_block (hM1.kept _ (World.block_lt_of_cell? _ _ he) (by simp; exact hP2))
      have RD := toHidE (readAny ho1 hbl ue pv he1)
      have hs1 := hM1.size
      clear ho1 CF
      go_wp2_with fail
      refine (Hid.out RD).mono ?_
      rintro e w2 (⟨hok, rfl, hb2⟩ | ⟨hok, fm, rfl, hF, hd, hg, hb2⟩)
      · have HE2 : Hid (fltN r u = none) := by show _ = _; rw [HFN.out, if_neg (by rw [hok]; decide)]
        clear hok HFN
        go_wp2_with fail
        go_ret2
        exact ⟨hM1.and_below hb2, .inl ⟨HE2.out, _, rfl⟩⟩
      · have HE2 : Hid (fltN r u = some (m, getV B, B.drop (getK B + getK (B.drop (getK B))))) := by show _ = _; rw [HFN.out, if_pos hok]
        clear hok HFN
        go_wp2_with fail
        go_ret2
        exact ⟨hM1.and_below hb2, .inr ⟨m, _, _, HE2.out, hmr, hP1.below hb2, fm, rfl, hF, by omega, by omega⟩⟩
    · have HE2 : Hid (fltN r u = none) := by show _ = _; unfold fltN; rw [if_neg hns, if_neg (fun h => hu h.1)]
      rw [decide_eq_false hu] at CF
      clear h ht he
      go_enter Tryz.func47, Tryz.ntmps47
      go_wp2_with fail
      refine CF.out.mono ?_
      rintro e w2 ⟨v2, rfl, ho2, hP3, hM2⟩
      go_wp2_with fail
      go_ret2
      exact ⟨hM2, .inl ⟨HE2.out, _, rfl⟩⟩
end Go.Proofs.YtdookhmaiapclaaGreatDoor
namespace Go.Proofs.YtdookhmaiapclaaGreatDoor
open Go.RowKit

/-- Texts that memory can hold. -/
structure Cx.Fit (x : Cx) : Prop where
  t : x.k.t.size ≤ maxLen
  p : x.k.p.size ≤ maxLen
  c : x.k.c.size ≤ maxLen
  s : x.v.s.size ≤ maxLen
set_option maxRecDepth 100000 in
theorem writable1_any (c : Cx) (w : World) (h : c.Fit) :
    Calls Tryz.prog 53 #[c.val] w fun x w' => x = .returned (.bool (!goodC c)) ∧ Below w.heap.size w w' := by
  have hb : Below w.heap.size w (w.alloc (.cells c.a 59)) := (Below.refl _ _).alloc (Nat.le_refl _) _
  have G : Hid (Calls Tryz.prog 54 #[c.val] (w.alloc (.cells c.a 59)) fun x w' => x = .returned (.bool (goodC c)) ∧ Below (w.alloc (.cells c.a 59)).heap.size (w.alloc (.cells c.a 59)) w') := goodX_any c _ h.t h.p h.c h.s
  have T := TenX.new w c 59
  obtain ⟨wa, hwa⟩ : ∃ wa, wa = w.alloc (.cells c.a 59) := ⟨_, rfl⟩
  rw [← hwa] at G T hb
  generalize goodC c = g at *
  obtain ⟨⟨ct, cp, cr, cc⟩, ⟨cti, cd, cl, ck, cn, cstr⟩⟩ := c
  obtain ⟨k0, k1, k2, k3, k4, k5, k6, k7, k8, k9⟩ := T
  simp only [Cx.val, Cx.a, Nat.zero_add] at k0 k1 k2 k3 k4 k5 k6 k7 k8 k9 G hwa ⊢
  go_enter Tryz.func53, Tryz.ntmps53
  go_wp2_with fail
  rw [← hwa]
  go_wp2_with fail
  refine G.out.mono ?_
  rintro e w1 ⟨rfl, hb1⟩
  go_wp2_with fail
  go_ret
  exact ⟨rfl, hb.trans (hb1.mono hb.size)⟩
set_option maxRecDepth 100000 in
set_option maxHeartbeats 1000000 in
theorem indexBad_any (ao : Option Addr) (l : List Cx) (cap : Nat) (w : World) (hs : XSees w ao l) (hl : l.length ≤ 1000000) (hf : ∀ c ∈ l, c.Fit) :
    Calls Tryz.prog 85 #[.slice ao l.length cap, .func (.func 53) #[] #[]] w fun e w' => ∃ z : Int, e = .returned (.int .i64 z) ∧ decide (0 ≤ z) = !l.all goodC ∧ Below w.heap.size w w' := by
  have hlz : (l.length : Int) ≤ 1000000 := by omega
  have Hf : Hid (∀ c ∈ l, c.Fit) := hf
  clear hf
  go_enter Tryz.func85, Tryz.ntmps85
  go_wp2_with fail
  go_loopw [8] (fun s8 wr => ∃ i : Nat, i ≤ l.length ∧ s8 = .int .i64 i ∧ (l.take i).all goodC = true ∧ Below w.heap.size w wr) (fun s8 _ => l.length - (intOf s8).toNat)
  case atStart => exact ⟨0, by omega, rfl, rfl, Below.refl _ _⟩
  case round =>
    obtain ⟨i, hi, rfl, hr, hbr⟩ := hrel
    rcases Nat.lt_or_ge i l.length with hlt | hge
    · have hc : l[i]? = some l[i] := List.getElem?_eq_getElem hlt
      have hfit := Hf.out _ (List.getElem_mem hlt)
      have hts : (l.take (i + 1)).all goodC = ((l.take i).all goodC && goodC l[i]) := by
        rw [takeX_succ hc, List.all_append]
        simp only [List.all_cons, List.all_nil, Bool.and_true]
      have hall : goodC l[i] = false → l.all goodC = false := fun h => by
        rw [List.all_eq_false]
        exact ⟨_, List.getElem_mem hlt, by rw [h]; decide⟩
      obtain ⟨b, off, rfl, x1⟩ := (hs.below hbr (Nat.le_refl _)) i _ hc
      have G : Hid (Calls Tryz.prog 53 #[l[i].val] wr fun x w' => x = .returned (.bool (!goodC l[i])) ∧ Below wr.heap.size wr w') := writable1_any _ wr hfit
      have hltz : (i : Int) < (l.length : Int) := by omega
      generalize l[i] = c at *
      cases hg : goodC c
      · rw [hg] at G
        have ha := hall hg
        clear hg hall hts
        obtain ⟨⟨ct, cp, cr, cc⟩, ⟨cti, cd, cl, ck, cn, cstr⟩⟩ := c
        obtain ⟨k0, k1, k2, k3, k4, k5, k6, k7, k8, k9⟩ := x1
        simp only [Cx.val, Cx.a] at k0 k1 k2 k3 k4 k5 k6 k7 k8 k9 G
        go_wp2_with fail
        refine G.out.mono ?_
        rintro e w1 ⟨rfl, hb1⟩
        go_wp2_with fail
        go_ret
        refine ⟨i, rfl, ?_, hbr.trans (hb1.mono hbr.size)⟩
        rw [ha]
        exact decide_eq_true (by omega)
      · rw [hg] at G
        have hts2 : (l.take (i + 1)).all goodC = true := by rw [hts, hr, hg]; rfl
        clear hg hall hts
        obtain ⟨⟨ct, cp, cr, cc⟩, ⟨cti, cd, cl, ck, cn, cstr⟩⟩ := c
        obtain ⟨k0, k1, k2, k3, k4, k5, k6, k7, k8, k9⟩ := x1
        simp only [Cx.val, Cx.a] at k0 k1 k2 k3 k4 k5 k6 k7 k8 k9 G
        go_wp2_with fail
        refine G.out.mono ?_
        rintro e w1 ⟨rfl, hb1⟩
        go_wp2_with fail
        go_roundw
        case rel => exact ⟨i + 1, by omega, by simp, hts2, hbr.trans (hb1.mono hbr.size)⟩
        case measure => simp [intOf]; omega
    · obtain rfl : i = l.length := by omega
      rw [List.take_length] at hr
      go_wp2_with fail
      go_ret
      refine ⟨-1, rfl, ?_, hbr⟩
      rw [hr]
      decide
set_option maxRecDepth 100000 in
theorem someBad_any (ao : Option Addr) (l : List Cx) (cap : Nat) (w : World) (hs : XSees w ao l) (hl : l.length ≤ 1000000) (hf : ∀ c ∈ l, c.Fit) :
    Calls Tryz.prog 52 #[.slice ao l.length cap, .func (.func 53) #[] #[]] w fun e w' => e = .returned (.bool (!l.all goodC)) ∧ Below w.heap.size w w' := by
  have I : Hid (Calls Tryz.prog 85 #[.slice ao l.length cap, .func (.func 53) #[] #[]] w fun e w' => ∃ z : Int, e = .returned (.int .i64 z) ∧ decide (0 ≤ z) = !l.all goodC ∧ Below w.heap.size w w') := indexBad_any ao l cap w hs hl hf
  generalize l.all goodC = g at *
  clear hs hf
  go_enter Tryz.func52, Tryz.ntmps52
  go_wp2_with fail
  refine I.out.mono ?_
  rintro e w1 ⟨z, rfl, hz, hb1⟩
  go_wp2_with fail
  go_ret
  refine ⟨ret_bool ?_, hb1⟩
  rw [← hz]
set_option maxRecDepth 100000 in
set_option maxHeartbeats 1000000 in
theorem writable_any (ao : Option Addr) (l : List Cx) (cap : Nat) (w : World) (hs : XSees w ao l) (hl : l.length ≤ 20000) (hf : ∀ c ∈ l, c.Fit) :
    Calls Tryz.prog 23 #[.slice ao l.length cap] w fun e w' => e = .returned (.bool (wrtB l)) ∧ Below w.heap.size w w' := by
  have S : Hid (Calls Tryz.prog 51 #[.slice ao l.length cap] w fun e w' => e = .returned (.bool (srtB l)) ∧ Below w.heap.size w w') := sorted_any ao l cap w hs (by omega)
  have B : Hid (∀ u, Below w.heap.size w u → Calls Tryz.prog 52 #[.slice ao l.length cap, .func (.func 53) #[] #[]] u fun e w' => e = .returned (.bool (!l.all goodC)) ∧ Below u.heap.size u w') := fun u hu => someBad_any ao l cap u (hs.below hu (Nat.le_refl _)) (by omega) hf
  have hlz : (l.length : Int) ≤ 20000 := by omega
  have d1 : decide ((20000 : Int) < (l.length : Int)) = false := decide_eq_false (by omega)
  unfold wrtB
  by_cases h0 : l.length = 0
  · rw [h0] at S B ⊢
    clear hs hf d1 hlz hl
    go_enter Tryz.func23, Tryz.ntmps23
    go_wp2_with fail
    go_ret
    exact ⟨rfl, Below.refl _ _⟩
  have d0 : ((l.length : Int) == 0) = false := by simpa using h0
  have d2 : decide (0 < l.length) = true := decide_eq_true (by omega)
  rw [d2, Bool.true_and]
  generalize l.all goodC = g at *
  clear hs hf
  cases hsr : srtB l
  · rw [hsr] at S
    go_enter Tryz.func23, Tryz.ntmps23
    go_wp2_with fail
    refine S.out.mono ?_
    rintro e w1 ⟨rfl, hb1⟩
    go_wp2_with fail
    go_ret
    exact ⟨rfl, hb1⟩
  · rw [hsr] at S
    rw [Bool.true_and]
    go_enter Tryz.func23, Tryz.ntmps23
    go_wp2_with fail
    refine S.out.mono ?_
    rintro e w1 ⟨rfl, hb1⟩
    go_wp2_with fail
    refine (B.out _ hb1).mono ?_
    rintro e w2 ⟨rfl, hb2⟩
    go_wp2_with fail
    go_ret
    refine ⟨ret_bool ?_, hb1.trans (hb2.mono hb1.size)⟩
    simp
end Go.Proofs.YtdookhmaiapclaaGreatDoor
namespace Go.Proofs.YtdookhmaiapclaaGreatDoor
open Go.RowKit

/-- From the codec's cells. -/
def ofC (c : CellV) : Cx := ⟨⟨c.key.table, c.key.part, c.key.row, c.key.col⟩, ⟨c.ver.time, c.ver.dead, c.ver.loc, c.ver.val.kind, c.ver.val.num, c.ver.val.s⟩⟩
theorem ofC_toC (c : Cx) : ofC (toC c) = c := rfl
theorem C10_ofC (cs : List CellV) : C10 cs = (cs.map ofC).flatMap xs10 := by unfold C10; rw [List.flatMap_map]; rfl
theorem signN_facts {l r : List UInt8} {n : Int} (h : signN l = some (n, r)) : r.length < l.length ∧ InI n := by
  unfold signN at h
  split at h
  · cases h
  · rename_i v r' hg
    simp only [Option.some.injEq, Prod.mk.injEq] at h
    obtain ⟨rfl, rfl⟩ := h
    have := get_bd hg
    exact ⟨this.2, zagZ_ok this.1⟩
theorem textN_facts {l s r : List UInt8} (h : textN l = some (s, r)) : r.length < l.length ∧ s.length ≤ l.length := by
  obtain ⟨v, r1, hg, hv, rfl, rfl⟩ := textN_some h
  have := (get_bd hg).2
  rw [List.length_drop, List.length_take]
  omega
/-- A text's size. -/
theorem bytesOf_size (l : List UInt8) : (bytesOf l).size = l.length := by show l.toArray.size = _; simp
structure ReadX (n : Nat) (x : Cx) : Prop where
  num : x.Nums
  t : x.k.t.size ≤ n
  p : x.k.p.size ≤ n
  c : x.k.c.size ≤ n
  s : x.v.s.size ≤ n
theorem keyN_facts {l r : List UInt8} {k : KeyV} (h : keyN l = some (k, r)) : r.length + 4 ≤ l.length ∧ InI k.row ∧ k.table.size ≤ l.length ∧ k.part.size ≤ l.length ∧ k.col.size ≤ l.length := by
  unfold keyN at h
  split at h
  · cases h
  · rename_i t r1 h1
    split at h
    · cases h
    · rename_i p r2 h2
      split at h
      · cases h
      · rename_i n r3 h3
        split at h
        · cases h
        · rename_i c r4 h4
          simp only [Option.some.injEq, Prod.mk.injEq] at h
          obtain ⟨rfl, rfl⟩ := h
          have a1 := textN_facts h1
          have a2 := textN_facts h2
          have a3 := signN_facts h3
          have a4 := textN_facts h4
          simp only [bytesOf_size]
          exact ⟨by omega, a3.2, by omega, by omega, by omega⟩
theorem valN_facts {l r : List UInt8} {k : ValV} (h : valN l = some (k, r)) : r.length + 3 ≤ l.length ∧ InI k.kind ∧ InI k.num ∧ k.s.size ≤ l.length := by
  unfold valN at h
  split at h
  · cases h
  · rename_i v r1 h1
    split at h
    · cases h
    · rename_i n r2 h2
      split at h
      · cases h
      · rename_i s r3 h3
        simp only [Option.some.injEq, Prod.mk.injEq] at h
        obtain ⟨rfl, rfl⟩ := h
        have a1 := get_bd h1
        have a2 := signN_facts h2
        have a3 := textN_facts h3
        simp only [bytesOf_size]
        exact ⟨by omega, kindZ_ok a1.1, a2.2, by omega⟩
theorem inI_zero : InI 0 := by unfold InI; omega
theorem verN_facts {l r : List UInt8} {k : VerV} (h : verN l = some (k, r)) : r.length + 3 ≤ l.length ∧ InI k.time ∧ InI k.loc ∧ InI k.val.kind ∧ InI k.val.num ∧ k.val.s.size ≤ l.length := by
  unfold verN at h
  split at h
  · cases h
  · rename_i t r1 h1
    have a1 := signN_facts h1
    split at h
    · cases h
    · rename_i m r2
      simp only [List.length_cons] at a1
      split at h
      · split at h
        · cases h
        · rename_i v r3 h3
          simp only [Option.some.injEq, Prod.mk.injEq] at h
          obtain ⟨rfl, rfl⟩ := h
          have a3 := valN_facts h3
          exact ⟨by omega, a1.2, inI_zero, a3.2.1, a3.2.2.1, by have := a3.2.2.2; simp only; omega⟩
      · split at h
        · split at h
          · cases h
          · rename_i n r3 h3
            simp only [Option.some.injEq, Prod.mk.injEq] at h
            obtain ⟨rfl, rfl⟩ := h
            have a3 := signN_facts h3
            exact ⟨by omega, a1.2, a3.2, inI_zero, inI_zero, Nat.zero_le _⟩
        · cases h
theorem cellN_facts {l r : List UInt8} {c : CellV} (h : cellN l = some (c, r)) : r.length + 7 ≤ l.length ∧ ReadX l.length (ofC c) := by
  unfold cellN at h
  split at h
  · cases h
  · rename_i k r1 h1
    split at h
    · cases h
    · rename_i v r2 h2
      simp only [Option.some.injEq, Prod.mk.injEq] at h
      obtain ⟨rfl, rfl⟩ := h
      have a1 := keyN_facts h1
      have a2 := verN_facts h2
      refine ⟨by omega, ⟨⟨a1.2.1, a2.2.1, a2.2.2.1, a2.2.2.2.1, a2.2.2.2.2.1⟩, a1.2.2.1, a1.2.2.2.1, a1.2.2.2.2, ?_⟩⟩
      have := a2.2.2.2.2.2
      show v.val.s.size ≤ _
      omega
theorem ReadX.mono {n m : Nat} {c : Cx} (h : ReadX n c) (hn : n ≤ m) : ReadX m c := ⟨h.num, Nat.le_trans h.t hn, Nat.le_trans h.p hn, Nat.le_trans h.c hn, Nat.le_trans h.s hn⟩
theorem ReadX.fit {n : Nat} {c : Cx} (h : ReadX n c) (hn : n ≤ maxLen) : c.Fit := ⟨Nat.le_trans h.t hn, Nat.le_trans h.p hn, Nat.le_trans h.c hn, Nat.le_trans h.s hn⟩
theorem manyN_facts : ∀ (n : Nat) {l r : List UInt8} {cs : List CellV}, manyN n l = some (cs, r) → r.length + 7 * cs.length ≤ l.length ∧ ∀ c ∈ cs, ReadX l.length (ofC c)
  | 0, l, r, cs, h => by
    simp only [manyN, Option.some.injEq, Prod.mk.injEq] at h
    obtain ⟨rfl, rfl⟩ := h
    exact ⟨by simp, fun c hc => by cases hc⟩
  | n + 1, l, r, cs, h => by
    rw [manyN] at h
    split at h
    · cases h
    · rename_i c r1 h1
      split at h
      · cases h
      · rename_i ds r2 h2
        simp only [Option.some.injEq, Prod.mk.injEq] at h
        obtain ⟨rfl, rfl⟩ := h
        have a1 := cellN_facts h1
        have a2 := manyN_facts n h2
        refine ⟨by rw [List.length_cons]; omega, fun x hx => ?_⟩
        rcases List.mem_cons.1 hx with rfl | hx
        · exact a1.2
        · exact (a2.2 x hx).mono (by omega)
theorem cellsN_facts {l : List UInt8} {cs : List CellV} (h : cellsN l = some cs) : 7 * cs.length ≤ l.length ∧ ∀ c ∈ cs, ReadX l.length (ofC c) := by
  unfold cellsN at h
  split at h
  · cases h
  · rename_i n r hg
    have h1 := (get_bd hg).2
    split at h
    · rename_i cs' hm
      obtain rfl := Option.some.inj h
      have := manyN_facts n hm
      exact ⟨by have := this.1; simp at this; omega, fun c hc => (this.2 c hc).mono (by omega)⟩
    · cases h
/-- The cells of all blocks. -/
def blkN : Nat → List UInt8 → Option (List Cx)
  | 0, r => if r.length = 0 then some [] else none
  | f + 1, r => if r.length = 0 then some []
    else if unfE r = 0 then
      match cellsN (unfB r) with
      | none => none
      | some cs => match blkN f (r.drop (unfN r)) with
        | none => none
        | some ds => some (cs.map ofC ++ ds)
    else none
theorem blkN_nil (f : Nat) : blkN f [] = some [] := by cases f <;> rfl
theorem unfB_le (l : List UInt8) : (unfB l).length + 8 ≤ l.length ∨ unfE l ≠ 0 := by
  by_cases h : unfE l = 0
  · left
    have h8 : 8 ≤ l.length := by
      unfold unfE at h
      split at h
      · simp at h
      · omega
    unfold unfB
    rw [if_pos h, List.length_take, List.length_drop]
    omega
  · exact .inr h
theorem unfN_of {l : List UInt8} (h : unfE l = 0) : unfN l = 8 + unfC l ∧ unfN l ≤ l.length ∧ (unfB l).length = unfC l := by
  have h2 : unfN l = 8 + unfC l := by unfold unfN; rw [if_pos h]
  have h3 : 8 + unfC l ≤ l.length := by
    unfold unfE at h
    split at h
    · simp at h
    · split at h
      · simp at h
      · split at h
        · simp at h
        · omega
  refine ⟨h2, by omega, ?_⟩
  unfold unfB
  rw [if_pos h, List.length_take, List.length_drop]
  omega
theorem blkN_facts : ∀ (f : Nat) {r : List UInt8} {l : List Cx}, blkN f r = some l → 7 * l.length ≤ r.length ∧ ∀ c ∈ l, ReadX r.length c
  | 0, r, l, h => by
    unfold blkN at h
    split at h
    · obtain rfl := Option.some.inj h; exact ⟨by simp, fun c hc => by cases hc⟩
    · cases h
  | f + 1, r, l, h => by
    unfold blkN at h
    split at h
    · obtain rfl := Option.some.inj h; exact ⟨by simp, fun c hc => by cases hc⟩
    · split at h
      · rename_i hu
        obtain ⟨e1, e2, e3⟩ := unfN_of hu
        split at h
        · cases h
        · rename_i cs hc
          have a1 := cellsN_facts hc
          split at h
          · cases h
          · rename_i ds hd
            obtain rfl := Option.some.inj h
            have a2 := blkN_facts f hd
            rw [List.length_drop] at a2
            refine ⟨by rw [List.length_append, List.length_map]; omega, fun c hc => ?_⟩
            rcases List.mem_append.1 hc with hc | hc
            · obtain ⟨y, hy, rfl⟩ := List.mem_map.1 hc
              exact (a1.2 y hy).mono (by omega)
            · exact (a2.2 c hc).mono (by omega)
      · cases h
end Go.Proofs.YtdookhmaiapclaaGreatDoor
namespace Go.Proofs.YtdookhmaiapclaaGreatDoor
open Go.RowKit

theorem owns_carryX {w w' : World} {base n : Nat} {v : Value} {xs : List Value} (h : w.ownsRow base 59 10 v n xs) (er : ∀ g, v.ownBlock = some g → w'.heap[g]? = w.heap[g]?) : w'.ownsRow base 59 10 v n xs := by
  refine ⟨h.1, ?_⟩
  rcases h.2 with h2 | ⟨g, cap, cur, rfl, e2, r, rest⟩
  · exact .inl h2
  · exact .inr ⟨g, cap, cur, rfl, e2, (er g (by simp [Value.ownBlock])).trans r, rest⟩
theorem owns_lenX {l : List Cx} : (l.flatMap xs10).length = l.length * 10 := by
  induction l with
  | nil => rfl
  | cons c l ih => rw [List.flatMap_cons, List.length_append, xs10_len, ih, List.length_cons]; omega
theorem PAt.behind {w : World} {P b off : Nat} {r : List UInt8} {cap : Nat} (h : PAt w P b off r cap) (k : Nat) (hk : k ≤ r.length) (o' : Nat) (ho : o' = off + k ∨ k = r.length) : PAt (w.setCell ⟨P, 0, none⟩ (.slice (some ⟨b, o', none⟩) (r.length - k) (cap - k))) P b o' (r.drop k) (cap - k) := by
  have hl : (r.drop k).length = r.length - k := List.length_drop
  have h1 := h.fits
  have h2 := h.len
  have h3 := h.top
  refine ⟨by rw [hl]; exact h.box.set _, ?_, by omega, by omega, by omega, h.ne⟩
  rcases ho with rfl | rfl
  · exact (h.see.dropS k).set h.ne _
  · rw [List.drop_length]; exact Sees.nil _ _
theorem blkN_bad {f : Nat} {r : List UInt8} (h0 : r.length ≠ 0) (hu : unfE r ≠ 0) : blkN (f + 1) r = none := by
  unfold blkN
  rw [if_neg h0, if_neg hu]
theorem blkN_bad2 {f : Nat} {r : List UInt8} (h0 : r.length ≠ 0) (hu : unfE r = 0) (hc : cellsN (unfB r) = none) : blkN (f + 1) r = none := by
  unfold blkN
  rw [if_neg h0, if_pos hu, hc]
theorem blkN_more {f : Nat} {r : List UInt8} {cs : List CellV} (h0 : r.length ≠ 0) (hu : unfE r = 0) (hc : cellsN (unfB r) = some cs) (acc : List Cx) : (blkN (f + 1) r).map (acc ++ ·) = (blkN f (r.drop (unfN r))).map ((acc ++ cs.map ofC) ++ ·) := by
  rw [blkN, if_neg h0, if_pos hu, hc]
  cases blkN f (r.drop (unfN r)) with
  | none => rfl
  | some ds => simp [List.append_assoc]
set_option maxRecDepth 100000 in
set_option maxHeartbeats 600000 in
theorem cutBlocks_any {w : World} {P b off : Nat} {r : List UInt8} {cap : Nat} (h : PAt w P b off r cap) (hbw : b < w.heap.size) (hr : r.length ≤ 100000) (ht : Tab w) (hP : 0 ≠ P) (hP2 : 1 ≠ P) (ue : TypeId) (pv : Value) (he : Err w ue pv) :
    Calls Tryz.prog 49 #[.pointer (some ⟨P, 0, none⟩)] w fun e w' => Moved w w' [P] [P] ∧
      ((blkN r.length r = none ∧ e = .returned (.tuple #[.slice none 0 0, .bool false])) ∨
       (∃ l v, blkN r.length r = some l ∧ e = .returned (.tuple #[v, .bool true]) ∧ w'.ownsRow w.heap.size 59 10 v l.length (l.flatMap xs10))) := by
  obtain ⟨i1, hi1, hy0, hy1, hy2⟩ := infoX infoCx
  have HT : Hid (∀ u, Moved w u [P] [P] → Tab u) := fun u hu j hj => by
    rw [← ht j hj]; exact World.cell?_of_block (hu.kept _ (World.block_lt_of_cell? _ _ (ht j hj)) (by simp; exact hP))
  have HE : Hid (∀ u, Moved w u [P] [P] → Err u ue pv) := fun u hu => by
    unfold Err at he ⊢
    rw [← he]; exact World.cell?_of_block (hu.kept _ (World.block_lt_of_cell? _ _ he) (by simp; exact hP2))
  have HP0 : Hid (PAt w P b off r cap) := h
  have hPlt : P < w.heap.size := h.box.lt
  have HBW : Hid (b < w.heap.size) := hbw
  clear h ht he
  go_enter Tryz.func49, Tryz.ntmps49
  go_wp2_with fail
  go_loopw [4] (fun s wr => ∃ (f : Nat) (acc : List Cx) (rest : List UInt8) (o c : Nat), (blkN r.length r = (blkN f rest).map (acc ++ ·)) ∧ rest.length ≤ f ∧ rest.length ≤ r.length ∧ acc.length ≤ 100000 ∧ 7 * acc.length + rest.length ≤ r.length ∧ PAt wr P b o rest c ∧ Moved w wr [P] [P] ∧ wr.ownsRow w.heap.size 59 10 s acc.length (acc.flatMap xs10))
    (fun _ wr => match wr.cell? ⟨P, 0, none⟩ with | some (.slice _ n _) => n | _ => 0)
  case atStart => exact ⟨r.length, [], r, off, cap, by cases blkN r.length r <;> rfl, Nat.le_refl _, Nat.le_refl _, by simp, by simp, HP0.out, Moved.refl _ _, World.ownsRow_nil _ _ _ _⟩
  case round =>
    obtain ⟨f, acc, rest, o, c, hbk, hfl, hrl, hal, hsum, hPA, hM, ho⟩ := hrel
    have c0 := hPA.box.cell
    have HQ : Hid (wr.cell? ⟨P, 0, none⟩ = some (.slice (some ⟨b, o, none⟩) rest.length c)) := c0
    have hsz := hM.size
    by_cases h0 : rest.length = 0
    · have hfin : Hid (blkN r.length r = some acc) := by
        show _ = _
        rw [hbk, List.eq_nil_of_length_eq_zero h0, blkN_nil]
        simp
      rw [h0] at c0
      have HO : Hid (wr.ownsRow w.heap.size 59 10 _ acc.length (acc.flatMap xs10)) := ho
      clear hbk hPA ho h0
      go_wp2_with fail
      go_ret2
      exact ⟨hM, .inr ⟨acc, _, hfin.out, rfl, HO.out⟩⟩
    · obtain ⟨f', rfl⟩ : ∃ f', f = f' + 1 := ⟨f - 1, by omega⟩
      have htp := hPA.top
      have hcc := hPA.fits
      have hpos : (0 : Int) < (rest.length : Int) := by omega
      have U : Hid (Calls Tryz.prog 82 #[.slice (some ⟨b, o, none⟩) rest.length c] wr fun e w' => ∃ v', e = .returned (.tuple #[v', .int .i64 (unfN rest), .int .i64 (unfE rest)]) ∧ w'.ownsRow wr.heap.size 5 1 v' (unfB rest).length (B8 (unfB rest)) ∧ Below wr.heap.size wr w') := unframe_any _ rest c wr hPA.see (by omega) hcc htp (HT.out _ hM)
      have HPA : Hid (PAt wr P b o rest c) := hPA
      obtain ⟨a2, k2, rfl, -, -⟩ := owns_xsees ho
      have HO : Hid (wr.ownsRow w.heap.size 59 10 (.slice a2 acc.length k2) acc.length (acc.flatMap xs10)) := ho
      clear hPA ho
      by_cases hu : unfE rest = 0
      · obtain ⟨e1, e2, e3⟩ := unfN_of hu
        have e8 : (unfB rest).length + 8 ≤ unfN rest := by omega
        clear e1 e3
        have U : Hid (Calls Tryz.prog 82 #[.slice (some ⟨b, o, none⟩) rest.length c] wr fun e w' => ∃ v', e = .returned (.tuple #[v', .int .i64 (unfN rest), .int .i64 0]) ∧ w'.ownsRow wr.heap.size 5 1 v' (unfB rest).length (B8 (unfB rest)) ∧ Below wr.heap.size wr w') := by
          have := U.out
          rw [hu] at this
          exact this
        cases hcs : cellsN (unfB rest) with
        | none =>
          have hE : redE (unfB rest) = 8 := by unfold redE; rw [hcs]
          have hfin : Hid (blkN r.length r = none) := by show _ = _; rw [hbk, blkN_bad2 h0 hu hcs]; rfl
          clear hbk hcs hu
          go_wp2_with fail
          go_fit U.out
          rintro e w1 ⟨v1, rfl, ho1, hb1⟩
          obtain ⟨a1, k1, rfl, hs1, -, -⟩ := owns_sees ho1
          have hk1 : (unfB rest).length ≤ k1 := by
            rcases ho1.2 with ⟨h1, h2⟩ | ⟨g, cap', cur, h, _, _, hn, _⟩
            · injection h1 with e1 e2 e3; omega
            · injection h with e1 e2 e3; omega
          have RC : Hid (Calls Tryz.prog 83 #[.slice a1 (unfB rest).length k1] w1 fun e w' => ∃ v, e = .returned (.tuple #[v, .int .i64 8]) ∧ w'.ownsRow w1.heap.size 59 10 v (redC (unfB rest)).length (C10 (redC (unfB rest))) ∧ Below w1.heap.size w1 w') := by
            have := readCells_any a1 (unfB rest) k1 w1 ue pv hs1 hk1 (by omega) (HE.out _ (hM.and_below hb1))
            rw [hE] at this
            exact this
          clear ho1 hs1 U
          go_wp2_with fail
          go_fit RC.out
          rintro e w2 ⟨v2, rfl, -, hb2⟩
          go_wp2_with fail
          go_ret2
          exact ⟨(hM.and_below hb1).and_below hb2, .inl ⟨hfin.out, rfl⟩⟩
        | some cs =>
          have hE : redE (unfB rest) = 0 := by unfold redE; rw [hcs]
          have hC : redC (unfB rest) = cs := by unfold redC; rw [hcs]; rfl
          have hmore : Hid (blkN r.length r = (blkN f' (rest.drop (unfN rest))).map ((acc ++ cs.map ofC) ++ ·)) := by show _ = _; rw [hbk, blkN_more h0 hu hcs]
          have hcl := (cellsN_facts hcs).1
          obtain ⟨N, hN⟩ : ∃ N, N = unfN rest := ⟨_, rfl⟩
          rw [← hN] at U e8 e2 hmore
          clear hbk hcs hu hN
          have hN8 : 8 ≤ N := by omega
          have hNz : (N : Int) ≤ (rest.length : Int) := by omega
          obtain ⟨ds, hds⟩ : ∃ ds, ds = cs.map ofC := ⟨_, rfl⟩
          have hdl : ds.length = cs.length := by rw [hds, List.length_map]
          rw [← hds] at hmore
          go_wp2_with fail
          go_fit U.out
          rintro e w1 ⟨v1, rfl, ho1, hb1⟩
          obtain ⟨a1, k1, rfl, hs1, -, -⟩ := owns_sees ho1
          have hk1 : (unfB rest).length ≤ k1 := by
            rcases ho1.2 with ⟨h1, h2⟩ | ⟨g, cap', cur, h, _, _, hn, _⟩
            · injection h1 with e1 e2 e3; omega
            · injection h with e1 e2 e3; omega
          have RC : Hid (Calls Tryz.prog 83 #[.slice a1 (unfB rest).length k1] w1 fun e w' => ∃ v, e = .returned (.tuple #[v, .int .i64 0]) ∧ w'.ownsRow w1.heap.size 59 10 v ds.length (ds.flatMap xs10) ∧ Below w1.heap.size w1 w') := by
            have := readCells_any a1 (unfB rest) k1 w1 ue pv hs1 hk1 (by omega) (HE.out _ (hM.and_below hb1))
            rw [hE, hC, C10_ofC, ← hds, ← hdl] at this
            exact this
          have hdl2 : 7 * ds.length ≤ (unfB rest).length := by omega
          clear ho1 hs1 U hds hdl hcl
          go_wp2_with fail
          go_fit RC.out
          rintro e w2 ⟨v2, rfl, ho2, hb2⟩
          have hM2 : Moved w w2 [P] [P] := (hM.and_below hb1).and_below hb2
          have hPA2 : PAt w2 P b o rest c := (HPA.out.below hb1).below hb2
          have hs12 := hb1.size
          have hs22 := hb2.size
          have ho3 : w2.ownsRow w.heap.size 59 10 (.slice a2 acc.length k2) acc.length (acc.flatMap xs10) := owns_carryX HO.out fun g hg => by
            have hlt := (HO.out.lt g hg).2
            exact (hb2.block _ (by omega)).trans (hb1.block _ hlt)
          obtain ⟨a3, k3, rfl, hx3, hx4⟩ := owns_xsees ho2
          have hsrc : Src Tryz.prog 10 22 (.slice a3 ds.length k3) ds.length (ds.flatMap xs10) w2 := src_cells hx3 (fun e => by
            rcases ho2.2 with ⟨h1, h2⟩ | ⟨g, cap', cur, h, _⟩
            · injection h1 with q1 q2 q3
            · injection h with q1 q2 q3; rw [e] at q1; cases q1) k3
          have q0 := hPA2.box.cell
          have q1 := hPA2.box.frozen
          have hbs2 : w.heap.size ≤ w2.heap.size := hM2.size
          have HPA2 : Hid (PAt w2 P b o rest c) := hPA2
          have HO3 : Hid (w2.ownsRow w.heap.size 59 10 (.slice a2 acc.length k2) acc.length (acc.flatMap xs10)) := ho3
          clear RC ho2 hx3 hx4 hPA2 ho3 HO HPA c0
          have hnew : Hid (∀ (w3 : World) (v3 : Value) (o' : Nat), (o' = o + N ∨ N = rest.length) → w3.ownsRow w.heap.size 59 10 v3 (acc.length + ds.length) (acc.flatMap xs10 ++ ds.flatMap xs10) → Grew w2 w3 (.slice a2 acc.length k2) v3 →
              PAt (w3.setCell ⟨P, 0, none⟩ (.slice (some ⟨b, o', none⟩) (rest.length - N) (c - N))) P b o' (rest.drop N) (c - N) ∧ Moved w (w3.setCell ⟨P, 0, none⟩ (.slice (some ⟨b, o', none⟩) (rest.length - N) (c - N))) [P] [P] ∧ (w3.setCell ⟨P, 0, none⟩ (.slice (some ⟨b, o', none⟩) (rest.length - N) (c - N))).ownsRow w.heap.size 59 10 v3 (acc ++ ds).length ((acc ++ ds).flatMap xs10)) := fun w3 v3 o' ho' how hg => by
            have hnP : (Value.slice a2 acc.length k2).ownBlock ≠ some P := fun e => by
              have := (HO3.out.lt P e).1
              omega
            have hm3 : Moved w2 w3 (ownL (.slice a2 acc.length k2)) (ownL v3) := hg.moved
            have hnb : ∀ g, (Value.slice a2 acc.length k2).ownBlock = some g → w.heap.size ≤ g := fun g e => (HO3.out.lt g e).1
            have hbw : b < w.heap.size := HBW.out
            have hP3 : PAt w3 P b o rest c := HPA2.out.moved hm3 (fun e => hnP (mem_ownL.1 e)) (fun e => by have := hnb b (mem_ownL.1 e); omega)
            refine ⟨hP3.behind N e2 o' ho', ?_, ?_⟩
            · have h4 : Moved w w3 [P] [P] := ⟨hm3.os.trans hM2.os, hm3.tape.trans hM2.tape, hm3.output.trans hM2.output, Nat.le_trans hM2.size hm3.size, fun i hi hn => (hm3.kept i (by omega) fun e => by have := hnb i (mem_ownL.1 e); omega).trans (hM2.kept i hi hn), fun i hi => .inl hi⟩
              exact h4.trans (Moved.of_setP P _)
            · refine owns_carryX (by rw [List.length_append, List.flatMap_append]; exact how) fun g hg' => Below.heap_setCell _ _ _ _ fun e => ?_
              have h5 := (how.lt g hg').1
              have h6 : g = P := e
              omega
          have HQ0 : Hid (wr.cell? ⟨P, 0, none⟩ = some (.slice (some ⟨b, o, none⟩) rest.length c)) := HQ.out
          by_cases hcN : c = N
          · have hNr : Hid (N = rest.length) := by show _ = _; omega
            subst hcN
            go_wp2_with (at_builtin; go_must (refine wpList_append_grew _ rfl _ _ 22 22 rfl w.heap.size 59 i1 _ 10 112 Tryz.underlying22 hi1 hy0 hy1 hy2 rfl _ acc.length _ rfl HO3.out _ ds.length (ds.flatMap xs10) rfl hsrc (by unfold maxLen; omega) (by omega) hbs2 ?_; intro v3 w3 how hg3; have hm3 := hg3.rows.block P (by have := HPA2.out.box.lt; exact this) (fun e => by have := (HO3.out.lt P e.symm).1; omega); have q2 : w3.cell? ⟨P, 0, none⟩ = some (.slice (some ⟨b, o, none⟩) rest.length c) := (by rw [World.cell?_of_block hm3]; exact q0); have q3 : w3.frozen? ⟨P, 0, none⟩ = false := Boxed.frozen (hm3.trans HPA2.out.box); have HNW := toHidE (hnew.out w3 v3 o (.inr hNr.out) how hg3); clear how hg3 hm3))
            go_roundw
            case rel =>
              obtain ⟨n1, n2, n3⟩ := Hid.out HNW
              have z1 : rest.length - c = 0 := by have := hNr.out; omega
              rw [z1, Nat.sub_self c] at n1 n2 n3
              exact ⟨f', acc ++ ds, rest.drop c, o, 0, hmore.out, by rw [List.length_drop]; omega, by rw [List.length_drop]; omega, by rw [List.length_append]; omega, by rw [List.length_append, List.length_drop]; omega, n1, n2, n3⟩
            case measure =>
              obtain ⟨n1, n2, n3⟩ := Hid.out HNW
              have z1 : rest.length - c = 0 := by have := hNr.out; omega
              have m1 := n1.box.cell
              rw [List.length_drop, z1, Nat.sub_self c] at m1
              rw [m1, HQ0.out]
              show 0 < rest.length
              omega
          · go_wp2_with (at_builtin; go_must (refine wpList_append_grew _ rfl _ _ 22 22 rfl w.heap.size 59 i1 _ 10 112 Tryz.underlying22 hi1 hy0 hy1 hy2 rfl _ acc.length _ rfl HO3.out _ ds.length (ds.flatMap xs10) rfl hsrc (by unfold maxLen; omega) (by omega) hbs2 ?_; intro v3 w3 how hg3; have hm3 := hg3.rows.block P (by have := HPA2.out.box.lt; exact this) (fun e => by have := (HO3.out.lt P e.symm).1; omega); have q2 : w3.cell? ⟨P, 0, none⟩ = some (.slice (some ⟨b, o, none⟩) rest.length c) := (by rw [World.cell?_of_block hm3]; exact q0); have q3 : w3.frozen? ⟨P, 0, none⟩ = false := Boxed.frozen (hm3.trans HPA2.out.box); have HNW := toHidE (hnew.out w3 v3 (o + N) (.inl rfl) how hg3); clear how hg3 hm3))
            go_roundw
            case rel =>
              obtain ⟨n1, n2, n3⟩ := Hid.out HNW
              exact ⟨f', acc ++ ds, rest.drop N, (o + N), c - N, hmore.out, by rw [List.length_drop]; omega, by rw [List.length_drop]; omega, by rw [List.length_append]; omega, by rw [List.length_append, List.length_drop]; omega, n1, n2, n3⟩
            case measure =>
              obtain ⟨n1, n2, n3⟩ := Hid.out HNW
              have m1 := n1.box.cell
              rw [List.length_drop] at m1
              rw [m1, HQ0.out]
              show rest.length - N < rest.length
              omega
      · have hfin : Hid (blkN r.length r = none) := by show _ = _; rw [hbk, blkN_bad h0 hu]; rfl
        have d0 : ((unfE rest : Int) == 0) = false := by simpa using hu
        have d1 : ((unfE rest : Int) != 0) = true := by simpa using hu
        generalize unfE rest = ee at *
        clear hbk hu
        go_wp2_with fail
        go_fit U.out
        rintro e w1 ⟨v1, rfl, ho1, hb1⟩
        go_wp2_with fail
        go_ret2
        exact ⟨hM.and_below hb1, .inl ⟨hfin.out, rfl⟩⟩
end Go.Proofs.YtdookhmaiapclaaGreatDoor
namespace Go.Proofs.YtdookhmaiapclaaGreatDoor
open Go.RowKit

theorem xor_cancel {a b c : Nat} (h : a ^^^ c = b ^^^ c) : a = b := by
  have : (a ^^^ c) ^^^ c = (b ^^^ c) ^^^ c := by rw [h]
  simpa [Nat.xor_assoc] using this
theorem crcF_inj {a b : Nat} (ha : a < 4294967296) (hb : b < 4294967296) (h : crcF a = crcF b) : a = b := by
  have top : ∀ c : Nat, c < 4294967296 → (crcF c).testBit 31 = decide (c % 2 = 1) := by
    intro c hc
    unfold crcF
    rw [Nat.testBit_xor, Nat.testBit_lt_two_pow (show c / 2 < 2 ^ 31 by omega)]
    split
    · rename_i h1; simp [h1]; decide
    · rename_i h1; simp [h1]
  have h1 := top a ha
  rw [h, top b hb] at h1
  have hp : a % 2 = b % 2 := by
    rcases Nat.mod_two_eq_zero_or_one a with h2 | h2 <;> rcases Nat.mod_two_eq_zero_or_one b with h3 | h3 <;> simp [h2, h3] at h1 <;> omega
  unfold crcF at h
  rw [hp] at h
  have := xor_cancel h
  omega
theorem rep_lt (c : Nat) (h : c < 4294967296) : ∀ j, Nat.repeat crcF j c < 4294967296
  | 0 => h
  | j + 1 => crcF_lt _ (rep_lt c h j)
theorem rep_inj {a b : Nat} (ha : a < 4294967296) (hb : b < 4294967296) : ∀ j, Nat.repeat crcF j a = Nat.repeat crcF j b → a = b
  | 0, h => h
  | j + 1, h => rep_inj ha hb j (crcF_inj (rep_lt a ha j) (rep_lt b hb j) h)
theorem crc8 (c x : Nat) (hx : x < 256) : crcSs c x 8 = Nat.repeat crcF 8 (c ^^^ x) := by
  have h8 := crcSs_xor c x 8
  rwa [show x / 2 ^ 8 = 0 by omega, Nat.xor_zero] at h8
theorem crc8_left {a b x : Nat} (ha : a < 4294967296) (hb : b < 4294967296) (hx : x < 256) (h : crcSs a x 8 = crcSs b x 8) : a = b := by
  rw [crc8 a x hx, crc8 b x hx] at h
  exact xor_cancel (rep_inj (Nat.xor_lt_two_pow (n := 32) ha (by omega)) (Nat.xor_lt_two_pow (n := 32) hb (by omega)) 8 h)
theorem crc8_right {c x y : Nat} (hc : c < 4294967296) (hx : x < 256) (hy : y < 256) (h : crcSs c x 8 = crcSs c y 8) : x = y := by
  rw [crc8 c x hx, crc8 c y hy] at h
  have h1 := rep_inj (Nat.xor_lt_two_pow (n := 32) hc (by omega)) (Nat.xor_lt_two_pow (n := 32) hc (by omega)) 8 h
  rw [Nat.xor_comm c x, Nat.xor_comm c y] at h1
  exact xor_cancel h1
/-- The sum, over Nat. -/
def sumN (c : Nat) (l : List UInt8) : Nat := l.foldl (fun c b => crcSs c b.toNat 8) c
theorem sumN_lt (l : List UInt8) : ∀ c, c < 4294967296 → sumN c l < 4294967296 := by
  induction l with
  | nil => intro c h; exact h
  | cons b l ih => intro c h; exact ih _ (crcSs_lt c _ h 8)
theorem sumOnZ_nat (l : List UInt8) : ∀ c : Nat, c < 4294967296 → sumOnZ (c : Int) l = ((sumN c l : Nat) : Int) := by
  induction l with
  | nil => intro c _; rfl
  | cons b l ih =>
    intro c h
    show sumOnZ (byteZ (c : Int) (b.toNat : Int)) l = _
    rw [byteZ_nat c b.toNat h b.toNat_lt, ih _ (crcSs_lt c _ h 8)]
    rfl
theorem sumN_inj (l : List UInt8) : ∀ a b, a < 4294967296 → b < 4294967296 → sumN a l = sumN b l → a = b := by
  induction l with
  | nil => intro a b _ _ h; exact h
  | cons x l ih =>
    intro a b ha hb h
    exact crc8_left ha hb x.toNat_lt (ih _ _ (crcSs_lt a _ ha 8) (crcSs_lt b _ hb 8) h)
theorem sumN_byte (a b : List UInt8) (x y : UInt8) (c : Nat) (hc : c < 4294967296) (h : sumN c (a ++ x :: b) = sumN c (a ++ y :: b)) : x = y := by
  unfold sumN at h
  rw [List.foldl_append, List.foldl_append, List.foldl_cons, List.foldl_cons] at h
  have hca := sumN_lt a c hc
  have h1 := sumN_inj b _ _ (crcSs_lt _ _ hca 8) (crcSs_lt _ _ hca 8) h
  have h2 := crc8_right hca x.toNat_lt y.toNat_lt h1
  exact UInt8.toNat_inj.1 h2
/-- A byte that was changed changes the sum. -/
theorem sumZ_byte (a b : List UInt8) (x y : UInt8) (h : sumZ (a ++ x :: b) = sumZ (a ++ y :: b)) : x = y := by
  unfold sumZ at h
  have e : (4294967295 : Int) = ((4294967295 : Nat) : Int) := rfl
  rw [e, sumOnZ_nat _ _ (by decide), sumOnZ_nat _ _ (by decide)] at h
  exact sumN_byte a b x y 4294967295 (by decide) (by omega)

theorem frame_count (l : List UInt8) (hl : l.length ≤ 262144) (r : List UInt8) : unfC (frameL l ++ r) = l.length := by
  unfold unfC
  have e : (frameL l ++ r).take 4 = fourL l.length := by simp [frameL, fourL]
  rw [e, wordL_four _ (by omega)]
/-- A beginning of a frame. -/
theorem tells_cut (l : List UInt8) (hl : l.length ≤ 262144) (m : Nat) (hm : m < l.length + 8) : unfE ((frameL l).take m) = 10 := by
  have hlen : ((frameL l).take m).length = m := by rw [List.length_take, frameL_length]; omega
  unfold unfE
  rw [hlen]
  by_cases h8 : m < 8
  · rw [if_pos h8]
  · have hc : unfC ((frameL l).take m) = l.length := by
      unfold unfC
      rw [List.take_take, Nat.min_eq_left (by omega)]
      have := frame_count l hl []
      unfold unfC at this
      simpa using this
    rw [if_neg h8, hc, if_neg (by omega), if_pos (by omega)]
theorem sum_nat (l : List UInt8) : ((sumZ l).toNat : Int) = sumZ l ∧ (sumZ l).toNat < 4294967296 := by
  have := sumZ_bd l
  omega
/-- A whole frame, whatever stands behind it. -/
theorem tells_whole (l : List UInt8) (hl : l.length ≤ 262144) (r : List UInt8) : unfE (frameL l ++ r) = 0 ∧ unfN (frameL l ++ r) = l.length + 8 ∧ unfB (frameL l ++ r) = l := by
  have hc := frame_count l hl r
  have hlen : (frameL l ++ r).length = l.length + 8 + r.length := by rw [List.length_append, frameL_length]
  have hn := sum_nat (fourL l.length ++ l)
  have h4 : (frameL l ++ r).take 4 = fourL l.length := by simp [frameL, fourL]
  have h44 : ((frameL l ++ r).drop 4).take 4 = fourL (sumZ (fourL l.length ++ l)).toNat := by simp [frameL, fourL]
  have h8 : ((frameL l ++ r).drop 8).take l.length = l := by simp [frameL, fourL]
  have hE : unfE (frameL l ++ r) = 0 := by
    unfold unfE
    rw [hlen, hc, if_neg (by omega), if_neg (by omega), if_neg (by omega), h44, wordL_four _ hn.2, h4, h8, if_neg]
    intro h
    exact h hn.1
  refine ⟨hE, ?_, ?_⟩
  · unfold unfN; rw [if_pos hE, hc]; omega
  · unfold unfB; rw [if_pos hE, hc, h8]
theorem wordL_inj {a b c d a' b' c' d' : UInt8} (h : wordL [a, b, c, d] = wordL [a', b', c', d']) : a = a' ∧ b = b' ∧ c = c' ∧ d = d' := by
  have q : ∀ x : UInt8, x.toNat < 256 := fun x => x.toNat_lt
  have := q a; have := q b; have := q c; have := q d; have := q a'; have := q b'; have := q c'; have := q d'
  simp [wordL] at h
  refine ⟨UInt8.toNat_inj.1 ?_, UInt8.toNat_inj.1 ?_, UInt8.toNat_inj.1 ?_, UInt8.toNat_inj.1 ?_⟩ <;> omega
theorem wordL_set (q : List UInt8) (hq : q.length = 4) (j : Nat) (hj : j < 4) (y : UInt8) (hy : y ≠ q.getD j 0) : wordL (q.set j y) ≠ wordL q := by
  match q, hq with
  | [a, b, c, d], _ =>
    intro h
    rcases (show j = 0 ∨ j = 1 ∨ j = 2 ∨ j = 3 by omega) with rfl | rfl | rfl | rfl
    · exact hy (wordL_inj h).1
    · exact hy (wordL_inj h).2.1
    · exact hy (wordL_inj h).2.2.1
    · exact hy (wordL_inj h).2.2.2
/-- A frame one byte of which behind its count was changed. -/
theorem tells_turned (l : List UInt8) (hl : l.length ≤ 262144) (i : Nat) (hi4 : 4 ≤ i) (hi : i < l.length + 8) (y : UInt8) (hy : y ≠ (frameL l).getD i 0) : unfE ((frameL l).set i y) = 8 := by
  have hn := sum_nat (fourL l.length ++ l)
  have hlen : ((frameL l).set i y).length = l.length + 8 := by rw [List.length_set, frameL_length]
  have hc : unfC ((frameL l).set i y) = l.length := by
    unfold unfC
    rw [List.take_set_of_le (by omega)]
    have := frame_count l hl []
    unfold unfC at this
    simpa using this
  have h4 : ((frameL l).set i y).take 4 = fourL l.length := by
    rw [List.take_set_of_le (by omega)]
    simp [frameL, fourL]
  unfold unfE
  rw [hlen, hc, if_neg (by omega), if_neg (by omega), if_neg (by omega), h4, if_pos]
  generalize hS : (sumZ (fourL l.length ++ l)).toNat = S at *
  have hf : frameL l = fourL l.length ++ (fourL S ++ l) := by unfold frameL; rw [hS]
  have hp4 : (fourL l.length).length = 4 := rfl
  have hq4 : (fourL S).length = 4 := rfl
  rw [hf] at hy ⊢
  generalize fourL l.length = p at *
  have hw := wordL_four S hn.2
  generalize fourL S = q at *
  by_cases h8 : i < 8
  · have e : (p ++ (q ++ l)).set i y = p ++ (q.set (i - 4) y ++ l) := by
      rw [List.set_append_right _ _ (by omega), hp4, List.set_append_left _ _ (by omega)]
    have e1 : ((p ++ (q.set (i - 4) y ++ l)).drop 4).take 4 = q.set (i - 4) y := by
      rw [List.drop_append_of_le_length (by omega), List.drop_of_length_le (by omega), List.nil_append, List.take_append_of_le_length (by rw [List.length_set]; omega), List.take_of_length_le (by rw [List.length_set]; omega)]
    have e2 : ((p ++ (q.set (i - 4) y ++ l)).drop 8).take l.length = l := by
      rw [← List.append_assoc, List.drop_append_of_le_length (by rw [List.length_append, List.length_set]; omega), List.drop_of_length_le (by rw [List.length_append, List.length_set]; omega), List.nil_append, List.take_of_length_le (Nat.le_refl _)]
    rw [e, e1, e2, ← hn.1]
    have hy' : y ≠ q.getD (i - 4) 0 := by
      intro h
      apply hy
      rw [h]
      simp only [List.getD_eq_getElem?_getD]
      rw [List.getElem?_append_right (by omega), hp4, List.getElem?_append_left (by omega)]
    have := wordL_set q hq4 (i - 4) (by omega) y hy'
    rw [hw] at this
    omega
  · obtain ⟨j, rfl⟩ : ∃ j, i = 8 + j := ⟨i - 8, by omega⟩
    have hj : j < l.length := by omega
    have e : (p ++ (q ++ l)).set (8 + j) y = p ++ (q ++ l.set j y) := by
      rw [List.set_append_right _ _ (by omega), hp4, List.set_append_right _ _ (by omega), hq4]
      congr 3
      omega
    have e1 : ((p ++ (q ++ l.set j y)).drop 4).take 4 = q := by
      rw [List.drop_append_of_le_length (by omega), List.drop_of_length_le (by omega), List.nil_append, List.take_append_of_le_length (by omega), List.take_of_length_le (by omega)]
    have e2 : ((p ++ (q ++ l.set j y)).drop 8).take l.length = l.set j y := by
      rw [← List.append_assoc, List.drop_append_of_le_length (by rw [List.length_append]; omega), List.drop_of_length_le (by rw [List.length_append]; omega), List.nil_append, List.take_of_length_le (by rw [List.length_set]; omega)]
    rw [e, e1, e2, hw, hn.1]
    intro h
    have hy' : y ≠ l[j] := by
      intro h'
      apply hy
      rw [h']
      simp only [List.getD_eq_getElem?_getD]
      rw [List.getElem?_append_right (by omega), hp4, List.getElem?_append_right (by omega), hq4, show 8 + j - 4 - 4 = j by omega, List.getElem?_eq_getElem hj]
      rfl
    apply hy'
    have s1 : l = l.take j ++ l[j] :: l.drop (j + 1) := by rw [← List.drop_eq_getElem_cons hj, List.take_append_drop]
    have s2 : l.set j y = l.take j ++ y :: l.drop (j + 1) := by rw [List.set_eq_take_append_cons_drop, if_pos hj]
    have h3 : sumZ ((p ++ l.take j) ++ y :: l.drop (j + 1)) = sumZ ((p ++ l.take j) ++ l[j] :: l.drop (j + 1)) := by
      rw [List.append_assoc, List.append_assoc, ← s2, ← s1, h]
    exact sumZ_byte _ _ _ _ h3
/-- A byte one bit of which was turned. -/
theorem flip_text (x : UInt8) (j : Nat) (hj : j < 8) : ∃ y : UInt8, (y.toNat : Int) = bits BinOp.xor IntKind.u8 (x.toNat : Int) (2 ^ j % 256) ∧ y ≠ x := by
  have hx : x.toNat < 256 := x.toNat_lt
  have h2 : 2 ^ j ≤ 2 ^ 7 := Nat.pow_le_pow_right (by omega) (by omega)
  have h2p : 0 < 2 ^ j := Nat.pow_pos (by omega)
  have e : (2 : Int) ^ j % 256 = ((2 ^ j : Nat) : Int) := by
    have e1 : (2 : Int) ^ j = ((2 ^ j : Nat) : Int) := by simp
    rw [e1]
    generalize 2 ^ j = q at *
    omega
  have hlt : x.toNat ^^^ 2 ^ j < 256 := Nat.xor_lt_two_pow (n := 8) hx (by omega)
  refine ⟨UInt8.ofNat (x.toNat ^^^ 2 ^ j), ?_, ?_⟩
  · rw [e, u8_xor_nat _ _ hx (by omega), byte_val _ hlt]
  · intro h
    have h3 := congrArg UInt8.toNat h
    have h4 : (UInt8.ofNat (x.toNat ^^^ 2 ^ j)).toNat = x.toNat ^^^ 2 ^ j := ofNat_toNat8 _ hlt
    rw [h4] at h3
    have h5 : (2 ^ j) ^^^ x.toNat = 0 ^^^ x.toNat := by rw [Nat.xor_comm, h3]; simp
    have := xor_cancel h5
    omega
end Go.Proofs.YtdookhmaiapclaaGreatDoor
namespace Go.Proofs.YtdookhmaiapclaaGreatDoor
open Go.RowKit

theorem get_num {u : Nat} (h : u < 18446744073709551616) (r : List UInt8) : getV (numL u ++ r) = u ∧ getK (numL u ++ r) = (numL u).length ∧ (numL u ++ r).drop (getK (numL u ++ r)) = r := by
  have hg := get_back u h r
  have h1 : getV (numL u ++ r) = u := by unfold getV; rw [hg]
  have h2 : getK (numL u ++ r) = (numL u).length := by unfold getK; rw [hg]; show (numL u ++ r).length - r.length = _; rw [List.length_append]; omega
  exact ⟨h1, h2, by rw [h2]; exact List.drop_left⟩
/-- What a good cell's bytes tell is the cell. -/
theorem plain_good {c : Cx} (h : goodC c = true) : plainC (toC c) = toC c := by
  obtain ⟨k, ⟨t, d, lo, kd, n, s⟩⟩ := c
  unfold goodC at h
  rw [Bool.and_eq_true] at h
  have h2 := h.2
  unfold goodV zeroVal at h2
  unfold plainC plainV toC
  cases d
  · simp only [Bool.false_eq_true, if_false, Bool.and_eq_true, beq_iff_eq] at h2 ⊢
    rw [h2.1]
  · simp only [if_true, Bool.and_eq_true, beq_iff_eq, decide_eq_true_eq] at h2 ⊢
    obtain ⟨h3, h4, h5⟩ := h2
    have h6 : s = ⟨#[]⟩ := size0 h5
    rw [h3, h4, h6]
    rfl
/-- What is asked of cells that were written. -/
structure Wrt (l : List Cx) : Prop where
  good : ∀ c ∈ l, goodC c = true
  num : ∀ c ∈ l, c.Nums
  len : l.length ≤ 9000
theorem Wrt.small {l : List Cx} (h : Wrt l) : ∀ c ∈ l, SmallX c := fun c hc => good_small (h.good c hc)
theorem cells_again {l : List Cx} (h : Wrt l) (k : Nat) : cellsN (cxB (chk l k)) = some ((chk l k).map toC) := by
  unfold cxB
  have h2 := chk_len l k
  rw [cellsN_back _ (fun c hc => by
    obtain ⟨y, hy, rfl⟩ := List.mem_map.1 hc
    refine ⟨(h.num y (chk_mem hy)).ok, ?_⟩
    obtain ⟨a1, a2, a3, a4⟩ := h.small y (chk_mem hy)
    show y.k.t.size + y.k.p.size + y.k.c.size + y.v.s.size < _
    omega) (by rw [List.length_map]; omega), List.map_map]
  congr 1
  refine List.map_congr_left fun c hc => ?_
  exact plain_good (h.good c (chk_mem hc))
theorem chk_drop (l : List Cx) (k : Nat) : chk l k ++ l.drop (8 * (k + 1)) = l.drop (8 * k) := by
  unfold chk
  have e : l.drop (8 * (k + 1)) = (l.drop (8 * k)).drop 8 := by rw [List.drop_drop]; congr 1
  rw [e, List.take_append_drop]
theorem blkN_back {l : List Cx} (h : Wrt l) : ∀ (j k : Nat), k + j = nBk l.length → ∀ f, (blksB l (List.range' k j)).length ≤ f → blkN f (blksB l (List.range' k j)) = some (l.drop (8 * k))
  | 0, k, hk, f, _ => by
    have e : l.drop (8 * k) = [] := List.drop_of_length_le (by unfold nBk at hk; omega)
    rw [e]
    exact blkN_nil f
  | j + 1, k, hk, f, hf => by
    have e1 : List.range' k (j + 1) = k :: List.range' (k + 1) j := rfl
    have e2 : blksB l (List.range' k (j + 1)) = frameL (cxB (chk l k)) ++ blksB l (List.range' (k + 1) j) := by rw [e1]; unfold blksB; rw [List.flatMap_cons]; rfl
    rw [e2] at hf ⊢
    rw [List.length_append, frameL_len] at hf
    obtain ⟨f', rfl⟩ : ∃ f', f = f' + 1 := ⟨f - 1, by omega⟩
    have hcl := chkB_len h.small k
    obtain ⟨t1, t2, t3⟩ := tells_whole (cxB (chk l k)) (by omega) (blksB l (List.range' (k + 1) j))
    have hne : (frameL (cxB (chk l k)) ++ blksB l (List.range' (k + 1) j)).length ≠ 0 := by rw [List.length_append, frameL_len]; omega
    have hdr : (frameL (cxB (chk l k)) ++ blksB l (List.range' (k + 1) j)).drop (unfN (frameL (cxB (chk l k)) ++ blksB l (List.range' (k + 1) j))) = blksB l (List.range' (k + 1) j) := by
      rw [t2, ← frameL_len]; exact List.drop_left
    rw [blkN, if_neg hne, if_pos t1, t3, cells_again h k, hdr, blkN_back h j (k + 1) (by omega) f' (by omega)]
    simp only [List.map_map]
    congr 1
    have e3 : (chk l k).map (ofC ∘ toC) = chk l k := by
      have : (ofC ∘ toC) = id := by funext c; exact ofC_toC c
      rw [this, List.map_id]
    rw [e3, chk_drop]
/-- All of a table's bytes: its cells, its filter. -/
def opN (b : List UInt8) : Option (List Cx × Nat × List UInt8) :=
  match endN b with
  | none => none
  | some (m, x, y) => match fltN (b.take m) y with
    | none => none
    | some (m2, k, bits) => if m2 < x then none else match blkN (b.take (m2 - x)).length (b.take (m2 - x)) with
      | none => none
      | some l => some (l, k, bits)
theorem flt_back {l : List Cx} (h : l.length ≤ 9000) : okF (fltB l) = true ∧ getV (fltB l) = 7 ∧ (fltB l).drop (getK (fltB l) + getK ((fltB l).drop (getK (fltB l)))) = filB l.length l := by
  have hn : (filB l.length l).length = nOf l.length 10 := filB_len _ _
  have hb : nOf l.length 10 ≤ 11251 ∧ 1 ≤ nOf l.length 10 := by unfold nOf; omega
  have e : fltB l = numL 7 ++ (numL (filB l.length l).length ++ filB l.length l) := by unfold fltB encF; rw [List.append_assoc]
  obtain ⟨a1, a2, a3⟩ := get_num (u := 7) (by decide) (numL (filB l.length l).length ++ filB l.length l)
  obtain ⟨b1, b2, b3⟩ := get_num (u := (filB l.length l).length) (by omega) (filB l.length l)
  rw [← e] at a1 a2 a3
  have hd : (fltB l).drop (getK (fltB l) + getK ((fltB l).drop (getK (fltB l)))) = filB l.length l := by
    rw [← List.drop_drop, a3, b3]
  refine ⟨?_, a1, hd⟩
  unfold okF
  rw [decide_eq_true_eq]
  refine ⟨by omega, by omega, by rw [a3, b1]; omega, by rw [a3, b1]; omega, ?_⟩
  have := congrArg List.length hd
  rw [List.length_drop] at this
  rw [this, a3, b1]
theorem take_app {α : Type} (a b : List α) : (a ++ b).take a.length = a := List.take_left
theorem open_back {l : List Cx} (h : Wrt l) : opN (encTb l) = some (l, 7, filB l.length l) := by
  have hsm := h.small
  have hnb : nBk l.length ≤ 1125 := by have := h.len; unfold nBk; omega
  have lB := blksB_len hsm (allK l)
  have lI := idxB_len hsm (allK l)
  have lF := fltB_len l
  have lE := endC_len l
  rw [allK_len] at lB lI
  have hnO : nOf l.length 10 ≤ 11251 := by have := h.len; unfold nOf; omega
  have hbk := blkN_back h (nBk l.length) 0 (by omega) (blksB l (allK l)).length (by unfold allK; rw [List.range_eq_range']; exact Nat.le_refl _)
  rw [← List.range_eq_range'] at hbk
  have hbk2 : blkN (blksB l (allK l)).length (blksB l (allK l)) = some l := by
    rw [Nat.mul_zero, List.drop_zero] at hbk
    exact hbk
  obtain ⟨f1, f2, f3⟩ := flt_back h.len
  have hE : ∃ S, endC l = numL l.length ++ (numL (blksB l (allK l)).length ++ (numL (frameL (idxB l (allK l))).length ++ (numL (frameL (fltB l)).length ++ numL S))) := ⟨_, rfl⟩
  obtain ⟨S, hE⟩ := hE
  have hl := h.len
  have hFIl := frameL_len (idxB l (allK l))
  have hFFl := frameL_len (fltB l)
  obtain ⟨x1, x2, x3⟩ := get_num (u := l.length) (by omega) (numL (blksB l (allK l)).length ++ (numL (frameL (idxB l (allK l))).length ++ (numL (frameL (fltB l)).length ++ numL S)))
  obtain ⟨y1, y2, y3⟩ := get_num (u := (blksB l (allK l)).length) (by omega) (numL (frameL (idxB l (allK l))).length ++ (numL (frameL (fltB l)).length ++ numL S))
  obtain ⟨z1, z2, z3⟩ := get_num (u := (frameL (idxB l (allK l))).length) (by omega) (numL (frameL (fltB l)).length ++ numL S)
  obtain ⟨u1, u2, u3⟩ := get_num (u := (frameL (fltB l)).length) (by omega) (numL S)
  have hb1 : behN 1 (endC l) = numL (blksB l (allK l)).length ++ (numL (frameL (idxB l (allK l))).length ++ (numL (frameL (fltB l)).length ++ numL S)) := by show (endC l).drop (getK (endC l)) = _; rw [hE, x3]
  have hb2 : behN 2 (endC l) = numL (frameL (idxB l (allK l))).length ++ (numL (frameL (fltB l)).length ++ numL S) := by show (behN 1 (endC l)).drop (getK (behN 1 (endC l))) = _; rw [hb1, y3]
  have hb3 : behN 3 (endC l) = numL (frameL (fltB l)).length ++ numL S := by show (behN 2 (endC l)).drop (getK (behN 2 (endC l))) = _; rw [hb2, z3]
  have v2 : getV (behN 2 (endC l)) = (frameL (idxB l (allK l))).length := by rw [hb2]; exact z1
  have v3 : getV (behN 3 (endC l)) = (frameL (fltB l)).length := by rw [hb3]; exact u1
  obtain ⟨t1, t2, t3⟩ := tells_whole (endC l) (by omega) []
  rw [List.append_nil] at t1 t2 t3
  obtain ⟨s1, s2, s3⟩ := tells_whole (fltB l) (by omega) []
  rw [List.append_nil] at s1 s2 s3
  have hT : encTb l = headB l ++ frameL (endC l) ++ [UInt8.ofNat (frameL (endC l)).length] := rfl
  have hEl := frameL_len (endC l)
  have hlen : (encTb l).length = (headB l).length + (frameL (endC l)).length + 1 := by rw [hT, List.length_append, List.length_append]; rfl
  have hlast : ((encTb l).getD ((encTb l).length - 1) 0).toNat = (frameL (endC l)).length := by
    rw [hlen, Nat.add_sub_cancel, hT]
    have e : (headB l).length + (frameL (endC l)).length = (headB l ++ frameL (endC l)).length := by rw [List.length_append]
    rw [e]
    simp only [List.getD, List.getElem?_concat_length, Option.getD_some]
    rw [UInt8.toNat_ofNat_of_lt' (by show (frameL (endC l)).length < 256; rw [hEl]; omega)]
  have htk : (encTb l).take ((encTb l).length - 1) = headB l ++ frameL (endC l) := by
    rw [hlen, Nat.add_sub_cancel, hT]
    have e : (headB l).length + (frameL (endC l)).length = (headB l ++ frameL (endC l)).length := by rw [List.length_append]
    rw [e, take_app]
  have hm : (encTb l).length - 1 - (frameL (endC l)).length = (headB l).length := by omega
  have hend : endN (encTb l) = some ((headB l).length, (frameL (idxB l (allK l))).length, (frameL (fltB l)).length) := by
    unfold endN
    rw [hlast, htk, hm, if_neg (by omega), if_neg (by omega), List.drop_left, if_pos t1, t3, v2, v3]
  have hhd : (encTb l).take (headB l).length = headB l := by rw [hT, List.append_assoc, take_app]
  have hH : headB l = (blksB l (allK l) ++ frameL (idxB l (allK l))) ++ frameL (fltB l) := rfl
  have hHl : (headB l).length = (blksB l (allK l) ++ frameL (idxB l (allK l))).length + (frameL (fltB l)).length := by rw [hH, List.length_append]
  have hdf : (headB l).drop ((headB l).length - (frameL (fltB l)).length) = frameL (fltB l) := by
    rw [hHl, Nat.add_sub_cancel, hH, List.drop_left]
  have hflt : fltN (headB l) (frameL (fltB l)).length = some ((blksB l (allK l) ++ frameL (idxB l (allK l))).length, 7, filB l.length l) := by
    unfold fltN
    rw [if_neg (by omega), hdf, s3, if_pos ⟨s1, f1⟩, f2, f3, hHl, Nat.add_sub_cancel]
  have hlt : ¬ ((blksB l (allK l) ++ frameL (idxB l (allK l))).length < (frameL (idxB l (allK l))).length) := by rw [List.length_append]; omega
  have htb : (encTb l).take ((blksB l (allK l) ++ frameL (idxB l (allK l))).length - (frameL (idxB l (allK l))).length) = blksB l (allK l) := by
    rw [List.length_append, Nat.add_sub_cancel, hT, hH, List.append_assoc, List.append_assoc, List.append_assoc, take_app]
  unfold opN
  rw [hend]
  simp only []
  rw [hhd, hflt]
  simp only []
  rw [if_neg hlt, htb, hbk2]
end Go.Proofs.YtdookhmaiapclaaGreatDoor
namespace Go.Proofs.YtdookhmaiapclaaGreatDoor
open Go.RowKit

theorem filB_step {n : Nat} {l : List Cx} {i : Nat} {c : Cx} (h : l[i]? = some c) : filB n (l.take (i + 1)) = addK (filB n (l.take i)) (sumB (encK c.k.ky) 0#64) 7 := by
  unfold filB
  rw [takeX_succ h, List.foldl_append]
  rfl
set_option maxRecDepth 100000 in
set_option maxHeartbeats 1000000 in
theorem filterOf_any (ao : Option Addr) (l : List Cx) (cap : Nat) (w : World) (hs : XSees w ao l) (hl : l.length ≤ 20000) (hok : ∀ c ∈ l, c.k.Ok) :
    Calls Tryz.prog 57 #[.slice ao l.length cap] w fun e w' => ∃ m : FM, e = .returned m.v ∧ FAt w' m 7 (filB l.length l) ∧ w.heap.size ≤ m.d ∧ w.heap.size ≤ m.g ∧ Below w.heap.size w w' := by
  have hlz : (l.length : Int) ≤ 20000 := by omega
  have Hok : Hid (∀ c ∈ l, c.k.Ok) := hok
  have N : Hid (Calls Tryz.prog 92 #[.int .i64 (l.length : Int), .int .i64 10] w fun e w' => ∃ m : FM, e = .returned m.v ∧ FAt w' m 7 (List.replicate (nOf l.length 10) 0) ∧ w.heap.size ≤ m.d ∧ w.heap.size ≤ m.g ∧ w.grownBy w' none) := new_any l.length 10 (by omega) (by decide) (by decide) w
  clear hok
  go_enter Tryz.func57, Tryz.ntmps57
  go_wp2_with fail
  refine N.out.mono ?_
  rintro e w1 ⟨m, rfl, hF, hd, hg, hgr⟩
  have hb1 : Below w.heap.size w w1 := (Below.refl _ _).grown hgr (Nat.le_refl _) (fun k hk => by cases hk)
  have HF : Hid (FAt w1 m 7 (filB l.length (l.take 0))) := hF
  clear hF N
  go_wp2_with fail
  go_loopw [11] (fun s wr => ∃ i : Nat, i ≤ l.length ∧ s = .int .i64 i ∧ FAt wr m 7 (filB l.length (l.take i)) ∧ Below w.heap.size w wr) (fun s _ => l.length - (intOf s).toNat)
  case atStart => exact ⟨0, by omega, rfl, HF.out, hb1⟩
  case round =>
    obtain ⟨i, hi, rfl, hF, hbr⟩ := hrel
    rcases Nat.lt_or_ge i l.length with hlt | hge
    · have hc : l[i]? = some l[i] := List.getElem?_eq_getElem hlt
      have hko := Hok.out _ (List.getElem_mem hlt)
      have Hst : Hid (filB l.length (l.take (i + 1)) = addK (filB l.length (l.take i)) (sumB (encK l[i].k.ky) 0#64) 7) := filB_step hc
      obtain ⟨b, off, rfl, x1⟩ := (hs.below hbr (Nat.le_refl _)) i _ hc
      obtain ⟨wa, hwa⟩ : ∃ wa, wa = wr.alloc (.cells l[i].a 59) := ⟨_, rfl⟩
      have hba : Below wr.heap.size wr wa := by rw [hwa]; exact (Below.refl _ _).alloc (Nat.le_refl _) _
      have T : TenX wa wr.heap.size 0 l[i] := by rw [hwa]; exact TenX.new wr _ _
      have K : Hid (Calls Tryz.prog 43 #[l[i].k.v] wa fun e w' => ∃ v, e = .returned v ∧ Aw wa w' v (encK l[i].k.ky)) := bytes_any _ wa hko
      have HF2 : Hid (∀ u, Below wa.heap.size wa u → FAt u m 7 (filB l.length (l.take i))) := fun u hu => (hF.below hba (Nat.le_refl _)).below hu (Nat.le_refl _)
      have hltz : (i : Int) < (l.length : Int) := by omega
      have hkl : (encK l[i].k.ky).length ≤ 20000000 := by
        have h1 := encT_le l[i].k.t (Nat.le_trans hko.t (by decide))
        have h2 := encT_le l[i].k.p (Nat.le_trans hko.p (by decide))
        have h3 := encT_le l[i].k.c (Nat.le_trans hko.c (by decide))
        have h4 : (encR l[i].k.r).length = 8 := be_length _ _
        unfold encK Kb.ky
        simp only [List.length_append]
        omega
      generalize l[i] = c at *
      clear hc hko
      generalize encK c.k.ky = bs at *
      obtain ⟨⟨ct, cp, cr, cc⟩, ⟨cti, cd, cl, ck, cn, cstr⟩⟩ := c
      obtain ⟨k0, k1, k2, k3, k4, k5, k6, k7, k8, k9⟩ := x1
      obtain ⟨t0, t1, t2, t3, -, -, -, -, -, -⟩ := T
      simp only [Cx.a, Kb.v, Nat.zero_add] at k0 k1 k2 k3 k4 k5 k6 k7 k8 k9 t0 t1 t2 t3 K hwa
      go_wp2_with fail
      rw [← hwa]
      clear hwa
      go_wp2_with fail
      refine K.out.mono ?_
      rintro e w2 ⟨v2, rfl, hA⟩
      obtain ⟨ao2, cap2, rfl, hs2, -, -⟩ := owns_sees hA.own
      have hc2 : bs.length ≤ cap2 := by
        rcases hA.own.2 with ⟨h1, h2⟩ | ⟨g, cap', cur, h, _, _, hn, _⟩
        · omega
        · cases h; exact hn
      have A : Hid (Calls Tryz.prog 93 #[m.v, .slice ao2 bs.length cap2] w2 fun e w' => e = .returned (.tuple #[]) ∧ FAt w' m 7 (addK (filB l.length (l.take i)) (sumB bs 0#64) 7) ∧ w2.grownBy w' (some m.g)) := add_any (HF2.out _ hA.bel) ao2 bs cap2 (by omega) hc2 hs2
      have hb2 : Below w.heap.size w w2 := (hbr.trans (hba.mono hbr.size)).trans (hA.bel.mono (Nat.le_trans hbr.size hba.size))
      clear hA hs2 K t0 t1 t2 t3 k0 k1 k2 k3 k4 k5 k6 k7 k8 k9 hba HF2 hF hs
      go_wp2_with fail
      refine A.out.mono ?_
      rintro e w3 ⟨rfl, hF3, hg3⟩
      go_wp2_with fail
      go_roundw
      case rel => exact ⟨i + 1, by omega, by simp, by rw [Hst.out]; exact hF3, hb2.grown hg3 hb2.size (fun k hk => by cases hk; exact hg)⟩
      case measure => simp [intOf]; omega
    · obtain rfl : i = l.length := by omega
      rw [List.take_length] at hF
      go_wp2_with fail
      go_ret
      exact ⟨m, rfl, hF, hd, hg, hbr⟩
end Go.Proofs.YtdookhmaiapclaaGreatDoor
namespace Go.Proofs.YtdookhmaiapclaaGreatDoor
open Go.RowKit Go.Shelf

attribute [local go_sem] Oper.semAt_some Oper.pureAt Oper.pureUpon

theorem Tab.belowB {w w' : World} (h : Tab w) {B : Nat} (hb : Below B w w') (hB : 0 < B) : Tab w' := fun j hj => by
  rw [hb.cell (p := ⟨0, j, none⟩) hB]; exact h j hj
theorem xsees_belowB {w w' : World} {b off : Nat} {l : List Cx} (h : XSees w (some ⟨b, off, none⟩) l) {B : Nat} (hb : Below B w w') (hB : b < B) : XSees w' (some ⟨b, off, none⟩) l := fun i c hc => by
  obtain ⟨b', off', e, t⟩ := h i c hc
  cases e
  exact ⟨b, off, rfl, t.below hb hB⟩
theorem chk_at {l : List Cx} {k i : Nat} {c : Cx} (h : (chk l k)[i]? = some c) : l[8 * k + i]? = some c := by
  unfold chk at h
  rw [List.getElem?_take] at h
  split at h
  · rw [List.getElem?_drop] at h; exact h
  · cases h
theorem xsees_chk {w : World} {b off : Nat} {l : List Cx} (h : XSees w (some ⟨b, off, none⟩) l) (k : Nat) : XSees w (some ⟨b, off + 8 * k * 10, none⟩) (chk l k) := fun i c hc => by
  obtain ⟨b', off', e, t⟩ := h _ c (chk_at hc)
  cases e
  refine ⟨b, _, rfl, ?_⟩
  have e : off + (8 * k + i) * 10 = off + 8 * k * 10 + i * 10 := by omega
  rw [← e]
  exact t
theorem chk_size (l : List Cx) (k : Nat) : (chk l k).length = min 8 (l.length - 8 * k) := by unfold chk; rw [List.length_take, List.length_drop]
theorem chk_cons {l : List Cx} {k : Nat} (h : k < nBk l.length) : ∃ c r, chk l k = c :: r := by
  have h1 := chk_size l k
  have h2 : 0 < (chk l k).length := by unfold nBk at h; omega
  cases hc : chk l k with
  | cons c r => exact ⟨c, r, rfl⟩
  | nil => rw [hc] at h2; simp at h2
theorem blksB_snoc (l : List Cx) (ks : List Nat) (k : Nat) : blksB l (ks ++ [k]) = blksB l ks ++ frameL (cxB (chk l k)) := by unfold blksB; rw [List.flatMap_append]; simp [blkB]
theorem idxB_snoc (l : List Cx) (ks : List Nat) (k : Nat) : idxB l (ks ++ [k]) = idxB l ks ++ txtL (kyB (chk l k)) ++ numL (frameL (cxB (chk l k))).length := by
  unfold idxB
  rw [List.flatMap_append]
  simp [ixB, blkB, List.append_assoc]
theorem vals_len {N : Nat} (l : List (Fin N)) : (vals l).length = l.length := List.length_map _
set_option maxRecDepth 100000 in
set_option maxHeartbeats 4000000 in
theorem blocks_any {w : World} {W base : Nat} {v : Value} {xs : List UInt8} (h : WAt w W base v xs) (b off cap : Nat) (l : List Cx) (hs : XSees w (some ⟨b, off, none⟩) l) (hpos : 0 < l.length) (hl : l.length ≤ 9000) (hcap : l.length ≤ cap) (hsm : ∀ c ∈ l, SmallX c) (hnum : ∀ c ∈ l, c.Nums)
    (hb : b < base) (ht : Tab w) (hg : 0 < base) (hW : base ≤ W) (hbs : base ≤ w.heap.size) (hx : xs.length ≤ 1000000) :
    Calls Tryz.prog 55 #[.pointer (some ⟨W, 0, none⟩), .slice (some ⟨b, off, none⟩) l.length cap] w fun e w' => ∃ iv v', e = .returned iv ∧ w'.ownsRow w.heap.size 5 1 iv (idxB l (allK l)).length (B8 (idxB l (allK l))) ∧ WAt w' W base v' (xs ++ blksB l (allK l)) ∧ (∀ g, v'.ownBlock = some g → iv.ownBlock ≠ some g) ∧ Below base w w' := by
  refine (callsIn_wide (n := 3)).1 ?_
  have hro : Fence.wide.round = none := rfl
  have h1 : 1 ≤ 3 := by omega
  have hlz : (l.length : Int) ≤ 9000 := by omega
  obtain ⟨wB, hwB⟩ : ∃ wB, wB = (w.alloc (.cells #[.pointer (some ⟨W, 0, none⟩)] 102)).alloc (.cells #[.int .u64 (nBk l.length : Int)] 73) := ⟨_, rfl⟩
  have hbB : Below w.heap.size w wB := by rw [hwB]; exact ((Below.refl _ _).alloc (Nat.le_refl _) _).alloc (by simp) _
  have bwB : Boxed wB w.heap.size 102 (.pointer (some ⟨W, 0, none⟩)) := by rw [hwB]; exact (Boxed.new w _ _).alloc _
  have hUs : USees wB (w.heap.size + 1) [nBk l.length] := fun i u hu => by
    have hi : i = 0 := by have := (List.getElem?_eq_some_iff.1 hu).1; simp at this; exact this
    subst hi
    obtain rfl : nBk l.length = u := Option.some.inj hu
    have := (Boxed.new (w.alloc (.cells #[.pointer (some ⟨W, 0, none⟩)] 102)) 73 (.int .u64 (nBk l.length : Int))).cell
    rw [World.size_alloc] at this
    rw [hwB]; exact this
  have sB : wB.heap.size = w.heap.size + 1 + 1 := by rw [hwB]; simp
  have hnb : nBk l.length ≤ 1125 := by unfold nBk; omega
  have NM : Hid (Calls Tryz.prog 60 #[.slice (some ⟨w.heap.size + 1, 0, none⟩) 1 1] wB fun e w' => ∃ v, e = .returned v ∧ w'.ownsRow wB.heap.size 5 1 v (idxB l []).length (B8 (idxB l [])) ∧ Below wB.heap.size wB w') := by
    have := numbers_any (w.heap.size + 1) [nBk l.length] 1 wB hUs (by omega) (by simp) (fun u hu => by simp at hu; omega)
    have e : numsL [nBk l.length] = idxB l [] := by simp [numsL, idxB]
    rw [e] at this
    exact this
  have BO : Hid (∀ u : World, Calls Tryz.prog 45 #[.int .i64 (l.length : Int)] u fun e w' => e = .returned (.int .i64 (nBk l.length : Int)) ∧ w' = u) := fun u => blocksOf_any l.length (by omega) u
  have Hwrap : IntKind.u64.wrap (nBk l.length : Int) = (nBk l.length : Int) := by rw [IntKind.wrap_u64]; omega
  refine callsIn_of_wp_marks Tryz.func55 rfl trivial ?_ hro
  simp only [Tryz.ntmps55, List.size_toArray, List.length_cons, List.length_nil, Nat.reduceAdd, Nat.reduceSub, Array.replicate_succ, Array.replicate_zero, List.push_toArray, List.append_toArray, List.nil_append, List.cons_append]
  refine wpIn_wide.2 ?_
  go_wp2_with fail
  refine (BO.out _).mono ?_
  rintro e w' ⟨rfl, rfl⟩
  go_wp2_with fail
  rw [← hwB]
  refine NM.out.mono ?_
  rintro e w1 ⟨v1, rfl, ho1, hb1⟩
  obtain ⟨a1, c1, rfl, -, -, -⟩ := owns_sees ho1
  clear NM BO hUs hwB
  obtain ⟨w2, hw2⟩ : ∃ w2, w2 = w1.alloc (.cells #[.slice a1 (idxB l []).length c1] 29) := ⟨_, rfl⟩
  have CH : Hid (Calls Tryz.prog 88 #[.slice (some ⟨b, off, none⟩) l.length cap, .int .i64 8] w2 fun e w' => e = .returned (.func (.func 117) #[] #[.pointer (some ⟨w2.heap.size, 0, none⟩), .pointer (some ⟨w2.heap.size + 1, 0, none⟩)]) ∧ w' = (w2.alloc (.cells #[.slice (some ⟨b, off, none⟩) l.length cap] 22)).alloc (.cells #[.int .i64 8] 3)) := chunk_any _ _ _ w2
  obtain ⟨w3, hw3⟩ : ∃ w3, w3 = (w2.alloc (.cells #[.slice (some ⟨b, off, none⟩) l.length cap] 22)).alloc (.cells #[.int .i64 8] 3) := ⟨_, rfl⟩
  rw [← hw3] at CH
  have q1 : Boxed w3 w2.heap.size 22 (.slice (some ⟨b, off, none⟩) l.length cap) := by rw [hw3]; exact (Boxed.new w2 _ _).alloc _
  have q2 : Boxed w3 (w2.heap.size + 1) 3 (.int .i64 8) := by
    have := Boxed.new (w2.alloc (.cells #[.slice (some ⟨b, off, none⟩) l.length cap] 22)) 3 (.int .i64 8)
    rw [World.size_alloc] at this
    rw [hw3]; exact this
  have hb23 : Below w2.heap.size w2 w3 := by rw [hw3]; exact ((Below.refl _ _).alloc (Nat.le_refl _) _).alloc (by simp) _
  have hb12 : Below w1.heap.size w1 w2 := by rw [hw2]; exact (Below.refl _ _).alloc (Nat.le_refl _) _
  have s12 : w2.heap.size = w1.heap.size + 1 := by rw [hw2]; simp
  have s1 := hb1.size
  have s23 := hb23.size
  have hb03 : Below w.heap.size w w3 := ((hbB.trans (hb1.mono hbB.size)).trans (hb12.mono (by omega))).trans (hb23.mono (by omega))
  have ib3 : Boxed w3 w1.heap.size 29 (.slice a1 (idxB l []).length c1) := by
    refine (hb23.block _ (by omega)).trans ?_
    rw [hw2]; exact Boxed.new w1 _ _
  have bw3 : Boxed w3 w.heap.size 102 (.pointer (some ⟨W, 0, none⟩)) := (((hb1.trans (hb12.mono s1)).trans (hb23.mono (by omega))).block _ bwB.lt).trans bwB
  have row3 : w3.ownsRow w.heap.size 5 1 (.slice a1 (idxB l []).length c1) (idxB l []).length (B8 (idxB l [])) := by
    refine own_carry (owns_monoB ho1 (by omega)) fun g hg => ?_
    have hlt := (ho1.lt g hg).2
    exact (hb23.block _ (by omega)).trans (hb12.block _ hlt)
  have H0 : Hid (BkI w W base w.heap.size w.heap.size w1.heap.size w2.heap.size (w2.heap.size + 1) (.slice (some ⟨b, off, none⟩) l.length cap) xs l [] w3) := by
    refine ⟨v, _, ⟨?_, ⟨ib3, row3⟩, fun g hg he => ?_, bw3, q1, q2, hb03.mono hbs, hW, by omega, hbs, by omega, KeepsOthers.refl _⟩⟩
    · have := h.below hb03 (Nat.le_refl _)
      have e : xs ++ blksB l (vals ([] : List (Fin (nBk l.length)))) = xs := by simp [blksB, vals]
      rw [e]; exact this
    · have h4 := (h.row.lt g hg).2
      have h5 := (ho1.lt g he).1
      omega
  have STOPS : Hid (SeqStopsK Fence.wide 2 Tryz.prog 117 #[.pointer (some ⟨w2.heap.size, 0, none⟩), .pointer (some ⟨w2.heap.size + 1, 0, none⟩)] (fun k : Fin (nBk l.length) => #[chkV b off l.length k.1]) (Two w2.heap.size (w2.heap.size + 1)) (fun ys => vals ys = List.range (nBk l.length)) (fun _ => True) (nBk l.length) w3) := chunk_stops Fence.wide 2 trivial hro (by omega) _ _ b off l.length cap (by omega) hcap w3 q1 q2
  have HT : Hid (∀ u, Below base w u → Tab u) := fun u hu => ht.belowB hu hg
  have HX : Hid (∀ u, Below base w u → XSees u (some ⟨b, off, none⟩) l) := fun u hu => xsees_belowB hs hu hb
  have HS : Hid (∀ c ∈ l, SmallX c) := hsm
  have HN : Hid (∀ c ∈ l, c.Nums) := hnum
  have hs13 : w1.heap.size ≤ w3.heap.size ∧ w.heap.size + 1 ≤ w1.heap.size ∧ w2.heap.size + 2 ≤ w3.heap.size ∧ w1.heap.size < w2.heap.size := ⟨by omega, by omega, by rw [hw3]; simp, by omega⟩
  clear s12 s1 s23 ho1 hb1 hbB bwB sB ib3 bw3 row3 hb03 hb12 hb23 q1 q2 hs ht hsm hnum h
  go_wp2_with fail
  rw [← hw2]
  refine CH.out.mono ?_
  rintro e w' ⟨rfl, rfl⟩
  clear CH hw3 hw2
  go_wp2_with fail
  refine (wpIn_wide (n := 3)).1 ?_
  refine wpIn_rangeFunc_ownG hro h1 (gf := 117) (lb := #[.pointer (some ⟨w2.heap.size, 0, none⟩), .pointer (some ⟨w2.heap.size + 1, 0, none⟩)]) rfl trivial (enters_of Tryz.func117 (by kernel_rfl) rfl)
    STOPS.out Two.trans (twoK_b (by omega) (by omega)) (Below.refl _ _) (fun _ => rfl)
    (BkI w W base w.heap.size w.heap.size w1.heap.size w2.heap.size (w2.heap.size + 1) (.slice (some ⟨b, off, none⟩) l.length cap) xs l) (fun _ _ _ => False)
    (bkI_own _ _ _ _ _ _ _ _ _ _ _ (by omega)) (fun _ _ _ _ _ hs _ _ => hs) H0.out
    (fun x => { tmps := #[.pointer (some ⟨W, 0, none⟩), .slice (some ⟨b, off, none⟩) l.length cap, .pointer (some ⟨w.heap.size, 0, none⟩), undef, .slice none 0 0, .pointer (some ⟨w1.heap.size, 0, none⟩), chkV b off l.length x.1, undef, .slice (some ⟨b, off, none⟩) l.length cap, .int .i64 (l.length : Int), .int .i64 (nBk l.length : Int), .int .u64 (nBk l.length : Int), .slice (some ⟨w.heap.size + 1, 0, none⟩) 1 1, .slice a1 (idxB l []).length c1, .slice (some ⟨b, off, none⟩) l.length cap, .func (.func 117) #[] #[.pointer (some ⟨w2.heap.size, 0, none⟩), .pointer (some ⟨w2.heap.size + 1, 0, none⟩)], chkV b off l.length x.1, undef, undef, undef, undef, undef, undef, undef, undef, undef, undef, undef, undef, undef, undef, undef, undef, undef, undef, undef, undef], defers := [] }) ?assign ?body ?done ?stop
  case assign =>
    intro l x W K hK
    gi_wp2
    exact hK
  case body =>
    rintro lp pre ⟨kx, hkx⟩ X ⟨v2, iv, hB⟩ hlt
    obtain ⟨c0, rest0, hc0⟩ := chk_cons hkx
    have hv : chkV b off l.length kx = .slice (some ⟨b, off + 8 * kx * 10, none⟩) (chk l kx).length (chk l kx).length := by unfold chkV; rw [chk_size l kx]
    simp only [hv]
    have hc1 : 1 ≤ (chk l kx).length := by rw [hc0]; simp
    have hc8 := chk_len l kx
    have hc8z : ((chk l kx).length : Int) ≤ 8 := by omega
    have hc1z : (1 : Int) ≤ ((chk l kx).length : Int) := by omega
    have hm0 : c0 ∈ l := chk_mem (k := kx) (by rw [hc0]; simp)
    have hbsl := chkB_len HS.out kx
    have hkl : (kyB (chk l kx)).length ≤ 206 := kyB_len fun c hc => HS.out c (chk_mem hc)
    have hke : kyB (chk l kx) = encK c0.k.ky := by rw [hc0]; rfl
    have hvl := vals_len pre
    have hxl : (xs ++ blksB l (vals pre)).length ≤ 4000000 := by
      have := blksB_len HS.out (vals pre)
      rw [List.length_append]; omega
    have hyl : (idxB l (vals pre)).length ≤ 300000 := by
      have := idxB_len HS.out (vals pre)
      omega
    have CE : Hid (∀ u, Below base w u → Calls Tryz.prog 89 #[.slice (some ⟨b, off + 8 * kx * 10, none⟩) (chk l kx).length (chk l kx).length] u fun e w' => ∃ v', e = .returned v' ∧ w'.ownsRow u.heap.size 5 1 v' (cxB (chk l kx)).length (B8 (cxB (chk l kx))) ∧ Below u.heap.size u w') := fun u hu => by
      have h2 := wtYs_small (l := chk l kx) fun c hc => HS.out c (chk_mem hc)
      have := cells_anyD (some ⟨b, off + 8 * kx * 10, none⟩) ((chk l kx).map toC) (chk l kx).length u (xsees_chk (HX.out u hu) kx).c (fun c hc => by obtain ⟨y, hy, rfl⟩ := List.mem_map.1 hc; exact (HN.out y (chk_mem hy)).ok) (by rw [wtL_toC, List.length_map]; omega)
      rw [List.length_map] at this
      exact this
    have hTen : ∀ u, Below base w u → TenX u b (off + 8 * kx * 10) c0 := fun u hu => by
      obtain ⟨b', o', e, tt⟩ := xsees_chk (HX.out u hu) kx 0 c0 (by rw [hc0]; rfl)
      cases e
      simpa using tt
    have KB : Hid (∀ u, Calls Tryz.prog 43 #[.agg #[.string c0.k.t, .string c0.k.p, .int .i64 c0.k.r, .string c0.k.c]] u fun e w' => ∃ v, e = .returned v ∧ Aw u w' v (kyB (chk l kx))) := fun u => by
      rw [hke]; exact bytes_any c0.k u ((HS.out c0 hm0).ok (HN.out c0 hm0).r)
    have HTen : Hid (∀ u, Below base w u → TenX u b (off + 8 * kx * 10) c0) := hTen
    have HEND : Hid (xs ++ blksB l (vals (pre ++ [⟨kx, hkx⟩])) = xs ++ blksB l (vals pre) ++ frameL (cxB (chk l kx)) ∧ idxB l (vals (pre ++ [⟨kx, hkx⟩])) = idxB l (vals pre) ++ txtL (kyB (chk l kx)) ++ numL (frameL (cxB (chk l kx))).length) := by
      rw [vals_snoc]
      exact ⟨by rw [blksB_snoc, List.append_assoc], idxB_snoc _ _ _⟩
    clear hTen hke hv hc0 hm0 hlt
    generalize hbs : cxB (chk l kx) = bs at *
    generalize kyB (chk l kx) = kb at *
    generalize (chk l kx).length = r at *
    clear hbs
    obtain ⟨xs2, hxs2⟩ : ∃ xs2, xs2 = xs ++ blksB l (vals pre) := ⟨_, rfl⟩
    obtain ⟨ys2, hys2⟩ : ∃ ys2, ys2 = idxB l (vals pre) := ⟨_, rfl⟩
    rw [← hxs2, ← hys2] at HEND hB
    rw [← hxs2] at hxl
    rw [← hys2] at hyl
    clear hxs2 hys2
    obtain ⟨o8, ho8⟩ : ∃ o8, o8 = off + 8 * kx * 10 := ⟨_, rfl⟩
    rw [← ho8] at CE HTen ⊢
    clear ho8
    gi_wp2
    have hBd : Bk w X W base w.heap.size w.heap.size w1.heap.size w2.heap.size (w2.heap.size + 1) (.slice (some ⟨b, off, none⟩) l.length cap) v2 iv xs2 ys2 X.drew := hB.below (Below.refl _ _).drew
    have HB0 : Hid (Bk w X W base w.heap.size w.heap.size w1.heap.size w2.heap.size (w2.heap.size + 1) (.slice (some ⟨b, off, none⟩) l.length cap) v2 iv xs2 ys2 X) := hB
    have HB : Hid (Bk w X W base w.heap.size w.heap.size w1.heap.size w2.heap.size (w2.heap.size + 1) (.slice (some ⟨b, off, none⟩) l.length cap) v2 iv xs2 ys2 X.drew) := hBd
    have mk4 : Hid (∀ u, Boxed u w.heap.size 102 (.pointer (some ⟨W, 0, none⟩)) → ∃ p : Cd [((⟨w.heap.size, 0, none⟩ : Addr), Value.pointer (some ⟨W, 0, none⟩))], u = p.u) := fun u hu => ⟨⟨u, fun a v h => by simp at h; obtain ⟨rfl, rfl⟩ := h; exact hu.cell⟩, rfl⟩
    have f4 : ∀ q : Cd [((⟨w.heap.size, 0, none⟩ : Addr), Value.pointer (some ⟨W, 0, none⟩))], q.u.cell? ⟨w.heap.size, 0, none⟩ = some (.pointer (some ⟨W, 0, none⟩)) := fun q => q.h _ _ (by simp)
    haveI : Nonempty (Cd [((⟨w.heap.size, 0, none⟩ : Addr), Value.pointer (some ⟨W, 0, none⟩))]) := ⟨(mk4.out _ hB.bw).choose⟩
    have mk4d := mk4.out _ hBd.bw
    clear hB hBd H0 STOPS
    refine wpInR_region_sched (fun w' => ∃ p : Cd [((⟨w.heap.size, 0, none⟩ : Addr), Value.pointer (some ⟨W, 0, none⟩))], w' = p.u) [(0, true), (1, true), (2, false), (3, false), (4, true)] rfl (by kernel_rfl) (by kernel_rfl) (by kernel_rfl) (by kernel_rfl) mk4d ?_
    clear mk4d
    iterate 2 (refine sched_pure rfl (fun K hK => ?_); go_simp; refine hK _ ?_; clear hK K)
    refine sched_loud rfl (fun K hK => ?_)
    go_simp
    refine (CE.out _ HB.out.bel).mono ?_
    rintro e u1 ⟨vc, rfl, hoc, hbu1⟩
    have HB1 : Hid (Bk w X W base w.heap.size w.heap.size w1.heap.size w2.heap.size (w2.heap.size + 1) (.slice (some ⟨b, off, none⟩) l.length cap) v2 iv xs2 ys2 u1) := HB.out.below hbu1
    refine hK _ _ (mk4.out _ HB1.out.bw) ?_
    clear hK K HB
    obtain ⟨ac, cc, rfl, hsc, hlc, hnc⟩ := owns_sees hoc
    have FR : Hid (Calls Tryz.prog 56 #[.pointer (some ⟨W, 0, none⟩), .slice ac bs.length cc] u1 fun e w' => e = .returned (.int .i64 ((bs.length + 8 : Nat) : Int)) ∧ ∃ v', WAt w' W base v' (xs2 ++ frameL bs) ∧ Moved u1 w' (W :: ownL v2) (W :: ownL v')) := frameW_any HB1.out.wr ac bs cc hsc (fun e => (hnc e).1) (by omega) (by omega) (by have := HB1.out.sz; omega) (HT.out _ HB1.out.bel)
    clear hoc hsc hnc hbu1
    refine sched_loud rfl (fun K hK => ?_)
    go_simp
    refine FR.out.mono ?_
    rintro e u2 ⟨rfl, v3, hW3, hM3⟩
    have HB2 : Hid (Bk w X W base w.heap.size w.heap.size w1.heap.size w2.heap.size (w2.heap.size + 1) (.slice (some ⟨b, off, none⟩) l.length cap) v3 iv (xs2 ++ frameL bs) ys2 u2) := HB1.out.writer hW3 hM3
    refine hK _ _ (mk4.out _ HB2.out.bw) ?_
    clear hK K HB1 FR hW3 hM3
    refine sched_pure rfl (fun K hK => ?_)
    go_simp
    refine hK _ ?_
    clear hK K
    refine sched_nil ?_
    clear f4 mk4
    gi_wp2
    obtain ⟨ai, ci, rfl, -, -, -⟩ := owns_sees HB2.out.ix.row
    have hr0 : 0 < r := hc1
    obtain ⟨⟨ct, cp, cr, ck⟩, cv⟩ := c0
    simp only at KB
    have HB2d : Hid (Bk w X W base w.heap.size w.heap.size w1.heap.size w2.heap.size (w2.heap.size + 1) (.slice (some ⟨b, off, none⟩) l.length cap) v3 (.slice ai ys2.length ci) (xs2 ++ frameL bs) ys2 u2.drew) := HB2.out.below (Below.refl _ _).drew
    have mk5 : Hid (∀ u, Boxed u w1.heap.size 29 (.slice ai ys2.length ci) → Below base w u → ∃ p : Cd [((⟨w1.heap.size, 0, none⟩ : Addr), Value.slice ai ys2.length ci), (⟨b, o8, none⟩, .string ct), (⟨b, o8 + 1, none⟩, .string cp), (⟨b, o8 + 2, none⟩, .int .i64 cr), (⟨b, o8 + 3, none⟩, .string ck)], u = p.u) := fun u hu hb => by
      have tt := HTen.out u hb
      refine ⟨⟨u, fun a v h => ?_⟩, rfl⟩
      simp only [List.mem_cons, List.not_mem_nil, or_false, Prod.mk.injEq] at h
      rcases h with ⟨rfl, rfl⟩ | ⟨rfl, rfl⟩ | ⟨rfl, rfl⟩ | ⟨rfl, rfl⟩ | ⟨rfl, rfl⟩
      · exact hu.cell
      · exact tt.c0
      · exact tt.c1
      · exact tt.c2
      · exact tt.c3
    have f0 : ∀ q : Cd [((⟨w1.heap.size, 0, none⟩ : Addr), Value.slice ai ys2.length ci), (⟨b, o8, none⟩, .string ct), (⟨b, o8 + 1, none⟩, .string cp), (⟨b, o8 + 2, none⟩, .int .i64 cr), (⟨b, o8 + 3, none⟩, .string ck)], q.u.cell? ⟨w1.heap.size, 0, none⟩ = some (.slice ai ys2.length ci) := fun q => q.h _ _ (by simp)
    have f1 : ∀ q : Cd [((⟨w1.heap.size, 0, none⟩ : Addr), Value.slice ai ys2.length ci), (⟨b, o8, none⟩, .string ct), (⟨b, o8 + 1, none⟩, .string cp), (⟨b, o8 + 2, none⟩, .int .i64 cr), (⟨b, o8 + 3, none⟩, .string ck)], q.u.cell? ⟨b, o8, none⟩ = some (.string ct) := fun q => q.h _ _ (by simp)
    have f2 : ∀ q : Cd [((⟨w1.heap.size, 0, none⟩ : Addr), Value.slice ai ys2.length ci), (⟨b, o8, none⟩, .string ct), (⟨b, o8 + 1, none⟩, .string cp), (⟨b, o8 + 2, none⟩, .int .i64 cr), (⟨b, o8 + 3, none⟩, .string ck)], q.u.cell? ⟨b, o8 + 1, none⟩ = some (.string cp) := fun q => q.h _ _ (by simp)
    have f3 : ∀ q : Cd [((⟨w1.heap.size, 0, none⟩ : Addr), Value.slice ai ys2.length ci), (⟨b, o8, none⟩, .string ct), (⟨b, o8 + 1, none⟩, .string cp), (⟨b, o8 + 2, none⟩, .int .i64 cr), (⟨b, o8 + 3, none⟩, .string ck)], q.u.cell? ⟨b, o8 + 2, none⟩ = some (.int .i64 cr) := fun q => q.h _ _ (by simp)
    have f4 : ∀ q : Cd [((⟨w1.heap.size, 0, none⟩ : Addr), Value.slice ai ys2.length ci), (⟨b, o8, none⟩, .string ct), (⟨b, o8 + 1, none⟩, .string cp), (⟨b, o8 + 2, none⟩, .int .i64 cr), (⟨b, o8 + 3, none⟩, .string ck)], q.u.cell? ⟨b, o8 + 3, none⟩ = some (.string ck) := fun q => q.h _ _ (by simp)
    have mk5d := mk5.out _ HB2d.out.ix.box HB2d.out.bel
    haveI : Nonempty (Cd [((⟨w1.heap.size, 0, none⟩ : Addr), Value.slice ai ys2.length ci), (⟨b, o8, none⟩, .string ct), (⟨b, o8 + 1, none⟩, .string cp), (⟨b, o8 + 2, none⟩, .int .i64 cr), (⟨b, o8 + 3, none⟩, .string ck)]) := ⟨mk5d.choose⟩
    obtain ⟨i0, hi, hz0, hz1, hz2⟩ := info_parts info8
    refine wpInR_region_C (fun w' => ∃ p : Cd [((⟨w1.heap.size, 0, none⟩ : Addr), Value.slice ai ys2.length ci), (⟨b, o8, none⟩, .string ct), (⟨b, o8 + 1, none⟩, .string cp), (⟨b, o8 + 2, none⟩, .int .i64 cr), (⟨b, o8 + 3, none⟩, .string ck)], w' = p.u) 9 _ (by kernel_rfl) (by kernel_rfl) ?reg (fun _ _ h => h)
    have MK := mk5d
    clear mk5d
    refine anyC_pure 0 rfl (by kernel_rfl) (by kernel_rfl) (by kernel_rfl) MK (fun K hK => ?_)
    go_simp
    refine hK _ ?_
    clear hK K
    refine anyC_pure 1 rfl (by kernel_rfl) (by kernel_rfl) (by kernel_rfl) MK (fun K hK => ?_)
    go_simp
    refine hK _ ?_
    clear hK K
    refine anyC_pure 2 rfl (by kernel_rfl) (by kernel_rfl) (by kernel_rfl) MK (fun K hK => ?_)
    go_simp
    refine hK _ ?_
    clear hK K
    refine anyC_pure 3 rfl (by kernel_rfl) (by kernel_rfl) (by kernel_rfl) MK (fun K hK => ?_)
    go_simp
    refine hK _ ?_
    clear hK K
    refine anyC_pure 4 rfl (by kernel_rfl) (by kernel_rfl) (by kernel_rfl) MK (fun K hK => ?_)
    go_simp
    refine hK _ ?_
    clear hK K
    clear f0 f1 f2 f3 f4
    refine anyC_loud 5 (by kernel_rfl) ?_
    refine lou_of rfl (fun K hK => ?_)
    go_simp
    refine (KB.out _).mono ?_
    rintro e u3 ⟨vk, rfl, hA⟩
    have HB3 : Hid (Bk w X W base w.heap.size w.heap.size w1.heap.size w2.heap.size (w2.heap.size + 1) (.slice (some ⟨b, off, none⟩) l.length cap) v3 (.slice ai ys2.length ci) (xs2 ++ frameL bs) ys2 u3) := HB2d.out.below hA.bel
    obtain ⟨ak, ck2, rfl, hsk, hlk, hnk⟩ := owns_sees hA.own
    have hcv := conv_sees hsk (fun e => (hnk e).1) ck2
    refine hK _ _ ⟨fun _ => mk5.out _ HB3.out.ix.box HB3.out.bel, ?_⟩
    clear hK K HB2d hA hsk hnk hlk
    refine anyC_loud 6 (by kernel_rfl) ?_
    refine lou_of rfl (fun K hK => ?_)
    go_simp
    refine hK _ _ ⟨fun _ => mk5.out _ HB3.out.ix.box HB3.out.bel, ?_⟩
    clear hK K hcv
    have PT : Hid (Calls Tryz.prog 90 #[.slice none 0 0, .string ⟨kb.toArray⟩] u3 fun e w' => ∃ v', e = .returned v' ∧ w'.ownsRow u3.heap.size 5 1 v' (txtL kb).length (B8 (txtL kb)) ∧ Below u3.heap.size u3 w') := by
      show Calls _ _ _ _ _
      have := putText_any none [] 0 ⟨kb.toArray⟩ u3 (Sees.nil _ _) (fun _ => rfl) (by show 0 + kb.toArray.size ≤ _; simp; omega)
      simpa using this
    have htl : (txtL kb).length ≤ 300 := by unfold txtL; have := (numL_length kb.length).2; rw [List.length_append]; omega
    refine anyC_loud 7 (by kernel_rfl) ?_
    refine lou_of rfl (fun K hK => ?_)
    go_simp
    refine PT.out.mono ?_
    rintro e u4 ⟨vt, rfl, hot, hbt⟩
    have HB4 : Hid (Bk w X W base w.heap.size w.heap.size w1.heap.size w2.heap.size (w2.heap.size + 1) (.slice (some ⟨b, off, none⟩) l.length cap) v3 (.slice ai ys2.length ci) (xs2 ++ frameL bs) ys2 u4) := HB3.out.below hbt
    refine hK _ _ ⟨fun _ => mk5.out _ HB4.out.ix.box HB4.out.bel, ?_⟩
    clear hK K HB3 PT hbt
    obtain ⟨at', ct2, rfl, hst, hlt, hnt⟩ := owns_sees hot
    obtain ⟨v5, u5, hr5, ho5, hg5⟩ := run_append_grew (P := Tryz.prog) u4 w.heap.size 29 29 29 5 i0 (.int .u8 0) 1 1 Tryz.underlying29 hi hz0 hz1 hz2 rfl _ ys2.length _ HB4.out.ix.row _ (txtL kb).length (B8 (txtL kb)) (src_sees Tryz.underlying29 hst (fun e => (hnt e).1) ct2) (by unfold maxLen; omega) (by omega) HB4.out.sz
    obtain ⟨ys3, hys3⟩ : ∃ ys3, ys3 = ys2 ++ txtL kb := ⟨_, rfl⟩
    have hIS := HB4.out.ix.stored (ys := ys3) (by rw [hys3, B8_append]; exact ho5) (by rw [hys3, List.length_append]) hg5
    have HB5 : Hid (Bk w X W base w.heap.size w.heap.size w1.heap.size w2.heap.size (w2.heap.size + 1) (.slice (some ⟨b, off, none⟩) l.length cap) v3 v5 (xs2 ++ frameL bs) ys3 (u5.setCell ⟨w1.heap.size, 0, none⟩ v5)) := HB4.out.index hIS.1 hIS.2
    have hyl2 : ys3.length ≤ 400000 := by rw [hys3, List.length_append]; omega
    rw [← hys3] at HEND
    clear hys3
    have hbx5 : Boxed u5 w1.heap.size 29 (.slice ai ys2.length ci) := HB4.out.ix.box.kept hg5.rows (fun e => HB4.out.ix.box.not_row (by decide) HB4.out.ix.row e)
    have hbb5 : Below base w u5 := HB4.out.bel.trans (hg5.below (by have := HB4.out.sz; omega) fun g hg => by have := (HB4.out.ix.row.lt g hg).1; omega)
    refine anyC_loud 8 (by kernel_rfl) ?_
    refine lou_append rfl rfl _ _ _ _ rfl _ _ rfl rfl (by exact hr5) ?_
    refine ⟨fun _ => mk5.out _ hbx5 hbb5, ?_⟩
    obtain ⟨a5, c5, rfl, -, -, -⟩ := owns_sees HB5.out.ix.row
    have z1 := hbx5.cell
    have z2 := hbx5.frozen
    clear hIS HB4 hst hnt hot hr5 ho5 hg5 hbb5
    refine anyC_loud 9 (by kernel_rfl) ?_
    refine lou_of rfl (fun K hK => ?_)
    go_simp
    refine hK _ _ ⟨fun h => absurd rfl h, ?_⟩
    clear hK K
    refine anyC_done (by kernel_rfl) ?_
    clear z1 z2 mk5
    generalize (u5.setCell ⟨w1.heap.size, 0, none⟩ _) = u6 at *
    gi_wp2
    obtain ⟨n8, hn8⟩ : ∃ n8 : Nat, n8 = bs.length + 8 := ⟨_, rfl⟩
    have hn8z : (bs.length : Int) + 8 = (n8 : Int) := by omega
    have hw8 : IntKind.u64.wrap (n8 : Int) = (n8 : Int) := by rw [IntKind.wrap_u64]; omega
    have HL8 : Hid ((frameL bs).length = n8) := by show _ = _; rw [frameL_len, hn8]
    have hn9 : n8 ≤ 10000 := by omega
    clear hn8 HB2 htl
    have mk6 : Hid (∀ u, Boxed u w1.heap.size 29 (.slice a5 ys3.length c5) → ∃ p : Cd [((⟨w1.heap.size, 0, none⟩ : Addr), Value.slice a5 ys3.length c5)], u = p.u) := fun u hu => ⟨⟨u, fun a v h => by simp at h; obtain ⟨rfl, rfl⟩ := h; exact hu.cell⟩, rfl⟩
    have f0 : ∀ q : Cd [((⟨w1.heap.size, 0, none⟩ : Addr), Value.slice a5 ys3.length c5)], q.u.cell? ⟨w1.heap.size, 0, none⟩ = some (.slice a5 ys3.length c5) := fun q => q.h _ _ (by simp)
    have MK6 : ∃ p : Cd [((⟨w1.heap.size, 0, none⟩ : Addr), Value.slice a5 ys3.length c5)], u6.drew = p.u := mk6.out _ HB5.out.ix.box
    haveI : Nonempty (Cd [((⟨w1.heap.size, 0, none⟩ : Addr), Value.slice a5 ys3.length c5)]) := ⟨MK6.choose⟩
    rw [hn8z]
    refine wpInR_region_C (fun w' => ∃ p : Cd [((⟨w1.heap.size, 0, none⟩ : Addr), Value.slice a5 ys3.length c5)], w' = p.u) 6 _ (by kernel_rfl) (by kernel_rfl) ?reg2 (fun _ _ h => h)
    refine anyC_pure 0 rfl (by kernel_rfl) (by kernel_rfl) (by kernel_rfl) MK6 (fun K hK => ?_)
    go_simp
    refine hK _ ?_
    clear hK K
    refine anyC_pure 1 rfl (by kernel_rfl) (by kernel_rfl) (by kernel_rfl) MK6 (fun K hK => ?_)
    go_simp
    refine hK _ ?_
    clear hK K
    refine anyC_pure 2 rfl (by kernel_rfl) (by kernel_rfl) (by kernel_rfl) MK6 (fun K hK => ?_)
    go_simp
    refine hK _ ?_
    clear hK K
    clear f0
    have HB7 : Hid (Bk w X W base w.heap.size w.heap.size w1.heap.size w2.heap.size (w2.heap.size + 1) (.slice (some ⟨b, off, none⟩) l.length cap) v3 (.slice a5 ys3.length c5) (xs2 ++ frameL bs) ys3 (u6.alloc (.cells #[.int .u64 (n8 : Int)] 73)).drew) := HB5.out.below ((Below.refl _ _).alloc (Nat.le_refl _) _).drew
    have hU7 : USees (u6.alloc (.cells #[.int .u64 (n8 : Int)] 73)).drew u6.heap.size [n8] := fun i u hu => by
      have hi : i = 0 := by have := (List.getElem?_eq_some_iff.1 hu).1; simp at this; exact this
      subst hi
      obtain rfl : n8 = u := Option.some.inj hu
      exact (Boxed.new u6 73 (.int .u64 (n8 : Int))).cell
    have NM : Hid (Calls Tryz.prog 60 #[.slice (some ⟨u6.heap.size, 0, none⟩) 1 1] (u6.alloc (.cells #[.int .u64 (n8 : Int)] 73)).drew fun e w' => ∃ v, e = .returned v ∧ w'.ownsRow (u6.alloc (.cells #[.int .u64 (n8 : Int)] 73)).drew.heap.size 5 1 v (numL n8).length (B8 (numL n8)) ∧ Below (u6.alloc (.cells #[.int .u64 (n8 : Int)] 73)).drew.heap.size (u6.alloc (.cells #[.int .u64 (n8 : Int)] 73)).drew w') := by
      have := numbers_any u6.heap.size [n8] 1 _ hU7 (by show u6.heap.size < (u6.alloc _).heap.size; rw [World.size_alloc]; exact Nat.lt_succ_self _) (by simp) (fun u hu => by simp at hu; omega)
      have e : numsL [n8] = numL n8 := by simp [numsL]
      rw [e] at this
      exact this
    refine anyC_loud 3 (by kernel_rfl) ?_
    refine lou_of rfl (fun K hK => ?_)
    go_simp
    refine hK _ _ ⟨fun _ => mk6.out _ HB7.out.ix.box, ?_⟩
    clear hK K HB5 hU7
    refine anyC_loud 4 (by kernel_rfl) ?_
    refine lou_of rfl (fun K hK => ?_)
    go_simp
    refine NM.out.mono ?_
    rintro e u8 ⟨vn, rfl, hon, hbn⟩
    have HB8 : Hid (Bk w X W base w.heap.size w.heap.size w1.heap.size w2.heap.size (w2.heap.size + 1) (.slice (some ⟨b, off, none⟩) l.length cap) v3 (.slice a5 ys3.length c5) (xs2 ++ frameL bs) ys3 u8) := HB7.out.below hbn
    refine hK _ _ ⟨fun _ => mk6.out _ HB8.out.ix.box, ?_⟩
    clear hK K HB7 NM hbn
    obtain ⟨an, cn, rfl, hsn, hln, hnn⟩ := owns_sees hon
    have hnl := (numL_length n8).2
    obtain ⟨v9, u9, hr9, ho9, hg9⟩ := run_append_grew (P := Tryz.prog) u8 w.heap.size 29 29 29 5 i0 (.int .u8 0) 1 1 Tryz.underlying29 hi hz0 hz1 hz2 rfl _ ys3.length _ HB8.out.ix.row _ (numL n8).length (B8 (numL n8)) (src_sees Tryz.underlying29 hsn (fun e => (hnn e).1) cn) (by unfold maxLen; omega) (by omega) HB8.out.sz
    obtain ⟨ys4, hys4⟩ : ∃ ys4, ys4 = ys3 ++ numL n8 := ⟨_, rfl⟩
    have hIS := HB8.out.ix.stored (ys := ys4) (by rw [hys4, B8_append]; exact ho9) (by rw [hys4, List.length_append]) hg9
    have HB9 : Hid (Bk w X W base w.heap.size w.heap.size w1.heap.size w2.heap.size (w2.heap.size + 1) (.slice (some ⟨b, off, none⟩) l.length cap) v3 v9 (xs2 ++ frameL bs) ys4 (u9.setCell ⟨w1.heap.size, 0, none⟩ v9)) := HB8.out.index hIS.1 hIS.2
    rw [HL8.out, ← hys4] at HEND
    clear hys4
    have hbx9 : Boxed u9 w1.heap.size 29 (.slice a5 ys3.length c5) := HB8.out.ix.box.kept hg9.rows (fun e => HB8.out.ix.box.not_row (by decide) HB8.out.ix.row e)
    refine anyC_loud 5 (by kernel_rfl) ?_
    refine lou_append rfl rfl _ _ _ _ rfl _ _ rfl rfl (by exact hr9) ?_
    refine ⟨fun _ => mk6.out _ hbx9, ?_⟩
    obtain ⟨a9, c9, rfl, -, -, -⟩ := owns_sees HB9.out.ix.row
    have z1 := hbx9.cell
    have z2 := hbx9.frozen
    clear hIS HB8 hsn hnn hon hr9 ho9 hg9
    refine anyC_loud 6 (by kernel_rfl) ?_
    refine lou_of rfl (fun K hK => ?_)
    go_simp
    refine hK _ _ ⟨fun h => absurd rfl h, ?_⟩
    clear hK K
    refine anyC_done (by kernel_rfl) ?_
    have HFIN : Hid (KeepsFrom w'.heap.size X (u9.setCell ⟨w1.heap.size, 0, none⟩ (.slice a9 ys4.length c9)) ∧ Two w2.heap.size (w2.heap.size + 1) X (u9.setCell ⟨w1.heap.size, 0, none⟩ (.slice a9 ys4.length c9)) ∧ BkI w W base w.heap.size w.heap.size w1.heap.size w2.heap.size (w2.heap.size + 1) (.slice (some ⟨b, off, none⟩) l.length cap) xs l (pre ++ [⟨kx, hkx⟩]) (u9.setCell ⟨w1.heap.size, 0, none⟩ (.slice a9 ys4.length c9))) := by
      refine ⟨HB9.out.ko.from _, HB0.out.two HB9.out, v3, .slice a9 ys4.length c9, ?_⟩
      rw [HEND.out.1, HEND.out.2]
      exact HB9.out.restart
    clear z1 z2 mk6 HB9 hbx9
    generalize (u9.setCell ⟨w1.heap.size, 0, none⟩ _) = u10 at *
    gi_wp2
    exact HFIN.out
  case done =>
    rintro D ys X hD hys hI hK
    obtain ⟨v9, iv9, hB⟩ := hI
    obtain ⟨v8, iv8, hP⟩ := (bkI_own w W base w.heap.size w.heap.size w1.heap.size w2.heap.size (w2.heap.size + 1) (.slice (some ⟨b, off, none⟩) l.length cap) xs l (B := w'.heap.size) (by omega)).putObj (.deferred none) ⟨v9, iv9, hB⟩ hD hK rfl
    have hc := hB.ix.box.cell
    have hiv : iv8 = iv9 := by
      have h3 := hP.ix.box.cell
      have h4 : (X.putObj D (.deferred none)).heap[w1.heap.size]? = X.heap[w1.heap.size]? := World.putObj_heap_other (by omega)
      rw [World.cell?_of_block h4, hc] at h3
      exact (Option.some.inj h3).symm
    subst hiv
    rw [hys] at hB hP
    have HP : Hid (Bk w (X.putObj D (.deferred none)) W base w.heap.size w.heap.size w1.heap.size w2.heap.size (w2.heap.size + 1) (.slice (some ⟨b, off, none⟩) l.length cap) v8 iv8 (xs ++ blksB l (List.range (nBk l.length))) (idxB l (List.range (nBk l.length))) (X.putObj D (.deferred none))) := hP
    obtain ⟨ai, ci, rfl, -, -, -⟩ := owns_sees hB.ix.row
    clear hP hB
    go_wp2_with fail
    refine ⟨by simp, .inl ⟨_, _, rfl, run_takeDeferred hK, ?_⟩⟩
    refine ⟨_, results_tmp rfl _ _ _, .slice ai (idxB l (List.range (nBk l.length))).length ci, v8, rfl, ?_⟩
    exact ⟨HP.out.ix.row, HP.out.wr, HP.out.dj, HP.out.bel⟩
  case stop =>
    rintro _ _ _ _ _ _ hf _
    exact hf.elim
end Go.Proofs.YtdookhmaiapclaaGreatDoor
namespace Go.Proofs.YtdookhmaiapclaaGreatDoor
open Go.RowKit

theorem WAt.sees {w : World} {W base : Nat} {v : Value} {xs : List UInt8} (h : WAt w W base v xs) : ∃ ao cap, v = .slice ao xs.length cap ∧ Sees w ao xs ∧ (ao = none → xs.length = 0) := by
  obtain ⟨ao, cap, e, hs, -, hn⟩ := owns_sees h.row
  exact ⟨ao, cap, e, hs, fun e => (hn e).1⟩
theorem WAt.keep {w w' : World} {W base : Nat} {v : Value} {xs : List UInt8} (h : WAt w W base v xs) (hb : Below w.heap.size w w') : WAt w' W base v xs := h.below hb (Nat.le_refl _)
theorem WAt.belowM {w w' : World} {W base : Nat} {v v' : Value} {xs : List UInt8} (h : WAt w W base v xs) (hW : base ≤ W) (hb : base ≤ w.heap.size) (hm : Moved w w' (W :: ownL v) (W :: ownL v')) : Below base w w' :=
  hm.below hb fun i hi => by
    rcases List.mem_cons.1 hi with rfl | hi
    · exact hW
    · exact (h.row.lt i (mem_ownL.1 hi)).1
set_option maxRecDepth 100000 in
set_option maxHeartbeats 4000000 in
theorem table_any {w : World} {W base : Nat} (h : WAt w W base (.slice none 0 0) []) (b off cap : Nat) (l : List Cx) (hs : XSees w (some ⟨b, off, none⟩) l) (hpos : 0 < l.length) (hl : l.length ≤ 9000) (hcap : l.length ≤ cap) (hsm : ∀ c ∈ l, SmallX c) (hnum : ∀ c ∈ l, c.Nums)
    (hb : b < base) (ht : Tab w) (hg : 0 < base) (hW : base ≤ W) (hbs : base ≤ w.heap.size) :
    Calls Tryz.prog 24 #[.pointer (some ⟨W, 0, none⟩), .slice (some ⟨b, off, none⟩) l.length cap] w fun e w' => e = .returned (.tuple #[]) ∧ ∃ v', WAt w' W base v' (encTb l) ∧ Below base w w' := by
  obtain ⟨i0, hi, hz0, hz1, hz2⟩ := info_parts info8
  have hnb : nBk l.length ≤ 1125 := by unfold nBk; omega
  have lB := blksB_len hsm (allK l)
  have lI := idxB_len hsm (allK l)
  have lF := fltB_len l
  have lE := endC_len l
  rw [allK_len] at lB lI
  have hnO : nOf l.length 10 ≤ 11251 := by unfold nOf; omega
  have BL := blocks_any h b off cap l hs hpos hl hcap hsm hnum hb ht hg hW hbs (by simp)
  have HX : Hid (∀ u, Below base w u → XSees u (some ⟨b, off, none⟩) l) := fun u hu => xsees_belowB hs hu hb
  have HT : Hid (∀ u, Below base w u → Tab u) := fun u hu => ht.belowB hu hg
  have HO : Hid (∀ c ∈ l, c.k.Ok) := fun c hc => (hsm c hc).ok (hnum c hc).r
  obtain ⟨S, hS⟩ := Int.eq_ofNat_of_zero_le (sumZ_bd (headB l)).1
  have hS32 := (sumZ_bd (headB l)).2
  have HE : Hid (endC l = numsL [l.length, (blksB l (allK l)).length, (idxB l (allK l)).length + 8, (fltB l).length + 8, S]) := by
    show _ = _
    have hS2 : (sumZ (headB l)).toNat = S := by rw [hS]; rfl
    unfold endC
    rw [frameL_len, frameL_len, hS2]
    simp [numsL]
  have Hhead : Hid (headB l = blksB l (allK l) ++ frameL (idxB l (allK l)) ++ frameL (fltB l)) := rfl
  have Hfin : Hid (encTb l = headB l ++ frameL (endC l) ++ [UInt8.ofNat ((endC l).length + 8)]) := by show _ = _; unfold encTb; rw [frameL_len]
  have BLH : Hid (Calls Tryz.prog 55 #[.pointer (some ⟨W, 0, none⟩), .slice (some ⟨b, off, none⟩) l.length cap] w fun e w' => ∃ iv v', e = .returned iv ∧ w'.ownsRow w.heap.size 5 1 iv (idxB l (allK l)).length (B8 (idxB l (allK l))) ∧ WAt w' W base v' ([] ++ blksB l (allK l)) ∧ (∀ g, v'.ownBlock = some g → iv.ownBlock ≠ some g) ∧ Below base w w') := BL
  rw [List.nil_append] at BLH
  rw [hS] at hS32
  have HSum : Hid (sumZ (headB l) = (S : Int)) := hS
  have HF : Hid (encF 7 (filB l.length l) = fltB l) := rfl
  clear BL hS hs ht hsm hnum
  generalize blksB l (allK l) = Bb at *
  generalize idxB l (allK l) = Ib at *
  generalize fltB l = Fb at *
  generalize endC l = Eb at *
  generalize headB l = Hb at *
  generalize encTb l = Tb at *
  have hlz : (l.length : Int) ≤ 9000 := by omega
  have wr0 : IntKind.u64.wrap (l.length : Int) = (l.length : Int) := by rw [IntKind.wrap_u64]; omega
  have wr1 : IntKind.u64.wrap (Bb.length : Int) = (Bb.length : Int) := by rw [IntKind.wrap_u64]; omega
  have wr2 : IntKind.u64.wrap ((Ib.length : Int) + 8) = (Ib.length : Int) + 8 := by rw [IntKind.wrap_u64]; omega
  have wr3 : IntKind.u64.wrap ((Fb.length : Int) + 8) = (Fb.length : Int) + 8 := by rw [IntKind.wrap_u64]; omega
  have wr4 : IntKind.u64.wrap (S : Int) = (S : Int) := by rw [IntKind.wrap_u64]; omega
  have wr5 : IntKind.u8.wrap ((Eb.length : Int) + 8) = (Eb.length : Int) + 8 := by rw [IntKind.wrap_u8]; omega
  go_enter Tryz.func24, Tryz.ntmps24
  go_wp2_with fail
  refine BLH.out.mono ?_
  rintro e w1 ⟨iv, v1, rfl, ho1, hW1, hd1, hb1⟩
  clear BLH h
  have c1 := hW1.blk.cell 0 rfl
  obtain ⟨a1, k1, rfl, -, -⟩ := hW1.sees
  obtain ⟨a2, k2, rfl, hs2, -, hn2⟩ := owns_sees ho1
  have FR1 : Hid (Calls Tryz.prog 56 #[.pointer (some ⟨W, 0, none⟩), .slice a2 Ib.length k2] w1 fun e w' => e = .returned (.int .i64 ((Ib.length + 8 : Nat) : Int)) ∧ ∃ v', WAt w' W base v' (Bb ++ frameL Ib) ∧ Moved w1 w' (W :: ownL (.slice a1 Bb.length k1)) (W :: ownL v')) := frameW_any hW1 a2 Ib k2 hs2 (fun e => (hn2 e).1) (by omega) (by omega) (Nat.le_trans hbs hb1.size) (HT.out _ hb1)
  clear ho1 hd1 hs2 hn2
  go_wp2_with fail
  refine FR1.out.mono ?_
  rintro e w2 ⟨rfl, v2, hW2, hM2⟩
  have hb2 : Below base w w2 := hb1.trans (hW1.belowM hW (Nat.le_trans hbs hb1.size) hM2)
  clear FR1 hM2 hW1 c1
  have FO : Hid (Calls Tryz.prog 57 #[.slice (some ⟨b, off, none⟩) l.length cap] w2 fun e w' => ∃ m : FM, e = .returned m.v ∧ FAt w' m 7 (filB l.length l) ∧ w2.heap.size ≤ m.d ∧ w2.heap.size ≤ m.g ∧ Below w2.heap.size w2 w') := filterOf_any _ l cap w2 (HX.out _ hb2) (by omega) HO.out
  go_wp2_with fail
  refine FO.out.mono ?_
  rintro e w3 ⟨m, rfl, hF3, -, -, hb23⟩
  have hb3 : Below base w w3 := hb2.trans (hb23.mono (Nat.le_trans hbs hb2.size))
  have hW3 := hW2.keep hb23
  have FY : Hid (Calls Tryz.prog 58 #[m.v] w3 fun e w' => ∃ v, e = .returned v ∧ w'.ownsRow w3.heap.size 5 1 v Fb.length (B8 Fb) ∧ Below w3.heap.size w3 w') := by
    have := fbytes_any hF3
    rw [HF.out] at this
    exact this
  clear FO hF3 hW2 hb23
  go_wp2_with fail
  refine FY.out.mono ?_
  rintro e w4 ⟨v4, rfl, ho4, hb34⟩
  have hb4 : Below base w w4 := hb3.trans (hb34.mono (Nat.le_trans hbs hb3.size))
  have hW4 := hW3.keep hb34
  obtain ⟨a4, k4, rfl, hs4, -, hn4⟩ := owns_sees ho4
  have hl4 : (Bb ++ frameL Ib).length ≤ 3000000 := by rw [List.length_append, frameL_len]; omega
  have FR2 : Hid (Calls Tryz.prog 56 #[.pointer (some ⟨W, 0, none⟩), .slice a4 Fb.length k4] w4 fun e w' => e = .returned (.int .i64 ((Fb.length + 8 : Nat) : Int)) ∧ ∃ v', WAt w' W base v' Hb ∧ Moved w4 w' (W :: ownL v2) (W :: ownL v')) := by
    rw [Hhead.out]
    exact frameW_any hW4 a4 Fb k4 hs4 (fun e => (hn4 e).1) (by omega) (by omega) (Nat.le_trans hbs hb4.size) (HT.out _ hb4)
  have hHl : Hb.length ≤ 4000000 := by rw [Hhead.out, List.length_append, frameL_len]; omega
  clear FY ho4 hs4 hn4 hb34 hW3 hl4
  go_wp2_with fail
  refine FR2.out.mono ?_
  rintro e w5 ⟨rfl, v5, hW5, hM5⟩
  have hb5 : Below base w w5 := hb4.trans (hW4.belowM hW (Nat.le_trans hbs hb4.size) hM5)
  have c5 := hW5.blk.cell 0 rfl
  obtain ⟨a5, k5, rfl, hs5, hn5⟩ := hW5.sees
  have SM : Hid (Calls Tryz.prog 59 #[.slice a5 Hb.length k5] w5 fun e w' => e = .returned (.int .u32 (S : Int)) ∧ w' = w5) := by
    have := sum_any a5 Hb k5 w5 (by unfold maxLen; omega) (HT.out _ hb5) hs5
    rw [HSum.out] at this
    exact this
  clear FR2 hM5 hW4 hs5 hn5
  go_wp2_with fail
  refine SM.out.mono ?_
  rintro e u5 ⟨rfl, rfl⟩
  clear SM
  obtain ⟨w6, hw6⟩ : ∃ w6, w6 = u5.alloc (.cells #[.int .u64 (l.length : Int), .int .u64 (Bb.length : Int), .int .u64 ((Ib.length : Int) + 8), .int .u64 ((Fb.length : Int) + 8), .int .u64 (S : Int)] 73) := ⟨_, rfl⟩
  have hb56 : Below u5.heap.size u5 w6 := by rw [hw6]; exact (Below.refl _ _).alloc (Nat.le_refl _) _
  have hU : USees w6 u5.heap.size [l.length, Bb.length, Ib.length + 8, Fb.length + 8, S] := by
    have hB : Blk w6 u5.heap.size [.int .u64 (l.length : Int), .int .u64 (Bb.length : Int), .int .u64 ((Ib.length : Int) + 8), .int .u64 ((Fb.length : Int) + 8), .int .u64 (S : Int)] 73 := by rw [hw6]; exact Blk.new u5 _ _
    intro i u hu
    match i, hu with
    | 0, hu => obtain rfl := Option.some.inj hu; exact hB.cell 0 rfl
    | 1, hu => obtain rfl := Option.some.inj hu; exact hB.cell 1 rfl
    | 2, hu => obtain rfl := Option.some.inj hu; exact hB.cell 2 rfl
    | 3, hu => obtain rfl := Option.some.inj hu; exact hB.cell 3 rfl
    | 4, hu => obtain rfl := Option.some.inj hu; exact hB.cell 4 rfl
    | i + 5, hu => simp at hu
  have hlt6 : u5.heap.size < w6.heap.size := by rw [hw6, World.size_alloc]; omega
  have NM : Hid (Calls Tryz.prog 60 #[.slice (some ⟨u5.heap.size, 0, none⟩) 5 5] w6 fun e w' => ∃ v, e = .returned v ∧ w'.ownsRow w6.heap.size 5 1 v Eb.length (B8 Eb) ∧ Below w6.heap.size w6 w') := by
    have := numbers_any u5.heap.size [l.length, Bb.length, Ib.length + 8, Fb.length + 8, S] 5 w6 hU hlt6 (by simp) (fun u hu => by
      simp only [List.mem_cons, List.not_mem_nil, or_false] at hu
      rcases hu with rfl | rfl | rfl | rfl | rfl <;> omega)
    rw [← HE.out] at this
    exact this
  have hW6 := hW5.keep hb56
  have hb6 : Below base w w6 := hb5.trans (hb56.mono (Nat.le_trans hbs hb5.size))
  clear hU hb56 hlt6
  go_wp2_with fail
  rw [← hw6]
  clear hw6
  refine NM.out.mono ?_
  rintro e w7 ⟨v7, rfl, ho7, hb67⟩
  have hb7 : Below base w w7 := hb6.trans (hb67.mono (Nat.le_trans hbs hb6.size))
  have hW7 := hW6.keep hb67
  obtain ⟨a7, k7, rfl, hs7, -, hn7⟩ := owns_sees ho7
  have FR3 : Hid (Calls Tryz.prog 56 #[.pointer (some ⟨W, 0, none⟩), .slice a7 Eb.length k7] w7 fun e w' => e = .returned (.int .i64 ((Eb.length + 8 : Nat) : Int)) ∧ ∃ v', WAt w' W base v' (Hb ++ frameL Eb) ∧ Moved w7 w' (W :: ownL (.slice a5 Hb.length k5)) (W :: ownL v')) := frameW_any hW7 a7 Eb k7 hs7 (fun e => (hn7 e).1) (by omega) (by omega) (Nat.le_trans hbs hb7.size) (HT.out _ hb7)
  clear NM ho7 hs7 hn7 hb67 hW6 hW5 c5
  go_wp2_with fail
  refine FR3.out.mono ?_
  rintro e w8 ⟨rfl, v8, hW8, hM8⟩
  have hb8 : Below base w w8 := hb7.trans (hW7.belowM hW (Nat.le_trans hbs hb7.size) hM8)
  have hHl8 : (Hb ++ frameL Eb).length ≤ 5000000 := by rw [List.length_append, frameL_len]; omega
  obtain ⟨Xb, hXb⟩ : ∃ Xb, Xb = Hb ++ frameL Eb := ⟨_, rfl⟩
  rw [← hXb] at hW8 hHl8 Hfin
  clear hXb
  have c8 := hW8.blk.cell 0 rfl
  have d8 := hW8.blk.frozen 0
  obtain ⟨a8, k8, rfl, -, -⟩ := hW8.sees
  have hb89 : Below w8.heap.size w8 (w8.alloc (.cells #[.int .u8 ((Eb.length : Int) + 8)] 5)) := (Below.refl _ _).alloc (Nat.le_refl _) _
  have hW9 := hW8.keep hb89
  have c9 := hW9.blk.cell 0 rfl
  have hsrc : Src Tryz.prog 1 29 (.slice (some ⟨w8.heap.size, 0, none⟩) 1 1) 1 (B8 [UInt8.ofNat (Eb.length + 8)]) (w8.alloc (.cells #[.int .u8 ((Eb.length : Int) + 8)] 5)) := src_one _ _ _ (by rw [byte_val _ (by omega)]; omega)
  have hb9 : Below base w (w8.alloc (.cells #[.int .u8 ((Eb.length : Int) + 8)] 5)) := hb8.trans (hb89.mono (Nat.le_trans hbs hb8.size))
  have hbs9 := Nat.le_trans hbs hb9.size
  have HTX : Hid (Tb = Xb ++ [UInt8.ofNat (Eb.length + 8)]) := Hfin
  clear FR3 hM8 hW7 hb89
  go_wp2_with (at_builtin; go_must (refine wpList_append_grew _ rfl _ _ 29 29 rfl base 5 i0 (.int .u8 0) 1 1 Tryz.underlying29 hi hz0 hz1 hz2 rfl _ Xb.length _ rfl hW9.row _ 1 (B8 [UInt8.ofNat (Eb.length + 8)]) rfl hsrc (by unfold maxLen; omega) (by omega) hbs9 ?_; intro v10 w10 ho10 hg10; have hST := hW9.stored (Moved.refl _ _) (ys := Tb) (by rw [HTX.out, B8_append]; exact ho10) (by rw [HTX.out, List.length_append]; rfl) hg10; have hB10 : Blk w10 W [.slice a8 Xb.length k8, .bool false] 65 := hW9.blk.carry (hg10.rows.block _ hW9.blk.lt fun e => hW9.blk.not_row (by decide) hW9.row e.symm); have c10 := hB10.cell 0 rfl; have d10 := hB10.frozen 0; have HFIN : Hid (WAt (w10.setCell ⟨W, 0, none⟩ v10) W base v10 Tb ∧ Below base w (w10.setCell ⟨W, 0, none⟩ v10)) := ⟨hST.1, hb9.trans (hW9.belowM hW hbs9 hST.2)⟩; obtain ⟨a10, k10, rfl, -, -⟩ := hST.1.sees; clear hST hB10 ho10 hg10))
  go_end0
  exact ⟨rfl, _, HFIN.out⟩
set_option maxRecDepth 100000 in
set_option maxHeartbeats 2000000 in
theorem write_any (b off cap : Nat) (l : List Cx) (w : World) (hs : XSees w (some ⟨b, off, none⟩) l) (hl : l.length ≤ 9000) (hcap : l.length ≤ cap) (hf : ∀ c ∈ l, c.Fit) (hnum : ∀ c ∈ l, c.Nums) (hb : b < w.heap.size) (ht : Tab w) (hwr : wrtB l = true) :
    Calls Tryz.prog 8 #[.slice (some ⟨b, off, none⟩) l.length cap] w fun e w' => ∃ v, e = .returned (.tuple #[v, .int .i64 0]) ∧ w'.ownsRow w.heap.size 5 1 v (encTb l).length (B8 (encTb l)) ∧ Below w.heap.size w w' := by
  have hg : 0 < w.heap.size := World.block_lt_of_cell? _ _ (ht 0 (by decide))
  have WR : Hid (Calls Tryz.prog 23 #[.slice (some ⟨b, off, none⟩) l.length cap] w fun e w' => e = .returned (.bool true) ∧ Below w.heap.size w w') := by
    have := writable_any (some ⟨b, off, none⟩) l cap w hs (by omega) hf
    rw [hwr] at this
    exact this
  have hw3 := hwr
  unfold wrtB at hw3
  simp only [Bool.and_eq_true, decide_eq_true_eq, List.all_eq_true] at hw3
  obtain ⟨hpos, -, hgood⟩ := hw3
  have HTB : Hid (∀ u, Below w.heap.size w u → Calls Tryz.prog 24 #[.pointer (some ⟨u.heap.size, 0, none⟩), .slice (some ⟨b, off, none⟩) l.length cap] (u.alloc (.cells #[.slice none 0 0, .bool false] 65)) fun e w' => e = .returned (.tuple #[]) ∧ ∃ v', WAt w' u.heap.size w.heap.size v' (encTb l) ∧ Below w.heap.size (u.alloc (.cells #[.slice none 0 0, .bool false] 65)) w') := fun u hu => by
    have hb2 : Below w.heap.size w (u.alloc (.cells #[.slice none 0 0, .bool false] 65)) := hu.alloc hu.size _
    exact table_any ⟨Blk.new u [.slice none 0 0, .bool false] _, World.ownsRow_nil _ _ _ _⟩ b off cap l (xsees_belowB hs hb2 hb) hpos hl hcap (fun c hc => good_small (hgood c hc)) hnum hb (ht.belowB hb2 hg) hg hu.size hb2.size
  clear hs hf hnum ht hgood
  go_enter Tryz.func8, Tryz.ntmps8
  go_wp2_with fail
  refine WR.out.mono ?_
  rintro e w1 ⟨rfl, hb1⟩
  go_wp2_with fail
  refine (HTB.out _ hb1).mono ?_
  rintro e w2 ⟨rfl, v2, hW2, hb2⟩
  have c0 := hW2.blk.cell 0 rfl
  have c1 := hW2.blk.cell 1 rfl
  have hbf : Below w.heap.size w w2 := (hb1.alloc hb1.size _).trans hb2
  have HR : Hid (w2.ownsRow w.heap.size 5 1 v2 (encTb l).length (B8 (encTb l))) := hW2.row
  obtain ⟨a2, k2, rfl, -, -⟩ := hW2.sees
  clear hW2 hb2
  go_wp2_with fail
  go_ret2
  exact ⟨_, rfl, HR.out, hbf⟩
theorem write_bad (ao : Option Addr) (l : List Cx) (cap : Nat) (w : World) (hs : XSees w ao l) (hl : l.length ≤ 20000) (hf : ∀ c ∈ l, c.Fit) (hwr : wrtB l = false) :
    Calls Tryz.prog 8 #[.slice ao l.length cap] w fun e w' => e = .returned (.tuple #[.slice none 0 0, .int .i64 2]) ∧ Below w.heap.size w w' := by
  have WR : Hid (Calls Tryz.prog 23 #[.slice ao l.length cap] w fun e w' => e = .returned (.bool false) ∧ Below w.heap.size w w') := by
    have := writable_any ao l cap w hs (by omega) hf
    rw [hwr] at this
    exact this
  clear hs hf
  go_enter Tryz.func8, Tryz.ntmps8
  go_wp2_with fail
  refine WR.out.mono ?_
  rintro e w1 ⟨rfl, hb1⟩
  go_wp2_with fail
  go_ret2
  exact ⟨rfl, hb1⟩
end Go.Proofs.YtdookhmaiapclaaGreatDoor
namespace Go.Proofs.YtdookhmaiapclaaGreatDoor
open Go.RowKit

set_option maxRecDepth 100000 in
theorem equal_any (ao bo : Option Addr) (la lb : List UInt8) (ca cb : Nat) (w : World) (ha : Sees w ao la) (hb : Sees w bo lb) (hna : ao = none → la.length = 0) (hnb : bo = none → lb.length = 0) :
    Calls Tryz.prog 50 #[.slice ao la.length ca, .slice bo lb.length cb] w fun e w' => e = .returned (.bool (la == lb)) ∧ w' = w := by
  have c1 := conv_sees ha hna ca
  have c2 := conv_sees hb hnb cb
  go_enter Tryz.func50, Tryz.ntmps50
  go_wp2_with fail
  go_ret
  exact ⟨rfl, rfl⟩
/-- A table in memory. -/
structure TAt (w : World) (T : Nat) (l : List Cx) : Prop where
  ex : ∃ (fm : FM) (v : Value), Blk w T [v, fm.v] 42 ∧ w.ownsRow 0 59 10 v l.length (l.flatMap xs10) ∧ FAt w fm 7 (filB l.length l)
  wrt : Wrt l
  ok : wrtB l = true
/-- No cells have these bytes. -/
def NoTab (r : List UInt8) : Prop := ∀ l, Wrt l → wrtB l = true → encTb l ≠ r
theorem noTab_of {r : List UInt8} (h : opN r = none) : NoTab r := fun l hl _ e => by
  have := open_back hl
  rw [e, h] at this
  cases this
theorem noTab_other {r : List UInt8} {l : List Cx} {k : Nat} {bits : List UInt8} (h : opN r = some (l, k, bits)) (hne : ¬ (wrtB l = true ∧ encTb l = r)) : NoTab r := fun l' hl hw e => by
  have := open_back hl
  rw [e, h] at this
  simp only [Option.some.injEq, Prod.mk.injEq] at this
  obtain ⟨rfl, -, -⟩ := this
  exact hne ⟨hw, e⟩
/-- A frame of 56 slots. -/
def fr56 (y : Nat → Value) : Act := { tmps := #[y 0, y 1, y 2, y 3, y 4, y 5, y 6, y 7, y 8, y 9, y 10, y 11, y 12, y 13, y 14, y 15, y 16, y 17, y 18, y 19, y 20, y 21, y 22, y 23, y 24, y 25, y 26, y 27, y 28, y 29, y 30, y 31, y 32, y 33, y 34, y 35, y 36, y 37, y 38, y 39, y 40, y 41, y 42, y 43, y 44, y 45, y 46, y 47, y 48, y 49, y 50, y 51, y 52, y 53, y 54, y 55], defers := [] }
theorem fr56_of (a : Act) (hs : a.tmps.size = 56) (hd : a.defers = []) : ∃ y, a = fr56 y := by
  refine ⟨fun j => a.tmps.getD j undef, ?_⟩
  obtain ⟨tm, ds⟩ := a
  simp only at hs hd
  subst hd
  have e : tm = ((List.range 56).map fun j => tm.getD j undef).toArray := by
    apply Array.ext
    · simp [hs]
    · intro i h1 h2
      simp [Array.getD, h1]
  show Act.mk tm [] = Act.mk _ []
  congr 1
set_option maxRecDepth 100000 in
set_option maxHeartbeats 1000000 in
theorem open_nil (ao : Option Addr) (cap : Nat) (w : World) :
    Calls Tryz.prog 22 #[.slice ao 0 cap] w fun e w' => e = .returned (.tuple #[.pointer none, .int .i64 8]) ∧ Below w.heap.size w w' := by
  obtain ⟨w0, hw0⟩ : ∃ w0, w0 = (w.alloc (.cells #[.slice none 0 0, .pointer none] 42)).alloc (.cells #[.slice ao 0 cap] 92) := ⟨_, rfl⟩
  have hbP : Boxed w0 (w.heap.size + 1) 92 (.slice ao 0 cap) := by
    have := Boxed.new (w.alloc (.cells #[.slice none 0 0, .pointer none] 42)) 92 (.slice ao 0 cap)
    rw [World.size_alloc] at this
    rw [hw0]; exact this
  have hB0 : Below w.heap.size w w0 := by rw [hw0]; exact ((Below.refl _ _).alloc (Nat.le_refl _) _).alloc (by simp) _
  have CE : Hid (Calls Tryz.prog 46 #[.pointer (some ⟨w.heap.size + 1, 0, none⟩)] w0 fun e w' => e = .returned (.tuple #[.int .u64 0, .int .u64 0, .bool false]) ∧ w' = w0) := cutEnd_nil hbP
  clear hbP
  go_enter Tryz.func22, Tryz.ntmps22
  go_wp2_with fail
  refine wp_scope_jumps 0 (fun a' w' => Below w.heap.size w w' ∧ ∃ y, a' = fr56 y) (fun _ _ => 0) rfl ?_ ?_
  · go_wp2_with fail
    rw [← hw0]
    clear hw0
    go_fit CE.out
    rintro e w1 ⟨rfl, rfl⟩
    go_wp2_with fail
    go_step3
    exact ⟨rfl, hB0, fr56_of _ rfl rfl⟩
  · rintro a' w' ⟨hB, y, rfl⟩
    unfold fr56
    go_wp2_with fail
    simp only [Exit.jump]
    go_ret2
    exact ⟨rfl, hB⟩
/-- What Open keeps of its table and its parts. -/
structure Op (w : World) (r : List UInt8) (cap b off : Nat) (v f : Value) (m : Nat) (X : World) : Prop where
  pa : PAt X (w.heap.size + 1) b off (r.take m) cap
  tb : Blk X w.heap.size [v, f] 42
  bel : Below w.heap.size w X
theorem Op.moved {w : World} {r : List UInt8} {cap b off : Nat} {v f : Value} {m m' : Nat} {X Y : World} (h : Op w r cap b off v f m X) (hm : Moved X Y [w.heap.size + 1] [w.heap.size + 1]) (hp : PAt Y (w.heap.size + 1) b off (r.take m') cap) : Op w r cap b off v f m' Y :=
  ⟨hp, h.tb.carry (hm.kept _ h.tb.lt (by simp)), h.bel.trans (hm.below h.bel.size (fun i hi => by simp at hi; omega))⟩
theorem Op.belowM {w : World} {r : List UInt8} {cap b off : Nat} {v f : Value} {m : Nat} {X Y : World} (h : Op w r cap b off v f m X) (hm : Moved X Y [w.heap.size + 1] [w.heap.size + 1]) : Below w.heap.size w Y := h.bel.trans (hm.below h.bel.size (fun i hi => by simp at hi; omega))
theorem Op.tbM {w : World} {r : List UInt8} {cap b off : Nat} {v f : Value} {m : Nat} {X Y : World} (h : Op w r cap b off v f m X) (hm : Moved X Y [w.heap.size + 1] [w.heap.size + 1]) : Blk Y w.heap.size [v, f] 42 := h.tb.carry (hm.kept _ h.tb.lt (by simp))
theorem below_setT {w X : World} (h : Below w.heap.size w X) (i : Nat) (v : Value) : Below w.heap.size w (X.setCell ⟨w.heap.size, i, none⟩ v) :=
  ⟨h.os, h.tape, h.output, by rw [size_setCell]; exact h.size, fun k hk => (Below.heap_setCell _ _ _ _ (by show k ≠ w.heap.size; omega)).trans (h.block k hk)⟩
theorem endN_lt {r : List UInt8} {m x y : Nat} (h : endN r = some (m, x, y)) : x < 18446744073709551616 ∧ y < 18446744073709551616 := by
  unfold endN at h
  split at h
  · cases h
  · split at h
    · cases h
    · split at h
      · simp only [Option.some.injEq, Prod.mk.injEq] at h
        obtain ⟨-, rfl, rfl⟩ := h
        exact ⟨getV_lt _, getV_lt _⟩
      · cases h
theorem Op.setF {w : World} {r : List UInt8} {cap b off : Nat} {v f : Value} {m : Nat} {X : World} (h : Op w r cap b off v f m X) (hb : b < w.heap.size) (g : Value) : Op w r cap b off v g m (X.setCell ⟨w.heap.size, 1, none⟩ g) :=
  ⟨h.pa.moved (Moved.of_set w.heap.size 1 g) (by simp) (by simp; omega), h.tb.setTo 1 g _ rfl, below_setT h.bel 1 g⟩
theorem Op.setV {w : World} {r : List UInt8} {cap b off : Nat} {v f : Value} {m : Nat} {X : World} (h : Op w r cap b off v f m X) (hb : b < w.heap.size) (g : Value) : Op w r cap b off g f m (X.setCell ⟨w.heap.size, 0, none⟩ g) :=
  ⟨h.pa.moved (Moved.of_set w.heap.size 0 g) (by simp) (by simp; omega), h.tb.setTo 0 g _ rfl, below_setT h.bel 0 g⟩
theorem FAt.moved {X Y : World} {fm : FM} {k : Nat} {bits : List UInt8} (h : FAt X fm k bits) {a c : List Nat} (hm : Moved X Y a c) (h1 : fm.d ∉ a) (h2 : fm.g ∉ a) : FAt Y fm k bits := h.carry (hm.kept _ h.head.lt h1) (hm.kept _ h.bits.lt h2)
theorem take_take' (r : List UInt8) {a b : Nat} (h : b ≤ a) : (r.take a).take b = r.take b := by rw [List.take_take]; congr 1; omega
set_option maxRecDepth 100000 in
set_option maxHeartbeats 2000000 in
theorem open_any (b off cap : Nat) (r : List UInt8) (w : World) (hs : Sees w (some ⟨b, off, none⟩) r) (hr : 0 < r.length) (hl : r.length ≤ 60000) (hcap : r.length ≤ cap) (htop : cap ≤ 9223372036854775807) (hb : b < w.heap.size) (ht : Tab w) (ue : TypeId) (pv : Value) (he : Err w ue pv) :
    Calls Tryz.prog 22 #[.slice (some ⟨b, off, none⟩) r.length cap] w fun e w' => Below w.heap.size w w' ∧
      ((NoTab r ∧ e = .returned (.tuple #[.pointer none, .int .i64 8])) ∨ ∃ l, e = .returned (.tuple #[.pointer (some ⟨w.heap.size, 0, none⟩), .int .i64 0]) ∧ TAt w' w.heap.size l ∧ encTb l = r) := by
  have hgT : 0 < w.heap.size := World.block_lt_of_cell? _ _ (ht 0 (by decide))
  have hgE : 1 < w.heap.size := World.block_lt_of_cell? _ _ he
  have HT : Hid (∀ u, Below w.heap.size w u → Tab u) := fun u hu => ht.belowB hu hgT
  have HE : Hid (∀ u, Below w.heap.size w u → Err u ue pv) := fun u hu => he.below hu (Nat.le_refl _)
  have HSE : Hid (∀ u, Below w.heap.size w u → Sees u (some ⟨b, off, none⟩) r) := fun u hu => hs.below hu (Nat.le_refl _)
  obtain ⟨w0, hw0⟩ : ∃ w0, w0 = (w.alloc (.cells #[.slice none 0 0, .pointer none] 42)).alloc (.cells #[.slice (some ⟨b, off, none⟩) r.length cap] 92) := ⟨_, rfl⟩
  have hB0 : Below w.heap.size w w0 := by rw [hw0]; exact ((Below.refl _ _).alloc (Nat.le_refl _) _).alloc (by simp) _
  have hO0 : Op w r cap b off (.slice none 0 0) (.pointer none) r.length w0 := by
    refine ⟨⟨?_, ?_, ?_, htop, ?_, by omega⟩, ?_, hB0⟩
    · rw [List.take_length]
      have := Boxed.new (w.alloc (.cells #[.slice none 0 0, .pointer none] 42)) 92 (.slice (some ⟨b, off, none⟩) r.length cap)
      rw [World.size_alloc] at this
      rw [hw0]; exact this
    · rw [List.take_length]; exact HSE.out _ hB0
    · rw [List.take_length]; exact hcap
    · rw [List.take_length]; omega
    · rw [hw0]; exact (Blk.new w _ _).alloc _
  have CE : Hid (Calls Tryz.prog 46 #[.pointer (some ⟨w.heap.size + 1, 0, none⟩)] w0 fun e w' => Moved w0 w' [w.heap.size + 1] [w.heap.size + 1] ∧
      ((endN r = none ∧ e = .returned (.tuple #[.int .u64 0, .int .u64 0, .bool false])) ∨
       (∃ m x y, endN r = some (m, x, y) ∧ m ≤ r.length ∧ e = .returned (.tuple #[.int .u64 (x : Int), .int .u64 (y : Int), .bool true]) ∧ PAt w' (w.heap.size + 1) b off (r.take m) cap))) := by
    have hp := hO0.pa
    rw [List.take_length] at hp
    exact cutEnd_any hp hr (HT.out _ hB0) (by omega) (by omega) ue pv (HE.out _ hB0)
  have HO0 : Hid (Op w r cap b off (.slice none 0 0) (.pointer none) r.length w0) := hO0
  have hs0 : Hid (w.heap.size + 2 ≤ w0.heap.size) := by show _ ≤ _; rw [hw0]; simp
  clear hO0 hs ht he
  go_enter Tryz.func22, Tryz.ntmps22
  go_wp2_with fail
  refine wp_scope_jumps 0 (fun a' w' => (Below w.heap.size w w' ∧ NoTab r) ∧ ∃ y, a' = fr56 y) (fun _ _ => 0) rfl ?_ ?_
  · go_wp2_with fail
    rw [← hw0]
    clear hw0
    go_fit CE.out
    rintro e w1 ⟨hM1, (⟨hE, rfl⟩ | ⟨m, x, y, hE, hmr, rfl, hP1⟩)⟩
    · have hno : NoTab r := noTab_of (by unfold opN; rw [hE])
      have hb1 := HO0.out.belowM hM1
      clear HO0 CE
      go_wp2_with fail
      go_step3
      exact ⟨rfl, ⟨hb1, hno⟩, fr56_of _ rfl rfl⟩
    · have hO1 : Op w r cap b off (.slice none 0 0) (.pointer none) m w1 := HO0.out.moved hM1 hP1
      obtain ⟨hx64, hy64⟩ := endN_lt hE
      have hml : (r.take m).length = m := by rw [List.length_take]; omega
      have hs1 : w.heap.size + 2 ≤ w1.heap.size := by have := hM1.size; have := hs0.out; omega
      have CF : Hid (Calls Tryz.prog 47 #[.pointer (some ⟨w.heap.size + 1, 0, none⟩), .int .u64 (y : Int)] w1 fun e w' => Moved w1 w' [w.heap.size + 1] [w.heap.size + 1] ∧
          ((fltN (r.take m) y = none ∧ ∃ q, e = .returned (.tuple #[.pointer q, .bool false])) ∨
           (∃ m2 k bits, fltN (r.take m) y = some (m2, k, bits) ∧ m2 ≤ (r.take m).length ∧ PAt w' (w.heap.size + 1) b off ((r.take m).take m2) cap ∧ ∃ fm : FM, e = .returned (.tuple #[fm.v, .bool true]) ∧ FAt w' fm k bits ∧ w1.heap.size ≤ fm.d ∧ w1.heap.size ≤ fm.g))) := cutFilter_any hO1.pa y hy64 (HT.out _ hO1.bel) (by omega) (by omega) ue pv (HE.out _ hO1.bel)
      have HO1 : Hid (Op w r cap b off (.slice none 0 0) (.pointer none) m w1) := hO1
      clear HO0 CE hP1 hM1 hO1
      go_wp2_with fail
      go_fit CF.out
      rintro e w2 ⟨hM2, (⟨hF, q, rfl⟩ | ⟨m2, k, bits, hF, hm2, hP2, fm, rfl, hFA, hd, hg⟩)⟩
      · have hno : NoTab r := noTab_of (by unfold opN; rw [hE]; simp only []; rw [hF])
        have hb2 := HO1.out.belowM hM2
        have t2 := HO1.out.tbM hM2
        have z1 := t2.cell 1 rfl
        have z2 := t2.frozen 1
        have hb3 := below_setT hb2 1 (.pointer q)
        clear HO1 CF hF hM2
        go_wp2_with fail
        go_step3
        exact ⟨rfl, ⟨hb3, hno⟩, fr56_of _ rfl rfl⟩
      · rw [hml] at hm2
        rw [take_take' r hm2] at hP2
        have hO2 : Op w r cap b off (.slice none 0 0) (.pointer none) m2 w2 := HO1.out.moved hM2 hP2
        have z1 := hO2.tb.cell 1 rfl
        have z2 := hO2.tb.frozen 1
        have hO3 := hO2.setF hb fm.v
        have hF3 : FAt (w2.setCell ⟨w.heap.size, 1, none⟩ fm.v) fm k bits := hFA.moved (Moved.of_set w.heap.size 1 fm.v) (by simp; omega) (by simp; omega)
        have hs3 : w.heap.size + 2 ≤ w2.heap.size := Nat.le_trans hs1 hM2.size
        have hop : opN r = if m2 < x then none else match blkN (r.take (m2 - x)).length (r.take (m2 - x)) with | none => none | some l => some (l, k, bits) := by unfold opN; rw [hE]; simp only []; rw [hF] <;> rfl
        have HO3 : Hid (Op w r cap b off (.slice none 0 0) fm.v m2 (w2.setCell ⟨w.heap.size, 1, none⟩ fm.v)) := hO3
        have HF3 : Hid (FAt (w2.setCell ⟨w.heap.size, 1, none⟩ fm.v) fm k bits) := hF3
        have HOP : Hid (opN r = if m2 < x then none else match blkN (r.take (m2 - x)).length (r.take (m2 - x)) with | none => none | some l => some (l, k, bits)) := hop
        have hsz2 : (w2.setCell ⟨w.heap.size, 1, none⟩ fm.v).heap.size = w2.heap.size := size_setCell _ _ _
        have hm2l : (r.take m2).length = m2 := by rw [List.length_take]; omega
        clear hF hE hFA hP2 hM2 hO2 hO3 hF3 hop HO1 CF hml
        go_wp2_with fail
        obtain ⟨w3, hw3⟩ : ∃ w3, w3 = w2.setCell ⟨w.heap.size, 1, none⟩ fm.v := ⟨_, rfl⟩
        rw [← hw3] at HO3 HF3 hsz2 ⊢
        clear hw3 z1 z2
        by_cases hxm : m2 < x
        · have hno : NoTab r := noTab_of (by rw [HOP.out, if_pos hxm])
          have CN : Hid (Calls Tryz.prog 48 #[.pointer (some ⟨w.heap.size + 1, 0, none⟩), .int .u64 (x : Int)] w3 fun e w' => e = .returned (.tuple #[.slice none 0 0, .bool false]) ∧ w' = w3) := by
            have hbx := HO3.out.pa.box
            rw [hm2l] at hbx
            exact cut_no hbx (by omega) x hxm hx64
          have hb3 := HO3.out.bel
          clear HO3 HF3 HOP
          go_fit CN.out
          rintro e w4 ⟨rfl, rfl⟩
          go_wp2_with fail
          go_step3
          exact ⟨rfl, ⟨hb3, hno⟩, fr56_of _ rfl rfl⟩
        · obtain ⟨m3, hm3⟩ : ∃ m3, m3 = m2 - x := ⟨_, rfl⟩
          rw [← hm3] at HOP
          have CO : Hid (Calls Tryz.prog 48 #[.pointer (some ⟨w.heap.size + 1, 0, none⟩), .int .u64 (x : Int)] w3 fun e w' => ∃ o c, e = .returned (.tuple #[.slice (some ⟨b, o, none⟩) x c, .bool true]) ∧ Sees w3 (some ⟨b, o, none⟩) ((r.take m2).drop m3) ∧ x ≤ c ∧ c ≤ cap ∧ w' = w3.setCell ⟨w.heap.size + 1, 0, none⟩ (.slice (some ⟨b, off, none⟩) m3 cap)) := by
            have := cut_ok HO3.out.pa x (by omega)
            rw [hm2l, ← hm3] at this
            exact this
          have hO4 : Op w r cap b off (.slice none 0 0) fm.v m3 (w3.setCell ⟨w.heap.size + 1, 0, none⟩ (.slice (some ⟨b, off, none⟩) m3 cap)) := by
            have hp := HO3.out.pa.cutTo m3 (by omega)
            rw [take_take' r (by omega)] at hp
            exact HO3.out.moved (Moved.of_setP _ _) hp
          have hF4 : FAt (w3.setCell ⟨w.heap.size + 1, 0, none⟩ (.slice (some ⟨b, off, none⟩) m3 cap)) fm k bits := HF3.out.moved (Moved.of_setP _ _) (by simp; omega) (by simp; omega)
          have hsz4 : (w3.setCell ⟨w.heap.size + 1, 0, none⟩ (.slice (some ⟨b, off, none⟩) m3 cap)).heap.size = w3.heap.size := size_setCell _ _ _
          have hm3r : m3 ≤ r.length := by omega
          clear hm3 HO3 HF3
          generalize w3.setCell ⟨w.heap.size + 1, 0, none⟩ (.slice (some ⟨b, off, none⟩) m3 cap) = w4 at *
          have CB : Hid (Calls Tryz.prog 49 #[.pointer (some ⟨w.heap.size + 1, 0, none⟩)] w4 fun e w' => Moved w4 w' [w.heap.size + 1] [w.heap.size + 1] ∧
              ((blkN (r.take m3).length (r.take m3) = none ∧ e = .returned (.tuple #[.slice none 0 0, .bool false])) ∨
               (∃ l v, blkN (r.take m3).length (r.take m3) = some l ∧ e = .returned (.tuple #[v, .bool true]) ∧ w'.ownsRow w4.heap.size 59 10 v l.length (l.flatMap xs10)))) := cutBlocks_any hO4.pa (by omega) (by rw [List.length_take]; omega) (HT.out _ hO4.bel) (by omega) (by omega) ue pv (HE.out _ hO4.bel)
          have HO4 : Hid (Op w r cap b off (.slice none 0 0) fm.v m3 w4) := hO4
          have HF4 : Hid (FAt w4 fm k bits) := hF4
          clear hO4 hF4
          go_fit CO.out
          rintro e u4 ⟨o, c, rfl, -, -, -, he4⟩
          have he5 : w4 = u4 := he4.symm
          subst he5
          clear CO he4
          go_wp2_with fail
          go_fit CB.out
          rintro e w5 ⟨hM5, (⟨hK, rfl⟩ | ⟨l, v, hK, rfl, ho5⟩)⟩
          · have hno : NoTab r := noTab_of (by rw [HOP.out, if_neg hxm, hK])
            have hb5 := below_setT (HO4.out.belowM hM5) 0 (.slice none 0 0)
            have t5 := HO4.out.tbM hM5
            have z1 := t5.cell 0 rfl
            have z2 := t5.frozen 0
            clear HO4 HF4 HOP CB hK hM5
            go_wp2_with fail
            go_step3
            exact ⟨rfl, ⟨hb5, hno⟩, fr56_of _ rfl rfl⟩
          · have hop : opN r = some (l, k, bits) := by rw [HOP.out, if_neg hxm, hK]
            have hfa := blkN_facts _ hK
            have htl : (r.take m3).length ≤ 60000 := by rw [List.length_take]; omega
            have t5 := HO4.out.tbM hM5
            have z1 := t5.cell 0 rfl
            have z2 := t5.frozen 0
            have hb5 := HO4.out.belowM hM5
            have hF5 : FAt w5 fm k bits := HF4.out.moved hM5 (by simp; omega) (by simp; omega)
            have hbl6 := below_setT hb5 0 v
            have t6 : Blk (w5.setCell ⟨w.heap.size, 0, none⟩ v) w.heap.size [v, fm.v] 42 := t5.setTo 0 v _ rfl
            have hF6 : FAt (w5.setCell ⟨w.heap.size, 0, none⟩ v) fm k bits := hF5.moved (Moved.of_set w.heap.size 0 v) (by simp; omega) (by simp; omega)
            have ho6 : (w5.setCell ⟨w.heap.size, 0, none⟩ v).ownsRow w4.heap.size 59 10 v l.length (l.flatMap xs10) := owns_carryX ho5 fun g hg' => Below.heap_setCell _ _ _ _ fun e => by
              have h5 := (ho5.lt g hg').1
              have h6 : g = w.heap.size := e
              omega
            obtain ⟨a6, k6, rfl, hx6, -⟩ := owns_xsees ho6
            have hNum : ∀ c ∈ l, c.Nums := fun c hc => (hfa.2 c hc).num
            have hFit : ∀ c ∈ l, c.Fit := fun c hc => (hfa.2 c hc).fit (by unfold maxLen; omega)
            have hll : l.length ≤ 9000 := by have := hfa.1; omega
            obtain ⟨w6, hw6⟩ : ∃ w6, w6 = w5.setCell ⟨w.heap.size, 0, none⟩ (.slice a6 l.length k6) := ⟨_, rfl⟩
            rw [← hw6] at hbl6 t6 hF6 ho6 hx6
            have q0 := t6.cell 0 rfl
            have HOPN : Hid (opN r = some (l, k, bits)) := hop
            clear HO4 HF4 HOP CB hK hM5 hop hfa ho5 hF5 t5 hb5
            go_wp2_with fail
            rw [← hw6]
            clear hw6 z1 z2
            cases hwr : wrtB l with
            | false =>
              have WB : Hid (Calls Tryz.prog 8 #[.slice a6 l.length k6] w6 fun e w' => e = .returned (.tuple #[.slice none 0 0, .int .i64 2]) ∧ Below w6.heap.size w6 w') := write_bad a6 l k6 w6 hx6 (by omega) hFit hwr
              have hno : NoTab r := noTab_other HOPN.out (fun h => by rw [hwr] at h; cases h.1)
              clear HOPN hx6 ho6 hF6 t6 hNum hFit q0
              go_fit WB.out
              rintro e w7 ⟨rfl, hb7⟩
              have hb8 : Below w.heap.size w w7 := hbl6.trans (hb7.mono hbl6.size)
              clear WB
              go_wp2_with fail
              go_step3
              exact ⟨rfl, ⟨hb8, hno⟩, fr56_of _ rfl rfl⟩
            | true =>
              have hpos : 0 < l.length := by
                unfold wrtB at hwr
                simp only [Bool.and_eq_true, decide_eq_true_eq] at hwr
                exact hwr.1
              have hgood : ∀ c ∈ l, goodC c = true := by
                unfold wrtB at hwr
                simp only [Bool.and_eq_true, List.all_eq_true] at hwr
                exact hwr.2.2
              obtain ⟨g6, o6, hg6, hk6, rfl⟩ : ∃ g o, g < w6.heap.size ∧ l.length ≤ k6 ∧ a6 = some ⟨g, o, none⟩ := by
                rcases ho6.2 with ⟨h1, h2⟩ | ⟨g, cap', cur, h, _, _, hn, _⟩
                · injection h1 with e1 e2 e3; omega
                · injection h with e1 e2 e3
                  exact ⟨g, 0, (ho6.lt g (by rw [e1]; rfl)).2, by omega, e1⟩
              have WO : Hid (Calls Tryz.prog 8 #[.slice (some ⟨g6, o6, none⟩) l.length k6] w6 fun e w' => ∃ v, e = .returned (.tuple #[v, .int .i64 0]) ∧ w'.ownsRow w6.heap.size 5 1 v (encTb l).length (B8 (encTb l)) ∧ Below w6.heap.size w6 w') := write_any g6 o6 k6 l w6 hx6 hll hk6 hFit hNum hg6 (HT.out _ hbl6) hwr
              have HTA : Hid (∀ u, Below w6.heap.size w6 u → k = 7 → bits = filB l.length l → TAt u w.heap.size l) := fun u hu e1 e2 => by
                subst e1
                subst e2
                exact ⟨⟨fm, _, t6.carry (hu.block _ t6.lt), owns_carryX ⟨ho6.1, ho6.2.imp id fun ⟨g, cap, cur, a, b, c⟩ => ⟨g, cap, cur, a, Nat.zero_le _, c⟩⟩ (fun g hg' => hu.block _ (ho6.lt g hg').2), hF6.below hu (Nat.le_refl _)⟩, ⟨hgood, hNum, hll⟩, hwr⟩
              have hWrt : Wrt l := ⟨hgood, hNum, hll⟩
              clear hx6 ho6 hF6 t6 hNum hFit hgood q0
              go_fit WO.out
              rintro e w7 ⟨v7, rfl, ho7, hb7⟩
              have hb8 : Below w.heap.size w w7 := hbl6.trans (hb7.mono hbl6.size)
              obtain ⟨a7, k7, rfl, hs7, -, hn7⟩ := owns_sees ho7
              have EQ : Hid (Calls Tryz.prog 50 #[.slice a7 (encTb l).length k7, .slice (some ⟨b, off, none⟩) r.length cap] w7 fun e w' => e = .returned (.bool (encTb l == r)) ∧ w' = w7) := equal_any a7 _ (encTb l) r k7 cap w7 hs7 (HSE.out _ hb8) (fun e => (hn7 e).1) (fun e => by cases e)
              clear WO ho7 hs7 hn7
              by_cases heq : encTb l = r
              · have hob := open_back hWrt
                rw [heq, HOPN.out] at hob
                simp only [Option.some.injEq, Prod.mk.injEq, true_and] at hob
                have HTF : Hid (TAt w7 w.heap.size l) := HTA.out w7 hb7 hob.1 hob.2
                have dq : (encTb l == r) = true := by rw [heq]; exact beq_self_eq_true _
                rw [dq] at EQ
                have HEQ : Hid (encTb l = r) := heq
                clear heq hob HTA HOPN dq hWrt hb7
                go_wp2_with fail
                go_fit EQ.out
                rintro e u7 ⟨rfl, rfl⟩
                go_wp2_with fail
                try simp only [Exit.jump]
                go_ret2
                exact ⟨hb8, .inr ⟨l, rfl, HTF.out, HEQ.out⟩⟩
              · have hno : NoTab r := noTab_other HOPN.out (fun h => heq h.2)
                have dq : (encTb l == r) = false := by simpa using heq
                rw [dq] at EQ
                clear heq HTA HOPN dq hWrt hb7
                go_wp2_with fail
                go_fit EQ.out
                rintro e u7 ⟨rfl, rfl⟩
                go_wp2_with fail
                go_step3
                exact ⟨rfl, ⟨hb8, hno⟩, fr56_of _ rfl rfl⟩
  · rintro a' w' ⟨⟨hB, hno⟩, y, rfl⟩
    unfold fr56
    go_wp2_with fail
    simp only [Exit.jump]
    go_ret2
    exact ⟨hB, .inl ⟨hno, rfl⟩⟩
end Go.Proofs.YtdookhmaiapclaaGreatDoor
namespace Go.Proofs.YtdookhmaiapclaaGreatDoor
open Go.RowKit

theorem encTb_len {l : List Cx} (h : Wrt l) : (encTb l).length ≤ 2156 * nBk l.length + nOf l.length 10 + 200 := by
  have lB := blksB_len h.small (allK l)
  have lI := idxB_len h.small (allK l)
  have lF := fltB_len l
  have lE := endC_len l
  rw [allK_len] at lB lI
  unfold encTb headB
  simp only [List.length_append, frameL_len, List.length_cons, List.length_nil]
  omega
theorem encTb_inj {l l' : List Cx} (h : Wrt l) (h' : Wrt l') (e : encTb l = encTb l') : l = l' := by
  have h1 := open_back h
  rw [e, open_back h'] at h1
  simp only [Option.some.injEq, Prod.mk.injEq] at h1
  exact h1.1.symm
theorem encTb_pos (l : List Cx) : 0 < (encTb l).length := by
  unfold encTb
  simp only [List.length_append, List.length_cons, List.length_nil]
  omega
theorem wrt_of {l : List Cx} (h : wrtB l = true) (hn : ∀ c ∈ l, c.Nums) (hl : l.length ≤ 9000) : Wrt l := by
  unfold wrtB at h
  simp only [Bool.and_eq_true, List.all_eq_true] at h
  exact ⟨h.2.2, hn, hl⟩
theorem TAt.below {w w' : World} {T : Nat} {l : List Cx} (h : TAt w T l) (hb : Below w.heap.size w w') : TAt w' T l := by
  obtain ⟨⟨fm, v, h1, h2, h3⟩, h4, h5⟩ := h
  exact ⟨⟨fm, v, h1.carry (hb.block _ h1.lt), owns_carryX h2 (fun g hg => hb.block _ (h2.lt g hg).2), h3.below hb (Nat.le_refl _)⟩, h4, h5⟩
theorem TAt.pos {w : World} {T : Nat} {l : List Cx} (h : TAt w T l) : 0 < l.length := by
  have := h.ok
  unfold wrtB at this
  simp only [Bool.and_eq_true, decide_eq_true_eq] at this
  exact this.1
/-- The cells of a table, as a slice. -/
theorem TAt.cells {w : World} {T : Nat} {l : List Cx} (h : TAt w T l) : ∃ (fm : FM) (g cap : Nat), Blk w T [.slice (some ⟨g, 0, none⟩) l.length cap, fm.v] 42 ∧ XSees w (some ⟨g, 0, none⟩) l ∧ l.length ≤ cap ∧ cap ≤ 9223372036854775807 ∧ g < w.heap.size ∧ FAt w fm 7 (filB l.length l) := by
  have hp := h.pos
  obtain ⟨⟨fm, v, h1, h2, h3⟩, h4, h5⟩ := h
  obtain ⟨ao, cap, rfl, hx, -⟩ := owns_xsees h2
  rcases h2.2 with ⟨e, _⟩ | ⟨g, cap', cur, e, _, hh, hn, hm, _⟩
  · injection e with e1 e2 e3; omega
  · injection e with e1 e2 e3
    subst e1
    subst e3
    exact ⟨fm, g, cap, h1, hx, hn, by unfold maxLen at hm; omega, (h2.lt g rfl).2, h3⟩
theorem sorted_at {w : World} {T g n cap : Nat} {f : Value} (h : Blk w T [.slice (some ⟨g, 0, none⟩) n cap, f] 42) : Calls Tryz.prog 41 #[.pointer (some ⟨T, 0, none⟩)] w fun e w' => e = .returned (.slice (some ⟨g, 0, none⟩) n cap) ∧ w' = w := by
  have c0 := h.cell 0 rfl
  go_enter Tryz.func41, Tryz.ntmps41
  go_wp2_with fail
  go_ret
  exact ⟨rfl, rfl⟩
theorem len_at {w : World} {T : Nat} {l : List Cx} (h : TAt w T l) : Calls Tryz.prog 19 #[.pointer (some ⟨T, 0, none⟩)] w fun e w' => e = .returned (.int .i64 (l.length : Int)) ∧ w' = w := by
  obtain ⟨fm, g, cap, hB, -⟩ := h.cells
  have S := toHidE (sorted_at hB)
  clear hB h
  go_enter Tryz.func19, Tryz.ntmps19
  go_wp2_with fail
  refine (Hid.out S).mono ?_
  rintro e w1 ⟨rfl, rfl⟩
  go_wp2_with fail
  go_ret
  exact ⟨rfl, rfl⟩
theorem blocks_at {w : World} {T : Nat} {l : List Cx} (h : TAt w T l) : Calls Tryz.prog 20 #[.pointer (some ⟨T, 0, none⟩)] w fun e w' => e = .returned (.int .i64 (nBk l.length : Int)) ∧ w' = w := by
  have L := toHidE (len_at h)
  have B : Hid (Calls Tryz.prog 45 #[.int .i64 (l.length : Int)] w fun e w' => e = .returned (.int .i64 (nBk l.length : Int)) ∧ w' = w) := blocksOf_any l.length (by have := h.wrt.len; omega) w
  clear h
  go_enter Tryz.func20, Tryz.ntmps20
  go_wp2_with fail
  refine (Hid.out L).mono ?_
  rintro e w1 ⟨rfl, rfl⟩
  go_wp2_with fail
  refine B.out.mono ?_
  rintro e w1 ⟨rfl, rfl⟩
  go_wp2_with fail
  go_ret
  exact ⟨rfl, rfl⟩
/-- The law's plain cell. -/
def at9 (n : Int) : Cx := ⟨⟨⟨#[116]⟩, ⟨#[120]⟩, n, ⟨#[]⟩⟩, ⟨n, false, 0, 0, 0, ⟨#[]⟩⟩⟩
def nine : List Cx := (List.range 9).map fun i : Nat => at9 (i : Int)
set_option maxRecDepth 100000 in
theorem at_any (n : Int) (w : World) : Calls Tryz.prog 21 #[.int .i64 n] w fun e w' => e = .returned (at9 n).val ∧ Below w.heap.size w w' := by
  go_enter Tryz.func21, Tryz.ntmps21
  go_wp2_with fail
  refine bodyPost_ret (v := (at9 n).val) (results_cell_row Tryz.results21 _ _ w.heap.size 59 _ _ _ rfl (by exact heap_alloc_new w _) Tryz.underlying59 rfl (by kernel_rfl)) rfl ?_
  exact ⟨rfl, (Below.refl _ _).alloc (Nat.le_refl _) _⟩
theorem nine_wrt : Wrt nine := by
  refine ⟨by decide, ?_, by decide⟩
  intro c hc
  unfold nine at hc
  obtain ⟨i, hi, rfl⟩ := List.mem_map.1 hc
  have := List.mem_range.1 hi
  unfold at9
  exact ⟨⟨by simp only; omega, by simp only; omega⟩, ⟨by simp only; omega, by simp only; omega⟩, inI_zero, inI_zero, inI_zero⟩
theorem nine_ok : wrtB nine = true := by
  unfold wrtB
  rw [srtB_true]
  · decide
  · intro j x y hj hx hy
    have hl : nine.length = 9 := rfl
    rw [hl] at hj
    match j, hj, hx, hy with
    | 0, _, hx, hy => obtain rfl := Option.some.inj hx; obtain rfl := Option.some.inj hy; decide
    | 1, _, hx, hy => obtain rfl := Option.some.inj hx; obtain rfl := Option.some.inj hy; decide
    | 2, _, hx, hy => obtain rfl := Option.some.inj hx; obtain rfl := Option.some.inj hy; decide
    | 3, _, hx, hy => obtain rfl := Option.some.inj hx; obtain rfl := Option.some.inj hy; decide
    | 4, _, hx, hy => obtain rfl := Option.some.inj hx; obtain rfl := Option.some.inj hy; decide
    | 5, _, hx, hy => obtain rfl := Option.some.inj hx; obtain rfl := Option.some.inj hy; decide
    | 6, _, hx, hy => obtain rfl := Option.some.inj hx; obtain rfl := Option.some.inj hy; decide
    | 7, _, hx, hy => obtain rfl := Option.some.inj hx; obtain rfl := Option.some.inj hy; decide
    | j + 8, h, _, _ => omega
theorem nine_take (k : Nat) (hk : k < 9) : nine.take (k + 1) = nine.take k ++ [at9 (k : Int)] := by
  have h : nine[k]? = some (at9 (k : Int)) := by unfold nine; simp [hk]
  exact takeX_succ h
theorem src_cellX (w : World) (c : Cx) : Src Tryz.prog 10 22 (.slice (some ⟨w.heap.size, 0, none⟩) 1 1) 1 (([c] : List Cx).flatMap xs10) (w.alloc (.cells c.a 59)) :=
  src_cells (l := [c]) (fun i x hx => by
    have hi : i = 0 := by have := (List.getElem?_eq_some_iff.1 hx).1; simp at this; exact this
    subst hi
    have hx2 : c = x := Option.some.inj hx
    subst hx2
    exact ⟨w.heap.size, 0, rfl, TenX.new w c 59⟩) (fun h => by cases h) 1
set_option maxRecDepth 100000 in
set_option maxHeartbeats 2000000 in
theorem lives9_any (w : World) (ht : Tab w) (ue : TypeId) (pv : Value) (he : Err w ue pv) : Calls Tryz.prog 7 #[] w fun e w' => e = .returned (.bool true) ∧ Below w.heap.size w w' := by
  obtain ⟨i1, hi1, hy0, hy1, hy2⟩ := infoX infoCx
  have hgT : 0 < w.heap.size := World.block_lt_of_cell? _ _ (ht 0 (by decide))
  have HT : Hid (∀ u, Below w.heap.size w u → Tab u) := fun u hu => ht.belowB hu hgT
  have HE : Hid (∀ u, Below w.heap.size w u → Err u ue pv) := fun u hu => he.below hu (Nat.le_refl _)
  clear ht he
  go_enter Tryz.func7, Tryz.ntmps7
  go_wp2_with fail
  go_loopw [1, 2] (fun s i wr => ∃ k : Nat, k ≤ 9 ∧ i = .int .i64 (k : Int) ∧ wr.ownsRow w.heap.size 59 10 s k ((nine.take k).flatMap xs10) ∧ Below w.heap.size w wr) (fun _ i _ => 9 - (intOf i).toNat)
  case atStart => exact ⟨0, by omega, rfl, World.ownsRow_nil _ _ _ _, Below.refl _ _⟩
  case round =>
    obtain ⟨k, hk, rfl, ho, hb⟩ := hrel
    by_cases hk9 : k < 9
    · have hkz : (k : Int) < 9 := by omega
      have A : Hid (Calls Tryz.prog 21 #[.int .i64 (k : Int)] wr fun e w' => e = .returned (at9 (k : Int)).val ∧ Below wr.heap.size wr w') := at_any _ wr
      have Hts : Hid ((nine.take (k + 1)).flatMap xs10 = (nine.take k).flatMap xs10 ++ ([at9 (k : Int)] : List Cx).flatMap xs10) := by show _ = _; rw [nine_take k hk9, List.flatMap_append]
      go_wp2_with fail
      refine A.out.mono ?_
      rintro e w1 ⟨rfl, hb1⟩
      have ho1 := owns_carryX ho (fun g hg => hb1.block _ (ho.lt g hg).2)
      have hb01 : Below w.heap.size w w1 := hb.trans (hb1.mono hb.size)
      have hsrc := src_cellX w1 (at9 (k : Int))
      have hob := ho1.alloc (.cells (at9 (k : Int)).a 59)
      have hsb : w.heap.size ≤ (w1.alloc (.cells (at9 (k : Int)).a 59)).heap.size := by rw [World.size_alloc]; have := hb01.size; omega
      have hb02 : Below w.heap.size w (w1.alloc (.cells (at9 (k : Int)).a 59)) := hb01.alloc hb01.size _
      have HGR : Hid (∀ v2 w2, Grew (w1.alloc (.cells (at9 (k : Int)).a 59)) w2 _ v2 → Below w.heap.size w w2) := fun v2 w2 hg2 => hb02.trans (hg2.below hsb fun g hg => (hob.lt g hg).1)
      simp only [at9, Cx.val, Cx.a] at hsrc hob hsb HGR Hts ⊢
      clear A ho ho1
      go_wp2_with (at_builtin; go_must (refine wpList_append_grew _ rfl _ _ 22 22 rfl w.heap.size 59 i1 _ 10 112 Tryz.underlying22 hi1 hy0 hy1 hy2 rfl _ k _ rfl hob _ 1 _ rfl hsrc (by unfold maxLen; omega) (by omega) hsb ?_; intro v2 w2 ho2 hg2))
      go_roundw
      case rel => exact ⟨k + 1, by omega, by simp, by rw [Hts.out]; exact ho2, HGR.out _ _ hg2⟩
      case measure => simp [intOf]; omega
    · obtain rfl : k = 9 := by omega
      have e9 : nine.take 9 = nine := rfl
      rw [e9] at ho
      have hl9 : nine.length = 9 := rfl
      obtain ⟨g, cap, rfl⟩ := ownsRow_succ ho
      have hcap : 9 ≤ cap := by
        rcases ho.2 with ⟨h1, h2⟩ | ⟨g', cap', cur, h, _, _, hn, _⟩
        · cases h1
        · injection h with e1 e2 e3; omega
      have hx : XSees wr (some ⟨g, 0, none⟩) nine := by
        obtain ⟨ao, c2, e, hx, -⟩ := owns_xsees (l := nine) ho
        injection e with e1 e2 e3
        rw [e1]; exact hx
      have hglt : g < wr.heap.size := (ho.lt g rfl).2
      have hFit : ∀ c ∈ nine, c.Fit := fun c hc => by
        obtain ⟨a1, a2, a3, a4⟩ := nine_wrt.small c hc
        exact ⟨by unfold maxLen; omega, by unfold maxLen; omega, by unfold maxLen; omega, by unfold maxLen; omega⟩
      have WR : Hid (Calls Tryz.prog 8 #[.slice (some ⟨g, 0, none⟩) 9 cap] wr fun e w' => ∃ v, e = .returned (.tuple #[v, .int .i64 0]) ∧ w'.ownsRow wr.heap.size 5 1 v (encTb nine).length (B8 (encTb nine)) ∧ Below wr.heap.size wr w') := write_any g 0 cap nine wr hx (by decide) hcap hFit nine_wrt.num hglt (HT.out _ hb) nine_ok
      have hel := encTb_len nine_wrt
      have hel2 : (encTb nine).length ≤ 60000 := by
        have h1 : nBk nine.length = 2 := rfl
        have h2 : nOf nine.length 10 = 12 := by decide
        rw [h1, h2] at hel; omega
      have hep := encTb_pos nine
      clear hx ho hFit hel e9 hl9
      go_wp2_with fail
      refine WR.out.mono ?_
      rintro e w1 ⟨v1, rfl, ho1, hb1⟩
      have hb01 : Below w.heap.size w w1 := hb.trans (hb1.mono hb.size)
      obtain ⟨a1, k1, rfl, hs1, -, -⟩ := owns_sees ho1
      obtain ⟨g1, hg1, hk1, hkm, rfl⟩ : ∃ g, g < w1.heap.size ∧ (encTb nine).length ≤ k1 ∧ k1 ≤ 9223372036854775807 ∧ a1 = some ⟨g, 0, none⟩ := by
        rcases ho1.2 with ⟨h1, h2⟩ | ⟨g, cap', cur, h, _, _, hn, hm, _⟩
        · injection h1 with e1 e2 e3; omega
        · injection h with e1 e2 e3
          unfold maxLen at hm
          exact ⟨g, (ho1.lt g (by rw [e1]; rfl)).2, by omega, by omega, e1⟩
      have OP := toHidE (open_any g1 0 k1 (encTb nine) w1 hs1 hep hel2 hk1 hkm hg1 (HT.out _ hb01) ue pv (HE.out _ hb01))
      have HNT : Hid (¬ NoTab (encTb nine)) := fun h => h nine nine_wrt nine_ok rfl
      clear WR ho1 hs1
      generalize hEE : encTb nine = EE at *
      go_wp2_with fail
      refine (Hid.out OP).mono ?_
      rintro e w2 ⟨hb2, (⟨hno, -⟩ | ⟨l, rfl, hT, hee⟩)⟩
      · exact absurd hno HNT.out
      · have hln : l = nine := encTb_inj hT.wrt nine_wrt (hee.trans hEE.symm)
        subst hln
        have hb02 : Below w.heap.size w w2 := hb01.trans (hb2.mono hb01.size)
        have WN : Hid (Calls Tryz.prog 8 #[.slice none 0 0] w2 fun e w' => e = .returned (.tuple #[.slice none 0 0, .int .i64 2]) ∧ Below w2.heap.size w2 w') := write_bad none [] 0 w2 (fun i c hc => by simp at hc) (by simp) (fun c hc => by cases hc) (by unfold wrtB; simp)
        have HTA : Hid (TAt w2 w1.heap.size nine) := hT
        clear OP HNT hT hee hEE
        go_wp2_with fail
        refine WN.out.mono ?_
        rintro e w3 ⟨rfl, hb3⟩
        have hT3 := HTA.out.below hb3
        have BK : Hid (Calls Tryz.prog 20 #[.pointer (some ⟨w1.heap.size, 0, none⟩)] w3 fun e w' => e = .returned (.int .i64 2) ∧ w' = w3) := blocks_at hT3
        have LN : Hid (Calls Tryz.prog 19 #[.pointer (some ⟨w1.heap.size, 0, none⟩)] w3 fun e w' => e = .returned (.int .i64 9) ∧ w' = w3) := len_at hT3
        have hb03 : Below w.heap.size w w3 := hb02.trans (hb3.mono hb02.size)
        clear WN HTA hT3
        go_wp2_with fail
        refine BK.out.mono ?_
        rintro e u3 ⟨rfl, rfl⟩
        go_wp2_with fail
        refine LN.out.mono ?_
        rintro e u3 ⟨rfl, rfl⟩
        go_wp2_with fail
        go_ret
        exact ⟨rfl, hb03⟩
end Go.Proofs.YtdookhmaiapclaaGreatDoor
namespace Go.Proofs.YtdookhmaiapclaaGreatDoor
open Go.RowKit

/-- Two records change their places. -/
def swL (L : List Cx) (i j : Nat) : List Cx := match L[i]?, L[j]? with | some x, some y => (L.set i y).set j x | _, _ => L
theorem swL_len (L : List Cx) (i j : Nat) : (swL L i j).length = L.length := by
  unfold swL; split <;> simp
theorem swL_eq {L : List Cx} {i j : Nat} {x y : Cx} (hx : L[i]? = some x) (hy : L[j]? = some y) : swL L i j = (L.set i y).set j x := by
  unfold swL; rw [hx, hy]
def swR (a b : Nat) (L : List Cx) : Nat → List Cx
  | 0 => L
  | i + 1 => swL (swR a b L i) (a + i) (b + i)
theorem swR_len (a b : Nat) (L : List Cx) : ∀ i, (swR a b L i).length = L.length
  | 0 => rfl
  | i + 1 => by rw [swR, swL_len]; exact swR_len a b L i
/-- A row of cells at the block g. -/
def Rx (w : World) (B g cap : Nat) (L : List Cx) : Prop := w.ownsRow B 59 10 (.slice (some ⟨g, 0, none⟩) L.length cap) L.length (L.flatMap xs10)
theorem Rx.ten {w : World} {B g cap : Nat} {L : List Cx} (h : Rx w B g cap L) {i : Nat} {c : Cx} (hc : L[i]? = some c) : TenX w g (i * 10) c := by
  obtain ⟨ao, cap', e, _, hT⟩ := owns_xsees h
  obtain ⟨g', rfl, _, t⟩ := hT i c hc
  injection e with e1 _ _
  injection e1 with e2
  injection e2 with e3
  rw [e3]; exact t
/-- Ten cells, stored one by one. -/
def set10 (w : World) (g o : Nat) (c : Cx) : World := (((((((((w.setCell ⟨g, o, none⟩ (.string c.k.t)).setCell ⟨g, o + 1, none⟩ (.string c.k.p)).setCell ⟨g, o + 2, none⟩ (.int .i64 c.k.r)).setCell ⟨g, o + 3, none⟩ (.string c.k.c)).setCell ⟨g, o + 4, none⟩ (.int .i64 c.v.time)).setCell ⟨g, o + 5, none⟩ (.bool c.v.dead)).setCell ⟨g, o + 6, none⟩ (.int .i64 c.v.loc)).setCell ⟨g, o + 7, none⟩ (.int .i64 c.v.kind)).setCell ⟨g, o + 8, none⟩ (.int .i64 c.v.num)).setCell ⟨g, o + 9, none⟩ (.string c.v.s)
theorem flat_put : ∀ (L : List Cx) (i : Nat) (a a' : Cx), L[i]? = some a → ((((((((((L.flatMap xs10).set (i * 10) (.string a'.k.t)).set (i * 10 + 1) (.string a'.k.p)).set (i * 10 + 2) (.int .i64 a'.k.r)).set (i * 10 + 3) (.string a'.k.c)).set (i * 10 + 4) (.int .i64 a'.v.time)).set (i * 10 + 5) (.bool a'.v.dead)).set (i * 10 + 6) (.int .i64 a'.v.loc)).set (i * 10 + 7) (.int .i64 a'.v.kind)).set (i * 10 + 8) (.int .i64 a'.v.num)).set (i * 10 + 9) (.string a'.v.s) = (L.set i a').flatMap xs10 := by
  intro L i a a' h
  have hi := (List.getElem?_eq_some_iff.1 h).1
  have g0 : ∀ (M : List Cx) (x y : Cx) (j : Nat) (v : Value), M[i]? = some x → j < 10 → xs10 y = (xs10 x).set j v → (M.flatMap xs10).set (i * 10 + j) v = (M.set i y).flatMap xs10 := fun M x y j v hM hj hy => flat_set xs10_len M i j x y v hM hj hy
  have at' : ∀ x : Cx, (L.set i x)[i]? = some x := fun x => by simp [hi]
  have e0 := g0 L a ⟨⟨a'.k.t, a.k.p, a.k.r, a.k.c⟩, ⟨a.v.time, a.v.dead, a.v.loc, a.v.kind, a.v.num, a.v.s⟩⟩ 0 (.string a'.k.t) h (by omega) rfl
  rw [Nat.add_zero] at e0
  rw [e0]
  rw [g0 (L.set i ⟨⟨a'.k.t, a.k.p, a.k.r, a.k.c⟩, ⟨a.v.time, a.v.dead, a.v.loc, a.v.kind, a.v.num, a.v.s⟩⟩) ⟨⟨a'.k.t, a.k.p, a.k.r, a.k.c⟩, ⟨a.v.time, a.v.dead, a.v.loc, a.v.kind, a.v.num, a.v.s⟩⟩ ⟨⟨a'.k.t, a'.k.p, a.k.r, a.k.c⟩, ⟨a.v.time, a.v.dead, a.v.loc, a.v.kind, a.v.num, a.v.s⟩⟩ 1 (.string a'.k.p) (at' _) (by omega) rfl, List.set_set]
  rw [g0 (L.set i ⟨⟨a'.k.t, a'.k.p, a.k.r, a.k.c⟩, ⟨a.v.time, a.v.dead, a.v.loc, a.v.kind, a.v.num, a.v.s⟩⟩) ⟨⟨a'.k.t, a'.k.p, a.k.r, a.k.c⟩, ⟨a.v.time, a.v.dead, a.v.loc, a.v.kind, a.v.num, a.v.s⟩⟩ ⟨⟨a'.k.t, a'.k.p, a'.k.r, a.k.c⟩, ⟨a.v.time, a.v.dead, a.v.loc, a.v.kind, a.v.num, a.v.s⟩⟩ 2 (.int .i64 a'.k.r) (at' _) (by omega) rfl, List.set_set]
  rw [g0 (L.set i ⟨⟨a'.k.t, a'.k.p, a'.k.r, a.k.c⟩, ⟨a.v.time, a.v.dead, a.v.loc, a.v.kind, a.v.num, a.v.s⟩⟩) ⟨⟨a'.k.t, a'.k.p, a'.k.r, a.k.c⟩, ⟨a.v.time, a.v.dead, a.v.loc, a.v.kind, a.v.num, a.v.s⟩⟩ ⟨⟨a'.k.t, a'.k.p, a'.k.r, a'.k.c⟩, ⟨a.v.time, a.v.dead, a.v.loc, a.v.kind, a.v.num, a.v.s⟩⟩ 3 (.string a'.k.c) (at' _) (by omega) rfl, List.set_set]
  rw [g0 (L.set i ⟨⟨a'.k.t, a'.k.p, a'.k.r, a'.k.c⟩, ⟨a.v.time, a.v.dead, a.v.loc, a.v.kind, a.v.num, a.v.s⟩⟩) ⟨⟨a'.k.t, a'.k.p, a'.k.r, a'.k.c⟩, ⟨a.v.time, a.v.dead, a.v.loc, a.v.kind, a.v.num, a.v.s⟩⟩ ⟨⟨a'.k.t, a'.k.p, a'.k.r, a'.k.c⟩, ⟨a'.v.time, a.v.dead, a.v.loc, a.v.kind, a.v.num, a.v.s⟩⟩ 4 (.int .i64 a'.v.time) (at' _) (by omega) rfl, List.set_set]
  rw [g0 (L.set i ⟨⟨a'.k.t, a'.k.p, a'.k.r, a'.k.c⟩, ⟨a'.v.time, a.v.dead, a.v.loc, a.v.kind, a.v.num, a.v.s⟩⟩) ⟨⟨a'.k.t, a'.k.p, a'.k.r, a'.k.c⟩, ⟨a'.v.time, a.v.dead, a.v.loc, a.v.kind, a.v.num, a.v.s⟩⟩ ⟨⟨a'.k.t, a'.k.p, a'.k.r, a'.k.c⟩, ⟨a'.v.time, a'.v.dead, a.v.loc, a.v.kind, a.v.num, a.v.s⟩⟩ 5 (.bool a'.v.dead) (at' _) (by omega) rfl, List.set_set]
  rw [g0 (L.set i ⟨⟨a'.k.t, a'.k.p, a'.k.r, a'.k.c⟩, ⟨a'.v.time, a'.v.dead, a.v.loc, a.v.kind, a.v.num, a.v.s⟩⟩) ⟨⟨a'.k.t, a'.k.p, a'.k.r, a'.k.c⟩, ⟨a'.v.time, a'.v.dead, a.v.loc, a.v.kind, a.v.num, a.v.s⟩⟩ ⟨⟨a'.k.t, a'.k.p, a'.k.r, a'.k.c⟩, ⟨a'.v.time, a'.v.dead, a'.v.loc, a.v.kind, a.v.num, a.v.s⟩⟩ 6 (.int .i64 a'.v.loc) (at' _) (by omega) rfl, List.set_set]
  rw [g0 (L.set i ⟨⟨a'.k.t, a'.k.p, a'.k.r, a'.k.c⟩, ⟨a'.v.time, a'.v.dead, a'.v.loc, a.v.kind, a.v.num, a.v.s⟩⟩) ⟨⟨a'.k.t, a'.k.p, a'.k.r, a'.k.c⟩, ⟨a'.v.time, a'.v.dead, a'.v.loc, a.v.kind, a.v.num, a.v.s⟩⟩ ⟨⟨a'.k.t, a'.k.p, a'.k.r, a'.k.c⟩, ⟨a'.v.time, a'.v.dead, a'.v.loc, a'.v.kind, a.v.num, a.v.s⟩⟩ 7 (.int .i64 a'.v.kind) (at' _) (by omega) rfl, List.set_set]
  rw [g0 (L.set i ⟨⟨a'.k.t, a'.k.p, a'.k.r, a'.k.c⟩, ⟨a'.v.time, a'.v.dead, a'.v.loc, a'.v.kind, a.v.num, a.v.s⟩⟩) ⟨⟨a'.k.t, a'.k.p, a'.k.r, a'.k.c⟩, ⟨a'.v.time, a'.v.dead, a'.v.loc, a'.v.kind, a.v.num, a.v.s⟩⟩ ⟨⟨a'.k.t, a'.k.p, a'.k.r, a'.k.c⟩, ⟨a'.v.time, a'.v.dead, a'.v.loc, a'.v.kind, a'.v.num, a.v.s⟩⟩ 8 (.int .i64 a'.v.num) (at' _) (by omega) rfl, List.set_set]
  rw [g0 (L.set i ⟨⟨a'.k.t, a'.k.p, a'.k.r, a'.k.c⟩, ⟨a'.v.time, a'.v.dead, a'.v.loc, a'.v.kind, a'.v.num, a.v.s⟩⟩) ⟨⟨a'.k.t, a'.k.p, a'.k.r, a'.k.c⟩, ⟨a'.v.time, a'.v.dead, a'.v.loc, a'.v.kind, a'.v.num, a.v.s⟩⟩ ⟨⟨a'.k.t, a'.k.p, a'.k.r, a'.k.c⟩, ⟨a'.v.time, a'.v.dead, a'.v.loc, a'.v.kind, a'.v.num, a'.v.s⟩⟩ 9 (.string a'.v.s) (at' _) (by omega) rfl, List.set_set]
theorem Rx.put {w : World} {B g cap : Nat} {L : List Cx} (h : Rx w B g cap L) {i : Nat} {a : Cx} (ha : L[i]? = some a) (a' : Cx) : Rx (set10 w g (i * 10) a') B g cap (L.set i a') ∧ w.grownBy (set10 w g (i * 10) a') (some g) := by
  have h0 : w.ownsRow B 59 10 (.slice (some ⟨g, 0, none⟩) L.length cap) L.length (L.flatMap xs10) := h
  have h1 := (((((((((h0.stored (i * 10) (.string a'.k.t)).1.stored (i * 10 + 1) (.string a'.k.p)).1.stored (i * 10 + 2) (.int .i64 a'.k.r)).1.stored (i * 10 + 3) (.string a'.k.c)).1.stored (i * 10 + 4) (.int .i64 a'.v.time)).1.stored (i * 10 + 5) (.bool a'.v.dead)).1.stored (i * 10 + 6) (.int .i64 a'.v.loc)).1.stored (i * 10 + 7) (.int .i64 a'.v.kind)).1.stored (i * 10 + 8) (.int .i64 a'.v.num)).1.stored (i * 10 + 9) (.string a'.v.s) |>.1
  rw [flat_put L i a a' ha] at h1
  refine ⟨?_, ?_⟩
  · unfold Rx
    rw [List.length_set]
    exact h1
  · exact grownBy_setCell (grownBy_setCell (grownBy_setCell (grownBy_setCell (grownBy_setCell (grownBy_setCell (grownBy_setCell (grownBy_setCell (grownBy_setCell (grownBy_setCell ⟨rfl, rfl, rfl, Nat.le_refl _, fun _ _ _ => rfl⟩)))))))))
end Go.Proofs.YtdookhmaiapclaaGreatDoor
namespace Go.Proofs.YtdookhmaiapclaaGreatDoor
open Go.RowKit

/-- How two cells stand by their keys. -/
def kx (x y : Cx) : Int := kc x.k.ky y.k.ky
theorem kx_n (x y : Cx) : kx x y = - kx y x := kc_cmpr.n _ _
theorem kx_t {x y z : Cx} (h : kx x y ≤ 0) (g : kx y z ≤ 0) : kx x z ≤ 0 := kc_cmpr.t _ _ _ h g
theorem kx_z (x y : Cx) : kx x y = 0 ↔ x.k = y.k := (kc_cmpr.z _ _).trans Kb.ky_inj
theorem kx_self (x : Cx) : kx x x = 0 := (kx_z x x).2 rfl
theorem kx_ne {x y : Cx} (h : kx x y < 0) : x.k ≠ y.k := fun e => by have := (kx_z x y).2 e; omega
/-- The cells of one key, in their order. -/
noncomputable def ofK (κ : Kb) (L : List Cx) : List Cx := L.filter fun c => @decide (c.k = κ) (Classical.propDecidable _)
theorem ofK_append (κ : Kb) (A B : List Cx) : ofK κ (A ++ B) = ofK κ A ++ ofK κ B := List.filter_append ..
theorem ofK_nil {κ : Kb} {A : List Cx} (h : ∀ x ∈ A, x.k ≠ κ) : ofK κ A = [] := by
  unfold ofK
  rw [List.filter_eq_nil_iff]
  intro x hx
  simp only [decide_eq_true_eq]
  exact h x hx
theorem ofK_mem {κ : Kb} {A : List Cx} {x : Cx} : x ∈ ofK κ A ↔ x ∈ A ∧ x.k = κ := by
  unfold ofK
  rw [List.mem_filter]
  simp only [decide_eq_true_eq]
/-- Rearranged, so that the cells of each key stay in their order. -/
structure St (L L' : List Cx) : Prop where
  len : L'.length = L.length
  same : ∀ κ, ofK κ L' = ofK κ L
theorem St.refl (L : List Cx) : St L L := ⟨rfl, fun _ => rfl⟩
theorem St.trans {A B C : List Cx} (h : St A B) (g : St B C) : St A C := ⟨g.len.trans h.len, fun κ => (g.same κ).trans (h.same κ)⟩
theorem St.append {A A' B B' : List Cx} (h : St A A') (g : St B B') : St (A ++ B) (A' ++ B') :=
  ⟨by rw [List.length_append, List.length_append, h.len, g.len], fun κ => by rw [ofK_append, ofK_append, h.same, g.same]⟩
theorem St.mem {L L' : List Cx} (h : St L L') {x : Cx} : x ∈ L' ↔ x ∈ L := by
  have h1 : x ∈ ofK x.k L' ↔ x ∈ ofK x.k L := by rw [h.same]
  rw [ofK_mem, ofK_mem] at h1
  simpa using h1
/-- Two ranges with no key in common change their places. -/
theorem St.cross {X Y : List Cx} (h : ∀ x ∈ X, ∀ y ∈ Y, x.k ≠ y.k) : St (X ++ Y) (Y ++ X) := by
  refine ⟨by rw [List.length_append, List.length_append]; omega, fun κ => ?_⟩
  rw [ofK_append, ofK_append]
  by_cases hx : ∃ x ∈ X, x.k = κ
  · obtain ⟨x, hm, hk⟩ := hx
    have : ofK κ Y = [] := ofK_nil fun y hy e => h x hm y hy (hk.trans e.symm)
    rw [this]; simp
  · have : ofK κ X = [] := ofK_nil fun x hm hk => hx ⟨x, hm, hk⟩
    rw [this]; simp
/-- The keys do not fall. -/
def Up (L : List Cx) : Prop := L.Pairwise fun x y => kx x y ≤ 0
theorem Up.append {A B : List Cx} (ha : Up A) (hb : Up B) (h : ∀ x ∈ A, ∀ y ∈ B, kx x y ≤ 0) : Up (A ++ B) := List.pairwise_append.2 ⟨ha, hb, h⟩
theorem Up.left {A B : List Cx} (h : Up (A ++ B)) : Up A := (List.pairwise_append.1 h).1
theorem Up.right {A B : List Cx} (h : Up (A ++ B)) : Up B := (List.pairwise_append.1 h).2.1
theorem Up.over {A B : List Cx} (h : Up (A ++ B)) : ∀ x ∈ A, ∀ y ∈ B, kx x y ≤ 0 := (List.pairwise_append.1 h).2.2
/-- One cell is put among sorted ones. -/
theorem Up.insert {U V : List Cx} {x : Cx} (h : Up (U ++ V)) (hu : ∀ u ∈ U, kx u x ≤ 0) (hv : ∀ v ∈ V, kx x v ≤ 0) : Up (U ++ x :: V) := by
  refine h.left.append (List.pairwise_cons.2 ⟨hv, h.right⟩) fun u hu' y hy => ?_
  rcases List.mem_cons.1 hy with rfl | hy
  · exact hu u hu'
  · exact h.over u hu' y hy
theorem Up.last {U : List Cx} {l x : Cx} (h : Up (U ++ [l])) (hx : kx l x ≤ 0) : ∀ u ∈ U ++ [l], kx u x ≤ 0 := fun u hu => by
  rcases List.mem_append.1 hu with hu | hu
  · exact kx_t (h.over u hu l (by simp)) hx
  · obtain rfl : u = l := by simpa using hu
    exact hx
/-- Two sorted halves A0 X and Y B1 in which X stands behind Y, and A0 ahead of B1: what the rotation leaves. -/
theorem turned {A0 X Y B1 S1 S2 : List Cx} (ha : Up (A0 ++ X)) (hb : Up (Y ++ B1)) (hxy : ∀ x ∈ X, ∀ y ∈ Y, kx y x < 0) (hab : ∀ a ∈ A0, ∀ b ∈ B1, kx a b ≤ 0)
    (h1 : St (A0 ++ Y) S1) (h2 : St (X ++ B1) S2) (u1 : Up S1) (u2 : Up S2) : St (A0 ++ X ++ (Y ++ B1)) (S1 ++ S2) ∧ Up (S1 ++ S2) := by
  constructor
  · have c : St (X ++ Y) (Y ++ X) := St.cross fun x hx y hy e => kx_ne (hxy x hx y hy) e.symm
    have e : St (A0 ++ X ++ (Y ++ B1)) (A0 ++ Y ++ (X ++ B1)) := by
      have := ((St.refl A0).append c).append (St.refl B1)
      simpa [List.append_assoc] using this
    exact e.trans (h1.append h2)
  · refine u1.append u2 fun s hs t ht => ?_
    rcases List.mem_append.1 (h1.mem.1 hs) with hs | hs
    · rcases List.mem_append.1 (h2.mem.1 ht) with ht | ht
      · exact ha.over s hs t ht
      · exact hab s hs t ht
    · rcases List.mem_append.1 (h2.mem.1 ht) with ht | ht
      · have := hxy t ht s hs; omega
      · exact hb.over s hs t ht
/-- One cell ahead of sorted ones goes behind those that are less. -/
theorem moved_right {a : Cx} {U V : List Cx} (hb : Up (U ++ V)) (hu : ∀ u ∈ U, kx u a < 0) (hv : ∀ v ∈ V, kx a v ≤ 0) : St (a :: (U ++ V)) (U ++ a :: V) ∧ Up (U ++ a :: V) := by
  refine ⟨?_, hb.insert (fun u h => by have := hu u h; omega) hv⟩
  have c : St ([a] ++ U) (U ++ [a]) := St.cross fun x hx y hy e => by
    obtain rfl : x = a := by simpa using hx
    exact kx_ne (hu y hy) e.symm
  have := c.append (St.refl V)
  simpa using this
/-- One cell behind sorted ones goes ahead of those that are greater. -/
theorem moved_left {b : Cx} {U V : List Cx} (ha : Up (U ++ V)) (hu : ∀ u ∈ U, kx u b ≤ 0) (hv : ∀ v ∈ V, kx b v < 0) : St (U ++ V ++ [b]) (U ++ b :: V) ∧ Up (U ++ b :: V) := by
  refine ⟨?_, ha.insert hu (fun v h => by have := hv v h; omega)⟩
  have c : St (V ++ [b]) ([b] ++ V) := St.cross fun x hx y hy e => by
    obtain rfl : y = b := by simpa using hy
    exact kx_ne (hv x hx) e.symm
  have := (St.refl U).append c
  simpa using this
end Go.Proofs.YtdookhmaiapclaaGreatDoor
namespace Go.Proofs.YtdookhmaiapclaaGreatDoor
open Go.RowKit

def jnC (a b : Cx) : Cx := ⟨a.k, jn a.v b.v⟩
/-- One cell more. -/
def jrS (O : List Cx) (x : Cx) : List Cx := match O.getLast? with
  | none => [x]
  | some y => if kx y x = 0 then O.dropLast ++ [jnC y x] else O ++ [x]
theorem jrS_nil (x : Cx) : jrS [] x = [x] := rfl
theorem jrS_same {O : List Cx} {y x : Cx} (h : kx y x = 0) : jrS (O ++ [y]) x = O ++ [jnC y x] := by
  unfold jrS; simp [h]
theorem jrS_other {O : List Cx} {y x : Cx} (h : ¬ kx y x = 0) : jrS (O ++ [y]) x = (O ++ [y]) ++ [x] := by
  unfold jrS; simp [h]
def jr (l : List Cx) : List Cx := l.foldl jrS []
theorem jr_snoc (l : List Cx) (x : Cx) : jr (l ++ [x]) = jrS (jr l) x := by unfold jr; rw [List.foldl_append]; rfl
theorem jrS_len (O : List Cx) (x : Cx) : (jrS O x).length ≤ O.length + 1 := by
  rcases List.eq_nil_or_concat O with rfl | ⟨P, y, rfl⟩
  · simp [jrS]
  · rw [List.concat_eq_append]
    by_cases h : kx y x = 0
    · rw [jrS_same h]; simp
    · rw [jrS_other h]; simp
theorem jr_len (l : List Cx) : ∀ i, (jr (l.take i)).length ≤ i := fun i => by
  induction i with
  | zero => simp [jr]
  | succ i ih =>
    by_cases h : i < l.length
    · rw [takeX_succ (List.getElem?_eq_getElem h), jr_snoc]
      have := jrS_len (jr (l.take i)) l[i]
      omega
    · rw [List.take_of_length_le (by omega)]
      rw [List.take_of_length_le (by omega)] at ih
      omega

/-! ### The keys rise -/
def Rising (L : List Cx) : Prop := L.Pairwise fun x y => kx x y < 0
theorem kx_strict {x y z : Cx} (h : kx x y < 0) (g : kx y z < 0) : kx x z < 0 := kc_cmpr.strict h g
theorem kx_left {x x' y : Cx} (h : x.k = x'.k) : kx x y = kx x' y := by unfold kx; rw [h]
theorem kx_right {x y y' : Cx} (h : y.k = y'.k) : kx x y = kx x y' := by unfold kx; rw [h]
theorem ofK_cons_hit {κ : Kb} {x : Cx} (A : List Cx) (h : x.k = κ) : ofK κ (x :: A) = x :: ofK κ A := by
  unfold ofK; rw [List.filter_cons_of_pos]; exact @decide_eq_true _ (Classical.propDecidable _) h
theorem ofK_cons_miss {κ : Kb} {x : Cx} (A : List Cx) (h : x.k ≠ κ) : ofK κ (x :: A) = ofK κ A := by
  unfold ofK; rw [List.filter_cons_of_neg]; rw [@decide_eq_false _ (Classical.propDecidable _) h]; simp
/-- Two rising lists with the same cells of each key are one. -/
theorem rise_ext : ∀ {A B : List Cx}, Rising A → Rising B → (∀ κ, ofK κ A = ofK κ B) → A = B
  | [], [], _, _, _ => rfl
  | [], b :: B, _, _, h => by
    have := h b.k
    rw [ofK_cons_hit _ rfl] at this
    cases this
  | a :: A, [], _, _, h => by
    have := h a.k
    rw [ofK_cons_hit _ rfl] at this
    cases this
  | a :: A, b :: B, ha, hb, h => by
    have ha1 := (List.pairwise_cons.1 ha).1
    have hb1 := (List.pairwise_cons.1 hb).1
    have hk : kx a b = 0 := by
      by_cases h1 : kx a b < 0
      · have h2 := h a.k
        have h3 : ofK a.k (b :: B) = [] := ofK_nil fun x hx e => by
          rcases List.mem_cons.1 hx with rfl | hx
          · exact kx_ne h1 e.symm
          · exact kx_ne (kx_strict h1 (hb1 x hx)) e.symm
        rw [ofK_cons_hit _ rfl, h3] at h2
        cases h2
      · by_cases h1' : kx b a < 0
        · have h2 := h b.k
          have h3 : ofK b.k (a :: A) = [] := ofK_nil fun x hx e => by
            rcases List.mem_cons.1 hx with rfl | hx
            · exact kx_ne h1' e.symm
            · exact kx_ne (kx_strict h1' (ha1 x hx)) e.symm
          rw [ofK_cons_hit _ rfl, h3] at h2
          cases h2
        · have := kx_n a b
          omega
    have hkk := (kx_z a b).1 hk
    have h2 := h a.k
    rw [ofK_cons_hit _ rfl, ofK_cons_hit _ hkk.symm] at h2
    injection h2 with h3 h4
    subst h3
    rw [rise_ext (List.pairwise_cons.1 ha).2 (List.pairwise_cons.1 hb).2 fun κ => ?_]
    by_cases hκ : a.k = κ
    · subst hκ; exact h4
    · have h5 := h κ
      rwa [ofK_cons_miss _ hκ, ofK_cons_miss _ hκ] at h5
/-- The cells of one key, joined in their order. -/
def fK : List Cx → List Cx
  | [] => []
  | c :: cs => [cs.foldl jnC c]
def fS : List Cx → Cx → List Cx
  | [], x => [x]
  | y :: _, x => [jnC y x]
theorem fK_snoc (l : List Cx) (x : Cx) : fK (l ++ [x]) = fS (fK l) x := by
  cases l with
  | nil => rfl
  | cons c cs => simp [fK, fS, List.foldl_append]

/-! ### Adding one after the other -/
def addC : List Cx → Cx → List Cx
  | [], c => [c]
  | x :: l, c => if kx x c = 0 then jnC x c :: l else if 0 < kx x c then c :: x :: l else x :: addC l c
theorem addC_same {x c : Cx} (l : List Cx) (h : kx x c = 0) : addC (x :: l) c = jnC x c :: l := by rw [addC, if_pos h]
theorem addC_ahead {x c : Cx} (l : List Cx) (h : 0 < kx x c) : addC (x :: l) c = c :: x :: l := by rw [addC, if_neg (by omega), if_pos h]
theorem addC_behind {x c : Cx} (l : List Cx) (h : kx x c < 0) : addC (x :: l) c = x :: addC l c := by rw [addC, if_neg (by omega), if_neg (by omega)]
theorem addC_keys {O : List Cx} {c x : Cx} (h : x ∈ addC O c) : x.k = c.k ∨ ∃ y ∈ O, y.k = x.k := by
  induction O with
  | nil =>
    obtain rfl : x = c := by simpa [addC] using h
    exact .inl rfl
  | cons y O ih =>
    by_cases h0 : kx y c = 0
    · rw [addC_same _ h0] at h
      rcases List.mem_cons.1 h with rfl | h
      · exact .inr ⟨y, by simp, rfl⟩
      · exact .inr ⟨x, by simp [h], rfl⟩
    · by_cases h1 : 0 < kx y c
      · rw [addC_ahead _ h1] at h
        rcases List.mem_cons.1 h with rfl | h
        · exact .inl rfl
        · exact .inr ⟨x, h, rfl⟩
      · rw [addC_behind _ (by omega)] at h
        rcases List.mem_cons.1 h with rfl | h
        · exact .inr ⟨x, by simp, rfl⟩
        · rcases ih h with e | ⟨z, hz, e⟩
          · exact .inl e
          · exact .inr ⟨z, by simp [hz], e⟩
theorem addC_rising {O : List Cx} (hO : Rising O) (c : Cx) : Rising (addC O c) := by
  induction O with
  | nil => simp [addC, Rising]
  | cons y O ih =>
    obtain ⟨h1, h2⟩ := List.pairwise_cons.1 hO
    by_cases h0 : kx y c = 0
    · rw [addC_same _ h0]
      exact List.pairwise_cons.2 ⟨fun z hz => by rw [kx_left (show (jnC y c).k = y.k from rfl)]; exact h1 z hz, h2⟩
    · by_cases h3 : 0 < kx y c
      · rw [addC_ahead _ h3]
        have h4 : kx c y < 0 := by have := kx_n c y; omega
        refine List.pairwise_cons.2 ⟨fun z hz => ?_, hO⟩
        rcases List.mem_cons.1 hz with rfl | hz
        · exact h4
        · exact kx_strict h4 (h1 z hz)
      · have h4 : kx y c < 0 := by omega
        rw [addC_behind _ h4]
        refine List.pairwise_cons.2 ⟨fun z hz => ?_, ih h2⟩
        rcases addC_keys hz with e | ⟨u, hu, e⟩
        · rw [kx_right e]; exact h4
        · rw [← kx_right e]; exact h1 u hu
theorem ofK_addC {O : List Cx} (hO : Rising O) (c : Cx) (κ : Kb) : ofK κ (addC O c) = if @decide (c.k = κ) (Classical.propDecidable _) then fS (ofK κ O) c else ofK κ O := by
  by_cases hc : c.k = κ
  · rw [if_pos (@decide_eq_true _ (Classical.propDecidable _) hc)]
    induction O with
    | nil => rw [addC, ofK_cons_hit _ hc]; rfl
    | cons y O ih =>
      obtain ⟨h1, h2⟩ := List.pairwise_cons.1 hO
      by_cases h0 : kx y c = 0
      · have hy : y.k = κ := ((kx_z y c).1 h0).trans hc
        have hn : ofK κ O = [] := ofK_nil fun z hz e => kx_ne (h1 z hz) (hy.trans e.symm)
        rw [addC_same _ h0, ofK_cons_hit _ (show (jnC y c).k = κ from hy), ofK_cons_hit _ hy, hn]; rfl
      · have hy : y.k ≠ κ := fun e => h0 ((kx_z y c).2 (e.trans hc.symm))
        by_cases h3 : 0 < kx y c
        · have hn : ofK κ (y :: O) = [] := ofK_nil fun z hz e => by
            have h4 : kx c y < 0 := by have := kx_n c y; omega
            rcases List.mem_cons.1 hz with rfl | hz
            · exact hy e
            · exact kx_ne (kx_strict h4 (h1 z hz)) (hc.trans e.symm)
          rw [addC_ahead _ h3, ofK_cons_hit _ hc, hn]; rfl
        · rw [addC_behind _ (by omega), ofK_cons_miss _ hy, ofK_cons_miss _ hy, ih h2]
  · rw [if_neg (by rw [@decide_eq_false _ (Classical.propDecidable _) hc]; simp)]
    clear hO
    induction O with
    | nil => rw [addC, ofK_cons_miss _ hc]
    | cons y O ih =>
      by_cases h0 : kx y c = 0
      · have hy : y.k ≠ κ := fun e => hc (((kx_z y c).1 h0).symm.trans e)
        rw [addC_same _ h0, ofK_cons_miss _ (show (jnC y c).k ≠ κ from hy), ofK_cons_miss _ hy]
      · by_cases h3 : 0 < kx y c
        · rw [addC_ahead _ h3, ofK_cons_miss _ hc]
        · rw [addC_behind _ (by omega)]
          by_cases hy : y.k = κ
          · rw [ofK_cons_hit _ hy, ofK_cons_hit _ hy, ih]
          · rw [ofK_cons_miss _ hy, ofK_cons_miss _ hy, ih]
def nrm (l : List Cx) : List Cx := l.foldl addC []
theorem nrm_snoc (l : List Cx) (x : Cx) : nrm (l ++ [x]) = addC (nrm l) x := by unfold nrm; rw [List.foldl_append]; rfl
theorem snoc_ind {P : List Cx → Prop} (h0 : P []) (h1 : ∀ l x, P l → P (l ++ [x])) : ∀ l, P l := fun l => by
  have : ∀ n, ∀ l : List Cx, l.length = n → P l := fun n => by
    induction n with
    | zero => intro l hl; rw [List.eq_nil_of_length_eq_zero hl]; exact h0
    | succ n ih =>
      intro l hl
      rcases List.eq_nil_or_concat l with rfl | ⟨m, x, rfl⟩
      · simp at hl
      · rw [List.concat_eq_append] at hl ⊢
        exact h1 m x (ih m (by simpa using hl))
  exact this _ l rfl
theorem nrm_rising (l : List Cx) : Rising (nrm l) := by
  refine snoc_ind (P := fun l => Rising (nrm l)) (by simp [nrm, Rising]) (fun l x h => ?_) l
  rw [nrm_snoc]; exact addC_rising h x
theorem nrm_ofK (l : List Cx) (κ : Kb) : ofK κ (nrm l) = fK (ofK κ l) := by
  refine snoc_ind (P := fun l => ofK κ (nrm l) = fK (ofK κ l)) rfl (fun l x h => ?_) l
  rw [nrm_snoc, ofK_addC (nrm_rising l), ofK_append]
  by_cases hx : x.k = κ
  · rw [if_pos (@decide_eq_true _ (Classical.propDecidable _) hx), h, ofK_cons_hit _ hx, ← fK_snoc]; rfl
  · rw [if_neg (by rw [@decide_eq_false _ (Classical.propDecidable _) hx]; simp), h, ofK_cons_miss _ hx]
    show fK _ = fK (_ ++ [])
    rw [List.append_nil]

/-! ### Joining neighbours of sorted cells -/
theorem jr_keys {S : List Cx} {x : Cx} : x ∈ jr S → ∃ y ∈ S, y.k = x.k := by
  refine snoc_ind (P := fun S => x ∈ jr S → ∃ y ∈ S, y.k = x.k) (fun h => by cases h) (fun l c ih => ?_) S
  rw [jr_snoc]
  intro h
  rcases List.eq_nil_or_concat (jr l) with e | ⟨P, y, e⟩
  · rw [e, jrS_nil] at h
    obtain rfl : x = c := by simpa using h
    exact ⟨x, by simp, rfl⟩
  · rw [List.concat_eq_append] at e
    rw [e] at h ih
    by_cases hk : kx y c = 0
    · rw [jrS_same hk] at h
      rcases List.mem_append.1 h with h | h
      · obtain ⟨z, hz, e2⟩ := ih (by simp [h])
        exact ⟨z, by simp [hz], e2⟩
      · obtain rfl : x = jnC y c := by simpa using h
        exact ⟨c, by simp, ((kx_z y c).1 hk).symm⟩
    · rw [jrS_other hk] at h
      rcases List.mem_append.1 h with h | h
      · obtain ⟨z, hz, e2⟩ := ih h
        exact ⟨z, by simp [hz], e2⟩
      · obtain rfl : x = c := by simpa using h
        exact ⟨x, by simp, rfl⟩
theorem jr_both {S : List Cx} : Up S → Rising (jr S) ∧ ∀ κ, ofK κ (jr S) = fK (ofK κ S) := by
  refine snoc_ind (P := fun S => Up S → Rising (jr S) ∧ ∀ κ, ofK κ (jr S) = fK (ofK κ S)) (fun _ => ⟨by simp [jr, Rising], fun κ => rfl⟩) (fun l c ih hU => ?_) S
  obtain ⟨h1, h2⟩ := ih hU.left
  have hov : ∀ z ∈ jr l, kx z c ≤ 0 := fun z hz => by
    obtain ⟨y, hy, e⟩ := jr_keys hz
    rw [← kx_left e]; exact hU.over y hy c (by simp)
  rw [jr_snoc]
  have hK : ∀ κ, fK (ofK κ (l ++ [c])) = if @decide (c.k = κ) (Classical.propDecidable _) then fS (ofK κ (jr l)) c else ofK κ (jr l) := fun κ => by
    rw [ofK_append]
    by_cases hx : c.k = κ
    · rw [if_pos (@decide_eq_true _ (Classical.propDecidable _) hx), h2, ofK_cons_hit _ hx, ← fK_snoc]; rfl
    · rw [if_neg (by rw [@decide_eq_false _ (Classical.propDecidable _) hx]; simp), h2, ofK_cons_miss _ hx]
      show fK (_ ++ []) = _
      rw [List.append_nil]
  rcases List.eq_nil_or_concat (jr l) with e | ⟨P, y, e⟩
  · rw [e] at hK ⊢
    rw [jrS_nil]
    refine ⟨by simp [Rising], fun κ => ?_⟩
    rw [hK]
    by_cases hx : c.k = κ
    · rw [if_pos (@decide_eq_true _ (Classical.propDecidable _) hx), ofK_cons_hit _ hx]; rfl
    · rw [if_neg (by rw [@decide_eq_false _ (Classical.propDecidable _) hx]; simp), ofK_cons_miss _ hx]
  · rw [List.concat_eq_append] at e
    rw [e] at h1 hov hK ⊢
    have hP := List.pairwise_append.1 h1
    by_cases hk : kx y c = 0
    · have hyc := (kx_z y c).1 hk
      rw [jrS_same hk]
      refine ⟨List.pairwise_append.2 ⟨hP.1, by simp, fun a ha b hb => ?_⟩, fun κ => ?_⟩
      · obtain rfl : b = jnC y c := by simpa using hb
        rw [kx_right (show (jnC y c).k = y.k from rfl)]
        exact hP.2.2 a ha y (by simp)
      · rw [hK, ofK_append, ofK_append]
        by_cases hx : c.k = κ
        · have hn : ofK κ P = [] := ofK_nil fun z hz e => kx_ne (hP.2.2 z hz y (by simp)) (e.trans (hx.symm.trans hyc.symm))
          rw [if_pos (@decide_eq_true _ (Classical.propDecidable _) hx), ofK_cons_hit _ (show (jnC y c).k = κ from hyc.trans hx), ofK_cons_hit _ (hyc.trans hx), hn]; rfl
        · rw [if_neg (by rw [@decide_eq_false _ (Classical.propDecidable _) hx]; simp), ofK_cons_miss _ (show (jnC y c).k ≠ κ from fun e => hx (hyc.symm.trans e)), ofK_cons_miss _ (fun e => hx (hyc.symm.trans e))]
    · have hlt : ∀ z ∈ P ++ [y], kx z c < 0 := fun z hz => by
        rcases List.mem_append.1 hz with hz' | hz'
        · have a1 := hP.2.2 z hz' y (by simp)
          have a2 := hov y (by simp)
          exact kx_strict a1 (by omega)
        · obtain rfl : z = y := by simpa using hz'
          have a2 := hov z (by simp)
          omega
      rw [jrS_other hk]
      refine ⟨List.pairwise_append.2 ⟨h1, by simp, fun a ha b hb => ?_⟩, fun κ => ?_⟩
      · obtain rfl : b = c := by simpa using hb
        exact hlt a ha
      · rw [hK, ofK_append]
        by_cases hx : c.k = κ
        · have hn : ofK κ (P ++ [y]) = [] := ofK_nil fun z hz e => kx_ne (hlt z hz) (e.trans hx.symm)
          rw [if_pos (@decide_eq_true _ (Classical.propDecidable _) hx), ofK_cons_hit _ hx, hn]; rfl
        · rw [if_neg (by rw [@decide_eq_false _ (Classical.propDecidable _) hx]; simp), ofK_cons_miss _ hx]
          show _ ++ [] = _
          rw [List.append_nil]
theorem jr_nrm {l S : List Cx} (h : St l S) (u : Up S) : jr S = nrm l := by
  obtain ⟨h1, h2⟩ := jr_both u
  exact rise_ext h1 (nrm_rising l) fun κ => by rw [h2, nrm_ofK, h.same]
end Go.Proofs.YtdookhmaiapclaaGreatDoor
namespace Go.Proofs.YtdookhmaiapclaaGreatDoor
open Go.RowKit

def zeroX : Cx := ⟨⟨⟨#[]⟩, ⟨#[]⟩, 0, ⟨#[]⟩⟩, zeroV⟩
theorem set10_heap {w : World} {g : Nat} {a : Cx} {ty : TypeId} (h : w.heap[g]? = some (.cells a.a ty)) (v0 v1 v2 v3 v4 v5 v6 v7 v8 v9 : Value) :
    ((((((((((w.setCell ⟨g, 0, none⟩ v0).setCell ⟨g, 1, none⟩ v1).setCell ⟨g, 2, none⟩ v2).setCell ⟨g, 3, none⟩ v3).setCell ⟨g, 4, none⟩ v4).setCell ⟨g, 5, none⟩ v5).setCell ⟨g, 6, none⟩ v6).setCell ⟨g, 7, none⟩ v7).setCell ⟨g, 8, none⟩ v8).setCell ⟨g, 9, none⟩ v9).heap[g]? = some (.cells #[v0, v1, v2, v3, v4, v5, v6, v7, v8, v9] ty) := by
  simp only [World.setCell, Array.getElem?_modify, h, Cx.a]
  simp
theorem below10 {B : Nat} {w w1 : World} (h : Below B w w1) {g : Nat} (hg : B ≤ g) (v0 v1 v2 v3 v4 v5 v6 v7 v8 v9 : Value) : Below B w ((((((((((w1.setCell ⟨g, 0, none⟩ v0).setCell ⟨g, 1, none⟩ v1).setCell ⟨g, 2, none⟩ v2).setCell ⟨g, 3, none⟩ v3).setCell ⟨g, 4, none⟩ v4).setCell ⟨g, 5, none⟩ v5).setCell ⟨g, 6, none⟩ v6).setCell ⟨g, 7, none⟩ v7).setCell ⟨g, 8, none⟩ v8).setCell ⟨g, 9, none⟩ v9) :=
  ((((below6 h hg v0 v1 v2 v3 v4 v5).setCell (p := ⟨g, 6, none⟩) hg _).setCell (p := ⟨g, 7, none⟩) hg _).setCell (p := ⟨g, 8, none⟩) hg _).setCell (p := ⟨g, 9, none⟩) hg _
theorem boxesX3 (w : World) (a b c : Cx) : ∃ wa, wa = ((w.alloc (.cells a.a 59)).alloc (.cells b.a 59)).alloc (.cells c.a 59) ∧ TenX wa w.heap.size 0 a ∧ TenX wa (w.heap.size + 1) 0 b ∧ TenX wa (w.heap.size + 1 + 1) 0 c ∧ wa.heap[w.heap.size + 1 + 1]? = some (.cells c.a 59) ∧ Below w.heap.size w wa := by
  have h3 := heap_alloc_new ((w.alloc (.cells a.a 59)).alloc (.cells b.a 59)) (.cells c.a 59)
  rw [World.size_alloc, World.size_alloc] at h3
  refine ⟨_, rfl, ((TenX.new w a _).alloc _).alloc _, ?_, TenX.of h3, h3, (((Below.refl _ _).alloc (Nat.le_refl _) _).alloc (by simp) _).alloc (by rw [World.size_alloc, World.size_alloc]; omega) _⟩
  have := TenX.new (w.alloc (.cells a.a 59)) b 59
  rw [World.size_alloc] at this; exact this.alloc _
end Go.Proofs.YtdookhmaiapclaaGreatDoor
namespace Go.Proofs.YtdookhmaiapclaaGreatDoor
open Go.RowKit

theorem Rx.drew {w : World} {B g cap : Nat} {L : List Cx} (h : Rx w B g cap L) : Rx w.drew B g cap L := h
theorem grown_drew {w w' : World} {r : Option Nat} (h : w.grownBy w' r) : w.grownBy w'.drew r := ⟨h.os, h.tape, h.output, h.size, h.block⟩
end Go.Proofs.YtdookhmaiapclaaGreatDoor
namespace Go.Proofs.YtdookhmaiapclaaGreatDoor
open Go.RowKit

theorem swL_split (P M Q : List Cx) (x y : Cx) : swL (P ++ x :: (M ++ y :: Q)) P.length (P.length + 1 + M.length) = P ++ y :: (M ++ x :: Q) := by
  have hx : (P ++ x :: (M ++ y :: Q))[P.length]? = some x := by simp
  have hy : (P ++ x :: (M ++ y :: Q))[P.length + 1 + M.length]? = some y := by
    rw [List.getElem?_append_right (by omega)]
    have : P.length + 1 + M.length - P.length = M.length + 1 := by omega
    rw [this, List.getElem?_cons_succ, List.getElem?_append_right (Nat.le_refl _)]
    simp
  rw [swL_eq hx hy]
  rw [List.set_append_right _ _ (Nat.le_refl _), Nat.sub_self, List.set_cons_zero, List.set_append_right _ _ (by omega)]
  have : P.length + 1 + M.length - P.length = M.length + 1 := by omega
  rw [this, List.set_cons_succ, List.set_append_right _ _ (Nat.le_refl _), Nat.sub_self, List.set_cons_zero]
/-- Ranges of one length change their places. -/
theorem swR_split (P M Q : List Cx) : ∀ (n : Nat) (X Y X2 Y2 : List Cx), X.length = n → Y.length = n → swR P.length (P.length + (X ++ X2).length + M.length) (P ++ (X ++ X2) ++ M ++ (Y ++ Y2) ++ Q) n = P ++ (Y ++ X2) ++ M ++ (X ++ Y2) ++ Q
  | 0, X, Y, X2, Y2, hX, hY => by
    obtain rfl := List.eq_nil_of_length_eq_zero hX
    obtain rfl := List.eq_nil_of_length_eq_zero hY
    rfl
  | n + 1, X, Y, X2, Y2, hX, hY => by
    have eX : X ≠ [] := by rintro rfl; simp at hX
    have eY : Y ≠ [] := by rintro rfl; simp at hY
    obtain ⟨X1, x, rfl⟩ : ∃ X1 x, X = X1 ++ [x] := ⟨X.dropLast, X.getLast eX, (List.dropLast_concat_getLast eX).symm⟩
    obtain ⟨Y1, y, rfl⟩ : ∃ Y1 y, Y = Y1 ++ [y] := ⟨Y.dropLast, Y.getLast eY, (List.dropLast_concat_getLast eY).symm⟩
    have hX1 : X1.length = n := by simpa using hX
    have hY1 : Y1.length = n := by simpa using hY
    have ih := swR_split P M Q n X1 Y1 ([x] ++ X2) ([y] ++ Y2) hX1 hY1
    have e1 : P ++ (X1 ++ [x] ++ X2) ++ M ++ (Y1 ++ [y] ++ Y2) ++ Q = P ++ (X1 ++ ([x] ++ X2)) ++ M ++ (Y1 ++ ([y] ++ Y2)) ++ Q := by simp
    have e2 : (X1 ++ [x] ++ X2).length = (X1 ++ ([x] ++ X2)).length := by simp
    rw [swR, e1, e2, ih]
    have e3 : P ++ (Y1 ++ ([x] ++ X2)) ++ M ++ (X1 ++ ([y] ++ Y2)) ++ Q = (P ++ Y1) ++ x :: ((X2 ++ M ++ X1) ++ y :: (Y2 ++ Q)) := by simp
    have e4 : P.length + n = (P ++ Y1).length := by simp [hY1]
    have e5 : P.length + (X1 ++ ([x] ++ X2)).length + M.length + n = (P ++ Y1).length + 1 + (X2 ++ M ++ X1).length := by simp [hX1, hY1]; omega
    rw [e3, e4, e5, swL_split (P ++ Y1) (X2 ++ M ++ X1) (Y2 ++ Q) x y]
    simp
end Go.Proofs.YtdookhmaiapclaaGreatDoor
namespace Go.Proofs.YtdookhmaiapclaaGreatDoor
open Go.RowKit

theorem grown_below {w w' : World} (h : Below w.heap.size w w') (g : Nat) : w.grownBy w' (some g) := ⟨h.os, h.tape, h.output, h.size, fun k hk _ => h.block k hk⟩
theorem Rx.below {w w' : World} {B g cap : Nat} {L : List Cx} (h : Rx w B g cap L) (hb : Below w.heap.size w w') : Rx w' B g cap L := by
  obtain ⟨h1, h2⟩ := h
  refine ⟨h1, ?_⟩
  rcases h2 with ⟨h2, _⟩ | ⟨g', cap', cur, h2, h3, h4, h5⟩
  · cases h2
  · have hlt : g' < w.heap.size := (Array.getElem?_eq_some_iff.1 h4).1
    exact .inr ⟨g', cap', cur, h2, h3, by rw [hb.block _ hlt]; exact h4, h5⟩
theorem at_mid (A : List Cx) (x : Cx) (Z : List Cx) : (A ++ x :: Z)[A.length]? = some x := by simp
theorem at_mid2 (A : List Cx) (l x : Cx) (Z : List Cx) : (A ++ l :: x :: Z)[A.length + 1]? = some x := by
  rw [List.getElem?_append_right (by omega)]
  simp
theorem set_two_mid (A : List Cx) (l x : Cx) (Z : List Cx) : ((A ++ l :: x :: Z).set (A.length + 1) l).set A.length x = A ++ x :: l :: Z := by
  rw [List.set_append_right _ _ (by omega), List.set_append_right _ _ (Nat.le_refl _)]
  simp
attribute [local irreducible] wpQuiet
end Go.Proofs.YtdookhmaiapclaaGreatDoor
namespace Go.Proofs.YtdookhmaiapclaaGreatDoor
open Go.RowKit

theorem ow_below {w w' : World} {B : Nat} {e : TypeId} {k n : Nat} {v : Value} {xs : List Value} (h : w.ownsRow B e k v n xs) (hb : Below w.heap.size w w') : w'.ownsRow B e k v n xs :=
  h.kept (row := none) ⟨hb.os, hb.tape, hb.output, hb.size, fun k hk _ => hb.block k hk⟩ (by cases hv : v.ownBlock <;> simp)
theorem set_last (O : List Cx) (y z : Cx) : (O ++ [y]).set O.length z = O ++ [z] := by
  rw [List.set_append_right _ _ (Nat.le_refl _), Nat.sub_self]; rfl
attribute [local irreducible] wpQuiet
end Go.Proofs.YtdookhmaiapclaaGreatDoor
namespace Go.Proofs.YtdookhmaiapclaaGreatDoor
open Go.RowKit

theorem kx_lt {x y z : Cx} (h : kx x y ≤ 0) (g : kx y z < 0) : kx x z < 0 := by
  have h1 := kx_t h (show kx y z ≤ 0 by omega)
  by_cases e : kx x z = 0
  · have e2 := (kx_z x z).1 e
    have e3 : kx y z = kx y x := by unfold kx; rw [e2]
    have e4 := kx_n x y
    omega
  · omega
theorem set_mid2 (A : List Cx) (x l : Cx) (Z : List Cx) : ((A ++ x :: l :: Z).set A.length l).set (A.length + 1) x = A ++ l :: x :: Z := by
  rw [List.set_append_right _ _ (Nat.le_refl _), List.set_append_right _ _ (by omega)]
  simp
attribute [local irreducible] wpQuiet
end Go.Proofs.YtdookhmaiapclaaGreatDoor
namespace Go.Proofs.YtdookhmaiapclaaGreatDoor
open Go.RowKit

theorem kx_lt2 {x y z : Cx} (h : kx x y < 0) (g : kx y z ≤ 0) : kx x z < 0 := by
  have h1 := kx_t (show kx x y ≤ 0 by omega) g
  by_cases e : kx x z = 0
  · have e2 := (kx_z x z).1 e
    have e3 : kx y z = kx y x := by unfold kx; rw [e2]
    have e4 := kx_n x y
    omega
  · omega
attribute [local irreducible] wpQuiet
end Go.Proofs.YtdookhmaiapclaaGreatDoor
namespace Go.Proofs.YtdookhmaiapclaaGreatDoor
open Go.RowKit

/-- Sorted cells, by their places. -/
theorem up_le {A : List Cx} (h : Up A) {i j : Nat} {x y : Cx} (hij : i ≤ j) (hx : A[i]? = some x) (hy : A[j]? = some y) : kx x y ≤ 0 := by
  rcases Nat.lt_or_ge i j with g | g
  · obtain ⟨h1, e1⟩ := List.getElem?_eq_some_iff.1 hx
    obtain ⟨h2, e2⟩ := List.getElem?_eq_some_iff.1 hy
    have := List.pairwise_iff_getElem.1 h i j h1 h2 g
    rw [e1, e2] at this
    exact this
  · obtain rfl : i = j := by omega
    rw [hx] at hy
    obtain rfl := Option.some.inj hy
    rw [kx_self]; omega
theorem mid_at (P A R : List Cx) (i : Nat) (h1 : P.length ≤ i) (h2 : i < P.length + A.length) : (P ++ A ++ R)[i]? = A[i - P.length]? := by
  rw [List.append_assoc, List.getElem?_append_right h1, List.getElem?_append_left (by omega)]
/-- What the search has found: below s the first half's cells are not greater than those of the second that stand over against them; from r on they are. -/
structure Srch (L : List Cx) (p s0 r0 s r : Nat) : Prop where
  lo : ∀ c x y, s0 ≤ c → c < s → L[c]? = some x → L[p - c]? = some y → kx x y ≤ 0
  hi : ∀ c x y, r ≤ c → c < r0 → L[c]? = some x → L[p - c]? = some y → kx y x < 0
theorem Srch.start (L : List Cx) (p s0 r0 : Nat) : Srch L p s0 r0 s0 r0 := ⟨fun c x y h1 h2 => by omega, fun c x y h1 h2 => by omega⟩
/-- The places of the two halves, of the middle, and of the search's bounds. -/
structure Plc (a m b mid n p s0 r0 : Nat) : Prop where
  am : a + 1 < m
  mb : m + 1 < b
  hmid : mid = (a + b) / 2
  hn : n = mid + m
  hp : p + 1 = n
  hs0 : s0 = if mid < m then n - b else a
  hr0 : r0 = if mid < m then mid else m
theorem Plc.all {a m b mid n p s0 r0 : Nat} (h : Plc a m b mid n p s0 r0) : a ≤ s0 ∧ s0 ≤ r0 ∧ r0 ≤ m ∧ a < mid ∧ mid < b ∧ n ≤ s0 + b ∧ p < s0 + b ∧ m + r0 ≤ n ∧ (mid < m → s0 + b = n ∧ r0 = mid) ∧ (m ≤ mid → s0 = a ∧ r0 = m) := by
  have h1 := h.am; have h2 := h.mb; have h3 := h.hmid; have h4 := h.hn; have h5 := h.hp; have h6 := h.hs0; have h7 := h.hr0
  split at h6 <;> split at h7 <;> omega
theorem Srch.up {P A T Q : List Cx} {a m b mid n p s0 r0 s r c : Nat} {x y : Cx} (hp : Plc a m b mid n p s0 r0) (ha : P.length = a) (hm : a + A.length = m) (hb : m + T.length = b) (uA : Up A) (uT : Up T)
    (h : Srch (P ++ A ++ T ++ Q) p s0 r0 s r) (h1 : s0 ≤ s) (h2 : s ≤ c) (h3 : c < r) (h4 : r ≤ r0) (hx : (P ++ A ++ T ++ Q)[c]? = some x) (hy : (P ++ A ++ T ++ Q)[p - c]? = some y) (hk : ¬ kx y x < 0) : Srch (P ++ A ++ T ++ Q) p s0 r0 (c + 1) r := by
  have hP := hp.all
  have h5 := hp.hp
  refine ⟨fun c' x' y' g1 g2 gx gy => ?_, h.hi⟩
  have hk' : kx x y ≤ 0 := by have := kx_n x y; omega
  rw [show P ++ A ++ T ++ Q = P ++ A ++ (T ++ Q) by simp, mid_at P A _ c' (by omega) (by omega)] at gx
  rw [show P ++ A ++ T ++ Q = P ++ A ++ (T ++ Q) by simp, mid_at P A _ c (by omega) (by omega)] at hx
  rw [mid_at (P ++ A) T Q _ (by rw [List.length_append]; omega) (by rw [List.length_append]; omega)] at gy hy
  exact kx_t (up_le uA (by omega) gx hx) (kx_t hk' (up_le uT (by rw [List.length_append]; omega) hy gy))
theorem Srch.down {P A T Q : List Cx} {a m b mid n p s0 r0 s r c : Nat} {x y : Cx} (hp : Plc a m b mid n p s0 r0) (ha : P.length = a) (hm : a + A.length = m) (hb : m + T.length = b) (uA : Up A) (uT : Up T)
    (h : Srch (P ++ A ++ T ++ Q) p s0 r0 s r) (h1 : s0 ≤ s) (h2 : s ≤ c) (h3 : c < r) (h4 : r ≤ r0) (hx : (P ++ A ++ T ++ Q)[c]? = some x) (hy : (P ++ A ++ T ++ Q)[p - c]? = some y) (hk : kx y x < 0) : Srch (P ++ A ++ T ++ Q) p s0 r0 s c := by
  have hP := hp.all
  have h5 := hp.hp
  refine ⟨h.lo, fun c' x' y' g1 g2 gx gy => ?_⟩
  rw [show P ++ A ++ T ++ Q = P ++ A ++ (T ++ Q) by simp, mid_at P A _ c' (by omega) (by omega)] at gx
  rw [show P ++ A ++ T ++ Q = P ++ A ++ (T ++ Q) by simp, mid_at P A _ c (by omega) (by omega)] at hx
  rw [mid_at (P ++ A) T Q _ (by rw [List.length_append]; omega) (by rw [List.length_append]; omega)] at gy hy
  exact kx_lt2 (kx_lt (up_le uT (by rw [List.length_append]; omega) gy hy) hk) (up_le uA (by omega) hx gx)
/-- Where the search ends: the four ranges. -/
theorem Srch.parts {P A T Q : List Cx} {a m b mid n p s0 r0 s : Nat} (hp : Plc a m b mid n p s0 r0) (ha : P.length = a) (hm : a + A.length = m) (hb : m + T.length = b) (uA : Up A) (uT : Up T)
    (h : Srch (P ++ A ++ T ++ Q) p s0 r0 s s) (h1 : s0 ≤ s) (h4 : s ≤ r0) :
    ∃ A0 X Y B1, A = A0 ++ X ∧ T = Y ++ B1 ∧ a + A0.length = s ∧ m + Y.length + s = n ∧ s + X.length = m ∧ n - s + B1.length = b ∧ (∀ x ∈ X, ∀ y ∈ Y, kx y x < 0) ∧ (∀ u ∈ A0, ∀ v ∈ B1, kx u v ≤ 0) := by
  have hP := hp.all
  have h5 := hp.hp
  have h6 := hp.hn
  obtain ⟨A0, X, rfl, hA0⟩ : ∃ A0 X, A = A0 ++ X ∧ A0.length = s - a := ⟨A.take (s - a), A.drop (s - a), (List.take_append_drop _ _).symm, by rw [List.length_take]; omega⟩
  obtain ⟨Y, B1, rfl, hY⟩ : ∃ Y B1, T = Y ++ B1 ∧ Y.length = n - s - m := ⟨T.take (n - s - m), T.drop (n - s - m), (List.take_append_drop _ _).symm, by rw [List.length_take]; omega⟩
  rw [List.length_append] at hm hb
  refine ⟨A0, X, Y, B1, rfl, rfl, by omega, by omega, by omega, by omega, fun x hx y hy => ?_, fun u hu v hv => ?_⟩
  · cases X with
    | nil => cases hx
    | cons x0 X' =>
      rcases List.eq_nil_or_concat Y with rfl | ⟨Y', yl, rfl⟩
      · cases hy
      · rw [List.concat_eq_append] at *
        simp only [List.length_append, List.length_cons, List.length_nil] at hm hY hb
        have e1 : (P ++ (A0 ++ x0 :: X') ++ (Y' ++ [yl] ++ B1) ++ Q)[s]? = some x0 := by
          have := at_mid (P ++ A0) x0 (X' ++ (Y' ++ [yl] ++ B1) ++ Q)
          rw [List.length_append, ha, hA0, show a + (s - a) = s by omega] at this
          rw [← this]; simp
        have e2 : (P ++ (A0 ++ x0 :: X') ++ (Y' ++ [yl] ++ B1) ++ Q)[p - s]? = some yl := by
          have := at_mid (P ++ (A0 ++ x0 :: X') ++ Y') yl (B1 ++ Q)
          simp only [List.length_append, List.length_cons] at this
          rw [show P.length + (A0.length + (X'.length + 1)) + Y'.length = p - s by omega] at this
          rw [← this]; simp
        have k0 := h.hi s x0 yl (Nat.le_refl _) (by omega) e1 e2
        have k1 : kx y yl ≤ 0 := by
          rcases List.mem_append.1 hy with g | g
          · exact uT.left.over y g yl (by simp)
          · obtain rfl : y = yl := by simpa using g
            rw [kx_self]; omega
        have k2 : kx x0 x ≤ 0 := by
          rcases List.mem_cons.1 hx with rfl | g
          · rw [kx_self]; omega
          · exact (List.pairwise_cons.1 uA.right).1 x g
        exact kx_lt2 (kx_lt k1 k0) k2
  · cases B1 with
    | nil => cases hv
    | cons b0 B' =>
      rcases List.eq_nil_or_concat A0 with rfl | ⟨A', al, rfl⟩
      · cases hu
      · rw [List.concat_eq_append] at *
        simp only [List.length_append, List.length_cons, List.length_nil] at hm hA0 hb
        have e1 : (P ++ (A' ++ [al] ++ X) ++ (Y ++ b0 :: B') ++ Q)[s - 1]? = some al := by
          have := at_mid (P ++ A') al (X ++ (Y ++ b0 :: B') ++ Q)
          rw [List.length_append, show P.length + A'.length = s - 1 by omega] at this
          rw [← this]; simp
        have e2 : (P ++ (A' ++ [al] ++ X) ++ (Y ++ b0 :: B') ++ Q)[p - (s - 1)]? = some b0 := by
          have := at_mid (P ++ (A' ++ [al] ++ X) ++ Y) b0 (B' ++ Q)
          simp only [List.length_append, List.length_cons, List.length_nil] at this
          rw [show P.length + (A'.length + (0 + 1) + X.length) + Y.length = p - (s - 1) by omega] at this
          rw [← this]; simp
        have k0 := h.lo (s - 1) al b0 (by omega) (by omega) e1 e2
        have k1 : kx u al ≤ 0 := by
          rcases List.mem_append.1 hu with g | g
          · exact uA.left.over u g al (by simp)
          · obtain rfl : u = al := by simpa using g
            rw [kx_self]; omega
        have k2 : kx b0 v ≤ 0 := by
          rcases List.mem_cons.1 hv with rfl | g
          · rw [kx_self]; omega
          · exact (List.pairwise_cons.1 uT.right).1 v g
        exact kx_t (kx_t k1 k0) k2
end Go.Proofs.YtdookhmaiapclaaGreatDoor
namespace Go.Proofs.YtdookhmaiapclaaGreatDoor
open Go.RowKit

attribute [local irreducible] wpQuiet
end Go.Proofs.YtdookhmaiapclaaGreatDoor
namespace Go.Proofs.YtdookhmaiapclaaGreatDoor
open Go.RowKit

/-- Ranges of bs cells, each sorted. -/
def Runs (bs : Nat) (L : List Cx) : Prop := ∀ q, Up ((L.drop (q * bs)).take bs)
theorem Up.sub {A B : List Cx} (h : Up B) (hs : A.Sublist B) : Up A := List.Pairwise.sublist hs h
theorem Runs.snoc {bs q : Nat} {D S : List Cx} (h : Runs bs D) (hq : D.length = q * bs) (hS : Up S) (hl : S.length ≤ bs) : Runs bs (D ++ S) := by
  intro q'
  rcases Nat.lt_trichotomy q' q with g | g | g
  · have h1 : q' * bs + bs ≤ q * bs := by
      have := Nat.mul_le_mul_right bs (show q' + 1 ≤ q from g)
      rwa [Nat.add_mul, Nat.one_mul] at this
    rw [List.drop_append_of_le_length (by omega), List.take_append_of_le_length (by rw [List.length_drop]; omega)]
    exact h q'
  · subst g
    rw [← hq, List.drop_left]
    exact hS.sub (List.take_sublist _ _)
  · have h1 : q * bs + bs ≤ q' * bs := by
      have := Nat.mul_le_mul_right bs (show q + 1 ≤ q' from g)
      rwa [Nat.add_mul, Nat.one_mul] at this
    rw [List.drop_eq_nil_of_le (by rw [List.length_append]; omega)]
    simp [Up]
theorem Runs.nil (bs : Nat) : Runs bs [] := fun q => by simp [Up]
theorem Runs.all {bs : Nat} {L : List Cx} (h : Runs bs L) (hl : L.length ≤ bs) : Up L := by
  have := h 0
  rwa [Nat.zero_mul, List.drop_zero, List.take_of_length_le hl] at this
/-- The rest of sorted ranges: its first range, its second one. -/
theorem Runs.rest {bs k : Nat} {L E : List Cx} (h : Runs bs L) (hE : L.drop (k * bs) = E) : Runs bs E := by
  intro q
  have := h (k + q)
  rw [Nat.add_mul, ← List.drop_drop, hE] at this
  exact this
theorem Runs.first {bs : Nat} {X R : List Cx} (h : Runs bs (X ++ R)) (hX : X.length ≤ bs) (hR : X.length = bs ∨ R = []) : Up X := by
  have := h 0
  rw [Nat.zero_mul, List.drop_zero] at this
  rcases hR with hR | rfl
  · rwa [List.take_append_of_le_length (by omega), List.take_of_length_le (by omega)] at this
  · rwa [List.append_nil, List.take_of_length_le hX] at this
theorem Runs.second {bs : Nat} {X Y R : List Cx} (h : Runs bs (X ++ (Y ++ R))) (hX : X.length = bs) (hY : Y.length ≤ bs) (hR : Y.length = bs ∨ R = []) : Up Y := by
  have h1 := h.rest (k := 1) (E := Y ++ R) (by rw [Nat.one_mul, ← hX, List.drop_left])
  exact h1.first hY hR
end Go.Proofs.YtdookhmaiapclaaGreatDoor
namespace Go.Proofs.YtdookhmaiapclaaGreatDoor
open Go.RowKit

theorem isNil (cap : Nat) (w : World) : (binOp BinOp.eql 22 (.slice none 0 cap) (.slice none 0 0)).run Tryz.prog w = .ok (.bool true) w := by kernel_rfl
theorem notNil (a : Addr) (n cap : Nat) (w : World) : (binOp BinOp.eql 22 (.slice (some a) n cap) (.slice none 0 0)).run Tryz.prog w = .ok (.bool false) w := by kernel_rfl
set_option maxRecDepth 100000 in
set_option maxHeartbeats 1000000 in
theorem cloneX_any (ao : Option Addr) (l : List Cx) (cap : Nat) (w : World) (hs : XSees w ao l) (hn : ao = none → l.length = 0) (hl : l.length ≤ 1000000) :
    Calls Tryz.prog 44 #[.slice ao l.length cap] w fun e w' => ∃ v, e = .returned v ∧ w'.ownsRow w.heap.size 59 10 v l.length (l.flatMap xs10) ∧ Below w.heap.size w w' := by
  obtain ⟨i1, hi1, hy0, hy1, hy2⟩ := infoX infoCx
  cases ao with
  | none =>
    obtain rfl : l = [] := List.eq_nil_of_length_eq_zero (hn rfl)
    simp only [List.length_nil]
    clear hs hn
    have hq := isNil cap w
    go_enter Tryz.func44, Tryz.ntmps44
    go_wp2_with fail
    go_ret
    exact ⟨_, rfl, World.ownsRow_nil _ _ _ _, Below.refl _ _⟩
  | some a =>
    have hlz : (l.length : Int) ≤ 1000000 := by omega
    have hq := notNil a l.length cap w
    have hbe : Below w.heap.size w (w.alloc (.cells #[] 59)) := (Below.refl _ _).alloc (Nat.le_refl _) _
    have hs2 := hs.below hbe (Nat.le_refl _)
    go_enter Tryz.func44, Tryz.ntmps44
    go_wp2_with (at_builtin; go_must (refine wpList_append_grew _ rfl _ _ 22 22 rfl w.heap.size 59 i1 _ 10 112 Tryz.underlying22 hi1 hy0 hy1 hy2 rfl _ 0 [] rfl (owns_noneX w w.heap.size (Nat.le_refl _)) _ l.length (l.flatMap xs10) rfl (src_cells hs2 hn cap) (by unfold maxLen; omega) (by omega) (by rw [World.size_alloc]; omega) ?_; intro v2 w2 ho2 hg2; simp only [Nat.zero_add, List.nil_append] at ho2))
    go_ret
    refine ⟨_, rfl, ho2, hbe.trans (hg2.below (by rw [World.size_alloc]; omega) (fun g hg => ?_))⟩
    obtain rfl := Option.some.inj hg
    exact Nat.le_refl _
end Go.Proofs.YtdookhmaiapclaaGreatDoor
namespace Go.Proofs.YtdookhmaiapclaaGreatDoor
open Go.RowKit

end Go.Proofs.YtdookhmaiapclaaGreatDoor
namespace Go.Proofs.YtdookhmaiapclaaGreatDoor
open Go.RowKit

/-- The version of the first cell of a key. -/
noncomputable def fnd (k : Kb) : List Cx → Vr × Bool
  | [] => (zeroV, false)
  | c :: l => if @decide (c.k = k) (Classical.propDecidable _) then (c.v, true) else fnd k l
theorem fnd_hit {k : Kb} {c : Cx} (l : List Cx) (h : c.k = k) : fnd k (c :: l) = (c.v, true) := by unfold fnd; rw [if_pos (@decide_eq_true _ (Classical.propDecidable _) h)]
theorem fnd_miss {k : Kb} {c : Cx} (l : List Cx) (h : c.k ≠ k) : fnd k (c :: l) = fnd k l := by
  rw [fnd, if_neg (by rw [@decide_eq_false _ (Classical.propDecidable _) h]; simp)]
theorem fnd_drop {k : Kb} {l : List Cx} : ∀ i, i ≤ l.length → (∀ j c, j < i → l[j]? = some c → c.k ≠ k) → fnd k l = fnd k (l.drop i)
  | 0, _, _ => rfl
  | i + 1, hi, h => by
    have hlt : i < l.length := by omega
    rw [fnd_drop i (by omega) (fun j c hj hc => h j c (by omega) hc), List.drop_eq_getElem_cons hlt]
    exact fnd_miss _ (h i _ (by omega) (List.getElem?_eq_getElem hlt))
theorem key_first {t1 t2 p1 p2 c1 c2 : ByteArray} {r1 r2 : Int} (h : ¬ (⟨t1, p1, r1, c1⟩ : Kb) = ⟨t2, p2, r2, c2⟩) :
    ¬ t1.toList = t2.toList ∨ (t1 = t2 ∧ ¬ p1.toList = p2.toList) ∨ (t1 = t2 ∧ p1 = p2 ∧ ¬ r1 = r2) ∨ (t1 = t2 ∧ p1 = p2 ∧ r1 = r2 ∧ ¬ c1.toList = c2.toList) := by
  have e : ∀ {a b : ByteArray}, a.toList = b.toList → a = b := fun {a b} h => by rw [ba_list, ba_list] at h; exact nb_inj.1 h
  by_cases e1 : t1.toList = t2.toList
  · by_cases e2 : p1.toList = p2.toList
    · by_cases e3 : r1 = r2
      · refine Or.inr (Or.inr (Or.inr ⟨e e1, e e2, e3, fun e4 => h ?_⟩))
        rw [e e1, e e2, e3, e e4]
      · exact Or.inr (Or.inr (Or.inl ⟨e e1, e e2, e3⟩))
    · exact Or.inr (Or.inl ⟨e e1, e2⟩)
  · exact Or.inl e1
theorem find_box (w : World) (k : Kb) : ∃ wa, wa = (w.alloc (.cells #[.string k.t, .string k.p, .int .i64 k.r, .string k.c] 24)).alloc (.cells zeroV.a 48) ∧ (wa.cell? ⟨w.heap.size, 0, none⟩ = some (.string k.t) ∧ wa.cell? ⟨w.heap.size, 1, none⟩ = some (.string k.p) ∧ wa.cell? ⟨w.heap.size, 2, none⟩ = some (.int .i64 k.r) ∧ wa.cell? ⟨w.heap.size, 3, none⟩ = some (.string k.c)) ∧ wa.heap[w.heap.size + 1]? = some (.cells zeroV.a 48) ∧ wa.heap.size = w.heap.size + 1 + 1 ∧ Below w.heap.size w wa := by
  refine ⟨_, rfl, ⟨(box_cells w _ _ _ 0 _ rfl).1, (box_cells w _ _ _ 1 _ rfl).1, (box_cells w _ _ _ 2 _ rfl).1, (box_cells w _ _ _ 3 _ rfl).1⟩, ?_, by rw [World.size_alloc, World.size_alloc], ((Below.refl _ _).alloc (Nat.le_refl _) _).alloc (by simp) _⟩
  have := heap_alloc_new (w.alloc (.cells #[.string k.t, .string k.p, .int .i64 k.r, .string k.c] 24)) (.cells zeroV.a 48)
  rwa [World.size_alloc] at this
end Go.Proofs.YtdookhmaiapclaaGreatDoor
namespace Go.Proofs.YtdookhmaiapclaaGreatDoor
open Go.RowKit

theorem jnC_assoc (a b c : Cx) : jnC (jnC a b) c = jnC a (jnC b c) := by unfold jnC; rw [jn_assoc]
theorem jnC_self (a : Cx) : jnC a a = a := by unfold jnC; rw [jn_self]
theorem good_v {c : Cx} (h : goodC c = true) : goodV (decide (c.k.c.size = 0)) c.v = true := by
  unfold goodC at h; exact (Bool.and_eq_true_iff.1 h).2
theorem jnC_comm {a b : Cx} (ha : goodC a = true) (hb : goodC b = true) (hk : a.k = b.k) : jnC a b = jnC b a := by
  have h1 := good_v ha
  have h2 := good_v hb
  rw [hk] at h1
  unfold jnC
  rw [jn_comm h1 h2, hk]
theorem jnC_good {a b : Cx} (ha : goodC a = true) (hb : goodC b = true) (hk : a.k = b.k) : goodC (jnC a b) = true := by
  have h1 := good_v ha
  have h2 := good_v hb
  have h3 : goodK a.k.ky = true := by unfold goodC at ha; exact (Bool.and_eq_true_iff.1 ha).1
  rw [← hk] at h2
  have := jn_good h1 h2
  show (goodK a.k.ky && goodV (decide (a.k.c.size = 0)) (jn a.v b.v)) = true
  rw [h3, this]; rfl
/-- Two joins, one behind the other. -/
def jo : List Cx → List Cx → List Cx
  | [], y => y
  | x :: _, [] => [x]
  | x :: _, y :: _ => [jnC x y]
theorem fS_jo (a b : List Cx) (x : Cx) : fS (jo a b) x = jo a (fS b x) := by
  cases a with
  | nil => rfl
  | cons p a =>
    cases b with
    | nil => rfl
    | cons q b => show [jnC (jnC p q) x] = [jnC p (jnC q x)]; rw [jnC_assoc]
theorem fK_one (l : List Cx) : (fK l).length ≤ 1 := by cases l <;> simp [fK]
theorem jo_nil {a : List Cx} (h : a.length ≤ 1) : jo a [] = a := by
  match a, h with
  | [], _ => rfl
  | [x], _ => rfl
theorem fK_append (a b : List Cx) : fK (a ++ b) = jo (fK a) (fK b) := by
  refine snoc_ind (P := fun b => fK (a ++ b) = jo (fK a) (fK b)) ?_ (fun l x ih => ?_) b
  · rw [List.append_nil]; exact (jo_nil (fK_one a)).symm
  · rw [← List.append_assoc, fK_snoc, ih, fS_jo, ← fK_snoc]
/-- Good cells of one key. -/
def OneGood (κ : Kb) (l : List Cx) : Prop := ∀ c ∈ l, goodC c = true ∧ c.k = κ
theorem OneGood.fK {κ : Kb} {l : List Cx} (h : OneGood κ l) : OneGood κ (fK l) := by
  refine snoc_ind (P := fun l => OneGood κ l → OneGood κ (Go.Proofs.YtdookhmaiapclaaGreatDoor.fK l)) (fun _ c hc => by cases hc) (fun l x ih h => ?_) l h
  have h1 := ih fun c hc => h c (by simp [hc])
  have hx := h x (by simp)
  rw [fK_snoc]
  intro c hc
  match hl : Go.Proofs.YtdookhmaiapclaaGreatDoor.fK l, h1 with
  | [], _ =>
    rw [hl] at hc
    obtain rfl : c = x := by simpa [fS] using hc
    exact hx
  | y :: r, h1 =>
    rw [hl] at hc
    obtain rfl : c = jnC y x := by simpa [fS] using hc
    have hy := h1 y (by simp)
    exact ⟨jnC_good hy.1 hx.1 (hy.2.trans hx.2.symm), hy.2⟩
theorem jo_comm {κ : Kb} {a b : List Cx} (ha : OneGood κ a) (hb : OneGood κ b) (la : a.length ≤ 1) (lb : b.length ≤ 1) : jo a b = jo b a := by
  match a, la, b, lb with
  | [], _, [], _ => rfl
  | [], _, [y], _ => rfl
  | [x], _, [], _ => rfl
  | [x], _, [y], _ =>
    have h1 := ha x (by simp)
    have h2 := hb y (by simp)
    show [jnC x y] = [jnC y x]
    rw [jnC_comm h1.1 h2.1 (h1.2.trans h2.2.symm)]
theorem jo_self {a : List Cx} (h : a.length ≤ 1) : jo a a = a := by
  match a, h with
  | [], _ => rfl
  | [x], _ => show [jnC x x] = [x]; rw [jnC_self]
theorem fK_comm {κ : Kb} {a b : List Cx} (ha : OneGood κ a) (hb : OneGood κ b) : fK (a ++ b) = fK (b ++ a) := by
  rw [fK_append, fK_append, jo_comm ha.fK hb.fK (fK_one a) (fK_one b)]
theorem fK_rev {κ : Kb} : ∀ {l : List Cx}, OneGood κ l → fK l.reverse = fK l
  | [], _ => rfl
  | c :: l, h => by
    have hl : OneGood κ l := fun x hx => h x (by simp [hx])
    have hc : OneGood κ [c] := fun x hx => h x (by simp at hx; simp [hx])
    rw [List.reverse_cons, fK_append, fK_rev hl, ← fK_append, fK_comm hl hc]; rfl
theorem ofK_rev (κ : Kb) (l : List Cx) : ofK κ l.reverse = (ofK κ l).reverse := by unfold ofK; rw [List.filter_reverse]
theorem ofK_good {κ : Kb} {l : List Cx} (h : ∀ c ∈ l, goodC c = true) : OneGood κ (ofK κ l) := fun c hc => by
  obtain ⟨h1, h2⟩ := ofK_mem.1 hc
  exact ⟨h c h1, h2⟩
theorem nrm_rev {l : List Cx} (h : ∀ c ∈ l, goodC c = true) : nrm l.reverse = nrm l :=
  rise_ext (nrm_rising _) (nrm_rising _) fun κ => by rw [nrm_ofK, nrm_ofK, ofK_rev, fK_rev (ofK_good h)]
/-- A rising list is its own Norm. -/
theorem fK_of_rising {L : List Cx} (h : Rising L) (κ : Kb) : fK (ofK κ L) = ofK κ L := by
  induction L with
  | nil => rfl
  | cons x L ih =>
    obtain ⟨h1, h2⟩ := List.pairwise_cons.1 h
    by_cases hx : x.k = κ
    · have hn : ofK κ L = [] := ofK_nil fun z hz e => kx_ne (h1 z hz) (hx.trans e.symm)
      rw [ofK_cons_hit _ hx, hn]; rfl
    · rw [ofK_cons_miss _ hx]; exact ih h2
theorem nrm_of_rising {L : List Cx} (h : Rising L) : nrm L = L := rise_ext (nrm_rising _) h fun κ => by rw [nrm_ofK, fK_of_rising h]
theorem fnd_mem {L : List Cx} (h : Rising L) {c : Cx} (hc : c ∈ L) : fnd c.k L = (c.v, true) := by
  induction L with
  | nil => cases hc
  | cons x L ih =>
    obtain ⟨h1, h2⟩ := List.pairwise_cons.1 h
    rcases List.mem_cons.1 hc with rfl | hc
    · exact fnd_hit _ rfl
    · rw [fnd_miss _ (kx_ne (h1 c hc))]; exact ih h2 hc
def goods (l : List Cx) : List Cx := l.filter goodC
theorem goods_all (l : List Cx) : ∀ c ∈ goods l, goodC c = true := fun _ hc => (List.mem_filter.1 hc).2
theorem goods_snoc (l : List Cx) (x : Cx) : goods (l ++ [x]) = if goodC x then goods l ++ [x] else goods l := by
  unfold goods
  rw [List.filter_append]
  by_cases h : goodC x = true
  · rw [if_pos h, List.filter_cons_of_pos h]; rfl
  · rw [if_neg h, List.filter_cons_of_neg h]; simp
end Go.Proofs.YtdookhmaiapclaaGreatDoor

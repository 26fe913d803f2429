/-
  CONTRACT: murmur's Sum, for every bytes and every seed.
-/
import Derived.Test.YtcnceipkoapcpaaDoorMurHalf
import Derived.Test.YtcnceipkoapcpaaDoorMurWord
namespace Go.Proofs.YtcnceipkoapcpaaDoor
open Go.RowKit

theorem word_len (ao : Option Addr) (l : List UInt8) (n cap : Nat) (w : World) (hn : l.length = n) (hl : n ≤ 140737488354000) (hs : Sees w ao l) :
    Calls Tryd.prog 46 #[.slice ao n cap] w fun e w' => e = .returned (.int .u64 ((wordB l).toNat : Int)) ∧ w' = w := by
  subst hn
  exact word_anyM ao l cap w hl hs
theorem sees_drop {w : World} {b off : Nat} {l : List UInt8} (h : Sees w (some ⟨b, off, none⟩) l) (k : Nat) : Sees w (some ⟨b, off + k, none⟩) (l.drop k) := by
  intro i hi
  rw [List.length_drop] at hi
  obtain ⟨a, e, hc⟩ := h (k + i) (by omega)
  obtain rfl := Option.some.inj e
  refine ⟨_, rfl, ?_⟩
  rw [Addr.add_lit] at hc ⊢
  rw [show off + k + i = off + (k + i) by omega, hc]
  simp [List.getD, List.getElem?_drop]

theorem finish_len (a b : BitVec 64) (n : Nat) (F : BitVec 64 × BitVec 64) (w : World) (hn : n < 18446744073709551616) (hF : F = finishB (a, b) (BitVec.ofNat 64 n)) :
    Calls Tryd.prog 47 #[.int .u64 (a.toNat : Int), .int .u64 (b.toNat : Int), .int .u64 (n : Int)] w fun e w' => e = .returned (.tuple #[.int .u64 (F.1.toNat : Int), .int .u64 (F.2.toNat : Int)]) ∧ w' = w := by
  rw [u_lit n hn, hF]
  exact finish_any a b _ w
theorem slice_next (av : Option Addr) (n c k len cap : Nat) (h1 : n + 16 * k = len) (h2 : c + 16 * k = cap) :
    Value.slice av (n - 16) (c - 16) = .slice av (len - 16 * (k + 1)) (cap - 16 * (k + 1)) := by
  rw [show n - 16 = len - 16 * (k + 1) by omega, show c - 16 = cap - 16 * (k + 1) by omega]
theorem av_next (b off k n c len : Nat) (hnc : n ≤ c) (h1 : n + 16 * k = len) :
    16 * (k + 1) < len → ∀ b' off', (some ⟨b, off, none⟩ : Option Addr) = some ⟨b', off', none⟩ → (if c = 16 then some ⟨b, off + 16 * k, none⟩ else some ⟨b, off + 16 * k + 16, none⟩ : Option Addr) = some ⟨b', off' + 16 * (k + 1), none⟩ := by
  intro h b' off' e
  cases e
  rw [if_neg (by omega), show off + 16 * k + 16 = off + 16 * (k + 1) by omega]
def sliceLen : Value → Nat
  | .slice _ n _ => n
  | _ => 0
theorem sum_end (l : List UInt8) (seed : BitVec 64) (k : Nat) (h1 : 16 * k ≤ l.length) (h2 : l.length - 16 * k < 16) :
    sumB l seed = finishB (restB (l.drop (16 * k)) (blocksB l seed k)) (BitVec.ofNat 64 l.length) := by
  have e : l.length / 16 = k := by omega
  unfold sumB
  rw [e]
theorem grownBy_sees {w w' : World} {g b off : Nat} {l : List UInt8} (h : Sees w (some ⟨b, off, none⟩) l) (hg : w.grownBy w' (some g)) (hb : b < g) : Sees w' (some ⟨b, off, none⟩) l := by
  intro i hi
  obtain ⟨a, e, hc⟩ := h i hi
  obtain rfl := Option.some.inj e
  refine ⟨_, rfl, ?_⟩
  have hlt : b < w.heap.size := by
    have := World.block_lt_of_cell? _ _ hc
    rwa [Addr.add_block] at this
  have hbl : (Addr.add ⟨b, off, none⟩ i).block = b := Addr.add_block _ _
  have hblk : w'.heap[(Addr.add ⟨b, off, none⟩ i).block]? = w.heap[(Addr.add ⟨b, off, none⟩ i).block]? := by
    rw [hbl]
    exact hg.block b hlt (fun e => by have := Option.some.inj e; omega)
  rw [World.cell?_of_block hblk, hc]

set_option maxRecDepth 100000 in
set_option maxHeartbeats 1600000 in
theorem murSum_any (ao : Option Addr) (l : List UInt8) (cap : Nat) (seed : BitVec 64) (w : World) (hl : l.length ≤ 140737488354000) (hcap : l.length ≤ cap) (hs : Sees w ao l) :
    Calls Tryd.prog 35 #[.slice ao l.length cap, .int .u64 (seed.toNat : Int)] w fun e w' => e = .returned (.tuple #[.int .u64 ((sumB l seed).1.toNat : Int), .int .u64 ((sumB l seed).2.toNat : Int)]) ∧ Below w.heap.size w w' := by
  have hmf : ∀ (fn : Fn) (first cap : Array Value) (w : World), (Instr.makeFunc fn first cap).run Tryd.prog w = .ok (.func fn first cap) w := fun _ _ _ _ => rfl
  go_enter Tryd.func35, Tryd.ntmps35
  go_wp2
  go_step3
  go_wp2
  go_step3
  go_wp2
  go_loopw [10] (fun v wr => ∃ (k : Nat) (av : Option Addr), 16 * k ≤ l.length ∧ v = .slice av (l.length - 16 * k) (cap - 16 * k) ∧ (16 * k < l.length → ∀ b off, ao = some ⟨b, off, none⟩ → av = some ⟨b, off + 16 * k, none⟩) ∧ Half wr w.heap.size (blocksB l seed k).1 ∧ Half wr (w.heap.size + 1) (blocksB l seed k).2 ∧ Below w.heap.size w wr)
    (fun v _ => sliceLen v)
  case atStart =>
    refine ⟨0, ao, by omega, rfl, fun _ b off e => e, ?_, ?_, ((Below.refl _ w).alloc (Nat.le_refl _) _).alloc (by simp) _⟩
    · exact (Below.heap_alloc _ _ _ (by simp)).trans (heap_alloc_new w _)
    · have := heap_alloc_new (w.alloc (.cells #[.int .u64 (seed.toNat : Int)] 61)) (.cells #[.int .u64 (seed.toNat : Int)] 61)
      rw [World.size_alloc] at this
      exact this
  case round =>
    obtain ⟨k, av, hk, rfl, hav, H1, H2, hB⟩ := hrel
    have hsz := H2.lt
    have hend := fun h => sum_end l seed k hk h
    have hnext : blocksB l seed (k + 1) = blockB (blocksB l seed k) (wordB (l.drop (16 * k))) (wordB ((l.drop (16 * k)).drop 8)) := by
      rw [List.drop_drop]; rfl
    have Hend : Hid (l.length - 16 * k < 16 → sumB l seed = finishB (restB (l.drop (16 * k)) (blocksB l seed k)) (BitVec.ofNat 64 l.length)) := hend
    have Hnext : Hid (blocksB l seed (k + 1) = blockB (blocksB l seed k) (wordB (l.drop (16 * k))) (wordB ((l.drop (16 * k)).drop 8))) := hnext
    clear hend hnext
    obtain ⟨h1, h2, hh⟩ : ∃ h1 h2, blocksB l seed k = (h1, h2) := ⟨_, _, rfl⟩
    rw [hh] at H1 H2
    have c1 := H1.cell
    have c2 := H2.cell
    rcases Nat.lt_or_ge (16 * k) l.length with hlt | hge
    · obtain ⟨b, off, rfl, hc0⟩ := sees_atM hs hlt
      have hbb : b < w.heap.size := World.block_lt_of_cell? _ _ hc0
      have S0 : Sees wr (some ⟨b, off + 16 * k, none⟩) (l.drop (16 * k)) := sees_drop (hs.below hB (Nat.le_refl _)) _
      have hd : (l.drop (16 * k)).length = l.length - 16 * k := List.length_drop
      obtain rfl := hav hlt b off rfl
      clear hav hc0
      generalize l.drop (16 * k) = d at *
      obtain ⟨n, hn⟩ : ∃ n, l.length - 16 * k = n := ⟨_, rfl⟩
      obtain ⟨c, hc⟩ : ∃ c, cap - 16 * k = c := ⟨_, rfl⟩
      have hn0 : 0 < n := by omega
      have hn1 : n ≤ 140737488354000 := by omega
      have hnc : n ≤ c := by omega
      have Hn : Hid (n + 16 * k = l.length) := by show _ = _; omega
      have Hc : Hid (c + 16 * k = cap) := by show _ = _; omega
      have Hd : Hid (d.length = n) := by show _ = _; omega
      rw [hn] at hd Hend ⊢
      rw [hc]
      have Hh : Hid (blocksB l seed k = (h1, h2)) := hh
      have Hs : Hid _ := hs
      clear hn hc hd hh hlt hs
      rcases Nat.lt_or_ge n 16 with hn16 | hn16
      · obtain ⟨p, hp⟩ : ∃ p, p = h1 ^^^ firstB (wordB d) := ⟨_, rfl⟩
        have Hp : Hid (p = h1 ^^^ firstB (wordB d)) := hp
        have HH1 : Hid (Half wr w.heap.size h1) := H1
        have HH2 : Hid (Half wr (w.heap.size + 1) h2) := H2
        have HS0 : Hid (Sees wr (some ⟨b, off + 16 * k, none⟩) d) := S0
        rcases Nat.lt_or_ge 8 n with hn8 | hn8
        · have hd8 : Hid ((d.drop 8).length = n - 8) := by show _ = _; rw [List.length_drop, Hd.out]
          have HS8 : Hid (Sees wr (some ⟨b, off + 16 * k + 8, none⟩) (d.drop 8)) := sees_drop S0 8
          obtain ⟨q, hq⟩ : ∃ q, q = h2 ^^^ secondB (wordB (d.drop 8)) := ⟨_, rfl⟩
          have Hq : Hid (q = h2 ^^^ secondB (wordB (d.drop 8))) := hq
          have Hsum : Hid (sumB l seed = finishB (p, q) (BitVec.ofNat 64 l.length)) := by
            show _ = _
            rw [Hend.out hn16, Hh.out, hp, hq]
            unfold restB
            rw [Hd.out, if_pos hn0, if_pos hn8]
          clear hp hq Hend Hnext H1 H2 S0 c1 c2
          generalize d.drop 8 = d8 at *
          go_wp2_with fail
          refine (word_len _ d8 (n - 8) _ _ hd8.out (by omega) HS8.out).mono ?_
          rintro e w1 ⟨rfl, rfl⟩
          go_wp2_with fail
          refine (second_any _ h2 q _ _ HH2.out Hq.out).mono ?_
          rintro e w2 ⟨rfl, P2, g1⟩
          have P1 := HH1.out.grown g1 (by omega)
          go_wp2_with fail
          refine (word_len _ d n c _ Hd.out hn1 (grownBy_sees HS0.out g1 (by omega))).mono ?_
          rintro e w3 ⟨rfl, rfl⟩
          go_wp2_with fail
          refine (first_any _ h1 p _ _ P1 Hp.out).mono ?_
          rintro e w4 ⟨rfl, Q1, g2⟩
          have Q2 := P2.grown g2 (by omega)
          have c1 := Q1.cell
          have c2 := Q2.cell
          go_wp2_with fail
          refine (finish_len p q _ _ _ (by omega) Hsum.out).mono ?_
          rintro e w5 ⟨rfl, rfl⟩
          go_wp2_with fail
          try rw [Exit.noGoto_ret]
          go_ret2
          exact ⟨rfl, (hB.grown g1 (by omega) (fun j hj => by cases hj; omega)).grown g2 (by have := g1.size; omega) (fun j hj => by cases hj; omega)⟩
        · have Hsum : Hid (sumB l seed = finishB (p, h2) (BitVec.ofNat 64 l.length)) := by
            show _ = _
            rw [Hend.out hn16, Hh.out, hp]
            unfold restB
            rw [Hd.out, if_pos hn0, if_neg (by omega)]
          clear hp Hend H1 H2 S0 c1 c2
          go_wp2_with fail
          refine (word_len _ d n c _ Hd.out hn1 HS0.out).mono ?_
          rintro e w1 ⟨rfl, rfl⟩
          go_wp2_with fail
          refine (first_any _ h1 p _ _ HH1.out Hp.out).mono ?_
          rintro e w2 ⟨rfl, P1, g1⟩
          have P2 := HH2.out.grown g1 (by omega)
          have c1 := P1.cell
          have c2 := P2.cell
          go_wp2_with fail
          refine (finish_len p h2 _ _ _ (by omega) Hsum.out).mono ?_
          rintro e w3 ⟨rfl, rfl⟩
          go_wp2_with fail
          try rw [Exit.noGoto_ret]
          go_ret2
          exact ⟨rfl, hB.grown g1 (by omega) (fun j hj => by cases hj; omega)⟩
      · have hd8 : Hid ((d.drop 8).length = n - 8) := by show _ = _; rw [List.length_drop, Hd.out]
        have S8 : Sees wr (some ⟨b, off + 16 * k + 8, none⟩) (d.drop 8) := sees_drop S0 8
        generalize d.drop 8 = d8 at *
        generalize hk1 : wordB d = k1 at *
        generalize hk2 : wordB d8 = k2 at *
        obtain ⟨p, hp⟩ : ∃ p, p = h1 ^^^ firstB k1 := ⟨_, rfl⟩
        obtain ⟨q, hq⟩ : ∃ q, q = h2 ^^^ secondB k2 := ⟨_, rfl⟩
        obtain ⟨z, hz, R27⟩ : ∃ z : BitVec 64, z = rotB p 27 ∧ Turns 44 .i64 27 (p.toNat : Int) (z.toNat : Int) := ⟨_, rfl, rotate27_any p⟩
        obtain ⟨s1, hs1, m1⟩ : ∃ s1 : BitVec 64, s1 = z + h2 ∧ IntKind.u64.wrap ((z.toNat : Int) + (h2.toNat : Int)) = (s1.toNat : Int) := ⟨_, rfl, u_add z h2⟩
        obtain ⟨s2, hs2, m2⟩ : ∃ s2 : BitVec 64, s2 = s1 * 5#64 ∧ IntKind.u64.wrap ((s1.toNat : Int) * 5) = (s2.toNat : Int) := ⟨_, rfl, u_mulc s1 5 (by decide)⟩
        obtain ⟨a, ha, m3⟩ : ∃ a : BitVec 64, a = s2 + 0x52dce729#64 ∧ IntKind.u64.wrap ((s2.toNat : Int) + 1390208809) = (a.toNat : Int) := ⟨_, rfl, u_addc s2 1390208809 (by decide)⟩
        obtain ⟨y, hy, R31⟩ : ∃ y : BitVec 64, y = rotB q 31 ∧ Turns 44 .i64 31 (q.toNat : Int) (y.toNat : Int) := ⟨_, rfl, rotate31_any q⟩
        obtain ⟨t1, ht1, n1⟩ : ∃ t1 : BitVec 64, t1 = y + a ∧ IntKind.u64.wrap ((y.toNat : Int) + (a.toNat : Int)) = (t1.toNat : Int) := ⟨_, rfl, u_add y a⟩
        obtain ⟨t2, ht2, n2⟩ : ∃ t2 : BitVec 64, t2 = t1 * 5#64 ∧ IntKind.u64.wrap ((t1.toNat : Int) * 5) = (t2.toNat : Int) := ⟨_, rfl, u_mulc t1 5 (by decide)⟩
        obtain ⟨b', hb', n3⟩ : ∃ b' : BitVec 64, b' = t2 + 0x38495ab5#64 ∧ IntKind.u64.wrap ((t2.toNat : Int) + 944331445) = (b'.toNat : Int) := ⟨_, rfl, u_addc t2 944331445 (by decide)⟩
        have Hstep : Hid (blocksB l seed (k + 1) = (a, b')) := by
          rw [Hnext.out, Hh.out]
          unfold blockB
          show _ = _
          rw [hb', ht2, ht1, hy, hq, ha, hs2, hs1, hz, hp]
        have Hp : Hid _ := hp
        have Hq : Hid _ := hq
        have HR27 : Hid (Turns 44 .i64 27 (p.toNat : Int) (z.toNat : Int)) := R27
        have HR31 : Hid (Turns 44 .i64 31 (q.toNat : Int) (y.toNat : Int)) := R31
        have HS0 : Hid (Sees wr (some ⟨b, off + 16 * k, none⟩) d) := S0
        have HS8 : Hid (Sees wr (some ⟨b, off + 16 * k + 8, none⟩) d8) := S8
        have HH1 : Hid (Half wr w.heap.size h1) := H1
        have HH2 : Hid (Half wr (w.heap.size + 1) h2) := H2
        clear hp hq hz hs1 hs2 ha hy ht1 ht2 hb' Hnext R27 R31 S0 S8 H1 H2 c1 c2
        go_wp2_with fail
        refine (word_len _ d n c _ Hd.out hn1 HS0.out).mono ?_
        rintro e w1 ⟨rfl, rfl⟩
        rw [hk1]
        clear hk1
        go_wp2_with fail
        refine (first_any k1 h1 p _ _ HH1.out Hp.out).mono ?_
        rintro e w2 ⟨rfl, P1, g1⟩
        have P2 := HH2.out.grown g1 (by omega)
        have c1 := P1.cell
        have c2 := P2.cell
        have f1 := P1.frozen
        go_wp2_with fail
        go_region_with (go_at_call 44; refine (HR27.out _).mono ?_; rintro e w1 ⟨rfl, rfl⟩)
        all_goals
          have A1 := P1.put a
          generalize (w2.setCell ⟨w.heap.size, 0, none⟩ (.int .u64 (a.toNat : Int))).drew = w4 at *
          obtain ⟨Q1, g4⟩ := A1
          have Q2 := P2.grown g4 (by omega)
          clear c1 c2 f1 P1 P2
          go_wp2_with fail
          refine (word_len _ d8 (n - 8) _ _ hd8.out (by omega) (grownBy_sees (grownBy_sees HS8.out g1 hbb) g4 hbb)).mono ?_
          rintro e w5 ⟨rfl, rfl⟩
          rw [hk2]
          clear hk2
          go_wp2_with fail
          refine (second_any k2 h2 q _ _ Q2 Hq.out).mono ?_
          rintro e w6 ⟨rfl, P2, g6⟩
          have P1 := Q1.grown g6 (by omega)
          clear Q1 Q2
          have c1 := P1.cell
          have c2 := P2.cell
          have f2 := P2.frozen
          go_wp2_with fail
          go_region_with (go_at_call 44; refine (HR31.out _).mono ?_; rintro e w1 ⟨rfl, rfl⟩)
          all_goals
            have A2 := P2.put b'
            generalize (w6.setCell ⟨w.heap.size + 1, 0, none⟩ (.int .u64 (b'.toNat : Int))).drew = w7 at *
            obtain ⟨Q2, g7⟩ := A2
            have Q1 := P1.grown g7 (by omega)
            clear c1 c2 f2 P1 P2
            go_wp2_with fail
            go_roundw
            case rel =>
              refine ⟨k + 1, _, by have := Hn.out; omega, slice_next _ n c k l.length cap Hn.out Hc.out, ?_, by rw [Hstep.out]; exact Q1, by rw [Hstep.out]; exact Q2, ?_⟩
              · exact av_next b off k n c l.length hnc Hn.out
              · exact (((hB.grown g1 (by omega) (fun j hj => by cases hj; omega)).grown g4 (by have := g1.size; omega) (fun j hj => by cases hj; omega)).grown g6 (by have := g1.size; have := g4.size; omega) (fun j hj => by cases hj; omega)).grown g7 (by have := g1.size; have := g4.size; have := g6.size; omega) (fun j hj => by cases hj; omega)
            case measure => simp [sliceLen]; omega
    · obtain ⟨n, hn⟩ : ∃ n, l.length - 16 * k = n := ⟨_, rfl⟩
      have hn0 : n = 0 := by omega
      have Hsum : Hid (sumB l seed = finishB (h1, h2) (BitVec.ofNat 64 l.length)) := by
        show _ = _
        rw [Hend.out (by omega), hh]
        unfold restB
        rw [List.length_drop, hn, hn0, if_neg (by omega), if_neg (by omega)]
      rw [hn, hn0]
      clear hn hn0 Hend Hnext hh H1 H2
      go_wp2_with fail
      refine (finish_len h1 h2 _ _ _ (by omega) Hsum.out).mono ?_
      rintro e w5 ⟨rfl, rfl⟩
      go_wp2_with fail
      try rw [Exit.noGoto_ret]
      go_ret2
      exact ⟨rfl, hB⟩
end Go.Proofs.YtcnceipkoapcpaaDoor

/-
  SEVERAL TEXTS IN ONE: CellVer, MurPlain, MurMix, MurHalf, MurWord, MurSum, KeyCmp.
-/
import Derived.Test.YtlamncldbnagmaaGreatDoorMany12
import Derived.Test.YtlamncldbnagmaaGreatDoorMany4
import Derived.Test.YtlamncldbnagmaaGreatDoorRefUnframe
import Derived.WalkKit
import Derived.PlainAid
import Derived.OpenShut
import Derived.Laws.BitsAllLaws
import Derived.Test.YtlamncldbnagmaaGreatDoorChecked
import Derived.Test.YtlamncldbnagmaaGreatDoorOwn
import Derived.WalkSpells
import Derived.Deep.RegionWith
import Derived.Test.YtlamncldbnagmaaGreatDoorMany1
import Derived.Laws.Cover1
import Derived.StillTailTactics
namespace Go.Proofs.YtlamncldbnagmaaGreatDoor
open Go.RowKit

/-- One byte that lies at the head of a block, as a source. -/
theorem src_head {w : World} {g : Nat} (b : UInt8) (h : w.cell? ⟨g, 0, none⟩ = some (.int .u8 (b.toNat : Int))) : Src Tryz.prog 1 23 (.slice (some ⟨g, 0, none⟩) 1 1) 1 (B8 [b]) w := by
  refine Src.ofSlice _ Tryz.underlying23 _ 1 1 _ (by simp [B8_length]) ?_ (B8_one _)
  intro j u hu
  match j, hu with
  | 0, hu => simp [B8] at hu; subst hu; simpa [Addr.add] using h
  | j + 1, hu => simp [B8] at hu

/-- Draws do not matter. -/
theorem Grew.like {u w w' : World} {v v' : Value} (h : Grew u w' v v') (h1 : u.heap = w.heap) (h2 : u.os = w.os) (h3 : u.tape = w.tape) (h4 : u.output = w.output) : Grew w w' v v' :=
  ⟨⟨h.rows.os.trans h2, h.rows.tape.trans h3, h.rows.output.trans h4, by rw [← h1]; exact h.rows.size, by rw [← h1]; exact h.rows.block⟩, by rw [← h1]; exact h.own⟩

set_option maxRecDepth 100000 in
set_option maxHeartbeats 1600000 in
theorem addVersion_any (base : Nat) (v : Value) (n : Nat) (xs : List UInt8) (k : VerV) (w : World) (hown : w.ownsRow base 5 1 v n (B8 xs)) (hk : k.Ok) (hn : n + wtV k ≤ 140737488340000) (hb : base ≤ w.heap.size) :
    Calls Tryz.prog 64 #[v, .agg (verA k)] w (Wrote base v n xs (verL k) w) := by
  obtain ⟨i0, hi, hz0, hz1, hz2⟩ := info_parts info8
  obtain ⟨time, dead, loc, kind, num, s⟩ := k
  have hk1 : I64 time := hk.time
  have hk2 : I64 loc := hk.loc
  have hk3 : ValV.Ok ⟨kind, num, s⟩ := hk.val
  have hn0 : n ≤ 140737488340000 := by omega
  have hs : Hid (dead = false → n + s.size ≤ 140737488340000) := fun h => by
    have := hn
    unfold wtV at this
    simp only [h] at this
    simpa using this
  have Hne : Hid (v.ownBlock ≠ some w.heap.size) := owns_ne_new hown
  have hl1 := (numL_length (zigN time)).2
  have hl2 := (numL_length (zigN loc)).2
  have hl3 := valL_le ⟨kind, num, s⟩
  have Hc1 : Hid _ := addNumber_any base v n xs (zigN time) (w.alloc (.cells (verA ⟨time, dead, loc, kind, num, s⟩) 65)) (hown.alloc _) (zigN_eq hk1).2 (by omega) (by rw [World.size_alloc]; omega)
  have HB : Hid (Box _ _ _ _) := Box.new w (verA ⟨time, dead, loc, kind, num, s⟩) 65
  clear hk hn hown
  unfold verA at *
  go_enter Tryz.func64, Tryz.ntmps64
  go_wp2_with fail
  refine Calls.mono (zig_nat time _ hk1) ?_
  rintro e w1' ⟨rfl, rfl⟩
  go_wp2_with fail
  refine Calls.mono (Hid.out Hc1) ?_
  rintro e w1 ⟨v1, rfl, ho1, hg1⟩
  have HB1 : Hid (Box _ _ _ _) := HB.out.grew hg1 Hne.out
  have Hne1 : Hid (v1.ownBlock ≠ some w.heap.size) := hg1.ne Hne.out HB.out.lt
  have c1 := HB1.out.cell 1
  have c2 := HB1.out.cell 2
  have c3 := HB1.out.cell 3
  have c4 := HB1.out.cell 4
  have c5 := HB1.out.cell 5
  have hlt1 : w.heap.size < w1.heap.size := HB1.out.lt
  have hb1 : base ≤ w1.heap.size := Nat.le_trans hb (Nat.le_of_lt hlt1)
  clear Hc1
  cases dead
  · have hs' := hs.out rfl
    go_wp2_with fail
    go_region_law (first
      | (refine step_append_grew rfl (.tmp 19) (.tmp 20) 23 23 rfl base 5 i0 (.int .u8 0) 1 1 Tryz.underlying23 hi hz0 hz1 hz2 rfl _ _ _ rfl (by exact ho1.alloc _) _ 1 (B8 [0]) rfl (src_head 0 (by simp [go_sem])) (by unfold maxLen; omega) (by omega) (by simp; omega) ?_; intro v2 w2 ho2 hg2; rw [← B8_append] at ho2; have g2 : Grew w1 w2 v1 v2 := Grew.alloc (w := w1) (o := .cells #[.int .u8 0] 5) (hg2.like rfl rfl rfl rfl); have d3 := (HB1.out.grew g2 Hne1.out).cell 3; have d4 := (HB1.out.grew g2 Hne1.out).cell 4; have d5 := (HB1.out.grew g2 Hne1.out).cell 5; have hb2 : base ≤ w2.heap.size := Nat.le_trans hb1 g2.rows.size)
      | (go_simp; go_at_call 106; refine Calls.mono (addValue_any base v2 _ _ ⟨kind, num, s⟩ _ (by exact ho2) hk3 (by simp; omega) (by exact hb2)) ?_; rintro e w4 ⟨v4, rfl, ho4, hg4⟩))
    all_goals
      clear hg2
      go_wp2
      go_ret
      refine ⟨v4, rfl, ?_, (hg1.trans (g2.trans (hg4.like rfl rfl rfl rfl))).alloc⟩
      unfold verL
      simpa [List.append_assoc, Nat.add_assoc, Nat.add_comm 1] using ho4
  · go_wp2_with fail
    go_region_law (first
      | (refine step_append_grew rfl (.tmp 12) (.tmp 13) 23 23 rfl base 5 i0 (.int .u8 0) 1 1 Tryz.underlying23 hi hz0 hz1 hz2 rfl _ _ _ rfl (by exact ho1.alloc _) _ 1 (B8 [1]) rfl (src_head 1 (by simp [go_sem])) (by unfold maxLen; omega) (by omega) (by simp; omega) ?_; intro v2 w2 ho2 hg2; rw [← B8_append] at ho2; have g2 : Grew w1 w2 v1 v2 := Grew.alloc (w := w1) (o := .cells #[.int .u8 1] 5) (hg2.like rfl rfl rfl rfl); have d2 := (HB1.out.grew g2 Hne1.out).cell 2; have hb2 : base ≤ w2.heap.size := Nat.le_trans hb1 g2.rows.size)
      | (go_simp; go_at_call 105; refine Calls.mono (zig_nat loc _ hk2) ?_; rintro e w' ⟨rfl, rfl⟩)
      | (go_simp; go_at_call 63; refine Calls.mono (addNumber_any base v2 _ _ (zigN loc) _ (by exact ho2) (zigN_eq hk2).2 (by omega) (by exact hb2)) ?_; rintro e w4 ⟨v4, rfl, ho4, hg4⟩))
    all_goals
      clear hg2
      go_wp2
      go_ret
      refine ⟨v4, rfl, ?_, (hg1.trans (g2.trans (hg4.like rfl rfl rfl rfl))).alloc⟩
      unfold verL
      simpa [List.append_assoc, Nat.add_assoc, Nat.add_comm 1] using ho4
end Go.Proofs.YtlamncldbnagmaaGreatDoor
namespace Go.Proofs.YtlamncldbnagmaaGreatDoor
open Go.RowKit

/-! ### Words of 64 bits as the walk spells them. -/
theorem bv_lt (a : BitVec 64) : a.toNat < 18446744073709551616 := a.isLt
theorem bv_bd (a : BitVec 64) : 0 ≤ (a.toNat : Int) ∧ (a.toNat : Int) ≤ 18446744073709551615 := by have := bv_lt a; omega
theorem u_xor (a b : BitVec 64) : bits BinOp.xor IntKind.u64 (a.toNat : Int) (b.toNat : Int) = ((a ^^^ b).toNat : Int) := by
  rw [u64_xor_nat _ _ (bv_lt a) (bv_lt b), BitVec.toNat_xor]
theorem u_or (a b : BitVec 64) : bits BinOp.or IntKind.u64 (a.toNat : Int) (b.toNat : Int) = ((a ||| b).toNat : Int) := by
  rw [u64_or_nat _ _ (bv_lt a) (bv_lt b), BitVec.toNat_or]
theorem u_mul (a b : BitVec 64) : IntKind.u64.wrap ((a.toNat : Int) * (b.toNat : Int)) = ((a * b).toNat : Int) := by
  rw [IntKind.wrap_u64, BitVec.toNat_mul, Int.natCast_emod, Int.natCast_mul]; rfl
theorem u_add (a b : BitVec 64) : IntKind.u64.wrap ((a.toNat : Int) + (b.toNat : Int)) = ((a + b).toNat : Int) := by
  rw [IntKind.wrap_u64, BitVec.toNat_add, Int.natCast_emod, Int.natCast_add]; rfl
theorem u_shr (a : BitVec 64) (k : Nat) : (a.toNat : Int) / ((2 ^ k : Nat) : Int) = ((a >>> k).toNat : Int) := by
  rw [BitVec.toNat_ushiftRight, Nat.shiftRight_eq_div_pow, Int.natCast_ediv]
theorem u_shl (a : BitVec 64) (k : Nat) : IntKind.u64.wrap ((a.toNat : Int) * ((2 ^ k : Nat) : Int)) = ((a <<< k).toNat : Int) := by
  rw [IntKind.wrap_u64, BitVec.toNat_shiftLeft, Nat.shiftLeft_eq, Int.natCast_emod, Int.natCast_mul]; rfl
theorem u_lit (n : Nat) (h : n < 18446744073709551616) : (n : Int) = ((BitVec.ofNat 64 n).toNat : Int) := by
  rw [BitVec.toNat_ofNat, Nat.mod_eq_of_lt (by omega)]
theorem u_mulc (a : BitVec 64) (n : Nat) (h : n < 18446744073709551616) : IntKind.u64.wrap ((a.toNat : Int) * (n : Int)) = ((a * BitVec.ofNat 64 n).toNat : Int) := by
  rw [u_lit n h, u_mul]
theorem u_addc (a : BitVec 64) (n : Nat) (h : n < 18446744073709551616) : IntKind.u64.wrap ((a.toNat : Int) + (n : Int)) = ((a + BitVec.ofNat 64 n).toNat : Int) := by
  rw [u_lit n h, u_add]
theorem bv_of (u : Int) (h0 : 0 ≤ u) (h1 : u ≤ 18446744073709551615) : ∃ a : BitVec 64, u = (a.toNat : Int) := by
  refine ⟨BitVec.ofNat 64 u.toNat, ?_⟩
  rw [BitVec.toNat_ofNat, Nat.mod_eq_of_lt (by omega)]
  omega
theorem bv_inj {a b : BitVec 64} (h : (a.toNat : Int) = (b.toNat : Int)) : a = b := BitVec.eq_of_toNat_eq (by omega)

/-! ### The last step, and the way back. -/
def F1 : BitVec 64 := 0xff51afd7ed558ccd#64
def F2 : BitVec 64 := 0xc4ceb9fe1a85ec53#64
def G1 : BitVec 64 := 0x9cb4b2f8129337db#64
def G2 : BitVec 64 := 0x4f74430c22a54005#64
def fold33 (k : BitVec 64) : BitVec 64 := k ^^^ (k >>> 33)
def mixB (k : BitVec 64) : BitVec 64 := fold33 (fold33 (fold33 k * F1) * F2)
def unmixB (k : BitVec 64) : BitVec 64 := fold33 (fold33 (fold33 k * G1) * G2)
theorem fold33_twice (k : BitVec 64) : fold33 (fold33 k) = k := by
  unfold fold33
  rw [BitVec.ushiftRight_xor_distrib]
  have h : (k >>> 33) >>> 33 = 0#64 := by
    apply BitVec.eq_of_toNat_eq
    rw [BitVec.toNat_ushiftRight, BitVec.toNat_ushiftRight, Nat.shiftRight_eq_div_pow, Nat.shiftRight_eq_div_pow]
    have := bv_lt k
    show k.toNat / 8589934592 / 8589934592 = 0
    omega
  rw [h, BitVec.xor_zero, BitVec.xor_assoc, BitVec.xor_self, BitVec.xor_zero]
theorem mulback (k a b : BitVec 64) (h : a * b = 1#64) : k * a * b = k := by rw [BitVec.mul_assoc, h, BitVec.mul_one]
theorem unmix_mix (k : BitVec 64) : unmixB (mixB k) = k := by
  unfold unmixB mixB
  rw [fold33_twice, mulback _ F2 G1 (by decide), fold33_twice, mulback _ F1 G2 (by decide), fold33_twice]
theorem mix_unmix (k : BitVec 64) : mixB (unmixB k) = k := by
  unfold unmixB mixB
  rw [fold33_twice, mulback _ G2 F1 (by decide), fold33_twice, mulback _ G1 F2 (by decide), fold33_twice]
theorem mix_inj (a b : BitVec 64) : mixB a = mixB b ↔ a = b := ⟨fun h => by rw [← unmix_mix a, h, unmix_mix], fun h => by rw [h]⟩

theorem fold33_text (a : BitVec 64) : bits BinOp.xor IntKind.u64 (a.toNat : Int) ((a.toNat : Int) / 8589934592) = ((fold33 a).toNat : Int) := by
  have h : (a.toNat : Int) / (8589934592 : Int) = ((a >>> 33).toNat : Int) := u_shr a 33
  refine Eq.trans ?_ (u_xor a (a >>> 33))
  rw [← h]
theorem f1_text (a : BitVec 64) : IntKind.u64.wrap ((a.toNat : Int) * 18397679294719823053) = ((a * F1).toNat : Int) := u_mulc a 18397679294719823053 (by decide)
theorem f2_text (a : BitVec 64) : IntKind.u64.wrap ((a.toNat : Int) * 14181476777654086739) = ((a * F2).toNat : Int) := u_mulc a 14181476777654086739 (by decide)
theorem g1_text (a : BitVec 64) : IntKind.u64.wrap ((a.toNat : Int) * 11291846944257947611) = ((a * G1).toNat : Int) := u_mulc a 11291846944257947611 (by decide)
theorem g2_text (a : BitVec 64) : IntKind.u64.wrap ((a.toNat : Int) * 5725274745694666757) = ((a * G2).toNat : Int) := u_mulc a 5725274745694666757 (by decide)
theorem mix_text (a : BitVec 64) (T : Int) (h : T = bits BinOp.xor IntKind.u64 (IntKind.u64.wrap (bits BinOp.xor IntKind.u64 (IntKind.u64.wrap (bits BinOp.xor IntKind.u64 (a.toNat : Int) ((a.toNat : Int) / 8589934592) * 18397679294719823053)) (IntKind.u64.wrap (bits BinOp.xor IntKind.u64 (a.toNat : Int) ((a.toNat : Int) / 8589934592) * 18397679294719823053) / 8589934592) * 14181476777654086739)) (IntKind.u64.wrap (bits BinOp.xor IntKind.u64 (IntKind.u64.wrap (bits BinOp.xor IntKind.u64 (a.toNat : Int) ((a.toNat : Int) / 8589934592) * 18397679294719823053)) (IntKind.u64.wrap (bits BinOp.xor IntKind.u64 (a.toNat : Int) ((a.toNat : Int) / 8589934592) * 18397679294719823053) / 8589934592) * 14181476777654086739) / 8589934592)) : T = ((mixB a).toNat : Int) := by
  rw [h]
  simp only [fold33_text, f1_text, f2_text]
  rfl

theorem unmix_text (a : BitVec 64) (T : Int) (h : T = bits BinOp.xor IntKind.u64 (IntKind.u64.wrap (bits BinOp.xor IntKind.u64 (IntKind.u64.wrap (bits BinOp.xor IntKind.u64 ((a.toNat : Int)) ((a.toNat : Int) / 8589934592) * 11291846944257947611)) (IntKind.u64.wrap (bits BinOp.xor IntKind.u64 ((a.toNat : Int)) ((a.toNat : Int) / 8589934592) * 11291846944257947611) / 8589934592) * 5725274745694666757)) (IntKind.u64.wrap (bits BinOp.xor IntKind.u64 (IntKind.u64.wrap (bits BinOp.xor IntKind.u64 ((a.toNat : Int)) ((a.toNat : Int) / 8589934592) * 11291846944257947611)) (IntKind.u64.wrap (bits BinOp.xor IntKind.u64 ((a.toNat : Int)) ((a.toNat : Int) / 8589934592) * 11291846944257947611) / 8589934592) * 5725274745694666757) / 8589934592)) : T = ((unmixB a).toNat : Int) := by
  rw [h]
  simp only [fold33_text, g1_text, g2_text]
  rfl

/-! ### Turning to the left. -/
def rotB (x : BitVec 64) (r : Nat) : BitVec 64 := (x <<< r) ||| (x >>> (64 - r))
theorem rot_text (a : BitVec 64) (r : Nat) (T : Int) (h : T = bits BinOp.or IntKind.u64 (IntKind.u64.wrap ((a.toNat : Int) * ((2 ^ r : Nat) : Int))) ((a.toNat : Int) / ((2 ^ (64 - r) : Nat) : Int))) : T = ((rotB a r).toNat : Int) := by
  rw [h, u_shl, u_shr, u_or]
  rfl
def C1 : BitVec 64 := 0x87c37b91114253d5#64
def C2 : BitVec 64 := 0x4cf5ad432745937f#64
/-- What one half takes of a word. -/
def firstB (k : BitVec 64) : BitVec 64 := rotB (k * C1) 31 * C2
def secondB (k : BitVec 64) : BitVec 64 := rotB (k * C2) 33 * C1
/-- One whole block. -/
def blockB (h : BitVec 64 × BitVec 64) (k1 k2 : BitVec 64) : BitVec 64 × BitVec 64 :=
  let a := (rotB (h.1 ^^^ firstB k1) 27 + h.2) * 5#64 + 0x52dce729#64
  (a, (rotB (h.2 ^^^ secondB k2) 31 + a) * 5#64 + 0x38495ab5#64)
/-- The last steps. -/
def crossB (h : BitVec 64 × BitVec 64) : BitVec 64 × BitVec 64 := (h.1 + h.2, h.2 + (h.1 + h.2))
def finishB (h : BitVec 64 × BitVec 64) (n : BitVec 64) : BitVec 64 × BitVec 64 :=
  let c := crossB (h.1 ^^^ n, h.2 ^^^ n)
  crossB (mixB c.1, mixB c.2)

/-! ### Words out of bytes. -/
def wordUp (l : List UInt8) : Nat → BitVec 64
  | 0 => 0#64
  | k + 1 => wordUp l k ||| (BitVec.ofNat 64 (l.getD k 0).toNat <<< (8 * k))
def wordB (l : List UInt8) : BitVec 64 := wordUp l (min l.length 8)

/-- The halves behind k whole blocks. -/
def blocksB (l : List UInt8) (seed : BitVec 64) : Nat → BitVec 64 × BitVec 64
  | 0 => (seed, seed)
  | k + 1 => blockB (blocksB l seed k) (wordB (l.drop (16 * k))) (wordB (l.drop (16 * k + 8)))
/-- The halves behind the rest, of less than 16 bytes. -/
def restB (d : List UInt8) (h : BitVec 64 × BitVec 64) : BitVec 64 × BitVec 64 :=
  (if 0 < d.length then h.1 ^^^ firstB (wordB d) else h.1, if 8 < d.length then h.2 ^^^ secondB (wordB (d.drop 8)) else h.2)
def sumB (l : List UInt8) (seed : BitVec 64) : BitVec 64 × BitVec 64 :=
  finishB (restB (l.drop (16 * (l.length / 16))) (blocksB l seed (l.length / 16))) (BitVec.ofNat 64 l.length)
end Go.Proofs.YtlamncldbnagmaaGreatDoor
namespace Go.Proofs.YtlamncldbnagmaaGreatDoor
open Go.RowKit


end Go.Proofs.YtlamncldbnagmaaGreatDoor
namespace Go.Proofs.YtlamncldbnagmaaGreatDoor
open Go.RowKit

/-- A block that holds one word, and may be written. -/
def Half (w : World) (g : Nat) (h : BitVec 64) : Prop := w.heap[g]? = some (.cells #[.int .u64 (h.toNat : Int)] 113 (0, 0))
theorem Half.lt {w : World} {g : Nat} {h : BitVec 64} (k : Half w g h) : g < w.heap.size := (Array.getElem?_eq_some_iff.1 k).1
theorem Half.cell {w : World} {g : Nat} {h : BitVec 64} (k : Half w g h) : w.cell? ⟨g, 0, none⟩ = some (.int .u64 (h.toNat : Int)) := by
  unfold Half at k
  simp [World.cell?, k]
theorem Half.frozen {w : World} {g : Nat} {h : BitVec 64} (k : Half w g h) : w.frozen? ⟨g, 0, none⟩ = false := by
  unfold Half at k
  simp [World.frozen?, k]
theorem Half.grown {w w' : World} {g g' : Nat} {h : BitVec 64} (k : Half w g h) (hg : w.grownBy w' (some g')) (hne : g ≠ g') : Half w' g h := by
  unfold Half at k ⊢
  rw [hg.block g (Half.lt k) (fun e => hne (Option.some.inj e)), k]
/-- One store into a half. -/
theorem Half.put {w : World} {g : Nat} {h : BitVec 64} (k : Half w g h) (t : BitVec 64) : Half (w.setCell ⟨g, 0, none⟩ (.int .u64 (t.toNat : Int))).drew g t ∧ w.grownBy (w.setCell ⟨g, 0, none⟩ (.int .u64 (t.toNat : Int))).drew (some g) := by
  refine ⟨?_, rfl, rfl, rfl, by simp [World.setCell, World.drew], fun j hj hne => ?_⟩
  · unfold Half at k ⊢
    show (w.setCell ⟨g, 0, none⟩ (.int .u64 (t.toNat : Int))).heap[g]? = _
    simp only [World.setCell, Array.getElem?_modify, k]
    simp
  · exact Below.heap_setCell _ _ _ _ (fun e => hne (by rw [e]))
/-- One call of a turn, over plain numbers. -/
def Turns (f : FuncId) (k : IntKind) (r y z : Int) : Prop := ∀ w, Calls Tryz.prog f #[.int .u64 y, .int k r] w fun e w' => e = .returned (.int .u64 z) ∧ w' = w

end Go.Proofs.YtlamncldbnagmaaGreatDoor
namespace Go.Proofs.YtlamncldbnagmaaGreatDoor
open Go.RowKit

/-- An element's cell. -/
theorem sees_atM {w : World} {ao : Option Addr} {l : List UInt8} (h : Sees w ao l) {n : Nat} (hn : n < l.length) : ∃ b off, ao = some ⟨b, off, none⟩ ∧ w.cell? ⟨b, off + n, none⟩ = some (.int .u8 ((l.getD n 0).toNat : Int)) := by
  obtain ⟨a, rfl, hc⟩ := h n hn
  obtain ⟨a', e, hc0⟩ := h 0 (by omega)
  obtain rfl := Option.some.inj e
  obtain ⟨b, off, spot⟩ := a
  have hspot : spot = none := by simpa [Addr.add] using World.cell?_spot hc0
  subst hspot
  exact ⟨b, off, rfl, by rw [Addr.add_lit] at hc; exact hc⟩
/-- What a round of word's text reckons. -/
theorem or_textM (k x : Nat) (acc : BitVec 64) (hx : x < 256) :
    bits BinOp.or IntKind.u64 (acc.toNat : Int) (IntKind.u64.wrap ((x : Int) * 2 ^ (8 * k))) = ((acc ||| (BitVec.ofNat 64 x <<< (8 * k))).toNat : Int) := by
  have e : ((x : Int) * 2 ^ (8 * k)) = ((BitVec.ofNat 64 x).toNat : Int) * ((2 ^ (8 * k) : Nat) : Int) := by
    rw [← u_lit x (by omega)]
    simp
  rw [e, u_shl, u_or]

end Go.Proofs.YtlamncldbnagmaaGreatDoor
namespace Go.Proofs.YtlamncldbnagmaaGreatDoor
open Go.RowKit

theorem sees_drop {w : World} {b off : Nat} {l : List UInt8} (h : Sees w (some ⟨b, off, none⟩) l) (k : Nat) : Sees w (some ⟨b, off + k, none⟩) (l.drop k) := by
  intro i hi
  rw [List.length_drop] at hi
  obtain ⟨a, e, hc⟩ := h (k + i) (by omega)
  obtain rfl := Option.some.inj e
  refine ⟨_, rfl, ?_⟩
  rw [Addr.add_lit] at hc ⊢
  rw [show off + k + i = off + (k + i) by omega, hc]
  simp [List.getD, List.getElem?_drop]

theorem slice_next (av : Option Addr) (n c k len cap : Nat) (h1 : n + 16 * k = len) (h2 : c + 16 * k = cap) :
    Value.slice av (n - 16) (c - 16) = .slice av (len - 16 * (k + 1)) (cap - 16 * (k + 1)) := by
  rw [show n - 16 = len - 16 * (k + 1) by omega, show c - 16 = cap - 16 * (k + 1) by omega]
theorem av_next (b off k n c len : Nat) (hnc : n ≤ c) (h1 : n + 16 * k = len) :
    16 * (k + 1) < len → ∀ b' off', (some ⟨b, off, none⟩ : Option Addr) = some ⟨b', off', none⟩ → (if c = 16 then some ⟨b, off + 16 * k, none⟩ else some ⟨b, off + 16 * k + 16, none⟩ : Option Addr) = some ⟨b', off' + 16 * (k + 1), none⟩ := by
  intro h b' off' e
  cases e
  rw [if_neg (by omega), show off + 16 * k + 16 = off + 16 * (k + 1) by omega]
def sliceLen : Value → Nat
  | .slice _ n _ => n
  | _ => 0
theorem sum_end (l : List UInt8) (seed : BitVec 64) (k : Nat) (h1 : 16 * k ≤ l.length) (h2 : l.length - 16 * k < 16) :
    sumB l seed = finishB (restB (l.drop (16 * k)) (blocksB l seed k)) (BitVec.ofNat 64 l.length) := by
  have e : l.length / 16 = k := by omega
  unfold sumB
  rw [e]
theorem grownBy_sees {w w' : World} {g b off : Nat} {l : List UInt8} (h : Sees w (some ⟨b, off, none⟩) l) (hg : w.grownBy w' (some g)) (hb : b < g) : Sees w' (some ⟨b, off, none⟩) l := by
  intro i hi
  obtain ⟨a, e, hc⟩ := h i hi
  obtain rfl := Option.some.inj e
  refine ⟨_, rfl, ?_⟩
  have hlt : b < w.heap.size := by
    have := World.block_lt_of_cell? _ _ hc
    rwa [Addr.add_block] at this
  have hbl : (Addr.add ⟨b, off, none⟩ i).block = b := Addr.add_block _ _
  have hblk : w'.heap[(Addr.add ⟨b, off, none⟩ i).block]? = w.heap[(Addr.add ⟨b, off, none⟩ i).block]? := by
    rw [hbl]
    exact hg.block b hlt (fun e => by have := Option.some.inj e; omega)
  rw [World.cell?_of_block hblk, hc]

end Go.Proofs.YtlamncldbnagmaaGreatDoor
namespace Go.Proofs.YtlamncldbnagmaaGreatDoor
open Go.RowKit

/-- A text's bytes. -/
def nb (s : ByteArray) : List UInt8 := s.data.toList
def strB (l : List UInt8) : ByteArray := ⟨l.toArray⟩
theorem strB_nb (s : ByteArray) : strB (nb s) = s := by obtain ⟨a⟩ := s; simp [strB, nb]
theorem nb_strB (l : List UInt8) : nb (strB l) = l := by simp [strB, nb]
theorem nb_size (s : ByteArray) : (nb s).length = s.size := by show s.data.toList.length = s.data.size; exact Array.length_toList
theorem nb_inj {a b : ByteArray} : nb a = nb b ↔ a = b := ⟨fun h => by rw [← strB_nb a, h, strB_nb], fun h => by rw [h]⟩
theorem ba_list (s : ByteArray) : s.toList = nb s := Go.ByteArray.toList_eq s
theorem ba_same (a b : ByteArray) : (a.toList == b.toList) = decide (a = b) := by
  rw [ba_list, ba_list]
  by_cases h : a = b
  · simp [h]
  · simp only [h, decide_false, beq_eq_false_iff_ne]; exact fun e => h (nb_inj.1 e)
theorem ba_less (a b : ByteArray) : Op.bytesLess a.toList b.toList = decide (cb (nb a) (nb b) = -1) := by
  rw [ba_list, ba_list]; exact less_cb _ _


/-! ### Of numbers, the first that is not 0 -/
def fu : List Int → Int
  | [] => 0
  | x :: l => th x (fu l)
theorem fu_skip : ∀ (k : Nat) (l : List Int), (∀ j, j < k → l.getD j 0 = 0) → fu l = fu (l.drop k)
  | 0, _, _ => rfl
  | k + 1, [], _ => rfl
  | k + 1, x :: l, h => by
    have h0 : x = 0 := by have := h 0 (by omega); simpa using this
    subst h0
    rw [fu, th_zero, List.drop_succ_cons]
    exact fu_skip k l fun j hj => by have := h (j + 1) (by omega); simpa using this
theorem fu_at (k : Nat) (l : List Int) (h : ∀ j, j < k → l.getD j 0 = 0) (hk : k < l.length) (hn : l.getD k 0 ≠ 0) : fu l = l.getD k 0 := by
  rw [fu_skip k l h, List.drop_eq_getElem_cons hk, fu]
  have : l.getD k 0 = l[k] := by simp [List.getD, hk]
  rw [this] at hn ⊢
  exact th_of hn _
theorem zero_snoc {l : List Int} {k : Nat} (h : ∀ j, j < k → l.getD j 0 = 0) (h0 : l.getD k 0 = 0) : ∀ j, j < k + 1 → l.getD j 0 = 0 := by
  intro j hj
  rcases Nat.lt_or_ge j k with g | g
  · exact h j g
  · have : j = k := by omega
    rw [this]; exact h0
/-! ### Keys in memory -/
structure Kb where
  t : ByteArray
  p : ByteArray
  r : Int
  c : ByteArray
def Kb.ky (k : Kb) : Ky := ⟨nb k.t, nb k.p, k.r, nb k.c⟩
def Kb.v (k : Kb) : Value := .agg #[.string k.t, .string k.p, .int .i64 k.r, .string k.c]
theorem Kb.ky_inj {a b : Kb} : a.ky = b.ky ↔ a = b := by
  constructor
  · intro h
    cases a; cases b
    simp only [Kb.ky, Ky.mk.injEq, nb_inj] at h
    obtain ⟨rfl, rfl, rfl, rfl⟩ := h; rfl
  · rintro rfl; rfl

theorem texts_any (a b : ByteArray) (w : World) :
    Calls Tryz.prog 134 #[.string a, .string b] w fun x w' => x = .returned (.int .i64 (cb (nb a) (nb b))) ∧ w' = w := by
  have h1 := ba_less a b
  have h2 := ba_same a b
  rcases cb_cmpr.r (nb a) (nb b) with h | h | h
  · rw [h] at h1
    rw [decide_eq_true rfl] at h1
    go_enter Tryz.func134, Tryz.ntmps134
    go_wp2_with fail
    go_ret
    exact ⟨ret_int h.symm, rfl⟩
  · rw [h] at h1
    rw [decide_eq_false (by omega)] at h1
    have e : a = b := nb_inj.1 ((cb_cmpr.z _ _).1 h)
    subst e
    rw [decide_eq_true rfl] at h2
    go_enter Tryz.func134, Tryz.ntmps134
    go_wp2_with fail
    go_ret
    exact ⟨ret_int h.symm, rfl⟩
  · have e : a ≠ b := by rintro rfl; rw [cb_self] at h; omega
    rw [h, decide_eq_false (by omega)] at h1
    rw [decide_eq_false e] at h2
    go_enter Tryz.func134, Tryz.ntmps134
    go_wp2_with fail
    go_ret
    exact ⟨ret_int h.symm, rfl⟩
theorem refCmp_any (a b : Kb) (w : World) :
    Calls Tryz.prog 94 #[a.v, b.v] w fun x w' => x = .returned (.int .i64 (kc a.ky b.ky)) ∧ Below w.heap.size w w' := by
  obtain ⟨t1, p1, r1, c1⟩ := a
  obtain ⟨t2, p2, r2, c2⟩ := b
  have T : Hid (∀ (a b : ByteArray) (w : World), Calls Tryz.prog 134 #[.string a, .string b] w fun x w' => x = .returned (.int .i64 (cb (nb a) (nb b))) ∧ w' = w) := texts_any
  have h1 := ba_same t1 t2
  have h2 := ba_same p1 p2
  have hB : Hid (∀ o1 o2 : Obj, Below w.heap.size w ((w.alloc o1).alloc o2)) := fun o1 o2 => ((Below.refl _ _).alloc (Nat.le_refl _) _).alloc (by simp) _
  obtain ⟨R, hR⟩ : ∃ R, R = kc (Kb.ky ⟨t1, p1, r1, c1⟩) (Kb.ky ⟨t2, p2, r2, c2⟩) := ⟨_, rfl⟩
  rw [← hR]
  simp only [kc, Kb.ky] at hR
  simp only [Kb.v]
  by_cases e1 : t1 = t2
  · subst e1
    rw [decide_eq_true rfl] at h1
    rw [cb_self, th_zero] at hR
    by_cases e2 : p1 = p2
    · subst e2
      rw [decide_eq_true rfl] at h2
      rw [cb_self, th_zero] at hR
      rcases Int.lt_trichotomy r1 r2 with e3 | e3 | e3
      · have : ci r1 r2 = -1 := by unfold ci; rw [if_pos e3]
        rw [this, th_of (by omega)] at hR
        go_enter Tryz.func94, Tryz.ntmps94
        go_wp2_with fail
        go_ret
        exact ⟨ret_int hR.symm, hB.out _ _⟩
      · subst e3
        rw [(ci_cmpr.z _ _).2 rfl, th_zero] at hR
        go_enter Tryz.func94, Tryz.ntmps94
        go_wp2_with (go_at_call 134; go_fit (T.out _ _ _); rintro x w1 ⟨rfl, rfl⟩)
        go_ret
        exact ⟨ret_int hR.symm, hB.out _ _⟩
      · have : ci r1 r2 = 1 := by unfold ci; rw [if_neg (by omega), if_pos e3]
        rw [this, th_of (by omega)] at hR
        have e4 : ¬ r1 < r2 := by omega
        go_enter Tryz.func94, Tryz.ntmps94
        have hR' : Hid (R = 1) := hR
        clear hR
        go_wp2_with fail
        go_ret
        exact ⟨ret_int hR'.out.symm, hB.out _ _⟩
    · rw [decide_eq_false e2] at h2
      rw [th_of (fun h => e2 (nb_inj.1 ((cb_cmpr.z _ _).1 h)))] at hR
      go_enter Tryz.func94, Tryz.ntmps94
      go_wp2_with (go_at_call 134; go_fit (T.out _ _ _); rintro x w1 ⟨rfl, rfl⟩)
      go_ret
      exact ⟨ret_int hR.symm, hB.out _ _⟩
  · rw [decide_eq_false e1] at h1
    rw [th_of (fun h => e1 (nb_inj.1 ((cb_cmpr.z _ _).1 h)))] at hR
    go_enter Tryz.func94, Tryz.ntmps94
    go_wp2_with (go_at_call 134; go_fit (T.out _ _ _); rintro x w1 ⟨rfl, rfl⟩)
    go_ret
    exact ⟨ret_int hR.symm, hB.out _ _⟩

theorem box_cells (w : World) (o : Obj) (t : TypeId) (cs : Array Value) (i : Nat) (v : Value) (h : cs[i]? = some v) : ((w.alloc (.cells cs t)).alloc o).cell? ⟨w.heap.size, i, none⟩ = some v ∧ (o = .cells cs t → ((w.alloc o).alloc (.cells cs t)).cell? ⟨w.heap.size + 1, i, none⟩ = some v) := by
  have h1 : ((w.alloc (.cells cs t)).alloc o).heap[w.heap.size]? = some (.cells cs t) := by
    rw [Below.heap_alloc _ _ _ (by rw [World.size_alloc]; omega)]; exact heap_alloc_new w _
  have h2 : ((w.alloc o).alloc (.cells cs t)).heap[w.heap.size + 1]? = some (.cells cs t) := by
    have := heap_alloc_new (w.alloc o) (.cells cs t); rwa [World.size_alloc] at this
  refine ⟨?_, fun _ => ?_⟩
  · simp only [World.cell?, h1]; simpa using h
  · simp only [World.cell?, h2]; simpa using h
theorem box_cells2 (w : World) (o : Obj) (t : TypeId) (cs : Array Value) (i : Nat) (v : Value) (h : cs[i]? = some v) : ((w.alloc o).alloc (.cells cs t)).cell? ⟨w.heap.size + 1, i, none⟩ = some v := by
  have h2 : ((w.alloc o).alloc (.cells cs t)).heap[w.heap.size + 1]? = some (.cells cs t) := by
    have := heap_alloc_new (w.alloc o) (.cells cs t); rwa [World.size_alloc] at this
  simp only [World.cell?, h2]; simpa using h
theorem kc_fu (t1 t2 p1 p2 c1 c2 : ByteArray) (r1 r2 : Int) : kc (Kb.ky ⟨t1, p1, r1, c1⟩) (Kb.ky ⟨t2, p2, r2, c2⟩) = fu [cb (nb t1) (nb t2), cb (nb p1) (nb p2), ci r1 r2, cb (nb c1) (nb c2)] := by
  show th _ (th _ (th _ _)) = th _ (th _ (th _ (th _ 0)))
  have : ∀ x, th x 0 = x := fun x => by unfold th; split <;> omega
  rw [this]; rfl

structure Kb.Ok (k : Kb) : Prop where
  t : k.t.size ≤ 5000
  p : k.p.size ≤ 5000
  c : k.c.size ≤ 5000
  r : InI k.r
structure Kb.Big (k : Kb) : Prop where
  t : k.t.size ≤ 2000000
  p : k.p.size ≤ 2000000
  c : k.c.size ≤ 2000000
  r : InI k.r
theorem Kb.Ok.big {k : Kb} (h : k.Ok) : k.Big := ⟨Nat.le_trans h.t (by decide), Nat.le_trans h.p (by decide), Nat.le_trans h.c (by decide), h.r⟩
end Go.Proofs.YtlamncldbnagmaaGreatDoor

/-
  PLAIN: what murmur's functions compute, over words of 64 bits and lists alone; no program.
-/
import Derived.WalkKit
import Derived.PlainAid
import Derived.OpenShut
import Derived.Laws.BitsAllLaws
namespace Go.Proofs.YtcnceipkoapcpaaDoor
open Go.RowKit

/-! ### Words of 64 bits as the walk spells them. -/
theorem bv_lt (a : BitVec 64) : a.toNat < 18446744073709551616 := a.isLt
theorem bv_bd (a : BitVec 64) : 0 ≤ (a.toNat : Int) ∧ (a.toNat : Int) ≤ 18446744073709551615 := by have := bv_lt a; omega
theorem u_xor (a b : BitVec 64) : bits BinOp.xor IntKind.u64 (a.toNat : Int) (b.toNat : Int) = ((a ^^^ b).toNat : Int) := by
  rw [u64_xor_nat _ _ (bv_lt a) (bv_lt b), BitVec.toNat_xor]
theorem u_or (a b : BitVec 64) : bits BinOp.or IntKind.u64 (a.toNat : Int) (b.toNat : Int) = ((a ||| b).toNat : Int) := by
  rw [u64_or_nat _ _ (bv_lt a) (bv_lt b), BitVec.toNat_or]
theorem u_mul (a b : BitVec 64) : IntKind.u64.wrap ((a.toNat : Int) * (b.toNat : Int)) = ((a * b).toNat : Int) := by
  rw [IntKind.wrap_u64, BitVec.toNat_mul, Int.natCast_emod, Int.natCast_mul]; rfl
theorem u_add (a b : BitVec 64) : IntKind.u64.wrap ((a.toNat : Int) + (b.toNat : Int)) = ((a + b).toNat : Int) := by
  rw [IntKind.wrap_u64, BitVec.toNat_add, Int.natCast_emod, Int.natCast_add]; rfl
theorem u_shr (a : BitVec 64) (k : Nat) : (a.toNat : Int) / ((2 ^ k : Nat) : Int) = ((a >>> k).toNat : Int) := by
  rw [BitVec.toNat_ushiftRight, Nat.shiftRight_eq_div_pow, Int.natCast_ediv]
theorem u_shl (a : BitVec 64) (k : Nat) : IntKind.u64.wrap ((a.toNat : Int) * ((2 ^ k : Nat) : Int)) = ((a <<< k).toNat : Int) := by
  rw [IntKind.wrap_u64, BitVec.toNat_shiftLeft, Nat.shiftLeft_eq, Int.natCast_emod, Int.natCast_mul]; rfl
theorem u_lit (n : Nat) (h : n < 18446744073709551616) : (n : Int) = ((BitVec.ofNat 64 n).toNat : Int) := by
  rw [BitVec.toNat_ofNat, Nat.mod_eq_of_lt (by omega)]
theorem u_mulc (a : BitVec 64) (n : Nat) (h : n < 18446744073709551616) : IntKind.u64.wrap ((a.toNat : Int) * (n : Int)) = ((a * BitVec.ofNat 64 n).toNat : Int) := by
  rw [u_lit n h, u_mul]
theorem u_addc (a : BitVec 64) (n : Nat) (h : n < 18446744073709551616) : IntKind.u64.wrap ((a.toNat : Int) + (n : Int)) = ((a + BitVec.ofNat 64 n).toNat : Int) := by
  rw [u_lit n h, u_add]
theorem bv_of (u : Int) (h0 : 0 ≤ u) (h1 : u ≤ 18446744073709551615) : ∃ a : BitVec 64, u = (a.toNat : Int) := by
  refine ⟨BitVec.ofNat 64 u.toNat, ?_⟩
  rw [BitVec.toNat_ofNat, Nat.mod_eq_of_lt (by omega)]
  omega
theorem bv_inj {a b : BitVec 64} (h : (a.toNat : Int) = (b.toNat : Int)) : a = b := BitVec.eq_of_toNat_eq (by omega)

/-! ### The last step, and the way back. -/
def F1 : BitVec 64 := 0xff51afd7ed558ccd#64
def F2 : BitVec 64 := 0xc4ceb9fe1a85ec53#64
def G1 : BitVec 64 := 0x9cb4b2f8129337db#64
def G2 : BitVec 64 := 0x4f74430c22a54005#64
def fold33 (k : BitVec 64) : BitVec 64 := k ^^^ (k >>> 33)
def mixB (k : BitVec 64) : BitVec 64 := fold33 (fold33 (fold33 k * F1) * F2)
def unmixB (k : BitVec 64) : BitVec 64 := fold33 (fold33 (fold33 k * G1) * G2)
theorem fold33_twice (k : BitVec 64) : fold33 (fold33 k) = k := by
  unfold fold33
  rw [BitVec.ushiftRight_xor_distrib]
  have h : (k >>> 33) >>> 33 = 0#64 := by
    apply BitVec.eq_of_toNat_eq
    rw [BitVec.toNat_ushiftRight, BitVec.toNat_ushiftRight, Nat.shiftRight_eq_div_pow, Nat.shiftRight_eq_div_pow]
    have := bv_lt k
    show k.toNat / 8589934592 / 8589934592 = 0
    omega
  rw [h, BitVec.xor_zero, BitVec.xor_assoc, BitVec.xor_self, BitVec.xor_zero]
theorem mulback (k a b : BitVec 64) (h : a * b = 1#64) : k * a * b = k := by rw [BitVec.mul_assoc, h, BitVec.mul_one]
theorem unmix_mix (k : BitVec 64) : unmixB (mixB k) = k := by
  unfold unmixB mixB
  rw [fold33_twice, mulback _ F2 G1 (by decide), fold33_twice, mulback _ F1 G2 (by decide), fold33_twice]
theorem mix_unmix (k : BitVec 64) : mixB (unmixB k) = k := by
  unfold unmixB mixB
  rw [fold33_twice, mulback _ G2 F1 (by decide), fold33_twice, mulback _ G1 F2 (by decide), fold33_twice]
theorem mix_inj (a b : BitVec 64) : mixB a = mixB b ↔ a = b := ⟨fun h => by rw [← unmix_mix a, h, unmix_mix], fun h => by rw [h]⟩

theorem fold33_text (a : BitVec 64) : bits BinOp.xor IntKind.u64 (a.toNat : Int) ((a.toNat : Int) / 8589934592) = ((fold33 a).toNat : Int) := by
  have h : (a.toNat : Int) / (8589934592 : Int) = ((a >>> 33).toNat : Int) := u_shr a 33
  refine Eq.trans ?_ (u_xor a (a >>> 33))
  rw [← h]
theorem f1_text (a : BitVec 64) : IntKind.u64.wrap ((a.toNat : Int) * 18397679294719823053) = ((a * F1).toNat : Int) := u_mulc a 18397679294719823053 (by decide)
theorem f2_text (a : BitVec 64) : IntKind.u64.wrap ((a.toNat : Int) * 14181476777654086739) = ((a * F2).toNat : Int) := u_mulc a 14181476777654086739 (by decide)
theorem g1_text (a : BitVec 64) : IntKind.u64.wrap ((a.toNat : Int) * 11291846944257947611) = ((a * G1).toNat : Int) := u_mulc a 11291846944257947611 (by decide)
theorem g2_text (a : BitVec 64) : IntKind.u64.wrap ((a.toNat : Int) * 5725274745694666757) = ((a * G2).toNat : Int) := u_mulc a 5725274745694666757 (by decide)
theorem mix_text (a : BitVec 64) (T : Int) (h : T = bits BinOp.xor IntKind.u64 (IntKind.u64.wrap (bits BinOp.xor IntKind.u64 (IntKind.u64.wrap (bits BinOp.xor IntKind.u64 (a.toNat : Int) ((a.toNat : Int) / 8589934592) * 18397679294719823053)) (IntKind.u64.wrap (bits BinOp.xor IntKind.u64 (a.toNat : Int) ((a.toNat : Int) / 8589934592) * 18397679294719823053) / 8589934592) * 14181476777654086739)) (IntKind.u64.wrap (bits BinOp.xor IntKind.u64 (IntKind.u64.wrap (bits BinOp.xor IntKind.u64 (a.toNat : Int) ((a.toNat : Int) / 8589934592) * 18397679294719823053)) (IntKind.u64.wrap (bits BinOp.xor IntKind.u64 (a.toNat : Int) ((a.toNat : Int) / 8589934592) * 18397679294719823053) / 8589934592) * 14181476777654086739) / 8589934592)) : T = ((mixB a).toNat : Int) := by
  rw [h]
  simp only [fold33_text, f1_text, f2_text]
  rfl

theorem unmix_text (a : BitVec 64) (T : Int) (h : T = bits BinOp.xor IntKind.u64 (IntKind.u64.wrap (bits BinOp.xor IntKind.u64 (IntKind.u64.wrap (bits BinOp.xor IntKind.u64 ((a.toNat : Int)) ((a.toNat : Int) / 8589934592) * 11291846944257947611)) (IntKind.u64.wrap (bits BinOp.xor IntKind.u64 ((a.toNat : Int)) ((a.toNat : Int) / 8589934592) * 11291846944257947611) / 8589934592) * 5725274745694666757)) (IntKind.u64.wrap (bits BinOp.xor IntKind.u64 (IntKind.u64.wrap (bits BinOp.xor IntKind.u64 ((a.toNat : Int)) ((a.toNat : Int) / 8589934592) * 11291846944257947611)) (IntKind.u64.wrap (bits BinOp.xor IntKind.u64 ((a.toNat : Int)) ((a.toNat : Int) / 8589934592) * 11291846944257947611) / 8589934592) * 5725274745694666757) / 8589934592)) : T = ((unmixB a).toNat : Int) := by
  rw [h]
  simp only [fold33_text, g1_text, g2_text]
  rfl

/-! ### Turning to the left. -/
def rotB (x : BitVec 64) (r : Nat) : BitVec 64 := (x <<< r) ||| (x >>> (64 - r))
theorem rot_text (a : BitVec 64) (r : Nat) (T : Int) (h : T = bits BinOp.or IntKind.u64 (IntKind.u64.wrap ((a.toNat : Int) * ((2 ^ r : Nat) : Int))) ((a.toNat : Int) / ((2 ^ (64 - r) : Nat) : Int))) : T = ((rotB a r).toNat : Int) := by
  rw [h, u_shl, u_shr, u_or]
  rfl
def C1 : BitVec 64 := 0x87c37b91114253d5#64
def C2 : BitVec 64 := 0x4cf5ad432745937f#64
/-- What one half takes of a word. -/
def firstB (k : BitVec 64) : BitVec 64 := rotB (k * C1) 31 * C2
def secondB (k : BitVec 64) : BitVec 64 := rotB (k * C2) 33 * C1
/-- One whole block. -/
def blockB (h : BitVec 64 × BitVec 64) (k1 k2 : BitVec 64) : BitVec 64 × BitVec 64 :=
  let a := (rotB (h.1 ^^^ firstB k1) 27 + h.2) * 5#64 + 0x52dce729#64
  (a, (rotB (h.2 ^^^ secondB k2) 31 + a) * 5#64 + 0x38495ab5#64)
/-- The last steps. -/
def crossB (h : BitVec 64 × BitVec 64) : BitVec 64 × BitVec 64 := (h.1 + h.2, h.2 + (h.1 + h.2))
def finishB (h : BitVec 64 × BitVec 64) (n : BitVec 64) : BitVec 64 × BitVec 64 :=
  let c := crossB (h.1 ^^^ n, h.2 ^^^ n)
  crossB (mixB c.1, mixB c.2)

/-! ### Words out of bytes. -/
def wordUp (l : List UInt8) : Nat → BitVec 64
  | 0 => 0#64
  | k + 1 => wordUp l k ||| (BitVec.ofNat 64 (l.getD k 0).toNat <<< (8 * k))
def wordB (l : List UInt8) : BitVec 64 := wordUp l (min l.length 8)

/-- The halves behind k whole blocks. -/
def blocksB (l : List UInt8) (seed : BitVec 64) : Nat → BitVec 64 × BitVec 64
  | 0 => (seed, seed)
  | k + 1 => blockB (blocksB l seed k) (wordB (l.drop (16 * k))) (wordB (l.drop (16 * k + 8)))
/-- The halves behind the rest, of less than 16 bytes. -/
def restB (d : List UInt8) (h : BitVec 64 × BitVec 64) : BitVec 64 × BitVec 64 :=
  (if 0 < d.length then h.1 ^^^ firstB (wordB d) else h.1, if 8 < d.length then h.2 ^^^ secondB (wordB (d.drop 8)) else h.2)
def sumB (l : List UInt8) (seed : BitVec 64) : BitVec 64 × BitVec 64 :=
  finishB (restB (l.drop (16 * (l.length / 16))) (blocksB l seed (l.length / 16))) (BitVec.ofNat 64 l.length)
end Go.Proofs.YtcnceipkoapcpaaDoor

/-
  SEVERAL TEXTS IN ONE: MurPlain, BlmPlain, RngLaid, RowAid.
-/
import Derived.WalkKit
import Derived.PlainAid
import Derived.OpenShut
import Derived.Laws.BitsAllLaws
import Derived.RangeFuncBox
import Derived.RangeFuncNested
import Derived.RangeFuncBound
import Derived.RangeFuncCalls
import Derived.RangeFuncLeaves
import Derived.Shelf.Abstract
import Derived.Shelf.RegionOpen
import Derived.OwnWalkIn
import Derived.TacticsInMore
import Derived.LoopNIn
import Derived.LoopIn
import Derived.Maps.AppendAt
import Derived.Test.YtglaocghcgcghaaGreatDoorOwn
import Derived.Test.YtglaocghcgcghaaGreatDoorRows
import Derived.ProofKit
import Derived.ShutString
import Derived.ChangeOld
import Derived.SizedLaws
namespace Go.Proofs.YtglaocghcgcghaaGreatDoor
open Go.RowKit

/-! ### Words of 64 bits as the walk spells them. -/
theorem bv_lt (a : BitVec 64) : a.toNat < 18446744073709551616 := a.isLt
theorem bv_bd (a : BitVec 64) : 0 ≤ (a.toNat : Int) ∧ (a.toNat : Int) ≤ 18446744073709551615 := by have := bv_lt a; omega
theorem u_xor (a b : BitVec 64) : bits BinOp.xor IntKind.u64 (a.toNat : Int) (b.toNat : Int) = ((a ^^^ b).toNat : Int) := by
  rw [u64_xor_nat _ _ (bv_lt a) (bv_lt b), BitVec.toNat_xor]
theorem u_or (a b : BitVec 64) : bits BinOp.or IntKind.u64 (a.toNat : Int) (b.toNat : Int) = ((a ||| b).toNat : Int) := by
  rw [u64_or_nat _ _ (bv_lt a) (bv_lt b), BitVec.toNat_or]
theorem u_mul (a b : BitVec 64) : IntKind.u64.wrap ((a.toNat : Int) * (b.toNat : Int)) = ((a * b).toNat : Int) := by
  rw [IntKind.wrap_u64, BitVec.toNat_mul, Int.natCast_emod, Int.natCast_mul]; rfl
theorem u_add (a b : BitVec 64) : IntKind.u64.wrap ((a.toNat : Int) + (b.toNat : Int)) = ((a + b).toNat : Int) := by
  rw [IntKind.wrap_u64, BitVec.toNat_add, Int.natCast_emod, Int.natCast_add]; rfl
theorem u_shr (a : BitVec 64) (k : Nat) : (a.toNat : Int) / ((2 ^ k : Nat) : Int) = ((a >>> k).toNat : Int) := by
  rw [BitVec.toNat_ushiftRight, Nat.shiftRight_eq_div_pow, Int.natCast_ediv]
theorem u_shl (a : BitVec 64) (k : Nat) : IntKind.u64.wrap ((a.toNat : Int) * ((2 ^ k : Nat) : Int)) = ((a <<< k).toNat : Int) := by
  rw [IntKind.wrap_u64, BitVec.toNat_shiftLeft, Nat.shiftLeft_eq, Int.natCast_emod, Int.natCast_mul]; rfl
theorem u_lit (n : Nat) (h : n < 18446744073709551616) : (n : Int) = ((BitVec.ofNat 64 n).toNat : Int) := by
  rw [BitVec.toNat_ofNat, Nat.mod_eq_of_lt (by omega)]
theorem u_mulc (a : BitVec 64) (n : Nat) (h : n < 18446744073709551616) : IntKind.u64.wrap ((a.toNat : Int) * (n : Int)) = ((a * BitVec.ofNat 64 n).toNat : Int) := by
  rw [u_lit n h, u_mul]
theorem u_addc (a : BitVec 64) (n : Nat) (h : n < 18446744073709551616) : IntKind.u64.wrap ((a.toNat : Int) + (n : Int)) = ((a + BitVec.ofNat 64 n).toNat : Int) := by
  rw [u_lit n h, u_add]
theorem bv_of (u : Int) (h0 : 0 ≤ u) (h1 : u ≤ 18446744073709551615) : ∃ a : BitVec 64, u = (a.toNat : Int) := by
  refine ⟨BitVec.ofNat 64 u.toNat, ?_⟩
  rw [BitVec.toNat_ofNat, Nat.mod_eq_of_lt (by omega)]
  omega
theorem bv_inj {a b : BitVec 64} (h : (a.toNat : Int) = (b.toNat : Int)) : a = b := BitVec.eq_of_toNat_eq (by omega)

/-! ### The last step, and the way back. -/
def F1 : BitVec 64 := 0xff51afd7ed558ccd#64
def F2 : BitVec 64 := 0xc4ceb9fe1a85ec53#64
def G1 : BitVec 64 := 0x9cb4b2f8129337db#64
def G2 : BitVec 64 := 0x4f74430c22a54005#64
def fold33 (k : BitVec 64) : BitVec 64 := k ^^^ (k >>> 33)
def mixB (k : BitVec 64) : BitVec 64 := fold33 (fold33 (fold33 k * F1) * F2)
def unmixB (k : BitVec 64) : BitVec 64 := fold33 (fold33 (fold33 k * G1) * G2)
theorem fold33_twice (k : BitVec 64) : fold33 (fold33 k) = k := by
  unfold fold33
  rw [BitVec.ushiftRight_xor_distrib]
  have h : (k >>> 33) >>> 33 = 0#64 := by
    apply BitVec.eq_of_toNat_eq
    rw [BitVec.toNat_ushiftRight, BitVec.toNat_ushiftRight, Nat.shiftRight_eq_div_pow, Nat.shiftRight_eq_div_pow]
    have := bv_lt k
    show k.toNat / 8589934592 / 8589934592 = 0
    omega
  rw [h, BitVec.xor_zero, BitVec.xor_assoc, BitVec.xor_self, BitVec.xor_zero]
theorem mulback (k a b : BitVec 64) (h : a * b = 1#64) : k * a * b = k := by rw [BitVec.mul_assoc, h, BitVec.mul_one]
theorem unmix_mix (k : BitVec 64) : unmixB (mixB k) = k := by
  unfold unmixB mixB
  rw [fold33_twice, mulback _ F2 G1 (by decide), fold33_twice, mulback _ F1 G2 (by decide), fold33_twice]
theorem mix_unmix (k : BitVec 64) : mixB (unmixB k) = k := by
  unfold unmixB mixB
  rw [fold33_twice, mulback _ G2 F1 (by decide), fold33_twice, mulback _ G1 F2 (by decide), fold33_twice]
theorem mix_inj (a b : BitVec 64) : mixB a = mixB b ↔ a = b := ⟨fun h => by rw [← unmix_mix a, h, unmix_mix], fun h => by rw [h]⟩

theorem fold33_text (a : BitVec 64) : bits BinOp.xor IntKind.u64 (a.toNat : Int) ((a.toNat : Int) / 8589934592) = ((fold33 a).toNat : Int) := by
  have h : (a.toNat : Int) / (8589934592 : Int) = ((a >>> 33).toNat : Int) := u_shr a 33
  refine Eq.trans ?_ (u_xor a (a >>> 33))
  rw [← h]
theorem f1_text (a : BitVec 64) : IntKind.u64.wrap ((a.toNat : Int) * 18397679294719823053) = ((a * F1).toNat : Int) := u_mulc a 18397679294719823053 (by decide)
theorem f2_text (a : BitVec 64) : IntKind.u64.wrap ((a.toNat : Int) * 14181476777654086739) = ((a * F2).toNat : Int) := u_mulc a 14181476777654086739 (by decide)
theorem g1_text (a : BitVec 64) : IntKind.u64.wrap ((a.toNat : Int) * 11291846944257947611) = ((a * G1).toNat : Int) := u_mulc a 11291846944257947611 (by decide)
theorem g2_text (a : BitVec 64) : IntKind.u64.wrap ((a.toNat : Int) * 5725274745694666757) = ((a * G2).toNat : Int) := u_mulc a 5725274745694666757 (by decide)
theorem mix_text (a : BitVec 64) (T : Int) (h : T = bits BinOp.xor IntKind.u64 (IntKind.u64.wrap (bits BinOp.xor IntKind.u64 (IntKind.u64.wrap (bits BinOp.xor IntKind.u64 (a.toNat : Int) ((a.toNat : Int) / 8589934592) * 18397679294719823053)) (IntKind.u64.wrap (bits BinOp.xor IntKind.u64 (a.toNat : Int) ((a.toNat : Int) / 8589934592) * 18397679294719823053) / 8589934592) * 14181476777654086739)) (IntKind.u64.wrap (bits BinOp.xor IntKind.u64 (IntKind.u64.wrap (bits BinOp.xor IntKind.u64 (a.toNat : Int) ((a.toNat : Int) / 8589934592) * 18397679294719823053)) (IntKind.u64.wrap (bits BinOp.xor IntKind.u64 (a.toNat : Int) ((a.toNat : Int) / 8589934592) * 18397679294719823053) / 8589934592) * 14181476777654086739) / 8589934592)) : T = ((mixB a).toNat : Int) := by
  rw [h]
  simp only [fold33_text, f1_text, f2_text]
  rfl

theorem unmix_text (a : BitVec 64) (T : Int) (h : T = bits BinOp.xor IntKind.u64 (IntKind.u64.wrap (bits BinOp.xor IntKind.u64 (IntKind.u64.wrap (bits BinOp.xor IntKind.u64 ((a.toNat : Int)) ((a.toNat : Int) / 8589934592) * 11291846944257947611)) (IntKind.u64.wrap (bits BinOp.xor IntKind.u64 ((a.toNat : Int)) ((a.toNat : Int) / 8589934592) * 11291846944257947611) / 8589934592) * 5725274745694666757)) (IntKind.u64.wrap (bits BinOp.xor IntKind.u64 (IntKind.u64.wrap (bits BinOp.xor IntKind.u64 ((a.toNat : Int)) ((a.toNat : Int) / 8589934592) * 11291846944257947611)) (IntKind.u64.wrap (bits BinOp.xor IntKind.u64 ((a.toNat : Int)) ((a.toNat : Int) / 8589934592) * 11291846944257947611) / 8589934592) * 5725274745694666757) / 8589934592)) : T = ((unmixB a).toNat : Int) := by
  rw [h]
  simp only [fold33_text, g1_text, g2_text]
  rfl

/-! ### Turning to the left. -/
def rotB (x : BitVec 64) (r : Nat) : BitVec 64 := (x <<< r) ||| (x >>> (64 - r))
theorem rot_text (a : BitVec 64) (r : Nat) (T : Int) (h : T = bits BinOp.or IntKind.u64 (IntKind.u64.wrap ((a.toNat : Int) * ((2 ^ r : Nat) : Int))) ((a.toNat : Int) / ((2 ^ (64 - r) : Nat) : Int))) : T = ((rotB a r).toNat : Int) := by
  rw [h, u_shl, u_shr, u_or]
  rfl
def C1 : BitVec 64 := 0x87c37b91114253d5#64
def C2 : BitVec 64 := 0x4cf5ad432745937f#64
/-- What one half takes of a word. -/
def firstB (k : BitVec 64) : BitVec 64 := rotB (k * C1) 31 * C2
def secondB (k : BitVec 64) : BitVec 64 := rotB (k * C2) 33 * C1
/-- One whole block. -/
def blockB (h : BitVec 64 × BitVec 64) (k1 k2 : BitVec 64) : BitVec 64 × BitVec 64 :=
  let a := (rotB (h.1 ^^^ firstB k1) 27 + h.2) * 5#64 + 0x52dce729#64
  (a, (rotB (h.2 ^^^ secondB k2) 31 + a) * 5#64 + 0x38495ab5#64)
/-- The last steps. -/
def crossB (h : BitVec 64 × BitVec 64) : BitVec 64 × BitVec 64 := (h.1 + h.2, h.2 + (h.1 + h.2))
def finishB (h : BitVec 64 × BitVec 64) (n : BitVec 64) : BitVec 64 × BitVec 64 :=
  let c := crossB (h.1 ^^^ n, h.2 ^^^ n)
  crossB (mixB c.1, mixB c.2)

/-! ### Words out of bytes. -/
def wordUp (l : List UInt8) : Nat → BitVec 64
  | 0 => 0#64
  | k + 1 => wordUp l k ||| (BitVec.ofNat 64 (l.getD k 0).toNat <<< (8 * k))
def wordB (l : List UInt8) : BitVec 64 := wordUp l (min l.length 8)

/-- The halves behind k whole blocks. -/
def blocksB (l : List UInt8) (seed : BitVec 64) : Nat → BitVec 64 × BitVec 64
  | 0 => (seed, seed)
  | k + 1 => blockB (blocksB l seed k) (wordB (l.drop (16 * k))) (wordB (l.drop (16 * k + 8)))
/-- The halves behind the rest, of less than 16 bytes. -/
def restB (d : List UInt8) (h : BitVec 64 × BitVec 64) : BitVec 64 × BitVec 64 :=
  (if 0 < d.length then h.1 ^^^ firstB (wordB d) else h.1, if 8 < d.length then h.2 ^^^ secondB (wordB (d.drop 8)) else h.2)
def sumB (l : List UInt8) (seed : BitVec 64) : BitVec 64 × BitVec 64 :=
  finishB (restB (l.drop (16 * (l.length / 16))) (blocksB l seed (l.length / 16))) (BitVec.ofNat 64 l.length)
end Go.Proofs.YtglaocghcgcghaaGreatDoor
namespace Go.Proofs.YtglaocghcgcghaaGreatDoor
open Go.RowKit

/-- The i-th place of a key whose hash is h, in a filter of n bytes. -/
def plc (h : BitVec 64 × BitVec 64) (n i : Nat) : Nat := (h.1 + BitVec.ofNat 64 i * h.2).toNat % (8 * n)
def plcs (h : BitVec 64 × BitVec 64) (n k : Nat) : List Nat := (List.range k).map (plc h n)
/-- One bit is set; is one set? -/
def orP (x : UInt8) (p : Nat) : UInt8 := UInt8.ofNat (x.toNat ||| 2 ^ (p % 8))
def setP (l : List UInt8) (p : Nat) : List UInt8 := l.set (p / 8) (orP (l.getD (p / 8) 0) p)
def hasP (l : List UInt8) (p : Nat) : Bool := (l.getD (p / 8) 0).toNat.testBit (p % 8)
def addK (l : List UInt8) (h : BitVec 64 × BitVec 64) (k : Nat) : List UInt8 := (plcs h l.length k).foldl setP l
def mayK (l : List UInt8) (h : BitVec 64 × BitVec 64) (k : Nat) : Bool := (plcs h l.length k).all (hasP l)

theorem orP_toNat (x : UInt8) (p : Nat) : (orP x p).toNat = x.toNat ||| 2 ^ (p % 8) := by
  unfold orP
  rw [UInt8.toNat_ofNat', Nat.mod_eq_of_lt]
  refine Nat.or_lt_two_pow (n := 8) ?_ ?_
  · exact x.toNat_lt
  · exact Nat.pow_lt_pow_right (by decide) (Nat.mod_lt _ (by decide))
theorem setP_length (l : List UInt8) (p : Nat) : (setP l p).length = l.length := List.length_set
theorem plc_lt (h : BitVec 64 × BitVec 64) (n i : Nat) (hn : 0 < n) : plc h n i < 8 * n := Nat.mod_lt _ (by omega)
theorem hasP_setP (l : List UInt8) (p q : Nat) (hp : p / 8 < l.length) : hasP (setP l p) q = (hasP l q || decide (p = q)) := by
  unfold hasP setP
  by_cases h : p / 8 = q / 8
  · rw [← h]
    have : (l.set (p / 8) (orP (l.getD (p / 8) 0) p)).getD (p / 8) 0 = orP (l.getD (p / 8) 0) p := by
      simp [List.getD, hp]
    rw [this, orP_toNat, Nat.testBit_or, Nat.testBit_two_pow]
    congr 1
    by_cases e : p % 8 = q % 8
    · have : p = q := by omega
      simp [this]
    · have : p ≠ q := fun k => e (by rw [k])
      simp [e, this]
  · have : (l.set (p / 8) (orP (l.getD (p / 8) 0) p)).getD (q / 8) 0 = l.getD (q / 8) 0 := by
      simp [List.getD, h]
    rw [this]
    have : p ≠ q := fun k => h (by rw [k])
    simp [this]
theorem setAll_length (ps : List Nat) (l : List UInt8) : (ps.foldl setP l).length = l.length := by
  induction ps generalizing l with
  | nil => rfl
  | cons p ps ih => rw [List.foldl_cons, ih, setP_length]
theorem addK_length (l : List UInt8) (h : BitVec 64 × BitVec 64) (k : Nat) : (addK l h k).length = l.length := setAll_length _ _
theorem hasP_all (ps : List Nat) (l : List UInt8) (q : Nat) (hps : ∀ p ∈ ps, p / 8 < l.length) : hasP (ps.foldl setP l) q = (hasP l q || ps.any (fun p => decide (p = q))) := by
  induction ps generalizing l with
  | nil => simp
  | cons p ps ih =>
    rw [List.foldl_cons, ih _ (fun x hx => by rw [setP_length]; exact hps x (List.mem_cons_of_mem _ hx)), hasP_setP l p q (hps p List.mem_cons_self), List.any_cons, Bool.or_assoc]
theorem plcs_lt (h : BitVec 64 × BitVec 64) (n k : Nat) (hn : 0 < n) : ∀ p ∈ plcs h n k, p < 8 * n := by
  intro p hp
  obtain ⟨i, _, rfl⟩ := List.mem_map.1 hp
  exact plc_lt h n i hn
theorem plcs_div (h : BitVec 64 × BitVec 64) (n k : Nat) (hn : 0 < n) : ∀ p ∈ plcs h n k, p / 8 < n := by
  intro p hp
  have := plcs_lt h n k hn p hp
  omega
theorem plcs_length (h : BitVec 64 × BitVec 64) (n k : Nat) : (plcs h n k).length = k := by simp [plcs]
theorem plcs_at (h : BitVec 64 × BitVec 64) (n k i : Nat) (hi : i < k) : (plcs h n k)[i]? = some (plc h n i) := by simp [plcs, hi]
theorem plcs_step (h : BitVec 64 × BitVec 64) (n i : Nat) : plcs h n (i + 1) = plcs h n i ++ [plc h n i] := by simp [plcs, List.range_succ]
theorem plcs_take (h : BitVec 64 × BitVec 64) (n k i : Nat) (hi : i ≤ k) : (plcs h n k).take i = plcs h n i := by
  unfold plcs
  rw [← List.map_take, List.take_range, Nat.min_eq_left hi]
/-- What was added may be there. -/
theorem may_add (l : List UInt8) (h : BitVec 64 × BitVec 64) (k : Nat) (hl : 0 < l.length) : mayK (addK l h k) h k = true := by
  unfold mayK
  rw [addK_length, List.all_eq_true]
  intro p hp
  unfold addK
  rw [hasP_all _ _ _ (plcs_div h _ k hl), Bool.or_eq_true]
  exact .inr (List.any_eq_true.2 ⟨p, hp, by simp⟩)
/-- What may be there stays so. -/
theorem may_more (l : List UInt8) (h h' : BitVec 64 × BitVec 64) (k k' : Nat) (hl : 0 < l.length) (hm : mayK l h k = true) : mayK (addK l h' k') h k = true := by
  unfold mayK at hm ⊢
  rw [addK_length, List.all_eq_true]
  rw [List.all_eq_true] at hm
  intro p hp
  unfold addK
  rw [hasP_all _ _ _ (plcs_div h' _ k' hl), hm p hp, Bool.true_or]
theorem hasP_zero (n p : Nat) : hasP (List.replicate n 0) p = false := by
  unfold hasP
  have : (List.replicate n (0 : UInt8)).getD (p / 8) 0 = 0 := by
    simp [List.getD, List.getElem?_replicate]
    split <;> rfl
  rw [this]
  simp
theorem may_zero (n k : Nat) (h : BitVec 64 × BitVec 64) (hk : 0 < k) : mayK (List.replicate n 0) h k = false := by
  unfold mayK
  rw [List.all_eq_false]
  refine ⟨plc h (List.replicate n (0 : UInt8)).length 0, ?_, by rw [hasP_zero]; simp⟩
  exact List.mem_map.2 ⟨0, List.mem_range.2 hk, rfl⟩
/-- A step of Add, of May. -/
theorem add_step (l : List UInt8) (h : BitVec 64 × BitVec 64) (i : Nat) : setP (addK l h i) (plc h l.length i) = addK l h (i + 1) := by
  unfold addK
  rw [plcs_step, List.foldl_append]
  rfl
theorem may_step (l : List UInt8) (h : BitVec 64 × BitVec 64) (i : Nat) : mayK l h (i + 1) = (mayK l h i && hasP l (plc h l.length i)) := by
  unfold mayK
  rw [plcs_step, List.all_append]
  simp
theorem may_less {l : List UInt8} {h : BitVec 64 × BitVec 64} {i k : Nat} (hi : i < k) (hp : hasP l (plc h l.length i) = false) : mayK l h k = false := by
  unfold mayK
  rw [List.all_eq_false]
  exact ⟨_, List.mem_map.2 ⟨i, List.mem_range.2 hi, rfl⟩, by rw [hp]; simp⟩
end Go.Proofs.YtglaocghcgcghaaGreatDoor
namespace Go.Proofs.YtglaocghcgcghaaGreatDoor
open Go.RowKit Go.Shelf

/-- What a function yields: of each value, when it is yielded, Hx holds; all rounds go on. -/
def SeqMem {α : Type} (F : Fence) (n : Nat) (P : Program) (g : Nat) (lb : Array Value) (encs : α → Array Value) (Kp : World → World → Prop) (Hx : α → World → Prop) (S : List α → Prop) (N : Nat) (w : World) : Prop :=
  ∀ (l : Nat) (J : List α → World → Prop) (W : World), Below w.heap.size w W → AbidesFrom W.heap.size J →
    (∀ pre x W1, J pre W1 → Hx x W1 → pre.length < N → YieldAt F (n - 1) P l (encs x) W1 fun e W' => e = .returned (.bool true) ∧ J (pre ++ [x]) W' ∧ Kp W1 W') →
    J [] W → CallsIn F n P g (#[.func (.yield l) #[] #[]] ++ lb) W fun e W' => (∃ v, e = .returned v) ∧ ∃ xs, S xs ∧ J xs W'
/-- The loop's record, and where its deferred calls lie. -/
def Book (b : Nat) (r : Loop) (W : World) : Prop := W.heap[b + 1]? = some (.loop r) ∧ W.heap[b]? = some (.deferred (some []))
theorem Book.keeps {b : Nat} {r : Loop} {A B : World} (h : Book b r A) (hk : KeepsFrom b A B) : Book b r B := ⟨hk.same _ _ (by omega) h.1 rfl, hk.same _ _ (Nat.le_refl _) h.2 rfl⟩
theorem Book.put {b : Nat} {r : Loop} {A : World} (h : Book b r A) (r' : Loop) : Book b r' (A.putObj (b + 1) (.loop r')) :=
  ⟨World.putObj_heap_same (Array.getElem?_eq_some_iff.1 h.1).1, (World.putObj_heap_other (by omega)).trans h.2⟩
theorem Book.abides {b : Nat} {r : Loop} {A B : World} {row : Option Nat} (h : Book b r A) (hg : A.grownBy B row) (hr : ∀ x, row = some x → ∃ o : Obj, A.heap[x]? = some o ∧ o.isWalk = true) : Book b r B :=
  ⟨(grownBy_keeps hg hr h.1 rfl).trans h.1, (grownBy_keeps hg hr h.2 rfl).trans h.2⟩
theorem wpIn_rangeFunc_mem {F : Fence} {n : Nat} {P : Program} {α : Type} {g : Operand} {ps : Array Tmp} {assign body : Code} {Q : Exit → Act → World → Prop} {a : Act} {w : World}
    (hro : F.round = none) (h1 : 1 ≤ n) {gf : Nat} {lb : Array Value} (hg : a.eval g = .func (.func gf) #[] lb) (hFg : F.fn gf) (eg : ∀ args w, (callFunc gf args).run P w = .ok (.enter gf args) w)
    {encs : α → Array Value} {Kp : World → World → Prop} {Hx : α → World → Prop} {S : List α → Prop} {N : Nat} (hseq : SeqMem F (n - 1) P gf lb encs Kp Hx S N w)
    (hKt : ∀ {A B C : World}, Kp A B → Kp B C → Kp A C) (hKb : ∀ (W : World) (l : Nat) (o o' : Obj), w.heap.size ≤ l → W.heap[l]? = some o → o.isCells = false → o.isWalk = false → Kp W (W.putObj l o'))
    (hHb : ∀ (x : α) (W : World) (l : Nat) (o o' : Obj), W.heap[l]? = some o → o.isCells = false → Hx x W → Hx x (W.putObj l o')) (hps : ∀ x, (encs x).size = ps.size)
    (I : List α → World → Prop) (hI : OwnFrom w.heap.size I) (h0 : I [] w) (a₁ : α → Act)
    (hassign : ∀ (l : Nat) (x : α) (W : World) (K : Act → World → Prop), K (a₁ x) W →
      assign.wpIn (F.inRound l) (n - 1 - 1) P (Exit.then K (fun _ _ _ => False)) { tmps := (ps.zip (encs x)).foldl (fun t (p, v) => t.setIfInBounds p v) a.tmps, defers := [] } W)
    (hbody : ∀ (l : Nat) (pre : List α) (x : α) (W : World), I pre W → Hx x W → pre.length < N → body.wpIn (F.inRound l) (n - 1 - 1) P (ownPostG w.heap.size Kp I (fun _ _ _ => False) (pre ++ [x]) W) (a₁ x) W)
    (hdone : ∀ (D : Nat) (xs : List α) (W : World), w.heap.size ≤ D → S xs → I xs W → W.heap[D]? = some (.deferred (some [])) → Q .normal { a with defers := { target := .collected D, args := #[] } :: a.defers } W) :
    (Code.rangeFunc g ps assign body).wpIn F n P Q a w := by
  refine wpIn_rangeFunc fun fn hfn => ?_
  rw [hro]
  obtain ⟨rc, hrc⟩ : ∃ rc : LoopState → Option Code → Loop, rc = fun st pe => { state := st, pending := pe, fn, tmps := a.tmps, params := ps, assign, body, defers := w.heap.size } := ⟨_, rfl⟩
  obtain ⟨W1, hW1⟩ : ∃ W1, (w.alloc (.deferred (some []))).alloc (.loop (rc .ready none)) = W1 := ⟨_, rfl⟩
  have hs1 : W1.heap.size = w.heap.size + 1 + 1 := by rw [← hW1]; simp
  have hbk : Book w.heap.size (rc .ready none) W1 := by
    rw [← hW1]
    constructor
    · have := World.alloc_heap_new (w.alloc (.deferred (some []))) (.loop (rc .ready none)); rwa [World.size_alloc] at this
    · exact (Below.heap_alloc _ _ _ (by simp)).trans (World.alloc_heap_new w _)
  have hI1 : I [] W1 := by rw [← hW1]; exact hI.alloc _ (hI.alloc _ h0)
  have hb1 : Below w.heap.size w W1 := by rw [← hW1]; exact ((Below.refl _ w).alloc (Nat.le_refl _) _).alloc (by simp) _
  refine ⟨w.heap.size + 1, [{ target := .collected w.heap.size, args := #[] }], W1, { target := .fn (.func gf) lb, args := #[.func (.yield (w.heap.size + 1)) #[] #[]] }, W1, gf,
    #[.func (.yield (w.heap.size + 1)) #[] #[]] ++ lb, W1, by rw [← hW1, hrc]; exact run_enterLoop_outer _ _ _ _ _, by simp only [resolve, hg]; simp [go_sem], fun f' hf' => by simp [Target.leads] at hf'; subst hf'; exact hFg, by simp [invoke, go_sem, eg], fun _ => h1, ?_⟩
  refine (hseq (w.heap.size + 1) (fun pre W => I pre W ∧ Book w.heap.size (rc .ready none) W) W1 hb1
    (fun s A B row hs hg' hr => ⟨hI s A B row hs.1 hg' fun r e => by obtain ⟨hB, o, ho, hw⟩ := hr r e; exact ⟨by omega, o, ho, Obj.not_cells_of_walk hw⟩, hs.2.abides hg' fun r e => (hr r e).2⟩) ?_ ⟨hI1, hbk⟩).mono ?_
  · rintro pre x W ⟨hi, hb⟩ hx hlen
    have hy := run_yield (P := P) (args := encs x) hb.1 (by rw [hrc]; exact hps x)
    rw [hrc] at hy
    refine ⟨fn, _, assign, body, hy, roundIn_of_wpIn hfn (hassign _ x W _ ?_)⟩
    clear hy
    refine ⟨_, run_beginRound hb.1 (by rw [hrc]), ?_⟩
    have hb2 := hb.put { rc .ready none with state := .busy }
    have hK2 : Kp W (W.putObj (w.heap.size + 1) (.loop { rc .ready none with state := .busy })) := hKb _ _ _ _ (by omega) hb.1 rfl rfl
    refine wpIn_mono (hbody _ pre x _ (hI.putObj _ hi (by omega) hb.1 rfl) (hHb x W _ _ _ hb.1 rfl hx) hlen) ?_
    rintro e a3 W3 hp
    cases e with
    | normal =>
      obtain ⟨hk3, hkp3, hi3⟩ := hp
      have hb3 := hb2.keeps hk3
      have hr := run_endRound (P := P) none hb3.1
      rw [hrc] at hr
      refine ⟨_, _, hr, rfl, ⟨hI.putObj _ hi3 (by omega) hb3.1 rfl, ?_⟩, hKt (hKt hK2 hkp3) (hKb _ _ _ _ (by omega) hb3.1 rfl rfl)⟩
      have := hb3.put (rc .ready none)
      rw [hrc] at this ⊢
      exact this
    | ret => exact hp.2.elim
    | exit id => exact hp.2.elim
    | goto t => exact hp.2.elim
    | panic ch => exact hp.elim
    | outgrown => exact hp.elim
  · rintro e W2 ⟨⟨v, rfl⟩, xs, hS, hi, hb⟩
    exact ⟨none, _, by have := run_endLoop (P := P) hb.1 (by rw [hrc]; simp); rw [hrc] at this; exact this, hdone _ xs _ (Nat.le_refl _) hS (hI.putObj _ hi (by omega) hb.1 rfl) ((World.putObj_heap_other (by omega)).trans hb.2)⟩
end Go.Proofs.YtglaocghcgcghaaGreatDoor
namespace Go.Proofs.YtglaocghcgcghaaGreatDoor
open Go.ChangeShapes Go.WideShapes Go.ChangeAt Go.RowKit

theorem own : ownKnob Tryz.prog.godebug = none := by kernel_rfl
theorem laidOut : laidOutB Tryz.prog = true := by kernel_rfl
theorem byte_valR (n : Nat) (h : n < 256) : ((UInt8.ofNat n).toNat : Int) = n := by
  simp; omega
/-- Bytes that came in. -/
theorem bytes_open {H : Type} {enc : TypeId × Value → H} {W : World} {ao : Option Addr} {len cap : Nat} {d : DataW H} {p : List MemPlace}
    (h : DataW.Trod enc Tryz.prog W 0 (fun _ => true) true 37 (Value.slice ao len cap) d p) :
    ∃ l : List UInt8, l.length = len ∧ Sees W ao l ∧ (ao = none → l.length = 0) ∧ l.length ≤ maxLen ∧ l.length ≤ cap ∧ (l.length = 0 ∨ ∃ el sp, d = .slice el sp ∧ el.length = l.length) := by
  obtain ⟨fuel, hf⟩ := h
  rcases open_ints Tryz.underlying37 Tryz.underlying5 (by kernel_rfl) hf with ⟨hcs, _⟩ | ⟨x, n, c, zs, hcs, _, hl, hm, hz, hx, hcell, hwz⟩
  · simp [Value.cells] at hcs
    obtain ⟨rfl, rfl, rfl⟩ := hcs
    exact ⟨[], rfl, Sees.nil _ _, fun _ => rfl, Nat.zero_le _, Nat.zero_le _, .inl rfl⟩
  · simp [Value.cells] at hcs
    obtain ⟨rfl, rfl, rfl⟩ := hcs
    have hzl : zs.length = cap := by simpa using hz
    have hlen : ((zs.take len).map fun z : Int => UInt8.ofNat z.toNat).length = len := by simp; omega
    refine ⟨(zs.take len).map fun z : Int => UInt8.ofNat z.toNat, hlen, fun i hi => ⟨x, rfl, ?_⟩, (fun h => by cases h), by omega, by omega, .inr ⟨_, _, congrArg Prod.fst hx, by rw [hlen]; simp [lits]; omega⟩⟩
    rw [hlen] at hi
    have hi' : i < zs.length := by omega
    rw [hcell i hi']
    have hb := bounds_u8 (hwz (zs.getD i 0) (by simp [List.getD, hi']))
    have e : ((zs.take len).map fun z : Int => UInt8.ofNat z.toNat).getD i 0 = UInt8.ofNat (zs.getD i 0).toNat := by simp [List.getD, hi, hi']
    rw [e, byte_valR _ (by omega), Int.toNat_of_nonneg hb.1]
theorem bytes8 : Tryz.prog.bytesOf 5 = 1 := by kernel_rfl
/-- How many bytes can have come in. -/
theorem bytes_reach {H : Type} {ts : List TypeId} {ds : List (DataW H)} {j n : Nat} {d : DataW H} (h : (DataW.weightsEach Tryz.prog ts ds).all (· ≤ reachBytes) = true) (ht : ts[j]? = some 37) (hd : ds[j]? = some d)
    (hn : n = 0 ∨ ∃ el sp, d = .slice el sp ∧ el.length = n) : n ≤ 140737488351232 := by
  rcases hn with rfl | ⟨el, sp, rfl, rfl⟩
  · omega
  · have := sized_slice h ht hd Tryz.underlying37
    rw [bytes8] at this
    simp only [reachBytes] at this
    omega
end Go.Proofs.YtglaocghcgcghaaGreatDoor

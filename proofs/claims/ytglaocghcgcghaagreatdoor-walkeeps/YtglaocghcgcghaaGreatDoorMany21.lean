/-
  SEVERAL TEXTS IN ONE: TabPlain, CrcPlain, SrtSwap.
-/
import Derived.Test.YtglaocghcgcghaaGreatDoorMany19
import Derived.Test.YtglaocghcgcghaaGreatDoorMany20
import Derived.Test.YtglaocghcgcghaaGreatDoorMany14
import Derived.Test.YtglaocghcgcghaaGreatDoorMany18
import Derived.Test.YtglaocghcgcghaaGreatDoorMany17
import Derived.Test.YtglaocghcgcghaaGreatDoorMany12
namespace Go.Proofs.YtglaocghcgcghaaGreatDoor
open Go.RowKit

/-- How many blocks so many cells have. -/
def nBk (n : Nat) : Nat := (n + 7) / 8
/-- A block's cells. -/
def chk (l : List Cx) (k : Nat) : List Cx := (l.drop (8 * k)).take 8
/-- Cells in bytes. -/
def cxB (l : List Cx) : List UInt8 := cellsL (l.map toC)
def blkB (l : List Cx) (k : Nat) : List UInt8 := frameL (cxB (chk l k))
def blksB (l : List Cx) (ks : List Nat) : List UInt8 := ks.flatMap (blkB l)
/-- The bytes of the first cell's key. -/
def kyB : List Cx → List UInt8
  | [] => []
  | c :: _ => encK c.k.ky
def ixB (l : List Cx) (k : Nat) : List UInt8 := txtL (kyB (chk l k)) ++ numL (blkB l k).length
def idxB (l : List Cx) (ks : List Nat) : List UInt8 := numL (nBk l.length) ++ ks.flatMap (ixB l)
/-- The filter's bits. -/
def filB (n : Nat) (l : List Cx) : List UInt8 := l.foldl (fun f c => addK f (sumB (encK c.k.ky) 0#64) 7) (List.replicate (nOf n 10) 0)
def fltB (l : List Cx) : List UInt8 := encF 7 (filB l.length l)
def allK (l : List Cx) : List Nat := List.range (nBk l.length)
def headB (l : List Cx) : List UInt8 := blksB l (allK l) ++ frameL (idxB l (allK l)) ++ frameL (fltB l)
def endC (l : List Cx) : List UInt8 := numL l.length ++ (numL (blksB l (allK l)).length ++ (numL (frameL (idxB l (allK l))).length ++ (numL (frameL (fltB l)).length ++ numL (sumZ (headB l)).toNat)))
def encTb (l : List Cx) : List UInt8 := headB l ++ frameL (endC l) ++ [UInt8.ofNat (frameL (endC l)).length]
/-- May cells be a table? -/
noncomputable def wrtB (l : List Cx) : Bool := decide (0 < l.length) && (srtB l && l.all goodC)

theorem frameL_len (l : List UInt8) : (frameL l).length = l.length + 8 := by simp [frameL, fourL]
theorem numL_two (u : Nat) (h : u < 16384) : (numL u).length ≤ 2 := by
  unfold numL
  by_cases h1 : u < 128
  · rw [numF_small _ _ h1]; simp
  · rw [numF_great _ _ (by omega), numF_small _ _ (by omega)]; simp
theorem chk_len (l : List Cx) (k : Nat) : (chk l k).length ≤ 8 := by unfold chk; rw [List.length_take]; omega
theorem chk_mem {l : List Cx} {k : Nat} {c : Cx} (h : c ∈ chk l k) : c ∈ l := List.mem_of_mem_drop (List.mem_of_mem_take h)
/-- How great a good cell is. -/
structure SmallX (x : Cx) : Prop where
  t : x.k.t.size ≤ 16
  p : x.k.p.size ≤ 64
  c : x.k.c.size ≤ 16
  s : x.v.s.size ≤ 64
theorem good_small {c : Cx} (h : goodC c = true) : SmallX c := by
  unfold goodC at h
  rw [Bool.and_eq_true] at h
  obtain ⟨h1, h2⟩ := h
  unfold goodK Kb.ky at h1
  simp only [Bool.and_eq_true, decide_eq_true_eq, Bool.or_eq_true, beq_iff_eq] at h1
  obtain ⟨⟨⟨h3, -⟩, h4⟩, h5⟩ := h1
  have h6 := (name_iff _).1 h3
  refine ⟨by rw [← nb_size]; exact h6.2.1, by rw [← nb_size]; exact h4, ?_, ?_⟩
  · rcases h5 with h5 | h5
    · rw [← nb_size, h5]; decide
    · rw [← nb_size]; exact ((name_iff _).1 h5).2.1
  · unfold goodV zeroVal at h2
    split at h2
    · simp only [Bool.and_eq_true, decide_eq_true_eq] at h2; omega
    · rw [Bool.and_eq_true] at h2
      have h7 := h2.2
      split at h7
      · simp only [Bool.and_eq_true, decide_eq_true_eq] at h7; omega
      · simp only [Bool.and_eq_true, Bool.or_eq_true, decide_eq_true_eq] at h7; omega
theorem SmallX.ok {c : Cx} (h : SmallX c) (hr : InI c.k.r) : c.k.Ok := ⟨Nat.le_trans h.t (by decide), Nat.le_trans h.p (by decide), Nat.le_trans h.c (by decide), hr⟩
theorem wtYs_small : ∀ {l : List Cx}, (∀ c ∈ l, SmallX c) → wtYs l ≤ 160 * l.length
  | [], _ => by simp [wtYs]
  | c :: l, h => by
    have h1 := wtYs_small (l := l) fun x hx => h x (List.mem_cons_of_mem _ hx)
    have h2 := h c (by simp)
    obtain ⟨a, b, d, e⟩ := h2
    have h3 : wtY c ≤ 160 := by unfold wtY; split <;> omega
    unfold wtYs at *
    simp only [List.map_cons, List.sum_cons, List.length_cons]
    omega
theorem cxB_len {l : List Cx} (h : ∀ c ∈ l, SmallX c) : (cxB l).length ≤ 10 + 241 * l.length := by
  have h1 := wtYs_small h
  have h2 := manyL_leD (l.map toC)
  have h3 := (numL_length (l.map toC).length).2
  rw [wtL_toC, List.length_map] at h2
  unfold cxB cellsL
  rw [List.length_append]
  omega
theorem encK_len {c : Cx} (h : SmallX c) : (encK c.k.ky).length ≤ 206 := by
  obtain ⟨a, b, d, -⟩ := h
  have h1 := esc_len (nb c.k.t)
  have h2 := esc_len (nb c.k.p)
  have h3 := esc_len (nb c.k.c)
  have h4 : (encR c.k.r).length = 8 := be_length _ _
  rw [nb_size] at h1 h2 h3
  unfold encK Kb.ky
  simp only [List.length_append, encT_len, h4]
  omega
theorem kyB_len {l : List Cx} (h : ∀ c ∈ l, SmallX c) : (kyB l).length ≤ 206 := by
  cases l with
  | nil => simp [kyB]
  | cons c l => exact encK_len (h c (by simp))
theorem chkB_len {l : List Cx} (h : ∀ c ∈ l, SmallX c) (k : Nat) : (cxB (chk l k)).length ≤ 1938 := by
  have h1 := cxB_len (l := chk l k) fun c hc => h c (chk_mem hc)
  have h2 := chk_len l k
  omega
theorem ixB_len {l : List Cx} (h : ∀ c ∈ l, SmallX c) (k : Nat) : (ixB l k).length ≤ 210 := by
  have h1 := kyB_len (l := chk l k) fun c hc => h c (chk_mem hc)
  have h2 := chkB_len h k
  have h3 := numL_two (kyB (chk l k)).length (by omega)
  have h4 := numL_two (blkB l k).length (by unfold blkB; rw [frameL_len]; omega)
  unfold ixB txtL
  simp only [List.length_append]
  omega
theorem flat_le {α β : Type} (f : α → List β) (m : Nat) (h : ∀ x, (f x).length ≤ m) : ∀ l : List α, (l.flatMap f).length ≤ m * l.length
  | [] => by simp
  | x :: l => by
    have h1 := flat_le f m h l
    have h2 := h x
    rw [List.flatMap_cons, List.length_append, List.length_cons, Nat.mul_succ]
    omega
theorem blksB_len {l : List Cx} (h : ∀ c ∈ l, SmallX c) (ks : List Nat) : (blksB l ks).length ≤ 1946 * ks.length :=
  flat_le _ _ (fun k => by unfold blkB; rw [frameL_len]; have := chkB_len h k; omega) ks
theorem idxB_len {l : List Cx} (h : ∀ c ∈ l, SmallX c) (ks : List Nat) : (idxB l ks).length ≤ 10 + 210 * ks.length := by
  have h1 := flat_le (ixB l) 210 (ixB_len h) ks
  have h2 := (numL_length (nBk l.length)).2
  unfold idxB
  rw [List.length_append]
  omega
theorem filB_len : ∀ (n : Nat) (l : List Cx), (filB n l).length = nOf n 10 := by
  intro n l
  have H : ∀ (l : List Cx) (f : List UInt8), (l.foldl (fun f c => addK f (sumB (encK c.k.ky) 0#64) 7) f).length = f.length := by
    intro l
    induction l with
    | nil => intro f; rfl
    | cons c l ih => intro f; rw [List.foldl_cons, ih, addK_length]
  unfold filB
  rw [H, List.length_replicate]
theorem fltB_len (l : List Cx) : (fltB l).length ≤ 20 + nOf l.length 10 := by
  have h1 := (numL_length 7).2
  have h2 := (numL_length (filB l.length l).length).2
  have h3 := filB_len l.length l
  unfold fltB encF
  simp only [List.length_append]
  omega
theorem endC_len (l : List Cx) : (endC l).length ≤ 50 := by
  have h1 := (numL_length l.length).2
  have h2 := (numL_length (blksB l (allK l)).length).2
  have h3 := (numL_length (frameL (idxB l (allK l))).length).2
  have h4 := (numL_length (frameL (fltB l)).length).2
  have h5 := (numL_length (sumZ (headB l)).toNat).2
  unfold endC
  simp only [List.length_append]
  omega
theorem allK_len (l : List Cx) : (allK l).length = nBk l.length := List.length_range
end Go.Proofs.YtglaocghcgcghaaGreatDoor
namespace Go.Proofs.YtglaocghcgcghaaGreatDoor
open Go.RowKit

/-- One step of the sum, without a byte. -/
def crcF (c : Nat) : Nat := (c / 2) ^^^ (if c % 2 = 1 then 3988292384 else 0)
/-- One step of the sum, with bit k of a byte. -/
def crcS (c x k : Nat) : Nat := (c / 2) ^^^ (if (c + x / 2 ^ k) % 2 = 1 then 3988292384 else 0)
/-- The first j steps. -/
def crcSs (c x : Nat) : Nat → Nat
  | 0 => c
  | j + 1 => crcS (crcSs c x j) x j
theorem xor_half (a b : Nat) : (a ^^^ b) / 2 = a / 2 ^^^ b / 2 := Nat.xor_div_two
theorem xor_par (a b : Nat) : (a ^^^ b) % 2 = (a + b) % 2 := by
  have h := Nat.testBit_xor a b 0
  simp only [Nat.testBit_zero] at h
  rcases Nat.mod_two_eq_zero_or_one a with ha | ha <;> rcases Nat.mod_two_eq_zero_or_one b with hb | hb <;> rcases Nat.mod_two_eq_zero_or_one (a ^^^ b) with hc | hc <;> simp [ha, hb, hc] at h <;> omega
theorem crcF_xor (a b : Nat) : crcF (a ^^^ b) = crcF a ^^^ crcF b := by
  unfold crcF
  rw [xor_half, xor_par]
  have e : (if (a + b) % 2 = 1 then 3988292384 else 0) = (if a % 2 = 1 then 3988292384 else 0) ^^^ (if b % 2 = 1 then 3988292384 else 0) := by
    rcases Nat.mod_two_eq_zero_or_one a with ha | ha <;> rcases Nat.mod_two_eq_zero_or_one b with hb | hb <;> simp [Nat.add_mod, ha, hb]
  rw [e]
  ac_rfl
theorem crcS_xor (c x k : Nat) : crcS c x k ^^^ x / 2 ^ (k + 1) = crcF (c ^^^ x / 2 ^ k) := by
  unfold crcS crcF
  rw [xor_half, xor_par, Nat.div_div_eq_div_mul, ← Nat.pow_succ]
  ac_rfl
theorem crcSs_xor (c x : Nat) : ∀ j, crcSs c x j ^^^ x / 2 ^ j = Nat.repeat crcF j (c ^^^ x)
  | 0 => by simp [crcSs, Nat.repeat]
  | j + 1 => by rw [crcSs, crcS_xor, crcSs_xor c x j]; rfl
theorem crcF4 (s : Nat) : crcF (crcF (crcF (crcF s))) = (s / 16) ^^^ (tabZ.getD (s % 16) 0).toNat := by
  have e : s = (16 * (s / 16)) ^^^ (s % 16) := by
    apply Nat.eq_of_testBit_eq
    intro i
    rw [Nat.testBit_xor, show 16 * (s / 16) = 2 ^ 4 * (s / 2 ^ 4) by omega, Nat.testBit_two_pow_mul, show s % 16 = s % 2 ^ 4 by omega, Nat.testBit_mod_two_pow, Nat.testBit_div_two_pow]
    by_cases hi : i < 4
    · have h2 : ¬ 4 ≤ i := by omega
      simp [hi, h2]
    · have h2 : 4 ≤ i := by omega
      have h3 : i - 4 + 4 = i := by omega
      simp [hi, h2, h3]
  have ev : ∀ n, crcF (2 * n) = n := by intro n; unfold crcF; simp
  have e16 : ∀ q, crcF (crcF (crcF (crcF (16 * q)))) = q := by
    intro q
    rw [show 16 * q = 2 * (2 * (2 * (2 * q))) by omega, ev, ev, ev, ev]
  have er : ∀ r, r < 16 → crcF (crcF (crcF (crcF r))) = (tabZ.getD r 0).toNat := by decide
  rw [e, crcF_xor, crcF_xor, crcF_xor, crcF_xor, e16, er _ (by omega), ← e]

theorem tabZ_bd (r : Nat) : 0 ≤ tabZ.getD r 0 ∧ tabZ.getD r 0 < 4294967296 := by
  rcases Nat.lt_or_ge r 16 with h | h
  · have : ∀ r, r < 16 → 0 ≤ tabZ.getD r 0 ∧ tabZ.getD r 0 < 4294967296 := by decide
    exact this r h
  · have e : tabZ.getD r 0 = 0 := by simp [List.getD, List.getElem?_eq_none (show tabZ.length ≤ r from h)]
    omega
theorem fourZ_nat (s : Nat) (h : s < 4294967296) : fourZ (s : Int) = ((crcF (crcF (crcF (crcF s))) : Nat) : Int) := by
  unfold fourZ
  have e : ((s : Int) % 16).toNat = s % 16 := by omega
  have hb := tabZ_bd (s % 16)
  rw [e, crcF4, u32_xor _ _ (by omega) (by omega) hb.1 hb.2]
  congr 2
theorem crcF_lt (c : Nat) (h : c < 4294967296) : crcF c < 4294967296 := by
  unfold crcF
  have h1 : c / 2 < 2 ^ 32 := by omega
  have h2 : (if c % 2 = 1 then 3988292384 else 0) < 2 ^ 32 := by split <;> decide
  exact Nat.xor_lt_two_pow h1 h2
theorem crcSs_lt (c x : Nat) (h : c < 4294967296) : ∀ j, crcSs c x j < 4294967296
  | 0 => h
  | j + 1 => by
    have h1 : crcSs c x j / 2 < 2 ^ 32 := by have := crcSs_lt c x h j; omega
    have h2 : (if (crcSs c x j + x / 2 ^ j) % 2 = 1 then 3988292384 else 0) < 2 ^ 32 := by split <;> decide
    exact Nat.xor_lt_two_pow h1 h2
/-- Eight steps are what the codec makes of a byte. -/
theorem byteZ_nat (c x : Nat) (hc : c < 4294967296) (hx : x < 256) : byteZ (c : Int) (x : Int) = ((crcSs c x 8 : Nat) : Int) := by
  have h8 := crcSs_xor c x 8
  rw [show x / 2 ^ 8 = 0 by omega, Nat.xor_zero] at h8
  have hcx : c ^^^ x < 4294967296 := Nat.xor_lt_two_pow (n := 32) hc (by omega)
  unfold byteZ
  rw [u32_xor_nat c x hc (by omega), fourZ_nat _ hcx, fourZ_nat _ (crcF_lt _ (crcF_lt _ (crcF_lt _ (crcF_lt _ hcx)))), h8]
  rfl
theorem bit_text (c x k : Nat) (hc : c < 4294967296) (hx : x < 256) : bits BinOp.and IntKind.u32 (bits BinOp.xor IntKind.u32 (c : Int) ((x : Int) / 2 ^ k)) 1 = (((c + x / 2 ^ k) % 2 : Nat) : Int) := by
  have hk : x / 2 ^ k < 4294967296 := Nat.lt_of_le_of_lt (Nat.div_le_self _ _) (by omega)
  have e : (x : Int) / 2 ^ k = ((x / 2 ^ k : Nat) : Int) := by simp
  have hx2 : c ^^^ x / 2 ^ k < 4294967296 := Nat.xor_lt_two_pow (n := 32) hc hk
  rw [e, u32_xor_nat c _ hc hk]
  have h := u32_and_nat (c ^^^ x / 2 ^ k) 1 hx2 (by omega)
  rw [Nat.and_one_is_mod, xor_par] at h
  exact h
theorem bit_text2 (c x k : Nat) (hc : c < 4294967296) (hx : x < 256) : bits BinOp.and IntKind.u32 (bits BinOp.xor IntKind.u32 (c : Int) ((x : Int) / 2 ^ k % 4294967296)) 1 = (((c + x / 2 ^ k) % 2 : Nat) : Int) := by
  have hk : x / 2 ^ k < 4294967296 := Nat.lt_of_le_of_lt (Nat.div_le_self _ _) (by omega)
  have e : (x : Int) / 2 ^ k = ((x / 2 ^ k : Nat) : Int) := by simp
  have e2 : (x : Int) / 2 ^ k % 4294967296 = (x : Int) / 2 ^ k := by rw [e]; generalize x / 2 ^ k = q at hk ⊢; omega
  rw [e2]
  exact bit_text c x k hc hx
theorem crcS_yes (c x k : Nat) (hc : c < 4294967296) (h : (c + x / 2 ^ k) % 2 = 1) : bits BinOp.xor IntKind.u32 ((c : Int) / 2) 3988292384 = ((crcS c x k : Nat) : Int) := by
  unfold crcS
  rw [if_pos h]
  have e := u32_xor_nat (c / 2) 3988292384 (by omega) (by omega)
  have e2 : ((c / 2 : Nat) : Int) = (c : Int) / 2 := by simp
  rw [← e, e2]
  rfl
theorem crcS_no (c x k : Nat) (h : (c + x / 2 ^ k) % 2 = 0) : (c : Int) / 2 = ((crcS c x k : Nat) : Int) := by
  unfold crcS
  rw [if_neg (by omega), Nat.xor_zero]
  simp

/-! ### Words. -/
/-- The number that bytes are, the greatest first. -/
def wordL (l : List UInt8) : Nat := l.foldl (fun w b => w * 256 + b.toNat) 0
theorem or_byte (a x : Nat) (ha : a < 16777216) (hx : x < 256) : bits BinOp.or IntKind.u32 ((a : Int) * 256) (x : Int) = ((a * 256 + x : Nat) : Int) := by
  have e : (a : Int) * 256 = ((a * 256 : Nat) : Int) := by simp
  rw [e, u32_or_nat (a * 256) x (by omega) (by omega)]
  have h := Nat.two_pow_add_eq_or_of_lt (i := 8) (b := x) (by omega) a
  rw [show 2 ^ 8 * a = a * 256 by omega] at h
  rw [h]
theorem wordL_four (x : Nat) (h : x < 4294967296) : wordL (fourL x) = x := by
  simp [wordL, fourL]
  omega
theorem wordL_lt (l : List UInt8) (h : l.length ≤ 4) : wordL l < 4294967296 := by
  have hb : ∀ b : UInt8, b.toNat < 256 := fun b => b.toNat_lt
  match l, h with
  | [], _ => decide
  | [a], _ => have := hb a; simp [wordL]; omega
  | [a, b], _ => have := hb a; have := hb b; simp [wordL]; omega
  | [a, b, c], _ => have := hb a; have := hb b; have := hb c; simp [wordL]; omega
  | [a, b, c, d], _ => have := hb a; have := hb b; have := hb c; have := hb d; simp [wordL]; omega
theorem wordL_lt3 (l : List UInt8) (h : l.length ≤ 3) : wordL l < 16777216 := by
  have hb : ∀ b : UInt8, b.toNat < 256 := fun b => b.toNat_lt
  match l, h with
  | [], _ => decide
  | [a], _ => have := hb a; simp [wordL]; omega
  | [a, b], _ => have := hb a; have := hb b; simp [wordL]; omega
  | [a, b, c], _ => have := hb a; have := hb b; have := hb c; simp [wordL]; omega
/-- What lies above, and what lies below, a bit. -/
theorem or_at (p q k : Nat) (hk : q < 2 ^ k) (hp : 2 ^ k * p + q < 4294967296) : bits BinOp.or IntKind.u32 ((2 ^ k * p : Nat) : Int) (q : Int) = ((2 ^ k * p + q : Nat) : Int) := by
  rw [u32_or_nat _ _ (by omega) (by omega), ← Nat.two_pow_add_eq_or_of_lt hk p]
theorem fourth_text (a b c d : Nat) (ha : a < 256) (hb : b < 256) (hc : c < 256) (hd : d < 256) :
    bits BinOp.or IntKind.u32 (bits BinOp.or IntKind.u32 (bits BinOp.or IntKind.u32 ((a : Int) * 16777216) ((b : Int) * 65536)) ((c : Int) * 256)) (d : Int) = (a : Int) * 16777216 + (b : Int) * 65536 + (c : Int) * 256 + (d : Int) := by
  have h1 := or_at a (b * 65536) 24 (by omega) (by omega)
  have h2 := or_at (a * 256 + b) (c * 256) 16 (by omega) (by omega)
  have h3 := or_at (a * 65536 + b * 256 + c) d 8 (by omega) (by omega)
  rw [show ((2 ^ 24 * a : Nat) : Int) = (a : Int) * 16777216 by omega, show ((b * 65536 : Nat) : Int) = (b : Int) * 65536 by omega] at h1
  rw [h1]
  rw [show ((c * 256 : Nat) : Int) = (c : Int) * 256 by omega] at h2
  rw [show ((2 ^ 24 * a + b * 65536 : Nat) : Int) = ((2 ^ 16 * (a * 256 + b) : Nat) : Int) by omega, h2]
  rw [show ((2 ^ 16 * (a * 256 + b) + c * 256 : Nat) : Int) = ((2 ^ 8 * (a * 65536 + b * 256 + c) : Nat) : Int) by omega, h3]
  omega
end Go.Proofs.YtglaocghcgcghaaGreatDoor
namespace Go.Proofs.YtglaocghcgcghaaGreatDoor
open Go.RowKit

/-- Two records change their places. -/
def swL (L : List Cx) (i j : Nat) : List Cx := match L[i]?, L[j]? with | some x, some y => (L.set i y).set j x | _, _ => L
theorem swL_len (L : List Cx) (i j : Nat) : (swL L i j).length = L.length := by
  unfold swL; split <;> simp
theorem swL_eq {L : List Cx} {i j : Nat} {x y : Cx} (hx : L[i]? = some x) (hy : L[j]? = some y) : swL L i j = (L.set i y).set j x := by
  unfold swL; rw [hx, hy]
def swR (a b : Nat) (L : List Cx) : Nat → List Cx
  | 0 => L
  | i + 1 => swL (swR a b L i) (a + i) (b + i)
theorem swR_len (a b : Nat) (L : List Cx) : ∀ i, (swR a b L i).length = L.length
  | 0 => rfl
  | i + 1 => by rw [swR, swL_len]; exact swR_len a b L i
/-- A row of cells at the block g. -/
def Rx (w : World) (B g cap : Nat) (L : List Cx) : Prop := w.ownsRow B 50 10 (.slice (some ⟨g, 0, none⟩) L.length cap) L.length (L.flatMap xs10)
theorem Rx.ten {w : World} {B g cap : Nat} {L : List Cx} (h : Rx w B g cap L) {i : Nat} {c : Cx} (hc : L[i]? = some c) : TenX w g (i * 10) c := by
  obtain ⟨ao, cap', e, _, hT⟩ := owns_xsees h
  obtain ⟨g', rfl, _, t⟩ := hT i c hc
  injection e with e1 _ _
  injection e1 with e2
  injection e2 with e3
  rw [e3]; exact t
/-- Ten cells, stored one by one. -/
def set10 (w : World) (g o : Nat) (c : Cx) : World := (((((((((w.setCell ⟨g, o, none⟩ (.string c.k.t)).setCell ⟨g, o + 1, none⟩ (.string c.k.p)).setCell ⟨g, o + 2, none⟩ (.int .i64 c.k.r)).setCell ⟨g, o + 3, none⟩ (.string c.k.c)).setCell ⟨g, o + 4, none⟩ (.int .i64 c.v.time)).setCell ⟨g, o + 5, none⟩ (.bool c.v.dead)).setCell ⟨g, o + 6, none⟩ (.int .i64 c.v.loc)).setCell ⟨g, o + 7, none⟩ (.int .i64 c.v.kind)).setCell ⟨g, o + 8, none⟩ (.int .i64 c.v.num)).setCell ⟨g, o + 9, none⟩ (.string c.v.s)
theorem flat_put : ∀ (L : List Cx) (i : Nat) (a a' : Cx), L[i]? = some a → ((((((((((L.flatMap xs10).set (i * 10) (.string a'.k.t)).set (i * 10 + 1) (.string a'.k.p)).set (i * 10 + 2) (.int .i64 a'.k.r)).set (i * 10 + 3) (.string a'.k.c)).set (i * 10 + 4) (.int .i64 a'.v.time)).set (i * 10 + 5) (.bool a'.v.dead)).set (i * 10 + 6) (.int .i64 a'.v.loc)).set (i * 10 + 7) (.int .i64 a'.v.kind)).set (i * 10 + 8) (.int .i64 a'.v.num)).set (i * 10 + 9) (.string a'.v.s) = (L.set i a').flatMap xs10 := by
  intro L i a a' h
  have hi := (List.getElem?_eq_some_iff.1 h).1
  have g0 : ∀ (M : List Cx) (x y : Cx) (j : Nat) (v : Value), M[i]? = some x → j < 10 → xs10 y = (xs10 x).set j v → (M.flatMap xs10).set (i * 10 + j) v = (M.set i y).flatMap xs10 := fun M x y j v hM hj hy => flat_set xs10_len M i j x y v hM hj hy
  have at' : ∀ x : Cx, (L.set i x)[i]? = some x := fun x => by simp [hi]
  have e0 := g0 L a ⟨⟨a'.k.t, a.k.p, a.k.r, a.k.c⟩, ⟨a.v.time, a.v.dead, a.v.loc, a.v.kind, a.v.num, a.v.s⟩⟩ 0 (.string a'.k.t) h (by omega) rfl
  rw [Nat.add_zero] at e0
  rw [e0]
  rw [g0 (L.set i ⟨⟨a'.k.t, a.k.p, a.k.r, a.k.c⟩, ⟨a.v.time, a.v.dead, a.v.loc, a.v.kind, a.v.num, a.v.s⟩⟩) ⟨⟨a'.k.t, a.k.p, a.k.r, a.k.c⟩, ⟨a.v.time, a.v.dead, a.v.loc, a.v.kind, a.v.num, a.v.s⟩⟩ ⟨⟨a'.k.t, a'.k.p, a.k.r, a.k.c⟩, ⟨a.v.time, a.v.dead, a.v.loc, a.v.kind, a.v.num, a.v.s⟩⟩ 1 (.string a'.k.p) (at' _) (by omega) rfl, List.set_set]
  rw [g0 (L.set i ⟨⟨a'.k.t, a'.k.p, a.k.r, a.k.c⟩, ⟨a.v.time, a.v.dead, a.v.loc, a.v.kind, a.v.num, a.v.s⟩⟩) ⟨⟨a'.k.t, a'.k.p, a.k.r, a.k.c⟩, ⟨a.v.time, a.v.dead, a.v.loc, a.v.kind, a.v.num, a.v.s⟩⟩ ⟨⟨a'.k.t, a'.k.p, a'.k.r, a.k.c⟩, ⟨a.v.time, a.v.dead, a.v.loc, a.v.kind, a.v.num, a.v.s⟩⟩ 2 (.int .i64 a'.k.r) (at' _) (by omega) rfl, List.set_set]
  rw [g0 (L.set i ⟨⟨a'.k.t, a'.k.p, a'.k.r, a.k.c⟩, ⟨a.v.time, a.v.dead, a.v.loc, a.v.kind, a.v.num, a.v.s⟩⟩) ⟨⟨a'.k.t, a'.k.p, a'.k.r, a.k.c⟩, ⟨a.v.time, a.v.dead, a.v.loc, a.v.kind, a.v.num, a.v.s⟩⟩ ⟨⟨a'.k.t, a'.k.p, a'.k.r, a'.k.c⟩, ⟨a.v.time, a.v.dead, a.v.loc, a.v.kind, a.v.num, a.v.s⟩⟩ 3 (.string a'.k.c) (at' _) (by omega) rfl, List.set_set]
  rw [g0 (L.set i ⟨⟨a'.k.t, a'.k.p, a'.k.r, a'.k.c⟩, ⟨a.v.time, a.v.dead, a.v.loc, a.v.kind, a.v.num, a.v.s⟩⟩) ⟨⟨a'.k.t, a'.k.p, a'.k.r, a'.k.c⟩, ⟨a.v.time, a.v.dead, a.v.loc, a.v.kind, a.v.num, a.v.s⟩⟩ ⟨⟨a'.k.t, a'.k.p, a'.k.r, a'.k.c⟩, ⟨a'.v.time, a.v.dead, a.v.loc, a.v.kind, a.v.num, a.v.s⟩⟩ 4 (.int .i64 a'.v.time) (at' _) (by omega) rfl, List.set_set]
  rw [g0 (L.set i ⟨⟨a'.k.t, a'.k.p, a'.k.r, a'.k.c⟩, ⟨a'.v.time, a.v.dead, a.v.loc, a.v.kind, a.v.num, a.v.s⟩⟩) ⟨⟨a'.k.t, a'.k.p, a'.k.r, a'.k.c⟩, ⟨a'.v.time, a.v.dead, a.v.loc, a.v.kind, a.v.num, a.v.s⟩⟩ ⟨⟨a'.k.t, a'.k.p, a'.k.r, a'.k.c⟩, ⟨a'.v.time, a'.v.dead, a.v.loc, a.v.kind, a.v.num, a.v.s⟩⟩ 5 (.bool a'.v.dead) (at' _) (by omega) rfl, List.set_set]
  rw [g0 (L.set i ⟨⟨a'.k.t, a'.k.p, a'.k.r, a'.k.c⟩, ⟨a'.v.time, a'.v.dead, a.v.loc, a.v.kind, a.v.num, a.v.s⟩⟩) ⟨⟨a'.k.t, a'.k.p, a'.k.r, a'.k.c⟩, ⟨a'.v.time, a'.v.dead, a.v.loc, a.v.kind, a.v.num, a.v.s⟩⟩ ⟨⟨a'.k.t, a'.k.p, a'.k.r, a'.k.c⟩, ⟨a'.v.time, a'.v.dead, a'.v.loc, a.v.kind, a.v.num, a.v.s⟩⟩ 6 (.int .i64 a'.v.loc) (at' _) (by omega) rfl, List.set_set]
  rw [g0 (L.set i ⟨⟨a'.k.t, a'.k.p, a'.k.r, a'.k.c⟩, ⟨a'.v.time, a'.v.dead, a'.v.loc, a.v.kind, a.v.num, a.v.s⟩⟩) ⟨⟨a'.k.t, a'.k.p, a'.k.r, a'.k.c⟩, ⟨a'.v.time, a'.v.dead, a'.v.loc, a.v.kind, a.v.num, a.v.s⟩⟩ ⟨⟨a'.k.t, a'.k.p, a'.k.r, a'.k.c⟩, ⟨a'.v.time, a'.v.dead, a'.v.loc, a'.v.kind, a.v.num, a.v.s⟩⟩ 7 (.int .i64 a'.v.kind) (at' _) (by omega) rfl, List.set_set]
  rw [g0 (L.set i ⟨⟨a'.k.t, a'.k.p, a'.k.r, a'.k.c⟩, ⟨a'.v.time, a'.v.dead, a'.v.loc, a'.v.kind, a.v.num, a.v.s⟩⟩) ⟨⟨a'.k.t, a'.k.p, a'.k.r, a'.k.c⟩, ⟨a'.v.time, a'.v.dead, a'.v.loc, a'.v.kind, a.v.num, a.v.s⟩⟩ ⟨⟨a'.k.t, a'.k.p, a'.k.r, a'.k.c⟩, ⟨a'.v.time, a'.v.dead, a'.v.loc, a'.v.kind, a'.v.num, a.v.s⟩⟩ 8 (.int .i64 a'.v.num) (at' _) (by omega) rfl, List.set_set]
  rw [g0 (L.set i ⟨⟨a'.k.t, a'.k.p, a'.k.r, a'.k.c⟩, ⟨a'.v.time, a'.v.dead, a'.v.loc, a'.v.kind, a'.v.num, a.v.s⟩⟩) ⟨⟨a'.k.t, a'.k.p, a'.k.r, a'.k.c⟩, ⟨a'.v.time, a'.v.dead, a'.v.loc, a'.v.kind, a'.v.num, a.v.s⟩⟩ ⟨⟨a'.k.t, a'.k.p, a'.k.r, a'.k.c⟩, ⟨a'.v.time, a'.v.dead, a'.v.loc, a'.v.kind, a'.v.num, a'.v.s⟩⟩ 9 (.string a'.v.s) (at' _) (by omega) rfl, List.set_set]
theorem Rx.put {w : World} {B g cap : Nat} {L : List Cx} (h : Rx w B g cap L) {i : Nat} {a : Cx} (ha : L[i]? = some a) (a' : Cx) : Rx (set10 w g (i * 10) a') B g cap (L.set i a') ∧ w.grownBy (set10 w g (i * 10) a') (some g) := by
  have h0 : w.ownsRow B 50 10 (.slice (some ⟨g, 0, none⟩) L.length cap) L.length (L.flatMap xs10) := h
  have h1 := (((((((((h0.stored (i * 10) (.string a'.k.t)).1.stored (i * 10 + 1) (.string a'.k.p)).1.stored (i * 10 + 2) (.int .i64 a'.k.r)).1.stored (i * 10 + 3) (.string a'.k.c)).1.stored (i * 10 + 4) (.int .i64 a'.v.time)).1.stored (i * 10 + 5) (.bool a'.v.dead)).1.stored (i * 10 + 6) (.int .i64 a'.v.loc)).1.stored (i * 10 + 7) (.int .i64 a'.v.kind)).1.stored (i * 10 + 8) (.int .i64 a'.v.num)).1.stored (i * 10 + 9) (.string a'.v.s) |>.1
  rw [flat_put L i a a' ha] at h1
  refine ⟨?_, ?_⟩
  · unfold Rx
    rw [List.length_set]
    exact h1
  · exact grownBy_setCell (grownBy_setCell (grownBy_setCell (grownBy_setCell (grownBy_setCell (grownBy_setCell (grownBy_setCell (grownBy_setCell (grownBy_setCell (grownBy_setCell ⟨rfl, rfl, rfl, Nat.le_refl _, fun _ _ _ => rfl⟩)))))))))
end Go.Proofs.YtglaocghcgcghaaGreatDoor

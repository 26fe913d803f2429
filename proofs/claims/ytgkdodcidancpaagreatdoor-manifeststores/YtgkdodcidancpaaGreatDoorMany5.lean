/-
  SEVERAL TEXTS IN ONE: TellsPlain, ManPlain, ManFile.
-/
import Derived.Test.YtgkdodcidancpaaGreatDoorMany4
import Derived.Test.YtgkdodcidancpaaGreatDoorMany3
import Derived.Test.YtgkdodcidancpaaGreatDoorDskShelf
import Derived.Test.YtgkdodcidancpaaGreatDoorMany2
import Derived.Lib.ItoaLen
namespace Go.Proofs.YtgkdodcidancpaaGreatDoor
open Go.RowKit

theorem xor_cancel {a b c : Nat} (h : a ^^^ c = b ^^^ c) : a = b := by
  have : (a ^^^ c) ^^^ c = (b ^^^ c) ^^^ c := by rw [h]
  simpa [Nat.xor_assoc] using this
theorem crcF_inj {a b : Nat} (ha : a < 4294967296) (hb : b < 4294967296) (h : crcF a = crcF b) : a = b := by
  have top : ∀ c : Nat, c < 4294967296 → (crcF c).testBit 31 = decide (c % 2 = 1) := by
    intro c hc
    unfold crcF
    rw [Nat.testBit_xor, Nat.testBit_lt_two_pow (show c / 2 < 2 ^ 31 by omega)]
    split
    · rename_i h1; simp [h1]; decide
    · rename_i h1; simp [h1]
  have h1 := top a ha
  rw [h, top b hb] at h1
  have hp : a % 2 = b % 2 := by
    rcases Nat.mod_two_eq_zero_or_one a with h2 | h2 <;> rcases Nat.mod_two_eq_zero_or_one b with h3 | h3 <;> simp [h2, h3] at h1 <;> omega
  unfold crcF at h
  rw [hp] at h
  have := xor_cancel h
  omega
theorem rep_lt (c : Nat) (h : c < 4294967296) : ∀ j, Nat.repeat crcF j c < 4294967296
  | 0 => h
  | j + 1 => crcF_lt _ (rep_lt c h j)
theorem rep_inj {a b : Nat} (ha : a < 4294967296) (hb : b < 4294967296) : ∀ j, Nat.repeat crcF j a = Nat.repeat crcF j b → a = b
  | 0, h => h
  | j + 1, h => rep_inj ha hb j (crcF_inj (rep_lt a ha j) (rep_lt b hb j) h)
theorem crc8 (c x : Nat) (hx : x < 256) : crcSs c x 8 = Nat.repeat crcF 8 (c ^^^ x) := by
  have h8 := crcSs_xor c x 8
  rwa [show x / 2 ^ 8 = 0 by omega, Nat.xor_zero] at h8
theorem crc8_left {a b x : Nat} (ha : a < 4294967296) (hb : b < 4294967296) (hx : x < 256) (h : crcSs a x 8 = crcSs b x 8) : a = b := by
  rw [crc8 a x hx, crc8 b x hx] at h
  exact xor_cancel (rep_inj (Nat.xor_lt_two_pow (n := 32) ha (by omega)) (Nat.xor_lt_two_pow (n := 32) hb (by omega)) 8 h)
theorem crc8_right {c x y : Nat} (hc : c < 4294967296) (hx : x < 256) (hy : y < 256) (h : crcSs c x 8 = crcSs c y 8) : x = y := by
  rw [crc8 c x hx, crc8 c y hy] at h
  have h1 := rep_inj (Nat.xor_lt_two_pow (n := 32) hc (by omega)) (Nat.xor_lt_two_pow (n := 32) hc (by omega)) 8 h
  rw [Nat.xor_comm c x, Nat.xor_comm c y] at h1
  exact xor_cancel h1
/-- The sum, over Nat. -/
def sumN (c : Nat) (l : List UInt8) : Nat := l.foldl (fun c b => crcSs c b.toNat 8) c
theorem sumN_lt (l : List UInt8) : ∀ c, c < 4294967296 → sumN c l < 4294967296 := by
  induction l with
  | nil => intro c h; exact h
  | cons b l ih => intro c h; exact ih _ (crcSs_lt c _ h 8)
theorem sumOnZ_nat (l : List UInt8) : ∀ c : Nat, c < 4294967296 → sumOnZ (c : Int) l = ((sumN c l : Nat) : Int) := by
  induction l with
  | nil => intro c _; rfl
  | cons b l ih =>
    intro c h
    show sumOnZ (byteZ (c : Int) (b.toNat : Int)) l = _
    rw [byteZ_nat c b.toNat h b.toNat_lt, ih _ (crcSs_lt c _ h 8)]
    rfl
theorem sumN_inj (l : List UInt8) : ∀ a b, a < 4294967296 → b < 4294967296 → sumN a l = sumN b l → a = b := by
  induction l with
  | nil => intro a b _ _ h; exact h
  | cons x l ih =>
    intro a b ha hb h
    exact crc8_left ha hb x.toNat_lt (ih _ _ (crcSs_lt a _ ha 8) (crcSs_lt b _ hb 8) h)
theorem sumN_byte (a b : List UInt8) (x y : UInt8) (c : Nat) (hc : c < 4294967296) (h : sumN c (a ++ x :: b) = sumN c (a ++ y :: b)) : x = y := by
  unfold sumN at h
  rw [List.foldl_append, List.foldl_append, List.foldl_cons, List.foldl_cons] at h
  have hca := sumN_lt a c hc
  have h1 := sumN_inj b _ _ (crcSs_lt _ _ hca 8) (crcSs_lt _ _ hca 8) h
  have h2 := crc8_right hca x.toNat_lt y.toNat_lt h1
  exact UInt8.toNat_inj.1 h2
/-- A byte that was changed changes the sum. -/
theorem sumZ_byte (a b : List UInt8) (x y : UInt8) (h : sumZ (a ++ x :: b) = sumZ (a ++ y :: b)) : x = y := by
  unfold sumZ at h
  have e : (4294967295 : Int) = ((4294967295 : Nat) : Int) := rfl
  rw [e, sumOnZ_nat _ _ (by decide), sumOnZ_nat _ _ (by decide)] at h
  exact sumN_byte a b x y 4294967295 (by decide) (by omega)

theorem frame_count (l : List UInt8) (hl : l.length ≤ 262144) (r : List UInt8) : unfC (frameL l ++ r) = l.length := by
  unfold unfC
  have e : (frameL l ++ r).take 4 = fourL l.length := by simp [frameL, fourL]
  rw [e, wordL_four _ (by omega)]
/-- A beginning of a frame. -/
theorem tells_cut (l : List UInt8) (hl : l.length ≤ 262144) (m : Nat) (hm : m < l.length + 8) : unfE ((frameL l).take m) = 10 := by
  have hlen : ((frameL l).take m).length = m := by rw [List.length_take, frameL_length]; omega
  unfold unfE
  rw [hlen]
  by_cases h8 : m < 8
  · rw [if_pos h8]
  · have hc : unfC ((frameL l).take m) = l.length := by
      unfold unfC
      rw [List.take_take, Nat.min_eq_left (by omega)]
      have := frame_count l hl []
      unfold unfC at this
      simpa using this
    rw [if_neg h8, hc, if_neg (by omega), if_pos (by omega)]
theorem sum_nat (l : List UInt8) : ((sumZ l).toNat : Int) = sumZ l ∧ (sumZ l).toNat < 4294967296 := by
  have := sumZ_bd l
  omega
/-- A whole frame, whatever stands behind it. -/
theorem tells_whole (l : List UInt8) (hl : l.length ≤ 262144) (r : List UInt8) : unfE (frameL l ++ r) = 0 ∧ unfN (frameL l ++ r) = l.length + 8 ∧ unfB (frameL l ++ r) = l := by
  have hc := frame_count l hl r
  have hlen : (frameL l ++ r).length = l.length + 8 + r.length := by rw [List.length_append, frameL_length]
  have hn := sum_nat (fourL l.length ++ l)
  have h4 : (frameL l ++ r).take 4 = fourL l.length := by simp [frameL, fourL]
  have h44 : ((frameL l ++ r).drop 4).take 4 = fourL (sumZ (fourL l.length ++ l)).toNat := by simp [frameL, fourL]
  have h8 : ((frameL l ++ r).drop 8).take l.length = l := by simp [frameL, fourL]
  have hE : unfE (frameL l ++ r) = 0 := by
    unfold unfE
    rw [hlen, hc, if_neg (by omega), if_neg (by omega), if_neg (by omega), h44, wordL_four _ hn.2, h4, h8, if_neg]
    intro h
    exact h hn.1
  refine ⟨hE, ?_, ?_⟩
  · unfold unfN; rw [if_pos hE, hc]; omega
  · unfold unfB; rw [if_pos hE, hc, h8]
theorem wordL_inj {a b c d a' b' c' d' : UInt8} (h : wordL [a, b, c, d] = wordL [a', b', c', d']) : a = a' ∧ b = b' ∧ c = c' ∧ d = d' := by
  have q : ∀ x : UInt8, x.toNat < 256 := fun x => x.toNat_lt
  have := q a; have := q b; have := q c; have := q d; have := q a'; have := q b'; have := q c'; have := q d'
  simp [wordL] at h
  refine ⟨UInt8.toNat_inj.1 ?_, UInt8.toNat_inj.1 ?_, UInt8.toNat_inj.1 ?_, UInt8.toNat_inj.1 ?_⟩ <;> omega
theorem wordL_set (q : List UInt8) (hq : q.length = 4) (j : Nat) (hj : j < 4) (y : UInt8) (hy : y ≠ q.getD j 0) : wordL (q.set j y) ≠ wordL q := by
  match q, hq with
  | [a, b, c, d], _ =>
    intro h
    rcases (show j = 0 ∨ j = 1 ∨ j = 2 ∨ j = 3 by omega) with rfl | rfl | rfl | rfl
    · exact hy (wordL_inj h).1
    · exact hy (wordL_inj h).2.1
    · exact hy (wordL_inj h).2.2.1
    · exact hy (wordL_inj h).2.2.2
/-- A frame one byte of which behind its count was changed. -/
theorem tells_turned (l : List UInt8) (hl : l.length ≤ 262144) (i : Nat) (hi4 : 4 ≤ i) (hi : i < l.length + 8) (y : UInt8) (hy : y ≠ (frameL l).getD i 0) : unfE ((frameL l).set i y) = 8 := by
  have hn := sum_nat (fourL l.length ++ l)
  have hlen : ((frameL l).set i y).length = l.length + 8 := by rw [List.length_set, frameL_length]
  have hc : unfC ((frameL l).set i y) = l.length := by
    unfold unfC
    rw [List.take_set_of_le (by omega)]
    have := frame_count l hl []
    unfold unfC at this
    simpa using this
  have h4 : ((frameL l).set i y).take 4 = fourL l.length := by
    rw [List.take_set_of_le (by omega)]
    simp [frameL, fourL]
  unfold unfE
  rw [hlen, hc, if_neg (by omega), if_neg (by omega), if_neg (by omega), h4, if_pos]
  generalize hS : (sumZ (fourL l.length ++ l)).toNat = S at *
  have hf : frameL l = fourL l.length ++ (fourL S ++ l) := by unfold frameL; rw [hS]
  have hp4 : (fourL l.length).length = 4 := rfl
  have hq4 : (fourL S).length = 4 := rfl
  rw [hf] at hy ⊢
  generalize fourL l.length = p at *
  have hw := wordL_four S hn.2
  generalize fourL S = q at *
  by_cases h8 : i < 8
  · have e : (p ++ (q ++ l)).set i y = p ++ (q.set (i - 4) y ++ l) := by
      rw [List.set_append_right _ _ (by omega), hp4, List.set_append_left _ _ (by omega)]
    have e1 : ((p ++ (q.set (i - 4) y ++ l)).drop 4).take 4 = q.set (i - 4) y := by
      rw [List.drop_append_of_le_length (by omega), List.drop_of_length_le (by omega), List.nil_append, List.take_append_of_le_length (by rw [List.length_set]; omega), List.take_of_length_le (by rw [List.length_set]; omega)]
    have e2 : ((p ++ (q.set (i - 4) y ++ l)).drop 8).take l.length = l := by
      rw [← List.append_assoc, List.drop_append_of_le_length (by rw [List.length_append, List.length_set]; omega), List.drop_of_length_le (by rw [List.length_append, List.length_set]; omega), List.nil_append, List.take_of_length_le (Nat.le_refl _)]
    rw [e, e1, e2, ← hn.1]
    have hy' : y ≠ q.getD (i - 4) 0 := by
      intro h
      apply hy
      rw [h]
      simp only [List.getD_eq_getElem?_getD]
      rw [List.getElem?_append_right (by omega), hp4, List.getElem?_append_left (by omega)]
    have := wordL_set q hq4 (i - 4) (by omega) y hy'
    rw [hw] at this
    omega
  · obtain ⟨j, rfl⟩ : ∃ j, i = 8 + j := ⟨i - 8, by omega⟩
    have hj : j < l.length := by omega
    have e : (p ++ (q ++ l)).set (8 + j) y = p ++ (q ++ l.set j y) := by
      rw [List.set_append_right _ _ (by omega), hp4, List.set_append_right _ _ (by omega), hq4]
      congr 3
      omega
    have e1 : ((p ++ (q ++ l.set j y)).drop 4).take 4 = q := by
      rw [List.drop_append_of_le_length (by omega), List.drop_of_length_le (by omega), List.nil_append, List.take_append_of_le_length (by omega), List.take_of_length_le (by omega)]
    have e2 : ((p ++ (q ++ l.set j y)).drop 8).take l.length = l.set j y := by
      rw [← List.append_assoc, List.drop_append_of_le_length (by rw [List.length_append]; omega), List.drop_of_length_le (by rw [List.length_append]; omega), List.nil_append, List.take_of_length_le (by rw [List.length_set]; omega)]
    rw [e, e1, e2, hw, hn.1]
    intro h
    have hy' : y ≠ l[j] := by
      intro h'
      apply hy
      rw [h']
      simp only [List.getD_eq_getElem?_getD]
      rw [List.getElem?_append_right (by omega), hp4, List.getElem?_append_right (by omega), hq4, show 8 + j - 4 - 4 = j by omega, List.getElem?_eq_getElem hj]
      rfl
    apply hy'
    have s1 : l = l.take j ++ l[j] :: l.drop (j + 1) := by rw [← List.drop_eq_getElem_cons hj, List.take_append_drop]
    have s2 : l.set j y = l.take j ++ y :: l.drop (j + 1) := by rw [List.set_eq_take_append_cons_drop, if_pos hj]
    have h3 : sumZ ((p ++ l.take j) ++ y :: l.drop (j + 1)) = sumZ ((p ++ l.take j) ++ l[j] :: l.drop (j + 1)) := by
      rw [List.append_assoc, List.append_assoc, ← s2, ← s1, h]
    exact sumZ_byte _ _ _ _ h3
/-- A byte one bit of which was turned. -/
theorem flip_text (x : UInt8) (j : Nat) (hj : j < 8) : ∃ y : UInt8, (y.toNat : Int) = bits BinOp.xor IntKind.u8 (x.toNat : Int) (2 ^ j % 256) ∧ y ≠ x := by
  have hx : x.toNat < 256 := x.toNat_lt
  have h2 : 2 ^ j ≤ 2 ^ 7 := Nat.pow_le_pow_right (by omega) (by omega)
  have h2p : 0 < 2 ^ j := Nat.pow_pos (by omega)
  have e : (2 : Int) ^ j % 256 = ((2 ^ j : Nat) : Int) := by
    have e1 : (2 : Int) ^ j = ((2 ^ j : Nat) : Int) := by simp
    rw [e1]
    generalize 2 ^ j = q at *
    omega
  have hlt : x.toNat ^^^ 2 ^ j < 256 := Nat.xor_lt_two_pow (n := 8) hx (by omega)
  refine ⟨UInt8.ofNat (x.toNat ^^^ 2 ^ j), ?_, ?_⟩
  · rw [e, u8_xor_nat _ _ hx (by omega), byte_val _ hlt]
  · intro h
    have h3 := congrArg UInt8.toNat h
    have h4 : (UInt8.ofNat (x.toNat ^^^ 2 ^ j)).toNat = x.toNat ^^^ 2 ^ j := ofNat_toNat8 _ hlt
    rw [h4] at h3
    have h5 : (2 ^ j) ^^^ x.toNat = 0 ^^^ x.toNat := by rw [Nat.xor_comm, h3]; simp
    have := xor_cancel h5
    omega
end Go.Proofs.YtgkdodcidancpaaGreatDoor
namespace Go.Proofs.YtgkdodcidancpaaGreatDoor
open Go.RowKit

/-- A manifest, without its memory. -/
structure Mf where
  ts : List Int
  nx : Int
  fr : Int
def possZ (n : Int) : Bool := decide (1 ≤ n) && decide (n ≤ 999999999)
theorem possZ_iff {n : Int} : possZ n = true ↔ 1 ≤ n ∧ n ≤ 999999999 := by simp [possZ]
/-- May the i-th table be? -/
def okT (ts : List Int) (nx : Int) (i : Nat) : Bool := decide (1 ≤ ts.getD i 0) && decide (ts.getD i 0 < nx) && !((ts.take i).contains (ts.getD i 0))
/-- P13.1. -/
def goodM (m : Mf) : Bool := possZ m.nx && possZ m.fr && decide (m.ts.length ≤ 30) && (List.range m.ts.length).all (okT m.ts m.nx)
theorem goodM_iff {m : Mf} : goodM m = true ↔ (1 ≤ m.nx ∧ m.nx ≤ 999999999) ∧ (1 ≤ m.fr ∧ m.fr ≤ 999999999) ∧ m.ts.length ≤ 30 ∧ ∀ i, i < m.ts.length → okT m.ts m.nx i = true := by
  unfold goodM
  rw [Bool.and_eq_true, Bool.and_eq_true, Bool.and_eq_true, possZ_iff, possZ_iff, decide_eq_true_eq, List.all_eq_true]
  simp only [List.mem_range, and_assoc]
def listM (m : Mf) : List Int := m.nx :: m.fr :: (m.ts.length : Int) :: m.ts
def numsB (l : List Int) : List UInt8 := l.flatMap fun n => numL n.toNat
def contM (m : Mf) : List UInt8 := numsB (listM m)
/-- P13.2, a manifest in bytes. -/
def encM (m : Mf) : List UInt8 := frameL (contM m)
def Bdd (l : List Int) : Prop := ∀ n ∈ l, 0 ≤ n ∧ n ≤ 999999999
theorem Bdd.cons {n : Int} {l : List Int} (h : Bdd (n :: l)) : (0 ≤ n ∧ n ≤ 999999999) ∧ Bdd l := ⟨h n (by simp), fun x hx => h x (List.mem_cons_of_mem _ hx)⟩
theorem good_bdd {m : Mf} (h : goodM m = true) : Bdd (listM m) := by
  obtain ⟨h1, h2, h3, h4⟩ := goodM_iff.1 h
  intro n hn
  simp only [listM, List.mem_cons] at hn
  rcases hn with rfl | rfl | rfl | hn
  · omega
  · omega
  · omega
  · obtain ⟨i, hi, rfl⟩ := List.getElem_of_mem hn
    have := h4 i hi
    unfold okT at this
    rw [Bool.and_eq_true, Bool.and_eq_true, decide_eq_true_eq, decide_eq_true_eq, List.getD_eq_getElem?_getD, List.getElem?_eq_getElem hi] at this
    simp only [Option.getD_some] at this
    omega
theorem numsB_nil : numsB [] = [] := rfl
theorem numsB_cons (n : Int) (l : List Int) : numsB (n :: l) = numL n.toNat ++ numsB l := rfl
theorem numsB_app (a b : List Int) : numsB (a ++ b) = numsB a ++ numsB b := List.flatMap_append
theorem numsB_len (l : List Int) : (numsB l).length ≤ 10 * l.length := by
  induction l with
  | nil => simp [numsB]
  | cons n l ih =>
    have := numL_length n.toNat
    rw [numsB_cons, List.length_append, List.length_cons]; omega
theorem contM_len (m : Mf) : (contM m).length ≤ 10 * (m.ts.length + 3) := by
  have := numsB_len (listM m)
  simp only [listM, List.length_cons] at this
  unfold contM listM; omega
theorem good_len {m : Mf} (h : goodM m = true) : (contM m).length ≤ 330 := by
  obtain ⟨h1, h2, h3, h4⟩ := goodM_iff.1 h
  have := contM_len m
  omega
theorem encM_len (m : Mf) : (encM m).length = (contM m).length + 8 := frameL_length _
theorem numsB_ne {n : Int} {l : List Int} : numsB (n :: l) ≠ [] := fun e => by
  have := numL_length n.toNat
  rw [numsB_cons] at e
  have h2 := congrArg List.length e
  rw [List.length_append] at h2
  simp only [List.length_nil] at h2
  omega
theorem numsB_get {n : Int} (h : 0 ≤ n ∧ n ≤ 999999999) (r : List UInt8) : getN 0 0 (numL n.toNat ++ r) = some (n.toNat, r) := get_back n.toNat (by omega) r
/-- Numbers' bytes begin with the same numbers. -/
theorem numsB_pre : ∀ (l l' : List Int) (r : List UInt8), Bdd l → Bdd l' → numsB l ++ r = numsB l' → ∃ l'', l' = l ++ l'' ∧ r = numsB l''
  | [], l', r, _, _, h => ⟨l', rfl, h⟩
  | n :: l, [], r, _, _, h => by
    exfalso
    have h2 : numsB (n :: l) = [] := (List.append_eq_nil_iff.1 (by rw [numsB_nil] at h; exact h)).1
    exact numsB_ne h2
  | n :: l, n' :: l', r, hl, hl', h => by
    obtain ⟨hn, hl⟩ := hl.cons
    obtain ⟨hn', hl'⟩ := hl'.cons
    rw [numsB_cons, numsB_cons, List.append_assoc] at h
    have e1 := numsB_get hn (numsB l ++ r)
    rw [h, numsB_get hn'] at e1
    simp only [Option.some.injEq, Prod.mk.injEq] at e1
    obtain ⟨e1, e2⟩ := e1
    obtain ⟨l'', e3, e4⟩ := numsB_pre l l' r hl hl' e2.symm
    exact ⟨l'', by rw [e3, show n' = n by omega]; rfl, e4⟩
theorem numsB_inj {l l' : List Int} (hl : Bdd l) (hl' : Bdd l') (h : numsB l = numsB l') : l = l' := by
  obtain ⟨l'', e1, e2⟩ := numsB_pre l l' [] hl hl' (by rw [List.append_nil]; exact h)
  cases l'' with
  | nil => rw [e1, List.append_nil]
  | cons n t => exact absurd e2.symm numsB_ne
/-- What does not go on with a number ends no numbers' bytes. -/
theorem numsB_stop {l l' : List Int} {r : List UInt8} (hl : Bdd l) (hl' : Bdd l') (h : numsB l ++ r = numsB l') (hr : r ≠ []) : getK r ≠ 0 ∧ getV r ≤ 999999999 := by
  obtain ⟨l'', rfl, e2⟩ := numsB_pre l l' r hl hl' h
  cases l'' with
  | nil => exact absurd e2 hr
  | cons n t =>
    have hn : 0 ≤ n ∧ n ≤ 999999999 := hl' n (by simp)
    have hg := numsB_get hn (numsB t)
    rw [numsB_cons] at e2
    have := numL_length n.toNat
    rw [e2]
    unfold getK getV
    rw [hg]
    dsimp only
    rw [List.length_append]
    omega

/-! ### the program's reading -/
def tkV (c : List UInt8) : Nat := min (getV c) 1000000000
def tkR (c : List UInt8) : List UInt8 := c.drop (getK c)
def tks : Nat → List UInt8 → List Int
  | 0, _ => []
  | k + 1, c => (tkV c : Int) :: tks k (tkR c)
def tkRs : Nat → List UInt8 → List UInt8
  | 0, c => c
  | k + 1, c => tkRs k (tkR c)
theorem tks_len (k : Nat) : ∀ c, (tks k c).length = k := by
  induction k with
  | zero => intro c; rfl
  | succ k ih => intro c; simp [tks, ih]
theorem tks_snoc (k : Nat) : ∀ c, tks (k + 1) c = tks k c ++ [(tkV (tkRs k c) : Int)] ∧ tkRs (k + 1) c = tkR (tkRs k c) := by
  induction k with
  | zero => intro c; exact ⟨rfl, rfl⟩
  | succ k ih =>
    intro c
    have := ih (tkR c)
    refine ⟨?_, this.2⟩
    show (tkV c : Int) :: tks (k + 1) (tkR c) = _
    rw [this.1]; rfl
theorem tkR_len (c : List UInt8) : (tkR c).length ≤ c.length := by unfold tkR; rw [List.length_drop]; omega
theorem tkRs_len (k : Nat) : ∀ c, (tkRs k c).length ≤ c.length := by
  induction k with
  | zero => intro c; exact Nat.le_refl _
  | succ k ih => intro c; have := ih (tkR c); have := tkR_len c; show (tkRs k (tkR c)).length ≤ _; omega
def numM (c : List UInt8) : Mf := ⟨tks (min (tkV (tkR (tkR c))) 31) (tkR (tkR (tkR c))), (tkV c : Int), (tkV (tkR c) : Int)⟩
theorem tk_num {n : Int} (h : 0 ≤ n ∧ n ≤ 999999999) (r : List UInt8) : (tkV (numL n.toNat ++ r) : Int) = n ∧ tkR (numL n.toNat ++ r) = r := by
  have hg := numsB_get h r
  have h1 : getV (numL n.toNat ++ r) = n.toNat := by unfold getV; rw [hg]
  have h2 : getK (numL n.toNat ++ r) = (numL n.toNat).length := by unfold getK; rw [hg]; dsimp only; rw [List.length_append]; omega
  unfold tkV tkR
  rw [h1, h2, List.drop_left]
  refine ⟨by omega, rfl⟩
theorem tks_nums : ∀ (l : List Int) (r : List UInt8), Bdd l → tks l.length (numsB l ++ r) = l
  | [], _, _ => rfl
  | n :: l, r, h => by
    obtain ⟨hn, hl⟩ := h.cons
    rw [numsB_cons, List.append_assoc]
    obtain ⟨e1, e2⟩ := tk_num hn (numsB l ++ r)
    show (tkV _ : Int) :: tks l.length (tkR _) = _
    rw [e1, e2, tks_nums l r hl]
theorem numM_cont {m : Mf} (h : goodM m = true) : numM (contM m) = m := by
  have hb := good_bdd h
  obtain ⟨h1, h2, h3, h4⟩ := goodM_iff.1 h
  obtain ⟨ts, nx, fr⟩ := m
  dsimp only at h1 h2 h3
  obtain ⟨b1, hb⟩ := hb.cons
  obtain ⟨b2, hb⟩ := hb.cons
  obtain ⟨b3, hb⟩ := hb.cons
  have e : contM ⟨ts, nx, fr⟩ = numL nx.toNat ++ (numL fr.toNat ++ (numL (ts.length : Int).toNat ++ (numsB ts ++ []))) := by rw [List.append_nil]; rfl
  unfold numM
  rw [e, (tk_num b1 _).2, (tk_num b2 _).2, (tk_num b3 _).2, (tk_num b1 _).1, (tk_num b2 _).1]
  have h5 := (tk_num b3 (numsB ts ++ [])).1
  have h6 : min (tkV (numL (ts.length : Int).toNat ++ (numsB ts ++ []))) 31 = ts.length := by dsimp only at h5; omega
  rw [h6, tks_nums ts [] hb]
/-- P13.2, the manifest that bytes tell. -/
def rdM (b : List UInt8) : Option Mf := if unfE b = 0 ∧ goodM (numM (unfB b)) = true ∧ encM (numM (unfB b)) = b then some (numM (unfB b)) else none
theorem rdM_iff {b : List UInt8} {m : Mf} : rdM b = some m ↔ goodM m = true ∧ encM m = b := by
  constructor
  · intro h
    unfold rdM at h
    split at h
    · rename_i hc
      cases h
      exact ⟨hc.2.1, hc.2.2⟩
    · cases h
  · rintro ⟨hg, rfl⟩
    have hl := good_len hg
    obtain ⟨t1, t2, t3⟩ := tells_whole (contM m) (by omega) []
    rw [List.append_nil] at t1 t2 t3
    have e : unfB (encM m) = contM m := t3
    unfold rdM
    rw [e, numM_cont hg, if_pos ⟨t1, hg, rfl⟩]
theorem rdM_none {b : List UInt8} (h : ∀ m, goodM m = true → encM m ≠ b) : rdM b = none := by
  cases hr : rdM b with
  | none => rfl
  | some m =>
    obtain ⟨h1, h2⟩ := rdM_iff.1 hr
    exact absurd h2 (h m h1)
theorem rdM_enc {m : Mf} (h : goodM m = true) : rdM (encM m) = some m := rdM_iff.2 ⟨h, rfl⟩
theorem rdM_bad {b : List UInt8} (h : unfE b ≠ 0) : rdM b = none := by unfold rdM; rw [if_neg fun hh => h hh.1]
theorem rdM_more {b : List UInt8} (h : unfN b ≠ b.length) : rdM b = none := rdM_none fun m hg e => by
  subst e
  obtain ⟨t1, t2, t3⟩ := tells_whole (contM m) (by have := good_len hg; omega) []
  rw [List.append_nil] at t2
  exact h (by rw [encM_len]; exact t2)
theorem fourL_word {q : List UInt8} (hq : q.length = 4) : fourL (wordL q) = q := by
  match q, hq with
  | [a, b, c, d], _ =>
    have h := wordL_four (wordL [a, b, c, d]) (wordL_lt _ (by simp))
    obtain ⟨h1, h2, h3, h4⟩ := wordL_inj (show wordL [_, _, _, _] = wordL [a, b, c, d] from h)
    unfold fourL
    rw [h1, h2, h3, h4]
/-- Bytes that are one whole frame are the frame of what they hold. -/
theorem frame_back {b : List UInt8} (h : unfE b = 0) (hn : unfN b = b.length) : frameL (unfB b) = b ∧ (unfB b).length ≤ 262144 := by
  have hN : 8 + unfC b = b.length := by unfold unfN at hn; rw [if_pos h] at hn; exact hn
  have hB : unfB b = b.drop 8 := by unfold unfB; rw [if_pos h, List.take_of_length_le (by rw [List.length_drop]; omega)]
  have hl : (unfB b).length = unfC b := by rw [hB, List.length_drop]; omega
  unfold unfE at h
  split at h
  · cases h
  split at h
  · cases h
  split at h
  · cases h
  split at h
  · cases h
  rename_i h8 hbig _ hs
  have hs' : (wordL ((b.drop 4).take 4) : Int) = sumZ (b.take 4 ++ (b.drop 8).take (unfC b)) := Classical.not_not.1 hs
  have e4 : fourL (unfC b) = b.take 4 := fourL_word (by rw [List.length_take]; omega)
  have e8 : fourL (wordL ((b.drop 4).take 4)) = (b.drop 4).take 4 := fourL_word (by rw [List.length_take, List.length_drop]; omega)
  rw [List.take_of_length_le (l := b.drop 8) (by rw [List.length_drop]; omega)] at hs'
  refine ⟨?_, by omega⟩
  unfold frameL
  rw [hl, e4, hB, ← hs', Int.toNat_natCast, e8]
  have h1 : (b.drop 4).take 4 ++ b.drop 8 = b.drop 4 := by
    have := List.take_append_drop 4 (b.drop 4)
    rw [List.drop_drop] at this
    exact this
  rw [h1, List.take_append_drop]
end Go.Proofs.YtgkdodcidancpaaGreatDoor
namespace Go.Proofs.YtgkdodcidancpaaGreatDoor
open Go.RowKit

def preM : List UInt8 := [116, 97, 98, 45]
/-- P13.1, a table's file. -/
def flM (n : Int) : List UInt8 := if possZ n then preM ++ Lib.itoa n else []
theorem flM_len (n : Int) : (flM n).length ≤ 25 := by
  unfold flM
  split
  · rename_i h
    rw [possZ_iff] at h
    have := Lib.itoa_length_le n (by omega) (by omega)
    rw [List.length_append]; simp only [preM, List.length_cons, List.length_nil]; omega
  · simp
/-- What the library's variables hold. -/
def EnvM (w : World) : Prop := Lib.TabIs Tryz.prog w "internal/strconv.uint64pow10" .u64 Lib.pow10Tab
theorem gPowM : Tryz.prog.globalNamed "internal/strconv.uint64pow10" = some 2 := by kernel_rfl
theorem EnvM.lt {w : World} (h : EnvM w) : 2 < w.heap.size := by
  unfold EnvM Lib.TabIs World.var? at h
  rw [gPowM] at h
  simp only [Option.bind_some] at h
  rcases Nat.lt_or_ge 2 w.heap.size with g | g
  · exact g
  · rw [Array.getElem?_eq_none g] at h; cases h
theorem EnvM.below {w w' : World} (h : EnvM w) {B : Nat} (hb : Below B w w') (hB : w.heap.size ≤ B) : EnvM w' := by
  have hl := h.lt
  unfold EnvM Lib.TabIs World.var? at h ⊢
  rw [gPowM] at h ⊢
  simp only [Option.bind_some] at h ⊢
  rw [hb.block _ (by omega)]; exact h
set_option maxRecDepth 100000 in
theorem possibleM_any (n : Int) (w : World) : Calls Tryz.prog 51 #[.int .i64 n] w fun e w' => e = .returned (.bool (possZ n)) ∧ w' = w := by
  have HO : Hid (possZ n = (decide (1 ≤ n) && decide (n ≤ 999999999))) := rfl
  by_cases h1 : 1 ≤ n
  · by_cases h2 : n ≤ 999999999
    · go_enter Tryz.func51, Tryz.ntmps51
      go_wp2_with fail
      go_ret
      exact ⟨ret_bool (by rw [HO.out]; simp [h1, h2]), rfl⟩
    · go_enter Tryz.func51, Tryz.ntmps51
      go_wp2_with fail
      go_ret
      exact ⟨ret_bool (by rw [HO.out]; simp [h1, h2]; try omega), rfl⟩
  · go_enter Tryz.func51, Tryz.ntmps51
    go_wp2_with fail
    go_ret
    exact ⟨ret_bool (by rw [HO.out]; simp; try omega), rfl⟩
theorem itoaM_any (n : Int) (h0 : -9223372036854775808 ≤ n) (h1 : n ≤ 9223372036854775807) (w : World) (he : EnvM w) :
    Calls Tryz.prog 52 #[.int .i64 n] w fun x w' => x = .returned (.string (tB (Lib.itoa n))) ∧ Below w.heap.size w w' :=
  (Tryz.strconv_Itoa n h0 h1 w he).mono fun x w' ⟨h1, k, os, h2⟩ => ⟨h1, by
    rw [h2]
    exact ⟨rfl, rfl, rfl, by show w.heap.size ≤ (w.heap ++ os).size; simp, fun j hj => by show (w.heap ++ os)[j]? = _; rw [Array.getElem?_append_left hj]⟩⟩
set_option maxRecDepth 100000 in
theorem fileM_any (n : Int) (h0 : -9223372036854775808 ≤ n) (h1 : n ≤ 9223372036854775807) (w : World) (he : EnvM w) :
    Calls Tryz.prog 20 #[.int .i64 n] w fun x w' => x = .returned (.string (tB (flM n))) ∧ Below w.heap.size w w' := by
  have CP : Hid (∀ u, Calls Tryz.prog 51 #[.int .i64 n] u fun e w' => e = .returned (.bool (possZ n)) ∧ w' = u) := possibleM_any n
  have CI : Hid (Calls Tryz.prog 52 #[.int .i64 n] w fun x w' => x = .returned (.string (tB (Lib.itoa n))) ∧ Below w.heap.size w w') := itoaM_any n h0 h1 w he
  have HN : Hid (flM n = if possZ n then preM ++ Lib.itoa n else []) := rfl
  clear he
  cases hok : possZ n with
  | true =>
    have HR : Hid (⟨#[116, 97, 98, 45]⟩ ++ tB (Lib.itoa n) = tB (flM n)) := by
      show _ = _
      rw [HN.out, if_pos hok, ← tB_app]; rfl
    rw [hok] at CP
    clear HN hok
    have hsz : (tB (Lib.itoa n)).size ≤ 21 := by rw [tB_size]; exact Lib.itoa_length_le n h0 h1
    generalize tB (Lib.itoa n) = s at *
    have hsz2 : ¬ 9223372036854775807 < 4 + s.size := by omega
    go_enter Tryz.func20, Tryz.ntmps20
    go_wp2_with (go_at_call 51; refine (CP.out _).mono ?_; rintro e w1 ⟨rfl, rfl⟩)
    go_fit CI.out
    rintro e w2 ⟨rfl, hB⟩
    go_wp2_with fail
    go_ret
    exact ⟨by rw [← HR.out]; rfl, hB⟩
  | false =>
    have HR : Hid (tB (flM n) = ⟨#[]⟩) := by
      show _ = _
      rw [HN.out, if_neg (by rw [hok]; simp)]; rfl
    rw [hok] at CP
    clear HN hok CI h0 h1
    go_enter Tryz.func20, Tryz.ntmps20
    go_wp2_with (go_at_call 51; refine (CP.out _).mono ?_; rintro e w1 ⟨rfl, rfl⟩)
    go_ret
    exact ⟨by rw [HR.out]; rfl, Below.refl _ _⟩
end Go.Proofs.YtgkdodcidancpaaGreatDoor

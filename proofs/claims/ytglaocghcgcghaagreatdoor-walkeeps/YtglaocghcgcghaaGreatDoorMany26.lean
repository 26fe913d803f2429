/-
  SEVERAL TEXTS IN ONE: WalScanP, CxPlain.
-/
import Derived.Test.YtglaocghcgcghaaGreatDoorMany25
import Derived.Test.YtglaocghcgcghaaGreatDoorMany20
import Derived.Test.YtglaocghcgcghaaGreatDoorMany24
namespace Go.Proofs.YtglaocghcgcghaaGreatDoor
open Go.RowKit

/-- The record that bytes begin with, and how many bytes it has. -/
def fstW (b : List UInt8) : List Cx × Nat := if unfE b = 0 ∧ redE (unfB b) = 0 ∧ recB ((redC (unfB b)).map ofC) = true then ((redC (unfB b)).map ofC, unfN b) else ([], 0)
theorem fstW_yes {b : List UInt8} (h : unfE b = 0 ∧ redE (unfB b) = 0 ∧ recB ((redC (unfB b)).map ofC) = true) : fstW b = ((redC (unfB b)).map ofC, unfN b) := by unfold fstW; rw [if_pos h]
theorem fstW_no {b : List UInt8} (h : ¬ (unfE b = 0 ∧ redE (unfB b) = 0 ∧ recB ((redC (unfB b)).map ofC) = true)) : fstW b = ([], 0) := by unfold fstW; rw [if_neg h]
theorem fstW_le (b : List UInt8) : (fstW b).2 ≤ b.length := by
  by_cases h : unfE b = 0 ∧ redE (unfB b) = 0 ∧ recB ((redC (unfB b)).map ofC) = true
  · rw [fstW_yes h]; exact (unfN_of h.1).2.1
  · rw [fstW_no h]; exact Nat.zero_le _
theorem fstW_pos {b : List UInt8} (h : (fstW b).2 ≠ 0) : 8 ≤ (fstW b).2 ∧ recB (fstW b).1 = true := by
  by_cases hc : unfE b = 0 ∧ redE (unfB b) = 0 ∧ recB ((redC (unfB b)).map ofC) = true
  · rw [fstW_yes hc]
    have := (unfN_of hc.1).1
    exact ⟨by show 8 ≤ unfN b; omega, hc.2.2⟩
  · rw [fstW_no hc] at h; exact absurd rfl h
/-- Where the record of that number begins, and the record. -/
def endW (b : List UInt8) : Nat → Nat
  | 0 => 0
  | k + 1 => endW b k + (fstW (b.drop (endW b k))).2
def recW (b : List UInt8) (k : Nat) : List Cx := (fstW (b.drop (endW b k))).1
theorem endW_le (b : List UInt8) : ∀ k, endW b k ≤ b.length
  | 0 => Nat.zero_le _
  | k + 1 => by
    have h1 := endW_le b k
    have h2 := fstW_le (b.drop (endW b k))
    rw [List.length_drop] at h2
    show endW b k + _ ≤ _
    omega
theorem endW_many {b : List UInt8} : ∀ {m : Nat}, (∀ k < m, (fstW (b.drop (endW b k))).2 ≠ 0) → m ≤ endW b m
  | 0, _ => Nat.zero_le _
  | m + 1, h => by
    have h1 := endW_many (m := m) fun k hk => h k (by omega)
    have h2 := h m (by omega)
    show m + 1 ≤ endW b m + _
    omega
/-- What Scan tells: all records, and how many bytes they are. -/
structure ToldW (b : List UInt8) (rs : List (List Cx)) (n : Nat) : Prop where
  recs : rs = (List.range rs.length).map (recW b)
  size : n = endW b rs.length
  more : ∀ k < rs.length, (fstW (b.drop (endW b k))).2 ≠ 0
  last : (fstW (b.drop (endW b rs.length))).2 = 0
theorem ToldW.le {b : List UInt8} {rs : List (List Cx)} {n : Nat} (h : ToldW b rs n) : n ≤ b.length ∧ rs.length ≤ b.length := by
  have h1 := endW_le b rs.length
  have h2 := endW_many h.more
  rw [h.size]
  omega
theorem ToldW.uniq {b : List UInt8} {rs rs' : List (List Cx)} {n n' : Nat} (h : ToldW b rs n) (h' : ToldW b rs' n') : rs = rs' ∧ n = n' := by
  have e : rs.length = rs'.length := by
    rcases Nat.lt_trichotomy rs.length rs'.length with hl | hl | hl
    · exact absurd h.last (h'.more _ hl)
    · exact hl
    · exact absurd h'.last (h.more _ hl)
  refine ⟨?_, ?_⟩
  · rw [h.recs, h'.recs, e]
  · rw [h.size, h'.size, e]
theorem toldW_nil {b : List UInt8} (h : (fstW b).2 = 0) : ToldW b [] 0 := ⟨rfl, rfl, fun _ hk => absurd hk (Nat.not_lt_zero _), h⟩
theorem endW_shift (b : List UInt8) : ∀ k, endW b (k + 1) = (fstW b).2 + endW (b.drop (fstW b).2) k
  | 0 => by show 0 + (fstW (b.drop 0)).2 = _ + 0; rw [List.drop_zero, Nat.zero_add, Nat.add_zero]
  | k + 1 => by
    have ih := endW_shift b k
    show endW b (k + 1) + (fstW (b.drop (endW b (k + 1)))).2 = (fstW b).2 + (endW (b.drop (fstW b).2) k + (fstW ((b.drop (fstW b).2).drop (endW (b.drop (fstW b).2) k))).2)
    rw [ih, List.drop_drop, Nat.add_assoc]
theorem toldW_cons {b : List UInt8} {rs : List (List Cx)} {n : Nat} (h : (fstW b).2 ≠ 0) (ht : ToldW (b.drop (fstW b).2) rs n) : ToldW b ((fstW b).1 :: rs) ((fstW b).2 + n) := by
  have hd : ∀ k, b.drop (endW b (k + 1)) = (b.drop (fstW b).2).drop (endW (b.drop (fstW b).2) k) := fun k => by rw [endW_shift, List.drop_drop]
  refine ⟨?_, ?_, ?_, ?_⟩
  · rw [List.length_cons, List.range_succ_eq_map, List.map_cons, List.map_map]
    have e : recW b ∘ Nat.succ = recW (b.drop (fstW b).2) := by
      funext k
      show (fstW (b.drop (endW b (k + 1)))).1 = _
      rw [hd]; rfl
    rw [e, ← ht.recs]
    congr 1
  · rw [List.length_cons, endW_shift, ← ht.size]
  · intro k hk
    cases k with
    | zero => exact h
    | succ k =>
      rw [hd]
      exact ht.more k (by rw [List.length_cons] at hk; omega)
  · rw [List.length_cons, hd]
    exact ht.last
theorem plain_goodW {c : Cx} (h : goodC c = true) : plainC (toC c) = toC c := by
  obtain ⟨k, ⟨t, d, lo, kd, n, s⟩⟩ := c
  unfold goodC at h
  rw [Bool.and_eq_true] at h
  have h2 := h.2
  unfold goodV zeroVal at h2
  unfold plainC plainV toC
  cases d
  · simp only [Bool.false_eq_true, if_false, Bool.and_eq_true, beq_iff_eq] at h2 ⊢
    rw [h2.1]
  · simp only [if_true, Bool.and_eq_true, beq_iff_eq, decide_eq_true_eq] at h2 ⊢
    obtain ⟨h3, h4, h5⟩ := h2
    have h6 : s = ⟨#[]⟩ := by
      obtain ⟨x⟩ := s
      have hx : x.size = 0 := h5
      rw [Array.eq_empty_of_size_eq_zero hx]
    rw [h3, h4, h6]
    rfl
theorem recB_good {l : List Cx} (h : recB l = true) : (0 < l.length ∧ l.length ≤ 400) ∧ ∀ c ∈ l, goodC c = true := by
  unfold recB at h
  rw [Bool.and_eq_true] at h
  exact ⟨of_decide_eq_true h.1, List.all_eq_true.1 h.2⟩
theorem rec_bytes {l : List Cx} (h : recB l = true) : (cellsL (l.map toC)).length ≤ 262144 := by
  have h1 := recB_good h
  have h2 : (cxB l).length ≤ 10 + 241 * l.length := cxB_len fun c hc => good_small (h1.2 c hc)
  have e : cxB l = cellsL (l.map toC) := rfl
  rw [e] at h2
  omega
theorem rec_bytes' {l : List Cx} (h : recB l = true) : (recL l).length ≤ 200000 := by
  have h1 := recB_good h
  have h2 : (cxB l).length ≤ 10 + 241 * l.length := cxB_len fun c hc => good_small (h1.2 c hc)
  have e : cxB l = cellsL (l.map toC) := rfl
  rw [e] at h2
  have hL : (recL l).length = (cellsL (l.map toC)).length + 8 := frameL_length _
  omega
/-- A record that is read again. -/
theorem fst_rec {l : List Cx} (h : recB l = true) (hn : ∀ c ∈ l, c.Nums) (r : List UInt8) : fstW (recL l ++ r) = (l, (recL l).length) := by
  have h1 := recB_good h
  have hb := rec_bytes h
  obtain ⟨hE, hN, hB⟩ := tells_whole (cellsL (l.map toC)) hb r
  have hcs : cellsN (cellsL (l.map toC)) = some ((l.map toC).map plainC) := cellsN_back _ (fun c hc => by
    obtain ⟨x, hx, rfl⟩ := List.mem_map.1 hc
    have hs := good_small (h1.2 x hx)
    have a1 := hs.t
    have a2 := hs.p
    have a3 := hs.c
    have a4 := hs.s
    exact ⟨(hn x hx).ok, by unfold wtC toC; show x.k.t.size + x.k.p.size + x.k.c.size + x.v.s.size < _; omega⟩) (by rw [List.length_map]; omega)
  have hpl : (l.map toC).map plainC = l.map toC := by
    rw [List.map_map]
    exact List.map_congr_left fun c hc => plain_goodW (h1.2 c hc)
  rw [hpl] at hcs
  have hof : (redC (cellsL (l.map toC))).map ofC = l := by
    unfold redC
    rw [hcs]
    show (l.map toC).map ofC = l
    rw [List.map_map, show (ofC ∘ toC) = id from funext fun c => ofC_toC c, List.map_id]
  have hre : redE (cellsL (l.map toC)) = 0 := by unfold redE; rw [hcs]
  have hL : (recL l).length = (cellsL (l.map toC)).length + 8 := frameL_length _
  have hE' : unfE (recL l ++ r) = 0 := hE
  have hB' : unfB (recL l ++ r) = cellsL (l.map toC) := hB
  have hN' : unfN (recL l ++ r) = (cellsL (l.map toC)).length + 8 := hN
  rw [fstW_yes ⟨hE', by rw [hB']; exact hre, by rw [hB', hof]; exact h⟩, hB', hof, hN', hL]
theorem fst_cut {l : List Cx} (h : recB l = true) (m : Nat) (hm : m < (recL l).length) : fstW ((recL l).take m) = ([], 0) := by
  have hb := rec_bytes h
  have hL : (recL l).length = (cellsL (l.map toC)).length + 8 := frameL_length _
  have := tells_cut (cellsL (l.map toC)) hb m (by omega)
  have hE : unfE ((recL l).take m) = 10 := this
  exact fstW_no fun hc => by rw [hE] at hc; exact absurd hc.1 (by decide)
/-- Records one behind the other. -/
def encW (R : List (List Cx)) : List UInt8 := R.flatMap recL
theorem encW_cons (r : List Cx) (R : List (List Cx)) : encW (r :: R) = recL r ++ encW R := by unfold encW; rw [List.flatMap_cons]
theorem encW_snoc (R : List (List Cx)) (r : List Cx) : encW (R ++ [r]) = encW R ++ recL r := by unfold encW; rw [List.flatMap_append]; simp
theorem toldW_cut : ∀ (R : List (List Cx)) (p : Nat), (∀ r ∈ R, recB r = true ∧ ∀ c ∈ r, c.Nums) → ∃ j, j ≤ R.length ∧ ToldW ((encW R).take p) (R.take j) (encW (R.take j)).length ∧ ((encW R).length ≤ p → j = R.length)
  | [], p, _ => ⟨0, Nat.le_refl _, by
      have : (encW []).take p = [] := by unfold encW; simp
      rw [this]
      exact toldW_nil (by rw [fstW_no fun hc => absurd hc.1 (by decide)]), fun _ => rfl⟩
  | r :: R, p, h => by
    have hr := h r (List.mem_cons_self ..)
    rcases Nat.lt_or_ge p (recL r).length with hp | hp
    · refine ⟨0, Nat.zero_le _, ?_, fun hl => by rw [encW_cons, List.length_append] at hl; omega⟩
      have e : (encW (r :: R)).take p = (recL r).take p := by rw [encW_cons, List.take_append_of_le_length (by omega)]
      rw [e]
      exact toldW_nil (by rw [fst_cut hr.1 p hp])
    · obtain ⟨j, hj, ht, hl⟩ := toldW_cut R (p - (recL r).length) fun x hx => h x (List.mem_cons_of_mem _ hx)
      have e : (encW (r :: R)).take p = recL r ++ (encW R).take (p - (recL r).length) := by rw [encW_cons, List.take_append, List.take_of_length_le hp]
      have hf := fst_rec hr.1 hr.2 ((encW R).take (p - (recL r).length))
      refine ⟨j + 1, by rw [List.length_cons]; omega, ?_, fun hq => by rw [encW_cons, List.length_append] at hq; rw [List.length_cons, hl (by omega)]⟩
      rw [e, List.take_succ_cons, encW_cons, List.length_append]
      have hpos : (recL r).length ≠ 0 := by
        have : (recL r).length = (cellsL (r.map toC)).length + 8 := frameL_length _
        omega
      have := toldW_cons (b := recL r ++ (encW R).take (p - (recL r).length)) (rs := R.take j) (n := (encW (R.take j)).length) (by rw [hf]; exact hpos) (by rw [hf]; rw [List.drop_left]; exact ht)
      rw [hf] at this
      exact this
end Go.Proofs.YtglaocghcgcghaaGreatDoor
namespace Go.Proofs.YtglaocghcgcghaaGreatDoor
open Go.RowKit

def jnC (a b : Cx) : Cx := ⟨a.k, jn a.v b.v⟩
/-- One cell more. -/
def jrS (O : List Cx) (x : Cx) : List Cx := match O.getLast? with
  | none => [x]
  | some y => if kx y x = 0 then O.dropLast ++ [jnC y x] else O ++ [x]
theorem jrS_nil (x : Cx) : jrS [] x = [x] := rfl
theorem jrS_same {O : List Cx} {y x : Cx} (h : kx y x = 0) : jrS (O ++ [y]) x = O ++ [jnC y x] := by
  unfold jrS; simp [h]
theorem jrS_other {O : List Cx} {y x : Cx} (h : ¬ kx y x = 0) : jrS (O ++ [y]) x = (O ++ [y]) ++ [x] := by
  unfold jrS; simp [h]
def jr (l : List Cx) : List Cx := l.foldl jrS []
theorem jr_snoc (l : List Cx) (x : Cx) : jr (l ++ [x]) = jrS (jr l) x := by unfold jr; rw [List.foldl_append]; rfl
theorem jrS_len (O : List Cx) (x : Cx) : (jrS O x).length ≤ O.length + 1 := by
  rcases List.eq_nil_or_concat O with rfl | ⟨P, y, rfl⟩
  · simp [jrS]
  · rw [List.concat_eq_append]
    by_cases h : kx y x = 0
    · rw [jrS_same h]; simp
    · rw [jrS_other h]; simp
theorem jr_len (l : List Cx) : ∀ i, (jr (l.take i)).length ≤ i := fun i => by
  induction i with
  | zero => simp [jr]
  | succ i ih =>
    by_cases h : i < l.length
    · rw [takeX_succ (List.getElem?_eq_getElem h), jr_snoc]
      have := jrS_len (jr (l.take i)) l[i]
      omega
    · rw [List.take_of_length_le (by omega)]
      rw [List.take_of_length_le (by omega)] at ih
      omega

/-! ### The keys rise -/
def Rising (L : List Cx) : Prop := L.Pairwise fun x y => kx x y < 0
theorem kx_strict {x y z : Cx} (h : kx x y < 0) (g : kx y z < 0) : kx x z < 0 := kc_cmpr.strict h g
theorem kx_left {x x' y : Cx} (h : x.k = x'.k) : kx x y = kx x' y := by unfold kx; rw [h]
theorem kx_right {x y y' : Cx} (h : y.k = y'.k) : kx x y = kx x y' := by unfold kx; rw [h]
theorem ofK_cons_hit {κ : Kb} {x : Cx} (A : List Cx) (h : x.k = κ) : ofK κ (x :: A) = x :: ofK κ A := by
  unfold ofK; rw [List.filter_cons_of_pos]; exact @decide_eq_true _ (Classical.propDecidable _) h
theorem ofK_cons_miss {κ : Kb} {x : Cx} (A : List Cx) (h : x.k ≠ κ) : ofK κ (x :: A) = ofK κ A := by
  unfold ofK; rw [List.filter_cons_of_neg]; rw [@decide_eq_false _ (Classical.propDecidable _) h]; simp
/-- Two rising lists with the same cells of each key are one. -/
theorem rise_ext : ∀ {A B : List Cx}, Rising A → Rising B → (∀ κ, ofK κ A = ofK κ B) → A = B
  | [], [], _, _, _ => rfl
  | [], b :: B, _, _, h => by
    have := h b.k
    rw [ofK_cons_hit _ rfl] at this
    cases this
  | a :: A, [], _, _, h => by
    have := h a.k
    rw [ofK_cons_hit _ rfl] at this
    cases this
  | a :: A, b :: B, ha, hb, h => by
    have ha1 := (List.pairwise_cons.1 ha).1
    have hb1 := (List.pairwise_cons.1 hb).1
    have hk : kx a b = 0 := by
      by_cases h1 : kx a b < 0
      · have h2 := h a.k
        have h3 : ofK a.k (b :: B) = [] := ofK_nil fun x hx e => by
          rcases List.mem_cons.1 hx with rfl | hx
          · exact kx_ne h1 e.symm
          · exact kx_ne (kx_strict h1 (hb1 x hx)) e.symm
        rw [ofK_cons_hit _ rfl, h3] at h2
        cases h2
      · by_cases h1' : kx b a < 0
        · have h2 := h b.k
          have h3 : ofK b.k (a :: A) = [] := ofK_nil fun x hx e => by
            rcases List.mem_cons.1 hx with rfl | hx
            · exact kx_ne h1' e.symm
            · exact kx_ne (kx_strict h1' (ha1 x hx)) e.symm
          rw [ofK_cons_hit _ rfl, h3] at h2
          cases h2
        · have := kx_n a b
          omega
    have hkk := (kx_z a b).1 hk
    have h2 := h a.k
    rw [ofK_cons_hit _ rfl, ofK_cons_hit _ hkk.symm] at h2
    injection h2 with h3 h4
    subst h3
    rw [rise_ext (List.pairwise_cons.1 ha).2 (List.pairwise_cons.1 hb).2 fun κ => ?_]
    by_cases hκ : a.k = κ
    · subst hκ; exact h4
    · have h5 := h κ
      rwa [ofK_cons_miss _ hκ, ofK_cons_miss _ hκ] at h5
/-- The cells of one key, joined in their order. -/
def fK : List Cx → List Cx
  | [] => []
  | c :: cs => [cs.foldl jnC c]
def fS : List Cx → Cx → List Cx
  | [], x => [x]
  | y :: _, x => [jnC y x]
theorem fK_snoc (l : List Cx) (x : Cx) : fK (l ++ [x]) = fS (fK l) x := by
  cases l with
  | nil => rfl
  | cons c cs => simp [fK, fS, List.foldl_append]

/-! ### Adding one after the other -/
def addC : List Cx → Cx → List Cx
  | [], c => [c]
  | x :: l, c => if kx x c = 0 then jnC x c :: l else if 0 < kx x c then c :: x :: l else x :: addC l c
theorem addC_same {x c : Cx} (l : List Cx) (h : kx x c = 0) : addC (x :: l) c = jnC x c :: l := by rw [addC, if_pos h]
theorem addC_ahead {x c : Cx} (l : List Cx) (h : 0 < kx x c) : addC (x :: l) c = c :: x :: l := by rw [addC, if_neg (by omega), if_pos h]
theorem addC_behind {x c : Cx} (l : List Cx) (h : kx x c < 0) : addC (x :: l) c = x :: addC l c := by rw [addC, if_neg (by omega), if_neg (by omega)]
theorem addC_keys {O : List Cx} {c x : Cx} (h : x ∈ addC O c) : x.k = c.k ∨ ∃ y ∈ O, y.k = x.k := by
  induction O with
  | nil =>
    obtain rfl : x = c := by simpa [addC] using h
    exact .inl rfl
  | cons y O ih =>
    by_cases h0 : kx y c = 0
    · rw [addC_same _ h0] at h
      rcases List.mem_cons.1 h with rfl | h
      · exact .inr ⟨y, by simp, rfl⟩
      · exact .inr ⟨x, by simp [h], rfl⟩
    · by_cases h1 : 0 < kx y c
      · rw [addC_ahead _ h1] at h
        rcases List.mem_cons.1 h with rfl | h
        · exact .inl rfl
        · exact .inr ⟨x, h, rfl⟩
      · rw [addC_behind _ (by omega)] at h
        rcases List.mem_cons.1 h with rfl | h
        · exact .inr ⟨x, by simp, rfl⟩
        · rcases ih h with e | ⟨z, hz, e⟩
          · exact .inl e
          · exact .inr ⟨z, by simp [hz], e⟩
theorem addC_rising {O : List Cx} (hO : Rising O) (c : Cx) : Rising (addC O c) := by
  induction O with
  | nil => simp [addC, Rising]
  | cons y O ih =>
    obtain ⟨h1, h2⟩ := List.pairwise_cons.1 hO
    by_cases h0 : kx y c = 0
    · rw [addC_same _ h0]
      exact List.pairwise_cons.2 ⟨fun z hz => by rw [kx_left (show (jnC y c).k = y.k from rfl)]; exact h1 z hz, h2⟩
    · by_cases h3 : 0 < kx y c
      · rw [addC_ahead _ h3]
        have h4 : kx c y < 0 := by have := kx_n c y; omega
        refine List.pairwise_cons.2 ⟨fun z hz => ?_, hO⟩
        rcases List.mem_cons.1 hz with rfl | hz
        · exact h4
        · exact kx_strict h4 (h1 z hz)
      · have h4 : kx y c < 0 := by omega
        rw [addC_behind _ h4]
        refine List.pairwise_cons.2 ⟨fun z hz => ?_, ih h2⟩
        rcases addC_keys hz with e | ⟨u, hu, e⟩
        · rw [kx_right e]; exact h4
        · rw [← kx_right e]; exact h1 u hu
theorem ofK_addC {O : List Cx} (hO : Rising O) (c : Cx) (κ : Kb) : ofK κ (addC O c) = if @decide (c.k = κ) (Classical.propDecidable _) then fS (ofK κ O) c else ofK κ O := by
  by_cases hc : c.k = κ
  · rw [if_pos (@decide_eq_true _ (Classical.propDecidable _) hc)]
    induction O with
    | nil => rw [addC, ofK_cons_hit _ hc]; rfl
    | cons y O ih =>
      obtain ⟨h1, h2⟩ := List.pairwise_cons.1 hO
      by_cases h0 : kx y c = 0
      · have hy : y.k = κ := ((kx_z y c).1 h0).trans hc
        have hn : ofK κ O = [] := ofK_nil fun z hz e => kx_ne (h1 z hz) (hy.trans e.symm)
        rw [addC_same _ h0, ofK_cons_hit _ (show (jnC y c).k = κ from hy), ofK_cons_hit _ hy, hn]; rfl
      · have hy : y.k ≠ κ := fun e => h0 ((kx_z y c).2 (e.trans hc.symm))
        by_cases h3 : 0 < kx y c
        · have hn : ofK κ (y :: O) = [] := ofK_nil fun z hz e => by
            have h4 : kx c y < 0 := by have := kx_n c y; omega
            rcases List.mem_cons.1 hz with rfl | hz
            · exact hy e
            · exact kx_ne (kx_strict h4 (h1 z hz)) (hc.trans e.symm)
          rw [addC_ahead _ h3, ofK_cons_hit _ hc, hn]; rfl
        · rw [addC_behind _ (by omega), ofK_cons_miss _ hy, ofK_cons_miss _ hy, ih h2]
  · rw [if_neg (by rw [@decide_eq_false _ (Classical.propDecidable _) hc]; simp)]
    clear hO
    induction O with
    | nil => rw [addC, ofK_cons_miss _ hc]
    | cons y O ih =>
      by_cases h0 : kx y c = 0
      · have hy : y.k ≠ κ := fun e => hc (((kx_z y c).1 h0).symm.trans e)
        rw [addC_same _ h0, ofK_cons_miss _ (show (jnC y c).k ≠ κ from hy), ofK_cons_miss _ hy]
      · by_cases h3 : 0 < kx y c
        · rw [addC_ahead _ h3, ofK_cons_miss _ hc]
        · rw [addC_behind _ (by omega)]
          by_cases hy : y.k = κ
          · rw [ofK_cons_hit _ hy, ofK_cons_hit _ hy, ih]
          · rw [ofK_cons_miss _ hy, ofK_cons_miss _ hy, ih]
def nrm (l : List Cx) : List Cx := l.foldl addC []
theorem nrm_snoc (l : List Cx) (x : Cx) : nrm (l ++ [x]) = addC (nrm l) x := by unfold nrm; rw [List.foldl_append]; rfl
theorem snoc_ind {P : List Cx → Prop} (h0 : P []) (h1 : ∀ l x, P l → P (l ++ [x])) : ∀ l, P l := fun l => by
  have : ∀ n, ∀ l : List Cx, l.length = n → P l := fun n => by
    induction n with
    | zero => intro l hl; rw [List.eq_nil_of_length_eq_zero hl]; exact h0
    | succ n ih =>
      intro l hl
      rcases List.eq_nil_or_concat l with rfl | ⟨m, x, rfl⟩
      · simp at hl
      · rw [List.concat_eq_append] at hl ⊢
        exact h1 m x (ih m (by simpa using hl))
  exact this _ l rfl
theorem nrm_rising (l : List Cx) : Rising (nrm l) := by
  refine snoc_ind (P := fun l => Rising (nrm l)) (by simp [nrm, Rising]) (fun l x h => ?_) l
  rw [nrm_snoc]; exact addC_rising h x
theorem nrm_ofK (l : List Cx) (κ : Kb) : ofK κ (nrm l) = fK (ofK κ l) := by
  refine snoc_ind (P := fun l => ofK κ (nrm l) = fK (ofK κ l)) rfl (fun l x h => ?_) l
  rw [nrm_snoc, ofK_addC (nrm_rising l), ofK_append]
  by_cases hx : x.k = κ
  · rw [if_pos (@decide_eq_true _ (Classical.propDecidable _) hx), h, ofK_cons_hit _ hx, ← fK_snoc]; rfl
  · rw [if_neg (by rw [@decide_eq_false _ (Classical.propDecidable _) hx]; simp), h, ofK_cons_miss _ hx]
    show fK _ = fK (_ ++ [])
    rw [List.append_nil]

/-! ### Joining neighbours of sorted cells -/
theorem jr_keys {S : List Cx} {x : Cx} : x ∈ jr S → ∃ y ∈ S, y.k = x.k := by
  refine snoc_ind (P := fun S => x ∈ jr S → ∃ y ∈ S, y.k = x.k) (fun h => by cases h) (fun l c ih => ?_) S
  rw [jr_snoc]
  intro h
  rcases List.eq_nil_or_concat (jr l) with e | ⟨P, y, e⟩
  · rw [e, jrS_nil] at h
    obtain rfl : x = c := by simpa using h
    exact ⟨x, by simp, rfl⟩
  · rw [List.concat_eq_append] at e
    rw [e] at h ih
    by_cases hk : kx y c = 0
    · rw [jrS_same hk] at h
      rcases List.mem_append.1 h with h | h
      · obtain ⟨z, hz, e2⟩ := ih (by simp [h])
        exact ⟨z, by simp [hz], e2⟩
      · obtain rfl : x = jnC y c := by simpa using h
        exact ⟨c, by simp, ((kx_z y c).1 hk).symm⟩
    · rw [jrS_other hk] at h
      rcases List.mem_append.1 h with h | h
      · obtain ⟨z, hz, e2⟩ := ih h
        exact ⟨z, by simp [hz], e2⟩
      · obtain rfl : x = c := by simpa using h
        exact ⟨x, by simp, rfl⟩
theorem jr_both {S : List Cx} : Up S → Rising (jr S) ∧ ∀ κ, ofK κ (jr S) = fK (ofK κ S) := by
  refine snoc_ind (P := fun S => Up S → Rising (jr S) ∧ ∀ κ, ofK κ (jr S) = fK (ofK κ S)) (fun _ => ⟨by simp [jr, Rising], fun κ => rfl⟩) (fun l c ih hU => ?_) S
  obtain ⟨h1, h2⟩ := ih hU.left
  have hov : ∀ z ∈ jr l, kx z c ≤ 0 := fun z hz => by
    obtain ⟨y, hy, e⟩ := jr_keys hz
    rw [← kx_left e]; exact hU.over y hy c (by simp)
  rw [jr_snoc]
  have hK : ∀ κ, fK (ofK κ (l ++ [c])) = if @decide (c.k = κ) (Classical.propDecidable _) then fS (ofK κ (jr l)) c else ofK κ (jr l) := fun κ => by
    rw [ofK_append]
    by_cases hx : c.k = κ
    · rw [if_pos (@decide_eq_true _ (Classical.propDecidable _) hx), h2, ofK_cons_hit _ hx, ← fK_snoc]; rfl
    · rw [if_neg (by rw [@decide_eq_false _ (Classical.propDecidable _) hx]; simp), h2, ofK_cons_miss _ hx]
      show fK (_ ++ []) = _
      rw [List.append_nil]
  rcases List.eq_nil_or_concat (jr l) with e | ⟨P, y, e⟩
  · rw [e] at hK ⊢
    rw [jrS_nil]
    refine ⟨by simp [Rising], fun κ => ?_⟩
    rw [hK]
    by_cases hx : c.k = κ
    · rw [if_pos (@decide_eq_true _ (Classical.propDecidable _) hx), ofK_cons_hit _ hx]; rfl
    · rw [if_neg (by rw [@decide_eq_false _ (Classical.propDecidable _) hx]; simp), ofK_cons_miss _ hx]
  · rw [List.concat_eq_append] at e
    rw [e] at h1 hov hK ⊢
    have hP := List.pairwise_append.1 h1
    by_cases hk : kx y c = 0
    · have hyc := (kx_z y c).1 hk
      rw [jrS_same hk]
      refine ⟨List.pairwise_append.2 ⟨hP.1, by simp, fun a ha b hb => ?_⟩, fun κ => ?_⟩
      · obtain rfl : b = jnC y c := by simpa using hb
        rw [kx_right (show (jnC y c).k = y.k from rfl)]
        exact hP.2.2 a ha y (by simp)
      · rw [hK, ofK_append, ofK_append]
        by_cases hx : c.k = κ
        · have hn : ofK κ P = [] := ofK_nil fun z hz e => kx_ne (hP.2.2 z hz y (by simp)) (e.trans (hx.symm.trans hyc.symm))
          rw [if_pos (@decide_eq_true _ (Classical.propDecidable _) hx), ofK_cons_hit _ (show (jnC y c).k = κ from hyc.trans hx), ofK_cons_hit _ (hyc.trans hx), hn]; rfl
        · rw [if_neg (by rw [@decide_eq_false _ (Classical.propDecidable _) hx]; simp), ofK_cons_miss _ (show (jnC y c).k ≠ κ from fun e => hx (hyc.symm.trans e)), ofK_cons_miss _ (fun e => hx (hyc.symm.trans e))]
    · have hlt : ∀ z ∈ P ++ [y], kx z c < 0 := fun z hz => by
        rcases List.mem_append.1 hz with hz' | hz'
        · have a1 := hP.2.2 z hz' y (by simp)
          have a2 := hov y (by simp)
          exact kx_strict a1 (by omega)
        · obtain rfl : z = y := by simpa using hz'
          have a2 := hov z (by simp)
          omega
      rw [jrS_other hk]
      refine ⟨List.pairwise_append.2 ⟨h1, by simp, fun a ha b hb => ?_⟩, fun κ => ?_⟩
      · obtain rfl : b = c := by simpa using hb
        exact hlt a ha
      · rw [hK, ofK_append]
        by_cases hx : c.k = κ
        · have hn : ofK κ (P ++ [y]) = [] := ofK_nil fun z hz e => kx_ne (hlt z hz) (e.trans hx.symm)
          rw [if_pos (@decide_eq_true _ (Classical.propDecidable _) hx), ofK_cons_hit _ hx, hn]; rfl
        · rw [if_neg (by rw [@decide_eq_false _ (Classical.propDecidable _) hx]; simp), ofK_cons_miss _ hx]
          show _ ++ [] = _
          rw [List.append_nil]
theorem jr_nrm {l S : List Cx} (h : Sbl l S) (u : Up S) : jr S = nrm l := by
  obtain ⟨h1, h2⟩ := jr_both u
  exact rise_ext h1 (nrm_rising l) fun κ => by rw [h2, nrm_ofK, h.same]
end Go.Proofs.YtglaocghcgcghaaGreatDoor

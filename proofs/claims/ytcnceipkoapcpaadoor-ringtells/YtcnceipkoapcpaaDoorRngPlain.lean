/-
  PLAIN: a ring: points by tokens, those alike by nodes; a token's range; a range's replicas; a node's ranges.
-/
import Derived.Test.YtcnceipkoapcpaaDoorTirPlain
namespace Go.Proofs.YtcnceipkoapcpaaDoor

/-- A point. -/
structure Pt where
  tok : Int
  nd : Nat
instance : Inhabited Pt := ⟨⟨0, 0⟩⟩
theorem Pt.ext' {a b : Pt} (h1 : a.tok = b.tok) (h2 : a.nd = b.nd) : a = b := by
  cases a; cases b; simp only at h1 h2; rw [h1, h2]
/-- The order by tokens, then by nodes. -/
def leP (a b : Pt) : Bool := decide (a.tok < b.tok ∨ (a.tok = b.tok ∧ a.nd ≤ b.nd))
theorem leP_trans (a b c : Pt) (h1 : leP a b = true) (h2 : leP b c = true) : leP a c = true := by
  unfold leP at *; simp only [decide_eq_true_eq] at *; omega
theorem leP_total (a b : Pt) : (leP a b || leP b a) = true := by
  unfold leP; simp only [Bool.or_eq_true, decide_eq_true_eq]; omega
theorem leP_anti (a b : Pt) (h1 : leP a b = true) (h2 : leP b a = true) : a = b := by
  unfold leP at *; simp only [decide_eq_true_eq] at *
  exact Pt.ext' (by omega) (by omega)
theorem leP_tok {a b : Pt} (h : leP a b = true) : a.tok ≤ b.tok := by
  unfold leP at h; simp only [decide_eq_true_eq] at h; omega
def srtP (l : List Pt) : List Pt := l.mergeSort leP
theorem srtP_perm (l : List Pt) : (srtP l).Perm l := List.mergeSort_perm _ _
theorem srtP_len (l : List Pt) : (srtP l).length = l.length := (srtP_perm l).length_eq
theorem srtP_sorted (l : List Pt) : (srtP l).Pairwise fun a b => leP a b = true := List.pairwise_mergeSort leP_trans leP_total _
theorem srtP_only {l L : List Pt} (hp : L.Perm l) (hs : L.Pairwise fun a b => leP a b = true) : L = srtP l :=
  List.Perm.eq_of_pairwise (le := fun a b => leP a b = true) (fun a b _ _ h1 h2 => leP_anti a b h1 h2) hs (srtP_sorted l) (hp.trans (srtP_perm l).symm)

/-! ### the points of a ring -/
/-- The points as they are made: of node k + 1, behind those of k nodes. -/
def rawN (f : Nat → Nat → Int) (tokens : Nat) (n : Nat) : List Pt := (List.range tokens).map fun i => ⟨f n i, n⟩
def rawP (f : Nat → Nat → Int) (tokens : Nat) : Nat → List Pt
  | 0 => []
  | n + 1 => rawP f tokens n ++ rawN f tokens (n + 1)
theorem rawN_len (f : Nat → Nat → Int) (tokens n : Nat) : (rawN f tokens n).length = tokens := by simp [rawN]
theorem rawP_len (f : Nat → Nat → Int) (tokens : Nat) : ∀ n, (rawP f tokens n).length = n * tokens
  | 0 => by simp [rawP]
  | n + 1 => by rw [rawP, List.length_append, rawP_len f tokens n, rawN_len, Nat.add_mul, Nat.one_mul]
theorem rawP_nd (f : Nat → Nat → Int) (tokens : Nat) : ∀ n, ∀ p ∈ rawP f tokens n, 1 ≤ p.nd ∧ p.nd ≤ n
  | 0, p, h => by simp [rawP] at h
  | n + 1, p, h => by
    rw [rawP, List.mem_append] at h
    rcases h with h | h
    · have := rawP_nd f tokens n p h; omega
    · simp only [rawN, List.mem_map] at h
      obtain ⟨i, _, rfl⟩ := h
      simp
theorem rawP_all (f : Nat → Nat → Int) (tokens : Nat) (ht : 0 < tokens) : ∀ n m, 1 ≤ m → m ≤ n → ∃ p ∈ rawP f tokens n, p.nd = m
  | 0, m, h1, h2 => by omega
  | n + 1, m, h1, h2 => by
    rw [rawP]
    by_cases h : m ≤ n
    · obtain ⟨p, hp, hm⟩ := rawP_all f tokens ht n m h1 h
      exact ⟨p, List.mem_append_left _ hp, hm⟩
    · obtain rfl : m = n + 1 := by omega
      refine ⟨⟨f (n + 1) 0, n + 1⟩, List.mem_append_right _ ?_, rfl⟩
      simp only [rawN, List.mem_map]
      exact ⟨0, List.mem_range.2 ht, rfl⟩
def ptsP (f : Nat → Nat → Int) (nodes tokens : Nat) : List Pt := srtP (rawP f tokens nodes)
theorem ptsP_len (f : Nat → Nat → Int) (nodes tokens : Nat) : (ptsP f nodes tokens).length = nodes * tokens := by rw [ptsP, srtP_len, rawP_len]

/-- What a ring's points are: by tokens; each has a node of 1 to N, and each of these is there. -/
structure RgOk (l : List Pt) (N c : Nat) : Prop where
  so : l.Pairwise fun a b => leP a b = true
  nd : ∀ p ∈ l, 1 ≤ p.nd ∧ p.nd ≤ N
  al : ∀ m, 1 ≤ m → m ≤ N → ∃ p ∈ l, p.nd = m
  N5 : N ≤ 5
  c1 : 1 ≤ c
  cN : c ≤ N
  le : l.length ≤ 40
theorem RgOk.pos {l : List Pt} {N c : Nat} (h : RgOk l N c) : 0 < l.length := by
  obtain ⟨p, hp, _⟩ := h.al 1 (Nat.le_refl _) (Nat.le_trans h.c1 h.cN)
  exact List.length_pos_of_mem hp
theorem ptsP_ok (f : Nat → Nat → Int) {N t c : Nat} (hN : N ≤ 5) (ht1 : 1 ≤ t) (ht8 : t ≤ 8) (hc1 : 1 ≤ c) (hcN : c ≤ N) : RgOk (ptsP f N t) N c where
  so := srtP_sorted _
  nd p hp := rawP_nd f t N p ((srtP_perm _).subset hp)
  al m h1 h2 := by
    obtain ⟨p, hp, hm⟩ := rawP_all f t ht1 N m h1 h2
    exact ⟨p, (srtP_perm _).symm.subset hp, hm⟩
  N5 := hN
  c1 := hc1
  cN := hcN
  le := by
    rw [ptsP_len]
    exact Nat.mul_le_mul hN ht8

/-! ### ranges -/
def geP (t : Int) (p : Pt) : Bool := decide (t ≤ p.tok)
def rngP (l : List Pt) (t : Int) : Nat := (l.findIdx (geP t)) % l.length
theorem find_only {l : List Pt} (hs : l.Pairwise fun a b => leP a b = true) {t : Int} {k : Nat} (hk : k ≤ l.length) (h1 : ∀ p, 0 < k → l[k - 1]? = some p → geP t p = false) (h2 : ∀ p, l[k]? = some p → geP t p = true) : l.findIdx (geP t) = k := by
  have hlo : ∀ (j : Nat) (hj : j < l.length), j < k → geP t l[j] = false := by
    intro j hj hjk
    have h3 : geP t l[k - 1] = false := h1 _ (by omega) (List.getElem?_eq_getElem (by omega))
    by_cases he : j = k - 1
    · subst he; exact h3
    · have h4 := leP_tok (List.pairwise_iff_getElem.1 hs j (k - 1) hj (by omega) (by omega))
      unfold geP at *
      simp only [decide_eq_false_iff_not] at *
      omega
  by_cases hkl : k < l.length
  · refine (List.findIdx_eq hkl).2 ⟨h2 _ (List.getElem?_eq_getElem hkl), fun j hj => ?_⟩
    exact hlo j (by omega) hj
  · obtain rfl : k = l.length := by omega
    refine List.findIdx_eq_length.2 fun p hp => ?_
    obtain ⟨j, hj, rfl⟩ := List.getElem_of_mem hp
    exact hlo j hj hj
theorem rngP_lt {l : List Pt} (t : Int) (h : 0 < l.length) : rngP l t < l.length := Nat.mod_lt _ h
/-- A token lies behind the point ahead of its range, and not behind its range's; or it is in range 0. -/
theorem rngP_in {l : List Pt} (t : Int) (h : 0 < rngP l t) : (∀ p, l[rngP l t]? = some p → t ≤ p.tok) ∧ (∀ p, l[rngP l t - 1]? = some p → p.tok < t) := by
  have hlt : l.findIdx (geP t) < l.length := by
    rcases Nat.lt_or_ge (l.findIdx (geP t)) l.length with h1 | h1
    · exact h1
    · have h2 : l.findIdx (geP t) = l.length := Nat.le_antisymm List.findIdx_le_length h1
      unfold rngP at h
      rw [h2, Nat.mod_self] at h
      omega
  have he : rngP l t = l.findIdx (geP t) := Nat.mod_eq_of_lt hlt
  rw [he] at h ⊢
  constructor
  · intro p hp
    have h2 := List.findIdx_getElem (w := hlt)
    rw [List.getElem?_eq_getElem hlt] at hp
    rw [Option.some.inj hp] at h2
    simpa [geP] using h2
  · intro p hp
    have h3 : l.findIdx (geP t) - 1 < l.findIdx (geP t) := by omega
    have h2 := List.not_of_lt_findIdx h3
    rw [List.getElem?_eq_getElem (by omega)] at hp
    rw [Option.some.inj hp] at h2
    simpa [geP] using h2
theorem rngP_zero {l : List Pt} {t : Int} (h : rngP l t = 0) {a b : Pt} (ha : l[0]? = some a) (hb : l[l.length - 1]? = some b) : t ≤ a.tok ∨ b.tok < t := by
  have h0 : 0 < l.length := (List.getElem?_eq_some_iff.1 ha).1
  by_cases h1 : l.findIdx (geP t) < l.length
  · left
    have he : l.findIdx (geP t) = 0 := by rw [← h]; exact (Nat.mod_eq_of_lt h1).symm
    have h2 := List.findIdx_getElem (w := h1)
    rw [List.getElem?_eq_getElem h0] at ha
    have h3 : l[l.findIdx (geP t)] = a := by
      rw [← Option.some.inj ha]; congr 1
    rw [h3] at h2
    simpa [geP] using h2
  · right
    have h2 : l.length - 1 < l.findIdx (geP t) := by omega
    have h3 := List.not_of_lt_findIdx h2
    rw [List.getElem?_eq_getElem (by omega)] at hb
    rw [Option.some.inj hb] at h3
    simpa [geP] using h3

/-! ### replicas -/
def addR (c : Nat) (acc : List Nat) (x : Nat) : List Nat := if acc.length < c ∧ x ∉ acc then acc ++ [x] else acc
def ndAt (l : List Pt) (j : Nat) : Nat := (l.getD j default).nd
theorem ndAt_at {l : List Pt} {j : Nat} {p : Pt} (h : l[j]? = some p) : ndAt l j = p.nd := by simp [ndAt, List.getD, h]
def repS (l : List Pt) (c i : Nat) : Nat → List Nat
  | 0 => []
  | s + 1 => addR c (repS l c i s) (ndAt l ((i + s) % l.length))
def repsP (l : List Pt) (c i : Nat) : List Nat := repS l c i l.length
def rangesP (l : List Pt) (c n : Nat) : List Nat := (List.range l.length).filter fun i => decide (n ∈ repsP l c i)
theorem addR_sub {c : Nat} {acc : List Nat} {x y : Nat} (h : y ∈ addR c acc x) : y ∈ acc ∨ y = x := by
  unfold addR at h
  split at h
  · simpa using h
  · exact Or.inl h
theorem addR_mono {c : Nat} {acc : List Nat} {x y : Nat} (h : y ∈ acc) : y ∈ addR c acc x := by
  unfold addR
  split
  · exact List.mem_append_left _ h
  · exact h
theorem repS_le (l : List Pt) (c i : Nat) : ∀ s, (repS l c i s).length ≤ c
  | 0 => Nat.zero_le _
  | s + 1 => by
    have := repS_le l c i s
    unfold repS addR
    split
    · simp only [List.length_append, List.length_cons, List.length_nil]; omega
    · exact this
theorem repS_nodup (l : List Pt) (c i : Nat) : ∀ s, (repS l c i s).Nodup
  | 0 => List.nodup_nil
  | s + 1 => by
    have := repS_nodup l c i s
    unfold repS addR
    split
    · rename_i h
      refine List.nodup_append.2 ⟨this, by simp, ?_⟩
      intro a ha b hb
      simp only [List.mem_singleton] at hb
      subst hb
      exact fun e => h.2 (e ▸ ha)
    · exact this
theorem repS_stop {l : List Pt} {c i s : Nat} (h : (repS l c i s).length = c) : ∀ k, repS l c i (s + k) = repS l c i s
  | 0 => rfl
  | k + 1 => by
    rw [← Nat.add_assoc, repS, repS_stop h k, addR, if_neg (by omega)]
theorem repS_has {l : List Pt} {c i : Nat} : ∀ s, (repS l c i s).length < c → ∀ k, k < s → ndAt l ((i + k) % l.length) ∈ repS l c i s
  | 0, _, k, hk => by omega
  | s + 1, h, k, hk => by
    have h0 : (repS l c i s).length < c := by
      rcases Nat.lt_or_ge (repS l c i s).length c with h1 | h1
      · exact h1
      · have h2 : (repS l c i s).length = c := Nat.le_antisymm (repS_le l c i s) h1
        rw [repS_stop h2 1] at h
        omega
    rw [repS]
    by_cases hks : k < s
    · exact addR_mono (repS_has s h0 k hks)
    · obtain rfl : k = s := by omega
      unfold addR
      by_cases hm : ndAt l ((i + k) % l.length) ∈ repS l c i k
      · rw [if_neg (by simp [hm])]; exact hm
      · rw [if_pos ⟨h0, hm⟩]; simp
theorem repS_nd {l : List Pt} {N c i : Nat} (h : RgOk l N c) : ∀ s, ∀ x ∈ repS l c i s, 1 ≤ x ∧ x ≤ N
  | 0, x, hx => by simp [repS] at hx
  | s + 1, x, hx => by
    rw [repS] at hx
    rcases addR_sub hx with h1 | rfl
    · exact repS_nd h s x h1
    · have hlt : (i + s) % l.length < l.length := Nat.mod_lt _ h.pos
      rw [ndAt_at (List.getElem?_eq_getElem hlt)]
      exact h.nd _ (List.getElem_mem hlt)
theorem nodup_len {A : List Nat} : ∀ {B : List Nat}, A.Nodup → (∀ x ∈ A, x ∈ B) → A.length ≤ B.length := by
  induction A with
  | nil => intro B _ _; exact Nat.zero_le _
  | cons a A ih =>
    intro B hn hs
    rw [List.nodup_cons] at hn
    have ha : a ∈ B := hs a (by simp)
    have := ih (B := B.erase a) hn.2 fun x hx => (List.mem_erase_of_ne (show x ≠ a from fun e => hn.1 (e ▸ hx))).2 (hs x (by simp [hx]))
    rw [List.length_erase_of_mem ha] at this
    have hp := List.length_pos_of_mem ha
    simp only [List.length_cons]
    omega
theorem reps_len {l : List Pt} {N c i : Nat} (h : RgOk l N c) (hi : i < l.length) : (repsP l c i).length = c := by
  rcases Nat.lt_or_ge (repsP l c i).length c with h1 | h1
  · exfalso
    have h2 : ∀ x ∈ List.range' 1 N, x ∈ repsP l c i := by
      intro x hx
      rw [List.mem_range'_1] at hx
      obtain ⟨p, hp, rfl⟩ := h.al x hx.1 (by omega)
      obtain ⟨j, hj, rfl⟩ := List.getElem_of_mem hp
      have h3 := repS_has (l := l) (c := c) (i := i) l.length h1 ((j + l.length - i) % l.length) (Nat.mod_lt _ h.pos)
      have h4 : (i + (j + l.length - i) % l.length) % l.length = j := by
        rw [Nat.add_mod, Nat.mod_mod, ← Nat.add_mod]
        have : i + (j + l.length - i) = j + l.length := by omega
        rw [this, Nat.add_mod_right, Nat.mod_eq_of_lt hj]
      rw [h4, ndAt_at (List.getElem?_eq_getElem hj)] at h3
      exact h3
    have h3 := nodup_len (List.nodup_range' (s := 1) (n := N)) h2
    rw [List.length_range'] at h3
    have := h.cN
    omega
  · exact Nat.le_antisymm (repS_le l c i _) h1
theorem reps_head {l : List Pt} {N c i : Nat} (h : RgOk l N c) (hi : i < l.length) : (repsP l c i)[0]? = some (ndAt l i) := by
  have key : ∀ s, 0 < s → (repS l c i s)[0]? = some (ndAt l i) := by
    intro s hs
    induction s with
    | zero => omega
    | succ s ih =>
      rw [repS]
      by_cases h0 : s = 0
      · subst h0
        have hc := h.c1
        simp only [repS, addR, List.length_nil, List.not_mem_nil, not_false_eq_true, and_true, List.nil_append, Nat.add_zero]
        rw [if_pos (by omega), Nat.mod_eq_of_lt hi]
        rfl
      · have := ih (by omega)
        unfold addR
        split
        · rw [List.getElem?_append_left (List.getElem?_eq_some_iff.1 this).1]; exact this
        · exact this
  exact key _ h.pos
/-- Of as many steps as are wanted for all copies. -/
theorem repS_done {l : List Pt} {c i k : Nat} (hk : k ≤ l.length) (h : (repS l c i k).length = c) : repsP l c i = repS l c i k := by
  have := repS_stop h (l.length - k)
  rw [Nat.add_sub_cancel' hk] at this
  exact this
/-! ### how many ranges all nodes have -/
def heldP (l : List Pt) (c : Nat) : Nat → Nat
  | 0 => 0
  | n + 1 => heldP l c n + (rangesP l c (n + 1)).length
def rgsTo (l : List Pt) (c n L : Nat) : Nat := ((List.range L).filter fun i => decide (n ∈ repsP l c i)).length
def heldTo (l : List Pt) (c L : Nat) : Nat → Nat
  | 0 => 0
  | n + 1 => heldTo l c L n + rgsTo l c (n + 1) L
theorem heldTo_all (l : List Pt) (c : Nat) : ∀ n, heldTo l c l.length n = heldP l c n
  | 0 => rfl
  | n + 1 => by rw [heldTo, heldP, heldTo_all l c n]; rfl
def inCnt (r : List Nat) : Nat → Nat
  | 0 => 0
  | n + 1 => inCnt r n + (if n + 1 ∈ r then 1 else 0)
theorem heldTo_succ (l : List Pt) (c L : Nat) : ∀ n, heldTo l c (L + 1) n = heldTo l c L n + inCnt (repsP l c L) n
  | 0 => rfl
  | n + 1 => by
    have : rgsTo l c (n + 1) (L + 1) = rgsTo l c (n + 1) L + (if n + 1 ∈ repsP l c L then 1 else 0) := by
      unfold rgsTo
      rw [List.range_succ, List.filter_append, List.length_append]
      congr 1
      by_cases h : n + 1 ∈ repsP l c L <;> simp [h]
    rw [heldTo, heldTo, inCnt, heldTo_succ l c L n, this]
    omega
theorem inCnt_filter (r : List Nat) : ∀ n, inCnt r n = ((List.range' 1 n).filter fun x => decide (x ∈ r)).length
  | 0 => rfl
  | n + 1 => by
    rw [inCnt, inCnt_filter r n, List.range'_concat, List.filter_append, List.length_append]
    congr 1
    have : 1 + 1 * n = n + 1 := by omega
    rw [this]
    by_cases h : n + 1 ∈ r <;> simp [h]
theorem inCnt_len {r : List Nat} {n : Nat} (hn : r.Nodup) (hr : ∀ x ∈ r, 1 ≤ x ∧ x ≤ n) : inCnt r n = r.length := by
  rw [inCnt_filter]
  apply Nat.le_antisymm
  · exact nodup_len (List.Pairwise.filter _ List.nodup_range') fun x hx => by simpa using (List.mem_filter.1 hx).2
  · refine nodup_len hn fun x hx => List.mem_filter.2 ⟨?_, by simpa using hx⟩
    have := hr x hx
    rw [List.mem_range'_1]; omega
theorem held_all {l : List Pt} {N c : Nat} (h : RgOk l N c) : heldP l c N = l.length * c := by
  have key : ∀ L, L ≤ l.length → heldTo l c L N = L * c := by
    intro L hL
    induction L with
    | zero =>
      rw [Nat.zero_mul]
      have : ∀ n, heldTo l c 0 n = 0 := by
        intro n
        induction n with
        | zero => rfl
        | succ n ih => rw [heldTo, ih]; rfl
      exact this N
    | succ L ih =>
      rw [heldTo_succ, ih (by omega), inCnt_len (r := repsP l c L) (repS_nodup l c L _) (repS_nd h _)]
      have := reps_len h (i := L) (by omega)
      rw [this, Nat.add_mul, Nat.one_mul]
  rw [← heldTo_all]
  exact key _ (Nat.le_refl _)
end Go.Proofs.YtcnceipkoapcpaaDoor

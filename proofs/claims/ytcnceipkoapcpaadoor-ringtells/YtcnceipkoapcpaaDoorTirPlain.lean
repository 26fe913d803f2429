/-
  PLAIN: tables of like sizes: the order by sizes, the buckets, the one that is chosen.
-/
import Derived.Test.YtcnceipkoapcpaaDoorSrtNat
namespace Go.Proofs.YtcnceipkoapcpaaDoor

/-- What a size counts as. -/
def cz (x : Int) : Nat := (min (max x 0) 1099511627776).toNat
theorem cz_eq (x : Int) : (cz x : Int) = min (max x 0) 1099511627776 := by unfold cz; omega
theorem cz_le (x : Int) : cz x ≤ 1099511627776 := by unfold cz; omega
/-- .. of a table. -/
def cs (s : List Int) (i : Nat) : Nat := cz (s.getD i 0)
theorem cs_le (s : List Int) (i : Nat) : cs s i ≤ 1099511627776 := cz_le _
/-- Numbers as ints. -/
def zs (l : List Nat) : List Int := l.map fun n : Nat => (n : Int)
theorem zs_len (l : List Nat) : (zs l).length = l.length := List.length_map _
theorem zs_append (a b : List Nat) : zs (a ++ b) = zs a ++ zs b := List.map_append
theorem zs_at {l : List Nat} {i x : Nat} (h : l[i]? = some x) : (zs l)[i]? = some (x : Int) := by simp [zs, h]
theorem zs_inj {a b : List Nat} (h : zs a = zs b) : a = b := by
  induction a generalizing b with
  | nil => cases b with
    | nil => rfl
    | cons y b => simp [zs] at h
  | cons x a ih => cases b with
    | nil => simp [zs] at h
    | cons y b =>
      simp only [zs, List.map_cons, List.cons.injEq] at h
      rw [ih h.2]; congr 1; omega
/-- The order by sizes. -/
def leT (s : List Int) (i j : Nat) : Bool := decide (cs s i < cs s j ∨ (cs s i = cs s j ∧ i ≤ j))
theorem leT_trans (s : List Int) (a b c : Nat) (h1 : leT s a b = true) (h2 : leT s b c = true) : leT s a c = true := by
  unfold leT at *; simp only [decide_eq_true_eq] at *; omega
theorem leT_total (s : List Int) (a b : Nat) : (leT s a b || leT s b a) = true := by
  unfold leT; simp only [Bool.or_eq_true, decide_eq_true_eq]; omega
theorem leT_anti (s : List Int) (a b : Nat) (h1 : leT s a b = true) (h2 : leT s b a = true) : a = b := by
  unfold leT at *; simp only [decide_eq_true_eq] at *; omega
theorem leT_le {s : List Int} {a b : Nat} (h : leT s a b = true) : cs s a ≤ cs s b := by
  unfold leT at h; simp only [decide_eq_true_eq] at h; omega
def ordN (s : List Int) (n : Nat) : List Nat := (List.range n).mergeSort (leT s)
def ordr (s : List Int) : List Nat := ordN s s.length
theorem ordN_perm (s : List Int) (n : Nat) : (ordN s n).Perm (List.range n) := List.mergeSort_perm _ _
theorem ordN_len (s : List Int) (n : Nat) : (ordN s n).length = n := by rw [(ordN_perm s n).length_eq, List.length_range]
theorem ordN_sorted (s : List Int) (n : Nat) : (ordN s n).Pairwise fun i j => leT s i j = true := List.pairwise_mergeSort (leT_trans s) (leT_total s) _
theorem ordN_lt {s : List Int} {n i : Nat} (h : i ∈ ordN s n) : i < n := List.mem_range.1 ((ordN_perm s n).subset h)
theorem ordN_nodup (s : List Int) (n : Nat) : (ordN s n).Nodup := (ordN_perm s n).nodup_iff.2 List.nodup_range
theorem ordN_only {s : List Int} {n : Nat} {L : List Nat} (hp : L.Perm (List.range n)) (hs : L.Pairwise fun i j => leT s i j = true) : L = ordN s n :=
  List.Perm.eq_of_pairwise (le := fun a b => leT s a b = true) (fun a b _ _ h1 h2 => leT_anti s a b h1 h2) hs (ordN_sorted s n) (hp.trans (ordN_perm s n).symm)
theorem ordr_len (s : List Int) : (ordr s).length = s.length := ordN_len _ _
/-- One more table is put behind those that are no greater. -/
theorem ordN_put {s : List Int} {n k : Nat} (h1 : ∀ j ∈ (ordN s n).take k, cs s j ≤ cs s n) (h2 : ∀ j ∈ (ordN s n).drop k, cs s n < cs s j) :
    (ordN s n).take k ++ n :: (ordN s n).drop k = ordN s (n + 1) := by
  have hlt : ∀ j ∈ ordN s n, j < n := fun j hj => ordN_lt hj
  have hso := ordN_sorted s n
  refine ordN_only ?_ ?_
  · refine (List.perm_middle).trans ?_
    rw [List.take_append_drop, List.range_succ]
    exact ((ordN_perm s n).cons n).trans (List.perm_append_comm (l₁ := [n]))
  · have hso2 := hso
    rw [← List.take_append_drop k (ordN s n), List.pairwise_append] at hso2
    rw [List.pairwise_append]
    refine ⟨hso2.1, ?_, fun a ha b hb => ?_⟩
    · rw [List.pairwise_cons]
      refine ⟨fun j hj => ?_, hso2.2.1⟩
      have := h2 j hj
      unfold leT; simp only [decide_eq_true_eq]; omega
    · rcases List.mem_cons.1 hb with e | hb
      · subst e
        have h3 := h1 a ha
        have h4 := hlt a (List.mem_of_mem_take ha)
        unfold leT; simp only [decide_eq_true_eq]; omega
      · exact hso2.2.2 a ha b hb

/-- A size begins a bucket. -/
def stp (cnt sum x : Nat) : Bool := decide (0 < cnt ∧ 4 < x ∧ 2 * (sum / cnt) < x)
/-- How many are in the first bucket. -/
def alk (f : Nat → Nat) : Nat → Nat → List Nat → Nat
  | _, _, [] => 0
  | cnt, sum, i :: r => if stp cnt sum (f i) then 0 else 1 + alk f (cnt + 1) (sum + f i) r
theorem alk_le (f : Nat → Nat) : ∀ (l : List Nat) (cnt sum : Nat), alk f cnt sum l ≤ l.length
  | [], _, _ => by simp [alk]
  | i :: r, cnt, sum => by
    have := alk_le f r (cnt + 1) (sum + f i)
    rw [alk]; split <;> simp only [List.length_cons] <;> omega
theorem alk_pos (f : Nat → Nat) (l : List Nat) (h : l ≠ []) : 0 < alk f 0 0 l := by
  cases l with
  | nil => exact absurd rfl h
  | cons i r => rw [alk]; simp [stp]; omega
def sumF (f : Nat → Nat) (l : List Nat) : Nat := (l.map f).sum
theorem sumF_append (f : Nat → Nat) (a : List Nat) (i : Nat) : sumF f (a ++ [i]) = sumF f a + f i := by simp [sumF]
theorem sumF_le {f : Nat → Nat} {x : Nat} : ∀ {l : List Nat}, (∀ i ∈ l, f i ≤ x) → sumF f l ≤ l.length * x
  | [], _ => by simp [sumF]
  | i :: r, h => by
    have h1 := sumF_le (fun j hj => h j (List.mem_cons_of_mem _ hj))
    have h2 := h i List.mem_cons_self
    have e : sumF f (i :: r) = f i + sumF f r := by simp [sumF]
    rw [e, List.length_cons, Nat.add_mul]; omega
/-- Buckets, one table at a time. -/
def grp (f : Nat → Nat) : Nat → Nat → List Nat → List Nat → List (List Nat)
  | _, _, cur, [] => [cur]
  | cnt, sum, cur, i :: r => if stp cnt sum (f i) then cur :: grp f 1 (f i) [i] r else grp f (cnt + 1) (sum + f i) (cur ++ [i]) r
def grps (f : Nat → Nat) : List Nat → List (List Nat)
  | [] => []
  | i :: r => grp f 1 (f i) [i] r
theorem grp_eq (f : Nat → Nat) : ∀ (l : List Nat) (cnt sum : Nat) (cur : List Nat), grp f cnt sum cur l = (cur ++ l.take (alk f cnt sum l)) :: grps f (l.drop (alk f cnt sum l))
  | [], _, _, cur => by simp [grp, alk, grps]
  | i :: r, cnt, sum, cur => by
    rw [grp, alk]
    split
    · simp [grps]
    · rw [grp_eq f r (cnt + 1) (sum + f i) (cur ++ [i]), Nat.add_comm 1]; simp
/-- The first bucket, and those of the rest. -/
theorem grps_eq (f : Nat → Nat) (l : List Nat) (h : l ≠ []) : grps f l = l.take (alk f 0 0 l) :: grps f (l.drop (alk f 0 0 l)) := by
  cases l with
  | nil => exact absurd rfl h
  | cons i r =>
    have e : alk f 0 0 (i :: r) = alk f 1 (f i) r + 1 := by rw [alk]; simp [stp]; omega
    rw [grps, grp_eq, e]; simp
theorem grps_flat (f : Nat → Nat) (l : List Nat) : (grps f l).flatten = l := by
  generalize hn : l.length = n
  induction n using Nat.strongRecOn generalizing l with
  | _ n ih =>
    by_cases h : l = []
    · subst h; rfl
    · have hp := alk_pos f l h
      have hle := alk_le f l 0 0
      rw [grps_eq f l h, List.flatten_cons, ih (l.drop (alk f 0 0 l)).length (by rw [List.length_drop]; omega) _ rfl, List.take_append_drop]
theorem grps_ne (f : Nat → Nat) (l : List Nat) : ∀ b ∈ grps f l, b ≠ [] := by
  generalize hn : l.length = n
  induction n using Nat.strongRecOn generalizing l with
  | _ n ih =>
    by_cases h : l = []
    · subst h; intro b hb; cases hb
    · have hp := alk_pos f l h
      have hle := alk_le f l 0 0
      rw [grps_eq f l h]
      intro b hb
      rcases List.mem_cons.1 hb with e | hb
      · subst e
        intro e2
        have := congrArg List.length e2
        rw [List.length_take, List.length_nil] at this
        omega
      · exact ih (l.drop (alk f 0 0 l)).length (by rw [List.length_drop]; omega) _ rfl b hb
/-- Numbers, rising. -/
def srtN (l : List Nat) : List Nat := l.mergeSort fun a b => decide (a ≤ b)
theorem srtN_len (l : List Nat) : (srtN l).length = l.length := List.length_mergeSort _
theorem srtN_perm (l : List Nat) : (srtN l).Perm l := List.mergeSort_perm _ _
theorem srtN_sorted (l : List Nat) : (srtN l).Pairwise (· ≤ ·) :=
  (List.pairwise_mergeSort (le := fun a b => decide (a ≤ b)) (fun a b c h1 h2 => by simp at *; omega) (fun a b => by simp; omega) l).imp fun h => by simpa using h
theorem srtN_only {l m : List Nat} (hp : m.Perm l) (hs : m.Pairwise (· ≤ ·)) : m = srtN l :=
  List.Perm.eq_of_pairwise (le := (· ≤ ·)) (fun a b _ _ h1 h2 => by omega) hs (srtN_sorted l) (hp.trans (srtN_perm l).symm)
/-- P12.1. -/
def bkts (s : List Int) : List (List Nat) := (grps (cs s) (ordr s)).map srtN
/-- P12.2. -/
def pick (m : Int) (best b : List Nat) : List Nat := if m ≤ (b.length : Int) ∧ best.length < b.length then b else best
def chsn (L : List (List Nat)) (m : Int) : List Nat := L.foldl (pick m) []
def chs (s : List Int) (least : Int) : List Nat := chsn (bkts s) (max least 2)
theorem chsn_succ {L : List (List Nat)} {i : Nat} {b : List Nat} {m : Int} (h : L[i]? = some b) : chsn (L.take (i + 1)) m = pick m (chsn (L.take i) m) b := by
  unfold chsn; rw [List.take_add_one, h]; simp
theorem bkts_len (s : List Int) : (bkts s).length ≤ s.length := by
  have h1 := congrArg List.length (grps_flat (cs s) (ordr s))
  rw [ordr_len] at h1
  have h2 : ∀ L : List (List Nat), (∀ b ∈ L, b ≠ []) → L.length ≤ L.flatten.length := by
    intro L
    induction L with
    | nil => simp
    | cons b L ih =>
      intro h
      have h3 := ih fun c hc => h c (List.mem_cons_of_mem _ hc)
      have h4 := List.length_pos_iff.2 (h b List.mem_cons_self)
      simp only [List.length_cons, List.flatten_cons, List.length_append]; omega
  have h3 := h2 _ (grps_ne (cs s) (ordr s))
  unfold bkts; rw [List.length_map]; omega
theorem mem_len {L : List (List Nat)} {b : List Nat} (h : b ∈ L) : b.length ≤ L.flatten.length := by
  induction L with
  | nil => cases h
  | cons c L ih =>
    rw [List.flatten_cons, List.length_append]
    rcases List.mem_cons.1 h with e | h
    · subst e; omega
    · have := ih h; omega
theorem bkts_mem {s : List Int} {b : List Nat} (h : b ∈ bkts s) : b.length ≤ s.length := by
  obtain ⟨c, hc, rfl⟩ := List.mem_map.1 h
  have h1 := mem_len hc
  rw [grps_flat, ordr_len] at h1
  rw [srtN_len]; exact h1
theorem chsn_mem (L : List (List Nat)) (m : Int) : chsn L m = [] ∨ chsn L m ∈ L := by
  have : ∀ (L : List (List Nat)) (b : List Nat), L.foldl (pick m) b = b ∨ L.foldl (pick m) b ∈ L := by
    intro L
    induction L with
    | nil => intro b; exact .inl rfl
    | cons c L ih =>
      intro b
      rw [List.foldl_cons]
      rcases ih (pick m b c) with h | h
      · rw [h]
        unfold pick
        split
        · exact .inr List.mem_cons_self
        · exact .inl rfl
      · exact .inr (List.mem_cons_of_mem _ h)
  exact this L []
theorem chs_len (s : List Int) (least : Int) : (chs s least).length ≤ s.length := by
  rcases chsn_mem (bkts s) (max least 2) with h | h
  · unfold chs; rw [h]; exact Nat.zero_le _
  · exact bkts_mem h
end Go.Proofs.YtcnceipkoapcpaaDoor

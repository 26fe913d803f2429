/-
  PLAIN, AND MEMORY: the document's buckets: sizes by insertion, buckets one table at a time, numbers by exchanges; lists of lists of a call's own.
-/
import Derived.Test.YtdeobmihkcfofaaTirLives
namespace Go.Proofs.Ytdeobmihkcfofaa
open Go.RowKit

/-- One place of a list with x put at k. -/
def insK (L : List Nat) (k x : Nat) : List Nat := L.take k ++ x :: L.drop k
theorem insK_len {L : List Nat} {k x : Nat} : (insK L k x).length = L.length + 1 := by
  unfold insK
  rw [List.length_append, List.length_cons, List.length_take, List.length_drop]; omega
theorem insK_at {L : List Nat} {k x : Nat} (h : k ≤ L.length) : (insK L k x)[k]? = some x := by
  unfold insK
  rw [List.getElem?_append_right (by rw [List.length_take]; omega), List.length_take, Nat.min_eq_left h]; simp
theorem insK_prev {L : List Nat} {k x y : Nat} (h : L[k]? = some y) : (insK L (k + 1) x)[k]? = some y := by
  have hk := (List.getElem?_eq_some_iff.1 h).1
  unfold insK
  rw [List.getElem?_append_left (by rw [List.length_take]; omega), List.getElem?_take_of_lt (by omega)]; exact h
theorem insK_end (L : List Nat) (x : Nat) : insK L L.length x = L ++ [x] := by unfold insK; simp
theorem insK_set {L : List Nat} {k x y : Nat} (h : k ≤ L.length) : (insK L k x).set k y = insK L k y := by
  unfold insK
  rw [List.set_append_right _ _ (by rw [List.length_take]; omega), List.length_take, Nat.min_eq_left h, Nat.sub_self]; rfl
/-- The one ahead is copied: the place moves down. -/
theorem insK_down {L : List Nat} {k y : Nat} (h : L[k]? = some y) : insK L (k + 1) y = insK L k y := by
  unfold insK
  rw [take1 h, drop1 h]; simp
/-- The two are exchanged. -/
theorem insK_swap {L : List Nat} {k x y : Nat} (h : L[k]? = some y) : ((insK L (k + 1) x).set k x).set (k + 1) y = insK L k x := by
  have hk := (List.getElem?_eq_some_iff.1 h).1
  have e1 : (insK L (k + 1) x).set k x = L.take k ++ x :: x :: L.drop (k + 1) := by
    unfold insK
    rw [take1 h]
    simp only [List.append_assoc, List.singleton_append]
    rw [List.set_append_right _ _ (by rw [List.length_take]; omega), List.length_take, Nat.min_eq_left (by omega), Nat.sub_self]; rfl
  rw [e1]
  unfold insK
  rw [List.set_append_right _ _ (by simp; omega), List.length_take, Nat.min_eq_left (by omega), show k + 1 - k = 1 by omega, drop1 h]; rfl
/-- Numbers sorted so far, the next one at its place. -/
theorem srt_put {b : List Nat} {i k x : Nat} (hx : b[i]? = some x) (h1 : ∀ j ∈ (srtN (b.take i)).take k, j ≤ x) (h2 : ∀ j ∈ (srtN (b.take i)).drop k, x < j) : insK (srtN (b.take i)) k x = srtN (b.take (i + 1)) := by
  refine srtN_only ?_ ?_
  · unfold insK
    rw [take1 hx]
    refine List.perm_middle.trans ?_
    rw [List.take_append_drop]
    exact ((srtN_perm _).cons x).trans (List.perm_append_comm (l₁ := [x]))
  · have hs := srtN_sorted (b.take i)
    rw [← List.take_append_drop k (srtN (b.take i)), List.pairwise_append] at hs
    unfold insK
    rw [List.pairwise_append]
    refine ⟨hs.1, ?_, fun a ha c hc => ?_⟩
    · rw [List.pairwise_cons]
      exact ⟨fun j hj => Nat.le_of_lt (h2 j hj), hs.2.1⟩
    · rcases List.mem_cons.1 hc with e | hc
      · subst e; exact h1 a ha
      · exact hs.2.2 a ha c hc
theorem take_le {R : Nat → Nat → Prop} {L : List Nat} (hs : L.Pairwise R) {k y : Nat} (h : L[k]? = some y) (hr : R y y) : ∀ j ∈ L.take (k + 1), R j y := by
  intro j hj
  rw [take1 h] at hj
  rcases List.mem_append.1 hj with hj | hj
  · rw [← List.take_append_drop k L, drop1 h, List.pairwise_append] at hs
    exact hs.2.2 j hj y List.mem_cons_self
  · rw [List.mem_singleton.1 hj]; exact hr
/-- How far the document's buckets were made. -/
structure Gp (f : Nat → Nat) (O : List Nat) (i : Nat) (D : List (List Nat)) (cur : List Nat) : Prop where
  eq : grps f O = D ++ grp f cur.length (sumF f cur) cur (O.drop i)
  ne : cur ≠ []
  flat : D.flatten ++ cur = O.take i
theorem Gp.first {f : Nat → Nat} {O : List Nat} {x : Nat} (h : O[0]? = some x) : Gp f O 1 [] [x] := by
  obtain ⟨r, rfl⟩ : ∃ r, O = x :: r := by
    cases O with
    | nil => cases h
    | cons a r => exact ⟨r, by simp at h; rw [h]⟩
  exact ⟨by simp [grps, sumF], by simp, rfl⟩
theorem Gp.more {f : Nat → Nat} {O : List Nat} {i x : Nat} {D : List (List Nat)} {cur : List Nat} (h : Gp f O i D cur) (hx : O[i]? = some x) (hs : stp cur.length (sumF f cur) (f x) = false) : Gp f O (i + 1) D (cur ++ [x]) := by
  refine ⟨?_, by simp, by rw [take1 hx, ← h.flat, List.append_assoc]⟩
  rw [h.eq, drop1 hx, grp, if_neg (by rw [hs]; simp), sumF_append]; simp
theorem Gp.next {f : Nat → Nat} {O : List Nat} {i x : Nat} {D : List (List Nat)} {cur : List Nat} (h : Gp f O i D cur) (hx : O[i]? = some x) (hs : stp cur.length (sumF f cur) (f x) = true) : Gp f O (i + 1) (D ++ [cur]) [x] := by
  refine ⟨?_, by simp, by rw [take1 hx, ← h.flat]; simp⟩
  rw [h.eq, drop1 hx, grp, if_pos hs]; simp [sumF]
theorem Gp.last {f : Nat → Nat} {O : List Nat} {D : List (List Nat)} {cur : List Nat} (h : Gp f O O.length D cur) : grps f O = D ++ [cur] := by
  rw [h.eq, List.drop_length, grp]
theorem stp_iff {c s x : Nat} (h : 0 < c) : stp c s x = decide (4 < x ∧ 2 * (s / c) < x) := by unfold stp; simp [h]

/-- Lists of numbers, each a row of the call's own, in a row of the call's own. -/
structure GAt (B : Nat) (w : World) (so : Value) (vs : List Value) (G : List (List Nat)) : Prop where
  len : vs.length = G.length
  out : w.ownsRow B 22 1 so vs.length vs
  ins : ∀ (k : Nat) v b, vs[k]? = some v → G[k]? = some b → w.ownsRow B 3 1 v b.length (vI (zs b))
  apart : ∀ (j k : Nat) v u g, vs[j]? = some v → vs[k]? = some u → v.ownBlock = some g → u.ownBlock = some g → j = k
  aout : ∀ v ∈ vs, ∀ g, v.ownBlock = some g → so.ownBlock ≠ some g
theorem GAt.nil (B : Nat) (w : World) : GAt B w (.slice none 0 0) [] [] := ⟨rfl, World.ownsRow_nil _ _ _ _, (fun k v b h => by cases h), (fun j k v u g h => by cases h), fun v hv => by cases hv⟩
theorem GAt.at1 {B : Nat} {w : World} {so : Value} {vs : List Value} {G : List (List Nat)} (h : GAt B w so vs G) {k : Nat} {b : List Nat} (hb : G[k]? = some b) : ∃ v, vs[k]? = some v ∧ w.ownsRow B 3 1 v b.length (vI (zs b)) := by
  have hk := (List.getElem?_eq_some_iff.1 hb).1
  have hv : vs[k]? = some (vs[k]'(by rw [h.len]; exact hk)) := List.getElem?_eq_getElem _
  exact ⟨_, hv, h.ins k _ b hv hb⟩
/-- Where the row of rows lies. -/
theorem GAt.spot {B : Nat} {w : World} {so : Value} {vs : List Value} {G : List (List Nat)} (h : GAt B w so vs G) (hne : vs ≠ []) : ∃ og oc, so = .slice (some ⟨og, 0, none⟩) vs.length oc := by
  rcases h.out.2 with ⟨_, h2⟩ | ⟨g, cap, cur, rfl, _⟩
  · exact absurd (List.eq_nil_of_length_eq_zero h2) hne
  · exact ⟨g, cap, rfl⟩
theorem row_spot {B : Nat} {w : World} {e : TypeId} {v : Value} {n : Nat} {xs : List Value} (h : w.ownsRow B e 1 v n xs) (hn : 0 < n) : ∃ g c, v = .slice (some ⟨g, 0, none⟩) n c ∧ B ≤ g := by
  rcases h.2 with ⟨_, h2⟩ | ⟨g, cap, cur, rfl, hb, _⟩
  · omega
  · exact ⟨g, cap, rfl, hb⟩
theorem GAt.keep {B : Nat} {w w' : World} {so : Value} {vs : List Value} {G : List (List Nat)} (h : GAt B w so vs G) (hb : ∀ k, (so.ownBlock = some k ∨ ∃ v ∈ vs, v.ownBlock = some k) → w'.heap[k]? = w.heap[k]?) : GAt B w' so vs G :=
  ⟨h.len, owns_keepT h.out fun k hk => hb k (.inl hk), fun k v b hv hG => owns_keepT (h.ins k v b hv hG) fun i hi => hb i (.inr ⟨v, List.mem_of_getElem? hv, hi⟩), h.apart, h.aout⟩
theorem GAt.lt {B : Nat} {w : World} {so : Value} {vs : List Value} {G : List (List Nat)} (h : GAt B w so vs G) {k : Nat} (hk : so.ownBlock = some k ∨ ∃ v ∈ vs, v.ownBlock = some k) : B ≤ k ∧ k < w.heap.size := by
  rcases hk with hk | ⟨v, hv, hk⟩
  · exact h.out.lt k hk
  · obtain ⟨j, hj, rfl⟩ := List.getElem_of_mem hv
    have hv : vs[j]? = some vs[j] := List.getElem?_eq_getElem hj
    have hG : G[j]? = some (G[j]'(by rw [← h.len]; exact hj)) := List.getElem?_eq_getElem _
    exact (h.ins j _ _ hv hG).lt k hk
theorem GAt.below {B : Nat} {w w' : World} {so : Value} {vs : List Value} {G : List (List Nat)} (h : GAt B w so vs G) (hb : Below w.heap.size w w') : GAt B w' so vs G := h.keep fun k hk => hb.block k (h.lt hk).2
theorem GAt.drewN {B n : Nat} {w : World} {so : Value} {vs : List Value} {G : List (List Nat)} (h : GAt B w so vs G) : GAt B (w.drewN n) so vs G := h.keep fun _ _ => rfl
/-- A list more: out = append(out, []int{x}). -/
theorem GAt.put {B : Nat} {w w3 : World} {so so3 : Value} {vs : List Value} {G : List (List Nat)} {x : Nat} (h : GAt B w so vs G) (hB : B ≤ w.heap.size)
    (ho : w3.ownsRow B 22 1 so3 (vs.length + 1) (vs ++ [.slice (some ⟨w.heap.size, 0, none⟩) 1 1]))
    (hg : Grew ((w.alloc (.cells #[.int .i64 (x : Int)] 3)).alloc (.cells #[.slice (some ⟨w.heap.size, 0, none⟩) 1 1] 22)) w3 so so3) :
    GAt B w3 so3 (vs ++ [.slice (some ⟨w.heap.size, 0, none⟩) 1 1]) (G ++ [[x]]) := by
  have hsz : ((w.alloc (.cells #[.int .i64 (x : Int)] 3)).alloc (.cells #[.slice (some ⟨w.heap.size, 0, none⟩) 1 1] 22)).heap.size = w.heap.size + 2 := by simp
  have old : ∀ k, k < w.heap.size → so.ownBlock ≠ some k → w3.heap[k]? = w.heap[k]? := fun k hk hne => by
    rw [hg.rows.block k (by rw [hsz]; omega) (fun e => hne e.symm), Below.heap_alloc _ _ _ (by rw [World.size_alloc]; omega), Below.heap_alloc _ _ _ hk]
  have hson : so.ownBlock ≠ some w.heap.size := fun e => by have := (h.out.lt _ e).2; omega
  have hnew : Blk w3 w.heap.size (vI (zs [x])) 3 := by
    have e : w3.heap[w.heap.size]? = (w.alloc (.cells #[.int .i64 (x : Int)] 3)).heap[w.heap.size]? := by
      rw [hg.rows.block w.heap.size (by rw [hsz]; omega) (fun e => hson e.symm), Below.heap_alloc _ _ _ (by rw [World.size_alloc]; omega)]
    exact (Blk.new w (vI (zs [x])) 3).carry e
  have hso3 : ∀ g, so3.ownBlock = some g → so.ownBlock = some g ∨ w.heap.size + 2 ≤ g := fun g hgg => by
    have := hg.own g hgg
    rw [hsz] at this; exact this
  refine ⟨by rw [List.length_append, List.length_append, h.len]; rfl, by rw [List.length_append]; exact ho, fun k v b hv hb => ?_, fun j k v u g hv hu h1 h2 => ?_, fun v hv g h1 h2 => ?_⟩
  · rcases Nat.lt_or_ge k vs.length with hk | hk
    · rw [List.getElem?_append_left hk] at hv
      rw [List.getElem?_append_left (by rw [← h.len]; exact hk)] at hb
      have h1 := h.ins k v b hv hb
      exact owns_keepT h1 fun i hi => old i (h1.lt i hi).2 (h.aout v (List.mem_of_getElem? hv) i hi)
    · rw [List.getElem?_append_right hk] at hv
      rw [List.getElem?_append_right (by rw [← h.len]; exact hk)] at hb
      obtain ⟨hk0, rfl⟩ := List.getElem?_eq_some_iff.1 hv
      have hk1 : k - vs.length = 0 := by simpa using hk0
      rw [← h.len, hk1] at hb
      obtain rfl : [x] = b := by simpa using hb
      refine ⟨rfl, .inr ⟨w.heap.size, 1, #[.int .i64 (x : Int)], ?_, hB, hnew, Nat.le_refl _, by unfold maxLen; omega, rfl, rfl⟩⟩
      simp [hk1]
  · have hn : ∀ i v, (vs ++ [Value.slice (some ⟨w.heap.size, 0, none⟩) 1 1])[i]? = some v → (vs[i]? = some v ∧ i < vs.length) ∨ (i = vs.length ∧ v = .slice (some ⟨w.heap.size, 0, none⟩) 1 1) := fun i v hv => by
      rcases Nat.lt_or_ge i vs.length with hi | hi
      · rw [List.getElem?_append_left hi] at hv; exact .inl ⟨hv, hi⟩
      · have hlt := (List.getElem?_eq_some_iff.1 hv).1
        simp only [List.length_append, List.length_cons, List.length_nil] at hlt
        obtain rfl : i = vs.length := by omega
        rw [List.getElem?_append_right (by omega), Nat.sub_self] at hv
        exact .inr ⟨rfl, by simpa using hv.symm⟩
    rcases hn j v hv with ⟨a1, a2⟩ | ⟨a1, a2⟩ <;> rcases hn k u hu with ⟨b1, b2⟩ | ⟨b1, b2⟩
    · exact h.apart j k v u g a1 b1 h1 h2
    · subst b2
      obtain rfl := Option.some.inj h2
      have h4 : w.heap.size < w.heap.size := (h.lt (.inr ⟨v, List.mem_of_getElem? a1, h1⟩)).2
      omega
    · subst a2
      obtain rfl := Option.some.inj h1
      have h4 : w.heap.size < w.heap.size := (h.lt (.inr ⟨u, List.mem_of_getElem? b1, h2⟩)).2
      omega
    · omega
  · rcases List.mem_append.1 hv with hv | hv
    · have hgl := (h.lt (.inr ⟨v, hv, h1⟩)).2
      rcases hso3 g h2 with h3 | h3
      · exact h.aout v hv g h1 h3
      · omega
    · rw [List.mem_singleton.1 hv] at h1
      obtain rfl := Option.some.inj h1
      rcases hso3 w.heap.size h2 with h3 | h3
      · exact hson h3
      · omega
/-- A list that grows: out[k] = append(out[k], x). -/
theorem GAt.grow {B : Nat} {w w3 : World} {og oc : Nat} {vs : List Value} {G : List (List Nat)} {k x : Nat} {v v3 : Value} {b : List Nat} (h : GAt B w (.slice (some ⟨og, 0, none⟩) vs.length oc) vs G) (hv : vs[k]? = some v) (hb : G[k]? = some b)
    (ho : w3.ownsRow B 3 1 v3 (b.length + 1) (vI (zs b) ++ [.int .i64 (x : Int)])) (hg : Grew (w.alloc (.cells #[.int .i64 (x : Int)] 3)) w3 v v3) :
    GAt B (w3.setCell ⟨og, k, none⟩ v3) (.slice (some ⟨og, 0, none⟩) vs.length oc) (vs.set k v3) (G.set k (b ++ [x])) := by
  have hk : k < vs.length := (List.getElem?_eq_some_iff.1 hv).1
  have hkG : k < G.length := by rw [← h.len]; exact hk
  have hsz : (w.alloc (.cells #[.int .i64 (x : Int)] 3)).heap.size = w.heap.size + 1 := World.size_alloc _ _
  have hsz3 := hg.rows.size
  rw [hsz] at hsz3
  have hogl : og < w.heap.size := (h.out.lt og rfl).2
  have hvog : ∀ g, v.ownBlock = some g → g ≠ og := fun g e e2 => h.aout v (List.mem_of_getElem? hv) g e (by rw [e2]; rfl)
  have old : ∀ i, i < w.heap.size → v.ownBlock ≠ some i → w3.heap[i]? = w.heap[i]? := fun i hi hne => by
    rw [hg.rows.block i (by omega) (fun e => hne e.symm), Below.heap_alloc _ _ _ hi]
  have hv3og : v3.ownBlock ≠ some og := fun e => by
    rcases hg.own og e with h1 | h1
    · exact hvog og h1 rfl
    · omega
  have hout : w3.ownsRow B 22 1 (.slice (some ⟨og, 0, none⟩) vs.length oc) vs.length vs := owns_keepT h.out fun i hi => by
    obtain rfl := Option.some.inj hi
    exact old og hogl fun e => hvog og e rfl
  have hout4 := (hout.stored k v3).1
  have oth : ∀ i, i ≠ og → (w3.setCell ⟨og, k, none⟩ v3).heap[i]? = w3.heap[i]? := fun i hi => Below.heap_setCell _ _ _ _ hi
  have hsetv : ∀ i u, (vs.set k v3)[i]? = some u → (i = k ∧ u = v3) ∨ (i ≠ k ∧ vs[i]? = some u) := fun i u hu => by
    rw [List.getElem?_set] at hu
    by_cases e : k = i
    · subst e
      rw [if_pos rfl, if_pos hk] at hu
      exact .inl ⟨rfl, (Option.some.inj hu).symm⟩
    · rw [if_neg e] at hu
      exact .inr ⟨fun h => e h.symm, hu⟩
  have hv3new : ∀ i u g, i ≠ k → vs[i]? = some u → u.ownBlock = some g → v3.ownBlock ≠ some g := fun i u g hne hu hug e => by
    rcases hg.own g e with h1 | h1
    · exact hne (h.apart i k u v g hu hv hug h1)
    · have := (h.lt (.inr ⟨u, List.mem_of_getElem? hu, hug⟩)).2
      omega
  refine ⟨by rw [List.length_set, List.length_set, h.len], by rw [List.length_set]; exact hout4, fun i u c hu hc => ?_, fun j i u y g hu hy h1 h2 => ?_, fun u hu g h1 h2 => ?_⟩
  · rcases hsetv i u hu with ⟨rfl, rfl⟩ | ⟨hne, hu⟩
    · rw [List.getElem?_set, if_pos rfl, if_pos hkG] at hc
      obtain rfl := Option.some.inj hc
      refine owns_keepT (w := w3) ?_ fun g hgg => oth g fun e => hv3og (by rw [← e]; exact hgg)
      rw [List.length_append, zs_append, vI_append]
      exact ho
    · rw [List.getElem?_set, if_neg (fun e => hne e.symm)] at hc
      have h1 := h.ins i u c hu hc
      refine owns_keepT h1 fun g hgg => ?_
      rw [oth g fun e => h.aout u (List.mem_of_getElem? hu) g hgg (by rw [e]; rfl)]
      exact old g (h1.lt g hgg).2 fun e => hne (h.apart i k u v g hu hv hgg e)
  · rcases hsetv j u hu with ⟨e1, e2⟩ | ⟨hne, hu'⟩ <;> rcases hsetv i y hy with ⟨e3, e4⟩ | ⟨hne2, hy'⟩
    · rw [e1, e3]
    · rw [e2] at h1; exact absurd h1 (hv3new i y g hne2 hy' h2)
    · rw [e4] at h2; exact absurd h2 (hv3new j u g hne hu' h1)
    · exact h.apart j i u y g hu' hy' h1 h2
  · obtain rfl := Option.some.inj h2
    obtain ⟨i, hi, rfl⟩ := List.getElem_of_mem hu
    rcases hsetv i _ (List.getElem?_eq_getElem hi) with ⟨_, e⟩ | ⟨_, e⟩
    · rw [e] at h1; exact hv3og h1
    · exact h.aout _ (List.mem_of_getElem? e) og h1 rfl
/-- A list whose numbers are changed in place. -/
theorem GAt.turn {B : Nat} {w w' : World} {so : Value} {vs : List Value} {G : List (List Nat)} {k g : Nat} {v : Value} {b c : List Nat} (h : GAt B w so vs G) (hv : vs[k]? = some v) (hb : G[k]? = some b) (hg : v.ownBlock = some g)
    (ho : w'.ownsRow B 3 1 v c.length (vI (zs c))) (hgr : w.grownBy w' (some g)) : GAt B w' so vs (G.set k c) := by
  have hkG : k < G.length := (List.getElem?_eq_some_iff.1 hb).1
  refine ⟨by rw [List.length_set, h.len], owns_keepT h.out fun i hi => hgr.block i (h.out.lt i hi).2 fun e => h.aout v (List.mem_of_getElem? hv) g hg (by rw [hi]; exact e), fun i u d hu hd => ?_, h.apart, h.aout⟩
  rw [List.getElem?_set] at hd
  by_cases e : k = i
  · subst e
    rw [if_pos rfl, if_pos hkG] at hd
    obtain rfl := Option.some.inj hd
    rw [hv] at hu
    obtain rfl := Option.some.inj hu
    exact ho
  · rw [if_neg e] at hd
    have h1 := h.ins i u d hu hd
    exact owns_keepT h1 fun j hj => hgr.block j (h1.lt j hj).2 fun e2 => e (h.apart k i v u g hv hu hg (by rw [hj]; exact e2))
/-- The first i lists sorted. -/
def srtG (G : List (List Nat)) (i : Nat) : List (List Nat) := (G.take i).map srtN ++ G.drop i
theorem srtG_zero (G : List (List Nat)) : srtG G 0 = G := by simp [srtG]
theorem srtG_all (G : List (List Nat)) : srtG G G.length = G.map srtN := by simp [srtG]
theorem srtG_at {G : List (List Nat)} {i : Nat} {b : List Nat} (h : G[i]? = some b) : (srtG G i)[i]? = some b := by
  have hi := (List.getElem?_eq_some_iff.1 h).1
  unfold srtG
  rw [List.getElem?_append_right (by rw [List.length_map, List.length_take]; omega), List.length_map, List.length_take, Nat.min_eq_left (by omega), Nat.sub_self, List.getElem?_drop]; exact h
theorem srtG_step {G : List (List Nat)} {i : Nat} {b : List Nat} (h : G[i]? = some b) : (srtG G i).set i (srtN b) = srtG G (i + 1) := by
  have hi := (List.getElem?_eq_some_iff.1 h).1
  unfold srtG
  rw [List.set_append_right _ _ (by rw [List.length_map, List.length_take]; omega), List.length_map, List.length_take, Nat.min_eq_left (by omega), Nat.sub_self, drop1 h, take1 h]
  simp
/-- The lists as they lie in memory. -/
theorem GAt.lists {B : Nat} {w : World} {so : Value} {vs : List Value} {G : List (List Nat)} (h : GAt B w so vs G) : ∃ ws : List Iv, ws.map Iv.s = vs ∧ ws.map Iv.l = G ∧ ∀ v ∈ ws, ISees w v.ao (zs v.l) := by
  have key : ∀ (vs : List Value) (G : List (List Nat)), vs.length = G.length → (∀ (k : Nat) v b, vs[k]? = some v → G[k]? = some b → w.ownsRow B 3 1 v b.length (vI (zs b))) → ∃ ws : List Iv, ws.map Iv.s = vs ∧ ws.map Iv.l = G ∧ ∀ v ∈ ws, ISees w v.ao (zs v.l) := by
    intro vs
    induction vs with
    | nil =>
      intro G hl _
      obtain rfl : G = [] := List.eq_nil_of_length_eq_zero hl.symm
      exact ⟨[], rfl, rfl, fun v hv => by cases hv⟩
    | cons v vs ih =>
      intro G hl hi
      cases G with
      | nil => cases hl
      | cons b G =>
        obtain ⟨ws, h1, h2, h3⟩ := ih G (by simpa using hl) fun k u c hu hc => hi (k + 1) u c (by simpa using hu) (by simpa using hc)
        obtain ⟨ao, cp, e, hI⟩ := owns_isees (hi 0 v b rfl rfl)
        rw [zs_len] at e
        refine ⟨⟨ao, b, cp⟩ :: ws, ?_, ?_, fun u hu => ?_⟩
        · rw [List.map_cons, h1, e]; rfl
        · rw [List.map_cons, h2]
        · rcases List.mem_cons.1 hu with e2 | hu
          · subst e2; exact hI
          · exact h3 u hu
  exact key vs G h.len h.ins
end Go.Proofs.Ytdeobmihkcfofaa

/-
  CONTRACT: which of two heads comes first (cmp of a head). CONTRACT: a heap's entry is put below those that come ahead of it (sink). CONTRACT: a heap without its first cell (next). CONTRACT: a heap of many lists (newHeads).
-/
import Derived.Test.YtkdeaogmifhnhaaMrgPlain
import Derived.Test.YtkdeaogmifhnhaaVerCmp
import Derived.Test.YtkdeaogmifhnhaaCxWeigh
import Derived.Test.YtkdeaogmifhnhaaLoud
import Derived.Test.YtkdeaogmifhnhaaMrgZone
import Derived.Test.YtkdeaogmifhnhaaRecs
import Derived.Test.YtkdeaogmifhnhaaSrtRange
import Derived.WalkSmall
namespace Go.Proofs.Ytkdeaogmifhnhaa
open Go.RowKit

attribute [local go_sem] Oper.pureAt Oper.pureUpon
def Hd.a (h : Hd) : Array Value := #[.slice h.ao (h.r.length + 1) h.cap, .int .i64 h.pl]
def hv2 (h : Hd) : List Value := [.slice h.ao (h.r.length + 1) h.cap, .int .i64 h.pl]
theorem hv2_len (h : Hd) : (hv2 h).length = 2 := rfl
def Hd.In (w : World) (h : Hd) : Prop := XSees w h.ao (h.c :: h.r)
theorem Hd.In.ten {w : World} {h : Hd} (hi : h.In w) : ∃ b o, h.ao = some ⟨b, o, none⟩ ∧ TenX w b o h.c := by
  obtain ⟨b, o, e, t⟩ := hi 0 h.c rfl
  exact ⟨b, o, e, by simpa using t⟩
theorem or2 (w : World) (x1 x2 : Int) : Calls Try.prog 75 #[.slice (some ⟨w.heap.size, 0, none⟩) 2 2] (w.alloc (.cells #[.int .i64 x1, .int .i64 x2] 3)) fun x w' => x = .returned (.int .i64 (th x1 x2)) ∧ w' = (w.alloc (.cells #[.int .i64 x1, .int .i64 x2] 3)) := by
  have hg : (w.alloc (.cells #[.int .i64 x1, .int .i64 x2] 3)).heap[w.heap.size]? = some (.cells #[.int .i64 x1, .int .i64 x2] 3) := heap_alloc_new w _
  refine (or_any ⟨w.heap.size, 0, none⟩ [x1, x2] 2 _ (fun i hi => ?_) (by simp)).mono ?_
  · rw [Addr.add_lit, Nat.zero_add]
    simp only [World.cell?, hg]
    simp only [List.length_cons, List.length_nil] at hi
    rcases i with _ | _ | i
    · rfl
    · rfl
    · omega
  · rintro x w' ⟨rfl, rfl⟩
    refine ⟨?_, rfl⟩
    have : ∀ x, th x 0 = x := fun x => by unfold th; split <;> omega
    show _ = Ending.returned (.int .i64 (th x1 x2))
    rw [show fu [x1, x2] = th x1 (th x2 0) from rfl, this]
end Go.Proofs.Ytkdeaogmifhnhaa
namespace Go.Proofs.Ytkdeaogmifhnhaa
open Go.RowKit

def set2 (w : World) (g o : Nat) (x : Hd) : World := (w.setCell ⟨g, o, none⟩ (.slice x.ao (x.r.length + 1) x.cap)).setCell ⟨g, o + 1, none⟩ (.int .i64 x.pl)
/-- The lists lie in blocks that are Ok. -/
def HIn (w : World) (Ok : Nat → Prop) (L : List Hd) : Prop := ∀ x ∈ L, x.In w ∧ (∀ a, x.ao = some a → Ok a.block) ∧ x.r.length + 1 ≤ x.cap
theorem Hd.In.below {w w' : World} {B : Nat} {x : Hd} (h : x.In w) (hl : ∀ a, x.ao = some a → a.block < B) (hb : Below B w w') : x.In w' := fun i c hc => by
  obtain ⟨b, o, e, t⟩ := h i c hc
  exact ⟨b, o, e, t.below hb (hl _ e)⟩
theorem HIn.below {w w' : World} {B : Nat} {Ok : Nat → Prop} {L : List Hd} (h : HIn w Ok L) (hOk : ∀ k, Ok k → k < B) (hb : Below B w w') : HIn w' Ok L := fun x hx => ⟨(h x hx).1.below (fun a e => hOk _ ((h x hx).2.1 a e)) hb, (h x hx).2⟩
theorem HIn.perm {w : World} {Ok : Nat → Prop} {L M : List Hd} (h : HIn w Ok L) (hp : M.Perm L) : HIn w Ok M := fun x hx => h x (hp.subset hx)
theorem Zoned.below {a z B : Nat} {w w' : World} (h : Zoned a z w w') (hB : B ≤ a) (hw : B ≤ w.heap.size) : Below B w w' := ⟨h.os, h.tape, h.output, h.size, fun k hk => h.block k (by omega) (.inl (by omega))⟩
/-- The least of an entry and those below it, as far as they were looked at. -/
structure Fst (M : List Hd) (p f b : Nat) : Prop where
  bs : b = 2 * p + 1 ∨ b = 2 * p + 2 ∨ b = 2 * p + 3
  fs : f = p ∨ ((f = 2 * p + 1 ∨ f = 2 * p + 2) ∧ f < M.length)
  mn : ∀ c x y, (c = 2 * p + 1 ∨ c = 2 * p + 2) → c < b → M[c]? = some x → M[f]? = some y → hc y x ≤ 0
  up : ∀ x y, M[p]? = some x → M[f]? = some y → hc y x ≤ 0
theorem Fst.start (M : List Hd) (p : Nat) : Fst M p p (2 * p + 1) := ⟨.inl rfl, .inl rfl, fun c x y h1 h2 => by omega, fun x y hx hy => by rw [hx] at hy; cases hy; exact Int.le_of_eq (pc_self _)⟩
theorem Fst.keep {M : List Hd} {p f b : Nat} {x y : Hd} (h : Fst M p f b) (hb : b ≤ 2 * p + 2) (hx : M[b]? = some x) (hy : M[f]? = some y) (hn : ¬ hc x y < 0) : Fst M p f (b + 1) := by
  refine ⟨by have := h.bs; omega, h.fs, fun c u v hc hcb hu hv => ?_, h.up⟩
  by_cases e : c = b
  · subst e; rw [hx] at hu; cases hu; rw [hy] at hv; cases hv
    have := hc_n y x; omega
  · exact h.mn c u v hc (by omega) hu hv
theorem Fst.take {M : List Hd} {p f b : Nat} {x y : Hd} (h : Fst M p f b) (hb : b ≤ 2 * p + 2) (hx : M[b]? = some x) (hy : M[f]? = some y) (hn : hc x y < 0) : Fst M p b (b + 1) := by
  have hbl := (List.getElem?_eq_some_iff.1 hx).1
  have hbs := h.bs
  refine ⟨by omega, .inr ⟨by omega, hbl⟩, fun c u v hc hcb hu hv => ?_, fun u v hu hv => ?_⟩
  · rw [hx] at hv; cases hv
    by_cases e : c = b
    · subst e; rw [hx] at hu; cases hu; exact Int.le_of_eq (pc_self _)
    · exact hc_t (Int.le_of_lt hn) (h.mn c u y hc (by omega) hu hy)
  · rw [hx] at hv; cases hv
    exact hc_t (Int.le_of_lt hn) (h.up u y hu hy)
theorem Fst.all {M : List Hd} {p f b : Nat} {y : Hd} (h : Fst M p f b) (hb : 2 * p + 2 < b ∨ M.length ≤ b) (hy : M[f]? = some y) : ∀ c z, (c = 2 * p + 1 ∨ c = 2 * p + 2) → M[c]? = some z → hc y z ≤ 0 := fun c z hc hz => by
  have := (List.getElem?_eq_some_iff.1 hz).1
  exact h.mn c z y hc (by omega) hz hy
end Go.Proofs.Ytkdeaogmifhnhaa
namespace Go.Proofs.Ytkdeaogmifhnhaa
open Go.RowKit

theorem hfrom_set {a b : Hd} {T : List Hd} (h : HFrom (a :: T) 0) : HFrom (b :: T) 1 := fun j hj c x y hc hx hy => by
  obtain ⟨j, rfl⟩ : ∃ k, j = k + 1 := ⟨j - 1, by omega⟩
  obtain ⟨c, rfl⟩ : ∃ k, c = k + 1 := ⟨c - 1, by omega⟩
  exact h (j + 1) (Nat.zero_le _) (c + 1) x y hc (by simpa using hx) (by simpa using hy)
theorem hfrom_pop {a z : Hd} {T : List Hd} (h : HFrom (a :: (T ++ [z])) 0) : HFrom (z :: T) 1 := fun j hj c x y hc hx hy => by
  obtain ⟨j, rfl⟩ : ∃ k, j = k + 1 := ⟨j - 1, by omega⟩
  obtain ⟨c, rfl⟩ : ∃ k, c = k + 1 := ⟨c - 1, by omega⟩
  have hx' : T[c]? = some x := by simpa using hx
  have hy' : T[j]? = some y := by simpa using hy
  have h1 := (List.getElem?_eq_some_iff.1 hx').1
  have h2 := (List.getElem?_eq_some_iff.1 hy').1
  exact h (j + 1) (Nat.zero_le _) (c + 1) x y hc (by simp [List.getElem?_append_left h1, hx']) (by simp [List.getElem?_append_left h2, hy'])
theorem Hd.In.tail {w : World} {b o cap k : Nat} {c d : Cx} {r : List Cx} {p p' : Nat} (h : Hd.In w ⟨some ⟨b, o, none⟩, cap, c, d :: r, p⟩) : Hd.In w ⟨some ⟨b, o + 10, none⟩, k, d, r, p'⟩ := fun i x hx => by
  obtain ⟨b', o', e, t⟩ := h (i + 1) x (by simpa using hx)
  injection e with e
  injection e with e1 e2
  subst e1 e2
  refine ⟨b, o + 10, rfl, ?_⟩
  have : o + 10 + i * 10 = o + (i + 1) * 10 := by omega
  rw [this]; exact t
end Go.Proofs.Ytkdeaogmifhnhaa
namespace Go.Proofs.Ytkdeaogmifhnhaa
open Go.RowKit

/-- A list of cells in memory. -/
structure Lv where
  ao : Option Addr
  cap : Nat
  l : List Cx
def Lv.s (v : Lv) : Value := .slice v.ao v.l.length v.cap
def Lv.At (w : World) (Ok : Nat → Prop) (v : Lv) : Prop := XSees w v.ao v.l ∧ (∀ a, v.ao = some a → Ok a.block) ∧ v.l.length ≤ v.cap
theorem Lv.At.below {w w' : World} {B : Nat} {Ok : Nat → Prop} {v : Lv} (h : v.At w Ok) (hOk : ∀ k, Ok k → k < B) (hb : Below B w w') : v.At w' Ok :=
  ⟨fun i c hc => by obtain ⟨b, o, e, t⟩ := h.1 i c hc; exact ⟨b, o, e, t.below hb (hOk _ (h.2.1 _ e))⟩, h.2⟩
/-- Many of them. -/
def LSees (w : World) (lo : Option Addr) (vs : List Lv) : Prop := ∀ i v, vs[i]? = some v → ∃ b off, lo = some ⟨b, off, none⟩ ∧ w.cell? ⟨b, off + i, none⟩ = some v.s
theorem LSees.below {w w' : World} {lo : Option Addr} {vs : List Lv} (h : LSees w lo vs) {B : Nat} (hb : Below B w w') (hB : w.heap.size ≤ B) : LSees w' lo vs := fun i v hv => by
  obtain ⟨b, off, e, hc⟩ := h i v hv
  have := World.block_lt_of_cell? _ _ hc
  exact ⟨b, off, e, (hb.cell (p := ⟨b, off + i, none⟩) (Nat.lt_of_lt_of_le this hB)).trans hc⟩
theorem hv2_one (h : Hd) : ∀ u ∈ hv2 h, u.oneCell' = true := by
  intro u hu
  simp only [hv2, List.mem_cons, List.not_mem_nil, or_false] at hu
  rcases hu with rfl | rfl <;> rfl
theorem prs_snoc (L : List Hd) (h : Hd) : prs (L ++ [h]) = prs L ++ h.all := by unfold prs; simp
end Go.Proofs.Ytkdeaogmifhnhaa

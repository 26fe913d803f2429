/-
  SKIP'S LAW SkipGets: what a key has, behind each Put; a list beside a version in memory.
-/
import Derived.Test.YtlhojbgpmjcjlaaSkLaw
namespace Go.Proofs.Ytlhojbgpmjcjlaa
open Go.RowKit

/-- What a key has, when one cell more was put in. -/
theorem fnd_add {κ : Kb} {c : Cx} : ∀ {O : List Cx}, Rising O → fnd κ (addC O c) = if @decide (c.k = κ) (Classical.propDecidable _) then (if (fnd κ O).2 then (jn (fnd κ O).1 c.v, true) else (c.v, true)) else fnd κ O
  | [], _ => by
    by_cases h : c.k = κ
    · rw [if_pos (@decide_eq_true _ (Classical.propDecidable _) h)]
      show fnd κ [c] = _
      rw [fnd_hit [] h]
      have e : (fnd κ []).2 = false := rfl
      rw [e]; rfl
    · rw [if_neg (by simpa using h)]
      show fnd κ [c] = _
      rw [fnd_miss [] h]
  | x :: O, hr => by
    obtain ⟨hx, hO⟩ := List.pairwise_cons.1 hr
    rcases Int.lt_or_le (kx x c) 0 with h1 | h1
    · rw [addC_behind O h1]
      have ih := fnd_add (κ := κ) (c := c) hO
      by_cases hxk : x.k = κ
      · have hck : c.k ≠ κ := fun e => by
          have e2 : x.k = c.k := hxk.trans e.symm
          have : kx x c = 0 := (kc_cmpr.z _ _).2 (by rw [e2])
          omega
        rw [if_neg (by simpa using hck), fnd_hit _ hxk, fnd_hit _ hxk]
      · rw [fnd_miss _ hxk, fnd_miss _ hxk, ih]
    · by_cases h0 : kx x c = 0
      · rw [addC_same O h0]
        have e2 : x.k = c.k := Kb.ky_inj.1 ((kc_cmpr.z _ _).1 h0)
        by_cases hck : c.k = κ
        · rw [if_pos (@decide_eq_true _ (Classical.propDecidable _) hck), fnd_hit O (show (jnC x c).k = κ from e2.trans hck), fnd_hit O (e2.trans hck)]
          rfl
        · have hxk : x.k ≠ κ := fun e => hck (e2.symm.trans e)
          rw [if_neg (by simpa using hck), fnd_miss O (show (jnC x c).k ≠ κ from hxk), fnd_miss O hxk]
      · have h2 : 0 < kx x c := by omega
        rw [addC_ahead O h2]
        by_cases hck : c.k = κ
        · rw [if_pos (@decide_eq_true _ (Classical.propDecidable _) hck), fnd_hit _ hck]
          have hb : ∀ y ∈ x :: O, y.k ≠ κ := fun y hy e => by
            have hxy : kx x y ≤ 0 := by
              rcases List.mem_cons.1 hy with rfl | hy
              · exact Int.le_of_eq ((kc_cmpr.z _ _).2 rfl)
              · have := hx y hy; omega
            have e2 : y.k = c.k := e.trans hck.symm
            have : kx x c = kx x y := kx_right e2.symm
            omega
          rw [fnd_behind hb]; rfl
        · rw [if_neg (by simpa using hck), fnd_miss _ hck]
theorem putG_h {hs : List Nat} (hne : hs ≠ []) {M : List (Cx × Nat)} {c : Cx} (h : ∀ p ∈ M, p.2 ∈ hs) : ∀ p ∈ putG hs M c, p.2 ∈ hs := by
  have key : ∀ (H : Nat), H ∈ hs → ∀ M : List (Cx × Nat), (∀ p ∈ M, p.2 ∈ hs) → ∀ p ∈ putH H M c, p.2 ∈ hs := fun H hH M => by
    induction M with
    | nil =>
      intro _ p hp
      rw [putH] at hp
      obtain rfl : p = (c, H) := by simpa using hp
      exact hH
    | cons x M ih =>
      intro hM p hp
      rw [putH] at hp
      split at hp
      · rcases List.mem_cons.1 hp with rfl | hp
        · exact hM x (by simp)
        · exact hM p (by simp [hp])
      · split at hp
        · rcases List.mem_cons.1 hp with rfl | hp
          · exact hH
          · exact hM p hp
        · rcases List.mem_cons.1 hp with rfl | hp
          · exact hM p (by simp)
          · exact ih (fun q hq => hM q (by simp [hq])) p hp
  unfold putG
  split
  · unfold putM
    refine key _ ?_ M h
    unfold nextH
    have hp : 0 < hs.length := List.length_pos_iff.2 hne
    rw [List.getD_eq_getElem?_getD, List.getElem?_eq_getElem (Nat.mod_lt _ hp)]
    exact List.getElem_mem _
  · exact h
def vL6 (v : Vr) : List Value := [.int .i64 v.time, .bool v.dead, .int .i64 v.loc, .int .i64 v.kind, .int .i64 v.num, .string v.s]
/-- A list and a version, of the call's own, apart. -/
structure Gv (B : Nat) (w w' : World) (S : SkId) (hs : List Nat) (T : List Tw) (vb : Nat) (v : Vr) : Prop where
  sk : SkB B w w' S hs T
  box : Blk w' vb (vL6 v) 38
  ne : vb ∉ S.gh :: S.ft T
  lo : B ≤ vb
  hh : ∀ t ∈ T, t.h ∈ hs
section
variable {B : Nat} {w w' w'' : World} {S : SkId} {hs : List Nat} {T T' : List Tw} {vb : Nat} {v : Vr}
theorem Gv.below (h : Gv B w w' S hs T vb v) (hb : Below w'.heap.size w' w'') : Gv B w w'' S hs T vb v :=
  ⟨h.sk.below hb, h.box.below hb h.box.lt, h.ne, h.lo, h.hh⟩
theorem Gv.put {c : Cx} (h : Gv B w w' S hs T vb v) (hS : SkAt w'' S hs T') (hM : Moved w' w'' (S.ft T) (S.ft T')) (hp : T'.map Tw.p = putG hs (T.map Tw.p) c) : Gv B w w'' S hs T' vb v := by
  have hne := h.ne
  refine ⟨h.sk.put hS hM, h.box.carry (hM.kept vb h.box.lt fun e => hne (List.mem_cons_of_mem _ e)), fun hm => ?_, h.lo, fun t ht => ?_⟩
  · rcases List.mem_cons.1 hm with e | hm
    · exact hne (by rw [e]; simp)
    · rcases hM.news vb hm with h1 | h1
      · exact hne (List.mem_cons_of_mem _ h1)
      · have := h.box.lt; omega
  · have h1 : t.p ∈ putG hs (T.map Tw.p) c := by rw [← hp]; exact List.mem_map_of_mem ht
    refine putG_h hS.hne ?_ t.p h1
    intro p hp
    obtain ⟨u, hu, rfl⟩ := List.mem_map.1 hp
    exact h.hh u hu
theorem Gv.set (h : Gv B w w' S hs T vb v) (u : Vr) : Gv B w ((((((w'.setCell ⟨vb, 0, none⟩ (.int .i64 u.time)).setCell ⟨vb, 1, none⟩ (.bool u.dead)).setCell ⟨vb, 2, none⟩ (.int .i64 u.loc)).setCell ⟨vb, 3, none⟩ (.int .i64 u.kind)).setCell ⟨vb, 4, none⟩ (.int .i64 u.num)).setCell ⟨vb, 5, none⟩ (.string u.s)) S hs T vb u := by
  have hbox := set6b h.box rfl (.int .i64 u.time) (.bool u.dead) (.int .i64 u.loc) (.int .i64 u.kind) (.int .i64 u.num) (.string u.s)
  have hbel := below6 (h.sk.bel) h.lo (.int .i64 u.time) (.bool u.dead) (.int .i64 u.loc) (.int .i64 u.kind) (.int .i64 u.num) (.string u.s)
  generalize hW : ((((((w'.setCell ⟨vb, 0, none⟩ (.int .i64 u.time)).setCell ⟨vb, 1, none⟩ (.bool u.dead)).setCell ⟨vb, 2, none⟩ (.int .i64 u.loc)).setCell ⟨vb, 3, none⟩ (.int .i64 u.kind)).setCell ⟨vb, 4, none⟩ (.int .i64 u.num)).setCell ⟨vb, 5, none⟩ (.string u.s)) = W at *
  have hoth : ∀ b, b ≠ vb → W.heap[b]? = w'.heap[b]? := fun b hb => by
    rw [← hW]
    exact (Below.heap_setCell _ _ _ _ hb).trans ((Below.heap_setCell _ _ _ _ hb).trans ((Below.heap_setCell _ _ _ _ hb).trans ((Below.heap_setCell _ _ _ _ hb).trans ((Below.heap_setCell _ _ _ _ hb).trans (Below.heap_setCell _ _ _ _ hb)))))
  have hsz : W.heap.size = w'.heap.size := by rw [← hW]; simp
  refine ⟨⟨h.sk.sk.carry fun b _ hm => hoth b fun e => h.ne (e ▸ hm), hbel, h.sk.low, by rw [hsz]; exact h.sk.siz⟩, hbox, h.ne, h.lo, h.hh⟩
end
theorem tenKeep {w w' : World} {b o : Nat} {c : Cx} (h : TenX w b o c) (e : w'.heap[b]? = w.heap[b]?) : TenX w' b o c := by
  obtain ⟨c0, c1, c2, c3, c4, c5, c6, c7, c8, c9⟩ := h
  constructor <;> (rw [World.cell?_of_block e]; assumption)
/-- Put beside a version, the cell being boxed. -/
theorem putV_any {B : Nat} {w w' : World} {S : SkId} {hs : List Nat} {T : List Tw} {vb : Nat} {v : Vr} {l : List Cx} (h : Gv B w w' S hs T vb v) (hl : l.length ≤ 200) (hw : wtXs l ≤ 4000) (i : Nat) (c : Cx) (hc : l[i]? = some c) (hT : cs T = nrm (goods (l.take i))) :
    Calls Try.prog 10 #[.pointer (some ⟨S.l, 0, none⟩), c.val] (w'.alloc (.cells c.a 40)) fun e w'' => ∃ T', e = .returned (.int .i64 (if goodC c then 0 else 2)) ∧ Gv B w w'' S hs T' vb v ∧ cs T' = nrm (goods (l.take (i + 1))) ∧ TenX w'' w'.heap.size 0 c ∧ cs T' = if goodC c then addC (cs T) c else cs T := by
  obtain ⟨a1, a2, a3, a4⟩ := wt_mem (List.mem_of_getElem? hc) hw
  have hlen := cs_len hT
  rw [List.length_take] at hlen
  have hm : (4000 : Nat) ≤ maxLen := by decide
  have hA := h.below ((Below.refl w'.heap.size w').alloc (Nat.le_refl _) (.cells c.a 40))
  have ht := TenX.new w' c 40
  exact (put_any S hs T c _ hA.sk.sk (by omega) (by omega) (by omega) (by omega) (by omega)).mono fun e w'' ⟨T', he, hS, hp, hM⟩ => ⟨T', he, hA.put hS hM hp, by rw [takeX_succ hc]; exact put_cs hp hT, tenKeep ht (hM.kept _ ht.lt fun e2 => by have := h.sk.sk.ftlt _ e2; omega), by
    unfold cs
    rw [c_of, hp, putG_fst, ← c_of]⟩
end Go.Proofs.Ytlhojbgpmjcjlaa

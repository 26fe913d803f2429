/-
  CONTRACTS: Put, whatever the cell; the law's plain cell (at); the very same numbers (Ints).
-/
import Derived.Test.YtlhojbgpmjcjlaaSkAll
namespace Go.Proofs.Ytlhojbgpmjcjlaa
open Go.RowKit

def putG (hs : List Nat) (M : List (Cx × Nat)) (c : Cx) : List (Cx × Nat) := if goodC c then putM hs M c else M
theorem putH_len (H : Nat) : ∀ (M : List (Cx × Nat)) (c : Cx), (putH H M c).length ≤ M.length + 1
  | [], _ => by simp [putH]
  | x :: M, c => by
    have := putH_len H M c
    rw [putH]
    split
    · simp
    · split <;> simp <;> omega
theorem putG_len (hs : List Nat) (M : List (Cx × Nat)) (c : Cx) : (putG hs M c).length ≤ M.length + 1 := by
  unfold putG
  split
  · exact putH_len _ M c
  · omega
/-- Put. -/
theorem put_any (S : SkId) (hs : List Nat) (T : List Tw) (c : Cx) (w : World) (h : SkAt w S hs T) (hlen : T.length < 1000000) (h1 : c.k.t.size ≤ maxLen) (h2 : c.k.p.size ≤ maxLen) (h3 : c.k.c.size ≤ maxLen) (h4 : c.v.s.size ≤ maxLen) :
    Calls Try.prog 10 #[.pointer (some ⟨S.l, 0, none⟩), c.val] w fun e w' => ∃ T', e = .returned (.int .i64 (if goodC c then 0 else 2)) ∧ SkAt w' S hs T' ∧ T'.map Tw.p = putG hs (T.map Tw.p) c ∧ Moved w w' (S.ft T) (S.ft T') := by
  by_cases hg : goodC c = true
  · obtain ⟨A, R, rfl, hA, hR⟩ := key_part c.k T h.up
    have hp : putG hs ((A ++ R).map Tw.p) c = putM hs ((A ++ R).map Tw.p) c := by unfold putG; rw [if_pos hg]
    rw [hp, if_pos hg]
    have new : (∀ u R', R = u :: R' → u.c.k ≠ c.k) → Calls Try.prog 10 #[.pointer (some ⟨S.l, 0, none⟩), c.val] w fun e w' => ∃ T', e = .returned (.int .i64 0) ∧ SkAt w' S hs T' ∧ T'.map Tw.p = putM hs ((A ++ R).map Tw.p) c ∧ Moved w w' (S.ft (A ++ R)) (S.ft T') := fun hk =>
      (put_new S hs A R c w h hA hR hk hlen hg h1 h2 h3 h4).mono fun e w' ⟨n, he, hS, _, hM⟩ => ⟨_, he, hS, map_put_new hA hR hk, hM⟩
    cases R with
    | nil => exact new (fun u R' e => by cases e)
    | cons t R =>
      by_cases hk : t.c.k = c.k
      · exact (put_same S hs A R t c w h hA hR hk hg h1 h2 h3 h4).mono fun e w' ⟨he, hS, hM⟩ => ⟨_, he, hS, map_put_same hA hk, hM⟩
      · exact new (fun u R' e => by injection e with e1 e2; subst e1; exact hk)
  · have hg' : goodC c = false := by simpa using hg
    have hp : putG hs (T.map Tw.p) c = T.map Tw.p := by unfold putG; rw [if_neg hg]
    rw [hp, if_neg hg]
    exact (put_bad S hs T c w h hg' h1 h2 h3 h4).mono fun e w' ⟨he, hb⟩ => ⟨T, he, h.below hb (Nat.le_refl _), rfl, ⟨hb.os, hb.tape, hb.output, hb.size, fun i hi _ => hb.block i hi, fun i hi => .inl hi⟩⟩
/-- What lies apart from a list is as it was. -/
theorem SkAt.moved {w w' : World} {S S2 : SkId} {hs2 : List Nat} {T T' T2 : List Tw} (h : SkAt w S2 hs2 T2) (hM : Moved w w' (S.ft T) (S.ft T')) (hd : ∀ b ∈ S2.gh :: S2.ft T2, b ∉ S.ft T) : SkAt w' S2 hs2 T2 :=
  h.carry fun b hb hm => hM.kept b hb (hd b hm)
set_option maxRecDepth 100000 in
theorem at_any (s : ByteArray) (n : Int) (w : World) : Calls Try.prog 23 #[.string s, .int .i64 n] w fun x w' => x = .returned (Cx.val ⟨⟨⟨#[116]⟩, ⟨#[120]⟩, 0, s⟩, ⟨n, false, 0, 1, n, ⟨#[]⟩⟩⟩) ∧ Below w.heap.size w w' := by
  simp only [Cx.val, Cx.a]
  have hg : Hid (∀ o : Obj, (w.alloc o).heap[w.heap.size]? = some o) := fun o => heap_alloc_new w o
  go_enter Try.func23, Try.ntmps23
  go_wp2_with fail
  refine bodyPost_ret (v := .agg #[.string ⟨#[116]⟩, .string ⟨#[120]⟩, .int .i64 0, .string s, .int .i64 n, .bool false, .int .i64 0, .int .i64 1, .int .i64 n, .string ⟨#[]⟩]) (results_cell_row Try.results23 _ _ w.heap.size 40 _ _ _ rfl (hg.out _) Try.underlying40 rfl (by kernel_rfl)) rfl ?_
  exact ⟨rfl, (Below.refl _ _).alloc (Nat.le_refl _) _⟩
set_option maxRecDepth 100000 in
set_option maxHeartbeats 1000000 in
theorem ints_same (ao bo : Option Addr) (l : List Int) (ca cb : Nat) (w : World) (ha : ISees w ao l) (hb : ISees w bo l) (hl : l.length ≤ 1000000) :
    Calls Try.prog 18 #[.slice ao l.length ca, .slice bo l.length cb] w fun e w' => e = .returned (.bool true) ∧ Below w.heap.size w w' := by
  have hlz : (l.length : Int) ≤ 1000000 := by omega
  go_enter Try.func18, Try.ntmps18
  go_wp2_with fail
  go_loopw [13] (fun s13 wr => ∃ i : Nat, i ≤ l.length ∧ s13 = .int .i64 i ∧ Below w.heap.size w wr) (fun s13 _ => l.length - (intOf s13).toNat)
  case atStart => exact ⟨0, by omega, rfl, Below.refl _ _⟩
  case round =>
    obtain ⟨i, hi, rfl, hbr⟩ := hrel
    rcases Nat.lt_or_ge i l.length with hlt | hge
    · have hc : l[i]? = some l[i] := List.getElem?_eq_getElem hlt
      obtain ⟨b, off, rfl, cx⟩ := (ha.below hbr (Nat.le_refl _)) i _ hc
      obtain ⟨b', off', rfl, cy⟩ := (hb.below hbr (Nat.le_refl _)) i _ hc
      generalize l[i] = x at *
      have HE : Hid (∀ w', Below wr.heap.size wr w' → Below w.heap.size w w') := fun w' h => hbr.trans (h.mono hbr.size)
      have hltz : (i : Int) < (l.length : Int) := by omega
      have q0 : ∀ z : Cl wr.heap.size wr, z.u.cell? ⟨b, off + i, none⟩ = some (.int .i64 x) := fun z => z.cell (World.block_lt_of_cell? _ _ cx) cx
      have q1 : ∀ z : Cl wr.heap.size wr, z.u.cell? ⟨b', off' + i, none⟩ = some (.int .i64 x) := fun z => z.cell (World.block_lt_of_cell? _ _ cy) cy
      clear ha hb hc cx cy hbr
      haveI := Cl.inh wr.heap.size wr
      go_wp2_with fail
      refine wp_region_cl wr.heap.size (by kernel_rfl) (by kernel_rfl) ?_
      repeat quiet_step (fail)
      refine wpQuiet_nil ?_
      rintro w0 ⟨z, rfl⟩
      have hz := HE.out _ z.h
      go_wp2_with fail
      go_roundw
      case rel => exact ⟨i + 1, by omega, by go_num, hz⟩
      case measure => (simp [intOf]; try omega)
    · have hgez : ¬ (i : Int) < (l.length : Int) := by omega
      clear ha hb
      go_wp2_with fail
      go_ret
      exact ⟨rfl, hbr⟩
theorem owns_isees {w : World} {base : Nat} {v : Value} {l : List Int} {n : Nat} (h : w.ownsRow base 3 1 v n (vI l)) : ∃ ao cap, v = .slice ao l.length cap ∧ ISees w ao l := by
  have hl : l.length = n := by have := h.1; rwa [vI_len, Nat.mul_one] at this
  have h0 := h
  rcases h.2 with ⟨rfl, rfl⟩ | ⟨g, cap, cur, rfl, hg, hh, hn, hm, hs, ht⟩
  · exact ⟨none, 0, by rw [hl], fun i x hx => by have := (List.getElem?_eq_some_iff.1 hx).1; omega⟩
  · refine ⟨some ⟨g, 0, none⟩, cap, by rw [hl], fun i x hx => ⟨g, 0, rfl, ?_⟩⟩
    have := h0.cells (g := g) rfl _ _ (vI_at hx)
    rw [Addr.add_lit] at this; exact this
end Go.Proofs.Ytlhojbgpmjcjlaa

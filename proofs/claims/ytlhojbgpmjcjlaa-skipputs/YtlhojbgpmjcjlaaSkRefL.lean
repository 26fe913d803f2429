/-
  THE DOCUMENT'S LIST (skerryref06): its height.
-/
import Derived.Test.YtlhojbgpmjcjlaaSkLaw
import Derived.Test.YtlhojbgpmjcjlaaLoud
import Derived.Test.YtlhojbgpmjcjlaaVerRefGood
namespace Go.Proofs.Ytlhojbgpmjcjlaa
open Go.RowKit

attribute [local go_sem] Oper.pureAt Oper.pureUpon
attribute [local irreducible] wpQuiet
theorem nextH_clmp {li : List Int} {n : Nat} {x : Int} (h0 : li ≠ []) (hx : li[n % li.length]? = some x) : nextH (lvls li) n = clmp x := by
  unfold nextH lvls
  rw [if_neg h0, List.length_map, List.getD_eq_getElem?_getD, List.getElem?_map, hx]; rfl
set_option maxRecDepth 100000 in
set_option maxHeartbeats 2000000 in
theorem refHeight_any (rb : Nat) (io : Option Addr) (li : List Int) (icap : Nat) (aL : Option Addr) (n cL : Nat) (vH : Value) (w : World) (hb : Blk w rb [.slice io li.length icap, .slice aL n cL, vH] 34) (his : ISees w io li) (hl : li.length ≤ 1000) (hn : n ≤ 1000000) :
    Calls Try.prog 33 #[.pointer (some ⟨rb, 0, none⟩)] w fun e w' => e = .returned (.int .i64 (nextH (lvls li) n : Nat)) ∧ Below w.heap.size w w' := by
  have c0 := hb.cell 0 rfl
  by_cases h0 : li = []
  · subst h0
    have e : nextH (lvls []) n = 1 := by
      show ([1] : List Nat).getD (n % 1) 1 = 1
      rw [Nat.mod_one]; rfl
    rw [e]
    simp only [List.length_nil] at *
    go_enter Try.func33, Try.ntmps33
    go_wp2_with fail
    go_ret
    exact ⟨rfl, Below.refl _ _⟩
  · have hp : 0 < li.length := List.length_pos_iff.2 h0
    have hm : n % li.length < li.length := Nat.mod_lt _ hp
    have hx : li[n % li.length]? = some li[n % li.length] := List.getElem?_eq_getElem hm
    have hE := nextH_clmp h0 hx
    obtain ⟨b, off, rfl, cx⟩ := his _ _ hx
    rw [hE]
    generalize li[n % li.length] = x at *
    have hcl : Hid ((clmp x : Int) = if x < 1 then 1 else if 8 < x then 8 else x) := by
      show (clmp x : Int) = _
      unfold clmp
      split <;> (try split) <;> omega
    have hlz : ¬ (li.length : Int) = 0 := by omega
    have hl0 : ¬ li.length = 0 := by omega
    have hrem : Int.tmod (n : Int) (li.length : Int) = ((n % li.length : Nat) : Int) := by rw [Int.tmod_eq_emod_of_nonneg (by omega)]; rfl
    have hmz : ((n % li.length : Nat) : Int) < (li.length : Int) := by omega
    generalize n % li.length = m at *
    have hlz2 : (li.length : Int) ≤ 1000 := by omega
    have hnz : (n : Int) ≤ 1000000 := by omega
    have q0 : ∀ z : Cl w.heap.size w, z.u.cell? ⟨rb, 0, none⟩ = some (.slice (some ⟨b, off, none⟩) li.length icap) := fun z => z.cell hb.lt c0
    have q1 : ∀ z : Cl w.heap.size w, z.u.cell? ⟨rb, 1, none⟩ = some (.slice aL n cL) := fun z => z.cell hb.lt (hb.cell 1 rfl)
    have q2 : ∀ z : Cl w.heap.size w, z.u.cell? ⟨b, off + m, none⟩ = some (.int .i64 x) := fun z => z.cell (World.block_lt_of_cell? _ _ cx) cx
    clear his hx hE h0 hb
    haveI := Cl.inh w.heap.size w
    go_enter Try.func33, Try.ntmps33
    go_wp2_with fail
    refine wp_region_cl w.heap.size (by kernel_rfl) (by kernel_rfl) ?_
    repeat quiet_step (fail)
    refine wpQuiet_nil ?_
    rintro w1 ⟨z, rfl⟩
    have hz := z.h
    by_cases h1 : x < 1
    · have e := hcl.out
      rw [if_pos h1] at e
      go_wp2_with fail
      go_ret
      exact ⟨ret_int (by first | rfl | exact e.symm), hz⟩
    · by_cases h8 : 8 < x
      · have e := hcl.out
        rw [if_neg h1, if_pos h8] at e
        go_wp2_with fail
        go_ret
        exact ⟨ret_int (by first | rfl | exact e.symm), hz⟩
      · have e := hcl.out
        rw [if_neg h1, if_neg h8] at e
        go_wp2_with fail
        go_ret
        exact ⟨ret_int (by first | rfl | exact e.symm), hz⟩
/-! ### The list in memory -/
def vN (M : List (Cx × Nat)) : List Value := vI (M.map fun p => (p.2 : Int))
def xN (M : List (Cx × Nat)) : List Value := (M.map Prod.fst).flatMap xs10
/-- The document's list. -/
structure RfAt (B : Nat) (w : World) (rb : Nat) (lv : Value) (M : List (Cx × Nat)) (vL vH : Value) : Prop where
  blk : Blk w rb [lv, vL, vH] 34
  L : w.ownsRow B 40 10 vL M.length (xN M)
  H : w.ownsRow B 3 1 vH M.length (vN M)
  nil : M = [] → vL = .slice none 0 0 ∧ vH = .slice none 0 0
/-- What Put may write. -/
def rft (rb : Nat) (vL : Value) : List Nat := rb :: vL.ownBlock.toList
section
variable {B : Nat} {w w' : World} {rb : Nat} {lv : Value} {M : List (Cx × Nat)} {vL vH : Value}
theorem RfAt.rbL (h : RfAt B w rb lv M vL vH) : vL.ownBlock ≠ some rb := fun e => by
  rcases h.L.2 with ⟨rfl, _⟩ | ⟨g, cap, cur, rfl, _, hg, _⟩
  · cases e
  · obtain rfl : g = rb := by simpa [Value.ownBlock] using e
    have hb := h.blk
    unfold Blk at hb
    rw [hg] at hb; simp at hb
theorem RfAt.rbH (h : RfAt B w rb lv M vL vH) : vH.ownBlock ≠ some rb := fun e => by
  rcases h.H.2 with ⟨rfl, _⟩ | ⟨g, cap, cur, rfl, _, hg, _⟩
  · cases e
  · obtain rfl : g = rb := by simpa [Value.ownBlock] using e
    have hb := h.blk
    unfold Blk at hb
    rw [hg] at hb; simp at hb
theorem RfAt.LH (h : RfAt B w rb lv M vL vH) {g : Nat} (h1 : vL.ownBlock = some g) : vH.ownBlock ≠ some g := fun e => by
  rcases h.L.2 with ⟨rfl, _⟩ | ⟨g1, cap, cur, rfl, _, hg, _⟩
  · cases h1
  · obtain rfl : g1 = g := by simpa [Value.ownBlock] using h1
    rcases h.H.2 with ⟨rfl, _⟩ | ⟨g2, cap2, cur2, rfl, _, hg2, _⟩
    · cases e
    · obtain rfl : g2 = g1 := by simpa [Value.ownBlock] using e
      rw [hg] at hg2; simp at hg2
theorem RfAt.carry (h : RfAt B w rb lv M vL vH) (e : ∀ b, b = rb ∨ vL.ownBlock = some b ∨ vH.ownBlock = some b → w'.heap[b]? = w.heap[b]?) : RfAt B w' rb lv M vL vH :=
  ⟨h.blk.carry (e _ (.inl rfl)), owKeep h.L fun g hg => e g (.inr (.inl hg)), owKeep h.H fun g hg => e g (.inr (.inr hg)), h.nil⟩
theorem RfAt.below (h : RfAt B w rb lv M vL vH) (hb : Below w.heap.size w w') : RfAt B w' rb lv M vL vH :=
  h.carry fun b hm => hb.block b (by
    rcases hm with rfl | hm | hm
    · exact h.blk.lt
    · exact (h.L.lt b hm).2
    · exact (h.H.lt b hm).2)
end
theorem part_at {c : Cx} : ∀ {M : List (Cx × Nat)} (k : Nat), k ≤ M.length → (∀ j p, j < k → M[j]? = some p → kx p.1 c < 0) → ∀ p ∈ M.take k, kx p.1 c < 0 := fun {M} k hk h p hp => by
  obtain ⟨j, hj, rfl⟩ := List.mem_iff_getElem.1 hp
  have hj' : j < k := by rw [List.length_take] at hj; omega
  refine h j _ hj' ?_
  rw [List.getElem_take, List.getElem?_eq_getElem]
theorem putM_at {hs : List Nat} {M : List (Cx × Nat)} {c : Cx} {k : Nat} (hk : k ≤ M.length) (h : ∀ j p, j < k → M[j]? = some p → kx p.1 c < 0) : putM hs M c = M.take k ++ putH (nextH hs M.length) (M.drop k) c := by
  unfold putM
  conv => lhs; rw [← List.take_append_drop k M]
  rw [putH_skip _ (part_at k hk h), List.take_append_drop]
theorem putM_same {hs : List Nat} {M : List (Cx × Nat)} {c : Cx} {k : Nat} {x : Cx × Nat} (hx : M[k]? = some x) (h : ∀ j p, j < k → M[j]? = some p → kx p.1 c < 0) (h0 : kx x.1 c = 0) : putM hs M c = M.set k (jnC x.1 c, x.2) := by
  have hk : k < M.length := (List.getElem?_eq_some_iff.1 hx).1
  have hd : M.drop k = x :: M.drop (k + 1) := by
    rw [List.drop_eq_getElem_cons hk, (List.getElem?_eq_some_iff.1 hx).2]
  rw [putM_at (Nat.le_of_lt hk) h, hd, putH_same _ h0, List.set_eq_take_append_cons_drop, if_pos hk]
theorem putM_new {hs : List Nat} {M : List (Cx × Nat)} {c : Cx} {k : Nat} (hk : k ≤ M.length) (h : ∀ j p, j < k → M[j]? = some p → kx p.1 c < 0) (h0 : ∀ x, M[k]? = some x → 0 < kx x.1 c) : putM hs M c = M.take k ++ [(c, nextH hs M.length)] ++ M.drop k := by
  rw [putM_at hk h, List.append_assoc]
  congr 1
  rcases Nat.lt_or_ge k M.length with hlt | hge
  · rw [List.drop_eq_getElem_cons hlt, putH_ahead _ (h0 _ (List.getElem?_eq_getElem hlt))]; rfl
  · rw [List.drop_eq_nil_of_le hge]; rfl
end Go.Proofs.Ytlhojbgpmjcjlaa

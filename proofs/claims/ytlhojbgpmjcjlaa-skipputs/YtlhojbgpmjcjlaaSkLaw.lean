/-
  SKIP'S LAWS: how heavy cells are (weigh); two lists and a row, apart from each other; what Puts come to.
-/
import Derived.Test.YtlhojbgpmjcjlaaSkLives
import Derived.Test.YtlhojbgpmjcjlaaNormGood
import Derived.Test.YtlhojbgpmjcjlaaCxRefMore
namespace Go.Proofs.Ytlhojbgpmjcjlaa
open Go.RowKit

set_option maxRecDepth 100000 in
set_option maxHeartbeats 1600000 in
theorem weigh6_any (ao : Option Addr) (l : List Cx) (cap m : Nat) (w : World) (ha : XSees w ao l) (hm : m ≤ 500) (hl : l.length ≤ 140737488355328) (hw : ∀ c ∈ l, wtX c ≤ 562949953421312) :
    Calls Try.prog 7 #[.slice ao l.length cap, .int .i64 m] w fun e w' => (∃ z : Nat, e = .returned (.int .i64 z) ∧ z ≤ 1000000000000000 ∧ (z ≤ m → l.length ≤ m ∧ wtXs l ≤ 20 * m)) ∧ Below w.heap.size w w' := by
  go_enter Try.func7, Try.ntmps7
  go_wp2
  go_loopw [5, 10] (fun s5 s10 wr => ∃ i z : Nat, i ≤ l.length ∧ s5 = .int .i64 z ∧ s10 = .int .i64 i ∧ i ≤ z ∧ z ≤ m ∧ wtXs (l.take i) ≤ 20 * z ∧ Below w.heap.size w wr) (fun _ s10 _ => l.length - (intOf s10).toNat)
  case atStart => exact ⟨0, 0, by omega, rfl, rfl, by omega, by omega, by simp [wtXs], Below.refl _ _⟩
  case round =>
    obtain ⟨i, z, hi, rfl, rfl, hiz, hz, hwz, hbr⟩ := hrel
    rcases Nat.lt_or_ge i l.length with hlt | hge
    · have hc : l[i]? = some l[i] := List.getElem?_eq_getElem hlt
      have hcw := hw l[i] (List.getElem_mem hlt)
      have hst : wtXs (l.take (i + 1)) = wtXs (l.take i) + wtX l[i] := by
        rw [takeX_succ hc]
        unfold wtXs
        rw [List.map_append, List.sum_append]
        simp
      obtain ⟨b1, o1, rfl, h1⟩ := (ha.below hbr (Nat.le_refl _)) i _ hc
      generalize l[i] = c at *
      obtain ⟨⟨table, part, row, col⟩, ⟨time, dead, loc, kind, num, s⟩⟩ := c
      obtain ⟨k0, k1, k2, k3, k4, k5, k6, k7, k8, k9⟩ := h1
      simp only at k0 k1 k2 k3 k4 k5 k6 k7 k8 k9
      unfold wtX at hcw hst
      simp only at hcw hst
      have hb2 : Below w.heap.size w (wr.alloc (.cells (Cx.a ⟨⟨table, part, row, col⟩, ⟨time, dead, loc, kind, num, s⟩⟩) 40)) := hbr.alloc hbr.size _
      have Hst : Hid (wtXs (l.take (i + 1)) = wtXs (l.take i) + (table.size + part.size + col.size + s.size)) := hst
      clear hc ha hst hw
      have hsum : (table.size : Int) + part.size + col.size + s.size ≤ 562949953421312 := by omega
      by_cases hbig : z + (1 + (table.size + part.size + col.size + s.size) / 20) ≤ m
      · have hq : ¬ ((m : Int) < (z : Int) + (1 + ((table.size : Int) + part.size + col.size + s.size) / 20)) := by omega
        go_wp2
        go_roundw
        case rel =>
          refine ⟨i + 1, z + (1 + (table.size + part.size + col.size + s.size) / 20), by omega, ?_, by go_num, by omega, hbig, ?_, hb2⟩
          · congr 1
          · rw [Hst.out]
            omega
        case measure => simp [intOf]; omega
      · have hq : ((m : Int) < (z : Int) + (1 + ((table.size : Int) + part.size + col.size + s.size) / 20)) := by omega
        go_wp2
        go_ret
        refine ⟨⟨z + (1 + (table.size + part.size + col.size + s.size) / 20), ret_int (by omega), by omega, fun h => absurd h hbig⟩, hb2⟩
    · obtain rfl : i = l.length := by omega
      rw [List.take_length] at hwz
      clear ha hw
      go_wp2
      go_ret
      exact ⟨⟨z, rfl, by omega, fun _ => ⟨by omega, by omega⟩⟩, hbr⟩
/-- Every text of cells that are light is short. -/
theorem wt_mem {l : List Cx} {c : Cx} (hc : c ∈ l) {m : Nat} (h : wtXs l ≤ m) : c.k.t.size ≤ m ∧ c.k.p.size ≤ m ∧ c.k.c.size ≤ m ∧ c.v.s.size ≤ m := by
  have h1 : wtX c ≤ wtXs l := by
    unfold wtXs
    obtain ⟨s, t, rfl⟩ := List.append_of_mem hc
    rw [List.map_append, List.sum_append, List.map_cons, List.sum_cons]; omega
  unfold wtX at h1
  omega
theorem putG_fst (hs : List Nat) (M : List (Cx × Nat)) (c : Cx) : (putG hs M c).map Prod.fst = if goodC c then addC (M.map Prod.fst) c else M.map Prod.fst := by
  unfold putG
  split
  · exact putM_fst hs M c
  · rfl
/-- The cells that lie in a list. -/
def cs (T : List Tw) : List Cx := T.map Tw.c
theorem put_cs {hs : List Nat} {T T' : List Tw} {c : Cx} {l : List Cx} (h : T'.map Tw.p = putG hs (T.map Tw.p) c) (hT : cs T = nrm (goods l)) : cs T' = nrm (goods (l ++ [c])) := by
  unfold cs at hT ⊢
  rw [c_of, h, putG_fst, ← c_of, hT, goods_snoc]
  by_cases hg : goodC c = true
  · rw [if_pos hg, if_pos hg, nrm_snoc]
  · rw [if_neg hg, if_neg hg]
theorem goods_rev (l : List Cx) : goods l.reverse = (goods l).reverse := by unfold goods; rw [List.filter_reverse]
theorem nrm_goods_rev (l : List Cx) : nrm (goods l.reverse) = nrm (goods l) := by rw [goods_rev, nrm_rev (goods_all l)]
/-- Two lists and a row of the call's own. -/
structure Three (B : Nat) (w w' : World) (S1 : SkId) (h1 : List Nat) (T1 : List Tw) (S2 : SkId) (h2 : List Nat) (T2 : List Tw) (v : Value) (l : List Cx) : Prop where
  a : SkAt w' S1 h1 T1
  b : SkAt w' S2 h2 T2
  row : w'.ownsRow B 40 10 v l.length (l.flatMap xs10)
  ab : ∀ x ∈ S1.gh :: S1.ft T1, x ∉ S2.gh :: S2.ft T2
  ar : ∀ x ∈ S1.gh :: S1.ft T1, v.ownBlock ≠ some x
  br : ∀ x ∈ S2.gh :: S2.ft T2, v.ownBlock ≠ some x
  bel : Below B w w'
  alow : ∀ x ∈ S1.gh :: S1.ft T1, B ≤ x
  blow : ∀ x ∈ S2.gh :: S2.ft T2, B ≤ x
  siz : B ≤ w'.heap.size
theorem owKeep {w w' : World} {B : Nat} {e : TypeId} {k n : Nat} {v : Value} {xs : List Value} (h : w.ownsRow B e k v n xs) (hk : ∀ g, v.ownBlock = some g → w'.heap[g]? = w.heap[g]?) : w'.ownsRow B e k v n xs := by
  refine ⟨h.1, ?_⟩
  rcases h.2 with hn | ⟨g, cap, cur, rfl, hg, hh, r⟩
  · exact .inl hn
  · exact .inr ⟨g, cap, cur, rfl, hg, (hk g rfl).trans hh, r⟩
section
variable {B : Nat} {w w' w'' : World} {S1 S2 : SkId} {h1 h2 : List Nat} {T1 T2 T' : List Tw} {v v2 : Value} {l : List Cx}
theorem SkAt.alllt {w : World} {S : SkId} {hs : List Nat} {T : List Tw} (h : SkAt w S hs T) : ∀ x ∈ S.gh :: S.ft T, x < w.heap.size := fun x hx => by
  rcases List.mem_cons.1 hx with rfl | hx
  · exact h.ghlt
  · exact h.ftlt x hx
theorem Three.below (h : Three B w w' S1 h1 T1 S2 h2 T2 v l) (hb : Below w'.heap.size w' w'') : Three B w w'' S1 h1 T1 S2 h2 T2 v l :=
  ⟨h.a.below hb (Nat.le_refl _), h.b.below hb (Nat.le_refl _), owBelow h.row hb, h.ab, h.ar, h.br, h.bel.trans (hb.mono h.siz), h.alow, h.blow, Nat.le_trans h.siz hb.size⟩
theorem Three.putA (h : Three B w w' S1 h1 T1 S2 h2 T2 v l) (hS : SkAt w'' S1 h1 T') (hM : Moved w' w'' (S1.ft T1) (S1.ft T')) : Three B w w'' S1 h1 T' S2 h2 T2 v l := by
  have hin : ∀ x ∈ S1.gh :: S1.ft T', x ∈ S1.gh :: S1.ft T1 ∨ w'.heap.size ≤ x := fun x hx => by
    rcases List.mem_cons.1 hx with rfl | hx
    · exact .inl (by simp)
    · rcases hM.news x hx with h3 | h3
      · exact .inl (by simp [h3])
      · exact .inr h3
  refine ⟨hS, h.b.moved hM (fun b hb hn => h.ab b (List.mem_cons_of_mem _ hn) hb), owKeep h.row (fun g hg => hM.kept g (h.row.lt g hg).2 fun hn => h.ar g (List.mem_cons_of_mem _ hn) hg), fun x hx => ?_, fun x hx => ?_, h.br, h.bel.trans (hM.below h.siz fun i hi => h.alow i (List.mem_cons_of_mem _ hi)), fun x hx => ?_, h.blow, Nat.le_trans h.siz hM.size⟩
  · rcases hin x hx with h3 | h3
    · exact h.ab x h3
    · exact fun hb => by have := h.b.alllt x hb; omega
  · rcases hin x hx with h3 | h3
    · exact h.ar x h3
    · exact fun hb => by have := (h.row.lt x hb).2; omega
  · rcases hin x hx with h3 | h3
    · exact h.alow x h3
    · exact Nat.le_trans h.siz h3
theorem Three.turn (h : Three B w w' S1 h1 T1 S2 h2 T2 v l) : Three B w w' S2 h2 T2 S1 h1 T1 v l :=
  ⟨h.b, h.a, h.row, fun x hx hn => h.ab x hn hx, h.br, h.ar, h.bel, h.blow, h.alow, h.siz⟩
theorem Three.putB (h : Three B w w' S1 h1 T1 S2 h2 T2 v l) (hS : SkAt w'' S2 h2 T') (hM : Moved w' w'' (S2.ft T2) (S2.ft T')) : Three B w w'' S1 h1 T1 S2 h2 T' v l := (h.turn.putA hS hM).turn
theorem Three.more {c : Cx} (h : Three B w w' S1 h1 T1 S2 h2 T2 v l) (ho : w''.ownsRow B 40 10 v2 (l.length + 1) (l.flatMap xs10 ++ [c].flatMap xs10)) (hg0 : Grew (w'.alloc (.cells c.a 40)) w'' v v2) : Three B w w'' S1 h1 T1 S2 h2 T2 v2 (l ++ [c]) := by
  have hg := hg0.alloc
  have hk : ∀ {S : SkId} {hs : List Nat} {T : List Tw}, SkAt w' S hs T → (∀ x ∈ S.gh :: S.ft T, v.ownBlock ≠ some x) → SkAt w'' S hs T := fun {S hs T} hS hne => hS.carry fun b hb hm => hg.rows.block b hb (fun e => hne b hm e.symm)
  have hr : ∀ {S : SkId} {hs : List Nat} {T : List Tw}, SkAt w' S hs T → (∀ x ∈ S.gh :: S.ft T, v.ownBlock ≠ some x) → ∀ x ∈ S.gh :: S.ft T, v2.ownBlock ≠ some x := fun {S hs T} hS hne x hx e => by
    rcases hg.own x e with h3 | h3
    · exact hne x hx h3
    · have := hS.alllt x hx; omega
  exact ⟨hk h.a h.ar, hk h.b h.br, by rw [List.flatMap_append, List.length_append]; exact ho, h.ab, hr h.a h.ar, hr h.b h.br, h.bel.trans (hg.below h.siz (fun g hg => (h.row.lt g hg).1)), h.alow, h.blow, Nat.le_trans h.siz hg.rows.size⟩
theorem Three.start {S1 S2 : SkId} (ha : SkB B w w' S1 h1 []) (hb : SkAt w'' S2 h2 []) (hbb : Below w'.heap.size w' w'') (hbl : ∀ b ∈ S2.gh :: S2.ft [], w'.heap.size ≤ b) : Three B w w'' S1 h1 [] S2 h2 [] (.slice none 0 0) [] :=
  ⟨(ha.below hbb).sk, hb, World.ownsRow_nil _ _ _ _, (fun x hx hn => by have := ha.sk.alllt x hx; have := hbl x hn; omega), (fun x _ e => by cases e), (fun x _ e => by cases e), (ha.below hbb).bel, ha.low, fun x hx => Nat.le_trans ha.siz (hbl x hx), (ha.below hbb).siz⟩
end
theorem cs_len {T : List Tw} {l : List Cx} (h : cs T = nrm (goods l)) : T.length ≤ l.length := by
  have h1 := congrArg List.length h
  unfold cs at h1
  rw [List.length_map] at h1
  have h2 := nrm_len (goods l)
  have h3 : (goods l).length ≤ l.length := List.length_filter_le _ _
  omega
theorem putA_any {B : Nat} {w w' : World} {S1 S2 : SkId} {h1 h2 : List Nat} {T1 T2 : List Tw} {v : Value} {G l : List Cx} (h : Three B w w' S1 h1 T1 S2 h2 T2 v G) (hl : l.length ≤ 200) (hw : wtXs l ≤ 4000) (i : Nat) (c : Cx) (hc : l[i]? = some c) (hT : cs T1 = nrm (goods (l.take i))) :
    Calls Try.prog 10 #[.pointer (some ⟨S1.l, 0, none⟩), c.val] w' fun e w'' => ∃ T', e = .returned (.int .i64 (if goodC c then 0 else 2)) ∧ Three B w w'' S1 h1 T' S2 h2 T2 v G ∧ cs T' = nrm (goods (l.take (i + 1))) := by
  obtain ⟨a1, a2, a3, a4⟩ := wt_mem (List.mem_of_getElem? hc) hw
  have hlen := cs_len hT
  rw [List.length_take] at hlen
  have hm : (4000 : Nat) ≤ maxLen := by decide
  exact (put_any S1 h1 T1 c w' h.a (by omega) (by omega) (by omega) (by omega) (by omega)).mono fun e w'' ⟨T', he, hS, hp, hM⟩ => ⟨T', he, h.putA hS hM, by rw [takeX_succ hc]; exact put_cs hp hT⟩
theorem rev_at {l : List Cx} {i : Nat} (hi : i < l.length) : l.reverse[i]? = l[l.length - 1 - i]? := by rw [List.getElem?_reverse hi]
theorem wtXs_rev (l : List Cx) : wtXs l.reverse = wtXs l := by unfold wtXs; rw [List.map_reverse, List.sum_reverse]
end Go.Proofs.Ytlhojbgpmjcjlaa

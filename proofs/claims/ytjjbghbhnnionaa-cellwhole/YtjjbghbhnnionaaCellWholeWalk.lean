/-
  THE LAW CellWhole: the walk.
-/
import Derived.Test.YtjjbghbhnnionaaCxNorm
import Derived.Test.YtjjbghbhnnionaaCxRefMore
import Derived.Test.YtjjbghbhnnionaaCxFound
import Derived.Test.YtjjbghbhnnionaaCxLaid
import Derived.Test.YtjjbghbhnnionaaNormWhole
import Derived.Test.YtjjbghbhnnionaaWrAll
import Derived.Test.YtjjbghbhnnionaaBlk
namespace Go.Proofs.Ytjjbghbhnnionaa.cellWhole
open Go.RowKit

theorem toHid {p : Prop} (h : p) : Hid p := h
theorem wt_mem {l : List Cx} {c : Cx} (hc : c ∈ l) {m : Nat} (h : wtXs l ≤ m) : c.k.t.size ≤ m ∧ c.k.p.size ≤ m ∧ c.k.c.size ≤ m ∧ c.v.s.size ≤ m := by
  have h1 : wtX c ≤ wtXs l := by
    unfold wtXs
    obtain ⟨s, t, rfl⟩ := List.append_of_mem hc
    rw [List.map_append, List.sum_append, List.map_cons, List.sum_cons]; omega
  unfold wtX at h1
  omega
theorem row_some {ag : Option Addr} {G : List Cx} {B : Nat} {w : World} (h : ∀ i c, G[i]? = some c → ∃ g, ag = some ⟨g, 0, none⟩ ∧ B ≤ g ∧ TenX w g (i * 10) c) : ag = none → G.length = 0 := fun e => by
  cases G with
  | nil => rfl
  | cons c r => obtain ⟨g, e2, _⟩ := h 0 c rfl; rw [e] at e2; cases e2
theorem row_form {w : World} {B : Nat} {e : TypeId} {k n : Nat} {v : Value} {xs : List Value} (h : w.ownsRow B e k v n xs) : (v = .slice none 0 0 ∧ n = 0) ∨ ∃ g c, v = .slice (some ⟨g, 0, none⟩) n c ∧ n ≤ c ∧ c ≤ maxLen := by
  rcases h.2 with ⟨h1, h2⟩ | ⟨g, cap, cur, h1, _, _, h2, h3, _⟩
  · exact .inl ⟨h1, h2⟩
  · exact .inr ⟨g, cap, h1, h2, h3⟩
set_option maxRecDepth 100000 in
theorem sees_two (w : World) (c : Cx) : XSees (w.alloc (.cells #[.string c.k.t, .string c.k.p, .int .i64 c.k.r, .string c.k.c, .int .i64 c.v.time, .bool c.v.dead, .int .i64 c.v.loc, .int .i64 c.v.kind, .int .i64 c.v.num, .string c.v.s, .string c.k.t, .string c.k.p, .int .i64 c.k.r, .string c.k.c, .int .i64 c.v.time, .bool c.v.dead, .int .i64 c.v.loc, .int .i64 c.v.kind, .int .i64 c.v.num, .string c.v.s] 41)) (some ⟨w.heap.size, 0, none⟩) [c, c] := fun i x hx => by
  have hb := Blk.new w [.string c.k.t, .string c.k.p, .int .i64 c.k.r, .string c.k.c, .int .i64 c.v.time, .bool c.v.dead, .int .i64 c.v.loc, .int .i64 c.v.kind, .int .i64 c.v.num, .string c.v.s, .string c.k.t, .string c.k.p, .int .i64 c.k.r, .string c.k.c, .int .i64 c.v.time, .bool c.v.dead, .int .i64 c.v.loc, .int .i64 c.v.kind, .int .i64 c.v.num, .string c.v.s] 41
  match i, hx with
  | 0, hx =>
    obtain rfl := Option.some.inj hx
    exact ⟨w.heap.size, 0, rfl, ⟨hb.cell 0 rfl, hb.cell 1 rfl, hb.cell 2 rfl, hb.cell 3 rfl, hb.cell 4 rfl, hb.cell 5 rfl, hb.cell 6 rfl, hb.cell 7 rfl, hb.cell 8 rfl, hb.cell 9 rfl⟩⟩
  | 1, hx =>
    obtain rfl := Option.some.inj hx
    exact ⟨w.heap.size, 0, rfl, ⟨hb.cell 10 rfl, hb.cell 11 rfl, hb.cell 12 rfl, hb.cell 13 rfl, hb.cell 14 rfl, hb.cell 15 rfl, hb.cell 16 rfl, hb.cell 17 rfl, hb.cell 18 rfl, hb.cell 19 rfl⟩⟩
  | i + 2, hx => simp at hx
theorem xs_drop {w : World} {g k cg : Nat} {G : List Cx} (h : XSees w (some ⟨g, 0, none⟩) G) (hk : k ≤ G.length) (hc : G.length ≤ cg) : XSees w (if cg = k then some ⟨g, 0, none⟩ else some ⟨g, k * 10, none⟩) (G.drop k) := fun i c hi => by
  have hlt := (List.getElem?_eq_some_iff.1 hi).1
  rw [List.length_drop] at hlt
  rw [if_neg (by omega)]
  rw [List.getElem?_drop] at hi
  obtain ⟨b, off, e, t⟩ := h (k + i) c hi
  injection e with e
  injection e with e1 e2 e3
  subst e1 e2
  refine ⟨g, k * 10, rfl, ?_⟩
  have e4 : 0 + (k + i) * 10 = k * 10 + i * 10 := by omega
  rwa [e4] at t
theorem xs_take {w : World} {ao : Option Addr} {G : List Cx} (h : XSees w ao G) (k : Nat) : XSees w ao (G.take k) := fun i c hi => by
  have hlt := (List.getElem?_eq_some_iff.1 hi).1
  rw [List.length_take] at hlt
  rw [List.getElem?_take_of_lt (by omega)] at hi
  exact h i c hi
theorem grew_parts {w w1 w2 : World} {v v2 : Value} {A B : List Cx} (hb : Below w.heap.size w w1) (ho : w1.ownsRow w.heap.size 41 10 v A.length (A.flatMap xs10)) (ho2 : w2.ownsRow w.heap.size 41 10 v2 (A.length + B.length) (A.flatMap xs10 ++ B.flatMap xs10)) (hg : Grew w1 w2 v v2) :
    w2.ownsRow w.heap.size 41 10 v2 (A ++ B).length ((A ++ B).flatMap xs10) ∧ Below w.heap.size w w2 :=
  ⟨by rw [List.flatMap_append, List.length_append]; exact ho2, hb.trans (hg.below hb.size (fun g hg => (ho.lt g hg).1))⟩
/-- An append of a cell and itself: what the row becomes. -/
theorem grew_two {w w1 w2 : World} {v v2 : Value} {O : List Cx} {c : Cx} {t : TypeId} {a : Array Value} (hb : Below w.heap.size w w1) (ho : w1.ownsRow w.heap.size 41 10 v (dbl O).length ((dbl O).flatMap xs10)) (ho2 : w2.ownsRow w.heap.size 41 10 v2 ((dbl O).length + 2) ((dbl O).flatMap xs10 ++ [c, c].flatMap xs10)) (hg : Grew (w1.alloc (.cells a t)).drew w2 v v2) :
    w2.ownsRow w.heap.size 41 10 v2 (dbl (O ++ [c])).length ((dbl (O ++ [c])).flatMap xs10) ∧ Below w.heap.size w w2 := by
  have e := dbl_snoc O c
  refine ⟨by rw [e, List.flatMap_append, List.length_append]; exact ho2, ?_⟩
  have hb3 : Below w.heap.size w (w1.alloc (.cells a t)).drew := (hb.alloc hb.size _).drew
  exact hb3.trans (hg.below hb3.size (fun g hg => (ho.lt g hg).1))
set_option maxRecDepth 100000 in
set_option maxHeartbeats 8000000 in
theorem walk (ao : Option Addr) (l : List Cx) (cap u : Nat) (w : World) (hs : XSees w ao l) (_hn : ao = none → l.length = 0) (hl : l.length ≤ 140737488355328) (hc : ∀ c ∈ l, c.In ∧ wtX c ≤ 562949953421312) (hu : u < 18446744073709551616) :
    Calls Try.prog 4 #[.slice ao l.length cap, .int .u64 u] w fun e w' => e = .returned (.bool true) ∧ Below w.heap.size w w' := by
  obtain ⟨i1, hi1, hy0, hy1, hy2⟩ := infoX infoCx
  have LV : Hid (∀ w : World, Calls Try.prog 10 #[] w fun x w' => x = .returned (.bool true) ∧ Below w.heap.size w w') := lives_any
  have W1 : Hid (Calls Try.prog 9 #[.slice ao l.length cap, .int .i64 300] w fun e w' => (∃ z : Nat, e = .returned (.int .i64 z) ∧ z ≤ 1000000000000000 ∧ (z ≤ 300 → l.length ≤ 300 ∧ wtXs l ≤ 20 * 300)) ∧ Below w.heap.size w w') :=
    weighX_any ao l cap 300 w hs (by omega) hl (fun c h => (hc c h).2)
  have HS : Hid (∀ w', Below w.heap.size w w' → XSees w' ao l) := fun w' h => hs.below h (Nat.le_refl _)
  have hlz : (l.length : Int) ≤ 140737488355328 := by omega
  clear hc hs hl
  go_enter Try.func4, Try.ntmps4
  go_wp2_with fail
  refine W1.out.mono ?_
  rintro e w1 ⟨⟨z, rfl, hz, hzm⟩, hb1⟩
  by_cases hbig : 300 < z
  · have hbz : (300 : Int) < (z : Int) := by omega
    clear hzm
    go_wp2_with fail
    refine (LV.out _).mono ?_
    rintro e w2 ⟨rfl, hb2⟩
    go_wp2_with fail
    go_ret
    exact ⟨rfl, hb1.trans (hb2.mono hb1.size)⟩
  · have hbz : ¬ (300 : Int) < (z : Int) := by omega
    obtain ⟨hl4, hw4⟩ := hzm (by omega)
    have hm4 : (6000 : Nat) ≤ maxLen := by decide
    have GD : Hid (∀ c ∈ l, ∀ w : World, Calls Try.prog 20 #[c.val] w fun x w' => x = .returned (.bool (goodC c)) ∧ Below w.heap.size w w') := fun c hc w => by
      obtain ⟨a1, a2, a3, a4⟩ := wt_mem hc hw4
      exact goodX_any c w (by omega) (by omega) (by omega) (by omega)
    clear hzm hbig hw4
    go_wp2_with fail
    go_loopw [5, 23] (fun s5 s23 wr => ∃ (i : Nat) (v : Value), i ≤ l.length ∧ v = s5 ∧ s23 = .int .i64 i ∧ wr.ownsRow w.heap.size 41 10 v (goods (l.take i)).length ((goods (l.take i)).flatMap xs10) ∧ Below w.heap.size w wr) (fun _ s23 _ => l.length - (intOf s23).toNat)
    case atStart => exact ⟨0, _, by omega, rfl, rfl, World.ownsRow_nil _ _ _ _, hb1⟩
    case round =>
      obtain ⟨i, v, hi, rfl, rfl, ho, hbr⟩ := hrel
      rcases Nat.lt_or_ge i l.length with hlt | hge
      · have hc0 : l[i]? = some l[i] := List.getElem?_eq_getElem hlt
        obtain ⟨b1, o1, rfl, x1⟩ := (HS.out wr hbr) i _ hc0
        have hgs : goods (l.take (i + 1)) = if goodC l[i] then goods (l.take i) ++ [l[i]] else goods (l.take i) := by rw [takeX_succ hc0, goods_snoc]
        have hgl : (goods (l.take i)).length ≤ 300 := by
          have h1 : (goods (l.take i)).length ≤ (l.take i).length := List.length_filter_le _ _
          rw [List.length_take] at h1; omega
        have G1 := fun w' => GD.out l[i] (List.getElem_mem hlt) w'
        generalize l[i] = c at *
        obtain ⟨⟨ct, cp, cr, cc⟩, ⟨cti, cd, cl, ck, cn, cstr⟩⟩ := c
        simp only [Cx.val, Cx.a] at G1
        obtain ⟨k0, k1, k2, k3, k4, k5, k6, k7, k8, k9⟩ := x1
        simp only at k0 k1 k2 k3 k4 k5 k6 k7 k8 k9
        have hlt' : (i : Int) < (l.length : Int) := by omega
        have hbx : Below wr.heap.size wr (wr.alloc (.cells #[.string ct, .string cp, .int .i64 cr, .string cc, .int .i64 cti, .bool cd, .int .i64 cl, .int .i64 ck, .int .i64 cn, .string cstr] 41)) := (Below.refl _ _).alloc (Nat.le_refl _) _
        have bxx := Blk.new wr [.string ct, .string cp, .int .i64 cr, .string cc, .int .i64 cti, .bool cd, .int .i64 cl, .int .i64 ck, .int .i64 cn, .string cstr] 41
        have G2 := toHid (G1 (wr.alloc (.cells #[.string ct, .string cp, .int .i64 cr, .string cc, .int .i64 cti, .bool cd, .int .i64 cl, .int .i64 ck, .int .i64 cn, .string cstr] 41)))
        have HN : Hid (∀ w', Below (wr.alloc (.cells #[.string ct, .string cp, .int .i64 cr, .string cc, .int .i64 cti, .bool cd, .int .i64 cl, .int .i64 ck, .int .i64 cn, .string cstr] 41)).heap.size (wr.alloc (.cells #[.string ct, .string cp, .int .i64 cr, .string cc, .int .i64 cti, .bool cd, .int .i64 cl, .int .i64 ck, .int .i64 cn, .string cstr] 41)) w' → Blk w' wr.heap.size [.string ct, .string cp, .int .i64 cr, .string cc, .int .i64 cti, .bool cd, .int .i64 cl, .int .i64 ck, .int .i64 cn, .string cstr] 41 ∧ Below w.heap.size w w' ∧ w'.ownsRow w.heap.size 41 10 v (goods (l.take i)).length ((goods (l.take i)).flatMap xs10)) := fun w' h => ⟨bxx.carry (h.block _ bxx.lt), hbr.trans ((hbx.trans (h.mono hbx.size)).mono hbr.size), owBelow ho (hbx.trans (h.mono hbx.size))⟩
        generalize hgc : goodC ⟨⟨ct, cp, cr, cc⟩, ⟨cti, cd, cl, ck, cn, cstr⟩⟩ = g at *
        have HG := toHid hgs
        clear hgs hgc G1 hbx bxx ho hc0 hbr
        go_wp2_with fail
        refine G2.out.mono ?_
        rintro e w2 ⟨rfl, hb2⟩
        obtain ⟨b2, hB2, ho2⟩ := HN.out w2 hb2
        have m0 := b2.cell 0 rfl
        have m1 := b2.cell 1 rfl
        have m2 := b2.cell 2 rfl
        have m3 := b2.cell 3 rfl
        have m4 := b2.cell 4 rfl
        have m5 := b2.cell 5 rfl
        have m6 := b2.cell 6 rfl
        have m7 := b2.cell 7 rfl
        have m8 := b2.cell 8 rfl
        have m9 := b2.cell 9 rfl
        clear k0 k1 k2 k3 k4 k5 k6 k7 k8 k9 G2 HN b2 hb2
        cases g
        · simp only [Bool.false_eq_true, if_false] at HG
          clear m0 m1 m2 m3 m4 m5 m6 m7 m8 m9
          go_wp2_with fail
          go_roundw
          case rel => exact ⟨i + 1, _, by omega, rfl, by go_num, by rw [HG.out]; exact ho2, hB2⟩
          case measure => (simp [intOf]; try omega)
        · simp only [if_true] at HG
          have hsz := hB2.size
          go_wp2_with (at_builtin; go_must (refine wpList_append_grew _ rfl _ _ 22 22 rfl w.heap.size 41 i1 _ 10 112 Try.underlying22 hi1 hy0 hy1 hy2 rfl _ (goods (l.take i)).length _ rfl (ho2.alloc _) _ 1 ([(⟨⟨ct, cp, cr, cc⟩, ⟨cti, cd, cl, ck, cn, cstr⟩⟩ : Cx)].flatMap xs10) rfl (src_cells (sees_one w2 ⟨⟨ct, cp, cr, cc⟩, ⟨cti, cd, cl, ck, cn, cstr⟩⟩) (fun h => by cases h) 1) (by unfold maxLen; omega) (by omega) (by rw [World.size_alloc]; omega) ?_; intro v5 w5 ho5 hg5; have hM := toHid (grew_one (c := ⟨⟨ct, cp, cr, cc⟩, ⟨cti, cd, cl, ck, cn, cstr⟩⟩) hB2 rfl (ho2.alloc _) ho5 hg5); clear m0 m1 m2 m3 m4 m5 m6 m7 m8 m9 ho5 hg5 ho2))
          go_roundw
          case rel => exact ⟨i + 1, _, by omega, rfl, by go_num, by rw [HG.out]; exact hM.out.1, hM.out.2⟩
          case measure => (simp [intOf]; try omega)
      · obtain rfl : i = l.length := by omega
        rw [List.take_length] at ho
        have hgl : (goods l).length ≤ l.length := List.length_filter_le _ _
        have hgood := goods_all l
        have hgez : ¬ (l.length : Int) < (l.length : Int) := by omega
        generalize goods l = G at *
        have hgl3 : G.length ≤ 300 := by omega
        have hfm := row_form ho
        obtain ⟨ag, cg, rfl, xg, hag⟩ := owns_xsees ho
        have hng : ag = none → G.length = 0 := row_some hag
        have HFM : Hid ((ag = none ∧ cg = 0 ∧ G.length = 0) ∨ ∃ g, ag = some ⟨g, 0, none⟩ ∧ G.length ≤ cg ∧ cg ≤ maxLen) := by
          rcases hfm with ⟨e, e0⟩ | ⟨g, c', e, h1, h2⟩
          · injection e with e1 e2 e3; exact .inl ⟨e1, e3, e0⟩
          · injection e with e1 e2 e3; exact .inr ⟨g, e1, by omega, by omega⟩
        clear hfm
        have HNG := toHid hng
        have HX : Hid (∀ w', Below wr.heap.size wr w' → XSees w' ag G ∧ Below w.heap.size w w') := fun w' h => ⟨xg.below h (Nat.le_refl _), hbr.trans (h.mono hbr.size)⟩
        have HP : Hid (∀ k, nrm (nrm (G.drop k) ++ nrm (G.take k)) = nrm G) := nrm_parts hgood
        have HF : Hid (∀ c ∈ G, ∃ v, fnd c.k (nrm G) = (v, true) ∧ 0 ≤ cv v c.v) := fun c hc => fnd_nrm hc
        have HD : Hid (nrm (dbl G.reverse) = nrm G) := by show nrm (dbl G.reverse) = nrm G; rw [nrm_dbl, nrm_rev hgood]
        have HI : Hid (nrm (nrm G) = nrm G ∧ srtB (nrm G) = true) := ⟨nrm_nrm G, srtB_nrm G⟩
        have NG : Hid (Calls Try.prog 11 #[.slice ag G.length cg] wr fun e w' => ∃ v, e = .returned v ∧ w'.ownsRow wr.heap.size 41 10 v (nrm G).length ((nrm G).flatMap xs10) ∧ Below wr.heap.size wr w') := norm_any ag G cg wr xg hng (by omega)
        have hnl := nrm_len G
        obtain ⟨N, hN⟩ : ∃ N, N = nrm G := ⟨_, rfl⟩
        rw [← hN] at HP HF HD HI NG hnl
        have HNN := toHid hN
        clear hN ho xg hag hng hgood GD HS
        go_wp2_with fail
        refine NG.out.mono ?_
        rintro e w2 ⟨v2, rfl, ho2, hb2⟩
        obtain ⟨an, cn, rfl, xn, han⟩ := owns_xsees ho2
        have HNL : Hid (an = none → N.length = 0) := row_some han
        have HX2 : Hid (∀ w', Below w2.heap.size w2 w' → XSees w' ag G ∧ XSees w' an N ∧ Below w.heap.size w w') := fun w' h => ⟨(HX.out w' (hb2.trans (h.mono hb2.size))).1, xn.below h (Nat.le_refl _), (HX.out w' (hb2.trans (h.mono hb2.size))).2⟩
        have hglz : (G.length : Int) ≤ 300 := by omega
        have huz : (u : Int) < 18446744073709551616 := by omega
        clear NG HX ho2 xn han hb2 hbr
        have hkl : u % (G.length + 1) ≤ G.length := by have := Nat.mod_lt u (show 0 < G.length + 1 by omega); omega
        have hke : (u : Int) % ((G.length : Int) + 1) = ((u % (G.length + 1) : Nat) : Int) := by push_cast; rfl
        have hk : wrap64 ((u : Int) % ((G.length : Int) + 1)) = ((u % (G.length + 1) : Nat) : Int) := by rw [hke, IntWalk.wrap64_in _ ⟨by omega, by omega⟩]
        clear hke
        have hg1 : (G.length : Int) - 1 ≤ 300 := by omega
        go_wp2_with fail
        rw [hk]
        generalize (u : Int) % ((G.length : Int) + 1) = um at *
        generalize u % (G.length + 1) = k at *
        clear hk
        go_loopw [10, 11] (fun s10 s11 wr => ∃ (j : Nat) (v : Value), j ≤ G.length ∧ v = s10 ∧ s11 = .int .i64 ((j : Int) - 1) ∧ wr.ownsRow w2.heap.size 41 10 v (dbl (G.drop j).reverse).length ((dbl (G.drop j).reverse).flatMap xs10) ∧ Below w2.heap.size w2 wr) (fun _ s11 _ => (intOf s11 + 1).toNat)
        case atStart => exact ⟨G.length, _, by omega, rfl, rfl, by rw [List.drop_length]; exact World.ownsRow_nil _ _ _ _, Below.refl _ _⟩
        case round =>
          obtain ⟨j, v, hj, rfl, rfl, ho, hbr⟩ := hrel
          rcases Nat.eq_zero_or_pos j with rfl | hj0
          · rw [List.drop_zero] at ho
            obtain ⟨ab, cb, rfl, xb, hab⟩ := owns_xsees ho
            have HXB : Hid (∀ w', Below wr.heap.size wr w' → XSees w' ab (dbl G.reverse)) := fun w' h => xb.below h (Nat.le_refl _)
            have hnb : Hid (ab = none → (dbl G.reverse).length = 0) := row_some hab
            have HX3 : Hid (∀ w', Below wr.heap.size wr w' → XSees w' ag G ∧ XSees w' an N ∧ Below w.heap.size w w') := fun w' h => HX2.out w' (hbr.trans (h.mono hbr.size))
            have hbl : (dbl G.reverse).length ≤ 600 := by rw [dbl_len, List.length_reverse]; omega
            have hneg : ¬ (0 : Int) ≤ ((0 : Nat) : Int) - 1 := by omega
            have hkz : (k : Int) ≤ (G.length : Int) := by omega
            clear ho xb hab hbr HX2
            go_wp2_with fail
            go_cut [12] from 61 to 70 (fun s12 wx => ∃ v, v = s12 ∧ wx.ownsRow wr.heap.size 41 10 v (nrm (G.drop k) ++ nrm (G.take k)).length ((nrm (G.drop k) ++ nrm (G.take k)).flatMap xs10) ∧ Below wr.heap.size wr wx)
            case first =>
              rcases HFM.out with ⟨rfl, rfl, h0⟩ | ⟨g, rfl, hcg, hcm⟩
              · obtain rfl : G = [] := List.eq_nil_of_length_eq_zero h0
                obtain rfl : k = 0 := by simpa using hkl
                have ND : Hid (∀ w', Below wr.heap.size wr w' → Calls Try.prog 11 #[.slice none 0 0] w' fun e w'' => ∃ v, e = .returned v ∧ w''.ownsRow wr.heap.size 41 10 v 0 [] ∧ (∃ a c, v = .slice a 0 c) ∧ Below w'.heap.size w' w'') := fun w' h =>
                  (norm_any none [] 0 w' (fun i c hi => by simp at hi) (fun _ => rfl) (by simp)).mono fun e w'' ⟨v, he, ho, hb⟩ => by
                    have hf := row_form ho
                    refine ⟨v, he, owMono ho h.size, ?_, hb⟩
                    rcases hf with ⟨h1, -⟩ | ⟨g, c, h1, -⟩
                    · exact ⟨_, _, h1⟩
                    · exact ⟨_, _, h1⟩
                have hB0 := (Below.refl wr.heap.size wr).drew
                simp only [List.length_nil] at *
                go_region_law (first
                  | (go_simp; go_at_call 11; refine (ND.out _ (by exact hB0)).mono ?_; rintro e uD ⟨vD, rfl, oD, ⟨aD, cD, rfl⟩, bD⟩; have hBD : Below wr.heap.size wr uD := hB0.trans (bD.mono (Nat.le_refl _)); clear hB0)
                  | (go_simp; go_at_call 11; refine (ND.out _ hBD).mono ?_; rintro e uT ⟨vT, rfl, oT, ⟨aT, cT, rfl⟩, bT⟩; have hBT : Below wr.heap.size wr uT := hBD.trans (bT.mono hBD.size))
                  | (refine step_append_grew rfl (.tmp 64) (.tmp 68) 22 22 rfl wr.heap.size 41 i1 _ 10 112 Try.underlying22 hi1 hy0 hy1 hy2 rfl _ 0 [] rfl (by first | exact oT | exact owBelow oD bT) _ 0 [] rfl (src_cells (l := []) (fun i c hi => by simp at hi) (fun _ => rfl) _) (by unfold maxLen; omega) (by omega) (by exact hBT.size) ?_; intro v5 w5 ho5 hg5))
                all_goals
                  have hF := toHid (grew_parts (A := []) (B := []) hBT (by first | exact oT | exact owBelow oD bT) ho5 hg5)
                  clear ho5 hg5 oD oT bT bD hBT hBD ND
                  go_wp2_with fail
                  go_meet
                  case rel => exact ⟨_, rfl, hF.out.1, hF.out.2⟩
              · have hkc : (k : Int) ≤ (cg : Int) := by omega
                have hcg2 : (G.length : Int) ≤ (cg : Int) := by omega
                have hcm2 : (cg : Int) ≤ 9223372036854775807 := by unfold maxLen at hcm; omega
                have ND : Hid (∀ w', Below wr.heap.size wr w' → Calls Try.prog 11 #[.slice (if cg = k then some ⟨g, 0, none⟩ else some ⟨g, k * 10, none⟩) (G.length - k) (cg - k)] w' fun e w'' => ∃ v, e = .returned v ∧ w''.ownsRow wr.heap.size 41 10 v (nrm (G.drop k)).length ((nrm (G.drop k)).flatMap xs10) ∧ Below w'.heap.size w' w'') := fun w' h => by
                  have hx := xs_drop (HX3.out w' h).1 hkl hcg
                  have := norm_any _ (G.drop k) (cg - k) w' hx (fun e => by split at e <;> cases e) (by rw [List.length_drop]; omega)
                  rw [List.length_drop] at this
                  exact this.mono fun e w'' ⟨v, he, ho, hb⟩ => ⟨v, he, owMono ho h.size, hb⟩
                have NT : Hid (∀ w', Below wr.heap.size wr w' → Calls Try.prog 11 #[.slice (some ⟨g, 0, none⟩) k cg] w' fun e w'' => ∃ a c, e = .returned (.slice a (nrm (G.take k)).length c) ∧ XSees w'' a (nrm (G.take k)) ∧ (a = none → (nrm (G.take k)).length = 0) ∧ Below w'.heap.size w' w'') := fun w' h => by
                  have hx := xs_take (HX3.out w' h).1 k
                  have := norm_any _ (G.take k) cg w' hx (fun e => by cases e) (by rw [List.length_take]; omega)
                  rw [List.length_take, Nat.min_eq_left hkl] at this
                  exact this.mono fun e w'' ⟨v, he, ho, hb⟩ => by
                    obtain ⟨a, c, rfl, hx, hr⟩ := owns_xsees ho
                    exact ⟨a, c, he, hx, row_some hr, hb⟩
                have n1 := nrm_len (G.drop k)
                have n2 := nrm_len (G.take k)
                rw [List.length_drop] at n1
                rw [List.length_take] at n2
                have HSZ : Hid (∀ w', Below wr.heap.size wr w' → wr.heap.size ≤ w'.heap.size) := fun w' h => h.size
                have hB0 := (Below.refl wr.heap.size wr).drew
                go_region_law (first
                  | (go_simp; go_at_call_of 11 (Value.slice (if cg = k then some ⟨g, 0, none⟩ else some ⟨g, k * 10, none⟩) (G.length - k) (cg - k)); refine (ND.out _ (by first | exact hB0 | exact hBT)).mono ?_; rintro e uD ⟨vD, rfl, oD, bD⟩; have hBD : Below wr.heap.size wr uD := (by first | exact hB0.trans (bD.mono (Nat.le_refl _)) | exact hBT.trans (bD.mono hBT.size)))
                  | (go_simp; go_at_call_of 11 (Value.slice (some ⟨g, 0, none⟩) k cg); refine (NT.out _ (by first | exact hB0 | exact hBD)).mono ?_; rintro e uT ⟨aT, cT, rfl, xT, nT, bT⟩; have hBT : Below wr.heap.size wr uT := (by first | exact hB0.trans (bT.mono (Nat.le_refl _)) | exact hBD.trans (bT.mono hBD.size)))
                  | (refine step_append_grew rfl (.tmp 64) (.tmp 68) 22 22 rfl wr.heap.size 41 i1 _ 10 112 Try.underlying22 hi1 hy0 hy1 hy2 rfl vD (nrm (G.drop k)).length _ rfl (by first | exact oD | exact owBelow oD bT) _ (nrm (G.take k)).length ((nrm (G.take k)).flatMap xs10) rfl (src_cells (by first | exact xT | exact xT.below bD (Nat.le_refl _)) nT cT) (by unfold maxLen; omega) (by omega) (by first | exact hBT.size | exact hBD.size) ?_; intro v5 w5 ho5 hg5))
                all_goals
                  have hF := toHid (grew_parts (by first | exact hBT | exact hBD) (by first | exact oD | exact owBelow oD bT) ho5 hg5)
                  clear ho5 hg5 oD nT xT bT bD hBT hBD hB0 ND NT HSZ n1 n2
                  generalize (if cg = k then (some ⟨g, 0, none⟩ : Option Addr) else some ⟨g, k * 10, none⟩) = adr
                  go_wp2_with fail
                  go_meet
                  case rel => exact ⟨_, rfl, hF.out.1, hF.out.2⟩
            case rest =>
              obtain ⟨vp, rfl, hop, hbc⟩ := hcut
              obtain ⟨ap, cp, rfl, xp, hap⟩ := owns_xsees hop
              have hpn : ap = none → (nrm (G.drop k) ++ nrm (G.take k)).length = 0 := row_some hap
              have hpl : (nrm (G.drop k) ++ nrm (G.take k)).length ≤ 300 := by
                have n1 := nrm_len (G.drop k)
                have n2 := nrm_len (G.take k)
                rw [List.length_drop] at n1
                rw [List.length_take] at n2
                rw [List.length_append]; omega
              have HPP := HP.out k
              generalize nrm (G.drop k) ++ nrm (G.take k) = P at *
              have HPH := toHid HPP
              have HPN := toHid hpn
              have HX4 : Hid (∀ w', Below wc.heap.size wc w' → XSees w' ag G ∧ XSees w' an N ∧ XSees w' ab (dbl G.reverse) ∧ XSees w' ap P ∧ Below w.heap.size w w') := fun w' h => by
                have h1 := hbc.trans (h.mono hbc.size)
                obtain ⟨g1, g2, g3⟩ := HX3.out w' h1
                exact ⟨g1, g2, HXB.out w' h1, xp.below h (Nat.le_refl _), g3⟩
              have NM : Hid (∀ (a : Option Addr) (L : List Cx) (c : Nat) (w' : World), XSees w' a L → (a = none → L.length = 0) → L.length ≤ 1000 → nrm L = N → Calls Try.prog 11 #[.slice a L.length c] w' fun e w'' => ∃ a' c', e = .returned (.slice a' N.length c') ∧ XSees w'' a' N ∧ Below w'.heap.size w' w'') := fun a L c w' h1 h2 h3 h4 => (norm_any a L c w' h1 h2 (by omega)).mono fun e w'' ⟨v, he, ho, hb⟩ => by
                rw [h4] at ho
                obtain ⟨a', c', rfl, hx, -⟩ := owns_xsees ho
                exact ⟨a', c', he, hx, hb⟩
              have LK : Hid (∀ (w' : World) (ax : Option Addr) (cx : Nat), Below wc.heap.size wc w' → XSees w' ax N → Calls Try.prog 14 #[.slice ax N.length cx, .slice an N.length cn] w' fun e w'' => e = .returned (.bool true) ∧ Below w'.heap.size w' w'') := fun w' ax cx h hx => likeX_same ax an N cx cn w' hx (HX4.out w' h).2.1 (by omega)
              have SR : Hid (∀ w', Below wc.heap.size wc w' → Calls Try.prog 16 #[.slice an N.length cn] w' fun e w'' => e = .returned (.bool true) ∧ Below w'.heap.size w' w'') := fun w' h => by
                have := sorted_any an N cn w' (HX4.out w' h).2.1 (by omega)
                rw [HI.out.2] at this; exact this
              have FN : Hid (∀ c ∈ G, ∃ fv, 0 ≤ cv fv c.v ∧ ∀ w', Below wc.heap.size wc w' → Calls Try.prog 12 #[.slice an N.length cn, c.k.v] w' fun e w'' => e = .returned (.tuple #[fv.v, .bool true]) ∧ Below w'.heap.size w' w'') := fun c hc => by
                obtain ⟨fv, hf, hg⟩ := HF.out c hc
                refine ⟨fv, hg, fun w' h => ?_⟩
                have := find_any an N cn c.k w' (HX4.out w' h).2.1 (by omega)
                rw [hf] at this; exact this
              have A1 := toHid (NM.out an N cn wc (HX4.out wc (Below.refl _ _)).2.1 HNL.out (by omega) HI.out.1)
              have HNB : Hid (ab = none → (dbl G.reverse).length = 0) := hnb
              clear hop xp hap hpn HPP HX3 HXB HP HF hbc hnb HNN HNL HNG HFM
              go_wp2_with fail
              refine A1.out.mono ?_
              rintro e u1 ⟨a1, c1, rfl, y1, g1⟩
              have L1 := toHid (LK.out u1 a1 c1 g1 y1)
              clear A1 y1
              go_wp2_with fail
              refine L1.out.mono ?_
              rintro e u2 ⟨rfl, g2'⟩
              have g2 := g1.trans (g2'.mono g1.size)
              have A2 := toHid (NM.out ab (dbl G.reverse) cb u2 (HX4.out u2 g2).2.2.1 HNB.out (by omega) HD.out)
              clear L1 g2' g1
              go_wp2_with fail
              refine A2.out.mono ?_
              rintro e u3 ⟨a3, c3, rfl, y3, g3'⟩
              have g3 := g2.trans (g3'.mono g2.size)
              have L2 := toHid (LK.out u3 a3 c3 g3 y3)
              clear A2 y3 g3' g2
              go_wp2_with fail
              refine L2.out.mono ?_
              rintro e u4 ⟨rfl, g4'⟩
              have g4 := g3.trans (g4'.mono g3.size)
              have A3 := toHid (NM.out ap P cp u4 (HX4.out u4 g4).2.2.2.1 HPN.out (by omega) HPH.out)
              clear L2 g4' g3
              go_wp2_with fail
              refine A3.out.mono ?_
              rintro e u5 ⟨a5, c5, rfl, y5, g5'⟩
              have g5 := g4.trans (g5'.mono g4.size)
              have L3 := toHid (LK.out u5 a5 c5 g5 y5)
              clear A3 y5 g5' g4
              go_wp2_with fail
              refine L3.out.mono ?_
              rintro e u6 ⟨rfl, g6'⟩
              have g6 := g5.trans (g6'.mono g5.size)
              have S1 := toHid (SR.out u6 g6)
              clear L3 g6' g5 NM LK SR HPN HPH HNB HD HI
              go_wp2_with fail
              refine S1.out.mono ?_
              rintro e u7 ⟨rfl, g7'⟩
              have g7 := g6.trans (g7'.mono g6.size)
              clear S1 g7' g6
              go_wp2_with fail
              go_loopw [96] (fun s96 wq => ∃ i : Nat, i ≤ G.length ∧ s96 = .int .i64 i ∧ Below wc.heap.size wc wq) (fun s96 _ => G.length - (intOf s96).toNat)
              case atStart => exact ⟨0, by omega, rfl, g7⟩
              case round =>
                obtain ⟨i, hi, rfl, hbq⟩ := hrel
                rcases Nat.lt_or_ge i G.length with hlt | hge
                · have hc0 : G[i]? = some G[i] := List.getElem?_eq_getElem hlt
                  obtain ⟨b1, o1, rfl, x1⟩ := (HX4.out wr hbq).1 i _ hc0
                  obtain ⟨fv, hfg, F1⟩ := FN.out G[i] (List.getElem_mem hlt)
                  have CM := fun w' : World => vcmp_any fv G[i].v w'
                  have KM := fun w' : World => refCmp_any G[i].k G[i].k w'
                  rw [(kc_cmpr.z _ _).2 rfl] at KM
                  generalize G[i] = c at *
                  obtain ⟨⟨ct, cp', cr, cc⟩, ⟨cti, cd, cl, ck, cnn, cstr⟩⟩ := c
                  have hcr := cv_r fv ⟨cti, cd, cl, ck, cnn, cstr⟩
                  generalize cv fv _ = K at hfg CM hcr
                  obtain ⟨f1, f2, f3, f4, f5, f6⟩ := fv
                  obtain ⟨k0, k1, k2, k3, k4, k5, k6, k7, k8, k9⟩ := x1
                  simp only at k0 k1 k2 k3 k4 k5 k6 k7 k8 k9
                  simp only [Kb.v, Vr.v] at F1 CM KM
                  have hK : K = 0 ∨ K = 1 := by omega
                  clear hcr hfg
                  rcases hK with rfl | rfl
                  all_goals
                    have hbx : Below wr.heap.size wr (wr.alloc (.cells #[.string ct, .string cp', .int .i64 cr, .string cc, .int .i64 cti, .bool cd, .int .i64 cl, .int .i64 ck, .int .i64 cnn, .string cstr] 41)) := (Below.refl _ _).alloc (Nat.le_refl _) _
                    have bxx : Hid (Blk (wr.alloc (.cells #[.string ct, .string cp', .int .i64 cr, .string cc, .int .i64 cti, .bool cd, .int .i64 cl, .int .i64 ck, .int .i64 cnn, .string cstr] 41)) wr.heap.size [.string ct, .string cp', .int .i64 cr, .string cc, .int .i64 cti, .bool cd, .int .i64 cl, .int .i64 ck, .int .i64 cnn, .string cstr] 41) := Blk.new wr _ _
                    have hb2 := hbq.trans (hbx.mono hbq.size)
                    have G2 := toHid (F1 _ hb2)
                    have HB2 := toHid hb2
                    have CMh := toHid CM
                    have KMh := toHid KM
                    have hltz : (i : Int) < (G.length : Int) := by omega
                    clear F1 hc0 hb2 hbx hbq CM KM
                    go_wp2_with fail
                    refine G2.out.mono ?_
                    rintro e w5 ⟨rfl, hb5⟩
                    have b5 := bxx.out.carry (hb5.block _ bxx.out.lt)
                    have b6 := b5.alloc (.cells #[.int .i64 f1, .bool f2, .int .i64 f3, .int .i64 f4, .int .i64 f5, .string f6] 31)
                    have hb6 : Below wc.heap.size wc (w5.alloc (.cells #[.int .i64 f1, .bool f2, .int .i64 f3, .int .i64 f4, .int .i64 f5, .string f6] 31)) := (HB2.out.trans (hb5.mono HB2.out.size)).alloc (Nat.le_trans HB2.out.size hb5.size) _
                    have m4 := b6.cell 4 rfl
                    have m5 := b6.cell 5 rfl
                    have m6 := b6.cell 6 rfl
                    have m7 := b6.cell 7 rfl
                    have m8 := b6.cell 8 rfl
                    have m9 := b6.cell 9 rfl
                    have HB6 := toHid hb6
                    have HBB := toHid b6
                    clear b5 b6 hb5 hb6 bxx HB2 G2 k0 k1 k2 k3 k4 k5 k6 k7 k8 k9
                    go_wp2_with fail
                    refine (CMh.out _).mono ?_
                    rintro e w6 ⟨rfl, hb6'⟩
                    have b7 := HBB.out.carry (hb6'.block _ HBB.out.lt)
                    have hb7 := HB6.out.trans (hb6'.mono HB6.out.size)
                    have n0 := b7.cell 0 rfl
                    have n1 := b7.cell 1 rfl
                    have n2 := b7.cell 2 rfl
                    have n3 := b7.cell 3 rfl
                    clear m4 m5 m6 m7 m8 m9 HBB HB6 b7 hb6'
                    go_wp2_with fail
                    refine (KMh.out _).mono ?_
                    rintro e w7 ⟨rfl, hb8⟩
                    have hb9 := toHid (hb7.trans (hb8.mono hb7.size))
                    clear n0 n1 n2 n3 hb8 hb7
                    go_wp2_with fail
                    go_roundw
                    case rel => exact ⟨i + 1, by omega, by go_num, hb9.out⟩
                    case measure => (simp [intOf]; try omega)
                · obtain rfl : i = G.length := by omega
                  have hE := (HX4.out wr hbq).2.2.2.2
                  have hgz : ¬ (G.length : Int) < (G.length : Int) := by omega
                  clear FN HX4
                  go_wp2_with fail
                  refine (LV.out _).mono ?_
                  rintro e u8 ⟨rfl, g8⟩
                  go_wp2_with fail
                  go_ret
                  exact ⟨rfl, hE.trans (g8.mono hE.size)⟩
          · obtain ⟨i, rfl⟩ : ∃ i, j = i + 1 := ⟨j - 1, by omega⟩
            have ei : ((i + 1 : Nat) : Int) - 1 = (i : Int) := by omega
            rw [ei]
            have hc0 : G[i]? = some G[i] := List.getElem?_eq_getElem (by omega)
            have hds : (G.drop i).reverse = (G.drop (i + 1)).reverse ++ [G[i]] := by rw [List.drop_eq_getElem_cons (by omega), List.reverse_cons]
            have hdl : (dbl (G.drop (i + 1)).reverse).length ≤ 600 := by rw [dbl_len, List.length_reverse, List.length_drop]; omega
            obtain ⟨b1, o1, rfl, x1⟩ := (HX2.out wr hbr).1 i _ hc0
            generalize G[i] = c at *
            obtain ⟨⟨ct, cp, cr, cc⟩, ⟨cti, cd, cl, ck, cn', cstr⟩⟩ := c
            have x2 := x1.below (Below.refl wr.heap.size wr).drew x1.lt
            obtain ⟨k0, k1, k2, k3, k4, k5, k6, k7, k8, k9⟩ := x1
            obtain ⟨m0, m1, m2, m3, m4, m5, m6, m7, m8, m9⟩ := x2
            simp only at k0 k1 k2 k3 k4 k5 k6 k7 k8 k9 m0 m1 m2 m3 m4 m5 m6 m7 m8 m9
            have HG := toHid hds
            have hiz : (i : Int) < (G.length : Int) := by omega
            have hsz := hbr.size
            clear hds hc0
            go_wp2_with fail
            go_region_law (refine step_append_grew rfl (.tmp 50) (.tmp 59) 22 22 rfl w2.heap.size 41 i1 _ 10 112 Try.underlying22 hi1 hy0 hy1 hy2 rfl v (dbl (G.drop (i + 1)).reverse).length _ rfl (by exact (owBelow ho (Below.refl wr.heap.size wr).drew).alloc _) _ 2 ([(⟨⟨ct, cp, cr, cc⟩, ⟨cti, cd, cl, ck, cn', cstr⟩⟩ : Cx), ⟨⟨ct, cp, cr, cc⟩, ⟨cti, cd, cl, ck, cn', cstr⟩⟩].flatMap xs10) rfl (src_cells (sees_two wr.drew ⟨⟨ct, cp, cr, cc⟩, ⟨cti, cd, cl, ck, cn', cstr⟩⟩) (fun h => by cases h) 2) (by unfold maxLen; omega) (by omega) (by show w2.heap.size ≤ (wr.alloc _).heap.size; rw [World.size_alloc]; omega) ?_; intro v5 w5 ho5 hg5)
            all_goals
              have hM := toHid (grew_two (c := ⟨⟨ct, cp, cr, cc⟩, ⟨cti, cd, cl, ck, cn', cstr⟩⟩) hbr ho ho5 hg5)
              clear ho5 hg5 ho k0 k1 k2 k3 k4 k5 k6 k7 k8 k9 m0 m1 m2 m3 m4 m5 m6 m7 m8 m9
              go_wp2_with fail
              go_roundw
              case rel => exact ⟨i, _, by omega, rfl, by go_num, by rw [HG.out]; exact hM.out.1, hM.out.2⟩
              case measure => (simp [intOf]; try omega)
end Go.Proofs.Ytjjbghbhnnionaa.cellWhole

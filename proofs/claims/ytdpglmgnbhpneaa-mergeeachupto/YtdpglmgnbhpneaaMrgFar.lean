/-
  CONTRACTS: the cells of a partition (Part), by the program and by the document. CONTRACT: the document's Sub.
-/
import Derived.Test.YtdpglmgnbhpneaaMrgMid
import Derived.Test.YtdpglmgnbhpneaaCxRefMore
import Derived.Test.YtdpglmgnbhpneaaCxFound
import Derived.Test.YtdpglmgnbhpneaaVerRef
namespace Go.Proofs.Ytdpglmgnbhpneaa
open Go.RowKit

/-- Is a cell of that table and partition? -/
def inPt (t p : ByteArray) (c : Cx) : Bool := decide (c.k.t = t) && decide (c.k.p = p)
def prt (t p : ByteArray) (l : List Cx) : List Cx := l.filter (inPt t p)
theorem prt_snoc (t p : ByteArray) (l : List Cx) (c : Cx) : prt t p (l ++ [c]) = prt t p l ++ (if inPt t p c = true then [c] else []) := by
  unfold prt
  rw [List.filter_append]
  congr 1
  cases h : inPt t p c <;> simp [h]
theorem prt_len (t p : ByteArray) (l : List Cx) : (prt t p l).length ≤ l.length := List.length_filter_le _ _
/-- Rows while cells are gathered into a variable. -/
structure Gv (w wr : World) (v : Value) (L : List Cx) : Prop where
  row : wr.ownsRow w.heap.size 39 10 v L.length (L.flatMap xs10)
  bel : Below w.heap.size w wr
theorem Gv.more {w wr u : World} {v : Value} {L : List Cx} (h : Gv w wr v L) (hu : Below wr.heap.size wr u) : Gv w u v L := ⟨ownsRow_blk h.row fun g hg => hu.block _ (h.row.lt g hg).2, h.bel.trans (hu.mono h.bel.size)⟩
theorem Gv.add {w u w3 : World} {v v' : Value} {L : List Cx} {c : Cx} {o : Obj} (h : Gv w u v L) (ho : w3.ownsRow w.heap.size 39 10 v' (L.length + 1) (L.flatMap xs10 ++ [c].flatMap xs10)) (hg : Grew (u.alloc o) w3 v v') : Gv w w3 v' (L ++ [c]) := by
  refine ⟨?_, ?_⟩
  · rw [List.length_append, List.flatMap_append]; exact ho
  · have hB2 : Below w.heap.size w (u.alloc o) := h.bel.alloc h.bel.size _
    exact hB2.trans (hg.below hB2.size fun g e => (h.row.lt g e).1)
set_option maxRecDepth 100000 in
set_option maxHeartbeats 1000000 in
theorem mpart_any (ao : Option Addr) (l : List Cx) (cap : Nat) (t p : ByteArray) (w : World) (hs : XSees w ao l) (hl : l.length ≤ 1000000) :
    Calls Try.prog 19 #[.slice ao l.length cap, .string t, .string p] w fun e w' => ∃ v, e = .returned v ∧ w'.ownsRow w.heap.size 39 10 v (prt t p (nrm l)).length ((prt t p (nrm l)).flatMap xs10) ∧ Below w.heap.size w w' := by
  obtain ⟨i1, hi1, hy0, hy1, hy2⟩ := infoX infoCx
  have N : Hid (Calls Try.prog 28 #[.slice ao l.length cap] w fun e w' => ∃ v, e = .returned v ∧ w'.ownsRow w.heap.size 39 10 v (nrm l).length ((nrm l).flatMap xs10) ∧ Below w.heap.size w w') := mnorm_any ao l cap w hs hl
  have hnl := nrm_len l
  generalize nrm l = L at *
  have hLz : (L.length : Int) ≤ 1000000 := by omega
  have hLn : L.length ≤ 1000000 := by omega
  clear hs hnl
  go_enter Try.func19, Try.ntmps19
  go_wp2_with fail
  refine N.out.mono ?_
  clear N
  rintro e w1 ⟨v1, rfl, ho1, hb1⟩
  obtain ⟨a1, c1, rfl⟩ := ownsM_shape ho1
  have hx1 := (owns_see ho1).1
  have HG : Hid (Gv w1 w1 (.slice none 0 0) []) := ⟨World.ownsRow_nil _ _ _ _, Below.refl _ _⟩
  clear ho1
  go_wp2_with fail
  go_loopw [7, 13] (fun s7 s13 wr => ∃ i : Nat, i ≤ L.length ∧ s13 = .int .i64 i ∧ Gv w1 wr s7 (prt t p (L.take i))) (fun _ s13 _ => L.length - (intOf s13).toNat)
  case atStart => exact ⟨0, by omega, by go_num, HG.out⟩
  case round =>
    clear HG
    obtain ⟨i, hi, rfl, hG⟩ := hrel
    have hB := hG.bel
    rcases Nat.lt_or_ge i L.length with hlt | hge
    · obtain ⟨c, hc⟩ : ∃ c, L[i]? = some c := ⟨_, List.getElem?_eq_getElem hlt⟩
      obtain ⟨b, off, rfl, h1⟩ := (hx1.below hB (Nat.le_refl _)) i c hc
      have hiz : (i : Int) < (L.length : Int) := by omega
      have htk := takeX_succ hc
      have hpl : (prt t p (L.take i)).length ≤ i := by have := prt_len t p (L.take i); simp at this; omega
      have hstp := prt_snoc t p (L.take i) c
      rw [← htk] at hstp
      obtain ⟨⟨ca, cp, cr, cc⟩, ⟨ct, cd, cl, ck, cn, cs⟩⟩ := c
      have k0 := (h1.c0)
      have k1 := (h1.c1)
      have k2 := (h1.c2)
      have k3 := (h1.c3)
      have k4 := (h1.c4)
      have k5 := (h1.c5)
      have k6 := (h1.c6)
      have k7 := (h1.c7)
      have k8 := (h1.c8)
      have k9 := (h1.c9)
      simp only at k0 k1 k2 k3 k4 k5 k6 k7 k8 k9
      obtain ⟨va, vc, hv⟩ := ownsM_shape hG.row
      subst hv
      have hGc : Hid (Gv w1 (wr.alloc (.cells #[.string ca, .string cp, .int .i64 cr, .string cc, .int .i64 ct, .bool cd, .int .i64 cl, .int .i64 ck, .int .i64 cn, .string cs] 39)) (.slice va (prt t p (L.take i)).length vc) (prt t p (L.take i))) := hG.more ((Below.refl _ _).alloc (Nat.le_refl _) _)
      by_cases ht : ca = t
      · subst ht
        by_cases hp : cp = p
        · subst hp
          have hin : inPt ca cp ⟨⟨ca, cp, cr, cc⟩, ⟨ct, cd, cl, ck, cn, cs⟩⟩ = true := by unfold inPt; simp
          rw [hin, if_pos rfl] at hstp
          have HST : Hid (prt ca cp (L.take (i + 1)) = prt ca cp (L.take i) ++ [⟨⟨ca, cp, cr, cc⟩, ⟨ct, cd, cl, ck, cn, cs⟩⟩]) := hstp
          have hsr : Src Try.prog 10 25 (.slice (some ⟨wr.heap.size + 1, 0, none⟩) 1 1) 1 (([⟨⟨ca, cp, cr, cc⟩, ⟨ct, cd, cl, ck, cn, cs⟩⟩] : List Cx).flatMap xs10) ((wr.alloc (.cells #[.string ca, .string cp, .int .i64 cr, .string cc, .int .i64 ct, .bool cd, .int .i64 cl, .int .i64 ck, .int .i64 cn, .string cs] 39)).alloc (.cells #[.string ca, .string cp, .int .i64 cr, .string cc, .int .i64 ct, .bool cd, .int .i64 cl, .int .i64 ck, .int .i64 cn, .string cs] 39)) := by
            have h := src_one_cx (wr.alloc (.cells #[.string ca, .string cp, .int .i64 cr, .string cc, .int .i64 ct, .bool cd, .int .i64 cl, .int .i64 ck, .int .i64 cn, .string cs] 39)) ⟨⟨ca, cp, cr, cc⟩, ⟨ct, cd, cl, ck, cn, cs⟩⟩
            rw [World.size_alloc] at h
            exact h
          clear h1 hc hG htk hx1 hB hstp hin
          go_wp2_with (at_builtin; go_must (refine wpList_append_grew _ rfl _ _ 25 25 rfl w1.heap.size 39 i1 _ 10 112 Try.underlying25 hi1 hy0 hy1 hy2 rfl _ (prt ca cp (L.take i)).length _ rfl (World.ownsRow.alloc hGc.out.row _) _ 1 (([⟨⟨ca, cp, cr, cc⟩, ⟨ct, cd, cl, ck, cn, cs⟩⟩] : List Cx).flatMap xs10) rfl hsr (by unfold maxLen; omega) (by omega) (by have := hGc.out.bel.size; simp at *; omega) ?_; intro v5 w5 ho5 hg5))
          have hG5 := hGc.out.add ho5 hg5
          rw [← HST.out] at hG5
          have HB5 : Hid (Gv w1 w5 v5 (prt ca cp (L.take (i + 1)))) := hG5
          clear ho5 hg5 hG5
          go_wp2_with fail
          go_roundw
          case rel => exact ⟨i + 1, by omega, by go_num, HB5.out⟩
          case measure => simp [intOf]; omega
        · have hin : inPt ca p ⟨⟨ca, cp, cr, cc⟩, ⟨ct, cd, cl, ck, cn, cs⟩⟩ = false := by unfold inPt; simp [hp]
          rw [hin] at hstp
          have HST : Hid (prt ca p (L.take (i + 1)) = prt ca p (L.take i)) := by show _ = _; rw [hstp]; simp
          have hpl' : ¬ cp.toList = p.toList := fun e => hp (by rw [ba_list, ba_list] at e; exact nb_inj.1 e)
          have hpb : (cp.toList == p.toList) = false := by rw [ba_same]; simp [hp]
          clear h1 hc hG htk hx1 hB hstp hin hp
          go_wp2_with fail
          go_roundw
          case rel => exact ⟨i + 1, by omega, by go_num, by rw [HST.out]; exact hGc.out⟩
          case measure => simp [intOf]; omega
      · have hin : inPt t p ⟨⟨ca, cp, cr, cc⟩, ⟨ct, cd, cl, ck, cn, cs⟩⟩ = false := by unfold inPt; simp [ht]
        rw [hin] at hstp
        have HST : Hid (prt t p (L.take (i + 1)) = prt t p (L.take i)) := by show _ = _; rw [hstp]; simp
        have htl' : ¬ ca.toList = t.toList := fun e => ht (by rw [ba_list, ba_list] at e; exact nb_inj.1 e)
        clear h1 hc hG htk hx1 hB hstp hin ht
        go_wp2_with fail
        go_roundw
        case rel => exact ⟨i + 1, by omega, by go_num, by rw [HST.out]; exact hGc.out⟩
        case measure => simp [intOf]; omega
    · obtain rfl : i = L.length := by omega
      rw [List.take_of_length_le (Nat.le_refl _)] at hG
      have hge' : ¬ (L.length : Int) < (L.length : Int) := by omega
      obtain ⟨va, vc, hv⟩ := ownsM_shape hG.row
      subst hv
      clear hx1 hB
      go_wp2_with fail
      go_ret
      exact ⟨_, rfl, ownsM_mono hG.row hb1.size, hb1.trans (hG.bel.mono hb1.size)⟩
set_option maxRecDepth 100000 in
set_option maxHeartbeats 1000000 in
theorem rpart_any (ao : Option Addr) (l : List Cx) (cap : Nat) (t p : ByteArray) (w : World) (hs : XSees w ao l) (hl : l.length ≤ 1000000) :
    Calls Try.prog 20 #[.slice ao l.length cap, .string t, .string p] w fun e w' => ∃ v, e = .returned v ∧ w'.ownsRow w.heap.size 39 10 v (prt t p (nrm l)).length ((prt t p (nrm l)).flatMap xs10) ∧ Below w.heap.size w w' := by
  obtain ⟨i1, hi1, hy0, hy1, hy2⟩ := infoX infoCx
  have N : Hid (Calls Try.prog 23 #[.slice ao l.length cap] w fun e w' => ∃ v, e = .returned v ∧ w'.ownsRow w.heap.size 39 10 v (nrm l).length ((nrm l).flatMap xs10) ∧ Below w.heap.size w w') := refNorm_any ao l cap w hs hl
  have hnl := nrm_len l
  generalize nrm l = L at *
  have hLz : (L.length : Int) ≤ 1000000 := by omega
  have hLn : L.length ≤ 1000000 := by omega
  clear hs hnl
  go_enter Try.func20, Try.ntmps20
  go_wp2_with fail
  refine N.out.mono ?_
  clear N
  rintro e w1 ⟨v1, rfl, ho1, hb1⟩
  obtain ⟨a1, c1, rfl⟩ := ownsM_shape ho1
  have hx1 := (owns_see ho1).1
  have HG : Hid (Gv w1 w1 (.slice none 0 0) []) := ⟨World.ownsRow_nil _ _ _ _, Below.refl _ _⟩
  clear ho1
  go_wp2_with fail
  go_loopw [7, 13] (fun s7 s13 wr => ∃ i : Nat, i ≤ L.length ∧ s13 = .int .i64 i ∧ Gv w1 wr s7 (prt t p (L.take i))) (fun _ s13 _ => L.length - (intOf s13).toNat)
  case atStart => exact ⟨0, by omega, by go_num, HG.out⟩
  case round =>
    clear HG
    obtain ⟨i, hi, rfl, hG⟩ := hrel
    have hB := hG.bel
    rcases Nat.lt_or_ge i L.length with hlt | hge
    · obtain ⟨c, hc⟩ : ∃ c, L[i]? = some c := ⟨_, List.getElem?_eq_getElem hlt⟩
      obtain ⟨b, off, rfl, h1⟩ := (hx1.below hB (Nat.le_refl _)) i c hc
      have hiz : (i : Int) < (L.length : Int) := by omega
      have htk := takeX_succ hc
      have hpl : (prt t p (L.take i)).length ≤ i := by have := prt_len t p (L.take i); simp at this; omega
      have hstp := prt_snoc t p (L.take i) c
      rw [← htk] at hstp
      obtain ⟨⟨ca, cp, cr, cc⟩, ⟨ct, cd, cl, ck, cn, cs⟩⟩ := c
      have k0 := (h1.c0)
      have k1 := (h1.c1)
      have k2 := (h1.c2)
      have k3 := (h1.c3)
      have k4 := (h1.c4)
      have k5 := (h1.c5)
      have k6 := (h1.c6)
      have k7 := (h1.c7)
      have k8 := (h1.c8)
      have k9 := (h1.c9)
      simp only at k0 k1 k2 k3 k4 k5 k6 k7 k8 k9
      obtain ⟨va, vc, hv⟩ := ownsM_shape hG.row
      subst hv
      have hGc : Hid (Gv w1 (wr.alloc (.cells #[.string ca, .string cp, .int .i64 cr, .string cc, .int .i64 ct, .bool cd, .int .i64 cl, .int .i64 ck, .int .i64 cn, .string cs] 39)) (.slice va (prt t p (L.take i)).length vc) (prt t p (L.take i))) := hG.more ((Below.refl _ _).alloc (Nat.le_refl _) _)
      by_cases ht : ca = t
      · subst ht
        by_cases hp : cp = p
        · subst hp
          have hin : inPt ca cp ⟨⟨ca, cp, cr, cc⟩, ⟨ct, cd, cl, ck, cn, cs⟩⟩ = true := by unfold inPt; simp
          rw [hin, if_pos rfl] at hstp
          have HST : Hid (prt ca cp (L.take (i + 1)) = prt ca cp (L.take i) ++ [⟨⟨ca, cp, cr, cc⟩, ⟨ct, cd, cl, ck, cn, cs⟩⟩]) := hstp
          have hsr : Src Try.prog 10 25 (.slice (some ⟨wr.heap.size + 1, 0, none⟩) 1 1) 1 (([⟨⟨ca, cp, cr, cc⟩, ⟨ct, cd, cl, ck, cn, cs⟩⟩] : List Cx).flatMap xs10) ((wr.alloc (.cells #[.string ca, .string cp, .int .i64 cr, .string cc, .int .i64 ct, .bool cd, .int .i64 cl, .int .i64 ck, .int .i64 cn, .string cs] 39)).alloc (.cells #[.string ca, .string cp, .int .i64 cr, .string cc, .int .i64 ct, .bool cd, .int .i64 cl, .int .i64 ck, .int .i64 cn, .string cs] 39)) := by
            have h := src_one_cx (wr.alloc (.cells #[.string ca, .string cp, .int .i64 cr, .string cc, .int .i64 ct, .bool cd, .int .i64 cl, .int .i64 ck, .int .i64 cn, .string cs] 39)) ⟨⟨ca, cp, cr, cc⟩, ⟨ct, cd, cl, ck, cn, cs⟩⟩
            rw [World.size_alloc] at h
            exact h
          clear h1 hc hG htk hx1 hB hstp hin
          go_wp2_with (at_builtin; go_must (refine wpList_append_grew _ rfl _ _ 25 25 rfl w1.heap.size 39 i1 _ 10 112 Try.underlying25 hi1 hy0 hy1 hy2 rfl _ (prt ca cp (L.take i)).length _ rfl (World.ownsRow.alloc hGc.out.row _) _ 1 (([⟨⟨ca, cp, cr, cc⟩, ⟨ct, cd, cl, ck, cn, cs⟩⟩] : List Cx).flatMap xs10) rfl hsr (by unfold maxLen; omega) (by omega) (by have := hGc.out.bel.size; simp at *; omega) ?_; intro v5 w5 ho5 hg5))
          have hG5 := hGc.out.add ho5 hg5
          rw [← HST.out] at hG5
          have HB5 : Hid (Gv w1 w5 v5 (prt ca cp (L.take (i + 1)))) := hG5
          clear ho5 hg5 hG5
          go_wp2_with fail
          go_roundw
          case rel => exact ⟨i + 1, by omega, by go_num, HB5.out⟩
          case measure => simp [intOf]; omega
        · have hin : inPt ca p ⟨⟨ca, cp, cr, cc⟩, ⟨ct, cd, cl, ck, cn, cs⟩⟩ = false := by unfold inPt; simp [hp]
          rw [hin] at hstp
          have HST : Hid (prt ca p (L.take (i + 1)) = prt ca p (L.take i)) := by show _ = _; rw [hstp]; simp
          have hpl' : ¬ cp.toList = p.toList := fun e => hp (by rw [ba_list, ba_list] at e; exact nb_inj.1 e)
          have hpb : (cp.toList == p.toList) = false := by rw [ba_same]; simp [hp]
          clear h1 hc hG htk hx1 hB hstp hin hp
          go_wp2_with fail
          go_roundw
          case rel => exact ⟨i + 1, by omega, by go_num, by rw [HST.out]; exact hGc.out⟩
          case measure => simp [intOf]; omega
      · have hin : inPt t p ⟨⟨ca, cp, cr, cc⟩, ⟨ct, cd, cl, ck, cn, cs⟩⟩ = false := by unfold inPt; simp [ht]
        rw [hin] at hstp
        have HST : Hid (prt t p (L.take (i + 1)) = prt t p (L.take i)) := by show _ = _; rw [hstp]; simp
        have htl' : ¬ ca.toList = t.toList := fun e => ht (by rw [ba_list, ba_list] at e; exact nb_inj.1 e)
        clear h1 hc hG htk hx1 hB hstp hin ht
        go_wp2_with fail
        go_roundw
        case rel => exact ⟨i + 1, by omega, by go_num, by rw [HST.out]; exact hGc.out⟩
        case measure => simp [intOf]; omega
    · obtain rfl : i = L.length := by omega
      rw [List.take_of_length_le (Nat.le_refl _)] at hG
      have hge' : ¬ (L.length : Int) < (L.length : Int) := by omega
      obtain ⟨va, vc, hv⟩ := ownsM_shape hG.row
      subst hv
      clear hx1 hB
      go_wp2_with fail
      go_ret
      exact ⟨_, rfl, ownsM_mono hG.row hb1.size, hb1.trans (hG.bel.mono hb1.size)⟩
end Go.Proofs.Ytdpglmgnbhpneaa
namespace Go.Proofs.Ytdpglmgnbhpneaa
open Go.RowKit

theorem fnd_none {k : Kb} {l : List Cx} (h : ∀ y ∈ l, y.k ≠ k) : (fnd k l).2 = false := by
  induction l with
  | nil => rfl
  | cons x l ih => rw [fnd_miss l (h x (by simp))]; exact ih fun y hy => h y (by simp [hy])
/-- What is lacking, as the document looks it up. -/
theorem lck_look {B : List Cx} (hB : Rising B) (c : Cx) : cov (dw c B) c = ((fnd c.k B).2 && decide (0 ≤ cv (fnd c.k B).1 c.v)) := by
  induction B with
  | nil => rfl
  | cons x B ih =>
    obtain ⟨h1, h2⟩ := List.pairwise_cons.1 hB
    by_cases hx : kx x c < 0
    · rw [dw_drop hx, ih h2, fnd_miss B (kx_ne hx)]
    · rw [dw_stay hx]
      by_cases hk : x.k = c.k
      · rw [cov_same hk, fnd_hit B hk]; simp
      · rw [cov_other hk, fnd_miss B hk, fnd_none fun y hy e => ?_]
        · rfl
        · have h3 := h1 y hy
          have h4 : kx x c < 0 := by rw [← kx_right e]; exact h3
          exact hx h4
set_option maxRecDepth 100000 in
set_option maxHeartbeats 1000000 in
theorem rsub_any (ao bo : Option Addr) (la lb : List Cx) (acap bcap : Nat) (w : World) (sa : XSees w ao la) (sb : XSees w bo lb) (hla : la.length ≤ 1000000) (hlb : lb.length ≤ 1000000) :
    Calls Try.prog 16 #[.slice ao la.length acap, .slice bo lb.length bcap] w fun e w' => ∃ v, e = .returned v ∧ w'.ownsRow w.heap.size 39 10 v (lck (nrm lb) (nrm la)).length ((lck (nrm lb) (nrm la)).flatMap xs10) ∧ Below w.heap.size w w' := by
  obtain ⟨i1, hi1, hy0, hy1, hy2⟩ := infoX infoCx
  have N1 : Hid (Calls Try.prog 23 #[.slice bo lb.length bcap] w fun e w' => ∃ v, e = .returned v ∧ w'.ownsRow w.heap.size 39 10 v (nrm lb).length ((nrm lb).flatMap xs10) ∧ Below w.heap.size w w') := refNorm_any bo lb bcap w sb hlb
  have N2 : Hid (∀ u, Below w.heap.size w u → Calls Try.prog 23 #[.slice ao la.length acap] u fun e w' => ∃ v, e = .returned v ∧ w'.ownsRow u.heap.size 39 10 v (nrm la).length ((nrm la).flatMap xs10) ∧ Below u.heap.size u w') := fun u hu => refNorm_any ao la acap u (sa.below hu (Nat.le_refl _)) hla
  have hnA := nrm_len la
  have hnB := nrm_len lb
  have hrB := nrm_rising lb
  generalize nrm la = A at *
  generalize nrm lb = B at *
  have hAz : (A.length : Int) ≤ 1000000 := by omega
  have hAn : A.length ≤ 1000000 := by omega
  have hBn : B.length ≤ 1000000 := by omega
  clear sa sb hnA hnB hla hlb
  go_enter Try.func16, Try.ntmps16
  go_wp2_with fail
  refine N1.out.mono ?_
  clear N1
  rintro e w1 ⟨v1, rfl, ho1, hb1⟩
  obtain ⟨bo1, bc1, rfl⟩ := ownsM_shape ho1
  have hxB1 := (owns_see ho1).1
  clear ho1
  go_wp2_with fail
  refine (N2.out w1 hb1).mono ?_
  clear N2
  rintro e w2 ⟨v2, rfl, ho2, hb2⟩
  obtain ⟨ao2, ac2, rfl⟩ := ownsM_shape ho2
  have hxA := (owns_see ho2).1
  have hxB := hxB1.below hb2 (Nat.le_refl _)
  have hb := hb1.trans (hb2.mono hb1.size)
  clear ho2 hxB1 hb1 hb2
  have HG : Hid (Gv w2 w2 (.slice none 0 0) []) := ⟨World.ownsRow_nil _ _ _ _, Below.refl _ _⟩
  go_wp2_with fail
  go_loopw [5, 15] (fun s5 s15 wr => ∃ i : Nat, i ≤ A.length ∧ s15 = .int .i64 i ∧ Gv w2 wr s5 (lck B (A.take i))) (fun _ s15 _ => A.length - (intOf s15).toNat)
  case atStart => exact ⟨0, by omega, by go_num, HG.out⟩
  case round =>
    clear HG
    obtain ⟨i, hi, rfl, hG⟩ := hrel
    rcases Nat.lt_or_ge i A.length with hlt | hge
    · obtain ⟨c, hc⟩ : ∃ c, A[i]? = some c := ⟨_, List.getElem?_eq_getElem hlt⟩
      obtain ⟨b, off, rfl, h1⟩ := (hxA.below hG.bel (Nat.le_refl _)) i c hc
      have hiz : (i : Int) < (A.length : Int) := by omega
      have htk := takeX_succ hc
      have hpl : (lck B (A.take i)).length ≤ i := by have := lck_len B (A.take i); simp at this; omega
      have hstp := lck_snoc B (A.take i) c
      rw [← htk, lck_look hrB c] at hstp
      have FD : Hid (∀ u, Below w2.heap.size w2 u → Calls Try.prog 27 #[.slice bo1 B.length bc1, c.k.v] u fun e w' => e = .returned (.tuple #[(fnd c.k B).1.v, .bool (fnd c.k B).2]) ∧ Below u.heap.size u w') := fun u hu => refFind_any bo1 B bc1 c.k u (hxB.below hu (Nat.le_refl _)) hBn
      have CM : Hid (∀ u, Calls Try.prog 33 #[(fnd c.k B).1.v, c.v.v] u fun e w' => e = .returned (.int .i64 (cv (fnd c.k B).1 c.v)) ∧ Below u.heap.size u w') := fun u => refVcmp_any (fnd c.k B).1 c.v u
      obtain ⟨fv, ok, hfd⟩ : ∃ fv ok, fnd c.k B = (fv, ok) := ⟨_, _, rfl⟩
      rw [hfd] at FD CM hstp
      simp only at FD CM hstp
      generalize cv fv c.v = D at *
      obtain ⟨⟨ca, cp, cr, cc⟩, ⟨ct, cd, cl, ck, cn, cs⟩⟩ := c
      have k0 := h1.c0
      have k1 := h1.c1
      have k2 := h1.c2
      have k3 := h1.c3
      have k4 := h1.c4
      have k5 := h1.c5
      have k6 := h1.c6
      have k7 := h1.c7
      have k8 := h1.c8
      have k9 := h1.c9
      simp only at k0 k1 k2 k3 k4 k5 k6 k7 k8 k9
      obtain ⟨va, vc, hv⟩ := ownsM_shape hG.row
      subst hv
      have bc0 := Blk.new wr (xs10 ⟨⟨ca, cp, cr, cc⟩, ⟨ct, cd, cl, ck, cn, cs⟩⟩) 39
      have HGc : Hid (Gv w2 (wr.alloc (.cells #[.string ca, .string cp, .int .i64 cr, .string cc, .int .i64 ct, .bool cd, .int .i64 cl, .int .i64 ck, .int .i64 cn, .string cs] 39)) (.slice va (lck B (A.take i)).length vc) (lck B (A.take i))) := hG.more ((Below.refl _ _).alloc (Nat.le_refl _) _)
      obtain ⟨ft, fd, fl, fk, fn, fs⟩ := fv
      simp only [Kb.v, Vr.v] at FD CM
      clear h1 hc hG htk hfd
      go_wp2_with fail
      refine (FD.out _ HGc.out.bel).mono ?_
      clear FD k0 k1 k2 k3 k4 k5 k6 k7 k8 k9
      rintro e u1 ⟨rfl, hu1⟩
      have hG1 := HGc.out.more hu1
      have bc1' : Blk u1 wr.heap.size (xs10 ⟨⟨ca, cp, cr, cc⟩, ⟨ct, cd, cl, ck, cn, cs⟩⟩) 39 := bc0.carry (hu1.block _ bc0.lt)
      have bc2 : Blk (u1.alloc (.cells #[.int .i64 ft, .bool fd, .int .i64 fl, .int .i64 fk, .int .i64 fn, .string fs] 37)) wr.heap.size [.string ca, .string cp, .int .i64 cr, .string cc, .int .i64 ct, .bool cd, .int .i64 cl, .int .i64 ck, .int .i64 cn, .string cs] 39 := bc1'.alloc _
      have bv : Blk (u1.alloc (.cells #[.int .i64 ft, .bool fd, .int .i64 fl, .int .i64 fk, .int .i64 fn, .string fs] 37)) u1.heap.size [.int .i64 ft, .bool fd, .int .i64 fl, .int .i64 fk, .int .i64 fn, .string fs] 37 := Blk.new u1 _ _
      have hG2 := hG1.more ((Below.refl _ _).alloc (Nat.le_refl _) (.cells #[.int .i64 ft, .bool fd, .int .i64 fl, .int .i64 fk, .int .i64 fn, .string fs] 37))
      clear bc0 bc1' HGc hu1 hG1
      cases ok with
      | false =>
        have HST : Hid (lck B (A.take (i + 1)) = lck B (A.take i) ++ [⟨⟨ca, cp, cr, cc⟩, ⟨ct, cd, cl, ck, cn, cs⟩⟩]) := by show _ = _; rw [hstp]; simp
        have k0 := bc2.cell 0 rfl
        have k1 := bc2.cell 1 rfl
        have k2 := bc2.cell 2 rfl
        have k3 := bc2.cell 3 rfl
        have k4 := bc2.cell 4 rfl
        have k5 := bc2.cell 5 rfl
        have k6 := bc2.cell 6 rfl
        have k7 := bc2.cell 7 rfl
        have k8 := bc2.cell 8 rfl
        have k9 := bc2.cell 9 rfl
        have HG2 : Hid (Gv w2 (u1.alloc (.cells #[.int .i64 ft, .bool fd, .int .i64 fl, .int .i64 fk, .int .i64 fn, .string fs] 37)) (.slice va (lck B (A.take i)).length vc) (lck B (A.take i))) := hG2
        have hsr : Src Try.prog 10 25 (.slice (some ⟨u1.heap.size + 1, 0, none⟩) 1 1) 1 (([⟨⟨ca, cp, cr, cc⟩, ⟨ct, cd, cl, ck, cn, cs⟩⟩] : List Cx).flatMap xs10) ((u1.alloc (.cells #[.int .i64 ft, .bool fd, .int .i64 fl, .int .i64 fk, .int .i64 fn, .string fs] 37)).alloc (.cells #[.string ca, .string cp, .int .i64 cr, .string cc, .int .i64 ct, .bool cd, .int .i64 cl, .int .i64 ck, .int .i64 cn, .string cs] 39)) := by
          have h := src_one_cx (u1.alloc (.cells #[.int .i64 ft, .bool fd, .int .i64 fl, .int .i64 fk, .int .i64 fn, .string fs] 37)) ⟨⟨ca, cp, cr, cc⟩, ⟨ct, cd, cl, ck, cn, cs⟩⟩
          rw [World.size_alloc] at h
          exact h
        clear CM hstp hG2 bc2 bv
        go_wp2_with (at_builtin; go_must (refine wpList_append_grew _ rfl _ _ 25 25 rfl w2.heap.size 39 i1 _ 10 112 Try.underlying25 hi1 hy0 hy1 hy2 rfl _ (lck B (A.take i)).length _ rfl (World.ownsRow.alloc HG2.out.row _) _ 1 (([⟨⟨ca, cp, cr, cc⟩, ⟨ct, cd, cl, ck, cn, cs⟩⟩] : List Cx).flatMap xs10) rfl hsr (by unfold maxLen; omega) (by omega) (by have := HG2.out.bel.size; simp at *; omega) ?_; intro v5 w5 ho5 hg5))
        have hG5 := HG2.out.add ho5 hg5
        rw [← HST.out] at hG5
        have HB5 : Hid (Gv w2 w5 v5 (lck B (A.take (i + 1)))) := hG5
        clear ho5 hg5 hG5
        go_wp2_with fail
        go_roundw
        case rel => exact ⟨i + 1, by omega, by go_num, HB5.out⟩
        case measure => simp [intOf]; omega
      | true =>
        have g0 := bv.cell 0 rfl
        have g1 := bv.cell 1 rfl
        have g2 := bv.cell 2 rfl
        have g3 := bv.cell 3 rfl
        have g4 := bv.cell 4 rfl
        have g5 := bv.cell 5 rfl
        have k4 := bc2.cell 4 rfl
        have k5 := bc2.cell 5 rfl
        have k6 := bc2.cell 6 rfl
        have k7 := bc2.cell 7 rfl
        have k8 := bc2.cell 8 rfl
        have k9 := bc2.cell 9 rfl
        have HGW : Hid (∀ U, Below (u1.alloc (.cells #[.int .i64 ft, .bool fd, .int .i64 fl, .int .i64 fk, .int .i64 fn, .string fs] 37)).heap.size (u1.alloc (.cells #[.int .i64 ft, .bool fd, .int .i64 fl, .int .i64 fk, .int .i64 fn, .string fs] 37)) U → Gv w2 U (.slice va (lck B (A.take i)).length vc) (lck B (A.take i)) ∧ Blk U wr.heap.size [.string ca, .string cp, .int .i64 cr, .string cc, .int .i64 ct, .bool cd, .int .i64 cl, .int .i64 ck, .int .i64 cn, .string cs] 39) := fun U hU => ⟨hG2.more hU, bc2.carry (hU.block _ bc2.lt)⟩
        have HSTP : Hid (lck B (A.take (i + 1)) = lck B (A.take i) ++ if (true && decide (0 ≤ D)) = true then [] else [⟨⟨ca, cp, cr, cc⟩, ⟨ct, cd, cl, ck, cn, cs⟩⟩]) := hstp
        clear hstp hG2 bc2 bv
        go_wp2_with fail
        refine (CM.out _).mono ?_
        clear CM g0 g1 g2 g3 g4 g5 k4 k5 k6 k7 k8 k9
        rintro e u3 ⟨rfl, hu3⟩
        obtain ⟨hG3, bc3⟩ := HGW.out u3 hu3
        clear HGW hu3
        by_cases hD : D < 0
        · have HST : Hid (lck B (A.take (i + 1)) = lck B (A.take i) ++ [⟨⟨ca, cp, cr, cc⟩, ⟨ct, cd, cl, ck, cn, cs⟩⟩]) := by
            show _ = _
            rw [HSTP.out, if_neg (by simp; omega)]
          have hsr := src_one_cx u3 ⟨⟨ca, cp, cr, cc⟩, ⟨ct, cd, cl, ck, cn, cs⟩⟩
          simp only [Cx.a] at hsr
          have HG2 : Hid (Gv w2 u3 (.slice va (lck B (A.take i)).length vc) (lck B (A.take i))) := hG3
          have k0 := bc3.cell 0 rfl
          have k1 := bc3.cell 1 rfl
          have k2 := bc3.cell 2 rfl
          have k3 := bc3.cell 3 rfl
          have k4 := bc3.cell 4 rfl
          have k5 := bc3.cell 5 rfl
          have k6 := bc3.cell 6 rfl
          have k7 := bc3.cell 7 rfl
          have k8 := bc3.cell 8 rfl
          have k9 := bc3.cell 9 rfl
          clear HSTP hG3 bc3
          go_wp2_with (at_builtin; go_must (refine wpList_append_grew _ rfl _ _ 25 25 rfl w2.heap.size 39 i1 _ 10 112 Try.underlying25 hi1 hy0 hy1 hy2 rfl _ (lck B (A.take i)).length _ rfl (World.ownsRow.alloc HG2.out.row _) _ 1 (([⟨⟨ca, cp, cr, cc⟩, ⟨ct, cd, cl, ck, cn, cs⟩⟩] : List Cx).flatMap xs10) rfl hsr (by unfold maxLen; omega) (by omega) (by have := HG2.out.bel.size; simp at *; omega) ?_; intro v5 w5 ho5 hg5))
          have hG5 := HG2.out.add ho5 hg5
          rw [← HST.out] at hG5
          have HB5 : Hid (Gv w2 w5 v5 (lck B (A.take (i + 1)))) := hG5
          clear ho5 hg5 hG5
          go_wp2_with fail
          go_roundw
          case rel => exact ⟨i + 1, by omega, by go_num, HB5.out⟩
          case measure => simp [intOf]; omega
        · have HST : Hid (lck B (A.take (i + 1)) = lck B (A.take i)) := by
            show _ = _
            rw [HSTP.out, if_pos (by simp; omega)]; simp
          have HG3 : Hid (Gv w2 u3 (.slice va (lck B (A.take i)).length vc) (lck B (A.take i))) := hG3
          have hD' : ¬ D < 0 := hD
          clear HSTP hG3 bc3 hD
          go_wp2_with fail
          go_roundw
          case rel => exact ⟨i + 1, by omega, by go_num, by rw [HST.out]; exact HG3.out⟩
          case measure => simp [intOf]; omega
    · obtain rfl : i = A.length := by omega
      rw [List.take_of_length_le (Nat.le_refl _)] at hG
      have hge' : ¬ (A.length : Int) < (A.length : Int) := by omega
      obtain ⟨va, vc, hv⟩ := ownsM_shape hG.row
      subst hv
      clear hxA hxB
      go_wp2_with fail
      go_ret
      exact ⟨_, rfl, ownsM_mono hG.row hb.size, hb.trans (hG.bel.mono hb.size)⟩
end Go.Proofs.Ytdpglmgnbhpneaa

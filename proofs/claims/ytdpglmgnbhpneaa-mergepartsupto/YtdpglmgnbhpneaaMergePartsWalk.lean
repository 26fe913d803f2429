/-
  THE WALK of the law MergeParts: the partitions of a list are all of it, each cell in its own.
-/
import Derived.Test.YtdpglmgnbhpneaaMrgSeg
import Derived.Test.YtdpglmgnbhpneaaMrgLives
import Derived.Test.YtdpglmgnbhpneaaNormWhole
namespace Go.Proofs.Ytdpglmgnbhpneaa.mergeParts
open Go.RowKit

attribute [local irreducible] wpQuiet
theorem lsees1 (w : World) (x : Lv) : LSees (w.alloc (.cells #[x.s] 25)) (some ⟨w.heap.size, 0, none⟩) [x] := fun i v hv => by
  have hg : (w.alloc (.cells #[x.s] 25)).heap[w.heap.size]? = some (.cells #[x.s] 25) := heap_alloc_new w _
  refine ⟨w.heap.size, 0, rfl, ?_⟩
  simp only [World.cell?, hg]
  rcases i with _ | i
  · cases hv; rfl
  · simp at hv
theorem xsees_sub {w : World} {b o : Nat} {L : List Cx} (h : XSees w (some ⟨b, o, none⟩) L) (n k : Nat) : XSees w (some ⟨b, o + n * 10, none⟩) ((L.drop n).take k) := fun i c hc => by
  have hi : i < k := by
    have := (List.getElem?_eq_some_iff.1 hc).1
    rw [List.length_take] at this; omega
  rw [List.getElem?_take_of_lt hi, List.getElem?_drop] at hc
  obtain ⟨b', o', e, t⟩ := h (n + i) c hc
  injection e with e
  injection e with e1 e2
  subst e1 e2
  refine ⟨b, o + n * 10, rfl, ?_⟩
  have : o + n * 10 + i * 10 = o + (n + i) * 10 := by omega
  rw [this]; exact t
set_option maxRecDepth 100000 in
set_option maxHeartbeats 2000000 in
theorem walk (ao : Option Addr) (l : List Cx) (ac : Nat) (w : World) (sa : XSees w ao l) (ha : l.length ≤ 100000 ∧ ∀ c ∈ l, wtX c ≤ 562949953421312) :
    Calls Try.prog 7 #[.slice ao l.length ac] w fun e w' => e = .returned (.bool true) ∧ Below w.heap.size w w' := by
  have LV : Hid (∀ w : World, Calls Try.prog 10 #[] w fun e w' => e = .returned (.bool true) ∧ Below w.heap.size w w') := lives10_any
  have hB2 : ∀ u : World, Below u.heap.size u (u.alloc (.cells #[.slice ao l.length ac] 25)) := fun u => (Below.refl _ _).alloc (Nat.le_refl _) _
  have FW : Hid (Calls Try.prog 9 #[.slice (some ⟨w.heap.size, 0, none⟩) 1 1] (w.alloc (.cells #[.slice ao l.length ac] 25)) fun e w' => (∃ b, e = .returned (.bool b)) ∧ Below w.heap.size w w') :=
    (few_any (some ⟨w.heap.size, 0, none⟩) [⟨ao, ac, l⟩] 1 _ (lsees1 w ⟨ao, ac, l⟩) (fun v hv => by
      simp only [List.mem_cons, List.not_mem_nil, or_false] at hv
      subst hv
      exact sa.below (hB2 w) (Nat.le_refl _)) (by simp) (fun v hv => by
      simp only [List.mem_cons, List.not_mem_nil, or_false] at hv
      subst hv
      exact ⟨by show l.length ≤ _; omega, ha.2⟩)).mono fun e w' ⟨⟨b, h1, _⟩, h2⟩ => ⟨⟨b, h1⟩, (hB2 w).trans (h2.mono (hB2 w).size)⟩
  have hl1 : l.length ≤ 1000000 := by omega
  have hnl := nrm_len l
  obtain ⟨L, hLl⟩ : ∃ L, L = nrm l := ⟨_, rfl⟩
  have AL : Hid (∀ u : World, XSees u ao l → Calls Try.prog 15 #[.slice (some ⟨u.heap.size, 0, none⟩) 1 1] (u.alloc (.cells #[.slice ao l.length ac] 25)) fun e w' => ∃ v, e = .returned v ∧ w'.ownsRow u.heap.size 39 10 v L.length (L.flatMap xs10) ∧ Below u.heap.size u w') := fun u hu => by
    have h := all_anyM (some ⟨u.heap.size, 0, none⟩) [⟨ao, ac, l⟩] 1 (u.alloc (.cells #[.slice ao l.length ac] 25)) (lsees1 u ⟨ao, ac, l⟩) (fun v hv => by
      simp only [List.mem_cons, List.not_mem_nil, or_false] at hv
      subst hv
      exact hu.below (hB2 u) (Nat.le_refl _)) (by simp) (fun v hv => by
      simp only [List.mem_cons, List.not_mem_nil, or_false] at hv
      subst hv
      exact hl1) (by simp; omega)
    simp only [List.map_cons, List.map_nil, List.flatten_cons, List.flatten_nil, List.append_nil, nrm_nrm] at h
    rw [← hLl] at h
    exact h.mono fun e w' ⟨v, h1, h2, h3⟩ => ⟨v, h1, ownsM_mono h2 (hB2 u).size, (hB2 u).trans (h3.mono (hB2 u).size)⟩
  have hLn : L.length ≤ 100000 := by rw [hLl]; omega
  have hrL : Rising L := by rw [hLl]; exact nrm_rising l
  have hlz : (L.length : Int) ≤ 100000 := by omega
  have HLl : Hid (L = nrm l) := hLl
  clear hnl hB2 ha hLl
  go_enter Try.func7, Try.ntmps7
  go_wp2_with fail
  refine FW.out.mono ?_
  clear FW
  rintro e w3 ⟨⟨b, rfl⟩, hb3⟩
  cases b with
  | false =>
    clear sa
    go_wp2_with fail
    refine (LV.out _).mono ?_
    rintro e w4 ⟨rfl, hb4⟩
    go_wp2_with fail
    go_ret
    exact ⟨rfl, hb3.trans (hb4.mono hb3.size)⟩
  | true =>
    have sa3 := sa.below hb3 (Nat.le_refl _)
    clear sa
    go_wp2_with fail
    refine (AL.out w3 sa3).mono ?_
    clear AL
    rintro e w4 ⟨v4, rfl, ho4, b4⟩
    obtain ⟨ga, acp, rfl⟩ := ownsM_shape ho4
    obtain ⟨sL4, -, hcp4⟩ := owns_see ho4
    have sa4 := sa3.below b4 (Nat.le_refl _)
    have B4 := hb3.trans (b4.mono hb3.size)
    clear ho4 b4 sa3 hb3
    go_wp2_with fail
    go_loopw [4, 18] (fun s4 s18 wr => ∃ i n : Nat, i ≤ L.length ∧ s18 = .int .i64 i ∧ s4 = .int .i64 n ∧ Seg L i n ∧ Below w4.heap.size w4 wr) (fun _ s18 _ => L.length - (intOf s18).toNat)
    case atStart => exact ⟨0, 0, by omega, by go_num, by go_num, Seg.start L, Below.refl _ _⟩
    case round =>
      obtain ⟨i, n, hi, rfl, rfl, hsg, hB⟩ := hrel
      have hsl := hsg.lo
      have hsh := hsg.hi
      rcases Nat.lt_or_ge i L.length with hlt | hge
      · obtain ⟨c, hc⟩ : ∃ c, L[i]? = some c := ⟨_, List.getElem?_eq_getElem hlt⟩
        obtain ⟨ab, aof, rfl, h1⟩ := (sL4.below hB (Nat.le_refl _)) i c hc
        have hiz : (i : Int) < (L.length : Int) := by omega
        have HSAME : Hid (∀ y, 0 < i → L[i - 1]? = some y → samePt y c → Seg L (i + 1) n) := fun y h0 hy hs => hsg.same h0 hc hy hs
        have HNEXT : Hid ((0 < i → ∀ y, L[i - 1]? = some y → ¬ samePt y c) → n = i ∧ i + (prt c.k.t c.k.p L).length ≤ L.length ∧ prt c.k.t c.k.p L = (L.drop i).take (prt c.k.t c.k.p L).length ∧ Seg L (i + 1) (i + (prt c.k.t c.k.p L).length)) := fun hs => hsg.next hrL hc hs
        obtain ⟨⟨ca, cp, cr, cc⟩, ⟨ct, cd, cl, ck, cn, cs⟩⟩ := c
        have k0 := h1.c0
        have k1 := h1.c1
        have k2 := h1.c2
        have k3 := h1.c3
        have k4 := h1.c4
        have k5 := h1.c5
        have k6 := h1.c6
        have k7 := h1.c7
        have k8 := h1.c8
        have k9 := h1.c9
        simp only at k0 k1 k2 k3 k4 k5 k6 k7 k8 k9
        obtain ⟨wc, hwc⟩ : ∃ wc, wc = wr.alloc (.cells #[.string ca, .string cp, .int .i64 cr, .string cc, .int .i64 ct, .bool cd, .int .i64 cl, .int .i64 ck, .int .i64 cn, .string cs] 39) := ⟨_, rfl⟩
        have hBc : Below w4.heap.size w4 wc := by rw [hwc]; exact hB.alloc hB.size _
        have bc : Blk wc wr.heap.size [.string ca, .string cp, .int .i64 cr, .string cc, .int .i64 ct, .bool cd, .int .i64 cl, .int .i64 ck, .int .i64 cn, .string cs] 39 := by rw [hwc]; exact Blk.new wr _ _
        have HU : Hid (∀ U, Below wc.heap.size wc U → Below w4.heap.size w4 U ∧ XSees U ao l ∧ XSees U (some ⟨ab, aof, none⟩) L ∧ U.cell? ⟨wr.heap.size, 0, none⟩ = some (.string ca) ∧ U.cell? ⟨wr.heap.size, 1, none⟩ = some (.string cp)) := fun U hU => by
          have h2 := hBc.trans (hU.mono hBc.size)
          exact ⟨h2, sa4.below h2 (Nat.le_refl _), sL4.below h2 (Nat.le_refl _), (bc.carry (hU.block _ bc.lt)).cell 0 rfl, (bc.carry (hU.block _ bc.lt)).cell 1 rfl⟩
        have q0 : ∀ q : Cl wc.heap.size wc, q.u.cell? ⟨wr.heap.size, 0, none⟩ = some (.string ca) := fun q => (HU.out _ q.h).2.2.2.1
        have q1 : ∀ q : Cl wc.heap.size wc, q.u.cell? ⟨wr.heap.size, 1, none⟩ = some (.string cp) := fun q => (HU.out _ q.h).2.2.2.2
        have HPV : Hid (∀ y, 0 < i → L[i - 1]? = some y → ∀ q : Cl wc.heap.size wc, q.u.cell? ⟨ab, aof + (i - 1) * 10, none⟩ = some (.string y.k.t) ∧ q.u.cell? ⟨ab, aof + (i - 1) * 10 + 1, none⟩ = some (.string y.k.p)) := fun y h0 hy q => by
          obtain ⟨b', o', e, t⟩ := (HU.out _ q.h).2.2.1 (i - 1) y hy
          injection e with e
          injection e with e1 e2
          subst e1 e2
          exact ⟨t.c0, t.c1⟩
        haveI := Cl.inh wc.heap.size wc
        rcases Nat.eq_zero_or_pos i with hi0 | hi0
        · have hi0z : ¬ (0 : Int) < (i : Int) := by omega
          have hi0n : ¬ 0 < i := by omega
          have HNX : Hid (n = i ∧ i + (prt ca cp L).length ≤ L.length ∧ prt ca cp L = (L.drop i).take (prt ca cp L).length ∧ Seg L (i + 1) (i + (prt ca cp L).length)) := HNEXT.out (fun h => by omega)
          have HI0 : Hid (i = 0) := hi0
          clear h1 hc hsg hB hBc bc sL4 sa4 HNEXT HSAME HPV hi0
          go_wp2_with fail
          rw [← hwc]
          clear hwc k0 k1 k2 k3 k4 k5 k6 k7 k8 k9
          refine wp_region_cl wc.heap.size (by kernel_rfl) (by kernel_rfl) ?_
          repeat quiet_step (fail)
          clear q0 q1
          refine wpQuiet_nil ?_
          rintro w0 ⟨q, rfl⟩
          have hq := q.h
          generalize q.u = U at *
          obtain ⟨hbU, sU, sLU, k0, k1⟩ := HU.out U hq
          clear HU hq
          obtain ⟨hni, hle, hpq, hsg0⟩ := HNX.out
          rw [← hni] at hle hpq
          have hsg : Seg L (i + 1) (n + (prt ca cp L).length) := by rw [hni]; exact hsg0
          clear hsg0
          have PT := mpart_any ao l ac ca cp U sU hl1
          rw [← HLl.out] at PT
          have PTh : Hid _ := PT
          clear PT HNX
          have hqn : (prt ca cp L).length ≤ 1000000 := by omega
          have HPQ : Hid (prt ca cp L = (L.drop n).take (prt ca cp L).length) := hpq
          have HSG : Hid (Seg L (i + 1) (n + (prt ca cp L).length)) := hsg
          have HNI : Hid (n = i) := hni
          have HLE : Hid (n + (prt ca cp L).length ≤ L.length) := hle
          have HQL : ∃ ql, ql = (prt ca cp L).length := ⟨_, rfl⟩
          clear hpq hsg hni
          go_wp2_with fail
          refine (show Calls _ _ _ _ _ from PTh.out).mono ?_
          clear PTh
          rintro e u2 ⟨v2, rfl, ho2, hu2⟩
          obtain ⟨a2, c2, rfl⟩ := ownsM_shape ho2
          have sq2 := (owns_see ho2).1
          have sL2 := sLU.below hu2 (Nat.le_refl _)
          have B2 := hbU.trans (hu2.mono hbU.size)
          clear ho2 hu2 sLU sU hbU k0 k1 HQL
          have ssub : XSees u2 (some ⟨ab, aof + n * 10, none⟩) (prt ca cp L) := by
            rw [HPQ.out]
            exact xsees_sub sL2 n _
          have hle := HLE.out
          have hlz2 : ¬ (L.length : Int) < (n : Int) + ((prt ca cp L).length : Int) := by omega
          have hlz3 : (n : Int) + ((prt ca cp L).length : Int) ≤ (acp : Int) := by omega
          have hlz4 : (n : Int) + ((prt ca cp L).length : Int) ≤ 1000000 := by omega
          have hnacp : ¬ acp - n = 0 := by have := HNI.out; omega
          have hnz0 : (n : Int) ≤ (n : Int) + ((prt ca cp L).length : Int) := by omega
          have LK : Hid (∀ sc, Calls Try.prog 14 #[.slice a2 (prt ca cp L).length c2, .slice (some ⟨ab, aof + n * 10, none⟩) (prt ca cp L).length sc] u2 fun e w' => e = .returned (.bool true) ∧ Below u2.heap.size u2 w') := fun sc => likeX_same a2 _ (prt ca cp L) c2 sc u2 sq2 ssub hqn
          clear sq2 ssub HPQ hle
          generalize (prt ca cp L).length = ql at *
          go_wp2_with fail
          refine (LK.out _).mono ?_
          rintro e u3 ⟨rfl, hu3⟩
          have B3 := B2.trans (hu3.mono B2.size)
          clear LK hu3 B2 sL2
          go_wp2_with fail
          go_roundw
          case rel => exact ⟨i + 1, n + ql, by omega, by go_num, by go_num, HSG.out, B3⟩
          case measure => simp [intOf]; omega
        · obtain ⟨p, rfl⟩ : ∃ p, i = p + 1 := ⟨i - 1, by omega⟩
          obtain ⟨y, hy⟩ : ∃ y, L[p]? = some y := ⟨_, List.getElem?_eq_getElem (by omega)⟩
          have hyy : L[p + 1 - 1]? = some y := hy
          have r0 : ∀ q : Cl wc.heap.size wc, q.u.cell? ⟨ab, aof + p * 10, none⟩ = some (.string y.k.t) := fun q => (HPV.out y hi0 hyy q).1
          have r1 : ∀ q : Cl wc.heap.size wc, q.u.cell? ⟨ab, aof + p * 10 + 1, none⟩ = some (.string y.k.p) := fun q => (HPV.out y hi0 hyy q).2
          have HY1 : Hid (∀ z, L[p + 1 - 1]? = some z → z = y) := fun z hz => by rw [hyy] at hz; exact (Option.some.inj hz).symm
          have HSM : Hid (samePt y ⟨⟨ca, cp, cr, cc⟩, ⟨ct, cd, cl, ck, cn, cs⟩⟩ → Seg L (p + 1 + 1) n) := fun h => HSAME.out y hi0 hyy h
          have hp0 : (0 : Int) < (p : Int) + 1 := by omega
          have hpl : (p : Int) < (L.length : Int) := by omega
          have hpl2 : (p : Int) + 1 < (L.length : Int) := by omega
          have hwp : IntKind.i64.wrap (p : Int) = (p : Int) := by rw [IntKind.wrap_i64]; omega
          have e0 : ((p : Int) + 1).toNat = p + 1 := by omega
          obtain ⟨⟨ya, yp, yr, yc⟩, yv⟩ := y
          simp only at r0 r1
          clear h1 hc hsg hB hBc bc sL4 sa4 HSAME HPV hy hyy
          by_cases ht : ya = ca
          · subst ht
            by_cases hp : yp = cp
            · subst hp
              have HS2 : Hid (Seg L (p + 1 + 1) n) := HSM.out ⟨rfl, rfl⟩
              clear HNEXT HSM HY1
              go_wp2_with fail
              rw [← hwc]
              clear hwc k0 k1 k2 k3 k4 k5 k6 k7 k8 k9
              refine wp_region_cl wc.heap.size (by kernel_rfl) (by kernel_rfl) ?_
              repeat quiet_step (fail)
              clear q0 q1 r0 r1
              refine wpQuiet_nil ?_
              rintro w0 ⟨q, rfl⟩
              have hq := (HU.out _ q.h).1
              clear HU
              go_wp2_with fail
              go_roundw
              case rel => exact ⟨p + 1 + 1, n, by omega, by go_num, by go_num, HS2.out, hq⟩
              case measure => simp [intOf]; omega
            · have hpb : (yp.toList == cp.toList) = false := by rw [ba_same]; simp [hp]
              have HNX0 := HNEXT.out (fun _ z hz hs => by rw [HY1.out z hz] at hs; exact hp hs.2)
              have HNX : Hid (n = p + 1 ∧ p + 1 + (prt ya cp L).length ≤ L.length ∧ prt ya cp L = (L.drop (p + 1)).take (prt ya cp L).length ∧ Seg L (p + 1 + 1) (p + 1 + (prt ya cp L).length)) := HNX0
              clear HNX0 HNEXT HSM HY1 hp
              go_wp2_with fail
              rw [← hwc]
              clear hwc k0 k1 k2 k3 k4 k5 k6 k7 k8 k9
              refine wp_region_cl wc.heap.size (by kernel_rfl) (by kernel_rfl) ?_
              repeat quiet_step (fail)
              clear q0 q1 r0 r1
              refine wpQuiet_nil ?_
              rintro w0 ⟨q, rfl⟩
              have hq := q.h
              generalize q.u = U at *
              obtain ⟨hbU, sU, sLU, k0, k1⟩ := HU.out U hq
              clear HU hq
              obtain ⟨hni, hle, hpq, hsg0⟩ := HNX.out
              rw [← hni] at hle hpq
              have hsg : Seg L (p + 1 + 1) (n + (prt ya cp L).length) := by rw [hni]; exact hsg0
              clear hsg0
              have PT := mpart_any ao l ac ya cp U sU hl1
              rw [← HLl.out] at PT
              have PTh : Hid _ := PT
              clear PT HNX
              have hqn : (prt ya cp L).length ≤ 1000000 := by omega
              have HPQ : Hid (prt ya cp L = (L.drop n).take (prt ya cp L).length) := hpq
              have HSG : Hid (Seg L (p + 1 + 1) (n + (prt ya cp L).length)) := hsg
              have HNI : Hid (n = p + 1) := hni
              have HLE : Hid (n + (prt ya cp L).length ≤ L.length) := hle
              have HQL : ∃ ql, ql = (prt ya cp L).length := ⟨_, rfl⟩
              clear hpq hsg hni
              go_wp2_with fail
              refine (show Calls _ _ _ _ _ from PTh.out).mono ?_
              clear PTh
              rintro e u2 ⟨v2, rfl, ho2, hu2⟩
              obtain ⟨a2, c2, rfl⟩ := ownsM_shape ho2
              have sq2 := (owns_see ho2).1
              have sL2 := sLU.below hu2 (Nat.le_refl _)
              have B2 := hbU.trans (hu2.mono hbU.size)
              clear ho2 hu2 sLU sU hbU k0 k1 HQL
              have ssub : XSees u2 (some ⟨ab, aof + n * 10, none⟩) (prt ya cp L) := by
                rw [HPQ.out]
                exact xsees_sub sL2 n _
              have hle := HLE.out
              have hlz2 : ¬ (L.length : Int) < (n : Int) + ((prt ya cp L).length : Int) := by omega
              have hlz3 : (n : Int) + ((prt ya cp L).length : Int) ≤ (acp : Int) := by omega
              have hlz4 : (n : Int) + ((prt ya cp L).length : Int) ≤ 1000000 := by omega
              have hnacp : ¬ acp - n = 0 := by have := HNI.out; omega
              have hnz0 : (n : Int) ≤ (n : Int) + ((prt ya cp L).length : Int) := by omega
              have LK : Hid (∀ sc, Calls Try.prog 14 #[.slice a2 (prt ya cp L).length c2, .slice (some ⟨ab, aof + n * 10, none⟩) (prt ya cp L).length sc] u2 fun e w' => e = .returned (.bool true) ∧ Below u2.heap.size u2 w') := fun sc => likeX_same a2 _ (prt ya cp L) c2 sc u2 sq2 ssub hqn
              clear sq2 ssub HPQ hle
              generalize (prt ya cp L).length = ql at *
              go_wp2_with fail
              refine (LK.out _).mono ?_
              rintro e u3 ⟨rfl, hu3⟩
              have B3 := B2.trans (hu3.mono B2.size)
              clear LK hu3 B2 sL2
              go_wp2_with fail
              go_roundw
              case rel => exact ⟨p + 1 + 1, n + ql, by omega, by go_num, by go_num, HSG.out, B3⟩
              case measure => simp [intOf]; omega
          · have htb : (ya.toList == ca.toList) = false := by rw [ba_same]; simp [ht]
            have HNX0 := HNEXT.out (fun _ z hz hs => by rw [HY1.out z hz] at hs; exact ht hs.1)
            have HNX : Hid (n = p + 1 ∧ p + 1 + (prt ca cp L).length ≤ L.length ∧ prt ca cp L = (L.drop (p + 1)).take (prt ca cp L).length ∧ Seg L (p + 1 + 1) (p + 1 + (prt ca cp L).length)) := HNX0
            clear HNX0 HNEXT HSM HY1 ht
            go_wp2_with fail
            rw [← hwc]
            clear hwc k0 k1 k2 k3 k4 k5 k6 k7 k8 k9
            refine wp_region_cl wc.heap.size (by kernel_rfl) (by kernel_rfl) ?_
            repeat quiet_step (fail)
            clear q0 q1 r0 r1
            refine wpQuiet_nil ?_
            rintro w0 ⟨q, rfl⟩
            have hq := q.h
            generalize q.u = U at *
            obtain ⟨hbU, sU, sLU, k0, k1⟩ := HU.out U hq
            clear HU hq
            obtain ⟨hni, hle, hpq, hsg0⟩ := HNX.out
            rw [← hni] at hle hpq
            have hsg : Seg L (p + 1 + 1) (n + (prt ca cp L).length) := by rw [hni]; exact hsg0
            clear hsg0
            have PT := mpart_any ao l ac ca cp U sU hl1
            rw [← HLl.out] at PT
            have PTh : Hid _ := PT
            clear PT HNX
            have hqn : (prt ca cp L).length ≤ 1000000 := by omega
            have HPQ : Hid (prt ca cp L = (L.drop n).take (prt ca cp L).length) := hpq
            have HSG : Hid (Seg L (p + 1 + 1) (n + (prt ca cp L).length)) := hsg
            have HNI : Hid (n = p + 1) := hni
            have HLE : Hid (n + (prt ca cp L).length ≤ L.length) := hle
            have HQL : ∃ ql, ql = (prt ca cp L).length := ⟨_, rfl⟩
            clear hpq hsg hni
            go_wp2_with fail
            refine (show Calls _ _ _ _ _ from PTh.out).mono ?_
            clear PTh
            rintro e u2 ⟨v2, rfl, ho2, hu2⟩
            obtain ⟨a2, c2, rfl⟩ := ownsM_shape ho2
            have sq2 := (owns_see ho2).1
            have sL2 := sLU.below hu2 (Nat.le_refl _)
            have B2 := hbU.trans (hu2.mono hbU.size)
            clear ho2 hu2 sLU sU hbU k0 k1 HQL
            have ssub : XSees u2 (some ⟨ab, aof + n * 10, none⟩) (prt ca cp L) := by
              rw [HPQ.out]
              exact xsees_sub sL2 n _
            have hle := HLE.out
            have hlz2 : ¬ (L.length : Int) < (n : Int) + ((prt ca cp L).length : Int) := by omega
            have hlz3 : (n : Int) + ((prt ca cp L).length : Int) ≤ (acp : Int) := by omega
            have hlz4 : (n : Int) + ((prt ca cp L).length : Int) ≤ 1000000 := by omega
            have hnacp : ¬ acp - n = 0 := by have := HNI.out; omega
            have hnz0 : (n : Int) ≤ (n : Int) + ((prt ca cp L).length : Int) := by omega
            have LK : Hid (∀ sc, Calls Try.prog 14 #[.slice a2 (prt ca cp L).length c2, .slice (some ⟨ab, aof + n * 10, none⟩) (prt ca cp L).length sc] u2 fun e w' => e = .returned (.bool true) ∧ Below u2.heap.size u2 w') := fun sc => likeX_same a2 _ (prt ca cp L) c2 sc u2 sq2 ssub hqn
            clear sq2 ssub HPQ hle
            generalize (prt ca cp L).length = ql at *
            go_wp2_with fail
            refine (LK.out _).mono ?_
            rintro e u3 ⟨rfl, hu3⟩
            have B3 := B2.trans (hu3.mono B2.size)
            clear LK hu3 B2 sL2
            go_wp2_with fail
            go_roundw
            case rel => exact ⟨p + 1 + 1, n + ql, by omega, by go_num, by go_num, HSG.out, B3⟩
            case measure => simp [intOf]; omega
      · obtain rfl : i = L.length := by omega
        have hnL : n = L.length := by omega
        subst hnL
        have hge' : ¬ (L.length : Int) < (L.length : Int) := by omega
        have BE := B4.trans (hB.mono B4.size)
        clear sL4 sa4 hB hsg
        go_wp2_with fail
        refine (LV.out _).mono ?_
        rintro e w5 ⟨rfl, hb5⟩
        go_wp2_with fail
        go_ret
        exact ⟨rfl, BE.trans (hb5.mono BE.size)⟩
end Go.Proofs.Ytdpglmgnbhpneaa.mergeParts

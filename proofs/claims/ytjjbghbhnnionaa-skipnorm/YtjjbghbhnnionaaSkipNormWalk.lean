/-
  THE LAW SkipNorm: the walk.
-/
import Derived.Test.YtjjbghbhnnionaaSkLaw
import Derived.Test.YtjjbghbhnnionaaCxLaid
namespace Go.Proofs.Ytjjbghbhnnionaa.skipNorm
open Go.RowKit

theorem toHid {p : Prop} (h : p) : Hid p := h
set_option maxRecDepth 100000 in
set_option maxHeartbeats 8000000 in
theorem walk (io : Option Addr) (li : List Int) (icap : Nat) (ao : Option Addr) (l : List Cx) (cap : Nat) (w : World) (his : ISees w io li) (hin : io = none → li.length = 0) (hil : li.length ≤ 1125899906842624) (hs : XSees w ao l) (_hn : ao = none → l.length = 0) (hl : l.length ≤ 140737488355328) (hc : ∀ c ∈ l, c.In ∧ wtX c ≤ 562949953421312) :
    Calls Try.prog 6 #[.slice io li.length icap, .slice ao l.length cap] w fun e w' => e = .returned (.bool true) ∧ Below w.heap.size w w' := by
  obtain ⟨i1, hi1, hy0, hy1, hy2⟩ := infoX infoCx
  have LV : Hid (∀ w : World, Calls Try.prog 24 #[] w fun x w' => x = .returned (.bool true) ∧ Below w.heap.size w w') := lives6_any
  have W1 : Hid (Calls Try.prog 23 #[.slice ao l.length cap, .int .i64 200] w fun e w' => (∃ z : Nat, e = .returned (.int .i64 z) ∧ z ≤ 1000000000000000 ∧ (z ≤ 200 → l.length ≤ 200 ∧ wtXs l ≤ 20 * 200)) ∧ Below w.heap.size w w') :=
    weigh6_any ao l cap 200 w hs (by omega) hl (fun c h => (hc c h).2)
  have HS : Hid (∀ w', Below w.heap.size w w' → XSees w' ao l) := fun w' h => hs.below h (Nat.le_refl _)
  have hlz : (l.length : Int) ≤ 140737488355328 := by omega
  have hilz : (li.length : Int) ≤ 1125899906842624 := by omega
  have NA : Hid (li.length ≤ 1000 → ∀ w', Below w.heap.size w w' → Calls Try.prog 25 #[.slice io li.length icap] w' fun e w'' => ∃ S : SkId, e = .returned (.pointer (some ⟨S.l, 0, none⟩)) ∧ SkB w.heap.size w w'' S (lvls li) []) := fun h1 w' h =>
    (new_any io li icap w' (his.below h (Nat.le_refl _)) hin (by omega)).mono fun e w'' ⟨S, he, hS, hb, hlo⟩ => ⟨S, he, ⟨hS, h.trans (hb.mono h.size), fun b hb' => Nat.le_trans h.size (hlo b hb'), Nat.le_trans h.size hb.size⟩⟩
  have NB : Hid (∀ (w' : World) (S1 : SkId), SkB w.heap.size w w' S1 (lvls li) [] → Calls Try.prog 25 #[.slice none 0 0] w' fun e w'' => ∃ S : SkId, e = .returned (.pointer (some ⟨S.l, 0, none⟩)) ∧ Three w.heap.size w w'' S1 (lvls li) [] S (lvls []) [] (.slice none 0 0) []) := fun w' S1 h =>
    (new_any none [] 0 w' (fun i x hx => by simp at hx) (fun _ => rfl) (by simp)).mono fun e w'' ⟨S, he, hS, hb, hlo⟩ => ⟨S, he, Three.start h hS hb hlo⟩
  clear hc hs his hin hl hil
  go_enter Try.func6, Try.ntmps6
  go_wp2_with fail
  refine W1.out.mono ?_
  rintro e w1 ⟨⟨z, rfl, hz, hzm⟩, hb1⟩
  by_cases hbig : 200 < z
  · have hbz : (200 : Int) < (z : Int) := by omega
    clear hzm
    go_wp2_with fail
    refine (LV.out _).mono ?_
    rintro e w2 ⟨rfl, hb2⟩
    go_wp2_with fail
    go_ret
    exact ⟨rfl, hb1.trans (hb2.mono hb1.size)⟩
  · have hbz : ¬ (200 : Int) < (z : Int) := by omega
    obtain ⟨hl4, hw4⟩ := hzm (by omega)
    clear hzm hbig
    by_cases hli : 1000 < li.length
    · have hliz : (1000 : Int) < (li.length : Int) := by omega
      go_wp2_with fail
      refine (LV.out _).mono ?_
      rintro e w2 ⟨rfl, hb2⟩
      go_wp2_with fail
      go_ret
      exact ⟨rfl, hb1.trans (hb2.mono hb1.size)⟩
    · have hliz : ¬ (1000 : Int) < (li.length : Int) := by omega
      have N1 := NA.out (by omega) w1 hb1
      have N1h : Hid (Calls Try.prog 25 #[.slice io li.length icap] w1 fun e w'' => ∃ S : SkId, e = .returned (.pointer (some ⟨S.l, 0, none⟩)) ∧ SkB w.heap.size w w'' S (lvls li) []) := N1
      clear N1 NA hb1
      go_wp2_with fail
      refine N1h.out.mono ?_
      rintro e w2 ⟨S1, rfl, hA⟩
      have N2h : Hid (Calls Try.prog 25 #[.slice none 0 0] w2 fun e w'' => ∃ S : SkId, e = .returned (.pointer (some ⟨S.l, 0, none⟩)) ∧ Three w.heap.size w w'' S1 (lvls li) [] S (lvls []) [] (.slice none 0 0) []) := NB.out w2 S1 hA
      clear N1h NB hA
      go_wp2_with fail
      refine N2h.out.mono ?_
      rintro e w3 ⟨S2, rfl, hT0⟩
      have HT0 : Hid (Three w.heap.size w w3 S1 (lvls li) [] S2 (lvls []) [] (.slice none 0 0) []) := hT0
      have PA : Hid (∀ (T1 T2 : List Tw) (v : Value) (G : List Cx) (i : Nat) (c : Cx) (w' : World), Three w.heap.size w w' S1 (lvls li) T1 S2 (lvls []) T2 v G → l[i]? = some c → cs T1 = nrm (goods (l.take i)) → Calls Try.prog 26 #[.pointer (some ⟨S1.l, 0, none⟩), c.val] w' fun e w'' => ∃ T', e = .returned (.int .i64 (if goodC c then 0 else 2)) ∧ Three w.heap.size w w'' S1 (lvls li) T' S2 (lvls []) T2 v G ∧ cs T' = nrm (goods (l.take (i + 1)))) := fun T1 T2 v G i c w' h h1 h2 => putA_any h hl4 hw4 i c h1 h2
      have PB : Hid (∀ (T1 T2 : List Tw) (v : Value) (G : List Cx) (i : Nat) (c : Cx) (w' : World), Three w.heap.size w w' S1 (lvls li) T1 S2 (lvls []) T2 v G → l.reverse[i]? = some c → cs T2 = nrm (goods (l.reverse.take i)) → Calls Try.prog 26 #[.pointer (some ⟨S2.l, 0, none⟩), c.val] w' fun e w'' => ∃ T' r, e = .returned (.int .i64 r) ∧ Three w.heap.size w w'' S1 (lvls li) T1 S2 (lvls []) T' v G ∧ cs T' = nrm (goods (l.reverse.take (i + 1)))) := fun T1 T2 v G i c w' h h1 h2 => (putA_any h.turn (l := l.reverse) (by rw [List.length_reverse]; exact hl4) (by rw [wtXs_rev]; exact hw4) i c h1 h2).mono fun e w'' ⟨T', he, hh, hx⟩ => ⟨T', _, he, hh.turn, hx⟩
      clear N2h hT0 hw4
      go_wp2_with fail
      go_loopw [7, 34] (fun s7 s34 wr => ∃ (i : Nat) (v : Value) (T1 T2 : List Tw), i ≤ l.length ∧ v = s7 ∧ s34 = .int .i64 i ∧ Three w.heap.size w wr S1 (lvls li) T1 S2 (lvls []) T2 v (goods (l.take i)) ∧ cs T1 = nrm (goods (l.take i)) ∧ cs T2 = nrm (goods (l.reverse.take i))) (fun _ s34 _ => l.length - (intOf s34).toNat)
      case atStart => exact ⟨0, _, [], [], by omega, rfl, rfl, HT0.out, rfl, rfl⟩
      case round =>
        obtain ⟨i, v, T1, T2, hi, rfl, rfl, hT, hc1, hc2⟩ := hrel
        rcases Nat.lt_or_ge i l.length with hlt | hge
        · have hc0 : l[i]? = some l[i] := List.getElem?_eq_getElem hlt
          have hj : l.length - 1 - i < l.length := by omega
          have hd0 : l[l.length - 1 - i]? = some l[l.length - 1 - i] := List.getElem?_eq_getElem hj
          have hr0 : l.reverse[i]? = some l[l.length - 1 - i] := by rw [rev_at hlt]; exact hd0
          obtain ⟨b1, o1, rfl, h1⟩ := (HS.out wr hT.bel) i _ hc0
          have HX : Hid (∀ w', Below w.heap.size w w' → TenX w' b1 (o1 + i * 10) l[i] ∧ TenX w' b1 (o1 + (l.length - 1 - i) * 10) l[l.length - 1 - i]) := fun w' h => by
            obtain ⟨b2, o2, e2, h2⟩ := HS.out w' h i _ hc0
            obtain ⟨b3, o3, e3, h3⟩ := HS.out w' h _ _ hd0
            obtain ⟨rfl, rfl⟩ : b1 = b2 ∧ o1 = o2 := by simpa using e2
            obtain ⟨rfl, rfl⟩ : b1 = b3 ∧ o1 = o3 := by simpa using e3
            exact ⟨h2, h3⟩
          have hgs : goods (l.take (i + 1)) = if goodC l[i] then goods (l.take i) ++ [l[i]] else goods (l.take i) := by rw [takeX_succ hc0, goods_snoc]
          have hrs := takeX_succ hr0
          generalize l[i] = c at *
          generalize l[l.length - 1 - i] = d at *
          have P1 := PA.out T1 T2 v (goods (l.take i)) i c wr hT hc0 hc1
          have P2 : Hid (∀ (T1 : List Tw) (v : Value) (G : List Cx) (w' : World), Three w.heap.size w w' S1 (lvls li) T1 S2 (lvls []) T2 v G → Calls Try.prog 26 #[.pointer (some ⟨S2.l, 0, none⟩), d.val] w' fun e w'' => ∃ T' r, e = .returned (.int .i64 r) ∧ Three w.heap.size w w'' S1 (lvls li) T1 S2 (lvls []) T' v G ∧ cs T' = nrm (goods (l.reverse.take (i + 1)))) := fun T1 v G w' h => PB.out T1 T2 v G i d w' h hr0 hc2
          obtain ⟨⟨ct, cp, cr, cc⟩, ⟨cti, cd, cl, ck, cn, cstr⟩⟩ := c
          obtain ⟨⟨dt, dp, dr, dc⟩, ⟨dti, dd, dl, dk, dn, dstr⟩⟩ := d
          simp only [Cx.val, Cx.a] at P1 P2
          obtain ⟨x1, -⟩ := HX.out wr hT.bel
          obtain ⟨k0, k1, k2, k3, k4, k5, k6, k7, k8, k9⟩ := x1
          simp only at k0 k1 k2 k3 k4 k5 k6 k7 k8 k9
          have P1h := toHid P1
          have hlt' : (i : Int) < (l.length : Int) := by omega
          generalize hgc : goodC ⟨⟨ct, cp, cr, cc⟩, ⟨cti, cd, cl, ck, cn, cstr⟩⟩ = g at *
          clear P1 h1 hd0 hc0 hr0 hT hc1 hc2
          go_wp2_with fail
          refine P1h.out.mono ?_
          rintro e w4 ⟨T3, rfl, hT3, hc3⟩
          obtain ⟨x1, x2⟩ := HX.out w4 hT3.bel
          obtain ⟨m0, m1, m2, m3, m4, m5, m6, m7, m8, m9⟩ := x1
          obtain ⟨n0, n1, n2, n3, n4, n5, n6, n7, n8, n9⟩ := x2
          simp only at m0 m1 m2 m3 m4 m5 m6 m7 m8 m9 n0 n1 n2 n3 n4 n5 n6 n7 n8 n9
          clear k0 k1 k2 k3 k4 k5 k6 k7 k8 k9 P1h
          cases g
          · have P2h := toHid (P2.out _ _ _ _ hT3)
            simp only [Bool.false_eq_true, if_false] at *
            have HG := toHid hgs
            clear hgs hgc
            go_wp2_with fail
            refine P2h.out.mono ?_
            rintro e w5 ⟨T4, r4, rfl, hT4, hc4⟩
            clear m0 m1 m2 m3 m4 m5 m6 m7 m8 m9 n0 n1 n2 n3 n4 n5 n6 n7 n8 n9 P2h hT3
            go_wp2_with fail
            go_roundw
            case rel => exact ⟨i + 1, _, T3, T4, by omega, rfl, by go_num, by rw [HG.out]; exact hT4, hc3, hc4⟩
            case measure => (simp [intOf]; try omega)
          · simp only [if_true] at *
            have HG := toHid hgs
            clear hgs hgc
            have ho := hT3.row
            have HT3 := toHid hT3
            have hsz := hT3.siz
            have hgl : (goods (l.take i)).length ≤ 200 := by
              have h1 : (goods (l.take i)).length ≤ (l.take i).length := List.length_filter_le _ _
              rw [List.length_take] at h1; omega
            clear hT3
            go_wp2_with (at_builtin; go_must (refine wpList_append_grew _ rfl _ _ 22 22 rfl w.heap.size 41 i1 _ 10 112 Try.underlying22 hi1 hy0 hy1 hy2 rfl _ (goods (l.take i)).length _ rfl (ho.alloc _) _ 1 ([(⟨⟨ct, cp, cr, cc⟩, ⟨cti, cd, cl, ck, cn, cstr⟩⟩ : Cx)].flatMap xs10) rfl (src_cells (sees_one w4 ⟨⟨ct, cp, cr, cc⟩, ⟨cti, cd, cl, ck, cn, cstr⟩⟩) (fun h => by cases h) 1) (by unfold maxLen; omega) (by omega) (by rw [World.size_alloc]; omega) ?_; intro v5 w5 ho5 hg5; have hT5 := HT3.out.more ho5 hg5; obtain ⟨-, x2⟩ := HX.out w5 hT5.bel; obtain ⟨q0, q1, q2, q3, q4, q5, q6, q7, q8, q9⟩ := x2; simp only at q0 q1 q2 q3 q4 q5 q6 q7 q8 q9; have P2h := toHid (P2.out _ _ _ _ hT5); clear m0 m1 m2 m3 m4 m5 m6 m7 m8 m9 n0 n1 n2 n3 n4 n5 n6 n7 n8 n9 hT5 HT3 ho ho5 hg5))
            refine P2h.out.mono ?_
            rintro e w6 ⟨T4, r4, rfl, hT4, hc4⟩
            clear q0 q1 q2 q3 q4 q5 q6 q7 q8 q9 P2h
            go_wp2_with fail
            go_roundw
            case rel => exact ⟨i + 1, _, T3, T4, by omega, rfl, by go_num, by rw [HG.out]; exact hT4, hc3, hc4⟩
            case measure => (simp [intOf]; try omega)
        · obtain rfl : i = l.length := by omega
          rw [List.take_length] at hT hc1
          rw [List.take_of_length_le (by simp), nrm_goods_rev] at hc2
          have hr := hT.row
          obtain ⟨ag, cg, rfl, xg, -⟩ := owns_xsees hr
          have hgl : (goods l).length ≤ l.length := List.length_filter_le _ _
          have hnl := nrm_len (goods l)
          have hgez : ¬ (l.length : Int) < (l.length : Int) := by omega
          have HR := toHid (nrm_rising (goods l))
          have RN : Hid (Calls Try.prog 15 #[.slice ag (goods l).length cg] wr fun e w' => ∃ v, e = .returned v ∧ w'.ownsRow wr.heap.size 41 10 v (nrm (goods l)).length ((nrm (goods l)).flatMap xs10) ∧ Below wr.heap.size wr w') := refNorm_any ag (goods l) cg wr xg (by omega)
          generalize nrm (goods l) = N at *
          have hNl : N.length ≤ 200 := by omega
          have hT1l : T1.length = N.length := by rw [← hc1]; unfold cs; rw [List.length_map]
          have hT2l : T2.length = N.length := by rw [← hc2]; unfold cs; rw [List.length_map]
          have HT := toHid hT
          have HC1 := toHid hc1
          have HC2 := toHid hc2
          clear hT hr xg hc1 hc2 PA PB HS HT0
          go_wp2_with fail
          refine RN.out.mono ?_
          rintro e w4 ⟨v4, rfl, ho4, hb4⟩
          obtain ⟨an, cn, rfl, xn, -⟩ := owns_xsees ho4
          have HA : Hid (∀ w', Below w4.heap.size w4 w' → SkAt w' S1 (lvls li) T1 ∧ SkAt w' S2 (lvls []) T2 ∧ XSees w' an N ∧ Below w.heap.size w w') := fun w' h => by
            have h1 := HT.out.below (hb4.trans (h.mono hb4.size))
            exact ⟨h1.a, h1.b, xn.below h (Nat.le_refl _), h1.bel⟩
          have GT : Hid (∀ (i : Nat) (c : Cx) (w' : World), N[i]? = some c → Below w4.heap.size w4 w' → Calls Try.prog 28 #[.pointer (some ⟨S1.l, 0, none⟩), c.k.v] w' fun e w'' => e = .returned (.tuple #[c.v.v, .bool true]) ∧ Below w'.heap.size w' w'') := fun i c w' hc h => by
            have h1 := get_any S1 (lvls li) T1 c.k w' (HA.out w' h).1
            have h2 : T1.map Tw.c = N := HC1.out
            rw [h2, fnd_mem HR.out (List.mem_of_getElem? hc)] at h1
            exact h1
          have hNz : (N.length : Int) ≤ 200 := by omega
          clear RN ho4 xn hb4 HT
          go_wp2_with fail
          go_loopw [66] (fun s66 wq => ∃ i : Nat, i ≤ N.length ∧ s66 = .int .i64 i ∧ Below w4.heap.size w4 wq) (fun s66 _ => N.length - (intOf s66).toNat)
          case atStart => exact ⟨0, by omega, rfl, Below.refl _ _⟩
          case round =>
            obtain ⟨i, hi, rfl, hbq⟩ := hrel
            rcases Nat.lt_or_ge i N.length with hlt | hge
            · have hc0 : N[i]? = some N[i] := List.getElem?_eq_getElem hlt
              obtain ⟨b1, o1, rfl, x1⟩ := (HA.out wr hbq).2.2.1 i _ hc0
              generalize N[i] = c at *
              have G1 := fun w' => GT.out i c w' hc0
              obtain ⟨⟨ct, cp, cr, cc⟩, ⟨cti, cd, cl, ck, cn', cstr⟩⟩ := c
              obtain ⟨k0, k1, k2, k3, k4, k5, k6, k7, k8, k9⟩ := x1
              simp only at k0 k1 k2 k3 k4 k5 k6 k7 k8 k9
              simp only [Kb.v, Vr.v] at G1
              have hbx : Below wr.heap.size wr (wr.alloc (.cells #[.string ct, .string cp, .int .i64 cr, .string cc, .int .i64 cti, .bool cd, .int .i64 cl, .int .i64 ck, .int .i64 cn', .string cstr] 41)) := (Below.refl _ _).alloc (Nat.le_refl _) _
              have bxx : Hid (Blk (wr.alloc (.cells #[.string ct, .string cp, .int .i64 cr, .string cc, .int .i64 cti, .bool cd, .int .i64 cl, .int .i64 ck, .int .i64 cn', .string cstr] 41)) wr.heap.size [.string ct, .string cp, .int .i64 cr, .string cc, .int .i64 cti, .bool cd, .int .i64 cl, .int .i64 ck, .int .i64 cn', .string cstr] 41) := Blk.new wr _ _
              have hb2 := hbq.trans (hbx.mono hbq.size)
              have G2 := toHid (G1 _ hb2)
              have HB2 := toHid hb2
              have hltz : (i : Int) < (N.length : Int) := by omega
              clear G1 hc0 hb2 hbx hbq
              go_wp2_with fail
              refine G2.out.mono ?_
              rintro e w5 ⟨rfl, hb5⟩
              have b5 := bxx.out.carry (hb5.block _ bxx.out.lt)
              have b6 := b5.alloc (.cells #[.int .i64 cti, .bool cd, .int .i64 cl, .int .i64 ck, .int .i64 cn', .string cstr] 31)
              have hb6 : Below w4.heap.size w4 (w5.alloc (.cells #[.int .i64 cti, .bool cd, .int .i64 cl, .int .i64 ck, .int .i64 cn', .string cstr] 31)) := (HB2.out.trans (hb5.mono HB2.out.size)).alloc (Nat.le_trans HB2.out.size hb5.size) _
              have m4 := b6.cell 4 rfl
              have m5 := b6.cell 5 rfl
              have m6 := b6.cell 6 rfl
              have m7 := b6.cell 7 rfl
              have m8 := b6.cell 8 rfl
              have m9 := b6.cell 9 rfl
              have HB6 := toHid hb6
              clear b5 b6 hb5 hb6 bxx HB2 G2 k0 k1 k2 k3 k4 k5 k6 k7 k8 k9
              go_wp2_with fail
              go_roundw
              case rel => exact ⟨i + 1, by omega, by go_num, HB6.out⟩
              case measure => (simp [intOf]; try omega)
            · obtain rfl : i = N.length := by omega
              have hgz : ¬ (N.length : Int) < (N.length : Int) := by omega
              have AL : Hid (∀ w', Below w4.heap.size w4 w' → Calls Try.prog 31 #[.pointer (some ⟨S1.l, 0, none⟩)] w' fun e W' => ∃ ax cx, e = .returned (.slice ax N.length cx) ∧ XSees W' ax N ∧ Below w'.heap.size w' W') := fun w' h => (all_any S1 (lvls li) T1 w' (HA.out w' h).1).mono fun e W' ⟨v, he, ho, hb⟩ => by
                have h2 : T1.map Tw.c = N := HC1.out
                rw [hT1l, h2] at ho
                obtain ⟨ax, cx, rfl, xx, -⟩ := owns_xsees ho
                exact ⟨ax, cx, he, xx, hb⟩
              have BL : Hid (∀ w', Below w4.heap.size w4 w' → Calls Try.prog 31 #[.pointer (some ⟨S2.l, 0, none⟩)] w' fun e W' => ∃ ax cx, e = .returned (.slice ax N.length cx) ∧ XSees W' ax N ∧ Below w'.heap.size w' W') := fun w' h => (all_any S2 (lvls []) T2 w' (HA.out w' h).2.1).mono fun e W' ⟨v, he, ho, hb⟩ => by
                have h2 : T2.map Tw.c = N := HC2.out
                rw [hT2l, h2] at ho
                obtain ⟨ax, cx, rfl, xx, -⟩ := owns_xsees ho
                exact ⟨ax, cx, he, xx, hb⟩
              have LK : Hid (∀ (w' : World) (ax : Option Addr) (cx : Nat), Below w4.heap.size w4 w' → XSees w' ax N → Calls Try.prog 14 #[.slice ax N.length cx, .slice an N.length cn] w' fun e w'' => e = .returned (.bool true) ∧ Below w'.heap.size w' w'') := fun w' ax cx h hx => likeX_same ax an N cx cn w' hx (HA.out w' h).2.2.1 (by omega)
              have LE : Hid (∀ w', Below w4.heap.size w4 w' → Calls Try.prog 34 #[.pointer (some ⟨S1.l, 0, none⟩)] w' fun e w'' => e = .returned (.int .i64 N.length) ∧ w'' = w') := fun w' h => by
                have := len_any S1 (lvls li) T1 w' (HA.out w' h).1
                rw [hT1l] at this; exact this
              have HE : Hid (∀ w', Below w4.heap.size w4 w' → Below w.heap.size w w') := fun w' h => (HA.out w' h).2.2.2
              have A1 := toHid (AL.out wr hbq)
              clear GT HA HR HC1 HC2 AL
              go_wp2_with fail
              refine A1.out.mono ?_
              rintro e u1 ⟨a1, c1, rfl, y1, g1'⟩
              have g1 := hbq.trans (g1'.mono hbq.size)
              have L1 := toHid (LK.out u1 a1 c1 g1 y1)
              clear A1 y1 g1' hbq
              go_wp2_with fail
              refine L1.out.mono ?_
              rintro e u2 ⟨rfl, g2'⟩
              have g2 := g1.trans (g2'.mono g1.size)
              have A2 := toHid (BL.out u2 g2)
              clear L1 g2' g1 BL
              go_wp2_with fail
              refine A2.out.mono ?_
              rintro e u3 ⟨a3, c3, rfl, y3, g3'⟩
              have g3 := g2.trans (g3'.mono g2.size)
              have L2 := toHid (LK.out u3 a3 c3 g3 y3)
              clear A2 y3 g3' g2 LK
              go_wp2_with fail
              refine L2.out.mono ?_
              rintro e u4 ⟨rfl, g4'⟩
              have g4 := g3.trans (g4'.mono g3.size)
              have E4 := toHid (LE.out u4 g4)
              clear L2 g4' g3 LE
              go_wp2_with fail
              refine E4.out.mono ?_
              rintro e u5 ⟨rfl, rfl⟩
              go_wp2_with fail
              refine (LV.out _).mono ?_
              rintro e u6 ⟨rfl, g6⟩
              have hE := HE.out _ (g4.trans (g6.mono g4.size))
              go_wp2_with fail
              go_ret
              exact ⟨rfl, hE⟩
end Go.Proofs.Ytjjbghbhnnionaa.skipNorm

/-
  THE LAW KeyOrder: the walk.
-/
import Derived.Test.YtniilnifhgdhcaaDoorKeyRead
import Derived.Deep.CutRange
namespace Go.Proofs.YtniilnifhgdhcaaDoor
open Go.RowKit

theorem owns_sees_cap {w : World} {base n : Nat} {l : List UInt8} {v : Value} (h : w.ownsRow base 5 1 v n (B8 l)) : ∃ ao cap, v = .slice ao n cap ∧ Sees w ao l ∧ l.length = n ∧ (ao = none → n = 0 ∧ cap = 0) ∧ n ≤ cap := by
  obtain ⟨ao, cap, rfl, h1, h2, h3⟩ := owns_sees h
  refine ⟨ao, cap, rfl, h1, h2, h3, ?_⟩
  rcases h.2 with ⟨e, rfl⟩ | ⟨g, cap', cur, e, hg, hh, hn, _⟩
  · omega
  · cases e; exact hn
theorem encK_le (k : Kb) (h : k.Ok) : (encK k.ky).length ≤ 40000 := by
  have h1 := encT_le k.t h.t
  have h2 := encT_le k.p h.p
  have h3 := encT_le k.c h.c
  have h4 : (encR k.r).length = 8 := be_length _ _
  show (encT (nb k.t) ++ (encT (nb k.p) ++ (encR k.r ++ encT (nb k.c)))).length ≤ _
  simp only [List.length_append]; omega
theorem rdRes_enc (k : Kb) (h : k.Ok) : rdRes (encK k.ky) = (k, true) := by
  have := rd_enc k.ky [] h.r
  rw [List.append_nil] at this
  unfold rdRes; rw [this]; simp only [if_true]; rw [kb_ky]
theorem rdRes_more (k : Kb) (h : k.Ok) : rdRes (encK k.ky ++ [0]) = (⟨⟨#[]⟩, ⟨#[]⟩, 0, ⟨#[]⟩⟩, false) := by
  have := rd_enc k.ky [0] h.r
  unfold rdRes; rw [this]; simp
end Go.Proofs.YtniilnifhgdhcaaDoor
namespace Go.Proofs.YtniilnifhgdhcaaDoor.keyOrder
open Go.RowKit

set_option maxRecDepth 100000 in
set_option maxHeartbeats 4000000 in
/-- Both keys are small. -/
theorem small (t1 p1 : ByteArray) (r1 : Int) (c1 t2 p2 : ByteArray) (r2 : Int) (c2 : ByteArray) (w : World) (ha : Kb.Ok ⟨t1, p1, r1, c1⟩) (hb : Kb.Ok ⟨t2, p2, r2, c2⟩) (he : Env w)
    (g1 : ∀ w : World, Calls Tryd.prog 9 #[.agg #[.string t1, .string p1, .int .i64 r1, .string c1]] w fun e w' => e = .returned (.bool false) ∧ Below w.heap.size w w')
    (g2 : ∀ w : World, Calls Tryd.prog 9 #[.agg #[.string t2, .string p2, .int .i64 r2, .string c2]] w fun e w' => e = .returned (.bool false) ∧ Below w.heap.size w w') :
    Calls Tryd.prog 6 #[.agg #[.string t1, .string p1, .int .i64 r1, .string c1], .agg #[.string t2, .string p2, .int .i64 r2, .string c2]] w fun e w' => e = .returned (.bool true) ∧ Below w.heap.size w w' := by
  obtain ⟨wa, hwa⟩ : ∃ wa, wa = (w.alloc (.cells #[.string t1, .string p1, .int .i64 r1, .string c1] 23)).alloc (.cells #[.string t2, .string p2, .int .i64 r2, .string c2] 23) := ⟨_, rfl⟩
  have ka : KAt wa w.heap.size ⟨t1, p1, r1, c1⟩ := by rw [hwa]; exact (KAt.new w ⟨t1, p1, r1, c1⟩ _).alloc _
  have kb : KAt wa (w.heap.size + 1) ⟨t2, p2, r2, c2⟩ := by rw [hwa]; have := KAt.new (w.alloc (.cells #[.string t1, .string p1, .int .i64 r1, .string c1] 23)) ⟨t2, p2, r2, c2⟩ 23; rw [World.size_alloc] at this; exact this
  have hB : Below w.heap.size w wa := by rw [hwa]; exact ((Below.refl _ _).alloc (Nat.le_refl _) _).alloc (by simp) _
  have L : Hid (∀ w' : World, Below w.heap.size w w' → Calls Tryd.prog 10 #[] w' fun e w'' => e = .returned (.bool true) ∧ Below w'.heap.size w' w'') := fun w' h => lives_any w' (he.below h)
  have G1 : Hid (∀ w : World, Calls Tryd.prog 9 #[.agg #[.string t1, .string p1, .int .i64 r1, .string c1]] w fun e w' => e = .returned (.bool false) ∧ Below w.heap.size w w') := g1
  have G2 : Hid (∀ w : World, Calls Tryd.prog 9 #[.agg #[.string t2, .string p2, .int .i64 r2, .string c2]] w fun e w' => e = .returned (.bool false) ∧ Below w.heap.size w w') := g2
  obtain ⟨la, hla⟩ : ∃ la, la = encK (Kb.ky ⟨t1, p1, r1, c1⟩) := ⟨_, rfl⟩
  obtain ⟨lb, hlb⟩ : ∃ lb, lb = encK (Kb.ky ⟨t2, p2, r2, c2⟩) := ⟨_, rfl⟩
  have B1 : Hid (∀ w : World, Calls Tryd.prog 24 #[.agg #[.string t1, .string p1, .int .i64 r1, .string c1]] w fun e w' => ∃ v, e = .returned v ∧ Aw w w' v la) := fun w => hla ▸ bytes_any ⟨t1, p1, r1, c1⟩ w ha
  have B2 : Hid (∀ w : World, Calls Tryd.prog 24 #[.agg #[.string t2, .string p2, .int .i64 r2, .string c2]] w fun e w' => ∃ v, e = .returned v ∧ Aw w w' v lb) := fun w => hlb ▸ bytes_any ⟨t2, p2, r2, c2⟩ w hb
  have hlen : la.length ≤ 40000 := by rw [hla]; exact encK_le _ ha
  have R1 : Hid (rdRes la = (⟨t1, p1, r1, c1⟩, true)) := by show _ = _; rw [hla]; exact rdRes_enc _ ha
  have R2 : Hid (rdRes (la ++ [0]) = (⟨⟨#[]⟩, ⟨#[]⟩, 0, ⟨#[]⟩⟩, false)) := by show _ = _; rw [hla]; exact rdRes_more _ ha
  have C1 : Hid (∀ w : World, Calls Tryd.prog 19 #[.agg #[.string t1, .string p1, .int .i64 r1, .string c1], .agg #[.string t2, .string p2, .int .i64 r2, .string c2]] w fun e w' => e = .returned (.int .i64 (cb la lb)) ∧ Below w.heap.size w w') := fun w => by
    have := cmp_any ⟨t1, p1, r1, c1⟩ ⟨t2, p2, r2, c2⟩ w
    rw [← cb_encK _ _ ha.r hb.r, ← hla, ← hlb] at this; exact this
  have s1 := ba_less (strB la) (strB lb)
  have s2 := ba_same (strB la) (strB lb)
  rw [nb_strB, nb_strB] at s1
  have KA : Hid (KAt wa w.heap.size ⟨t1, p1, r1, c1⟩) := ka
  have KB : Hid (KAt wa (w.heap.size + 1) ⟨t2, p2, r2, c2⟩) := kb
  have HW : Hid (Below w.heap.size w wa) := hB
  have k0 := ka.t
  have k1 := ka.p
  have k2 := ka.r
  have k3 := ka.c
  clear ka kb hB he g1 g2 hla hlb ha hb
  go_enter Tryd.func6, Tryd.ntmps6
  go_wp2_with fail
  rw [← hwa]
  clear hwa
  refine (G1.out _).mono ?_
  rintro e w1 ⟨rfl, hb1⟩
  have kb1 := KB.out.below hb1 KB.out.lt
  have y0 := kb1.t
  have y1 := kb1.p
  have y2 := kb1.r
  have y3 := kb1.c
  clear k0 k1 k2 k3
  go_wp2_with fail
  refine (G2.out _).mono ?_
  rintro e w2 ⟨rfl, hb2⟩
  have ka2 := (KA.out.below hb1 KA.out.lt).below hb2 (Nat.lt_of_lt_of_le KA.out.lt hb1.size)
  have kb2 := kb1.below hb2 kb1.lt
  have hw2 : Below w.heap.size w w2 := (HW.out.trans (hb1.mono HW.out.size)).trans (hb2.mono (HW.out.trans (hb1.mono HW.out.size)).size)
  have KA2 : Hid (KAt w2 w.heap.size ⟨t1, p1, r1, c1⟩) := ka2
  have KB2 : Hid (KAt w2 (w.heap.size + 1) ⟨t2, p2, r2, c2⟩) := kb2
  have HW2 : Hid (Below w.heap.size w w2) := hw2
  clear y0 y1 y2 y3 kb1 hb1 hb2 hw2 KA KB HW G1 G2
  go_wp2_with fail
  have x0 := ka2.t
  have x1 := ka2.p
  have x2 := ka2.r
  have x3 := ka2.c
  have y0 := kb2.t
  have y1 := kb2.p
  have y2 := kb2.r
  have y3 := kb2.c
  have kd := kb2.below (Below.refl w2.heap.size w2).drew kb2.lt
  have KD : Hid (KAt w2.drew (w.heap.size + 1) ⟨t2, p2, r2, c2⟩) := kd
  clear ka2 kb2 kd
  go_cut [5, 6] from 19 to 24 (fun s5 s6 wx => s5 = .string (strB la) ∧ s6 = .string (strB lb) ∧ Below w2.heap.size w2 wx)
  case first =>
    go_region_law (first
      | (go_simp; go_at_call_of 24 (Value.agg #[.string t1, .string p1, .int .i64 r1, .string c1]); refine (B1.out _).mono ?_; rintro e u1 ⟨v1, rfl, A1⟩; obtain ⟨ao1, cap1, rfl, hs1, -, hn1⟩ := owns_sees A1.own; have cv1 := conv_sees hs1 (fun h => (hn1 h).1) cap1; have kbu := KD.out.below A1.bel KD.out.lt; have z0 := kbu.t; have z1 := kbu.p; have z2 := kbu.r; have z3 := kbu.c)
      | (go_simp; go_at_call_of 24 (Value.agg #[.string t2, .string p2, .int .i64 r2, .string c2]); refine (B2.out _).mono ?_; rintro e u2 ⟨v2, rfl, A2⟩; obtain ⟨ao2, cap2, rfl, hs2, -, hn2⟩ := owns_sees A2.own; have cv2 := conv_sees hs2 (fun h => (hn2 h).1) cap2; have cv3 := conv_sees (hs1.below A2.bel (Nat.le_refl _)) (fun h => (hn1 h).1) cap1))
    all_goals
      go_wp2_with fail
      go_meet
      case rel => exact ⟨rfl, rfl, ((Below.refl w2.heap.size w2).drew.trans A1.bel).trans (A2.bel.mono A1.bel.size)⟩
  case rest =>
    obtain ⟨rfl, rfl, hb3⟩ := hcut
    have hx := cb_cmpr.r la lb
    have hx' : (cb la lb = -1 ∧ Op.bytesLess (strB la).toList (strB lb).toList = true) ∨ (cb la lb = 0 ∧ Op.bytesLess (strB la).toList (strB lb).toList = false ∧ ((strB la).toList == (strB lb).toList) = true) ∨ (cb la lb = 1 ∧ Op.bytesLess (strB la).toList (strB lb).toList = false ∧ ((strB la).toList == (strB lb).toList) = false) := by
      rcases hx with h | h | h
      · left; exact ⟨h, by rw [s1, h]; rfl⟩
      · right; left
        refine ⟨h, by rw [s1, h]; rfl, ?_⟩
        rw [s2, decide_eq_true]; rw [(cb_cmpr.z la lb).1 h]
      · right; right
        refine ⟨h, by rw [s1, h]; rfl, ?_⟩
        rw [s2, decide_eq_false]; intro e
        have e2 : la = lb := by rw [← nb_strB la, e, nb_strB]
        rw [e2, cb_self] at h; omega
    obtain ⟨i0, hi, hz0, hz1, hz2⟩ := info_parts info8
    have Hsrc : Hid (∀ wa : World, Src Tryd.prog 1 32 (.slice (some ⟨wa.heap.size, 0, none⟩) 1 1) 1 (B8 [0]) (wa.alloc (.cells #[.int .u8 0] 5))) := fun wa => src_one wa 0 0 rfl
    clear hx s1 s2 x0 x1 x2 x3 y0 y1 y2 y3 KD
    have HK : Hid (∀ u : World, Below w2.heap.size w2 u → KAt u w.heap.size ⟨t1, p1, r1, c1⟩ ∧ KAt u (w.heap.size + 1) ⟨t2, p2, r2, c2⟩ ∧ Below w.heap.size w u) := fun u hu => ⟨KA2.out.below hu KA2.out.lt, KB2.out.below hu KB2.out.lt, HW2.out.trans (hu.mono HW2.out.size)⟩
    have ka3 := (HK.out _ hb3).1
    have x0 := ka3.t
    have x1 := ka3.p
    have x2 := ka3.r
    have x3 := ka3.c
    clear ka3 KA2 KB2 HW2 B2
    rcases hx' with ⟨hc, e1⟩ | ⟨hc, e1, e2⟩ | ⟨hc, e1, e2⟩
    all_goals
      rw [hc] at C1
      clear hc
      go_wp2_with fail
      refine (B1.out _).mono ?_
      rintro e u3 ⟨v3, rfl, A3⟩
      have hb4 := hb3.trans (A3.bel.mono hb3.size)
      obtain ⟨ao3, cap3, rfl, hs3, -, hn3, hc3⟩ := owns_sees_cap A3.own
      have RD1 : Hid (Calls Tryd.prog 21 #[.slice ao3 la.length cap3] u3 fun e w' => e = .returned (.tuple #[.agg #[.string t1, .string p1, .int .i64 r1, .string c1], .bool true]) ∧ Below u3.heap.size u3 w') := by
        have := read_any ao3 la cap3 u3 hs3 (fun h => (hn3 h).1) hc3 (by omega)
        rw [R1.out] at this; exact this
      clear A3 hs3 hn3 hc3 hb3 x0 x1 x2 x3
      go_wp2_with fail
      refine RD1.out.mono ?_
      rintro e u4 ⟨rfl, hbu4⟩
      have hb5 := hb4.trans (hbu4.mono hb4.size)
      obtain ⟨W4, hW4⟩ : ∃ W4, W4 = u4.alloc (.cells #[.string t1, .string p1, .int .i64 r1, .string c1] 23) := ⟨_, rfl⟩
      have hb6 : Below w2.heap.size w2 W4 := by rw [hW4]; exact hb5.alloc hb5.size _
      have kk : KAt W4 u4.heap.size ⟨t1, p1, r1, c1⟩ := by rw [hW4]; exact KAt.new u4 ⟨t1, p1, r1, c1⟩ _
      have KK : Hid (KAt W4 u4.heap.size ⟨t1, p1, r1, c1⟩) := kk
      have ka6 := (HK.out _ hb6).1
      have HW4 : Hid (W4 = u4.alloc (.cells #[.string t1, .string p1, .int .i64 r1, .string c1] 23)) := hW4
      have x0 := ka6.t
      have x1 := ka6.p
      have x2 := ka6.r
      have x3 := ka6.c
      rw [hW4] at x0 x1 x2 x3
      clear hW4 hb4 hbu4 hb5 RD1 kk ka6
      go_wp2_with fail
      rw [← HW4.out] at x0 x1 x2 x3 ⊢
      clear HW4
      refine (B1.out _).mono ?_
      rintro e u5 ⟨v5, rfl, A5⟩
      have HA5 : Hid (Aw W4 u5 v5 la) := A5
      clear A5 x0 x1 x2 x3
      go_wp2_with (at_builtin; go_must (refine wpList_append_grew _ rfl _ _ 32 32 rfl W4.heap.size 5 i0 (.int .u8 0) 1 1 Tryd.underlying32 hi hz0 hz1 hz2 rfl _ _ _ rfl (HA5.out.own.alloc _) _ 1 (B8 [0]) rfl (Hsrc.out _) (by unfold maxLen; omega) (by omega) (by rw [World.size_alloc]; have := HA5.out.bel.size; omega) ?_; intro v6 u6 ho6 hg6))
      have hb7 : Below W4.heap.size W4 u6 := HA5.out.bel.trans (hg6.alloc.below HA5.out.bel.size (fun g hg => (HA5.out.own.lt g hg).1))
      rw [← B8_append] at ho6
      obtain ⟨ao6, cap6, rfl, hs6, hl6, hn6, hc6⟩ := owns_sees_cap ho6
      have RD2 : Hid (Calls Tryd.prog 21 #[.slice ao6 (la.length + 1) cap6] u6 fun e w' => e = .returned (.tuple #[.agg #[.string ⟨#[]⟩, .string ⟨#[]⟩, .int .i64 0, .string ⟨#[]⟩], .bool false]) ∧ Below u6.heap.size u6 w') := by
        have := read_any ao6 (la ++ [0]) cap6 u6 hs6 (fun h => by rw [hl6]; exact (hn6 h).1) (by rw [hl6]; exact hc6) (by rw [hl6]; omega)
        rw [R2.out, hl6] at this; exact this
      clear ho6 hs6 hl6 hn6 hc6 HA5 hg6
      refine RD2.out.mono ?_
      rintro e u7 ⟨rfl, hbu7⟩
      have hb8 : Below W4.heap.size W4 u7 := hb7.trans (hbu7.mono hb7.size)
      obtain ⟨W7, hW7⟩ : ∃ W7, W7 = u7.alloc (.cells #[.string ⟨#[]⟩, .string ⟨#[]⟩, .int .i64 0, .string ⟨#[]⟩] 23) := ⟨_, rfl⟩
      have hb9 : Below W4.heap.size W4 W7 := by rw [hW7]; exact hb8.alloc hb8.size _
      have hb10 : Below w2.heap.size w2 W7 := hb6.trans (hb9.mono hb6.size)
      have kk7 := KK.out.below hb9 KK.out.lt
      obtain ⟨ka7, kb7, hw7⟩ := HK.out _ hb10
      have KK7 : Hid (KAt W7 u4.heap.size ⟨t1, p1, r1, c1⟩) := kk7
      have KA7 : Hid (KAt W7 w.heap.size ⟨t1, p1, r1, c1⟩) := ka7
      have HW7 : Hid (W7 = u7.alloc (.cells #[.string ⟨#[]⟩, .string ⟨#[]⟩, .int .i64 0, .string ⟨#[]⟩] 23)) := hW7
      have x0 := ka7.t
      have x1 := ka7.p
      have x2 := ka7.r
      have x3 := ka7.c
      have y0 := kb7.t
      have y1 := kb7.p
      have y2 := kb7.r
      have y3 := kb7.c
      rw [hW7] at x0 x1 x2 x3 y0 y1 y2 y3
      clear hW7 hb7 hbu7 hb8 hb9 hb10 hb6 KK kk7 ka7 kb7 RD2 HK
      go_wp2_with fail
      rw [← HW7.out] at x0 x1 x2 x3 y0 y1 y2 y3 ⊢
      clear HW7
      refine (C1.out _).mono ?_
      rintro e u8 ⟨rfl, hb11⟩
      have kk8 := KK7.out.below hb11 KK7.out.lt
      have ka8 := KA7.out.below hb11 KA7.out.lt
      have hw8 : Below w.heap.size w u8 := hw7.trans (hb11.mono hw7.size)
      have z0 := kk8.t
      have z1 := kk8.p
      have z2 := kk8.r
      have z3 := kk8.c
      have x0 := ka8.t
      have x1 := ka8.p
      have x2 := ka8.r
      have x3 := ka8.c
      clear y0 y1 y2 y3 kk8 ka8 hb11 KK7 KA7
      go_wp2_with fail
      refine (L.out u8 hw8).mono ?_
      rintro e u9 ⟨rfl, hb12⟩
      go_wp2_with fail
      go_ret
      exact ⟨rfl, hw8.trans (hb12.mono hw8.size)⟩

set_option maxRecDepth 100000 in
set_option maxHeartbeats 2000000 in
theorem walk (a b : Kb) (w : World) (fa : a.Fits) (fb : b.Fits) (he : Env w) :
    Calls Tryd.prog 6 #[a.v, b.v] w fun e w' => e = .returned (.bool true) ∧ Below w.heap.size w w' := by
  obtain ⟨t1, p1, r1, c1⟩ := a
  obtain ⟨t2, p2, r2, c2⟩ := b
  have g1 := fun w => great_any ⟨t1, p1, r1, c1⟩ w (by have := fa.t; omega) (by have := fa.p; omega) (by have := fa.c; omega)
  have g2 := fun w => great_any ⟨t2, p2, r2, c2⟩ w (by have := fb.t; omega) (by have := fb.p; omega) (by have := fb.c; omega)
  have ra := fa.r
  have rb := fb.r
  simp only [Kb.v] at g1 g2 ra rb ⊢
  by_cases h1 : 5000 < t1.size + p1.size + c1.size
  · obtain ⟨wa, hwa⟩ : ∃ wa, wa = (w.alloc (.cells #[.string t1, .string p1, .int .i64 r1, .string c1] 23)).alloc (.cells #[.string t2, .string p2, .int .i64 r2, .string c2] 23) := ⟨_, rfl⟩
    have hB : Below w.heap.size w wa := by rw [hwa]; exact ((Below.refl _ _).alloc (Nat.le_refl _) _).alloc (by simp) _
    have L : Hid (∀ w' : World, Below w.heap.size w w' → Calls Tryd.prog 10 #[] w' fun e w'' => e = .returned (.bool true) ∧ Below w'.heap.size w' w'') := fun w' h => lives_any w' (he.below h)
    have G1 : Hid (∀ w : World, Calls Tryd.prog 9 #[.agg #[.string t1, .string p1, .int .i64 r1, .string c1]] w fun e w' => e = .returned (.bool true) ∧ Below w.heap.size w w') := fun w => (decide_eq_true h1) ▸ g1 w
    clear g1 g2 h1 he fa fb
    go_enter Tryd.func6, Tryd.ntmps6
    go_wp2_with fail
    rw [← hwa]
    clear hwa
    refine (G1.out _).mono ?_
    rintro e w1 ⟨rfl, hb1⟩
    have hb1' : Below w.heap.size w w1 := hB.trans (hb1.mono hB.size)
    clear hb1 hB
    go_wp2_with fail
    refine (L.out w1 hb1').mono ?_
    rintro e w2 ⟨rfl, hb2⟩
    go_wp2_with fail
    go_ret
    exact ⟨rfl, hb1'.trans (hb2.mono hb1'.size)⟩
  by_cases h2 : 5000 < t2.size + p2.size + c2.size
  · obtain ⟨wa, hwa⟩ : ∃ wa, wa = (w.alloc (.cells #[.string t1, .string p1, .int .i64 r1, .string c1] 23)).alloc (.cells #[.string t2, .string p2, .int .i64 r2, .string c2] 23) := ⟨_, rfl⟩
    have kb : KAt wa (w.heap.size + 1) ⟨t2, p2, r2, c2⟩ := by rw [hwa]; have := KAt.new (w.alloc (.cells #[.string t1, .string p1, .int .i64 r1, .string c1] 23)) ⟨t2, p2, r2, c2⟩ 23; rw [World.size_alloc] at this; exact this
    have KB : Hid (KAt wa (w.heap.size + 1) ⟨t2, p2, r2, c2⟩) := kb
    have hB : Below w.heap.size w wa := by rw [hwa]; exact ((Below.refl _ _).alloc (Nat.le_refl _) _).alloc (by simp) _
    have L : Hid (∀ w' : World, Below w.heap.size w w' → Calls Tryd.prog 10 #[] w' fun e w'' => e = .returned (.bool true) ∧ Below w'.heap.size w' w'') := fun w' h => lives_any w' (he.below h)
    have G1 : Hid (∀ w : World, Calls Tryd.prog 9 #[.agg #[.string t1, .string p1, .int .i64 r1, .string c1]] w fun e w' => e = .returned (.bool false) ∧ Below w.heap.size w w') := fun w => (decide_eq_false h1) ▸ g1 w
    have G2 : Hid (∀ w : World, Calls Tryd.prog 9 #[.agg #[.string t2, .string p2, .int .i64 r2, .string c2]] w fun e w' => e = .returned (.bool true) ∧ Below w.heap.size w w') := fun w => (decide_eq_true h2) ▸ g2 w
    clear g1 g2 h1 h2 he fa fb kb
    go_enter Tryd.func6, Tryd.ntmps6
    go_wp2_with fail
    rw [← hwa]
    clear hwa
    refine (G1.out _).mono ?_
    rintro e w1 ⟨rfl, hb1⟩
    have hb1' : Below w.heap.size w w1 := hB.trans (hb1.mono hB.size)
    have kb := KB.out.below hb1 KB.out.lt
    have y0 := kb.t
    have y1 := kb.p
    have y2 := kb.r
    have y3 := kb.c
    clear hb1 hB kb
    go_wp2_with fail
    refine (G2.out _).mono ?_
    rintro e w2 ⟨rfl, hb2⟩
    have hb2' : Below w.heap.size w w2 := hb1'.trans (hb2.mono hb1'.size)
    clear y0 y1 y2 y3 hb2 hb1'
    go_wp2_with fail
    refine (L.out w2 hb2').mono ?_
    rintro e w3 ⟨rfl, hb3⟩
    go_wp2_with fail
    go_ret
    exact ⟨rfl, hb2'.trans (hb3.mono hb2'.size)⟩
  · exact small t1 p1 r1 c1 t2 p2 r2 c2 w ⟨by show t1.size ≤ 5000; omega, by show p1.size ≤ 5000; omega, by show c1.size ≤ 5000; omega, ra⟩ ⟨by show t2.size ≤ 5000; omega, by show p2.size ≤ 5000; omega, by show c2.size ≤ 5000; omega, rb⟩ he
      (fun w => (decide_eq_false h1) ▸ g1 w) (fun w => (decide_eq_false h2) ▸ g2 w)
end Go.Proofs.YtniilnifhgdhcaaDoor.keyOrder

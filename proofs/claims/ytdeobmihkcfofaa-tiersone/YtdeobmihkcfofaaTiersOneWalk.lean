/-
  THE LAW TiersOne, walked.
-/
import Derived.Test.YtdeobmihkcfofaaTirLives
namespace Go.Proofs.Ytdeobmihkcfofaa.tiersOne
open Go.RowKit Go.Proofs.Ytdeobmihkcfofaa

theorem cs_rep {n : Nat} {x : Int} {i : Nat} (h : i < n) : cs (List.replicate n x) i = cz x := by simp [cs, List.getD, h]
theorem ord_rep (n : Nat) (x : Int) : ordr (List.replicate n x) = List.range n := by
  have e : (List.replicate n x).length = n := List.length_replicate
  unfold ordr
  rw [e]
  refine (ordN_only (List.Perm.refl _) ?_).symm
  refine List.pairwise_iff_getElem.2 fun i j hi hj hij => ?_
  simp only [List.length_range] at hi hj
  simp only [List.getElem_range]
  unfold leT
  rw [cs_rep hi, cs_rep hj]
  exact decide_eq_true (.inr ⟨rfl, by omega⟩)
theorem alk_one {f : Nat → Nat} {c : Nat} : ∀ (l : List Nat) (cnt : Nat), (∀ i ∈ l, f i = c) → alk f cnt (cnt * c) l = l.length
  | [], _, _ => by simp [alk]
  | i :: r, cnt, h => by
    have hi : f i = c := h i List.mem_cons_self
    have hs : stp cnt (cnt * c) c = false := by
      unfold stp
      rw [decide_eq_false_iff_not]
      rintro ⟨h1, _, h3⟩
      rw [Nat.mul_div_cancel_left _ h1] at h3; omega
    have ih := alk_one r (cnt + 1) fun j hj => h j (List.mem_cons_of_mem _ hj)
    rw [alk, hi, if_neg (by rw [hs]; simp), show cnt * c + c = (cnt + 1) * c by rw [Nat.add_mul]; omega, ih, List.length_cons]; omega
theorem srt_range (n : Nat) : srtN (List.range n) = List.range n := (srtN_only (List.Perm.refl _) (List.pairwise_lt_range.imp fun h => Nat.le_of_lt h)).symm
theorem bkts_rep {n : Nat} (x : Int) (h : 0 < n) : bkts (List.replicate n x) = [List.range n] := by
  unfold bkts
  rw [ord_rep]
  have hne : List.range n ≠ [] := fun e => by have := congrArg List.length e; simp at this; omega
  have ha : alk (cs (List.replicate n x)) 0 0 (List.range n) = n := by
    have := alk_one (f := cs (List.replicate n x)) (c := cz x) (List.range n) 0 fun i hi => cs_rep (List.mem_range.1 hi)
    rw [Nat.zero_mul, List.length_range] at this; exact this
  rw [grps_eq _ _ hne, ha, List.take_of_length_le (by simp), List.drop_of_length_le (by simp)]
  simp [grps, srt_range]
theorem bkts_nil (x : Int) : bkts (List.replicate 0 x) = [] := by
  unfold bkts; rw [ord_rep]; rfl
theorem chs_rep {n : Nat} (x : Int) (h : 0 < n) (k : Int) : chs (List.replicate n x) k = if max k 2 ≤ (n : Int) then List.range n else [] := by
  unfold chs
  rw [bkts_rep x h]
  simp [chsn, pick, h]
theorem chs_nil (x : Int) (k : Int) : chs (List.replicate 0 x) k = [] := by unfold chs; rw [bkts_nil]; rfl
/-- Both lists, as far as they were made. -/
structure Two (w wr : World) (x : Int) (i : Nat) (s9 s10 : Value) : Prop where
  a : wr.ownsRow w.heap.size 3 1 s9 i (vI (List.replicate i x))
  b : wr.ownsRow w.heap.size 3 1 s10 i (vI (zs (List.range i)))
  ne : ∀ g, s9.ownBlock = some g → s10.ownBlock ≠ some g
  bel : Below w.heap.size w wr
theorem Two.start (w : World) (x : Int) : Two w w x 0 (.slice none 0 0) (.slice none 0 0) := ⟨World.ownsRow_nil _ _ _ _, World.ownsRow_nil _ _ _ _, (fun g h => by cases h), Below.refl _ _⟩
theorem rep_succ (i : Nat) (x : Int) : vI (List.replicate i x) ++ [.int .i64 x] = vI (List.replicate (i + 1) x) := by rw [List.replicate_succ']; simp [vI]
theorem ran_succ (i : Nat) : vI (zs (List.range i)) ++ [.int .i64 (i : Int)] = vI (zs (List.range (i + 1))) := by rw [List.range_succ, zs_append]; simp [vI, zs]
theorem Two.step {w wr w3 w5 : World} {x : Int} {i : Nat} {s9 s10 v3 v5 : Value} {z : Value} {z' : Value} (h : Two w wr x i s9 s10)
    (h3 : w3.ownsRow w.heap.size 3 1 v3 (i + 1) (vI (List.replicate i x) ++ [.int .i64 x])) (g3 : Grew (wr.alloc (.cells #[z] 3)) w3 s9 v3)
    (h5 : w5.ownsRow w.heap.size 3 1 v5 (i + 1) (vI (zs (List.range i)) ++ [.int .i64 (i : Int)])) (g5 : Grew (w3.alloc (.cells #[z'] 3)) w5 s10 v5) : Two w w5 x (i + 1) v3 v5 := by
  have hsz1 := g3.rows.size
  have hsz2 := g5.rows.size
  rw [World.size_alloc] at hsz1 hsz2
  have hbs := h.bel.size
  have hne3 : ∀ g, v3.ownBlock = some g → s10.ownBlock ≠ some g := fun g hg e => by
    rcases g3.own g hg with h1 | h1
    · exact h.ne g h1 e
    · rw [World.size_alloc] at h1
      have := (h.b.lt g e).2; omega
  refine ⟨?_, by rw [← ran_succ]; exact h5, fun g hg e => ?_, ?_⟩
  · rw [← rep_succ]
    refine owns_keepT h3 fun g hg => ?_
    have hlt := (h3.lt g hg).2
    rw [g5.rows.block g (by rw [World.size_alloc]; omega) (fun e => hne3 g hg e.symm), Below.heap_alloc _ _ _ hlt]
  · rcases g5.own g e with h1 | h1
    · exact hne3 g hg h1
    · rw [World.size_alloc] at h1
      have := (h3.lt g hg).2; omega
  · exact h.bel.trans ((((Below.refl _ _).alloc hbs _).trans (g3.below (by rw [World.size_alloc]; omega) fun g hg => (h.a.lt g hg).1)).trans (((Below.refl _ _).alloc (by omega) _).trans (g5.below (by rw [World.size_alloc]; omega) fun g hg => (h.b.lt g hg).1)))
set_option maxRecDepth 100000 in
set_option maxHeartbeats 2000000 in
theorem walk (x : Int) (cnt least : Nat) (w : World) (_hx : -9223372036854775808 ≤ x ∧ x ≤ 9223372036854775807) (hc : cnt < 18446744073709551616) (hk : least < 18446744073709551616) :
    Calls Try.prog 6 #[.int .i64 x, .int .u64 cnt, .int .u64 least] w fun e w' => e = .returned (.bool true) ∧ Below w.heap.size w w' := by
  obtain ⟨i1, hi1, hy0, hy1, hy2⟩ := infoXT infoInt
  obtain ⟨n, hn⟩ : ∃ n, n = cnt % 60 := ⟨_, rfl⟩
  obtain ⟨k, hkk⟩ : ∃ k, k = least % 70 := ⟨_, rfl⟩
  have hn60 : n < 60 := by omega
  have hk70 : k < 70 := by omega
  have HN : Hid (n = cnt % 60) := hn
  have HK : Hid (k = least % 70) := hkk
  have hnz : ((cnt : Int) % 60) = (n : Int) := by omega
  have hkz : ((least : Int) % 70) = (k : Int) := by omega
  clear hn hkk
  go_enter Try.func6, Try.ntmps6
  go_wp2_with fail
  clear hnz hkz
  have HT0 : Hid (Two w w x 0 (.slice none 0 0) (.slice none 0 0)) := Two.start w x
  go_loopw [9, 10, 11] (fun s9 s10 s11 wr => ∃ i : Nat, i ≤ n ∧ s11 = .int .i64 (i : Int) ∧ Two w wr x i s9 s10) (fun _ _ s11 _ => n - (intOf s11).toNat)
  case atStart => exact ⟨0, by omega, rfl, HT0.out⟩
  case round =>
    obtain ⟨i, hi, rfl, hT⟩ := hrel
    clear HT0
    rcases Nat.lt_or_ge i n with hlt | hge
    · have hltz : (i : Int) < (n : Int) := by omega
      have HT : Hid (Two w wr x i u9 u10) := hT
      have hbs : w.heap.size ≤ wr.heap.size := hT.bel.size
      have HB : Hid (∀ w3 v3, Grew (wr.alloc (.cells #[.int .i64 x] 3)) w3 u9 v3 → w3.ownsRow w.heap.size 3 1 u10 i (vI (zs (List.range i))) ∧ w.heap.size ≤ w3.heap.size) := fun w3 v3 g3 => by
        have hsz := g3.rows.size
        rw [World.size_alloc] at hsz
        refine ⟨owns_keepT hT.b fun g hg => ?_, by omega⟩
        have hl2 := (hT.b.lt g hg).2
        rw [g3.rows.block g (by rw [World.size_alloc]; omega) (fun e => hT.ne g e.symm hg), Below.heap_alloc _ _ _ hl2]
      have hoa := hT.a
      clear hT
      go_wp2_with (first
        | (at_builtin; have h9 := ho3; go_must (refine wpList_append_grew _ rfl _ _ 22 22 rfl w.heap.size 3 i1 _ 1 8 Try.underlying22 hi1 hy0 hy1 hy2 rfl _ i (vI (zs (List.range i))) rfl ((HB.out w3 v3 g3).1.alloc _) _ 1 [.int .i64 (i : Int)] rfl (src_oneV Try.underlying22 w3 _ 3 rfl) (by unfold maxLen; omega) (by omega) (by rw [World.size_alloc]; have := (HB.out w3 v3 g3).2; omega) ?_; intro v5 w5 ho5 g5))
        | (at_builtin; go_must (refine wpList_append_grew _ rfl _ _ 22 22 rfl w.heap.size 3 i1 _ 1 8 Try.underlying22 hi1 hy0 hy1 hy2 rfl _ i (vI (List.replicate i x)) rfl (hoa.alloc _) _ 1 [.int .i64 x] rfl (src_oneV Try.underlying22 wr _ 3 rfl) (by unfold maxLen; omega) (by omega) (by rw [World.size_alloc]; omega) ?_; intro v3 w3 ho3 g3)))
      have HT5 : Hid (Two w w5 x (i + 1) v3 v5) := HT.out.step ho3 g3 ho5 g5
      clear ho3 g3 ho5 g5 hoa HB HT
      go_roundw
      case rel => exact ⟨i + 1, by omega, by go_num, HT5.out⟩
      case measure => (simp [intOf]; try omega)
    · obtain rfl : i = n := by omega
      have hgez : ¬ (i : Int) < (i : Int) := by omega
      obtain ⟨ao, ca, rfl, hs⟩ := owns_isees hT.a
      obtain ⟨bo, cb, rfl, hq⟩ := owns_isees hT.b
      rw [List.length_replicate]
      rw [zs_len, List.length_range]
      have hrl : (List.replicate i x).length = i := List.length_replicate
      have HBW : Hid (∀ u, Below wr.heap.size wr u → Below w.heap.size w u) := fun u hu => hT.bel.trans (hu.mono hT.bel.size)
      have CC : Hid (∀ u, Below wr.heap.size wr u → Calls Try.prog 11 #[.slice ao i ca, .int .i64 (k : Int)] u fun e w' => ∃ mo mcap, e = .returned (.slice mo (chs (List.replicate i x) k).length mcap) ∧ ISees w' mo (zs (chs (List.replicate i x) k)) ∧ Below u.heap.size u w') := fun u hu => by
        have := choose_any ao (List.replicate i x) ca k u (hs.below hu (Nat.le_refl _)) (by rw [hrl]; omega)
        rw [hrl] at this; exact this
      have CB := buckets_any ao (List.replicate i x) ca wr hs (by rw [hrl]; omega)
      rw [hrl] at CB
      have CL : Hid (∀ u, Calls Try.prog 7 #[] u fun e w' => e = .returned (.bool true) ∧ Below u.heap.size u w') := lives12_any
      have HQ : Hid (∀ u, Below wr.heap.size wr u → ISees u bo (zs (List.range i))) := fun u hu => hq.below hu (Nat.le_refl _)
      rcases Nat.eq_zero_or_pos i with h0 | h0
      · subst h0
        have CB0 : Hid (Calls Try.prog 8 #[.slice ao 0 ca] wr fun e w' => ∃ bo bcap, e = .returned (.slice bo 0 bcap) ∧ Below wr.heap.size wr w') := CB.mono fun e w' ⟨bo, vs, bcap, he, _, h2, h3⟩ => by
          rw [bkts_nil] at h2
          have : vs = [] := by simpa using h2
          subst this
          exact ⟨bo, bcap, he, h3⟩
        have CC0 : Hid (∀ u, Below wr.heap.size wr u → Calls Try.prog 11 #[.slice ao 0 ca, .int .i64 (k : Int)] u fun e w' => ∃ mo mcap, e = .returned (.slice mo 0 mcap) ∧ Below u.heap.size u w') := fun u hu => by
          have := CC.out u hu
          rw [chs_nil] at this
          exact this.mono fun e w' ⟨mo, mcap, he, _, hb⟩ => ⟨mo, mcap, he, hb⟩
        clear CB CC hs hq hT HQ
        go_wp2_with fail
        go_fit CB0.out
        rintro e w1 ⟨vo, vcap, rfl, hB1⟩
        have C1 : Hid (Calls Try.prog 11 #[.slice ao 0 ca, .int .i64 (k : Int)] w1 fun e w' => ∃ mo mcap, e = .returned (.slice mo 0 mcap) ∧ Below w1.heap.size w1 w') := CC0.out w1 hB1
        go_wp2_with fail
        go_fit C1.out
        rintro e w2 ⟨mo, mcap, rfl, hB2⟩
        go_wp2_with fail
        go_fit (CL.out _)
        rintro e w3 ⟨rfl, hB3⟩
        have HF : Hid (Below w.heap.size w w3) := HBW.out _ ((hB1.trans (hB2.mono hB1.size)).trans (hB3.mono (Nat.le_trans hB1.size hB2.size)))
        clear C1 hB1 hB2 hB3
        go_wp2_with fail
        go_ret
        exact ⟨rfl, HF.out⟩
      · have CB1 : Hid (Calls Try.prog 8 #[.slice ao i ca] wr fun e w' => ∃ b off vcap a1 c1, e = .returned (.slice (some ⟨b, off, none⟩) 1 vcap) ∧ w'.cell? ⟨b, off, none⟩ = some (.slice a1 i c1) ∧ ISees w' a1 (zs (List.range i)) ∧ Below wr.heap.size wr w') := CB.mono fun e w' ⟨bo, vs, bcap, he, h1, h2, h3⟩ => by
          rw [bkts_rep x h0] at h2
          obtain ⟨⟨a1, l1, k1⟩, r1, rfl⟩ : ∃ v r, vs = v :: r := by cases vs with
            | nil => cases h2
            | cons v r => exact ⟨v, r, rfl⟩
          simp only [List.map_cons, List.cons.injEq, List.map_eq_nil_iff] at h2
          obtain ⟨rfl, rfl⟩ := h2
          obtain ⟨b, off, rfl, hc⟩ := h1.at' 0 _ rfl
          rw [Nat.add_zero, Iv.s] at hc
          simp only [List.length_range] at hc
          exact ⟨b, off, bcap, a1, k1, he, hc, h1.ins _ List.mem_cons_self, h3⟩
        have CI : Hid (∀ u a1 c1, Below wr.heap.size wr u → ISees u a1 (zs (List.range i)) → Calls Try.prog 10 #[.slice a1 i c1, .slice bo i cb] u fun e w' => e = .returned (.bool true) ∧ Below u.heap.size u w') := fun u a1 c1 hu ha => by
          have := ints_same a1 bo (zs (List.range i)) c1 cb u ha (HQ.out u hu) (by rw [zs_len, List.length_range]; omega)
          rw [zs_len, List.length_range] at this; exact this
        have hr := chs_rep x h0 k
        have h0z : ¬ (i : Int) = 0 := by omega
        have hi1z : (i : Int) ≤ 60 := by omega
        clear CB hs hq hT HQ
        by_cases hsm : i < k ∨ i < 2
        · rw [if_neg (by omega)] at hr
          have CC0 : Hid (∀ u, Below wr.heap.size wr u → Calls Try.prog 11 #[.slice ao i ca, .int .i64 (k : Int)] u fun e w' => ∃ mo mcap, e = .returned (.slice mo 0 mcap) ∧ Below u.heap.size u w') := fun u hu => by
            have := CC.out u hu
            rw [hr] at this
            exact this.mono fun e w' ⟨mo, mcap, he, _, hb⟩ => ⟨mo, mcap, he, hb⟩
          clear CC hr
          have hss : (i < k) ∨ (¬ i < k ∧ i < 2) := by omega
          clear hsm
          rcases hss with hss | ⟨hss, hss2⟩
          · have hsz : (i : Int) < (k : Int) := by omega
            go_wp2_with fail
            go_fit CB1.out
            rintro e w1 ⟨b, off, vcap, a1, c1, rfl, q0, hI1, hB1⟩
            have C1 : Hid (Calls Try.prog 10 #[.slice a1 i c1, .slice bo i cb] w1 fun e w' => e = .returned (.bool true) ∧ Below w1.heap.size w1 w') := CI.out w1 a1 c1 hB1 hI1
            clear hI1
            go_wp2_with fail
            go_fit C1.out
            rintro e w2 ⟨rfl, hB2⟩
            have hB2' : Below wr.heap.size wr w2 := hB1.trans (hB2.mono hB1.size)
            have C2 : Hid (Calls Try.prog 11 #[.slice ao i ca, .int .i64 (k : Int)] w2 fun e w' => ∃ mo mcap, e = .returned (.slice mo 0 mcap) ∧ Below w2.heap.size w2 w') := CC0.out w2 hB2'
            clear C1 q0 hB1 hB2
            go_wp2_with fail
            go_fit C2.out
            rintro e w3 ⟨mo, mcap, rfl, hB3⟩
            have hB3' : Below wr.heap.size wr w3 := hB2'.trans (hB3.mono hB2'.size)
            clear C2 hB3 hB2'
            go_wp2_with fail
            go_fit (CL.out _)
            rintro e w4 ⟨rfl, hB4⟩
            have HF : Hid (Below w.heap.size w w4) := HBW.out _ (hB3'.trans (hB4.mono hB3'.size))
            clear hB3' hB4
            go_wp2_with fail
            go_ret
            exact ⟨rfl, HF.out⟩
          · have hsz : ¬ (i : Int) < (k : Int) := by omega
            have hsz2 : (i : Int) < 2 := by omega
            go_wp2_with fail
            go_fit CB1.out
            rintro e w1 ⟨b, off, vcap, a1, c1, rfl, q0, hI1, hB1⟩
            have C1 : Hid (Calls Try.prog 10 #[.slice a1 i c1, .slice bo i cb] w1 fun e w' => e = .returned (.bool true) ∧ Below w1.heap.size w1 w') := CI.out w1 a1 c1 hB1 hI1
            clear hI1
            go_wp2_with fail
            go_fit C1.out
            rintro e w2 ⟨rfl, hB2⟩
            have hB2' : Below wr.heap.size wr w2 := hB1.trans (hB2.mono hB1.size)
            have C2 : Hid (Calls Try.prog 11 #[.slice ao i ca, .int .i64 (k : Int)] w2 fun e w' => ∃ mo mcap, e = .returned (.slice mo 0 mcap) ∧ Below w2.heap.size w2 w') := CC0.out w2 hB2'
            clear C1 q0 hB1 hB2
            go_wp2_with fail
            go_fit C2.out
            rintro e w3 ⟨mo, mcap, rfl, hB3⟩
            have hB3' : Below wr.heap.size wr w3 := hB2'.trans (hB3.mono hB2'.size)
            clear C2 hB3 hB2'
            go_wp2_with fail
            go_fit (CL.out _)
            rintro e w4 ⟨rfl, hB4⟩
            have HF : Hid (Below w.heap.size w w4) := HBW.out _ (hB3'.trans (hB4.mono hB3'.size))
            clear hB3' hB4
            go_wp2_with fail
            go_ret
            exact ⟨rfl, HF.out⟩
        · rw [if_pos (by omega)] at hr
          have CC0 : Hid (∀ u, Below wr.heap.size wr u → Calls Try.prog 11 #[.slice ao i ca, .int .i64 (k : Int)] u fun e w' => ∃ mo mcap, e = .returned (.slice mo i mcap) ∧ ISees w' mo (zs (List.range i)) ∧ Below u.heap.size u w') := fun u hu => by
            have := CC.out u hu
            rw [hr, List.length_range] at this
            exact this
          clear CC hr
          have hsz : ¬ (i : Int) < (k : Int) := by omega
          have hsz2 : ¬ (i : Int) < 2 := by omega
          have hss : ¬ i < k := by omega
          have hss2 : ¬ i < 2 := by omega
          clear hsm
          go_wp2_with fail
          go_fit CB1.out
          rintro e w1 ⟨b, off, vcap, a1, c1, rfl, q0, hI1, hB1⟩
          have C1 : Hid (Calls Try.prog 10 #[.slice a1 i c1, .slice bo i cb] w1 fun e w' => e = .returned (.bool true) ∧ Below w1.heap.size w1 w') := CI.out w1 a1 c1 hB1 hI1
          clear hI1
          go_wp2_with fail
          go_fit C1.out
          rintro e w2 ⟨rfl, hB2⟩
          have hB2' : Below wr.heap.size wr w2 := hB1.trans (hB2.mono hB1.size)
          have C2 : Hid (Calls Try.prog 11 #[.slice ao i ca, .int .i64 (k : Int)] w2 fun e w' => ∃ mo mcap, e = .returned (.slice mo i mcap) ∧ ISees w' mo (zs (List.range i)) ∧ Below w2.heap.size w2 w') := CC0.out w2 hB2'
          clear C1 q0 hB1 hB2
          go_wp2_with fail
          go_fit C2.out
          rintro e w3 ⟨mo, mcap, rfl, hI3, hB3⟩
          have hB3' : Below wr.heap.size wr w3 := hB2'.trans (hB3.mono hB2'.size)
          have C3 : Hid (Calls Try.prog 10 #[.slice mo i mcap, .slice bo i cb] w3 fun e w' => e = .returned (.bool true) ∧ Below w3.heap.size w3 w') := CI.out w3 mo mcap hB3' hI3
          clear hI3 C2 hB3 hB2'
          go_wp2_with fail
          go_fit C3.out
          rintro e w4 ⟨rfl, hB4⟩
          have hB4' : Below wr.heap.size wr w4 := hB3'.trans (hB4.mono hB3'.size)
          clear C3 hB4 hB3'
          go_wp2_with fail
          go_fit (CL.out _)
          rintro e w5 ⟨rfl, hB5⟩
          have HF : Hid (Below w.heap.size w w5) := HBW.out _ (hB4'.trans (hB5.mono hB4'.size))
          clear hB4' hB5
          go_wp2_with fail
          go_ret
          exact ⟨rfl, HF.out⟩
end Go.Proofs.Ytdeobmihkcfofaa.tiersOne

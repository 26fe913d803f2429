/-
  THE LAW SkipGets: the walk.
-/
import Derived.Test.YtlhojbgpmjcjlaaSkGets
import Derived.Test.YtlhojbgpmjcjlaaCxLaid
namespace Go.Proofs.Ytlhojbgpmjcjlaa.skipGets
open Go.RowKit

theorem toHid {p : Prop} (h : p) : Hid p := h
theorem lvls_from {li : List Int} {h : Nat} (hm : h ∈ lvls li) : 1 ≤ h ∧ h ≤ 8 ∧ (h = 1 ∨ h = 8 ∨ (h : Int) ∈ li) := by
  unfold lvls at hm
  split at hm
  · obtain rfl : h = 1 := by simpa using hm
    omega
  · obtain ⟨x, hx, rfl⟩ := List.mem_map.1 hm
    unfold clmp
    by_cases h1 : x < 1
    · have e : (min (max x 1) 8).toNat = 1 := by omega
      rw [e]; omega
    · by_cases h8 : 8 < x
      · have e : (min (max x 1) 8).toNat = 8 := by omega
        rw [e]; omega
      · have e : (min (max x 1) 8).toNat = x.toNat := by omega
        rw [e]
        refine ⟨by omega, by omega, .inr (.inr ?_)⟩
        have : ((x.toNat : Nat) : Int) = x := by omega
        rw [this]; exact hx
set_option maxRecDepth 100000 in
set_option maxHeartbeats 8000000 in
theorem walk (io : Option Addr) (li : List Int) (icap : Nat) (ao : Option Addr) (l : List Cx) (cap : Nat) (k : Kb) (w : World) (his : ISees w io li) (hin : io = none → li.length = 0) (hil : li.length ≤ 1125899906842624) (hs : XSees w ao l) (_hn : ao = none → l.length = 0) (hl : l.length ≤ 140737488355328) (hc : ∀ c ∈ l, c.In ∧ wtX c ≤ 562949953421312) (_ : InI k.r) :
    Calls Try.prog 6 #[.slice io li.length icap, .slice ao l.length cap, k.v] w fun e w' => e = .returned (.bool true) ∧ Below w.heap.size w w' := by
  have LV : Hid (∀ w : World, Calls Try.prog 8 #[] w fun x w' => x = .returned (.bool true) ∧ Below w.heap.size w w') := lives6_any
  obtain ⟨wk, hwk⟩ : ∃ wk, wk = w.alloc (.cells #[.string k.t, .string k.p, .int .i64 k.r, .string k.c] 25) := ⟨_, rfl⟩
  have hbk : Below w.heap.size w wk := by rw [hwk]; exact (Below.refl _ _).alloc (Nat.le_refl _) _
  have hkb : Blk wk w.heap.size [.string k.t, .string k.p, .int .i64 k.r, .string k.c] 25 := by rw [hwk]; exact Blk.new w _ _
  have W1 : Hid (Calls Try.prog 7 #[.slice ao l.length cap, .int .i64 200] wk fun e w' => (∃ z : Nat, e = .returned (.int .i64 z) ∧ z ≤ 1000000000000000 ∧ (z ≤ 200 → l.length ≤ 200 ∧ wtXs l ≤ 20 * 200)) ∧ Below wk.heap.size wk w') :=
    weigh6_any ao l cap 200 wk (hs.below hbk (Nat.le_refl _)) (by omega) hl (fun c h => (hc c h).2)
  have HE : Hid (∀ w', Below wk.heap.size wk w' → Below w.heap.size w w') := fun w' h => hbk.trans (h.mono hbk.size)
  have HS : Hid (∀ w', Below wk.heap.size wk w' → XSees w' ao l ∧ ISees w' io li ∧ Blk w' w.heap.size [.string k.t, .string k.p, .int .i64 k.r, .string k.c] 25) := fun w' h => ⟨hs.below (HE.out w' h) (Nat.le_refl _), his.below (HE.out w' h) (Nat.le_refl _), hkb.below h hkb.lt⟩
  have hlz : (l.length : Int) ≤ 140737488355328 := by omega
  have hilz : (li.length : Int) ≤ 1125899906842624 := by omega
  have NA : Hid (li.length ≤ 1000 → ∀ w', Below wk.heap.size wk w' → Calls Try.prog 9 #[.slice io li.length icap] w' fun e w'' => ∃ S : SkId, e = .returned (.pointer (some ⟨S.l, 0, none⟩)) ∧ SkB wk.heap.size wk w'' S (lvls li) []) := fun h1 w' h =>
    (new_any io li icap w' (HS.out w' h).2.1 hin (by omega)).mono fun e w'' ⟨S, he, hS, hb, hlo⟩ => ⟨S, he, ⟨hS, h.trans (hb.mono h.size), fun b hb' => Nat.le_trans h.size (hlo b hb'), Nat.le_trans h.size hb.size⟩⟩
  clear hc hs his hin hl hil hkb hbk
  obtain ⟨kt, kp, kr, kcc⟩ := k
  simp only [Kb.v] at hwk ⊢
  go_enter Try.func6, Try.ntmps6
  go_wp2_with fail
  rw [← hwk]
  clear hwk
  refine W1.out.mono ?_
  rintro e w1 ⟨⟨z, rfl, hz, hzm⟩, hb1⟩
  by_cases hbig : 200 < z
  · have hbz : (200 : Int) < (z : Int) := by omega
    clear hzm
    go_wp2_with fail
    refine (LV.out _).mono ?_
    rintro e w2 ⟨rfl, hb2⟩
    go_wp2_with fail
    go_ret
    exact ⟨rfl, HE.out _ (hb1.trans (hb2.mono hb1.size))⟩
  have hbz : ¬ (200 : Int) < (z : Int) := by omega
  obtain ⟨hl4, hw4⟩ := hzm (by omega)
  clear hzm hbig
  by_cases hli : 1000 < li.length
  · have hliz : (1000 : Int) < (li.length : Int) := by omega
    go_wp2_with fail
    refine (LV.out _).mono ?_
    rintro e w2 ⟨rfl, hb2⟩
    go_wp2_with fail
    go_ret
    exact ⟨rfl, HE.out _ (hb1.trans (hb2.mono hb1.size))⟩
  have hliz : ¬ (1000 : Int) < (li.length : Int) := by omega
  have N1h := toHid (NA.out (by omega) w1 hb1)
  clear NA hb1
  go_wp2_with fail
  refine N1h.out.mono ?_
  rintro e w2 ⟨S, rfl, hA⟩
  have hG0 : Hid (Gv wk.heap.size wk (w2.alloc (.cells zeroV.a 38)) S (lvls li) [] w2.heap.size zeroV) :=
    ⟨hA.below ((Below.refl _ _).alloc (Nat.le_refl _) _), Blk.new w2 _ _, fun hm => by have := hA.sk.alllt _ hm; omega, hA.siz, fun t ht => by cases ht⟩
  obtain ⟨vb, hvb⟩ : ∃ vb, vb = w2.heap.size := ⟨_, rfl⟩
  rw [← hvb] at hG0
  have PV := toHid fun (T : List Tw) (v : Vr) (w' : World) (h : Gv wk.heap.size wk w' S (lvls li) T vb v) (i : Nat) (c : Cx) (hc : l[i]? = some c) (hT : cs T = nrm (goods (l.take i))) => putV_any h hl4 hw4 i c hc hT
  have RJ : Hid (∀ (a b : Vr) (w : World), Calls Try.prog 24 #[a.v, b.v] w fun e w' => e = .returned (jn a b).v ∧ Below w.heap.size w w') := fun a b w => refJoin_any a b w
  clear N1h hA hw4
  simp only [zeroV, Vr.a] at hG0
  go_wp2_with fail
  rw [← hvb]
  clear hvb
  go_loopw [9, 34] (fun s9 s34 wr => ∃ (i : Nat) (T : List Tw) (v : Vr) (th : Bool), i ≤ l.length ∧ s9 = .bool th ∧ s34 = .int .i64 i ∧ Gv wk.heap.size wk wr S (lvls li) T vb v ∧ fnd ⟨kt, kp, kr, kcc⟩ (cs T) = (v, th) ∧ cs T = nrm (goods (l.take i))) (fun _ s34 _ => l.length - (intOf s34).toNat)
  case atStart => exact ⟨0, [], _, false, by omega, rfl, rfl, hG0.out, rfl, rfl⟩
  case round =>
    obtain ⟨i, T, v, th, hi, rfl, rfl, hG, hf, hcs⟩ := hrel
    rcases Nat.lt_or_ge i l.length with hlt | hge
    · have hc0 : l[i]? = some l[i] := List.getElem?_eq_getElem hlt
      obtain ⟨b1, o1, rfl, x1⟩ := (HS.out wr hG.sk.bel).1 i _ hc0
      have P1 := PV.out T v wr hG i l[i] hc0 hcs
      generalize l[i] = c at *
      have hup : Rising (cs T) := hG.sk.sk.up
      have FA := toHid (fnd_add (κ := ⟨kt, kp, kr, kcc⟩) (c := c) hup)
      obtain ⟨⟨ct, cp, cr, cc⟩, ⟨cti, cd, cl, ck, cn, cstr⟩⟩ := c
      simp only [Cx.val, Cx.a] at P1
      have P1h := toHid P1
      obtain ⟨k0, k1, k2, k3, k4, k5, k6, k7, k8, k9⟩ := x1
      simp only at k0 k1 k2 k3 k4 k5 k6 k7 k8 k9
      have hltz : (i : Int) < (l.length : Int) := by omega
      have HF := toHid hf
      clear P1 hc0 hup hf hcs hG
      go_wp2_with fail
      refine P1h.out.mono ?_
      rintro e w5 ⟨T', rfl, hG', hcs', hx', hadd⟩
      clear P1h k0 k1 k2 k3 k4 k5 k6 k7 k8 k9
      cases hg : goodC ⟨⟨ct, cp, cr, cc⟩, ⟨cti, cd, cl, ck, cn, cstr⟩⟩
      · rw [hg, if_neg (by simp)] at hadd
        have hf' : fnd ⟨kt, kp, kr, kcc⟩ (cs T') = (v, th) := by rw [hadd]; exact HF.out
        simp only [Bool.false_eq_true, if_false]
        clear hx' hadd HF FA
        go_wp2_with fail
        go_roundw
        case rel => exact ⟨i + 1, T', v, th, by omega, rfl, by go_num, hG', hf', hcs'⟩
        case measure => (simp [intOf]; try omega)
      · rw [hg, if_pos rfl] at hadd
        simp only [if_true]
        obtain ⟨k0, k1, k2, k3, k4, k5, k6, k7, k8, k9⟩ := hx'
        simp only [Nat.zero_add] at k0 k1 k2 k3 k4 k5 k6 k7 k8 k9
        have hkk := (HS.out w5 hG'.sk.bel).2.2
        have m0 := hkk.cell 0 rfl
        have m1 := hkk.cell 1 rfl
        have m2 := hkk.cell 2 rfl
        have m3 := hkk.cell 3 rfl
        clear hkk hg
        by_cases hk : (⟨ct, cp, cr, cc⟩ : Kb) = ⟨kt, kp, kr, kcc⟩
        · have hf2 := FA.out
          rw [← hadd, HF.out, if_pos (@decide_eq_true _ (Classical.propDecidable _) hk)] at hf2
          simp only at hf2
          simp only [Kb.mk.injEq] at hk
          obtain ⟨rfl, rfl, rfl, rfl⟩ := hk
          have hbx := hG'.box
          have f0 := frozen_at hbx 0
          have f1 := frozen_at hbx 1
          have f2 := frozen_at hbx 2
          have f3 := frozen_at hbx 3
          have f4 := frozen_at hbx 4
          have f5 := frozen_at hbx 5
          have c0 := hbx.cell 0 rfl
          have c1 := hbx.cell 1 rfl
          have c2 := hbx.cell 2 rfl
          have c3 := hbx.cell 3 rfl
          have c4 := hbx.cell 4 rfl
          have c5 := hbx.cell 5 rfl
          cases th
          · rw [if_neg (by simp)] at hf2
            have hE := toHid (hG'.set ⟨cti, cd, cl, ck, cn, cstr⟩)
            simp only at hE
            clear hbx HF FA hadd hG'
            go_wp2_with fail
            go_roundw
            case rel => exact ⟨i + 1, T', _, true, by omega, rfl, by go_num, hE.out, hf2, hcs'⟩
            case measure => (simp [intOf]; try omega)
          · rw [if_pos rfl] at hf2
            have J1 := toHid (RJ.out v ⟨cti, cd, cl, ck, cn, cstr⟩ w5)
            have HG' := toHid hG'
            obtain ⟨v0, v1, v2, v3, v4, v5⟩ := v
            generalize jn ⟨v0, v1, v2, v3, v4, v5⟩ ⟨cti, cd, cl, ck, cn, cstr⟩ = J at *
            obtain ⟨j0, j1, j2, j3, j4, j5⟩ := J
            simp only [Vr.v] at J1
            simp only at c0 c1 c2 c3 c4 c5
            clear hbx HF FA hadd hG'
            go_wp2_with fail
            refine J1.out.mono ?_
            rintro e w6 ⟨rfl, hb6⟩
            have hG6 := HG'.out.below hb6
            have hbx := hG6.box
            have g0 := frozen_at hbx 0
            have g1 := frozen_at hbx 1
            have g2 := frozen_at hbx 2
            have g3 := frozen_at hbx 3
            have g4 := frozen_at hbx 4
            have g5 := frozen_at hbx 5
            have d0 := hbx.cell 0 rfl
            have d1 := hbx.cell 1 rfl
            have d2 := hbx.cell 2 rfl
            have d3 := hbx.cell 3 rfl
            have d4 := hbx.cell 4 rfl
            have d5 := hbx.cell 5 rfl
            have hE := toHid (hG6.set ⟨j0, j1, j2, j3, j4, j5⟩)
            simp only at hE
            clear hbx hG6 HG' J1 hb6 c0 c1 c2 c3 c4 c5 f0 f1 f2 f3 f4 f5 k0 k1 k2 k3 k4 k5 k6 k7 k8 k9 m0 m1 m2 m3
            go_wp2_with fail
            go_roundw
            case rel => exact ⟨i + 1, T', _, true, by omega, rfl, by go_num, hE.out, hf2, hcs'⟩
            case measure => (simp [intOf]; try omega)
        · have hf2 := FA.out
          rw [← hadd, HF.out, if_neg (by simpa using hk)] at hf2
          have hkf := key_first hk
          clear hk HF FA hadd
          rcases hkf with h | ⟨rfl, h⟩ | ⟨rfl, rfl, h⟩ | ⟨rfl, rfl, rfl, h⟩ <;> (
            go_wp2_with fail
            go_roundw
            case rel => exact ⟨i + 1, T', v, th, by omega, rfl, by go_num, hG', hf2, hcs'⟩
            case measure => (simp [intOf]; try omega))
    · obtain rfl : i = l.length := by omega
      have hgez : ¬ (l.length : Int) < (l.length : Int) := by omega
      have G1 := get_any S (lvls li) T ⟨kt, kp, kr, kcc⟩ wr hG.sk.sk
      have hf2 : fnd ⟨kt, kp, kr, kcc⟩ (T.map Tw.c) = (v, th) := hf
      rw [hf2] at G1
      have hkk := (HS.out wr hG.sk.bel).2.2
      have m0 := hkk.cell 0 rfl
      have m1 := hkk.cell 1 rfl
      have m2 := hkk.cell 2 rfl
      have m3 := hkk.cell 3 rfl
      have HG := toHid hG
      have hTl : T.length ≤ 200 := by have := cs_len hcs; simp at this; omega
      have HH : Hid (∀ u, Below wr.heap.size wr u → Calls Try.prog 19 #[.pointer (some ⟨S.l, 0, none⟩)] u fun e W' => ∃ ho hc, e = .returned (.slice ho (T.map fun t => (t.hv : Int)).length hc) ∧ ISees W' ho (T.map fun t => (t.hv : Int)) ∧ Below u.heap.size u W') := fun u hb => (heights_any S (lvls li) T u (HG.out.below hb).sk.sk).mono fun e W' ⟨v', he, ho, hb'⟩ => by
        obtain ⟨ao, cap, hv, hi⟩ := owns_isees ho
        exact ⟨ao, cap, by rw [he, hv], hi, hb'⟩
      have HL : Hid (∀ (j : Nat) (x : Int), (T.map fun t => (t.hv : Int))[j]? = some x → ∃ h : Nat, x = h ∧ 1 ≤ h ∧ h ≤ 8 ∧ (h = 1 ∨ h = 8 ∨ (h : Int) ∈ li)) := fun j x hx => by
        have hm := List.mem_of_getElem? hx
        obtain ⟨t, ht, rfl⟩ := List.mem_map.1 hm
        have h1 := HG.out.hh t ht
        have h2 := (HG.out.sk.sk.ok t ht).2.2
        exact ⟨t.hv, rfl, lvls_from (by rw [h2]; exact h1)⟩
      have hHl : (T.map fun t => (t.hv : Int)).length ≤ 200 := by rw [List.length_map]; exact hTl
      generalize (T.map fun t => (t.hv : Int)) = H at *
      have G1h := toHid G1
      obtain ⟨v0, v1, v2, v3, v4, v5⟩ := v
      simp only [Vr.v, Kb.v] at G1h
      clear G1 hf hf2 hkk hG hcs PV RJ hG0
      go_wp2_with fail
      refine G1h.out.mono ?_
      rintro e w3 ⟨rfl, hb3⟩
      have hbA : Below wr.heap.size wr (w3.alloc (.cells #[.int .i64 v0, .bool v1, .int .i64 v2, .int .i64 v3, .int .i64 v4, .string v5] 38)) := hb3.alloc hb3.size _
      have bA := Blk.new w3 [.int .i64 v0, .bool v1, .int .i64 v2, .int .i64 v3, .int .i64 v4, .string v5] 38
      have H1 := toHid (HH.out _ hbA)
      have BA : Hid (Blk (w3.alloc (.cells #[.int .i64 v0, .bool v1, .int .i64 v2, .int .i64 v3, .int .i64 v4, .string v5] 38)) w3.heap.size [.int .i64 v0, .bool v1, .int .i64 v2, .int .i64 v3, .int .i64 v4, .string v5] 38) := bA
      have HbA := toHid hbA
      clear G1h HH hbA bA m0 m1 m2 m3 hb3
      go_wp2_with fail
      refine H1.out.mono ?_
      rintro e w4 ⟨ho, hcap, rfl, hIs, hb4⟩
      have HB4 : Hid (∀ u, Below w4.heap.size w4 u → Below wr.heap.size wr u ∧ Blk u w3.heap.size [.int .i64 v0, .bool v1, .int .i64 v2, .int .i64 v3, .int .i64 v4, .string v5] 38 ∧ ISees u ho H ∧ ISees u io li ∧ Blk u vb (vL6 ⟨v0, v1, v2, v3, v4, v5⟩) 38 ∧ Below wk.heap.size wk u) := fun u hu => by
        have e1 := BA.out.below (hb4.trans (hu.mono hb4.size)) BA.out.lt
        have e2 := HbA.out.trans ((hb4.trans (hu.mono hb4.size)).mono HbA.out.size)
        have e3 := HG.out.below e2
        exact ⟨e2, e1, hIs.below hu (Nat.le_refl _), (HS.out u e3.sk.bel).2.1, e3.box, e3.sk.bel⟩
      have hHz : (H.length : Int) ≤ 200 := by omega
      clear H1 BA HbA HG hIs hb4 HS
      go_wp2_with fail
      go_loopw [65] (fun s65 wq => ∃ j : Nat, j ≤ H.length ∧ s65 = .int .i64 j ∧ Below w4.heap.size w4 wq) (fun s65 _ => H.length - (intOf s65).toNat)
      case atStart => exact ⟨0, by omega, rfl, Below.refl _ _⟩
      case round =>
        obtain ⟨j, hj, rfl, hbq⟩ := hrel
        rcases Nat.lt_or_ge j H.length with hjl | hjg
        · have hx0 : H[j]? = some H[j] := List.getElem?_eq_getElem hjl
          obtain ⟨-, -, hIs, -⟩ := HB4.out wr hbq
          obtain ⟨b1, o1, rfl, x1⟩ := hIs j _ hx0
          obtain ⟨h, hxh, h1, h8, hin⟩ := HL.out j _ hx0
          rw [hxh] at x1
          have hjz : (j : Int) < (H.length : Int) := by omega
          have HIN := toHid hin
          clear hin hx0 hxh hIs
          have h1z : ¬ (h : Int) < 1 := by omega
          have h8z : ¬ (8 : Int) < (h : Int) := by omega
          have INN : Hid (∀ (m : Nat), m ≤ li.length → ∀ u, Below w4.heap.size w4 u → ∀ x, li[m]? = some x → ∃ b off, io = some ⟨b, off, none⟩ ∧ u.cell? ⟨b, off + m, none⟩ = some (.int .i64 x)) := fun m _ u hu x hx => (HB4.out u hu).2.2.2.1 m x hx
          obtain ⟨hz, hhz⟩ : ∃ hz : Int, hz = h := ⟨_, rfl⟩
          rw [← hhz] at x1 h1z h8z
          have HHZ := toHid hhz
          clear hhz
          have hcase : (hz = 1) ∨ (¬ hz = 1 ∧ hz = 8) ∨ (¬ hz = 1 ∧ ¬ hz = 8) := by omega
          rcases hcase with he1 | ⟨he1, he8⟩ | ⟨he1, he8⟩
          all_goals
            go_wp2_with fail
            go_loopw [16, 77] (fun s16 s77 wq => ∃ (m : Nat) (b : Bool), m ≤ li.length ∧ s16 = .bool b ∧ s77 = .int .i64 m ∧ ((hz = 1 ∨ hz = 8 ∨ hz ∈ li.take m) → b = true) ∧ Below w4.heap.size w4 wq) (fun _ s77 _ => li.length - (intOf s77).toNat)
            case atStart => exact ⟨0, _, by omega, rfl, rfl, (by first | exact fun _ => rfl | exact fun h => by rcases h with h | h | h <;> first | omega | simp at h), hbq⟩
            case round =>
              obtain ⟨m, b, hm, rfl, rfl, hbt, hbm⟩ := hrel
              rcases Nat.lt_or_ge m li.length with hml | hmg
              · have hy0 : li[m]? = some li[m] := List.getElem?_eq_getElem hml
                obtain ⟨b2, o2, rfl, y1⟩ := INN.out m hm wr hbm _ hy0
                have hts : li.take (m + 1) = li.take m ++ [li[m]] := by rw [List.take_add_one, hy0]; rfl
                have hbt2 : Hid ((hz = 1 ∨ hz = 8 ∨ hz ∈ li.take (m + 1)) → (b || decide (li[m] = hz)) = true) := fun h => by
                  rw [hts] at h
                  rcases h with h | h | h
                  · rw [hbt (.inl h)]; rfl
                  · rw [hbt (.inr (.inl h))]; rfl
                  · rcases List.mem_append.1 h with h | h
                    · rw [hbt (.inr (.inr h))]; rfl
                    · have : hz = li[m] := by simpa using h
                      rw [this]; simp
                have hmz : (m : Int) < (li.length : Int) := by omega
                generalize li[m] = y at *
                clear hy0 hts hbt x1
                cases b
                · have hb2 : Hid ((hz = 1 ∨ hz = 8 ∨ hz ∈ li.take (m + 1)) → y = hz) := fun h => by simpa using hbt2.out h
                  go_wp2_with fail
                  go_roundw
                  case rel => exact ⟨m + 1, _, by omega, rfl, by go_num, fun h => by have h3 := hb2.out h; simp only [beq_iff_eq]; omega, hbm⟩
                  case measure => (simp [intOf]; try omega)
                · go_wp2_with fail
                  go_roundw
                  case rel => exact ⟨m + 1, true, by omega, rfl, by go_num, fun _ => rfl, hbm⟩
                  case measure => (simp [intOf]; try omega)
              · obtain rfl : m = li.length := by omega
                rw [List.take_length] at hbt
                obtain rfl : b = true := hbt (by
                  rw [HHZ.out]
                  rcases HIN.out with h | h | h
                  · exact .inl (by omega)
                  · exact .inr (.inl (by omega))
                  · exact .inr (.inr h))
                have hmz : ¬ (li.length : Int) < (li.length : Int) := by omega
                clear hbt x1
                go_wp2_with fail
                go_roundw
                case rel => exact ⟨j + 1, by omega, by go_num, hbm⟩
                case measure => (simp [intOf]; try omega)
        · obtain rfl : j = H.length := by omega
          have hjz : ¬ (H.length : Int) < (H.length : Int) := by omega
          obtain ⟨-, hA, -, -, hV, hbE⟩ := HB4.out wr hbq
          have a0 := hA.cell 0 rfl
          have a1 := hA.cell 1 rfl
          have a2 := hA.cell 2 rfl
          have a3 := hA.cell 3 rfl
          have a4 := hA.cell 4 rfl
          have a5 := hA.cell 5 rfl
          have c0 := hV.cell 0 rfl
          have c1 := hV.cell 1 rfl
          have c2 := hV.cell 2 rfl
          have c3 := hV.cell 3 rfl
          have c4 := hV.cell 4 rfl
          have c5 := hV.cell 5 rfl
          simp only at c0 c1 c2 c3 c4 c5
          clear hA hV HB4 HL
          go_wp2_with fail
          refine (LV.out _).mono ?_
          rintro e w5 ⟨rfl, hb5⟩
          have hE := HE.out _ (hbE.trans (hb5.mono hbE.size))
          go_wp2_with fail
          go_ret
          exact ⟨rfl, hE⟩
end Go.Proofs.Ytlhojbgpmjcjlaa.skipGets

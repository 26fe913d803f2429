/-
  SEVERAL TEXTS IN ONE: TabSearch, TabFrom, TabScan, CxFound, TabGet, TabMay, TabSize, TabBackP, TabScansP, TabAsk, KeyRefGood, VerRef, CxRefNorm, CxRefMore.
-/
import Derived.Test.YtmkaehnfgdlhdaaGreatDoorTabM2
import Derived.Test.YtmkaehnfgdlhdaaGreatDoorTabM3
import Derived.Laws.ResultCell
import Derived.Test.YtmkaehnfgdlhdaaGreatDoorTabM1
import Derived.Deep.CutRange
namespace Go.Proofs.YtmkaehnfgdlhdaaGreatDoor
open Go.RowKit

attribute [local go_sem] Oper.pureAt Oper.pureUpon

set_option maxRecDepth 100000 in
set_option maxHeartbeats 1000000 in
theorem search_any (n : Nat) (hn : n ≤ 1000000) (f : Nat → Bool) (cap : Array Value) (w : World)
    (hf : ∀ (u : World) (i : Nat), Below w.heap.size w u → i < n → Calls Tryz.prog 53 (#[.int .i64 (i : Int)] ++ cap) u fun e w' => e = .returned (.bool (f i)) ∧ Below u.heap.size u w') :
    Calls Tryz.prog 52 #[.int .i64 (n : Int), .func (.func 53) #[] cap] w fun e w' => ∃ k : Nat, e = .returned (.int .i64 (k : Int)) ∧ k ≤ n ∧ (0 < k → f (k - 1) = false) ∧ (k < n → f k = true) ∧ Below w.heap.size w w' := by
  have HF : Hid (∀ (u : World) (i : Nat), Below w.heap.size w u → i < n → Calls Tryz.prog 53 (#[.int .i64 (i : Int)] ++ cap) u fun e w' => e = .returned (.bool (f i)) ∧ Below u.heap.size u w') := hf
  clear hf
  have hnz : (n : Int) ≤ 1000000 := by omega
  go_enter Tryz.func52, Tryz.ntmps52
  go_wp2_with fail
  go_loopw [5, 6] (fun s5 s6 wr => ∃ i j : Nat, s5 = .int .i64 (i : Int) ∧ s6 = .int .i64 (j : Int) ∧ i ≤ j ∧ j ≤ n ∧ (0 < i → f (i - 1) = false) ∧ (j < n → f j = true) ∧ Below w.heap.size w wr) (fun s5 s6 _ => (intOf s6 - intOf s5).toNat)
  case atStart => exact ⟨0, n, rfl, rfl, Nat.zero_le _, Nat.le_refl _, fun h => by omega, fun h => by omega, Below.refl _ _⟩
  case round =>
    obtain ⟨i, j, rfl, rfl, hij, hjn, h1, h2, hb⟩ := hrel
    by_cases hlt : i < j
    · obtain ⟨m, hm⟩ : ∃ m, m = (i + j) / 2 := ⟨_, rfl⟩
      have hltz : (i : Int) < (j : Int) := by omega
      have hmj : m < j := by omega
      have him : i ≤ m := by omega
      have C : Hid (Calls Tryz.prog 53 (#[.int .i64 (m : Int)] ++ cap) wr fun e w' => e = .returned (.bool (f m)) ∧ Below wr.heap.size wr w') := HF.out wr m hb (by omega)
      have d1 : IntKind.u64.wrap ((i : Int) + (j : Int)) = (i : Int) + (j : Int) := by rw [IntKind.wrap_u64]; omega
      have d2 : ((i : Int) + (j : Int)) / 2 = (m : Int) := by omega
      have hjz : (j : Int) ≤ 1000000 := by omega
      clear hm
      have H1 : Hid (0 < i → f (i - 1) = false) := h1
      have H2 : Hid (j < n → f j = true) := h2
      clear h1 h2
      cases hfm : f m
      · rw [hfm] at C
        have H3 : Hid (f m = false) := hfm
        clear hfm
        go_wp2_with fail
        refine C.out.mono ?_
        rintro e w1 ⟨rfl, hb1⟩
        go_wp2_with fail
        go_roundw
        case rel => exact ⟨m + 1, j, by simp, rfl, by omega, hjn, fun _ => by rw [Nat.add_sub_cancel]; exact H3.out, H2.out, hb.trans (hb1.mono hb.size)⟩
        case measure => simp [intOf]; omega
      · rw [hfm] at C
        have H3 : Hid (f m = true) := hfm
        clear hfm
        go_wp2_with fail
        refine C.out.mono ?_
        rintro e w1 ⟨rfl, hb1⟩
        go_wp2_with fail
        go_roundw
        case rel => exact ⟨i, m, rfl, rfl, him, by omega, H1.out, fun _ => H3.out, hb.trans (hb1.mono hb.size)⟩
        case measure => simp [intOf]; omega
    · have hij2 : i = j := by omega
      subst hij2
      go_wp2_with fail
      go_ret
      exact ⟨i, rfl, hjn, h1, h2, hb⟩
theorem cmpK_any (a b : Kb) (w : World) : Calls Tryz.prog 45 #[a.v, b.v] w fun e w' => e = .returned (.int .i64 (kc a.ky b.ky)) ∧ Below w.heap.size w w' := cmp_any a b w
set_option maxRecDepth 100000 in
set_option maxHeartbeats 1000000 in
/-- Does a block begin behind the key? -/
theorem from1_any (i b1 b2 g n cap : Nat) (l : List Cx) (k : Kb) (w : World) (hb1 : Boxed w b1 22 (.slice (some ⟨g, 0, none⟩) n cap)) (hb2 : Blk w b2 [.string k.t, .string k.p, .int .i64 k.r, .string k.c] 24) (hx : XSees w (some ⟨g, 0, none⟩) l) (hn : l.length = n) (hi : 8 * i < n) (hn9 : n ≤ 9000) (c : Cx) (hc : l[8 * i]? = some c) :
    Calls Tryz.prog 53 #[.int .i64 (i : Int), .pointer (some ⟨b1, 0, none⟩), .pointer (some ⟨b2, 0, none⟩)] w fun e w' => e = .returned (.bool (decide (0 < kc c.k.ky k.ky))) ∧ Below w.heap.size w w' := by
  obtain ⟨b', o', e, tt⟩ := hx _ c hc
  cases e
  have C : Hid (∀ u : World, Calls Tryz.prog 45 #[.agg #[.string c.k.t, .string c.k.p, .int .i64 c.k.r, .string c.k.c], .agg #[.string k.t, .string k.p, .int .i64 k.r, .string k.c]] u fun e w' => e = .returned (.int .i64 (kc c.k.ky k.ky)) ∧ Below u.heap.size u w') := fun u => cmpK_any c.k k u
  have hz : (8 : Int) * (i : Int) < (n : Int) := by omega
  obtain ⟨m, hm⟩ : ∃ m, m = 8 * i := ⟨_, rfl⟩
  have hmz : (i : Int) * 8 = (m : Int) := by omega
  have hmn : m < n := by omega
  have hmnz : (m : Int) < (n : Int) := by omega
  have wm : IntKind.i64.wrap (m : Int) = (m : Int) := by rw [IntKind.wrap_i64]; omega
  have eo : 0 + 8 * i * 10 = m * 10 := by omega
  rw [eo] at tt
  have lt1 := hb1.lt
  have lt2 := hb2.lt
  have lt3 := tt.lt
  obtain ⟨⟨ct, cp, cr, ck⟩, cv⟩ := c
  obtain ⟨t0, t1, t2, t3, -, -, -, -, -, -⟩ := tt
  simp only at t0 t1 t2 t3 C
  have q0 : ∀ q : Cl w.heap.size w, q.u.cell? ⟨b1, 0, none⟩ = some (.slice (some ⟨g, 0, none⟩) n cap) := fun q => q.cell lt1 hb1.cell
  have q1 : ∀ q : Cl w.heap.size w, q.u.cell? ⟨b2, 0, none⟩ = some (.string k.t) := fun q => q.cell lt2 (hb2.cell 0 rfl)
  have q2 : ∀ q : Cl w.heap.size w, q.u.cell? ⟨b2, 1, none⟩ = some (.string k.p) := fun q => q.cell lt2 (hb2.cell 1 rfl)
  have q3 : ∀ q : Cl w.heap.size w, q.u.cell? ⟨b2, 2, none⟩ = some (.int .i64 k.r) := fun q => q.cell lt2 (hb2.cell 2 rfl)
  have q4 : ∀ q : Cl w.heap.size w, q.u.cell? ⟨b2, 3, none⟩ = some (.string k.c) := fun q => q.cell lt2 (hb2.cell 3 rfl)
  have p0 : ∀ q : Cl w.heap.size w, q.u.cell? ⟨g, m * 10, none⟩ = some (.string ct) := fun q => q.cell lt3 t0
  have p1 : ∀ q : Cl w.heap.size w, q.u.cell? ⟨g, m * 10 + 1, none⟩ = some (.string cp) := fun q => q.cell lt3 t1
  have p2 : ∀ q : Cl w.heap.size w, q.u.cell? ⟨g, m * 10 + 2, none⟩ = some (.int .i64 cr) := fun q => q.cell lt3 t2
  have p3 : ∀ q : Cl w.heap.size w, q.u.cell? ⟨g, m * 10 + 3, none⟩ = some (.string ck) := fun q => q.cell lt3 t3
  haveI := Cl.inh w.heap.size w
  clear t0 t1 t2 t3 hx hc hb1 hb2 eo hm
  generalize kc _ _ = K at *
  go_enter Tryz.func53, Tryz.ntmps53
  go_wp2_with fail
  refine wp_region_sched (fun w' => ∃ p : Cl w.heap.size w, w' = p.u) [(0, true), (1, true), (2, true), (3, true), (4, true), (5, true), (6, true), (7, false), (8, true), (9, true)] rfl (by kernel_rfl) (by kernel_rfl) (by kernel_rfl) ⟨⟨_, (Below.refl _ _).drew⟩, rfl⟩ ?_
  iterate 7 (refine sched_pure rfl (fun K hK => ?_); go_simp; refine hK _ ?_; clear hK K)
  refine sched_loud rfl (fun K hK => ?_)
  go_simp
  refine (C.out _).mono ?_
  rintro e u1 ⟨rfl, hbu⟩
  have hbu2 : Below w.heap.size w u1 := (Below.refl _ _).drew.trans hbu
  refine hK _ _ ⟨⟨u1, hbu2⟩, rfl⟩ ?_
  clear hK
  iterate 2 (refine sched_pure rfl (fun K hK => ?_); go_simp; refine hK _ ?_; clear hK)
  refine sched_nil ?_
  go_wp2_with fail
  go_ret
  exact ⟨rfl, hbu2⟩
end Go.Proofs.YtmkaehnfgdlhdaaGreatDoor
namespace Go.Proofs.YtmkaehnfgdlhdaaGreatDoor
open Go.RowKit

attribute [local go_sem] Oper.pureAt Oper.pureUpon
/-- The first a keys are less than k, the others are not. -/
structure CutAt (l : List Cx) (k : Kb) (a : Nat) : Prop where
  le : a ≤ l.length
  lo : ∀ j c, j < a → l[j]? = some c → kc c.k.ky k.ky < 0
  hi : ∀ j c, a ≤ j → l[j]? = some c → 0 ≤ kc c.k.ky k.ky
theorem srt_lt {l : List Cx} (h : Rising l) {i j : Nat} {x y : Cx} (hij : i < j) (hx : l[i]? = some x) (hy : l[j]? = some y) : kc x.k.ky y.k.ky < 0 := by
  have h1 := (List.getElem?_eq_some_iff.1 hx)
  have h2 := (List.getElem?_eq_some_iff.1 hy)
  obtain ⟨l1, rfl⟩ := h1
  obtain ⟨l2, rfl⟩ := h2
  exact List.pairwise_iff_getElem.1 h i j l1 l2 hij
theorem rising_of {l : List Cx} (h : srtB l = true) : Rising l := by
  have h1 : Rise l l.length := @of_decide_eq_true _ (Classical.propDecidable _) h
  refine List.pairwise_iff_getElem.2 fun i j hi hj hij => ?_
  have H : ∀ d i, (hd : i + d + 1 < l.length) → kx (l[i]'(by omega)) l[i + d + 1] < 0 := by
    intro d
    induction d with
    | zero => intro i hd; exact h1 i _ _ (by omega) (List.getElem?_eq_getElem (by omega)) (List.getElem?_eq_getElem (by omega))
    | succ d ih => intro i hd; exact kx_strict (ih i (by omega)) (h1 (i + d + 1) _ _ (by omega) (List.getElem?_eq_getElem (by omega)) (List.getElem?_eq_getElem (by omega)))
  have := H (j - i - 1) i (by omega)
  have e : i + (j - i - 1) + 1 = j := by omega
  simpa only [e] using this
theorem TAt.rising {w : World} {T : Nat} {l : List Cx} (h : TAt w T l) : Rising l := by
  have := h.ok
  unfold wrtB at this
  simp only [Bool.and_eq_true] at this
  exact rising_of this.2.1
theorem kc_mix {x y : Cx} {k : Kb} (h1 : kc x.k.ky y.k.ky < 0) (h2 : kc y.k.ky k.ky ≤ 0) : kc x.k.ky k.ky < 0 := by
  rcases (show kc y.k.ky k.ky < 0 ∨ kc y.k.ky k.ky = 0 by omega) with h | h
  · exact kc_cmpr.strict h1 h
  · have e := (kc_cmpr.z _ _).1 h
    rw [← e]; exact h1
set_option maxRecDepth 100000 in
set_option maxHeartbeats 2000000 in
theorem from_any {w : World} {T : Nat} {l : List Cx} (h : TAt w T l) (k : Kb) :
    Calls Tryz.prog 31 #[.pointer (some ⟨T, 0, none⟩), k.v] w fun e w' => ∃ a g o c, e = .returned (.slice (some ⟨g, o, none⟩) (l.length - a) c) ∧ CutAt l k a ∧ XSees w' (some ⟨g, o, none⟩) (l.drop a) ∧ l.length - a ≤ c ∧ g < w.heap.size ∧ Below w.heap.size w w' := by
  have hR := h.rising
  have hpos := h.pos
  have hl9 := h.wrt.len
  obtain ⟨fm, g, cap, hB, hx, hcap, hctop, hgl, -⟩ := h.cells
  obtain ⟨w0, hw0⟩ : ∃ w0, w0 = w.alloc (.cells #[.string k.t, .string k.p, .int .i64 k.r, .string k.c] 24) := ⟨_, rfl⟩
  have hb0 : Below w.heap.size w w0 := by rw [hw0]; exact (Below.refl _ _).alloc (Nat.le_refl _) _
  have hK0 : Blk w0 w.heap.size [.string k.t, .string k.p, .int .i64 k.r, .string k.c] 24 := by rw [hw0]; exact Blk.new w _ _
  have SO : Hid (Calls Tryz.prog 32 #[.pointer (some ⟨T, 0, none⟩)] w0 fun e w' => e = .returned (.slice (some ⟨g, 0, none⟩) l.length cap) ∧ w' = w0) := sorted_at (hB.carry (hb0.block _ hB.lt))
  have s0 : w0.heap.size = w.heap.size + 1 := by rw [hw0]; simp
  obtain ⟨w1, hw1⟩ : ∃ w1, w1 = w0.alloc (.cells #[.slice (some ⟨g, 0, none⟩) l.length cap] 22) := ⟨_, rfl⟩
  have hb1 : Below w0.heap.size w0 w1 := by rw [hw1]; exact (Below.refl _ _).alloc (Nat.le_refl _) _
  have hC1 : Boxed w1 w0.heap.size 22 (.slice (some ⟨g, 0, none⟩) l.length cap) := by rw [hw1]; exact Boxed.new w0 _ _
  have hK1 : Blk w1 w.heap.size [.string k.t, .string k.p, .int .i64 k.r, .string k.c] 24 := hK0.carry (hb1.block _ hK0.lt)
  have hb01 : Below w.heap.size w w1 := hb0.trans (hb1.mono hb0.size)
  have hT1 : TAt w1 T l := (h.below hb0).below hb1
  have BK : Hid (Calls Tryz.prog 15 #[.pointer (some ⟨T, 0, none⟩)] w1 fun e w' => e = .returned (.int .i64 (nBk l.length : Int)) ∧ w' = w1) := blocks_at hT1
  have hx1 : XSees w1 (some ⟨g, 0, none⟩) l := hx.below hb01 (Nat.le_refl _)
  have hnb : nBk l.length ≤ 1125 := by unfold nBk; omega
  have hat : ∀ i, i < nBk l.length → ∃ c, l[8 * i]? = some c := fun i hi => ⟨_, List.getElem?_eq_getElem (by unfold nBk at hi; omega)⟩
  have SE : Hid (Calls Tryz.prog 52 #[.int .i64 (nBk l.length : Int), .func (.func 53) #[] #[.pointer (some ⟨w0.heap.size, 0, none⟩), .pointer (some ⟨w.heap.size, 0, none⟩)]] w1 fun e w' => ∃ q : Nat, e = .returned (.int .i64 (q : Int)) ∧ q ≤ nBk l.length ∧ (∀ j c, j < 8 * (q - 1) → l[j]? = some c → kc c.k.ky k.ky < 0) ∧ Below w1.heap.size w1 w') := by
    refine (search_any (nBk l.length) (by omega) (fun i => match l[8 * i]? with | some c => decide (0 < kc c.k.ky k.ky) | none => true) _ w1 ?_).mono ?_
    · intro u i hu hi
      obtain ⟨c, hc⟩ := hat i hi
      simp only [hc]
      exact from1_any i w0.heap.size w.heap.size g l.length cap l k u ((hu.block _ hC1.lt).trans hC1) (hK1.carry (hu.block _ hK1.lt)) (hx1.below hu (Nat.le_refl _)) rfl (by unfold nBk at hi; omega) hl9 c hc
    · rintro e w' ⟨q, rfl, hq, hlo, -, hbq⟩
      refine ⟨q, rfl, hq, fun j c hj hcj => ?_, hbq⟩
      have hq0 : 0 < q := by omega
      obtain ⟨d, hd⟩ := hat (q - 1) (by omega)
      have h2 := hlo hq0
      simp only [hd, decide_eq_false_iff_not] at h2
      exact kc_mix (srt_lt hR hj hcj hd) (by omega)
  have HX : Hid (∀ u, Below w1.heap.size w1 u → XSees u (some ⟨g, 0, none⟩) l ∧ Boxed u w0.heap.size 22 (.slice (some ⟨g, 0, none⟩) l.length cap) ∧ Blk u w.heap.size [.string k.t, .string k.p, .int .i64 k.r, .string k.c] 24) := fun u hu => ⟨hx1.below hu (Nat.le_refl _), (hu.block _ hC1.lt).trans hC1, hK1.carry (hu.block _ hK1.lt)⟩
  have hR2 : Hid (Rising l) := hR
  clear hx hx1 hC1 hK1 hK0 hT1 hB h hat hR
  have HS0 : Hid (w0.heap.size = w.heap.size + 1) := s0
  clear s0
  obtain ⟨kt, kp, kr, kcc⟩ := k
  simp only [Kb.v] at hw0 HX ⊢
  go_enter Tryz.func31, Tryz.ntmps31
  go_wp2_with fail
  rw [← hw0]
  go_fit SO.out
  rintro e u0 ⟨rfl, he0⟩
  have he1 : w0 = u0 := he0.symm
  subst he1
  clear he0 SO hw0
  go_wp2_with fail
  rw [← hw1]
  clear hw1
  go_fit BK.out
  rintro e u1 ⟨rfl, he0⟩
  have he1 : w1 = u1 := he0.symm
  subst he1
  clear he0 BK
  go_wp2_with fail
  go_fit SE.out
  rintro e w2 ⟨q, rfl, hq, hlo, hb2⟩
  clear SE
  have HLO : Hid (∀ j c, j < 8 * (q - 1) → l[j]? = some c → kc c.k.ky (Kb.ky ⟨kt, kp, kr, kcc⟩) < 0) := hlo
  clear hlo
  have hmax : max ((q : Int) - 1) 0 * 8 = ((8 * (q - 1) : Nat) : Int) := by omega
  have hqz : (q : Int) ≤ 1125 := by omega
  have hq8 : 8 * (q - 1) ≤ l.length := by unfold nBk at hq; omega
  go_wp2_with fail
  go_loopw [7] (fun s wr => ∃ a : Nat, s = .int .i64 (a : Int) ∧ a ≤ l.length ∧ (∀ j c, j < a → l[j]? = some c → kc c.k.ky (Kb.ky ⟨kt, kp, kr, kcc⟩) < 0) ∧ Below w1.heap.size w1 wr) (fun s _ => l.length - (intOf s).toNat)
  case atStart => exact ⟨8 * (q - 1), by first | rfl | (congr 1; omega), hq8, HLO.out, hb2⟩
  case round =>
    obtain ⟨a, rfl, hal, hlow, hbr⟩ := hrel
    obtain ⟨hxr, hCr, hKr⟩ := HX.out wr hbr
    have HLW : Hid (∀ j c, j < a → l[j]? = some c → kc c.k.ky (Kb.ky ⟨kt, kp, kr, kcc⟩) < 0) := hlow
    have lt1 := hCr.lt
    have lt2 := hKr.lt
    have q0 : ∀ q : Cl wr.heap.size wr, q.u.cell? ⟨w0.heap.size, 0, none⟩ = some (.slice (some ⟨g, 0, none⟩) l.length cap) := fun q => q.cell lt1 hCr.cell
    have q1 : ∀ q : Cl wr.heap.size wr, q.u.cell? ⟨w.heap.size, 0, none⟩ = some (.string kt) := fun q => q.cell lt2 (hKr.cell 0 rfl)
    have q2 : ∀ q : Cl wr.heap.size wr, q.u.cell? ⟨w.heap.size, 1, none⟩ = some (.string kp) := fun q => q.cell lt2 (hKr.cell 1 rfl)
    have q3 : ∀ q : Cl wr.heap.size wr, q.u.cell? ⟨w.heap.size, 2, none⟩ = some (.int .i64 kr) := fun q => q.cell lt2 (hKr.cell 2 rfl)
    have q4 : ∀ q : Cl wr.heap.size wr, q.u.cell? ⟨w.heap.size, 3, none⟩ = some (.string kcc) := fun q => q.cell lt2 (hKr.cell 3 rfl)
    haveI := Cl.inh wr.heap.size wr
    have HEND : Hid (∀ u, Below wr.heap.size wr u → CutAt l ⟨kt, kp, kr, kcc⟩ a → XSees u (some ⟨g, 0, none⟩) l ∧ Boxed u w0.heap.size 22 (.slice (some ⟨g, 0, none⟩) l.length cap) ∧ Below w.heap.size w u) := fun u hu _ => ⟨hxr.below hu (Nat.le_refl _), (hu.block _ hCr.lt).trans hCr, hb01.trans ((hbr.trans (hu.mono hbr.size)).mono hb01.size)⟩
    have hbu : ∀ u, Below wr.heap.size wr u → Below w1.heap.size w1 u := fun u hu => hbr.trans (hu.mono hbr.size)
    have HBU : Hid (∀ u, Below wr.heap.size wr u → Below w1.heap.size w1 u) := hbu
    clear hlow hbu
    by_cases hlt : a < l.length
    · have hc : l[a]? = some l[a] := List.getElem?_eq_getElem hlt
      have hin := List.getElem_mem hlt
      obtain ⟨b', o', e, tt⟩ := hxr a _ hc
      cases e
      have CM : Hid (∀ u : World, Calls Tryz.prog 45 #[l[a].k.v, .agg #[.string kt, .string kp, .int .i64 kr, .string kcc]] u fun e w' => e = .returned (.int .i64 (kc l[a].k.ky (Kb.ky ⟨kt, kp, kr, kcc⟩))) ∧ Below u.heap.size u w') := fun u => cmp_any l[a].k ⟨kt, kp, kr, kcc⟩ u
      have HNX : Hid (kc l[a].k.ky (Kb.ky ⟨kt, kp, kr, kcc⟩) < 0 → ∀ j c, j < a + 1 → l[j]? = some c → kc c.k.ky (Kb.ky ⟨kt, kp, kr, kcc⟩) < 0) := fun h1 j c hj hcj => by
        rcases Nat.lt_or_ge j a with h2 | h2
        · exact HLW.out j c h2 hcj
        · obtain rfl : j = a := by omega
          rw [hc] at hcj; obtain rfl := Option.some.inj hcj; exact h1
      have HCU : Hid (¬ kc l[a].k.ky (Kb.ky ⟨kt, kp, kr, kcc⟩) < 0 → CutAt l ⟨kt, kp, kr, kcc⟩ a) := fun h1 => ⟨hal, HLW.out, fun j c hj hcj => by
        rcases Nat.lt_or_ge a j with h2 | h2
        · have h3 := srt_lt hR2.out h2 hc hcj
          have h4 : ¬ kc c.k.ky (Kb.ky ⟨kt, kp, kr, kcc⟩) < 0 := fun h5 => h1 (kc_cmpr.strict h3 h5)
          omega
        · obtain rfl : j = a := by omega
          rw [hc] at hcj; obtain rfl := Option.some.inj hcj; omega⟩
      have eo : 0 + a * 10 = a * 10 := by omega
      rw [eo] at tt
      have lt3 := tt.lt
      generalize l[a] = c at *
      obtain ⟨⟨ct, cp, cr, ck⟩, cv⟩ := c
      obtain ⟨t0, t1, t2, t3, -, -, -, -, -, -⟩ := tt
      simp only [Kb.v] at t0 t1 t2 t3 CM
      have p0 : ∀ q : Cl wr.heap.size wr, q.u.cell? ⟨g, a * 10, none⟩ = some (.string ct) := fun q => q.cell lt3 t0
      have p1 : ∀ q : Cl wr.heap.size wr, q.u.cell? ⟨g, a * 10 + 1, none⟩ = some (.string cp) := fun q => q.cell lt3 t1
      have p2 : ∀ q : Cl wr.heap.size wr, q.u.cell? ⟨g, a * 10 + 2, none⟩ = some (.int .i64 cr) := fun q => q.cell lt3 t2
      have p3 : ∀ q : Cl wr.heap.size wr, q.u.cell? ⟨g, a * 10 + 3, none⟩ = some (.string ck) := fun q => q.cell lt3 t3
      have hltz : (a : Int) < (l.length : Int) := by omega
      generalize kc _ _ = KK at *
      clear t0 t1 t2 t3 hxr hCr hKr hc hin eo
      go_wp2_with fail
      refine wp_region_sched (fun w' => ∃ p : Cl wr.heap.size wr, w' = p.u) [(0, true), (1, true), (2, true), (3, true), (4, true), (5, true), (6, true), (7, true), (8, true), (9, true), (10, true), (11, false), (12, true), (13, true)] rfl (by kernel_rfl) (by kernel_rfl) (by kernel_rfl) ⟨⟨_, (Below.refl _ _).drew⟩, rfl⟩ ?_
      iterate 11 (refine sched_pure rfl (fun K hK => ?_); go_simp; refine hK _ ?_; clear hK K)
      refine sched_loud rfl (fun K hK => ?_)
      go_simp
      refine (CM.out _).mono ?_
      rintro e u2 ⟨rfl, hbu0⟩
      have hbu2 : Below wr.heap.size wr u2 := (Below.refl _ _).drew.trans hbu0
      refine hK _ _ ⟨⟨u2, hbu2⟩, rfl⟩ ?_
      clear hK K hbu0
      iterate 2 (refine sched_pure rfl (fun K hK => ?_); go_simp; refine hK _ ?_; clear hK K)
      refine sched_nil ?_
      clear q0 q1 q2 q3 q4 p0 p1 p2 p3
      by_cases hneg : KK < 0
      · go_wp2_with fail
        go_roundw
        case rel => exact ⟨a + 1, by simp, by omega, HNX.out hneg, HBU.out _ hbu2⟩
        case measure => simp [intOf]; omega
      · obtain ⟨hx2, hC2, hb3⟩ := HEND.out u2 hbu2 (HCU.out (by omega))
        have z0 := hC2.cell
        have haz : (a : Int) ≤ (l.length : Int) := by omega
        have hCU := HCU.out (by omega)
        have HX2 : Hid (XSees u2 (some ⟨g, a * 10, none⟩) (l.drop a)) := fun i x hi => by
          rw [List.getElem?_drop] at hi
          obtain ⟨b, of, e, t⟩ := hx2 (a + i) x hi
          cases e
          refine ⟨g, a * 10, rfl, ?_⟩
          have e2 : 0 + (a + i) * 10 = a * 10 + i * 10 := by omega
          rwa [e2] at t
        have hac : ¬ cap = a := by omega
        clear hx2 hC2 HEND HCU HNX CM
        go_wp2_with fail
        go_ret
        exact ⟨a, g, a * 10, cap - a, rfl, hCU, HX2.out, by omega, hgl, hb3⟩
    · have hae : a = l.length := by omega
      have hCU : CutAt l ⟨kt, kp, kr, kcc⟩ a := ⟨hal, HLW.out, fun j c hj hcj => by have := (List.getElem?_eq_some_iff.1 hcj).1; omega⟩
      obtain ⟨hx2, hC2, hb3⟩ := HEND.out wr.drew (Below.refl _ _).drew hCU
      have z0 := hC2.cell
      have hnl : ¬ ((a : Int) < (l.length : Int)) := by omega
      have d0 : decide ((a : Int) < (l.length : Int)) = false := decide_eq_false hnl
      have haz : (a : Int) ≤ (l.length : Int) := by omega
      have hcz : (a : Int) ≤ (cap : Int) := by omega
      have HAE : Hid (a = l.length) := hae
      have HXN : Hid (∀ o : Nat, XSees wr.drew (some ⟨g, o, none⟩) (l.drop a)) := fun o i x hi => by
        rw [List.getElem?_drop] at hi
        have := (List.getElem?_eq_some_iff.1 hi).1
        omega
      clear hx2 hC2 HEND hxr hCr hKr hae
      by_cases hac : cap = a
      · subst hac
        go_wp2_with fail
        refine wp_region_sched (fun w' => ∃ p : Cl wr.heap.size wr, w' = p.u) [(0, true), (1, true), (2, true), (3, true), (4, true), (5, true), (6, true), (7, true), (8, true), (9, true), (10, true), (11, false), (12, true), (13, true)] rfl (by kernel_rfl) (by kernel_rfl) (by kernel_rfl) ⟨⟨_, (Below.refl _ _).drew⟩, rfl⟩ ?_
        iterate 11 (refine sched_pure rfl (fun K hK => ?_); go_simp; refine hK _ ?_; clear hK K)
        refine sched_loud rfl (fun K hK => ?_)
        go_simp
        refine hK _ _ ⟨⟨_, (Below.refl _ _).drew⟩, rfl⟩ ?_
        clear hK K
        iterate 2 (refine sched_pure rfl (fun K hK => ?_); go_simp; refine hK _ ?_; clear hK K)
        refine sched_nil ?_
        go_wp2_with fail
        go_ret
        refine ⟨cap, g, 0, 0, ?_, hCU, HXN.out 0, by have := HAE.out; omega, hgl, hb3⟩
        have hll := HAE.out
        have hz : l.length - cap = 0 := by omega
        rw [hz]
        simp
      · go_wp2_with fail
        refine wp_region_sched (fun w' => ∃ p : Cl wr.heap.size wr, w' = p.u) [(0, true), (1, true), (2, true), (3, true), (4, true), (5, true), (6, true), (7, true), (8, true), (9, true), (10, true), (11, false), (12, true), (13, true)] rfl (by kernel_rfl) (by kernel_rfl) (by kernel_rfl) ⟨⟨_, (Below.refl _ _).drew⟩, rfl⟩ ?_
        iterate 11 (refine sched_pure rfl (fun K hK => ?_); go_simp; refine hK _ ?_; clear hK K)
        refine sched_loud rfl (fun K hK => ?_)
        go_simp
        refine hK _ _ ⟨⟨_, (Below.refl _ _).drew⟩, rfl⟩ ?_
        clear hK K
        iterate 2 (refine sched_pure rfl (fun K hK => ?_); go_simp; refine hK _ ?_; clear hK K)
        refine sched_nil ?_
        go_wp2_with fail
        go_ret
        exact ⟨a, g, a * 10, cap - a, rfl, hCU, HXN.out _, by omega, hgl, hb3⟩
end Go.Proofs.YtmkaehnfgdlhdaaGreatDoor
namespace Go.Proofs.YtmkaehnfgdlhdaaGreatDoor
open Go.RowKit

attribute [local go_sem] Oper.pureAt Oper.pureUpon
set_option maxRecDepth 100000 in
set_option maxHeartbeats 2000000 in
theorem scanT_any {w : World} {T : Nat} {l : List Cx} (h : TAt w T l) (k1 k2 : Kb) :
    Calls Tryz.prog 11 #[.pointer (some ⟨T, 0, none⟩), k1.v, k2.v] w fun e w' => ∃ a1 a2 v, e = .returned v ∧ CutAt l k1 a1 ∧ CutAt l k2 a2 ∧ w'.ownsRow w.heap.size 34 10 v (a2 - a1) (((l.drop a1).take (a2 - a1)).flatMap xs10) ∧ Below w.heap.size w w' := by
  have hl9 := h.wrt.len
  obtain ⟨w0, hw0⟩ : ∃ w0, w0 = w.alloc (.cells #[.string k1.t, .string k1.p, .int .i64 k1.r, .string k1.c] 24) := ⟨_, rfl⟩
  have hb0 : Below w.heap.size w w0 := by rw [hw0]; exact (Below.refl _ _).alloc (Nat.le_refl _) _
  have hK0 : Blk w0 w.heap.size [.string k1.t, .string k1.p, .int .i64 k1.r, .string k1.c] 24 := by rw [hw0]; exact Blk.new w _ _
  have s0 : w0.heap.size = w.heap.size + 1 := by rw [hw0]; simp
  obtain ⟨w1, hw1⟩ : ∃ w1, w1 = w0.alloc (.cells #[.string k2.t, .string k2.p, .int .i64 k2.r, .string k2.c] 24) := ⟨_, rfl⟩
  have hb1 : Below w0.heap.size w0 w1 := by rw [hw1]; exact (Below.refl _ _).alloc (Nat.le_refl _) _
  have hJ1 : Blk w1 (w.heap.size + 1) [.string k2.t, .string k2.p, .int .i64 k2.r, .string k2.c] 24 := by rw [hw1, ← s0]; exact Blk.new w0 _ _
  have hK1 : Blk w1 w.heap.size [.string k1.t, .string k1.p, .int .i64 k1.r, .string k1.c] 24 := hK0.carry (hb1.block _ hK0.lt)
  have hb01 : Below w.heap.size w w1 := hb0.trans (hb1.mono hb0.size)
  have HT1 : Hid (∀ u, Below w1.heap.size w1 u → TAt u T l) := fun u hu => ((h.below hb0).below hb1).below hu
  have F1 : Hid (∀ u, Below w1.heap.size w1 u → Calls Tryz.prog 31 #[.pointer (some ⟨T, 0, none⟩), k1.v] u fun e w' => ∃ a g o c, e = .returned (.slice (some ⟨g, o, none⟩) (l.length - a) c) ∧ CutAt l k1 a ∧ XSees w' (some ⟨g, o, none⟩) (l.drop a) ∧ l.length - a ≤ c ∧ g < u.heap.size ∧ Below u.heap.size u w') := fun u hu => from_any (HT1.out u hu) k1
  have F2 : Hid (∀ u, Below w1.heap.size w1 u → Calls Tryz.prog 31 #[.pointer (some ⟨T, 0, none⟩), k2.v] u fun e w' => ∃ a g o c, e = .returned (.slice (some ⟨g, o, none⟩) (l.length - a) c) ∧ CutAt l k2 a ∧ XSees w' (some ⟨g, o, none⟩) (l.drop a) ∧ l.length - a ≤ c ∧ g < u.heap.size ∧ Below u.heap.size u w') := fun u hu => from_any (HT1.out u hu) k2
  have lt1 := hK1.lt
  have lt2 := hJ1.lt
  have p0 : ∀ q : Cl w1.heap.size w1, q.u.cell? ⟨w.heap.size, 0, none⟩ = some (.string k1.t) := fun q => q.cell lt1 (hK1.cell 0 rfl)
  have p1 : ∀ q : Cl w1.heap.size w1, q.u.cell? ⟨w.heap.size, 1, none⟩ = some (.string k1.p) := fun q => q.cell lt1 (hK1.cell 1 rfl)
  have p2 : ∀ q : Cl w1.heap.size w1, q.u.cell? ⟨w.heap.size, 2, none⟩ = some (.int .i64 k1.r) := fun q => q.cell lt1 (hK1.cell 2 rfl)
  have p3 : ∀ q : Cl w1.heap.size w1, q.u.cell? ⟨w.heap.size, 3, none⟩ = some (.string k1.c) := fun q => q.cell lt1 (hK1.cell 3 rfl)
  have q0 : ∀ q : Cl w1.heap.size w1, q.u.cell? ⟨w.heap.size + 1, 0, none⟩ = some (.string k2.t) := fun q => q.cell lt2 (hJ1.cell 0 rfl)
  have q1 : ∀ q : Cl w1.heap.size w1, q.u.cell? ⟨w.heap.size + 1, 1, none⟩ = some (.string k2.p) := fun q => q.cell lt2 (hJ1.cell 1 rfl)
  have q2 : ∀ q : Cl w1.heap.size w1, q.u.cell? ⟨w.heap.size + 1, 2, none⟩ = some (.int .i64 k2.r) := fun q => q.cell lt2 (hJ1.cell 2 rfl)
  have q3 : ∀ q : Cl w1.heap.size w1, q.u.cell? ⟨w.heap.size + 1, 3, none⟩ = some (.string k2.c) := fun q => q.cell lt2 (hJ1.cell 3 rfl)
  clear hK0 hK1 hJ1 h s0 lt1 lt2 HT1
  obtain ⟨t1, c1, r1, e1⟩ := k1
  obtain ⟨t2, c2, r2, e2⟩ := k2
  simp only [Kb.v] at hw0 hw1 F1 F2 p0 p1 p2 p3 q0 q1 q2 q3 ⊢
  haveI := Cl.inh w1.heap.size w1
  go_enter Tryz.func11, Tryz.ntmps11
  go_wp2_with fail
  rw [← hw0, ← hw1]
  clear hw0 hw1
  refine wp_region_sched (fun w' => ∃ p : Cl w1.heap.size w1, w' = p.u) [(0, true), (1, true), (3, true), (4, true), (2, false), (5, false), (6, true), (7, true)] rfl (by kernel_rfl) (by kernel_rfl) (by kernel_rfl) ⟨⟨_, (Below.refl _ _).drew⟩, rfl⟩ ?_
  iterate 4 (refine sched_pure rfl (fun K hK => ?_); go_simp; refine hK _ ?_; clear hK K)
  refine sched_loud rfl (fun K hK => ?_)
  go_simp
  refine (F1.out _ (Below.refl _ _).drew).mono ?_
  rintro e u1 ⟨a1, g1, o1, d1, rfl, hc1, x1, hd1, -, y1⟩
  have z1 : Below w1.heap.size w1 u1 := (Below.refl _ w1).drew.trans y1
  refine hK _ _ ⟨⟨u1, z1⟩, rfl⟩ ?_
  clear hK K F1
  refine sched_loud rfl (fun K hK => ?_)
  go_simp
  refine (F2.out _ z1).mono ?_
  rintro e u2 ⟨a2, g2, o2, d2, rfl, hc2, x2, hd2, -, y2⟩
  have z2 : Below w1.heap.size w1 u2 := z1.trans (y2.mono z1.size)
  refine hK _ _ ⟨⟨u2, z2⟩, rfl⟩ ?_
  clear hK K F2
  iterate 2 (refine sched_pure rfl (fun K hK => ?_); go_simp; refine hK _ ?_; clear hK K)
  refine sched_nil ?_
  clear p0 p1 p2 p3 q0 q1 q2 q3
  have hle1 := hc1.le
  have hle2 := hc2.le
  have hlen : ((l.drop a1).take (a2 - a1)).length = a2 - a1 := by rw [List.length_take, List.length_drop]; omega
  have x3 : XSees u2 (some ⟨g1, o1, none⟩) ((l.drop a1).take (a2 - a1)) := fun i x hi => by
    have h1 : (l.drop a1)[i]? = some x := by
      rw [List.getElem?_take] at hi
      split at hi
      · exact hi
      · cases hi
    exact (x1.below y2 (Nat.le_refl _)) i x h1
  have CL : Hid (∀ d, Calls Tryz.prog 20 #[.slice (some ⟨g1, o1, none⟩) (a2 - a1) d] u2 fun e w' => ∃ v, e = .returned v ∧ w'.ownsRow u2.heap.size 34 10 v (a2 - a1) (((l.drop a1).take (a2 - a1)).flatMap xs10) ∧ Below u2.heap.size u2 w') := fun d => by
    have := cloneX_any (some ⟨g1, o1, none⟩) ((l.drop a1).take (a2 - a1)) d u2 x3 (by simp) (by omega)
    rw [hlen] at this
    exact this
  have hb2 : Below w.heap.size w u2 := hb01.trans (z2.mono hb01.size)
  have HC1 : Hid (CutAt l ⟨t1, c1, r1, e1⟩ a1) := hc1
  have HC2 : Hid (CutAt l ⟨t2, c2, r2, e2⟩ a2) := hc2
  obtain ⟨n1, hn1⟩ : ∃ n1, n1 = l.length - a1 := ⟨_, rfl⟩
  obtain ⟨n2, hn2⟩ : ∃ n2, n2 = l.length - a2 := ⟨_, rfl⟩
  obtain ⟨m, hm⟩ : ∃ m, m = a2 - a1 := ⟨_, rfl⟩
  have hmax : max ((n1 : Int) - (n2 : Int)) 0 = (m : Int) := by omega
  have hmn : m ≤ n1 := by omega
  have hmd : m ≤ d1 := by omega
  have hn19 : n1 ≤ 9000 := by omega
  have hn29 : n2 ≤ 9000 := by omega
  rw [← hn1] at hd1
  rw [← hm] at CL
  have HM : Hid (m = a2 - a1) := hm
  rw [← hn1, ← hn2]
  clear hn1 hn2 hm hc1 hc2 x1 x2 x3 hlen hle1 hle2
  go_wp2_with fail
  refine (CL.out _).mono ?_
  rintro e w2 ⟨v, rfl, ho, hb⟩
  clear CL
  go_wp2_with fail
  go_ret
  refine ⟨a1, a2, v, rfl, HC1.out, HC2.out, ?_, hb2.trans (hb.mono hb2.size)⟩
  rw [← HM.out]
  exact owns_monoB ho hb2.size
end Go.Proofs.YtmkaehnfgdlhdaaGreatDoor
namespace Go.Proofs.YtmkaehnfgdlhdaaGreatDoor
open Go.RowKit

theorem resX_row_tmp {P : Program} {fn : Func} {p u : Tmp} {ty : TypeId} (h : fn.results = #[.cell p ty, .tmp u]) (tmps : Array Value) (w : World) (g : Nat) (t : TypeId) (cs : Array Value) (fr : Nat × Nat) (d : TypeDesc) (v : Value)
    (hp : tmps.getD p undef = .pointer (some ⟨g, 0, none⟩)) (hv : tmps.getD u undef = v) (hg : w.heap[g]? = some (.cells cs t fr))
    (hu : P.underlying ty = some d) (hd : (match d with | .struct _ | .array _ _ => true | _ => false) = true) (hi : (P.info? ty).map (·.size) = some cs.size) :
    (results fn tmps).run P w = .ok (.tuple #[.agg cs, v]) w := by
  rw [results_cell_tmp h, hp, hv]
  simp [asAddr, run_loadVar_row w g t ty cs fr d hg hu hd hi, Result.andThen]
end Go.Proofs.YtmkaehnfgdlhdaaGreatDoor
namespace Go.Proofs.YtmkaehnfgdlhdaaGreatDoor
open Go.RowKit

attribute [local go_sem] Oper.pureAt Oper.pureUpon
theorem CutAt.ahead {l : List Cx} {k : Kb} {a : Nat} (h : CutAt l k a) : fnd k l = fnd k (l.drop a) := fnd_drop a h.le fun j c hj hc e => by
  have := h.lo j c hj hc
  rw [e] at this
  have h0 := (kc_cmpr.z k.ky k.ky).2 rfl
  omega
theorem CutAt.none {l : List Cx} {k : Kb} {a : Nat} (h : CutAt l k a) (ha : a = l.length) : fnd k l = (zeroV, false) := by
  rw [h.ahead, ha, List.drop_length]; rfl
theorem CutAt.hit {l : List Cx} {k : Kb} {a : Nat} (h : CutAt l k a) {c : Cx} (hc : l[a]? = some c) (hk : c.k = k) : fnd k l = (c.v, true) := by
  obtain ⟨hl, e⟩ := List.getElem?_eq_some_iff.1 hc
  rw [h.ahead, List.drop_eq_getElem_cons hl, e]
  exact fnd_hit _ hk
theorem fnd_nowhere {k : Kb} : ∀ {R : List Cx}, (∀ c ∈ R, c.k ≠ k) → fnd k R = (zeroV, false)
  | [], _ => rfl
  | c :: R, h => by rw [fnd_miss _ (h c (by simp))]; exact fnd_nowhere fun u hu => h u (by simp [hu])
theorem CutAt.miss {l : List Cx} (hR : Rising l) {k : Kb} {a : Nat} (h : CutAt l k a) {c : Cx} (hc : l[a]? = some c) (hk : c.k ≠ k) : fnd k l = (zeroV, false) := by
  rw [h.ahead]
  refine fnd_nowhere fun x hx e => ?_
  obtain ⟨i, hi, hxi⟩ := List.getElem_of_mem hx
  have hx2 : l[a + i]? = some x := by rw [← List.getElem?_drop, List.getElem?_eq_getElem hi, hxi]
  by_cases h0 : i = 0
  · subst h0
    rw [Nat.add_zero, hc] at hx2
    obtain rfl := Option.some.inj hx2
    exact hk e
  · have h1 := srt_lt hR (show a < a + i by omega) hc hx2
    have h2 := h.hi a c (Nat.le_refl _) hc
    rw [e] at h1
    omega
end Go.Proofs.YtmkaehnfgdlhdaaGreatDoor
namespace Go.Proofs.YtmkaehnfgdlhdaaGreatDoor
open Go.RowKit

attribute [local go_sem] Oper.pureAt Oper.pureUpon
end Go.Proofs.YtmkaehnfgdlhdaaGreatDoor
namespace Go.Proofs.YtmkaehnfgdlhdaaGreatDoor
open Go.RowKit

theorem wtXs_cons (c : Cx) (l : List Cx) : wtXs (c :: l) = wtX c + wtXs l := by unfold wtXs; rw [List.map_cons, List.sum_cons]
theorem wtXs_append (a b : List Cx) : wtXs (a ++ b) = wtXs a + wtXs b := by unfold wtXs; rw [List.map_append, List.sum_append]
theorem wtXs_addC (c : Cx) : ∀ O : List Cx, wtXs (addC O c) ≤ wtXs O + wtX c
  | [] => by rw [addC, wtXs_cons]; omega
  | x :: O => by
    have ih := wtXs_addC c O
    unfold addC
    split
    · rename_i hk
      rw [wtXs_cons, wtXs_cons]
      have h1 : wtX (jnC x c) ≤ wtX x + wtX c := by
        unfold jnC wtX
        rcases jn_or x.v c.v with e | e <;> rw [e] <;> simp only [] <;> omega
      omega
    · split
      · rw [wtXs_cons, wtXs_cons]; omega
      · rw [wtXs_cons, wtXs_cons]; omega
theorem wtXs_fold : ∀ (l O : List Cx), wtXs (l.foldl addC O) ≤ wtXs O + wtXs l
  | [], O => by rw [List.foldl_nil]; omega
  | c :: l, O => by
    have h1 := wtXs_fold l (addC O c)
    have h2 := wtXs_addC c O
    rw [List.foldl_cons, wtXs_cons]
    omega
theorem wtXs_nrm (l : List Cx) : wtXs (nrm l) ≤ wtXs l := by
  have := wtXs_fold l []
  unfold nrm
  have e : wtXs [] = 0 := rfl
  omega
theorem wtXs_goods : ∀ l : List Cx, wtXs (goods l) ≤ wtXs l
  | [] => Nat.le_refl _
  | c :: l => by
    have ih := wtXs_goods l
    unfold goods at *
    rw [List.filter_cons]
    split
    · rw [wtXs_cons, wtXs_cons]; omega
    · rw [wtXs_cons]; omega
theorem cxB_lenW (l : List Cx) : (cxB l).length ≤ 10 + (wtXs l + 81 * l.length) := by
  have h1 := wtYs_le l
  have h2 := manyL_leD (l.map toC)
  have h3 := (numL_length (l.map toC).length).2
  rw [wtL_toC, List.length_map] at h2
  unfold cxB cellsL
  rw [List.length_append]
  omega
theorem blksB_lenW (l : List Cx) : ∀ n : Nat, (blksB l (List.range n)).length ≤ 18 * n + (wtXs (l.take (8 * n)) + 81 * (l.take (8 * n)).length)
  | 0 => by simp [blksB]
  | n + 1 => by
    have ih := blksB_lenW l n
    have h1 : l.take (8 * (n + 1)) = l.take (8 * n) ++ chk l n := by
      unfold chk
      rw [show 8 * (n + 1) = 8 * n + 8 by omega, List.take_add]
    have h2 := cxB_lenW (chk l n)
    have h3 : (blksB l (List.range (n + 1))).length = (blksB l (List.range n)).length + (blkB l n).length := by
      unfold blksB
      rw [List.range_succ, List.flatMap_append, List.length_append, List.flatMap_cons, List.flatMap_nil, List.append_nil]
    have h4 : (blkB l n).length = (cxB (chk l n)).length + 8 := by unfold blkB; rw [frameL_len]
    rw [h1, wtXs_append, List.length_append]
    omega
theorem wtXs_take (l : List Cx) (n : Nat) : wtXs (l.take n) ≤ wtXs l := by
  have h := wtXs_append (l.take n) (l.drop n)
  rw [List.take_append_drop] at h
  omega
theorem encTb_lenW {l : List Cx} (h : Wrt l) : (encTb l).length ≤ 228 * nBk l.length + wtXs l + 81 * l.length + nOf l.length 10 + 200 := by
  have lB := blksB_lenW l (nBk l.length)
  have lI := idxB_len h.small (allK l)
  have lF := fltB_len l
  have lE := endC_len l
  have lT := wtXs_take l (8 * nBk l.length)
  have lU : (l.take (8 * nBk l.length)).length ≤ l.length := by rw [List.length_take]; omega
  have lA : allK l = List.range (nBk l.length) := rfl
  rw [allK_len] at lI
  rw [← lA] at lB
  unfold encTb headB
  simp only [List.length_append, frameL_len, List.length_cons, List.length_nil]
  omega
end Go.Proofs.YtmkaehnfgdlhdaaGreatDoor
namespace Go.Proofs.YtmkaehnfgdlhdaaGreatDoor
open Go.RowKit

theorem may_fold : ∀ (l : List Cx) (f : List UInt8) (k : BitVec 64 × BitVec 64), 0 < f.length → (mayK f k 7 = true ∨ ∃ c ∈ l, sumB (encK c.k.ky) 0#64 = k) → mayK (l.foldl (fun f c => addK f (sumB (encK c.k.ky) 0#64) 7) f) k 7 = true
  | [], f, k, _, h => by
    rcases h with h | ⟨c, hc, -⟩
    · exact h
    · cases hc
  | x :: l, f, k, hf, h => by
    rw [List.foldl_cons]
    refine may_fold l _ k (by rw [addK_length]; exact hf) ?_
    rcases h with h | ⟨c, hc, e⟩
    · exact .inl (may_more _ _ _ _ _ hf h)
    · rcases List.mem_cons.1 hc with rfl | hc
      · left; rw [← e]; exact may_add _ _ _ hf
      · exact .inr ⟨c, hc, e⟩
theorem filB_may {n : Nat} {l : List Cx} (hn : 0 < nOf n 10) {c : Cx} (hc : c ∈ l) : mayK (filB n l) (sumB (encK c.k.ky) 0#64) 7 = true := by
  unfold filB
  exact may_fold l _ _ (by rw [List.length_replicate]; exact hn) (.inr ⟨c, hc, rfl⟩)
theorem Wrt.big {l : List Cx} (h : Wrt l) {c : Cx} (hc : c ∈ l) : c.k.Big := by
  obtain ⟨a, b, d, -⟩ := h.small c hc
  have := h.num c hc
  exact ⟨by omega, by omega, by omega, this.1⟩
/-- Open of what was written. -/
theorem open_row {w : World} {g cap : Nat} {l : List Cx} (hR : Row9 w g (encTb l) cap) (h : Wrt l) (hw : wrtB l = true) (hl : (encTb l).length ≤ 60000) (ht : Tab w) (ue : TypeId) (pv : Value) (he : Err w ue pv) :
    Calls Tryz.prog 9 #[.slice (some ⟨g, 0, none⟩) (encTb l).length cap] w fun e w' => e = .returned (.tuple #[.pointer (some ⟨w.heap.size, 0, none⟩), .int .i64 0]) ∧ TAt w' w.heap.size l ∧ Below w.heap.size w w' := by
  have hcm : cap ≤ 9223372036854775807 ∧ (encTb l).length ≤ cap := by obtain ⟨cur, -, q1, q2, -⟩ := hR; unfold maxLen at q2; omega
  refine (open_any g 0 cap (encTb l) w hR.sees (encTb_pos l) hl hcm.2 hcm.1 hR.lt ht ue pv he).mono ?_
  rintro e w' ⟨h1, (⟨h2, -⟩ | ⟨l', rfl, h2, h3⟩)⟩
  · exact absurd rfl (h2 l h hw)
  · obtain rfl := encTb_inj h2.wrt h h3
    exact ⟨rfl, h2, h1⟩
end Go.Proofs.YtmkaehnfgdlhdaaGreatDoor
namespace Go.Proofs.YtmkaehnfgdlhdaaGreatDoor
open Go.RowKit

/-- The cells between two places. -/
def betw (l : List Cx) (a b : Nat) : List Cx := (l.drop a).take (b - a)
theorem betw_meet (l : List Cx) {a b c : Nat} (h1 : a ≤ b) (h2 : b ≤ c) : betw l a b ++ betw l b c = betw l a c := by
  unfold betw
  have e : c - a = (b - a) + (c - b) := by omega
  rw [e, List.take_add, List.drop_drop]
  congr 3
  omega
theorem CutAt.mono {l : List Cx} {k k' : Kb} {a a' : Nat} (h : CutAt l k a) (h' : CutAt l k' a') (hk : kc k.ky k'.ky ≤ 0) : a ≤ a' := by
  rcases Nat.lt_or_ge a' a with hlt | hge
  · exfalso
    have hl : a' < l.length := Nat.lt_of_lt_of_le hlt h.le
    have hc : l[a']? = some l[a'] := List.getElem?_eq_getElem hl
    have h1 := h.lo a' _ hlt hc
    have h2 := h'.hi a' _ (Nat.le_refl _) hc
    have h3 := kc_cmpr.t _ _ _ (Int.le_of_lt h1) hk
    have h4 : kc l[a'].k.ky k'.ky = 0 := by omega
    have h5 := (kc_cmpr.z _ _).1 h4
    rw [h5] at h1
    have h6 := kc_cmpr.n k'.ky k.ky
    omega
  · exact hge
theorem CutAt.one {l : List Cx} {k : Kb} {a a' : Nat} (h : CutAt l k a) (h' : CutAt l k a') : a = a' := by
  have e := (kc_cmpr.z k.ky k.ky).2 rfl
  have h1 := h.mono h' (by omega)
  have h2 := h'.mono h (by omega)
  omega
theorem cb_zs : ∀ (l : List UInt8) (m : Nat), (∀ b ∈ l, b.toNat ≤ 122) → l.length < m → cb l (List.replicate m 122) = -1
  | [], m + 1, _, _ => rfl
  | b :: r, m + 1, h, hl => by
    have ih := cb_zs r m (fun x hx => h x (by simp [hx])) (by simp at hl; omega)
    have hb := h b (by simp)
    unfold cb at *
    rw [List.replicate_succ]
    unfold Lib.compareBytes
    rcases Nat.lt_or_ge b.toNat 122 with h1 | h1
    · rw [if_pos (UInt8.lt_iff_toNat_lt.2 (by simpa using h1))]
    · have e : b = 122 := UInt8.toNat_inj.1 (by simp; omega)
      subst e
      simpa using ih
/-- The keys that the law scans all cells with. -/
def zeroK : Kb := ⟨⟨#[]⟩, ⟨#[]⟩, 0, ⟨#[]⟩⟩
def topK : Kb := ⟨⟨#[122, 122, 122, 122, 122, 122, 122, 122, 122, 122, 122, 122, 122, 122, 122, 122, 122, 122]⟩, ⟨#[]⟩, 0, ⟨#[]⟩⟩
theorem good_name {c : Cx} (h : goodC c = true) : nameB c.k.ky.t = true := by
  unfold goodC at h
  rw [Bool.and_eq_true] at h
  have h1 := h.1
  unfold goodK at h1
  simp only [Bool.and_eq_true] at h1
  exact h1.1.1.1
theorem good_top {c : Cx} (h : goodC c = true) : kc c.k.ky topK.ky < 0 := by
  have hn := good_name h
  unfold nameB at hn
  simp only [Bool.and_eq_true, decide_eq_true_eq, List.all_eq_true] at hn
  have e : topK.ky.t = List.replicate 18 122 := by rfl
  have h1 : cb c.k.ky.t topK.ky.t = -1 := by
    rw [e]
    refine cb_zs _ _ (fun b hb => ?_) (by omega)
    have h2 := hn.2 b hb
    unfold okC isL isD at h2
    simp only [Bool.or_eq_true, Bool.and_eq_true, decide_eq_true_eq, beq_iff_eq] at h2
    omega
  unfold kc
  rw [h1, th_of (by decide)]
  decide
theorem good_zero {c : Cx} (h : goodC c = true) : 0 ≤ kc c.k.ky zeroK.ky := by
  have hn := good_name h
  unfold nameB at hn
  simp only [Bool.and_eq_true, decide_eq_true_eq] at hn
  have h0 : 1 ≤ c.k.ky.t.length := hn.1.1.1
  have h1 : cb c.k.ky.t zeroK.ky.t = 1 := by
    have e : zeroK.ky.t = [] := by rfl
    rw [e]
    match hh : c.k.ky.t, h0 with
    | b :: r, _ => rfl
  unfold kc
  rw [h1, th_of (by decide)]
  decide
/-- A scan of all tells all. -/
theorem cut_all {l : List Cx} (h : Wrt l) {a b : Nat} (ha : CutAt l zeroK a) (hb : CutAt l topK b) : b - a = l.length := by
  have h1 : a = 0 := ha.one ⟨Nat.zero_le _, (fun j c hj => by omega), fun j c _ hc => good_zero (h.good c (List.mem_of_getElem? hc))⟩
  have h2 : b = l.length := hb.one ⟨Nat.le_refl _, (fun j c _ hc => good_top (h.good c (List.mem_of_getElem? hc))), fun j c hj hc => by have := (List.getElem?_eq_some_iff.1 hc).1; omega⟩
  omega
end Go.Proofs.YtmkaehnfgdlhdaaGreatDoor
namespace Go.Proofs.YtmkaehnfgdlhdaaGreatDoor
open Go.ChangeShapes Go.WideShapes Go.ChangeAt Go.RowKit Go.Deep

/-- An ask: its key, and a scan's ends. -/
def askV (k f u : Kb) : Value := .agg #[.string k.t, .string k.p, .int .i64 k.r, .string k.c, .string f.t, .string f.p, .int .i64 f.r, .string f.c, .string u.t, .string u.p, .int .i64 u.r, .string u.c]
set_option maxRecDepth 100000 in
theorem cellsAsk : Tryz.prog.cellsOf 26 = 12 := by kernel_rfl
set_option maxRecDepth 100000 in
theorem ask_came {H : Type} {enc : TypeId × Value → H} {W : World} {base : Nat} {v : Value} {d : DataW H} {p : List MemPlace} (hv : Value.okWide Tryz.prog W .any base 26 v)
    (h : DataW.Trod enc Tryz.prog W 0 (fun _ => true) true 26 v d p) : ∃ k f u : Kb, v = askV k f u ∧ (InI k.r ∧ InI f.r ∧ InI u.r) := by
  obtain ⟨cs, rfl, hsz⟩ := okWide_struct Tryz.underlying26 hv
  obtain ⟨fuel, hf⟩ := h
  have hl := hsz.trans cellsAsk
  obtain ⟨l⟩ := cs
  match l, hl with
  | [c0, c1, c2, c3, c4, c5, c6, c7, c8, c9, c10, c11], _ =>
    have hf' : DataW.trod enc Tryz.prog W 0 (fun _ => true) true fuel 26 [c0, c1, c2, c3, c4, c5, c6, c7, c8, c9, c10, c11] = some (d, p) := hf
    obtain ⟨y0, y1, y2, m, _, _, h0, h1, h2⟩ := trod_struct3 Tryz.underlying26 hf'
    simp only [cellsXK] at h0 h1 h2
    obtain ⟨k, ek, o1, _⟩ := kx_open (n := m) (c0 := c0) (c1 := c1) (c2 := c2) (c3 := c3) (x := y0) h0
    obtain ⟨f, ef, o2, _⟩ := kx_open (n := m) (c0 := c4) (c1 := c5) (c2 := c6) (c3 := c7) (x := y1) h1
    obtain ⟨u, eu, o3, _⟩ := kx_open (n := m) (c0 := c8) (c1 := c9) (c2 := c10) (c3 := c11) (x := y2) h2
    simp at ek ef eu
    obtain ⟨rfl, rfl, rfl, rfl⟩ := ek
    obtain ⟨rfl, rfl, rfl, rfl⟩ := ef
    obtain ⟨rfl, rfl, rfl, rfl⟩ := eu
    exact ⟨k, f, u, rfl, o1, o2, o3⟩
end Go.Proofs.YtmkaehnfgdlhdaaGreatDoor
namespace Go.Proofs.YtmkaehnfgdlhdaaGreatDoor
open Go.RowKit

end Go.Proofs.YtmkaehnfgdlhdaaGreatDoor
namespace Go.Proofs.YtmkaehnfgdlhdaaGreatDoor
open Go.RowKit

theorem fu3_a {x y z : Int} (h : x ≠ 0) : fu [x, y, z] = x := th_of h _
theorem fu3_b {y z : Int} (h : y ≠ 0) : fu [0, y, z] = y := by show th 0 (th y _) = _; rw [th_zero, th_of h]
theorem fu3_c {z : Int} : fu [0, 0, z] = z := by show th 0 (th 0 (th z 0)) = _; rw [th_zero, th_zero]; unfold th; split <;> omega
end Go.Proofs.YtmkaehnfgdlhdaaGreatDoor
namespace Go.Proofs.YtmkaehnfgdlhdaaGreatDoor
open Go.RowKit

theorem owBelow {w w' : World} {B : Nat} {e : TypeId} {k n : Nat} {v : Value} {xs : List Value} (h : w.ownsRow B e k v n xs) (hb : Below w.heap.size w w') : w'.ownsRow B e k v n xs :=
  h.kept (row := none) ⟨hb.os, hb.tape, hb.output, hb.size, fun k hk _ => hb.block k hk⟩ (by cases hv : v.ownBlock <;> simp)
theorem sees_one (w : World) (c : Cx) : XSees (w.alloc (.cells c.a 34)) (some ⟨w.heap.size, 0, none⟩) [c] := fun i x hx => by
  have hi : i = 0 := by have := (List.getElem?_eq_some_iff.1 hx).1; simp at this; exact this
  subst hi
  obtain rfl := Option.some.inj hx
  exact ⟨w.heap.size, 0, rfl, TenX.new w _ _⟩
/-- An append of one cell: what the row becomes. -/
theorem grew_one {w w1 w2 : World} {v v2 : Value} {O : List Cx} {c : Cx} {B : Nat} (hb : Below B w w1) (hB : B = w.heap.size) (ho : (w1.alloc (.cells c.a 34)).ownsRow B 34 10 v O.length (O.flatMap xs10)) (ho2 : w2.ownsRow B 34 10 v2 (O.length + 1) (O.flatMap xs10 ++ [c].flatMap xs10)) (hg : Grew (w1.alloc (.cells c.a 34)) w2 v v2) :
    w2.ownsRow B 34 10 v2 (O ++ [c]).length ((O ++ [c]).flatMap xs10) ∧ Below B w w2 := by
  subst hB
  refine ⟨by rw [List.flatMap_append, List.length_append]; exact ho2, ?_⟩
  have hb3 : Below w.heap.size w (w1.alloc (.cells c.a 34)) := hb.alloc hb.size _
  exact hb3.trans (hg.below hb3.size (fun g hg => (ho.lt g hg).1))
theorem addC_done : ∀ {A : List Cx} {c x : Cx}, (∃ y ∈ A, 0 ≤ kx y c) → addC (A ++ [x]) c = addC A c ++ [x]
  | [], _, _, h => by obtain ⟨y, hy, _⟩ := h; cases hy
  | a :: A, c, x, h => by
    by_cases h0 : kx a c = 0
    · rw [List.cons_append, addC_same _ h0, addC_same _ h0]; rfl
    · by_cases h1 : 0 < kx a c
      · rw [List.cons_append, addC_ahead _ h1, addC_ahead _ h1]; rfl
      · have h2 : ∃ y ∈ A, 0 ≤ kx y c := by
          obtain ⟨y, hy, hk⟩ := h
          rcases List.mem_cons.1 hy with rfl | hy
          · omega
          · exact ⟨y, hy, hk⟩
        rw [List.cons_append, addC_behind _ (by omega), addC_behind _ (by omega), addC_done h2]; rfl
theorem addC_last : ∀ {A : List Cx} {c : Cx}, (∀ y ∈ A, kx y c < 0) → ∀ R, addC (A ++ R) c = A ++ addC R c
  | [], _, _, _ => rfl
  | a :: A, c, h, R => by
    rw [List.cons_append, addC_behind _ (h a (by simp)), addC_last (fun y hy => h y (by simp [hy]))]; rfl
theorem addC_len : ∀ (A : List Cx) (c : Cx), (addC A c).length ≤ A.length + 1
  | [], _ => by simp [addC]
  | a :: A, c => by
    have := addC_len A c
    rw [addC]
    split
    · simp
    · split <;> simp <;> omega
/-- How far Add has come. -/
inductive AddAt (l : List Cx) (c : Cx) (i : Nat) (O : List Cx) : Bool → Prop
  | no (h : O = l.take i) (hk : ∀ y ∈ l.take i, kx y c < 0) : AddAt l c i O false
  | yes (h : O = addC (l.take i) c) (hk : ∃ y ∈ l.take i, 0 ≤ kx y c) : AddAt l c i O true
theorem AddAt.len {l : List Cx} {c : Cx} {i : Nat} {O : List Cx} {d : Bool} (h : AddAt l c i O d) : O.length ≤ i + 1 := by
  cases h with
  | no h _ => rw [h, List.length_take]; omega
  | yes h _ => rw [h]; have := addC_len (l.take i) c; rw [List.length_take] at this; omega
section
variable {l : List Cx} {c : Cx} {i : Nat} {O : List Cx} {x : Cx} {d : Bool}
theorem AddAt.less (h : AddAt l c i O d) (hr : Rising l) (hx : l[i]? = some x) (hk : kx x c < 0) : d = false ∧ AddAt l c (i + 1) (O ++ [x]) false := by
  cases h with
  | no h hh =>
    refine ⟨rfl, .no (by rw [h, takeX_succ hx]) fun y hy => ?_⟩
    rw [takeX_succ hx] at hy
    rcases List.mem_append.1 hy with hy | hy
    · exact hh y hy
    · obtain rfl : y = x := by simpa using hy
      exact hk
  | yes h hh =>
    obtain ⟨y, hy, hyc⟩ := hh
    have hr2 : Rising (l.take (i + 1)) := List.Pairwise.sublist (List.take_sublist _ _) hr
    rw [takeX_succ hx] at hr2
    have := (List.pairwise_append.1 hr2).2.2 y hy x (by simp)
    have := kx_strict this hk
    omega
theorem AddAt.same (h : AddAt l c i O d) (hr : Rising l) (hx : l[i]? = some x) (hk : kx x c = 0) : d = false ∧ AddAt l c (i + 1) (O ++ [jnC x c]) true := by
  cases h with
  | no h hh =>
    refine ⟨rfl, .yes ?_ ⟨x, by rw [takeX_succ hx]; simp, by omega⟩⟩
    rw [h, takeX_succ hx, addC_last hh, addC_same _ hk]
  | yes h hh =>
    obtain ⟨y, hy, hyc⟩ := hh
    have hr2 : Rising (l.take (i + 1)) := List.Pairwise.sublist (List.take_sublist _ _) hr
    rw [takeX_succ hx] at hr2
    have h1 := (List.pairwise_append.1 hr2).2.2 y hy x (by simp)
    have h2 : kx y c = kx y x := (kx_right ((kx_z x c).1 hk)).symm
    omega
theorem AddAt.ahead (h : AddAt l c i O false) (hx : l[i]? = some x) (hk : 0 < kx x c) : AddAt l c (i + 1) (O ++ [c] ++ [x]) true := by
  cases h with
  | no h hh =>
    refine .yes ?_ ⟨x, by rw [takeX_succ hx]; simp, by omega⟩
    rw [h, takeX_succ hx, addC_last hh, addC_ahead _ hk]; simp
theorem AddAt.behind (h : AddAt l c i O true) (hx : l[i]? = some x) : AddAt l c (i + 1) (O ++ [x]) true := by
  cases h with
  | yes h hh =>
    refine .yes (by rw [h, takeX_succ hx, addC_done hh]) ?_
    obtain ⟨y, hy, hyc⟩ := hh
    exact ⟨y, by rw [takeX_succ hx]; simp [hy], hyc⟩
theorem AddAt.endNo (h : AddAt l c i O false) (hi : l.length ≤ i) : addC l c = O ++ [c] := by
  cases h with
  | no h hh =>
    rw [List.take_of_length_le hi] at h hh
    have := addC_last hh []
    rw [List.append_nil] at this
    rw [this, h]; rfl
theorem AddAt.endYes (h : AddAt l c i O true) (hi : l.length ≤ i) : addC l c = O := by
  cases h with
  | yes h hh => rw [List.take_of_length_le hi] at h; exact h.symm
end
/-- A row that grows, beside a box with a cell. -/
structure AR (w wr : World) (cc : Cx) (v : Value) (O : List Cx) : Prop where
  own : wr.ownsRow w.heap.size 34 10 v O.length (O.flatMap xs10)
  ten : TenX wr w.heap.size 0 cc
  ne : v.ownBlock ≠ some w.heap.size
  bel : Below w.heap.size w wr
  gt : w.heap.size < wr.heap.size
theorem AR.below {w wr w' : World} {cc : Cx} {v : Value} {O : List Cx} (h : AR w wr cc v O) (hb : Below wr.heap.size wr w') : AR w w' cc v O :=
  ⟨owBelow h.own hb, h.ten.below hb h.ten.lt, h.ne, h.bel.trans (hb.mono h.bel.size), Nat.lt_of_lt_of_le h.gt hb.size⟩
theorem ten_grew {w w' : World} {v v' : Value} (hg : Grew w w' v v') {b o : Nat} {c : Cx} (t : TenX w b o c) (hne : v.ownBlock ≠ some b) : TenX w' b o c ∧ v'.ownBlock ≠ some b := by
  have hlt := t.lt
  refine ⟨⟨by rw [hg.cell hlt hne, t.c0], by rw [hg.cell hlt hne, t.c1], by rw [hg.cell hlt hne, t.c2], by rw [hg.cell hlt hne, t.c3], by rw [hg.cell hlt hne, t.c4], by rw [hg.cell hlt hne, t.c5], by rw [hg.cell hlt hne, t.c6], by rw [hg.cell hlt hne, t.c7], by rw [hg.cell hlt hne, t.c8], by rw [hg.cell hlt hne, t.c9]⟩, fun e => ?_⟩
  rcases hg.own b e with h1 | h1
  · exact hne h1
  · omega
theorem AR.more {w w1 w2 : World} {cc c : Cx} {v v2 : Value} {O : List Cx} (h : AR w w1 cc v O) (ho2 : w2.ownsRow w.heap.size 34 10 v2 (O.length + 1) (O.flatMap xs10 ++ [c].flatMap xs10)) (hg : Grew (w1.alloc (.cells c.a 34)) w2 v v2) :
    AR w w2 cc v2 (O ++ [c]) ∧ ∀ b o x, TenX w1 b o x → v.ownBlock ≠ some b → TenX w2 b o x ∧ v2.ownBlock ≠ some b := by
  have hg1 := hg.alloc
  have hk : ∀ b o x, TenX w1 b o x → v.ownBlock ≠ some b → TenX w2 b o x ∧ v2.ownBlock ≠ some b := fun b o x t hne => ten_grew hg1 t hne
  obtain ⟨h1, h2⟩ := grew_one h.bel rfl (h.own.alloc _) ho2 hg
  obtain ⟨h3, h4⟩ := hk _ _ _ h.ten h.ne
  exact ⟨⟨h1, h3, h4, h2, Nat.lt_of_lt_of_le h.gt hg1.rows.size⟩, hk⟩
/-- The version of a box is turned. -/
def set6at (w : World) (g : Nat) (a : Vr) : World := (((((w.setCell ⟨g, 4, none⟩ (.int .i64 a.time)).setCell ⟨g, 5, none⟩ (.bool a.dead)).setCell ⟨g, 6, none⟩ (.int .i64 a.loc)).setCell ⟨g, 7, none⟩ (.int .i64 a.kind)).setCell ⟨g, 8, none⟩ (.int .i64 a.num)).setCell ⟨g, 9, none⟩ (.string a.s)
theorem box_set {w : World} {g : Nat} {x : Cx} {ty : TypeId} (h : w.heap[g]? = some (.cells x.a ty)) (a : Vr) : (set6at w g a).heap[g]? = some (.cells (Cx.a ⟨x.k, a⟩) ty) := by
  unfold set6at
  simp only [World.setCell, Array.getElem?_modify, h, Cx.a]
  simp
theorem set6at_other (w : World) (g : Nat) (a : Vr) {b : Nat} (hb : b ≠ g) : (set6at w g a).heap[b]? = w.heap[b]? := by
  unfold set6at
  rw [Below.heap_setCell _ _ _ _ hb, Below.heap_setCell _ _ _ _ hb, Below.heap_setCell _ _ _ _ hb, Below.heap_setCell _ _ _ _ hb, Below.heap_setCell _ _ _ _ hb, Below.heap_setCell _ _ _ _ hb]
theorem set6at_size (w : World) (g : Nat) (a : Vr) : (set6at w g a).heap.size = w.heap.size := by
  unfold set6at; simp only [size_setCell]
theorem AR.set {w w1 : World} {cc : Cx} {v : Value} {O : List Cx} (h : AR w w1 cc v O) {g : Nat} (hg : w.heap.size < g) (hne : v.ownBlock ≠ some g) (a : Vr) : AR w (set6at w1 g a) cc v O := by
  have hgr : w1.grownBy (set6at w1 g a) (some g) := grownBy_setCell (grownBy_setCell (grownBy_setCell (grownBy_setCell (grownBy_setCell (grownBy_setCell ⟨rfl, rfl, rfl, Nat.le_refl _, fun _ _ _ => rfl⟩)))))
  refine ⟨h.own.kept hgr (.inr hne), ?_, h.ne, h.bel.trans ⟨hgr.os, hgr.tape, hgr.output, hgr.size, fun k hk => set6at_other w1 g a (by omega)⟩, by rw [set6at_size]; exact h.gt⟩
  have hc : ∀ o, (set6at w1 g a).cell? ⟨w.heap.size, o, none⟩ = w1.cell? ⟨w.heap.size, o, none⟩ := fun o => World.cell?_of_block (set6at_other w1 g a (show w.heap.size ≠ g by omega))
  exact ⟨by rw [hc, h.ten.c0], by rw [hc, h.ten.c1], by rw [hc, h.ten.c2], by rw [hc, h.ten.c3], by rw [hc, h.ten.c4], by rw [hc, h.ten.c5], by rw [hc, h.ten.c6], by rw [hc, h.ten.c7], by rw [hc, h.ten.c8], by rw [hc, h.ten.c9]⟩
end Go.Proofs.YtmkaehnfgdlhdaaGreatDoor
namespace Go.Proofs.YtmkaehnfgdlhdaaGreatDoor
open Go.RowKit

theorem owMono {w : World} {b b' : Nat} {e : TypeId} {size : Nat} {v : Value} {n : Nat} {xs : List Value} (h : w.ownsRow b e size v n xs) (hb : b' ≤ b) : w.ownsRow b' e size v n xs := by
  refine ⟨h.1, ?_⟩
  rcases h.2 with hn | ⟨g, cap, cur, rfl, hg, r⟩
  · exact .inl hn
  · exact .inr ⟨g, cap, cur, rfl, Nat.le_trans hb hg, r⟩
theorem nrm_len (l : List Cx) : (nrm l).length ≤ l.length := by
  refine snoc_ind (P := fun l => (nrm l).length ≤ l.length) (by simp [nrm]) (fun l x h => ?_) l
  rw [nrm_snoc, List.length_append, List.length_singleton]
  have := addC_len (nrm l) x
  omega
attribute [local irreducible] wpQuiet
set_option maxRecDepth 100000 in
set_option maxHeartbeats 1000000 in
theorem likeX_same (ao bo : Option Addr) (l : List Cx) (ca cb : Nat) (w : World) (ha : XSees w ao l) (hb : XSees w bo l) (hl : l.length ≤ 1000000) :
    Calls Tryz.prog 12 #[.slice ao l.length ca, .slice bo l.length cb] w fun e w' => e = .returned (.bool true) ∧ Below w.heap.size w w' := by
  have hlz : (l.length : Int) ≤ 1000000 := by omega
  go_enter Tryz.func12, Tryz.ntmps12
  go_wp2_with fail
  go_loopw [13] (fun s13 wr => ∃ i : Nat, i ≤ l.length ∧ s13 = .int .i64 i ∧ Below w.heap.size w wr) (fun s13 _ => l.length - (intOf s13).toNat)
  case atStart => exact ⟨0, by omega, rfl, Below.refl _ _⟩
  case round =>
    obtain ⟨i, hi, rfl, hbr⟩ := hrel
    rcases Nat.lt_or_ge i l.length with hlt | hge
    · have hc : l[i]? = some l[i] := List.getElem?_eq_getElem hlt
      obtain ⟨b, off, rfl, tx⟩ := (ha.below hbr (Nat.le_refl _)) i _ hc
      obtain ⟨b', off', rfl, ty⟩ := (hb.below hbr (Nat.le_refl _)) i _ hc
      generalize l[i] = x at *
      obtain ⟨⟨xa, xp, xr, xc⟩, ⟨xt, xd, xl, xk, xn, xs⟩⟩ := x
      have qa0 : ∀ z : Cl wr.heap.size wr, z.u.cell? ⟨b, off + i * 10, none⟩ = some (.string xa) := fun z => (tx.below z.h tx.lt).c0
      have qa1 : ∀ z : Cl wr.heap.size wr, z.u.cell? ⟨b, off + i * 10 + 1, none⟩ = some (.string xp) := fun z => (tx.below z.h tx.lt).c1
      have qa2 : ∀ z : Cl wr.heap.size wr, z.u.cell? ⟨b, off + i * 10 + 2, none⟩ = some (.int .i64 xr) := fun z => (tx.below z.h tx.lt).c2
      have qa3 : ∀ z : Cl wr.heap.size wr, z.u.cell? ⟨b, off + i * 10 + 3, none⟩ = some (.string xc) := fun z => (tx.below z.h tx.lt).c3
      have qa4 : ∀ z : Cl wr.heap.size wr, z.u.cell? ⟨b, off + i * 10 + 4, none⟩ = some (.int .i64 xt) := fun z => (tx.below z.h tx.lt).c4
      have qa5 : ∀ z : Cl wr.heap.size wr, z.u.cell? ⟨b, off + i * 10 + 5, none⟩ = some (.bool xd) := fun z => (tx.below z.h tx.lt).c5
      have qa6 : ∀ z : Cl wr.heap.size wr, z.u.cell? ⟨b, off + i * 10 + 6, none⟩ = some (.int .i64 xl) := fun z => (tx.below z.h tx.lt).c6
      have qa7 : ∀ z : Cl wr.heap.size wr, z.u.cell? ⟨b, off + i * 10 + 7, none⟩ = some (.int .i64 xk) := fun z => (tx.below z.h tx.lt).c7
      have qa8 : ∀ z : Cl wr.heap.size wr, z.u.cell? ⟨b, off + i * 10 + 8, none⟩ = some (.int .i64 xn) := fun z => (tx.below z.h tx.lt).c8
      have qa9 : ∀ z : Cl wr.heap.size wr, z.u.cell? ⟨b, off + i * 10 + 9, none⟩ = some (.string xs) := fun z => (tx.below z.h tx.lt).c9
      have qb0 : ∀ z : Cl wr.heap.size wr, z.u.cell? ⟨b', off' + i * 10, none⟩ = some (.string xa) := fun z => (ty.below z.h ty.lt).c0
      have qb1 : ∀ z : Cl wr.heap.size wr, z.u.cell? ⟨b', off' + i * 10 + 1, none⟩ = some (.string xp) := fun z => (ty.below z.h ty.lt).c1
      have qb2 : ∀ z : Cl wr.heap.size wr, z.u.cell? ⟨b', off' + i * 10 + 2, none⟩ = some (.int .i64 xr) := fun z => (ty.below z.h ty.lt).c2
      have qb3 : ∀ z : Cl wr.heap.size wr, z.u.cell? ⟨b', off' + i * 10 + 3, none⟩ = some (.string xc) := fun z => (ty.below z.h ty.lt).c3
      have qb4 : ∀ z : Cl wr.heap.size wr, z.u.cell? ⟨b', off' + i * 10 + 4, none⟩ = some (.int .i64 xt) := fun z => (ty.below z.h ty.lt).c4
      have qb5 : ∀ z : Cl wr.heap.size wr, z.u.cell? ⟨b', off' + i * 10 + 5, none⟩ = some (.bool xd) := fun z => (ty.below z.h ty.lt).c5
      have qb6 : ∀ z : Cl wr.heap.size wr, z.u.cell? ⟨b', off' + i * 10 + 6, none⟩ = some (.int .i64 xl) := fun z => (ty.below z.h ty.lt).c6
      have qb7 : ∀ z : Cl wr.heap.size wr, z.u.cell? ⟨b', off' + i * 10 + 7, none⟩ = some (.int .i64 xk) := fun z => (ty.below z.h ty.lt).c7
      have qb8 : ∀ z : Cl wr.heap.size wr, z.u.cell? ⟨b', off' + i * 10 + 8, none⟩ = some (.int .i64 xn) := fun z => (ty.below z.h ty.lt).c8
      have qb9 : ∀ z : Cl wr.heap.size wr, z.u.cell? ⟨b', off' + i * 10 + 9, none⟩ = some (.string xs) := fun z => (ty.below z.h ty.lt).c9
      have HE : Hid (∀ w', Below wr.heap.size wr w' → Below w.heap.size w w') := fun w' h => hbr.trans (h.mono hbr.size)
      have hltz : (i : Int) < (l.length : Int) := by omega
      clear ha hb hc tx ty hbr
      haveI := Cl.inh wr.heap.size wr
      go_wp2_with fail
      refine wp_region_cl wr.heap.size (by kernel_rfl) (by kernel_rfl) ?_
      repeat quiet_step (fail)
      refine wpQuiet_nil ?_
      rintro w0 ⟨z, rfl⟩
      have hz := HE.out _ z.h
      go_wp2_with fail
      go_roundw
      case rel => exact ⟨i + 1, by omega, by go_num, hz⟩
      case measure => (simp [intOf]; try omega)
    · have hgez : ¬ (i : Int) < (l.length : Int) := by omega
      clear ha hb
      go_wp2_with fail
      go_ret
      exact ⟨rfl, hbr⟩
end Go.Proofs.YtmkaehnfgdlhdaaGreatDoor

/-
  SEVERAL TEXTS IN ONE: TabSearch, TabFrom, TabNone, CxFound, TabGet, TabEnds, TabMay, TabNoneB, TabAsk, MrgBulk, TabAskB.
-/
import Derived.Test.YtdookhmaiapclaaGreatDoorTabM2
import Derived.Test.YtdookhmaiapclaaGreatDoorTabM3
import Derived.Laws.ResultCell
import Derived.JoinedCond
namespace Go.Proofs.YtdookhmaiapclaaGreatDoor
open Go.RowKit

attribute [local go_sem] Oper.pureAt Oper.pureUpon

set_option maxRecDepth 100000 in
set_option maxHeartbeats 1000000 in
theorem search_any (n : Nat) (hn : n ≤ 1000000) (f : Nat → Bool) (cap : Array Value) (w : World)
    (hf : ∀ (u : World) (i : Nat), Below w.heap.size w u → i < n → Calls Tryz.prog 72 (#[.int .i64 (i : Int)] ++ cap) u fun e w' => e = .returned (.bool (f i)) ∧ Below u.heap.size u w') :
    Calls Tryz.prog 71 #[.int .i64 (n : Int), .func (.func 72) #[] cap] w fun e w' => ∃ k : Nat, e = .returned (.int .i64 (k : Int)) ∧ k ≤ n ∧ (0 < k → f (k - 1) = false) ∧ (k < n → f k = true) ∧ Below w.heap.size w w' := by
  have HF : Hid (∀ (u : World) (i : Nat), Below w.heap.size w u → i < n → Calls Tryz.prog 72 (#[.int .i64 (i : Int)] ++ cap) u fun e w' => e = .returned (.bool (f i)) ∧ Below u.heap.size u w') := hf
  clear hf
  have hnz : (n : Int) ≤ 1000000 := by omega
  go_enter Tryz.func71, Tryz.ntmps71
  go_wp2_with fail
  go_loopw [5, 6] (fun s5 s6 wr => ∃ i j : Nat, s5 = .int .i64 (i : Int) ∧ s6 = .int .i64 (j : Int) ∧ i ≤ j ∧ j ≤ n ∧ (0 < i → f (i - 1) = false) ∧ (j < n → f j = true) ∧ Below w.heap.size w wr) (fun s5 s6 _ => (intOf s6 - intOf s5).toNat)
  case atStart => exact ⟨0, n, rfl, rfl, Nat.zero_le _, Nat.le_refl _, fun h => by omega, fun h => by omega, Below.refl _ _⟩
  case round =>
    obtain ⟨i, j, rfl, rfl, hij, hjn, h1, h2, hb⟩ := hrel
    by_cases hlt : i < j
    · obtain ⟨m, hm⟩ : ∃ m, m = (i + j) / 2 := ⟨_, rfl⟩
      have hltz : (i : Int) < (j : Int) := by omega
      have hmj : m < j := by omega
      have him : i ≤ m := by omega
      have C : Hid (Calls Tryz.prog 72 (#[.int .i64 (m : Int)] ++ cap) wr fun e w' => e = .returned (.bool (f m)) ∧ Below wr.heap.size wr w') := HF.out wr m hb (by omega)
      have d1 : IntKind.u64.wrap ((i : Int) + (j : Int)) = (i : Int) + (j : Int) := by rw [IntKind.wrap_u64]; omega
      have d2 : ((i : Int) + (j : Int)) / 2 = (m : Int) := by omega
      have hjz : (j : Int) ≤ 1000000 := by omega
      clear hm
      have H1 : Hid (0 < i → f (i - 1) = false) := h1
      have H2 : Hid (j < n → f j = true) := h2
      clear h1 h2
      cases hfm : f m
      · rw [hfm] at C
        have H3 : Hid (f m = false) := hfm
        clear hfm
        go_wp2_with fail
        refine C.out.mono ?_
        rintro e w1 ⟨rfl, hb1⟩
        go_wp2_with fail
        go_roundw
        case rel => exact ⟨m + 1, j, by simp, rfl, by omega, hjn, fun _ => by rw [Nat.add_sub_cancel]; exact H3.out, H2.out, hb.trans (hb1.mono hb.size)⟩
        case measure => simp [intOf]; omega
      · rw [hfm] at C
        have H3 : Hid (f m = true) := hfm
        clear hfm
        go_wp2_with fail
        refine C.out.mono ?_
        rintro e w1 ⟨rfl, hb1⟩
        go_wp2_with fail
        go_roundw
        case rel => exact ⟨i, m, rfl, rfl, him, by omega, H1.out, fun _ => H3.out, hb.trans (hb1.mono hb.size)⟩
        case measure => simp [intOf]; omega
    · have hij2 : i = j := by omega
      subst hij2
      go_wp2_with fail
      go_ret
      exact ⟨i, rfl, hjn, h1, h2, hb⟩
theorem cmpK_any (a b : Kb) (w : World) : Calls Tryz.prog 73 #[a.v, b.v] w fun e w' => e = .returned (.int .i64 (kc a.ky b.ky)) ∧ Below w.heap.size w w' := cmp_any a b w
set_option maxRecDepth 100000 in
set_option maxHeartbeats 1000000 in
/-- Does a block begin behind the key? -/
theorem from1_any (i b1 b2 g n cap : Nat) (l : List Cx) (k : Kb) (w : World) (hb1 : Boxed w b1 22 (.slice (some ⟨g, 0, none⟩) n cap)) (hb2 : Blk w b2 [.string k.t, .string k.p, .int .i64 k.r, .string k.c] 24) (hx : XSees w (some ⟨g, 0, none⟩) l) (hn : l.length = n) (hi : 8 * i < n) (hn9 : n ≤ 9000) (c : Cx) (hc : l[8 * i]? = some c) :
    Calls Tryz.prog 72 #[.int .i64 (i : Int), .pointer (some ⟨b1, 0, none⟩), .pointer (some ⟨b2, 0, none⟩)] w fun e w' => e = .returned (.bool (decide (0 < kc c.k.ky k.ky))) ∧ Below w.heap.size w w' := by
  obtain ⟨b', o', e, tt⟩ := hx _ c hc
  cases e
  have C : Hid (∀ u : World, Calls Tryz.prog 73 #[.agg #[.string c.k.t, .string c.k.p, .int .i64 c.k.r, .string c.k.c], .agg #[.string k.t, .string k.p, .int .i64 k.r, .string k.c]] u fun e w' => e = .returned (.int .i64 (kc c.k.ky k.ky)) ∧ Below u.heap.size u w') := fun u => cmpK_any c.k k u
  have hz : (8 : Int) * (i : Int) < (n : Int) := by omega
  obtain ⟨m, hm⟩ : ∃ m, m = 8 * i := ⟨_, rfl⟩
  have hmz : (i : Int) * 8 = (m : Int) := by omega
  have hmn : m < n := by omega
  have hmnz : (m : Int) < (n : Int) := by omega
  have wm : IntKind.i64.wrap (m : Int) = (m : Int) := by rw [IntKind.wrap_i64]; omega
  have eo : 0 + 8 * i * 10 = m * 10 := by omega
  rw [eo] at tt
  have lt1 := hb1.lt
  have lt2 := hb2.lt
  have lt3 := tt.lt
  obtain ⟨⟨ct, cp, cr, ck⟩, cv⟩ := c
  obtain ⟨t0, t1, t2, t3, -, -, -, -, -, -⟩ := tt
  simp only at t0 t1 t2 t3 C
  have q0 : ∀ q : Cl w.heap.size w, q.u.cell? ⟨b1, 0, none⟩ = some (.slice (some ⟨g, 0, none⟩) n cap) := fun q => q.cell lt1 hb1.cell
  have q1 : ∀ q : Cl w.heap.size w, q.u.cell? ⟨b2, 0, none⟩ = some (.string k.t) := fun q => q.cell lt2 (hb2.cell 0 rfl)
  have q2 : ∀ q : Cl w.heap.size w, q.u.cell? ⟨b2, 1, none⟩ = some (.string k.p) := fun q => q.cell lt2 (hb2.cell 1 rfl)
  have q3 : ∀ q : Cl w.heap.size w, q.u.cell? ⟨b2, 2, none⟩ = some (.int .i64 k.r) := fun q => q.cell lt2 (hb2.cell 2 rfl)
  have q4 : ∀ q : Cl w.heap.size w, q.u.cell? ⟨b2, 3, none⟩ = some (.string k.c) := fun q => q.cell lt2 (hb2.cell 3 rfl)
  have p0 : ∀ q : Cl w.heap.size w, q.u.cell? ⟨g, m * 10, none⟩ = some (.string ct) := fun q => q.cell lt3 t0
  have p1 : ∀ q : Cl w.heap.size w, q.u.cell? ⟨g, m * 10 + 1, none⟩ = some (.string cp) := fun q => q.cell lt3 t1
  have p2 : ∀ q : Cl w.heap.size w, q.u.cell? ⟨g, m * 10 + 2, none⟩ = some (.int .i64 cr) := fun q => q.cell lt3 t2
  have p3 : ∀ q : Cl w.heap.size w, q.u.cell? ⟨g, m * 10 + 3, none⟩ = some (.string ck) := fun q => q.cell lt3 t3
  haveI := Cl.inh w.heap.size w
  clear t0 t1 t2 t3 hx hc hb1 hb2 eo hm
  generalize kc _ _ = K at *
  go_enter Tryz.func72, Tryz.ntmps72
  go_wp2_with fail
  refine wp_region_sched (fun w' => ∃ p : Cl w.heap.size w, w' = p.u) [(0, true), (1, true), (2, true), (3, true), (4, true), (5, true), (6, true), (7, false), (8, true), (9, true)] rfl (by kernel_rfl) (by kernel_rfl) (by kernel_rfl) ⟨⟨_, (Below.refl _ _).drew⟩, rfl⟩ ?_
  iterate 7 (refine sched_pure rfl (fun K hK => ?_); go_simp; refine hK _ ?_; clear hK K)
  refine sched_loud rfl (fun K hK => ?_)
  go_simp
  refine (C.out _).mono ?_
  rintro e u1 ⟨rfl, hbu⟩
  have hbu2 : Below w.heap.size w u1 := (Below.refl _ _).drew.trans hbu
  refine hK _ _ ⟨⟨u1, hbu2⟩, rfl⟩ ?_
  clear hK
  iterate 2 (refine sched_pure rfl (fun K hK => ?_); go_simp; refine hK _ ?_; clear hK)
  refine sched_nil ?_
  go_wp2_with fail
  go_ret
  exact ⟨rfl, hbu2⟩
end Go.Proofs.YtdookhmaiapclaaGreatDoor
namespace Go.Proofs.YtdookhmaiapclaaGreatDoor
open Go.RowKit

attribute [local go_sem] Oper.pureAt Oper.pureUpon
/-- The first a keys are less than k, the others are not. -/
structure CutAt (l : List Cx) (k : Kb) (a : Nat) : Prop where
  le : a ≤ l.length
  lo : ∀ j c, j < a → l[j]? = some c → kc c.k.ky k.ky < 0
  hi : ∀ j c, a ≤ j → l[j]? = some c → 0 ≤ kc c.k.ky k.ky
theorem srt_lt {l : List Cx} (h : Rising l) {i j : Nat} {x y : Cx} (hij : i < j) (hx : l[i]? = some x) (hy : l[j]? = some y) : kc x.k.ky y.k.ky < 0 := by
  have h1 := (List.getElem?_eq_some_iff.1 hx)
  have h2 := (List.getElem?_eq_some_iff.1 hy)
  obtain ⟨l1, rfl⟩ := h1
  obtain ⟨l2, rfl⟩ := h2
  exact List.pairwise_iff_getElem.1 h i j l1 l2 hij
theorem rising_of {l : List Cx} (h : srtB l = true) : Rising l := by
  have h1 : Rise l l.length := @of_decide_eq_true _ (Classical.propDecidable _) h
  refine List.pairwise_iff_getElem.2 fun i j hi hj hij => ?_
  have H : ∀ d i, (hd : i + d + 1 < l.length) → kx (l[i]'(by omega)) l[i + d + 1] < 0 := by
    intro d
    induction d with
    | zero => intro i hd; exact h1 i _ _ (by omega) (List.getElem?_eq_getElem (by omega)) (List.getElem?_eq_getElem (by omega))
    | succ d ih => intro i hd; exact kx_strict (ih i (by omega)) (h1 (i + d + 1) _ _ (by omega) (List.getElem?_eq_getElem (by omega)) (List.getElem?_eq_getElem (by omega)))
  have := H (j - i - 1) i (by omega)
  have e : i + (j - i - 1) + 1 = j := by omega
  simpa only [e] using this
theorem TAt.rising {w : World} {T : Nat} {l : List Cx} (h : TAt w T l) : Rising l := by
  have := h.ok
  unfold wrtB at this
  simp only [Bool.and_eq_true] at this
  exact rising_of this.2.1
theorem kc_mix {x y : Cx} {k : Kb} (h1 : kc x.k.ky y.k.ky < 0) (h2 : kc y.k.ky k.ky ≤ 0) : kc x.k.ky k.ky < 0 := by
  rcases (show kc y.k.ky k.ky < 0 ∨ kc y.k.ky k.ky = 0 by omega) with h | h
  · exact kc_cmpr.strict h1 h
  · have e := (kc_cmpr.z _ _).1 h
    rw [← e]; exact h1
set_option maxRecDepth 100000 in
set_option maxHeartbeats 2000000 in
theorem from_any {w : World} {T : Nat} {l : List Cx} (h : TAt w T l) (k : Kb) :
    Calls Tryz.prog 40 #[.pointer (some ⟨T, 0, none⟩), k.v] w fun e w' => ∃ a g o c, e = .returned (.slice (some ⟨g, o, none⟩) (l.length - a) c) ∧ CutAt l k a ∧ XSees w' (some ⟨g, o, none⟩) (l.drop a) ∧ l.length - a ≤ c ∧ g < w.heap.size ∧ Below w.heap.size w w' := by
  have hR := h.rising
  have hpos := h.pos
  have hl9 := h.wrt.len
  obtain ⟨fm, g, cap, hB, hx, hcap, hctop, hgl, -⟩ := h.cells
  obtain ⟨w0, hw0⟩ : ∃ w0, w0 = w.alloc (.cells #[.string k.t, .string k.p, .int .i64 k.r, .string k.c] 24) := ⟨_, rfl⟩
  have hb0 : Below w.heap.size w w0 := by rw [hw0]; exact (Below.refl _ _).alloc (Nat.le_refl _) _
  have hK0 : Blk w0 w.heap.size [.string k.t, .string k.p, .int .i64 k.r, .string k.c] 24 := by rw [hw0]; exact Blk.new w _ _
  have SO : Hid (Calls Tryz.prog 41 #[.pointer (some ⟨T, 0, none⟩)] w0 fun e w' => e = .returned (.slice (some ⟨g, 0, none⟩) l.length cap) ∧ w' = w0) := sorted_at (hB.carry (hb0.block _ hB.lt))
  have s0 : w0.heap.size = w.heap.size + 1 := by rw [hw0]; simp
  obtain ⟨w1, hw1⟩ : ∃ w1, w1 = w0.alloc (.cells #[.slice (some ⟨g, 0, none⟩) l.length cap] 22) := ⟨_, rfl⟩
  have hb1 : Below w0.heap.size w0 w1 := by rw [hw1]; exact (Below.refl _ _).alloc (Nat.le_refl _) _
  have hC1 : Boxed w1 w0.heap.size 22 (.slice (some ⟨g, 0, none⟩) l.length cap) := by rw [hw1]; exact Boxed.new w0 _ _
  have hK1 : Blk w1 w.heap.size [.string k.t, .string k.p, .int .i64 k.r, .string k.c] 24 := hK0.carry (hb1.block _ hK0.lt)
  have hb01 : Below w.heap.size w w1 := hb0.trans (hb1.mono hb0.size)
  have hT1 : TAt w1 T l := (h.below hb0).below hb1
  have BK : Hid (Calls Tryz.prog 20 #[.pointer (some ⟨T, 0, none⟩)] w1 fun e w' => e = .returned (.int .i64 (nBk l.length : Int)) ∧ w' = w1) := blocks_at hT1
  have hx1 : XSees w1 (some ⟨g, 0, none⟩) l := hx.below hb01 (Nat.le_refl _)
  have hnb : nBk l.length ≤ 1125 := by unfold nBk; omega
  have hat : ∀ i, i < nBk l.length → ∃ c, l[8 * i]? = some c := fun i hi => ⟨_, List.getElem?_eq_getElem (by unfold nBk at hi; omega)⟩
  have SE : Hid (Calls Tryz.prog 71 #[.int .i64 (nBk l.length : Int), .func (.func 72) #[] #[.pointer (some ⟨w0.heap.size, 0, none⟩), .pointer (some ⟨w.heap.size, 0, none⟩)]] w1 fun e w' => ∃ q : Nat, e = .returned (.int .i64 (q : Int)) ∧ q ≤ nBk l.length ∧ (∀ j c, j < 8 * (q - 1) → l[j]? = some c → kc c.k.ky k.ky < 0) ∧ Below w1.heap.size w1 w') := by
    refine (search_any (nBk l.length) (by omega) (fun i => match l[8 * i]? with | some c => decide (0 < kc c.k.ky k.ky) | none => true) _ w1 ?_).mono ?_
    · intro u i hu hi
      obtain ⟨c, hc⟩ := hat i hi
      simp only [hc]
      exact from1_any i w0.heap.size w.heap.size g l.length cap l k u ((hu.block _ hC1.lt).trans hC1) (hK1.carry (hu.block _ hK1.lt)) (hx1.below hu (Nat.le_refl _)) rfl (by unfold nBk at hi; omega) hl9 c hc
    · rintro e w' ⟨q, rfl, hq, hlo, -, hbq⟩
      refine ⟨q, rfl, hq, fun j c hj hcj => ?_, hbq⟩
      have hq0 : 0 < q := by omega
      obtain ⟨d, hd⟩ := hat (q - 1) (by omega)
      have h2 := hlo hq0
      simp only [hd, decide_eq_false_iff_not] at h2
      exact kc_mix (srt_lt hR hj hcj hd) (by omega)
  have HX : Hid (∀ u, Below w1.heap.size w1 u → XSees u (some ⟨g, 0, none⟩) l ∧ Boxed u w0.heap.size 22 (.slice (some ⟨g, 0, none⟩) l.length cap) ∧ Blk u w.heap.size [.string k.t, .string k.p, .int .i64 k.r, .string k.c] 24) := fun u hu => ⟨hx1.below hu (Nat.le_refl _), (hu.block _ hC1.lt).trans hC1, hK1.carry (hu.block _ hK1.lt)⟩
  have hR2 : Hid (Rising l) := hR
  clear hx hx1 hC1 hK1 hK0 hT1 hB h hat hR
  have HS0 : Hid (w0.heap.size = w.heap.size + 1) := s0
  clear s0
  obtain ⟨kt, kp, kr, kcc⟩ := k
  simp only [Kb.v] at hw0 HX ⊢
  go_enter Tryz.func40, Tryz.ntmps40
  go_wp2_with fail
  rw [← hw0]
  go_fit SO.out
  rintro e u0 ⟨rfl, he0⟩
  have he1 : w0 = u0 := he0.symm
  subst he1
  clear he0 SO hw0
  go_wp2_with fail
  rw [← hw1]
  clear hw1
  go_fit BK.out
  rintro e u1 ⟨rfl, he0⟩
  have he1 : w1 = u1 := he0.symm
  subst he1
  clear he0 BK
  go_wp2_with fail
  go_fit SE.out
  rintro e w2 ⟨q, rfl, hq, hlo, hb2⟩
  clear SE
  have HLO : Hid (∀ j c, j < 8 * (q - 1) → l[j]? = some c → kc c.k.ky (Kb.ky ⟨kt, kp, kr, kcc⟩) < 0) := hlo
  clear hlo
  have hmax : max ((q : Int) - 1) 0 * 8 = ((8 * (q - 1) : Nat) : Int) := by omega
  have hqz : (q : Int) ≤ 1125 := by omega
  have hq8 : 8 * (q - 1) ≤ l.length := by unfold nBk at hq; omega
  go_wp2_with fail
  go_loopw [7] (fun s wr => ∃ a : Nat, s = .int .i64 (a : Int) ∧ a ≤ l.length ∧ (∀ j c, j < a → l[j]? = some c → kc c.k.ky (Kb.ky ⟨kt, kp, kr, kcc⟩) < 0) ∧ Below w1.heap.size w1 wr) (fun s _ => l.length - (intOf s).toNat)
  case atStart => exact ⟨8 * (q - 1), by first | rfl | (congr 1; omega), hq8, HLO.out, hb2⟩
  case round =>
    obtain ⟨a, rfl, hal, hlow, hbr⟩ := hrel
    obtain ⟨hxr, hCr, hKr⟩ := HX.out wr hbr
    have HLW : Hid (∀ j c, j < a → l[j]? = some c → kc c.k.ky (Kb.ky ⟨kt, kp, kr, kcc⟩) < 0) := hlow
    have lt1 := hCr.lt
    have lt2 := hKr.lt
    have q0 : ∀ q : Cl wr.heap.size wr, q.u.cell? ⟨w0.heap.size, 0, none⟩ = some (.slice (some ⟨g, 0, none⟩) l.length cap) := fun q => q.cell lt1 hCr.cell
    have q1 : ∀ q : Cl wr.heap.size wr, q.u.cell? ⟨w.heap.size, 0, none⟩ = some (.string kt) := fun q => q.cell lt2 (hKr.cell 0 rfl)
    have q2 : ∀ q : Cl wr.heap.size wr, q.u.cell? ⟨w.heap.size, 1, none⟩ = some (.string kp) := fun q => q.cell lt2 (hKr.cell 1 rfl)
    have q3 : ∀ q : Cl wr.heap.size wr, q.u.cell? ⟨w.heap.size, 2, none⟩ = some (.int .i64 kr) := fun q => q.cell lt2 (hKr.cell 2 rfl)
    have q4 : ∀ q : Cl wr.heap.size wr, q.u.cell? ⟨w.heap.size, 3, none⟩ = some (.string kcc) := fun q => q.cell lt2 (hKr.cell 3 rfl)
    haveI := Cl.inh wr.heap.size wr
    have HEND : Hid (∀ u, Below wr.heap.size wr u → CutAt l ⟨kt, kp, kr, kcc⟩ a → XSees u (some ⟨g, 0, none⟩) l ∧ Boxed u w0.heap.size 22 (.slice (some ⟨g, 0, none⟩) l.length cap) ∧ Below w.heap.size w u) := fun u hu _ => ⟨hxr.below hu (Nat.le_refl _), (hu.block _ hCr.lt).trans hCr, hb01.trans ((hbr.trans (hu.mono hbr.size)).mono hb01.size)⟩
    have hbu : ∀ u, Below wr.heap.size wr u → Below w1.heap.size w1 u := fun u hu => hbr.trans (hu.mono hbr.size)
    have HBU : Hid (∀ u, Below wr.heap.size wr u → Below w1.heap.size w1 u) := hbu
    clear hlow hbu
    by_cases hlt : a < l.length
    · have hc : l[a]? = some l[a] := List.getElem?_eq_getElem hlt
      have hin := List.getElem_mem hlt
      obtain ⟨b', o', e, tt⟩ := hxr a _ hc
      cases e
      have CM : Hid (∀ u : World, Calls Tryz.prog 73 #[l[a].k.v, .agg #[.string kt, .string kp, .int .i64 kr, .string kcc]] u fun e w' => e = .returned (.int .i64 (kc l[a].k.ky (Kb.ky ⟨kt, kp, kr, kcc⟩))) ∧ Below u.heap.size u w') := fun u => cmp_any l[a].k ⟨kt, kp, kr, kcc⟩ u
      have HNX : Hid (kc l[a].k.ky (Kb.ky ⟨kt, kp, kr, kcc⟩) < 0 → ∀ j c, j < a + 1 → l[j]? = some c → kc c.k.ky (Kb.ky ⟨kt, kp, kr, kcc⟩) < 0) := fun h1 j c hj hcj => by
        rcases Nat.lt_or_ge j a with h2 | h2
        · exact HLW.out j c h2 hcj
        · obtain rfl : j = a := by omega
          rw [hc] at hcj; obtain rfl := Option.some.inj hcj; exact h1
      have HCU : Hid (¬ kc l[a].k.ky (Kb.ky ⟨kt, kp, kr, kcc⟩) < 0 → CutAt l ⟨kt, kp, kr, kcc⟩ a) := fun h1 => ⟨hal, HLW.out, fun j c hj hcj => by
        rcases Nat.lt_or_ge a j with h2 | h2
        · have h3 := srt_lt hR2.out h2 hc hcj
          have h4 : ¬ kc c.k.ky (Kb.ky ⟨kt, kp, kr, kcc⟩) < 0 := fun h5 => h1 (kc_cmpr.strict h3 h5)
          omega
        · obtain rfl : j = a := by omega
          rw [hc] at hcj; obtain rfl := Option.some.inj hcj; omega⟩
      have eo : 0 + a * 10 = a * 10 := by omega
      rw [eo] at tt
      have lt3 := tt.lt
      generalize l[a] = c at *
      obtain ⟨⟨ct, cp, cr, ck⟩, cv⟩ := c
      obtain ⟨t0, t1, t2, t3, -, -, -, -, -, -⟩ := tt
      simp only [Kb.v] at t0 t1 t2 t3 CM
      have p0 : ∀ q : Cl wr.heap.size wr, q.u.cell? ⟨g, a * 10, none⟩ = some (.string ct) := fun q => q.cell lt3 t0
      have p1 : ∀ q : Cl wr.heap.size wr, q.u.cell? ⟨g, a * 10 + 1, none⟩ = some (.string cp) := fun q => q.cell lt3 t1
      have p2 : ∀ q : Cl wr.heap.size wr, q.u.cell? ⟨g, a * 10 + 2, none⟩ = some (.int .i64 cr) := fun q => q.cell lt3 t2
      have p3 : ∀ q : Cl wr.heap.size wr, q.u.cell? ⟨g, a * 10 + 3, none⟩ = some (.string ck) := fun q => q.cell lt3 t3
      have hltz : (a : Int) < (l.length : Int) := by omega
      generalize kc _ _ = KK at *
      clear t0 t1 t2 t3 hxr hCr hKr hc hin eo
      go_wp2_with fail
      refine wp_region_sched (fun w' => ∃ p : Cl wr.heap.size wr, w' = p.u) [(0, true), (1, true), (2, true), (3, true), (4, true), (5, true), (6, true), (7, true), (8, true), (9, true), (10, true), (11, false), (12, true), (13, true)] rfl (by kernel_rfl) (by kernel_rfl) (by kernel_rfl) ⟨⟨_, (Below.refl _ _).drew⟩, rfl⟩ ?_
      iterate 11 (refine sched_pure rfl (fun K hK => ?_); go_simp; refine hK _ ?_; clear hK K)
      refine sched_loud rfl (fun K hK => ?_)
      go_simp
      refine (CM.out _).mono ?_
      rintro e u2 ⟨rfl, hbu0⟩
      have hbu2 : Below wr.heap.size wr u2 := (Below.refl _ _).drew.trans hbu0
      refine hK _ _ ⟨⟨u2, hbu2⟩, rfl⟩ ?_
      clear hK K hbu0
      iterate 2 (refine sched_pure rfl (fun K hK => ?_); go_simp; refine hK _ ?_; clear hK K)
      refine sched_nil ?_
      clear q0 q1 q2 q3 q4 p0 p1 p2 p3
      by_cases hneg : KK < 0
      · go_wp2_with fail
        go_roundw
        case rel => exact ⟨a + 1, by simp, by omega, HNX.out hneg, HBU.out _ hbu2⟩
        case measure => simp [intOf]; omega
      · obtain ⟨hx2, hC2, hb3⟩ := HEND.out u2 hbu2 (HCU.out (by omega))
        have z0 := hC2.cell
        have haz : (a : Int) ≤ (l.length : Int) := by omega
        have hCU := HCU.out (by omega)
        have HX2 : Hid (XSees u2 (some ⟨g, a * 10, none⟩) (l.drop a)) := fun i x hi => by
          rw [List.getElem?_drop] at hi
          obtain ⟨b, of, e, t⟩ := hx2 (a + i) x hi
          cases e
          refine ⟨g, a * 10, rfl, ?_⟩
          have e2 : 0 + (a + i) * 10 = a * 10 + i * 10 := by omega
          rwa [e2] at t
        have hac : ¬ cap = a := by omega
        clear hx2 hC2 HEND HCU HNX CM
        go_wp2_with fail
        go_ret
        exact ⟨a, g, a * 10, cap - a, rfl, hCU, HX2.out, by omega, hgl, hb3⟩
    · have hae : a = l.length := by omega
      have hCU : CutAt l ⟨kt, kp, kr, kcc⟩ a := ⟨hal, HLW.out, fun j c hj hcj => by have := (List.getElem?_eq_some_iff.1 hcj).1; omega⟩
      obtain ⟨hx2, hC2, hb3⟩ := HEND.out wr.drew (Below.refl _ _).drew hCU
      have z0 := hC2.cell
      have hnl : ¬ ((a : Int) < (l.length : Int)) := by omega
      have d0 : decide ((a : Int) < (l.length : Int)) = false := decide_eq_false hnl
      have haz : (a : Int) ≤ (l.length : Int) := by omega
      have hcz : (a : Int) ≤ (cap : Int) := by omega
      have HAE : Hid (a = l.length) := hae
      have HXN : Hid (∀ o : Nat, XSees wr.drew (some ⟨g, o, none⟩) (l.drop a)) := fun o i x hi => by
        rw [List.getElem?_drop] at hi
        have := (List.getElem?_eq_some_iff.1 hi).1
        omega
      clear hx2 hC2 HEND hxr hCr hKr hae
      by_cases hac : cap = a
      · subst hac
        go_wp2_with fail
        refine wp_region_sched (fun w' => ∃ p : Cl wr.heap.size wr, w' = p.u) [(0, true), (1, true), (2, true), (3, true), (4, true), (5, true), (6, true), (7, true), (8, true), (9, true), (10, true), (11, false), (12, true), (13, true)] rfl (by kernel_rfl) (by kernel_rfl) (by kernel_rfl) ⟨⟨_, (Below.refl _ _).drew⟩, rfl⟩ ?_
        iterate 11 (refine sched_pure rfl (fun K hK => ?_); go_simp; refine hK _ ?_; clear hK K)
        refine sched_loud rfl (fun K hK => ?_)
        go_simp
        refine hK _ _ ⟨⟨_, (Below.refl _ _).drew⟩, rfl⟩ ?_
        clear hK K
        iterate 2 (refine sched_pure rfl (fun K hK => ?_); go_simp; refine hK _ ?_; clear hK K)
        refine sched_nil ?_
        go_wp2_with fail
        go_ret
        refine ⟨cap, g, 0, 0, ?_, hCU, HXN.out 0, by have := HAE.out; omega, hgl, hb3⟩
        have hll := HAE.out
        have hz : l.length - cap = 0 := by omega
        rw [hz]
        simp
      · go_wp2_with fail
        refine wp_region_sched (fun w' => ∃ p : Cl wr.heap.size wr, w' = p.u) [(0, true), (1, true), (2, true), (3, true), (4, true), (5, true), (6, true), (7, true), (8, true), (9, true), (10, true), (11, false), (12, true), (13, true)] rfl (by kernel_rfl) (by kernel_rfl) (by kernel_rfl) ⟨⟨_, (Below.refl _ _).drew⟩, rfl⟩ ?_
        iterate 11 (refine sched_pure rfl (fun K hK => ?_); go_simp; refine hK _ ?_; clear hK K)
        refine sched_loud rfl (fun K hK => ?_)
        go_simp
        refine hK _ _ ⟨⟨_, (Below.refl _ _).drew⟩, rfl⟩ ?_
        clear hK K
        iterate 2 (refine sched_pure rfl (fun K hK => ?_); go_simp; refine hK _ ?_; clear hK K)
        refine sched_nil ?_
        go_wp2_with fail
        go_ret
        exact ⟨a, g, a * 10, cap - a, rfl, hCU, HXN.out _, by omega, hgl, hb3⟩
end Go.Proofs.YtdookhmaiapclaaGreatDoor
namespace Go.Proofs.YtdookhmaiapclaaGreatDoor
open Go.RowKit

attribute [local go_sem] Oper.pureAt Oper.pureUpon
/-- A table that no call made: nil, or one of zero value. -/
def NoT (w : World) (v : Value) : Prop := v = .pointer none ∨ ∃ z, v = .pointer (some ⟨z, 0, none⟩) ∧ Blk w z [.slice none 0 0, .pointer none] 42
theorem NoT.below {w w' : World} {v : Value} (h : NoT w v) (hb : Below w.heap.size w w') : NoT w' v := by
  rcases h with rfl | ⟨z, rfl, hz⟩
  · exact .inl rfl
  · exact .inr ⟨z, rfl, hz.carry (hb.block _ hz.lt)⟩
theorem NoT.shape {w : World} {v : Value} (h : NoT w v) : ∃ p, v = .pointer p := by
  rcases h with rfl | ⟨z, rfl, hz⟩
  · exact ⟨_, rfl⟩
  · exact ⟨_, rfl⟩
set_option maxRecDepth 100000 in
theorem sortedN {w : World} {v : Value} (h : NoT w v) : Calls Tryz.prog 41 #[v] w fun e w' => e = .returned (.slice none 0 0) ∧ w' = w := by
  rcases h with rfl | ⟨z, rfl, hz⟩
  · go_enter Tryz.func41, Tryz.ntmps41
    go_wp2_with fail
    go_ret
    exact ⟨rfl, rfl⟩
  · have c0 := hz.cell 0 rfl
    clear hz
    go_enter Tryz.func41, Tryz.ntmps41
    go_wp2_with fail
    go_ret
    exact ⟨rfl, rfl⟩
set_option maxRecDepth 100000 in
theorem lenN {w : World} {v : Value} (h : NoT w v) : Calls Tryz.prog 19 #[v] w fun e w' => e = .returned (.int .i64 0) ∧ w' = w := by
  have S : Hid (Calls Tryz.prog 41 #[v] w fun e w' => e = .returned (.slice none 0 0) ∧ w' = w) := sortedN h
  obtain ⟨p, rfl⟩ := h.shape
  clear h
  go_enter Tryz.func19, Tryz.ntmps19
  go_wp2_with fail
  refine S.out.mono ?_
  rintro e w1 ⟨rfl, rfl⟩
  go_wp2_with fail
  go_ret
  exact ⟨rfl, rfl⟩
set_option maxRecDepth 100000 in
theorem blocksN {w : World} {v : Value} (h : NoT w v) : Calls Tryz.prog 20 #[v] w fun e w' => e = .returned (.int .i64 0) ∧ w' = w := by
  have S : Hid (Calls Tryz.prog 19 #[v] w fun e w' => e = .returned (.int .i64 0) ∧ w' = w) := lenN h
  have B : Hid (Calls Tryz.prog 45 #[.int .i64 0] w fun e w' => e = .returned (.int .i64 0) ∧ w' = w) := blocksOf_any 0 (by decide) w
  obtain ⟨p, rfl⟩ := h.shape
  clear h
  go_enter Tryz.func20, Tryz.ntmps20
  go_wp2_with fail
  refine S.out.mono ?_
  rintro e w1 ⟨rfl, rfl⟩
  go_wp2_with fail
  refine B.out.mono ?_
  rintro e w2 ⟨rfl, rfl⟩
  go_wp2_with fail
  go_ret
  exact ⟨rfl, rfl⟩
set_option maxRecDepth 100000 in
set_option maxHeartbeats 1000000 in
theorem fromN {w : World} {v : Value} (h : NoT w v) (k : Kb) : Calls Tryz.prog 40 #[v, k.v] w fun e w' => e = .returned (.slice none 0 0) ∧ Below w.heap.size w w' := by
  obtain ⟨wa, hwa⟩ : ∃ wa, wa = w.alloc (.cells #[.string k.t, .string k.p, .int .i64 k.r, .string k.c] 24) := ⟨_, rfl⟩
  have hba : Below w.heap.size w wa := by rw [hwa]; exact (Below.refl _ _).alloc (Nat.le_refl _) _
  have S : Hid (Calls Tryz.prog 41 #[v] wa fun e w' => e = .returned (.slice none 0 0) ∧ w' = wa) := sortedN (h.below hba)
  obtain ⟨wb, hwb⟩ : ∃ wb, wb = wa.alloc (.cells #[.slice none 0 0] 22) := ⟨_, rfl⟩
  have hbb : Below wa.heap.size wa wb := by rw [hwb]; exact (Below.refl _ _).alloc (Nat.le_refl _) _
  have B : Hid (Calls Tryz.prog 20 #[v] wb fun e w' => e = .returned (.int .i64 0) ∧ w' = wb) := blocksN ((h.below hba).below hbb)
  have hbz : Blk wb wa.heap.size [.slice none 0 0] 22 := by rw [hwb]; exact Blk.new wa _ _
  have hsz : wa.heap.size = w.heap.size + 1 := by rw [hwa]; simp
  have SE : Hid (Calls Tryz.prog 71 #[.int .i64 0, .func (.func 72) #[] #[.pointer (some ⟨w.heap.size + 1, 0, none⟩), .pointer (some ⟨w.heap.size, 0, none⟩)]] wb fun e w' => e = .returned (.int .i64 0) ∧ Below wb.heap.size wb w') := by
    refine (search_any 0 (by decide) (fun _ => true) #[.pointer (some ⟨w.heap.size + 1, 0, none⟩), .pointer (some ⟨w.heap.size, 0, none⟩)] wb (fun u i _ hi => by omega)).mono ?_
    rintro e w' ⟨j, rfl, hj, _, _, hb⟩
    obtain rfl : j = 0 := by omega
    exact ⟨rfl, hb⟩
  have HB : Hid (∀ u, Below wb.heap.size wb u → Below w.heap.size w u ∧ u.cell? ⟨w.heap.size + 1, 0, none⟩ = some (.slice none 0 0)) := fun u hu => by
    refine ⟨hba.trans ((hbb.trans (hu.mono hbb.size)).mono hba.size), ?_⟩
    rw [← hsz]
    exact (hu.cell hbz.lt).trans (hbz.cell 0 rfl)
  obtain ⟨p, rfl⟩ := h.shape
  obtain ⟨k1, k2, k3, k4⟩ := k
  simp only [Kb.v] at hwa ⊢
  rw [hwa] at hwb
  have hmx : IntKind.i64.wrap (-1) = -1 := by decide
  clear h hba hbb hbz hsz
  go_enter Tryz.func40, Tryz.ntmps40
  go_wp2_with fail
  rw [← hwa]
  refine S.out.mono ?_
  rintro e u1 ⟨rfl, rfl⟩
  go_wp2_with fail
  rw [← hwb]
  clear hwb hwa S
  refine B.out.mono ?_
  rintro e u2 ⟨rfl, rfl⟩
  clear B
  go_wp2_with fail
  refine SE.out.mono ?_
  rintro e u3 ⟨rfl, hu3⟩
  clear SE
  go_wp2_with fail
  go_loopw [7] (fun s7 wr => s7 = .int .i64 0 ∧ Below u2.heap.size u2 wr) (fun _ _ => 0)
  case atStart => exact ⟨rfl, hu3⟩
  case round =>
    obtain ⟨rfl, hbr⟩ := hrel
    have p0 : ∀ q : Cl wr.heap.size wr, q.u.cell? ⟨w.heap.size + 1, 0, none⟩ = some (.slice none 0 0) := fun q => (HB.out q.u (hbr.trans (q.h.mono hbr.size))).2
    haveI := Cl.inh wr.heap.size wr
    clear hu3
    go_wp2_with fail
    refine wp_region_sched (fun w' => ∃ p : Cl wr.heap.size wr, w' = p.u) [(0, true), (1, true), (2, true), (3, true), (4, true), (5, true), (6, true), (7, true), (8, true), (9, true), (10, true), (11, false), (12, true), (13, true)] rfl (by kernel_rfl) (by kernel_rfl) (by kernel_rfl) ⟨⟨_, (Below.refl _ _).drew⟩, rfl⟩ ?_
    iterate 11 (refine sched_pure rfl (fun K hK => ?_); go_simp; refine hK _ ?_; clear hK)
    refine sched_loud rfl (fun K hK => ?_)
    go_simp
    refine hK _ _ ⟨⟨_, (Below.refl _ _).drew⟩, rfl⟩ ?_
    clear hK
    iterate 2 (refine sched_pure rfl (fun K hK => ?_); go_simp; refine hK _ ?_; clear hK)
    refine sched_nil ?_
    have hbz : Below u2.heap.size u2 wr.drew := hbr.drew
    obtain ⟨hB, c0⟩ := HB.out wr.drew hbz
    clear p0
    go_wp2_with fail
    go_ret
    exact ⟨rfl, hB⟩
set_option maxRecDepth 100000 in
set_option maxHeartbeats 1000000 in
theorem scanN {w : World} {v : Value} (h : NoT w v) (k1 k2 : Kb) : Calls Tryz.prog 17 #[v, k1.v, k2.v] w fun e w' => (∃ ao cap, e = .returned (.slice ao 0 cap)) ∧ Below w.heap.size w w' := by
  obtain ⟨w0, hw0⟩ : ∃ w0, w0 = w.alloc (.cells #[.string k1.t, .string k1.p, .int .i64 k1.r, .string k1.c] 24) := ⟨_, rfl⟩
  have hb0 : Below w.heap.size w w0 := by rw [hw0]; exact (Below.refl _ _).alloc (Nat.le_refl _) _
  have hK0 : Blk w0 w.heap.size [.string k1.t, .string k1.p, .int .i64 k1.r, .string k1.c] 24 := by rw [hw0]; exact Blk.new w _ _
  have s0 : w0.heap.size = w.heap.size + 1 := by rw [hw0]; simp
  obtain ⟨w1, hw1⟩ : ∃ w1, w1 = w0.alloc (.cells #[.string k2.t, .string k2.p, .int .i64 k2.r, .string k2.c] 24) := ⟨_, rfl⟩
  have hb1 : Below w0.heap.size w0 w1 := by rw [hw1]; exact (Below.refl _ _).alloc (Nat.le_refl _) _
  have hJ1 : Blk w1 (w.heap.size + 1) [.string k2.t, .string k2.p, .int .i64 k2.r, .string k2.c] 24 := by rw [hw1, ← s0]; exact Blk.new w0 _ _
  have hK1 : Blk w1 w.heap.size [.string k1.t, .string k1.p, .int .i64 k1.r, .string k1.c] 24 := hK0.carry (hb1.block _ hK0.lt)
  have hb01 : Below w.heap.size w w1 := hb0.trans (hb1.mono hb0.size)
  have HN : Hid (∀ u, Below w1.heap.size w1 u → NoT u v) := fun u hu => (h.below hb01).below hu
  have F1 : Hid (∀ q : Cl w1.heap.size w1, Calls Tryz.prog 40 #[v, k1.v] q.u fun e w' => e = .returned (.slice none 0 0) ∧ Below q.u.heap.size q.u w') := fun q => fromN (HN.out q.u q.h) k1
  have F2 : Hid (∀ q : Cl w1.heap.size w1, Calls Tryz.prog 40 #[v, k2.v] q.u fun e w' => e = .returned (.slice none 0 0) ∧ Below q.u.heap.size q.u w') := fun q => fromN (HN.out q.u q.h) k2
  have CL : Hid (∀ u : World, Calls Tryz.prog 44 #[.slice none 0 0] u fun e w' => (∃ ao cap, e = .returned (.slice ao 0 cap)) ∧ Below u.heap.size u w') := fun u => by
    refine (cloneX_any none [] 0 u (fun i c hc => by simp at hc) (fun _ => rfl) (by simp)).mono ?_
    rintro e w' ⟨v', rfl, ho, hb⟩
    obtain ⟨a, c, hh, _⟩ := owns_xsees (l := []) ho
    exact ⟨⟨a, c, by rw [hh]; rfl⟩, hb⟩
  have lt1 := hK1.lt
  have lt2 := hJ1.lt
  have p0 : ∀ q : Cl w1.heap.size w1, q.u.cell? ⟨w.heap.size, 0, none⟩ = some (.string k1.t) := fun q => q.cell lt1 (hK1.cell 0 rfl)
  have p1 : ∀ q : Cl w1.heap.size w1, q.u.cell? ⟨w.heap.size, 1, none⟩ = some (.string k1.p) := fun q => q.cell lt1 (hK1.cell 1 rfl)
  have p2 : ∀ q : Cl w1.heap.size w1, q.u.cell? ⟨w.heap.size, 2, none⟩ = some (.int .i64 k1.r) := fun q => q.cell lt1 (hK1.cell 2 rfl)
  have p3 : ∀ q : Cl w1.heap.size w1, q.u.cell? ⟨w.heap.size, 3, none⟩ = some (.string k1.c) := fun q => q.cell lt1 (hK1.cell 3 rfl)
  have q0 : ∀ q : Cl w1.heap.size w1, q.u.cell? ⟨w.heap.size + 1, 0, none⟩ = some (.string k2.t) := fun q => q.cell lt2 (hJ1.cell 0 rfl)
  have q1 : ∀ q : Cl w1.heap.size w1, q.u.cell? ⟨w.heap.size + 1, 1, none⟩ = some (.string k2.p) := fun q => q.cell lt2 (hJ1.cell 1 rfl)
  have q2 : ∀ q : Cl w1.heap.size w1, q.u.cell? ⟨w.heap.size + 1, 2, none⟩ = some (.int .i64 k2.r) := fun q => q.cell lt2 (hJ1.cell 2 rfl)
  have q3 : ∀ q : Cl w1.heap.size w1, q.u.cell? ⟨w.heap.size + 1, 3, none⟩ = some (.string k2.c) := fun q => q.cell lt2 (hJ1.cell 3 rfl)
  obtain ⟨p, rfl⟩ := h.shape
  have HE : Hid (∀ u, Below w1.heap.size w1 u → Below w.heap.size w u) := fun u hu => hb01.trans (hu.mono hb01.size)
  clear hK0 hK1 hJ1 h s0 lt1 lt2 HN hb0 hb1 hb01
  obtain ⟨t1, c1, r1, e1⟩ := k1
  obtain ⟨t2, c2, r2, e2⟩ := k2
  simp only [Kb.v] at hw0 hw1 F1 F2 p0 p1 p2 p3 q0 q1 q2 q3 ⊢
  rw [hw0] at hw1
  haveI := Cl.inh w1.heap.size w1
  go_enter Tryz.func17, Tryz.ntmps17
  go_wp2_with fail
  rw [← hw1]
  clear hw1 hw0
  refine wp_region_sched (fun w' => ∃ p : Cl w1.heap.size w1, w' = p.u) [(0, true), (1, true), (3, true), (4, true), (2, false), (5, false), (6, true), (7, true)] rfl (by kernel_rfl) (by kernel_rfl) (by kernel_rfl) ⟨⟨_, (Below.refl _ _).drew⟩, rfl⟩ ?_
  iterate 4 (refine sched_pure rfl (fun K hK => ?_); go_simp; refine hK _ ?_; clear hK K)
  refine sched_loud rfl (fun K hK => ?_)
  go_simp
  refine (F1.out ⟨_, (Below.refl _ _).drew⟩).mono ?_
  rintro e x1 ⟨rfl, hx1⟩
  have b1 : Below w1.heap.size w1 x1 := (Below.refl _ _).drew.trans hx1
  refine hK _ _ ⟨⟨x1, b1⟩, rfl⟩ ?_
  clear hK K
  refine sched_loud rfl (fun K hK => ?_)
  go_simp
  refine (F2.out ⟨x1, b1⟩).mono ?_
  rintro e x2 ⟨rfl, hx2⟩
  have b2 : Below w1.heap.size w1 x2 := b1.trans (hx2.mono b1.size)
  refine hK _ _ ⟨⟨x2, b2⟩, rfl⟩ ?_
  clear hK K
  iterate 2 (refine sched_pure rfl (fun K hK => ?_); go_simp; refine hK _ ?_; clear hK K)
  refine sched_nil ?_
  go_wp2_with fail
  refine (CL.out _).mono ?_
  rintro e u ⟨⟨a, c, rfl⟩, hu⟩
  go_wp2_with fail
  go_ret
  exact ⟨⟨a, c, rfl⟩, HE.out u (b2.trans (hu.mono b2.size))⟩
set_option maxRecDepth 100000 in
theorem allN {w : World} {v : Value} (h : NoT w v) : Calls Tryz.prog 18 #[v] w fun e w' => (∃ ao cap, e = .returned (.slice ao 0 cap)) ∧ Below w.heap.size w w' := by
  have S : Hid (Calls Tryz.prog 41 #[v] w fun e w' => e = .returned (.slice none 0 0) ∧ w' = w) := sortedN h
  have CL : Hid (Calls Tryz.prog 44 #[.slice none 0 0] w fun e w' => (∃ ao cap, e = .returned (.slice ao 0 cap)) ∧ Below w.heap.size w w') := by
    refine (cloneX_any none [] 0 w (fun i c hc => by simp at hc) (fun _ => rfl) (by simp)).mono ?_
    rintro e w' ⟨v', rfl, ho, hb⟩
    obtain ⟨a, c, hh, _⟩ := owns_xsees (l := []) ho
    exact ⟨⟨a, c, by rw [hh]; rfl⟩, hb⟩
  obtain ⟨p, rfl⟩ := h.shape
  clear h
  go_enter Tryz.func18, Tryz.ntmps18
  go_wp2_with fail
  refine S.out.mono ?_
  rintro e w1 ⟨rfl, rfl⟩
  go_wp2_with fail
  refine CL.out.mono ?_
  rintro e w2 ⟨⟨a, c, rfl⟩, hb⟩
  go_wp2_with fail
  go_ret
  exact ⟨⟨a, c, rfl⟩, hb⟩
end Go.Proofs.YtdookhmaiapclaaGreatDoor
namespace Go.Proofs.YtdookhmaiapclaaGreatDoor
open Go.RowKit

theorem resX_row_tmp {P : Program} {fn : Func} {p u : Tmp} {ty : TypeId} (h : fn.results = #[.cell p ty, .tmp u]) (tmps : Array Value) (w : World) (g : Nat) (t : TypeId) (cs : Array Value) (fr : Nat × Nat) (d : TypeDesc) (v : Value)
    (hp : tmps.getD p undef = .pointer (some ⟨g, 0, none⟩)) (hv : tmps.getD u undef = v) (hg : w.heap[g]? = some (.cells cs t fr))
    (hu : P.underlying ty = some d) (hd : (match d with | .struct _ | .array _ _ => true | _ => false) = true) (hi : (P.info? ty).map (·.size) = some cs.size) :
    (results fn tmps).run P w = .ok (.tuple #[.agg cs, v]) w := by
  rw [results_cell_tmp h, hp, hv]
  simp [asAddr, run_loadVar_row w g t ty cs fr d hg hu hd hi, Result.andThen]
set_option maxRecDepth 100000 in
set_option maxHeartbeats 4000000 in
theorem refFind_any (ao : Option Addr) (l : List Cx) (cap : Nat) (k : Kb) (w : World) (hs : XSees w ao l) (hl : l.length ≤ 1000000) :
    Calls Tryz.prog 36 #[.slice ao l.length cap, k.v] w fun e w' => e = .returned (.tuple #[(fnd k l).1.v, .bool (fnd k l).2]) ∧ Below w.heap.size w w' := by
  have hlz : (l.length : Int) ≤ 1000000 := by omega
  obtain ⟨wa, hwa, ⟨b0, b1, b2, b3⟩, hz, hsz, hB⟩ := find_box w k
  have HF : Hid (∀ w', Below wa.heap.size wa w' → (w'.cell? ⟨w.heap.size, 0, none⟩ = some (.string k.t) ∧ w'.cell? ⟨w.heap.size, 1, none⟩ = some (.string k.p) ∧ w'.cell? ⟨w.heap.size, 2, none⟩ = some (.int .i64 k.r) ∧ w'.cell? ⟨w.heap.size, 3, none⟩ = some (.string k.c)) ∧ w'.heap[w.heap.size + 1]? = some (.cells zeroV.a 48) ∧ XSees w' ao l ∧ Below w.heap.size w w') := fun w' h => by
    have h1 : w.heap.size < wa.heap.size := by omega
    exact ⟨⟨by rw [h.cell h1, b0], by rw [h.cell h1, b1], by rw [h.cell h1, b2], by rw [h.cell h1, b3]⟩, by rw [h.block _ (by omega)]; exact hz, hs.below (hB.trans (h.mono hB.size)) (Nat.le_refl _), hB.trans (h.mono hB.size)⟩
  have HD : Hid (∀ i, i ≤ l.length → (∀ j c, j < i → l[j]? = some c → c.k ≠ k) → fnd k l = fnd k (l.drop i)) := fun i h1 h2 => fnd_drop i h1 h2
  clear b0 b1 b2 b3 hz hs hB hsz
  obtain ⟨kt, kp, kr, kcc⟩ := k
  simp only [Kb.v, zeroV, Vr.a] at hwa ⊢
  go_enter Tryz.func36, Tryz.ntmps36
  go_wp2_with fail
  rw [← hwa]
  clear hwa
  go_loopw [10] (fun s10 wr => ∃ i : Nat, i ≤ l.length ∧ s10 = .int .i64 i ∧ (∀ j c, j < i → l[j]? = some c → c.k ≠ ⟨kt, kp, kr, kcc⟩) ∧ Below wa.heap.size wa wr) (fun s10 _ => l.length - (intOf s10).toNat)
  case atStart => exact ⟨0, by omega, rfl, fun j c hj => by omega, Below.refl _ _⟩
  case round =>
    obtain ⟨i, hi, rfl, hne, hbr⟩ := hrel
    rcases Nat.lt_or_ge i l.length with hlt | hge
    · have hc : l[i]? = some l[i] := List.getElem?_eq_getElem hlt
      have hdr := HD.out i hi hne
      rw [List.drop_eq_getElem_cons hlt] at hdr
      generalize l[i] = c at *
      obtain ⟨-, -, hx, -⟩ := HF.out wr hbr
      obtain ⟨b, off, rfl, t⟩ := hx i c hc
      obtain ⟨wv, hwv⟩ : ∃ wv, wv = wr.alloc (.cells c.a 59) := ⟨_, rfl⟩
      have hbv : Below wa.heap.size wa wv := by rw [hwv]; exact hbr.alloc hbr.size _
      obtain ⟨⟨e0, e1, e2, e3⟩, hz, -, hBw⟩ := HF.out wv hbv
      have f0 := frozen_at hz 0
      have f1 := frozen_at hz 1
      have f2 := frozen_at hz 2
      have f3 := frozen_at hz 3
      have f4 := frozen_at hz 4
      have f5 := frozen_at hz 5
      obtain ⟨d1, d2, d3, d4, d5, d6⟩ := VAt.of hz
      simp only [Nat.zero_add] at d1 d2 d3 d4 d5 d6
      have HS : Hid (∀ v0 v1 v2 v3 v4 v5 : Value, ((((((wv.setCell ⟨w.heap.size + 1, 0, none⟩ v0).setCell ⟨w.heap.size + 1, 1, none⟩ v1).setCell ⟨w.heap.size + 1, 2, none⟩ v2).setCell ⟨w.heap.size + 1, 3, none⟩ v3).setCell ⟨w.heap.size + 1, 4, none⟩ v4).setCell ⟨w.heap.size + 1, 5, none⟩ v5).heap[w.heap.size + 1]? = some (.cells #[v0, v1, v2, v3, v4, v5] 48)) := set6 hz
      have HBB : Hid (∀ v0 v1 v2 v3 v4 v5 : Value, Below w.heap.size w ((((((wv.setCell ⟨w.heap.size + 1, 0, none⟩ v0).setCell ⟨w.heap.size + 1, 1, none⟩ v1).setCell ⟨w.heap.size + 1, 2, none⟩ v2).setCell ⟨w.heap.size + 1, 3, none⟩ v3).setCell ⟨w.heap.size + 1, 4, none⟩ v4).setCell ⟨w.heap.size + 1, 5, none⟩ v5)) := below6 hBw (by omega)
      rw [hwv] at e0 e1 e2 e3 f0 f1 f2 f3 f4 f5 d1 d2 d3 d4 d5 d6 HS HBB hbv
      have Hbv : Hid (Below wa.heap.size wa (wr.alloc (.cells c.a 59))) := hbv
      clear hz hBw hx hwv wv hbv
      obtain ⟨⟨ct, cp, cr, cc⟩, ⟨tm, dd, lc, kd, nm, st⟩⟩ := c
      obtain ⟨x0, x1, x2, x3, x4, x5, x6, x7, x8, x9⟩ := t
      simp only [Cx.a, zeroV] at *
      by_cases hck : (⟨ct, cp, cr, cc⟩ : Kb) = ⟨kt, kp, kr, kcc⟩
      · have HR : Hid (fnd ⟨kt, kp, kr, kcc⟩ l = (⟨tm, dd, lc, kd, nm, st⟩, true)) := hdr.trans (fnd_hit _ hck)
        clear hdr hne hc
        simp only [Kb.mk.injEq] at hck
        obtain ⟨rfl, rfl, rfl, rfl⟩ := hck
        go_wp2_with fail
        refine bodyPost_ret (v := .tuple #[.agg #[.int .i64 tm, .bool dd, .int .i64 lc, .int .i64 kd, .int .i64 nm, .string st], .bool true]) (resX_row_tmp Tryz.results36 _ _ (w.heap.size + 1) 48 _ _ _ _ rfl rfl (HS.out _ _ _ _ _ _) Tryz.underlying48 rfl (by kernel_rfl)) rfl ?_
        exact ⟨by rw [HR.out]; rfl, HBB.out _ _ _ _ _ _⟩
      · have HN : Hid (∀ j c, j < i + 1 → l[j]? = some c → c.k ≠ ⟨kt, kp, kr, kcc⟩) := fun j c hj hcj => by
          rcases Nat.lt_or_ge j i with g | g
          · exact hne j c g hcj
          · have : j = i := by omega
            rw [this, hc] at hcj
            rw [← Option.some.inj hcj]; exact hck
        have hkf := key_first hck
        clear hdr hne hc hck HS HBB f0 f1 f2 f3 f4 f5 d1 d2 d3 d4 d5 d6
        have hltz : (i : Int) < (l.length : Int) := by omega
        rcases hkf with h | ⟨rfl, h⟩ | ⟨rfl, rfl, h⟩ | ⟨rfl, rfl, rfl, h⟩ <;> (go_wp2_with fail; go_roundw; (case rel => exact ⟨i + 1, by omega, by go_num, HN.out, Hbv.out⟩); (case measure => (simp [intOf]; omega)))
    · have hi2 : i = l.length := by omega
      have hdr := HD.out i hi hne
      rw [hi2, List.drop_length] at hdr
      have HR : Hid (fnd ⟨kt, kp, kr, kcc⟩ l = (zeroV, false)) := hdr
      obtain ⟨-, hz, -, hBw⟩ := HF.out wr hbr
      have f0 := frozen_at hz 0
      have f1 := frozen_at hz 1
      have f2 := frozen_at hz 2
      have f3 := frozen_at hz 3
      have f4 := frozen_at hz 4
      have f5 := frozen_at hz 5
      obtain ⟨d1, d2, d3, d4, d5, d6⟩ := VAt.of hz
      simp only [Nat.zero_add, zeroV] at d1 d2 d3 d4 d5 d6
      have HS : Hid (∀ v0 v1 v2 v3 v4 v5 : Value, ((((((wr.setCell ⟨w.heap.size + 1, 0, none⟩ v0).setCell ⟨w.heap.size + 1, 1, none⟩ v1).setCell ⟨w.heap.size + 1, 2, none⟩ v2).setCell ⟨w.heap.size + 1, 3, none⟩ v3).setCell ⟨w.heap.size + 1, 4, none⟩ v4).setCell ⟨w.heap.size + 1, 5, none⟩ v5).heap[w.heap.size + 1]? = some (.cells #[v0, v1, v2, v3, v4, v5] 48)) := set6 hz
      have HBB : Hid (∀ v0 v1 v2 v3 v4 v5 : Value, Below w.heap.size w ((((((wr.setCell ⟨w.heap.size + 1, 0, none⟩ v0).setCell ⟨w.heap.size + 1, 1, none⟩ v1).setCell ⟨w.heap.size + 1, 2, none⟩ v2).setCell ⟨w.heap.size + 1, 3, none⟩ v3).setCell ⟨w.heap.size + 1, 4, none⟩ v4).setCell ⟨w.heap.size + 1, 5, none⟩ v5)) := below6 hBw (by omega)
      have hgez : ¬ (i : Int) < (l.length : Int) := by omega
      clear hdr hne hz hBw hi2
      go_wp2_with fail
      refine bodyPost_ret (v := .tuple #[.agg #[.int .i64 0, .bool false, .int .i64 0, .int .i64 0, .int .i64 0, .string ⟨#[]⟩], .bool false]) (resX_row_tmp Tryz.results36 _ _ (w.heap.size + 1) 48 _ _ _ _ rfl rfl (HS.out _ _ _ _ _ _) Tryz.underlying48 rfl (by kernel_rfl)) rfl ?_
      exact ⟨by rw [HR.out]; rfl, HBB.out _ _ _ _ _ _⟩
end Go.Proofs.YtdookhmaiapclaaGreatDoor
namespace Go.Proofs.YtdookhmaiapclaaGreatDoor
open Go.RowKit

attribute [local go_sem] Oper.pureAt Oper.pureUpon
theorem CutAt.ahead {l : List Cx} {k : Kb} {a : Nat} (h : CutAt l k a) : fnd k l = fnd k (l.drop a) := fnd_drop a h.le fun j c hj hc e => by
  have := h.lo j c hj hc
  rw [e] at this
  have h0 := (kc_cmpr.z k.ky k.ky).2 rfl
  omega
theorem CutAt.none {l : List Cx} {k : Kb} {a : Nat} (h : CutAt l k a) (ha : a = l.length) : fnd k l = (zeroV, false) := by
  rw [h.ahead, ha, List.drop_length]; rfl
theorem CutAt.hit {l : List Cx} {k : Kb} {a : Nat} (h : CutAt l k a) {c : Cx} (hc : l[a]? = some c) (hk : c.k = k) : fnd k l = (c.v, true) := by
  obtain ⟨hl, e⟩ := List.getElem?_eq_some_iff.1 hc
  rw [h.ahead, List.drop_eq_getElem_cons hl, e]
  exact fnd_hit _ hk
theorem fnd_nowhere {k : Kb} : ∀ {R : List Cx}, (∀ c ∈ R, c.k ≠ k) → fnd k R = (zeroV, false)
  | [], _ => rfl
  | c :: R, h => by rw [fnd_miss _ (h c (by simp))]; exact fnd_nowhere fun u hu => h u (by simp [hu])
theorem CutAt.miss {l : List Cx} (hR : Rising l) {k : Kb} {a : Nat} (h : CutAt l k a) {c : Cx} (hc : l[a]? = some c) (hk : c.k ≠ k) : fnd k l = (zeroV, false) := by
  rw [h.ahead]
  refine fnd_nowhere fun x hx e => ?_
  obtain ⟨i, hi, hxi⟩ := List.getElem_of_mem hx
  have hx2 : l[a + i]? = some x := by rw [← List.getElem?_drop, List.getElem?_eq_getElem hi, hxi]
  by_cases h0 : i = 0
  · subst h0
    rw [Nat.add_zero, hc] at hx2
    obtain rfl := Option.some.inj hx2
    exact hk e
  · have h1 := srt_lt hR (show a < a + i by omega) hc hx2
    have h2 := h.hi a c (Nat.le_refl _) hc
    rw [e] at h1
    omega
set_option maxRecDepth 100000 in
set_option maxHeartbeats 4000000 in
theorem getT_any {w : World} {T : Nat} {l : List Cx} (h : TAt w T l) (k : Kb) :
    Calls Tryz.prog 14 #[.pointer (some ⟨T, 0, none⟩), k.v] w fun e w' => e = .returned (.tuple #[(fnd k l).1.v, .bool (fnd k l).2]) ∧ Below w.heap.size w w' := by
  have hl9 := h.wrt.len
  have hR := h.rising
  obtain ⟨wa, hwa, ⟨b0, b1, b2, b3⟩, hz, hsz, hB⟩ := find_box w k
  have F : Hid (Calls Tryz.prog 40 #[.pointer (some ⟨T, 0, none⟩), k.v] wa fun e w' => ∃ a g o c, e = .returned (.slice (some ⟨g, o, none⟩) (l.length - a) c) ∧ CutAt l k a ∧ XSees w' (some ⟨g, o, none⟩) (l.drop a) ∧ l.length - a ≤ c ∧ g < wa.heap.size ∧ Below wa.heap.size wa w') := from_any (h.below hB) k
  have HF : Hid (∀ w', Below wa.heap.size wa w' → (w'.cell? ⟨w.heap.size, 0, none⟩ = some (.string k.t) ∧ w'.cell? ⟨w.heap.size, 1, none⟩ = some (.string k.p) ∧ w'.cell? ⟨w.heap.size, 2, none⟩ = some (.int .i64 k.r) ∧ w'.cell? ⟨w.heap.size, 3, none⟩ = some (.string k.c)) ∧ w'.heap[w.heap.size + 1]? = some (.cells zeroV.a 48) ∧ Below w.heap.size w w') := fun w' h => by
    have h1 : w.heap.size < wa.heap.size := by omega
    exact ⟨⟨by rw [h.cell h1, b0], by rw [h.cell h1, b1], by rw [h.cell h1, b2], by rw [h.cell h1, b3]⟩, by rw [h.block _ (by omega)]; exact hz, hB.trans (h.mono hB.size)⟩
  have hb0 := b0
  have hb1 := b1
  have hb2 := b2
  have hb3 := b3
  rw [hwa] at hb0 hb1 hb2 hb3
  have hwsz : w.heap.size < wa.heap.size := by omega
  clear b0 b1 b2 b3 hz hB hsz h
  obtain ⟨kt, kp, kr, kcc⟩ := k
  simp only [Kb.v, zeroV, Vr.a] at hwa F hb0 hb1 hb2 hb3 ⊢
  go_enter Tryz.func14, Tryz.ntmps14
  go_wp2_with fail
  rw [← hwa]
  clear hwa hb0 hb1 hb2 hb3
  refine F.out.mono ?_
  rintro e w1 ⟨a, g, o, cp, rfl, hCU, hx, hcp, hgl, hbb⟩
  clear F
  obtain ⟨⟨d0, d1, d2, d3⟩, -, -⟩ := HF.out w1 hbb
  have hlt1 : w.heap.size < w1.heap.size := Nat.lt_of_lt_of_le hwsz hbb.size
  have r0 : ∀ q : Cl w1.heap.size w1, q.u.cell? ⟨w.heap.size, 0, none⟩ = some (.string kt) := fun q => q.cell hlt1 d0
  have r1 : ∀ q : Cl w1.heap.size w1, q.u.cell? ⟨w.heap.size, 1, none⟩ = some (.string kp) := fun q => q.cell hlt1 d1
  have r2 : ∀ q : Cl w1.heap.size w1, q.u.cell? ⟨w.heap.size, 2, none⟩ = some (.int .i64 kr) := fun q => q.cell hlt1 d2
  have r3 : ∀ q : Cl w1.heap.size w1, q.u.cell? ⟨w.heap.size, 3, none⟩ = some (.string kcc) := fun q => q.cell hlt1 d3
  have hle := hCU.le
  obtain ⟨n, hn⟩ : ∃ n, n = l.length - a := ⟨_, rfl⟩
  rw [← hn] at hcp ⊢
  have hn9 : n ≤ 9000 := by omega
  obtain ⟨w2, hw2⟩ : ∃ w2, w2 = w1.drew := ⟨_, rfl⟩
  have hb2 : Below wa.heap.size wa w2 := by rw [hw2]; exact hbb.drew
  have hxd : Hid (∀ i x, (l.drop a)[i]? = some x → TenX w2 g (o + i * 10) x) := fun i x hi => by
    obtain ⟨b, of, e, t⟩ := hx i x hi
    cases e
    have := t.below ((Below.refl w1.heap.size w1).drew) t.lt
    rw [hw2]
    exact this
  haveI := Cl.inh w1.heap.size w1
  by_cases h0 : n = 0
  · have HR : Hid (fnd ⟨kt, kp, kr, kcc⟩ l = (zeroV, false)) := hCU.none (by omega)
    have dn : ((n : Int) == 0) = true := by rw [h0]; rfl
    obtain ⟨-, hz, hBw⟩ := HF.out w2 hb2
    have f0 := frozen_at hz 0
    have f1 := frozen_at hz 1
    have f2 := frozen_at hz 2
    have f3 := frozen_at hz 3
    have f4 := frozen_at hz 4
    have f5 := frozen_at hz 5
    obtain ⟨g1, g2, g3, g4, g5, g6⟩ := VAt.of hz
    simp only [Nat.zero_add, zeroV] at g1 g2 g3 g4 g5 g6
    have HS : Hid (∀ v0 v1 v2 v3 v4 v5 : Value, ((((((w2.setCell ⟨w.heap.size + 1, 0, none⟩ v0).setCell ⟨w.heap.size + 1, 1, none⟩ v1).setCell ⟨w.heap.size + 1, 2, none⟩ v2).setCell ⟨w.heap.size + 1, 3, none⟩ v3).setCell ⟨w.heap.size + 1, 4, none⟩ v4).setCell ⟨w.heap.size + 1, 5, none⟩ v5).heap[w.heap.size + 1]? = some (.cells #[v0, v1, v2, v3, v4, v5] 48)) := set6 hz
    have HBB : Hid (∀ v0 v1 v2 v3 v4 v5 : Value, Below w.heap.size w ((((((w2.setCell ⟨w.heap.size + 1, 0, none⟩ v0).setCell ⟨w.heap.size + 1, 1, none⟩ v1).setCell ⟨w.heap.size + 1, 2, none⟩ v2).setCell ⟨w.heap.size + 1, 3, none⟩ v3).setCell ⟨w.heap.size + 1, 4, none⟩ v4).setCell ⟨w.heap.size + 1, 5, none⟩ v5)) := below6 hBw (by omega)
    clear hz hBw hx hxd hCU hn hbb
    subst h0
    go_wp2_with fail
    refine wp_region_sched (fun w' => ∃ p : Cl w1.heap.size w1, w' = p.u) [(0, true), (1, true), (2, true), (3, true), (4, true), (5, true), (6, true), (7, true), (8, true), (9, true), (10, true)] rfl (by kernel_rfl) (by kernel_rfl) (by kernel_rfl) ⟨⟨_, (Below.refl _ _).drew⟩, rfl⟩ ?_
    iterate 11 (refine sched_pure rfl (fun K hK => ?_); go_simp; refine hK _ ?_; clear hK K)
    refine sched_nil ?_
    rw [← hw2]
    clear hw2
    go_wp2_with fail
    refine bodyPost_ret (v := .tuple #[.agg #[.int .i64 0, .bool false, .int .i64 0, .int .i64 0, .int .i64 0, .string ⟨#[]⟩], .bool false]) (resX_row_tmp Tryz.results14 _ _ (w.heap.size + 1) 48 _ _ _ _ rfl rfl (HS.out _ _ _ _ _ _) Tryz.underlying48 rfl (by kernel_rfl)) rfl ?_
    exact ⟨by rw [HR.out]; rfl, HBB.out _ _ _ _ _ _⟩
  · have hal : a < l.length := by omega
    have hc : l[a]? = some l[a] := List.getElem?_eq_getElem hal
    have hdn : ((n : Int) == 0) = false := by simp; omega
    have tt := hxd.out 0 l[a] (by rw [List.getElem?_drop, Nat.add_zero]; exact hc)
    have tu : TenX w1 g (o + 0 * 10) l[a] := by
      obtain ⟨b, of, e, t⟩ := hx 0 l[a] (by rw [List.getElem?_drop, Nat.add_zero]; exact hc)
      cases e
      exact t
    rw [Nat.zero_mul, Nat.add_zero] at tt tu
    have hglt := tu.lt
    have HHIT : Hid (l[a].k = ⟨kt, kp, kr, kcc⟩ → fnd ⟨kt, kp, kr, kcc⟩ l = (l[a].v, true)) := fun e => hCU.hit hc e
    have HMISS : Hid (l[a].k ≠ ⟨kt, kp, kr, kcc⟩ → fnd ⟨kt, kp, kr, kcc⟩ l = (zeroV, false)) := fun e => hCU.miss hR hc e
    generalize l[a] = c at *
    obtain ⟨⟨ct, cpp, cr, cc⟩, ⟨tm, dd, lc, kd, nm, st⟩⟩ := c
    obtain ⟨t0, t1, t2, t3, -, -, -, -, -, -⟩ := tu
    obtain ⟨-, -, -, -, x4, x5, x6, x7, x8, x9⟩ := tt
    simp only at t0 t1 t2 t3 x4 x5 x6 x7 x8 x9
    have q0 : ∀ q : Cl w1.heap.size w1, q.u.cell? ⟨g, o, none⟩ = some (.string ct) := fun q => q.cell hglt t0
    have q1 : ∀ q : Cl w1.heap.size w1, q.u.cell? ⟨g, o + 1, none⟩ = some (.string cpp) := fun q => q.cell hglt t1
    have q2 : ∀ q : Cl w1.heap.size w1, q.u.cell? ⟨g, o + 2, none⟩ = some (.int .i64 cr) := fun q => q.cell hglt t2
    have q3 : ∀ q : Cl w1.heap.size w1, q.u.cell? ⟨g, o + 3, none⟩ = some (.string cc) := fun q => q.cell hglt t3
    have hnz : (0 : Int) < (n : Int) := by omega
    have hn0 : 0 < n := by omega
    obtain ⟨-, hz, hBw⟩ := HF.out w2 hb2
    have f0 := frozen_at hz 0
    have f1 := frozen_at hz 1
    have f2 := frozen_at hz 2
    have f3 := frozen_at hz 3
    have f4 := frozen_at hz 4
    have f5 := frozen_at hz 5
    obtain ⟨g1, g2, g3, g4, g5, g6⟩ := VAt.of hz
    simp only [Nat.zero_add, zeroV] at g1 g2 g3 g4 g5 g6
    have HS : Hid (∀ v0 v1 v2 v3 v4 v5 : Value, ((((((w2.setCell ⟨w.heap.size + 1, 0, none⟩ v0).setCell ⟨w.heap.size + 1, 1, none⟩ v1).setCell ⟨w.heap.size + 1, 2, none⟩ v2).setCell ⟨w.heap.size + 1, 3, none⟩ v3).setCell ⟨w.heap.size + 1, 4, none⟩ v4).setCell ⟨w.heap.size + 1, 5, none⟩ v5).heap[w.heap.size + 1]? = some (.cells #[v0, v1, v2, v3, v4, v5] 48)) := set6 hz
    have HBB : Hid (∀ v0 v1 v2 v3 v4 v5 : Value, Below w.heap.size w ((((((w2.setCell ⟨w.heap.size + 1, 0, none⟩ v0).setCell ⟨w.heap.size + 1, 1, none⟩ v1).setCell ⟨w.heap.size + 1, 2, none⟩ v2).setCell ⟨w.heap.size + 1, 3, none⟩ v3).setCell ⟨w.heap.size + 1, 4, none⟩ v4).setCell ⟨w.heap.size + 1, 5, none⟩ v5)) := below6 hBw (by omega)
    clear hz hBw hx hxd hCU hn hbb t0 t1 t2 t3 hc
    by_cases hck : (⟨ct, cpp, cr, cc⟩ : Kb) = ⟨kt, kp, kr, kcc⟩
    · have HR := toHidE (HHIT.out hck)
      clear HHIT HMISS
      simp only [Kb.mk.injEq] at hck
      obtain ⟨rfl, rfl, rfl, rfl⟩ := hck
      go_wp2_with fail
      refine wp_region_sched (fun w' => ∃ p : Cl w1.heap.size w1, w' = p.u) [(0, true), (1, true), (2, true), (3, true), (4, true), (5, true), (6, true), (7, true), (8, true), (9, true), (10, true)] rfl (by kernel_rfl) (by kernel_rfl) (by kernel_rfl) ⟨⟨_, (Below.refl _ _).drew⟩, rfl⟩ ?_
      iterate 11 (refine sched_pure rfl (fun K hK => ?_); go_simp; refine hK _ ?_; clear hK K)
      refine sched_nil ?_
      rw [← hw2]
      clear hw2
      go_wp2_with fail
      refine bodyPost_ret (v := .tuple #[.agg #[.int .i64 tm, .bool dd, .int .i64 lc, .int .i64 kd, .int .i64 nm, .string st], .bool true]) (resX_row_tmp Tryz.results14 _ _ (w.heap.size + 1) 48 _ _ _ _ rfl rfl (HS.out _ _ _ _ _ _) Tryz.underlying48 rfl (by kernel_rfl)) rfl ?_
      exact ⟨by rw [HR.out]; rfl, HBB.out _ _ _ _ _ _⟩
    · have HR := toHidE (HMISS.out hck)
      clear HHIT HMISS
      have hkf := key_first hck
      clear hck x4 x5 x6 x7 x8 x9
      rcases hkf with h | ⟨rfl, h⟩ | ⟨rfl, rfl, h⟩ | ⟨rfl, rfl, rfl, h⟩
      · go_wp2_with fail
        refine wp_region_sched (fun w' => ∃ p : Cl w1.heap.size w1, w' = p.u) [(0, true), (1, true), (2, true), (3, true), (4, true), (5, true), (6, true), (7, true), (8, true), (9, true), (10, true)] rfl (by kernel_rfl) (by kernel_rfl) (by kernel_rfl) ⟨⟨_, (Below.refl _ _).drew⟩, rfl⟩ ?_
        iterate 11 (refine sched_pure rfl (fun K hK => ?_); go_simp; refine hK _ ?_; clear hK K)
        refine sched_nil ?_
        rw [← hw2]
        clear hw2
        go_wp2_with fail
        refine bodyPost_ret (v := .tuple #[.agg #[.int .i64 0, .bool false, .int .i64 0, .int .i64 0, .int .i64 0, .string ⟨#[]⟩], .bool false]) (resX_row_tmp Tryz.results14 _ _ (w.heap.size + 1) 48 _ _ _ _ rfl rfl (HS.out _ _ _ _ _ _) Tryz.underlying48 rfl (by kernel_rfl)) rfl ?_
        exact ⟨by rw [HR.out]; rfl, HBB.out _ _ _ _ _ _⟩
      · go_wp2_with fail
        refine wp_region_sched (fun w' => ∃ p : Cl w1.heap.size w1, w' = p.u) [(0, true), (1, true), (2, true), (3, true), (4, true), (5, true), (6, true), (7, true), (8, true), (9, true), (10, true)] rfl (by kernel_rfl) (by kernel_rfl) (by kernel_rfl) ⟨⟨_, (Below.refl _ _).drew⟩, rfl⟩ ?_
        iterate 11 (refine sched_pure rfl (fun K hK => ?_); go_simp; refine hK _ ?_; clear hK K)
        refine sched_nil ?_
        rw [← hw2]
        clear hw2
        go_wp2_with fail
        refine bodyPost_ret (v := .tuple #[.agg #[.int .i64 0, .bool false, .int .i64 0, .int .i64 0, .int .i64 0, .string ⟨#[]⟩], .bool false]) (resX_row_tmp Tryz.results14 _ _ (w.heap.size + 1) 48 _ _ _ _ rfl rfl (HS.out _ _ _ _ _ _) Tryz.underlying48 rfl (by kernel_rfl)) rfl ?_
        exact ⟨by rw [HR.out]; rfl, HBB.out _ _ _ _ _ _⟩
      · go_wp2_with fail
        refine wp_region_sched (fun w' => ∃ p : Cl w1.heap.size w1, w' = p.u) [(0, true), (1, true), (2, true), (3, true), (4, true), (5, true), (6, true), (7, true), (8, true), (9, true), (10, true)] rfl (by kernel_rfl) (by kernel_rfl) (by kernel_rfl) ⟨⟨_, (Below.refl _ _).drew⟩, rfl⟩ ?_
        iterate 11 (refine sched_pure rfl (fun K hK => ?_); go_simp; refine hK _ ?_; clear hK K)
        refine sched_nil ?_
        rw [← hw2]
        clear hw2
        go_wp2_with fail
        refine bodyPost_ret (v := .tuple #[.agg #[.int .i64 0, .bool false, .int .i64 0, .int .i64 0, .int .i64 0, .string ⟨#[]⟩], .bool false]) (resX_row_tmp Tryz.results14 _ _ (w.heap.size + 1) 48 _ _ _ _ rfl rfl (HS.out _ _ _ _ _ _) Tryz.underlying48 rfl (by kernel_rfl)) rfl ?_
        exact ⟨by rw [HR.out]; rfl, HBB.out _ _ _ _ _ _⟩
      · go_wp2_with fail
        refine wp_region_sched (fun w' => ∃ p : Cl w1.heap.size w1, w' = p.u) [(0, true), (1, true), (2, true), (3, true), (4, true), (5, true), (6, true), (7, true), (8, true), (9, true), (10, true)] rfl (by kernel_rfl) (by kernel_rfl) (by kernel_rfl) ⟨⟨_, (Below.refl _ _).drew⟩, rfl⟩ ?_
        iterate 11 (refine sched_pure rfl (fun K hK => ?_); go_simp; refine hK _ ?_; clear hK K)
        refine sched_nil ?_
        rw [← hw2]
        clear hw2
        go_wp2_with fail
        refine bodyPost_ret (v := .tuple #[.agg #[.int .i64 0, .bool false, .int .i64 0, .int .i64 0, .int .i64 0, .string ⟨#[]⟩], .bool false]) (resX_row_tmp Tryz.results14 _ _ (w.heap.size + 1) 48 _ _ _ _ rfl rfl (HS.out _ _ _ _ _ _) Tryz.underlying48 rfl (by kernel_rfl)) rfl ?_
        exact ⟨by rw [HR.out]; rfl, HBB.out _ _ _ _ _ _⟩
end Go.Proofs.YtdookhmaiapclaaGreatDoor
namespace Go.Proofs.YtdookhmaiapclaaGreatDoor
open Go.RowKit

attribute [local go_sem] Oper.pureAt Oper.pureUpon
theorem resX_rows {P : Program} {fn : Func} {p q u : Tmp} {ty : TypeId} (h : fn.results = #[.cell p ty, .cell q ty, .tmp u]) (tmps : Array Value) (w : World) (g1 g2 : Nat) (t : TypeId) (cs1 cs2 : Array Value) (fr1 fr2 : Nat × Nat) (d : TypeDesc) (v : Value)
    (hp : tmps.getD p undef = .pointer (some ⟨g1, 0, none⟩)) (hq : tmps.getD q undef = .pointer (some ⟨g2, 0, none⟩)) (hv : tmps.getD u undef = v) (hg1 : w.heap[g1]? = some (.cells cs1 t fr1)) (hg2 : w.heap[g2]? = some (.cells cs2 t fr2))
    (hu : P.underlying ty = some d) (hd : (match d with | .struct _ | .array _ _ => true | _ => false) = true) (hi1 : (P.info? ty).map (·.size) = some cs1.size) (hi2 : (P.info? ty).map (·.size) = some cs2.size) :
    (results fn tmps).run P w = .ok (.tuple #[.agg cs1, .agg cs2, v]) w := by
  rw [Array.getD_eq_getD_getElem?] at hp hq hv
  simp only [results, h]
  simp [Sem.run_bind, Result.andThen, hp, hq, hv, asAddr, run_loadVar_row w g1 t ty cs1 fr1 d hg1 hu hd hi1, run_loadVar_row w g2 t ty cs2 fr2 d hg2 hu hd hi2]
theorem set_other {w : World} {g : Nat} {cs : List Value} {t : TypeId} (h : Blk w g cs t) {g' : Nat} (hne : g' ≠ g) (i : Nat) (v : Value) : Blk (w.setCell ⟨g', i, none⟩ v) g cs t := h.carry (by
  simp only [World.setCell, Array.getElem?_modify]
  rw [if_neg (by simpa using hne)])
theorem set4 {w : World} {g : Nat} {a b c d : Value} {t : TypeId} (h : Blk w g [a, b, c, d] t) (v0 v1 v2 v3 : Value) :
    Blk ((((w.setCell ⟨g, 0, none⟩ v0).setCell ⟨g, 1, none⟩ v1).setCell ⟨g, 2, none⟩ v2).setCell ⟨g, 3, none⟩ v3) g [v0, v1, v2, v3] t := (((h.set 0 v0).set 1 v1).set 2 v2).set 3 v3
theorem set4_other {w : World} {g : Nat} {cs : List Value} {t : TypeId} (h : Blk w g cs t) {g' : Nat} (hne : g' ≠ g) (v0 v1 v2 v3 : Value) :
    Blk ((((w.setCell ⟨g', 0, none⟩ v0).setCell ⟨g', 1, none⟩ v1).setCell ⟨g', 2, none⟩ v2).setCell ⟨g', 3, none⟩ v3) g cs t := set_other (set_other (set_other (set_other h hne 0 v0) hne 1 v1) hne 2 v2) hne 3 v3
theorem below4 {B : Nat} {w w1 : World} (h : Below B w w1) {g : Nat} (hg : B ≤ g) (v0 v1 v2 v3 : Value) : Below B w ((((w1.setCell ⟨g, 0, none⟩ v0).setCell ⟨g, 1, none⟩ v1).setCell ⟨g, 2, none⟩ v2).setCell ⟨g, 3, none⟩ v3) := (((h.setCell hg v0).setCell hg v1).setCell hg v2).setCell hg v3
set_option maxRecDepth 100000 in
set_option maxHeartbeats 2000000 in
theorem endsT_any {w : World} {T : Nat} {l : List Cx} (h : TAt w T l) {c d : Cx} (hc : l[0]? = some c) (hd : l[l.length - 1]? = some d) :
    Calls Tryz.prog 15 #[.pointer (some ⟨T, 0, none⟩)] w fun e w' => e = .returned (.tuple #[c.k.v, d.k.v, .bool true]) ∧ Below w.heap.size w w' := by
  have hl9 := h.wrt.len
  have hpos := h.pos
  obtain ⟨fm, g, cap, hB, hx, hcap, hctop, hgl, -⟩ := h.cells
  obtain ⟨wa, hwa⟩ : ∃ wa, wa = (w.alloc (.cells #[.string ⟨#[]⟩, .string ⟨#[]⟩, .int .i64 0, .string ⟨#[]⟩] 24)).alloc (.cells #[.string ⟨#[]⟩, .string ⟨#[]⟩, .int .i64 0, .string ⟨#[]⟩] 24) := ⟨_, rfl⟩
  have hba : Below w.heap.size w wa := by rw [hwa]; exact ((Below.refl _ _).alloc (Nat.le_refl _) _).alloc (by simp) _
  have hK : Blk wa w.heap.size [.string ⟨#[]⟩, .string ⟨#[]⟩, .int .i64 0, .string ⟨#[]⟩] 24 := by rw [hwa]; exact (Blk.new w _ _).alloc _
  have hJ : Blk wa (w.heap.size + 1) [.string ⟨#[]⟩, .string ⟨#[]⟩, .int .i64 0, .string ⟨#[]⟩] 24 := by
    have := Blk.new (w.alloc (.cells #[.string ⟨#[]⟩, .string ⟨#[]⟩, .int .i64 0, .string ⟨#[]⟩] 24)) [.string ⟨#[]⟩, .string ⟨#[]⟩, .int .i64 0, .string ⟨#[]⟩] 24
    rw [World.size_alloc] at this
    rw [hwa]; exact this
  have SO : Hid (Calls Tryz.prog 41 #[.pointer (some ⟨T, 0, none⟩)] wa fun e w' => e = .returned (.slice (some ⟨g, 0, none⟩) l.length cap) ∧ w' = wa) := sorted_at (hB.carry (hba.block _ hB.lt))
  have hxa := hx.below hba (Nat.le_refl _)
  obtain ⟨b1, o1, e1, t1⟩ := hxa 0 c hc
  cases e1
  obtain ⟨b2, o2, e2, t2⟩ := hxa (l.length - 1) d hd
  cases e2
  obtain ⟨n, hn⟩ : ∃ n, l.length = n + 1 := ⟨l.length - 1, by omega⟩
  rw [hn, Nat.add_sub_cancel] at t2
  rw [Nat.zero_mul, Nat.add_zero] at t1
  rw [Nat.zero_add] at t2
  rw [hn] at SO hcap hl9
  have hnz : ((n : Int) + 1) - 1 = (n : Int) := by omega
  have hnz2 : (((n + 1 : Nat)) : Int) - 1 = (n : Int) := by omega
  have hn0 : (((n + 1 : Nat) : Int) == 0) = false := by rw [beq_eq_false_iff_ne]; omega
  have hn02 : (((n : Int) + 1) == 0) = false := by rw [beq_eq_false_iff_ne]; omega
  have hgw : g < w.heap.size := hgl
  obtain ⟨⟨ct, cp, cr, cc⟩, cv⟩ := c
  obtain ⟨⟨dt, dp, dr, dc⟩, dv⟩ := d
  obtain ⟨s0, s1, s2, s3, -, -, -, -, -, -⟩ := t1
  obtain ⟨u0, u1, u2, u3, -, -, -, -, -, -⟩ := t2
  simp only at s0 s1 s2 s3 u0 u1 u2 u3
  have HEND : Hid (∀ u, Below wa.heap.size wa u → Blk u w.heap.size [.string ⟨#[]⟩, .string ⟨#[]⟩, .int .i64 0, .string ⟨#[]⟩] 24 ∧ Blk u (w.heap.size + 1) [.string ⟨#[]⟩, .string ⟨#[]⟩, .int .i64 0, .string ⟨#[]⟩] 24 ∧ Below w.heap.size w u) := fun u hu => ⟨hK.carry (hu.block _ hK.lt), hJ.carry (hu.block _ hJ.lt), hba.trans (hu.mono hba.size)⟩
  have p0 : ∀ q : Cl w.heap.size wa, q.u.cell? ⟨g, 0, none⟩ = some (.string ct) := fun q => q.cell hgw s0
  have p1 : ∀ q : Cl w.heap.size wa, q.u.cell? ⟨g, 1, none⟩ = some (.string cp) := fun q => q.cell hgw s1
  have p2 : ∀ q : Cl w.heap.size wa, q.u.cell? ⟨g, 2, none⟩ = some (.int .i64 cr) := fun q => q.cell hgw s2
  have p3 : ∀ q : Cl w.heap.size wa, q.u.cell? ⟨g, 3, none⟩ = some (.string cc) := fun q => q.cell hgw s3
  have q0 : ∀ q : Cl w.heap.size wa, q.u.cell? ⟨g, n * 10, none⟩ = some (.string dt) := fun q => q.cell hgw u0
  have q1 : ∀ q : Cl w.heap.size wa, q.u.cell? ⟨g, n * 10 + 1, none⟩ = some (.string dp) := fun q => q.cell hgw u1
  have q2 : ∀ q : Cl w.heap.size wa, q.u.cell? ⟨g, n * 10 + 2, none⟩ = some (.int .i64 dr) := fun q => q.cell hgw u2
  have q3 : ∀ q : Cl w.heap.size wa, q.u.cell? ⟨g, n * 10 + 3, none⟩ = some (.string dc) := fun q => q.cell hgw u3
  clear s0 s1 s2 s3 u0 u1 u2 u3 hx hxa hB h hc hd hK hJ hba
  simp only [Kb.v]
  haveI := Cl.inh w.heap.size wa
  go_enter Tryz.func15, Tryz.ntmps15
  go_wp2_with fail
  rw [← hwa]
  clear hwa
  refine SO.out.mono ?_
  rintro e w1 ⟨rfl, he0⟩
  have he1 : wa = w1 := he0.symm
  subst he1
  clear SO he0
  go_wp2_with fail
  obtain ⟨K1, J1, B1⟩ := HEND.out _ (Below.refl _ _)
  clear HEND
  have HW : Hid (IntKind.i64.wrap (n : Int) = (n : Int)) := by show _ = _; rw [IntKind.wrap_i64]; omega
  have hn00 : (0 : Int) ≤ (n : Int) := by omega
  have hn01 : (n : Int) < (n : Int) + 1 := by omega
  have f0 := K1.frozen 0
  have f1 := K1.frozen 1
  have f2 := K1.frozen 2
  have f3 := K1.frozen 3
  have k0 := K1.cell 0 rfl
  have k1 := K1.cell 1 rfl
  have k2 := K1.cell 2 rfl
  have k3 := K1.cell 3 rfl
  refine wp_region_sched (fun w' => ∃ p : Cl w.heap.size wa, w' = p.u) [(0, true), (1, true), (2, true), (3, true), (4, true), (5, true), (6, true), (7, true), (8, true), (9, true), (10, true), (11, false), (12, false), (13, true)] rfl (by kernel_rfl) (by kernel_rfl) (by kernel_rfl) ⟨⟨_, (Below.refl _ _).drew⟩, rfl⟩ ?_
  iterate 8 (refine sched_pure rfl (fun K hK => ?_); go_simp; refine hK _ ?_; clear hK K)
  rw [HW.out]
  iterate 3 (refine sched_pure rfl (fun K hK => ?_); go_simp; refine hK _ ?_; clear hK K)
  refine sched_loud rfl (fun KK hK => ?_)
  go_simp
  obtain ⟨W5, hW5⟩ : ∃ W5, W5 = (((wa.setCell ⟨w.heap.size, 0, none⟩ (.string ct)).setCell ⟨w.heap.size, 1, none⟩ (.string cp)).setCell ⟨w.heap.size, 2, none⟩ (.int .i64 cr)).setCell ⟨w.heap.size, 3, none⟩ (.string cc) := ⟨_, rfl⟩
  have K5 : Blk W5 w.heap.size [.string ct, .string cp, .int .i64 cr, .string cc] 24 := by rw [hW5]; exact set4 K1 _ _ _ _
  have J5 : Blk W5 (w.heap.size + 1) [.string ⟨#[]⟩, .string ⟨#[]⟩, .int .i64 0, .string ⟨#[]⟩] 24 := by rw [hW5]; exact set4_other J1 (by omega) _ _ _ _
  have B5 : Below w.heap.size w W5 := by rw [hW5]; exact below4 B1 (Nat.le_refl _) _ _ _ _
  have C5 : Below w.heap.size wa W5 := by rw [hW5]; exact below4 (Below.refl _ _) (Nat.le_refl _) _ _ _ _
  rw [← hW5]
  refine hK _ _ ⟨⟨_, C5.drew⟩, rfl⟩ ?_
  clear hK KK hW5 f0 f1 f2 f3 k0 k1 k2 k3 K1 J1
  have f0 := J5.frozen 0
  have f1 := J5.frozen 1
  have f2 := J5.frozen 2
  have f3 := J5.frozen 3
  have k0 := J5.cell 0 rfl
  have k1 := J5.cell 1 rfl
  have k2 := J5.cell 2 rfl
  have k3 := J5.cell 3 rfl
  refine sched_loud rfl (fun KK hK => ?_)
  go_simp
  obtain ⟨W9, hW9⟩ : ∃ W9, W9 = (((W5.setCell ⟨w.heap.size + 1, 0, none⟩ (.string dt)).setCell ⟨w.heap.size + 1, 1, none⟩ (.string dp)).setCell ⟨w.heap.size + 1, 2, none⟩ (.int .i64 dr)).setCell ⟨w.heap.size + 1, 3, none⟩ (.string dc) := ⟨_, rfl⟩
  have J9 : Blk W9 (w.heap.size + 1) [.string dt, .string dp, .int .i64 dr, .string dc] 24 := by rw [hW9]; exact set4 J5 _ _ _ _
  have K9 : Blk W9 w.heap.size [.string ct, .string cp, .int .i64 cr, .string cc] 24 := by rw [hW9]; exact set4_other K5 (by omega) _ _ _ _
  have B9 : Below w.heap.size w W9 := by rw [hW9]; exact below4 B5 (by omega) _ _ _ _
  have C9 : Below w.heap.size wa W9 := by rw [hW9]; exact below4 C5 (by omega) _ _ _ _
  rw [← hW9]
  refine hK _ _ ⟨⟨_, C9.drew⟩, rfl⟩ ?_
  clear hK KK hW9 f0 f1 f2 f3 k0 k1 k2 k3 K5 J5
  iterate 1 (refine sched_pure rfl (fun K hK => ?_); go_simp; refine hK _ ?_; clear hK K)
  refine sched_nil ?_
  have K10 : Blk W9.drew w.heap.size [.string ct, .string cp, .int .i64 cr, .string cc] 24 := K9
  have J10 : Blk W9.drew (w.heap.size + 1) [.string dt, .string dp, .int .i64 dr, .string dc] 24 := J9
  have B10 : Below w.heap.size w W9.drew := B9.drew
  clear K9 J9 B9 C9 C5 B5 B1
  generalize W9.drew = WX at *
  go_wp2_with fail
  refine bodyPost_ret (v := .tuple #[.agg #[.string ct, .string cp, .int .i64 cr, .string cc], .agg #[.string dt, .string dp, .int .i64 dr, .string dc], .bool true]) (resX_rows Tryz.results15 _ _ w.heap.size (w.heap.size + 1) 24 _ _ _ _ _ _ rfl rfl rfl K10 J10 Tryz.underlying24 rfl (by kernel_rfl) (by kernel_rfl)) rfl ?_
  exact ⟨rfl, B10⟩
end Go.Proofs.YtdookhmaiapclaaGreatDoor
namespace Go.Proofs.YtdookhmaiapclaaGreatDoor
open Go.RowKit

attribute [local go_sem] Oper.pureAt Oper.pureUpon
set_option maxRecDepth 100000 in
set_option maxHeartbeats 1000000 in
theorem mayT_any {w : World} {T : Nat} {l : List Cx} (h : TAt w T l) (k : Kb) (hk : k.Big) :
    Calls Tryz.prog 16 #[.pointer (some ⟨T, 0, none⟩), k.v] w fun e w' => e = .returned (.bool (mayK (filB l.length l) (sumB (encK k.ky) 0#64) 7)) ∧ Below w.heap.size w w' := by
  obtain ⟨fm, g, cap, hB, hx, hcap, hctop, hgl, hF⟩ := h.cells
  obtain ⟨w0, hw0⟩ : ∃ w0, w0 = w.alloc (.cells #[.string k.t, .string k.p, .int .i64 k.r, .string k.c] 24) := ⟨_, rfl⟩
  have hb0 : Below w.heap.size w w0 := by rw [hw0]; exact (Below.refl _ _).alloc (Nat.le_refl _) _
  have hK0 : Blk w0 w.heap.size [.string k.t, .string k.p, .int .i64 k.r, .string k.c] 24 := by rw [hw0]; exact Blk.new w _ _
  have hKL := toHidE hb0
  have K : Hid (∀ u, Below w0.heap.size w0 u → Calls Tryz.prog 43 #[k.v] u fun e w' => ∃ v, e = .returned v ∧ Aw u w' v (encK k.ky)) := fun u _ => bytes_big k u hk
  have hkl : (encK k.ky).length ≤ 20000000 := by
    have h1 := encT_le k.t (Nat.le_trans hk.t (by decide))
    have h2 := encT_le k.p (Nat.le_trans hk.p (by decide))
    have h3 := encT_le k.c (Nat.le_trans hk.c (by decide))
    have h4 : (encR k.r).length = 8 := be_length _ _
    have h5 := hk.t
    have h6 := hk.p
    have h7 := hk.c
    unfold encK Kb.ky
    simp only [List.length_append]
    omega
  have hB0 : Blk w0 T [.slice (some ⟨g, 0, none⟩) l.length cap, fm.v] 42 := hB.carry (hb0.block _ hB.lt)
  have HF : Hid (∀ u, Below w0.heap.size w0 u → FAt u fm 7 (filB l.length l)) := fun u hu => (hF.below hb0 (Nat.le_refl _)).below hu (Nat.le_refl _)
  have lt1 := hK0.lt
  have lt2 := hB0.lt
  have p0 : ∀ q : Cl w0.heap.size w0, q.u.cell? ⟨w.heap.size, 0, none⟩ = some (.string k.t) := fun q => q.cell lt1 (hK0.cell 0 rfl)
  have p1 : ∀ q : Cl w0.heap.size w0, q.u.cell? ⟨w.heap.size, 1, none⟩ = some (.string k.p) := fun q => q.cell lt1 (hK0.cell 1 rfl)
  have p2 : ∀ q : Cl w0.heap.size w0, q.u.cell? ⟨w.heap.size, 2, none⟩ = some (.int .i64 k.r) := fun q => q.cell lt1 (hK0.cell 2 rfl)
  have p3 : ∀ q : Cl w0.heap.size w0, q.u.cell? ⟨w.heap.size, 3, none⟩ = some (.string k.c) := fun q => q.cell lt1 (hK0.cell 3 rfl)
  have q1 : ∀ q : Cl w0.heap.size w0, q.u.cell? ⟨T, 1, none⟩ = some fm.v := fun q => q.cell lt2 (hB0.cell 1 rfl)
  clear hK0 hB hB0 hx h hF hk lt1 lt2
  generalize encK k.ky = bs at *
  generalize filB l.length l = fl at *
  obtain ⟨kt, kp, kr, kcc⟩ := k
  simp only [Kb.v] at hw0 K p0 p1 p2 p3 ⊢
  haveI := Cl.inh w0.heap.size w0
  go_enter Tryz.func16, Tryz.ntmps16
  go_wp2_with fail
  rw [← hw0]
  clear hw0
  refine wp_region_sched (fun w' => ∃ p : Cl w0.heap.size w0, w' = p.u) [(0, true), (1, true), (2, true), (3, true), (4, true), (5, false), (6, false), (7, true)] rfl (by kernel_rfl) (by kernel_rfl) (by kernel_rfl) ⟨⟨_, (Below.refl _ _).drew⟩, rfl⟩ ?_
  iterate 5 (refine sched_pure rfl (fun K hK => ?_); go_simp; refine hK _ ?_; clear hK K)
  refine sched_loud rfl (fun KK hK => ?_)
  go_simp
  refine (K.out _ (Below.refl _ _).drew).mono ?_
  rintro e u1 ⟨v, rfl, A⟩
  have z1 : Below w0.heap.size w0 u1 := (Below.refl _ w0).drew.trans A.bel
  refine hK _ _ ⟨⟨u1, z1⟩, rfl⟩ ?_
  clear hK KK
  obtain ⟨ao, c1, rfl, s1, -, -⟩ := owns_sees A.own
  have hcc : bs.length ≤ c1 := by
    rcases A.own.2 with ⟨h1, h2⟩ | ⟨g, cap', cur, h, _, _, hn, _⟩
    · omega
    · cases h; exact hn
  refine sched_loud rfl (fun KK hK => ?_)
  go_simp
  refine (may_any (HF.out u1 z1) ao bs c1 (by omega) hcc s1).mono ?_
  rintro e u2 ⟨rfl, hb2⟩
  have z2 : Below w0.heap.size w0 u2 := z1.trans (hb2.mono z1.size)
  refine hK _ _ ⟨⟨u2, z2⟩, rfl⟩ ?_
  clear hK KK
  iterate 1 (refine sched_pure rfl (fun K hK => ?_); go_simp; refine hK _ ?_; clear hK K)
  refine sched_nil ?_
  go_wp2_with fail
  go_ret
  exact ⟨rfl, (Hid.out hKL).trans (z2.mono (Hid.out hKL).size)⟩
end Go.Proofs.YtdookhmaiapclaaGreatDoor
namespace Go.Proofs.YtdookhmaiapclaaGreatDoor
open Go.RowKit

attribute [local go_sem] Oper.pureAt Oper.pureUpon
set_option maxRecDepth 100000 in
set_option maxHeartbeats 4000000 in
theorem getNo {w : World} {v : Value} (h : NoT w v) (k : Kb) :
    Calls Tryz.prog 14 #[v, k.v] w fun e w' => e = .returned (.tuple #[.agg #[.int .i64 0, .bool false, .int .i64 0, .int .i64 0, .int .i64 0, .string ⟨#[]⟩], .bool false]) ∧ Below w.heap.size w w' := by
  obtain ⟨wa, hwa, ⟨b0, b1, b2, b3⟩, hz, hsz, hB⟩ := find_box w k
  have F : Hid (Calls Tryz.prog 40 #[v, k.v] wa fun e w' => e = .returned (.slice none 0 0) ∧ Below wa.heap.size wa w') := fromN (h.below hB) k
  have HF : Hid (∀ w', Below wa.heap.size wa w' → (w'.cell? ⟨w.heap.size, 0, none⟩ = some (.string k.t) ∧ w'.cell? ⟨w.heap.size, 1, none⟩ = some (.string k.p) ∧ w'.cell? ⟨w.heap.size, 2, none⟩ = some (.int .i64 k.r) ∧ w'.cell? ⟨w.heap.size, 3, none⟩ = some (.string k.c)) ∧ w'.heap[w.heap.size + 1]? = some (.cells zeroV.a 48) ∧ Below w.heap.size w w') := fun w' h => by
    have h1 : w.heap.size < wa.heap.size := by omega
    exact ⟨⟨by rw [h.cell h1, b0], by rw [h.cell h1, b1], by rw [h.cell h1, b2], by rw [h.cell h1, b3]⟩, by rw [h.block _ (by omega)]; exact hz, hB.trans (h.mono hB.size)⟩
  have hb0 := b0
  have hb1 := b1
  have hb2 := b2
  have hb3 := b3
  rw [hwa] at hb0 hb1 hb2 hb3
  have hwsz : w.heap.size < wa.heap.size := by omega
  obtain ⟨p, rfl⟩ := h.shape
  clear b0 b1 b2 b3 hz hB hsz h
  obtain ⟨kt, kp, kr, kcc⟩ := k
  simp only [Kb.v, zeroV, Vr.a] at hwa F hb0 hb1 hb2 hb3 ⊢
  go_enter Tryz.func14, Tryz.ntmps14
  go_wp2_with fail
  rw [← hwa]
  clear hwa hb0 hb1 hb2 hb3
  refine F.out.mono ?_
  rintro e w1 ⟨rfl, hbb⟩
  clear F
  obtain ⟨⟨d0, d1, d2, d3⟩, -, -⟩ := HF.out w1 hbb
  have hlt1 : w.heap.size < w1.heap.size := Nat.lt_of_lt_of_le hwsz hbb.size
  have r0 : ∀ q : Cl w1.heap.size w1, q.u.cell? ⟨w.heap.size, 0, none⟩ = some (.string kt) := fun q => q.cell hlt1 d0
  have r1 : ∀ q : Cl w1.heap.size w1, q.u.cell? ⟨w.heap.size, 1, none⟩ = some (.string kp) := fun q => q.cell hlt1 d1
  have r2 : ∀ q : Cl w1.heap.size w1, q.u.cell? ⟨w.heap.size, 2, none⟩ = some (.int .i64 kr) := fun q => q.cell hlt1 d2
  have r3 : ∀ q : Cl w1.heap.size w1, q.u.cell? ⟨w.heap.size, 3, none⟩ = some (.string kcc) := fun q => q.cell hlt1 d3
  obtain ⟨w2, hw2⟩ : ∃ w2, w2 = w1.drew := ⟨_, rfl⟩
  have hb2 : Below wa.heap.size wa w2 := by rw [hw2]; exact hbb.drew
  haveI := Cl.inh w1.heap.size w1
  obtain ⟨-, hz, hBw⟩ := HF.out w2 hb2
  have f0 := frozen_at hz 0
  have f1 := frozen_at hz 1
  have f2 := frozen_at hz 2
  have f3 := frozen_at hz 3
  have f4 := frozen_at hz 4
  have f5 := frozen_at hz 5
  obtain ⟨g1, g2, g3, g4, g5, g6⟩ := VAt.of hz
  simp only [Nat.zero_add, zeroV] at g1 g2 g3 g4 g5 g6
  have HS : Hid (∀ v0 v1 v2 v3 v4 v5 : Value, ((((((w2.setCell ⟨w.heap.size + 1, 0, none⟩ v0).setCell ⟨w.heap.size + 1, 1, none⟩ v1).setCell ⟨w.heap.size + 1, 2, none⟩ v2).setCell ⟨w.heap.size + 1, 3, none⟩ v3).setCell ⟨w.heap.size + 1, 4, none⟩ v4).setCell ⟨w.heap.size + 1, 5, none⟩ v5).heap[w.heap.size + 1]? = some (.cells #[v0, v1, v2, v3, v4, v5] 48)) := set6 hz
  have HBB : Hid (∀ v0 v1 v2 v3 v4 v5 : Value, Below w.heap.size w ((((((w2.setCell ⟨w.heap.size + 1, 0, none⟩ v0).setCell ⟨w.heap.size + 1, 1, none⟩ v1).setCell ⟨w.heap.size + 1, 2, none⟩ v2).setCell ⟨w.heap.size + 1, 3, none⟩ v3).setCell ⟨w.heap.size + 1, 4, none⟩ v4).setCell ⟨w.heap.size + 1, 5, none⟩ v5)) := below6 hBw (by omega)
  clear hz hBw hbb
  go_wp2_with fail
  refine wp_region_sched (fun w' => ∃ p : Cl w1.heap.size w1, w' = p.u) [(0, true), (1, true), (2, true), (3, true), (4, true), (5, true), (6, true), (7, true), (8, true), (9, true), (10, true)] rfl (by kernel_rfl) (by kernel_rfl) (by kernel_rfl) ⟨⟨_, (Below.refl _ _).drew⟩, rfl⟩ ?_
  iterate 11 (refine sched_pure rfl (fun K hK => ?_); go_simp; refine hK _ ?_; clear hK K)
  refine sched_nil ?_
  rw [← hw2]
  clear hw2
  go_wp2_with fail
  refine bodyPost_ret (v := .tuple #[.agg #[.int .i64 0, .bool false, .int .i64 0, .int .i64 0, .int .i64 0, .string ⟨#[]⟩], .bool false]) (resX_row_tmp Tryz.results14 _ _ (w.heap.size + 1) 48 _ _ _ _ rfl rfl (HS.out _ _ _ _ _ _) Tryz.underlying48 rfl (by kernel_rfl)) rfl ?_
  exact ⟨rfl, HBB.out _ _ _ _ _ _⟩
set_option maxRecDepth 100000 in
set_option maxHeartbeats 1000000 in
theorem mayN {w : World} {v : Value} (h : NoT w v) (k : Kb) (hk : k.Big) : Calls Tryz.prog 16 #[v, k.v] w fun e w' => e = .returned (.bool false) ∧ Below w.heap.size w w' := by
  obtain ⟨w0, hw0⟩ : ∃ w0, w0 = w.alloc (.cells #[.string k.t, .string k.p, .int .i64 k.r, .string k.c] 24) := ⟨_, rfl⟩
  have hb0 : Below w.heap.size w w0 := by rw [hw0]; exact (Below.refl _ _).alloc (Nat.le_refl _) _
  have hK0 : Blk w0 w.heap.size [.string k.t, .string k.p, .int .i64 k.r, .string k.c] 24 := by rw [hw0]; exact Blk.new w _ _
  have KB : Hid (∀ u, Calls Tryz.prog 43 #[k.v] u fun e w' => ∃ v, e = .returned v ∧ Aw u w' v (encK k.ky)) := fun u => bytes_big k u hk
  generalize encK k.ky = bs at *
  rcases h with rfl | ⟨z, rfl, hz⟩
  · obtain ⟨k1, k2, k3, k4⟩ := k
    simp only [Kb.v] at hw0 ⊢
    clear hK0 KB
    go_enter Tryz.func16, Tryz.ntmps16
    go_wp2_with fail
    go_ret
    rw [← hw0]
    exact ⟨rfl, hb0⟩
  · have hz0 : Blk w0 z [.slice none 0 0, .pointer none] 42 := hz.carry (hb0.block _ hz.lt)
    have lt1 := hK0.lt
    have lt2 := hz0.lt
    have p0 : ∀ q : Cl w0.heap.size w0, q.u.cell? ⟨w.heap.size, 0, none⟩ = some (.string k.t) := fun q => q.cell lt1 (hK0.cell 0 rfl)
    have p1 : ∀ q : Cl w0.heap.size w0, q.u.cell? ⟨w.heap.size, 1, none⟩ = some (.string k.p) := fun q => q.cell lt1 (hK0.cell 1 rfl)
    have p2 : ∀ q : Cl w0.heap.size w0, q.u.cell? ⟨w.heap.size, 2, none⟩ = some (.int .i64 k.r) := fun q => q.cell lt1 (hK0.cell 2 rfl)
    have p3 : ∀ q : Cl w0.heap.size w0, q.u.cell? ⟨w.heap.size, 3, none⟩ = some (.string k.c) := fun q => q.cell lt1 (hK0.cell 3 rfl)
    have q1 : ∀ q : Cl w0.heap.size w0, q.u.cell? ⟨z, 1, none⟩ = some (.pointer none) := fun q => q.cell lt2 (hz0.cell 1 rfl)
    obtain ⟨k1, k2, k3, k4⟩ := k
    simp only [Kb.v] at hw0 KB p0 p1 p2 p3 ⊢
    clear hK0 hz0 hz lt1 lt2
    haveI := Cl.inh w0.heap.size w0
    go_enter Tryz.func16, Tryz.ntmps16
    go_wp2_with fail
    rw [← hw0]
    clear hw0
    refine wp_region_sched (fun w' => ∃ p : Cl w0.heap.size w0, w' = p.u) [(0, true), (1, true), (2, true), (3, true), (4, true), (5, false), (6, false), (7, true)] rfl (by kernel_rfl) (by kernel_rfl) (by kernel_rfl) ⟨⟨_, (Below.refl _ _).drew⟩, rfl⟩ ?_
    iterate 5 (refine sched_pure rfl (fun K hK => ?_); go_simp; refine hK _ ?_; clear hK K)
    refine sched_loud rfl (fun K' hK => ?_)
    go_simp
    refine (KB.out _).mono ?_
    rintro e x1 ⟨v1, rfl, hA⟩
    have b1 : Below w0.heap.size w0 x1 := (Below.refl _ _).drew.trans hA.bel
    obtain ⟨a1, c1, e1, -, -, -⟩ := owns_sees hA.own
    subst e1
    refine hK _ _ ⟨⟨x1, b1⟩, rfl⟩ ?_
    clear hK
    have MN : Hid (Calls Tryz.prog 42 #[.pointer none, .slice a1 bs.length c1] x1 fun e w' => e = .returned (.bool false) ∧ w' = x1) := may_none (.inl rfl) a1 bs.length c1
    clear hA
    refine sched_loud rfl (fun K' hK => ?_)
    go_simp
    refine MN.out.mono ?_
    rintro e x2 ⟨rfl, rfl⟩
    refine hK _ _ ⟨⟨_, b1⟩, rfl⟩ ?_
    clear hK
    refine sched_pure rfl (fun K hK => ?_)
    go_simp
    refine hK _ ?_
    clear hK
    refine sched_nil ?_
    go_wp2_with fail
    go_ret
    exact ⟨rfl, hb0.trans (b1.mono hb0.size)⟩
set_option maxRecDepth 100000 in
set_option maxHeartbeats 1000000 in
theorem endsN {w : World} {v : Value} (h : NoT w v) : Calls Tryz.prog 15 #[v] w fun e w' => e = .returned (.tuple #[.agg #[.string ⟨#[]⟩, .string ⟨#[]⟩, .int .i64 0, .string ⟨#[]⟩], .agg #[.string ⟨#[]⟩, .string ⟨#[]⟩, .int .i64 0, .string ⟨#[]⟩], .bool false]) ∧ Below w.heap.size w w' := by
  obtain ⟨wa, hwa⟩ : ∃ wa, wa = (w.alloc (.cells #[.string ⟨#[]⟩, .string ⟨#[]⟩, .int .i64 0, .string ⟨#[]⟩] 24)).alloc (.cells #[.string ⟨#[]⟩, .string ⟨#[]⟩, .int .i64 0, .string ⟨#[]⟩] 24) := ⟨_, rfl⟩
  have hba : Below w.heap.size w wa := by rw [hwa]; exact ((Below.refl _ _).alloc (Nat.le_refl _) _).alloc (by simp) _
  have hK : Blk wa w.heap.size [.string ⟨#[]⟩, .string ⟨#[]⟩, .int .i64 0, .string ⟨#[]⟩] 24 := by rw [hwa]; exact (Blk.new w _ _).alloc _
  have hJ : Blk wa (w.heap.size + 1) [.string ⟨#[]⟩, .string ⟨#[]⟩, .int .i64 0, .string ⟨#[]⟩] 24 := by
    have := Blk.new (w.alloc (.cells #[.string ⟨#[]⟩, .string ⟨#[]⟩, .int .i64 0, .string ⟨#[]⟩] 24)) [.string ⟨#[]⟩, .string ⟨#[]⟩, .int .i64 0, .string ⟨#[]⟩] 24
    rw [World.size_alloc] at this
    rw [hwa]; exact this
  have SO : Hid (Calls Tryz.prog 41 #[v] wa fun e w' => e = .returned (.slice none 0 0) ∧ w' = wa) := sortedN (h.below hba)
  obtain ⟨p, rfl⟩ := h.shape
  clear h
  go_enter Tryz.func15, Tryz.ntmps15
  go_wp2_with fail
  rw [← hwa]
  clear hwa
  refine SO.out.mono ?_
  rintro e w1 ⟨rfl, he0⟩
  have he1 : wa = w1 := he0.symm
  subst he1
  clear SO he0
  have f0 := hK.frozen 0
  have f1 := hK.frozen 1
  have f2 := hK.frozen 2
  have f3 := hK.frozen 3
  have k0 := hK.cell 0 rfl
  have k1 := hK.cell 1 rfl
  have k2 := hK.cell 2 rfl
  have k3 := hK.cell 3 rfl
  have g0 := hJ.frozen 0
  have g1 := hJ.frozen 1
  have g2 := hJ.frozen 2
  have g3 := hJ.frozen 3
  have j0 := hJ.cell 0 rfl
  have j1 := hJ.cell 1 rfl
  have j2 := hJ.cell 2 rfl
  have j3 := hJ.cell 3 rfl
  have K1 := set4 hK (.string ⟨#[]⟩) (.string ⟨#[]⟩) (.int .i64 0) (.string ⟨#[]⟩)
  have J1 := set4_other hJ (g' := w.heap.size) (by omega) (.string ⟨#[]⟩) (.string ⟨#[]⟩) (.int .i64 0) (.string ⟨#[]⟩)
  have K2 := set4_other K1 (g' := w.heap.size + 1) (by omega) (.string ⟨#[]⟩) (.string ⟨#[]⟩) (.int .i64 0) (.string ⟨#[]⟩)
  have J2 := set4 J1 (.string ⟨#[]⟩) (.string ⟨#[]⟩) (.int .i64 0) (.string ⟨#[]⟩)
  have B2 := below4 (below4 hba (g := w.heap.size) (Nat.le_refl _) (.string ⟨#[]⟩) (.string ⟨#[]⟩) (.int .i64 0) (.string ⟨#[]⟩)) (g := w.heap.size + 1) (by omega) (.string ⟨#[]⟩) (.string ⟨#[]⟩) (.int .i64 0) (.string ⟨#[]⟩)
  have HKJ := toHidE (And.intro K2 (And.intro J2 B2))
  clear K1 J1 K2 J2 B2 hK hJ hba
  go_wp2_with fail
  refine bodyPost_ret (v := .tuple #[.agg #[.string ⟨#[]⟩, .string ⟨#[]⟩, .int .i64 0, .string ⟨#[]⟩], .agg #[.string ⟨#[]⟩, .string ⟨#[]⟩, .int .i64 0, .string ⟨#[]⟩], .bool false]) (resX_rows Tryz.results15 _ _ w.heap.size (w.heap.size + 1) 24 _ _ _ _ _ _ rfl rfl rfl (Hid.out HKJ).1 (Hid.out HKJ).2.1 Tryz.underlying24 rfl (by kernel_rfl) (by kernel_rfl)) rfl ?_
  exact ⟨rfl, (Hid.out HKJ).2.2⟩
end Go.Proofs.YtdookhmaiapclaaGreatDoor
namespace Go.Proofs.YtdookhmaiapclaaGreatDoor
open Go.ChangeShapes Go.WideShapes Go.ChangeAt Go.RowKit Go.Deep

/-- An ask: its key, and a scan's ends. -/
def askV (k f u : Kb) : Value := .agg #[.string k.t, .string k.p, .int .i64 k.r, .string k.c, .string f.t, .string f.p, .int .i64 f.r, .string f.c, .string u.t, .string u.p, .int .i64 u.r, .string u.c]
set_option maxRecDepth 100000 in
theorem cellsAsk : Tryz.prog.cellsOf 26 = 12 := by kernel_rfl
set_option maxRecDepth 100000 in
theorem ask_came {H : Type} {enc : TypeId × Value → H} {W : World} {base : Nat} {v : Value} {d : DataW H} {p : List MemPlace} (hv : Value.okWide Tryz.prog W .any base 26 v)
    (h : DataW.Trod enc Tryz.prog W 0 (fun _ => true) true 26 v d p) : ∃ k f u : Kb, v = askV k f u ∧ (InI k.r ∧ InI f.r ∧ InI u.r) := by
  obtain ⟨cs, rfl, hsz⟩ := okWide_struct Tryz.underlying26 hv
  obtain ⟨fuel, hf⟩ := h
  have hl := hsz.trans cellsAsk
  obtain ⟨l⟩ := cs
  match l, hl with
  | [c0, c1, c2, c3, c4, c5, c6, c7, c8, c9, c10, c11], _ =>
    have hf' : DataW.trod enc Tryz.prog W 0 (fun _ => true) true fuel 26 [c0, c1, c2, c3, c4, c5, c6, c7, c8, c9, c10, c11] = some (d, p) := hf
    obtain ⟨y0, y1, y2, m, _, _, h0, h1, h2⟩ := trod_struct3 Tryz.underlying26 hf'
    simp only [cellsXK] at h0 h1 h2
    obtain ⟨k, ek, o1, _⟩ := kx_open (n := m) (c0 := c0) (c1 := c1) (c2 := c2) (c3 := c3) (x := y0) h0
    obtain ⟨f, ef, o2, _⟩ := kx_open (n := m) (c0 := c4) (c1 := c5) (c2 := c6) (c3 := c7) (x := y1) h1
    obtain ⟨u, eu, o3, _⟩ := kx_open (n := m) (c0 := c8) (c1 := c9) (c2 := c10) (c3 := c11) (x := y2) h2
    simp at ek ef eu
    obtain ⟨rfl, rfl, rfl, rfl⟩ := ek
    obtain ⟨rfl, rfl, rfl, rfl⟩ := ef
    obtain ⟨rfl, rfl, rfl, rfl⟩ := eu
    exact ⟨k, f, u, rfl, o1, o2, o3⟩
end Go.Proofs.YtdookhmaiapclaaGreatDoor
namespace Go.Proofs.YtdookhmaiapclaaGreatDoor
open Go.ChangeShapes Go.WideShapes Go.ChangeAt Go.RowKit

theorem bulk_part {H : Type} {d : DataW H} {l : List (DataW H)} (h : d ∈ l) : Rows.uptoBulk d ≤ Rows.uptoBulkAll l := by
  induction l with
  | nil => cases h
  | cons x r ih =>
    simp only [Rows.uptoBulkAll]
    rcases List.mem_cons.1 h with e | e
    · subst e; omega
    · have := ih e; omega
theorem bulk_cx {H : Type} (c : Cx) : 11 + wtX c ≤ Rows.uptoBulk (cxD (H := H) c) := by
  have e : ∀ s : ByteArray, s.data.toList.length = s.size := fun s => by rw [Array.length_toList]; rfl
  simp only [cxD, kxD, vxD, sD, iD, Rows.uptoBulk, Rows.uptoBulkAll, wtX, e]
  omega
theorem bulk_cxs {H : Type} (l : List Cx) : 11 * l.length ≤ Rows.uptoBulkAll (l.map (cxD (H := H))) := by
  induction l with
  | nil => simp [Rows.uptoBulkAll]
  | cons c r ih =>
    have := bulk_cx (H := H) c
    simp only [List.map_cons, Rows.uptoBulkAll, List.length_cons]
    omega
theorem bulk_bound {H : Type} {l : List (DataW H)} (hk : Rows.uptoSmall H l = true) : Rows.uptoBulkAll l ≤ 1048576 := of_decide_eq_true hk
theorem bulk_list {H : Type} {d : DataW H} {l : List Cx} {B : Nat} (hb : Rows.uptoBulk d ≤ B) (hB : B ≤ 1048576) (h : l.length = 0 ∨ ∃ sp, d = .slice (l.map cxD) sp) : 11 * l.length ≤ B ∧ ∀ c ∈ l, wtX c ≤ 562949953421312 := by
  rcases h with h0 | ⟨sp, rfl⟩
  · obtain rfl : l = [] := List.eq_nil_of_length_eq_zero h0
    exact ⟨by simp, fun c hc => by cases hc⟩
  · simp only [Rows.uptoBulk] at hb
    have h1 := bulk_cxs (H := H) l
    refine ⟨by omega, fun c hc => ?_⟩
    have h2 := bulk_part (List.mem_map_of_mem (f := cxD (H := H)) hc)
    have h3 := bulk_cx (H := H) c
    omega
/-- A list of cells that came in, where all that came in is small. -/
theorem bulk_cells {H : Type} {d : DataW H} {ds : List (DataW H)} {l : List Cx} (hk : Rows.uptoSmall H ds = true) (hd : d ∈ ds) (h : l.length = 0 ∨ ∃ sp, d = .slice (l.map cxD) sp) : l.length ≤ 100000 ∧ ∀ c ∈ l, wtX c ≤ 562949953421312 := by
  have h1 := bulk_bound hk
  have h2 := bulk_part hd
  have h3 := bulk_list (B := 1048576) (by omega) (Nat.le_refl _) h
  exact ⟨by omega, h3.2⟩
end Go.Proofs.YtdookhmaiapclaaGreatDoor
namespace Go.Proofs.YtdookhmaiapclaaGreatDoor
open Go.ChangeShapes Go.WideShapes Go.ChangeAt Go.RowKit Go.Deep

set_option maxRecDepth 100000 in
theorem ask_came2 {H : Type} {enc : TypeId × Value → H} {W : World} {base : Nat} {v : Value} {d : DataW H} {p : List MemPlace} (hv : Value.okWide Tryz.prog W .any base 26 v)
    (h : DataW.Trod enc Tryz.prog W 0 (fun _ => true) true 26 v d p) : ∃ k f u : Kb, v = askV k f u ∧ (InI k.r ∧ InI f.r ∧ InI u.r) ∧ d = .agg [kxD k, kxD f, kxD u] := by
  obtain ⟨cs, rfl, hsz⟩ := okWide_struct Tryz.underlying26 hv
  obtain ⟨fuel, hf⟩ := h
  have hl := hsz.trans cellsAsk
  obtain ⟨l⟩ := cs
  match l, hl with
  | [c0, c1, c2, c3, c4, c5, c6, c7, c8, c9, c10, c11], _ =>
    have hf' : DataW.trod enc Tryz.prog W 0 (fun _ => true) true fuel 26 [c0, c1, c2, c3, c4, c5, c6, c7, c8, c9, c10, c11] = some (d, p) := hf
    obtain ⟨y0, y1, y2, m, hd, _, h0, h1, h2⟩ := trod_struct3 Tryz.underlying26 hf'
    simp only [cellsXK] at h0 h1 h2
    obtain ⟨k, ek, o1, x0⟩ := kx_open (n := m) (c0 := c0) (c1 := c1) (c2 := c2) (c3 := c3) (x := y0) h0
    obtain ⟨f, ef, o2, x1⟩ := kx_open (n := m) (c0 := c4) (c1 := c5) (c2 := c6) (c3 := c7) (x := y1) h1
    obtain ⟨u, eu, o3, x2⟩ := kx_open (n := m) (c0 := c8) (c1 := c9) (c2 := c10) (c3 := c11) (x := y2) h2
    simp at ek ef eu
    obtain ⟨rfl, rfl, rfl, rfl⟩ := ek
    obtain ⟨rfl, rfl, rfl, rfl⟩ := ef
    obtain ⟨rfl, rfl, rfl, rfl⟩ := eu
    refine ⟨k, f, u, rfl, ⟨o1, o2, o3⟩, ?_⟩
    have hd1 := congrArg Prod.fst hd
    rw [← x0, ← x1, ← x2]
    exact hd1
theorem bulk_kx {H : Type} (k : Kb) : k.t.size + k.p.size + k.c.size ≤ Rows.uptoBulk (kxD (H := H) k) := by
  have e : ∀ s : ByteArray, s.data.toList.length = s.size := fun s => by rw [Array.length_toList]; rfl
  simp only [kxD, sD, iD, Rows.uptoBulk, Rows.uptoBulkAll, e]
  omega
theorem bulk_ask {H : Type} {k f u : Kb} {ds : List (DataW H)} (hk : Rows.uptoSmall H ds = true) (hd : (.agg [kxD k, kxD f, kxD u] : DataW H) ∈ ds) (hr : InI k.r ∧ InI f.r ∧ InI u.r) : k.Big ∧ f.Big ∧ u.Big := by
  have h1 := bulk_bound hk
  have h2 := bulk_part hd
  have b1 := bulk_kx (H := H) k
  have b2 := bulk_kx (H := H) f
  have b3 := bulk_kx (H := H) u
  simp only [Rows.uptoBulk, Rows.uptoBulkAll] at h2
  exact ⟨⟨by omega, by omega, by omega, hr.1⟩, ⟨by omega, by omega, by omega, hr.2.1⟩, ⟨by omega, by omega, by omega, hr.2.2⟩⟩
end Go.Proofs.YtdookhmaiapclaaGreatDoor

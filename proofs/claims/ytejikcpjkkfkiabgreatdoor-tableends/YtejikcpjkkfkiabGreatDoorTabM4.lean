/-
  SEVERAL TEXTS IN ONE: TabSearch, TabFrom, CxFound, TabGet, TabMay, TabScan, TabSize, TabBackP, TabEnds, NormWhole, TabEndsP.
-/
import Derived.Test.YtejikcpjkkfkiabGreatDoorTabM2
import Derived.Test.YtejikcpjkkfkiabGreatDoorTabM3
import Derived.Laws.ResultCell
namespace Go.Proofs.YtejikcpjkkfkiabGreatDoor
open Go.RowKit

attribute [local go_sem] Oper.pureAt Oper.pureUpon

set_option maxRecDepth 100000 in
set_option maxHeartbeats 1000000 in
theorem search_any (n : Nat) (hn : n ≤ 1000000) (f : Nat → Bool) (cap : Array Value) (w : World)
    (hf : ∀ (u : World) (i : Nat), Below w.heap.size w u → i < n → Calls Tryz.prog 53 (#[.int .i64 (i : Int)] ++ cap) u fun e w' => e = .returned (.bool (f i)) ∧ Below u.heap.size u w') :
    Calls Tryz.prog 52 #[.int .i64 (n : Int), .func (.func 53) #[] cap] w fun e w' => ∃ k : Nat, e = .returned (.int .i64 (k : Int)) ∧ k ≤ n ∧ (0 < k → f (k - 1) = false) ∧ (k < n → f k = true) ∧ Below w.heap.size w w' := by
  have HF : Hid (∀ (u : World) (i : Nat), Below w.heap.size w u → i < n → Calls Tryz.prog 53 (#[.int .i64 (i : Int)] ++ cap) u fun e w' => e = .returned (.bool (f i)) ∧ Below u.heap.size u w') := hf
  clear hf
  have hnz : (n : Int) ≤ 1000000 := by omega
  go_enter Tryz.func52, Tryz.ntmps52
  go_wp2_with fail
  go_loopw [5, 6] (fun s5 s6 wr => ∃ i j : Nat, s5 = .int .i64 (i : Int) ∧ s6 = .int .i64 (j : Int) ∧ i ≤ j ∧ j ≤ n ∧ (0 < i → f (i - 1) = false) ∧ (j < n → f j = true) ∧ Below w.heap.size w wr) (fun s5 s6 _ => (intOf s6 - intOf s5).toNat)
  case atStart => exact ⟨0, n, rfl, rfl, Nat.zero_le _, Nat.le_refl _, fun h => by omega, fun h => by omega, Below.refl _ _⟩
  case round =>
    obtain ⟨i, j, rfl, rfl, hij, hjn, h1, h2, hb⟩ := hrel
    by_cases hlt : i < j
    · obtain ⟨m, hm⟩ : ∃ m, m = (i + j) / 2 := ⟨_, rfl⟩
      have hltz : (i : Int) < (j : Int) := by omega
      have hmj : m < j := by omega
      have him : i ≤ m := by omega
      have C : Hid (Calls Tryz.prog 53 (#[.int .i64 (m : Int)] ++ cap) wr fun e w' => e = .returned (.bool (f m)) ∧ Below wr.heap.size wr w') := HF.out wr m hb (by omega)
      have d1 : IntKind.u64.wrap ((i : Int) + (j : Int)) = (i : Int) + (j : Int) := by rw [IntKind.wrap_u64]; omega
      have d2 : ((i : Int) + (j : Int)) / 2 = (m : Int) := by omega
      have hjz : (j : Int) ≤ 1000000 := by omega
      clear hm
      have H1 : Hid (0 < i → f (i - 1) = false) := h1
      have H2 : Hid (j < n → f j = true) := h2
      clear h1 h2
      cases hfm : f m
      · rw [hfm] at C
        have H3 : Hid (f m = false) := hfm
        clear hfm
        go_wp2_with fail
        refine C.out.mono ?_
        rintro e w1 ⟨rfl, hb1⟩
        go_wp2_with fail
        go_roundw
        case rel => exact ⟨m + 1, j, by simp, rfl, by omega, hjn, fun _ => by rw [Nat.add_sub_cancel]; exact H3.out, H2.out, hb.trans (hb1.mono hb.size)⟩
        case measure => simp [intOf]; omega
      · rw [hfm] at C
        have H3 : Hid (f m = true) := hfm
        clear hfm
        go_wp2_with fail
        refine C.out.mono ?_
        rintro e w1 ⟨rfl, hb1⟩
        go_wp2_with fail
        go_roundw
        case rel => exact ⟨i, m, rfl, rfl, him, by omega, H1.out, fun _ => H3.out, hb.trans (hb1.mono hb.size)⟩
        case measure => simp [intOf]; omega
    · have hij2 : i = j := by omega
      subst hij2
      go_wp2_with fail
      go_ret
      exact ⟨i, rfl, hjn, h1, h2, hb⟩
theorem cmpK_any (a b : Kb) (w : World) : Calls Tryz.prog 45 #[a.v, b.v] w fun e w' => e = .returned (.int .i64 (kc a.ky b.ky)) ∧ Below w.heap.size w w' := cmp_any a b w
set_option maxRecDepth 100000 in
set_option maxHeartbeats 1000000 in
/-- Does a block begin behind the key? -/
theorem from1_any (i b1 b2 g n cap : Nat) (l : List Cx) (k : Kb) (w : World) (hb1 : Boxed w b1 22 (.slice (some ⟨g, 0, none⟩) n cap)) (hb2 : Blk w b2 [.string k.t, .string k.p, .int .i64 k.r, .string k.c] 24) (hx : XSees w (some ⟨g, 0, none⟩) l) (hn : l.length = n) (hi : 8 * i < n) (hn9 : n ≤ 9000) (c : Cx) (hc : l[8 * i]? = some c) :
    Calls Tryz.prog 53 #[.int .i64 (i : Int), .pointer (some ⟨b1, 0, none⟩), .pointer (some ⟨b2, 0, none⟩)] w fun e w' => e = .returned (.bool (decide (0 < kc c.k.ky k.ky))) ∧ Below w.heap.size w w' := by
  obtain ⟨b', o', e, tt⟩ := hx _ c hc
  cases e
  have C : Hid (∀ u : World, Calls Tryz.prog 45 #[.agg #[.string c.k.t, .string c.k.p, .int .i64 c.k.r, .string c.k.c], .agg #[.string k.t, .string k.p, .int .i64 k.r, .string k.c]] u fun e w' => e = .returned (.int .i64 (kc c.k.ky k.ky)) ∧ Below u.heap.size u w') := fun u => cmpK_any c.k k u
  have hz : (8 : Int) * (i : Int) < (n : Int) := by omega
  obtain ⟨m, hm⟩ : ∃ m, m = 8 * i := ⟨_, rfl⟩
  have hmz : (i : Int) * 8 = (m : Int) := by omega
  have hmn : m < n := by omega
  have hmnz : (m : Int) < (n : Int) := by omega
  have wm : IntKind.i64.wrap (m : Int) = (m : Int) := by rw [IntKind.wrap_i64]; omega
  have eo : 0 + 8 * i * 10 = m * 10 := by omega
  rw [eo] at tt
  have lt1 := hb1.lt
  have lt2 := hb2.lt
  have lt3 := tt.lt
  obtain ⟨⟨ct, cp, cr, ck⟩, cv⟩ := c
  obtain ⟨t0, t1, t2, t3, -, -, -, -, -, -⟩ := tt
  simp only at t0 t1 t2 t3 C
  have q0 : ∀ q : Cl w.heap.size w, q.u.cell? ⟨b1, 0, none⟩ = some (.slice (some ⟨g, 0, none⟩) n cap) := fun q => q.cell lt1 hb1.cell
  have q1 : ∀ q : Cl w.heap.size w, q.u.cell? ⟨b2, 0, none⟩ = some (.string k.t) := fun q => q.cell lt2 (hb2.cell 0 rfl)
  have q2 : ∀ q : Cl w.heap.size w, q.u.cell? ⟨b2, 1, none⟩ = some (.string k.p) := fun q => q.cell lt2 (hb2.cell 1 rfl)
  have q3 : ∀ q : Cl w.heap.size w, q.u.cell? ⟨b2, 2, none⟩ = some (.int .i64 k.r) := fun q => q.cell lt2 (hb2.cell 2 rfl)
  have q4 : ∀ q : Cl w.heap.size w, q.u.cell? ⟨b2, 3, none⟩ = some (.string k.c) := fun q => q.cell lt2 (hb2.cell 3 rfl)
  have p0 : ∀ q : Cl w.heap.size w, q.u.cell? ⟨g, m * 10, none⟩ = some (.string ct) := fun q => q.cell lt3 t0
  have p1 : ∀ q : Cl w.heap.size w, q.u.cell? ⟨g, m * 10 + 1, none⟩ = some (.string cp) := fun q => q.cell lt3 t1
  have p2 : ∀ q : Cl w.heap.size w, q.u.cell? ⟨g, m * 10 + 2, none⟩ = some (.int .i64 cr) := fun q => q.cell lt3 t2
  have p3 : ∀ q : Cl w.heap.size w, q.u.cell? ⟨g, m * 10 + 3, none⟩ = some (.string ck) := fun q => q.cell lt3 t3
  haveI := Cl.inh w.heap.size w
  clear t0 t1 t2 t3 hx hc hb1 hb2 eo hm
  generalize kc _ _ = K at *
  go_enter Tryz.func53, Tryz.ntmps53
  go_wp2_with fail
  refine wp_region_sched (fun w' => ∃ p : Cl w.heap.size w, w' = p.u) [(0, true), (1, true), (2, true), (3, true), (4, true), (5, true), (6, true), (7, false), (8, true), (9, true)] rfl (by kernel_rfl) (by kernel_rfl) (by kernel_rfl) ⟨⟨_, (Below.refl _ _).drew⟩, rfl⟩ ?_
  iterate 7 (refine sched_pure rfl (fun K hK => ?_); go_simp; refine hK _ ?_; clear hK K)
  refine sched_loud rfl (fun K hK => ?_)
  go_simp
  refine (C.out _).mono ?_
  rintro e u1 ⟨rfl, hbu⟩
  have hbu2 : Below w.heap.size w u1 := (Below.refl _ _).drew.trans hbu
  refine hK _ _ ⟨⟨u1, hbu2⟩, rfl⟩ ?_
  clear hK
  iterate 2 (refine sched_pure rfl (fun K hK => ?_); go_simp; refine hK _ ?_; clear hK)
  refine sched_nil ?_
  go_wp2_with fail
  go_ret
  exact ⟨rfl, hbu2⟩
end Go.Proofs.YtejikcpjkkfkiabGreatDoor
namespace Go.Proofs.YtejikcpjkkfkiabGreatDoor
open Go.RowKit

attribute [local go_sem] Oper.pureAt Oper.pureUpon
/-- The first a keys are less than k, the others are not. -/
structure CutAt (l : List Cx) (k : Kb) (a : Nat) : Prop where
  le : a ≤ l.length
  lo : ∀ j c, j < a → l[j]? = some c → kc c.k.ky k.ky < 0
  hi : ∀ j c, a ≤ j → l[j]? = some c → 0 ≤ kc c.k.ky k.ky
theorem srt_lt {l : List Cx} (h : Rising l) {i j : Nat} {x y : Cx} (hij : i < j) (hx : l[i]? = some x) (hy : l[j]? = some y) : kc x.k.ky y.k.ky < 0 := by
  have h1 := (List.getElem?_eq_some_iff.1 hx)
  have h2 := (List.getElem?_eq_some_iff.1 hy)
  obtain ⟨l1, rfl⟩ := h1
  obtain ⟨l2, rfl⟩ := h2
  exact List.pairwise_iff_getElem.1 h i j l1 l2 hij
theorem rising_of {l : List Cx} (h : srtB l = true) : Rising l := by
  have h1 : Rise l l.length := @of_decide_eq_true _ (Classical.propDecidable _) h
  refine List.pairwise_iff_getElem.2 fun i j hi hj hij => ?_
  have H : ∀ d i, (hd : i + d + 1 < l.length) → kx (l[i]'(by omega)) l[i + d + 1] < 0 := by
    intro d
    induction d with
    | zero => intro i hd; exact h1 i _ _ (by omega) (List.getElem?_eq_getElem (by omega)) (List.getElem?_eq_getElem (by omega))
    | succ d ih => intro i hd; exact kx_strict (ih i (by omega)) (h1 (i + d + 1) _ _ (by omega) (List.getElem?_eq_getElem (by omega)) (List.getElem?_eq_getElem (by omega)))
  have := H (j - i - 1) i (by omega)
  have e : i + (j - i - 1) + 1 = j := by omega
  simpa only [e] using this
theorem TAt.rising {w : World} {T : Nat} {l : List Cx} (h : TAt w T l) : Rising l := by
  have := h.ok
  unfold wrtB at this
  simp only [Bool.and_eq_true] at this
  exact rising_of this.2.1
theorem kc_mix {x y : Cx} {k : Kb} (h1 : kc x.k.ky y.k.ky < 0) (h2 : kc y.k.ky k.ky ≤ 0) : kc x.k.ky k.ky < 0 := by
  rcases (show kc y.k.ky k.ky < 0 ∨ kc y.k.ky k.ky = 0 by omega) with h | h
  · exact kc_cmpr.strict h1 h
  · have e := (kc_cmpr.z _ _).1 h
    rw [← e]; exact h1
set_option maxRecDepth 100000 in
set_option maxHeartbeats 2000000 in
theorem from_any {w : World} {T : Nat} {l : List Cx} (h : TAt w T l) (k : Kb) :
    Calls Tryz.prog 32 #[.pointer (some ⟨T, 0, none⟩), k.v] w fun e w' => ∃ a g o c, e = .returned (.slice (some ⟨g, o, none⟩) (l.length - a) c) ∧ CutAt l k a ∧ XSees w' (some ⟨g, o, none⟩) (l.drop a) ∧ l.length - a ≤ c ∧ g < w.heap.size ∧ Below w.heap.size w w' := by
  have hR := h.rising
  have hpos := h.pos
  have hl9 := h.wrt.len
  obtain ⟨fm, g, cap, hB, hx, hcap, hctop, hgl, -⟩ := h.cells
  obtain ⟨w0, hw0⟩ : ∃ w0, w0 = w.alloc (.cells #[.string k.t, .string k.p, .int .i64 k.r, .string k.c] 24) := ⟨_, rfl⟩
  have hb0 : Below w.heap.size w w0 := by rw [hw0]; exact (Below.refl _ _).alloc (Nat.le_refl _) _
  have hK0 : Blk w0 w.heap.size [.string k.t, .string k.p, .int .i64 k.r, .string k.c] 24 := by rw [hw0]; exact Blk.new w _ _
  have SO : Hid (Calls Tryz.prog 30 #[.pointer (some ⟨T, 0, none⟩)] w0 fun e w' => e = .returned (.slice (some ⟨g, 0, none⟩) l.length cap) ∧ w' = w0) := sorted_at (hB.carry (hb0.block _ hB.lt))
  have s0 : w0.heap.size = w.heap.size + 1 := by rw [hw0]; simp
  obtain ⟨w1, hw1⟩ : ∃ w1, w1 = w0.alloc (.cells #[.slice (some ⟨g, 0, none⟩) l.length cap] 22) := ⟨_, rfl⟩
  have hb1 : Below w0.heap.size w0 w1 := by rw [hw1]; exact (Below.refl _ _).alloc (Nat.le_refl _) _
  have hC1 : Boxed w1 w0.heap.size 22 (.slice (some ⟨g, 0, none⟩) l.length cap) := by rw [hw1]; exact Boxed.new w0 _ _
  have hK1 : Blk w1 w.heap.size [.string k.t, .string k.p, .int .i64 k.r, .string k.c] 24 := hK0.carry (hb1.block _ hK0.lt)
  have hb01 : Below w.heap.size w w1 := hb0.trans (hb1.mono hb0.size)
  have hT1 : TAt w1 T l := (h.below hb0).below hb1
  have BK : Hid (Calls Tryz.prog 13 #[.pointer (some ⟨T, 0, none⟩)] w1 fun e w' => e = .returned (.int .i64 (nBk l.length : Int)) ∧ w' = w1) := blocks_at hT1
  have hx1 : XSees w1 (some ⟨g, 0, none⟩) l := hx.below hb01 (Nat.le_refl _)
  have hnb : nBk l.length ≤ 1125 := by unfold nBk; omega
  have hat : ∀ i, i < nBk l.length → ∃ c, l[8 * i]? = some c := fun i hi => ⟨_, List.getElem?_eq_getElem (by unfold nBk at hi; omega)⟩
  have SE : Hid (Calls Tryz.prog 52 #[.int .i64 (nBk l.length : Int), .func (.func 53) #[] #[.pointer (some ⟨w0.heap.size, 0, none⟩), .pointer (some ⟨w.heap.size, 0, none⟩)]] w1 fun e w' => ∃ q : Nat, e = .returned (.int .i64 (q : Int)) ∧ q ≤ nBk l.length ∧ (∀ j c, j < 8 * (q - 1) → l[j]? = some c → kc c.k.ky k.ky < 0) ∧ Below w1.heap.size w1 w') := by
    refine (search_any (nBk l.length) (by omega) (fun i => match l[8 * i]? with | some c => decide (0 < kc c.k.ky k.ky) | none => true) _ w1 ?_).mono ?_
    · intro u i hu hi
      obtain ⟨c, hc⟩ := hat i hi
      simp only [hc]
      exact from1_any i w0.heap.size w.heap.size g l.length cap l k u ((hu.block _ hC1.lt).trans hC1) (hK1.carry (hu.block _ hK1.lt)) (hx1.below hu (Nat.le_refl _)) rfl (by unfold nBk at hi; omega) hl9 c hc
    · rintro e w' ⟨q, rfl, hq, hlo, -, hbq⟩
      refine ⟨q, rfl, hq, fun j c hj hcj => ?_, hbq⟩
      have hq0 : 0 < q := by omega
      obtain ⟨d, hd⟩ := hat (q - 1) (by omega)
      have h2 := hlo hq0
      simp only [hd, decide_eq_false_iff_not] at h2
      exact kc_mix (srt_lt hR hj hcj hd) (by omega)
  have HX : Hid (∀ u, Below w1.heap.size w1 u → XSees u (some ⟨g, 0, none⟩) l ∧ Boxed u w0.heap.size 22 (.slice (some ⟨g, 0, none⟩) l.length cap) ∧ Blk u w.heap.size [.string k.t, .string k.p, .int .i64 k.r, .string k.c] 24) := fun u hu => ⟨hx1.below hu (Nat.le_refl _), (hu.block _ hC1.lt).trans hC1, hK1.carry (hu.block _ hK1.lt)⟩
  have hR2 : Hid (Rising l) := hR
  clear hx hx1 hC1 hK1 hK0 hT1 hB h hat hR
  have HS0 : Hid (w0.heap.size = w.heap.size + 1) := s0
  clear s0
  obtain ⟨kt, kp, kr, kcc⟩ := k
  simp only [Kb.v] at hw0 HX ⊢
  go_enter Tryz.func32, Tryz.ntmps32
  go_wp2_with fail
  rw [← hw0]
  go_fit SO.out
  rintro e u0 ⟨rfl, he0⟩
  have he1 : w0 = u0 := he0.symm
  subst he1
  clear he0 SO hw0
  go_wp2_with fail
  rw [← hw1]
  clear hw1
  go_fit BK.out
  rintro e u1 ⟨rfl, he0⟩
  have he1 : w1 = u1 := he0.symm
  subst he1
  clear he0 BK
  go_wp2_with fail
  go_fit SE.out
  rintro e w2 ⟨q, rfl, hq, hlo, hb2⟩
  clear SE
  have HLO : Hid (∀ j c, j < 8 * (q - 1) → l[j]? = some c → kc c.k.ky (Kb.ky ⟨kt, kp, kr, kcc⟩) < 0) := hlo
  clear hlo
  have hmax : max ((q : Int) - 1) 0 * 8 = ((8 * (q - 1) : Nat) : Int) := by omega
  have hqz : (q : Int) ≤ 1125 := by omega
  have hq8 : 8 * (q - 1) ≤ l.length := by unfold nBk at hq; omega
  go_wp2_with fail
  go_loopw [7] (fun s wr => ∃ a : Nat, s = .int .i64 (a : Int) ∧ a ≤ l.length ∧ (∀ j c, j < a → l[j]? = some c → kc c.k.ky (Kb.ky ⟨kt, kp, kr, kcc⟩) < 0) ∧ Below w1.heap.size w1 wr) (fun s _ => l.length - (intOf s).toNat)
  case atStart => exact ⟨8 * (q - 1), by first | rfl | (congr 1; omega), hq8, HLO.out, hb2⟩
  case round =>
    obtain ⟨a, rfl, hal, hlow, hbr⟩ := hrel
    obtain ⟨hxr, hCr, hKr⟩ := HX.out wr hbr
    have HLW : Hid (∀ j c, j < a → l[j]? = some c → kc c.k.ky (Kb.ky ⟨kt, kp, kr, kcc⟩) < 0) := hlow
    have lt1 := hCr.lt
    have lt2 := hKr.lt
    have q0 : ∀ q : Cl wr.heap.size wr, q.u.cell? ⟨w0.heap.size, 0, none⟩ = some (.slice (some ⟨g, 0, none⟩) l.length cap) := fun q => q.cell lt1 hCr.cell
    have q1 : ∀ q : Cl wr.heap.size wr, q.u.cell? ⟨w.heap.size, 0, none⟩ = some (.string kt) := fun q => q.cell lt2 (hKr.cell 0 rfl)
    have q2 : ∀ q : Cl wr.heap.size wr, q.u.cell? ⟨w.heap.size, 1, none⟩ = some (.string kp) := fun q => q.cell lt2 (hKr.cell 1 rfl)
    have q3 : ∀ q : Cl wr.heap.size wr, q.u.cell? ⟨w.heap.size, 2, none⟩ = some (.int .i64 kr) := fun q => q.cell lt2 (hKr.cell 2 rfl)
    have q4 : ∀ q : Cl wr.heap.size wr, q.u.cell? ⟨w.heap.size, 3, none⟩ = some (.string kcc) := fun q => q.cell lt2 (hKr.cell 3 rfl)
    haveI := Cl.inh wr.heap.size wr
    have HEND : Hid (∀ u, Below wr.heap.size wr u → CutAt l ⟨kt, kp, kr, kcc⟩ a → XSees u (some ⟨g, 0, none⟩) l ∧ Boxed u w0.heap.size 22 (.slice (some ⟨g, 0, none⟩) l.length cap) ∧ Below w.heap.size w u) := fun u hu _ => ⟨hxr.below hu (Nat.le_refl _), (hu.block _ hCr.lt).trans hCr, hb01.trans ((hbr.trans (hu.mono hbr.size)).mono hb01.size)⟩
    have hbu : ∀ u, Below wr.heap.size wr u → Below w1.heap.size w1 u := fun u hu => hbr.trans (hu.mono hbr.size)
    have HBU : Hid (∀ u, Below wr.heap.size wr u → Below w1.heap.size w1 u) := hbu
    clear hlow hbu
    by_cases hlt : a < l.length
    · have hc : l[a]? = some l[a] := List.getElem?_eq_getElem hlt
      have hin := List.getElem_mem hlt
      obtain ⟨b', o', e, tt⟩ := hxr a _ hc
      cases e
      have CM : Hid (∀ u : World, Calls Tryz.prog 45 #[l[a].k.v, .agg #[.string kt, .string kp, .int .i64 kr, .string kcc]] u fun e w' => e = .returned (.int .i64 (kc l[a].k.ky (Kb.ky ⟨kt, kp, kr, kcc⟩))) ∧ Below u.heap.size u w') := fun u => cmp_any l[a].k ⟨kt, kp, kr, kcc⟩ u
      have HNX : Hid (kc l[a].k.ky (Kb.ky ⟨kt, kp, kr, kcc⟩) < 0 → ∀ j c, j < a + 1 → l[j]? = some c → kc c.k.ky (Kb.ky ⟨kt, kp, kr, kcc⟩) < 0) := fun h1 j c hj hcj => by
        rcases Nat.lt_or_ge j a with h2 | h2
        · exact HLW.out j c h2 hcj
        · obtain rfl : j = a := by omega
          rw [hc] at hcj; obtain rfl := Option.some.inj hcj; exact h1
      have HCU : Hid (¬ kc l[a].k.ky (Kb.ky ⟨kt, kp, kr, kcc⟩) < 0 → CutAt l ⟨kt, kp, kr, kcc⟩ a) := fun h1 => ⟨hal, HLW.out, fun j c hj hcj => by
        rcases Nat.lt_or_ge a j with h2 | h2
        · have h3 := srt_lt hR2.out h2 hc hcj
          have h4 : ¬ kc c.k.ky (Kb.ky ⟨kt, kp, kr, kcc⟩) < 0 := fun h5 => h1 (kc_cmpr.strict h3 h5)
          omega
        · obtain rfl : j = a := by omega
          rw [hc] at hcj; obtain rfl := Option.some.inj hcj; omega⟩
      have eo : 0 + a * 10 = a * 10 := by omega
      rw [eo] at tt
      have lt3 := tt.lt
      generalize l[a] = c at *
      obtain ⟨⟨ct, cp, cr, ck⟩, cv⟩ := c
      obtain ⟨t0, t1, t2, t3, -, -, -, -, -, -⟩ := tt
      simp only [Kb.v] at t0 t1 t2 t3 CM
      have p0 : ∀ q : Cl wr.heap.size wr, q.u.cell? ⟨g, a * 10, none⟩ = some (.string ct) := fun q => q.cell lt3 t0
      have p1 : ∀ q : Cl wr.heap.size wr, q.u.cell? ⟨g, a * 10 + 1, none⟩ = some (.string cp) := fun q => q.cell lt3 t1
      have p2 : ∀ q : Cl wr.heap.size wr, q.u.cell? ⟨g, a * 10 + 2, none⟩ = some (.int .i64 cr) := fun q => q.cell lt3 t2
      have p3 : ∀ q : Cl wr.heap.size wr, q.u.cell? ⟨g, a * 10 + 3, none⟩ = some (.string ck) := fun q => q.cell lt3 t3
      have hltz : (a : Int) < (l.length : Int) := by omega
      generalize kc _ _ = KK at *
      clear t0 t1 t2 t3 hxr hCr hKr hc hin eo
      go_wp2_with fail
      refine wp_region_sched (fun w' => ∃ p : Cl wr.heap.size wr, w' = p.u) [(0, true), (1, true), (2, true), (3, true), (4, true), (5, true), (6, true), (7, true), (8, true), (9, true), (10, true), (11, false), (12, true), (13, true)] rfl (by kernel_rfl) (by kernel_rfl) (by kernel_rfl) ⟨⟨_, (Below.refl _ _).drew⟩, rfl⟩ ?_
      iterate 11 (refine sched_pure rfl (fun K hK => ?_); go_simp; refine hK _ ?_; clear hK K)
      refine sched_loud rfl (fun K hK => ?_)
      go_simp
      refine (CM.out _).mono ?_
      rintro e u2 ⟨rfl, hbu0⟩
      have hbu2 : Below wr.heap.size wr u2 := (Below.refl _ _).drew.trans hbu0
      refine hK _ _ ⟨⟨u2, hbu2⟩, rfl⟩ ?_
      clear hK K hbu0
      iterate 2 (refine sched_pure rfl (fun K hK => ?_); go_simp; refine hK _ ?_; clear hK K)
      refine sched_nil ?_
      clear q0 q1 q2 q3 q4 p0 p1 p2 p3
      by_cases hneg : KK < 0
      · go_wp2_with fail
        go_roundw
        case rel => exact ⟨a + 1, by simp, by omega, HNX.out hneg, HBU.out _ hbu2⟩
        case measure => simp [intOf]; omega
      · obtain ⟨hx2, hC2, hb3⟩ := HEND.out u2 hbu2 (HCU.out (by omega))
        have z0 := hC2.cell
        have haz : (a : Int) ≤ (l.length : Int) := by omega
        have hCU := HCU.out (by omega)
        have HX2 : Hid (XSees u2 (some ⟨g, a * 10, none⟩) (l.drop a)) := fun i x hi => by
          rw [List.getElem?_drop] at hi
          obtain ⟨b, of, e, t⟩ := hx2 (a + i) x hi
          cases e
          refine ⟨g, a * 10, rfl, ?_⟩
          have e2 : 0 + (a + i) * 10 = a * 10 + i * 10 := by omega
          rwa [e2] at t
        have hac : ¬ cap = a := by omega
        clear hx2 hC2 HEND HCU HNX CM
        go_wp2_with fail
        go_ret
        exact ⟨a, g, a * 10, cap - a, rfl, hCU, HX2.out, by omega, hgl, hb3⟩
    · have hae : a = l.length := by omega
      have hCU : CutAt l ⟨kt, kp, kr, kcc⟩ a := ⟨hal, HLW.out, fun j c hj hcj => by have := (List.getElem?_eq_some_iff.1 hcj).1; omega⟩
      obtain ⟨hx2, hC2, hb3⟩ := HEND.out wr.drew (Below.refl _ _).drew hCU
      have z0 := hC2.cell
      have hnl : ¬ ((a : Int) < (l.length : Int)) := by omega
      have d0 : decide ((a : Int) < (l.length : Int)) = false := decide_eq_false hnl
      have haz : (a : Int) ≤ (l.length : Int) := by omega
      have hcz : (a : Int) ≤ (cap : Int) := by omega
      have HAE : Hid (a = l.length) := hae
      have HXN : Hid (∀ o : Nat, XSees wr.drew (some ⟨g, o, none⟩) (l.drop a)) := fun o i x hi => by
        rw [List.getElem?_drop] at hi
        have := (List.getElem?_eq_some_iff.1 hi).1
        omega
      clear hx2 hC2 HEND hxr hCr hKr hae
      by_cases hac : cap = a
      · subst hac
        go_wp2_with fail
        refine wp_region_sched (fun w' => ∃ p : Cl wr.heap.size wr, w' = p.u) [(0, true), (1, true), (2, true), (3, true), (4, true), (5, true), (6, true), (7, true), (8, true), (9, true), (10, true), (11, false), (12, true), (13, true)] rfl (by kernel_rfl) (by kernel_rfl) (by kernel_rfl) ⟨⟨_, (Below.refl _ _).drew⟩, rfl⟩ ?_
        iterate 11 (refine sched_pure rfl (fun K hK => ?_); go_simp; refine hK _ ?_; clear hK K)
        refine sched_loud rfl (fun K hK => ?_)
        go_simp
        refine hK _ _ ⟨⟨_, (Below.refl _ _).drew⟩, rfl⟩ ?_
        clear hK K
        iterate 2 (refine sched_pure rfl (fun K hK => ?_); go_simp; refine hK _ ?_; clear hK K)
        refine sched_nil ?_
        go_wp2_with fail
        go_ret
        refine ⟨cap, g, 0, 0, ?_, hCU, HXN.out 0, by have := HAE.out; omega, hgl, hb3⟩
        have hll := HAE.out
        have hz : l.length - cap = 0 := by omega
        rw [hz]
        simp
      · go_wp2_with fail
        refine wp_region_sched (fun w' => ∃ p : Cl wr.heap.size wr, w' = p.u) [(0, true), (1, true), (2, true), (3, true), (4, true), (5, true), (6, true), (7, true), (8, true), (9, true), (10, true), (11, false), (12, true), (13, true)] rfl (by kernel_rfl) (by kernel_rfl) (by kernel_rfl) ⟨⟨_, (Below.refl _ _).drew⟩, rfl⟩ ?_
        iterate 11 (refine sched_pure rfl (fun K hK => ?_); go_simp; refine hK _ ?_; clear hK K)
        refine sched_loud rfl (fun K hK => ?_)
        go_simp
        refine hK _ _ ⟨⟨_, (Below.refl _ _).drew⟩, rfl⟩ ?_
        clear hK K
        iterate 2 (refine sched_pure rfl (fun K hK => ?_); go_simp; refine hK _ ?_; clear hK K)
        refine sched_nil ?_
        go_wp2_with fail
        go_ret
        exact ⟨a, g, a * 10, cap - a, rfl, hCU, HXN.out _, by omega, hgl, hb3⟩
end Go.Proofs.YtejikcpjkkfkiabGreatDoor
namespace Go.Proofs.YtejikcpjkkfkiabGreatDoor
open Go.RowKit

theorem resX_row_tmp {P : Program} {fn : Func} {p u : Tmp} {ty : TypeId} (h : fn.results = #[.cell p ty, .tmp u]) (tmps : Array Value) (w : World) (g : Nat) (t : TypeId) (cs : Array Value) (fr : Nat × Nat) (d : TypeDesc) (v : Value)
    (hp : tmps.getD p undef = .pointer (some ⟨g, 0, none⟩)) (hv : tmps.getD u undef = v) (hg : w.heap[g]? = some (.cells cs t fr))
    (hu : P.underlying ty = some d) (hd : (match d with | .struct _ | .array _ _ => true | _ => false) = true) (hi : (P.info? ty).map (·.size) = some cs.size) :
    (results fn tmps).run P w = .ok (.tuple #[.agg cs, v]) w := by
  rw [results_cell_tmp h, hp, hv]
  simp [asAddr, run_loadVar_row w g t ty cs fr d hg hu hd hi, Result.andThen]
end Go.Proofs.YtejikcpjkkfkiabGreatDoor
namespace Go.Proofs.YtejikcpjkkfkiabGreatDoor
open Go.RowKit

attribute [local go_sem] Oper.pureAt Oper.pureUpon
theorem CutAt.ahead {l : List Cx} {k : Kb} {a : Nat} (h : CutAt l k a) : fnd k l = fnd k (l.drop a) := fnd_drop a h.le fun j c hj hc e => by
  have := h.lo j c hj hc
  rw [e] at this
  have h0 := (kc_cmpr.z k.ky k.ky).2 rfl
  omega
theorem CutAt.none {l : List Cx} {k : Kb} {a : Nat} (h : CutAt l k a) (ha : a = l.length) : fnd k l = (zeroV, false) := by
  rw [h.ahead, ha, List.drop_length]; rfl
theorem CutAt.hit {l : List Cx} {k : Kb} {a : Nat} (h : CutAt l k a) {c : Cx} (hc : l[a]? = some c) (hk : c.k = k) : fnd k l = (c.v, true) := by
  obtain ⟨hl, e⟩ := List.getElem?_eq_some_iff.1 hc
  rw [h.ahead, List.drop_eq_getElem_cons hl, e]
  exact fnd_hit _ hk
theorem fnd_nowhere {k : Kb} : ∀ {R : List Cx}, (∀ c ∈ R, c.k ≠ k) → fnd k R = (zeroV, false)
  | [], _ => rfl
  | c :: R, h => by rw [fnd_miss _ (h c (by simp))]; exact fnd_nowhere fun u hu => h u (by simp [hu])
theorem CutAt.miss {l : List Cx} (hR : Rising l) {k : Kb} {a : Nat} (h : CutAt l k a) {c : Cx} (hc : l[a]? = some c) (hk : c.k ≠ k) : fnd k l = (zeroV, false) := by
  rw [h.ahead]
  refine fnd_nowhere fun x hx e => ?_
  obtain ⟨i, hi, hxi⟩ := List.getElem_of_mem hx
  have hx2 : l[a + i]? = some x := by rw [← List.getElem?_drop, List.getElem?_eq_getElem hi, hxi]
  by_cases h0 : i = 0
  · subst h0
    rw [Nat.add_zero, hc] at hx2
    obtain rfl := Option.some.inj hx2
    exact hk e
  · have h1 := srt_lt hR (show a < a + i by omega) hc hx2
    have h2 := h.hi a c (Nat.le_refl _) hc
    rw [e] at h1
    omega
set_option maxRecDepth 100000 in
set_option maxHeartbeats 4000000 in
theorem getT_any {w : World} {T : Nat} {l : List Cx} (h : TAt w T l) (k : Kb) :
    Calls Tryz.prog 12 #[.pointer (some ⟨T, 0, none⟩), k.v] w fun e w' => e = .returned (.tuple #[(fnd k l).1.v, .bool (fnd k l).2]) ∧ Below w.heap.size w w' := by
  have hl9 := h.wrt.len
  have hR := h.rising
  obtain ⟨wa, hwa, ⟨b0, b1, b2, b3⟩, hz, hsz, hB⟩ := find_box w k
  have F : Hid (Calls Tryz.prog 32 #[.pointer (some ⟨T, 0, none⟩), k.v] wa fun e w' => ∃ a g o c, e = .returned (.slice (some ⟨g, o, none⟩) (l.length - a) c) ∧ CutAt l k a ∧ XSees w' (some ⟨g, o, none⟩) (l.drop a) ∧ l.length - a ≤ c ∧ g < wa.heap.size ∧ Below wa.heap.size wa w') := from_any (h.below hB) k
  have HF : Hid (∀ w', Below wa.heap.size wa w' → (w'.cell? ⟨w.heap.size, 0, none⟩ = some (.string k.t) ∧ w'.cell? ⟨w.heap.size, 1, none⟩ = some (.string k.p) ∧ w'.cell? ⟨w.heap.size, 2, none⟩ = some (.int .i64 k.r) ∧ w'.cell? ⟨w.heap.size, 3, none⟩ = some (.string k.c)) ∧ w'.heap[w.heap.size + 1]? = some (.cells zeroV.a 30) ∧ Below w.heap.size w w') := fun w' h => by
    have h1 : w.heap.size < wa.heap.size := by omega
    exact ⟨⟨by rw [h.cell h1, b0], by rw [h.cell h1, b1], by rw [h.cell h1, b2], by rw [h.cell h1, b3]⟩, by rw [h.block _ (by omega)]; exact hz, hB.trans (h.mono hB.size)⟩
  have hb0 := b0
  have hb1 := b1
  have hb2 := b2
  have hb3 := b3
  rw [hwa] at hb0 hb1 hb2 hb3
  have hwsz : w.heap.size < wa.heap.size := by omega
  clear b0 b1 b2 b3 hz hB hsz h
  obtain ⟨kt, kp, kr, kcc⟩ := k
  simp only [Kb.v, zeroV, Vr.a] at hwa F hb0 hb1 hb2 hb3 ⊢
  go_enter Tryz.func12, Tryz.ntmps12
  go_wp2_with fail
  rw [← hwa]
  clear hwa hb0 hb1 hb2 hb3
  refine F.out.mono ?_
  rintro e w1 ⟨a, g, o, cp, rfl, hCU, hx, hcp, hgl, hbb⟩
  clear F
  obtain ⟨⟨d0, d1, d2, d3⟩, -, -⟩ := HF.out w1 hbb
  have hlt1 : w.heap.size < w1.heap.size := Nat.lt_of_lt_of_le hwsz hbb.size
  have r0 : ∀ q : Cl w1.heap.size w1, q.u.cell? ⟨w.heap.size, 0, none⟩ = some (.string kt) := fun q => q.cell hlt1 d0
  have r1 : ∀ q : Cl w1.heap.size w1, q.u.cell? ⟨w.heap.size, 1, none⟩ = some (.string kp) := fun q => q.cell hlt1 d1
  have r2 : ∀ q : Cl w1.heap.size w1, q.u.cell? ⟨w.heap.size, 2, none⟩ = some (.int .i64 kr) := fun q => q.cell hlt1 d2
  have r3 : ∀ q : Cl w1.heap.size w1, q.u.cell? ⟨w.heap.size, 3, none⟩ = some (.string kcc) := fun q => q.cell hlt1 d3
  have hle := hCU.le
  obtain ⟨n, hn⟩ : ∃ n, n = l.length - a := ⟨_, rfl⟩
  rw [← hn] at hcp ⊢
  have hn9 : n ≤ 9000 := by omega
  obtain ⟨w2, hw2⟩ : ∃ w2, w2 = w1.drew := ⟨_, rfl⟩
  have hb2 : Below wa.heap.size wa w2 := by rw [hw2]; exact hbb.drew
  have hxd : Hid (∀ i x, (l.drop a)[i]? = some x → TenX w2 g (o + i * 10) x) := fun i x hi => by
    obtain ⟨b, of, e, t⟩ := hx i x hi
    cases e
    have := t.below ((Below.refl w1.heap.size w1).drew) t.lt
    rw [hw2]
    exact this
  haveI := Cl.inh w1.heap.size w1
  by_cases h0 : n = 0
  · have HR : Hid (fnd ⟨kt, kp, kr, kcc⟩ l = (zeroV, false)) := hCU.none (by omega)
    have dn : ((n : Int) == 0) = true := by rw [h0]; rfl
    obtain ⟨-, hz, hBw⟩ := HF.out w2 hb2
    have f0 := frozen_at hz 0
    have f1 := frozen_at hz 1
    have f2 := frozen_at hz 2
    have f3 := frozen_at hz 3
    have f4 := frozen_at hz 4
    have f5 := frozen_at hz 5
    obtain ⟨g1, g2, g3, g4, g5, g6⟩ := VAt.of hz
    simp only [Nat.zero_add, zeroV] at g1 g2 g3 g4 g5 g6
    have HS : Hid (∀ v0 v1 v2 v3 v4 v5 : Value, ((((((w2.setCell ⟨w.heap.size + 1, 0, none⟩ v0).setCell ⟨w.heap.size + 1, 1, none⟩ v1).setCell ⟨w.heap.size + 1, 2, none⟩ v2).setCell ⟨w.heap.size + 1, 3, none⟩ v3).setCell ⟨w.heap.size + 1, 4, none⟩ v4).setCell ⟨w.heap.size + 1, 5, none⟩ v5).heap[w.heap.size + 1]? = some (.cells #[v0, v1, v2, v3, v4, v5] 30)) := set6 hz
    have HBB : Hid (∀ v0 v1 v2 v3 v4 v5 : Value, Below w.heap.size w ((((((w2.setCell ⟨w.heap.size + 1, 0, none⟩ v0).setCell ⟨w.heap.size + 1, 1, none⟩ v1).setCell ⟨w.heap.size + 1, 2, none⟩ v2).setCell ⟨w.heap.size + 1, 3, none⟩ v3).setCell ⟨w.heap.size + 1, 4, none⟩ v4).setCell ⟨w.heap.size + 1, 5, none⟩ v5)) := below6 hBw (by omega)
    clear hz hBw hx hxd hCU hn hbb
    subst h0
    go_wp2_with fail
    refine wp_region_sched (fun w' => ∃ p : Cl w1.heap.size w1, w' = p.u) [(0, true), (1, true), (2, true), (3, true), (4, true), (5, true), (6, true), (7, true), (8, true), (9, true), (10, true)] rfl (by kernel_rfl) (by kernel_rfl) (by kernel_rfl) ⟨⟨_, (Below.refl _ _).drew⟩, rfl⟩ ?_
    iterate 11 (refine sched_pure rfl (fun K hK => ?_); go_simp; refine hK _ ?_; clear hK K)
    refine sched_nil ?_
    rw [← hw2]
    clear hw2
    go_wp2_with fail
    refine bodyPost_ret (v := .tuple #[.agg #[.int .i64 0, .bool false, .int .i64 0, .int .i64 0, .int .i64 0, .string ⟨#[]⟩], .bool false]) (resX_row_tmp Tryz.results12 _ _ (w.heap.size + 1) 30 _ _ _ _ rfl rfl (HS.out _ _ _ _ _ _) Tryz.underlying30 rfl (by kernel_rfl)) rfl ?_
    exact ⟨by rw [HR.out]; rfl, HBB.out _ _ _ _ _ _⟩
  · have hal : a < l.length := by omega
    have hc : l[a]? = some l[a] := List.getElem?_eq_getElem hal
    have hdn : ((n : Int) == 0) = false := by simp; omega
    have tt := hxd.out 0 l[a] (by rw [List.getElem?_drop, Nat.add_zero]; exact hc)
    have tu : TenX w1 g (o + 0 * 10) l[a] := by
      obtain ⟨b, of, e, t⟩ := hx 0 l[a] (by rw [List.getElem?_drop, Nat.add_zero]; exact hc)
      cases e
      exact t
    rw [Nat.zero_mul, Nat.add_zero] at tt tu
    have hglt := tu.lt
    have HHIT : Hid (l[a].k = ⟨kt, kp, kr, kcc⟩ → fnd ⟨kt, kp, kr, kcc⟩ l = (l[a].v, true)) := fun e => hCU.hit hc e
    have HMISS : Hid (l[a].k ≠ ⟨kt, kp, kr, kcc⟩ → fnd ⟨kt, kp, kr, kcc⟩ l = (zeroV, false)) := fun e => hCU.miss hR hc e
    generalize l[a] = c at *
    obtain ⟨⟨ct, cpp, cr, cc⟩, ⟨tm, dd, lc, kd, nm, st⟩⟩ := c
    obtain ⟨t0, t1, t2, t3, -, -, -, -, -, -⟩ := tu
    obtain ⟨-, -, -, -, x4, x5, x6, x7, x8, x9⟩ := tt
    simp only at t0 t1 t2 t3 x4 x5 x6 x7 x8 x9
    have q0 : ∀ q : Cl w1.heap.size w1, q.u.cell? ⟨g, o, none⟩ = some (.string ct) := fun q => q.cell hglt t0
    have q1 : ∀ q : Cl w1.heap.size w1, q.u.cell? ⟨g, o + 1, none⟩ = some (.string cpp) := fun q => q.cell hglt t1
    have q2 : ∀ q : Cl w1.heap.size w1, q.u.cell? ⟨g, o + 2, none⟩ = some (.int .i64 cr) := fun q => q.cell hglt t2
    have q3 : ∀ q : Cl w1.heap.size w1, q.u.cell? ⟨g, o + 3, none⟩ = some (.string cc) := fun q => q.cell hglt t3
    have hnz : (0 : Int) < (n : Int) := by omega
    have hn0 : 0 < n := by omega
    obtain ⟨-, hz, hBw⟩ := HF.out w2 hb2
    have f0 := frozen_at hz 0
    have f1 := frozen_at hz 1
    have f2 := frozen_at hz 2
    have f3 := frozen_at hz 3
    have f4 := frozen_at hz 4
    have f5 := frozen_at hz 5
    obtain ⟨g1, g2, g3, g4, g5, g6⟩ := VAt.of hz
    simp only [Nat.zero_add, zeroV] at g1 g2 g3 g4 g5 g6
    have HS : Hid (∀ v0 v1 v2 v3 v4 v5 : Value, ((((((w2.setCell ⟨w.heap.size + 1, 0, none⟩ v0).setCell ⟨w.heap.size + 1, 1, none⟩ v1).setCell ⟨w.heap.size + 1, 2, none⟩ v2).setCell ⟨w.heap.size + 1, 3, none⟩ v3).setCell ⟨w.heap.size + 1, 4, none⟩ v4).setCell ⟨w.heap.size + 1, 5, none⟩ v5).heap[w.heap.size + 1]? = some (.cells #[v0, v1, v2, v3, v4, v5] 30)) := set6 hz
    have HBB : Hid (∀ v0 v1 v2 v3 v4 v5 : Value, Below w.heap.size w ((((((w2.setCell ⟨w.heap.size + 1, 0, none⟩ v0).setCell ⟨w.heap.size + 1, 1, none⟩ v1).setCell ⟨w.heap.size + 1, 2, none⟩ v2).setCell ⟨w.heap.size + 1, 3, none⟩ v3).setCell ⟨w.heap.size + 1, 4, none⟩ v4).setCell ⟨w.heap.size + 1, 5, none⟩ v5)) := below6 hBw (by omega)
    clear hz hBw hx hxd hCU hn hbb t0 t1 t2 t3 hc
    by_cases hck : (⟨ct, cpp, cr, cc⟩ : Kb) = ⟨kt, kp, kr, kcc⟩
    · have HR := toHidE (HHIT.out hck)
      clear HHIT HMISS
      simp only [Kb.mk.injEq] at hck
      obtain ⟨rfl, rfl, rfl, rfl⟩ := hck
      go_wp2_with fail
      refine wp_region_sched (fun w' => ∃ p : Cl w1.heap.size w1, w' = p.u) [(0, true), (1, true), (2, true), (3, true), (4, true), (5, true), (6, true), (7, true), (8, true), (9, true), (10, true)] rfl (by kernel_rfl) (by kernel_rfl) (by kernel_rfl) ⟨⟨_, (Below.refl _ _).drew⟩, rfl⟩ ?_
      iterate 11 (refine sched_pure rfl (fun K hK => ?_); go_simp; refine hK _ ?_; clear hK K)
      refine sched_nil ?_
      rw [← hw2]
      clear hw2
      go_wp2_with fail
      refine bodyPost_ret (v := .tuple #[.agg #[.int .i64 tm, .bool dd, .int .i64 lc, .int .i64 kd, .int .i64 nm, .string st], .bool true]) (resX_row_tmp Tryz.results12 _ _ (w.heap.size + 1) 30 _ _ _ _ rfl rfl (HS.out _ _ _ _ _ _) Tryz.underlying30 rfl (by kernel_rfl)) rfl ?_
      exact ⟨by rw [HR.out]; rfl, HBB.out _ _ _ _ _ _⟩
    · have HR := toHidE (HMISS.out hck)
      clear HHIT HMISS
      have hkf := key_first hck
      clear hck x4 x5 x6 x7 x8 x9
      rcases hkf with h | ⟨rfl, h⟩ | ⟨rfl, rfl, h⟩ | ⟨rfl, rfl, rfl, h⟩
      · go_wp2_with fail
        refine wp_region_sched (fun w' => ∃ p : Cl w1.heap.size w1, w' = p.u) [(0, true), (1, true), (2, true), (3, true), (4, true), (5, true), (6, true), (7, true), (8, true), (9, true), (10, true)] rfl (by kernel_rfl) (by kernel_rfl) (by kernel_rfl) ⟨⟨_, (Below.refl _ _).drew⟩, rfl⟩ ?_
        iterate 11 (refine sched_pure rfl (fun K hK => ?_); go_simp; refine hK _ ?_; clear hK K)
        refine sched_nil ?_
        rw [← hw2]
        clear hw2
        go_wp2_with fail
        refine bodyPost_ret (v := .tuple #[.agg #[.int .i64 0, .bool false, .int .i64 0, .int .i64 0, .int .i64 0, .string ⟨#[]⟩], .bool false]) (resX_row_tmp Tryz.results12 _ _ (w.heap.size + 1) 30 _ _ _ _ rfl rfl (HS.out _ _ _ _ _ _) Tryz.underlying30 rfl (by kernel_rfl)) rfl ?_
        exact ⟨by rw [HR.out]; rfl, HBB.out _ _ _ _ _ _⟩
      · go_wp2_with fail
        refine wp_region_sched (fun w' => ∃ p : Cl w1.heap.size w1, w' = p.u) [(0, true), (1, true), (2, true), (3, true), (4, true), (5, true), (6, true), (7, true), (8, true), (9, true), (10, true)] rfl (by kernel_rfl) (by kernel_rfl) (by kernel_rfl) ⟨⟨_, (Below.refl _ _).drew⟩, rfl⟩ ?_
        iterate 11 (refine sched_pure rfl (fun K hK => ?_); go_simp; refine hK _ ?_; clear hK K)
        refine sched_nil ?_
        rw [← hw2]
        clear hw2
        go_wp2_with fail
        refine bodyPost_ret (v := .tuple #[.agg #[.int .i64 0, .bool false, .int .i64 0, .int .i64 0, .int .i64 0, .string ⟨#[]⟩], .bool false]) (resX_row_tmp Tryz.results12 _ _ (w.heap.size + 1) 30 _ _ _ _ rfl rfl (HS.out _ _ _ _ _ _) Tryz.underlying30 rfl (by kernel_rfl)) rfl ?_
        exact ⟨by rw [HR.out]; rfl, HBB.out _ _ _ _ _ _⟩
      · go_wp2_with fail
        refine wp_region_sched (fun w' => ∃ p : Cl w1.heap.size w1, w' = p.u) [(0, true), (1, true), (2, true), (3, true), (4, true), (5, true), (6, true), (7, true), (8, true), (9, true), (10, true)] rfl (by kernel_rfl) (by kernel_rfl) (by kernel_rfl) ⟨⟨_, (Below.refl _ _).drew⟩, rfl⟩ ?_
        iterate 11 (refine sched_pure rfl (fun K hK => ?_); go_simp; refine hK _ ?_; clear hK K)
        refine sched_nil ?_
        rw [← hw2]
        clear hw2
        go_wp2_with fail
        refine bodyPost_ret (v := .tuple #[.agg #[.int .i64 0, .bool false, .int .i64 0, .int .i64 0, .int .i64 0, .string ⟨#[]⟩], .bool false]) (resX_row_tmp Tryz.results12 _ _ (w.heap.size + 1) 30 _ _ _ _ rfl rfl (HS.out _ _ _ _ _ _) Tryz.underlying30 rfl (by kernel_rfl)) rfl ?_
        exact ⟨by rw [HR.out]; rfl, HBB.out _ _ _ _ _ _⟩
      · go_wp2_with fail
        refine wp_region_sched (fun w' => ∃ p : Cl w1.heap.size w1, w' = p.u) [(0, true), (1, true), (2, true), (3, true), (4, true), (5, true), (6, true), (7, true), (8, true), (9, true), (10, true)] rfl (by kernel_rfl) (by kernel_rfl) (by kernel_rfl) ⟨⟨_, (Below.refl _ _).drew⟩, rfl⟩ ?_
        iterate 11 (refine sched_pure rfl (fun K hK => ?_); go_simp; refine hK _ ?_; clear hK K)
        refine sched_nil ?_
        rw [← hw2]
        clear hw2
        go_wp2_with fail
        refine bodyPost_ret (v := .tuple #[.agg #[.int .i64 0, .bool false, .int .i64 0, .int .i64 0, .int .i64 0, .string ⟨#[]⟩], .bool false]) (resX_row_tmp Tryz.results12 _ _ (w.heap.size + 1) 30 _ _ _ _ rfl rfl (HS.out _ _ _ _ _ _) Tryz.underlying30 rfl (by kernel_rfl)) rfl ?_
        exact ⟨by rw [HR.out]; rfl, HBB.out _ _ _ _ _ _⟩
end Go.Proofs.YtejikcpjkkfkiabGreatDoor
namespace Go.Proofs.YtejikcpjkkfkiabGreatDoor
open Go.RowKit

attribute [local go_sem] Oper.pureAt Oper.pureUpon
end Go.Proofs.YtejikcpjkkfkiabGreatDoor
namespace Go.Proofs.YtejikcpjkkfkiabGreatDoor
open Go.RowKit

attribute [local go_sem] Oper.pureAt Oper.pureUpon
end Go.Proofs.YtejikcpjkkfkiabGreatDoor
namespace Go.Proofs.YtejikcpjkkfkiabGreatDoor
open Go.RowKit

theorem wtXs_cons (c : Cx) (l : List Cx) : wtXs (c :: l) = wtX c + wtXs l := by unfold wtXs; rw [List.map_cons, List.sum_cons]
theorem wtXs_append (a b : List Cx) : wtXs (a ++ b) = wtXs a + wtXs b := by unfold wtXs; rw [List.map_append, List.sum_append]
theorem wtXs_addC (c : Cx) : ∀ O : List Cx, wtXs (addC O c) ≤ wtXs O + wtX c
  | [] => by rw [addC, wtXs_cons]; omega
  | x :: O => by
    have ih := wtXs_addC c O
    unfold addC
    split
    · rename_i hk
      rw [wtXs_cons, wtXs_cons]
      have h1 : wtX (jnC x c) ≤ wtX x + wtX c := by
        unfold jnC wtX
        rcases jn_or x.v c.v with e | e <;> rw [e] <;> simp only [] <;> omega
      omega
    · split
      · rw [wtXs_cons, wtXs_cons]; omega
      · rw [wtXs_cons, wtXs_cons]; omega
theorem wtXs_fold : ∀ (l O : List Cx), wtXs (l.foldl addC O) ≤ wtXs O + wtXs l
  | [], O => by rw [List.foldl_nil]; omega
  | c :: l, O => by
    have h1 := wtXs_fold l (addC O c)
    have h2 := wtXs_addC c O
    rw [List.foldl_cons, wtXs_cons]
    omega
theorem wtXs_nrm (l : List Cx) : wtXs (nrm l) ≤ wtXs l := by
  have := wtXs_fold l []
  unfold nrm
  have e : wtXs [] = 0 := rfl
  omega
theorem wtXs_goods : ∀ l : List Cx, wtXs (goods l) ≤ wtXs l
  | [] => Nat.le_refl _
  | c :: l => by
    have ih := wtXs_goods l
    unfold goods at *
    rw [List.filter_cons]
    split
    · rw [wtXs_cons, wtXs_cons]; omega
    · rw [wtXs_cons]; omega
theorem cxB_lenW (l : List Cx) : (cxB l).length ≤ 10 + (wtXs l + 81 * l.length) := by
  have h1 := wtYs_le l
  have h2 := manyL_leD (l.map toC)
  have h3 := (numL_length (l.map toC).length).2
  rw [wtL_toC, List.length_map] at h2
  unfold cxB cellsL
  rw [List.length_append]
  omega
theorem blksB_lenW (l : List Cx) : ∀ n : Nat, (blksB l (List.range n)).length ≤ 18 * n + (wtXs (l.take (8 * n)) + 81 * (l.take (8 * n)).length)
  | 0 => by simp [blksB]
  | n + 1 => by
    have ih := blksB_lenW l n
    have h1 : l.take (8 * (n + 1)) = l.take (8 * n) ++ chk l n := by
      unfold chk
      rw [show 8 * (n + 1) = 8 * n + 8 by omega, List.take_add]
    have h2 := cxB_lenW (chk l n)
    have h3 : (blksB l (List.range (n + 1))).length = (blksB l (List.range n)).length + (blkB l n).length := by
      unfold blksB
      rw [List.range_succ, List.flatMap_append, List.length_append, List.flatMap_cons, List.flatMap_nil, List.append_nil]
    have h4 : (blkB l n).length = (cxB (chk l n)).length + 8 := by unfold blkB; rw [frameL_len]
    rw [h1, wtXs_append, List.length_append]
    omega
theorem wtXs_take (l : List Cx) (n : Nat) : wtXs (l.take n) ≤ wtXs l := by
  have h := wtXs_append (l.take n) (l.drop n)
  rw [List.take_append_drop] at h
  omega
theorem encTb_lenW {l : List Cx} (h : Wrt l) : (encTb l).length ≤ 228 * nBk l.length + wtXs l + 81 * l.length + nOf l.length 10 + 200 := by
  have lB := blksB_lenW l (nBk l.length)
  have lI := idxB_len h.small (allK l)
  have lF := fltB_len l
  have lE := endC_len l
  have lT := wtXs_take l (8 * nBk l.length)
  have lU : (l.take (8 * nBk l.length)).length ≤ l.length := by rw [List.length_take]; omega
  have lA : allK l = List.range (nBk l.length) := rfl
  rw [allK_len] at lI
  rw [← lA] at lB
  unfold encTb headB
  simp only [List.length_append, frameL_len, List.length_cons, List.length_nil]
  omega
end Go.Proofs.YtejikcpjkkfkiabGreatDoor
namespace Go.Proofs.YtejikcpjkkfkiabGreatDoor
open Go.RowKit

theorem may_fold : ∀ (l : List Cx) (f : List UInt8) (k : BitVec 64 × BitVec 64), 0 < f.length → (mayK f k 7 = true ∨ ∃ c ∈ l, sumB (encK c.k.ky) 0#64 = k) → mayK (l.foldl (fun f c => addK f (sumB (encK c.k.ky) 0#64) 7) f) k 7 = true
  | [], f, k, _, h => by
    rcases h with h | ⟨c, hc, -⟩
    · exact h
    · cases hc
  | x :: l, f, k, hf, h => by
    rw [List.foldl_cons]
    refine may_fold l _ k (by rw [addK_length]; exact hf) ?_
    rcases h with h | ⟨c, hc, e⟩
    · exact .inl (may_more _ _ _ _ _ hf h)
    · rcases List.mem_cons.1 hc with rfl | hc
      · left; rw [← e]; exact may_add _ _ _ hf
      · exact .inr ⟨c, hc, e⟩
theorem filB_may {n : Nat} {l : List Cx} (hn : 0 < nOf n 10) {c : Cx} (hc : c ∈ l) : mayK (filB n l) (sumB (encK c.k.ky) 0#64) 7 = true := by
  unfold filB
  exact may_fold l _ _ (by rw [List.length_replicate]; exact hn) (.inr ⟨c, hc, rfl⟩)
theorem Wrt.big {l : List Cx} (h : Wrt l) {c : Cx} (hc : c ∈ l) : c.k.Big := by
  obtain ⟨a, b, d, -⟩ := h.small c hc
  have := h.num c hc
  exact ⟨by omega, by omega, by omega, this.1⟩
/-- Open of what was written. -/
theorem open_row {w : World} {g cap : Nat} {l : List Cx} (hR : Row9 w g (encTb l) cap) (h : Wrt l) (hw : wrtB l = true) (hl : (encTb l).length ≤ 60000) (ht : Tab w) (ue : TypeId) (pv : Value) (he : Err w ue pv) :
    Calls Tryz.prog 9 #[.slice (some ⟨g, 0, none⟩) (encTb l).length cap] w fun e w' => e = .returned (.tuple #[.pointer (some ⟨w.heap.size, 0, none⟩), .int .i64 0]) ∧ TAt w' w.heap.size l ∧ Below w.heap.size w w' := by
  have hcm : cap ≤ 9223372036854775807 ∧ (encTb l).length ≤ cap := by obtain ⟨cur, -, q1, q2, -⟩ := hR; unfold maxLen at q2; omega
  refine (open_any g 0 cap (encTb l) w hR.sees (encTb_pos l) hl hcm.2 hcm.1 hR.lt ht ue pv he).mono ?_
  rintro e w' ⟨h1, (⟨h2, -⟩ | ⟨l', rfl, h2, h3⟩)⟩
  · exact absurd rfl (h2 l h hw)
  · obtain rfl := encTb_inj h2.wrt h h3
    exact ⟨rfl, h2, h1⟩
end Go.Proofs.YtejikcpjkkfkiabGreatDoor
namespace Go.Proofs.YtejikcpjkkfkiabGreatDoor
open Go.RowKit

attribute [local go_sem] Oper.pureAt Oper.pureUpon
theorem resX_rows {P : Program} {fn : Func} {p q u : Tmp} {ty : TypeId} (h : fn.results = #[.cell p ty, .cell q ty, .tmp u]) (tmps : Array Value) (w : World) (g1 g2 : Nat) (t : TypeId) (cs1 cs2 : Array Value) (fr1 fr2 : Nat × Nat) (d : TypeDesc) (v : Value)
    (hp : tmps.getD p undef = .pointer (some ⟨g1, 0, none⟩)) (hq : tmps.getD q undef = .pointer (some ⟨g2, 0, none⟩)) (hv : tmps.getD u undef = v) (hg1 : w.heap[g1]? = some (.cells cs1 t fr1)) (hg2 : w.heap[g2]? = some (.cells cs2 t fr2))
    (hu : P.underlying ty = some d) (hd : (match d with | .struct _ | .array _ _ => true | _ => false) = true) (hi1 : (P.info? ty).map (·.size) = some cs1.size) (hi2 : (P.info? ty).map (·.size) = some cs2.size) :
    (results fn tmps).run P w = .ok (.tuple #[.agg cs1, .agg cs2, v]) w := by
  rw [Array.getD_eq_getD_getElem?] at hp hq hv
  simp only [results, h]
  simp [Sem.run_bind, Result.andThen, hp, hq, hv, asAddr, run_loadVar_row w g1 t ty cs1 fr1 d hg1 hu hd hi1, run_loadVar_row w g2 t ty cs2 fr2 d hg2 hu hd hi2]
theorem set_other {w : World} {g : Nat} {cs : List Value} {t : TypeId} (h : Blk w g cs t) {g' : Nat} (hne : g' ≠ g) (i : Nat) (v : Value) : Blk (w.setCell ⟨g', i, none⟩ v) g cs t := h.carry (by
  simp only [World.setCell, Array.getElem?_modify]
  rw [if_neg (by simpa using hne)])
theorem set4 {w : World} {g : Nat} {a b c d : Value} {t : TypeId} (h : Blk w g [a, b, c, d] t) (v0 v1 v2 v3 : Value) :
    Blk ((((w.setCell ⟨g, 0, none⟩ v0).setCell ⟨g, 1, none⟩ v1).setCell ⟨g, 2, none⟩ v2).setCell ⟨g, 3, none⟩ v3) g [v0, v1, v2, v3] t := (((h.set 0 v0).set 1 v1).set 2 v2).set 3 v3
theorem set4_other {w : World} {g : Nat} {cs : List Value} {t : TypeId} (h : Blk w g cs t) {g' : Nat} (hne : g' ≠ g) (v0 v1 v2 v3 : Value) :
    Blk ((((w.setCell ⟨g', 0, none⟩ v0).setCell ⟨g', 1, none⟩ v1).setCell ⟨g', 2, none⟩ v2).setCell ⟨g', 3, none⟩ v3) g cs t := set_other (set_other (set_other (set_other h hne 0 v0) hne 1 v1) hne 2 v2) hne 3 v3
theorem below4 {B : Nat} {w w1 : World} (h : Below B w w1) {g : Nat} (hg : B ≤ g) (v0 v1 v2 v3 : Value) : Below B w ((((w1.setCell ⟨g, 0, none⟩ v0).setCell ⟨g, 1, none⟩ v1).setCell ⟨g, 2, none⟩ v2).setCell ⟨g, 3, none⟩ v3) := (((h.setCell hg v0).setCell hg v1).setCell hg v2).setCell hg v3
set_option maxRecDepth 100000 in
set_option maxHeartbeats 2000000 in
theorem endsT_any {w : World} {T : Nat} {l : List Cx} (h : TAt w T l) {c d : Cx} (hc : l[0]? = some c) (hd : l[l.length - 1]? = some d) :
    Calls Tryz.prog 10 #[.pointer (some ⟨T, 0, none⟩)] w fun e w' => e = .returned (.tuple #[c.k.v, d.k.v, .bool true]) ∧ Below w.heap.size w w' := by
  have hl9 := h.wrt.len
  have hpos := h.pos
  obtain ⟨fm, g, cap, hB, hx, hcap, hctop, hgl, -⟩ := h.cells
  obtain ⟨wa, hwa⟩ : ∃ wa, wa = (w.alloc (.cells #[.string ⟨#[]⟩, .string ⟨#[]⟩, .int .i64 0, .string ⟨#[]⟩] 24)).alloc (.cells #[.string ⟨#[]⟩, .string ⟨#[]⟩, .int .i64 0, .string ⟨#[]⟩] 24) := ⟨_, rfl⟩
  have hba : Below w.heap.size w wa := by rw [hwa]; exact ((Below.refl _ _).alloc (Nat.le_refl _) _).alloc (by simp) _
  have hK : Blk wa w.heap.size [.string ⟨#[]⟩, .string ⟨#[]⟩, .int .i64 0, .string ⟨#[]⟩] 24 := by rw [hwa]; exact (Blk.new w _ _).alloc _
  have hJ : Blk wa (w.heap.size + 1) [.string ⟨#[]⟩, .string ⟨#[]⟩, .int .i64 0, .string ⟨#[]⟩] 24 := by
    have := Blk.new (w.alloc (.cells #[.string ⟨#[]⟩, .string ⟨#[]⟩, .int .i64 0, .string ⟨#[]⟩] 24)) [.string ⟨#[]⟩, .string ⟨#[]⟩, .int .i64 0, .string ⟨#[]⟩] 24
    rw [World.size_alloc] at this
    rw [hwa]; exact this
  have SO : Hid (Calls Tryz.prog 30 #[.pointer (some ⟨T, 0, none⟩)] wa fun e w' => e = .returned (.slice (some ⟨g, 0, none⟩) l.length cap) ∧ w' = wa) := sorted_at (hB.carry (hba.block _ hB.lt))
  have hxa := hx.below hba (Nat.le_refl _)
  obtain ⟨b1, o1, e1, t1⟩ := hxa 0 c hc
  cases e1
  obtain ⟨b2, o2, e2, t2⟩ := hxa (l.length - 1) d hd
  cases e2
  obtain ⟨n, hn⟩ : ∃ n, l.length = n + 1 := ⟨l.length - 1, by omega⟩
  rw [hn, Nat.add_sub_cancel] at t2
  rw [Nat.zero_mul, Nat.add_zero] at t1
  rw [Nat.zero_add] at t2
  rw [hn] at SO hcap hl9
  have hnz : ((n : Int) + 1) - 1 = (n : Int) := by omega
  have hnz2 : (((n + 1 : Nat)) : Int) - 1 = (n : Int) := by omega
  have hn0 : (((n + 1 : Nat) : Int) == 0) = false := by rw [beq_eq_false_iff_ne]; omega
  have hn02 : (((n : Int) + 1) == 0) = false := by rw [beq_eq_false_iff_ne]; omega
  have hgw : g < w.heap.size := hgl
  obtain ⟨⟨ct, cp, cr, cc⟩, cv⟩ := c
  obtain ⟨⟨dt, dp, dr, dc⟩, dv⟩ := d
  obtain ⟨s0, s1, s2, s3, -, -, -, -, -, -⟩ := t1
  obtain ⟨u0, u1, u2, u3, -, -, -, -, -, -⟩ := t2
  simp only at s0 s1 s2 s3 u0 u1 u2 u3
  have HEND : Hid (∀ u, Below wa.heap.size wa u → Blk u w.heap.size [.string ⟨#[]⟩, .string ⟨#[]⟩, .int .i64 0, .string ⟨#[]⟩] 24 ∧ Blk u (w.heap.size + 1) [.string ⟨#[]⟩, .string ⟨#[]⟩, .int .i64 0, .string ⟨#[]⟩] 24 ∧ Below w.heap.size w u) := fun u hu => ⟨hK.carry (hu.block _ hK.lt), hJ.carry (hu.block _ hJ.lt), hba.trans (hu.mono hba.size)⟩
  have p0 : ∀ q : Cl w.heap.size wa, q.u.cell? ⟨g, 0, none⟩ = some (.string ct) := fun q => q.cell hgw s0
  have p1 : ∀ q : Cl w.heap.size wa, q.u.cell? ⟨g, 1, none⟩ = some (.string cp) := fun q => q.cell hgw s1
  have p2 : ∀ q : Cl w.heap.size wa, q.u.cell? ⟨g, 2, none⟩ = some (.int .i64 cr) := fun q => q.cell hgw s2
  have p3 : ∀ q : Cl w.heap.size wa, q.u.cell? ⟨g, 3, none⟩ = some (.string cc) := fun q => q.cell hgw s3
  have q0 : ∀ q : Cl w.heap.size wa, q.u.cell? ⟨g, n * 10, none⟩ = some (.string dt) := fun q => q.cell hgw u0
  have q1 : ∀ q : Cl w.heap.size wa, q.u.cell? ⟨g, n * 10 + 1, none⟩ = some (.string dp) := fun q => q.cell hgw u1
  have q2 : ∀ q : Cl w.heap.size wa, q.u.cell? ⟨g, n * 10 + 2, none⟩ = some (.int .i64 dr) := fun q => q.cell hgw u2
  have q3 : ∀ q : Cl w.heap.size wa, q.u.cell? ⟨g, n * 10 + 3, none⟩ = some (.string dc) := fun q => q.cell hgw u3
  clear s0 s1 s2 s3 u0 u1 u2 u3 hx hxa hB h hc hd hK hJ hba
  simp only [Kb.v]
  haveI := Cl.inh w.heap.size wa
  go_enter Tryz.func10, Tryz.ntmps10
  go_wp2_with fail
  rw [← hwa]
  clear hwa
  refine SO.out.mono ?_
  rintro e w1 ⟨rfl, he0⟩
  have he1 : wa = w1 := he0.symm
  subst he1
  clear SO he0
  go_wp2_with fail
  obtain ⟨K1, J1, B1⟩ := HEND.out _ (Below.refl _ _)
  clear HEND
  have HW : Hid (IntKind.i64.wrap (n : Int) = (n : Int)) := by show _ = _; rw [IntKind.wrap_i64]; omega
  have hn00 : (0 : Int) ≤ (n : Int) := by omega
  have hn01 : (n : Int) < (n : Int) + 1 := by omega
  have f0 := K1.frozen 0
  have f1 := K1.frozen 1
  have f2 := K1.frozen 2
  have f3 := K1.frozen 3
  have k0 := K1.cell 0 rfl
  have k1 := K1.cell 1 rfl
  have k2 := K1.cell 2 rfl
  have k3 := K1.cell 3 rfl
  refine wp_region_sched (fun w' => ∃ p : Cl w.heap.size wa, w' = p.u) [(0, true), (1, true), (2, true), (3, true), (4, true), (5, true), (6, true), (7, true), (8, true), (9, true), (10, true), (11, false), (12, false), (13, true)] rfl (by kernel_rfl) (by kernel_rfl) (by kernel_rfl) ⟨⟨_, (Below.refl _ _).drew⟩, rfl⟩ ?_
  iterate 8 (refine sched_pure rfl (fun K hK => ?_); go_simp; refine hK _ ?_; clear hK K)
  rw [HW.out]
  iterate 3 (refine sched_pure rfl (fun K hK => ?_); go_simp; refine hK _ ?_; clear hK K)
  refine sched_loud rfl (fun KK hK => ?_)
  go_simp
  obtain ⟨W5, hW5⟩ : ∃ W5, W5 = (((wa.setCell ⟨w.heap.size, 0, none⟩ (.string ct)).setCell ⟨w.heap.size, 1, none⟩ (.string cp)).setCell ⟨w.heap.size, 2, none⟩ (.int .i64 cr)).setCell ⟨w.heap.size, 3, none⟩ (.string cc) := ⟨_, rfl⟩
  have K5 : Blk W5 w.heap.size [.string ct, .string cp, .int .i64 cr, .string cc] 24 := by rw [hW5]; exact set4 K1 _ _ _ _
  have J5 : Blk W5 (w.heap.size + 1) [.string ⟨#[]⟩, .string ⟨#[]⟩, .int .i64 0, .string ⟨#[]⟩] 24 := by rw [hW5]; exact set4_other J1 (by omega) _ _ _ _
  have B5 : Below w.heap.size w W5 := by rw [hW5]; exact below4 B1 (Nat.le_refl _) _ _ _ _
  have C5 : Below w.heap.size wa W5 := by rw [hW5]; exact below4 (Below.refl _ _) (Nat.le_refl _) _ _ _ _
  rw [← hW5]
  refine hK _ _ ⟨⟨_, C5.drew⟩, rfl⟩ ?_
  clear hK KK hW5 f0 f1 f2 f3 k0 k1 k2 k3 K1 J1
  have f0 := J5.frozen 0
  have f1 := J5.frozen 1
  have f2 := J5.frozen 2
  have f3 := J5.frozen 3
  have k0 := J5.cell 0 rfl
  have k1 := J5.cell 1 rfl
  have k2 := J5.cell 2 rfl
  have k3 := J5.cell 3 rfl
  refine sched_loud rfl (fun KK hK => ?_)
  go_simp
  obtain ⟨W9, hW9⟩ : ∃ W9, W9 = (((W5.setCell ⟨w.heap.size + 1, 0, none⟩ (.string dt)).setCell ⟨w.heap.size + 1, 1, none⟩ (.string dp)).setCell ⟨w.heap.size + 1, 2, none⟩ (.int .i64 dr)).setCell ⟨w.heap.size + 1, 3, none⟩ (.string dc) := ⟨_, rfl⟩
  have J9 : Blk W9 (w.heap.size + 1) [.string dt, .string dp, .int .i64 dr, .string dc] 24 := by rw [hW9]; exact set4 J5 _ _ _ _
  have K9 : Blk W9 w.heap.size [.string ct, .string cp, .int .i64 cr, .string cc] 24 := by rw [hW9]; exact set4_other K5 (by omega) _ _ _ _
  have B9 : Below w.heap.size w W9 := by rw [hW9]; exact below4 B5 (by omega) _ _ _ _
  have C9 : Below w.heap.size wa W9 := by rw [hW9]; exact below4 C5 (by omega) _ _ _ _
  rw [← hW9]
  refine hK _ _ ⟨⟨_, C9.drew⟩, rfl⟩ ?_
  clear hK KK hW9 f0 f1 f2 f3 k0 k1 k2 k3 K5 J5
  iterate 1 (refine sched_pure rfl (fun K hK => ?_); go_simp; refine hK _ ?_; clear hK K)
  refine sched_nil ?_
  have K10 : Blk W9.drew w.heap.size [.string ct, .string cp, .int .i64 cr, .string cc] 24 := K9
  have J10 : Blk W9.drew (w.heap.size + 1) [.string dt, .string dp, .int .i64 dr, .string dc] 24 := J9
  have B10 : Below w.heap.size w W9.drew := B9.drew
  clear K9 J9 B9 C9 C5 B5 B1
  generalize W9.drew = WX at *
  go_wp2_with fail
  refine bodyPost_ret (v := .tuple #[.agg #[.string ct, .string cp, .int .i64 cr, .string cc], .agg #[.string dt, .string dp, .int .i64 dr, .string dc], .bool true]) (resX_rows Tryz.results10 _ _ w.heap.size (w.heap.size + 1) 24 _ _ _ _ _ _ rfl rfl rfl K10 J10 Tryz.underlying24 rfl (by kernel_rfl) (by kernel_rfl)) rfl ?_
  exact ⟨rfl, B10⟩
end Go.Proofs.YtejikcpjkkfkiabGreatDoor
namespace Go.Proofs.YtejikcpjkkfkiabGreatDoor
open Go.RowKit

theorem nrm_nrm (l : List Cx) : nrm (nrm l) = nrm l := nrm_of_rising (nrm_rising l)
/-- Each one twice. -/
def dbl (l : List Cx) : List Cx := l.flatMap fun c => [c, c]
theorem dbl_cons (c : Cx) (l : List Cx) : dbl (c :: l) = c :: c :: dbl l := rfl
theorem dbl_snoc (l : List Cx) (c : Cx) : dbl (l ++ [c]) = dbl l ++ [c, c] := by unfold dbl; rw [List.flatMap_append]; rfl
theorem dbl_len (l : List Cx) : (dbl l).length = 2 * l.length := by
  induction l with
  | nil => rfl
  | cons c l ih => rw [dbl_cons, List.length_cons, List.length_cons, ih, List.length_cons]; omega
theorem ofK_dbl (κ : Kb) (l : List Cx) : ofK κ (dbl l) = dbl (ofK κ l) := by
  induction l with
  | nil => rfl
  | cons c l ih =>
    rw [dbl_cons]
    by_cases h : c.k = κ
    · rw [ofK_cons_hit _ h, ofK_cons_hit _ h, ofK_cons_hit _ h, dbl_cons, ih]
    · rw [ofK_cons_miss _ h, ofK_cons_miss _ h, ofK_cons_miss _ h, ih]
theorem fK_dbl (l : List Cx) : fK (dbl l) = fK l := by
  induction l with
  | nil => rfl
  | cons c l ih =>
    have e1 : dbl (c :: l) = [c, c] ++ dbl l := rfl
    have e2 : c :: l = [c] ++ l := rfl
    have e3 : fK [c, c] = fK [c] := by show [jnC c c] = [c]; rw [jnC_self]
    rw [e1, e2, fK_append, fK_append, ih, e3]
theorem nrm_dbl (l : List Cx) : nrm (dbl l) = nrm l :=
  rise_ext (nrm_rising _) (nrm_rising _) fun κ => by rw [nrm_ofK, nrm_ofK, ofK_dbl, fK_dbl]
theorem fK_short {l : List Cx} (h : l.length ≤ 1) : fK l = l := by
  match l, h with
  | [], _ => rfl
  | [x], _ => rfl
theorem nrm_parts {G : List Cx} (h : ∀ c ∈ G, goodC c = true) (k : Nat) : nrm (nrm (G.drop k) ++ nrm (G.take k)) = nrm G :=
  rise_ext (nrm_rising _) (nrm_rising _) fun κ => by
    have e : ofK κ G = ofK κ (G.take k) ++ ofK κ (G.drop k) := by rw [← ofK_append, List.take_append_drop]
    rw [nrm_ofK, nrm_ofK, ofK_append, nrm_ofK, nrm_ofK, fK_append, fK_short (fK_one _), fK_short (fK_one _), ← fK_append, e]
    exact fK_comm (ofK_good fun c hc => h c (List.mem_of_mem_drop hc)) (ofK_good fun c hc => h c (List.mem_of_mem_take hc))
theorem fK_ge {c : Cx} (l : List Cx) : c ∈ l → ∃ y, fK l = [y] ∧ 0 ≤ cv y.v c.v := by
  refine snoc_ind (P := fun l => c ∈ l → ∃ y, fK l = [y] ∧ 0 ≤ cv y.v c.v) (fun h => by cases h) (fun l x ih h => ?_) l
  rw [fK_snoc]
  rcases List.mem_append.1 h with h1 | h1
  · obtain ⟨y, hy, hg⟩ := ih h1
    refine ⟨jnC y x, by rw [hy]; rfl, ?_⟩
    have g1 := (jn_ge y.v x.v).1
    show 0 ≤ cv (jn y.v x.v) c.v
    have a1 := cv_n c.v y.v
    have a2 := cv_n y.v (jn y.v x.v)
    have a3 := cv_t c.v y.v (jn y.v x.v) (by omega) (by omega)
    have a4 := cv_n c.v (jn y.v x.v)
    omega
  · obtain rfl : c = x := by simpa using h1
    have h1 := fK_one l
    match hl : fK l, h1 with
    | [], _ => exact ⟨c, rfl, by rw [cv_self]; omega⟩
    | [z], _ => exact ⟨jnC z c, rfl, (jn_ge z.v c.v).2⟩
theorem fnd_nrm {G : List Cx} {c : Cx} (h : c ∈ G) : ∃ v, fnd c.k (nrm G) = (v, true) ∧ 0 ≤ cv v c.v := by
  obtain ⟨y, hy, hg⟩ := fK_ge (ofK c.k G) (ofK_mem.2 ⟨h, rfl⟩)
  rw [← nrm_ofK] at hy
  have hm : y ∈ ofK c.k (nrm G) := by rw [hy]; simp
  obtain ⟨h1, h2⟩ := ofK_mem.1 hm
  refine ⟨y.v, ?_, hg⟩
  rw [← h2]; exact fnd_mem (nrm_rising G) h1
theorem srtB_nrm (G : List Cx) : srtB (nrm G) = true := by
  have h := nrm_rising G
  refine srtB_true fun j x y hj hx hy => ?_
  obtain ⟨a1, a2⟩ := List.getElem?_eq_some_iff.1 hx
  obtain ⟨b1, b2⟩ := List.getElem?_eq_some_iff.1 hy
  have := List.pairwise_iff_getElem.1 h j (j + 1) a1 b1 (by omega)
  rw [a2, b2] at this
  exact this
end Go.Proofs.YtejikcpjkkfkiabGreatDoor
namespace Go.Proofs.YtejikcpjkkfkiabGreatDoor
open Go.RowKit

theorem nrm_has {G : List Cx} {c : Cx} (h : c ∈ G) : ∃ y ∈ nrm G, y.k = c.k := by
  obtain ⟨y, hy, -⟩ := fK_ge (ofK c.k G) (ofK_mem.2 ⟨h, rfl⟩)
  rw [← nrm_ofK] at hy
  have hm : y ∈ ofK c.k (nrm G) := by rw [hy]; simp
  exact ⟨y, ofK_mem.1 hm⟩
/-- The keys of a rising list lie between its ends. -/
theorem ends_low {N : List Cx} (h : Rising N) {c y : Cx} (hc : N[0]? = some c) (hy : y ∈ N) : 0 ≤ kc y.k.ky c.k.ky := by
  obtain ⟨i, hi, rfl⟩ := List.getElem_of_mem hy
  have hs := (kc_cmpr.z c.k.ky c.k.ky).2 rfl
  rcases Nat.eq_zero_or_pos i with rfl | h0
  · rw [List.getElem?_eq_getElem hi] at hc
    obtain rfl := Option.some.inj hc
    omega
  · have h1 := srt_lt h h0 hc (List.getElem?_eq_getElem hi)
    have h2 := kc_cmpr.n c.k.ky N[i].k.ky
    omega
theorem ends_high {N : List Cx} (h : Rising N) {d y : Cx} (hd : N[N.length - 1]? = some d) (hy : y ∈ N) : kc y.k.ky d.k.ky ≤ 0 := by
  obtain ⟨i, hi, rfl⟩ := List.getElem_of_mem hy
  have hs := (kc_cmpr.z d.k.ky d.k.ky).2 rfl
  rcases Nat.lt_or_ge i (N.length - 1) with h0 | h0
  · have h1 := srt_lt h h0 (List.getElem?_eq_getElem hi) hd
    omega
  · obtain rfl : i = N.length - 1 := by omega
    rw [List.getElem?_eq_getElem hi] at hd
    obtain rfl := Option.some.inj hd
    omega
theorem fnd_mem_of {k : Kb} : ∀ {N : List Cx}, (fnd k N).2 = true → ∃ y ∈ N, y.k = k
  | [], h => by cases h
  | c :: N, h => by
    by_cases hk : c.k = k
    · exact ⟨c, by simp, hk⟩
    · rw [fnd_miss _ hk] at h
      obtain ⟨y, hy, e⟩ := fnd_mem_of h
      exact ⟨y, by simp [hy], e⟩
end Go.Proofs.YtejikcpjkkfkiabGreatDoor

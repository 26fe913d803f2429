/-
  SEVERAL TEXTS IN ONE: TabSearch, TabFrom, TabScan, CxFound, TabGet, TabMay, TabSize, TabBackP, TabScansP, BlmRefActs, KeyRefBytes, TabRefFil, RefText, RefCells, BlmRefBytes, KeyRefGood, VerRef, VerRefGood, CxRefNorm, CxRefMore, TabRefA, TabRefW, TabRefB, TabRefOP, RefRead, RefCellP.
-/
import Derived.Test.YtdookhmaiapclaaGreatDoorTabM2
import Derived.Test.YtdookhmaiapclaaGreatDoorTabM3
import Derived.Laws.ResultCell
import Derived.Test.YtdookhmaiapclaaGreatDoorBlmNew
import Derived.Test.YtdookhmaiapclaaGreatDoorBlmAdd
import Derived.Test.YtdookhmaiapclaaGreatDoorTabM1
import Derived.Deep.CutRange
import Derived.Test.YtdookhmaiapclaaGreatDoorCodGetT
import Derived.Test.YtdookhmaiapclaaGreatDoorRefLend
import Derived.Test.YtdookhmaiapclaaGreatDoorCellMany
import Derived.Test.YtdookhmaiapclaaGreatDoorRefNum
import Derived.Test.YtdookhmaiapclaaGreatDoorSteps
import Derived.Test.YtdookhmaiapclaaGreatDoorRefFrame
import Derived.Test.YtdookhmaiapclaaGreatDoorRefSum
import Derived.Test.YtdookhmaiapclaaGreatDoorCellRead2
namespace Go.Proofs.YtdookhmaiapclaaGreatDoor
open Go.RowKit

attribute [local go_sem] Oper.pureAt Oper.pureUpon

set_option maxRecDepth 100000 in
set_option maxHeartbeats 1000000 in
theorem search_any (n : Nat) (hn : n ≤ 1000000) (f : Nat → Bool) (cap : Array Value) (w : World)
    (hf : ∀ (u : World) (i : Nat), Below w.heap.size w u → i < n → Calls Tryz.prog 72 (#[.int .i64 (i : Int)] ++ cap) u fun e w' => e = .returned (.bool (f i)) ∧ Below u.heap.size u w') :
    Calls Tryz.prog 71 #[.int .i64 (n : Int), .func (.func 72) #[] cap] w fun e w' => ∃ k : Nat, e = .returned (.int .i64 (k : Int)) ∧ k ≤ n ∧ (0 < k → f (k - 1) = false) ∧ (k < n → f k = true) ∧ Below w.heap.size w w' := by
  have HF : Hid (∀ (u : World) (i : Nat), Below w.heap.size w u → i < n → Calls Tryz.prog 72 (#[.int .i64 (i : Int)] ++ cap) u fun e w' => e = .returned (.bool (f i)) ∧ Below u.heap.size u w') := hf
  clear hf
  have hnz : (n : Int) ≤ 1000000 := by omega
  go_enter Tryz.func71, Tryz.ntmps71
  go_wp2_with fail
  go_loopw [5, 6] (fun s5 s6 wr => ∃ i j : Nat, s5 = .int .i64 (i : Int) ∧ s6 = .int .i64 (j : Int) ∧ i ≤ j ∧ j ≤ n ∧ (0 < i → f (i - 1) = false) ∧ (j < n → f j = true) ∧ Below w.heap.size w wr) (fun s5 s6 _ => (intOf s6 - intOf s5).toNat)
  case atStart => exact ⟨0, n, rfl, rfl, Nat.zero_le _, Nat.le_refl _, fun h => by omega, fun h => by omega, Below.refl _ _⟩
  case round =>
    obtain ⟨i, j, rfl, rfl, hij, hjn, h1, h2, hb⟩ := hrel
    by_cases hlt : i < j
    · obtain ⟨m, hm⟩ : ∃ m, m = (i + j) / 2 := ⟨_, rfl⟩
      have hltz : (i : Int) < (j : Int) := by omega
      have hmj : m < j := by omega
      have him : i ≤ m := by omega
      have C : Hid (Calls Tryz.prog 72 (#[.int .i64 (m : Int)] ++ cap) wr fun e w' => e = .returned (.bool (f m)) ∧ Below wr.heap.size wr w') := HF.out wr m hb (by omega)
      have d1 : IntKind.u64.wrap ((i : Int) + (j : Int)) = (i : Int) + (j : Int) := by rw [IntKind.wrap_u64]; omega
      have d2 : ((i : Int) + (j : Int)) / 2 = (m : Int) := by omega
      have hjz : (j : Int) ≤ 1000000 := by omega
      clear hm
      have H1 : Hid (0 < i → f (i - 1) = false) := h1
      have H2 : Hid (j < n → f j = true) := h2
      clear h1 h2
      cases hfm : f m
      · rw [hfm] at C
        have H3 : Hid (f m = false) := hfm
        clear hfm
        go_wp2_with fail
        refine C.out.mono ?_
        rintro e w1 ⟨rfl, hb1⟩
        go_wp2_with fail
        go_roundw
        case rel => exact ⟨m + 1, j, by simp, rfl, by omega, hjn, fun _ => by rw [Nat.add_sub_cancel]; exact H3.out, H2.out, hb.trans (hb1.mono hb.size)⟩
        case measure => simp [intOf]; omega
      · rw [hfm] at C
        have H3 : Hid (f m = true) := hfm
        clear hfm
        go_wp2_with fail
        refine C.out.mono ?_
        rintro e w1 ⟨rfl, hb1⟩
        go_wp2_with fail
        go_roundw
        case rel => exact ⟨i, m, rfl, rfl, him, by omega, H1.out, fun _ => H3.out, hb.trans (hb1.mono hb.size)⟩
        case measure => simp [intOf]; omega
    · have hij2 : i = j := by omega
      subst hij2
      go_wp2_with fail
      go_ret
      exact ⟨i, rfl, hjn, h1, h2, hb⟩
theorem cmpK_any (a b : Kb) (w : World) : Calls Tryz.prog 73 #[a.v, b.v] w fun e w' => e = .returned (.int .i64 (kc a.ky b.ky)) ∧ Below w.heap.size w w' := cmp_any a b w
set_option maxRecDepth 100000 in
set_option maxHeartbeats 1000000 in
/-- Does a block begin behind the key? -/
theorem from1_any (i b1 b2 g n cap : Nat) (l : List Cx) (k : Kb) (w : World) (hb1 : Boxed w b1 22 (.slice (some ⟨g, 0, none⟩) n cap)) (hb2 : Blk w b2 [.string k.t, .string k.p, .int .i64 k.r, .string k.c] 24) (hx : XSees w (some ⟨g, 0, none⟩) l) (hn : l.length = n) (hi : 8 * i < n) (hn9 : n ≤ 9000) (c : Cx) (hc : l[8 * i]? = some c) :
    Calls Tryz.prog 72 #[.int .i64 (i : Int), .pointer (some ⟨b1, 0, none⟩), .pointer (some ⟨b2, 0, none⟩)] w fun e w' => e = .returned (.bool (decide (0 < kc c.k.ky k.ky))) ∧ Below w.heap.size w w' := by
  obtain ⟨b', o', e, tt⟩ := hx _ c hc
  cases e
  have C : Hid (∀ u : World, Calls Tryz.prog 73 #[.agg #[.string c.k.t, .string c.k.p, .int .i64 c.k.r, .string c.k.c], .agg #[.string k.t, .string k.p, .int .i64 k.r, .string k.c]] u fun e w' => e = .returned (.int .i64 (kc c.k.ky k.ky)) ∧ Below u.heap.size u w') := fun u => cmpK_any c.k k u
  have hz : (8 : Int) * (i : Int) < (n : Int) := by omega
  obtain ⟨m, hm⟩ : ∃ m, m = 8 * i := ⟨_, rfl⟩
  have hmz : (i : Int) * 8 = (m : Int) := by omega
  have hmn : m < n := by omega
  have hmnz : (m : Int) < (n : Int) := by omega
  have wm : IntKind.i64.wrap (m : Int) = (m : Int) := by rw [IntKind.wrap_i64]; omega
  have eo : 0 + 8 * i * 10 = m * 10 := by omega
  rw [eo] at tt
  have lt1 := hb1.lt
  have lt2 := hb2.lt
  have lt3 := tt.lt
  obtain ⟨⟨ct, cp, cr, ck⟩, cv⟩ := c
  obtain ⟨t0, t1, t2, t3, -, -, -, -, -, -⟩ := tt
  simp only at t0 t1 t2 t3 C
  have q0 : ∀ q : Cl w.heap.size w, q.u.cell? ⟨b1, 0, none⟩ = some (.slice (some ⟨g, 0, none⟩) n cap) := fun q => q.cell lt1 hb1.cell
  have q1 : ∀ q : Cl w.heap.size w, q.u.cell? ⟨b2, 0, none⟩ = some (.string k.t) := fun q => q.cell lt2 (hb2.cell 0 rfl)
  have q2 : ∀ q : Cl w.heap.size w, q.u.cell? ⟨b2, 1, none⟩ = some (.string k.p) := fun q => q.cell lt2 (hb2.cell 1 rfl)
  have q3 : ∀ q : Cl w.heap.size w, q.u.cell? ⟨b2, 2, none⟩ = some (.int .i64 k.r) := fun q => q.cell lt2 (hb2.cell 2 rfl)
  have q4 : ∀ q : Cl w.heap.size w, q.u.cell? ⟨b2, 3, none⟩ = some (.string k.c) := fun q => q.cell lt2 (hb2.cell 3 rfl)
  have p0 : ∀ q : Cl w.heap.size w, q.u.cell? ⟨g, m * 10, none⟩ = some (.string ct) := fun q => q.cell lt3 t0
  have p1 : ∀ q : Cl w.heap.size w, q.u.cell? ⟨g, m * 10 + 1, none⟩ = some (.string cp) := fun q => q.cell lt3 t1
  have p2 : ∀ q : Cl w.heap.size w, q.u.cell? ⟨g, m * 10 + 2, none⟩ = some (.int .i64 cr) := fun q => q.cell lt3 t2
  have p3 : ∀ q : Cl w.heap.size w, q.u.cell? ⟨g, m * 10 + 3, none⟩ = some (.string ck) := fun q => q.cell lt3 t3
  haveI := Cl.inh w.heap.size w
  clear t0 t1 t2 t3 hx hc hb1 hb2 eo hm
  generalize kc _ _ = K at *
  go_enter Tryz.func72, Tryz.ntmps72
  go_wp2_with fail
  refine wp_region_sched (fun w' => ∃ p : Cl w.heap.size w, w' = p.u) [(0, true), (1, true), (2, true), (3, true), (4, true), (5, true), (6, true), (7, false), (8, true), (9, true)] rfl (by kernel_rfl) (by kernel_rfl) (by kernel_rfl) ⟨⟨_, (Below.refl _ _).drew⟩, rfl⟩ ?_
  iterate 7 (refine sched_pure rfl (fun K hK => ?_); go_simp; refine hK _ ?_; clear hK K)
  refine sched_loud rfl (fun K hK => ?_)
  go_simp
  refine (C.out _).mono ?_
  rintro e u1 ⟨rfl, hbu⟩
  have hbu2 : Below w.heap.size w u1 := (Below.refl _ _).drew.trans hbu
  refine hK _ _ ⟨⟨u1, hbu2⟩, rfl⟩ ?_
  clear hK
  iterate 2 (refine sched_pure rfl (fun K hK => ?_); go_simp; refine hK _ ?_; clear hK)
  refine sched_nil ?_
  go_wp2_with fail
  go_ret
  exact ⟨rfl, hbu2⟩
end Go.Proofs.YtdookhmaiapclaaGreatDoor
namespace Go.Proofs.YtdookhmaiapclaaGreatDoor
open Go.RowKit

attribute [local go_sem] Oper.pureAt Oper.pureUpon
/-- The first a keys are less than k, the others are not. -/
structure CutAt (l : List Cx) (k : Kb) (a : Nat) : Prop where
  le : a ≤ l.length
  lo : ∀ j c, j < a → l[j]? = some c → kc c.k.ky k.ky < 0
  hi : ∀ j c, a ≤ j → l[j]? = some c → 0 ≤ kc c.k.ky k.ky
theorem srt_lt {l : List Cx} (h : Rising l) {i j : Nat} {x y : Cx} (hij : i < j) (hx : l[i]? = some x) (hy : l[j]? = some y) : kc x.k.ky y.k.ky < 0 := by
  have h1 := (List.getElem?_eq_some_iff.1 hx)
  have h2 := (List.getElem?_eq_some_iff.1 hy)
  obtain ⟨l1, rfl⟩ := h1
  obtain ⟨l2, rfl⟩ := h2
  exact List.pairwise_iff_getElem.1 h i j l1 l2 hij
theorem rising_of {l : List Cx} (h : srtB l = true) : Rising l := by
  have h1 : Rise l l.length := @of_decide_eq_true _ (Classical.propDecidable _) h
  refine List.pairwise_iff_getElem.2 fun i j hi hj hij => ?_
  have H : ∀ d i, (hd : i + d + 1 < l.length) → kx (l[i]'(by omega)) l[i + d + 1] < 0 := by
    intro d
    induction d with
    | zero => intro i hd; exact h1 i _ _ (by omega) (List.getElem?_eq_getElem (by omega)) (List.getElem?_eq_getElem (by omega))
    | succ d ih => intro i hd; exact kx_strict (ih i (by omega)) (h1 (i + d + 1) _ _ (by omega) (List.getElem?_eq_getElem (by omega)) (List.getElem?_eq_getElem (by omega)))
  have := H (j - i - 1) i (by omega)
  have e : i + (j - i - 1) + 1 = j := by omega
  simpa only [e] using this
theorem TAt.rising {w : World} {T : Nat} {l : List Cx} (h : TAt w T l) : Rising l := by
  have := h.ok
  unfold wrtB at this
  simp only [Bool.and_eq_true] at this
  exact rising_of this.2.1
theorem kc_mix {x y : Cx} {k : Kb} (h1 : kc x.k.ky y.k.ky < 0) (h2 : kc y.k.ky k.ky ≤ 0) : kc x.k.ky k.ky < 0 := by
  rcases (show kc y.k.ky k.ky < 0 ∨ kc y.k.ky k.ky = 0 by omega) with h | h
  · exact kc_cmpr.strict h1 h
  · have e := (kc_cmpr.z _ _).1 h
    rw [← e]; exact h1
set_option maxRecDepth 100000 in
set_option maxHeartbeats 2000000 in
theorem from_any {w : World} {T : Nat} {l : List Cx} (h : TAt w T l) (k : Kb) :
    Calls Tryz.prog 40 #[.pointer (some ⟨T, 0, none⟩), k.v] w fun e w' => ∃ a g o c, e = .returned (.slice (some ⟨g, o, none⟩) (l.length - a) c) ∧ CutAt l k a ∧ XSees w' (some ⟨g, o, none⟩) (l.drop a) ∧ l.length - a ≤ c ∧ g < w.heap.size ∧ Below w.heap.size w w' := by
  have hR := h.rising
  have hpos := h.pos
  have hl9 := h.wrt.len
  obtain ⟨fm, g, cap, hB, hx, hcap, hctop, hgl, -⟩ := h.cells
  obtain ⟨w0, hw0⟩ : ∃ w0, w0 = w.alloc (.cells #[.string k.t, .string k.p, .int .i64 k.r, .string k.c] 24) := ⟨_, rfl⟩
  have hb0 : Below w.heap.size w w0 := by rw [hw0]; exact (Below.refl _ _).alloc (Nat.le_refl _) _
  have hK0 : Blk w0 w.heap.size [.string k.t, .string k.p, .int .i64 k.r, .string k.c] 24 := by rw [hw0]; exact Blk.new w _ _
  have SO : Hid (Calls Tryz.prog 41 #[.pointer (some ⟨T, 0, none⟩)] w0 fun e w' => e = .returned (.slice (some ⟨g, 0, none⟩) l.length cap) ∧ w' = w0) := sorted_at (hB.carry (hb0.block _ hB.lt))
  have s0 : w0.heap.size = w.heap.size + 1 := by rw [hw0]; simp
  obtain ⟨w1, hw1⟩ : ∃ w1, w1 = w0.alloc (.cells #[.slice (some ⟨g, 0, none⟩) l.length cap] 22) := ⟨_, rfl⟩
  have hb1 : Below w0.heap.size w0 w1 := by rw [hw1]; exact (Below.refl _ _).alloc (Nat.le_refl _) _
  have hC1 : Boxed w1 w0.heap.size 22 (.slice (some ⟨g, 0, none⟩) l.length cap) := by rw [hw1]; exact Boxed.new w0 _ _
  have hK1 : Blk w1 w.heap.size [.string k.t, .string k.p, .int .i64 k.r, .string k.c] 24 := hK0.carry (hb1.block _ hK0.lt)
  have hb01 : Below w.heap.size w w1 := hb0.trans (hb1.mono hb0.size)
  have hT1 : TAt w1 T l := (h.below hb0).below hb1
  have BK : Hid (Calls Tryz.prog 20 #[.pointer (some ⟨T, 0, none⟩)] w1 fun e w' => e = .returned (.int .i64 (nBk l.length : Int)) ∧ w' = w1) := blocks_at hT1
  have hx1 : XSees w1 (some ⟨g, 0, none⟩) l := hx.below hb01 (Nat.le_refl _)
  have hnb : nBk l.length ≤ 1125 := by unfold nBk; omega
  have hat : ∀ i, i < nBk l.length → ∃ c, l[8 * i]? = some c := fun i hi => ⟨_, List.getElem?_eq_getElem (by unfold nBk at hi; omega)⟩
  have SE : Hid (Calls Tryz.prog 71 #[.int .i64 (nBk l.length : Int), .func (.func 72) #[] #[.pointer (some ⟨w0.heap.size, 0, none⟩), .pointer (some ⟨w.heap.size, 0, none⟩)]] w1 fun e w' => ∃ q : Nat, e = .returned (.int .i64 (q : Int)) ∧ q ≤ nBk l.length ∧ (∀ j c, j < 8 * (q - 1) → l[j]? = some c → kc c.k.ky k.ky < 0) ∧ Below w1.heap.size w1 w') := by
    refine (search_any (nBk l.length) (by omega) (fun i => match l[8 * i]? with | some c => decide (0 < kc c.k.ky k.ky) | none => true) _ w1 ?_).mono ?_
    · intro u i hu hi
      obtain ⟨c, hc⟩ := hat i hi
      simp only [hc]
      exact from1_any i w0.heap.size w.heap.size g l.length cap l k u ((hu.block _ hC1.lt).trans hC1) (hK1.carry (hu.block _ hK1.lt)) (hx1.below hu (Nat.le_refl _)) rfl (by unfold nBk at hi; omega) hl9 c hc
    · rintro e w' ⟨q, rfl, hq, hlo, -, hbq⟩
      refine ⟨q, rfl, hq, fun j c hj hcj => ?_, hbq⟩
      have hq0 : 0 < q := by omega
      obtain ⟨d, hd⟩ := hat (q - 1) (by omega)
      have h2 := hlo hq0
      simp only [hd, decide_eq_false_iff_not] at h2
      exact kc_mix (srt_lt hR hj hcj hd) (by omega)
  have HX : Hid (∀ u, Below w1.heap.size w1 u → XSees u (some ⟨g, 0, none⟩) l ∧ Boxed u w0.heap.size 22 (.slice (some ⟨g, 0, none⟩) l.length cap) ∧ Blk u w.heap.size [.string k.t, .string k.p, .int .i64 k.r, .string k.c] 24) := fun u hu => ⟨hx1.below hu (Nat.le_refl _), (hu.block _ hC1.lt).trans hC1, hK1.carry (hu.block _ hK1.lt)⟩
  have hR2 : Hid (Rising l) := hR
  clear hx hx1 hC1 hK1 hK0 hT1 hB h hat hR
  have HS0 : Hid (w0.heap.size = w.heap.size + 1) := s0
  clear s0
  obtain ⟨kt, kp, kr, kcc⟩ := k
  simp only [Kb.v] at hw0 HX ⊢
  go_enter Tryz.func40, Tryz.ntmps40
  go_wp2_with fail
  rw [← hw0]
  go_fit SO.out
  rintro e u0 ⟨rfl, he0⟩
  have he1 : w0 = u0 := he0.symm
  subst he1
  clear he0 SO hw0
  go_wp2_with fail
  rw [← hw1]
  clear hw1
  go_fit BK.out
  rintro e u1 ⟨rfl, he0⟩
  have he1 : w1 = u1 := he0.symm
  subst he1
  clear he0 BK
  go_wp2_with fail
  go_fit SE.out
  rintro e w2 ⟨q, rfl, hq, hlo, hb2⟩
  clear SE
  have HLO : Hid (∀ j c, j < 8 * (q - 1) → l[j]? = some c → kc c.k.ky (Kb.ky ⟨kt, kp, kr, kcc⟩) < 0) := hlo
  clear hlo
  have hmax : max ((q : Int) - 1) 0 * 8 = ((8 * (q - 1) : Nat) : Int) := by omega
  have hqz : (q : Int) ≤ 1125 := by omega
  have hq8 : 8 * (q - 1) ≤ l.length := by unfold nBk at hq; omega
  go_wp2_with fail
  go_loopw [7] (fun s wr => ∃ a : Nat, s = .int .i64 (a : Int) ∧ a ≤ l.length ∧ (∀ j c, j < a → l[j]? = some c → kc c.k.ky (Kb.ky ⟨kt, kp, kr, kcc⟩) < 0) ∧ Below w1.heap.size w1 wr) (fun s _ => l.length - (intOf s).toNat)
  case atStart => exact ⟨8 * (q - 1), by first | rfl | (congr 1; omega), hq8, HLO.out, hb2⟩
  case round =>
    obtain ⟨a, rfl, hal, hlow, hbr⟩ := hrel
    obtain ⟨hxr, hCr, hKr⟩ := HX.out wr hbr
    have HLW : Hid (∀ j c, j < a → l[j]? = some c → kc c.k.ky (Kb.ky ⟨kt, kp, kr, kcc⟩) < 0) := hlow
    have lt1 := hCr.lt
    have lt2 := hKr.lt
    have q0 : ∀ q : Cl wr.heap.size wr, q.u.cell? ⟨w0.heap.size, 0, none⟩ = some (.slice (some ⟨g, 0, none⟩) l.length cap) := fun q => q.cell lt1 hCr.cell
    have q1 : ∀ q : Cl wr.heap.size wr, q.u.cell? ⟨w.heap.size, 0, none⟩ = some (.string kt) := fun q => q.cell lt2 (hKr.cell 0 rfl)
    have q2 : ∀ q : Cl wr.heap.size wr, q.u.cell? ⟨w.heap.size, 1, none⟩ = some (.string kp) := fun q => q.cell lt2 (hKr.cell 1 rfl)
    have q3 : ∀ q : Cl wr.heap.size wr, q.u.cell? ⟨w.heap.size, 2, none⟩ = some (.int .i64 kr) := fun q => q.cell lt2 (hKr.cell 2 rfl)
    have q4 : ∀ q : Cl wr.heap.size wr, q.u.cell? ⟨w.heap.size, 3, none⟩ = some (.string kcc) := fun q => q.cell lt2 (hKr.cell 3 rfl)
    haveI := Cl.inh wr.heap.size wr
    have HEND : Hid (∀ u, Below wr.heap.size wr u → CutAt l ⟨kt, kp, kr, kcc⟩ a → XSees u (some ⟨g, 0, none⟩) l ∧ Boxed u w0.heap.size 22 (.slice (some ⟨g, 0, none⟩) l.length cap) ∧ Below w.heap.size w u) := fun u hu _ => ⟨hxr.below hu (Nat.le_refl _), (hu.block _ hCr.lt).trans hCr, hb01.trans ((hbr.trans (hu.mono hbr.size)).mono hb01.size)⟩
    have hbu : ∀ u, Below wr.heap.size wr u → Below w1.heap.size w1 u := fun u hu => hbr.trans (hu.mono hbr.size)
    have HBU : Hid (∀ u, Below wr.heap.size wr u → Below w1.heap.size w1 u) := hbu
    clear hlow hbu
    by_cases hlt : a < l.length
    · have hc : l[a]? = some l[a] := List.getElem?_eq_getElem hlt
      have hin := List.getElem_mem hlt
      obtain ⟨b', o', e, tt⟩ := hxr a _ hc
      cases e
      have CM : Hid (∀ u : World, Calls Tryz.prog 73 #[l[a].k.v, .agg #[.string kt, .string kp, .int .i64 kr, .string kcc]] u fun e w' => e = .returned (.int .i64 (kc l[a].k.ky (Kb.ky ⟨kt, kp, kr, kcc⟩))) ∧ Below u.heap.size u w') := fun u => cmp_any l[a].k ⟨kt, kp, kr, kcc⟩ u
      have HNX : Hid (kc l[a].k.ky (Kb.ky ⟨kt, kp, kr, kcc⟩) < 0 → ∀ j c, j < a + 1 → l[j]? = some c → kc c.k.ky (Kb.ky ⟨kt, kp, kr, kcc⟩) < 0) := fun h1 j c hj hcj => by
        rcases Nat.lt_or_ge j a with h2 | h2
        · exact HLW.out j c h2 hcj
        · obtain rfl : j = a := by omega
          rw [hc] at hcj; obtain rfl := Option.some.inj hcj; exact h1
      have HCU : Hid (¬ kc l[a].k.ky (Kb.ky ⟨kt, kp, kr, kcc⟩) < 0 → CutAt l ⟨kt, kp, kr, kcc⟩ a) := fun h1 => ⟨hal, HLW.out, fun j c hj hcj => by
        rcases Nat.lt_or_ge a j with h2 | h2
        · have h3 := srt_lt hR2.out h2 hc hcj
          have h4 : ¬ kc c.k.ky (Kb.ky ⟨kt, kp, kr, kcc⟩) < 0 := fun h5 => h1 (kc_cmpr.strict h3 h5)
          omega
        · obtain rfl : j = a := by omega
          rw [hc] at hcj; obtain rfl := Option.some.inj hcj; omega⟩
      have eo : 0 + a * 10 = a * 10 := by omega
      rw [eo] at tt
      have lt3 := tt.lt
      generalize l[a] = c at *
      obtain ⟨⟨ct, cp, cr, ck⟩, cv⟩ := c
      obtain ⟨t0, t1, t2, t3, -, -, -, -, -, -⟩ := tt
      simp only [Kb.v] at t0 t1 t2 t3 CM
      have p0 : ∀ q : Cl wr.heap.size wr, q.u.cell? ⟨g, a * 10, none⟩ = some (.string ct) := fun q => q.cell lt3 t0
      have p1 : ∀ q : Cl wr.heap.size wr, q.u.cell? ⟨g, a * 10 + 1, none⟩ = some (.string cp) := fun q => q.cell lt3 t1
      have p2 : ∀ q : Cl wr.heap.size wr, q.u.cell? ⟨g, a * 10 + 2, none⟩ = some (.int .i64 cr) := fun q => q.cell lt3 t2
      have p3 : ∀ q : Cl wr.heap.size wr, q.u.cell? ⟨g, a * 10 + 3, none⟩ = some (.string ck) := fun q => q.cell lt3 t3
      have hltz : (a : Int) < (l.length : Int) := by omega
      generalize kc _ _ = KK at *
      clear t0 t1 t2 t3 hxr hCr hKr hc hin eo
      go_wp2_with fail
      refine wp_region_sched (fun w' => ∃ p : Cl wr.heap.size wr, w' = p.u) [(0, true), (1, true), (2, true), (3, true), (4, true), (5, true), (6, true), (7, true), (8, true), (9, true), (10, true), (11, false), (12, true), (13, true)] rfl (by kernel_rfl) (by kernel_rfl) (by kernel_rfl) ⟨⟨_, (Below.refl _ _).drew⟩, rfl⟩ ?_
      iterate 11 (refine sched_pure rfl (fun K hK => ?_); go_simp; refine hK _ ?_; clear hK K)
      refine sched_loud rfl (fun K hK => ?_)
      go_simp
      refine (CM.out _).mono ?_
      rintro e u2 ⟨rfl, hbu0⟩
      have hbu2 : Below wr.heap.size wr u2 := (Below.refl _ _).drew.trans hbu0
      refine hK _ _ ⟨⟨u2, hbu2⟩, rfl⟩ ?_
      clear hK K hbu0
      iterate 2 (refine sched_pure rfl (fun K hK => ?_); go_simp; refine hK _ ?_; clear hK K)
      refine sched_nil ?_
      clear q0 q1 q2 q3 q4 p0 p1 p2 p3
      by_cases hneg : KK < 0
      · go_wp2_with fail
        go_roundw
        case rel => exact ⟨a + 1, by simp, by omega, HNX.out hneg, HBU.out _ hbu2⟩
        case measure => simp [intOf]; omega
      · obtain ⟨hx2, hC2, hb3⟩ := HEND.out u2 hbu2 (HCU.out (by omega))
        have z0 := hC2.cell
        have haz : (a : Int) ≤ (l.length : Int) := by omega
        have hCU := HCU.out (by omega)
        have HX2 : Hid (XSees u2 (some ⟨g, a * 10, none⟩) (l.drop a)) := fun i x hi => by
          rw [List.getElem?_drop] at hi
          obtain ⟨b, of, e, t⟩ := hx2 (a + i) x hi
          cases e
          refine ⟨g, a * 10, rfl, ?_⟩
          have e2 : 0 + (a + i) * 10 = a * 10 + i * 10 := by omega
          rwa [e2] at t
        have hac : ¬ cap = a := by omega
        clear hx2 hC2 HEND HCU HNX CM
        go_wp2_with fail
        go_ret
        exact ⟨a, g, a * 10, cap - a, rfl, hCU, HX2.out, by omega, hgl, hb3⟩
    · have hae : a = l.length := by omega
      have hCU : CutAt l ⟨kt, kp, kr, kcc⟩ a := ⟨hal, HLW.out, fun j c hj hcj => by have := (List.getElem?_eq_some_iff.1 hcj).1; omega⟩
      obtain ⟨hx2, hC2, hb3⟩ := HEND.out wr.drew (Below.refl _ _).drew hCU
      have z0 := hC2.cell
      have hnl : ¬ ((a : Int) < (l.length : Int)) := by omega
      have d0 : decide ((a : Int) < (l.length : Int)) = false := decide_eq_false hnl
      have haz : (a : Int) ≤ (l.length : Int) := by omega
      have hcz : (a : Int) ≤ (cap : Int) := by omega
      have HAE : Hid (a = l.length) := hae
      have HXN : Hid (∀ o : Nat, XSees wr.drew (some ⟨g, o, none⟩) (l.drop a)) := fun o i x hi => by
        rw [List.getElem?_drop] at hi
        have := (List.getElem?_eq_some_iff.1 hi).1
        omega
      clear hx2 hC2 HEND hxr hCr hKr hae
      by_cases hac : cap = a
      · subst hac
        go_wp2_with fail
        refine wp_region_sched (fun w' => ∃ p : Cl wr.heap.size wr, w' = p.u) [(0, true), (1, true), (2, true), (3, true), (4, true), (5, true), (6, true), (7, true), (8, true), (9, true), (10, true), (11, false), (12, true), (13, true)] rfl (by kernel_rfl) (by kernel_rfl) (by kernel_rfl) ⟨⟨_, (Below.refl _ _).drew⟩, rfl⟩ ?_
        iterate 11 (refine sched_pure rfl (fun K hK => ?_); go_simp; refine hK _ ?_; clear hK K)
        refine sched_loud rfl (fun K hK => ?_)
        go_simp
        refine hK _ _ ⟨⟨_, (Below.refl _ _).drew⟩, rfl⟩ ?_
        clear hK K
        iterate 2 (refine sched_pure rfl (fun K hK => ?_); go_simp; refine hK _ ?_; clear hK K)
        refine sched_nil ?_
        go_wp2_with fail
        go_ret
        refine ⟨cap, g, 0, 0, ?_, hCU, HXN.out 0, by have := HAE.out; omega, hgl, hb3⟩
        have hll := HAE.out
        have hz : l.length - cap = 0 := by omega
        rw [hz]
        simp
      · go_wp2_with fail
        refine wp_region_sched (fun w' => ∃ p : Cl wr.heap.size wr, w' = p.u) [(0, true), (1, true), (2, true), (3, true), (4, true), (5, true), (6, true), (7, true), (8, true), (9, true), (10, true), (11, false), (12, true), (13, true)] rfl (by kernel_rfl) (by kernel_rfl) (by kernel_rfl) ⟨⟨_, (Below.refl _ _).drew⟩, rfl⟩ ?_
        iterate 11 (refine sched_pure rfl (fun K hK => ?_); go_simp; refine hK _ ?_; clear hK K)
        refine sched_loud rfl (fun K hK => ?_)
        go_simp
        refine hK _ _ ⟨⟨_, (Below.refl _ _).drew⟩, rfl⟩ ?_
        clear hK K
        iterate 2 (refine sched_pure rfl (fun K hK => ?_); go_simp; refine hK _ ?_; clear hK K)
        refine sched_nil ?_
        go_wp2_with fail
        go_ret
        exact ⟨a, g, a * 10, cap - a, rfl, hCU, HXN.out _, by omega, hgl, hb3⟩
end Go.Proofs.YtdookhmaiapclaaGreatDoor
namespace Go.Proofs.YtdookhmaiapclaaGreatDoor
open Go.RowKit

attribute [local go_sem] Oper.pureAt Oper.pureUpon
set_option maxRecDepth 100000 in
set_option maxHeartbeats 1000000 in
theorem allT_any {w : World} {T : Nat} {l : List Cx} (h : TAt w T l) :
    Calls Tryz.prog 18 #[.pointer (some ⟨T, 0, none⟩)] w fun e w' => ∃ v, e = .returned v ∧ w'.ownsRow w.heap.size 59 10 v l.length (l.flatMap xs10) ∧ Below w.heap.size w w' := by
  have hl9 := h.wrt.len
  obtain ⟨fm, g, cap, hB, hx, hcap, hctop, hgl, -⟩ := h.cells
  have SO : Hid (Calls Tryz.prog 41 #[.pointer (some ⟨T, 0, none⟩)] w fun e w' => e = .returned (.slice (some ⟨g, 0, none⟩) l.length cap) ∧ w' = w) := sorted_at hB
  have CL : Hid (Calls Tryz.prog 44 #[.slice (some ⟨g, 0, none⟩) l.length cap] w fun e w' => ∃ v, e = .returned v ∧ w'.ownsRow w.heap.size 59 10 v l.length (l.flatMap xs10) ∧ Below w.heap.size w w') := cloneX_any _ l cap w hx (by simp) (by omega)
  clear hB hx h
  go_enter Tryz.func18, Tryz.ntmps18
  go_wp2_with fail
  refine SO.out.mono ?_
  rintro e w1 ⟨rfl, rfl⟩
  clear SO
  go_wp2_with fail
  refine CL.out.mono ?_
  rintro e w2 ⟨v, rfl, ho, hb⟩
  clear CL
  go_wp2_with fail
  go_ret
  exact ⟨v, rfl, ho, hb⟩
set_option maxRecDepth 100000 in
set_option maxHeartbeats 2000000 in
theorem scanT_any {w : World} {T : Nat} {l : List Cx} (h : TAt w T l) (k1 k2 : Kb) :
    Calls Tryz.prog 17 #[.pointer (some ⟨T, 0, none⟩), k1.v, k2.v] w fun e w' => ∃ a1 a2 v, e = .returned v ∧ CutAt l k1 a1 ∧ CutAt l k2 a2 ∧ w'.ownsRow w.heap.size 59 10 v (a2 - a1) (((l.drop a1).take (a2 - a1)).flatMap xs10) ∧ Below w.heap.size w w' := by
  have hl9 := h.wrt.len
  obtain ⟨w0, hw0⟩ : ∃ w0, w0 = w.alloc (.cells #[.string k1.t, .string k1.p, .int .i64 k1.r, .string k1.c] 24) := ⟨_, rfl⟩
  have hb0 : Below w.heap.size w w0 := by rw [hw0]; exact (Below.refl _ _).alloc (Nat.le_refl _) _
  have hK0 : Blk w0 w.heap.size [.string k1.t, .string k1.p, .int .i64 k1.r, .string k1.c] 24 := by rw [hw0]; exact Blk.new w _ _
  have s0 : w0.heap.size = w.heap.size + 1 := by rw [hw0]; simp
  obtain ⟨w1, hw1⟩ : ∃ w1, w1 = w0.alloc (.cells #[.string k2.t, .string k2.p, .int .i64 k2.r, .string k2.c] 24) := ⟨_, rfl⟩
  have hb1 : Below w0.heap.size w0 w1 := by rw [hw1]; exact (Below.refl _ _).alloc (Nat.le_refl _) _
  have hJ1 : Blk w1 (w.heap.size + 1) [.string k2.t, .string k2.p, .int .i64 k2.r, .string k2.c] 24 := by rw [hw1, ← s0]; exact Blk.new w0 _ _
  have hK1 : Blk w1 w.heap.size [.string k1.t, .string k1.p, .int .i64 k1.r, .string k1.c] 24 := hK0.carry (hb1.block _ hK0.lt)
  have hb01 : Below w.heap.size w w1 := hb0.trans (hb1.mono hb0.size)
  have HT1 : Hid (∀ u, Below w1.heap.size w1 u → TAt u T l) := fun u hu => ((h.below hb0).below hb1).below hu
  have F1 : Hid (∀ u, Below w1.heap.size w1 u → Calls Tryz.prog 40 #[.pointer (some ⟨T, 0, none⟩), k1.v] u fun e w' => ∃ a g o c, e = .returned (.slice (some ⟨g, o, none⟩) (l.length - a) c) ∧ CutAt l k1 a ∧ XSees w' (some ⟨g, o, none⟩) (l.drop a) ∧ l.length - a ≤ c ∧ g < u.heap.size ∧ Below u.heap.size u w') := fun u hu => from_any (HT1.out u hu) k1
  have F2 : Hid (∀ u, Below w1.heap.size w1 u → Calls Tryz.prog 40 #[.pointer (some ⟨T, 0, none⟩), k2.v] u fun e w' => ∃ a g o c, e = .returned (.slice (some ⟨g, o, none⟩) (l.length - a) c) ∧ CutAt l k2 a ∧ XSees w' (some ⟨g, o, none⟩) (l.drop a) ∧ l.length - a ≤ c ∧ g < u.heap.size ∧ Below u.heap.size u w') := fun u hu => from_any (HT1.out u hu) k2
  have lt1 := hK1.lt
  have lt2 := hJ1.lt
  have p0 : ∀ q : Cl w1.heap.size w1, q.u.cell? ⟨w.heap.size, 0, none⟩ = some (.string k1.t) := fun q => q.cell lt1 (hK1.cell 0 rfl)
  have p1 : ∀ q : Cl w1.heap.size w1, q.u.cell? ⟨w.heap.size, 1, none⟩ = some (.string k1.p) := fun q => q.cell lt1 (hK1.cell 1 rfl)
  have p2 : ∀ q : Cl w1.heap.size w1, q.u.cell? ⟨w.heap.size, 2, none⟩ = some (.int .i64 k1.r) := fun q => q.cell lt1 (hK1.cell 2 rfl)
  have p3 : ∀ q : Cl w1.heap.size w1, q.u.cell? ⟨w.heap.size, 3, none⟩ = some (.string k1.c) := fun q => q.cell lt1 (hK1.cell 3 rfl)
  have q0 : ∀ q : Cl w1.heap.size w1, q.u.cell? ⟨w.heap.size + 1, 0, none⟩ = some (.string k2.t) := fun q => q.cell lt2 (hJ1.cell 0 rfl)
  have q1 : ∀ q : Cl w1.heap.size w1, q.u.cell? ⟨w.heap.size + 1, 1, none⟩ = some (.string k2.p) := fun q => q.cell lt2 (hJ1.cell 1 rfl)
  have q2 : ∀ q : Cl w1.heap.size w1, q.u.cell? ⟨w.heap.size + 1, 2, none⟩ = some (.int .i64 k2.r) := fun q => q.cell lt2 (hJ1.cell 2 rfl)
  have q3 : ∀ q : Cl w1.heap.size w1, q.u.cell? ⟨w.heap.size + 1, 3, none⟩ = some (.string k2.c) := fun q => q.cell lt2 (hJ1.cell 3 rfl)
  clear hK0 hK1 hJ1 h s0 lt1 lt2 HT1
  obtain ⟨t1, c1, r1, e1⟩ := k1
  obtain ⟨t2, c2, r2, e2⟩ := k2
  simp only [Kb.v] at hw0 hw1 F1 F2 p0 p1 p2 p3 q0 q1 q2 q3 ⊢
  haveI := Cl.inh w1.heap.size w1
  go_enter Tryz.func17, Tryz.ntmps17
  go_wp2_with fail
  rw [← hw0, ← hw1]
  clear hw0 hw1
  refine wp_region_sched (fun w' => ∃ p : Cl w1.heap.size w1, w' = p.u) [(0, true), (1, true), (3, true), (4, true), (2, false), (5, false), (6, true), (7, true)] rfl (by kernel_rfl) (by kernel_rfl) (by kernel_rfl) ⟨⟨_, (Below.refl _ _).drew⟩, rfl⟩ ?_
  iterate 4 (refine sched_pure rfl (fun K hK => ?_); go_simp; refine hK _ ?_; clear hK K)
  refine sched_loud rfl (fun K hK => ?_)
  go_simp
  refine (F1.out _ (Below.refl _ _).drew).mono ?_
  rintro e u1 ⟨a1, g1, o1, d1, rfl, hc1, x1, hd1, -, y1⟩
  have z1 : Below w1.heap.size w1 u1 := (Below.refl _ w1).drew.trans y1
  refine hK _ _ ⟨⟨u1, z1⟩, rfl⟩ ?_
  clear hK K F1
  refine sched_loud rfl (fun K hK => ?_)
  go_simp
  refine (F2.out _ z1).mono ?_
  rintro e u2 ⟨a2, g2, o2, d2, rfl, hc2, x2, hd2, -, y2⟩
  have z2 : Below w1.heap.size w1 u2 := z1.trans (y2.mono z1.size)
  refine hK _ _ ⟨⟨u2, z2⟩, rfl⟩ ?_
  clear hK K F2
  iterate 2 (refine sched_pure rfl (fun K hK => ?_); go_simp; refine hK _ ?_; clear hK K)
  refine sched_nil ?_
  clear p0 p1 p2 p3 q0 q1 q2 q3
  have hle1 := hc1.le
  have hle2 := hc2.le
  have hlen : ((l.drop a1).take (a2 - a1)).length = a2 - a1 := by rw [List.length_take, List.length_drop]; omega
  have x3 : XSees u2 (some ⟨g1, o1, none⟩) ((l.drop a1).take (a2 - a1)) := fun i x hi => by
    have h1 : (l.drop a1)[i]? = some x := by
      rw [List.getElem?_take] at hi
      split at hi
      · exact hi
      · cases hi
    exact (x1.below y2 (Nat.le_refl _)) i x h1
  have CL : Hid (∀ d, Calls Tryz.prog 44 #[.slice (some ⟨g1, o1, none⟩) (a2 - a1) d] u2 fun e w' => ∃ v, e = .returned v ∧ w'.ownsRow u2.heap.size 59 10 v (a2 - a1) (((l.drop a1).take (a2 - a1)).flatMap xs10) ∧ Below u2.heap.size u2 w') := fun d => by
    have := cloneX_any (some ⟨g1, o1, none⟩) ((l.drop a1).take (a2 - a1)) d u2 x3 (by simp) (by omega)
    rw [hlen] at this
    exact this
  have hb2 : Below w.heap.size w u2 := hb01.trans (z2.mono hb01.size)
  have HC1 : Hid (CutAt l ⟨t1, c1, r1, e1⟩ a1) := hc1
  have HC2 : Hid (CutAt l ⟨t2, c2, r2, e2⟩ a2) := hc2
  obtain ⟨n1, hn1⟩ : ∃ n1, n1 = l.length - a1 := ⟨_, rfl⟩
  obtain ⟨n2, hn2⟩ : ∃ n2, n2 = l.length - a2 := ⟨_, rfl⟩
  obtain ⟨m, hm⟩ : ∃ m, m = a2 - a1 := ⟨_, rfl⟩
  have hmax : max ((n1 : Int) - (n2 : Int)) 0 = (m : Int) := by omega
  have hmn : m ≤ n1 := by omega
  have hmd : m ≤ d1 := by omega
  have hn19 : n1 ≤ 9000 := by omega
  have hn29 : n2 ≤ 9000 := by omega
  rw [← hn1] at hd1
  rw [← hm] at CL
  have HM : Hid (m = a2 - a1) := hm
  rw [← hn1, ← hn2]
  clear hn1 hn2 hm hc1 hc2 x1 x2 x3 hlen hle1 hle2
  go_wp2_with fail
  refine (CL.out _).mono ?_
  rintro e w2 ⟨v, rfl, ho, hb⟩
  clear CL
  go_wp2_with fail
  go_ret
  refine ⟨a1, a2, v, rfl, HC1.out, HC2.out, ?_, hb2.trans (hb.mono hb2.size)⟩
  rw [← HM.out]
  exact owns_monoB ho hb2.size
end Go.Proofs.YtdookhmaiapclaaGreatDoor
namespace Go.Proofs.YtdookhmaiapclaaGreatDoor
open Go.RowKit

theorem resX_row_tmp {P : Program} {fn : Func} {p u : Tmp} {ty : TypeId} (h : fn.results = #[.cell p ty, .tmp u]) (tmps : Array Value) (w : World) (g : Nat) (t : TypeId) (cs : Array Value) (fr : Nat × Nat) (d : TypeDesc) (v : Value)
    (hp : tmps.getD p undef = .pointer (some ⟨g, 0, none⟩)) (hv : tmps.getD u undef = v) (hg : w.heap[g]? = some (.cells cs t fr))
    (hu : P.underlying ty = some d) (hd : (match d with | .struct _ | .array _ _ => true | _ => false) = true) (hi : (P.info? ty).map (·.size) = some cs.size) :
    (results fn tmps).run P w = .ok (.tuple #[.agg cs, v]) w := by
  rw [results_cell_tmp h, hp, hv]
  simp [asAddr, run_loadVar_row w g t ty cs fr d hg hu hd hi, Result.andThen]
set_option maxRecDepth 100000 in
set_option maxHeartbeats 4000000 in
theorem refFind_any (ao : Option Addr) (l : List Cx) (cap : Nat) (k : Kb) (w : World) (hs : XSees w ao l) (hl : l.length ≤ 1000000) :
    Calls Tryz.prog 36 #[.slice ao l.length cap, k.v] w fun e w' => e = .returned (.tuple #[(fnd k l).1.v, .bool (fnd k l).2]) ∧ Below w.heap.size w w' := by
  have hlz : (l.length : Int) ≤ 1000000 := by omega
  obtain ⟨wa, hwa, ⟨b0, b1, b2, b3⟩, hz, hsz, hB⟩ := find_box w k
  have HF : Hid (∀ w', Below wa.heap.size wa w' → (w'.cell? ⟨w.heap.size, 0, none⟩ = some (.string k.t) ∧ w'.cell? ⟨w.heap.size, 1, none⟩ = some (.string k.p) ∧ w'.cell? ⟨w.heap.size, 2, none⟩ = some (.int .i64 k.r) ∧ w'.cell? ⟨w.heap.size, 3, none⟩ = some (.string k.c)) ∧ w'.heap[w.heap.size + 1]? = some (.cells zeroV.a 48) ∧ XSees w' ao l ∧ Below w.heap.size w w') := fun w' h => by
    have h1 : w.heap.size < wa.heap.size := by omega
    exact ⟨⟨by rw [h.cell h1, b0], by rw [h.cell h1, b1], by rw [h.cell h1, b2], by rw [h.cell h1, b3]⟩, by rw [h.block _ (by omega)]; exact hz, hs.below (hB.trans (h.mono hB.size)) (Nat.le_refl _), hB.trans (h.mono hB.size)⟩
  have HD : Hid (∀ i, i ≤ l.length → (∀ j c, j < i → l[j]? = some c → c.k ≠ k) → fnd k l = fnd k (l.drop i)) := fun i h1 h2 => fnd_drop i h1 h2
  clear b0 b1 b2 b3 hz hs hB hsz
  obtain ⟨kt, kp, kr, kcc⟩ := k
  simp only [Kb.v, zeroV, Vr.a] at hwa ⊢
  go_enter Tryz.func36, Tryz.ntmps36
  go_wp2_with fail
  rw [← hwa]
  clear hwa
  go_loopw [10] (fun s10 wr => ∃ i : Nat, i ≤ l.length ∧ s10 = .int .i64 i ∧ (∀ j c, j < i → l[j]? = some c → c.k ≠ ⟨kt, kp, kr, kcc⟩) ∧ Below wa.heap.size wa wr) (fun s10 _ => l.length - (intOf s10).toNat)
  case atStart => exact ⟨0, by omega, rfl, fun j c hj => by omega, Below.refl _ _⟩
  case round =>
    obtain ⟨i, hi, rfl, hne, hbr⟩ := hrel
    rcases Nat.lt_or_ge i l.length with hlt | hge
    · have hc : l[i]? = some l[i] := List.getElem?_eq_getElem hlt
      have hdr := HD.out i hi hne
      rw [List.drop_eq_getElem_cons hlt] at hdr
      generalize l[i] = c at *
      obtain ⟨-, -, hx, -⟩ := HF.out wr hbr
      obtain ⟨b, off, rfl, t⟩ := hx i c hc
      obtain ⟨wv, hwv⟩ : ∃ wv, wv = wr.alloc (.cells c.a 59) := ⟨_, rfl⟩
      have hbv : Below wa.heap.size wa wv := by rw [hwv]; exact hbr.alloc hbr.size _
      obtain ⟨⟨e0, e1, e2, e3⟩, hz, -, hBw⟩ := HF.out wv hbv
      have f0 := frozen_at hz 0
      have f1 := frozen_at hz 1
      have f2 := frozen_at hz 2
      have f3 := frozen_at hz 3
      have f4 := frozen_at hz 4
      have f5 := frozen_at hz 5
      obtain ⟨d1, d2, d3, d4, d5, d6⟩ := VAt.of hz
      simp only [Nat.zero_add] at d1 d2 d3 d4 d5 d6
      have HS : Hid (∀ v0 v1 v2 v3 v4 v5 : Value, ((((((wv.setCell ⟨w.heap.size + 1, 0, none⟩ v0).setCell ⟨w.heap.size + 1, 1, none⟩ v1).setCell ⟨w.heap.size + 1, 2, none⟩ v2).setCell ⟨w.heap.size + 1, 3, none⟩ v3).setCell ⟨w.heap.size + 1, 4, none⟩ v4).setCell ⟨w.heap.size + 1, 5, none⟩ v5).heap[w.heap.size + 1]? = some (.cells #[v0, v1, v2, v3, v4, v5] 48)) := set6 hz
      have HBB : Hid (∀ v0 v1 v2 v3 v4 v5 : Value, Below w.heap.size w ((((((wv.setCell ⟨w.heap.size + 1, 0, none⟩ v0).setCell ⟨w.heap.size + 1, 1, none⟩ v1).setCell ⟨w.heap.size + 1, 2, none⟩ v2).setCell ⟨w.heap.size + 1, 3, none⟩ v3).setCell ⟨w.heap.size + 1, 4, none⟩ v4).setCell ⟨w.heap.size + 1, 5, none⟩ v5)) := below6 hBw (by omega)
      rw [hwv] at e0 e1 e2 e3 f0 f1 f2 f3 f4 f5 d1 d2 d3 d4 d5 d6 HS HBB hbv
      have Hbv : Hid (Below wa.heap.size wa (wr.alloc (.cells c.a 59))) := hbv
      clear hz hBw hx hwv wv hbv
      obtain ⟨⟨ct, cp, cr, cc⟩, ⟨tm, dd, lc, kd, nm, st⟩⟩ := c
      obtain ⟨x0, x1, x2, x3, x4, x5, x6, x7, x8, x9⟩ := t
      simp only [Cx.a, zeroV] at *
      by_cases hck : (⟨ct, cp, cr, cc⟩ : Kb) = ⟨kt, kp, kr, kcc⟩
      · have HR : Hid (fnd ⟨kt, kp, kr, kcc⟩ l = (⟨tm, dd, lc, kd, nm, st⟩, true)) := hdr.trans (fnd_hit _ hck)
        clear hdr hne hc
        simp only [Kb.mk.injEq] at hck
        obtain ⟨rfl, rfl, rfl, rfl⟩ := hck
        go_wp2_with fail
        refine bodyPost_ret (v := .tuple #[.agg #[.int .i64 tm, .bool dd, .int .i64 lc, .int .i64 kd, .int .i64 nm, .string st], .bool true]) (resX_row_tmp Tryz.results36 _ _ (w.heap.size + 1) 48 _ _ _ _ rfl rfl (HS.out _ _ _ _ _ _) Tryz.underlying48 rfl (by kernel_rfl)) rfl ?_
        exact ⟨by rw [HR.out]; rfl, HBB.out _ _ _ _ _ _⟩
      · have HN : Hid (∀ j c, j < i + 1 → l[j]? = some c → c.k ≠ ⟨kt, kp, kr, kcc⟩) := fun j c hj hcj => by
          rcases Nat.lt_or_ge j i with g | g
          · exact hne j c g hcj
          · have : j = i := by omega
            rw [this, hc] at hcj
            rw [← Option.some.inj hcj]; exact hck
        have hkf := key_first hck
        clear hdr hne hc hck HS HBB f0 f1 f2 f3 f4 f5 d1 d2 d3 d4 d5 d6
        have hltz : (i : Int) < (l.length : Int) := by omega
        rcases hkf with h | ⟨rfl, h⟩ | ⟨rfl, rfl, h⟩ | ⟨rfl, rfl, rfl, h⟩ <;> (go_wp2_with fail; go_roundw; (case rel => exact ⟨i + 1, by omega, by go_num, HN.out, Hbv.out⟩); (case measure => (simp [intOf]; omega)))
    · have hi2 : i = l.length := by omega
      have hdr := HD.out i hi hne
      rw [hi2, List.drop_length] at hdr
      have HR : Hid (fnd ⟨kt, kp, kr, kcc⟩ l = (zeroV, false)) := hdr
      obtain ⟨-, hz, -, hBw⟩ := HF.out wr hbr
      have f0 := frozen_at hz 0
      have f1 := frozen_at hz 1
      have f2 := frozen_at hz 2
      have f3 := frozen_at hz 3
      have f4 := frozen_at hz 4
      have f5 := frozen_at hz 5
      obtain ⟨d1, d2, d3, d4, d5, d6⟩ := VAt.of hz
      simp only [Nat.zero_add, zeroV] at d1 d2 d3 d4 d5 d6
      have HS : Hid (∀ v0 v1 v2 v3 v4 v5 : Value, ((((((wr.setCell ⟨w.heap.size + 1, 0, none⟩ v0).setCell ⟨w.heap.size + 1, 1, none⟩ v1).setCell ⟨w.heap.size + 1, 2, none⟩ v2).setCell ⟨w.heap.size + 1, 3, none⟩ v3).setCell ⟨w.heap.size + 1, 4, none⟩ v4).setCell ⟨w.heap.size + 1, 5, none⟩ v5).heap[w.heap.size + 1]? = some (.cells #[v0, v1, v2, v3, v4, v5] 48)) := set6 hz
      have HBB : Hid (∀ v0 v1 v2 v3 v4 v5 : Value, Below w.heap.size w ((((((wr.setCell ⟨w.heap.size + 1, 0, none⟩ v0).setCell ⟨w.heap.size + 1, 1, none⟩ v1).setCell ⟨w.heap.size + 1, 2, none⟩ v2).setCell ⟨w.heap.size + 1, 3, none⟩ v3).setCell ⟨w.heap.size + 1, 4, none⟩ v4).setCell ⟨w.heap.size + 1, 5, none⟩ v5)) := below6 hBw (by omega)
      have hgez : ¬ (i : Int) < (l.length : Int) := by omega
      clear hdr hne hz hBw hi2
      go_wp2_with fail
      refine bodyPost_ret (v := .tuple #[.agg #[.int .i64 0, .bool false, .int .i64 0, .int .i64 0, .int .i64 0, .string ⟨#[]⟩], .bool false]) (resX_row_tmp Tryz.results36 _ _ (w.heap.size + 1) 48 _ _ _ _ rfl rfl (HS.out _ _ _ _ _ _) Tryz.underlying48 rfl (by kernel_rfl)) rfl ?_
      exact ⟨by rw [HR.out]; rfl, HBB.out _ _ _ _ _ _⟩
end Go.Proofs.YtdookhmaiapclaaGreatDoor
namespace Go.Proofs.YtdookhmaiapclaaGreatDoor
open Go.RowKit

attribute [local go_sem] Oper.pureAt Oper.pureUpon
theorem CutAt.ahead {l : List Cx} {k : Kb} {a : Nat} (h : CutAt l k a) : fnd k l = fnd k (l.drop a) := fnd_drop a h.le fun j c hj hc e => by
  have := h.lo j c hj hc
  rw [e] at this
  have h0 := (kc_cmpr.z k.ky k.ky).2 rfl
  omega
theorem CutAt.none {l : List Cx} {k : Kb} {a : Nat} (h : CutAt l k a) (ha : a = l.length) : fnd k l = (zeroV, false) := by
  rw [h.ahead, ha, List.drop_length]; rfl
theorem CutAt.hit {l : List Cx} {k : Kb} {a : Nat} (h : CutAt l k a) {c : Cx} (hc : l[a]? = some c) (hk : c.k = k) : fnd k l = (c.v, true) := by
  obtain ⟨hl, e⟩ := List.getElem?_eq_some_iff.1 hc
  rw [h.ahead, List.drop_eq_getElem_cons hl, e]
  exact fnd_hit _ hk
theorem fnd_nowhere {k : Kb} : ∀ {R : List Cx}, (∀ c ∈ R, c.k ≠ k) → fnd k R = (zeroV, false)
  | [], _ => rfl
  | c :: R, h => by rw [fnd_miss _ (h c (by simp))]; exact fnd_nowhere fun u hu => h u (by simp [hu])
theorem CutAt.miss {l : List Cx} (hR : Rising l) {k : Kb} {a : Nat} (h : CutAt l k a) {c : Cx} (hc : l[a]? = some c) (hk : c.k ≠ k) : fnd k l = (zeroV, false) := by
  rw [h.ahead]
  refine fnd_nowhere fun x hx e => ?_
  obtain ⟨i, hi, hxi⟩ := List.getElem_of_mem hx
  have hx2 : l[a + i]? = some x := by rw [← List.getElem?_drop, List.getElem?_eq_getElem hi, hxi]
  by_cases h0 : i = 0
  · subst h0
    rw [Nat.add_zero, hc] at hx2
    obtain rfl := Option.some.inj hx2
    exact hk e
  · have h1 := srt_lt hR (show a < a + i by omega) hc hx2
    have h2 := h.hi a c (Nat.le_refl _) hc
    rw [e] at h1
    omega
set_option maxRecDepth 100000 in
set_option maxHeartbeats 4000000 in
theorem getT_any {w : World} {T : Nat} {l : List Cx} (h : TAt w T l) (k : Kb) :
    Calls Tryz.prog 14 #[.pointer (some ⟨T, 0, none⟩), k.v] w fun e w' => e = .returned (.tuple #[(fnd k l).1.v, .bool (fnd k l).2]) ∧ Below w.heap.size w w' := by
  have hl9 := h.wrt.len
  have hR := h.rising
  obtain ⟨wa, hwa, ⟨b0, b1, b2, b3⟩, hz, hsz, hB⟩ := find_box w k
  have F : Hid (Calls Tryz.prog 40 #[.pointer (some ⟨T, 0, none⟩), k.v] wa fun e w' => ∃ a g o c, e = .returned (.slice (some ⟨g, o, none⟩) (l.length - a) c) ∧ CutAt l k a ∧ XSees w' (some ⟨g, o, none⟩) (l.drop a) ∧ l.length - a ≤ c ∧ g < wa.heap.size ∧ Below wa.heap.size wa w') := from_any (h.below hB) k
  have HF : Hid (∀ w', Below wa.heap.size wa w' → (w'.cell? ⟨w.heap.size, 0, none⟩ = some (.string k.t) ∧ w'.cell? ⟨w.heap.size, 1, none⟩ = some (.string k.p) ∧ w'.cell? ⟨w.heap.size, 2, none⟩ = some (.int .i64 k.r) ∧ w'.cell? ⟨w.heap.size, 3, none⟩ = some (.string k.c)) ∧ w'.heap[w.heap.size + 1]? = some (.cells zeroV.a 48) ∧ Below w.heap.size w w') := fun w' h => by
    have h1 : w.heap.size < wa.heap.size := by omega
    exact ⟨⟨by rw [h.cell h1, b0], by rw [h.cell h1, b1], by rw [h.cell h1, b2], by rw [h.cell h1, b3]⟩, by rw [h.block _ (by omega)]; exact hz, hB.trans (h.mono hB.size)⟩
  have hb0 := b0
  have hb1 := b1
  have hb2 := b2
  have hb3 := b3
  rw [hwa] at hb0 hb1 hb2 hb3
  have hwsz : w.heap.size < wa.heap.size := by omega
  clear b0 b1 b2 b3 hz hB hsz h
  obtain ⟨kt, kp, kr, kcc⟩ := k
  simp only [Kb.v, zeroV, Vr.a] at hwa F hb0 hb1 hb2 hb3 ⊢
  go_enter Tryz.func14, Tryz.ntmps14
  go_wp2_with fail
  rw [← hwa]
  clear hwa hb0 hb1 hb2 hb3
  refine F.out.mono ?_
  rintro e w1 ⟨a, g, o, cp, rfl, hCU, hx, hcp, hgl, hbb⟩
  clear F
  obtain ⟨⟨d0, d1, d2, d3⟩, -, -⟩ := HF.out w1 hbb
  have hlt1 : w.heap.size < w1.heap.size := Nat.lt_of_lt_of_le hwsz hbb.size
  have r0 : ∀ q : Cl w1.heap.size w1, q.u.cell? ⟨w.heap.size, 0, none⟩ = some (.string kt) := fun q => q.cell hlt1 d0
  have r1 : ∀ q : Cl w1.heap.size w1, q.u.cell? ⟨w.heap.size, 1, none⟩ = some (.string kp) := fun q => q.cell hlt1 d1
  have r2 : ∀ q : Cl w1.heap.size w1, q.u.cell? ⟨w.heap.size, 2, none⟩ = some (.int .i64 kr) := fun q => q.cell hlt1 d2
  have r3 : ∀ q : Cl w1.heap.size w1, q.u.cell? ⟨w.heap.size, 3, none⟩ = some (.string kcc) := fun q => q.cell hlt1 d3
  have hle := hCU.le
  obtain ⟨n, hn⟩ : ∃ n, n = l.length - a := ⟨_, rfl⟩
  rw [← hn] at hcp ⊢
  have hn9 : n ≤ 9000 := by omega
  obtain ⟨w2, hw2⟩ : ∃ w2, w2 = w1.drew := ⟨_, rfl⟩
  have hb2 : Below wa.heap.size wa w2 := by rw [hw2]; exact hbb.drew
  have hxd : Hid (∀ i x, (l.drop a)[i]? = some x → TenX w2 g (o + i * 10) x) := fun i x hi => by
    obtain ⟨b, of, e, t⟩ := hx i x hi
    cases e
    have := t.below ((Below.refl w1.heap.size w1).drew) t.lt
    rw [hw2]
    exact this
  haveI := Cl.inh w1.heap.size w1
  by_cases h0 : n = 0
  · have HR : Hid (fnd ⟨kt, kp, kr, kcc⟩ l = (zeroV, false)) := hCU.none (by omega)
    have dn : ((n : Int) == 0) = true := by rw [h0]; rfl
    obtain ⟨-, hz, hBw⟩ := HF.out w2 hb2
    have f0 := frozen_at hz 0
    have f1 := frozen_at hz 1
    have f2 := frozen_at hz 2
    have f3 := frozen_at hz 3
    have f4 := frozen_at hz 4
    have f5 := frozen_at hz 5
    obtain ⟨g1, g2, g3, g4, g5, g6⟩ := VAt.of hz
    simp only [Nat.zero_add, zeroV] at g1 g2 g3 g4 g5 g6
    have HS : Hid (∀ v0 v1 v2 v3 v4 v5 : Value, ((((((w2.setCell ⟨w.heap.size + 1, 0, none⟩ v0).setCell ⟨w.heap.size + 1, 1, none⟩ v1).setCell ⟨w.heap.size + 1, 2, none⟩ v2).setCell ⟨w.heap.size + 1, 3, none⟩ v3).setCell ⟨w.heap.size + 1, 4, none⟩ v4).setCell ⟨w.heap.size + 1, 5, none⟩ v5).heap[w.heap.size + 1]? = some (.cells #[v0, v1, v2, v3, v4, v5] 48)) := set6 hz
    have HBB : Hid (∀ v0 v1 v2 v3 v4 v5 : Value, Below w.heap.size w ((((((w2.setCell ⟨w.heap.size + 1, 0, none⟩ v0).setCell ⟨w.heap.size + 1, 1, none⟩ v1).setCell ⟨w.heap.size + 1, 2, none⟩ v2).setCell ⟨w.heap.size + 1, 3, none⟩ v3).setCell ⟨w.heap.size + 1, 4, none⟩ v4).setCell ⟨w.heap.size + 1, 5, none⟩ v5)) := below6 hBw (by omega)
    clear hz hBw hx hxd hCU hn hbb
    subst h0
    go_wp2_with fail
    refine wp_region_sched (fun w' => ∃ p : Cl w1.heap.size w1, w' = p.u) [(0, true), (1, true), (2, true), (3, true), (4, true), (5, true), (6, true), (7, true), (8, true), (9, true), (10, true)] rfl (by kernel_rfl) (by kernel_rfl) (by kernel_rfl) ⟨⟨_, (Below.refl _ _).drew⟩, rfl⟩ ?_
    iterate 11 (refine sched_pure rfl (fun K hK => ?_); go_simp; refine hK _ ?_; clear hK K)
    refine sched_nil ?_
    rw [← hw2]
    clear hw2
    go_wp2_with fail
    refine bodyPost_ret (v := .tuple #[.agg #[.int .i64 0, .bool false, .int .i64 0, .int .i64 0, .int .i64 0, .string ⟨#[]⟩], .bool false]) (resX_row_tmp Tryz.results14 _ _ (w.heap.size + 1) 48 _ _ _ _ rfl rfl (HS.out _ _ _ _ _ _) Tryz.underlying48 rfl (by kernel_rfl)) rfl ?_
    exact ⟨by rw [HR.out]; rfl, HBB.out _ _ _ _ _ _⟩
  · have hal : a < l.length := by omega
    have hc : l[a]? = some l[a] := List.getElem?_eq_getElem hal
    have hdn : ((n : Int) == 0) = false := by simp; omega
    have tt := hxd.out 0 l[a] (by rw [List.getElem?_drop, Nat.add_zero]; exact hc)
    have tu : TenX w1 g (o + 0 * 10) l[a] := by
      obtain ⟨b, of, e, t⟩ := hx 0 l[a] (by rw [List.getElem?_drop, Nat.add_zero]; exact hc)
      cases e
      exact t
    rw [Nat.zero_mul, Nat.add_zero] at tt tu
    have hglt := tu.lt
    have HHIT : Hid (l[a].k = ⟨kt, kp, kr, kcc⟩ → fnd ⟨kt, kp, kr, kcc⟩ l = (l[a].v, true)) := fun e => hCU.hit hc e
    have HMISS : Hid (l[a].k ≠ ⟨kt, kp, kr, kcc⟩ → fnd ⟨kt, kp, kr, kcc⟩ l = (zeroV, false)) := fun e => hCU.miss hR hc e
    generalize l[a] = c at *
    obtain ⟨⟨ct, cpp, cr, cc⟩, ⟨tm, dd, lc, kd, nm, st⟩⟩ := c
    obtain ⟨t0, t1, t2, t3, -, -, -, -, -, -⟩ := tu
    obtain ⟨-, -, -, -, x4, x5, x6, x7, x8, x9⟩ := tt
    simp only at t0 t1 t2 t3 x4 x5 x6 x7 x8 x9
    have q0 : ∀ q : Cl w1.heap.size w1, q.u.cell? ⟨g, o, none⟩ = some (.string ct) := fun q => q.cell hglt t0
    have q1 : ∀ q : Cl w1.heap.size w1, q.u.cell? ⟨g, o + 1, none⟩ = some (.string cpp) := fun q => q.cell hglt t1
    have q2 : ∀ q : Cl w1.heap.size w1, q.u.cell? ⟨g, o + 2, none⟩ = some (.int .i64 cr) := fun q => q.cell hglt t2
    have q3 : ∀ q : Cl w1.heap.size w1, q.u.cell? ⟨g, o + 3, none⟩ = some (.string cc) := fun q => q.cell hglt t3
    have hnz : (0 : Int) < (n : Int) := by omega
    have hn0 : 0 < n := by omega
    obtain ⟨-, hz, hBw⟩ := HF.out w2 hb2
    have f0 := frozen_at hz 0
    have f1 := frozen_at hz 1
    have f2 := frozen_at hz 2
    have f3 := frozen_at hz 3
    have f4 := frozen_at hz 4
    have f5 := frozen_at hz 5
    obtain ⟨g1, g2, g3, g4, g5, g6⟩ := VAt.of hz
    simp only [Nat.zero_add, zeroV] at g1 g2 g3 g4 g5 g6
    have HS : Hid (∀ v0 v1 v2 v3 v4 v5 : Value, ((((((w2.setCell ⟨w.heap.size + 1, 0, none⟩ v0).setCell ⟨w.heap.size + 1, 1, none⟩ v1).setCell ⟨w.heap.size + 1, 2, none⟩ v2).setCell ⟨w.heap.size + 1, 3, none⟩ v3).setCell ⟨w.heap.size + 1, 4, none⟩ v4).setCell ⟨w.heap.size + 1, 5, none⟩ v5).heap[w.heap.size + 1]? = some (.cells #[v0, v1, v2, v3, v4, v5] 48)) := set6 hz
    have HBB : Hid (∀ v0 v1 v2 v3 v4 v5 : Value, Below w.heap.size w ((((((w2.setCell ⟨w.heap.size + 1, 0, none⟩ v0).setCell ⟨w.heap.size + 1, 1, none⟩ v1).setCell ⟨w.heap.size + 1, 2, none⟩ v2).setCell ⟨w.heap.size + 1, 3, none⟩ v3).setCell ⟨w.heap.size + 1, 4, none⟩ v4).setCell ⟨w.heap.size + 1, 5, none⟩ v5)) := below6 hBw (by omega)
    clear hz hBw hx hxd hCU hn hbb t0 t1 t2 t3 hc
    by_cases hck : (⟨ct, cpp, cr, cc⟩ : Kb) = ⟨kt, kp, kr, kcc⟩
    · have HR := toHidE (HHIT.out hck)
      clear HHIT HMISS
      simp only [Kb.mk.injEq] at hck
      obtain ⟨rfl, rfl, rfl, rfl⟩ := hck
      go_wp2_with fail
      refine wp_region_sched (fun w' => ∃ p : Cl w1.heap.size w1, w' = p.u) [(0, true), (1, true), (2, true), (3, true), (4, true), (5, true), (6, true), (7, true), (8, true), (9, true), (10, true)] rfl (by kernel_rfl) (by kernel_rfl) (by kernel_rfl) ⟨⟨_, (Below.refl _ _).drew⟩, rfl⟩ ?_
      iterate 11 (refine sched_pure rfl (fun K hK => ?_); go_simp; refine hK _ ?_; clear hK K)
      refine sched_nil ?_
      rw [← hw2]
      clear hw2
      go_wp2_with fail
      refine bodyPost_ret (v := .tuple #[.agg #[.int .i64 tm, .bool dd, .int .i64 lc, .int .i64 kd, .int .i64 nm, .string st], .bool true]) (resX_row_tmp Tryz.results14 _ _ (w.heap.size + 1) 48 _ _ _ _ rfl rfl (HS.out _ _ _ _ _ _) Tryz.underlying48 rfl (by kernel_rfl)) rfl ?_
      exact ⟨by rw [HR.out]; rfl, HBB.out _ _ _ _ _ _⟩
    · have HR := toHidE (HMISS.out hck)
      clear HHIT HMISS
      have hkf := key_first hck
      clear hck x4 x5 x6 x7 x8 x9
      rcases hkf with h | ⟨rfl, h⟩ | ⟨rfl, rfl, h⟩ | ⟨rfl, rfl, rfl, h⟩
      · go_wp2_with fail
        refine wp_region_sched (fun w' => ∃ p : Cl w1.heap.size w1, w' = p.u) [(0, true), (1, true), (2, true), (3, true), (4, true), (5, true), (6, true), (7, true), (8, true), (9, true), (10, true)] rfl (by kernel_rfl) (by kernel_rfl) (by kernel_rfl) ⟨⟨_, (Below.refl _ _).drew⟩, rfl⟩ ?_
        iterate 11 (refine sched_pure rfl (fun K hK => ?_); go_simp; refine hK _ ?_; clear hK K)
        refine sched_nil ?_
        rw [← hw2]
        clear hw2
        go_wp2_with fail
        refine bodyPost_ret (v := .tuple #[.agg #[.int .i64 0, .bool false, .int .i64 0, .int .i64 0, .int .i64 0, .string ⟨#[]⟩], .bool false]) (resX_row_tmp Tryz.results14 _ _ (w.heap.size + 1) 48 _ _ _ _ rfl rfl (HS.out _ _ _ _ _ _) Tryz.underlying48 rfl (by kernel_rfl)) rfl ?_
        exact ⟨by rw [HR.out]; rfl, HBB.out _ _ _ _ _ _⟩
      · go_wp2_with fail
        refine wp_region_sched (fun w' => ∃ p : Cl w1.heap.size w1, w' = p.u) [(0, true), (1, true), (2, true), (3, true), (4, true), (5, true), (6, true), (7, true), (8, true), (9, true), (10, true)] rfl (by kernel_rfl) (by kernel_rfl) (by kernel_rfl) ⟨⟨_, (Below.refl _ _).drew⟩, rfl⟩ ?_
        iterate 11 (refine sched_pure rfl (fun K hK => ?_); go_simp; refine hK _ ?_; clear hK K)
        refine sched_nil ?_
        rw [← hw2]
        clear hw2
        go_wp2_with fail
        refine bodyPost_ret (v := .tuple #[.agg #[.int .i64 0, .bool false, .int .i64 0, .int .i64 0, .int .i64 0, .string ⟨#[]⟩], .bool false]) (resX_row_tmp Tryz.results14 _ _ (w.heap.size + 1) 48 _ _ _ _ rfl rfl (HS.out _ _ _ _ _ _) Tryz.underlying48 rfl (by kernel_rfl)) rfl ?_
        exact ⟨by rw [HR.out]; rfl, HBB.out _ _ _ _ _ _⟩
      · go_wp2_with fail
        refine wp_region_sched (fun w' => ∃ p : Cl w1.heap.size w1, w' = p.u) [(0, true), (1, true), (2, true), (3, true), (4, true), (5, true), (6, true), (7, true), (8, true), (9, true), (10, true)] rfl (by kernel_rfl) (by kernel_rfl) (by kernel_rfl) ⟨⟨_, (Below.refl _ _).drew⟩, rfl⟩ ?_
        iterate 11 (refine sched_pure rfl (fun K hK => ?_); go_simp; refine hK _ ?_; clear hK K)
        refine sched_nil ?_
        rw [← hw2]
        clear hw2
        go_wp2_with fail
        refine bodyPost_ret (v := .tuple #[.agg #[.int .i64 0, .bool false, .int .i64 0, .int .i64 0, .int .i64 0, .string ⟨#[]⟩], .bool false]) (resX_row_tmp Tryz.results14 _ _ (w.heap.size + 1) 48 _ _ _ _ rfl rfl (HS.out _ _ _ _ _ _) Tryz.underlying48 rfl (by kernel_rfl)) rfl ?_
        exact ⟨by rw [HR.out]; rfl, HBB.out _ _ _ _ _ _⟩
      · go_wp2_with fail
        refine wp_region_sched (fun w' => ∃ p : Cl w1.heap.size w1, w' = p.u) [(0, true), (1, true), (2, true), (3, true), (4, true), (5, true), (6, true), (7, true), (8, true), (9, true), (10, true)] rfl (by kernel_rfl) (by kernel_rfl) (by kernel_rfl) ⟨⟨_, (Below.refl _ _).drew⟩, rfl⟩ ?_
        iterate 11 (refine sched_pure rfl (fun K hK => ?_); go_simp; refine hK _ ?_; clear hK K)
        refine sched_nil ?_
        rw [← hw2]
        clear hw2
        go_wp2_with fail
        refine bodyPost_ret (v := .tuple #[.agg #[.int .i64 0, .bool false, .int .i64 0, .int .i64 0, .int .i64 0, .string ⟨#[]⟩], .bool false]) (resX_row_tmp Tryz.results14 _ _ (w.heap.size + 1) 48 _ _ _ _ rfl rfl (HS.out _ _ _ _ _ _) Tryz.underlying48 rfl (by kernel_rfl)) rfl ?_
        exact ⟨by rw [HR.out]; rfl, HBB.out _ _ _ _ _ _⟩
end Go.Proofs.YtdookhmaiapclaaGreatDoor
namespace Go.Proofs.YtdookhmaiapclaaGreatDoor
open Go.RowKit

attribute [local go_sem] Oper.pureAt Oper.pureUpon
set_option maxRecDepth 100000 in
set_option maxHeartbeats 1000000 in
theorem mayT_any {w : World} {T : Nat} {l : List Cx} (h : TAt w T l) (k : Kb) (hk : k.Big) :
    Calls Tryz.prog 16 #[.pointer (some ⟨T, 0, none⟩), k.v] w fun e w' => e = .returned (.bool (mayK (filB l.length l) (sumB (encK k.ky) 0#64) 7)) ∧ Below w.heap.size w w' := by
  obtain ⟨fm, g, cap, hB, hx, hcap, hctop, hgl, hF⟩ := h.cells
  obtain ⟨w0, hw0⟩ : ∃ w0, w0 = w.alloc (.cells #[.string k.t, .string k.p, .int .i64 k.r, .string k.c] 24) := ⟨_, rfl⟩
  have hb0 : Below w.heap.size w w0 := by rw [hw0]; exact (Below.refl _ _).alloc (Nat.le_refl _) _
  have hK0 : Blk w0 w.heap.size [.string k.t, .string k.p, .int .i64 k.r, .string k.c] 24 := by rw [hw0]; exact Blk.new w _ _
  have hKL := toHidE hb0
  have K : Hid (∀ u, Below w0.heap.size w0 u → Calls Tryz.prog 43 #[k.v] u fun e w' => ∃ v, e = .returned v ∧ Aw u w' v (encK k.ky)) := fun u _ => bytes_big k u hk
  have hkl : (encK k.ky).length ≤ 20000000 := by
    have h1 := encT_le k.t (Nat.le_trans hk.t (by decide))
    have h2 := encT_le k.p (Nat.le_trans hk.p (by decide))
    have h3 := encT_le k.c (Nat.le_trans hk.c (by decide))
    have h4 : (encR k.r).length = 8 := be_length _ _
    have h5 := hk.t
    have h6 := hk.p
    have h7 := hk.c
    unfold encK Kb.ky
    simp only [List.length_append]
    omega
  have hB0 : Blk w0 T [.slice (some ⟨g, 0, none⟩) l.length cap, fm.v] 42 := hB.carry (hb0.block _ hB.lt)
  have HF : Hid (∀ u, Below w0.heap.size w0 u → FAt u fm 7 (filB l.length l)) := fun u hu => (hF.below hb0 (Nat.le_refl _)).below hu (Nat.le_refl _)
  have lt1 := hK0.lt
  have lt2 := hB0.lt
  have p0 : ∀ q : Cl w0.heap.size w0, q.u.cell? ⟨w.heap.size, 0, none⟩ = some (.string k.t) := fun q => q.cell lt1 (hK0.cell 0 rfl)
  have p1 : ∀ q : Cl w0.heap.size w0, q.u.cell? ⟨w.heap.size, 1, none⟩ = some (.string k.p) := fun q => q.cell lt1 (hK0.cell 1 rfl)
  have p2 : ∀ q : Cl w0.heap.size w0, q.u.cell? ⟨w.heap.size, 2, none⟩ = some (.int .i64 k.r) := fun q => q.cell lt1 (hK0.cell 2 rfl)
  have p3 : ∀ q : Cl w0.heap.size w0, q.u.cell? ⟨w.heap.size, 3, none⟩ = some (.string k.c) := fun q => q.cell lt1 (hK0.cell 3 rfl)
  have q1 : ∀ q : Cl w0.heap.size w0, q.u.cell? ⟨T, 1, none⟩ = some fm.v := fun q => q.cell lt2 (hB0.cell 1 rfl)
  clear hK0 hB hB0 hx h hF hk lt1 lt2
  generalize encK k.ky = bs at *
  generalize filB l.length l = fl at *
  obtain ⟨kt, kp, kr, kcc⟩ := k
  simp only [Kb.v] at hw0 K p0 p1 p2 p3 ⊢
  haveI := Cl.inh w0.heap.size w0
  go_enter Tryz.func16, Tryz.ntmps16
  go_wp2_with fail
  rw [← hw0]
  clear hw0
  refine wp_region_sched (fun w' => ∃ p : Cl w0.heap.size w0, w' = p.u) [(0, true), (1, true), (2, true), (3, true), (4, true), (5, false), (6, false), (7, true)] rfl (by kernel_rfl) (by kernel_rfl) (by kernel_rfl) ⟨⟨_, (Below.refl _ _).drew⟩, rfl⟩ ?_
  iterate 5 (refine sched_pure rfl (fun K hK => ?_); go_simp; refine hK _ ?_; clear hK K)
  refine sched_loud rfl (fun KK hK => ?_)
  go_simp
  refine (K.out _ (Below.refl _ _).drew).mono ?_
  rintro e u1 ⟨v, rfl, A⟩
  have z1 : Below w0.heap.size w0 u1 := (Below.refl _ w0).drew.trans A.bel
  refine hK _ _ ⟨⟨u1, z1⟩, rfl⟩ ?_
  clear hK KK
  obtain ⟨ao, c1, rfl, s1, -, -⟩ := owns_sees A.own
  have hcc : bs.length ≤ c1 := by
    rcases A.own.2 with ⟨h1, h2⟩ | ⟨g, cap', cur, h, _, _, hn, _⟩
    · omega
    · cases h; exact hn
  refine sched_loud rfl (fun KK hK => ?_)
  go_simp
  refine (may_any (HF.out u1 z1) ao bs c1 (by omega) hcc s1).mono ?_
  rintro e u2 ⟨rfl, hb2⟩
  have z2 : Below w0.heap.size w0 u2 := z1.trans (hb2.mono z1.size)
  refine hK _ _ ⟨⟨u2, z2⟩, rfl⟩ ?_
  clear hK KK
  iterate 1 (refine sched_pure rfl (fun K hK => ?_); go_simp; refine hK _ ?_; clear hK K)
  refine sched_nil ?_
  go_wp2_with fail
  go_ret
  exact ⟨rfl, (Hid.out hKL).trans (z2.mono (Hid.out hKL).size)⟩
end Go.Proofs.YtdookhmaiapclaaGreatDoor
namespace Go.Proofs.YtdookhmaiapclaaGreatDoor
open Go.RowKit

theorem wtXs_cons (c : Cx) (l : List Cx) : wtXs (c :: l) = wtX c + wtXs l := by unfold wtXs; rw [List.map_cons, List.sum_cons]
theorem wtXs_append (a b : List Cx) : wtXs (a ++ b) = wtXs a + wtXs b := by unfold wtXs; rw [List.map_append, List.sum_append]
theorem wtXs_addC (c : Cx) : ∀ O : List Cx, wtXs (addC O c) ≤ wtXs O + wtX c
  | [] => by rw [addC, wtXs_cons]; omega
  | x :: O => by
    have ih := wtXs_addC c O
    unfold addC
    split
    · rename_i hk
      rw [wtXs_cons, wtXs_cons]
      have h1 : wtX (jnC x c) ≤ wtX x + wtX c := by
        unfold jnC wtX
        rcases jn_or x.v c.v with e | e <;> rw [e] <;> simp only [] <;> omega
      omega
    · split
      · rw [wtXs_cons, wtXs_cons]; omega
      · rw [wtXs_cons, wtXs_cons]; omega
theorem wtXs_fold : ∀ (l O : List Cx), wtXs (l.foldl addC O) ≤ wtXs O + wtXs l
  | [], O => by rw [List.foldl_nil]; omega
  | c :: l, O => by
    have h1 := wtXs_fold l (addC O c)
    have h2 := wtXs_addC c O
    rw [List.foldl_cons, wtXs_cons]
    omega
theorem wtXs_nrm (l : List Cx) : wtXs (nrm l) ≤ wtXs l := by
  have := wtXs_fold l []
  unfold nrm
  have e : wtXs [] = 0 := rfl
  omega
theorem wtXs_goods : ∀ l : List Cx, wtXs (goods l) ≤ wtXs l
  | [] => Nat.le_refl _
  | c :: l => by
    have ih := wtXs_goods l
    unfold goods at *
    rw [List.filter_cons]
    split
    · rw [wtXs_cons, wtXs_cons]; omega
    · rw [wtXs_cons]; omega
theorem cxB_lenW (l : List Cx) : (cxB l).length ≤ 10 + (wtXs l + 81 * l.length) := by
  have h1 := wtYs_le l
  have h2 := manyL_leD (l.map toC)
  have h3 := (numL_length (l.map toC).length).2
  rw [wtL_toC, List.length_map] at h2
  unfold cxB cellsL
  rw [List.length_append]
  omega
theorem blksB_lenW (l : List Cx) : ∀ n : Nat, (blksB l (List.range n)).length ≤ 18 * n + (wtXs (l.take (8 * n)) + 81 * (l.take (8 * n)).length)
  | 0 => by simp [blksB]
  | n + 1 => by
    have ih := blksB_lenW l n
    have h1 : l.take (8 * (n + 1)) = l.take (8 * n) ++ chk l n := by
      unfold chk
      rw [show 8 * (n + 1) = 8 * n + 8 by omega, List.take_add]
    have h2 := cxB_lenW (chk l n)
    have h3 : (blksB l (List.range (n + 1))).length = (blksB l (List.range n)).length + (blkB l n).length := by
      unfold blksB
      rw [List.range_succ, List.flatMap_append, List.length_append, List.flatMap_cons, List.flatMap_nil, List.append_nil]
    have h4 : (blkB l n).length = (cxB (chk l n)).length + 8 := by unfold blkB; rw [frameL_len]
    rw [h1, wtXs_append, List.length_append]
    omega
theorem wtXs_take (l : List Cx) (n : Nat) : wtXs (l.take n) ≤ wtXs l := by
  have h := wtXs_append (l.take n) (l.drop n)
  rw [List.take_append_drop] at h
  omega
theorem encTb_lenW {l : List Cx} (h : Wrt l) : (encTb l).length ≤ 228 * nBk l.length + wtXs l + 81 * l.length + nOf l.length 10 + 200 := by
  have lB := blksB_lenW l (nBk l.length)
  have lI := idxB_len h.small (allK l)
  have lF := fltB_len l
  have lE := endC_len l
  have lT := wtXs_take l (8 * nBk l.length)
  have lU : (l.take (8 * nBk l.length)).length ≤ l.length := by rw [List.length_take]; omega
  have lA : allK l = List.range (nBk l.length) := rfl
  rw [allK_len] at lI
  rw [← lA] at lB
  unfold encTb headB
  simp only [List.length_append, frameL_len, List.length_cons, List.length_nil]
  omega
end Go.Proofs.YtdookhmaiapclaaGreatDoor
namespace Go.Proofs.YtdookhmaiapclaaGreatDoor
open Go.RowKit

theorem may_fold : ∀ (l : List Cx) (f : List UInt8) (k : BitVec 64 × BitVec 64), 0 < f.length → (mayK f k 7 = true ∨ ∃ c ∈ l, sumB (encK c.k.ky) 0#64 = k) → mayK (l.foldl (fun f c => addK f (sumB (encK c.k.ky) 0#64) 7) f) k 7 = true
  | [], f, k, _, h => by
    rcases h with h | ⟨c, hc, -⟩
    · exact h
    · cases hc
  | x :: l, f, k, hf, h => by
    rw [List.foldl_cons]
    refine may_fold l _ k (by rw [addK_length]; exact hf) ?_
    rcases h with h | ⟨c, hc, e⟩
    · exact .inl (may_more _ _ _ _ _ hf h)
    · rcases List.mem_cons.1 hc with rfl | hc
      · left; rw [← e]; exact may_add _ _ _ hf
      · exact .inr ⟨c, hc, e⟩
theorem filB_may {n : Nat} {l : List Cx} (hn : 0 < nOf n 10) {c : Cx} (hc : c ∈ l) : mayK (filB n l) (sumB (encK c.k.ky) 0#64) 7 = true := by
  unfold filB
  exact may_fold l _ _ (by rw [List.length_replicate]; exact hn) (.inr ⟨c, hc, rfl⟩)
theorem Wrt.big {l : List Cx} (h : Wrt l) {c : Cx} (hc : c ∈ l) : c.k.Big := by
  obtain ⟨a, b, d, -⟩ := h.small c hc
  have := h.num c hc
  exact ⟨by omega, by omega, by omega, this.1⟩
/-- Open of what was written. -/
theorem open_row {w : World} {g cap : Nat} {l : List Cx} (hR : Row9 w g (encTb l) cap) (h : Wrt l) (hw : wrtB l = true) (hl : (encTb l).length ≤ 60000) (ht : Tab w) (ue : TypeId) (pv : Value) (he : Err w ue pv) :
    Calls Tryz.prog 22 #[.slice (some ⟨g, 0, none⟩) (encTb l).length cap] w fun e w' => e = .returned (.tuple #[.pointer (some ⟨w.heap.size, 0, none⟩), .int .i64 0]) ∧ TAt w' w.heap.size l ∧ Below w.heap.size w w' := by
  have hcm : cap ≤ 9223372036854775807 ∧ (encTb l).length ≤ cap := by obtain ⟨cur, -, q1, q2, -⟩ := hR; unfold maxLen at q2; omega
  refine (open_any g 0 cap (encTb l) w hR.sees (encTb_pos l) hl hcm.2 hcm.1 hR.lt ht ue pv he).mono ?_
  rintro e w' ⟨h1, (⟨h2, -⟩ | ⟨l', rfl, h2, h3⟩)⟩
  · exact absurd rfl (h2 l h hw)
  · obtain rfl := encTb_inj h2.wrt h h3
    exact ⟨rfl, h2, h1⟩
end Go.Proofs.YtdookhmaiapclaaGreatDoor
namespace Go.Proofs.YtdookhmaiapclaaGreatDoor
open Go.RowKit

/-- The cells between two places. -/
def betw (l : List Cx) (a b : Nat) : List Cx := (l.drop a).take (b - a)
theorem betw_meet (l : List Cx) {a b c : Nat} (h1 : a ≤ b) (h2 : b ≤ c) : betw l a b ++ betw l b c = betw l a c := by
  unfold betw
  have e : c - a = (b - a) + (c - b) := by omega
  rw [e, List.take_add, List.drop_drop]
  congr 3
  omega
theorem CutAt.mono {l : List Cx} {k k' : Kb} {a a' : Nat} (h : CutAt l k a) (h' : CutAt l k' a') (hk : kc k.ky k'.ky ≤ 0) : a ≤ a' := by
  rcases Nat.lt_or_ge a' a with hlt | hge
  · exfalso
    have hl : a' < l.length := Nat.lt_of_lt_of_le hlt h.le
    have hc : l[a']? = some l[a'] := List.getElem?_eq_getElem hl
    have h1 := h.lo a' _ hlt hc
    have h2 := h'.hi a' _ (Nat.le_refl _) hc
    have h3 := kc_cmpr.t _ _ _ (Int.le_of_lt h1) hk
    have h4 : kc l[a'].k.ky k'.ky = 0 := by omega
    have h5 := (kc_cmpr.z _ _).1 h4
    rw [h5] at h1
    have h6 := kc_cmpr.n k'.ky k.ky
    omega
  · exact hge
theorem CutAt.one {l : List Cx} {k : Kb} {a a' : Nat} (h : CutAt l k a) (h' : CutAt l k a') : a = a' := by
  have e := (kc_cmpr.z k.ky k.ky).2 rfl
  have h1 := h.mono h' (by omega)
  have h2 := h'.mono h (by omega)
  omega
theorem cb_zs : ∀ (l : List UInt8) (m : Nat), (∀ b ∈ l, b.toNat ≤ 122) → l.length < m → cb l (List.replicate m 122) = -1
  | [], m + 1, _, _ => rfl
  | b :: r, m + 1, h, hl => by
    have ih := cb_zs r m (fun x hx => h x (by simp [hx])) (by simp at hl; omega)
    have hb := h b (by simp)
    unfold cb at *
    rw [List.replicate_succ]
    unfold Lib.compareBytes
    rcases Nat.lt_or_ge b.toNat 122 with h1 | h1
    · rw [if_pos (UInt8.lt_iff_toNat_lt.2 (by simpa using h1))]
    · have e : b = 122 := UInt8.toNat_inj.1 (by simp; omega)
      subst e
      simpa using ih
/-- The keys that the law scans all cells with. -/
def zeroK : Kb := ⟨⟨#[]⟩, ⟨#[]⟩, 0, ⟨#[]⟩⟩
def topK : Kb := ⟨⟨#[122, 122, 122, 122, 122, 122, 122, 122, 122, 122, 122, 122, 122, 122, 122, 122, 122, 122]⟩, ⟨#[]⟩, 0, ⟨#[]⟩⟩
theorem good_name {c : Cx} (h : goodC c = true) : nameB c.k.ky.t = true := by
  unfold goodC at h
  rw [Bool.and_eq_true] at h
  have h1 := h.1
  unfold goodK at h1
  simp only [Bool.and_eq_true] at h1
  exact h1.1.1.1
theorem good_top {c : Cx} (h : goodC c = true) : kc c.k.ky topK.ky < 0 := by
  have hn := good_name h
  unfold nameB at hn
  simp only [Bool.and_eq_true, decide_eq_true_eq, List.all_eq_true] at hn
  have e : topK.ky.t = List.replicate 18 122 := by rfl
  have h1 : cb c.k.ky.t topK.ky.t = -1 := by
    rw [e]
    refine cb_zs _ _ (fun b hb => ?_) (by omega)
    have h2 := hn.2 b hb
    unfold okC isL isD at h2
    simp only [Bool.or_eq_true, Bool.and_eq_true, decide_eq_true_eq, beq_iff_eq] at h2
    omega
  unfold kc
  rw [h1, th_of (by decide)]
  decide
theorem good_zero {c : Cx} (h : goodC c = true) : 0 ≤ kc c.k.ky zeroK.ky := by
  have hn := good_name h
  unfold nameB at hn
  simp only [Bool.and_eq_true, decide_eq_true_eq] at hn
  have h0 : 1 ≤ c.k.ky.t.length := hn.1.1.1
  have h1 : cb c.k.ky.t zeroK.ky.t = 1 := by
    have e : zeroK.ky.t = [] := by rfl
    rw [e]
    match hh : c.k.ky.t, h0 with
    | b :: r, _ => rfl
  unfold kc
  rw [h1, th_of (by decide)]
  decide
/-- A scan of all tells all. -/
theorem cut_all {l : List Cx} (h : Wrt l) {a b : Nat} (ha : CutAt l zeroK a) (hb : CutAt l topK b) : b - a = l.length := by
  have h1 : a = 0 := ha.one ⟨Nat.zero_le _, (fun j c hj => by omega), fun j c _ hc => good_zero (h.good c (List.mem_of_getElem? hc))⟩
  have h2 : b = l.length := hb.one ⟨Nat.le_refl _, (fun j c _ hc => good_top (h.good c (List.mem_of_getElem? hc))), fun j c hj hc => by have := (List.getElem?_eq_some_iff.1 hc).1; omega⟩
  omega
end Go.Proofs.YtdookhmaiapclaaGreatDoor
namespace Go.Proofs.YtdookhmaiapclaaGreatDoor
open Go.RowKit

set_option maxRecDepth 100000 in
theorem refNew_bad (n b : Int) (h : n < 0 ∨ 100000 < n ∨ b < 1 ∨ 32 < b) (w : World) : Calls Tryz.prog 66 #[.int .i64 n, .int .i64 b] w fun e w' => e = .returned (.pointer none) ∧ w' = w := by
  go_enter Tryz.func66, Tryz.ntmps66
  go_wp2
  all_goals (go_ret; exact ⟨rfl, rfl⟩)
set_option maxRecDepth 100000 in
set_option maxHeartbeats 1000000 in
theorem refNew_num (n b p k q : Nat) (hn : n ≤ 100000) (hb1 : 1 ≤ b) (hb2 : b ≤ 32) (hm : wrap64 ((n : Int) * (b : Int)) = (p : Int)) (hp : p ≤ 3200000) (hk : k = kOf b) (hq : q = max ((p + 7) / 8) 1) (w w1 : World)
    (M : (Instr.makeSlice 29 (.int .i64 (q : Int)) (.int .i64 (q : Int))).run Tryz.prog w = .ok (.slice (some ⟨w.heap.size, 0, none⟩) q q) w1) :
    Calls Tryz.prog 66 #[.int .i64 (n : Int), .int .i64 (b : Int)] w fun e w' => e = .returned (.pointer (some ⟨w1.heap.size, 0, none⟩)) ∧ w' = w1.alloc (.cells #[.int .i64 (k : Int), .slice (some ⟨w.heap.size, 0, none⟩) q q] 113) := by
  unfold kOf at hk
  have M1 : (p + 7) / 8 < 1 → (Instr.makeSlice 29 (.int .i64 1) (.int .i64 1)).run Tryz.prog w = .ok (.slice (some ⟨w.heap.size, 0, none⟩) q q) w1 := fun h => by
    rw [← M, show (q : Int) = 1 by omega]
  have M2 : 1 ≤ (p + 7) / 8 → (Instr.makeSlice 29 (.int .i64 (((p : Int) + 7) / 8)) (.int .i64 (((p : Int) + 7) / 8))).run Tryz.prog w = .ok (.slice (some ⟨w.heap.size, 0, none⟩) q q) w1 := fun h => by
    rw [← M, show (q : Int) = ((p : Int) + 7) / 8 by omega]
  clear M
  go_enter Tryz.func66, Tryz.ntmps66
  go_wp2
  all_goals (first | rw [M1 (by omega)] | rw [M2 (by omega)])
  all_goals go_wp2
  all_goals go_ret
  all_goals (refine ⟨rfl, ?_⟩)
  all_goals (first | rw [show (k : Int) = 1 by omega] | rw [show (k : Int) = 16 by omega] | rw [show (k : Int) = (b : Int) * 7 / 10 by omega])
  all_goals rw [← hq]
theorem refNew_any (n b : Nat) (hn : n ≤ 100000) (hb1 : 1 ≤ b) (hb2 : b ≤ 32) (w : World) : Calls Tryz.prog 66 #[.int .i64 (n : Int), .int .i64 (b : Int)] w fun e w' => ∃ m : FM, e = .returned m.v ∧ RAt w' m (kOf b) (List.replicate (nOf n b) 0) ∧ w.heap.size ≤ m.d ∧ w.heap.size ≤ m.g ∧ w.grownBy w' none := by
  have hp : n * b ≤ 3200000 := Nat.le_trans (Nat.mul_le_mul hn hb2) (by decide)
  have hq1 : nOf n b ≤ 400000 := by unfold nOf; omega
  have hq0 : 1 ≤ nOf n b := by unfold nOf; omega
  have hk : 1 ≤ kOf b ∧ kOf b ≤ 16 := by unfold kOf; omega
  obtain ⟨w1, M, hb, hg⟩ := make_row (nOf n b) (by omega) w
  refine (refNew_num n b (n * b) (kOf b) (nOf n b) hn hb1 hb2 ?_ hp rfl rfl w w1 M).mono ?_
  · rw [← Int.natCast_mul]
    unfold wrap64
    omega
  · rintro e w' ⟨rfl, rfl⟩
    have hlt := hb.lt
    refine ⟨⟨w1.heap.size, w.heap.size, nOf n b, []⟩, rfl, ⟨?_, ?_, ?_, by rw [List.length_replicate]; exact hq0, by rw [List.length_replicate]; exact hq1, hk.1, hk.2⟩, hg.size, Nat.le_refl _, ?_⟩
    · rw [List.length_replicate]
      exact Blk.new w1 _ _
    · rw [List.append_nil]
      exact hb.alloc _
    · show w1.heap.size ≠ w.heap.size
      omega
    · exact ⟨hg.os, hg.tape, hg.output, Nat.le_trans hg.size (by simp), fun i hi hne => (Below.heap_alloc _ _ _ (Nat.lt_of_lt_of_le hi hg.size)).trans (hg.block i hi hne)⟩
set_option maxRecDepth 100000 in
set_option maxHeartbeats 1000000 in
theorem fRefAdd_any {w : World} {m : FM} {k : Nat} {l : List UInt8} (h : RAt w m k l) (ao : Option Addr) (b : List UInt8) (cap : Nat) (hb : b.length ≤ 140737488354000) (hs : Sees w ao b) :
    Calls Tryz.prog 67 #[m.v, .slice ao b.length cap] w fun e w' => e = .returned (.tuple #[]) ∧ RAt w' m k (addK l (sumB b 0#64) k) ∧ w.grownBy w' (some m.g) := by
  have P := refPlaces_any h ao b cap hb hs
  have hlen := h.len
  have hk1 := h.k1
  have hk2 := h.k2
  have hgl := h.bits.lt
  generalize sumB b 0#64 = hh at *
  go_enter Tryz.func67, Tryz.ntmps67
  go_wp2_with fail
  refine P.mono ?_
  rintro e w1 ⟨v, rfl, ho, hB⟩
  obtain ⟨g, cp, rfl, hg, hgl1, hcells⟩ := owns_ints ho (by omega)
  have h1 := h.below hB (Nat.le_refl _)
  have HC := show Hid (∀ (i z : Nat), (plcs hh l.length k)[i]? = some z → w1.cell? ⟨g, i, none⟩ = some (.int .i64 (z : Int))) from hcells
  clear P ho hcells
  go_wp2_with fail
  go_loopw [10] (fun s10 wr => ∃ i : Nat, i ≤ k ∧ s10 = .int .i64 (i : Int) ∧ RAt wr m k (addK l hh i) ∧ w1.grownBy wr (some m.g)) (fun s10 _ => k - (intOf s10).toNat)
  case atStart => exact ⟨0, Nat.zero_le _, rfl, h1, ⟨rfl, rfl, rfl, Nat.le_refl _, fun _ _ _ => rfl⟩⟩
  case round =>
    obtain ⟨i, hi, rfl, hF, hgr⟩ := hrel
    rcases Nat.lt_or_ge i k with hlt | hge
    · have hci : wr.cell? ⟨g, i, none⟩ = some (.int .i64 (plc hh l.length i : Int)) := (World.cell?_of_block (a := ⟨g, i, none⟩) (hgr.block g hgl1 (fun e => by have := Option.some.inj e; omega))).trans (HC.out i _ (plcs_at hh l.length k i hlt))
      have hpl := plc_lt hh l.length i h.pos
      have hadd := add_step l hh i
      generalize plc hh l.length i = p at *
      have hl2 : (addK l hh i).length = l.length := addK_length _ _ _
      generalize addK l hh i = l2 at *
      have c1 := hF.c1
      rw [hl2] at c1
      have Hd8 : Hid (p / 8 < l2.length) := by show _ < _; omega
      have hp3 : p ≤ 3200000 := by omega
      have O := or_word (l2.getD (p / 8) 0) p
      have hst : setP l2 p = l2.set (p / 8) (orP (l2.getD (p / 8) 0) p) := rfl
      have cb := hF.byte Hd8.out
      have fr := hF.bits.frozen (p / 8)
      have hq8 : (p : Int) / 8 = ((p / 8 : Nat) : Int) := by omega
      have hwq : Hid (IntKind.i64.wrap ((p / 8 : Nat) : Int) = ((p / 8 : Nat) : Int)) := by show _ = _; rw [IntKind.wrap_i64]; omega
      have hwr : Hid ((p : Int).tmod 8 = ((p % 8 : Nat) : Int)) := tmod_nat p 8
      have hur : Hid (IntKind.u64.wrap ((p % 8 : Nat) : Int) = ((p % 8 : Nat) : Int)) := by show _ = _; rw [IntKind.wrap_u64]; omega
      have IX : Hid (∀ w, (Instr.indexAt 29 (.slice (some ⟨m.g, 0, none⟩) l.length m.cap) (.int .i64 ((p / 8 : Nat) : Int))).run Tryz.prog w = .ok (.pointer (some ⟨m.g, p / 8, none⟩)) w) := fun w => index_byte _ _ _ _ (by omega) w
      have SH : Hid (∀ w, (binOp .shl 5 (.int .u8 1) (.int .u64 ((p % 8 : Nat) : Int))).run Tryz.prog w = .ok (.int .u8 ((2 ^ (p % 8) : Nat) : Int)) w) := fun w => run_shl _ _ (Nat.mod_lt _ (by decide)) w
      generalize p / 8 = q at *
      generalize l2.getD q 0 = x at *
      generalize ((2 ^ (p % 8) : Nat) : Int) = y at *
      generalize p % 8 = r at *
      go_upto_region 3 with fail
      refine wp_region_lit ?_
      iterate 6 (refine wpList_plain rfl fun K hK => ?_; go_simp; refine hK _ _ ?_; clear hK K)
      rw [hwq.out]
      refine wpList_ix rfl rfl rfl rfl (IX.out _) ?_
      iterate 3 (refine wpList_plain rfl fun K hK => ?_; go_simp; refine hK _ _ ?_; clear hK K)
      rw [hwr.out]
      refine wpList_plain rfl fun K hK => ?_
      go_simp
      refine hK _ _ ?_
      clear hK K
      rw [hur.out]
      refine wpList_bin rfl rfl (.inr rfl) rfl rfl (SH.out _) ?_
      refine wpList_plain rfl fun K hK => ?_
      go_simp
      refine hK _ _ ?_
      clear hK K
      refine wpList_ix rfl rfl rfl rfl (IX.out _) ?_
      go_wp2_with fail
      have hg' := grownBy_setCell (i := q) (v := .int .u8 ((orP x p).toNat : Int)) hgr
      refine ⟨⟨i + 1, by omega, by simp, ?_, hg'⟩, by simp only [intOf]; omega⟩
      rw [← hadd, hst]
      exact hF.set Hd8.out _
    · obtain rfl : i = k := by omega
      go_wp2_with fail
      go_end0
      exact ⟨rfl, hF, below_grown hB hgr⟩
end Go.Proofs.YtdookhmaiapclaaGreatDoor
namespace Go.Proofs.YtdookhmaiapclaaGreatDoor
open Go.RowKit

theorem awr_text {wa w1 : World} {v : Value} {l : List UInt8} (h : Aw wa w1 v l) (s : ByteArray) (hs : s.size ≤ 2000000) (hn : l.length ≤ 100000000) :
    Calls Tryz.prog 65 #[v, .string s] w1 fun e w2 => ∃ v2, e = .returned v2 ∧ Aw wa w2 v2 (l ++ encT (nb s)) :=
  (refText_any wa.heap.size v l.length l s w1 h.own hs hn h.bel.size).mono fun _ _ ⟨v2, h1, h2, h3⟩ =>
    ⟨v2, h1, by rw [List.length_append]; exact h2, h.bel.trans (h3.below h.bel.size fun g hg => (h.own.lt g hg).1)⟩
theorem aw_nil (w : World) : Aw w w (.slice none 0 0) [] := ⟨World.ownsRow_nil w _ _ _, Below.refl _ _⟩
theorem Aw.drew {wa w1 : World} {v : Value} {l : List UInt8} (h : Aw wa w1 v l) : Aw wa w1.drew v l := ⟨h.own, h.bel.drew⟩

set_option maxRecDepth 100000 in
set_option maxHeartbeats 2000000 in
theorem refBytes_big (k : Kb) (w : World) (hk : k.Big) :
    Calls Tryz.prog 30 #[k.v] w fun e w' => ∃ v, e = .returned v ∧ Aw w w' v (encK k.ky) := by
  obtain ⟨t, p, r, c⟩ := k
  obtain ⟨ht, hp, hc, hr⟩ := hk
  simp only at ht hp hc hr
  have lt := encT_le t ht
  have lp := encT_le p hp
  have HK : Hid (encK (Kb.ky ⟨t, p, r, c⟩) = [] ++ encT (nb t) ++ encT (nb p) ++ encR r ++ encT (nb c)) := by
    show encT (nb t) ++ (encT (nb p) ++ (encR r ++ encT (nb c))) = _
    simp [List.append_assoc]
  obtain ⟨i0, hi, hz0, hz1, hz2⟩ := info_parts info8K
  obtain ⟨wa, hwa⟩ : ∃ wa, wa = w.alloc (.cells #[.string t, .string p, .int .i64 r, .string c] 24) := ⟨_, rfl⟩
  have hB : Hid (Below w.heap.size w wa) := by show Below _ _ _; rw [hwa]; exact (Below.refl _ _).alloc (Nat.le_refl _) _
  have hS : Hid (∀ (w5 : World) (v5 : Value) (l : List UInt8), Aw wa w5 v5 l → Aw w w5 v5 l) := fun _ _ _ h => h.start hB.out
  clear hB
  have hg : wa.heap[w.heap.size]? = some (.cells #[.string t, .string p, .int .i64 r, .string c] 24) := by rw [hwa]; exact heap_alloc_new w _
  have a0 : wa.cell? ⟨w.heap.size, 0, none⟩ = some (.string t) := by simp [World.cell?, hg]
  have a1 : wa.cell? ⟨w.heap.size, 1, none⟩ = some (.string p) := by simp [World.cell?, hg]
  have a2 : wa.cell? ⟨w.heap.size, 2, none⟩ = some (.int .i64 r) := by simp [World.cell?, hg]
  have a3 : wa.cell? ⟨w.heap.size, 3, none⟩ = some (.string c) := by simp [World.cell?, hg]
  have T1 : Hid (Calls Tryz.prog 65 #[.slice none 0 0, .string t] wa.drew fun e w2 => ∃ v2, e = .returned v2 ∧ Aw wa w2 v2 ([] ++ encT (nb t))) := awr_text (aw_nil wa).drew t ht (by simp)
  have HC1 : Hid (∀ (w1 : World) (v : Value) (l : List UInt8), Aw wa w1 v l → w1.cell? ⟨w.heap.size, 1, none⟩ = some (.string p)) := fun _ _ _ h => h.cell a1
  have HC2 : Hid (∀ (w1 : World) (v : Value) (l : List UInt8), Aw wa w1 v l → w1.cell? ⟨w.heap.size, 2, none⟩ = some (.int .i64 r)) := fun _ _ _ h => h.cell a2
  have HC3 : Hid (∀ (w1 : World) (v : Value) (l : List UInt8), Aw wa w1 v l → w1.cell? ⟨w.heap.size, 3, none⟩ = some (.string c)) := fun _ _ _ h => h.cell a3
  have T2 : Hid (∀ (w1 : World) (v1 : Value), Aw wa w1 v1 ([] ++ encT (nb t)) → Calls Tryz.prog 65 #[v1, .string p] w1 fun e w2 => ∃ v2, e = .returned v2 ∧ Aw wa w2 v2 ([] ++ encT (nb t) ++ encT (nb p))) := fun w1 v1 h => awr_text h p hp (by simp only [List.nil_append]; omega)
  obtain ⟨u, hu⟩ : ∃ u, u = (r + 9223372036854775808).toNat := ⟨_, rfl⟩
  have hX := row_bits r hr
  rw [← hu] at hX
  have HR : Hid (encR r = be 8 u) := by show encR r = be 8 u; rw [hu]; rfl
  have hub : u < 18446744073709551616 := by unfold InI at hr; omega
  clear hg hu a2 a3
  simp only [Kb.v]
  go_enter Tryz.func30, Tryz.ntmps30
  go_wp2_with fail
  rw [← hwa]
  clear hwa
  go_cut [3] from 6 to 11 (fun s3 wx => Aw wa wx s3 ([] ++ encT (nb t) ++ encT (nb p)))
  case first =>
    go_region_law (first
      | (go_simp; go_at_call_of 65 (Value.slice none 0 0); refine T1.out.mono ?_; rintro e u1 ⟨v1, rfl, A1⟩; have z1 := HC1.out _ _ _ A1)
      | (go_simp; go_at_call 65; have A1' := A1; refine (T2.out _ _ A1').mono ?_; rintro e u2 ⟨v2, rfl, A2⟩))
    all_goals
      go_wp2_with fail
      go_meet
      case rel => exact A2
  case rest =>
    have A2 := hcut
    have z2 := HC2.out _ _ _ A2
    clear hcut a0 a1 T1 T2 HC1
    have HA2 : Hid (Aw wa wc _ ([] ++ encT (nb t) ++ encT (nb p))) := A2
    obtain ⟨pre, hpre⟩ : ∃ pre, pre = [] ++ encT (nb t) ++ encT (nb p) := ⟨_, rfl⟩
    rw [← hpre] at HA2 HK
    have hpl : pre.length ≤ 9000000 := by rw [hpre]; simp only [List.nil_append, List.length_append]; omega
    clear A2 hpre lt lp
    go_wp2_with fail
    go_loopw [3, 5] (fun s3 s5 wr => ∃ k j : Nat, k + j = 8 ∧ s5 = .int .i64 ((j : Int) - 1) ∧ Aw wa wr s3 (pre ++ (encR r).take k)) (fun _ s5 _ => (intOf s5 + 1).toNat)
    case atStart => exact ⟨0, 8, rfl, rfl, by simpa using HA2.out⟩
    case round =>
      obtain ⟨k, j, hkj, rfl, hA⟩ := hrel
      have hlr : (encR r).length = 8 := be_length _ _
      have hl2 : (pre ++ (encR r).take k).length ≤ 9000100 := by rw [List.length_append, List.length_take]; omega
      have HA : Hid (Aw wa wr _ (pre ++ (encR r).take k)) := hA
      clear hA hlr
      by_cases hj : j = 0
      · subst hj
        obtain rfl : k = 8 := by omega
        have z3 := HC3.out _ _ _ HA.out
        have e : (encR r).take 8 = encR r := List.take_of_length_le (by rw [HR.out, be_length]; exact Nat.le_refl _)
        rw [e] at HA hl2
        have T4 : Hid (Calls Tryz.prog 65 #[_, .string c] wr fun e w2 => ∃ v2, e = .returned v2 ∧ Aw wa w2 v2 (pre ++ encR r ++ encT (nb c))) := awr_text HA.out c hc (by omega)
        clear e HA2
        go_wp2_with fail
        refine T4.out.mono ?_
        rintro y w5 ⟨v5, rfl, A5⟩
        go_wp2_with fail
        go_ret
        exact ⟨v5, rfl, by rw [HK.out]; exact hS.out _ _ _ A5⟩
      · obtain ⟨m, rfl⟩ : ∃ m, j = m + 1 := ⟨j - 1, by omega⟩
        have hm7 : m ≤ 7 := by omega
        have hmi : (m : Int) ≤ 7 := by omega
        have hcast : (((m + 1 : Nat) : Int) - 1) = (m : Int) := by omega
        rw [hcast]
        obtain ⟨b, hbb⟩ : ∃ b : UInt8, b = UInt8.ofNat (u / 256 ^ m % 256) := ⟨_, rfl⟩
        have Hnew : Hid ((encR r).take (k + 1) = (encR r).take k ++ [b]) := by
          show _ = _
          have e7 : 8 - 1 - k = m := by omega
          rw [HR.out, be_succ u 8 k (by omega), hbb, e7]
        have Hsrc : Hid (∀ wz : World, Src Tryz.prog 1 29 (.slice (some ⟨wz.heap.size, 0, none⟩) 1 1) 1 (B8 [b]) (wz.alloc (.cells #[.int .u8 ((u : Int) / 2 ^ (8 * m) % 256)] 5))) := fun wz => src_oneK wz _ b (by
          rw [hbb, UInt8.toNat_ofNat_of_lt' (Nat.mod_lt _ (by decide)), Int.natCast_emod, Int.natCast_ediv]
          have : (256 : Nat) ^ m = 2 ^ (8 * m) := by rw [show (256 : Nat) = 2 ^ 8 from rfl, ← Nat.pow_mul]
          rw [this]; simp)
        have HKJ : Hid (k + 1 + m = 8) := by show k + 1 + m = 8; omega
        clear hbb hcast hkj HA2
        go_wp2_with (at_builtin; go_must (refine wpList_append_grew _ rfl _ _ 29 29 rfl wa.heap.size 5 i0 (.int .u8 0) 1 1 Tryz.underlying29 hi hz0 hz1 hz2 rfl _ _ _ rfl (HA.out.own.alloc _) _ 1 (B8 [b]) rfl (Hsrc.out _) (by unfold maxLen; omega) (by omega) (by rw [World.size_alloc]; have := HA.out.bel.size; omega) ?_; intro v9 w9 ho9 hg9))
        go_roundw
        case rel =>
          refine ⟨k + 1, m, HKJ.out, by go_num, ?_⟩
          have hv9 := fun g hg => (HA.out.own.lt g hg).1
          refine ⟨?_, HA.out.bel.trans (hg9.alloc.below HA.out.bel.size hv9)⟩
          have el : (pre ++ (encR r).take (k + 1)).length = (pre ++ (encR r).take k).length + 1 := by rw [Hnew.out, ← List.append_assoc, List.length_append]; rfl
          rw [el, Hnew.out, ← List.append_assoc, B8_append _ [b]]
          exact ho9
        case measure => simp only [intOf]; omega
theorem refBytes_any (k : Kb) (w : World) (hk : k.Ok) :
    Calls Tryz.prog 30 #[k.v] w fun e w' => ∃ v, e = .returned v ∧ Aw w w' v (encK k.ky) := refBytes_big k w hk.big
end Go.Proofs.YtdookhmaiapclaaGreatDoor
namespace Go.Proofs.YtdookhmaiapclaaGreatDoor
open Go.RowKit

set_option maxRecDepth 100000 in
set_option maxHeartbeats 1000000 in
theorem rfilter_any (ao : Option Addr) (l : List Cx) (cap : Nat) (w : World) (hs : XSees w ao l) (hl : l.length ≤ 20000) (hok : ∀ c ∈ l, c.k.Ok) :
    Calls Tryz.prog 32 #[.slice ao l.length cap] w fun e w' => ∃ m : FM, e = .returned m.v ∧ RAt w' m 7 (filB l.length l) ∧ w.heap.size ≤ m.d ∧ w.heap.size ≤ m.g ∧ Below w.heap.size w w' := by
  have hlz : (l.length : Int) ≤ 20000 := by omega
  have Hok : Hid (∀ c ∈ l, c.k.Ok) := hok
  have N : Hid (Calls Tryz.prog 66 #[.int .i64 (l.length : Int), .int .i64 10] w fun e w' => ∃ m : FM, e = .returned m.v ∧ RAt w' m 7 (List.replicate (nOf l.length 10) 0) ∧ w.heap.size ≤ m.d ∧ w.heap.size ≤ m.g ∧ w.grownBy w' none) := refNew_any l.length 10 (by omega) (by decide) (by decide) w
  clear hok
  go_enter Tryz.func32, Tryz.ntmps32
  go_wp2_with fail
  refine N.out.mono ?_
  rintro e w1 ⟨m, rfl, hF, hd, hg, hgr⟩
  have hb1 : Below w.heap.size w w1 := (Below.refl _ _).grown hgr (Nat.le_refl _) (fun k hk => by cases hk)
  have HF : Hid (RAt w1 m 7 (filB l.length (l.take 0))) := hF
  clear hF N
  go_wp2_with fail
  go_loopw [11] (fun s wr => ∃ i : Nat, i ≤ l.length ∧ s = .int .i64 i ∧ RAt wr m 7 (filB l.length (l.take i)) ∧ Below w.heap.size w wr) (fun s _ => l.length - (intOf s).toNat)
  case atStart => exact ⟨0, by omega, rfl, HF.out, hb1⟩
  case round =>
    obtain ⟨i, hi, rfl, hF, hbr⟩ := hrel
    rcases Nat.lt_or_ge i l.length with hlt | hge
    · have hc : l[i]? = some l[i] := List.getElem?_eq_getElem hlt
      have hko := Hok.out _ (List.getElem_mem hlt)
      have Hst : Hid (filB l.length (l.take (i + 1)) = addK (filB l.length (l.take i)) (sumB (encK l[i].k.ky) 0#64) 7) := filB_step hc
      obtain ⟨b, off, rfl, x1⟩ := (hs.below hbr (Nat.le_refl _)) i _ hc
      obtain ⟨wa, hwa⟩ : ∃ wa, wa = wr.alloc (.cells l[i].a 59) := ⟨_, rfl⟩
      have hba : Below wr.heap.size wr wa := by rw [hwa]; exact (Below.refl _ _).alloc (Nat.le_refl _) _
      have T : TenX wa wr.heap.size 0 l[i] := by rw [hwa]; exact TenX.new wr _ _
      have K : Hid (Calls Tryz.prog 30 #[l[i].k.v] wa fun e w' => ∃ v, e = .returned v ∧ Aw wa w' v (encK l[i].k.ky)) := refBytes_any _ wa hko
      have HF2 : Hid (∀ u, Below wa.heap.size wa u → RAt u m 7 (filB l.length (l.take i))) := fun u hu => (hF.below hba (Nat.le_refl _)).below hu (Nat.le_refl _)
      have hltz : (i : Int) < (l.length : Int) := by omega
      have hkl : (encK l[i].k.ky).length ≤ 20000000 := by
        have h1 := encT_le l[i].k.t (Nat.le_trans hko.t (by decide))
        have h2 := encT_le l[i].k.p (Nat.le_trans hko.p (by decide))
        have h3 := encT_le l[i].k.c (Nat.le_trans hko.c (by decide))
        have h4 : (encR l[i].k.r).length = 8 := be_length _ _
        unfold encK Kb.ky
        simp only [List.length_append]
        omega
      generalize l[i] = c at *
      clear hc hko
      generalize encK c.k.ky = bs at *
      obtain ⟨⟨ct, cp, cr, cc⟩, ⟨cti, cd, cl, ck, cn, cstr⟩⟩ := c
      obtain ⟨k0, k1, k2, k3, k4, k5, k6, k7, k8, k9⟩ := x1
      obtain ⟨t0, t1, t2, t3, -, -, -, -, -, -⟩ := T
      simp only [Cx.a, Kb.v, Nat.zero_add] at k0 k1 k2 k3 k4 k5 k6 k7 k8 k9 t0 t1 t2 t3 K hwa
      go_wp2_with fail
      rw [← hwa]
      clear hwa
      go_wp2_with fail
      refine K.out.mono ?_
      rintro e w2 ⟨v2, rfl, hA⟩
      obtain ⟨ao2, cap2, rfl, hs2, -, -⟩ := owns_sees hA.own
      have hc2 : bs.length ≤ cap2 := by
        rcases hA.own.2 with ⟨h1, h2⟩ | ⟨g, cap', cur, h, _, _, hn, _⟩
        · omega
        · cases h; exact hn
      have A : Hid (Calls Tryz.prog 67 #[m.v, .slice ao2 bs.length cap2] w2 fun e w' => e = .returned (.tuple #[]) ∧ RAt w' m 7 (addK (filB l.length (l.take i)) (sumB bs 0#64) 7) ∧ w2.grownBy w' (some m.g)) := fRefAdd_any (HF2.out _ hA.bel) ao2 bs cap2 (by omega) hs2
      have hb2 : Below w.heap.size w w2 := (hbr.trans (hba.mono hbr.size)).trans (hA.bel.mono (Nat.le_trans hbr.size hba.size))
      clear hA hs2 K t0 t1 t2 t3 k0 k1 k2 k3 k4 k5 k6 k7 k8 k9 hba HF2 hF hs
      go_wp2_with fail
      refine A.out.mono ?_
      rintro e w3 ⟨rfl, hF3, hg3⟩
      go_wp2_with fail
      go_roundw
      case rel => exact ⟨i + 1, by omega, by simp, by rw [Hst.out]; exact hF3, hb2.grown hg3 hb2.size (fun k hk => by cases hk; exact hg)⟩
      case measure => simp [intOf]; omega
    · obtain rfl : i = l.length := by omega
      rw [List.take_length] at hF
      go_wp2_with fail
      go_ret
      exact ⟨m, rfl, hF, hd, hg, hbr⟩
end Go.Proofs.YtdookhmaiapclaaGreatDoor
namespace Go.Proofs.YtdookhmaiapclaaGreatDoor
open Go.RowKit

set_option maxRecDepth 100000 in
set_option maxHeartbeats 800000 in
theorem refPutText_any (ao : Option Addr) (l : List UInt8) (cap : Nat) (s : ByteArray) (w : World) (hs : Sees w ao l) (hnone : ao = none → l.length = 0) (hl : l.length + s.size ≤ 140737488353000) :
    Calls Tryz.prog 29 #[.slice ao l.length cap, .string s] w fun e w' => ∃ v', e = .returned v' ∧ w'.ownsRow w.heap.size 5 1 v' (l.length + (txtL s.data.toList).length) (B8 (l ++ txtL s.data.toList)) ∧ Below w.heap.size w w' := by
  obtain ⟨i0, hi, hz0, hz1, hz2⟩ := info_parts info8
  have hnl := numL_length s.size
  have hsz : s.data.toList.length = s.size := by simp
  have Hp : Hid _ := refPut_any ao l cap s.size w hs hnone (by omega) (by omega)
  clear hs hnone
  go_enter Tryz.func29, Tryz.ntmps29
  go_wp2_with fail
  refine Calls.mono (Hid.out Hp) ?_
  rintro e w1 ⟨v1, rfl, ho1, hb1⟩
  go_wp2_with (at_builtin; go_must (refine wpList_append_grew _ rfl _ _ 29 9 rfl w.heap.size 5 i0 (.int .u8 0) 1 1 Tryz.underlying29 hi hz0 hz1 hz2 rfl _ _ _ rfl ho1 _ s.size (B8 s.data.toList) rfl (Src.ofString _ Tryz.underlying9 s) (by unfold maxLen; omega) (by omega) hb1.size ?_; intro v' w' ho' hg'))
  go_ret
  refine ⟨v', rfl, ?_, hb1.trans (hg'.below hb1.size (fun k hk => (ho1.lt k hk).1))⟩
  unfold txtL
  rw [hsz, List.length_append, hsz, ← List.append_assoc, B8_append _ s.data.toList, ← Nat.add_assoc]
  exact ho'

set_option maxRecDepth 100000 in
set_option maxHeartbeats 800000 in
theorem refGetText_any (ao : Option Addr) (l : List UInt8) (cap : Nat) (w : World) (hs : Sees w ao l) (hcap : l.length ≤ cap) (hl : l.length ≤ 140737488354000) :
    Calls Tryz.prog 146 #[.slice ao l.length cap] w fun e w' => e = .returned (.tuple #[.string ⟨(txtS l).toArray⟩, .int .i64 (txtK l)]) ∧ w' = w := by
  have Hg : Hid _ := refGet_any ao l cap w hs hl
  cases hg : getN 0 0 l with
  | none =>
    have h0 : textN l = none := by unfold textN; rw [hg]
    have h1 : txtS l = [] := by unfold txtS; rw [h0]
    have h2 : txtK l = 0 := by unfold txtK; rw [h0]
    have h3 : getV l = 0 := by unfold getV; rw [hg]
    have h4 : getK l = 0 := by unfold getK; rw [hg]
    rw [h1, h2]
    rw [h3, h4] at Hg
    clear h0 h1 h2 h3 h4 hg hs
    go_enter Tryz.func146, Tryz.ntmps146
    go_wp2_with fail
    refine Calls.mono (Hid.out Hg) ?_
    rintro e w' ⟨rfl, rfl⟩
    go_wp2_with fail
    go_ret2
    exact ⟨rfl, rfl⟩
  | some vr =>
    obtain ⟨v, r⟩ := vr
    have hb := get_bd hg
    have h3 : getV l = v := by unfold getV; rw [hg]
    have h4 : getK l = l.length - r.length := by unfold getK; rw [hg]
    have hr : l.drop (l.length - r.length) = r := getN_drop hg
    rw [h3, h4] at Hg
    have hvi : (v : Int) ≤ 18446744073709551615 := by omega
    obtain ⟨k, hk⟩ : ∃ k, l.length - r.length = k := ⟨_, rfl⟩
    have hkl : k + r.length = l.length := by omega
    rw [hk] at Hg hr
    have hk0 : ((k : Int) == 0) = false := by simp; omega
    by_cases hv : v ≤ r.length
    · have h0 : textN l = some (r.take v, r.drop v) := by unfold textN; rw [hg]; simp [hv]
      have h1 : txtS l = (l.drop k).take v := by unfold txtS; rw [h0, hr]
      have h2 : txtK l = k + v := by unfold txtK; rw [h0]; simp; omega
      rw [h1, h2]
      have hvk : k + v ≤ l.length := by omega
      clear h0 h1 h2 h3 h4 hg hb hr hk hv hkl
      by_cases hv0 : v = 0
      · subst hv0
        have hcv := conv_zero
        by_cases hcm : cap = k
        · subst hcm
          go_enter Tryz.func146, Tryz.ntmps146
          go_wp2_with fail
          refine Calls.mono (Hid.out Hg) ?_
          rintro e w' ⟨rfl, rfl⟩
          go_wp2_with fail
          go_ret2
          exact ⟨by simp, rfl⟩
        · go_enter Tryz.func146, Tryz.ntmps146
          go_wp2_with fail
          refine Calls.mono (Hid.out Hg) ?_
          rintro e w' ⟨rfl, rfl⟩
          go_wp2_with fail
          go_ret2
          exact ⟨by simp, rfl⟩
      · obtain ⟨b, off, rfl, hc⟩ := sees_at hs (n := k) (by omega)
        have hsl := sees_cut hs k v (by omega)
        have hcv := conv_sees hsl (fun h => by cases h) (cap - k)
        have hlen : ((l.drop k).take v).length = v := by simp; omega
        rw [hlen] at hcv
        have hcm : ¬ cap = k := by omega
        clear hsl hc hlen hs
        generalize (l.drop k).take v = t at *
        go_enter Tryz.func146, Tryz.ntmps146
        go_wp2_with fail
        refine Calls.mono (Hid.out Hg) ?_
        rintro e w' ⟨rfl, rfl⟩
        go_wp2_with fail
        go_ret2
        exact ⟨by simp, rfl⟩
    · have h0 : textN l = none := by unfold textN; rw [hg]; simp; omega
      have h1 : txtS l = [] := by unfold txtS; rw [h0]
      have h2 : txtK l = 0 := by unfold txtK; rw [h0]
      rw [h1, h2]
      have hvk : l.length < k + v := by omega
      have hkl' : k ≤ l.length := by omega
      clear h0 h1 h2 h3 h4 hg hb hr hk hv hkl hs
      go_enter Tryz.func146, Tryz.ntmps146
      go_wp2_with fail
      refine Calls.mono (Hid.out Hg) ?_
      rintro e w' ⟨rfl, rfl⟩
      go_wp2_with fail
      go_ret2
      exact ⟨rfl, rfl⟩
end Go.Proofs.YtdookhmaiapclaaGreatDoor
namespace Go.Proofs.YtdookhmaiapclaaGreatDoor
open Go.RowKit

theorem owns_mono' {w : World} {b b' : Nat} {e : TypeId} {size : Nat} {v : Value} {n : Nat} {xs : List Value} (h : w.ownsRow b e size v n xs) (hb : b' ≤ b) : w.ownsRow b' e size v n xs := by
  refine ⟨h.1, ?_⟩
  rcases h.2 with hn | ⟨g, cap, cur, rfl, hg, r⟩
  · exact .inl hn
  · exact .inr ⟨g, cap, cur, rfl, Nat.le_trans hb hg, r⟩
theorem owns_seesD {w : World} {base n : Nat} {l : List UInt8} {v : Value} (h : w.ownsRow base 5 1 v n (B8 l)) : ∃ ao cap, v = .slice ao l.length cap ∧ Sees w ao l ∧ (ao = none → l.length = 0) := by
  obtain ⟨ao, cap, rfl, h1, h2, h3⟩ := owns_sees h
  exact ⟨ao, cap, by rw [h2], h1, fun e => h2.trans (h3 e).1⟩

/-- What is written so far: a row of the call's own; some boxes beside it. -/
structure StC (w : World) (Bs : List (Nat × Array Value × TypeId)) (wx : World) (v : Value) (xs : List UInt8) : Prop where
  own : wx.ownsRow w.heap.size 5 1 v xs.length (B8 xs)
  below : Below w.heap.size w wx
  box : ∀ x ∈ Bs, Box wx x.1 x.2.1 x.2.2
  ne : ∀ x ∈ Bs, v.ownBlock ≠ some x.1
section
variable {w wx w' : World} {Bs : List (Nat × Array Value × TypeId)} {v v' : Value} {xs ys : List UInt8}
theorem StC.like (h : StC w Bs wx v xs) (h1 : wx.heap = w'.heap) (h2 : wx.os = w'.os) (h3 : wx.tape = w'.tape) (h4 : wx.output = w'.output) : StC w Bs w' v xs :=
  ⟨owns_heap h.own (fun k _ => by rw [h1]), ⟨h2.symm.trans h.below.os, h3.symm.trans h.below.tape, h4.symm.trans h.below.output, by rw [← h1]; exact h.below.size, by rw [← h1]; exact h.below.block⟩, fun x hx => (h.box x hx).carry (by rw [h1]), h.ne⟩
theorem StC.fresh (h : StC w Bs wx v xs) {n : Nat} (ho : w'.ownsRow wx.heap.size 5 1 v' n (B8 ys)) (hn : n = ys.length) (hb : Below wx.heap.size wx w') : StC w Bs w' v' ys := by
  subst hn
  have hs := h.below.size
  exact ⟨owns_mono' ho hs, h.below.trans (hb.mono hs), fun x hx => (h.box x hx).carry (hb.block x.1 (h.box x hx).lt), fun x hx e => by have h1 := (ho.lt _ e).1; have h2 := (h.box x hx).lt; omega⟩
theorem StC.grew (h : StC w Bs wx v xs) (ho : w'.ownsRow w.heap.size 5 1 v' ys.length (B8 ys)) (hg : Grew wx w' v v') : StC w Bs w' v' ys :=
  ⟨ho, h.below.trans (hg.below h.below.size (fun k hk => (h.own.lt k hk).1)), fun x hx => (h.box x hx).grew hg (h.ne x hx), fun x hx => hg.ne (h.ne x hx) (h.box x hx).lt⟩
theorem StC.more (h : StC w Bs wx v xs) (cs : Array Value) (t : TypeId) : StC w ((wx.heap.size, cs, t) :: Bs) (wx.alloc (.cells cs t)) v xs := by
  refine ⟨h.own.alloc _, h.below.alloc h.below.size _, fun x hx => ?_, fun x hx => ?_⟩
  · rcases List.mem_cons.1 hx with rfl | hx
    · exact Box.new _ _ _
    · exact (h.box x hx).alloc _
  · rcases List.mem_cons.1 hx with rfl | hx
    · exact owns_ne_new h.own
    · exact h.ne x hx
end
theorem StC.b1 {w wx : World} {Bs : List (Nat × Array Value × TypeId)} {k : Nat} {cs : Array Value} {t : TypeId} {v : Value} {xs : List UInt8} (h : StC w ((k, cs, t) :: Bs) wx v xs) : Box wx k cs t := h.box (k, cs, t) (.head _)
theorem StC.tail {w wx : World} {x : Nat × Array Value × TypeId} {Bs : List (Nat × Array Value × TypeId)} {v : Value} {xs : List UInt8} (h : StC w (x :: Bs) wx v xs) : StC w Bs wx v xs := ⟨h.own, h.below, fun y hy => h.box y (.tail _ hy), fun y hy => h.ne y (.tail _ hy)⟩
theorem StC.put {w wx w' : World} {Bs : List (Nat × Array Value × TypeId)} {v v' : Value} {xs : List UInt8} {x : UInt8} (h : StC w Bs wx v xs) (ho : w'.ownsRow w.heap.size 5 1 v' (xs.length + 1) (B8 (xs ++ [x]))) (hg : Grew wx w' v v') : StC w Bs w' v' (xs ++ [x]) := h.grew (by simpa using ho) hg
theorem refPutSt {w wx : World} {Bs : List (Nat × Array Value × TypeId)} {v : Value} {xs : List UInt8} (h : StC w Bs wx v xs) (u : Nat) (hu : u < 18446744073709551616) (hl : xs.length ≤ 140737488354000) :
    Calls Tryz.prog 31 #[v, .int .u64 u] wx fun e w' => ∃ v', e = .returned v' ∧ StC w Bs w' v' (xs ++ numL u) := by
  obtain ⟨ao, cap, rfl, hs, hn⟩ := owns_seesD h.own
  refine (refPut_any ao xs cap u wx hs hn hl hu).mono ?_
  rintro e w' ⟨v', rfl, ho, hb⟩
  exact ⟨v', rfl, h.fresh ho (by simp) hb⟩
theorem refPutTextSt {w wx : World} {Bs : List (Nat × Array Value × TypeId)} {v : Value} {xs : List UInt8} (h : StC w Bs wx v xs) (s : ByteArray) (hl : xs.length + s.size ≤ 140737488353000) :
    Calls Tryz.prog 29 #[v, .string s] wx fun e w' => ∃ v', e = .returned v' ∧ StC w Bs w' v' (xs ++ txtL (strL s)) := by
  obtain ⟨ao, cap, rfl, hs, hn⟩ := owns_seesD h.own
  refine (refPutText_any ao xs cap s wx hs hn hl).mono ?_
  rintro e w' ⟨v', rfl, ho, hb⟩
  exact ⟨v', rfl, h.fresh ho (by simp [strL]) hb⟩
theorem refZig_nat (n : Int) (w : World) (h : I64 n) : Calls Tryz.prog 63 #[.int .i64 n] w fun e w' => e = .returned (.int .u64 (zigN n : Int)) ∧ w' = w := by
  rw [← (zigN_eq h).1]
  exact refZig_any n w h.1 h.2

set_option maxRecDepth 100000 in
set_option maxHeartbeats 1600000 in
theorem refCells_any (ao : Option Addr) (l : List CellV) (cap : Nat) (w : World) (hs : CSees w ao l) (hok : ∀ c ∈ l, c.Ok) (hw : wtL l + 81 * l.length ≤ 140737488330000) :
    Calls Tryz.prog 27 #[.slice ao l.length cap] w fun e w' => ∃ v', e = .returned v' ∧ w'.ownsRow w.heap.size 5 1 v' (cellsL l).length (B8 (cellsL l)) ∧ Below w.heap.size w w' := by
  obtain ⟨i0, hi, hz0, hz1, hz2⟩ := info_parts info8
  have hnl := (numL_length l.length).2
  have h00 : StC w [] w (.slice none 0 0) [] := ⟨World.ownsRow_nil _ _ _ _, Below.refl _ _, (fun x hx => by cases hx), (fun x hx => by cases hx)⟩
  have Hc1 : Hid _ := refPutSt h00 l.length (by omega) (by simp)
  have hlz : (l.length : Int) ≤ 140737488330000 := by omega
  clear h00
  go_enter Tryz.func27, Tryz.ntmps27
  go_wp2_with fail
  refine Calls.mono (Hid.out Hc1) ?_
  rintro e w1 ⟨v1, rfl, h1⟩
  clear Hc1
  go_wp2_with fail
  go_loopw [3, 13] (fun s3 s13 wr => ∃ i : Nat, i ≤ l.length ∧ s13 = .int .i64 i ∧ StC w [] wr s3 (numL l.length ++ manyL (l.take i))) (fun _ s13 _ => l.length - (intOf s13).toNat)
  case atStart => exact ⟨0, by omega, rfl, by simpa [manyL] using h1⟩
  case round =>
    obtain ⟨i, hil, rfl, hst⟩ := hrel
    rcases Nat.lt_or_ge i l.length with hlt | hge
    · have hc : l[i]? = some l[i] := List.getElem?_eq_getElem hlt
      have hco := hok l[i] (List.getElem_mem hlt)
      have hml := manyL_le (l.take i)
      have hwt := wtL_step hc
      have hms := manyL_step hc
      rw [List.length_take, Nat.min_eq_left hil] at hml
      obtain ⟨b, off, rfl, hld⟩ := (hs.below hst.below (Nat.le_refl _)).ten hc
      generalize l[i] = c at *
      have Hms : Hid _ := hms
      have Hko : Hid c.key.Ok := hco.key
      have Hvo : Hid c.ver.Ok := hco.ver
      unfold wtC at hwt
      clear hms hc hs hok hco
      obtain ⟨⟨table, part, row, col⟩, ⟨time, dead, loc, kind, num, s⟩⟩ := c
      simp only at hwt
      obtain ⟨k0, k1, k2, k3, k4, k5, k6, k7, k8, k9⟩ := hld
      simp only at k0 k1 k2 k3 k4 k5 k6 k7 k8 k9
      have hx0 : (numL l.length ++ manyL (l.take i)).length ≤ wtL (l.take i) + 81 * i + 10 := by rw [List.length_append]; omega
      generalize hXS : numL l.length ++ manyL (l.take i) = xs at *
      have HXS : Hid _ := hXS
      have t1 := txtL_le table
      have t2 := txtL_le part
      have t3 := txtL_le col
      have t4 := txtL_le s
      have n1 := (numL_length (zigN row)).2
      have n2 := (numL_length (zigN time)).2
      have n3 := (numL_length (zigN loc)).2
      have n4 := (numL_length (kindN kind)).2
      have n5 := (numL_length (zigN num)).2
      have S1 : Hid (StC _ _ _ _ _) := hst.more #[.string table, .string part, .int .i64 row, .string col, .int .i64 time, .bool dead, .int .i64 loc, .int .i64 kind, .int .i64 num, .string s] 59
      clear hXS hst
      go_wp2_with fail
      clear k0 k1 k2 k3 k4 k5 k6 k7 k8 k9
      go_cut [3, 13] from 13 to 70 (fun s3 s13 wx => s13 = .int .i64 i ∧ StC w [(wr.heap.size, #[.string table, .string part, .int .i64 row, .string col, .int .i64 time, .bool dead, .int .i64 loc, .int .i64 kind, .int .i64 num, .string s], 59)] wx s3 (xs ++ txtL (strL table) ++ txtL (strL part)))
      case first =>
        go_region_with (first
          | (go_at_call 29; have S2' := S2; refine Calls.mono (refPutTextSt (by exact S2'.like rfl rfl rfl rfl) part (by rw [List.length_append]; omega)) ?_; rintro e w3 ⟨v3, rfl, S3⟩)
          | (go_at_call 29; refine Calls.mono (refPutTextSt (by exact S1.out.like rfl rfl rfl rfl) table (by omega)) ?_; rintro e w2 ⟨v2, rfl, S2⟩; have d1 := S2.b1.cell 1))
        all_goals
          go_wp2_with fail
          go_meet
          case rel => exact ⟨rfl, S3⟩
      case rest =>
        obtain ⟨rfl, S3⟩ := hcut
        have q2 := S3.b1.cell 2
        have q3 := S3.b1.cell 3
        go_upto_region 6 with fail
        go_cut [3, 13] from 13 to 70 (fun s3 s13 wx => s13 = .int .i64 i ∧ StC w [(wr.heap.size, #[.string table, .string part, .int .i64 row, .string col, .int .i64 time, .bool dead, .int .i64 loc, .int .i64 kind, .int .i64 num, .string s], 59)] wx s3 (xs ++ txtL (strL table) ++ txtL (strL part) ++ numL (zigN row) ++ txtL (strL col)))
        case first =>
          go_region_with (first
            | (go_at_call 63; go_must (refine Calls.mono (refZig_nat row _ Hko.out.row) ?_; rintro e w4' ⟨rfl, rfl⟩))
            | (go_at_call 29; go_must (refine Calls.mono (refPutTextSt (by exact S4.like rfl rfl rfl rfl) col (by simp only [List.length_append]; omega)) ?_; rintro e w5 ⟨v5, rfl, S5⟩))
            | (go_at_call 31; go_must (refine Calls.mono (refPutSt (by exact S3.like rfl rfl rfl rfl) (zigN row) (zigN_eq Hko.out.row).2 (by simp only [List.length_append]; omega)) ?_; rintro e w4 ⟨v4, rfl, S4⟩; have d3 := S4.b1.cell 3)))
          all_goals
            go_wp2_with fail
            go_meet
            case rel => exact ⟨rfl, S5⟩
        case rest =>
          obtain ⟨rfl, S5'⟩ := hcut
          obtain ⟨ys, HY, hyl, S5⟩ : ∃ ys, Hid (ys = xs ++ txtL (strL table) ++ txtL (strL part) ++ numL (zigN row) ++ txtL (strL col)) ∧ ys.length ≤ wtL (l.take i) + 81 * i + (table.size + part.size + col.size) + 50 ∧ StC w [(wr.heap.size, #[.string table, .string part, .int .i64 row, .string col, .int .i64 time, .bool dead, .int .i64 loc, .int .i64 kind, .int .i64 num, .string s], 59)] wc u3 ys := ⟨_, (show Hid (_ = _) from rfl), by simp only [List.length_append]; omega, S5'⟩
          clear S5' S3 S1 q2 q3 h1
          have q4 := S5.b1.cell 4
          have q5 := S5.b1.cell 5
          have q6 := S5.b1.cell 6
          have q7 := S5.b1.cell 7
          have q8 := S5.b1.cell 8
          have q9 := S5.b1.cell 9
          have S6 : Hid (StC _ _ _ _ _) := S5.tail.more #[.int .i64 time, .bool dead, .int .i64 loc, .int .i64 kind, .int .i64 num, .string s] 48
          clear S5
          go_wp2_with fail
          refine Calls.mono (refZig_nat time _ Hvo.out.time) ?_
          rintro e w6' ⟨rfl, rfl⟩
          go_wp2_with fail
          refine Calls.mono (refPutSt (by exact S6.out.like rfl rfl rfl rfl) (zigN time) (zigN_eq Hvo.out.time).2 (by omega)) ?_
          rintro e w7 ⟨v7, rfl, S7⟩
          have d1 := S7.b1.cell 1
          have d2 := S7.b1.cell 2
          have d3 := S7.b1.cell 3
          have d4 := S7.b1.cell 4
          have d5 := S7.b1.cell 5
          have ho7 := S7.own
          have hlt7 : wc.heap.size < w7.heap.size := S7.b1.lt
          have hb7 := S7.below.size
          have hl7 : (ys ++ numL (zigN time)).length ≤ wtL (l.take i) + 81 * i + (table.size + part.size + col.size) + 60 := by rw [List.length_append]; omega
          clear q4 q5 q6 q7 q8 q9 S6
          cases dead
          · go_wp2_with fail
            go_cut [3, 13] from 13 to 70 (fun s3 s13 wx => s13 = .int .i64 i ∧ StC w [(wc.heap.size, #[.int .i64 time, .bool false, .int .i64 loc, .int .i64 kind, .int .i64 num, .string s], 48)] wx s3 (ys ++ numL (zigN time) ++ [0] ++ numL (kindN kind)))
            case first =>
              go_region_law (first
                | (refine step_append_grew rfl (.tmp 52) (.tmp 53) 29 29 rfl w.heap.size 5 i0 (.int .u8 0) 1 1 Tryz.underlying29 hi hz0 hz1 hz2 rfl _ _ _ rfl (by exact ho7.alloc _) _ 1 (B8 [0]) rfl (src_head 0 (by simp [go_sem])) (by unfold maxLen; omega) (by omega) (by simp; omega) ?_; intro v8 w8 ho8 hg8; rw [← B8_append] at ho8; have S8 := S7.put ho8 (Grew.alloc (w := w7) (o := .cells #[.int .u8 0] 5) (hg8.like rfl rfl rfl rfl)); have e3 := S8.b1.cell 3)
                | (go_simp; go_at_call 31; rw [kind_wrap]; refine Calls.mono (refPutSt (by exact S8.like rfl rfl rfl rfl) (kindN kind) (kindN_lt _) (by rw [List.length_append]; simp; omega)) ?_; rintro e w9 ⟨v9, rfl, S9⟩))
              all_goals
                clear ho8 hg8
                go_wp2_with fail
                go_meet
                case rel => exact ⟨rfl, S9⟩
            case rest =>
              obtain ⟨rfl, S9⟩ := hcut
              clear d1 d2 d3 d4 d5 ho7 S7
              have e4 := S9.b1.cell 4
              have e5 := S9.b1.cell 5
              go_wp2_with fail
              go_region_with (first
                | (go_at_call 63; go_must (refine Calls.mono (refZig_nat num _ Hvo.out.val.num) ?_; rintro e w4' ⟨rfl, rfl⟩))
                | (go_at_call 29; go_must (refine Calls.mono (refPutTextSt (by exact S4.like rfl rfl rfl rfl) s (by simp only [List.length_append, List.length_cons, List.length_nil]; omega)) ?_; rintro e w5 ⟨v5, rfl, S10⟩))
                | (go_at_call 31; go_must (refine Calls.mono (refPutSt (by exact S9.like rfl rfl rfl rfl) (zigN num) (zigN_eq Hvo.out.val.num).2 (by simp only [List.length_append, List.length_cons, List.length_nil]; omega)) ?_; rintro e w4 ⟨v4, rfl, S4⟩; have f5 := S4.b1.cell 5)))
              all_goals
                clear e4 e5
                go_wp2
                go_roundw
                case rel =>
                  refine ⟨i + 1, by omega, by go_num, ?_⟩
                  rw [Hms.out]
                  rw [HY.out, ← HXS.out] at S10
                  simpa [cellL, keyL, verL, valL, List.append_assoc] using S10.tail
                case measure => simp [intOf]; omega
          · go_wp2_with fail
            go_region_law (first
              | (refine step_append_grew rfl (.tmp 45) (.tmp 46) 29 29 rfl w.heap.size 5 i0 (.int .u8 0) 1 1 Tryz.underlying29 hi hz0 hz1 hz2 rfl _ _ _ rfl (by exact ho7.alloc _) _ 1 (B8 [1]) rfl (src_head 1 (by simp [go_sem])) (by unfold maxLen; omega) (by omega) (by simp; omega) ?_; intro v8 w8 ho8 hg8; rw [← B8_append] at ho8; have S8 := S7.put ho8 (Grew.alloc (w := w7) (o := .cells #[.int .u8 1] 5) (hg8.like rfl rfl rfl rfl)); have e2 := S8.b1.cell 2)
              | (go_simp; go_at_call 63; refine Calls.mono (refZig_nat loc _ Hvo.out.loc) ?_; rintro e w8' ⟨rfl, rfl⟩)
              | (go_simp; go_at_call 31; refine Calls.mono (refPutSt (by exact S8.like rfl rfl rfl rfl) (zigN loc) (zigN_eq Hvo.out.loc).2 (by rw [List.length_append]; simp; omega)) ?_; rintro e w9 ⟨v9, rfl, S9⟩))
            all_goals
              clear ho8 hg8
              go_wp2
              go_roundw
              case rel =>
                refine ⟨i + 1, by omega, by go_num, ?_⟩
                rw [Hms.out]
                rw [HY.out, ← HXS.out] at S9
                simpa [cellL, keyL, verL, valL, List.append_assoc] using S9.tail
              case measure => simp [intOf]; omega
    · obtain rfl : i = l.length := by omega
      rw [List.take_length] at hst
      clear hs hge hil hok
      go_wp2
      go_ret
      exact ⟨_, rfl, hst.own, hst.below⟩
end Go.Proofs.YtdookhmaiapclaaGreatDoor
namespace Go.Proofs.YtdookhmaiapclaaGreatDoor
open Go.RowKit

attribute [local go_sem] Oper.pureAt Oper.pureUpon
theorem RAt.sees {w : World} {m : FM} {k : Nat} {l : List UInt8} (h : RAt w m k l) : Sees w (some ⟨m.g, 0, none⟩) l := by
  intro i hi
  refine ⟨_, rfl, ?_⟩
  rw [Addr.add_lit, Nat.zero_add]
  exact h.byte hi
set_option maxRecDepth 100000 in
set_option maxHeartbeats 1000000 in
theorem fRefBytes_any {w : World} {m : FM} {k : Nat} {l : List UInt8} (h : RAt w m k l) :
    Calls Tryz.prog 33 #[m.v] w fun e w' => ∃ v, e = .returned v ∧ w'.ownsRow w.heap.size 5 1 v (encF k l).length (B8 (encF k l)) ∧ Below w.heap.size w w' := by
  obtain ⟨i0, hi, hz0, hz1, hz2⟩ := info_parts info8
  have hlen := h.len
  have hk2 := h.k2
  have l1 := h.head.lt
  have hn1 : (numL k).length ≤ 10 := (numL_length k).2
  have hn2 : (numL l.length).length ≤ 10 := (numL_length l.length).2
  have P1 : Hid (∀ u, Below w.heap.size w u → Calls Tryz.prog 31 #[.slice none 0 0, .int .u64 (k : Int)] u fun e w' => ∃ v', e = .returned v' ∧ w'.ownsRow w.heap.size 5 1 v' (numL k).length (B8 (numL k)) ∧ Below w.heap.size w w') := fun u hu => by
    refine (refPut_any none [] 0 k u (Sees.nil _ _) (fun _ => rfl) (by simp) (by omega)).mono ?_
    rintro e w' ⟨v, rfl, ho, hb⟩
    refine ⟨v, rfl, ?_, hu.trans (hb.mono hu.size)⟩
    simp only [List.length_nil, Nat.zero_add, List.nil_append] at ho
    exact owns_monoB ho hu.size
  have P2 : Hid (∀ u v, Below w.heap.size w u → u.ownsRow w.heap.size 5 1 v (numL k).length (B8 (numL k)) → Calls Tryz.prog 31 #[v, .int .u64 (l.length : Int)] u fun e w' => ∃ v', e = .returned v' ∧ w'.ownsRow w.heap.size 5 1 v' (numL k ++ numL l.length).length (B8 (numL k ++ numL l.length)) ∧ Below w.heap.size w w') := fun u v hu hv => by
    obtain ⟨ao, cap, rfl, hsee, hll, hnn⟩ := owns_sees hv
    refine (refPut_any ao (numL k) cap l.length u hsee (fun e => (hnn e).1 ▸ rfl) (by omega) (by omega)).mono ?_
    rintro e w' ⟨v, rfl, ho, hb⟩
    refine ⟨v, rfl, ?_, hu.trans (hb.mono hu.size)⟩
    rw [List.length_append]
    exact owns_monoB ho hu.size
  have c0 : ∀ q : Cl w.heap.size w, q.u.cell? ⟨m.d, 0, none⟩ = some (.int .i64 (k : Int)) := fun q => q.cell l1 h.c0
  have c1 : ∀ q : Cl w.heap.size w, q.u.cell? ⟨m.d, 1, none⟩ = some (.slice (some ⟨m.g, 0, none⟩) l.length m.cap) := fun q => q.cell l1 h.c1
  have Wk : Hid (IntKind.u64.wrap (k : Int) = (k : Int)) := by show _ = _; rw [IntKind.wrap_u64]; omega
  have Wl : Hid (IntKind.u64.wrap (l.length : Int) = (l.length : Int)) := by show _ = _; rw [IntKind.wrap_u64]; omega
  have hl2 : (numL k ++ numL l.length).length ≤ 20 := by rw [List.length_append]; omega
  haveI := Cl.inh w.heap.size w
  go_enter Tryz.func33, Tryz.ntmps33
  go_wp2_with fail
  refine wp_region_sched (fun w' => ∃ p : Cl w.heap.size w, w' = p.u) [(0, true), (1, true), (2, true), (3, true), (4, true), (6, true), (7, true), (8, true), (9, true), (10, true), (11, true), (13, true), (14, true), (15, true), (16, true), (5, false), (12, false), (17, false), (18, true)] rfl (by kernel_rfl) (by kernel_rfl) (by kernel_rfl) ⟨⟨_, (Below.refl _ _).drew⟩, rfl⟩ ?_
  iterate 15 (refine sched_pure rfl (fun K hK => ?_); go_simp; refine hK _ ?_; clear hK K)
  rw [Wk.out, Wl.out]
  refine sched_loud rfl (fun K hK => ?_)
  go_simp
  refine (P1.out _ (Below.refl _ _).drew).mono ?_
  rintro e u1 ⟨v1, rfl, x1, y1⟩
  refine hK _ _ ⟨⟨u1, y1⟩, rfl⟩ ?_
  clear hK K
  refine sched_loud rfl (fun K hK => ?_)
  go_simp
  refine (P2.out _ _ y1 x1).mono ?_
  rintro e u2 ⟨v2, rfl, x2, y2⟩
  refine hK _ _ ⟨⟨u2, y2⟩, rfl⟩ ?_
  clear hK K
  have h2 := h.below y2 (Nat.le_refl _)
  refine sched_loud rfl (fun K hK => ?_)
  refine step_append_grew rfl (.tmp 15) (.tmp 19) 29 29 rfl w.heap.size 5 i0 (.int .u8 0) 1 1 Tryz.underlying29 hi hz0 hz1 hz2 rfl _ (numL k ++ numL l.length).length _ rfl x2 _ l.length (B8 l) rfl (src_sees Tryz.underlying29 h2.sees (fun e => by cases e) _) (by unfold maxLen; omega) (by omega) y2.size ?_
  intro v3 w3 ho3 hG3
  have y3 : Below w.heap.size w w3 := y2.trans (hG3.below y2.size (fun g hg => (x2.lt g hg).1))
  refine hK _ _ ⟨⟨w3, y3⟩, rfl⟩ ?_
  clear hK K
  refine sched_pure rfl (fun K hK => ?_)
  go_simp
  refine hK _ ?_
  clear hK K
  refine sched_nil ?_
  go_wp2_with fail
  go_ret
  refine ⟨_, rfl, ?_, y3⟩
  unfold encF
  rw [List.length_append, B8_append]
  exact ho3
end Go.Proofs.YtdookhmaiapclaaGreatDoor
namespace Go.Proofs.YtdookhmaiapclaaGreatDoor
open Go.RowKit

set_option maxRecDepth 100000 in
set_option maxHeartbeats 2000000 in
theorem refName_any (s : ByteArray) (w : World) (hs : s.size ≤ maxLen) :
    Calls Tryz.prog 97 #[.string s] w fun e w' => e = .returned (.bool (nameB (nb s))) ∧ w' = w := by
  have hsz : (s.size : Int) ≤ 9223372036854775807 := by unfold maxLen at hs; omega
  have Hi : Hid _ := name_iff (nb s)
  have Hn : Hid _ := @name_no (nb s)
  rw [nb_size] at Hi Hn
  have Hat : Hid _ := at_nb s
  clear hs
  by_cases h0 : s.size = 0
  · go_enter Tryz.func97, Tryz.ntmps97
    go_wp2_with fail
    go_ret
    exact ⟨ret_bool (Hn.out (by omega)).symm, rfl⟩
  by_cases h16 : 16 < s.size
  · go_enter Tryz.func97, Tryz.ntmps97
    go_wp2_with fail
    go_ret
    exact ⟨ret_bool (Hn.out (by omega)).symm, rfl⟩
  have hb1 : decide ((s.size : Int) < 1) = false := decide_eq_false (by omega)
  have hb2 : decide (16 < (s.size : Int)) = false := decide_eq_false (by omega)
  have hsi : (s.size : Int) ≤ 16 := by omega
  have hpos : 0 < s.size := by omega
  have Hsz : Hid (s.size ≤ 16) := by show s.size ≤ 16; omega
  clear h0 h16
  obtain ⟨x0, hx0⟩ : ∃ x, ((s[0].toNat : Nat) : Int) = x := ⟨_, rfl⟩
  by_cases hlo : x0 < 97
  · have HF : Hid (nameB (nb s) = false) := Hn.out (fun hh => by have := hh.2.2.1; rw [Hat.out 0 hpos, hx0] at this; simp only [isL, Bool.and_eq_true, decide_eq_true_eq] at this; omega)
    have d1 : decide (x0 < 97) = true := decide_eq_true hlo
    go_enter Tryz.func97, Tryz.ntmps97
    go_wp2_with fail
    go_ret
    exact ⟨ret_bool HF.out.symm, rfl⟩
  have d1 : decide (x0 < 97) = false := decide_eq_false hlo
  by_cases hhi : 122 < x0
  · have HF : Hid (nameB (nb s) = false) := Hn.out (fun hh => by have := hh.2.2.1; rw [Hat.out 0 hpos, hx0] at this; simp only [isL, Bool.and_eq_true, decide_eq_true_eq] at this; omega)
    have d2 : decide (122 < x0) = true := decide_eq_true hhi
    go_enter Tryz.func97, Tryz.ntmps97
    go_wp2_with fail
    go_ret
    exact ⟨ret_bool HF.out.symm, rfl⟩
  have d2 : decide (122 < x0) = false := decide_eq_false hhi
  have HL0 : Hid (isL (((nb s).getD 0 0).toNat : Int) = true) := by show isL _ = true; rw [Hat.out 0 hpos, hx0]; simp only [isL, Bool.and_eq_true, decide_eq_true_eq]; omega
  go_enter Tryz.func97, Tryz.ntmps97
  go_wp2_with fail
  clear hx0 d1 d2 hlo hhi
  go_loop [3] (fun i => ∃ k : Nat, k ≤ s.size ∧ i = .int .i64 k ∧ ∀ j, j < k → okC (((nb s).getD j 0).toNat : Int) = true) (fun i => s.size - (intOf i).toNat)
  case atStart => exact ⟨0, Nat.zero_le _, rfl, fun j hj => absurd hj (Nat.not_lt_zero _)⟩
  case round =>
    obtain ⟨k, hk, rfl, hall⟩ := hrel
    have HA : Hid (∀ j, j < k → okC (((nb s).getD j 0).toNat : Int) = true) := hall
    clear hall
    by_cases hlt : k < s.size
    · obtain ⟨x, hx⟩ : ∃ x, ((s[k].toNat : Nat) : Int) = x := ⟨_, rfl⟩
      have HB : Hid (okC x = false → nameB (nb s) = false) := fun h => Hn.out fun hh => by have := hh.2.2.2 k hlt; rw [Hat.out k hlt, hx, h] at this; cases this
      have HN : Hid (okC x = true → ∀ j, j < k + 1 → okC (((nb s).getD j 0).toNat : Int) = true) := fun h j hj => by
        by_cases e : j = k
        · subst e; rw [Hat.out j hlt, hx]; exact h
        · exact HA.out j (by omega)
      have HO : Hid (okC x = (decide (97 ≤ x) && decide (x ≤ 122) || decide (48 ≤ x) && decide (x ≤ 57) || x == 95)) := rfl
      clear Hi Hn Hat HA HL0
      have hcase : (97 ≤ x ∧ x ≤ 122) ∨ (48 ≤ x ∧ x ≤ 57) ∨ x = 95 ∨ (122 < x) ∨ (57 < x ∧ x < 97 ∧ x ≠ 95) ∨ x < 48 := by omega
      rcases hcase with ⟨h1, h2⟩ | ⟨h1, h2⟩ | h1 | h1 | ⟨h1, h2, h3⟩ | h1
      · have HN' : Hid (∀ j, j < k + 1 → okC (((nb s).getD j 0).toNat : Int) = true) := HN.out (by rw [HO.out]; simp [h1, h2])
        have e1 : decide (97 ≤ x) = true := decide_eq_true h1
        have e2 : decide (x ≤ 122) = true := decide_eq_true h2
        clear HN HB HO h1 h2
        go_wp2_with fail
        go_round
        case rel => exact ⟨k + 1, by omega, by go_num, HN'.out⟩
        case measure => simp [intOf]; omega
      · have HN' : Hid (∀ j, j < k + 1 → okC (((nb s).getD j 0).toNat : Int) = true) := HN.out (by rw [HO.out]; simp [h1, h2])
        have e1 : decide (97 ≤ x) = false := decide_eq_false (by omega)
        have e3 : decide (48 ≤ x) = true := decide_eq_true h1
        have e4 : decide (x ≤ 57) = true := decide_eq_true h2
        clear HN HB HO h1 h2
        go_wp2_with fail
        go_round
        case rel => exact ⟨k + 1, by omega, by go_num, HN'.out⟩
        case measure => simp [intOf]; omega
      · subst h1
        have HN' : Hid (∀ j, j < k + 1 → okC (((nb s).getD j 0).toNat : Int) = true) := HN.out (by rw [HO.out]; rfl)
        clear HN HB HO
        go_wp2_with fail
        go_round
        case rel => exact ⟨k + 1, by omega, by go_num, HN'.out⟩
        case measure => simp [intOf]; omega
      · have e1 : decide (97 ≤ x) = true := decide_eq_true (by omega)
        have e2 : decide (x ≤ 122) = false := decide_eq_false (by omega)
        have e3 : decide (48 ≤ x) = true := decide_eq_true (by omega)
        have e4 : decide (x ≤ 57) = false := decide_eq_false (by omega)
        have e5 : (x == 95) = false := by rw [beq_eq_false_iff_ne]; omega
        have HF : Hid (nameB (nb s) = false) := HB.out (by rw [HO.out, e1, e2, e3, e4, e5]; rfl)
        clear HN HB HO h1
        go_wp2_with fail
        go_ret
        exact ⟨ret_bool HF.out.symm, rfl⟩
      · have e1 : decide (97 ≤ x) = false := decide_eq_false (by omega)
        have e3 : decide (48 ≤ x) = true := decide_eq_true (by omega)
        have e4 : decide (x ≤ 57) = false := decide_eq_false (by omega)
        have e5 : (x == 95) = false := by rw [beq_eq_false_iff_ne]; omega
        have HF : Hid (nameB (nb s) = false) := HB.out (by rw [HO.out, e1, e3, e4, e5]; rfl)
        clear HN HB HO h1 h2 h3
        go_wp2_with fail
        go_ret
        exact ⟨ret_bool HF.out.symm, rfl⟩
      · have e1 : decide (97 ≤ x) = false := decide_eq_false (by omega)
        have e3 : decide (48 ≤ x) = false := decide_eq_false (by omega)
        have e5 : (x == 95) = false := by rw [beq_eq_false_iff_ne]; omega
        have HF : Hid (nameB (nb s) = false) := HB.out (by rw [HO.out, e1, e3, e5]; rfl)
        clear HN HB HO h1
        go_wp2_with fail
        go_ret
        exact ⟨ret_bool HF.out.symm, rfl⟩
    · obtain rfl : k = s.size := by omega
      have HT : Hid (nameB (nb s) = true) := Hi.out.2 ⟨hpos, Hsz.out, HL0.out, HA.out⟩
      clear Hi Hn HA
      go_wp2_with fail
      go_ret
      exact ⟨ret_bool HT.out.symm, rfl⟩
set_option maxRecDepth 100000 in
set_option maxHeartbeats 1000000 in
theorem refGood_any (k : Kb) (w : World) (h1 : k.t.size ≤ maxLen) (h2 : k.p.size ≤ maxLen) (h3 : k.c.size ≤ maxLen) :
    Calls Tryz.prog 62 #[k.v] w fun e w' => e = .returned (.bool (goodK k.ky)) ∧ Below w.heap.size w w' := by
  obtain ⟨t, p, r, c⟩ := k
  simp only at h1 h2 h3
  have hp : (p.size : Int) ≤ 9223372036854775807 := by unfold maxLen at h2; omega
  have N1 : Hid (∀ w : World, Calls Tryz.prog 97 #[.string t] w fun e w' => e = .returned (.bool (nameB (nb t))) ∧ w' = w) := fun w => refName_any t w h1
  have N2 : Hid (∀ w : World, Calls Tryz.prog 97 #[.string c] w fun e w' => e = .returned (.bool (nameB (nb c))) ∧ w' = w) := fun w => refName_any c w h3
  have hR : Hid (goodK (Kb.ky ⟨t, p, r, c⟩) = (nameB (nb t) && decide (1 ≤ p.size) && decide (p.size ≤ 64) && (decide (c.size = 0) || nameB (nb c)))) := by
    show (_ && _ && _ && _) = _
    have e1 : (nb p).length = p.size := nb_size p
    have e2 : (nb c == []) = decide (c.size = 0) := by
      by_cases h : c.size = 0
      · rw [(nb_empty c).2 h]; simp [h]
      · have := fun e => h ((nb_empty c).1 e)
        simp only [h, decide_false, beq_eq_false_iff_ne, ne_eq]; exact this
    simp only [Kb.ky, e1, e2]
  have hB : Hid (∀ o : Obj, Below w.heap.size w (w.alloc o)) := fun o => (Below.refl _ _).alloc (Nat.le_refl _) _
  have hc := ba_isEmpty c
  clear h1 h2 h3
  simp only [Kb.v]
  generalize nameB (nb t) = b1 at *
  generalize nameB (nb c) = b2 at *
  cases b1
  · go_enter Tryz.func62, Tryz.ntmps62
    go_wp2_with (go_at_call 97; go_fit (N1.out _); rintro x w1 ⟨rfl, rfl⟩)
    go_ret
    exact ⟨ret_bool (by rw [hR.out]; rfl), hB.out _⟩
  by_cases hp1 : p.size = 0
  · have d1 : decide (1 ≤ (p.size : Int)) = false := decide_eq_false (by omega)
    have hR' : Hid (goodK (Kb.ky ⟨t, p, r, c⟩) = false) := by show _ = _; rw [hR.out, hp1]; rfl
    clear hR
    go_enter Tryz.func62, Tryz.ntmps62
    go_wp2_with (go_at_call 97; go_fit (N1.out _); rintro x w1 ⟨rfl, rfl⟩)
    go_ret
    exact ⟨ret_bool hR'.out.symm, hB.out _⟩
  have d1 : decide (1 ≤ (p.size : Int)) = true := decide_eq_true (by omega)
  by_cases hp2 : 64 < p.size
  · have d2 : decide ((p.size : Int) ≤ 64) = false := decide_eq_false (by omega)
    have hR' : Hid (goodK (Kb.ky ⟨t, p, r, c⟩) = false) := by
      show _ = _; rw [hR.out]
      have : decide (p.size ≤ 64) = false := decide_eq_false (by omega)
      rw [this]; simp
    clear hR
    go_enter Tryz.func62, Tryz.ntmps62
    go_wp2_with (go_at_call 97; go_fit (N1.out _); rintro x w1 ⟨rfl, rfl⟩)
    go_ret
    exact ⟨ret_bool hR'.out.symm, hB.out _⟩
  have d2 : decide ((p.size : Int) ≤ 64) = true := decide_eq_true (by omega)
  have hR2 : Hid (goodK (Kb.ky ⟨t, p, r, c⟩) = (decide (c.size = 0) || b2)) := by
    show _ = _; rw [hR.out]
    have e1 : decide (1 ≤ p.size) = true := decide_eq_true (by omega)
    have e2 : decide (p.size ≤ 64) = true := decide_eq_true (by omega)
    rw [e1, e2]; simp
  clear hR
  by_cases hc0 : c.size = 0
  · rw [decide_eq_true hc0] at hc
    have hR' : Hid (goodK (Kb.ky ⟨t, p, r, c⟩) = true) := by show _ = _; rw [hR2.out, hc0]; rfl
    clear hR2
    go_enter Tryz.func62, Tryz.ntmps62
    go_wp2_with (go_at_call 97; go_fit (N1.out _); rintro x w1 ⟨rfl, rfl⟩)
    go_ret
    exact ⟨ret_bool hR'.out.symm, hB.out _⟩
  · rw [decide_eq_false hc0] at hc
    have hR' : Hid (goodK (Kb.ky ⟨t, p, r, c⟩) = b2) := by show _ = _; rw [hR2.out, decide_eq_false hc0]; rfl
    clear hR2
    go_enter Tryz.func62, Tryz.ntmps62
    go_wp2_with (first | (go_at_call_of 97 (Value.string t); go_fit (N1.out _); rintro x w1 ⟨rfl, rfl⟩) | (go_at_call_of 97 (Value.string c); go_fit (N2.out _); rintro x w1 ⟨rfl, rfl⟩))
    go_ret
    exact ⟨ret_bool hR'.out.symm, hB.out _⟩

end Go.Proofs.YtdookhmaiapclaaGreatDoor
namespace Go.Proofs.YtdookhmaiapclaaGreatDoor
open Go.RowKit

theorem fu3_a {x y z : Int} (h : x ≠ 0) : fu [x, y, z] = x := th_of h _
theorem fu3_b {y z : Int} (h : y ≠ 0) : fu [0, y, z] = y := by show th 0 (th y _) = _; rw [th_zero, th_of h]
theorem fu3_c {z : Int} : fu [0, 0, z] = z := by show th 0 (th 0 (th z 0)) = _; rw [th_zero, th_zero]; unfold th; split <;> omega
end Go.Proofs.YtdookhmaiapclaaGreatDoor
namespace Go.Proofs.YtdookhmaiapclaaGreatDoor
open Go.RowKit

set_option maxRecDepth 100000 in
set_option maxHeartbeats 2000000 in
theorem refGoodX_any (c : Cx) (w : World) (h1 : c.k.t.size ≤ maxLen) (h2 : c.k.p.size ≤ maxLen) (h3 : c.k.c.size ≤ maxLen) (h4 : c.v.s.size ≤ maxLen) :
    Calls Tryz.prog 26 #[c.val] w fun x w' => x = .returned (.bool (goodC c)) ∧ Below w.heap.size w w' := by
  have hs' : (c.v.s.size : Int) ≤ 9223372036854775807 := by unfold maxLen at h4; omega
  have G : Hid (∀ w : World, Calls Tryz.prog 62 #[c.k.v] w fun e w' => e = .returned (.bool (goodK c.k.ky)) ∧ Below w.heap.size w w') := fun w => refGood_any c.k w h1 h2 h3
  have tn := TenX.new w c 59
  have hB0 : Below w.heap.size w (w.alloc (.cells c.a 59)) := (Below.refl _ _).alloc (Nat.le_refl _) _
  obtain ⟨wa, hwa⟩ : ∃ wa, wa = w.alloc (.cells c.a 59) := ⟨_, rfl⟩
  rw [← hwa] at tn hB0
  have HF : Hid (∀ w1, Below wa.heap.size wa w1 → TenX w1 w.heap.size 0 c ∧ TenX (w1.alloc (.cells c.v.a 48)) w.heap.size 0 c ∧ Below w.heap.size w w1 ∧ Below w.heap.size w (w1.alloc (.cells c.v.a 48))) := fun w1 h =>
    ⟨tn.below h tn.lt, (tn.below h tn.lt).alloc _, hB0.trans (h.mono hB0.size), (hB0.trans (h.mono hB0.size)).alloc (Nat.le_trans hB0.size h.size) _⟩
  have e1 := ba_isEmpty c.k.c
  have e2 := ba_isEmpty c.v.s
  have hg : Hid (goodC c = (goodK c.k.ky && goodV (decide (c.k.c.size = 0)) c.v)) := rfl
  have hd : Hid (c.v.dead = true → goodV (decide (c.k.c.size = 0)) c.v = (c.v.kind == 0 && (c.v.num == 0 && decide (c.v.s.size = 0)))) := goodV_dead
  have hl : Hid (c.v.dead = false → goodV (decide (c.k.c.size = 0)) c.v = (c.v.loc == 0 && goodU (decide (c.k.c.size = 0)) c.v.kind c.v.num c.v.s)) := goodV_live
  generalize goodC c = R at *
  generalize goodV (decide (c.k.c.size = 0)) c.v = V at *
  generalize goodK c.k.ky = K at *
  clear tn hB0 h1 h2 h3 h4
  obtain ⟨⟨kt, kp, kr, kcol⟩, ⟨t1, d1, l1, k1, n1, s1⟩⟩ := c
  simp only [Cx.val, Cx.a, Vr.a, Kb.v] at *
  go_enter Tryz.func26, Tryz.ntmps26
  go_wp2_with fail
  rw [← hwa]
  clear hwa
  refine (G.out _).mono ?_
  rintro x w1 ⟨rfl, hb1⟩
  obtain ⟨⟨x0, x1, x2, x3, x4, x5, x6, x7, x8, x9⟩, ⟨-, -, -, y3, -, -, -, -, -, -⟩, hB, hB2⟩ := HF.out w1 hb1
  have HB : Hid (Below w.heap.size w w1) := hB
  have HB2 : Hid (Below w.heap.size w (w1.alloc (.cells #[.int .i64 t1, .bool d1, .int .i64 l1, .int .i64 k1, .int .i64 n1, .string s1] 48))) := hB2
  simp only [Nat.zero_add] at x0 x1 x2 x3 x4 x5 x6 x7 x8 x9 y3
  clear hB hB2 hb1 HF
  cases K
  · have hR : Hid (R = false) := hg.out
    clear hg
    go_wp2_with fail
    go_ret
    exact ⟨ret_bool hR.out.symm, HB.out⟩
  · cases d1
    · have hR : Hid (R = (l1 == 0 && goodU (decide (kcol.size = 0)) k1 n1 s1)) := hg.out.trans (hl.out rfl)
      clear hg hd hl
      by_cases hz : l1 = 0
      · subst hz
        by_cases hc : kcol.size = 0
        · simp only [hc, decide_true] at e1 hR
          by_cases h1 : k1 = 0
          · subst h1
            by_cases h2 : n1 = 0
            · subst h2
              by_cases h3 : s1.size = 0
              · simp only [h3, decide_true] at e2
                go_wp2_with fail
                go_ret
                exact ⟨ret_bool (by rw [hR.out]; simp [goodU, h3]), HB2.out⟩
              · simp only [h3, decide_false] at e2
                go_wp2_with fail
                go_ret
                exact ⟨ret_bool (by rw [hR.out]; simp [goodU, h3]), HB2.out⟩
            · go_wp2_with fail
              go_ret
              exact ⟨ret_bool (by rw [hR.out]; simp [goodU, h2]), HB2.out⟩
          · have h1b : (k1 == 0) = false := beq_false_of_ne h1
            go_wp2_with fail
            go_ret
            exact ⟨ret_bool (by rw [hR.out]; simp [goodU, h1]), HB2.out⟩
        · simp only [hc, decide_false] at e1 hR
          by_cases h1 : k1 = 0
          · subst h1
            go_wp2_with fail
            go_ret
            exact ⟨ret_bool (by rw [hR.out]; simp [goodU]), HB2.out⟩
          · have h1b : (k1 == 0) = false := beq_false_of_ne h1
            by_cases h2 : k1 = 1
            · subst h2
              go_wp2_with fail
              go_ret
              exact ⟨ret_bool (by rw [hR.out]; simp [goodU]), HB2.out⟩
            · have h2b : (k1 == 1) = false := beq_false_of_ne h2
              by_cases h3 : k1 = 2
              · subst h3
                by_cases h4 : n1 = 0
                · subst h4
                  go_wp2_with fail
                  go_ret
                  exact ⟨ret_bool (by rw [hR.out]; simp [goodU]; omega), HB2.out⟩
                · go_wp2_with fail
                  go_ret
                  exact ⟨ret_bool (by rw [hR.out]; simp [goodU, h4]), HB2.out⟩
              · have h3b : (k1 == 2) = false := beq_false_of_ne h3
                go_wp2_with fail
                go_ret
                exact ⟨ret_bool (by rw [hR.out]; simp [goodU, h2, h3]), HB2.out⟩
      · have hR' : Hid (R = false) := hR.out.trans (by rw [beq_false_of_ne hz]; rfl)
        clear hR
        go_wp2_with fail
        go_ret
        exact ⟨ret_bool hR'.out.symm, HB2.out⟩
    · have hR : Hid (R = (k1 == 0 && (n1 == 0 && decide (s1.size = 0)))) := hg.out.trans (hd.out rfl)
      clear hg hd hl
      by_cases h1 : k1 = 0 <;> by_cases h2 : n1 = 0 <;> by_cases h3 : s1.size = 0 <;> (simp only [h3, decide_true, decide_false] at e2; go_wp2_with fail; go_ret; exact ⟨ret_bool (by rw [hR.out]; simp [h1, h2, h3]), HB.out.alloc HB.out.size _⟩)
end Go.Proofs.YtdookhmaiapclaaGreatDoor
namespace Go.Proofs.YtdookhmaiapclaaGreatDoor
open Go.RowKit

theorem owBelow {w w' : World} {B : Nat} {e : TypeId} {k n : Nat} {v : Value} {xs : List Value} (h : w.ownsRow B e k v n xs) (hb : Below w.heap.size w w') : w'.ownsRow B e k v n xs :=
  h.kept (row := none) ⟨hb.os, hb.tape, hb.output, hb.size, fun k hk _ => hb.block k hk⟩ (by cases hv : v.ownBlock <;> simp)
theorem sees_one (w : World) (c : Cx) : XSees (w.alloc (.cells c.a 59)) (some ⟨w.heap.size, 0, none⟩) [c] := fun i x hx => by
  have hi : i = 0 := by have := (List.getElem?_eq_some_iff.1 hx).1; simp at this; exact this
  subst hi
  obtain rfl := Option.some.inj hx
  exact ⟨w.heap.size, 0, rfl, TenX.new w _ _⟩
/-- An append of one cell: what the row becomes. -/
theorem grew_one {w w1 w2 : World} {v v2 : Value} {O : List Cx} {c : Cx} {B : Nat} (hb : Below B w w1) (hB : B = w.heap.size) (ho : (w1.alloc (.cells c.a 59)).ownsRow B 59 10 v O.length (O.flatMap xs10)) (ho2 : w2.ownsRow B 59 10 v2 (O.length + 1) (O.flatMap xs10 ++ [c].flatMap xs10)) (hg : Grew (w1.alloc (.cells c.a 59)) w2 v v2) :
    w2.ownsRow B 59 10 v2 (O ++ [c]).length ((O ++ [c]).flatMap xs10) ∧ Below B w w2 := by
  subst hB
  refine ⟨by rw [List.flatMap_append, List.length_append]; exact ho2, ?_⟩
  have hb3 : Below w.heap.size w (w1.alloc (.cells c.a 59)) := hb.alloc hb.size _
  exact hb3.trans (hg.below hb3.size (fun g hg => (ho.lt g hg).1))
theorem addC_done : ∀ {A : List Cx} {c x : Cx}, (∃ y ∈ A, 0 ≤ kx y c) → addC (A ++ [x]) c = addC A c ++ [x]
  | [], _, _, h => by obtain ⟨y, hy, _⟩ := h; cases hy
  | a :: A, c, x, h => by
    by_cases h0 : kx a c = 0
    · rw [List.cons_append, addC_same _ h0, addC_same _ h0]; rfl
    · by_cases h1 : 0 < kx a c
      · rw [List.cons_append, addC_ahead _ h1, addC_ahead _ h1]; rfl
      · have h2 : ∃ y ∈ A, 0 ≤ kx y c := by
          obtain ⟨y, hy, hk⟩ := h
          rcases List.mem_cons.1 hy with rfl | hy
          · omega
          · exact ⟨y, hy, hk⟩
        rw [List.cons_append, addC_behind _ (by omega), addC_behind _ (by omega), addC_done h2]; rfl
theorem addC_last : ∀ {A : List Cx} {c : Cx}, (∀ y ∈ A, kx y c < 0) → ∀ R, addC (A ++ R) c = A ++ addC R c
  | [], _, _, _ => rfl
  | a :: A, c, h, R => by
    rw [List.cons_append, addC_behind _ (h a (by simp)), addC_last (fun y hy => h y (by simp [hy]))]; rfl
theorem addC_len : ∀ (A : List Cx) (c : Cx), (addC A c).length ≤ A.length + 1
  | [], _ => by simp [addC]
  | a :: A, c => by
    have := addC_len A c
    rw [addC]
    split
    · simp
    · split <;> simp <;> omega
/-- How far Add has come. -/
inductive AddAt (l : List Cx) (c : Cx) (i : Nat) (O : List Cx) : Bool → Prop
  | no (h : O = l.take i) (hk : ∀ y ∈ l.take i, kx y c < 0) : AddAt l c i O false
  | yes (h : O = addC (l.take i) c) (hk : ∃ y ∈ l.take i, 0 ≤ kx y c) : AddAt l c i O true
theorem AddAt.len {l : List Cx} {c : Cx} {i : Nat} {O : List Cx} {d : Bool} (h : AddAt l c i O d) : O.length ≤ i + 1 := by
  cases h with
  | no h _ => rw [h, List.length_take]; omega
  | yes h _ => rw [h]; have := addC_len (l.take i) c; rw [List.length_take] at this; omega
section
variable {l : List Cx} {c : Cx} {i : Nat} {O : List Cx} {x : Cx} {d : Bool}
theorem AddAt.less (h : AddAt l c i O d) (hr : Rising l) (hx : l[i]? = some x) (hk : kx x c < 0) : d = false ∧ AddAt l c (i + 1) (O ++ [x]) false := by
  cases h with
  | no h hh =>
    refine ⟨rfl, .no (by rw [h, takeX_succ hx]) fun y hy => ?_⟩
    rw [takeX_succ hx] at hy
    rcases List.mem_append.1 hy with hy | hy
    · exact hh y hy
    · obtain rfl : y = x := by simpa using hy
      exact hk
  | yes h hh =>
    obtain ⟨y, hy, hyc⟩ := hh
    have hr2 : Rising (l.take (i + 1)) := List.Pairwise.sublist (List.take_sublist _ _) hr
    rw [takeX_succ hx] at hr2
    have := (List.pairwise_append.1 hr2).2.2 y hy x (by simp)
    have := kx_strict this hk
    omega
theorem AddAt.same (h : AddAt l c i O d) (hr : Rising l) (hx : l[i]? = some x) (hk : kx x c = 0) : d = false ∧ AddAt l c (i + 1) (O ++ [jnC x c]) true := by
  cases h with
  | no h hh =>
    refine ⟨rfl, .yes ?_ ⟨x, by rw [takeX_succ hx]; simp, by omega⟩⟩
    rw [h, takeX_succ hx, addC_last hh, addC_same _ hk]
  | yes h hh =>
    obtain ⟨y, hy, hyc⟩ := hh
    have hr2 : Rising (l.take (i + 1)) := List.Pairwise.sublist (List.take_sublist _ _) hr
    rw [takeX_succ hx] at hr2
    have h1 := (List.pairwise_append.1 hr2).2.2 y hy x (by simp)
    have h2 : kx y c = kx y x := (kx_right ((kx_z x c).1 hk)).symm
    omega
theorem AddAt.ahead (h : AddAt l c i O false) (hx : l[i]? = some x) (hk : 0 < kx x c) : AddAt l c (i + 1) (O ++ [c] ++ [x]) true := by
  cases h with
  | no h hh =>
    refine .yes ?_ ⟨x, by rw [takeX_succ hx]; simp, by omega⟩
    rw [h, takeX_succ hx, addC_last hh, addC_ahead _ hk]; simp
theorem AddAt.behind (h : AddAt l c i O true) (hx : l[i]? = some x) : AddAt l c (i + 1) (O ++ [x]) true := by
  cases h with
  | yes h hh =>
    refine .yes (by rw [h, takeX_succ hx, addC_done hh]) ?_
    obtain ⟨y, hy, hyc⟩ := hh
    exact ⟨y, by rw [takeX_succ hx]; simp [hy], hyc⟩
theorem AddAt.endNo (h : AddAt l c i O false) (hi : l.length ≤ i) : addC l c = O ++ [c] := by
  cases h with
  | no h hh =>
    rw [List.take_of_length_le hi] at h hh
    have := addC_last hh []
    rw [List.append_nil] at this
    rw [this, h]; rfl
theorem AddAt.endYes (h : AddAt l c i O true) (hi : l.length ≤ i) : addC l c = O := by
  cases h with
  | yes h hh => rw [List.take_of_length_le hi] at h; exact h.symm
end
/-- A row that grows, beside a box with a cell. -/
structure AR (w wr : World) (cc : Cx) (v : Value) (O : List Cx) : Prop where
  own : wr.ownsRow w.heap.size 59 10 v O.length (O.flatMap xs10)
  ten : TenX wr w.heap.size 0 cc
  ne : v.ownBlock ≠ some w.heap.size
  bel : Below w.heap.size w wr
  gt : w.heap.size < wr.heap.size
theorem AR.below {w wr w' : World} {cc : Cx} {v : Value} {O : List Cx} (h : AR w wr cc v O) (hb : Below wr.heap.size wr w') : AR w w' cc v O :=
  ⟨owBelow h.own hb, h.ten.below hb h.ten.lt, h.ne, h.bel.trans (hb.mono h.bel.size), Nat.lt_of_lt_of_le h.gt hb.size⟩
theorem ten_grew {w w' : World} {v v' : Value} (hg : Grew w w' v v') {b o : Nat} {c : Cx} (t : TenX w b o c) (hne : v.ownBlock ≠ some b) : TenX w' b o c ∧ v'.ownBlock ≠ some b := by
  have hlt := t.lt
  refine ⟨⟨by rw [hg.cell hlt hne, t.c0], by rw [hg.cell hlt hne, t.c1], by rw [hg.cell hlt hne, t.c2], by rw [hg.cell hlt hne, t.c3], by rw [hg.cell hlt hne, t.c4], by rw [hg.cell hlt hne, t.c5], by rw [hg.cell hlt hne, t.c6], by rw [hg.cell hlt hne, t.c7], by rw [hg.cell hlt hne, t.c8], by rw [hg.cell hlt hne, t.c9]⟩, fun e => ?_⟩
  rcases hg.own b e with h1 | h1
  · exact hne h1
  · omega
theorem AR.more {w w1 w2 : World} {cc c : Cx} {v v2 : Value} {O : List Cx} (h : AR w w1 cc v O) (ho2 : w2.ownsRow w.heap.size 59 10 v2 (O.length + 1) (O.flatMap xs10 ++ [c].flatMap xs10)) (hg : Grew (w1.alloc (.cells c.a 59)) w2 v v2) :
    AR w w2 cc v2 (O ++ [c]) ∧ ∀ b o x, TenX w1 b o x → v.ownBlock ≠ some b → TenX w2 b o x ∧ v2.ownBlock ≠ some b := by
  have hg1 := hg.alloc
  have hk : ∀ b o x, TenX w1 b o x → v.ownBlock ≠ some b → TenX w2 b o x ∧ v2.ownBlock ≠ some b := fun b o x t hne => ten_grew hg1 t hne
  obtain ⟨h1, h2⟩ := grew_one h.bel rfl (h.own.alloc _) ho2 hg
  obtain ⟨h3, h4⟩ := hk _ _ _ h.ten h.ne
  exact ⟨⟨h1, h3, h4, h2, Nat.lt_of_lt_of_le h.gt hg1.rows.size⟩, hk⟩
/-- The version of a box is turned. -/
def set6at (w : World) (g : Nat) (a : Vr) : World := (((((w.setCell ⟨g, 4, none⟩ (.int .i64 a.time)).setCell ⟨g, 5, none⟩ (.bool a.dead)).setCell ⟨g, 6, none⟩ (.int .i64 a.loc)).setCell ⟨g, 7, none⟩ (.int .i64 a.kind)).setCell ⟨g, 8, none⟩ (.int .i64 a.num)).setCell ⟨g, 9, none⟩ (.string a.s)
theorem box_set {w : World} {g : Nat} {x : Cx} {ty : TypeId} (h : w.heap[g]? = some (.cells x.a ty)) (a : Vr) : (set6at w g a).heap[g]? = some (.cells (Cx.a ⟨x.k, a⟩) ty) := by
  unfold set6at
  simp only [World.setCell, Array.getElem?_modify, h, Cx.a]
  simp
theorem set6at_other (w : World) (g : Nat) (a : Vr) {b : Nat} (hb : b ≠ g) : (set6at w g a).heap[b]? = w.heap[b]? := by
  unfold set6at
  rw [Below.heap_setCell _ _ _ _ hb, Below.heap_setCell _ _ _ _ hb, Below.heap_setCell _ _ _ _ hb, Below.heap_setCell _ _ _ _ hb, Below.heap_setCell _ _ _ _ hb, Below.heap_setCell _ _ _ _ hb]
theorem set6at_size (w : World) (g : Nat) (a : Vr) : (set6at w g a).heap.size = w.heap.size := by
  unfold set6at; simp only [size_setCell]
theorem AR.set {w w1 : World} {cc : Cx} {v : Value} {O : List Cx} (h : AR w w1 cc v O) {g : Nat} (hg : w.heap.size < g) (hne : v.ownBlock ≠ some g) (a : Vr) : AR w (set6at w1 g a) cc v O := by
  have hgr : w1.grownBy (set6at w1 g a) (some g) := grownBy_setCell (grownBy_setCell (grownBy_setCell (grownBy_setCell (grownBy_setCell (grownBy_setCell ⟨rfl, rfl, rfl, Nat.le_refl _, fun _ _ _ => rfl⟩)))))
  refine ⟨h.own.kept hgr (.inr hne), ?_, h.ne, h.bel.trans ⟨hgr.os, hgr.tape, hgr.output, hgr.size, fun k hk => set6at_other w1 g a (by omega)⟩, by rw [set6at_size]; exact h.gt⟩
  have hc : ∀ o, (set6at w1 g a).cell? ⟨w.heap.size, o, none⟩ = w1.cell? ⟨w.heap.size, o, none⟩ := fun o => World.cell?_of_block (set6at_other w1 g a (show w.heap.size ≠ g by omega))
  exact ⟨by rw [hc, h.ten.c0], by rw [hc, h.ten.c1], by rw [hc, h.ten.c2], by rw [hc, h.ten.c3], by rw [hc, h.ten.c4], by rw [hc, h.ten.c5], by rw [hc, h.ten.c6], by rw [hc, h.ten.c7], by rw [hc, h.ten.c8], by rw [hc, h.ten.c9]⟩
end Go.Proofs.YtdookhmaiapclaaGreatDoor
namespace Go.Proofs.YtdookhmaiapclaaGreatDoor
open Go.RowKit

theorem owMono {w : World} {b b' : Nat} {e : TypeId} {size : Nat} {v : Value} {n : Nat} {xs : List Value} (h : w.ownsRow b e size v n xs) (hb : b' ≤ b) : w.ownsRow b' e size v n xs := by
  refine ⟨h.1, ?_⟩
  rcases h.2 with hn | ⟨g, cap, cur, rfl, hg, r⟩
  · exact .inl hn
  · exact .inr ⟨g, cap, cur, rfl, Nat.le_trans hb hg, r⟩
theorem nrm_len (l : List Cx) : (nrm l).length ≤ l.length := by
  refine snoc_ind (P := fun l => (nrm l).length ≤ l.length) (by simp [nrm]) (fun l x h => ?_) l
  rw [nrm_snoc, List.length_append, List.length_singleton]
  have := addC_len (nrm l) x
  omega
attribute [local irreducible] wpQuiet
set_option maxRecDepth 100000 in
set_option maxHeartbeats 1000000 in
theorem likeX_same (ao bo : Option Addr) (l : List Cx) (ca cb : Nat) (w : World) (ha : XSees w ao l) (hb : XSees w bo l) (hl : l.length ≤ 1000000) :
    Calls Tryz.prog 37 #[.slice ao l.length ca, .slice bo l.length cb] w fun e w' => e = .returned (.bool true) ∧ Below w.heap.size w w' := by
  have hlz : (l.length : Int) ≤ 1000000 := by omega
  go_enter Tryz.func37, Tryz.ntmps37
  go_wp2_with fail
  go_loopw [13] (fun s13 wr => ∃ i : Nat, i ≤ l.length ∧ s13 = .int .i64 i ∧ Below w.heap.size w wr) (fun s13 _ => l.length - (intOf s13).toNat)
  case atStart => exact ⟨0, by omega, rfl, Below.refl _ _⟩
  case round =>
    obtain ⟨i, hi, rfl, hbr⟩ := hrel
    rcases Nat.lt_or_ge i l.length with hlt | hge
    · have hc : l[i]? = some l[i] := List.getElem?_eq_getElem hlt
      obtain ⟨b, off, rfl, tx⟩ := (ha.below hbr (Nat.le_refl _)) i _ hc
      obtain ⟨b', off', rfl, ty⟩ := (hb.below hbr (Nat.le_refl _)) i _ hc
      generalize l[i] = x at *
      obtain ⟨⟨xa, xp, xr, xc⟩, ⟨xt, xd, xl, xk, xn, xs⟩⟩ := x
      have qa0 : ∀ z : Cl wr.heap.size wr, z.u.cell? ⟨b, off + i * 10, none⟩ = some (.string xa) := fun z => (tx.below z.h tx.lt).c0
      have qa1 : ∀ z : Cl wr.heap.size wr, z.u.cell? ⟨b, off + i * 10 + 1, none⟩ = some (.string xp) := fun z => (tx.below z.h tx.lt).c1
      have qa2 : ∀ z : Cl wr.heap.size wr, z.u.cell? ⟨b, off + i * 10 + 2, none⟩ = some (.int .i64 xr) := fun z => (tx.below z.h tx.lt).c2
      have qa3 : ∀ z : Cl wr.heap.size wr, z.u.cell? ⟨b, off + i * 10 + 3, none⟩ = some (.string xc) := fun z => (tx.below z.h tx.lt).c3
      have qa4 : ∀ z : Cl wr.heap.size wr, z.u.cell? ⟨b, off + i * 10 + 4, none⟩ = some (.int .i64 xt) := fun z => (tx.below z.h tx.lt).c4
      have qa5 : ∀ z : Cl wr.heap.size wr, z.u.cell? ⟨b, off + i * 10 + 5, none⟩ = some (.bool xd) := fun z => (tx.below z.h tx.lt).c5
      have qa6 : ∀ z : Cl wr.heap.size wr, z.u.cell? ⟨b, off + i * 10 + 6, none⟩ = some (.int .i64 xl) := fun z => (tx.below z.h tx.lt).c6
      have qa7 : ∀ z : Cl wr.heap.size wr, z.u.cell? ⟨b, off + i * 10 + 7, none⟩ = some (.int .i64 xk) := fun z => (tx.below z.h tx.lt).c7
      have qa8 : ∀ z : Cl wr.heap.size wr, z.u.cell? ⟨b, off + i * 10 + 8, none⟩ = some (.int .i64 xn) := fun z => (tx.below z.h tx.lt).c8
      have qa9 : ∀ z : Cl wr.heap.size wr, z.u.cell? ⟨b, off + i * 10 + 9, none⟩ = some (.string xs) := fun z => (tx.below z.h tx.lt).c9
      have qb0 : ∀ z : Cl wr.heap.size wr, z.u.cell? ⟨b', off' + i * 10, none⟩ = some (.string xa) := fun z => (ty.below z.h ty.lt).c0
      have qb1 : ∀ z : Cl wr.heap.size wr, z.u.cell? ⟨b', off' + i * 10 + 1, none⟩ = some (.string xp) := fun z => (ty.below z.h ty.lt).c1
      have qb2 : ∀ z : Cl wr.heap.size wr, z.u.cell? ⟨b', off' + i * 10 + 2, none⟩ = some (.int .i64 xr) := fun z => (ty.below z.h ty.lt).c2
      have qb3 : ∀ z : Cl wr.heap.size wr, z.u.cell? ⟨b', off' + i * 10 + 3, none⟩ = some (.string xc) := fun z => (ty.below z.h ty.lt).c3
      have qb4 : ∀ z : Cl wr.heap.size wr, z.u.cell? ⟨b', off' + i * 10 + 4, none⟩ = some (.int .i64 xt) := fun z => (ty.below z.h ty.lt).c4
      have qb5 : ∀ z : Cl wr.heap.size wr, z.u.cell? ⟨b', off' + i * 10 + 5, none⟩ = some (.bool xd) := fun z => (ty.below z.h ty.lt).c5
      have qb6 : ∀ z : Cl wr.heap.size wr, z.u.cell? ⟨b', off' + i * 10 + 6, none⟩ = some (.int .i64 xl) := fun z => (ty.below z.h ty.lt).c6
      have qb7 : ∀ z : Cl wr.heap.size wr, z.u.cell? ⟨b', off' + i * 10 + 7, none⟩ = some (.int .i64 xk) := fun z => (ty.below z.h ty.lt).c7
      have qb8 : ∀ z : Cl wr.heap.size wr, z.u.cell? ⟨b', off' + i * 10 + 8, none⟩ = some (.int .i64 xn) := fun z => (ty.below z.h ty.lt).c8
      have qb9 : ∀ z : Cl wr.heap.size wr, z.u.cell? ⟨b', off' + i * 10 + 9, none⟩ = some (.string xs) := fun z => (ty.below z.h ty.lt).c9
      have HE : Hid (∀ w', Below wr.heap.size wr w' → Below w.heap.size w w') := fun w' h => hbr.trans (h.mono hbr.size)
      have hltz : (i : Int) < (l.length : Int) := by omega
      clear ha hb hc tx ty hbr
      haveI := Cl.inh wr.heap.size wr
      go_wp2_with fail
      refine wp_region_cl wr.heap.size (by kernel_rfl) (by kernel_rfl) ?_
      repeat quiet_step (fail)
      refine wpQuiet_nil ?_
      rintro w0 ⟨z, rfl⟩
      have hz := HE.out _ z.h
      go_wp2_with fail
      go_roundw
      case rel => exact ⟨i + 1, by omega, by go_num, hz⟩
      case measure => (simp [intOf]; try omega)
    · have hgez : ¬ (i : Int) < (l.length : Int) := by omega
      clear ha hb
      go_wp2_with fail
      go_ret
      exact ⟨rfl, hbr⟩
set_option maxRecDepth 100000 in
set_option maxHeartbeats 2000000 in
theorem refSorted_any (ao : Option Addr) (l : List Cx) (cap : Nat) (w : World) (hs : XSees w ao l) (hl : l.length ≤ 1000000) :
    Calls Tryz.prog 25 #[.slice ao l.length cap] w fun e w' => e = .returned (.bool (srtB l)) ∧ Below w.heap.size w w' := by
  have hlz : (l.length : Int) ≤ 1000000 := by omega
  go_enter Tryz.func25, Tryz.ntmps25
  go_wp2_with fail
  go_loopw [6] (fun s6 wr => ∃ i : Nat, i ≤ l.length ∧ s6 = .int .i64 i ∧ Rise l i ∧ Below w.heap.size w wr) (fun s6 _ => l.length - (intOf s6).toNat)
  case atStart => exact ⟨0, by omega, rfl, (fun j x y h => by omega), Below.refl _ _⟩
  case round =>
    obtain ⟨i, hi, rfl, hr, hbr⟩ := hrel
    have HE : Hid (∀ w', Below wr.heap.size wr w' → Below w.heap.size w w') := fun w' h => hbr.trans (h.mono hbr.size)
    haveI := Cl.inh wr.heap.size wr
    rcases Nat.lt_or_ge i l.length with hlt | hge
    · rcases i with _ | p
      · have hd : decide ((0 : Int) < ((0 : Nat) : Int)) = false := decide_eq_false (by omega)
        have hltz : ((0 : Nat) : Int) < (l.length : Int) := by omega
        clear hs hr hbr
        go_wp2_with fail
        refine wp_region_cl wr.heap.size (by kernel_rfl) (by kernel_rfl) ?_
        quiet_step (fail)
        quiet_step (fail)
        quiet_step (fail)
        quiet_step (fail)
        quiet_step (fail)
        quiet_step (fail)
        quiet_step (fail)
        quiet_step (fail)
        quiet_step (fail)
        quiet_step (fail)
        quiet_step (fail)
        quiet_step (fail)
        quiet_step (fail)
        quiet_step (fail)
        quiet_step (fail)
        quiet_step (fail)
        quiet_step (fail)
        refine wpQuiet_nil ?_
        rintro w0 ⟨z, rfl⟩
        have hz := HE.out _ z.h
        go_wp2_with fail
        go_roundw
        case rel => exact ⟨1, by omega, by go_num, (fun j x y h => by omega), hz⟩
        case measure => (simp [intOf]; try omega)
      · obtain ⟨x, hx⟩ : ∃ x, l[p]? = some x := ⟨_, List.getElem?_eq_getElem (by omega)⟩
        obtain ⟨y, hy⟩ : ∃ y, l[p + 1]? = some y := ⟨_, List.getElem?_eq_getElem (by omega)⟩
        obtain ⟨b, off, rfl, tx⟩ := (hs.below hbr (Nat.le_refl _)) _ _ hx
        obtain ⟨b', off', e, ty⟩ := (hs.below hbr (Nat.le_refl _)) _ _ hy
        injection e with e
        injection e with e1 e2
        subst e1
        subst e2
        have hyes : Hid (kc x.k.ky y.k.ky < 0 → Rise l (p + 1 + 1)) := fun h => hr.step hx hy h
        have hno : Hid (¬ kc x.k.ky y.k.ky < 0 → srtB l = false) := fun h => srtB_false (fun g => h (g p x y (by omega) hx hy))
        have C : Hid (∀ w : World, Calls Tryz.prog 61 #[x.k.v, y.k.v] w fun e w' => e = .returned (.int .i64 (kc x.k.ky y.k.ky)) ∧ Below w.heap.size w w') := fun w => refCmp_any x.k y.k w
        generalize kc x.k.ky y.k.ky = R at *
        obtain ⟨⟨xa, xp, xr, xc⟩, ⟨xt, xd, xl, xk, xn, xs⟩⟩ := x
        obtain ⟨⟨ya, yp, yr, yc⟩, ⟨yt, yd, yl, yk, yn, ys⟩⟩ := y
        simp only [Kb.v] at C
        have qx0 : ∀ z : Cl wr.heap.size wr, z.u.cell? ⟨b, off + p * 10, none⟩ = some (.string xa) := fun z => (tx.below z.h tx.lt).c0
        have qx1 : ∀ z : Cl wr.heap.size wr, z.u.cell? ⟨b, off + p * 10 + 1, none⟩ = some (.string xp) := fun z => (tx.below z.h tx.lt).c1
        have qx2 : ∀ z : Cl wr.heap.size wr, z.u.cell? ⟨b, off + p * 10 + 2, none⟩ = some (.int .i64 xr) := fun z => (tx.below z.h tx.lt).c2
        have qx3 : ∀ z : Cl wr.heap.size wr, z.u.cell? ⟨b, off + p * 10 + 3, none⟩ = some (.string xc) := fun z => (tx.below z.h tx.lt).c3
        have qy0 : ∀ z : Cl wr.heap.size wr, z.u.cell? ⟨b, off + (p + 1) * 10, none⟩ = some (.string ya) := fun z => (ty.below z.h ty.lt).c0
        have qy1 : ∀ z : Cl wr.heap.size wr, z.u.cell? ⟨b, off + (p + 1) * 10 + 1, none⟩ = some (.string yp) := fun z => (ty.below z.h ty.lt).c1
        have qy2 : ∀ z : Cl wr.heap.size wr, z.u.cell? ⟨b, off + (p + 1) * 10 + 2, none⟩ = some (.int .i64 yr) := fun z => (ty.below z.h ty.lt).c2
        have qy3 : ∀ z : Cl wr.heap.size wr, z.u.cell? ⟨b, off + (p + 1) * 10 + 3, none⟩ = some (.string yc) := fun z => (ty.below z.h ty.lt).c3
        clear tx ty hx hy hs hr hbr
        have hpz : (p : Int) + 1 < (l.length : Int) := by omega
        have hpz2 : (p : Int) < (l.length : Int) := by omega
        have hwp : IntKind.i64.wrap (p : Int) = (p : Int) := by rw [IntKind.wrap_i64]; omega
        have p0 : (0 : Int) ≤ (p : Int) + 1 := by omega
        have p1 : (0 : Int) < (p : Int) + 1 := by omega
        have e0 : ((p : Int) + 1).toNat = p + 1 := by omega
        by_cases hR : R < 0
        · have hR' := hyes.out hR
          have d : decide (0 ≤ R) = false := decide_eq_false (by omega)
          have HR : Hid (Rise l (p + 1 + 1)) := hR'
          clear hR' hyes hno hR
          go_wp2_with fail
          refine wp_region_cl wr.heap.size (by kernel_rfl) (by kernel_rfl) ?_
          quiet_step (fail)
          quiet_step (fail)
          quiet_step (fail)
          quiet_step (fail)
          quiet_step (fail)
          quiet_step (fail)
          quiet_step (fail)
          quiet_step (fail)
          quiet_step (fail)
          quiet_step (fail)
          quiet_step (fail)
          quiet_step (fail)
          quiet_step (fail)
          quiet_step (fail)
          quiet_step ((go_at_call 61; exact Cl.calls (Nat.le_refl _) (C.out _)))
          quiet_step (fail)
          quiet_step (fail)
          refine wpQuiet_nil ?_
          rintro w0 ⟨q, rfl⟩
          have hq := HE.out _ q.h
          go_wp2_with fail
          go_roundw
          case rel => exact ⟨p + 1 + 1, by omega, by go_num, HR.out, hq⟩
          case measure => (simp [intOf]; try omega)
        · have hR' : Hid (srtB l = false) := hno.out hR
          have d : decide (0 ≤ R) = true := decide_eq_true (by omega)
          clear hyes hno hR
          go_wp2_with fail
          refine wp_region_cl wr.heap.size (by kernel_rfl) (by kernel_rfl) ?_
          quiet_step (fail)
          quiet_step (fail)
          quiet_step (fail)
          quiet_step (fail)
          quiet_step (fail)
          quiet_step (fail)
          quiet_step (fail)
          quiet_step (fail)
          quiet_step (fail)
          quiet_step (fail)
          quiet_step (fail)
          quiet_step (fail)
          quiet_step (fail)
          quiet_step (fail)
          quiet_step ((go_at_call 61; exact Cl.calls (Nat.le_refl _) (C.out _)))
          quiet_step (fail)
          quiet_step (fail)
          refine wpQuiet_nil ?_
          rintro w0 ⟨q, rfl⟩
          have hq := HE.out _ q.h
          go_wp2_with fail
          go_ret
          exact ⟨ret_bool hR'.out.symm, hq⟩
    · have hR' : Hid (srtB l = true) := srtB_true (fun j x y hj hx hy => hr j x y (by omega) hx hy)
      clear hs hr
      have hge' : ¬ (i : Int) < (l.length : Int) := by omega
      go_wp2_with fail
      go_ret
      exact ⟨ret_bool hR'.out.symm, hbr⟩
end Go.Proofs.YtdookhmaiapclaaGreatDoor
namespace Go.Proofs.YtdookhmaiapclaaGreatDoor
open Go.RowKit

theorem Aw.more {w0 w w' : World} {v : Value} {xs : List UInt8} (h : Aw w0 w v xs) (hb : Below w.heap.size w w') : Aw w0 w' v xs := ⟨owns_heap h.own fun k hk => hb.block k (h.own.lt k hk).2, h.bel.trans (hb.mono h.bel.size)⟩
theorem Aw.shape {w0 w : World} {v : Value} {xs : List UInt8} (h : Aw w0 w v xs) : ∃ ao cap, v = .slice ao xs.length cap ∧ Sees w ao xs ∧ (ao = none → xs.length = 0) := by
  obtain ⟨ao, cap, e, h1, h2, h3⟩ := owns_sees h.own
  exact ⟨ao, cap, e, h1, fun e => (h3 e).1⟩
/-- A row that was just made. -/
structure Fr (w0 wr w' : World) (v : Value) (xs : List UInt8) : Prop where
  aw : Aw w0 w' v xs
  bel : Below wr.heap.size wr w'
  new : ∀ g, v.ownBlock = some g → wr.heap.size ≤ g
theorem fr_of {w0 wr w' : World} {v : Value} {xs : List UInt8} {n : Nat} (h0 : Below w0.heap.size w0 wr) (ho : w'.ownsRow wr.heap.size 5 1 v n (B8 xs)) (hn : n = xs.length) (hb : Below wr.heap.size wr w') : Fr w0 wr w' v xs := by
  subst hn
  exact ⟨⟨owns_monoB ho h0.size, h0.trans (hb.mono h0.size)⟩, hb, fun g hg => (ho.lt g hg).1⟩
/-- Two rows lie apart. -/
def Dj (v u : Value) : Prop := ∀ g, v.ownBlock = some g → u.ownBlock ≠ some g
theorem Fr.dj {w0 wr w' : World} {v u : Value} {xs ys : List UInt8} (h : Fr w0 wr w' v xs) (hu : Aw w0 wr u ys) : Dj u v := fun g hg e => by
  have h1 := h.new g e
  have h2 := (hu.own.lt g hg).2
  omega
/-- A row with more behind it. -/
theorem Aw.app {w0 w w' : World} {v v' : Value} {xs ys : List UInt8} (h : Aw w0 w v xs) (ho : w'.ownsRow w0.heap.size 5 1 v' (xs.length + ys.length) (B8 xs ++ B8 ys)) (hg : Grew w w' v v') : Aw w0 w' v' (xs ++ ys) :=
  ⟨by rw [List.length_append, B8_append]; exact ho, h.bel.trans (hg.below h.bel.size fun g e => (h.own.lt g e).1)⟩
theorem Aw.apart {w0 w w' : World} {u v v' : Value} {xs : List UInt8} (h : Aw w0 w u xs) (hg : Grew w w' v v') (hd : Dj v u) (hb : Below w0.heap.size w0 w') : Aw w0 w' u xs :=
  ⟨owns_grew h.own hg fun k hk e => hd k e hk, hb⟩
theorem Dj.grew {w w' : World} {v v' u : Value} (hd : Dj v u) (hg : Grew w w' v v') (hu : ∀ g, u.ownBlock = some g → g < w.heap.size) : Dj v' u := fun g h1 h2 => by
  rcases hg.own g h1 with h | h
  · exact hd g h h2
  · have := hu g h2
    omega
/-- An append, its run being known. -/
theorem wpList_append_run {P : Program} (w : World) {ops : Array Oper} {rest : List Oper} {o : Oper} {a : Act} {Q : Exit → Act → World → Prop} (hgd : o.guard = none) (s x : Operand) (t tx : TypeId)
    (ho : o.op = .call { callee := .builtin .append, args := #[s, x], argTypes := #[t, tx] }) (v xv : Value) (hs : a.eval s = v) (hx : a.eval x = xv) {v' : Value} {w' : World}
    (hr : (Builtin.append_ #[t, tx] o.type #[v, xv]).run P w = .ok v' w') (h : wpList P ops Q rest (a.put o.dst v') w') : wpList P ops Q (o :: rest) a w := by
  refine wpList_plain hgd fun _ hK => ?_
  unfold Oper.wp execOp
  simp only [ho, resolve, invoke, builtin, Sem.run_bind, Sem.run_pure, Result.andThen_ok, List.map_toArray, List.map_cons, List.map_nil, hs, hx, hr]
  exact hK _ _ h
theorem Dj.symm {v u : Value} (h : Dj v u) : Dj u v := fun g h1 h2 => h g h2 h1
theorem Aw.up {w0 w1 w2 : World} {v : Value} {xs : List UInt8} (h : Aw w1 w2 v xs) (hb : Below w0.heap.size w0 w1) : Aw w0 w2 v xs := ⟨owns_monoB h.own hb.size, hb.trans (h.bel.mono hb.size)⟩
theorem Aw.src {w0 w : World} {v : Value} {xs : List UInt8} (h : Aw w0 w v xs) : Src Tryz.prog 1 29 v xs.length (B8 xs) w := src_owns h.own
/-- An append to a row. -/
theorem rApp {w0 w : World} {v x : Value} {xs ys : List UInt8} (h : Aw w0 w v xs) (hs : Src Tryz.prog 1 29 x ys.length (B8 ys) w) (hl : xs.length + ys.length ≤ 100000000) :
    ∃ v' w', (Builtin.append_ #[29, 29] 29 #[v, x]).run Tryz.prog w = .ok v' w' ∧ Aw w0 w' v' (xs ++ ys) ∧ Grew w w' v v' := by
  obtain ⟨i0, hi, hz0, hz1, hz2⟩ := info_parts info8
  obtain ⟨v', w', h1, h2, h3⟩ := run_append_grew (P := Tryz.prog) w w0.heap.size 29 29 29 5 i0 _ 1 1 Tryz.underlying29 hi hz0 hz1 hz2 rfl v xs.length _ h.own x ys.length (B8 ys) hs (by unfold maxLen; omega) (by omega) h.bel.size
  exact ⟨v', w', h1, h.app h2 h3, h3⟩
theorem aw_lit0 (w : World) : Aw w (w.alloc (.cells #[] 5)) (.slice (some ⟨w.heap.size, 0, none⟩) 0 0) [] :=
  ⟨World.ownsRow_lit w #[] (e := 5) (size := 1) 0 (Nat.le_refl _) (by unfold maxLen; omega) rfl, (Below.refl _ _).alloc (Nat.le_refl _) _⟩
section
variable {w0 wr : World} {v : Value} {xs : List UInt8}
theorem rPut (h : Aw w0 wr v xs) (u : Nat) (hu : u < 18446744073709551616) (hl : xs.length ≤ 100000000) : Calls Tryz.prog 31 #[v, .int .u64 u] wr fun e w' => ∃ v', e = .returned v' ∧ Fr w0 wr w' v' (xs ++ numL u) := by
  obtain ⟨ao, cap, rfl, hs, hn⟩ := h.shape
  refine (refPut_any ao xs cap u wr hs hn (by omega) hu).mono ?_
  rintro e w' ⟨v', rfl, ho, hb⟩
  exact ⟨v', rfl, fr_of h.bel ho (by simp) hb⟩
theorem rPutNil (h0 : Below w0.heap.size w0 wr) (u : Nat) (hu : u < 18446744073709551616) : Calls Tryz.prog 31 #[.slice none 0 0, .int .u64 u] wr fun e w' => ∃ v', e = .returned v' ∧ Fr w0 wr w' v' (numL u) := by
  refine (refPut_any none [] 0 u wr (Sees.nil _ _) (fun _ => rfl) (by simp) hu).mono ?_
  rintro e w' ⟨v', rfl, ho, hb⟩
  exact ⟨v', rfl, fr_of h0 ho (by simp) hb⟩
theorem rText (h : Aw w0 wr v xs) (bs : List UInt8) (hl : xs.length ≤ 100000000) (hb0 : bs.length ≤ 100000000) : Calls Tryz.prog 29 #[v, .string ⟨bs.toArray⟩] wr fun e w' => ∃ v', e = .returned v' ∧ Fr w0 wr w' v' (xs ++ txtL bs) := by
  obtain ⟨ao, cap, rfl, hs, hn⟩ := h.shape
  have hz : (⟨bs.toArray⟩ : ByteArray).size = bs.length := by show bs.toArray.size = _; simp
  refine (refPutText_any ao xs cap ⟨bs.toArray⟩ wr hs hn (by omega)).mono ?_
  rintro e w' ⟨v', rfl, ho, hb⟩
  exact ⟨v', rfl, fr_of h.bel ho (by simp) hb⟩
theorem rFrame (h : Aw w0 wr v xs) (hl : xs.length ≤ 262144) : Calls Tryz.prog 28 #[v] wr fun e w' => ∃ v', e = .returned v' ∧ Fr w0 wr w' v' (frameL xs) := by
  obtain ⟨ao, cap, rfl, hs, hn⟩ := h.shape
  refine (refFrame_any ao xs cap wr hl hs hn).mono ?_
  rintro e w' ⟨v', rfl, ho, hb⟩
  exact ⟨v', rfl, fr_of h.bel ho (by rw [frameL_len]) hb⟩
theorem rSum (h : Aw w0 wr v xs) (hl : xs.length ≤ 100000000000) : Calls Tryz.prog 34 #[v] wr fun e w' => e = .returned (.int .u32 (sumZ xs)) ∧ w' = wr := by
  obtain ⟨ao, cap, rfl, hs, hn⟩ := h.shape
  exact refSum_any ao xs cap wr hs (by omega)
theorem rBytes (h0 : Below w0.heap.size w0 wr) (k : Kb) (hk : k.Ok) : Calls Tryz.prog 30 #[k.v] wr fun e w' => ∃ v', e = .returned v' ∧ Fr w0 wr w' v' (encK k.ky) := by
  refine (refBytes_any k wr hk).mono ?_
  rintro e w' ⟨v', rfl, ha⟩
  exact ⟨v', rfl, fr_of h0 ha.own rfl ha.bel⟩
theorem rCells (h0 : Below w0.heap.size w0 wr) (ao : Option Addr) (l : List Cx) (cap : Nat) (hs : XSees wr ao l) (hsm : ∀ c ∈ l, SmallX c) (hnum : ∀ c ∈ l, c.Nums) (hl : l.length ≤ 8) : Calls Tryz.prog 27 #[.slice ao l.length cap] wr fun e w' => ∃ v', e = .returned v' ∧ Fr w0 wr w' v' (cxB l) := by
  have hw : wtL (l.map toC) ≤ 160 * l.length := by
    clear hs hnum hl
    induction l with
    | nil => simp [wtL]
    | cons c r ih =>
      have h1 := ih fun x hx => hsm x (by simp [hx])
      obtain ⟨a, b, d, e⟩ := hsm c (by simp)
      have h3 : wtC (toC c) ≤ 160 := by
        show c.k.t.size + c.k.p.size + c.k.c.size + c.v.s.size ≤ 160
        omega
      simp only [wtL, List.map_cons, List.sum_cons, List.length_cons] at *
      omega
  have h := refCells_any ao (l.map toC) cap wr hs.c (fun c hc => by obtain ⟨x, hx, rfl⟩ := List.mem_map.1 hc; exact (hnum x hx).ok) (by rw [List.length_map]; omega)
  rw [List.length_map] at h
  refine h.mono ?_
  rintro e w' ⟨v', rfl, ho, hb⟩
  exact ⟨v', rfl, fr_of h0 ho rfl hb⟩
end
end Go.Proofs.YtdookhmaiapclaaGreatDoor
namespace Go.Proofs.YtdookhmaiapclaaGreatDoor
open Go.RowKit

theorem toHidW {p : Prop} (h : p) : Hid p := h
theorem ixB_snoc (l : List Cx) (k : Nat) {c : Cx} {r : List Cx} (h : chk l k = c :: r) : (List.range (k + 1)).flatMap (ixB l) = (List.range k).flatMap (ixB l) ++ txtL (encK c.k.ky) ++ numL (frameL (cxB (chk l k))).length := by
  rw [List.range_succ, List.flatMap_append]
  simp only [List.flatMap_cons, List.flatMap_nil, List.append_nil, ixB, blkB]
  rw [h]
  simp [kyB]
theorem blks_succ (l : List Cx) (k : Nat) : blksB l (List.range (k + 1)) = blksB l (List.range k) ++ frameL (cxB (chk l k)) := by rw [List.range_succ, blksB_snoc]
set_option maxRecDepth 100000 in
set_option maxHeartbeats 4000000 in
theorem rwrite_any (b off cap : Nat) (l : List Cx) (w : World) (hs : XSees w (some ⟨b, off, none⟩) l) (hl : l.length ≤ 9000) (hcap : l.length ≤ cap) (hfit : ∀ c ∈ l, c.Fit) (hnum : ∀ c ∈ l, c.Nums) (hwr : wrtB l = true) :
    Calls Tryz.prog 9 #[.slice (some ⟨b, off, none⟩) l.length cap] w fun e w' => ∃ v, e = .returned (.tuple #[v, .int .i64 0]) ∧ Aw w w' v (encTb l) := by
  obtain ⟨i0, hi, hz0, hz1, hz2⟩ := info_parts info8
  have hw3 : 0 < l.length ∧ srtB l = true ∧ l.all goodC = true := by
    unfold wrtB at hwr
    simpa only [Bool.and_eq_true, decide_eq_true_eq] using hwr
  obtain ⟨hpos, hsrt, hgood⟩ := hw3
  have hgd : ∀ c ∈ l, goodC c = true := List.all_eq_true.1 hgood
  have HSL : Hid (∀ c ∈ l, SmallX c) := fun c h => good_small (hgd c h)
  have ST : Hid (Calls Tryz.prog 25 #[.slice (some ⟨b, off, none⟩) l.length cap] w fun e w' => e = .returned (.bool true) ∧ Below w.heap.size w w') := by
    have h := refSorted_any (some ⟨b, off, none⟩) l cap w hs (by omega)
    rw [hsrt] at h
    exact h
  have GD : Hid (∀ c ∈ l, ∀ u : World, Calls Tryz.prog 26 #[c.val] u fun x w' => x = .returned (.bool true) ∧ Below u.heap.size u w') := fun c hc u => by
    have h := refGoodX_any c u (hfit c hc).t (hfit c hc).p (hfit c hc).c (hfit c hc).s
    rw [hgd c hc] at h
    exact h
  have hlz : (l.length : Int) ≤ 9000 := by omega
  have hlp : (0 : Int) < (l.length : Int) := by omega
  have HXS : Hid (∀ u, Below w.heap.size w u → XSees u (some ⟨b, off, none⟩) l) := fun u hu => hs.below hu (Nat.le_refl _)
  have HNUM : Hid (∀ c ∈ l, c.Nums) := hnum
  have HGD : Hid (∀ c ∈ l, goodC c = true) := hgd
  clear hs hfit hnum hwr hsrt hgood hgd
  go_enter Tryz.func9, Tryz.ntmps9
  go_wp2_with fail
  refine ST.out.mono ?_
  rintro e w1 ⟨rfl, hb1⟩
  clear ST
  go_wp2_with fail
  go_loopw [36] (fun s36 wr => ∃ i : Nat, i ≤ l.length ∧ s36 = .int .i64 i ∧ Below w.heap.size w wr) (fun s36 _ => l.length - (intOf s36).toNat)
  case atStart => exact ⟨0, by omega, rfl, hb1⟩
  case round =>
    obtain ⟨i, hi', rfl, hbr⟩ := hrel
    clear hb1
    rcases Nat.lt_or_ge i l.length with hlt | hge
    · obtain ⟨c, hc⟩ : ∃ c, l[i]? = some c := ⟨_, List.getElem?_eq_getElem hlt⟩
      obtain ⟨b', off', eb, t⟩ := (HXS.out wr hbr) i c hc
      cases eb
      have G := GD.out c (List.mem_of_getElem? hc) (wr.alloc (.cells c.a 59))
      have hbv : Below wr.heap.size wr (wr.alloc (.cells c.a 59)) := (Below.refl _ _).alloc (Nat.le_refl _) _
      have HB : Hid (∀ u, Below (wr.alloc (.cells c.a 59)).heap.size (wr.alloc (.cells c.a 59)) u → Below w.heap.size w u) := fun u hu => hbr.trans ((hbv.trans (hu.mono hbv.size)).mono hbr.size)
      have hltz : (i : Int) < (l.length : Int) := by omega
      clear hc hbv
      obtain ⟨⟨ct, cp, cr, cc⟩, ⟨cti, cd, cl, ck, cn, cstr⟩⟩ := c
      obtain ⟨k0, k1, k2, k3, k4, k5, k6, k7, k8, k9⟩ := t
      simp only [Cx.a, Cx.val] at k0 k1 k2 k3 k4 k5 k6 k7 k8 k9 G HB
      have G2 := toHidW G
      clear G
      go_wp2_with fail
      refine (Hid.out G2).mono ?_
      rintro e u ⟨rfl, hu⟩
      have hbu := HB.out u hu
      clear k0 k1 k2 k3 k4 k5 k6 k7 k8 k9 G2 HB
      go_wp2_with fail
      go_roundw
      case rel => exact ⟨i + 1, by omega, by go_num, hbu⟩
      case measure => (simp [intOf]; try omega)
    · obtain rfl : i = l.length := by omega
      have hgez : ¬ (l.length : Int) < (l.length : Int) := by omega
      have HA0 : Hid (Aw w wr (.slice none 0 0) []) := ⟨World.ownsRow_nil _ _ _ _, hbr⟩
      clear GD
      go_wp2_with fail
      go_loopw [6, 7, 8, 9] (fun s6 s7 s8 s9 wr => ∃ (k : Nat) (v6 v7 : Value), k ≤ nBk l.length ∧ s8 = .int .i64 k ∧ s9 = .int .i64 ((8 * k : Nat) : Int) ∧ Aw w wr s6 (blksB l (List.range k)) ∧ Aw w wr s7 ((List.range k).flatMap (ixB l)) ∧ Dj s6 s7) (fun _ _ s8 _ _ => nBk l.length - (intOf s8).toNat)
      case atStart => exact ⟨0, .slice none 0 0, .slice none 0 0, by omega, rfl, rfl, HA0.out, HA0.out, fun g h => by cases h⟩
      case round =>
        obtain ⟨k, _, _, hk, rfl, rfl, h6, h7, hdj⟩ := hrel
        clear HA0 hbr
        have hnb : nBk l.length = (l.length + 7) / 8 := rfl
        have HBL : Hid ((blksB l (List.range k)).length ≤ 1946 * k) := by have h := blksB_len HSL.out (List.range k); rw [List.length_range] at h; exact h
        have HIL : Hid (((List.range k).flatMap (ixB l)).length ≤ 210 * k) := by have h := flat_le (ixB l) 210 (fun x => ixB_len HSL.out x) (List.range k); rw [List.length_range] at h; exact h
        rcases Nat.lt_or_ge (8 * k) l.length with hlt | hge
        · obtain ⟨c, r, hck⟩ := chk_cons (l := l) (k := k) (by rw [hnb]; omega)
          have HBK : Hid (blksB l (List.range (k + 1)) = blksB l (List.range k) ++ frameL (cxB (chk l k))) := blks_succ l k
          have HIX : Hid ((List.range (k + 1)).flatMap (ixB l) = (List.range k).flatMap (ixB l) ++ txtL (encK c.k.ky) ++ numL (frameL (cxB (chk l k))).length) := ixB_snoc l k hck
          have hc0 : l[8 * k]? = some c := by
            have h : (chk l k)[0]? = some c := by rw [hck]; rfl
            have h2 := chk_at h
            simpa using h2
          have hcm := List.mem_of_getElem? hc0
          have hcs := HSL.out c hcm
          have HKL : Hid ((encK c.k.ky).length ≤ 206) := encK_len hcs
          have BYT : Hid (∀ u : World, Below w.heap.size w u → Calls Tryz.prog 30 #[c.k.v] u fun e w' => ∃ v', e = .returned v' ∧ Fr w u w' v' (encK c.k.ky)) := fun u hu => rBytes hu c.k (hcs.ok (HNUM.out c hcm).r)
          have TEN : Hid (∀ u : World, Below w.heap.size w u → u.cell? ⟨b, off + 8 * k * 10, none⟩ = some (.string c.k.t) ∧ u.cell? ⟨b, off + 8 * k * 10 + 1, none⟩ = some (.string c.k.p) ∧ u.cell? ⟨b, off + 8 * k * 10 + 2, none⟩ = some (.int .i64 c.k.r) ∧ u.cell? ⟨b, off + 8 * k * 10 + 3, none⟩ = some (.string c.k.c)) := fun u hu => by
            obtain ⟨b2, o2, e2, t⟩ := (HXS.out u hu) (8 * k) c hc0
            cases e2
            exact ⟨t.c0, t.c1, t.c2, t.c3⟩
          have XS : Hid (∀ u : World, Below w.heap.size w u → XSees u (some ⟨b, off + 8 * k * 10, none⟩) (chk l k)) := fun u hu => xsees_chk (HXS.out u hu) k
          have HSM : Hid (∀ x ∈ chk l k, SmallX x) := fun x hx => HSL.out x (chk_mem hx)
          have HNM : Hid (∀ x ∈ chk l k, x.Nums) := fun x hx => HNUM.out x (chk_mem hx)
          obtain ⟨a, ha⟩ : ∃ a, a = 8 * k := ⟨_, rfl⟩
          rw [← ha] at TEN XS hlt ⊢
          have HA : Hid (a = 8 * k) := ha
          have haz : ((8 * k : Nat) : Int) = (a : Int) := by rw [ha]
          have hkz : (k : Int) ≤ 1125 := by omega
          have haa : a ≤ 9000 := by omega
          have haz2 : (a : Int) < (l.length : Int) := by omega
          have HDJ : Hid (Dj u6 u7) := hdj
          have hbl := HBL.out
          have hil := HIL.out
          have hkl := HKL.out
          generalize blksB l (List.range k) = bk at *
          generalize (List.range k).flatMap (ixB l) = ix at *
          generalize encK c.k.ky = kb at *
          obtain ⟨⟨ct, cp, cr, cc⟩, cv'⟩ := c
          simp only [Kb.v] at BYT TEN
          obtain ⟨a6, c6, e6, -, -⟩ := h6.shape
          clear hck hc0 hcm hcs HBL HIL HKL hdj ha haz
          subst e6
          by_cases hend : l.length < a + 8
          · have hez : ((l.length : Int)) < (a : Int) + 8 := by omega
            have hce : (chk l k).length = l.length - a := by have ha := HA.out; rw [chk_size]; omega
            have CE : Hid (Calls Tryz.prog 27 #[.slice (some ⟨b, off + a * 10, none⟩) (chk l k).length (cap - a)] wr fun e w' => ∃ v', e = .returned v' ∧ Fr w wr w' v' (cxB (chk l k))) := rCells h6.bel _ _ _ (XS.out wr h6.bel) HSM.out HNM.out (by have := chk_len l k; omega)
            rw [hce] at CE
            have HCB : Hid ((cxB (chk l k)).length ≤ 1938) := chkB_len HSL.out k
            generalize cxB (chk l k) = cb at *
            clear hce
            go_wp2_with fail
            go_fit CE.out
            rintro e u1 ⟨v11, rfl, F1⟩
            clear CE
            have hcb := HCB.out
            have FM : Hid (Calls Tryz.prog 28 #[v11] u1 fun e w' => ∃ v', e = .returned v' ∧ Fr w u1 w' v' (frameL cb)) := rFrame F1.aw (by omega)
            have H61 : Hid (Aw w u1 (.slice a6 bk.length c6) bk) := h6.more F1.bel
            have H71 : Hid (Aw w u1 u7 ix) := h7.more F1.bel
            obtain ⟨a11, c11, e11, -, -⟩ := F1.aw.shape
            rw [e11] at FM ⊢
            have hcz : (cb.length : Int) ≤ 1938 := by omega
            clear F1 h6 h7
            go_wp2_with fail
            refine FM.out.mono ?_
            rintro e u2 ⟨v12, rfl, F2⟩
            clear FM e11
            have hfl : (frameL cb).length ≤ 1946 := by rw [frameL_len]; omega
            generalize frameL cb = fb at *
            have H62 : Hid (Aw w u2 (.slice a6 bk.length c6) bk) := H61.out.more F2.bel
            have H72 : Hid (Aw w u2 u7 ix) := H71.out.more F2.bel
            have HD62 : Hid (Dj (.slice a6 bk.length c6) v12) := F2.dj H61.out
            have H12 : Hid (Aw w u2 v12 fb) := F2.aw
            have SR : Hid (Src Tryz.prog 1 29 v12 fb.length (B8 fb) u2) := src_owns F2.aw.own
            obtain ⟨a12, c12, e12, -, -⟩ := F2.aw.shape
            subst e12
            clear F2 H61 H71
            go_wp2_with (at_builtin; go_must (refine wpList_append_grew _ rfl _ _ 29 29 rfl w.heap.size 5 i0 _ 1 1 Tryz.underlying29 hi hz0 hz1 hz2 rfl _ bk.length _ rfl H62.out.own _ fb.length (B8 fb) rfl SR.out (by unfold maxLen; omega) (by omega) H62.out.bel.size ?_; intro v6' u3 ho3 hg3; obtain ⟨k0, k1, k2, k3⟩ := TEN.out u3 (H62.out.app ho3 hg3).bel))
            have H63 : Hid (Aw w u3 v6' (bk ++ fb)) := H62.out.app ho3 hg3
            have H73 : Hid (Aw w u3 u7 ix) := H72.out.apart hg3 HDJ.out H63.out.bel
            have H123 : Hid (Aw w u3 (.slice a12 fb.length c12) fb) := H12.out.apart hg3 HD62.out H63.out.bel
            have HD63 : Hid (Dj v6' u7) := HDJ.out.grew hg3 fun g e => (H72.out.own.lt g e).2
            have BY : Hid (Calls Tryz.prog 30 #[.agg #[.string ct, .string cp, .int .i64 cr, .string cc]] u3 fun e w' => ∃ v', e = .returned v' ∧ Fr w u3 w' v' kb) := BYT.out u3 H63.out.bel
            clear ho3 hg3 H62 H72 H12 HD62 SR
            refine BY.out.mono ?_
            rintro e u4 ⟨v77, rfl, F4⟩
            clear BY k0 k1 k2 k3
            obtain ⟨a77, c77, e77, s77, n77⟩ := F4.aw.shape
            subst e77
            have hcv := conv_sees s77 n77 c77
            have H74 : Hid (Aw w u4 u7 ix) := H73.out.more F4.bel
            have TX : Hid (Calls Tryz.prog 29 #[u7, .string ⟨kb.toArray⟩] u4 fun e w' => ∃ v', e = .returned v' ∧ Fr w u4 w' v' (ix ++ txtL kb)) := rText H74.out kb (by omega) (by omega)
            have H64 : Hid (Aw w u4 v6' (bk ++ fb)) := H63.out.more F4.bel
            clear F4 s77 n77 H63 H73
            go_wp2_with fail
            refine TX.out.mono ?_
            rintro e u5 ⟨v79, rfl, F5⟩
            clear TX hcv
            have H65 : Hid (Aw w u5 v6' (bk ++ fb)) := H64.out.more F5.bel
            have htl : (ix ++ txtL kb).length ≤ 20000000 := by
              have := numL_length kb.length
              rw [List.length_append]
              unfold txtL
              rw [List.length_append]
              omega
            have PU : Hid (Calls Tryz.prog 31 #[v79, .int .u64 fb.length] u5 fun e w' => ∃ v', e = .returned v' ∧ Fr w u5 w' v' (ix ++ txtL kb ++ numL fb.length)) := rPut F5.aw fb.length (by omega) (by omega)
            have wf : IntKind.u64.wrap (fb.length : Int) = (fb.length : Int) := by rw [IntKind.wrap_u64]; omega
            clear F5 H64
            go_wp2_with fail
            refine PU.out.mono ?_
            rintro e u6 ⟨v84, rfl, F6⟩
            clear PU
            have HF : Hid (Aw w u6 v6' (bk ++ fb) ∧ Aw w u6 v84 (ix ++ txtL kb ++ numL fb.length) ∧ Dj v6' v84) := ⟨H65.out.more F6.bel, F6.aw, F6.dj H65.out⟩
            clear F6 H65 H74 H123 HD63
            go_wp2_with fail
            go_roundw
            case rel => exact ⟨k + 1, .nilFunc, .nilFunc, by have ha := HA.out; omega, by go_num, congrArg (Value.int .i64) (by have ha := HA.out; omega), by rw [HBK.out]; exact HF.out.1, by rw [HIX.out]; exact HF.out.2.1, HF.out.2.2⟩
            case measure => (have ha := HA.out; simp [intOf]; try omega)
          · have hez : ¬ ((l.length : Int)) < (a : Int) + 8 := by omega
            have hce : (chk l k).length = 8 := by have ha := HA.out; rw [chk_size]; omega
            have CE : Hid (Calls Tryz.prog 27 #[.slice (some ⟨b, off + a * 10, none⟩) (chk l k).length (cap - a)] wr fun e w' => ∃ v', e = .returned v' ∧ Fr w wr w' v' (cxB (chk l k))) := rCells h6.bel _ _ _ (XS.out wr h6.bel) HSM.out HNM.out (by have := chk_len l k; omega)
            rw [hce] at CE
            have HCB : Hid ((cxB (chk l k)).length ≤ 1938) := chkB_len HSL.out k
            generalize cxB (chk l k) = cb at *
            clear hce
            go_wp2_with fail
            go_fit CE.out
            rintro e u1 ⟨v11, rfl, F1⟩
            clear CE
            have hcb := HCB.out
            have FM : Hid (Calls Tryz.prog 28 #[v11] u1 fun e w' => ∃ v', e = .returned v' ∧ Fr w u1 w' v' (frameL cb)) := rFrame F1.aw (by omega)
            have H61 : Hid (Aw w u1 (.slice a6 bk.length c6) bk) := h6.more F1.bel
            have H71 : Hid (Aw w u1 u7 ix) := h7.more F1.bel
            obtain ⟨a11, c11, e11, -, -⟩ := F1.aw.shape
            rw [e11] at FM ⊢
            have hcz : (cb.length : Int) ≤ 1938 := by omega
            clear F1 h6 h7
            go_wp2_with fail
            refine FM.out.mono ?_
            rintro e u2 ⟨v12, rfl, F2⟩
            clear FM e11
            have hfl : (frameL cb).length ≤ 1946 := by rw [frameL_len]; omega
            generalize frameL cb = fb at *
            have H62 : Hid (Aw w u2 (.slice a6 bk.length c6) bk) := H61.out.more F2.bel
            have H72 : Hid (Aw w u2 u7 ix) := H71.out.more F2.bel
            have HD62 : Hid (Dj (.slice a6 bk.length c6) v12) := F2.dj H61.out
            have H12 : Hid (Aw w u2 v12 fb) := F2.aw
            have SR : Hid (Src Tryz.prog 1 29 v12 fb.length (B8 fb) u2) := src_owns F2.aw.own
            obtain ⟨a12, c12, e12, -, -⟩ := F2.aw.shape
            subst e12
            clear F2 H61 H71
            go_wp2_with (at_builtin; go_must (refine wpList_append_grew _ rfl _ _ 29 29 rfl w.heap.size 5 i0 _ 1 1 Tryz.underlying29 hi hz0 hz1 hz2 rfl _ bk.length _ rfl H62.out.own _ fb.length (B8 fb) rfl SR.out (by unfold maxLen; omega) (by omega) H62.out.bel.size ?_; intro v6' u3 ho3 hg3; obtain ⟨k0, k1, k2, k3⟩ := TEN.out u3 (H62.out.app ho3 hg3).bel))
            have H63 : Hid (Aw w u3 v6' (bk ++ fb)) := H62.out.app ho3 hg3
            have H73 : Hid (Aw w u3 u7 ix) := H72.out.apart hg3 HDJ.out H63.out.bel
            have H123 : Hid (Aw w u3 (.slice a12 fb.length c12) fb) := H12.out.apart hg3 HD62.out H63.out.bel
            have HD63 : Hid (Dj v6' u7) := HDJ.out.grew hg3 fun g e => (H72.out.own.lt g e).2
            have BY : Hid (Calls Tryz.prog 30 #[.agg #[.string ct, .string cp, .int .i64 cr, .string cc]] u3 fun e w' => ∃ v', e = .returned v' ∧ Fr w u3 w' v' kb) := BYT.out u3 H63.out.bel
            clear ho3 hg3 H62 H72 H12 HD62 SR
            refine BY.out.mono ?_
            rintro e u4 ⟨v77, rfl, F4⟩
            clear BY k0 k1 k2 k3
            obtain ⟨a77, c77, e77, s77, n77⟩ := F4.aw.shape
            subst e77
            have hcv := conv_sees s77 n77 c77
            have H74 : Hid (Aw w u4 u7 ix) := H73.out.more F4.bel
            have TX : Hid (Calls Tryz.prog 29 #[u7, .string ⟨kb.toArray⟩] u4 fun e w' => ∃ v', e = .returned v' ∧ Fr w u4 w' v' (ix ++ txtL kb)) := rText H74.out kb (by omega) (by omega)
            have H64 : Hid (Aw w u4 v6' (bk ++ fb)) := H63.out.more F4.bel
            clear F4 s77 n77 H63 H73
            go_wp2_with fail
            refine TX.out.mono ?_
            rintro e u5 ⟨v79, rfl, F5⟩
            clear TX hcv
            have H65 : Hid (Aw w u5 v6' (bk ++ fb)) := H64.out.more F5.bel
            have htl : (ix ++ txtL kb).length ≤ 20000000 := by
              have := numL_length kb.length
              rw [List.length_append]
              unfold txtL
              rw [List.length_append]
              omega
            have PU : Hid (Calls Tryz.prog 31 #[v79, .int .u64 fb.length] u5 fun e w' => ∃ v', e = .returned v' ∧ Fr w u5 w' v' (ix ++ txtL kb ++ numL fb.length)) := rPut F5.aw fb.length (by omega) (by omega)
            have wf : IntKind.u64.wrap (fb.length : Int) = (fb.length : Int) := by rw [IntKind.wrap_u64]; omega
            clear F5 H64
            go_wp2_with fail
            refine PU.out.mono ?_
            rintro e u6 ⟨v84, rfl, F6⟩
            clear PU
            have HF : Hid (Aw w u6 v6' (bk ++ fb) ∧ Aw w u6 v84 (ix ++ txtL kb ++ numL fb.length) ∧ Dj v6' v84) := ⟨H65.out.more F6.bel, F6.aw, F6.dj H65.out⟩
            clear F6 H65 H74 H123 HD63
            go_wp2_with fail
            go_roundw
            case rel => exact ⟨k + 1, .nilFunc, .nilFunc, by have ha := HA.out; omega, by go_num, congrArg (Value.int .i64) (by have ha := HA.out; omega), by rw [HBK.out]; exact HF.out.1, by rw [HIX.out]; exact HF.out.2.1, HF.out.2.2⟩
            case measure => (have ha := HA.out; simp [intOf]; try omega)
        · have hkk : k = nBk l.length := by omega
          have HK : Hid (k = nBk l.length) := hkk
          have hk11 : k ≤ 1125 := by omega
          have hkz : (k : Int) ≤ 1125 := by omega
          have hge' : ¬ ((8 * k : Nat) : Int) < (l.length : Int) := by omega
          obtain ⟨S, hS⟩ := Int.eq_ofNat_of_zero_le (sumZ_bd (headB l)).1
          have hS32 := (sumZ_bd (headB l)).2
          have hnO : nOf l.length 10 ≤ 11251 := by unfold nOf; omega
          have lF := fltB_len l
          have lE := endC_len l
          have eA : allK l = List.range k := by unfold allK; rw [hkk]
          have eI : idxB l (allK l) = numL k ++ (List.range k).flatMap (ixB l) := by unfold idxB; rw [eA, hkk]
          have hbl := HBL.out
          have hil := HIL.out
          have lN := (numL_length k).2
          have HOK : Hid (∀ c ∈ l, c.k.Ok) := fun c hc => (HSL.out c hc).ok (HNUM.out c hc).r
          have eH : headB l = blksB l (List.range k) ++ frameL (numL k ++ (List.range k).flatMap (ixB l)) ++ frameL (fltB l) := by unfold headB; rw [eI, eA]
          have eE : endC l = numL l.length ++ numL (blksB l (List.range k)).length ++ numL (frameL (numL k ++ (List.range k).flatMap (ixB l))).length ++ numL (frameL (fltB l)).length ++ numL S := by
            have hS2 : (sumZ (headB l)).toNat = S := by rw [hS]; rfl
            unfold endC
            rw [hS2, eI, eA]
            simp only [List.append_assoc]
          have HFIN : Hid (encTb l = headB l ++ frameL (endC l) ++ [UInt8.ofNat (frameL (endC l)).length]) := rfl
          have HH : Hid (headB l = blksB l (List.range k) ++ frameL (numL k ++ (List.range k).flatMap (ixB l)) ++ frameL (fltB l)) := eH
          have HE : Hid (endC l = numL l.length ++ numL (blksB l (List.range k)).length ++ numL (frameL (numL k ++ (List.range k).flatMap (ixB l))).length ++ numL (frameL (fltB l)).length ++ numL S) := eE
          have HS : Hid (sumZ (headB l) = (S : Int)) := hS
          have hSl : S ≤ 4294967295 := by omega
          have HBY : Hid (∀ (u : World) (m : FM), RAt u m 7 (filB l.length l) → Calls Tryz.prog 33 #[m.v] u fun e w' => ∃ v, e = .returned v ∧ w'.ownsRow u.heap.size 5 1 v (fltB l).length (B8 (fltB l)) ∧ Below u.heap.size u w') := fun u m h => fRefBytes_any h
          have HFL : Hid (∀ u : World, Below w.heap.size w u → Calls Tryz.prog 32 #[.slice (some ⟨b, off, none⟩) l.length cap] u fun e w' => ∃ m : FM, e = .returned m.v ∧ RAt w' m 7 (filB l.length l) ∧ Below u.heap.size u w') := fun u hu => (rfilter_any (some ⟨b, off, none⟩) l cap u (HXS.out u hu) (by omega) HOK.out).mono fun e w' ⟨m, h1, h2, _, _, h3⟩ => ⟨m, h1, h2, h3⟩
          obtain ⟨TB, hTB⟩ : ∃ TB, TB = encTb l := ⟨_, rfl⟩
          rw [← hTB] at HFIN
          have HTB : Hid (TB = encTb l) := hTB
          clear hTB
          generalize headB l = HB at *
          generalize endC l = EB at *
          generalize fltB l = FB at *
          generalize blksB l (List.range k) = BK at *
          generalize (List.range k).flatMap (ixB l) = IX at *
          generalize filB l.length l = fil at *
          clear hkk eA eI eH eE hS HBL HIL HGD HXS HSL HNUM HOK
          have PN : Hid (Calls Tryz.prog 31 #[.slice none 0 0, .int .u64 k] wr fun e w' => ∃ v', e = .returned v' ∧ Fr w wr w' v' (numL k)) := rPutNil h6.bel k (by omega)
          have wk : IntKind.u64.wrap (k : Int) = (k : Int) := by rw [IntKind.wrap_u64]; omega
          have H6 : Hid (Aw w wr u6 BK) := h6
          have H7 : Hid (Aw w wr u7 IX) := h7
          clear h6 h7 hdj hge
          go_wp2_with fail
          refine PN.out.mono ?_
          rintro e x1 ⟨v89, rfl, F1⟩
          clear PN
          obtain ⟨v91, x2, r2, A2, g2⟩ := rApp F1.aw (H7.out.more F1.bel).src (by omega)
          have H62 : Hid (Aw w x2 u6 BK) := (H6.out.more F1.bel).apart g2 (F1.dj H6.out).symm A2.bel
          obtain ⟨a91, c91, e91, -, -⟩ := A2.shape
          obtain ⟨IDX, hIDX⟩ : ∃ IDX, IDX = numL k ++ IX := ⟨_, rfl⟩
          rw [← hIDX] at A2 e91 HH HE
          have lI : IDX.length ≤ 240000 := by rw [hIDX, List.length_append]; omega
          clear hIDX
          subst e91
          have H91 : Hid (Aw w x2 (.slice a91 IDX.length c91) IDX) := A2
          have HF2 := HFL.out x2 A2.bel
          have HF3 : Hid (Calls Tryz.prog 32 #[.slice (some ⟨b, off, none⟩) l.length cap] x2 fun e w' => ∃ m : FM, e = .returned m.v ∧ RAt w' m 7 fil ∧ Below x2.heap.size x2 w') := HF2
          clear F1 g2 A2 H6 H7 HF2 HFL
          go_wp2_with (at_builtin; first | refine wpList_append_run _ rfl _ _ _ _ rfl _ _ rfl rfl (by exact r2) ?_)
          refine HF3.out.mono ?_
          rintro e x3 ⟨m, rfl, hm3, b3⟩
          have HB3 := toHidW (HBY.out x3 m hm3)
          obtain ⟨md, mg, mcap, mrest⟩ := m
          have H63 : Hid (Aw w x3 u6 BK) := H62.out.more b3
          have H913 : Hid (Aw w x3 (.slice a91 IDX.length c91) IDX) := H91.out.more b3
          simp only [FM.v] at HB3 ⊢
          clear HF3 hm3 HBY H62 H91
          go_wp2_with fail
          refine (Hid.out HB3).mono ?_
          rintro e x4 ⟨v94, rfl, o4, b4⟩
          clear HB3
          have F4 := fr_of H63.out.bel o4 rfl b4
          have H64 : Hid (Aw w x4 u6 BK) := H63.out.more b4
          have H914 : Hid (Aw w x4 (.slice a91 IDX.length c91) IDX) := H913.out.more b4
          obtain ⟨a94, c94, e94, -, -⟩ := F4.aw.shape
          subst e94
          have H94 : Hid (Aw w x4 (.slice a94 FB.length c94) FB) := F4.aw
          have lFz : FB.length ≤ 12000 := by omega
          have lFz2 : (FB.length : Int) ≤ 12000 := by omega
          have lIz : (IDX.length : Int) ≤ 240000 := by omega
          have FX : Hid (Calls Tryz.prog 28 #[.slice a91 IDX.length c91] x4 fun e w' => ∃ v', e = .returned v' ∧ Fr w x4 w' v' (frameL IDX)) := rFrame H914.out (by omega)
          clear F4 o4 b4 H63 H913
          go_wp2_with fail
          refine FX.out.mono ?_
          rintro e x5 ⟨v104, rfl, F5⟩
          clear FX
          have H65 : Hid (Aw w x5 u6 BK) := H64.out.more F5.bel
          have H945 : Hid (Aw w x5 (.slice a94 FB.length c94) FB) := H94.out.more F5.bel
          have H104 : Hid (Aw w x5 v104 (frameL IDX)) := F5.aw
          have FY : Hid (Calls Tryz.prog 28 #[.slice a94 FB.length c94] x5 fun e w' => ∃ v', e = .returned v' ∧ Fr w x5 w' v' (frameL FB)) := rFrame H945.out (by omega)
          clear F5 H64 H914 H94
          go_wp2_with fail
          refine FY.out.mono ?_
          rintro e x6 ⟨v106, rfl, F6⟩
          clear FY
          have lX : (frameL IDX).length ≤ 240008 := by rw [frameL_len]; omega
          have lY : (frameL FB).length ≤ 12008 := by rw [frameL_len]; omega
          have H66 : Hid (Aw w x6 u6 BK) := H65.out.more F6.bel
          have H1046 : Hid (Aw w x6 v104 (frameL IDX)) := H104.out.more F6.bel
          have H1066 : Hid (Aw w x6 v106 (frameL FB)) := F6.aw
          generalize frameL IDX = XX at *
          generalize frameL FB = YY at *
          clear F6 H65 H945 H104
          have A0 := aw_lit0 x6
          obtain ⟨o1, y1, r1, A1, g1⟩ := rApp A0 (H66.out.more A0.bel).src (by simp; omega)
          obtain ⟨o2, y2, r22, A2, g2⟩ := rApp A1 (H1046.out.more A1.bel).src (by simp; omega)
          obtain ⟨o3, y3, r3, A3, g3⟩ := rApp A2 (H1066.out.more A2.bel).src (by simp; omega)
          have H67 : Hid (Aw w y3 u6 BK) := H66.out.more A3.bel
          have H1047 : Hid (Aw w y3 v104 XX) := H1046.out.more A3.bel
          have H1067 : Hid (Aw w y3 v106 YY) := H1066.out.more A3.bel
          have HOUT : Hid (Aw w y3 o3 HB) := by
            have h := A3.up H66.out.bel
            rw [List.nil_append, ← HH.out] at h
            exact h
          obtain ⟨a6, c6, e6, -, -⟩ := H67.out.shape
          obtain ⟨a104, c104, e104, -, -⟩ := H1047.out.shape
          obtain ⟨a106, c106, e106, -, -⟩ := H1067.out.shape
          subst e6
          subst e104
          subst e106
          have PN : Hid (Calls Tryz.prog 31 #[.slice none 0 0, .int .u64 l.length] y3 fun e w' => ∃ v', e = .returned v' ∧ Fr w y3 w' v' (numL l.length)) := rPutNil HOUT.out.bel l.length (by omega)
          have wl : IntKind.u64.wrap (l.length : Int) = (l.length : Int) := by rw [IntKind.wrap_u64]; omega
          have lHB : HB.length ≤ 3000000 := by rw [HH.out, List.length_append, List.length_append]; omega
          clear A0 A1 A2 A3 g1 g2 g3 H66 H1046 H1066 H67 H1047 H1067
          go_wp2_with (at_builtin; first | refine wpList_append_run _ rfl _ _ _ _ rfl _ _ rfl rfl (by exact r1) ?_ | refine wpList_append_run _ rfl _ _ _ _ rfl _ _ rfl rfl (by exact r22) ?_ | refine wpList_append_run _ rfl _ _ _ _ rfl _ _ rfl rfl (by exact r3) ?_)
          refine PN.out.mono ?_
          rintro e y4 ⟨v117, rfl, F7⟩
          clear PN r1 r22 r3
          have HO4 : Hid (Aw w y4 o3 HB) := HOUT.out.more F7.bel
          have HA17 : Hid (Aw w y4 v117 (numL l.length)) := F7.aw
          have lnz := numL_length l.length
          have wb : IntKind.u64.wrap (BK.length : Int) = (BK.length : Int) := by rw [IntKind.wrap_u64]; omega
          have wx : IntKind.u64.wrap (XX.length : Int) = (XX.length : Int) := by rw [IntKind.wrap_u64]; omega
          have wy : IntKind.u64.wrap (YY.length : Int) = (YY.length : Int) := by rw [IntKind.wrap_u64]; omega
          have lnb := numL_length BK.length
          have lnx := numL_length XX.length
          have lny := numL_length YY.length
          obtain ⟨EJ, hEJ⟩ : ∃ EJ : Nat → List UInt8, EJ = fun j => if j = 0 then numL l.length else if j = 1 then numL l.length ++ numL BK.length else if j = 2 then numL l.length ++ numL BK.length ++ numL XX.length else numL l.length ++ numL BK.length ++ numL XX.length ++ numL YY.length := ⟨_, rfl⟩
          have HJ : Hid (EJ 0 = numL l.length ∧ EJ 1 = EJ 0 ++ numL BK.length ∧ EJ 2 = EJ 1 ++ numL XX.length ∧ EJ 3 = EJ 2 ++ numL YY.length ∧ ∀ j, (EJ j).length ≤ 100) := by
            refine ⟨by rw [hEJ]; rfl, by rw [hEJ]; rfl, by rw [hEJ]; rfl, by rw [hEJ]; rfl, fun j => ?_⟩
            rw [hEJ]
            simp only
            split
            · omega
            · split
              · rw [List.length_append]; omega
              · split
                · simp only [List.length_append]; omega
                · simp only [List.length_append]; omega
          have HE3 : Hid (EB = EJ 3 ++ numL S) := by
            have h := HE.out
            have h2 : EJ 3 = numL l.length ++ numL BK.length ++ numL XX.length ++ numL YY.length := by rw [hEJ]; rfl
            rw [← h2] at h
            exact h
          clear F7 HOUT HE hEJ lnz lnb lnx lny
          go_wp2_with fail
          go_loopw [17, 125] (fun s17 s125 wr => ∃ j : Nat, j ≤ 3 ∧ s125 = .int .i64 j ∧ Aw w wr s17 (EJ j) ∧ Aw w wr o3 HB) (fun _ s125 _ => 3 - (intOf s125).toNat)
          case atStart => exact ⟨0, by omega, rfl, by rw [HJ.out.1]; exact HA17.out, HO4.out⟩
          case round =>
            obtain ⟨j, hj, rfl, hA, hO⟩ := hrel
            clear HA17 HO4
            have hJl := HJ.out.2.2.2.2 j
            obtain rfl | rfl | rfl | rfl : j = 0 ∨ j = 1 ∨ j = 2 ∨ j = 3 := by omega
            · have HAJ : Hid (Aw w wr u17 (EJ 0)) := hA
              have HOJ : Hid (Aw w wr o3 HB) := hO
              have PU : Hid (Calls Tryz.prog 31 #[u17, .int .u64 BK.length] wr fun e w' => ∃ v', e = .returned v' ∧ Fr w wr w' v' (EJ 0 ++ numL BK.length)) := rPut HAJ.out BK.length (by omega) (by omega)
              have hix : ∀ u : World, (Instr.index 77 (.agg #[.int .i64 (BK.length : Int), .int .i64 (XX.length : Int), .int .i64 (YY.length : Int)]) (.int .i64 0)).run Tryz.prog u = .ok (.int .i64 (BK.length : Int)) u := fun u => by kernel_rfl
              clear hA hO
              go_wp2_with fail
              refine PU.out.mono ?_
              rintro e z1 ⟨v131, rfl, F8⟩
              have HN : Hid (Aw w z1 v131 (EJ (0 + 1)) ∧ Aw w z1 o3 HB) := ⟨by have h := F8.aw; rw [← HJ.out.2.1] at h; exact h, HOJ.out.more F8.bel⟩
              clear PU F8 HAJ HOJ
              go_wp2_with fail
              go_roundw
              case rel => exact ⟨0 + 1, by omega, by go_num, HN.out.1, HN.out.2⟩
              case measure => simp [intOf]
            · have HAJ : Hid (Aw w wr u17 (EJ 1)) := hA
              have HOJ : Hid (Aw w wr o3 HB) := hO
              have PU : Hid (Calls Tryz.prog 31 #[u17, .int .u64 XX.length] wr fun e w' => ∃ v', e = .returned v' ∧ Fr w wr w' v' (EJ 1 ++ numL XX.length)) := rPut HAJ.out XX.length (by omega) (by omega)
              have hix : ∀ u : World, (Instr.index 77 (.agg #[.int .i64 (BK.length : Int), .int .i64 (XX.length : Int), .int .i64 (YY.length : Int)]) (.int .i64 1)).run Tryz.prog u = .ok (.int .i64 (XX.length : Int)) u := fun u => by kernel_rfl
              clear hA hO
              go_wp2_with fail
              refine PU.out.mono ?_
              rintro e z1 ⟨v131, rfl, F8⟩
              have HN : Hid (Aw w z1 v131 (EJ (1 + 1)) ∧ Aw w z1 o3 HB) := ⟨by have h := F8.aw; rw [← HJ.out.2.2.1] at h; exact h, HOJ.out.more F8.bel⟩
              clear PU F8 HAJ HOJ
              go_wp2_with fail
              go_roundw
              case rel => exact ⟨1 + 1, by omega, by go_num, HN.out.1, HN.out.2⟩
              case measure => simp [intOf]
            · have HAJ : Hid (Aw w wr u17 (EJ 2)) := hA
              have HOJ : Hid (Aw w wr o3 HB) := hO
              have PU : Hid (Calls Tryz.prog 31 #[u17, .int .u64 YY.length] wr fun e w' => ∃ v', e = .returned v' ∧ Fr w wr w' v' (EJ 2 ++ numL YY.length)) := rPut HAJ.out YY.length (by omega) (by omega)
              have hix : ∀ u : World, (Instr.index 77 (.agg #[.int .i64 (BK.length : Int), .int .i64 (XX.length : Int), .int .i64 (YY.length : Int)]) (.int .i64 2)).run Tryz.prog u = .ok (.int .i64 (YY.length : Int)) u := fun u => by kernel_rfl
              clear hA hO
              go_wp2_with fail
              refine PU.out.mono ?_
              rintro e z1 ⟨v131, rfl, F8⟩
              have HN : Hid (Aw w z1 v131 (EJ (2 + 1)) ∧ Aw w z1 o3 HB) := ⟨by have h := F8.aw; rw [← HJ.out.2.2.2.1] at h; exact h, HOJ.out.more F8.bel⟩
              clear PU F8 HAJ HOJ
              go_wp2_with fail
              go_roundw
              case rel => exact ⟨2 + 1, by omega, by go_num, HN.out.1, HN.out.2⟩
              case measure => simp [intOf]
            · have SU : Hid (Calls Tryz.prog 34 #[o3] wr fun e w' => e = .returned (.int .u32 (S : Int)) ∧ w' = wr) := by
                have h := rSum hO (by omega)
                rw [HS.out] at h
                exact h
              have HAJ : Hid (Aw w wr u17 (EJ 3)) := hA
              have HOJ : Hid (Aw w wr o3 HB) := hO
              have wS : IntKind.u64.wrap (S : Int) = (S : Int) := by rw [IntKind.wrap_u64]; omega
              clear hA hO
              go_wp2_with fail
              refine SU.out.mono ?_
              rintro e wq ⟨rfl, rfl⟩
              clear SU
              have PU : Hid (Calls Tryz.prog 31 #[u17, .int .u64 S] wq fun e w' => ∃ v', e = .returned v' ∧ Fr w wq w' v' (EJ 3 ++ numL S)) := rPut HAJ.out S (by omega) (by omega)
              rw [← HE3.out] at PU
              go_wp2_with fail
              refine PU.out.mono ?_
              rintro e z1 ⟨v137, rfl, F8⟩
              clear PU
              have HO1 : Hid (Aw w z1 o3 HB) := HOJ.out.more F8.bel
              have FZ : Hid (Calls Tryz.prog 28 #[v137] z1 fun e w' => ∃ v', e = .returned v' ∧ Fr w z1 w' v' (frameL EB)) := rFrame F8.aw (by omega)
              clear F8 HAJ HOJ
              go_wp2_with fail
              refine FZ.out.mono ?_
              rintro e z2 ⟨v138, rfl, F9⟩
              clear FZ
              have lZ : (frameL EB).length ≤ 58 := by rw [frameL_len]; omega
              have HO2 : Hid (Aw w z2 o3 HB) := HO1.out.more F9.bel
              have HZ : Hid (Aw w z2 v138 (frameL EB)) := F9.aw
              generalize frameL EB = ZZ at *
              obtain ⟨o4, z3, r4, A4, g4⟩ := rApp HO2.out HZ.out.src (by omega)
              obtain ⟨a138, c138, e138, -, -⟩ := HZ.out.shape
              subst e138
              have hb34 : Below z3.heap.size z3 (z3.alloc (.cells #[.int .u8 (ZZ.length : Int)] 5)) := (Below.refl _ _).alloc (Nat.le_refl _) _
              obtain ⟨o5, z5, r5, A5, g5⟩ := rApp (x := .slice (some ⟨z3.heap.size, 0, none⟩) 1 1) (ys := [UInt8.ofNat ZZ.length]) (A4.more hb34) (src_one z3 (ZZ.length : Int) (UInt8.ofNat ZZ.length) (byte_val _ (by omega))) (by simp; omega)
              have HR : Hid (Aw w z5 o5 TB) := by
                have h := A5
                rw [← HFIN.out] at h
                exact h
              have w8 : IntKind.u8.wrap (ZZ.length : Int) = (ZZ.length : Int) := by rw [IntKind.wrap_u8]; omega
              clear F9 HO1 HO2 HZ A4 A5 g4 g5 hb34
              go_wp2_with (at_builtin; first | refine wpList_append_run _ rfl _ _ _ _ rfl _ _ rfl rfl (by exact r4) ?_ | refine wpList_append_run _ rfl _ _ _ _ rfl _ _ rfl rfl (by exact r5) ?_)
              go_ret2
              exact ⟨o5, rfl, by have h := HR.out; rw [HTB.out] at h; exact h⟩
end Go.Proofs.YtdookhmaiapclaaGreatDoor
namespace Go.Proofs.YtdookhmaiapclaaGreatDoor
open Go.RowKit

set_option maxRecDepth 100000 in
set_option maxHeartbeats 2000000 in
theorem rwrite_bad (ao : Option Addr) (l : List Cx) (cap : Nat) (w : World) (hs : XSees w ao l) (hl : l.length ≤ 20000) (hfit : ∀ c ∈ l, c.Fit) (hwr : wrtB l = false) :
    Calls Tryz.prog 9 #[.slice ao l.length cap] w fun e w' => e = .returned (.tuple #[.slice none 0 0, .int .i64 2]) ∧ Below w.heap.size w w' := by
  have ST0 := refSorted_any ao l cap w hs (by omega)
  have hlz : (l.length : Int) ≤ 20000 := by omega
  rcases Nat.eq_zero_or_pos l.length with h0 | hpos
  · rw [h0]
    clear ST0 hs hfit hwr hlz hl h0
    go_enter Tryz.func9, Tryz.ntmps9
    go_wp2_with fail
    go_ret2
    exact ⟨rfl, Below.refl _ _⟩
  have hlp : (0 : Int) < (l.length : Int) := by omega
  cases hsrt : srtB l
  · rw [hsrt] at ST0
    have ST : Hid (Calls Tryz.prog 25 #[.slice ao l.length cap] w fun e w' => e = .returned (.bool false) ∧ Below w.heap.size w w') := ST0
    clear ST0 hs hfit hwr hsrt
    go_enter Tryz.func9, Tryz.ntmps9
    go_wp2_with fail
    refine ST.out.mono ?_
    rintro e w1 ⟨rfl, hb1⟩
    go_wp2_with fail
    go_ret2
    exact ⟨rfl, hb1⟩
  · rw [hsrt] at ST0
    have ST : Hid (Calls Tryz.prog 25 #[.slice ao l.length cap] w fun e w' => e = .returned (.bool true) ∧ Below w.heap.size w w') := ST0
    have hbad : Hid (l.all goodC = false) := by
      have h : l.all goodC = false := by
        unfold wrtB at hwr
        rw [decide_eq_true hpos, hsrt, Bool.true_and, Bool.true_and] at hwr
        exact hwr
      exact h
    have GD : Hid (∀ c ∈ l, ∀ u : World, Calls Tryz.prog 26 #[c.val] u fun x w' => x = .returned (.bool (goodC c)) ∧ Below u.heap.size u w') := fun c hc u => refGoodX_any c u (hfit c hc).t (hfit c hc).p (hfit c hc).c (hfit c hc).s
    have HXS : Hid (∀ u, Below w.heap.size w u → XSees u ao l) := fun u hu => hs.below hu (Nat.le_refl _)
    clear ST0 hs hfit hwr hsrt
    go_enter Tryz.func9, Tryz.ntmps9
    go_wp2_with fail
    refine ST.out.mono ?_
    rintro e w1 ⟨rfl, hb1⟩
    clear ST
    go_wp2_with fail
    go_loopw [36] (fun s36 wr => ∃ i : Nat, i ≤ l.length ∧ s36 = .int .i64 i ∧ (l.take i).all goodC = true ∧ Below w.heap.size w wr) (fun s36 _ => l.length - (intOf s36).toNat)
    case atStart => exact ⟨0, by omega, rfl, rfl, hb1⟩
    case round =>
      obtain ⟨i, hi', rfl, hall, hbr⟩ := hrel
      have HALL : Hid ((l.take i).all goodC = true) := hall
      clear hb1 hall
      rcases Nat.lt_or_ge i l.length with hlt | hge
      · obtain ⟨c, hc⟩ : ∃ c, l[i]? = some c := ⟨_, List.getElem?_eq_getElem hlt⟩
        obtain ⟨b', off', rfl, t⟩ := (HXS.out wr hbr) i c hc
        have HST : Hid ((l.take (i + 1)).all goodC = ((l.take i).all goodC && goodC c)) := by
          have h : (l.take (i + 1)).all goodC = ((l.take i).all goodC && goodC c) := by
            rw [takeX_succ hc, List.all_append]
            simp
          exact h
        have G := GD.out c (List.mem_of_getElem? hc) (wr.alloc (.cells c.a 59))
        have hbv : Below wr.heap.size wr (wr.alloc (.cells c.a 59)) := (Below.refl _ _).alloc (Nat.le_refl _) _
        have HB : Hid (∀ u, Below (wr.alloc (.cells c.a 59)).heap.size (wr.alloc (.cells c.a 59)) u → Below w.heap.size w u) := fun u hu => hbr.trans ((hbv.trans (hu.mono hbv.size)).mono hbr.size)
        have hltz : (i : Int) < (l.length : Int) := by omega
        clear hc hbv
        generalize goodC c = g at *
        obtain ⟨⟨ct, cp, cr, cc⟩, ⟨cti, cd, cl, ck, cn, cstr⟩⟩ := c
        obtain ⟨k0, k1, k2, k3, k4, k5, k6, k7, k8, k9⟩ := t
        simp only [Cx.a, Cx.val] at k0 k1 k2 k3 k4 k5 k6 k7 k8 k9 G HB
        have G2 := toHidW G
        clear G
        go_wp2_with fail
        refine (Hid.out G2).mono ?_
        rintro e u ⟨rfl, hu⟩
        have hbu := HB.out u hu
        clear k0 k1 k2 k3 k4 k5 k6 k7 k8 k9 G2 HB
        cases g
        · go_wp2_with fail
          go_ret2
          exact ⟨rfl, hbu⟩
        · go_wp2_with fail
          go_roundw
          case rel => exact ⟨i + 1, by omega, by go_num, by rw [HST.out, HALL.out]; rfl, hbu⟩
          case measure => (simp [intOf]; try omega)
      · obtain rfl : i = l.length := by omega
        exfalso
        have h := HALL.out
        rw [List.take_length, hbad.out] at h
        cases h
end Go.Proofs.YtdookhmaiapclaaGreatDoor
namespace Go.Proofs.YtdookhmaiapclaaGreatDoor
open Go.RowKit

/-- Of every table of these bytes the first blocks have been read, and not all. -/
def Kst (r : List UInt8) (L : List Cx) (a : Nat) : Prop := ∀ M, Wrt M → wrtB M = true → encTb M = r → ∃ k, k < nBk M.length ∧ L = M.take (8 * k) ∧ a = (blksB M (List.range k)).length
theorem wrt_pos {M : List Cx} (h : wrtB M = true) : 0 < M.length := by
  unfold wrtB at h
  simp only [Bool.and_eq_true, decide_eq_true_eq] at h
  exact h.1
theorem kst_start (r : List UInt8) : Kst r [] 0 := fun M _ hw _ => ⟨0, by have := wrt_pos hw; unfold nBk; omega, rfl, rfl⟩
theorem blks_split (M : List Cx) {k : Nat} (hk : k < nBk M.length) : ∃ rest, blksB M (allK M) = blksB M (List.range k) ++ (frameL (cxB (chk M k)) ++ rest) := by
  refine ⟨blksB M (List.range' (k + 1) (nBk M.length - k - 1)), ?_⟩
  have e : allK M = List.range k ++ (k :: List.range' (k + 1) (nBk M.length - k - 1)) := by
    unfold allK
    rw [List.range_eq_range', List.range_eq_range']
    have e1 : k :: List.range' (k + 1) (nBk M.length - k - 1) = List.range' k (nBk M.length - k) := by
      have : nBk M.length - k = (nBk M.length - k - 1) + 1 := by omega
      rw [this, List.range'_succ]
      simp
    rw [e1]
    have := List.range'_append_1 (s := 0) (m := k) (n := nBk M.length - k)
    rw [Nat.zero_add] at this
    rw [this]
    congr 1
    omega
  rw [e]
  unfold blksB
  rw [List.flatMap_append, List.flatMap_cons]
  rfl
theorem Kst.frame {r : List UInt8} {L : List Cx} {a : Nat} (h : Kst r L a) {M : List Cx} (hM : Wrt M) (hw : wrtB M = true) (he : encTb M = r) :
    ∃ k, k < nBk M.length ∧ L = M.take (8 * k) ∧ a = (blksB M (List.range k)).length ∧ unfE (r.drop a) = 0 ∧ unfN (r.drop a) = (frameL (cxB (chk M k))).length ∧ unfB (r.drop a) = cxB (chk M k) := by
  obtain ⟨k, hk, hL, ha⟩ := h M hM hw he
  obtain ⟨rest, hs⟩ := blks_split M hk
  have hd : ∃ rest2, r.drop a = frameL (cxB (chk M k)) ++ rest2 := by
    rw [← he, ha]
    unfold encTb headB
    rw [hs]
    simp only [List.append_assoc]
    rw [List.drop_left]
    exact ⟨_, rfl⟩
  obtain ⟨rest2, hd⟩ := hd
  have hcl := chkB_len hM.small k
  obtain ⟨t1, t2, t3⟩ := tells_whole (cxB (chk M k)) (by omega) rest2
  rw [hd]
  exact ⟨k, hk, hL, ha, t1, by rw [t2, frameL_len], t3⟩
theorem Kst.bad {r : List UInt8} {L : List Cx} {a : Nat} (h : Kst r L a) (hu : unfE (r.drop a) ≠ 0) : NoTab r := fun M hM hw he => by
  obtain ⟨k, _, _, _, h0, _⟩ := h.frame hM hw he
  exact hu h0
theorem Kst.red {r : List UInt8} {L : List Cx} {a : Nat} (h : Kst r L a) {M : List Cx} (hM : Wrt M) (hw : wrtB M = true) (he : encTb M = r) :
    ∃ k, k < nBk M.length ∧ L = M.take (8 * k) ∧ a = (blksB M (List.range k)).length ∧ unfN (r.drop a) = (frameL (cxB (chk M k))).length ∧ cellsN (unfB (r.drop a)) = some ((chk M k).map toC) := by
  obtain ⟨k, h1, h2, h3, _, h5, h6⟩ := h.frame hM hw he
  exact ⟨k, h1, h2, h3, h5, by rw [h6]; exact cells_again hM k⟩
theorem Kst.bad2 {r : List UInt8} {L : List Cx} {a : Nat} (h : Kst r L a) (hc : cellsN (unfB (r.drop a)) = none) : NoTab r := fun M hM hw he => by
  obtain ⟨k, _, _, _, _, h0⟩ := h.red hM hw he
  rw [hc] at h0
  cases h0
theorem Kst.bad3 {r : List UInt8} {L : List Cx} {a : Nat} (h : Kst r L a) {cs : List CellV} (hc : cellsN (unfB (r.drop a)) = some cs) (h0 : cs.length = 0) : NoTab r := fun M hM hw he => by
  obtain ⟨k, hk, _, _, _, h1⟩ := h.red hM hw he
  obtain ⟨c, t, hck⟩ := chk_cons hk
  rw [hc, hck] at h1
  have := Option.some.inj h1
  rw [this] at h0
  simp at h0
theorem Kst.bad4 {r : List UInt8} {L : List Cx} {a : Nat} (h : Kst r L a) {cs : List CellV} (hc : cellsN (unfB (r.drop a)) = some cs) (h0 : 20000 < L.length + cs.length) : NoTab r := fun M hM hw he => by
  obtain ⟨k, hk, hL, _, _, h1⟩ := h.red hM hw he
  rw [hc] at h1
  have h2 := Option.some.inj h1
  have h3 := chk_len M k
  have h4 := hM.len
  have h5 : L.length ≤ M.length := by rw [hL, List.length_take]; omega
  rw [h2, List.length_map] at h0
  omega
theorem map_ofC_toC (l : List Cx) : (l.map toC).map ofC = l := by
  rw [List.map_map]
  have : (ofC ∘ toC) = id := by funext c; exact ofC_toC c
  rw [this, List.map_id]
theorem Kst.next {r : List UInt8} {L : List Cx} {a : Nat} (h : Kst r L a) {cs : List CellV} (hc : cellsN (unfB (r.drop a)) = some cs) (hn : wrtB (L ++ cs.map ofC) = true → encTb (L ++ cs.map ofC) ≠ r) : Kst r (L ++ cs.map ofC) (a + unfN (r.drop a)) := fun M hM hw he => by
  obtain ⟨k, hk, hL, ha, hN, h1⟩ := h.red hM hw he
  rw [hc] at h1
  have h2 := Option.some.inj h1
  have e1 : L ++ cs.map ofC = M.take (8 * (k + 1)) := by
    rw [h2, map_ofC_toC, hL]
    unfold chk
    rw [show 8 * (k + 1) = 8 * k + 8 by omega, List.take_add]
  refine ⟨k + 1, ?_, e1, ?_⟩
  · rcases Nat.lt_or_ge (k + 1) (nBk M.length) with hlt | hge
    · exact hlt
    · exfalso
      have e2 : M.take (8 * (k + 1)) = M := List.take_of_length_le (by unfold nBk at hge; omega)
      rw [e1, e2] at hn
      exact hn hw he
  · rw [hN, ha, List.range_succ, blksB_snoc, List.length_append]
end Go.Proofs.YtdookhmaiapclaaGreatDoor
namespace Go.Proofs.YtdookhmaiapclaaGreatDoor
open Go.RowKit

/-- The document's reader in block R: lb is left; is it wrong? -/
structure RS (w : World) (R : Nat) (lb : List UInt8) (wr : Bool) : Prop where
  ex : ∃ ao cap, Box w R #[.slice ao lb.length cap, .bool wr] 150 ∧ Sees w ao lb ∧ (ao = none → lb.length = 0) ∧ lb.length ≤ cap ∧ (lb.length ≠ 0 → ∀ a, ao = some a → a.block < R)
  max : lb.length ≤ 1000000000

theorem RS.lt {w : World} {R : Nat} {lb : List UInt8} {wr : Bool} (h : RS w R lb wr) : R < w.heap.size := by
  obtain ⟨ao, cap, hB, _⟩ := h.ex
  exact hB.lt
theorem RS.carry {w w' : World} {R : Nat} {lb : List UInt8} {wr : Bool} (h : RS w R lb wr) (hb : ∀ k, k ≤ R → w'.heap[k]? = w.heap[k]?) : RS w' R lb wr := by
  obtain ⟨ao, cap, hB, hs, hn, hc, ho⟩ := h.ex
  refine ⟨⟨ao, cap, hB.carry (hb R (Nat.le_refl _)), fun i hi => ?_, hn, hc, ho⟩, h.max⟩
  obtain ⟨a, e, hv⟩ := hs i hi
  refine ⟨a, e, ?_⟩
  rw [World.cell?_of_block (hb _ (by rw [Addr.add_block]; exact Nat.le_of_lt (ho (by omega) a e))), hv]
/-- Bytes lie ahead of the reader: a store into it leaves them. -/
theorem sees_setR {w : World} {R i : Nat} {ao : Option Addr} {lb : List UInt8} {v : Value} (hs : Sees w ao lb) (ho : lb.length ≠ 0 → ∀ a, ao = some a → a.block < R) : Sees (w.setCell ⟨R, i, none⟩ v) ao lb := by
  intro j hj
  obtain ⟨a, e, hc⟩ := hs j hj
  refine ⟨a, e, ?_⟩
  rw [World.cell?_setCell_other _ _ _ _ (fun e' => by have h1 := ho (by omega) a e; have h2 := congrArg Addr.block e'; rw [Addr.add_block] at h2; simp at h2; omega), hc]

/-- What reading a number, a text does to what is left. -/
def nS (x : List UInt8 × Bool) : Nat × (List UInt8 × Bool) := match getN 0 0 x.1 with | some (v, r) => (v, (r, x.2)) | none => (0, ([], true))
def tS (x : List UInt8 × Bool) : List UInt8 × (List UInt8 × Bool) := match textN x.1 with | some (s, r) => (s, (r, x.2)) | none => ([], ([], true))
theorem getN_back_drop {l : List UInt8} {v : Nat} {r : List UInt8} (h : getN 0 0 l = some (v, r)) : l.drop (l.length - r.length) = r ∧ r.length < l.length := ⟨getN_drop h, (get_bd h).2⟩
theorem textN_drop {l s r : List UInt8} (h : textN l = some (s, r)) : l.drop (l.length - r.length) = r ∧ r.length < l.length := by
  obtain ⟨v, r1, h1, h2, h3, h4⟩ := textN_some h
  have h5 := getN_drop h1
  have h6 := (get_bd h1).2
  have h7 : r.length = r1.length - v := by rw [← h4, List.length_drop]
  refine ⟨?_, by omega⟩
  rw [← h4]
  conv => rhs; rw [← h5]
  rw [List.drop_drop]
  congr 1
  rw [List.length_drop]
  omega

/-- A reader that goes n bytes on. -/
theorem RS.on {w : World} {R n cap : Nat} {b off : Nat} {lb r : List UInt8} {wr : Bool} (hB : Box w R #[.slice (some ⟨b, off, none⟩) lb.length cap, .bool wr] 150) (hs : Sees w (some ⟨b, off, none⟩) lb) (hc : lb.length ≤ cap) (ho : lb.length ≠ 0 → ∀ a, some (⟨b, off, none⟩ : Addr) = some a → a.block < R) (hm : lb.length ≤ 1000000000)
    (hd : lb.drop n = r) (hn : n ≤ lb.length) (h0 : lb.length ≠ 0) : RS (w.setCell ⟨R, 0, none⟩ (.slice (some ⟨b, off + n, none⟩) (lb.length - n) (cap - n))) R r wr := by
  have hr : r.length = lb.length - n := by rw [← hd, List.length_drop]
  refine ⟨⟨some ⟨b, off + n, none⟩, cap - n, ?_, ?_, (fun e => by cases e), by omega, fun _ a e => ?_⟩, by omega⟩
  · have := hB.set 0 (.slice (some ⟨b, off + n, none⟩) (lb.length - n) (cap - n))
    rw [hr]
    exact this
  · have h1 := sees_cut hs n (lb.length - n) (by omega)
    rw [List.take_of_length_le (by rw [List.length_drop]; omega), hd] at h1
    refine sees_setR h1 (fun _ a e => ?_)
    obtain rfl := Option.some.inj e
    exact ho h0 ⟨b, off, none⟩ rfl
  · obtain rfl := Option.some.inj e
    exact ho h0 ⟨b, off, none⟩ rfl
/-- .. to its end, where memory ends, too. -/
theorem RS.off {w : World} {R : Nat} {lb : List UInt8} {wr : Bool} {ao ao' : Option Addr} {n cap : Nat} (hB : Box w R #[.slice ao n cap, .bool wr] 150) (hne : lb = []) : RS (w.setCell ⟨R, 0, none⟩ (.slice ao' 0 0)) R lb wr := by
  subst hne
  exact ⟨⟨ao', 0, hB.set 0 _, Sees.nil _ _, fun _ => rfl, Nat.le_refl _, fun h => absurd rfl h⟩, by simp⟩
theorem RS.wrong {w : World} {R : Nat} {wr : Bool} {ao : Option Addr} {n cap : Nat} (hB : Box w R #[.slice ao n cap, .bool wr] 150) : RS ((w.setCell ⟨R, 1, none⟩ (.bool true)).setCell ⟨R, 0, none⟩ (.slice none 0 0)) R [] true :=
  ⟨⟨none, 0, (hB.set 1 _).set 0 _, Sees.nil _ _, fun _ => rfl, Nat.le_refl _, fun h => absurd rfl h⟩, by simp⟩

set_option maxRecDepth 100000 in
set_option maxHeartbeats 800000 in
theorem refNum_any (R : Nat) (lb : List UInt8) (wr : Bool) (w : World) (h : RS w R lb wr) :
    Calls Tryz.prog 100 #[.pointer (some ⟨R, 0, none⟩)] w fun e w' => e = .returned (.int .u64 ((nS (lb, wr)).1 : Int)) ∧ RS w' R (nS (lb, wr)).2.1 (nS (lb, wr)).2.2 ∧ w.grownBy w' (some R) := by
  obtain ⟨ao, cap, hB, hs, hn, hc, ho⟩ := h.ex
  have hm := h.max
  have c0 := hB.cell 0
  have c1 := hB.cell 1
  have f0 := hB.frozen 0
  have f1 := hB.frozen 1
  have Hg : Hid _ := refGet_any ao lb cap w hs (by omega)
  cases hg : getN 0 0 lb with
  | none =>
    have e1 : nS (lb, wr) = (0, ([], true)) := by unfold nS; simp only [hg]
    have e2 : getV lb = 0 := by unfold getV; rw [hg]
    have e3 : getK lb = 0 := by unfold getK; rw [hg]
    rw [e1]
    rw [e2, e3] at Hg
    clear e1 e2 e3 hg h hn ho
    go_enter Tryz.func100, Tryz.ntmps100
    go_wp2_with fail
    refine Calls.mono (Hid.out Hg) ?_
    rintro e w1 ⟨rfl, rfl⟩
    go_wp2_with fail
    go_ret
    exact ⟨rfl, RS.wrong hB, grownBy_setCell (grownBy_setCell (World.grownBy.refl _ _))⟩
  | some x =>
    obtain ⟨v, r⟩ := x
    have e1 : nS (lb, wr) = (v, (r, wr)) := by unfold nS; simp only [hg]
    have e2 : getV lb = v := by unfold getV; rw [hg]
    have e3 : getK lb = lb.length - r.length := by unfold getK; rw [hg]
    obtain ⟨hd, hrl⟩ := getN_back_drop hg
    rw [e1]
    rw [e2, e3] at Hg
    obtain ⟨b, off, rfl, _⟩ := sees_at hs (n := 0) (by omega)
    generalize hK : lb.length - r.length = K at *
    have hKI : ((K : Int) == 0) = false := by simp; omega
    have hKl : K ≤ lb.length := by omega
    have hKb : (K : Int) ≤ (lb.length : Int) := by omega
    have hne : lb.length ≠ 0 := by omega
    have Hd : Hid (lb.drop K = r) := hd
    clear e1 e2 e3 hg h hn hd
    go_enter Tryz.func100, Tryz.ntmps100
    go_wp2_with fail
    refine Calls.mono (Hid.out Hg) ?_
    rintro e w1 ⟨rfl, rfl⟩
    by_cases hck : cap = K
    · subst hck
      go_wp2_with fail
      go_ret
      refine ⟨rfl, ?_, grownBy_setCell (World.grownBy.refl _ _)⟩
      have e5 : lb.length - cap = 0 := by omega
      first
        | exact RS.off hB (by rw [← Hd.out]; exact List.drop_eq_nil_of_le (by omega))
        | (rw [e5]; exact RS.off hB (by rw [← Hd.out]; exact List.drop_eq_nil_of_le (by omega)))
    · go_wp2_with fail
      go_ret
      exact ⟨rfl, RS.on hB hs hc ho hm Hd.out hKl hne, grownBy_setCell (World.grownBy.refl _ _)⟩

set_option maxRecDepth 100000 in
set_option maxHeartbeats 800000 in
theorem refTextR_any (R : Nat) (lb : List UInt8) (wr : Bool) (w : World) (h : RS w R lb wr) :
    Calls Tryz.prog 125 #[.pointer (some ⟨R, 0, none⟩)] w fun e w' => e = .returned (.string (bytesOf (tS (lb, wr)).1)) ∧ RS w' R (tS (lb, wr)).2.1 (tS (lb, wr)).2.2 ∧ w.grownBy w' (some R) := by
  obtain ⟨ao, cap, hB, hs, hn, hc, ho⟩ := h.ex
  have hm := h.max
  have c0 := hB.cell 0
  have c1 := hB.cell 1
  have f0 := hB.frozen 0
  have f1 := hB.frozen 1
  have Hg : Hid _ := refGetText_any ao lb cap w hs hc (by omega)
  cases hg : textN lb with
  | none =>
    have e1 : tS (lb, wr) = ([], ([], true)) := by unfold tS; simp only [hg]
    have e2 : txtS lb = [] := by unfold txtS; rw [hg]
    have e3 : txtK lb = 0 := by unfold txtK; rw [hg]
    rw [e1]
    rw [e2, e3] at Hg
    clear e1 e2 e3 hg h hn ho
    go_enter Tryz.func125, Tryz.ntmps125
    go_wp2_with fail
    refine Calls.mono (Hid.out Hg) ?_
    rintro e w1 ⟨rfl, rfl⟩
    go_wp2_with fail
    go_ret
    exact ⟨rfl, RS.wrong hB, grownBy_setCell (grownBy_setCell (World.grownBy.refl _ _))⟩
  | some x =>
    obtain ⟨v, r⟩ := x
    have e1 : tS (lb, wr) = (v, (r, wr)) := by unfold tS; simp only [hg]
    have e2 : txtS lb = v := by unfold txtS; rw [hg]
    have e3 : txtK lb = lb.length - r.length := by unfold txtK; rw [hg]
    obtain ⟨hd, hrl⟩ := textN_drop hg
    rw [e1]
    rw [e2, e3] at Hg
    obtain ⟨b, off, rfl, _⟩ := sees_at hs (n := 0) (by omega)
    generalize hK : lb.length - r.length = K at *
    have hKI : ((K : Int) == 0) = false := by simp; omega
    have hKl : K ≤ lb.length := by omega
    have hKb : (K : Int) ≤ (lb.length : Int) := by omega
    have hne : lb.length ≠ 0 := by omega
    have Hd : Hid (lb.drop K = r) := hd
    clear e1 e2 e3 hg h hn hd
    go_enter Tryz.func125, Tryz.ntmps125
    go_wp2_with fail
    refine Calls.mono (Hid.out Hg) ?_
    rintro e w1 ⟨rfl, rfl⟩
    by_cases hck : cap = K
    · subst hck
      go_wp2_with fail
      go_ret
      refine ⟨rfl, ?_, grownBy_setCell (World.grownBy.refl _ _)⟩
      have e5 : lb.length - cap = 0 := by omega
      first
        | exact RS.off hB (by rw [← Hd.out]; exact List.drop_eq_nil_of_le (by omega))
        | (rw [e5]; exact RS.off hB (by rw [← Hd.out]; exact List.drop_eq_nil_of_le (by omega)))
    · go_wp2_with fail
      go_ret
      exact ⟨rfl, RS.on hB hs hc ho hm Hd.out hKl hne, grownBy_setCell (World.grownBy.refl _ _)⟩
end Go.Proofs.YtdookhmaiapclaaGreatDoor
namespace Go.Proofs.YtdookhmaiapclaaGreatDoor
open Go.RowKit

/-- Inside a method: two blocks of its own are laid; what it knows of them. -/
structure MidR (w wr : World) (R : Nat) (lb : List UInt8) (g : Bool) (t : TypeId) (zero cs : Array Value) : Prop where
  rs : RS wr R lb g
  grown : w.grownBy wr (some R)
  res : Box wr w.heap.size zero t
  box : Box wr (w.heap.size + 1) cs t
section
variable {w wr : World} {R : Nat} {lb : List UInt8} {g : Bool} {t : TypeId} {zero cs : Array Value}
theorem MidR.start (h : RS w R lb g) (t : TypeId) (zero : Array Value) : MidR w ((w.alloc (.cells zero t)).alloc (.cells zero t)) R lb g t zero zero := by
  have e : ∀ k, k < w.heap.size → ((w.alloc (.cells zero t)).alloc (.cells zero t)).heap[k]? = w.heap[k]? := fun k hk => by
    rw [Below.heap_alloc _ _ _ (by rw [World.size_alloc]; omega), Below.heap_alloc _ _ _ hk]
  have hR := h.lt
  refine ⟨h.carry (fun k hk => e k (by omega)), ⟨rfl, rfl, rfl, by rw [World.size_alloc, World.size_alloc]; omega, fun k hk _ => e k hk⟩, (Box.new w zero t).alloc _, ?_⟩
  have := Box.new (w.alloc (.cells zero t)) zero t
  rwa [World.size_alloc] at this
theorem MidR.call {w' : World} {lb' : List UInt8} {g' : Bool} (h : MidR w wr R lb g t zero cs) (hR : R < w.heap.size) (hr : RS w' R lb' g') (hg : wr.grownBy w' (some R)) : MidR w w' R lb' g' t zero cs :=
  ⟨hr, grownBy_trans h.grown hg, h.res.grown hg (by omega), h.box.grown hg (by omega)⟩
theorem MidR.set (h : MidR w wr R lb g t zero cs) (hR : R < w.heap.size) (i : Nat) (v : Value) : MidR w (wr.setCell ⟨w.heap.size + 1, i, none⟩ v) R lb g t zero (cs.setIfInBounds i v) :=
  ⟨h.rs.carry (fun k hk => Below.heap_setCell _ _ _ _ (by simp; omega)), grownBy_setNew h.grown (by simp), h.res.setOther _ (by simp), h.box.set i v⟩
theorem MidR.put (h : MidR w wr R lb g t zero cs) (hR : R < w.heap.size) (i : Nat) (v : Value) : MidR w (wr.setCell ⟨w.heap.size, i, none⟩ v) R lb g t (zero.setIfInBounds i v) cs :=
  ⟨h.rs.carry (fun k hk => Below.heap_setCell _ _ _ _ (by simp; omega)), grownBy_setNew h.grown (by simp), h.res.set i v, h.box.setOther _ (by simp)⟩
/-- A store into the reader. -/
theorem MidR.turn {lb' : List UInt8} {g' : Bool} {i : Nat} {v : Value} (h : MidR w wr R lb g t zero cs) (hR : R < w.heap.size) (hr : RS (wr.setCell ⟨R, i, none⟩ v) R lb' g') : MidR w (wr.setCell ⟨R, i, none⟩ v) R lb' g' t zero cs :=
  ⟨hr, grownBy_setCell h.grown, h.res.setOther _ (by simp; omega), h.box.setOther _ (by simp; omega)⟩
end
theorem RS.bad {w : World} {R : Nat} {lb : List UInt8} {wr : Bool} (h : RS w R lb wr) : RS (w.setCell ⟨R, 1, none⟩ (.bool true)) R lb true := by
  obtain ⟨ao, cap, hB, hs, hn, hc, ho⟩ := h.ex
  exact ⟨⟨ao, cap, hB.set 1 _, sees_setR hs ho, hn, hc, ho⟩, h.max⟩

theorem nS_lt (x : List UInt8 × Bool) : (nS x).1 < 18446744073709551616 := by
  unfold nS
  split
  · rename_i v r h
    exact (get_bd h).1
  · decide
theorem nS_false {x : List UInt8 × Bool} {v : Nat} {r : List UInt8} (h : nS x = (v, (r, false))) : x.2 = false ∧ getN 0 0 x.1 = some (v, r) := by
  unfold nS at h
  split at h
  · rename_i v' r' h'
    simp only [Prod.mk.injEq] at h
    obtain ⟨rfl, rfl, h3⟩ := h
    exact ⟨h3, h'⟩
  · simp at h
theorem nS_true {x : List UInt8 × Bool} {v : Nat} {r : List UInt8} (h : nS x = (v, (r, true))) : (x.2 = true ∨ getN 0 0 x.1 = none) ∧ (x.2 = true → x.1 = [] → r = []) ∧ (x.2 = false → r = []) := by
  unfold nS at h
  split at h
  · rename_i v' r' h'
    simp only [Prod.mk.injEq] at h
    obtain ⟨rfl, rfl, h3⟩ := h
    refine ⟨.inl h3, fun _ h5 => ?_, fun h5 => by rw [h5] at h3; cases h3⟩
    rw [h5] at h'
    simp [getN] at h'
  · rename_i h'
    simp only [Prod.mk.injEq] at h
    exact ⟨.inr h', fun _ _ => h.2.1.symm, fun _ => h.2.1.symm⟩
theorem tS_false {x : List UInt8 × Bool} {v r : List UInt8} (h : tS x = (v, (r, false))) : x.2 = false ∧ textN x.1 = some (v, r) := by
  unfold tS at h
  split at h
  · rename_i v' r' h'
    simp only [Prod.mk.injEq] at h
    obtain ⟨rfl, rfl, h3⟩ := h
    exact ⟨h3, h'⟩
  · simp at h
theorem tS_true {x : List UInt8 × Bool} {v r : List UInt8} (h : tS x = (v, (r, true))) : (x.2 = true ∨ textN x.1 = none) ∧ (x.2 = true → x.1 = [] → r = []) ∧ (x.2 = false → r = []) := by
  unfold tS at h
  split at h
  · rename_i v' r' h'
    simp only [Prod.mk.injEq] at h
    obtain ⟨rfl, rfl, h3⟩ := h
    refine ⟨.inl h3, fun _ h5 => ?_, fun h5 => by rw [h5] at h3; cases h3⟩
    rw [h5] at h'
    simp [textN, getN] at h'
  · rename_i h'
    simp only [Prod.mk.injEq] at h
    exact ⟨.inr h', fun _ _ => h.2.1.symm, fun _ => h.2.1.symm⟩

/-- The head of a cell: its key and its time. -/
def headN (lb : List UInt8) : Option ((KeyV × Int) × List UInt8) := match keyN lb with | none => none | some (k, r) => match signN r with | none => none | some (t, r') => some ((k, t), r')
theorem head_of {lb : List UInt8} {s1 s2 s4 lb1 lb2 lb3 lb4 lb5 : List UInt8} {n3 n5 : Nat} {g1 g2 g3 g4 g5 : Bool} (h1 : tS (lb, false) = (s1, (lb1, g1))) (h2 : tS (lb1, g1) = (s2, (lb2, g2))) (h3 : nS (lb2, g2) = (n3, (lb3, g3))) (h4 : tS (lb3, g3) = (s4, (lb4, g4))) (h5 : nS (lb4, g4) = (n5, (lb5, g5))) :
    (g5 = false ∧ headN lb = some ((⟨bytesOf s1, bytesOf s2, zagZ n3, bytesOf s4⟩, zagZ n5), lb5)) ∨ (g5 = true ∧ lb5 = [] ∧ headN lb = none) := by
  cases g5
  · obtain ⟨e4, f5⟩ := nS_false h5
    simp only at e4 f5
    subst e4
    obtain ⟨e3, f4⟩ := tS_false h4
    simp only at e3 f4
    subst e3
    obtain ⟨e2, f3⟩ := nS_false h3
    simp only at e2 f3
    subst e2
    obtain ⟨e1, f2⟩ := tS_false h2
    simp only at e1 f2
    subst e1
    obtain ⟨_, f1⟩ := tS_false h1
    simp only at f1
    refine .inl ⟨rfl, ?_⟩
    unfold headN keyN signN
    simp only [f1, f2, f3, f4, f5]
  · refine .inr ⟨rfl, ?_⟩
    obtain ⟨a5, b5, c5⟩ := nS_true h5
    simp only at a5 b5 c5
    cases g4
    · refine ⟨c5 rfl, ?_⟩
      obtain ⟨e3, f4⟩ := tS_false h4
      simp only at e3 f4
      subst e3
      obtain ⟨e2, f3⟩ := nS_false h3
      simp only at e2 f3
      subst e2
      obtain ⟨e1, f2⟩ := tS_false h2
      simp only at e1 f2
      subst e1
      obtain ⟨_, f1⟩ := tS_false h1
      simp only at f1
      have f5 := a5.resolve_left (by simp)
      unfold headN keyN signN
      simp only [f1, f2, f3, f4, f5]
    · obtain ⟨a4, b4, c4⟩ := tS_true h4
      simp only at a4 b4 c4
      cases g3
      · refine ⟨b5 rfl (c4 rfl), ?_⟩
        obtain ⟨e2, f3⟩ := nS_false h3
        simp only at e2 f3
        subst e2
        obtain ⟨e1, f2⟩ := tS_false h2
        simp only at e1 f2
        subst e1
        obtain ⟨_, f1⟩ := tS_false h1
        simp only at f1
        have f4 := a4.resolve_left (by simp)
        unfold headN keyN signN
        simp only [f1, f2, f3, f4]
      · obtain ⟨a3, b3, c3⟩ := nS_true h3
        simp only at a3 b3 c3
        cases g2
        · refine ⟨b5 rfl (b4 rfl (c3 rfl)), ?_⟩
          obtain ⟨e1, f2⟩ := tS_false h2
          simp only at e1 f2
          subst e1
          obtain ⟨_, f1⟩ := tS_false h1
          simp only at f1
          have f3 := a3.resolve_left (by simp)
          unfold headN keyN signN
          simp only [f1, f2, f3]
        · obtain ⟨a2, b2, c2⟩ := tS_true h2
          simp only at a2 b2 c2
          cases g1
          · refine ⟨b5 rfl (b4 rfl (b3 rfl (c2 rfl))), ?_⟩
            obtain ⟨_, f1⟩ := tS_false h1
            simp only at f1
            have f2 := a2.resolve_left (by simp)
            unfold headN keyN
            simp only [f1, f2]
          · obtain ⟨a1, _, c1⟩ := tS_true h1
            simp only at a1 c1
            refine ⟨b5 rfl (b4 rfl (b3 rfl (b2 rfl (c1 trivial)))), ?_⟩
            have f1 := a1.resolve_left (by simp)
            unfold headN keyN
            simp only [f1]
theorem val_of {lb : List UInt8} {s3 lb1 lb2 lb3 : List UInt8} {n1 n2 : Nat} {g1 g2 g3 : Bool} (h1 : nS (lb, false) = (n1, (lb1, g1))) (h2 : nS (lb1, g1) = (n2, (lb2, g2))) (h3 : tS (lb2, g2) = (s3, (lb3, g3))) :
    (g3 = false ∧ valN lb = some (⟨kindZ n1, zagZ n2, bytesOf s3⟩, lb3)) ∨ (g3 = true ∧ valN lb = none) := by
  cases g3
  · obtain ⟨e2, f3⟩ := tS_false h3
    simp only at e2 f3
    subst e2
    obtain ⟨e1, f2⟩ := nS_false h2
    simp only at e1 f2
    subst e1
    obtain ⟨_, f1⟩ := nS_false h1
    simp only at f1
    refine .inl ⟨rfl, ?_⟩
    unfold valN signN
    simp only [f1, f2, f3]
  · refine .inr ⟨rfl, ?_⟩
    obtain ⟨a3, _, _⟩ := tS_true h3
    simp only at a3
    cases g2
    · obtain ⟨e1, f2⟩ := nS_false h2
      simp only at e1 f2
      subst e1
      obtain ⟨_, f1⟩ := nS_false h1
      simp only at f1
      have f3 := a3.resolve_left (by simp)
      unfold valN signN
      simp only [f1, f2, f3]
    · obtain ⟨a2, _, _⟩ := nS_true h2
      simp only at a2
      cases g1
      · obtain ⟨_, f1⟩ := nS_false h1
        simp only at f1
        have f2 := a2.resolve_left (by simp)
        unfold valN signN
        simp only [f1, f2]
      · obtain ⟨a1, _, _⟩ := nS_true h1
        simp only at a1
        have f1 := a1.resolve_left (by simp)
        unfold valN
        simp only [f1]
theorem cell_of_none {lb : List UInt8} (h : headN lb = none) : cellN lb = none := by
  unfold headN at h
  unfold cellN verN
  split at h
  · rename_i e
    simp only [e]
  · rename_i k r e
    split at h
    · rename_i e2
      simp only [e, e2]
    · cases h
theorem cell_of_head {lb : List UInt8} {k : KeyV} {t : Int} {r : List UInt8} (h : headN lb = some ((k, t), r)) : ∃ r0, keyN lb = some (k, r0) ∧ signN r0 = some (t, r) := by
  unfold headN at h
  split at h
  · cases h
  · rename_i k' r' e
    split at h
    · cases h
    · rename_i t' r'' e2
      simp only [Option.some.injEq, Prod.mk.injEq] at h
      obtain ⟨⟨rfl, rfl⟩, rfl⟩ := h
      exact ⟨r', e, e2⟩

/-- What the document's reader has done: a cell that is there, or it is wrong. -/
def Took (lb : List UInt8) (c : CellV) (lb' : List UInt8) (g' : Bool) : Prop := match cellN lb with | some (c0, r) => c = c0 ∧ lb' = r ∧ g' = false | none => g' = true
theorem MidR.put10 {w wr : World} {R : Nat} {lb : List UInt8} {g : Bool} {t : TypeId} {cs : Array Value} {z0 z1 z2 z3 z4 z5 z6 z7 z8 z9 : Value} (h : MidR w wr R lb g t #[z0, z1, z2, z3, z4, z5, z6, z7, z8, z9] cs) (hR : R < w.heap.size) (v0 v1 v2 v3 v4 v5 v6 v7 v8 v9 : Value) :
    MidR w ((((((((((wr.setCell ⟨w.heap.size, 0, none⟩ v0).setCell ⟨w.heap.size, 1, none⟩ v1).setCell ⟨w.heap.size, 2, none⟩ v2).setCell ⟨w.heap.size, 3, none⟩ v3).setCell ⟨w.heap.size, 4, none⟩ v4).setCell ⟨w.heap.size, 5, none⟩ v5).setCell ⟨w.heap.size, 6, none⟩ v6).setCell ⟨w.heap.size, 7, none⟩ v7).setCell ⟨w.heap.size, 8, none⟩ v8).setCell ⟨w.heap.size, 9, none⟩ v9) R lb g t #[v0, v1, v2, v3, v4, v5, v6, v7, v8, v9] cs := by
  have h0 : MidR _ _ _ _ _ _ #[v0, z1, z2, z3, z4, z5, z6, z7, z8, z9] _ := h.put hR 0 v0
  have h1 : MidR _ _ _ _ _ _ #[v0, v1, z2, z3, z4, z5, z6, z7, z8, z9] _ := h0.put hR 1 v1
  have h2 : MidR _ _ _ _ _ _ #[v0, v1, v2, z3, z4, z5, z6, z7, z8, z9] _ := h1.put hR 2 v2
  have h3 : MidR _ _ _ _ _ _ #[v0, v1, v2, v3, z4, z5, z6, z7, z8, z9] _ := h2.put hR 3 v3
  have h4 : MidR _ _ _ _ _ _ #[v0, v1, v2, v3, v4, z5, z6, z7, z8, z9] _ := h3.put hR 4 v4
  have h5 : MidR _ _ _ _ _ _ #[v0, v1, v2, v3, v4, v5, z6, z7, z8, z9] _ := h4.put hR 5 v5
  have h6 : MidR _ _ _ _ _ _ #[v0, v1, v2, v3, v4, v5, v6, z7, z8, z9] _ := h5.put hR 6 v6
  have h7 : MidR _ _ _ _ _ _ #[v0, v1, v2, v3, v4, v5, v6, v7, z8, z9] _ := h6.put hR 7 v7
  have h8 : MidR _ _ _ _ _ _ #[v0, v1, v2, v3, v4, v5, v6, v7, v8, z9] _ := h7.put hR 8 v8
  have h9 : MidR _ _ _ _ _ _ #[v0, v1, v2, v3, v4, v5, v6, v7, v8, v9] _ := h8.put hR 9 v9
  exact h9
end Go.Proofs.YtdookhmaiapclaaGreatDoor

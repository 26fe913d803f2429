/-
  SEVERAL TEXTS IN ONE: DskActR, DskActA.
-/
import Derived.Test.YtoeoioigelknnaaGreatDskActC
import Derived.Test.YtoeoioigelknnaaGreatMany15
import Derived.Test.YtoeoioigelknnaaGreatMany12
import Derived.Test.YtoeoioigelknnaaGreatDskRefR
import Derived.Test.YtoeoioigelknnaaGreatDskRefA
namespace Go.Proofs.YtoeoioigelknnaaGreat
open Go.RowKit Go.Maps Go.WideAt Go.WideShapes
attribute [local go_sem] Oper.pureAt Oper.pureUpon
attribute [local irreducible] wpQuiet

theorem sees_grown {w w' : World} {ao : Option Addr} {l : List UInt8} (h : Sees w ao l) (hg : w.grownBy w' none) : Sees w' ao l := h.kept fun a ha h0 => hg.block _ (h.lt ha h0) (by simp)
theorem sees_moved {w w' : World} {ao : Option Addr} {l : List UInt8} {a b : List Nat} (h : Sees w ao l) (hm : Moved w w' a b) (hn : ∀ p, ao = some p → 0 < l.length → p.block ∉ a) : Sees w' ao l := h.kept fun p hp h0 => hm.kept _ (h.lt hp h0) (hn p hp h0)
set_option maxRecDepth 100000 in
set_option maxHeartbeats 4000000 in
theorem act_read {w : World} {d r : Nat} {A : Ab} {Q : RA} {fs : List Nat} {e : Int} {l : List UInt8} (h : Two d r A Q fs w) (sa sb : ByteArray) (ao : Option Addr) (len cap : Nat) (n m : Int)
    (P : Hid (∀ w1, Two d r A Q fs w1 → Calls Tryz.prog 23 #[.pointer (some ⟨d, 0, none⟩), .string sa] w1 fun x w2 => ∃ a1 c1, x = .returned (.tuple #[.slice a1 l.length c1, .int .i64 e]) ∧ Sees w2 a1 l ∧ (a1 = none → l.length = 0) ∧ w1.grownBy w2 none))
    (R : Hid (∀ w1, Two d r A Q fs w1 → Calls Tryz.prog 34 #[.pointer (some ⟨r, 0, none⟩), .string sa] w1 fun x w2 => ∃ a1 c1, x = .returned (.tuple #[.slice a1 l.length c1, .int .i64 e]) ∧ Sees w2 a1 l ∧ (a1 = none → l.length = 0) ∧ w1.grownBy w2 none)) :
    Calls Tryz.prog 8 #[.pointer (some ⟨d, 0, none⟩), .pointer (some ⟨r, 0, none⟩), .agg #[.int .i64 5, .string sa, .string sb, .slice ao len cap, .int .i64 n, .int .i64 m]] w fun x w' => x = .returned (.bool true) ∧ ∃ fs', Two d r A Q fs' w' ∧ Moved w w' fs fs' := by
  obtain ⟨w0, hw0⟩ : ∃ w0, w.alloc (.cells #[.int .i64 5, .string sa, .string sb, .slice ao len cap, .int .i64 n, .int .i64 m] 31) = w0 := ⟨_, rfl⟩
  obtain ⟨b, hbb⟩ : ∃ b, w.heap.size = b := ⟨_, rfl⟩
  have B1 : Blk w0 b [.int .i64 5, .string sa, .string sb, .slice ao len cap, .int .i64 n, .int .i64 m] 31 := by rw [← hw0, ← hbb]; exact Blk.new w _ _
  have HT : Hid (Two d r A Q fs w0) := h.grown (by rw [← hw0]; exact World.grownBy_alloc w _ none)
  have HM : Hid (Moved w w0 fs fs) := by show Moved _ _ _ _; rw [← hw0]; exact Moved.alloc _ _
  have k0 := B1.cell 0 rfl
  have k1 := B1.cell 1 rfl
  have HC : Hid (∀ u : World, w0.grownBy u none → u.cell? ⟨b, 1, none⟩ = some (.string sa)) := fun u hu => hu.cell (B1.cell 1 rfl) (by simp)
  have SM : Hid (∀ (u : World) (a1 a2 : Option Addr) (c1 c2 : Nat), Sees u a1 l → Sees u a2 l → (a1 = none → l.length = 0) → (a2 = none → l.length = 0) → Calls Tryz.prog 35 #[.slice a1 l.length c1, .slice a2 l.length c2] u fun x w' => x = .returned (.bool true) ∧ w' = u) := fun u a1 a2 c1 c2 s1 s2 n1 n2 => by
    have := same_anyD a1 a2 l l c1 c2 u s1 s2 n1 n2
    rwa [show (l == l) = true by simp] at this
  clear B1 h
  go_enter Tryz.func8, Tryz.ntmps8
  go_wp2_with (first
    | (go_at_call 23; go_fit (P.out _ HT.out); rintro x u1 ⟨a1, c1, rfl, s1, n1, g1⟩; have j1 := HC.out u1 g1)
    | (go_at_call 34; go_fit (R.out _ (HT.out.grown g1)); rintro x u2 ⟨a2, c2, rfl, s2, n2, g2⟩; have s1' := sees_grown s1 g2)
    | (go_at_call 35; go_fit (SM.out _ _ _ _ _ s1' s2 n1 n2); rintro x u3 ⟨rfl, rfl⟩))
  go_ret
  exact ⟨rfl, fs, (HT.out.grown g1).grown g2, (HM.out.trans (Moved.none_of g1 fs)).trans (Moved.none_of g2 fs)⟩
set_option maxRecDepth 100000 in
set_option maxHeartbeats 4000000 in
theorem act_append {w : World} {d r : Nat} {A A' : Ab} {Q Q' : RA} {fs : List Nat} {c : Int} (h : Two d r A Q fs w) (sa sb : ByteArray) (ao : Option Addr) (l : List UInt8) (cap : Nat) (n m : Int) (hs : Sees w ao l) (hz : ao = none → l.length = 0) (hl : l.length ≤ 140737488350000) (hne : ∀ a, ao = some a → 0 < l.length → a.block ∉ fs)
    (P : Hid (∀ w1 g, Two d r A Q fs w1 → Sees w1 (some ⟨g, 1, none⟩) l → g ∉ fs → Calls Tryz.prog 19 #[.pointer (some ⟨d, 0, none⟩), .string sa, .slice (some ⟨g, 1, none⟩) l.length (l.length + 1)] w1 fun x w2 => x = .returned (.int .i64 c) ∧ ∃ fs2, Two d r A' Q fs2 w2 ∧ Moved w1 w2 fs fs2))
    (R : Hid (∀ w1 fs1, Two d r A' Q fs1 w1 → Sees w1 ao l → (∀ a, ao = some a → 0 < l.length → a.block ∉ fs1) → Calls Tryz.prog 27 #[.pointer (some ⟨r, 0, none⟩), .string sa, .slice ao l.length cap] w1 fun x w2 => x = .returned (.int .i64 c) ∧ ∃ fs2, Two d r A' Q' fs2 w2 ∧ Moved w1 w2 fs1 fs2)) :
    Calls Tryz.prog 8 #[.pointer (some ⟨d, 0, none⟩), .pointer (some ⟨r, 0, none⟩), .agg #[.int .i64 1, .string sa, .string sb, .slice ao l.length cap, .int .i64 n, .int .i64 m]] w fun x w' => x = .returned (.bool true) ∧ ∃ fs', Two d r A' Q' fs' w' ∧ Moved w w' fs fs' := by
  obtain ⟨w0, hw0⟩ : ∃ w0, w.alloc (.cells #[.int .i64 1, .string sa, .string sb, .slice ao l.length cap, .int .i64 n, .int .i64 m] 31) = w0 := ⟨_, rfl⟩
  obtain ⟨b, hbb⟩ : ∃ b, w.heap.size = b := ⟨_, rfl⟩
  have B1 : Blk w0 b [.int .i64 1, .string sa, .string sb, .slice ao l.length cap, .int .i64 n, .int .i64 m] 31 := by rw [← hw0, ← hbb]; exact Blk.new w _ _
  have hb : b ∉ fs := fun hh => by have := h.lt b hh; omega
  have hg0 : w.grownBy w0 none := by rw [← hw0]; exact World.grownBy_alloc w _ none
  have HT0 : Two d r A Q fs w0 := h.grown hg0
  have hs0 : Sees w0 ao l := sees_grown hs hg0
  have L : Hid (Calls Tryz.prog 26 #[.slice ao l.length cap] w0 fun e w' => e = .returned (.tuple #[.slice (some ⟨w0.heap.size, 0, none⟩) (l.length + 2) (l.length + 2), .slice (some ⟨w0.heap.size, 1, none⟩) l.length (l.length + 1)]) ∧ Row w' w0.heap.size (lent l) ∧ Below w0.heap.size w0 w') := lend_any ao l cap w0 hs0 hl
  have HX : Hid (∀ w1, Below w0.heap.size w0 w1 → Two d r A Q fs w1 ∧ Moved w w1 fs fs ∧ Sees w1 ao l ∧ Blk w1 b [.int .i64 1, .string sa, .string sb, .slice ao l.length cap, .int .i64 n, .int .i64 m] 31) := fun w1 hb1 => by
    have hg1 := grown_of_below hb1
    exact ⟨HT0.grown hg1, (Moved.none_of hg0 fs).trans (Moved.none_of hg1 fs), sees_grown hs0 hg1, B1.carry (hb1.block b B1.lt)⟩
  obtain ⟨g, hgg⟩ : ∃ g, w0.heap.size = g := ⟨_, rfl⟩
  have hgf : g ∉ fs := fun hh => by have := HT0.lt g hh; omega
  have HB : Hid (b ∉ fs) := hb
  have HG : Hid (g ∉ fs) := hgf
  have HN : Hid (∀ a, ao = some a → 0 < l.length → a.block ∉ fs) := hne
  have HZ : Hid ((ao = none → l.length = 0) ∧ l.length ≤ 140737488350000) := ⟨hz, hl⟩
  have hlz : (l.length : Int) ≤ 140737488350000 := by omega
  have hgl : ∀ w1, Row w1 g (lent l) → g < w1.heap.size := fun w1 hr => (Row.lt hr)
  rw [hgg] at L HX
  have k0 := B1.cell 0 rfl
  have k3 := B1.cell 3 rfl
  clear B1 h hs0 HT0 hg0 hs hb hgf hne hz hl
  go_enter Tryz.func8, Tryz.ntmps8
  go_wp2_with (go_at_call 26; go_fit L.out; rintro x w1 ⟨rfl, hr1, hb1⟩)
  obtain ⟨HT1, HM1, hs1, B2⟩ := HX.out w1 hb1
  have hlt := B2.lt
  have hgl1 := hgl w1 hr1
  have HK : Hid (∀ w2 fs2, Moved w1 w2 fs fs2 → w2.heap[b]? = w1.heap[b]? ∧ Row w2 g (lent l) ∧ Sees w2 ao l ∧ ∀ a, ao = some a → 0 < l.length → a.block ∉ fs2) := fun w2 fs2 hm => ⟨hm.kept b hlt HB.out, (hm.kept g hgl1 HG.out).trans hr1, sees_moved hs1 hm HN.out, fun a ha h0 hh => by
    rcases hm.news _ hh with h1 | h1
    · exact HN.out a ha h0 h1
    · have := hs1.lt ha h0; omega⟩
  have hsg : Sees w1 (some ⟨g, 1, none⟩) l := lent_sees hr1
  have HT : Hid (Two d r A Q fs w1) := HT1
  have HM : Hid (Moved w w1 fs fs) := HM1
  have p1 : ∀ q : CB b w1.heap[b]?, q.u.cell? ⟨b, 1, none⟩ = some (.string sa) := fun q => q.cell rfl (B2.cell 1 rfl)
  have p3 : ∀ q : CB b w1.heap[b]?, q.u.cell? ⟨b, 3, none⟩ = some (.slice ao l.length cap) := fun q => q.cell rfl (B2.cell 3 rfl)
  have KP : Hid (∀ u, Row u g (lent l) → Sees u ao l → Calls Tryz.prog 28 #[.slice (some ⟨g, 0, none⟩) (l.length + 2) (l.length + 2), .slice ao l.length cap] u fun e w' => e = .returned (.bool true) ∧ ∃ k, w' = u.drewN k) := fun u h1 h2 => kept_any g (l.length + 2) ao l cap u h2 HZ.out.1 HZ.out.2 h1 (Nat.le_refl _)
  haveI : Nonempty (CB b w1.heap[b]?) := ⟨⟨w1, rfl⟩⟩
  clear B2 HX L hb1 k0 k3 hlt hgl1 hgl
  refine wp_region_sched (fun w' => ∃ p : CB b w1.heap[b]?, w' = p.u) [(0, true), (1, true), (2, true), (3, true), (5, true), (6, true), (7, true), (8, true), (9, true), (4, false), (10, false), (11, true), (12, true), (13, true), (14, true), (15, true), (16, false), (17, true), (18, true)] rfl (by kernel_rfl) (by kernel_rfl) (by kernel_rfl) ⟨⟨w1.drew, rfl⟩, rfl⟩ ?_
  iterate 9 (refine sched_pure rfl (fun K hK => ?_); go_simp; refine hK _ ?_; clear hK K)
  refine sched_loud rfl (fun K hK => ?_)
  go_simp
  refine (P.out _ g HT.out.drew hsg HG.out).mono ?_
  rintro e u1 ⟨rfl, fs1, h1, m1⟩
  have m1' : Moved w1 u1 fs fs1 := (Moved.refl w1 fs).drew.trans m1
  obtain ⟨g1, g2, g3, g4⟩ := HK.out u1 fs1 m1'
  refine hK _ _ ⟨⟨u1, g1⟩, rfl⟩ ?_
  clear hK K
  refine sched_loud rfl (fun K hK => ?_)
  go_simp
  refine (R.out _ fs1 h1 g3 g4).mono ?_
  rintro e u2 ⟨rfl, fs2, h2, m2⟩
  have m2' : Moved w1 u2 fs fs2 := m1'.trans m2
  obtain ⟨j1, j2, j3, j4⟩ := HK.out u2 fs2 m2'
  refine hK _ _ ⟨⟨u2, j1⟩, rfl⟩ ?_
  clear hK K
  iterate 5 (refine sched_pure rfl (fun K hK => ?_); go_simp; refine hK _ ?_; clear hK K)
  refine sched_loud rfl (fun K hK => ?_)
  go_simp
  refine (KP.out u2 j2 j3).mono ?_
  rintro e u3 ⟨rfl, k, rfl⟩
  refine hK _ _ ⟨⟨u2.drewN k, j1⟩, rfl⟩ ?_
  clear hK K
  iterate 2 (refine sched_pure rfl (fun K hK => ?_); go_simp; refine hK _ ?_; clear hK K)
  refine sched_nil ?_
  go_wp2_with fail
  go_ret
  exact ⟨rfl, fs2, h2.moved ((Moved.refl u2 []).drewN k) (by simp), (HM.out.trans m2').drewN k⟩
end Go.Proofs.YtoeoioigelknnaaGreat
namespace Go.Proofs.YtoeoioigelknnaaGreat
open Go.RowKit Go.Maps Go.WideAt Go.WideShapes

theorem ra_Crash {w : World} {r : Nat} {Q : RA} {fr : List Nat} (h : RAt r Q fr w) (hF : Q.Fit) (k : Int) : Calls Tryz.prog 40 #[.pointer (some ⟨r, 0, none⟩), .int .i64 k] w fun x w' => x = .returned (.tuple #[]) ∧ ∃ fr', RAt r (crashQ Q k) fr' w' ∧ Moved w w' fr fr' := by
  obtain ⟨R, h1, rfl, rfl, hcap⟩ := h
  cases hoff : R.off
  · refine (ref_Crash h1 hoff (by have := hF.few; rwa [show R.abs.L.length = R.fs.length from len_sig _] at this) hF.line hF.sorted hF.lin hF.pn hF.wr (fun f hf => hF.len f.sig (List.mem_map.2 ⟨f, hf, rfl⟩)) hcap k).mono ?_
    rintro x w' ⟨rfl, R', a1, a2, a3, a4⟩
    exact ⟨rfl, _, ⟨R', a1, a2, rfl, a3⟩, a4⟩
  · refine (crash_off_ref h1 hoff k).mono ?_
    rintro x w' ⟨rfl, rfl⟩
    refine ⟨rfl, _, ⟨R, h1, ?_, rfl, hcap⟩, Moved.refl _ _⟩
    unfold crashQ
    rw [show R.abs.off = true from hoff]
    rfl
/-- What Read answers. -/
def readM (A : Ab) (s : ByteArray) : Int × List UInt8 := if refuse A.on [s] = 0 then (match findT A.sp (nameOf s) with | none => (4, []) | some t => (0, t.bs)) else (refuse A.on [s], [])
/-- A call that answered bytes of the call's own, and an error. -/
def Bys (w : World) (q : Int × List UInt8) (x : Ending) (w' : World) : Prop := ∃ a1 c1, x = .returned (.tuple #[.slice a1 q.2.length c1, .int .i64 q.1]) ∧ Sees w' a1 q.2 ∧ (a1 = none → q.2.length = 0) ∧ w.grownBy w' none
theorem Bys.none {w w' : World} {c : Int} {x : Ending} (h : x = .returned (.tuple #[.slice none 0 0, .int .i64 c]) ∧ w.grownBy w' none) : Bys w (c, []) x w' := ⟨Option.none, 0, h.1, fun _ hi => absurd hi (Nat.not_lt_zero _), fun _ => rfl, h.2⟩
theorem any_read {d : Nat} {A : Ab} {ft : List Nat} {w : World} (h : At d A ft w) (s : ByteArray) (hs : s.size ≤ maxLen) (hF : A.Fine) : Calls Tryz.prog 23 #[.pointer (some ⟨d, 0, Option.none⟩), .string s] w (Bys w (readM A s)) := by
  have h0 := h
  obtain ⟨bm, fs, hD, hss, rfl⟩ := h
  unfold readM
  by_cases hc : refuse A.on [s] = 0
  · rw [if_pos hc]
    cases ht : findT A.sp (nameOf s) with
    | none => exact (read_none hD s hs hc (find_sig_none hss ht)).mono fun _ _ hh => Bys.none hh
    | some t =>
      refine (ab_read h0 s hs hc ht (hF.len t (findT_mem ht).1)).mono ?_
      rintro x w' ⟨v, rfl, ho, hg⟩
      obtain ⟨ao, c, rfl, hsee, _, hn⟩ := owns_sees ho
      exact ⟨ao, c, rfl, hsee, fun e => (hn e).1, hg⟩
  · rw [if_neg hc]
    exact (read_refused hD s hs rfl hc).mono fun _ _ hh => Bys.none hh
theorem ra_read {A : Ab} {r : Nat} {Q : RA} {fr : List Nat} {w : World} (hT : Tie A Q) (h : RAt r Q fr w) (s : ByteArray) (hs : s.size ≤ maxLen) (hF : Q.Fit) : Calls Tryz.prog 34 #[.pointer (some ⟨r, 0, Option.none⟩), .string s] w (Bys w (readM A s)) := by
  have hk : knownQ Q s = (readM A s).1 ∧ (knownQ Q s ≠ 0 → (readM A s).2 = []) ∧ ∀ t, knownQ Q s = 0 → findT Q.L (nameOf s) = some t → (readM A s).2 = t.bs := by
    unfold readM
    rw [refuse_one]
    by_cases hon : A.on = true
    · cases hg : goodB (nameOf s)
      · have := known_bad hT hon hg
        rw [this, hon]
        simp
      · have hq := known_eq hT hon hg
        rw [hq, hon, hT.find]
        cases findT A.sp (nameOf s) with
        | none => simp
        | some t =>
          simp only [if_true, Option.map_some, Option.some.injEq, ne_eq, not_true_eq_false, false_imp_iff, true_and]
          rintro t' _ rfl
          rfl
    · have hof : A.on = false := by simpa using hon
      rw [known_offA hT hof s, hof]
      simp
  refine (ra_Read h hF s hs).mono ?_
  rintro x w' (⟨h1, rfl, rfl⟩ | ⟨t, ⟨h1, h2⟩, v, rfl, ho, hg⟩)
  · refine ⟨Option.none, 0, ?_, fun i hi => ?_, fun _ => by rw [hk.2.1 h1]; rfl, World.grownBy.refl _ _⟩
    · rw [hk.2.1 h1, hk.1]
      rfl
    · rw [hk.2.1 h1] at hi
      exact absurd hi (Nat.not_lt_zero _)
  · obtain ⟨ao, c, rfl, hsee, _, hn⟩ := owns_sees ho
    have e := hk.2.2 t h1 h2
    refine ⟨ao, c, ?_, by rw [e]; exact hsee, fun e2 => by rw [e]; exact (hn e2).1, hg⟩
    rw [e, ← hk.1, h1]
set_option maxHeartbeats 1000000 in
theorem act_other {w : World} {d r : Nat} {A : Ab} {Q : RA} {fs : List Nat} (h : Two d r A Q fs w) (kind : Int) (hk : kind < 0 ∨ 9 < kind) (sa sb : ByteArray) (ao : Option Addr) (len cap : Nat) (n m : Int) :
    Calls Tryz.prog 8 #[.pointer (some ⟨d, 0, Option.none⟩), .pointer (some ⟨r, 0, Option.none⟩), .agg #[.int .i64 kind, .string sa, .string sb, .slice ao len cap, .int .i64 n, .int .i64 m]] w fun x w' => x = .returned (.bool true) ∧ ∃ fs', Two d r A Q fs' w' ∧ Moved w w' fs fs' := by
  have H : Hid (Two d r A Q fs (w.alloc (.cells #[.int .i64 kind, .string sa, .string sb, .slice ao len cap, .int .i64 n, .int .i64 m] 31)) ∧ Moved w (w.alloc (.cells #[.int .i64 kind, .string sa, .string sb, .slice ao len cap, .int .i64 n, .int .i64 m] 31)) fs fs) := ⟨h.grown (World.grownBy_alloc w _ Option.none), Moved.alloc _ _⟩
  have e0 : (kind == 0) = false := by rw [beq_eq_false_iff_ne]; omega
  have e1 : (kind == 1) = false := by rw [beq_eq_false_iff_ne]; omega
  have e2 : (kind == 2) = false := by rw [beq_eq_false_iff_ne]; omega
  have e3 : (kind == 3) = false := by rw [beq_eq_false_iff_ne]; omega
  have e4 : (kind == 4) = false := by rw [beq_eq_false_iff_ne]; omega
  have e5 : (kind == 5) = false := by rw [beq_eq_false_iff_ne]; omega
  have e6 : (kind == 6) = false := by rw [beq_eq_false_iff_ne]; omega
  have e7 : (kind == 7) = false := by rw [beq_eq_false_iff_ne]; omega
  have e8 : (kind == 8) = false := by rw [beq_eq_false_iff_ne]; omega
  have e9 : (kind == 9) = false := by rw [beq_eq_false_iff_ne]; omega
  clear h hk
  go_enter Tryz.func8, Tryz.ntmps8
  go_wp2_with fail
  go_ret
  exact ⟨rfl, fs, H.out.1, H.out.2⟩
end Go.Proofs.YtoeoioigelknnaaGreat

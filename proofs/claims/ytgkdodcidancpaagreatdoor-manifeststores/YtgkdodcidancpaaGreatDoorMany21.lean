/-
  SEVERAL TEXTS IN ONE: ManPlanS, ManWhole, RefFrame.
-/
import Derived.Test.YtgkdodcidancpaaGreatDoorMany20
import Derived.Test.YtgkdodcidancpaaGreatDoorMany4
namespace Go.Proofs.YtgkdodcidancpaaGreatDoor
open Go.RowKit Go.Maps

theorem growT_few' (t : Sig) (l : List UInt8) (h : t.bs.length + l.length ≤ 400) : growT t l ≤ 26 := by unfold growT growN; split <;> omega
theorem upon_ok {d : Nat} {A' : Ab} {f : List Nat} {u : World} {T : Ab → Prop} {F : Int → World → Prop} (hT : T A') {x : Ending} {u' : World} (h : Out d f u (0, A') x u') : Upon (Res T d u f) F x u' := by
  obtain ⟨rfl, f', h1, h2⟩ := h
  exact ⟨0, rfl, .inl ⟨rfl, A', f', hT, h1, h2⟩⟩
/-- What is left where the power failed. -/
def Gone (A : Ab) (o : Option (List UInt8)) (x : Int) (A' : Ab) : Prop := x = 9 ∧ A.left ≠ 0 ∧ A'.on = false ∧ findT A'.sp lM = fO o
theorem upon_cut {d bm : Nat} {A B : Ab} {o : Option (List UInt8)} {fs : List Ent} {u : World} {R : World → Prop} (hs : fs.map sig = B.sp) (hl : A.left ≠ 0) (hf : findT B.sp lM = fO o) {x : Ending} {u' : World} (h : Cut u d bm (B.st fs) x u') : Upon R (fun x => Res (Gone A o x) d u (foot d bm fs)) x u' := by
  obtain ⟨rfl, ft', h1, h2⟩ := at_cut hs h
  exact ⟨9, rfl, .inr ⟨by decide, _, ft', ⟨rfl, hl, rfl, find_cut o _ _ hf⟩, h1, h2⟩⟩
section
variable {A : Ab} {o : Option (List UInt8)} (hP : Pl A o) (E : List UInt8) (hE : E.length ≤ 400)
def t1M : Sig := ⟨lN, [], 0, []⟩
def A1M (A : Ab) : Ab := crT A lN
def t2M (A : Ab) (E : List UInt8) : Sig := ⟨lN, E, 0, List.range' A.next (growT t1M E)⟩
def A2M (A : Ab) (E : List UInt8) : Ab := appT (A1M A) lN t1M E
def A3M (A : Ab) (E : List UInt8) : Ab := syT (A2M A E) lN (t2M A E)
def A4M (A : Ab) (E : List UInt8) : Ab := rnT (A3M A E) lN lM (sureT lN E)
include hP
theorem sp1M : (A1M A).sp = spO o ++ [t1M] := by
  show putT A.sp ⟨lN, [], 0, []⟩ = _
  rw [hP.sp, sp_create]; rfl
theorem sp2M : (A2M A E).sp = spO o ++ [t2M A E] := by
  show upd (A1M A).sp lN ⟨lN, [] ++ E, 0, [] ++ List.range' A.next (growT t1M E)⟩ = _
  rw [sp1M hP, sp_upd o t1M _ rfl]; rfl
theorem sp3M : (A3M A E).sp = spO o ++ [sureT lN E] := by
  show upd (A2M A E).sp lN ⟨lN, E, E.length, []⟩ = _
  rw [sp2M hP, sp_upd o (t2M A E) _ rfl]; rfl
theorem sp4M : (A4M A E).sp = spO (some E) := by
  show putT (dropT (A3M A E).sp lN) ⟨lM, E, E.length, []⟩ = _
  rw [sp3M hP]; exact sp_rename o (sureT lN E) rfl E
theorem fine0M : A.Fine := fine_gen (r := []) (by rw [hP.sp, List.append_nil]) hP.room hP.small (by simp) (by simp)
theorem fine1M : (A1M A).Fine := fine_gen (sp1M hP) hP.room hP.small (by simp) (by simp [t1M])
include hE
theorem fine2M : (A2M A E).Fine := fine_gen (sp2M hP E) hP.room hP.small (by simp) (fun t ht => by
  rw [List.mem_singleton] at ht
  subst ht
  have hg := growT_few' t1M E (by show 0 + E.length ≤ _; omega)
  refine ⟨Nat.zero_le _, hE, List.pairwise_lt_range', fun q hq => ?_, by show (List.range' _ _).length ≤ _; rw [List.length_range']; omega⟩
  exact (List.mem_range'_1.1 hq).2)
theorem fine3M : (A3M A E).Fine := fine_gen (sp3M hP E) hP.room hP.small (by simp) (fun t ht => by
  rw [List.mem_singleton] at ht
  subst ht
  exact ⟨Nat.le_refl _, hE, List.Pairwise.nil, by simp [sureT], by simp [sureT]⟩)
omit hE in
theorem h3M {d : Nat} (u : World) (f : List Nat) (h : At d A f u) : Calls Tryz.prog 27 #[.pointer (some ⟨d, 0, none⟩), .string nmN] u (Upon (Res (fun A1 => A.left ≠ 1 ∧ A1 = A1M A) d u f) (fun x => Res (Gone A o x) d u f)) := by
  have hu := used_gen (A := A) (r := []) (by rw [hP.sp, List.append_nil]) hP.small (by simp) (by simp)
  have hfd : findT A.sp lN = none := by rw [hP.sp]; cases o <;> rfl
  have hln : A.sp.length ≤ 1 := by rw [hP.sp]; cases o <;> simp [spO]
  have hops := hP.ops
  have hleft := hP.left
  have hrm := hP.room
  by_cases hl : A.left = 1
  · obtain ⟨bm, fs, hD, hss, rfl⟩ := h
    have hlen : fs.length = A.sp.length := by rw [← hss, List.length_map]
    refine (create_new_cut hD nmN nmN_size (by show refuse A.on [nmN] = 0; rw [hP.on]; exact nmN_good) (find_sig_none hss hfd) (by show fs.length < 48; omega) (by show sumUsed fs < A.room; rw [used_sig, hss]; omega) (by show A.room ≤ _; omega) hl (by show A.ops ≤ _; omega) ((fine0M hP).st hss) hP.keep).mono ?_
    intro x u' hc
    exact upon_cut hss (by omega) (by rw [hP.sp]; exact find_spO o) hc
  · have := abx_create h nmN nmN_size (fine0M hP) hl (by omega) (by omega)
    have e : createM A nmN = (0, A1M A) := by
      unfold createM
      rw [if_pos (by rw [hP.on]; exact nmN_good), nameN, hfd]
      dsimp only
      rw [if_neg (by omega)]
      rfl
    rw [e] at this
    exact this.mono fun x u' hh => upon_ok ⟨hl, rfl⟩ hh
theorem h4M {d : Nat} (hl1 : A.left ≠ 1) (u : World) (f : List Nat) (a : Nat) (h : At d (A1M A) f u) (hs : Sees u (some ⟨a, 0, none⟩) E) (ha : a ∉ f) : Calls Tryz.prog 29 #[.pointer (some ⟨d, 0, none⟩), .string nmN, .slice (some ⟨a, 0, none⟩) E.length E.length] u (Upon (Res (fun A2 => A.left ≠ 1 ∧ A.left ≠ 2 ∧ A2 = A2M A E) d u f) (fun x => Res (Gone A o x) d u f)) := by
  have hu := used_gen (sp1M hP) hP.small (by simp) (by simp [t1M])
  have hfd : findT (A1M A).sp lN = some t1M := by rw [sp1M hP]; exact (find_two o t1M rfl).2
  have hops := hP.ops
  have hleft := hP.left
  have hrm := hP.room
  have hnext := hP.next
  have hlk : lackT t1M E ≤ 26 := by
    unfold lackT t1M
    have h0 : secI ((([] : List UInt8).length : Nat) : Int) = 0 := rfl
    rw [h0]
    have := secI_nat (0 + E.length)
    simp only [List.length_nil, Int.natCast_zero, Int.zero_add, Nat.zero_add] at this ⊢
    rw [this]
    omega
  have hon : (A1M A).on = true := hP.on
  have hsm : ∀ t ∈ (A1M A).sp, t.bs.length ≤ 400 := by
    rw [sp1M hP]
    intro t ht
    rcases List.mem_append.1 ht with ht | ht
    · cases o with
      | none => cases ht
      | some E' =>
        simp only [spO, List.mem_singleton] at ht
        subst ht
        exact hP.small E' rfl
    · rw [List.mem_singleton] at ht
      subst ht
      show 0 ≤ _
      omega
  by_cases hl : A.left = 2
  · obtain ⟨bm, fs, hD, hss, rfl⟩ := h
    obtain ⟨e, he, hse⟩ := find_sig_some hss hfd
    obtain ⟨hem, hen⟩ := find_some he
    have q1 : e.nm = lN := hen
    have q2 : e.bs = [] := congrArg Sig.bs hse
    have q3 : e.wr = 0 := congrArg Sig.wr hse
    have q4 : e.pl = [] := congrArg Sig.pl hse
    have hgs : growS e E = growT t1M E := by unfold growS growT; rw [q2, q3, q4]; rfl
    have hg := growT_few' t1M E (by show 0 + E.length ≤ _; omega)
    have hsw : ∀ e' : Ent, e'.nm = e.nm → e'.bs = e.bs ++ E → e'.wr = e.wr → e'.pl = e.pl ++ List.range' (A1M A).next (growS e E) → (swap fs e e').map sig = spO o ++ [t2M A E] := fun e' h1 h2 h3 h4 => by
      have := swap_sig (S := (A1M A).st fs) hD (e' := e') hem
      have this2 : (swap fs e e').map sig = upd (fs.map sig) e.nm (sig e') := this
      rw [this2, hss, sp1M hP, q1, sp_upd o t1M _ rfl]
      have : sig e' = t2M A E := by
        unfold sig t2M
        rw [h1, h2, h3, h4, q1, q2, q3, q4, hgs]
        rfl
      rw [this]
    refine (append_cut hD nmN nmN_size (some ⟨a, 0, none⟩) E E.length hs (by show refuse (A1M A).on [nmN] = 0; rw [hon]; exact nmN_good) he (fun a' e' _ => by cases e'; exact ha) (by show A.left - 1 = 1; omega) (by show A.ops + 1 ≤ _; omega) hP.keep ?_ (by rw [q2]; simp; omega) (by show A.next ≤ _; omega) (by rw [q4]; simp) (by rw [q3]; omega) (by show A.room ≤ _; omega) (by show sumUsed fs ≤ _; rw [used_sig, hss]; omega) ?_).mono ?_
    · intro e' h1 h2 h3 h4 h5
      have hsp := hsw e' h1 h3 h4 h5
      have hF : Ab.Fine ⟨spO o ++ [t2M A E], A.room, true, A.ops + 2, A.next + growT t1M E, A.left - 1, A.keep⟩ := fine_gen rfl hP.room hP.small (by simp) (fun t ht => by
        rw [List.mem_singleton] at ht
        subst ht
        refine ⟨Nat.zero_le _, hE, List.pairwise_lt_range', fun q hq => ?_, by show (List.range' _ _).length ≤ _; rw [List.length_range']; omega⟩
        exact (List.mem_range'_1.1 hq).2)
      have := hF.st hsp
      rw [hgs]
      have hon2 : ((A1M A).st fs).on = true := hP.on
      exact ⟨this.files, this.room, this.used, this.dirty⟩
    · apply decide_eq_false
      show ¬ ((A.room : Int) - (sumUsed fs : Int) < _)
      rw [used_sig, hss]
      have : lackT t1M E = secI ((e.bs.length : Int) + (E.length : Int)) - secI (e.bs.length : Int) := by rw [q2]; rfl
      rw [← this]
      omega
    · rintro x u' ⟨rfl, e', h1, h2, h3, h4, h5, S1, hS1, h6, h7⟩
      have hsp := hsw e' h1 h3 h4 h5
      generalize lineEndN S1 ((A1M A).st fs).keep.toNat = X at h6 h7
      subst hS1
      dsimp only at h6 h7
      refine ⟨9, rfl, .inr ⟨by decide, ⟨((swap fs e e').map fun e => loseE e X).map sig, A.room, false, A.ops + 2, A.next + growS e E, A.left - 1, A.keep⟩, _, ⟨rfl, by omega, rfl, ?_⟩, ⟨bm, _, h6, rfl, rfl⟩, h7⟩⟩
      have e2 : (((swap fs e e').map fun e => loseE e X).map sig) = ((swap fs e e').map sig).map (fun t => loseT t X) := by rw [List.map_map, List.map_map]; rfl
      show findT (((swap fs e e').map fun e => loseE e X).map sig) lM = _
      rw [e2, hsp]
      exact find_cut o _ _ (find_two o (t2M A E) rfl).1
  · have := abx_append h nmN nmN_size (some ⟨a, 0, none⟩) E E.length hs (fun a' e' _ => by cases e'; exact ha) (fine1M hP) (by show A.left - 1 ≠ 1; omega) (by show A.ops + 1 ≤ _; omega) (by show A.left - 1 ≤ _; omega) (by show A.next ≤ _; omega) (fun t ht => by have := hsm t ht; omega)
    have e : appendM (A1M A) nmN E = (0, A2M A E) := by
      unfold appendM
      rw [if_pos (by rw [hon]; exact nmN_good), nameN, hfd]
      dsimp only
      rw [if_neg (by show ¬ (A.room : Int) - _ < _; omega)]
      rfl
    rw [e] at this
    exact this.mono fun x u' hh => upon_ok ⟨hl1, hl, rfl⟩ hh
theorem h5M {d : Nat} (hl1 : A.left ≠ 1) (hl2 : A.left ≠ 2) (u : World) (f : List Nat) (h : At d (A2M A E) f u) : Calls Tryz.prog 31 #[.pointer (some ⟨d, 0, none⟩), .string nmN] u (Upon (Res (fun A3 => A.left ≠ 1 ∧ A.left ≠ 2 ∧ A.left ≠ 3 ∧ A3 = A3M A E) d u f) (fun x => Res (Gone A o x) d u f)) := by
  have hfd : findT (A2M A E).sp lN = some (t2M A E) := by rw [sp2M hP]; exact (find_two o (t2M A E) rfl).2
  have hops := hP.ops
  have hleft := hP.left
  have hon : (A2M A E).on = true := hP.on
  by_cases hl : A.left = 3
  · obtain ⟨bm, fs, hD, hss, rfl⟩ := h
    obtain ⟨e, he, hse⟩ := find_sig_some hss hfd
    refine (sync_cut hD nmN nmN_size (by show refuse (A2M A E).on [nmN] = 0; rw [hon]; exact nmN_good) he (by show A.left - 1 - 1 = 1; omega) (by show A.ops + 1 + 1 ≤ _; omega) ((fine2M hP E hE).st hss) hP.keep).mono ?_
    intro x u' hc
    exact upon_cut hss (by omega) (by rw [sp2M hP]; exact (find_two o (t2M A E) rfl).1) hc
  · have := abx_sync h nmN nmN_size (by show A.left - 1 - 1 ≠ 1; omega) (by show A.ops + 1 + 1 ≤ _; omega) (by show A.left - 1 - 1 ≤ _; omega)
    have e : syncM (A2M A E) nmN = (0, A3M A E) := by
      unfold syncM
      rw [if_pos (by rw [hon]; exact nmN_good), nameN, hfd]
      rfl
    rw [e] at this
    exact this.mono fun x u' hh => upon_ok ⟨hl1, hl2, hl, rfl⟩ hh
theorem h6M {d : Nat} (u : World) (f : List Nat) (h : At d (A3M A E) f u) : Calls Tryz.prog 33 #[.pointer (some ⟨d, 0, none⟩), .string nmN, .string nmM] u (Upon (Res (fun A4 => A4 = A4M A E) d u f) (fun x => Res (Gone A o x) d u f)) := by
  have hfd : findT (A3M A E).sp lN = some (sureT lN E) := by rw [sp3M hP]; exact (find_two o (sureT lN E) rfl).2
  have hops := hP.ops
  have hleft := hP.left
  have hon : (A3M A E).on = true := hP.on
  by_cases hl : A.left = 4
  · obtain ⟨bm, fs, hD, hss, rfl⟩ := h
    obtain ⟨e, he, hse⟩ := find_sig_some hss hfd
    refine (rename_cut hD nmN nmM nmN_size nmM_size (by show refuse (A3M A E).on [nmN, nmM] = 0; rw [hon]; exact nmNM_good) (by show refuse (A3M A E).on [nmN] = 0; rw [hon]; exact nmN_good) he (by show A.left - 1 - 1 - 1 = 1; omega) (by show A.ops + 1 + 1 + 1 ≤ _; omega) ((fine3M hP E hE).st hss) hP.keep).mono ?_
    intro x u' hc
    exact upon_cut hss (by omega) (by rw [sp3M hP]; exact (find_two o (sureT lN E) rfl).1) hc
  · have := abx_rename h nmN nmN_size nmM nmM_size (fine3M hP E hE) (by show A.left - 1 - 1 - 1 ≠ 1; omega) (by show A.ops + 1 + 1 + 1 ≤ _; omega) (by show A.left - 1 - 1 - 1 ≤ _; omega)
    have e : renameM (A3M A E) nmN nmM = (0, A4M A E) := by
      unfold renameM
      rw [if_pos (by rw [hon]; exact nmNM_good), nameN, hfd]
      rfl
    rw [e] at this
    exact this.mono fun x u' hh => upon_ok (T := fun A4 => A4 = A4M A E) rfl hh
end
theorem storeM_plan {d : Nat} {A : Ab} {o : Option (List UInt8)} {ft : List Nat} {w : World} (hA : At d A ft w) (hP : Pl A o) (ao : Option Addr) (cap : Nat) (m : Mf) (hm : MSees w ao cap m) (hcp : cap ≤ 9223372036854775807) (ht : Tab w) (hg : goodM m = true) :
    Calls Tryz.prog 9 #[.pointer (some ⟨d, 0, none⟩), mval ao cap m] w (Upon (Res (fun A4 => A4 = A4M A (encM m)) d w ft) (fun x => Res (Gone A o x) d w ft)) := by
  have hE : (encM m).length ≤ 400 := by have := good_len hg; rw [encM_len]; omega
  refine storeM_run hA hP.on ao cap m hm hcp ht hg (fun A1 => A.left ≠ 1 ∧ A1 = A1M A) (fun A2 => A.left ≠ 1 ∧ A.left ≠ 2 ∧ A2 = A2M A (encM m)) (fun A3 => A.left ≠ 1 ∧ A.left ≠ 2 ∧ A.left ≠ 3 ∧ A3 = A3M A (encM m)) (fun A4 => A4 = A4M A (encM m)) (Gone A o) (h3M hP) ?_ ?_ ?_
  · rintro A1 ⟨h1, rfl⟩ u f a hat hs ha
    exact h4M hP (encM m) hE h1 u f a hat hs ha
  · rintro A2 ⟨h1, h2, rfl⟩ u f hat
    exact h5M hP (encM m) hE h1 h2 u f hat
  · rintro A3 ⟨_, _, _, rfl⟩ u f hat
    exact h6M hP (encM m) hE u f hat
end Go.Proofs.YtgkdodcidancpaaGreatDoor
namespace Go.Proofs.YtgkdodcidancpaaGreatDoor
open Go.RowKit Go.Maps

/-- A block, what it holds, its type. -/
abbrev Bx := Nat × List Value × TypeId
/-- The law's disk, and boxes beside it, all of it new since w. -/
def LW (w : World) (d : Nat) (A : Ab) (bx : List Bx) (u : World) : Prop :=
  ∃ ft, At d A ft u ∧ (∀ q ∈ bx, Blk u q.1 q.2.1 q.2.2 ∧ q.1 ∉ ft ∧ w.heap.size ≤ q.1) ∧ (∀ i ∈ ft, w.heap.size ≤ i) ∧ Below w.heap.size w u
section
variable {w : World} {d : Nat} {A : Ab} {bx : List Bx} {u : World}
theorem LW.bel (h : LW w d A bx u) : Below w.heap.size w u := by obtain ⟨ft, _, _, _, h4⟩ := h; exact h4
theorem LW.blk (h : LW w d A bx u) {q : Bx} (hq : q ∈ bx) : Blk u q.1 q.2.1 q.2.2 := by obtain ⟨ft, _, h2, _, _⟩ := h; exact (h2 q hq).1
theorem LW.step {A' : Ab} {ft ft' : List Nat} {u' : World} (h2 : ∀ q ∈ bx, Blk u q.1 q.2.1 q.2.2 ∧ q.1 ∉ ft ∧ w.heap.size ≤ q.1) (h3 : ∀ i ∈ ft, w.heap.size ≤ i) (h4 : Below w.heap.size w u) (ha : At d A' ft' u') (hm : Moved u u' ft ft') : LW w d A' bx u' := by
  have hs := h4.size
  refine ⟨ft', ha, fun q hq => ?_, fun i hi => ?_, h4.trans ⟨hm.os, hm.tape, hm.output, hm.size, fun i hi => hm.kept i (by omega) fun h => by have := h3 i h; omega⟩⟩
  · obtain ⟨b1, b2, b3⟩ := h2 q hq
    refine ⟨b1.carry (hm.kept _ b1.lt b2), fun h => ?_, b3⟩
    rcases hm.news _ h with h | h
    · exact b2 h
    · have := b1.lt; omega
  · rcases hm.news i hi with h | h
    · exact h3 i h
    · omega
theorem LW.more (h : LW w d A bx u) {u' : World} (hb : Below u.heap.size u u') : LW w d A bx u' := by
  obtain ⟨ft, h1, h2, h3, h4⟩ := h
  exact LW.step h2 h3 h4 (h1.moved (moved_belowM (ft := []) hb) (by simp)) (moved_belowM hb)
theorem LW.grown (h : LW w d A bx u) {u' : World} (hg : u.grownBy u' none) : LW w d A bx u' := h.more ((Below.refl _ _).grown hg (Nat.le_refl _) (fun k hk => by cases hk))
theorem LW.push (h : LW w d A bx u) (cs : List Value) (t : TypeId) : LW w d A ((u.heap.size, cs, t) :: bx) (u.alloc (.cells cs.toArray t)) := by
  have hb : Below u.heap.size u (u.alloc (.cells cs.toArray t)) := (Below.refl _ _).alloc (Nat.le_refl _) _
  have hs := h.bel.size
  obtain ⟨ft, h1, h2, h3, h4⟩ := h
  obtain ⟨ft', g1, g2, g3, g4⟩ := LW.step h2 h3 h4 (h1.moved (moved_belowM (ft := []) hb) (by simp)) (moved_belowM (ft := ft) hb)
  have hlt := h1.lt
  refine ⟨ft, h1.moved (moved_belowM (ft := []) hb) (by simp), fun q hq => ?_, h3, g4⟩
  rcases List.mem_cons.1 hq with rfl | hq
  · exact ⟨Blk.new u cs t, fun h => by have := hlt _ h; exact absurd this (Nat.lt_irrefl _), hs⟩
  · exact ⟨(g2 q hq).1, (h2 q hq).2⟩
theorem LW.sub (h : LW w d A bx u) {bx' : List Bx} (hs : ∀ q ∈ bx', q ∈ bx) : LW w d A bx' u := by
  obtain ⟨ft, h1, h2, h3, h4⟩ := h
  exact ⟨ft, h1, fun q hq => h2 q (hs q hq), h3, h4⟩
/-- A box is written. -/
theorem LW.put {b : Nat} {cs cs' : List Value} {t : TypeId} (h : LW w d A ((b, cs, t) :: bx) u) {u' : World} (hk : Blk u' b cs' t) (ho : ∀ i, i ≠ b → u'.heap[i]? = u.heap[i]?) (hr : u'.os = u.os ∧ u'.tape = u.tape ∧ u'.output = u.output ∧ u'.heap.size = u.heap.size) (hne : ∀ q ∈ bx, q.1 ≠ b) : LW w d A ((b, cs', t) :: bx) u' := by
  obtain ⟨ft, h1, h2, h3, h4⟩ := h
  have hb := h2 _ (List.mem_cons_self ..)
  have hmv : Moved u u' [b] [b] := ⟨hr.1, hr.2.1, hr.2.2.1, Nat.le_of_eq hr.2.2.2.symm, fun i _ hi => ho i (by simpa using hi), fun _ hi => .inl hi⟩
  refine ⟨ft, h1.moved hmv (fun i hi h => by rw [List.mem_singleton] at h; subst h; exact hb.2.1 hi), fun q hq => ?_, h3, h4.trans ⟨hr.1, hr.2.1, hr.2.2.1, Nat.le_of_eq hr.2.2.2.symm, fun i hi => ho i (by have := hb.2.2; dsimp only at this; omega)⟩⟩
  rcases List.mem_cons.1 hq with rfl | hq
  · exact ⟨hk, hb.2⟩
  · have := h2 q (List.mem_cons_of_mem _ hq)
    exact ⟨this.1.carry (ho _ (hne q hq)), this.2⟩
end
theorem LW.set3 {w : World} {d : Nat} {A : Ab} {bx : List Bx} {u : World} {b : Nat} {v0 v1 v2 x0 x1 x2 : Value} {t : TypeId} (h : LW w d A ((b, [v0, v1, v2], t) :: bx) u) (hne : ∀ q ∈ bx, q.1 ≠ b) : LW w d A ((b, [x0, x1, x2], t) :: bx) (((u.setCell ⟨b, 0, none⟩ x0).setCell ⟨b, 1, none⟩ x1).setCell ⟨b, 2, none⟩ x2) :=
  h.put ((((h.blk (List.mem_cons_self ..)).setTo 0 x0 [x0, v1, v2] rfl).setTo 1 x1 [x0, x1, v2] rfl).setTo 2 x2 [x0, x1, x2] rfl) (fun i hi => by rw [Below.heap_setCell _ _ _ _ (by exact hi), Below.heap_setCell _ _ _ _ (by exact hi), Below.heap_setCell _ _ _ _ (by exact hi)]) ⟨rfl, rfl, rfl, by rw [size_setCell, size_setCell, size_setCell]⟩ hne
theorem newPl : Pl (newA 100000) none := ⟨rfl, rfl, rfl, Nat.zero_le _, Nat.zero_le _, Nat.zero_le _, by decide, by simp⟩
theorem lw_new (w u : World) (bx : List Bx) (hb : Below w.heap.size w u) (hbx : ∀ q ∈ bx, Blk u q.1 q.2.1 q.2.2 ∧ w.heap.size ≤ q.1) : Calls Tryz.prog 4 #[.int .i64 100000] u fun x u' => ∃ d, x = .returned (.pointer (some ⟨d, 0, none⟩)) ∧ LW w d (newA 100000) bx u' := by
  refine (ab_new 100000 (by omega) u).mono ?_
  rintro x u' ⟨d, ft, rfl, hA, hg, hn⟩
  have hs := hb.size
  refine ⟨d, rfl, ft, hA, fun q hq => ⟨(hbx q hq).1.carry (hg.block _ (hbx q hq).1.lt (by simp)), fun h => ?_, (hbx q hq).2⟩, fun i hi => by have := hn i hi; omega, hb.grown hg hs (fun k hk => by cases hk)⟩
  have := hn _ h
  have := (hbx q hq).1.lt
  omega
section
variable {w : World} {d : Nat} {A : Ab} {bx : List Bx} {u : World} (h : LW w d A bx u)
include h
theorem lw_store {o : Option (List UInt8)} (hP : Pl A o) (ao : Option Addr) (cap : Nat) (m : Mf) (hm : MSees w ao cap m) (hcp : cap ≤ 9223372036854775807) (ht : Tab w) (hg : goodM m = true) :
    Calls Tryz.prog 9 #[.pointer (some ⟨d, 0, none⟩), mval ao cap m] u fun e u' => ∃ x : Int, e = .returned (.int .i64 x) ∧ ((x = 0 ∧ LW w d (A4M A (encM m)) bx u') ∨ (x = 9 ∧ A.left ≠ 0 ∧ ∃ A', A'.on = false ∧ findT A'.sp lM = fO o ∧ LW w d A' bx u')) := by
  obtain ⟨ft, h1, h2, h3, h4⟩ := h
  refine (storeM_plan h1 hP ao cap m (hm.below h4 (Nat.le_refl _)) hcp (ht.below h4 (Nat.le_refl _)) hg).mono ?_
  rintro e u' ⟨x, rfl, hx⟩
  refine ⟨x, rfl, hx.imp (fun hh => ⟨hh.1, ?_⟩) (fun hh => ?_)⟩
  · obtain ⟨A', f', rfl, g1, g2⟩ := hh.2
    exact LW.step h2 h3 h4 g1 g2
  · obtain ⟨A', f', ⟨rfl, q2, q3, q4⟩, g1, g2⟩ := hh.2
    exact ⟨rfl, q2, A', q3, q4, LW.step h2 h3 h4 g1 g2⟩
theorem lw_arm (hon : A.on = true) (n : Nat) (k : Int) : Calls Tryz.prog 7 #[.pointer (some ⟨d, 0, none⟩), .int .i64 (n : Int), .int .i64 k] u fun e u' => e = .returned (.int .i64 0) ∧ LW w d { A with left := n, keep := k } bx u' := by
  obtain ⟨ft, ⟨bm, fs, hD, hss, rfl⟩, h2, h3, h4⟩ := h
  refine (arm_ok hD n k hon).mono ?_
  rintro x u' ⟨rfl, g1, g2⟩
  exact ⟨rfl, LW.step h2 h3 h4 ⟨bm, fs, g1, hss, rfl⟩ (g2.wider (fun i hi => .inl (by simp at hi; simp [foot, hi])) (fun i hi => .inl hi))⟩
theorem lw_on : Calls Tryz.prog 118 #[.pointer (some ⟨d, 0, none⟩)] u fun e u' => e = .returned (.bool A.on) ∧ u' = u := by
  obtain ⟨ft, ⟨bm, fs, hD, hss, rfl⟩, h2, h3, h4⟩ := h
  exact on_any hD
theorem lw_crash {o : Option (List UInt8)} (hP : Pl A o) (keep : Int) (hk : -9223372036854775808 ≤ keep ∧ keep ≤ 9223372036854775807) : Calls Tryz.prog 97 #[.pointer (some ⟨d, 0, none⟩), .int .i64 keep] u fun e u' => e = .returned (.tuple #[]) ∧ ∃ A', A'.on = false ∧ findT A'.sp lM = fO o ∧ LW w d A' bx u' := by
  obtain ⟨ft, h1, h2, h3, h4⟩ := h
  refine (ab_crash h1 hP.on (fine0M hP) keep hk.1 hk.2).mono ?_
  rintro x u' ⟨rfl, ft', g1, g2⟩
  exact ⟨rfl, _, rfl, find_cut o _ _ (by rw [hP.sp]; exact find_spO o), LW.step h2 h3 h4 g1 g2⟩
end
end Go.Proofs.YtgkdodcidancpaaGreatDoor
namespace Go.Proofs.YtgkdodcidancpaaGreatDoor
open Go.RowKit

theorem refFrame_long (ao : Option Addr) (n cap : Nat) (w : World) (h : 262144 < n) (hn : n ≤ 140737488355328) :
    Calls Tryz.prog 67 #[.slice ao n cap] w fun e w' => e = .returned (.slice none 0 0) ∧ w' = w := by
  go_enter Tryz.func67, Tryz.ntmps67
  go_wp2
  go_ret
  exact ⟨rfl, rfl⟩

/-- A row that was just laid. -/
theorem owns_lit (w : World) (l : List UInt8) (base : Nat) (hb : base ≤ w.heap.size) (hm : l.length ≤ maxLen) : (w.alloc (.cells (B8 l).toArray 5)).ownsRow base 5 1 (.slice (some ⟨w.heap.size, 0, none⟩) l.length l.length) l.length (B8 l) := by
  have := World.ownsRow_lit (e := 5) (size := 1) w (B8 l).toArray l.length hb hm (by simp [B8_length])
  simpa using this
theorem src_owns {w : World} {base n : Nat} {l : List UInt8} {v : Value} (h : w.ownsRow base 5 1 v n (B8 l)) : Src Tryz.prog 1 58 v n (B8 l) w := by
  obtain ⟨ao, cap, rfl, hs, hl, hn⟩ := owns_sees h
  have := src_sees (P := Tryz.prog) Tryz.underlying58 hs (fun e => by have := (hn e).1; omega) cap
  rwa [hl] at this
theorem owns_grew {w w' : World} {base : Nat} {e : TypeId} {size : Nat} {v : Value} {n : Nat} {xs : List Value} (h : w.ownsRow base e size v n xs) {u u' : Value} (hg : Grew w w' u u') (hne : ∀ k, v.ownBlock = some k → u.ownBlock ≠ some k) : w'.ownsRow base e size v n xs :=
  owns_heap h fun k hk => hg.rows.block k (h.lt k hk).2 (fun e => hne k hk e.symm)

set_option maxRecDepth 100000 in
set_option maxHeartbeats 1600000 in
theorem refFrame_any (ao : Option Addr) (l : List UInt8) (cap : Nat) (w : World) (hl : l.length ≤ 262144) (hs : Sees w ao l) (hnone : ao = none → l.length = 0) :
    Calls Tryz.prog 67 #[.slice ao l.length cap] w fun e w' => ∃ v', e = .returned v' ∧ w'.ownsRow w.heap.size 5 1 v' (l.length + 8) (B8 (frameL l)) ∧ Below w.heap.size w w' := by
  obtain ⟨i0, hi, hz0, hz1, hz2⟩ := info_parts info8
  have Hnone : Hid _ := hnone
  clear hnone
  have Hf1 : Hid _ := four_any l.length w (by omega)
  have o1 := owns_lit w (fourL l.length) w.heap.size (Nat.le_refl _) (by rw [fourL_length]; decide)
  have b1 : Below w.heap.size w (w.alloc (.cells (B8 (fourL l.length)).toArray 5)) := (Below.refl _ _).alloc (Nat.le_refl _) _
  have z1 : w.heap.size + 1 ≤ (w.alloc (.cells (B8 (fourL l.length)).toArray 5)).heap.size := by rw [World.size_alloc]; omega
  go_enter Tryz.func67, Tryz.ntmps67
  go_wp2_with fail
  refine Calls.mono (Hid.out Hf1) ?_
  rintro e w1 ⟨rfl, hw1⟩
  rw [← hw1] at o1 b1 z1
  clear hw1 Hf1
  have n2 := owns_none w1
  have o2 := o1.alloc (.cells #[] 5)
  have s2 := src_owns o2
  have bs1 := hs.below b1 (Nat.le_refl _)
  go_wp2_with (first
    | ((with_reducible (show wpList _ _ _ (Oper.mk _ (Op.call ⟨Callee.builtin Builtin.append, #[.tmp 12, .tmp 13], _⟩) _ _ _ _ :: _) _ _)); go_must (refine wpList_append_grew _ rfl (.tmp 12) (.tmp 13) 58 58 rfl w1.heap.size 5 i0 (.int .u8 0) 1 1 Tryz.underlying58 hi hz0 hz1 hz2 rfl _ 0 _ rfl n2 _ 4 (B8 (fourL l.length)) rfl s2 (by unfold maxLen; omega) (by omega) (by rw [World.size_alloc]; omega) ?_; intro v3 w3 ho3 hg3; have bs3 := hs.below (b1.trans ((below_none hg3).mono (by omega))) (Nat.le_refl _); have s3 := src_sees (P := Tryz.prog) Tryz.underlying58 bs3 Hnone.out cap; have hw3 := (below_none hg3).size))
    | ((with_reducible (show wpList _ _ _ (Oper.mk _ (Op.call ⟨Callee.builtin Builtin.append, #[.tmp 14, .tmp 15], _⟩) _ _ _ _ :: _) _ _)); go_must (refine wpList_append_grew _ rfl (.tmp 14) (.tmp 15) 58 58 rfl w1.heap.size 5 i0 (.int .u8 0) 1 1 Tryz.underlying58 hi hz0 hz1 hz2 rfl _ (0 + 4) _ rfl ho3 _ l.length (B8 l) rfl s3 (by unfold maxLen; omega) (by omega) (by omega) ?_; intro v4 w4 ho4 hg4)))
  have ho4' : w4.ownsRow w1.heap.size 5 1 v4 (4 + l.length) (B8 (fourL l.length ++ l)) := by rw [B8_append]; simpa using ho4
  obtain ⟨ao4, cap4, rfl, s4, l4, n4⟩ := owns_sees ho4'
  have g4 := hg3.trans hg4
  have b4 : Below w1.heap.size w1 w4 := below_none g4
  have o4 : w4.ownsRow w.heap.size 5 1 (.slice (some ⟨w.heap.size, 0, none⟩) 4 4) 4 (B8 (fourL l.length)) := owns_heap o1 (fun k hk => by cases hk; exact b4.block w.heap.size (by omega))
  have b4w : Below w.heap.size w w4 := b1.trans (b4.mono (by omega))
  have Hsum : Hid _ := refSum_any ao4 (fourL l.length ++ l) cap4 w4 s4 (by rw [l4]; omega)
  rw [l4] at Hsum
  clear ho3 ho4 ho4' hg3 hg4 g4 n2 o2 s2 bs1 o1 b1 hw3 s3 bs3 s4 n4
  refine Calls.mono (Hid.out Hsum) ?_
  rintro e w' ⟨rfl, rfl⟩
  obtain ⟨S, hS⟩ := Int.eq_ofNat_of_zero_le (sumZ_bd (fourL l.length ++ l)).1
  have hS32 : S < 4294967296 := by have := (sumZ_bd (fourL l.length ++ l)).2; omega
  have Hfin : Hid (frameL l = fourL l.length ++ (fourL S ++ l)) := by show _ = _; unfold frameL; rw [hS, Int.toNat_natCast]
  rw [hS]
  clear hS Hsum
  have Hf2 : Hid _ := four_any S w' hS32
  have o5 := owns_lit w' (fourL S) w'.heap.size (Nat.le_refl _) (by rw [fourL_length]; decide)
  have n5 := o4.alloc (.cells (B8 (fourL S)).toArray 5)
  have b5 : Below w.heap.size w (w'.alloc (.cells (B8 (fourL S)).toArray 5)) := b4w.alloc b4w.size _
  go_wp2_with fail
  refine Calls.mono (Hid.out Hf2) ?_
  rintro e w5 ⟨rfl, hw5⟩
  rw [← hw5] at o5 n5 b5
  clear hw5 Hf2
  have s5 := src_owns o5
  go_wp2_with (first
    | ((with_reducible (show wpList _ _ _ (Oper.mk _ (Op.call ⟨Callee.builtin Builtin.append, #[.tmp 18, .tmp 20], _⟩) _ _ _ _ :: _) _ _)); go_must (refine wpList_append_grew _ rfl (.tmp 18) (.tmp 20) 58 58 rfl w.heap.size 5 i0 (.int .u8 0) 1 1 Tryz.underlying58 hi hz0 hz1 hz2 rfl _ 4 _ rfl n5 _ 4 (B8 (fourL S)) rfl s5 (by unfold maxLen; omega) (by omega) (b5.size) ?_; intro v6 w6 ho6 hg6; have b6 := b5.trans (hg6.below b5.size (fun k hk => by cases hk; exact Nat.le_refl _)); have s6 := src_sees (P := Tryz.prog) Tryz.underlying58 (hs.below b6 (Nat.le_refl _)) Hnone.out cap))
    | ((with_reducible (show wpList _ _ _ (Oper.mk _ (Op.call ⟨Callee.builtin Builtin.append, #[.tmp 21, .tmp 22], _⟩) _ _ _ _ :: _) _ _)); go_must (refine wpList_append_grew _ rfl (.tmp 21) (.tmp 22) 58 58 rfl w.heap.size 5 i0 (.int .u8 0) 1 1 Tryz.underlying58 hi hz0 hz1 hz2 rfl _ (4 + 4) _ rfl ho6 _ l.length (B8 l) rfl s6 (by unfold maxLen; omega) (by omega) (b6.size) ?_; intro v7 w7 ho7 hg7)))
  go_ret
  refine ⟨v7, rfl, ?_, b6.trans (hg7.below b6.size (fun k hk => (ho6.lt k hk).1))⟩
  rw [Hfin.out, ← List.append_assoc, B8_append, B8_append, show l.length + 8 = 4 + 4 + l.length by omega]
  exact ho7
end Go.Proofs.YtgkdodcidancpaaGreatDoor

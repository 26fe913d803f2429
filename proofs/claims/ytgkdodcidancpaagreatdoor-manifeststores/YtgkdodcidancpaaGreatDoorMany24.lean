/-
  SEVERAL TEXTS IN ONE: DskRef3, KeyPrint, KeyLives.
-/
import Derived.Test.YtgkdodcidancpaaGreatDoorMany23
import Derived.Lib.ItoaLen
import Derived.Test.YtgkdodcidancpaaGreatDoorMany14
import Derived.Laws.BytesString
import Derived.Lib.SlBytesConst
namespace Go.Proofs.YtgkdodcidancpaaGreatDoor
open Go.RowKit Go.Maps

theorem infoPl : (Tryz.prog.info? 109).map (fun i => (i.zero, i.size, i.bytes)) = some (some (.agg #[.string ⟨#[]⟩, .int .i64 0]), 2, 24) := by kernel_rfl
theorem infoFl : (Tryz.prog.info? 86).map (fun i => (i.zero, i.size, i.bytes)) = some (some (.agg #[.string ⟨#[]⟩, .slice none 0 0, .int .i64 0]), 3, 48) := by kernel_rfl
theorem RF.cells_one (f : RF) : ∀ u ∈ f.cells, u.oneCell' = true := by
  intro u hu
  simp [RF.cells] at hu
  rcases hu with rfl | rfl | rfl <;> rfl
theorem plC_one (p : List UInt8 × Nat) : ∀ u ∈ plC p, u.oneCell' = true := by
  intro u hu
  simp [plC] at hu
  rcases hu with rfl | rfl <;> rfl
/-- One record in a new block, as a source. -/
theorem src_rec {P : Program} {tx e' : TypeId} (hkk : P.underlying tx = some (.slice e')) {w : World} {g k : Nat} {cs : List Value} (hl : cs.length = k) {t : TypeId} (hb : Blk w g cs t) (h1 : ∀ u ∈ cs, u.oneCell' = true) : Src P k tx (.slice (some ⟨g, 0, none⟩) 1 1) 1 cs w :=
  Src.ofSlice w hkk _ 1 1 _ (by omega) (fun j u hu => by rw [Addr.add_lit, Nat.zero_add]; exact hb.cell j hu) h1
theorem owns_up {w w' : World} {base : Nat} {e : TypeId} {size : Nat} {v : Value} {n : Nat} {xs : List Value} (h : w.ownsRow base e size v n xs) (hg : w.grownBy w' none) : w'.ownsRow base e size v n xs := owns_carry h fun g hgg => hg.block g (h.lt g hgg).2 (by simp)
theorem grew_new {w w1 w2 : World} {e : TypeId} {size : Nat} {v v' : Value} {n : Nat} {xs : List Value} (h : w.grownBy w1 none) (ho : w1.ownsRow w.heap.size e size v n xs) (hg : Grew w1 w2 v v') : w.grownBy w2 none := h.andThen hg.rows (fun j hj => .inl (ho.lt j hj).1)
/-- What a call did that wrote the head alone, and new blocks. -/
structure Ch (w w' : World) (r : Nat) (R R' : RM) : Prop where
  at_ : RefAt w' r R'
  only : Moved w w' [r] []
  feet : ∀ i ∈ R'.foot r, i ∈ R.foot r ∨ w.heap.size ≤ i
theorem Ch.moved {w w' : World} {r : Nat} {R R' : RM} (h : Ch w w' r R R') : Moved w w' (R.foot r) (R'.foot r) := ⟨h.only.os, h.only.tape, h.only.output, h.only.size, fun i hi hn => h.only.kept i hi (fun e => hn (by simp at e; simp [RM.foot, e])), h.feet⟩
theorem Ch.trans {w w1 w2 : World} {r : Nat} {R R1 R2 : RM} (h : Ch w w1 r R R1) (k : Ch w1 w2 r R1 R2) : Ch w w2 r R R2 := by
  have hz := h.only.size
  refine ⟨k.at_, ⟨k.only.os.trans h.only.os, k.only.tape.trans h.only.tape, k.only.output.trans h.only.output, Nat.le_trans hz k.only.size, fun i hi hn => (k.only.kept i (by omega) hn).trans (h.only.kept i hi hn), fun i hi => by cases hi⟩, fun i hi => ?_⟩
  rcases k.feet i hi with h1 | h1
  · exact h.feet i h1
  · exact .inr (by omega)
theorem foot_iff {r : Nat} {R : RM} {i : Nat} : i ∈ R.foot r ↔ i = r ∨ R.vL.ownBlock = some i ∨ R.vN.ownBlock = some i ∨ ∃ f ∈ R.fs, i ∈ f.blk := by
  simp only [RM.foot, List.mem_cons, List.mem_append, Option.mem_toList, List.mem_flatMap]
/-- A new line. -/
theorem RefAt.newLine {w0 wr : World} {r : Nat} {R : RM} (h : RefAt w0 r R) (hg : w0.grownBy wr none) (v : Value) (l : List (List UInt8 × Nat)) (ho : wr.ownsRow w0.heap.size 109 2 v l.length (l.flatMap plC)) : Ch w0 (wr.setCell ⟨r, 2, none⟩ v) r R { R with vN := v, line := l } := by
  have hw := h.grown hg
  have hlt := h.lt
  have hk : ∀ j, j ≠ r → (wr.setCell ⟨r, 2, none⟩ v).heap[j]? = wr.heap[j]? := fun j hj => Below.heap_setCell _ _ _ _ hj
  have hnew : ∀ g, v.ownBlock = some g → w0.heap.size ≤ g := fun g hgg => (ho.lt g hgg).1
  have hr : r < w0.heap.size := hlt r (foot_iff.2 (.inl rfl))
  refine ⟨⟨hw.head.setTo 2 v _ rfl, owns_carry hw.rowL fun g hgg => hk g fun e => h.ne1 (e ▸ hgg), ?_, fun f hf => (hw.sees f hf).kept fun a ha _ => hk _ (h.apart f hf a.block (by simp [RF.blk, ha])).1, h.zero, fun f hf g hgg => ?_, fun f hf g hgg => ⟨(h.apart f hf g hgg).1, (h.apart f hf g hgg).2.1, fun e => ?_⟩, h.ne1, fun e => ?_, fun g hgg e => ?_⟩, ⟨hg.os, hg.tape, hg.output, ?_, fun i hi hn => (hk i (by simpa using hn)).trans (hg.block i hi (by simp)), fun i hi => by cases hi⟩, fun i hi => ?_⟩
  · exact owns_carry (w := wr) ⟨ho.1, ho.2.imp id fun ⟨g, cap, cur, e, hb, x⟩ => ⟨g, cap, cur, e, Nat.zero_le _, x⟩⟩ fun g hgg => hk g fun e => by have := hnew g hgg; omega
  · rw [size_setCell]; exact hw.blt f hf g hgg
  · have := hnew g e; have := h.blt f hf g hgg; omega
  · have := hnew r e; omega
  · have := hnew g e; have := (h.rowL.lt g hgg).2; omega
  · rw [size_setCell]; exact hg.size
  · rcases foot_iff.1 hi with h1 | h1 | h1 | h1
    · exact .inl (foot_iff.2 (.inl h1))
    · exact .inl (foot_iff.2 (.inr (.inl h1)))
    · exact .inr (hnew i h1)
    · exact .inl (foot_iff.2 (.inr (.inr (.inr h1))))
/-- New files: each was there, or has no bytes, or bytes that lie elsewhere. -/
theorem RefAt.newFiles {w0 wr : World} {r : Nat} {R : RM} (h : RefAt w0 r R) (hg : w0.grownBy wr none) (v : Value) (fs : List RF) (ho : wr.ownsRow w0.heap.size 86 3 v fs.length (fs.flatMap RF.cells)) (E : List Nat)
    (hsub : ∀ f ∈ fs, f ∈ R.fs ∨ (Sees w0 f.ao f.bs ∧ (f.ao = none → f.bs.length = 0) ∧ ∀ g ∈ f.blk, g ∈ E ∧ g < w0.heap.size ∧ g ≠ r ∧ R.vN.ownBlock ≠ some g)) :
    RefAt (wr.setCell ⟨r, 1, none⟩ v) r { R with vL := v, fs := fs } ∧ Moved w0 (wr.setCell ⟨r, 1, none⟩ v) [r] [] ∧ ∀ i ∈ ({ R with vL := v, fs := fs } : RM).foot r, i ∈ R.foot r ∨ i ∈ E ∨ w0.heap.size ≤ i := by
  have hw := h.grown hg
  have hlt := h.lt
  have hk : ∀ j, j ≠ r → (wr.setCell ⟨r, 1, none⟩ v).heap[j]? = wr.heap[j]? := fun j hj => Below.heap_setCell _ _ _ _ hj
  have hnew : ∀ g, v.ownBlock = some g → w0.heap.size ≤ g := fun g hgg => (ho.lt g hgg).1
  have hr : r < w0.heap.size := hlt r (foot_iff.2 (.inl rfl))
  have hall : ∀ f ∈ fs, (Sees w0 f.ao f.bs ∧ (f.ao = none → f.bs.length = 0) ∧ ∀ g ∈ f.blk, (f ∈ R.fs ∨ g ∈ E) ∧ g < w0.heap.size ∧ g ≠ r ∧ R.vN.ownBlock ≠ some g) := fun f hf => by
    rcases hsub f hf with h1 | h1
    · exact ⟨h.sees f h1, h.zero f h1, fun g hgg => ⟨.inl h1, h.blt f h1 g hgg, (h.apart f h1 g hgg).1, (h.apart f h1 g hgg).2.2⟩⟩
    · exact ⟨h1.1, h1.2.1, fun g hgg => ⟨.inr (h1.2.2 g hgg).1, (h1.2.2 g hgg).2⟩⟩
  refine ⟨⟨hw.head.setTo 1 v _ rfl, ?_, owns_carry hw.rowN fun g hgg => hk g fun e => h.ne2 (e ▸ hgg), fun f hf => ?_, fun f hf => (hall f hf).2.1, fun f hf g hgg => ?_, fun f hf g hgg => ⟨((hall f hf).2.2 g hgg).2.2.1, fun e => ?_, ((hall f hf).2.2 g hgg).2.2.2⟩, fun e => ?_, h.ne2, fun g hgg e => ?_⟩, ⟨hg.os, hg.tape, hg.output, ?_, fun i hi hn => (hk i (by simpa using hn)).trans (hg.block i hi (by simp)), fun i hi => by cases hi⟩, fun i hi => ?_⟩
  · exact owns_carry (w := wr) ⟨ho.1, ho.2.imp id fun ⟨g, cap, cur, e, hb, x⟩ => ⟨g, cap, cur, e, Nat.zero_le _, x⟩⟩ fun g hgg => hk g fun e => by have := hnew g hgg; omega
  · refine (hall f hf).1.kept fun a ha _ => ?_
    have hb := (hall f hf).2.2 a.block (by simp [RF.blk, ha])
    exact (hk _ hb.2.2.1).trans (hg.block _ hb.2.1 (by simp))
  · rw [size_setCell]; exact Nat.lt_of_lt_of_le ((hall f hf).2.2 g hgg).2.1 hg.size
  · have := hnew g e; have := ((hall f hf).2.2 g hgg).2.1; omega
  · have := hnew r e; omega
  · have := hnew g hgg; have := (h.rowN.lt g e).2; omega
  · rw [size_setCell]; exact hg.size
  · rcases foot_iff.1 hi with h1 | h1 | h1 | ⟨f, hf, h1⟩
    · exact .inl (foot_iff.2 (.inl h1))
    · exact .inr (.inr (hnew i h1))
    · exact .inl (foot_iff.2 (.inr (.inr (.inl h1))))
    · rcases ((hall f hf).2.2 i h1).1 with h2 | h2
      · exact .inl (foot_iff.2 (.inr (.inr (.inr ⟨f, h2, h1⟩))))
      · exact .inr (.inl h2)
def dirtyB (line : List (List UInt8 × Nat)) (nm : List UInt8) (n : Nat) : Bool := line.any fun p => p.1 == nm && p.2 == n
set_option maxRecDepth 100000 in
theorem ref_dirty {w : World} {r : Nat} {R : RM} (h : RefAt w r R) (hn : R.line.length ≤ 1000000) (s : ByteArray) (n : Nat) :
    Calls Tryz.prog 103 #[.pointer (some ⟨r, 0, none⟩), .string s, .int .i64 (n : Int)] w fun x w' => x = .returned (.bool (dirtyB R.line (nameOf s) n)) ∧ w.grownBy w' none := by
  obtain ⟨ao, cap, hv, hcap, _⟩ := h.lines
  have c2 := h.c2
  rw [hv] at c2
  have HR : Hid (RefAt w r R) := h
  have HV : Hid (R.vN = .slice ao R.line.length cap) := hv
  have hnz : (R.line.length : Int) ≤ 1000000 := by omega
  clear h hv
  go_enter Tryz.func103, Tryz.ntmps103
  go_wp2_with fail
  go_loopw [14] (fun s14 wr => ∃ k : Nat, k ≤ R.line.length ∧ s14 = .int .i64 (k : Int) ∧ w.grownBy wr none ∧ ∀ j (hj : j < R.line.length), j < k → ¬ (R.line[j].1 = nameOf s ∧ R.line[j].2 = n)) (fun s14 _ => R.line.length - (intOf s14).toNat)
  case atStart => exact ⟨0, Nat.zero_le _, rfl, grown_refl _, fun j _ hj => absurd hj (Nat.not_lt_zero _)⟩
  case round =>
    obtain ⟨k, hk, rfl, hg, hall⟩ := hrel
    have HA : Hid (∀ j (hj : j < R.line.length), j < k → ¬ (R.line[j].1 = nameOf s ∧ R.line[j].2 = n)) := hall
    clear hall
    have hkz : (k : Int) ≤ 1000000 := by omega
    rcases Nat.lt_or_ge k R.line.length with hlt | hge
    · obtain ⟨ao', cap', hv', _, hcell⟩ := (HR.out.grown hg).lines
      rw [HV.out] at hv'
      cases hv'
      obtain ⟨g, rfl, _, k0, k1⟩ := hcell k _ (List.getElem?_eq_getElem hlt)
      have hg2 : Hid (∀ o, w.grownBy (wr.alloc o) none) := fun o => grown_alloc hg o
      have HM : Hid (R.line[k] ∈ R.line) := List.getElem_mem hlt
      have HN : Hid (¬ (R.line[k].1 = nameOf s ∧ R.line[k].2 = n) → ∀ j (hj : j < R.line.length), j < k + 1 → ¬ (R.line[j].1 = nameOf s ∧ R.line[j].2 = n)) := fun hno j hj hjk => by
        by_cases e : j = k
        · subst e
          exact hno
        · exact HA.out j hj (by omega)
      generalize R.line[k] = p at *
      obtain ⟨pn, pk⟩ := p
      simp only at *
      clear hcell hg
      by_cases e1 : pn = nameOf s
      · by_cases e2 : pk = n
        · have HY : Hid (dirtyB R.line (nameOf s) n = true) := List.any_eq_true.2 ⟨_, HM.out, by simp [e1, e2]⟩
          rw [e1, strB_nameOf] at k0
          subst e2
          clear e1
          go_wp2_with fail
          all_goals go_ret
          all_goals exact ⟨ret_bool HY.out.symm, hg2.out _⟩
        · have hne : ((pk : Int) == (n : Int)) = false := by rw [beq_eq_false_iff_ne]; omega
          rw [e1, strB_nameOf] at k0
          have HN2 := HN.out (fun hh => e2 hh.2)
          have HN3 : Hid _ := HN2
          clear HN2 HN e1 e2
          go_wp2_with fail
          all_goals exact ⟨⟨k + 1, by omega, by go_num, hg2.out _, HN3.out⟩, by simp [intOf]; omega⟩
      · have hne := strB_ne2 e1
        have HN2 := HN.out (fun hh => e1 hh.1)
        have HN3 : Hid _ := HN2
        clear HN2 HN e1
        generalize strBD pn = sk at *
        go_wp2_with fail
        all_goals exact ⟨⟨k + 1, by omega, by go_num, hg2.out _, HN3.out⟩, by simp [intOf]; omega⟩
    · obtain rfl : k = R.line.length := by omega
      go_wp2_with fail
      go_ret
      refine ⟨ret_bool ?_, hg⟩
      symm
      unfold dirtyB
      rw [List.any_eq_false]
      intro p hp hh
      obtain ⟨j, hj, rfl⟩ := List.getElem_of_mem hp
      simp at hh
      exact HA.out j hj hj hh

/-! ### clean -/
theorem filter_step_clean {l : List (List UInt8 × Nat)} {k : Nat} (h : k < l.length) (p : (List UInt8 × Nat) → Bool) : (l.take (k + 1)).filter p = (l.take k).filter p ++ (if p l[k] then [l[k]] else []) := by
  rw [take_succ_ref h, List.filter_append, List.filter_cons, List.filter_nil]
set_option maxRecDepth 100000 in
set_option maxHeartbeats 1600000 in
theorem ref_cleanS {w : World} {r : Nat} {R : RM} (h : RefAt w r R) (hn : R.line.length ≤ 1000000) (s : ByteArray) :
    Calls Tryz.prog 104 #[.pointer (some ⟨r, 0, none⟩), .string s] w fun x w' => x = .returned (.tuple #[]) ∧ ∃ v, Ch w w' r R { R with vN := v, line := R.line.filter (fun p => !(p.1 == nameOf s)) } ∧ ∀ g, v.ownBlock = some g → w.heap.size ≤ g := by
  obtain ⟨i0, hinf, hq0, hq1, hq2⟩ : ∃ i, Tryz.prog.info? 109 = some i ∧ i.zero = some (.agg #[.string ⟨#[]⟩, .int .i64 0]) ∧ i.size = 2 ∧ i.bytes = 24 := by
    have := infoPl
    cases hI : Tryz.prog.info? 109 with
    | none => rw [hI] at this; cases this
    | some i =>
      rw [hI] at this
      simp at this
      exact ⟨i, rfl, this.1, this.2.1, this.2.2⟩
  obtain ⟨ao, cap, hv, hcap, _⟩ := h.lines
  have cN := h.c2
  have fN := h.head.frozen 2
  rw [hv] at cN
  have HR : Hid (RefAt w r R) := h
  have HV : Hid (R.vN = .slice ao R.line.length cap) := hv
  have HCN : Hid (∀ w', w.grownBy w' none → w'.cell? ⟨r, 2, none⟩ = some (.slice ao R.line.length cap) ∧ w'.frozen? ⟨r, 2, none⟩ = false) := fun w' hg => by
    have h' := HR.out.grown hg
    exact ⟨by rw [← HV.out]; exact h'.c2, h'.head.frozen 2⟩
  have hnz : (R.line.length : Int) ≤ 1000000 := by omega
  clear h hv
  go_enter Tryz.func104, Tryz.ntmps104
  go_wp2_with fail
  go_loopw [4, 12] (fun s4 s12 wr => ∃ k : Nat, k ≤ R.line.length ∧ s12 = .int .i64 (k : Int) ∧ w.grownBy wr none ∧ wr.ownsRow w.heap.size 109 2 s4 ((R.line.take k).filter (fun p => !(p.1 == nameOf s))).length (((R.line.take k).filter (fun p => !(p.1 == nameOf s))).flatMap plC)) (fun _ s12 _ => R.line.length - (intOf s12).toNat)
  case atStart => exact ⟨0, Nat.zero_le _, rfl, grown_refl _, World.ownsRow_nil _ _ _ _⟩
  case round =>
    obtain ⟨k, hk, rfl, hg, ho⟩ := hrel
    have hkz : (k : Int) ≤ 1000000 := by omega
    rcases Nat.lt_or_ge k R.line.length with hlt | hge
    · obtain ⟨ao', cap', hv', _, hcell⟩ := (HR.out.grown hg).lines
      rw [HV.out] at hv'
      cases hv'
      obtain ⟨g, rfl, _, k0, k1⟩ := hcell k _ (List.getElem?_eq_getElem hlt)
      have hst := filter_step_clean hlt (fun p => !(p.1 == nameOf s))
      have hfl : ((R.line.take k).filter (fun p => !(p.1 == nameOf s))).length ≤ k := Nat.le_trans (List.length_filter_le _ _) (by rw [List.length_take]; omega)
      have hg2 : Hid (∀ o, w.grownBy (wr.alloc o) none) := fun o => grown_alloc hg o
      generalize R.line[k] = p at *
      generalize hF : (R.line.take k).filter (fun p => !(p.1 == nameOf s)) = F at *
      clear hF
      by_cases e1 : p.1 = nameOf s
      · have hst2 : (R.line.take (k + 1)).filter (fun p => !(p.1 == nameOf s)) = F := by rw [hst]; simp [e1]
        have Hst : Hid _ := hst2
        obtain ⟨pn, pk⟩ := p
        simp only at *
        rw [e1, strB_nameOf] at k0
        have ho2 : Hid (∀ o, (wr.alloc o).ownsRow w.heap.size 109 2 u4 F.length (F.flatMap plC)) := fun o => owns_up ho (World.grownBy_alloc _ _ _)
        clear hst hst2 hcell hg e1 ho
        go_wp2_with fail
        all_goals exact ⟨⟨k + 1, by omega, by go_num, hg2.out _, by rw [Hst.out]; exact ho2.out _⟩, by simp [intOf]; omega⟩
      · have hst2 : (R.line.take (k + 1)).filter (fun p => !(p.1 == nameOf s)) = F ++ [p] := by rw [hst]; simp [e1]
        have Hst : Hid _ := hst2
        have hne := strB_ne2 e1
        have H3 : Hid (∀ w1 : World, wr.grownBy w1 none → w1.ownsRow w.heap.size 109 2 u4 F.length (F.flatMap plC)) := fun w1 hh => owns_up ho hh
        have HS : Hid (∀ (w1 : World) (g : Nat) (t : TypeId), Blk w1 g (plC p) t → Src Tryz.prog 2 48 (.slice (some ⟨g, 0, none⟩) 1 1) 1 (plC p) w1) := fun w1 g t hb => src_rec Tryz.underlying48 (plC_len p) hb (plC_one p)
        have HG : Hid (w.grownBy wr none) := hg
        have HB : Hid (∀ o, Blk ((wr.alloc o).alloc (.cells (plC p).toArray 109)) (wr.heap.size + 1) (plC p) 109) := fun o => by
          have := Blk.new (wr.alloc o) (plC p) 109
          rwa [World.size_alloc] at this
        have HE : Hid (∀ (w1 w2 : World) v', wr.grownBy w1 none → Grew w1 w2 u4 v' → w2.ownsRow w.heap.size 109 2 v' (F.length + 1) (F.flatMap plC ++ plC p) → w.grownBy w2 none ∧ w2.ownsRow w.heap.size 109 2 v' (F ++ [p]).length ((F ++ [p]).flatMap plC)) := fun w1 w2 v' hh hgr hoo => ⟨grew_new (grown_trans HG.out hh) (H3.out w1 hh) hgr, by rw [List.length_append, List.flatMap_append]; simpa using hoo⟩
        have HZ : Hid (w.heap.size ≤ wr.heap.size) := hg.size
        obtain ⟨pn, pk⟩ := p
        simp only at *
        clear hst hst2 hcell e1 ho hg
        have hm1 : F.length + 1 ≤ maxLen := by unfold maxLen; omega
        have hm2 : (F.length + 1) * 24 ≤ 140737488355328 := by omega
        go_wp2_with (at_builtin; go_must (refine wpList_append_grew _ rfl (.tmp 20) (.tmp 22) 48 48 rfl w.heap.size 109 i0 (.agg #[.string ⟨#[]⟩, .int .i64 0]) 2 24 Tryz.underlying48 hinf hq0 hq1 hq2 rfl u4 F.length _ rfl (H3.out _ (grown_alloc (World.grownBy_alloc _ _ _) _)) _ 1 (plC ⟨pn, pk⟩) rfl (HS.out _ _ _ (HB.out _)) hm1 hm2 (by have := HZ.out; simp; omega) ?_; intro v5 w5 ho5 hg5; have hX := HE.out _ _ _ (grown_alloc (World.grownBy_alloc _ _ _) _) hg5 ho5))
        exact ⟨⟨k + 1, by omega, by go_num, hX.1, by rw [Hst.out]; exact hX.2⟩, by simp [intOf]; omega⟩
    · obtain rfl : k = R.line.length := by omega
      rw [List.take_length] at ho
      obtain ⟨cr, fr⟩ := HCN.out _ hg
      obtain ⟨a4, c4, e4, _, _⟩ := owns_recs plC_len ho
      subst e4
      have HF : Hid _ := HR.out.newLine hg _ _ ho
      have HW : Hid (∀ g, (Value.slice a4 (R.line.filter (fun p => !(p.1 == nameOf s))).length c4).ownBlock = some g → w.heap.size ≤ g) := fun g hgg => (ho.lt g hgg).1
      clear ho hg HCN
      go_wp2_with fail
      go_end0
      exact ⟨rfl, _, HF.out, HW.out⟩
theorem ref_clean {w : World} {r : Nat} {R : RM} (h : RefAt w r R) (hn : R.line.length ≤ 1000000) (s : ByteArray) :
    Calls Tryz.prog 104 #[.pointer (some ⟨r, 0, none⟩), .string s] w fun x w' => x = .returned (.tuple #[]) ∧ ∃ v, Ch w w' r R { R with vN := v, line := R.line.filter (fun p => !(p.1 == nameOf s)) } := (ref_cleanS h hn s).mono fun _ _ ⟨h1, v, h2, _⟩ => ⟨h1, v, h2⟩

/-! ### drop -/
theorem filter_step_drop {l : List RF} {k : Nat} (h : k < l.length) (p : RF → Bool) : (l.take (k + 1)).filter p = (l.take k).filter p ++ (if p l[k] then [l[k]] else []) := by
  rw [take_succ_ref h, List.filter_append, List.filter_cons, List.filter_nil]
set_option maxRecDepth 100000 in
set_option maxHeartbeats 1600000 in
theorem ref_dropS {w : World} {r : Nat} {R : RM} (h : RefAt w r R) (hn : R.fs.length ≤ 1000000) (hn2 : R.line.length ≤ 1000000) (s : ByteArray) :
    Calls Tryz.prog 75 #[.pointer (some ⟨r, 0, none⟩), .string s] w fun x w' => x = .returned (.tuple #[]) ∧ ∃ v v2, Ch w w' r R { R with vL := v, fs := R.fs.filter (fun p => !(p.nm == nameOf s)), vN := v2, line := R.line.filter (fun p => !(p.1 == nameOf s)) } ∧ ∀ g, v2.ownBlock = some g → w.heap.size ≤ g := by
  obtain ⟨i0, hinf, hq0, hq1, hq2⟩ : ∃ i, Tryz.prog.info? 86 = some i ∧ i.zero = some (.agg #[.string ⟨#[]⟩, .slice none 0 0, .int .i64 0]) ∧ i.size = 3 ∧ i.bytes = 48 := by
    have := infoFl
    cases hI : Tryz.prog.info? 86 with
    | none => rw [hI] at this; cases this
    | some i =>
      rw [hI] at this
      simp at this
      exact ⟨i, rfl, this.1, this.2.1, this.2.2⟩
  obtain ⟨ao, cap, hv, hcap, _⟩ := h.files
  have cN := h.c1
  have fN := h.head.frozen 1
  rw [hv] at cN
  have HR : Hid (RefAt w r R) := h
  have HV : Hid (R.vL = .slice ao R.fs.length cap) := hv
  have HCN : Hid (∀ w', w.grownBy w' none → w'.cell? ⟨r, 1, none⟩ = some (.slice ao R.fs.length cap) ∧ w'.frozen? ⟨r, 1, none⟩ = false) := fun w' hg => by
    have h' := HR.out.grown hg
    exact ⟨by rw [← HV.out]; exact h'.c1, h'.head.frozen 1⟩
  have hnz : (R.fs.length : Int) ≤ 1000000 := by omega
  have CL : Hid (∀ (R1 : RM) (w1 : World), RefAt w1 r R1 → R1.line = R.line → Calls Tryz.prog 104 #[.pointer (some ⟨r, 0, none⟩), .string s] w1 fun x w' => x = .returned (.tuple #[]) ∧ ∃ v, Ch w1 w' r R1 { R1 with vN := v, line := R1.line.filter (fun p => !(p.1 == nameOf s)) } ∧ ∀ g, v.ownBlock = some g → w1.heap.size ≤ g) := fun R1 w1 h1 e => ref_cleanS h1 (by rw [e]; exact hn2) s
  clear h hv
  go_enter Tryz.func75, Tryz.ntmps75
  go_wp2_with fail
  go_loopw [4, 12] (fun s4 s12 wr => ∃ k : Nat, k ≤ R.fs.length ∧ s12 = .int .i64 (k : Int) ∧ w.grownBy wr none ∧ wr.ownsRow w.heap.size 86 3 s4 ((R.fs.take k).filter (fun p => !(p.nm == nameOf s))).length (((R.fs.take k).filter (fun p => !(p.nm == nameOf s))).flatMap RF.cells)) (fun _ s12 _ => R.fs.length - (intOf s12).toNat)
  case atStart => exact ⟨0, Nat.zero_le _, rfl, grown_refl _, World.ownsRow_nil _ _ _ _⟩
  case round =>
    obtain ⟨k, hk, rfl, hg, ho⟩ := hrel
    have hkz : (k : Int) ≤ 1000000 := by omega
    rcases Nat.lt_or_ge k R.fs.length with hlt | hge
    · obtain ⟨ao', cap', hv', _, hcell⟩ := (HR.out.grown hg).files
      rw [HV.out] at hv'
      cases hv'
      obtain ⟨g, rfl, _, k0, k1, k2⟩ := hcell k _ (List.getElem?_eq_getElem hlt)
      have hst := filter_step_drop hlt (fun p => !(p.nm == nameOf s))
      have hfl : ((R.fs.take k).filter (fun p => !(p.nm == nameOf s))).length ≤ k := Nat.le_trans (List.length_filter_le _ _) (by rw [List.length_take]; omega)
      have hg2 : Hid (∀ o, w.grownBy (wr.alloc o) none) := fun o => grown_alloc hg o
      generalize R.fs[k] = p at *
      generalize hF : (R.fs.take k).filter (fun p => !(p.nm == nameOf s)) = F at *
      clear hF
      by_cases e1 : p.nm = nameOf s
      · have hst2 : (R.fs.take (k + 1)).filter (fun p => !(p.nm == nameOf s)) = F := by rw [hst]; simp [e1]
        have Hst : Hid _ := hst2
        obtain ⟨pn, po, pc, pb, pw⟩ := p
        simp only at *
        rw [e1, strB_nameOf] at k0
        have ho2 : Hid (∀ o, (wr.alloc o).ownsRow w.heap.size 86 3 u4 F.length (F.flatMap RF.cells)) := fun o => owns_up ho (World.grownBy_alloc _ _ _)
        clear hst hst2 hcell hg e1 ho
        go_wp2_with fail
        all_goals exact ⟨⟨k + 1, by omega, by go_num, hg2.out _, by rw [Hst.out]; exact ho2.out _⟩, by simp [intOf]; omega⟩
      · have hst2 : (R.fs.take (k + 1)).filter (fun p => !(p.nm == nameOf s)) = F ++ [p] := by rw [hst]; simp [e1]
        have Hst : Hid _ := hst2
        have hne := strB_ne2 e1
        have H3 : Hid (∀ w1 : World, wr.grownBy w1 none → w1.ownsRow w.heap.size 86 3 u4 F.length (F.flatMap RF.cells)) := fun w1 hh => owns_up ho hh
        have HS : Hid (∀ (w1 : World) (g : Nat) (t : TypeId), Blk w1 g (RF.cells p) t → Src Tryz.prog 3 47 (.slice (some ⟨g, 0, none⟩) 1 1) 1 (RF.cells p) w1) := fun w1 g t hb => src_rec Tryz.underlying47 (RF.cells_len p) hb (RF.cells_one p)
        have HG : Hid (w.grownBy wr none) := hg
        have HB : Hid (∀ o, Blk ((wr.alloc o).alloc (.cells (RF.cells p).toArray 86)) (wr.heap.size + 1) (RF.cells p) 86) := fun o => by
          have := Blk.new (wr.alloc o) (RF.cells p) 86
          rwa [World.size_alloc] at this
        have HE : Hid (∀ (w1 w2 : World) v', wr.grownBy w1 none → Grew w1 w2 u4 v' → w2.ownsRow w.heap.size 86 3 v' (F.length + 1) (F.flatMap RF.cells ++ RF.cells p) → w.grownBy w2 none ∧ w2.ownsRow w.heap.size 86 3 v' (F ++ [p]).length ((F ++ [p]).flatMap RF.cells)) := fun w1 w2 v' hh hgr hoo => ⟨grew_new (grown_trans HG.out hh) (H3.out w1 hh) hgr, by rw [List.length_append, List.flatMap_append]; simpa using hoo⟩
        have HZ : Hid (w.heap.size ≤ wr.heap.size) := hg.size
        obtain ⟨pn, po, pc, pb, pw⟩ := p
        simp only at *
        clear hst hst2 hcell e1 ho hg
        have hm1 : F.length + 1 ≤ maxLen := by unfold maxLen; omega
        have hm2 : (F.length + 1) * 48 ≤ 140737488355328 := by omega
        go_wp2_with (at_builtin; go_must (refine wpList_append_grew _ rfl (.tmp 20) (.tmp 22) 47 47 rfl w.heap.size 86 i0 (.agg #[.string ⟨#[]⟩, .slice none 0 0, .int .i64 0]) 3 48 Tryz.underlying47 hinf hq0 hq1 hq2 rfl u4 F.length _ rfl (H3.out _ (grown_alloc (World.grownBy_alloc _ _ _) _)) _ 1 (RF.cells ⟨pn, po, pc, pb, pw⟩) rfl (HS.out _ _ _ (HB.out _)) hm1 hm2 (by have := HZ.out; simp; omega) ?_; intro v5 w5 ho5 hg5; have hX := HE.out _ _ _ (grown_alloc (World.grownBy_alloc _ _ _) _) hg5 ho5))
        exact ⟨⟨k + 1, by omega, by go_num, hX.1, by rw [Hst.out]; exact hX.2⟩, by simp [intOf]; omega⟩
    · obtain rfl : k = R.fs.length := by omega
      rw [List.take_length] at ho
      obtain ⟨cr, fr⟩ := HCN.out _ hg
      obtain ⟨a4, c4, e4, _, _⟩ := owns_recs RF.cells_len ho
      subst e4
      have HF := HR.out.newFiles hg _ _ ho [] (fun f hf => .inl (List.mem_filter.1 hf).1)
      have HF : Hid (Ch _ _ r R { R with vL := .slice a4 (R.fs.filter (fun p => !(p.nm == nameOf s))).length c4, fs := R.fs.filter (fun p => !(p.nm == nameOf s)) }) := ⟨HF.1, HF.2.1, fun i hi => (HF.2.2 i hi).imp id fun hh => hh.resolve_left (by simp)⟩
      clear ho hg HCN
      go_wp2_with (go_at_call 104; go_fit (CL.out _ _ HF.out.at_ rfl); rintro x w6 ⟨rfl, v6, hC, hW6⟩)
      go_end0
      exact ⟨rfl, _, v6, HF.out.trans hC, fun g hgg => Nat.le_trans HF.out.only.size (hW6 g hgg)⟩
theorem ref_drop {w : World} {r : Nat} {R : RM} (h : RefAt w r R) (hn : R.fs.length ≤ 1000000) (hn2 : R.line.length ≤ 1000000) (s : ByteArray) :
    Calls Tryz.prog 75 #[.pointer (some ⟨r, 0, none⟩), .string s] w fun x w' => x = .returned (.tuple #[]) ∧ ∃ v v2, Ch w w' r R { R with vL := v, fs := R.fs.filter (fun p => !(p.nm == nameOf s)), vN := v2, line := R.line.filter (fun p => !(p.1 == nameOf s)) } := (ref_dropS h hn hn2 s).mono fun _ _ ⟨h1, v, v2, h2, _⟩ => ⟨h1, v, v2, h2⟩
end Go.Proofs.YtgkdodcidancpaaGreatDoor
namespace Go.Proofs.YtgkdodcidancpaaGreatDoor
open Go.RowKit

/-- The texts that hang together. -/
def catP (a b c d : ByteArray) : ByteArray := a ++ ⟨#[47]⟩ ++ b ++ ⟨#[47]⟩ ++ c ++ ⟨#[47]⟩ ++ d
theorem nb_app (a b : ByteArray) : nb (a ++ b) = nb a ++ nb b := by
  show (a ++ b).data.toList = a.data.toList ++ b.data.toList
  rw [ByteArray.data_append, Array.toList_append]
theorem catP_eq (a b c d : List UInt8) : catP (strB a) (strB b) (strB c) (strB d) = strB (a ++ (47 :: (b ++ (47 :: (c ++ (47 :: d)))))) := by
  rw [← nb_inj]
  unfold catP
  simp only [nb_app, nb_strB]
  simp [nb]

theorem msk_size (s : ByteArray) (h : s.size ≤ 5000) : (strB (msk (nb s))).size ≤ 15000 := by
  have l1 : ∀ b, (m1 b).length ≤ 3 := fun b => by unfold m1; split; · decide
                                                  split; · decide
                                                  simp
  have l2 : ∀ l : List UInt8, (msk l).length ≤ 3 * l.length := by
    intro l
    induction l with
    | nil => simp [msk]
    | cons b l ih => rw [msk_cons, List.length_append, List.length_cons]; have := l1 b; omega
  rw [strB_size]; have := l2 (nb s); rw [nb_size] at this; omega

end Go.Proofs.YtgkdodcidancpaaGreatDoor
namespace Go.Proofs.YtgkdodcidancpaaGreatDoor
open Go.RowKit

theorem conv_seesK {w : World} {ao : Option Addr} {l : List UInt8} (h : Sees w ao l) (hn : ao = none → l.length = 0) (cap : Nat) :
    (convert 58 9 (.slice ao l.length cap)).run Tryz.prog w = .ok (.string ⟨l.toArray⟩) w := by
  cases ao with
  | none =>
    obtain rfl : l = [] := List.eq_nil_of_length_eq_zero (hn rfl)
    rw [run_convert_bytes_string w 58 9 5 none _ cap Tryz.underlying58 Tryz.underlying5 Tryz.underlying9]
    rfl
  | some a =>
    refine run_convert_bytes_back w 58 9 5 a cap l Tryz.underlying58 Tryz.underlying5 Tryz.underlying9 fun j hj => ?_
    obtain ⟨a', e, hc⟩ := h j hj
    obtain rfl := Option.some.inj e
    rw [hc]; simp [List.getD, hj]
def kA : Kb := ⟨⟨#[116]⟩, ⟨#[97]⟩, 1, ⟨#[120]⟩⟩
def kB : Kb := ⟨⟨#[116]⟩, ⟨#[97]⟩, 2, ⟨#[98]⟩⟩
def kP : Kb := ⟨⟨#[116]⟩, ⟨#[97, 47, 98]⟩, -3, ⟨#[120]⟩⟩
def kT : Kb := ⟨⟨#[116]⟩, ⟨#[97]⟩, 0, ⟨#[]⟩⟩
theorem kA_cmp : kc kA.ky kB.ky = -1 := by decide
theorem kA_good : goodK kA.ky = true := by decide
theorem kP_print : strB (prK kP.ky) = ⟨#[116, 47, 97, 37, 50, 102, 98, 47, 45, 51, 47, 120]⟩ := by
  have e : Lib.itoa (-3) = [45, 51] := by
    unfold Lib.itoa; rw [if_pos (by decide)]
    rw [dec_small (by decide)]; rfl
  have : prK kP.ky = [116, 47, 97, 37, 50, 102, 98, 47, 45, 51, 47, 120] := by
    show msk [116] ++ (47 :: (msk [97, 47, 98] ++ (47 :: (Lib.itoa (-3) ++ (47 :: msk [120]))))) = _
    rw [e]; decide
  rw [this]; rfl
def bT : List UInt8 := [116, 0, 0, 97, 0, 0, 128, 0, 0, 0, 0, 0, 0, 0, 0, 0]
theorem kT_bytes : encK kT.ky = bT := by decide
theorem ok_small (k : Kb) (h1 : k.t.size ≤ 5000) (h2 : k.p.size ≤ 5000) (h3 : k.c.size ≤ 5000) (h : InI k.r) : k.Ok := ⟨h1, h2, h3, h⟩

end Go.Proofs.YtgkdodcidancpaaGreatDoor

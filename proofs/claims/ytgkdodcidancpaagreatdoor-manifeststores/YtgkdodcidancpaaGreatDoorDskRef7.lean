/-
  THE DOCUMENT'S DISK: the power fails.
-/
import Derived.Test.YtgkdodcidancpaaGreatDoorMany26
namespace Go.Proofs.YtgkdodcidancpaaGreatDoor
open Go.RowKit Go.Maps Go.WideAt Go.WideShapes

/-- A frame of 100 slots. -/
def fr100 (y : Nat → Value) : Act := { tmps := #[y 0, y 1, y 2, y 3, y 4, y 5, y 6, y 7, y 8, y 9, y 10, y 11, y 12, y 13, y 14, y 15, y 16, y 17, y 18, y 19, y 20, y 21, y 22, y 23, y 24, y 25, y 26, y 27, y 28, y 29, y 30, y 31, y 32, y 33, y 34, y 35, y 36, y 37, y 38, y 39, y 40, y 41, y 42, y 43, y 44, y 45, y 46, y 47, y 48, y 49, y 50, y 51, y 52, y 53, y 54, y 55, y 56, y 57, y 58, y 59, y 60, y 61, y 62, y 63, y 64, y 65, y 66, y 67, y 68, y 69, y 70, y 71, y 72, y 73, y 74, y 75, y 76, y 77, y 78, y 79, y 80, y 81, y 82, y 83, y 84, y 85, y 86, y 87, y 88, y 89, y 90, y 91, y 92, y 93, y 94, y 95, y 96, y 97, y 98, y 99], defers := [] }
theorem fr100_of (a : Act) (hs : a.tmps.size = 100) (hd : a.defers = []) : a = fr100 fun j => a.tmps.getD j undef := by
  obtain ⟨tm, ds⟩ := a
  simp only at hs hd
  subst hd
  have e : tm = ((List.range 100).map fun j => tm.getD j undef).toArray := by
    apply Array.ext
    · simp [hs]
    · intro i h1 h2
      simp [Array.getD, h1]
  show Act.mk tm [] = Act.mk _ []
  congr 1
theorem names_len {a b : List Sig} (h : a.map (·.nm) = b.map (·.nm)) : a.length = b.length := by
  have := congrArg List.length h
  simpa using this
/-- All files' bytes anew, the line gone, the power off. -/
theorem RefAt.fresh {w0 wr : World} {r : Nat} {R : RM} (h : RefAt w0 r R) (hg : w0.grownBy wr none) (v : Value) (fs : List RF) (ho : wr.ownsRow w0.heap.size 86 3 v fs.length (fs.flatMap RF.cells))
    (hf : ∀ f ∈ fs, Sees wr f.ao f.bs ∧ (f.ao = none → f.bs.length = 0) ∧ ∀ g ∈ f.blk, w0.heap.size ≤ g ∧ g < wr.heap.size ∧ v.ownBlock ≠ some g) :
    RefAt (((wr.setCell ⟨r, 1, none⟩ v).setCell ⟨r, 2, none⟩ (.slice none 0 0)).setCell ⟨r, 3, none⟩ (.bool true)) r { R with vL := v, fs := fs, vN := .slice none 0 0, line := [], off := true } ∧
      Moved w0 (((wr.setCell ⟨r, 1, none⟩ v).setCell ⟨r, 2, none⟩ (.slice none 0 0)).setCell ⟨r, 3, none⟩ (.bool true)) (R.foot r) (({ R with vL := v, fs := fs, vN := .slice none 0 0, line := [], off := true } : RM).foot r) := by
  have hw := h.grown hg
  have hr : r < w0.heap.size := h.head.lt
  have hk : ∀ k, k ≠ r → (((wr.setCell ⟨r, 1, none⟩ v).setCell ⟨r, 2, none⟩ (.slice none 0 0)).setCell ⟨r, 3, none⟩ (.bool true)).heap[k]? = wr.heap[k]? := fun k hk => (Below.heap_setCell _ _ _ _ hk).trans ((Below.heap_setCell _ _ _ _ hk).trans (Below.heap_setCell _ _ _ _ hk))
  have hz : (((wr.setCell ⟨r, 1, none⟩ v).setCell ⟨r, 2, none⟩ (.slice none 0 0)).setCell ⟨r, 3, none⟩ (.bool true)).heap.size = wr.heap.size := by rw [size_setCell, size_setCell, size_setCell]
  have hnew : ∀ g, v.ownBlock = some g → w0.heap.size ≤ g := fun g hgg => (ho.lt g hgg).1
  refine ⟨⟨((hw.head.setTo 1 v _ rfl).setTo 2 (.slice none 0 0) _ rfl).setTo 3 (.bool true) _ rfl, ?_, World.ownsRow_nil _ _ _ _, fun f hf' => ?_, fun f hf' => (hf f hf').2.1, fun f hf' g hgg => ?_, fun f hf' g hgg => ⟨?_, ((hf f hf').2.2 g hgg).2.2, (fun e => by cases e)⟩, fun e => ?_, (fun e => by cases e), (fun g _ e => by cases e)⟩, ?_⟩
  · exact owns_carry (w := wr) ⟨ho.1, ho.2.imp id fun ⟨g, cap, cur, e, hb, x⟩ => ⟨g, cap, cur, e, Nat.zero_le _, x⟩⟩ fun g hgg => hk g fun e => by have := hnew g hgg; omega
  · exact (hf f hf').1.kept fun a ha _ => hk _ fun e => by have := ((hf f hf').2.2 a.block (by simp [RF.blk, ha])).1; omega
  · rw [hz]; exact ((hf f hf').2.2 g hgg).2.1
  · have := ((hf f hf').2.2 g hgg).1; omega
  · have := hnew r e; omega
  · refine ⟨hg.os, hg.tape, hg.output, by rw [hz]; exact hg.size, fun k hk1 hk2 => (hk k fun e => hk2 (foot_iff.2 (.inl e))).trans (hg.block k hk1 (by simp)), fun k hkf => ?_⟩
    rcases foot_iff.1 hkf with h1 | h1 | h1 | ⟨x, hx, h1⟩
    · exact .inl (foot_iff.2 (.inl h1))
    · exact .inr (hnew k h1)
    · cases h1
    · exact .inr ((hf x hx).2.2 k h1).1
theorem row08 (w : World) : (w.alloc (.cells #[] 5)).ownsRow w.heap.size 5 1 (.slice (some ⟨w.heap.size, 0, none⟩) 0 0) 0 [] :=
  ⟨rfl, .inr ⟨w.heap.size, 0, #[], rfl, Nat.le_refl _, heap_alloc_new w _, Nat.le_refl _, by unfold maxLen; omega, rfl, rfl⟩⟩
/-- A row of bytes, as a slice. -/
theorem owns_seesR {w : World} {base n : Nat} {l : List UInt8} {v : Value} (h : w.ownsRow base 5 1 v n (B8 l)) : ∃ ao cap, v = .slice ao n cap ∧ Sees w ao l ∧ l.length = n ∧ n ≤ cap ∧ (ao = none → n = 0) ∧ ∀ a, ao = some a → v.ownBlock = some a.block := by
  have hl : l.length = n := by have := h.1; rwa [B8_length, Nat.mul_one] at this
  rcases h.2 with ⟨rfl, h0⟩ | ⟨g, cap, cur, rfl, hb, hg, hn, _⟩
  · subst h0
    exact ⟨none, 0, rfl, fun i hi => by omega, hl, Nat.le_refl _, fun _ => rfl, fun a e => by cases e⟩
  · refine ⟨some ⟨g, 0, none⟩, cap, rfl, fun i hi => ⟨_, rfl, ?_⟩, hl, hn, (fun e => by cases e), fun a e => by cases e; rfl⟩
    exact h.cells (g := g) rfl _ _ (B8_at l i hi)
/-- A file whose bytes were cut, in new memory. -/
structure Cutd (wr wx : World) (v : Value) (f f' : RF) : Prop where
  nm : f'.nm = f.nm
  bs : f'.bs = f.bs.take f.wr
  wrt : f'.wr = f.wr
  sees : Sees wx f'.ao f'.bs
  zero : f'.ao = none → f'.bs.length = 0
  cap : f'.bs.length ≤ f'.cap
  blk : ∀ g ∈ f'.blk, wr.heap.size ≤ g ∧ g < wx.heap.size ∧ v.ownBlock ≠ some g
/-- What the second loop keeps. -/
structure Lp2 (wr : World) (F : List RF) (v : Value) (t : Nat) (G : List RF) (wx : World) : Prop where
  grew : wr.grownBy wx none
  row : wx.ownsRow wr.heap.size 86 3 v F.length (G.flatMap RF.cells)
  len : G.length = F.length
  done : ∀ j f, j < t → F[j]? = some f → ∃ f', G[j]? = some f' ∧ Cutd wr wx v f f'
  rest : ∀ j, t ≤ j → G[j]? = F[j]?
theorem Lp2.step {wr wx w3 : World} {F G : List RF} {g c t : Nat} {f : RF} (h : Lp2 wr F (.slice (some ⟨g, 0, none⟩) F.length c) t G wx) (hf : F[t]? = some f) (hg : wx.grownBy w3 none) {v' : Value} {base : Nat} (hb : wx.heap.size ≤ base) (ho : w3.ownsRow base 5 1 v' f.wr (B8 (f.bs.take f.wr))) :
    ∃ G', Lp2 wr F (.slice (some ⟨g, 0, none⟩) F.length c) (t + 1) G' (w3.setCell ⟨g, t * 3 + 1, none⟩ v') := by
  obtain ⟨ao, cap, rfl, hs, hl, hcp, hz, hown⟩ := owns_seesR ho
  have hgl := h.row.lt g rfl
  have hG : G[t]? = some f := by rw [h.rest t (Nat.le_refl _), hf]
  have htl : t < G.length := (List.getElem?_eq_some_iff.1 hG).1
  have hrow := owns_up h.row hg
  have st := (hrow.stored (t * 3 + 1) (.slice ao f.wr cap)).1
  have hc : RF.cells ⟨f.nm, ao, cap, f.bs.take f.wr, f.wr⟩ = f.cells.set 1 (.slice ao f.wr cap) := by simp [RF.cells, hl]
  rw [flat_set RF.cells_len G t 1 f ⟨f.nm, ao, cap, f.bs.take f.wr, f.wr⟩ _ hG (by omega) hc] at st
  have hk : ∀ k, k ≠ g → (w3.setCell ⟨g, t * 3 + 1, none⟩ (.slice ao f.wr cap)).heap[k]? = w3.heap[k]? := fun k hk => Below.heap_setCell _ _ _ _ hk
  have hz3 := hg.size
  have hzs : (w3.setCell ⟨g, t * 3 + 1, none⟩ (.slice ao f.wr cap)).heap.size = w3.heap.size := size_setCell _ _ _
  have hob : ∀ a, ao = some a → base ≤ a.block ∧ a.block < w3.heap.size := fun a ha => ho.lt _ (hown a ha)
  have hwz := h.grew.size
  refine ⟨G.set t ⟨f.nm, ao, cap, f.bs.take f.wr, f.wr⟩, grown_set (grown_trans h.grew hg) hgl.1 _ _, ?_, by rw [List.length_set]; exact h.len, fun j fj hj hfj => ?_, fun j hj => ?_⟩
  · exact st
  · by_cases e : j = t
    · subst e
      rw [hf] at hfj
      obtain rfl := Option.some.inj hfj
      refine ⟨_, List.getElem?_set_self htl, rfl, rfl, rfl, hs.kept fun a ha _ => hk _ fun e => ?_, fun e => ?_, ?_, fun k hkb => ?_⟩
      · have := hob a ha; omega
      · show (f.bs.take f.wr).length = 0
        rw [hl]; exact hz e
      · show (f.bs.take f.wr).length ≤ cap
        rw [hl]; exact hcp
      · obtain ⟨a, ha, rfl⟩ : ∃ a, ao = some a ∧ a.block = k := by
          simp only [RF.blk, List.mem_map, Option.mem_toList] at hkb
          obtain ⟨a, ha, e⟩ := hkb
          exact ⟨a, ha, e⟩
        have := hob a ha
        rw [hzs]
        exact ⟨by omega, this.2, fun e => by have e2 := Option.some.inj e; simp only at e2; omega⟩
    · obtain ⟨f', hf', hC⟩ := h.done j fj (by omega) hfj
      refine ⟨f', by rw [List.getElem?_set_ne (by omega)]; exact hf', hC.nm, hC.bs, hC.wrt, hC.sees.kept fun a ha _ => ?_, hC.zero, hC.cap, fun k hkb => ?_⟩
      · have hb := hC.blk a.block (by simp [RF.blk, ha])
        exact (hk _ fun e => hb.2.2 (by rw [e]; rfl)).trans (hg.block _ hb.2.1 (by simp))
      · have hb := hC.blk k hkb
        rw [hzs]
        exact ⟨hb.1, by omega, hb.2.2⟩
  · rw [List.getElem?_set_ne (by omega)]
    exact h.rest j (by omega)
/-- What the first loop keeps. -/
def Kep (w : World) (r : Nat) (R : RM) (t : Nat) (F : List RF) (wr : World) : Prop :=
  RefAt wr r { R with fs := F } ∧ Moved w wr (R.foot r) (({ R with fs := F } : RM).foot r) ∧ F.map RF.sig = keepL (R.fs.map RF.sig) (R.line.take t) ∧ CapOk F
theorem Kep.grown {w : World} {r : Nat} {R : RM} {t : Nat} {F : List RF} {wr wr' : World} (h : Kep w r R t F wr) (hg : wr.grownBy wr' none) : Kep w r R t F wr' := ⟨h.1.grown hg, h.2.1.trans (Moved.none_of hg _), h.2.2⟩
theorem find_names {L L' : List Sig} (h : L.map (·.nm) = L'.map (·.nm)) (nm : List UInt8) : findT L nm = none ↔ findT L' nm = none := by
  have e : ∀ K : List Sig, findT K nm = none ↔ nm ∉ K.map (·.nm) := fun K => by
    unfold findT
    rw [List.find?_eq_none]
    simp only [List.mem_map, beq_iff_eq, not_exists, not_and]
  rw [e, e, h]
theorem crash_off_ref {w : World} {r : Nat} {R : RM} (h : RefAt w r R) (hoff : R.off = true) (k : Int) :
    Calls Tryz.prog 105 #[.pointer (some ⟨r, 0, none⟩), .int .i64 k] w fun x w' => x = .returned (.tuple #[]) ∧ w' = w := by
  have c3 := h.c3
  rw [hoff] at c3
  clear h
  go_enter Tryz.func105, Tryz.ntmps105
  go_wp2_with fail
  refine bodyPost_ret (results_none rfl _ _ _) rfl ?_
  exact ⟨rfl, rfl⟩
set_option maxRecDepth 100000 in
set_option maxHeartbeats 3200000 in
theorem ref_Crash {w : World} {r : Nat} {R : RM} (h : RefAt w r R) (hoff : R.off = false) (hn : R.fs.length ≤ 1000000) (hn2 : R.line.length ≤ 1000000) (hs : (R.fs.map RF.sig).Pairwise (fun x y => bytesBefore x.nm y.nm = true)) (hin : ∀ p ∈ R.line, findT (R.fs.map RF.sig) p.1 ≠ none) (hpn : ∀ p ∈ R.line, p.2 ≤ 1099511627776) (hwr : WrOk (R.fs.map RF.sig)) (hbs : ∀ f ∈ R.fs, f.bs.length ≤ 1099511627776) (hcap : CapOk R.fs) (k : Int) :
    Calls Tryz.prog 105 #[.pointer (some ⟨r, 0, none⟩), .int .i64 k] w fun x w' => x = .returned (.tuple #[]) ∧ ∃ R', RefAt w' r R' ∧ R'.abs = crashQ R.abs k ∧ CapOk R'.fs ∧ Moved w w' (R.foot r) (R'.foot r) := by
  obtain ⟨aN, cN, hvN, hcN, -⟩ := h.lines
  have c3 := h.c3
  have c2 := h.c2
  rw [hoff] at c3
  rw [hvN] at c2
  have hnz : (R.line.length : Int) ≤ 1000000 := by omega
  have HN : Hid (R.vN = .slice aN R.line.length cN) := hvN
  have HOFF : Hid (R.off = false) := hoff
  have H0 : Hid (Kep w r R 0 R.fs w) := ⟨h, Moved.refl _ _, rfl, hcap⟩
  clear h hvN hoff
  go_enter Tryz.func105, Tryz.ntmps105
  go_wp2_with fail
  rename_i K hK
  have HK : Hid (∀ (a : Act) (wr : World) (F : List RF), a.tmps.size = 100 → a.defers = [] → a.tmps.getD 0 undef = .pointer (some ⟨r, 0, none⟩) → Kep w r R k.toNat F wr → K a wr) := by
    intro a ws F ha hd h0 hKep
    obtain ⟨hF, hM, hkl, hcp⟩ := hKep
    obtain ⟨y, rfl, y0⟩ : ∃ y, a = fr100 y ∧ y 0 = .pointer (some ⟨r, 0, none⟩) := ⟨_, fr100_of a ha hd, h0⟩
    refine hK _ _ ?_
    unfold fr100
    rw [y0]
    clear hK ha hd h0 y0 H0 c2 c3 hcN HN hnz
    have hnm : (F.map RF.sig).map (·.nm) = (R.fs.map RF.sig).map (·.nm) := by rw [hkl, keepL_names]
    have hFl : F.length = R.fs.length := by have := names_len hnm; rwa [len_sig, len_sig] at this
    have hFw : ∀ f ∈ F, f.wr ≤ f.bs.length := fun f hf => by
      have := keepL_wr hwr (R.line.take k.toNat)
      rw [← hkl] at this
      exact this f.sig (List.mem_map.2 ⟨f, hf, rfl⟩)
    have hFb : ∀ f ∈ F, f.bs.length ≤ 1099511627776 := fun f hf => by
      obtain ⟨y, hy, ey⟩ := keepL_bytes (L := R.fs.map RF.sig) (ps := R.line.take k.toNat) (x := f.sig) (by rw [← hkl]; exact List.mem_map.2 ⟨f, hf, rfl⟩)
      obtain ⟨z, hz, rfl⟩ := List.mem_map.1 hy
      have := hbs z hz
      have e5 : z.bs = f.bs := ey.2
      rwa [e5] at this
    obtain ⟨i0, hinf, hq0, hq1, hq2⟩ := info_of infoFl
    obtain ⟨j0, hinf8, hq80, hq81, hq82⟩ := info_parts info8D
    obtain ⟨aL, cL, hvL, -, -⟩ := hF.files
    have hga := World.grownBy_alloc ws (.cells #[] 86) none
    have c1 := (hF.grown hga).c1
    have q2 := src_files (hF.grown hga)
    rw [hvL] at c1 q2
    have HR0 : Hid ((ws.alloc (.cells #[] 86)).ownsRow ws.heap.size 86 3 (.slice (some ⟨ws.heap.size, 0, none⟩) 0 0) 0 []) := row03 ws
    have hFz : (F.length : Int) ≤ 1000000 := by omega
    have HFR : Hid (RefAt ws r { R with fs := F }) := hF
    have HMV : Hid (Moved w ws (R.foot r) (({ R with fs := F } : RM).foot r)) := hM
    have HKL : Hid (F.map RF.sig = keepL (R.fs.map RF.sig) (R.line.take k.toNat)) := hkl
    have hm2 : 0 + F.length ≤ maxLen := by unfold maxLen; omega
    have hb3 : (0 + F.length) * 48 ≤ 140737488355328 := by omega
    have HZ : Hid (ws.heap.size ≤ (ws.alloc (.cells #[] 86)).heap.size) := by show _ ≤ _; simp
    simp only at c1 q2
    have HFL : Hid (F.length = R.fs.length) := hFl
    have HFW : Hid (∀ f ∈ F, f.wr ≤ f.bs.length) := hFw
    have HFB : Hid (∀ f ∈ F, f.bs.length ≤ 1099511627776) := hFb
    have HCP : Hid (CapOk F) := hcp
    have H8 : Hid (Tryz.prog.info? 5 = some j0 ∧ j0.zero = some (.int .u8 0) ∧ j0.size = 1 ∧ j0.bytes = 1) := ⟨hinf8, hq80, hq81, hq82⟩
    clear hF hM hkl hvL hnm hs hin hpn hwr hbs hcap hFl hFw hFb hcp hinf8 hq80 hq81 hq82
    go_wp2_with (at_builtin; go_must (refine wpList_append_grew _ rfl (.tmp 65) (.tmp 69) 47 47 rfl ws.heap.size 86 i0 (.agg #[.string ⟨#[]⟩, .slice none 0 0, .int .i64 0]) 3 48 Tryz.underlying47 hinf hq0 hq1 hq2 rfl _ 0 [] rfl HR0.out (.slice aL F.length cL) F.length (F.flatMap RF.cells) rfl q2 hm2 hb3 HZ.out ?_; intro v2 w2 ho2 hg2))
    have ho3 : w2.ownsRow ws.heap.size 86 3 v2 F.length (F.flatMap RF.cells) := by simpa using ho2
    have HG2 : Hid (ws.grownBy w2 none) := hga.andThen hg2.rows (fun j hj => .inl (by cases hj; exact Nat.le_refl _))
    obtain ⟨av, cv, rfl, hcv, -⟩ := owns_recs RF.cells_len ho3
    have HO3 : Hid (w2.ownsRow ws.heap.size 86 3 (.slice av F.length cv) F.length (F.flatMap RF.cells)) := ho3
    clear ho2 ho3 hg2 q2 c1 hga HR0 HZ hm2 hb3
    have hlen : ∀ w', (Builtin.len_ #[47] 3 #[.slice av F.length cv]).run Tryz.prog w' = .ok (.int .i64 (F.length : Int)) w' := fun w' => run_len_slice (P := Tryz.prog) w' 47 3 av F.length cv Tryz.underlying47
    go_wp2_with fail
    go_simp
    refine ‹∀ (a : Act) (w : World), wpList _ _ _ _ a w → _› _ _ ?_
    go_wp2_with fail
    go_loopw [73] (fun s73 wx => ∃ (t : Nat) (G : List RF), t ≤ F.length ∧ s73 = .int .i64 (t : Int) ∧ Lp2 ws F (.slice av F.length cv) t G wx) (fun s73 _ => F.length - (intOf s73).toNat)
    case atStart => exact ⟨0, F, Nat.zero_le _, rfl, HG2.out, HO3.out, rfl, fun j f hj => absurd hj (Nat.not_lt_zero _), fun _ _ => rfl⟩
    case round =>
      obtain ⟨t, G, ht, rfl, hL⟩ := hrel
      have htz : (t : Int) ≤ 1000000 := by omega
      have HL : Hid (Lp2 ws F (.slice av F.length cv) t G wr) := hL
      rcases Nat.lt_or_ge t F.length with hlt | hge
      · have hG : G[t]? = some F[t] := by rw [hL.rest t (Nat.le_refl _)]; exact List.getElem?_eq_getElem hlt
        have hFt : F[t]? = some F[t] := List.getElem?_eq_getElem hlt
        have hrow := hL.row
        rw [← hL.len] at hrow
        obtain ⟨ao9, cap9, e9, -, hcell⟩ := owns_recs RF.cells_len hrow
        rw [hL.len] at e9
        cases e9
        obtain ⟨g, rfl, -, hc⟩ := hcell t _ hG
        have k0 := hc 0 _ rfl
        have k1 := hc 1 _ rfl
        have k2 := hc 2 _ rfl
        simp only [Nat.add_zero] at k0
        have hmem : F[t] ∈ F := List.getElem_mem hlt
        have hw1 := HFW.out _ hmem
        have hw2 := HFB.out _ hmem
        have hw3 := HCP.out _ hmem
        generalize F[t] = f at *
        obtain ⟨fn, fo, fc, fb, fw⟩ := f
        simp only at *
        have hse : Sees ws fo fb := HFR.out.sees _ hmem
        have hze : fo = none → fb.length = 0 := HFR.out.zero _ hmem
        have hbl : ∀ a, fo = some a → a.block < ws.heap.size := fun a ha => HFR.out.blt _ hmem a.block (by simp [RF.blk, ha])
        have hgx := hL.grew
        have htk : (fb.take fw).length = fw := by rw [List.length_take]; omega
        have HS : Hid (∀ o, Src Tryz.prog 1 58 (.slice fo fw fc) fw (B8 (fb.take fw)) ((wr.alloc o).alloc (.cells #[] 5))) := fun o => by
          have h1 : Sees wr fo fb := hse.kept fun a ha _ => hgx.block _ (hbl a ha) (by simp)
          have hgz := hgx.size
          have h2 : Sees ((wr.alloc o).alloc (.cells #[] 5)) fo fb := h1.kept fun a ha _ => by
            have hb := hbl a ha
            rw [Below.heap_alloc _ _ _ (by rw [World.size_alloc]; omega), Below.heap_alloc _ _ _ (by omega)]
          have h3 : Sees ((wr.alloc o).alloc (.cells #[] 5)) fo (fb.take fw) := fun i hi => by
            rw [htk] at hi
            obtain ⟨a, ha, hc⟩ := h2 i (by omega)
            refine ⟨a, ha, ?_⟩
            rw [hc]
            simp [List.getD, hi]
          have := src_sees (P := Tryz.prog) Tryz.underlying58 h3 (fun e => by rw [htk]; have := hze e; omega) fc
          rwa [htk] at this
        have HE0 : Hid (∀ o, ((wr.alloc o).alloc (.cells #[] 5)).ownsRow (wr.heap.size + 1) 5 1 (.slice (some ⟨wr.heap.size + 1, 0, none⟩) 0 0) 0 []) := fun o => by
          have := row08 (wr.alloc o)
          rwa [World.size_alloc] at this
        have HZ1 : Hid (∀ o, wr.heap.size + 1 ≤ ((wr.alloc o).alloc (.cells #[] 5)).heap.size) := fun o => by show _ ≤ _; simp
        have HEN : Hid (∀ o w3 v3, w3.ownsRow (wr.heap.size + 1) 5 1 v3 (0 + fw) ([] ++ B8 (fb.take fw)) → Grew ((wr.alloc o).alloc (.cells #[] 5)) w3 (.slice (some ⟨wr.heap.size + 1, 0, none⟩) 0 0) v3 →
            (∃ a3 c3, v3 = .slice a3 fw c3) ∧ (∃ u, w3.cell? ⟨g, t * 3 + 1, none⟩ = some u) ∧ w3.frozen? ⟨g, t * 3 + 1, none⟩ = false ∧ ∃ G', Lp2 ws F (.slice (some ⟨g, 0, none⟩) F.length cv) (t + 1) G' (w3.setCell ⟨g, t * 3 + 1, none⟩ v3)) := fun o w3 v3 ho hgr => by
          have ho' : w3.ownsRow (wr.heap.size + 1) 5 1 v3 fw (B8 (fb.take fw)) := by simpa using ho
          have hgw : wr.grownBy w3 none := (grown_alloc (World.grownBy_alloc wr o none) (.cells #[] 5)).andThen hgr.rows (fun j hj => .inl (by cases hj; exact Nat.le_succ _))
          have hrow3 := owns_up HL.out.row hgw
          obtain ⟨a3, c3, e3, -⟩ := owns_seesR ho'
          refine ⟨⟨a3, c3, e3⟩, ⟨_, (World.cell?_of_block (a := ⟨g, t * 3 + 1, none⟩) (hgw.block g (HL.out.row.lt g rfl).2 (by simp))).trans k1⟩, owns_frozen hrow3 _, HL.out.step hFt hgw (Nat.le_succ _) ho'⟩
        have hm3 : 0 + fw ≤ maxLen := by unfold maxLen; omega
        have hm4 : (0 + fw) * 1 ≤ 140737488355328 := by omega
        have hfz : (fw : Int) ≤ (fc : Int) := by omega
        have hgz : (t : Int) < (F.length : Int) := by omega
        obtain ⟨hinf8, hq80, hq81, hq82⟩ := H8.out
        clear hcell hrow hc hG hL hse hze hbl hgx htk hw1 hw2 hw3 hmem
        generalize B8 (fb.take fw) = bb at *
        generalize fb.length = bl at *
        go_wp2_with (at_builtin; go_must (refine wpList_append_grew _ rfl (.tmp 80) (.tmp 85) 58 58 rfl (wr.heap.size + 1) 5 j0 (.int .u8 0) 1 1 Tryz.underlying58 hinf8 hq80 hq81 hq82 rfl _ 0 [] rfl (HE0.out _) (.slice fo fw fc) fw bb rfl (HS.out _) hm3 hm4 (HZ1.out _) ?_; intro v3 w3 ho3 hg3; obtain ⟨⟨a3, c3, rfl⟩, ⟨u3, z1⟩, z2, G', hG'⟩ := HEN.out _ _ _ ho3 hg3; clear ho3 hg3))
        exact ⟨⟨t + 1, G', by omega, by go_num, hG'⟩, by simp [intOf]; omega⟩
      · obtain rfl : t = F.length := by omega
        have hgx := hL.grew
        have hwx := HFR.out.grown hgx
        have c1 := hwx.c1
        have c2 := hwx.c2
        have c3 := hwx.c3
        have f1 := hwx.head.frozen 1
        have f2 := hwx.head.frozen 2
        have f3 := hwx.head.frozen 3
        have hrow : wr.ownsRow ws.heap.size 86 3 (.slice av F.length cv) G.length (G.flatMap RF.cells) := by rw [hL.len]; exact hL.row
        have hcut : ∀ f' ∈ G, ∃ (j : Nat) (f : RF), F[j]? = some f ∧ G[j]? = some f' ∧ Cutd ws wr (.slice av F.length cv) f f' := fun f' hf' => by
          obtain ⟨j, hj, rfl⟩ := List.getElem_of_mem hf'
          have hjF : j < F.length := by rw [← hL.len]; exact hj
          obtain ⟨f'', h1, h2⟩ := hL.done j F[j] hjF (List.getElem?_eq_getElem hjF)
          rw [List.getElem?_eq_getElem hj] at h1
          obtain rfl := Option.some.inj h1
          exact ⟨j, _, List.getElem?_eq_getElem hjF, List.getElem?_eq_getElem hj, h2⟩
        have hsig : G.map RF.sig = (F.map RF.sig).map cutS := by
          apply List.ext_getElem?
          intro j
          rw [List.getElem?_map, List.getElem?_map, List.getElem?_map]
          rcases Nat.lt_or_ge j F.length with hj | hj
          · obtain ⟨f', h1, h2⟩ := hL.done j F[j] hj (List.getElem?_eq_getElem hj)
            rw [h1, List.getElem?_eq_getElem hj]
            simp only [Option.map_some]
            unfold RF.sig cutS
            simp only [h2.nm, h2.bs, h2.wrt]
          · rw [List.getElem?_eq_none hj, List.getElem?_eq_none (by rw [hL.len]; exact hj)]
            rfl
        have hfr := HFR.out.fresh hgx (.slice av F.length cv) G hrow (fun f' hf' => by
          obtain ⟨j, f, -, -, hC⟩ := hcut f' hf'
          exact ⟨hC.sees, hC.zero, hC.blk⟩)
        have HFIN : Hid (∃ R', RefAt (((wr.setCell ⟨r, 1, none⟩ (.slice av F.length cv)).setCell ⟨r, 2, none⟩ (.slice none 0 0)).setCell ⟨r, 3, none⟩ (.bool true)) r R' ∧ R'.abs = crashQ R.abs k ∧ CapOk R'.fs ∧ Moved w (((wr.setCell ⟨r, 1, none⟩ (.slice av F.length cv)).setCell ⟨r, 2, none⟩ (.slice none 0 0)).setCell ⟨r, 3, none⟩ (.bool true)) (R.foot r) (R'.foot r)) := by
          refine ⟨_, hfr.1, ?_, fun f' hf' => ?_, HMV.out.trans hfr.2⟩
          · unfold crashQ
            rw [show R.abs.off = false from HOFF.out]
            show RA.mk (G.map RF.sig) [] R.room true R.ops R.fail R.keep = _
            rw [hsig, HKL.out]
            rfl
          · obtain ⟨j, f, -, -, hC⟩ := hcut f' hf'
            exact hC.cap
        simp only at c1 c2 c3
        clear hgx hwx hrow hcut hsig hfr hL
        go_wp2_with fail
        go_end0
        exact ⟨rfl, HFIN.out⟩
  clear hK
  go_loopw [20] (fun s20 wr => ∃ (t : Nat) (F : List RF), t ≤ R.line.length ∧ t ≤ k.toNat ∧ s20 = .int .i64 (t : Int) ∧ Kep w r R t F wr) (fun s20 _ => R.line.length - (intOf s20).toNat)
  case atStart => exact ⟨0, R.fs, Nat.zero_le _, Nat.zero_le _, rfl, H0.out⟩
  case round =>
    obtain ⟨t, F, ht, htk, rfl, hF, hM, hkl, hcp⟩ := hrel
    have htz : (t : Int) ≤ 1000000 := by omega
    have HF : Hid (RefAt wr r { R with fs := F }) := hF
    have HM : Hid (Moved w wr (R.foot r) (({ R with fs := F } : RM).foot r)) := hM
    have HKL : Hid (F.map RF.sig = keepL (R.fs.map RF.sig) (R.line.take t)) := hkl
    have HCP : Hid (CapOk F) := hcp
    clear hF hM hkl H0 hcp
    rcases Nat.lt_or_ge t R.line.length with hlt | hge
    · obtain ⟨aN', cN', hvN', _, hcell⟩ := HF.out.lines
      rw [show ({ R with fs := F } : RM).vN = R.vN from rfl, HN.out] at hvN'
      cases hvN'
      obtain ⟨g, rfl, _, k0, k1⟩ := hcell t _ (List.getElem?_eq_getElem hlt)
      have hst := keepL_step (R.fs.map RF.sig) R.line hlt
      have hp1 := hin R.line[t] (List.getElem_mem hlt)
      have hp2 := hpn R.line[t] (List.getElem_mem hlt)
      generalize R.line[t] = p at *
      obtain ⟨pn, pk⟩ := p
      simp only at *
      have hnm : (F.map RF.sig).map (·.nm) = (R.fs.map RF.sig).map (·.nm) := by rw [HKL.out, keepL_names]
      have hso := sorted_names hnm hs
      have hFl : F.length = R.fs.length := by have := names_len hnm; rwa [len_sig, len_sig] at this
      have hgr : Hid (∀ o, wr.grownBy (wr.alloc o) none) := fun o => World.grownBy_alloc _ _ _
      by_cases hkt : k ≤ (t : Int)
      · have hteq : t = k.toNat := by omega
        have HE : Hid (∀ o, Kep w r R k.toNat F (wr.alloc o)) := fun o => by
          have : Kep w r R t F wr := ⟨HF.out, HM.out, HKL.out, HCP.out⟩
          rw [hteq] at this
          exact this.grown (hgr.out o)
        clear hcell hst hp1 hp2 hnm hso hteq hpn hin
        go_wp2_with fail
        exact HK.out _ _ F rfl rfl rfl (HE.out _)
      · rcases at_cases F pn with ⟨_, e2⟩ | ⟨i, f, e1, e2, e3, e4⟩
        · exact absurd ((find_names hnm pn).1 e2) hp1
        · have hkt2 : (t : Int) < k := by omega
          have A : Hid (∀ o, Calls Tryz.prog 72 #[.pointer (some ⟨r, 0, none⟩), .string (strBD pn)] (wr.alloc o) fun x w' => x = .returned (.int .i64 (i : Int)) ∧ w' = wr.alloc o) := fun o => by
            have := ref_at (HF.out.grown (hgr.out o)) (by show F.length ≤ 1000000; omega) (strBD pn)
            rw [nameOf_strB, show ({ R with fs := F } : RM).fs = F from rfl, e1] at this
            exact this
          obtain ⟨aL, cL, hvL, hcL, hfc⟩ := HF.out.files
          obtain ⟨g2, rfl, hg2, m0, m1, m2⟩ := hfc i f e2
          have hil : i < F.length := (List.getElem?_eq_some_iff.1 e2).1
          have hmemF : f ∈ F := List.mem_of_getElem? e2
          have hfz : f.bs.length ≤ 1099511627776 := by
            obtain ⟨y, hy, ey⟩ := keepL_bytes (L := R.fs.map RF.sig) (ps := R.line.take t) (x := f.sig) (by rw [← HKL.out]; exact List.mem_map.2 ⟨f, hmemF, rfl⟩)
            obtain ⟨z, hz, rfl⟩ := List.mem_map.1 hy
            have := hbs z hz
            have e5 : z.bs = f.bs := ey.2
            rwa [e5] at this
          obtain ⟨en, hen⟩ : ∃ en, min ((pk + 1) * 16) f.bs.length = en := ⟨_, rfl⟩
          have HP : Hid (∀ o, Kep w r R (t + 1) (F.set i ⟨f.nm, f.ao, f.cap, f.bs, en⟩) ((wr.alloc o).setCell ⟨g2, i * 3 + 2, none⟩ (.int .i64 (en : Int)))) := fun o => by
            have hw1 := HF.out.grown (hgr.out o)
            have P := HF.out.putFile (hgr.out o) (i := i) (f := f) e2 (c := cL) hvL 2 (by omega) (.int .i64 (en : Int)) ⟨f.nm, f.ao, f.cap, f.bs, en⟩ rfl (hw1.sees f hmemF) (hw1.zero f hmemF) (fun k hk => .inl hk)
            refine ⟨P.1, HM.out.trans P.2, ?_, fun x hx => (List.mem_or_eq_of_mem_set hx).elim (fun h => HCP.out x h) (fun e => by subst e; exact HCP.out f hmemF)⟩
            have e6 := set_sig F i f ⟨f.nm, f.ao, f.cap, f.bs, en⟩ hso e2
            rw [e6, hst, ← HKL.out]
            unfold keepS
            rw [e4]
            show upd _ f.nm ⟨f.nm, f.bs, en, []⟩ = upd _ pn ⟨pn, f.bs, min ((pk + 1) * 16) f.bs.length, []⟩
            rw [e3, hen]
          have q1 : ∀ o, (wr.alloc o).cell? ⟨r, 1, none⟩ = some (.slice (some ⟨g2, 0, none⟩) F.length cL) := fun o => by
            have := (HF.out.grown (hgr.out o)).c1
            rwa [hvL] at this
          have qq : ∀ o, ∀ j, (wr.alloc o).cell? ⟨g2, j, none⟩ = wr.cell? ⟨g2, j, none⟩ := fun o j => World.cell?_of_block (Below.heap_alloc _ _ _ ((HF.out.rowL.lt g2 hg2).2))
          have q2 := fun o => (qq o _).trans m1
          have q3 := fun o => (qq o _).trans m2
          have q4 : ∀ o, (wr.alloc o).frozen? ⟨g2, i * 3 + 2, none⟩ = false := fun o => by
            have hr := (HF.out.grown (hgr.out o)).rowL
            rw [hvL] at hr
            exact owns_frozen hr _
          have hilz : (i : Int) < (F.length : Int) := by omega
          have hpz : (pk : Int) ≤ 1099511627776 := by omega
          have hbz : (f.bs.length : Int) ≤ 1099511627776 := by omega
          have hcLz : (F.length : Int) ≤ (cL : Int) := by have : F.length ≤ cL := hcL; omega
          generalize f.bs.length = bl at *
          generalize f.ao = fao at *
          generalize f.cap = fcap at *
          clear hcell hst hp1 hp2 hnm hso hpn hin hfc qq m0 m1 m2 hvL hbs e1 e2 e4
          by_cases hlt2 : (bl : Int) < ((pk : Int) + 1) * 16
          · obtain rfl : en = bl := by omega
            clear hen
            go_wp2_with (go_at_call 72; go_fit (A.out _); rintro x w1 ⟨rfl, rfl⟩)
            go_roundw
            case rel => exact ⟨t + 1, _, by omega, by omega, by go_num, HP.out _⟩
            case measure => simp [intOf]; omega
          · obtain ⟨hen2⟩ : Nonempty ((en : Int) = ((pk : Int) + 1) * 16) := ⟨by omega⟩
            have HPP : Hid (∀ o, Kep w r R (t + 1) (F.set i ⟨f.nm, fao, fcap, f.bs, en⟩) ((wr.alloc o).setCell ⟨g2, i * 3 + 2, none⟩ (.int .i64 (((pk : Int) + 1) * 16)))) := fun o => by have := HP.out o; rwa [hen2] at this
            clear hen hen2 HP
            go_wp2_with (go_at_call 72; go_fit (A.out _); rintro x w1 ⟨rfl, rfl⟩)
            go_roundw
            case rel => exact ⟨t + 1, _, by omega, by omega, by go_num, HPP.out _⟩
            case measure => simp [intOf]; omega
    · obtain rfl : t = R.line.length := by omega
      have HE : Hid (Kep w r R k.toNat F wr) := by
        have : Kep w r R R.line.length F wr := ⟨HF.out, HM.out, HKL.out, HCP.out⟩
        refine ⟨this.1, this.2.1, ?_, this.2.2.2⟩
        rw [this.2.2.1, List.take_length, List.take_of_length_le htk]
      go_wp2_with fail
      exact HK.out _ _ F rfl rfl rfl HE.out
end Go.Proofs.YtgkdodcidancpaaGreatDoor

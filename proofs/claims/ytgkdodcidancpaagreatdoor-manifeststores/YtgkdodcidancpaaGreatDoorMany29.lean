/-
  SEVERAL TEXTS IN ONE: DskRefR, ManRefB.
-/
import Derived.Test.YtgkdodcidancpaaGreatDoorDskRefA
import Derived.Test.YtgkdodcidancpaaGreatDoorMany28
import Derived.Test.YtgkdodcidancpaaGreatDoorMany21
import Derived.Test.YtgkdodcidancpaaGreatDoorMany3
namespace Go.Proofs.YtgkdodcidancpaaGreatDoor
open Go.RowKit Go.Maps Go.WideAt Go.WideShapes
attribute [local go_sem] Oper.pureAt Oper.pureUpon
attribute [local irreducible] wpQuiet

set_option maxRecDepth 100000 in
set_option maxHeartbeats 1600000 in
theorem ra_Read {w : World} {r : Nat} {Q : RA} {fr : List Nat} (h : RAt r Q fr w) (hF : Q.Fit) (s : ByteArray) (hs : s.size ≤ maxLen) :
    Calls Tryz.prog 40 #[.pointer (some ⟨r, 0, none⟩), .string s] w fun x w' =>
      (knownQ Q s ≠ 0 ∧ x = .returned (.tuple #[.slice none 0 0, .int .i64 (knownQ Q s)]) ∧ w' = w) ∨ ∃ t, (knownQ Q s = 0 ∧ findT Q.L (nameOf s) = some t) ∧ ∃ v, x = .returned (.tuple #[v, .int .i64 0]) ∧ w'.ownsRow w.heap.size 5 1 v t.bs.length (B8 t.bs) ∧ w.grownBy w' none := by
  obtain ⟨R, h1, rfl, rfl, hcap⟩ := h
  have hn : R.fs.length ≤ 1000000 := by have := hF.few; rwa [show R.abs.L.length = R.fs.length from len_sig _] at this
  have K : Hid (Calls Tryz.prog 81 #[.pointer (some ⟨r, 0, none⟩), .string s] w fun x w' => x = .returned (.int .i64 (knownQ R.abs s)) ∧ w' = w) := ref_known h1 hn s hs
  by_cases hk : knownQ R.abs s = 0
  · obtain ⟨t0, ht0⟩ := known_find hk
    have HT : Hid ((knownQ R.abs s = 0 ∧ findT R.abs.L (nameOf s) = some t0)) := ⟨hk, ht0⟩
    rw [hk] at K
    rcases at_cases R.fs (nameOf s) with ⟨_, e2⟩ | ⟨i, f, e1, e2, e3, e4⟩
    · have : findT (R.fs.map RF.sig) (nameOf s) = some t0 := ht0
      rw [this] at e2
      cases e2
    have ht : t0 = f.sig := by
      have : findT (R.fs.map RF.sig) (nameOf s) = some t0 := ht0
      rw [e4] at this
      exact (Option.some.inj this).symm
    subst ht
    have A : Hid (∀ wx, Below w.heap.size w wx → Calls Tryz.prog 72 #[.pointer (some ⟨r, 0, none⟩), .string s] wx fun x w' => x = .returned (.int .i64 (i : Int)) ∧ w' = wx) := fun wx hb => by
      have := ref_at (h1.cl hb) hn s
      rwa [e1] at this
    have hmem : f ∈ R.fs := List.mem_of_getElem? e2
    have hil : i < R.fs.length := (List.getElem?_eq_some_iff.1 e2).1
    have hbl : f.bs.length ≤ 1099511627776 := hF.len f.sig (List.mem_map.2 ⟨f, hmem, rfl⟩)
    obtain ⟨aL, cL, hvL, hcL, hfc⟩ := h1.files
    obtain ⟨g, rfl, hg, m0, m1, m2⟩ := hfc i f e2
    have hgl := (h1.rowL.lt g hg).2
    have hrl := h1.head.lt
    have c1 := h1.c1
    rw [hvL] at c1
    have HCl : Hid (∀ u : World, Below w.heap.size w u → ∃ p : Cl w.heap.size w, u = p.u) := fun u hu => ⟨⟨u, hu⟩, rfl⟩
    have HB0 : Hid (Below w.heap.size w w.drew) := (Below.refl _ w).drew
    have HB1 : Hid (Below w.heap.size w (w.drew.alloc (.cells #[] 5))) := HB0.out.alloc (Nat.le_refl _) _
    have q1 : ∀ q : Cl w.heap.size w, q.u.cell? ⟨r, 1, none⟩ = some (.slice (some ⟨g, 0, none⟩) R.fs.length cL) := fun q => q.cell hrl c1
    have q2 : ∀ q : Cl w.heap.size w, q.u.cell? ⟨g, i * 3 + 1, none⟩ = some (.slice f.ao f.bs.length f.cap) := fun q => q.cell hgl m1
    obtain ⟨j0, hinf8, hq80, hq81, hq82⟩ := info_parts info8D
    have hsf : Sees (w.drew.alloc (.cells #[] 5)) f.ao f.bs := (h1.sees f hmem).below HB1.out (Nat.le_refl _)
    obtain ⟨v2, w2, hr2, ho2, hg2⟩ := run_append_grew (P := Tryz.prog) (w.drew.alloc (.cells #[] 5)) w.heap.size 58 58 58 5 j0 (.int .u8 0) 1 1 Tryz.underlying58 hinf8 hq80 hq81 hq82 rfl (.slice (some ⟨w.heap.size, 0, none⟩) 0 0) 0 [] (row08 w.drew) (.slice f.ao f.bs.length f.cap) f.bs.length (B8 f.bs) (src_sees Tryz.underlying58 hsf (h1.zero f hmem) f.cap) (by unfold maxLen; omega) (by omega) HB1.out.size
    have hB2 : Below w.heap.size w w2 := HB1.out.trans (hg2.below HB1.out.size (fun k hk => by cases hk; exact Nat.le_refl _))
    have HO2 : Hid (w2.ownsRow w.heap.size 5 1 v2 f.sig.bs.length (B8 f.sig.bs)) := by have := ho2; rw [Nat.zero_add, List.nil_append] at this; exact this
    have HG2 : Hid (w.grownBy w2 none) := ⟨hB2.os, hB2.tape, hB2.output, hB2.size, fun k hk _ => hB2.block k hk⟩
    have HB2 : Hid (Below w.heap.size w w2) := hB2
    have HR2 : Hid _ := hr2
    have hilz : (i : Int) < (R.fs.length : Int) := by omega
    have hnz : (R.fs.length : Int) ≤ 1000000 := by omega
    obtain ⟨a2, c2, rfl, -⟩ := owns_recsB ho2
    have HO3 : Hid (w2.ownsRow w.heap.size 5 1 (.slice a2 f.bs.length c2) f.sig.bs.length (B8 f.sig.bs)) := by have := HO2.out; rw [Nat.zero_add] at this; exact this
    haveI := Cl.inh w.heap.size w
    clear hF hcap hs hk ht0 e1 e2 e3 e4 hbl hvL hcL hfc hg m0 m1 m2 hgl hrl c1 hsf hr2 ho2 hg2 hB2 hn h1 hil
    go_enter Tryz.func40, Tryz.ntmps40
    go_wp2_with fail
    refine K.out.mono ?_
    rintro x _ ⟨rfl, hw⟩
    obtain rfl := hw.symm
    go_wp2_with fail
    refine wp_region_C (fun u => ∃ p : Cl w.heap.size w, u = p.u) 13 _ (by kernel_rfl) ?reg (fun _ _ h => h)
    refine anyC_pure 1 rfl (by kernel_rfl) (by kernel_rfl) (by kernel_rfl) (HCl.out _ HB0.out) (fun K hK => ?_)
    go_simp
    refine hK _ ?_
    clear hK K
    refine anyC_pure 2 rfl (by kernel_rfl) (by kernel_rfl) (by kernel_rfl) (HCl.out _ HB0.out) (fun K hK => ?_)
    go_simp
    refine hK _ ?_
    clear hK K
    refine anyC_pure 3 rfl (by kernel_rfl) (by kernel_rfl) (by kernel_rfl) (HCl.out _ HB0.out) (fun K hK => ?_)
    go_simp
    refine hK _ ?_
    clear hK K
    refine anyC_pure 4 rfl (by kernel_rfl) (by kernel_rfl) (by kernel_rfl) (HCl.out _ HB0.out) (fun K hK => ?_)
    go_simp
    refine hK _ ?_
    clear hK K
    refine anyC_pure 5 rfl (by kernel_rfl) (by kernel_rfl) (by kernel_rfl) (HCl.out _ HB0.out) (fun K hK => ?_)
    go_simp
    refine hK _ ?_
    clear hK K
    refine anyC_pure 6 rfl (by kernel_rfl) (by kernel_rfl) (by kernel_rfl) (HCl.out _ HB0.out) (fun K hK => ?_)
    go_simp
    refine hK _ ?_
    clear hK K
    refine anyC_loud2 0 7 (by kernel_rfl) ?_ ?_
    · refine lou_of rfl (fun K hK => ?_)
      go_simp
      refine hK _ _ ⟨fun _ => HCl.out _ HB1.out, ?_⟩
      clear hK K
      refine anyC_loud 7 (by kernel_rfl) ?_
      refine lou_of rfl (fun K hK => ?_)
      go_simp
      refine (A.out _ HB1.out).mono ?_
      rintro x _ ⟨rfl, hw⟩
      obtain rfl := hw.symm
      refine hK _ _ ⟨fun _ => HCl.out _ HB1.out, ?_⟩
      clear hK K
      refine anyC_pure 8 rfl (by kernel_rfl) (by kernel_rfl) (by kernel_rfl) (HCl.out _ HB1.out) (fun K hK => ?_)
      go_simp
      refine hK _ ?_
      clear hK K
      refine anyC_pure 9 rfl (by kernel_rfl) (by kernel_rfl) (by kernel_rfl) (HCl.out _ HB1.out) (fun K hK => ?_)
      go_simp
      refine hK _ ?_
      clear hK K
      refine anyC_pure 10 rfl (by kernel_rfl) (by kernel_rfl) (by kernel_rfl) (HCl.out _ HB1.out) (fun K hK => ?_)
      go_simp
      refine hK _ ?_
      clear hK K
      refine anyC_loud 11 (by kernel_rfl) ?_
      refine lou_append rfl rfl _ _ _ _ rfl _ _ rfl rfl (by exact HR2.out) ?_
      refine ⟨fun _ => HCl.out _ HB2.out, ?_⟩
      refine anyC_pure 12 rfl (by kernel_rfl) (by kernel_rfl) (by kernel_rfl) (HCl.out _ HB2.out) (fun K hK => ?_)
      go_simp
      refine hK _ ?_
      clear hK K
      refine anyC_loud 13 (by kernel_rfl) ?_
      refine lou_of rfl (fun K hK => ?_)
      go_simp
      refine hK _ _ ⟨fun h => absurd rfl h, ?_⟩
      clear hK K
      refine anyC_done (by kernel_rfl) ?_
      go_wp2_with fail
      go_ret2
      exact .inr ⟨_, HT.out, _, rfl, HO3.out, HG2.out⟩
    · refine lou_of rfl (fun K hK => ?_)
      go_simp
      refine (A.out _ HB0.out).mono ?_
      rintro x _ ⟨rfl, hw⟩
      obtain rfl := hw.symm
      refine hK _ _ ⟨fun _ => HCl.out _ HB0.out, ?_⟩
      clear hK K
      refine anyC_pure 8 rfl (by kernel_rfl) (by kernel_rfl) (by kernel_rfl) (HCl.out _ HB0.out) (fun K hK => ?_)
      go_simp
      refine hK _ ?_
      clear hK K
      refine anyC_pure 9 rfl (by kernel_rfl) (by kernel_rfl) (by kernel_rfl) (HCl.out _ HB0.out) (fun K hK => ?_)
      go_simp
      refine hK _ ?_
      clear hK K
      refine anyC_pure 10 rfl (by kernel_rfl) (by kernel_rfl) (by kernel_rfl) (HCl.out _ HB0.out) (fun K hK => ?_)
      go_simp
      refine hK _ ?_
      clear hK K
      refine anyC_loud 0 (by kernel_rfl) ?_
      refine lou_of rfl (fun K hK => ?_)
      go_simp
      refine hK _ _ ⟨fun _ => HCl.out _ HB1.out, ?_⟩
      clear hK K
      refine anyC_loud 11 (by kernel_rfl) ?_
      refine lou_append rfl rfl _ _ _ _ rfl _ _ rfl rfl (by exact HR2.out) ?_
      refine ⟨fun _ => HCl.out _ HB2.out, ?_⟩
      refine anyC_pure 12 rfl (by kernel_rfl) (by kernel_rfl) (by kernel_rfl) (HCl.out _ HB2.out) (fun K hK => ?_)
      go_simp
      refine hK _ ?_
      clear hK K
      refine anyC_loud 13 (by kernel_rfl) ?_
      refine lou_of rfl (fun K hK => ?_)
      go_simp
      refine hK _ _ ⟨fun h => absurd rfl h, ?_⟩
      clear hK K
      refine anyC_done (by kernel_rfl) ?_
      go_wp2_with fail
      go_ret2
      exact .inr ⟨_, HT.out, _, rfl, HO3.out, HG2.out⟩
  · have hkb : (knownQ R.abs s == 0) = false := beq_eq_false_iff_ne.2 hk
    have HK : Hid (knownQ R.abs s ≠ 0) := hk
    generalize knownQ R.abs s = kq at *
    clear hk hn hF h1 hcap
    go_enter Tryz.func40, Tryz.ntmps40
    go_wp2_with fail
    refine K.out.mono ?_
    rintro x _ ⟨rfl, hw⟩
    obtain rfl := hw.symm
    go_wp2_with fail
    go_ret2
    exact .inl ⟨HK.out, rfl, rfl⟩
theorem infoStr : (Tryz.prog.info? 9).map (fun i => (i.zero, i.size, i.bytes)) = some (some (.string ⟨#[]⟩), 1, 16) := by kernel_rfl
def strC (n : List UInt8) : List Value := [.string (strBD n)]
/-- The names, in a row of the call's own. -/
def nameRow (L : List Sig) : List Value := L.map fun t => .string (strBD t.nm)
set_option maxRecDepth 100000 in
set_option maxHeartbeats 1600000 in
theorem ra_List {w : World} {r : Nat} {Q : RA} {fr : List Nat} (h : RAt r Q fr w) (hF : Q.Fit) :
    Calls Tryz.prog 18 #[.pointer (some ⟨r, 0, none⟩)] w fun x w' =>
      ∃ v, x = .returned v ∧ w.grownBy w' none ∧ ((Q.off = false ∧ w'.ownsRow w.heap.size 9 1 v Q.L.length (nameRow Q.L)) ∨ (Q.off = true ∧ v = .slice none 0 0)) := by
  obtain ⟨R, h1, rfl, rfl, hcap⟩ := h
  have hn : R.fs.length ≤ 1000000 := by have := hF.few; rwa [show R.abs.L.length = R.fs.length from len_sig _] at this
  have c3 := h1.c3
  cases hoff : R.off
  · have HOFF : Hid (R.abs.off = false) := hoff
    rw [hoff] at c3
    obtain ⟨i0, hinf, hq0, hq1, hq2⟩ := info_of infoStr
    obtain ⟨ao, cap, hv, hcapL, -⟩ := h1.files
    have c1 := h1.c1
    rw [hv] at c1
    have HR : Hid (RefAt w r R) := h1
    have HV : Hid (R.vL = .slice ao R.fs.length cap) := hv
    have hnz : (R.fs.length : Int) ≤ 1000000 := by omega
    have HN : Hid (R.fs.length ≤ 1000000) := hn
    clear h1 hv hF hcap hn hoff
    go_enter Tryz.func18, Tryz.ntmps18
    go_wp2_with fail
    go_loopw [3, 15] (fun s3 s15 wr => ∃ k : Nat, k ≤ R.fs.length ∧ s15 = .int .i64 (k : Int) ∧ w.grownBy wr none ∧ wr.ownsRow w.heap.size 9 1 s3 k ((R.fs.take k).map fun f => .string (strBD f.nm))) (fun _ s15 _ => R.fs.length - (intOf s15).toNat)
    case atStart => exact ⟨0, Nat.zero_le _, rfl, grown_refl _, World.ownsRow_nil _ _ _ _⟩
    case round =>
      obtain ⟨k, hk, rfl, hg, ho⟩ := hrel
      have hkz : (k : Int) ≤ 1000000 := by have := HN.out; omega
      rcases Nat.lt_or_ge k R.fs.length with hlt | hge
      · obtain ⟨ao', cap', hv', _, hcell⟩ := (HR.out.grown hg).files
        rw [HV.out] at hv'
        cases hv'
        obtain ⟨g, rfl, _, k0, k1, k2⟩ := hcell k _ (List.getElem?_eq_getElem hlt)
        have hst : (R.fs.take (k + 1)).map (fun f => Value.string (strBD f.nm)) = (R.fs.take k).map (fun f => Value.string (strBD f.nm)) ++ [.string (strBD R.fs[k].nm)] := by
          rw [take_succ_ref hlt, List.map_append]
          rfl
        have HST : Hid ((R.fs.take (k + 1)).map (fun f => Value.string (strBD f.nm)) = (R.fs.take k).map (fun f => Value.string (strBD f.nm)) ++ [.string (strBD R.fs[k].nm)]) := hst
        have H3 : Hid (∀ w1 : World, wr.grownBy w1 none → w1.ownsRow w.heap.size 9 1 u3 k ((R.fs.take k).map fun f => .string (strBD f.nm))) := fun w1 hh => owns_up ho hh
        have HG : Hid (w.grownBy wr none) := hg
        have HZ : Hid (w.heap.size ≤ wr.heap.size) := hg.size
        have HS : Hid (∀ (w1 : World) (x : ByteArray), Src Tryz.prog 1 52 (.slice (some ⟨w1.heap.size, 0, none⟩) 1 1) 1 [.string x] (w1.alloc (.cells #[.string x] 9))) := fun w1 x => src_rec Tryz.underlying52 rfl (Blk.new w1 [.string x] _) (fun u hu => by simp at hu; subst hu; rfl)
        have HS2 : Hid (∀ (o : Obj) (x : ByteArray), Src Tryz.prog 1 52 (.slice (some ⟨wr.heap.size + 1, 0, none⟩) 1 1) 1 [.string x] ((wr.alloc o).alloc (.cells #[.string x] 9))) := fun o x => by
          have := HS.out (wr.alloc o) x
          rwa [World.size_alloc] at this
        have HE : Hid (∀ (o1 o2 : Obj) (w2 : World) v', Grew ((wr.alloc o1).alloc o2) w2 u3 v' → w.grownBy w2 none) := fun o1 o2 w2 v' hgr => grew_new (grown_alloc (grown_alloc HG.out o1) o2) (H3.out _ (grown_alloc (World.grownBy_alloc wr o1 none) o2)) hgr
        have hm1 : k + 1 ≤ maxLen := by have := HN.out; unfold maxLen; omega
        have hm2 : (k + 1) * 16 ≤ 140737488355328 := by have := HN.out; omega
        generalize R.fs[k] = f at *
        obtain ⟨fn, fo, fc, fb, fw⟩ := f
        simp only at *
        clear hcell hst hg ho
        go_wp2_with (at_builtin; go_must (refine wpList_append_grew _ rfl (.tmp 19) (.tmp 22) 52 52 rfl w.heap.size 9 i0 (.string ⟨#[]⟩) 1 16 Tryz.underlying52 hinf hq0 hq1 hq2 rfl u3 k _ rfl (H3.out _ (grown_alloc (World.grownBy_alloc _ _ _) _)) (.slice (some ⟨wr.heap.size + 1, 0, none⟩) 1 1) 1 [.string (strBD fn)] rfl (HS2.out _ _) hm1 hm2 (by have := HZ.out; simp; omega) ?_; intro v' w' ho' hg'; have hX := HE.out _ _ _ _ hg'))
        exact ⟨⟨k + 1, by omega, by go_num, hX, by rw [HST.out]; exact ho'⟩, by simp [intOf]; omega⟩
      · obtain rfl : k = R.fs.length := by omega
        rw [List.take_length] at ho
        obtain ⟨a4, c4, e4, -⟩ := owns_recsB ho
        subst e4
        have HO : Hid (wr.ownsRow w.heap.size 9 1 (.slice a4 R.fs.length c4) R.fs.length (R.fs.map fun f => .string (strBD f.nm))) := ho
        have HG : Hid (w.grownBy wr none) := hg
        clear ho hg
        go_wp2_with fail
        go_ret
        refine ⟨_, rfl, HG.out, .inl ⟨HOFF.out, ?_⟩⟩
        have e1 : R.abs.L.length = R.fs.length := len_sig _
        have e2 : nameRow R.abs.L = R.fs.map fun f => .string (strBD f.nm) := by
          show (R.fs.map RF.sig).map _ = _
          rw [List.map_map]
          rfl
        rw [e1, e2]
        exact HO.out
  · have HOFF : Hid (R.abs.off = true) := hoff
    rw [hoff] at c3
    clear h1 hF hcap hn
    go_enter Tryz.func18, Tryz.ntmps18
    go_wp2_with fail
    go_ret
    exact ⟨_, rfl, grown_refl _, .inr ⟨HOFF.out, rfl⟩⟩
end Go.Proofs.YtgkdodcidancpaaGreatDoor
namespace Go.Proofs.YtgkdodcidancpaaGreatDoor
open Go.RowKit

set_option maxRecDepth 100000 in
theorem refBeginM_any (w : World) : Calls Tryz.prog 41 #[] w fun e w' => e = .returned (.agg #[.slice none 0 0, .int .i64 1, .int .i64 1]) ∧ Below w.heap.size w w' := by
  have hg : Hid (∀ o : Obj, (w.alloc o).heap[w.heap.size]? = some o) := fun o => heap_alloc_new w o
  go_enter Tryz.func41, Tryz.ntmps41
  go_wp2_with fail
  refine bodyPost_ret (v := .agg #[.slice none 0 0, .int .i64 1, .int .i64 1]) (results_cell_row Tryz.results41 _ _ w.heap.size 39 _ _ _ rfl (hg.out _) Tryz.underlying39 rfl (by kernel_rfl)) rfl ?_
  exact ⟨rfl, (Below.refl _ _).alloc (Nat.le_refl _) _⟩
set_option maxRecDepth 100000 in
set_option maxHeartbeats 1000000 in
theorem refBytesM_bad (ao : Option Addr) (cap : Nat) (m : Mf) (w : World) (h : MSees w ao cap m) (hl : m.ts.length ≤ 1000000) (hg : goodM m = false) :
    Calls Tryz.prog 34 #[mval ao cap m] w fun e w' => e = .returned (.tuple #[.slice none 0 0, .int .i64 2]) ∧ Below w.heap.size w w' := by
  have HB : Hid (Below w.heap.size w (w.alloc (.cells #[.slice ao m.ts.length cap, .int .i64 m.nx, .int .i64 m.fr] 39))) := (Below.refl _ _).alloc (Nat.le_refl _) _
  have hk := Blk.new w [.slice ao m.ts.length cap, .int .i64 m.nx, .int .i64 m.fr] 39
  have c0 := hk.cell 0 rfl
  have c1 := hk.cell 1 rfl
  have c2 := hk.cell 2 rfl
  have CG : Hid (Calls Tryz.prog 65 #[.agg #[.slice ao m.ts.length cap, .int .i64 m.nx, .int .i64 m.fr]] (w.alloc (.cells #[.slice ao m.ts.length cap, .int .i64 m.nx, .int .i64 m.fr] 39)) fun e w' => e = .returned (.bool false) ∧ Below w.heap.size w w') := by
    have := refGoodM_any ao cap m _ (h.below HB.out (Nat.le_refl _)) hl
    rw [hg] at this
    exact this.mono fun e w' hh => ⟨hh.1, HB.out.trans (hh.2.mono HB.out.size)⟩
  clear h hl hg hk
  unfold mval
  go_enter Tryz.func34, Tryz.ntmps34
  go_wp2_with fail
  go_fit CG.out
  rintro e w2 ⟨rfl, hB⟩
  have HB2 : Hid (Below w.heap.size w w2) := hB
  clear hB
  go_wp2_with fail
  go_ret2
  exact ⟨rfl, HB2.out⟩
set_option maxRecDepth 100000 in
set_option maxHeartbeats 2000000 in
theorem refBytesM_ok (ao : Option Addr) (cap : Nat) (m : Mf) (w : World) (h : MSees w ao cap m) (hg : goodM m = true) :
    Calls Tryz.prog 34 #[mval ao cap m] w fun e w' => ∃ a5 c5, e = .returned (.tuple #[.slice a5 (encM m).length c5, .int .i64 0]) ∧ Sees w' a5 (encM m) ∧ (a5 = none → (encM m).length = 0) ∧ Below w.heap.size w w' := by
  have hl30 := (goodM_iff.1 hg).2.2.1
  have HB : Hid (Below w.heap.size w (w.alloc (.cells #[.slice ao m.ts.length cap, .int .i64 m.nx, .int .i64 m.fr] 39))) := (Below.refl _ _).alloc (Nat.le_refl _) _
  have hk := Blk.new w [.slice ao m.ts.length cap, .int .i64 m.nx, .int .i64 m.fr] 39
  have c0 := hk.cell 0 rfl
  have c1 := hk.cell 1 rfl
  have c2 := hk.cell 2 rfl
  have CG : Hid (Calls Tryz.prog 65 #[.agg #[.slice ao m.ts.length cap, .int .i64 m.nx, .int .i64 m.fr]] (w.alloc (.cells #[.slice ao m.ts.length cap, .int .i64 m.nx, .int .i64 m.fr] 39)) fun e w' => e = .returned (.bool true) ∧ Below w.heap.size w w' ∧ Blk w' w.heap.size [.slice ao m.ts.length cap, .int .i64 m.nx, .int .i64 m.fr] 39) := by
    have := refGoodM_any ao cap m _ (h.below HB.out (Nat.le_refl _)) (by omega)
    rw [hg] at this
    exact this.mono fun e w' hh => ⟨hh.1, HB.out.trans (hh.2.mono HB.out.size), hk.carry (hh.2.block _ hk.lt)⟩
  have hbd := good_bdd hg
  have hLl : (listM m).length = m.ts.length + 3 := by simp [listM]
  have HT : ∀ k, k < (listM m).length → ∃ u : Nat, u ≤ 999999999 ∧ (listM m).getD k 0 = (u : Int) ∧ numsB ((listM m).take (k + 1)) = numsB ((listM m).take k) ++ numL u := fun k hk => by
    have hmem : (listM m).getD k 0 ∈ listM m := by rw [List.getD_eq_getElem?_getD, List.getElem?_eq_getElem hk]; exact List.getElem_mem hk
    have := hbd _ hmem
    exact ⟨((listM m).getD k 0).toNat, by omega, by omega, numsB_take _ k hk⟩
  have HLn : ∀ k, (numsB ((listM m).take k)).length ≤ 330 := fun k => by have := numsB_lenT (listM m) k; omega
  /- one number more -/
  have CP : Hid (∀ (k u : Nat) (a : Option Addr) (c : Nat) (x : World), k < (listM m).length → (listM m).getD k 0 = (u : Int) → Below w.heap.size w x → Sees x a (numsB ((listM m).take k)) → (a = none → (numsB ((listM m).take k)).length = 0) → Calls Tryz.prog 66 #[.slice a (numsB ((listM m).take k)).length c, .int .u64 (u : Int)] x fun e w' => ∃ a5 c5, e = .returned (.slice a5 (numsB ((listM m).take (k + 1))).length c5) ∧ Sees w' a5 (numsB ((listM m).take (k + 1))) ∧ (a5 = none → (numsB ((listM m).take (k + 1))).length = 0) ∧ Below x.heap.size x w') := fun k u a c x hk hu hx hs hn => by
    obtain ⟨u', hu1, hu2, hu3⟩ := HT k hk
    obtain rfl : u = u' := by omega
    refine (refPut_any a _ c u x hs hn (by have := HLn k; omega) (by omega)).mono ?_
    rintro e w' ⟨v', rfl, ho, hb⟩
    rw [← hu3] at ho
    obtain ⟨a5, c5, rfl, s5, l5, n5⟩ := owns_sees ho
    rw [← l5] at n5 ⊢
    exact ⟨a5, c5, rfl, s5, fun e => (n5 e).1, hb⟩
  have HE : Hid (encM m = frameL (numsB ((listM m).take (m.ts.length + 3)))) := by show _ = _; rw [← hLl, List.take_length]; rfl
  have CF : Hid (∀ (a : Option Addr) (c : Nat) (x : World), Below w.heap.size w x → Sees x a (numsB ((listM m).take (m.ts.length + 3))) → (a = none → (numsB ((listM m).take (m.ts.length + 3))).length = 0) → Calls Tryz.prog 67 #[.slice a (numsB ((listM m).take (m.ts.length + 3))).length c] x fun e w' => ∃ a5 c5, e = .returned (.slice a5 (encM m).length c5) ∧ Sees w' a5 (encM m) ∧ (a5 = none → (encM m).length = 0) ∧ Below w.heap.size w w') := fun a c x hx hs hn => by
    refine (refFrame_any a _ c x (by have := HLn (m.ts.length + 3); omega) hs hn).mono ?_
    rintro e w' ⟨v', rfl, ho, hb⟩
    rw [← HE.out] at ho
    obtain ⟨a5, c5, rfl, s5, l5, n5⟩ := owns_sees ho
    rw [← l5] at n5 ⊢
    exact ⟨a5, c5, rfl, s5, fun e => (n5 e).1, hx.trans (hb.mono hx.size)⟩
  obtain ⟨nu, -, hn0, -⟩ := HT 0 (by omega)
  obtain ⟨fu, -, hf0, -⟩ := HT 1 (by omega)
  have hn1 : m.nx = (nu : Int) := hn0
  have hf1 : m.fr = (fu : Int) := hf0
  have hnb := hbd m.nx (by simp [listM])
  have hfb := hbd m.fr (by simp [listM])
  have HV : Hid (∀ i, i < m.ts.length → ∃ u : Nat, u ≤ 999999999 ∧ m.ts.getD i 0 = (u : Int) ∧ (listM m).getD (i + 3) 0 = (u : Int)) := fun i hi => by
    obtain ⟨u, h1, h2, _⟩ := HT (i + 3) (by omega)
    exact ⟨u, h1, h2, h2⟩
  have HSe : Hid (∀ x, Below w.heap.size w x → ∀ i, i < m.ts.length → ∃ b off, ao = some ⟨b, off, none⟩ ∧ x.cell? ⟨b, off + i, none⟩ = some (.int .i64 (m.ts.getD i 0))) := fun x hx i hi => by
    obtain ⟨b, off, e, hc⟩ := isees_at (h.see.below hx (Nat.le_refl _)) (by omega)
    exact ⟨b, off, e, hc i hi⟩
  obtain ⟨ts, nx, fr⟩ := m
  dsimp only at *
  subst hn1 hf1
  have P0 := CP.out 0 nu none 0
  have P1 := CP.out 1 fu
  have P2 := CP.out 2 ts.length
  have g2 : (listM ⟨ts, (nu : Int), (fu : Int)⟩).getD 2 0 = ((ts.length : Nat) : Int) := rfl
  unfold mval
  dsimp only
  generalize listM ⟨ts, (nu : Int), (fu : Int)⟩ = L at *
  generalize encM ⟨ts, (nu : Int), (fu : Int)⟩ = E at *
  clear h hg hk hbd HT HLn
  have hti : (ts.length : Int) ≤ 30 := by omega
  have hnui : (nu : Int) ≤ 999999999 := by omega
  have hfui : (fu : Int) ≤ 999999999 := by omega
  have e00 : (numsB (L.take 0)).length = 0 := rfl
  go_enter Tryz.func34, Tryz.ntmps34
  go_wp2_with fail
  go_fit CG.out
  rintro e w2 ⟨rfl, hB2, hk2⟩
  have e0 := hk2.cell 0 rfl
  have e1 := hk2.cell 1 rfl
  have e2 := hk2.cell 2 rfl
  have Q := P0 w2 (by omega) hn0 hB2 (Sees.nil _ _) (fun _ => rfl)
  rw [e00] at Q
  clear P0 CG
  go_wp2_with fail
  go_fit Q
  rintro e w3 ⟨a3, c3, rfl, s3, n3, hB3⟩
  have hk3 := hk2.carry (hB3.block _ hk2.lt)
  have hB3' : Below w.heap.size w w3 := hB2.trans (hB3.mono hB2.size)
  have Q2 := P1 a3 c3 w3 (by omega) hf0 hB3' s3 n3
  clear Q P1 e0 e1 e2 s3 n3 hB3 hk2 hB2
  have e0 := hk3.cell 0 rfl
  have e1 := hk3.cell 1 rfl
  have e2 := hk3.cell 2 rfl
  go_wp2_with fail
  go_fit Q2
  rintro e w4 ⟨a4, c4, rfl, s4, n4, hB4⟩
  have hk4 := hk3.carry (hB4.block _ hk3.lt)
  have hB4' : Below w.heap.size w w4 := hB3'.trans (hB4.mono hB3'.size)
  have Q3 := P2 a4 c4 w4 (by omega) g2 hB4' s4 n4
  clear Q2 P2 e0 e1 e2 s4 n4 hB4 hk3 hB3'
  have e0 := hk4.cell 0 rfl
  go_wp2_with fail
  go_fit Q3
  rintro e w5 ⟨a5, c5, rfl, s5, n5, hB5⟩
  have hk5 := hk4.carry (hB5.block _ hk4.lt)
  have hB5' : Below w.heap.size w w5 := hB4'.trans (hB5.mono hB4'.size)
  clear Q3 e0 hB5 hk4 hB4'
  have e0 := hk5.cell 0 rfl
  have HS5 : Hid (Sees w5 a5 (numsB (L.take 3)) ∧ (a5 = none → (numsB (L.take 3)).length = 0) ∧ Below w.heap.size w w5) := ⟨s5, n5, hB5'⟩
  clear s5 n5 hB5' hk5
  go_wp2_with fail
  go_loopw [28, 4] (fun i s wr => ∃ (k : Nat) (a : Option Addr) (c : Nat), k ≤ ts.length ∧ i = .int .i64 (k : Int) ∧ s = .slice a (numsB (L.take (k + 3))).length c ∧ Sees wr a (numsB (L.take (k + 3))) ∧ (a = none → (numsB (L.take (k + 3))).length = 0) ∧ Below w.heap.size w wr) (fun i _ _ => ts.length - (intOf i).toNat)
  case atStart => exact ⟨0, a5, c5, Nat.zero_le _, rfl, rfl, HS5.out.1, HS5.out.2.1, HS5.out.2.2⟩
  case round =>
    clear HS5
    obtain ⟨k, a, c, hk, rfl, rfl, hs, hn, hBr⟩ := hrel
    rcases Nat.lt_or_ge k ts.length with hlt | hge
    · obtain ⟨u, hu, hx, hx2⟩ := HV.out k hlt
      obtain ⟨b, off, rfl, d1⟩ := HSe.out wr hBr k hlt
      rw [hx] at d1
      have Q := CP.out (k + 3) u a c wr (by omega) hx2 hBr hs hn
      have hlti : (k : Int) < (ts.length : Int) := by omega
      have hui : (u : Int) ≤ 999999999 := by omega
      have HBr : Hid (Below w.heap.size w wr) := hBr
      clear hs hn hBr hx hx2 hu
      generalize (numsB (L.take (k + 3))).length = nn at *
      go_wp2_with fail
      go_fit Q
      rintro e w6 ⟨a6, c6, rfl, s6, n6, hB6⟩
      have HR : Hid (Sees w6 a6 (numsB (L.take (k + 3 + 1))) ∧ (a6 = none → (numsB (L.take (k + 3 + 1))).length = 0) ∧ Below w.heap.size w w6) := ⟨s6, n6, HBr.out.trans (hB6.mono HBr.out.size)⟩
      clear s6 n6 hB6 Q
      go_wp2_with fail
      go_roundw
      case rel => exact ⟨k + 1, a6, c6, by omega, by go_num, by rw [show k + 1 + 3 = k + 3 + 1 by omega], by rw [show k + 1 + 3 = k + 3 + 1 by omega]; exact HR.out.1, by rw [show k + 1 + 3 = k + 3 + 1 by omega]; exact HR.out.2.1, HR.out.2.2⟩
      case measure => (simp [intOf]; try omega)
    · obtain rfl : ts.length = k := by omega
      have Q := CF.out a c wr hBr hs hn
      clear hs hn hBr
      generalize (numsB (L.take (ts.length + 3))).length = nn at *
      go_wp2_with fail
      go_fit Q
      rintro e w7 ⟨a7, c7, rfl, hq⟩
      go_wp2_with fail
      go_ret2
      exact ⟨_, _, rfl, hq⟩
end Go.Proofs.YtgkdodcidancpaaGreatDoor

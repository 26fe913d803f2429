/-
  THE DOCUMENT'S DISK: Append.
-/
import Derived.Test.YtgkdodcidancpaaGreatDoorMany28
namespace Go.Proofs.YtgkdodcidancpaaGreatDoor
open Go.RowKit Go.Maps Go.WideAt Go.WideShapes
attribute [local go_sem] Oper.pureAt Oper.pureUpon
attribute [local irreducible] wpQuiet

theorem owns_recsB {w : World} {base n : Nat} {xs : List Value} {v : Value} {e : TypeId} {k : Nat} (h : w.ownsRow base e k v n xs) : ∃ ao cap, v = .slice ao n cap ∧ n ≤ cap := by
  rcases h.2 with ⟨rfl, rfl⟩ | ⟨g, cap, cur, rfl, hb, hg, hn, _⟩
  · exact ⟨none, 0, rfl, Nat.le_refl _⟩
  · exact ⟨_, cap, rfl, hn⟩
set_option maxRecDepth 100000 in
set_option maxHeartbeats 2400000 in
theorem ra_Append {w : World} {r : Nat} {Q : RA} {fr : List Nat} (h : RAt r Q fr w) (hF : Q.Fit) (s : ByteArray) (hs : s.size ≤ maxLen) (ao : Option Addr) (l : List UInt8) (c : Nat) (hb : Sees w ao l) (hz0 : ao = none → l.length = 0) (hne : ∀ a, ao = some a → 0 < l.length → a.block ∉ fr) (hl : l.length ≤ 1099511627776)
    (hF2 : ∀ t, findT Q.L (nameOf s) = some t → lackQ Q t l = false → (appQ Q (nameOf s) t l).Fit) :
    Calls Tryz.prog 69 #[.pointer (some ⟨r, 0, none⟩), .string s, .slice ao l.length c] w (ROut r fr w (appendQ Q s l)) := by
  obtain ⟨R, h1, rfl, rfl, hcap⟩ := h
  have hn : R.fs.length ≤ 1000000 := by have := hF.few; rwa [show R.abs.L.length = R.fs.length from len_sig _] at this
  have G : Hid (∀ w, Calls Tryz.prog 71 #[.string s] w fun e w' => e = .returned (.bool (goodB (nameOf s))) ∧ w' = w) := fun w => refGood_any s w hs
  have T : Hid (∀ wx, Below w.heap.size w wx → Calls Tryz.prog 73 #[.pointer (some ⟨r, 0, none⟩)] wx fun x w' => x = .returned (.bool (decide (R.fail = 1))) ∧ RefAt w' r (turnR R).2 ∧ Moved wx w' (R.foot r) ((turnR R).2.foot r)) := fun wx hb => ref_turn (h1.cl hb) hF.ops hF.fail
  have A : Hid (Calls Tryz.prog 72 #[.pointer (some ⟨r, 0, none⟩), .string s] w fun x w' => x = .returned (.int .i64 (atI R.fs (nameOf s))) ∧ w' = w) := ref_at h1 hn s
  have H1 : Hid (RefAt w r R) := h1
  have HF : Hid R.abs.Fit := hF
  have HF2 : Hid (∀ t, findT (R.fs.map RF.sig) (nameOf s) = some t → lackQ R.abs t l = false → (appQ R.abs (nameOf s) t l).Fit) := hF2
  have HC : Hid (CapOk R.fs) := hcap
  have HQ : Hid (appendQ R.abs s l = if R.off then ((9 : Int), R.abs) else if goodB (nameOf s) then
    (match findT (R.fs.map RF.sig) (nameOf s) with
    | none => ((4 : Int), R.abs)
    | some t => if lackQ R.abs t l then ((7 : Int), R.abs) else if R.fail = 1 then ((9 : Int), crashQ (appQ R.abs (nameOf s) t l) R.keep) else ((0 : Int), appQ R.abs (nameOf s) t l))
    else ((3 : Int), R.abs)) := rfl
  generalize hq : appendQ R.abs s l = q at *
  clear hq hF2
  have c3 := h1.c3
  cases hoff : R.off
  · rw [hoff] at c3 HQ
    cases hgd : goodB (nameOf s)
    · rw [hgd] at G HQ
      clear h1 hF hcap hs hn hb hz0 hne
      go_enter Tryz.func69, Tryz.ntmps69
      go_wp2_with fail
      refine (G.out _).mono ?_
      rintro x _ ⟨rfl, hw⟩
      obtain rfl := hw.symm
      go_wp2_with fail
      go_ret
      rw [HQ.out]
      exact ⟨rfl, _, ⟨R, H1.out, rfl, rfl, HC.out⟩, Moved.refl _ _⟩
    · rw [hgd] at G HQ
      rcases at_cases R.fs (nameOf s) with ⟨e1, e2⟩ | ⟨i, f, e1, e2, e3, e4⟩
      · rw [e2] at HQ
        rw [e1] at A
        clear h1 hF hcap hs hn hb hz0 hne e1 e2
        go_enter Tryz.func69, Tryz.ntmps69
        go_wp2_with fail
        refine (G.out _).mono ?_
        rintro x _ ⟨rfl, hw⟩
        obtain rfl := hw.symm
        go_wp2_with fail
        refine A.out.mono ?_
        rintro x _ ⟨rfl, hw⟩
        obtain rfl := hw.symm
        go_wp2_with fail
        go_ret
        rw [HQ.out]
        exact ⟨rfl, _, ⟨R, H1.out, rfl, rfl, HC.out⟩, Moved.refl _ _⟩
      · rw [e4] at HQ
        rw [e1] at A
        have hUs : usedF R.fs = usedT (R.fs.map RF.sig) := usedF_sig _
        have U : Hid (∀ p : Cl w.heap.size w, Calls Tryz.prog 101 #[.pointer (some ⟨r, 0, none⟩)] p.u fun x w' => x = .returned (.int .i64 (usedT (R.fs.map RF.sig) : Int)) ∧ Below p.u.heap.size p.u w') := fun p => by
          have := ref_used (h1.cl p.h) hn (by rw [hUs]; exact hF.used)
          rw [hUs] at this
          exact this.mono fun _ _ hh => ⟨hh.1, below_of_grown hh.2⟩
        have hmem : f ∈ R.fs := List.mem_of_getElem? e2
        have hil : i < R.fs.length := (List.getElem?_eq_some_iff.1 e2).1
        have hbl : f.bs.length ≤ 1099511627776 := hF.len f.sig (List.mem_map.2 ⟨f, hmem, rfl⟩)
        obtain ⟨S1v, hS1⟩ : ∃ z, secI ((f.bs.length : Int) + (l.length : Int)) = z := ⟨_, rfl⟩
        obtain ⟨S2v, hS2⟩ : ∃ z, secI (f.bs.length : Int) = z := ⟨_, rfl⟩
        have S1 : Hid (∀ p : Cl w.heap.size w, Calls Tryz.prog 102 #[.int .i64 ((f.bs.length : Int) + (l.length : Int))] p.u fun x w' => x = .returned (.int .i64 S1v) ∧ Below p.u.heap.size p.u w') := fun p => by
          have := refSectors_num ((f.bs.length : Int) + (l.length : Int)) p.u (by omega) (by omega)
          rw [hS1] at this
          exact this.mono fun _ _ hh => ⟨hh.1, by rw [hh.2]; exact Below.refl _ _⟩
        have S2 : Hid (∀ p : Cl w.heap.size w, Calls Tryz.prog 102 #[.int .i64 (f.bs.length : Int)] p.u fun x w' => x = .returned (.int .i64 S2v) ∧ Below p.u.heap.size p.u w') := fun p => by
          have := refSectors_num (f.bs.length : Int) p.u (by omega) (by omega)
          rw [hS2] at this
          exact this.mono fun _ _ hh => ⟨hh.1, by rw [hh.2]; exact Below.refl _ _⟩
        have s1z : 0 ≤ S1v ∧ S1v ≤ 2199023255552 := by rw [← hS1]; unfold secI; split <;> omega
        have s2z : 0 ≤ S2v ∧ S2v ≤ 2199023255552 := by rw [← hS2]; unfold secI; split <;> omega
        have HLK : Hid (lackQ R.abs f.sig l = decide ((R.room : Int) - (usedT (R.fs.map RF.sig) : Int) < S1v - S2v)) := by
          show _ = _
          rw [← hS1, ← hS2]
          rfl
        obtain ⟨aL, cL, hvL, hcL, hfc⟩ := h1.files
        obtain ⟨g, rfl, hg, m0, m1, m2⟩ := hfc i f e2
        have hrl := h1.head.lt
        have c1 := h1.c1
        rw [hvL] at c1
        have q0 : ∀ q : Cl w.heap.size w, q.u.cell? ⟨r, 0, none⟩ = some (.int .i64 (R.room : Int)) := fun q => q.cell hrl h1.c0
        have hrz : (R.room : Int) ≤ 1073741824 := by have := hF.room; have e : R.abs.room = R.room := rfl; omega
        have huz : (usedT (R.fs.map RF.sig) : Int) ≤ 1099511627776 := by have := hF.used; have e : R.abs.L = R.fs.map RF.sig := rfl; rw [e] at this; omega
        have hilz : (i : Int) < (R.fs.length : Int) := by omega
        have hi0 : ¬ (i : Int) < 0 := by omega
        have hnz : (R.fs.length : Int) ≤ 1000000 := by omega
        have hlz : (l.length : Int) ≤ 1099511627776 := by omega
        have hblz : (f.bs.length : Int) ≤ 1099511627776 := by omega
        have hso : (R.fs.map RF.sig).Pairwise (fun x y => bytesBefore x.nm y.nm = true) := hF.sorted
        have HN : Hid (R.fs.length ≤ 1000000) := hn
        have HFI : Hid (R.fs[i]? = some f ∧ f.nm = nameOf s ∧ f ∈ R.fs ∧ findT (R.fs.map RF.sig) (nameOf s) = some f.sig) := ⟨e2, e3, hmem, e4⟩
        have HSO : Hid ((R.fs.map RF.sig).Pairwise (fun x y => bytesBefore x.nm y.nm = true)) := hso
        have HVL : Hid (R.vL = .slice (some ⟨g, 0, none⟩) R.fs.length cL) := hvL
        have HB : Hid (Sees w ao l ∧ (ao = none → l.length = 0) ∧ ∀ a, ao = some a → 0 < l.length → a.block ∉ R.foot r) := ⟨hb, hz0, hne⟩
        have HFL : Hid (f.bs.length ≤ 1099511627776 ∧ l.length ≤ 1099511627776) := ⟨hbl, hl⟩
        haveI := Cl.inh w.heap.size w
        generalize usedT (R.fs.map RF.sig) = ud at *
        clear h1 hF hcap hs hn hb hz0 hne hUs hvL hcL hfc hg m0 m2 hrl e1 e2 e3 e4 hso hbl hl hS1 hS2 hmem hil
        obtain ⟨fb, hfb⟩ : ∃ n, f.bs.length = n := ⟨_, rfl⟩
        obtain ⟨ln, hln⟩ : ∃ n, l.length = n := ⟨_, rfl⟩
        have HFB : Hid (f.bs.length = fb ∧ l.length = ln) := ⟨hfb, hln⟩
        rw [hfb] at m1 hblz S1 S2
        rw [hln] at hlz S1
        rw [hln]
        clear hfb hln
        go_enter Tryz.func69, Tryz.ntmps69
        go_wp2_with fail
        refine (G.out _).mono ?_
        rintro x _ ⟨rfl, hw⟩
        obtain rfl := hw.symm
        go_wp2_with fail
        refine A.out.mono ?_
        rintro x _ ⟨rfl, hw⟩
        obtain rfl := hw.symm
        go_wp2_with fail
        go_cut [49] from 34 to 50 (fun s49 wx => s49 = .bool (lackQ R.abs f.sig l) ∧ Below w.heap.size w wx)
        case rest =>
          obtain ⟨rfl, hbx⟩ := hcut
          cases hlk : lackQ R.abs f.sig l
          · rw [hlk] at HQ
            have T2 := T.out _ hbx
            obtain ⟨bf, hbf⟩ : ∃ bf, decide (R.fail = 1) = bf := ⟨_, rfl⟩
            have HBF : Hid (decide (R.fail = 1) = bf) := hbf
            rw [hbf] at T2
            have HF3 : Hid (appQ R.abs (nameOf s) f.sig l).Fit := HF2.out f.sig HFI.out.2.2.2 hlk
            have HBX : Hid _ := hbx
            clear q0 hlk hbf T HF2 S1 S2 U HLK G A m1 c1 hbx s1z s2z hrz huz
            go_wp2_with fail
            refine T2.mono ?_
            rintro x w1 ⟨rfl, h2, hM⟩
            clear T2
            obtain ⟨aL', cL', hvL', hcL', hfc⟩ := h2.files
            have hvLe : (turnR R).2.vL = R.vL := rfl
            rw [hvLe, HVL.out] at hvL'
            cases hvL'
            obtain ⟨_, e9, hg, m0, m1, m2⟩ := hfc i f HFI.out.1
            cases e9
            have hgl := (h2.rowL.lt g hg).2
            have hrl := h2.head.lt
            have c1 := h2.c1
            rw [hvLe, HVL.out] at c1
            rw [HFB.out.1] at m1
            have H2 : Hid (RefAt w1 r (turnR R).2) := h2
            have HM : Hid _ := hM
            have HCl : Hid (∀ u : World, Below w1.heap.size w1 u → ∃ p : Cl w1.heap.size w1, u = p.u) := fun u hu => ⟨⟨u, hu⟩, rfl⟩
            have HB0 : Hid (Below w1.heap.size w1 w1.drew) := (Below.refl _ w1).drew
            have HB1 : Hid (Below w1.heap.size w1 (w1.drew.alloc (.cells #[] 5))) := HB0.out.alloc (Nat.le_refl _) _
            have q1 : ∀ q : Cl w1.heap.size w1, q.u.cell? ⟨r, 1, none⟩ = some (.slice (some ⟨g, 0, none⟩) R.fs.length cL) := fun q => q.cell hrl c1
            have q2 : ∀ q : Cl w1.heap.size w1, q.u.cell? ⟨g, i * 3 + 1, none⟩ = some (.slice f.ao fb f.cap) := fun q => q.cell hgl m1
            -- the two appends
            obtain ⟨j0, hinf8, hq80, hq81, hq82⟩ := info_parts info8D
            have hsf : Sees (w1.drew.alloc (.cells #[] 5)) f.ao f.bs := (h2.sees f HFI.out.2.2.1).below HB1.out (Nat.le_refl _)
            have hzf : f.ao = none → f.bs.length = 0 := h2.zero f HFI.out.2.2.1
            obtain ⟨v2, w2, hr2, ho2, hg2⟩ := run_append_grew (P := Tryz.prog) (w1.drew.alloc (.cells #[] 5)) w1.heap.size 58 58 58 5 j0 (.int .u8 0) 1 1 Tryz.underlying58 hinf8 hq80 hq81 hq82 rfl (.slice (some ⟨w1.heap.size, 0, none⟩) 0 0) 0 [] (row08 w1.drew) (.slice f.ao f.bs.length f.cap) f.bs.length (B8 f.bs) (src_sees Tryz.underlying58 hsf hzf f.cap) (by have := HFL.out.1; unfold maxLen; omega) (by have := HFL.out.1; omega) HB1.out.size
            have hB2 : Below w1.heap.size w1 w2 := HB1.out.trans (hg2.below HB1.out.size (fun k hk => by cases hk; exact Nat.le_refl _))
            have hsl : Sees w2 ao l := by
              refine (HB.out.1).kept fun a ha h0 => ?_
              have hal : a.block < w.heap.size := by
                obtain ⟨a', ea, hc⟩ := HB.out.1 0 h0
                rw [ha] at ea
                obtain rfl := Option.some.inj ea
                have := World.block_lt_of_cell? _ _ hc
                rwa [Addr.add_block] at this
              have e1 := HBX.out.block a.block hal
              have e2 := hM.kept a.block (Nat.lt_of_lt_of_le hal HBX.out.size) (HB.out.2.2 a ha h0)
              have e3 := hB2.block a.block (Nat.lt_of_lt_of_le hal (Nat.le_trans HBX.out.size hM.size))
              rw [e3, e2, e1]
            obtain ⟨v3, w3, hr3, ho3, hg3⟩ := run_append_grew (P := Tryz.prog) w2 w1.heap.size 58 58 58 5 j0 (.int .u8 0) 1 1 Tryz.underlying58 hinf8 hq80 hq81 hq82 rfl v2 _ _ ho2 (.slice ao l.length c) l.length (B8 l) (src_sees Tryz.underlying58 hsl HB.out.2.1 c) (by have := HFL.out; unfold maxLen; omega) (by have := HFL.out; omega) hB2.size
            have hB3 : Below w1.heap.size w1 w3 := hB2.trans (hg3.below hB2.size (fun k hk => (ho2.lt k hk).1))
            have ho3' : w3.ownsRow w1.heap.size 5 1 v3 (f.bs.length + l.length) (B8 (f.bs ++ l)) := by
              rw [B8_append]
              simpa using ho3
            obtain ⟨a2, c2, e2, -⟩ := owns_recsB ho2
            obtain ⟨a3, cp3, rfl, hs3, hl3, hc3, hz3, hown3⟩ := owns_seesR ho3'
            subst e2
            rw [HFB.out.1, Nat.zero_add] at hr2 hr3
            rw [HFB.out.2] at hr3
            have hP := h2.putFile (wr := w3) ⟨hB3.os, hB3.tape, hB3.output, hB3.size, fun k hk _ => hB3.block k hk⟩ (i := i) (f := f) HFI.out.1 (g := g) (c := cL) (by rw [hvLe, HVL.out]; rfl) 1 (by omega) (.slice a3 (f.bs.length + l.length) cp3) ⟨f.nm, a3, cp3, f.bs ++ l, f.wr⟩ (by simp [RF.cells]) hs3 (fun e => by have := hz3 e; simp only [List.length_append]; omega) (fun k hk => .inr (by
              simp only [RF.blk, List.mem_map, Option.mem_toList] at hk
              obtain ⟨a, ha, rfl⟩ := hk
              exact ho3'.lt _ (hown3 a ha)))
            rw [HFB.out.1, HFB.out.2] at hP
            have hHR : Hid (RefAt (w3.setCell ⟨g, i * 3 + 1, none⟩ (.slice a3 (fb + ln) cp3)) r { (turnR R).2 with fs := R.fs.set i ⟨f.nm, a3, cp3, f.bs ++ l, f.wr⟩ } ∧ Moved w1 (w3.setCell ⟨g, i * 3 + 1, none⟩ (.slice a3 (fb + ln) cp3)) ((turnR R).2.foot r) (({ (turnR R).2 with fs := R.fs.set i ⟨f.nm, a3, cp3, f.bs ++ l, f.wr⟩ } : RM).foot r)) := hP
            have hcapn : Hid (CapOk (R.fs.set i ⟨f.nm, a3, cp3, f.bs ++ l, f.wr⟩)) := fun x hx => (List.mem_or_eq_of_mem_set hx).elim (fun h => HC.out x h) (fun e => by subst e; show (f.bs ++ l).length ≤ cp3; rw [List.length_append]; exact hc3)
            rw [HFB.out.1, HFB.out.2] at hc3
            have z1 : w3.cell? ⟨g, i * 3 + 1, none⟩ = some (.slice f.ao fb f.cap) := (World.cell?_of_block (a := ⟨g, i * 3 + 1, none⟩) (hB3.block g hgl)).trans m1
            have z2 : w3.frozen? ⟨g, i * 3 + 1, none⟩ = false := by
              have hr := owns_up h2.rowL (w' := w3) ⟨hB3.os, hB3.tape, hB3.output, hB3.size, fun k hk _ => hB3.block k hk⟩
              rw [hvLe, HVL.out] at hr
              exact owns_frozen hr _
            have HB2 : Hid (Below w1.heap.size w1 w2) := hB2
            have HB3 : Hid (Below w1.heap.size w1 w3) := hB3
            have HR2 : Hid _ := hr2
            have HR3 : Hid _ := hr3
            haveI := Cl.inh w1.heap.size w1
            clear h2 hM hP ho2 ho3 ho3' hg2 hg3 hB2 hB3 hsf hzf hsl hs3 hl3 hz3 hown3 m0 m1 m2 hfc hg hgl hrl c1 hcL' hr2 hr3
            go_wp2_with fail
            refine wp_region_C (fun u => ∃ p : Cl w1.heap.size w1, u = p.u) 19 _ (by kernel_rfl) ?reg (fun _ _ h => h)
            refine anyC_pure 0 rfl (by kernel_rfl) (by kernel_rfl) (by kernel_rfl) (HCl.out _ HB0.out) (fun K hK => ?_)
            go_simp
            refine hK _ ?_
            clear hK K
            refine anyC_pure 1 rfl (by kernel_rfl) (by kernel_rfl) (by kernel_rfl) (HCl.out _ HB0.out) (fun K hK => ?_)
            go_simp
            refine hK _ ?_
            clear hK K
            refine anyC_pure 2 rfl (by kernel_rfl) (by kernel_rfl) (by kernel_rfl) (HCl.out _ HB0.out) (fun K hK => ?_)
            go_simp
            refine hK _ ?_
            clear hK K
            refine anyC_pure 3 rfl (by kernel_rfl) (by kernel_rfl) (by kernel_rfl) (HCl.out _ HB0.out) (fun K hK => ?_)
            go_simp
            refine hK _ ?_
            clear hK K
            refine anyC_pure 4 rfl (by kernel_rfl) (by kernel_rfl) (by kernel_rfl) (HCl.out _ HB0.out) (fun K hK => ?_)
            go_simp
            refine hK _ ?_
            clear hK K
            refine anyC_pure 6 rfl (by kernel_rfl) (by kernel_rfl) (by kernel_rfl) (HCl.out _ HB0.out) (fun K hK => ?_)
            go_simp
            refine hK _ ?_
            clear hK K
            refine anyC_pure 7 rfl (by kernel_rfl) (by kernel_rfl) (by kernel_rfl) (HCl.out _ HB0.out) (fun K hK => ?_)
            go_simp
            refine hK _ ?_
            clear hK K
            refine anyC_pure 8 rfl (by kernel_rfl) (by kernel_rfl) (by kernel_rfl) (HCl.out _ HB0.out) (fun K hK => ?_)
            go_simp
            refine hK _ ?_
            clear hK K
            refine anyC_pure 9 rfl (by kernel_rfl) (by kernel_rfl) (by kernel_rfl) (HCl.out _ HB0.out) (fun K hK => ?_)
            go_simp
            refine hK _ ?_
            clear hK K
            refine anyC_pure 10 rfl (by kernel_rfl) (by kernel_rfl) (by kernel_rfl) (HCl.out _ HB0.out) (fun K hK => ?_)
            go_simp
            refine hK _ ?_
            clear hK K
            refine anyC_pure 11 rfl (by kernel_rfl) (by kernel_rfl) (by kernel_rfl) (HCl.out _ HB0.out) (fun K hK => ?_)
            go_simp
            refine hK _ ?_
            clear hK K
            refine anyC_pure 12 rfl (by kernel_rfl) (by kernel_rfl) (by kernel_rfl) (HCl.out _ HB0.out) (fun K hK => ?_)
            go_simp
            refine hK _ ?_
            clear hK K
            refine anyC_pure 13 rfl (by kernel_rfl) (by kernel_rfl) (by kernel_rfl) (HCl.out _ HB0.out) (fun K hK => ?_)
            go_simp
            refine hK _ ?_
            clear hK K
            refine anyC_pure 15 rfl (by kernel_rfl) (by kernel_rfl) (by kernel_rfl) (HCl.out _ HB0.out) (fun K hK => ?_)
            go_simp
            refine hK _ ?_
            clear hK K
            refine anyC_loud 5 (by kernel_rfl) ?_
            refine lou_of rfl (fun K hK => ?_)
            go_simp
            refine hK _ _ ⟨fun _ => HCl.out _ HB1.out, ?_⟩
            clear hK K
            refine anyC_loud 14 (by kernel_rfl) ?_
            refine lou_append rfl rfl _ _ _ _ rfl _ _ rfl rfl (by exact HR2.out) ?_
            refine ⟨fun _ => HCl.out _ HB2.out, ?_⟩
            refine anyC_loud 16 (by kernel_rfl) ?_
            refine lou_append rfl rfl _ _ _ _ rfl _ _ rfl rfl (by exact HR3.out) ?_
            refine ⟨fun _ => HCl.out _ HB3.out, ?_⟩
            refine anyC_pure 17 rfl (by kernel_rfl) (by kernel_rfl) (by kernel_rfl) (HCl.out _ HB3.out) (fun K hK => ?_)
            go_simp
            refine hK _ ?_
            clear hK K
            refine anyC_pure 18 rfl (by kernel_rfl) (by kernel_rfl) (by kernel_rfl) (HCl.out _ HB3.out) (fun K hK => ?_)
            go_simp
            refine hK _ ?_
            clear hK K
            refine anyC_loud 19 (by kernel_rfl) ?_
            refine lou_of rfl (fun K hK => ?_)
            go_simp
            refine hK _ _ ⟨fun h => absurd rfl h, ?_⟩
            clear hK K
            refine anyC_done (by kernel_rfl) ?_
            have HMM : Hid (Moved w (w3.setCell ⟨g, i * 3 + 1, none⟩ (.slice a3 (fb + ln) cp3)) (R.foot r) (({ (turnR R).2 with fs := R.fs.set i ⟨f.nm, a3, cp3, f.bs ++ l, f.wr⟩ } : RM).foot r)) := (moved_below HBX.out _).trans (HM.out.trans hHR.out.2)
            have HRA : Hid (RefAt (w3.setCell ⟨g, i * 3 + 1, none⟩ (.slice a3 (fb + ln) cp3)) r { (turnR R).2 with fs := R.fs.set i ⟨f.nm, a3, cp3, f.bs ++ l, f.wr⟩ }) := hHR.out.1
            clear z1 z2 q1 q2 HB0 HB1 HB2 HB3 HR2 HR3 HCl hHR HM HBX HB H2 hc3
            generalize w3.setCell ⟨g, i * 3 + 1, none⟩ (.slice a3 (fb + ln) cp3) = w4 at *
            obtain ⟨i1, hinf, hp0, hp1, hp2⟩ := info_of infoPl
            have hlnb : (addTo R.line (nameOf s) fb ln).length ≤ 1000000 := by
              have := HF3.out.line
              have e : (appQ R.abs (nameOf s) f.sig l).line = addTo R.line (nameOf s) f.bs.length l.length := rfl
              rw [e, HFB.out.1, HFB.out.2] at this
              exact this
            have HLN : Hid (∀ k, k ≤ ln → (addTo R.line (nameOf s) fb k).length ≤ 1000000) := fun k hk => Nat.le_trans (addTo_len _ _ _ hk) hlnb
            clear hlnb
            go_wp2_with fail
            go_loopw [10] (fun s10 wx => ∃ (k : Nat) (vN : Value), k ≤ ln ∧ s10 = .int .i64 ((fb + k : Nat) : Int) ∧ RefAt wx r { (turnR R).2 with fs := R.fs.set i ⟨f.nm, a3, cp3, f.bs ++ l, f.wr⟩, vN := vN, line := addTo R.line (nameOf s) fb k } ∧ Moved w wx (R.foot r) (({ (turnR R).2 with fs := R.fs.set i ⟨f.nm, a3, cp3, f.bs ++ l, f.wr⟩, vN := vN, line := addTo R.line (nameOf s) fb k } : RM).foot r)) (fun s10 _ => fb + ln - (intOf s10).toNat)
            case atStart => exact ⟨0, R.vN, Nat.zero_le _, rfl, HRA.out, HMM.out⟩
            case round =>
              obtain ⟨k, vN, hk, rfl, hRk, hMk⟩ := hrel
              have hlk := HLN.out k hk
              have hst := addTo_step R.line (nameOf s) fb k
              obtain ⟨lk, hlke⟩ : ∃ lk, addTo R.line (nameOf s) fb k = lk := ⟨_, rfl⟩
              have HLK2 : Hid (addTo R.line (nameOf s) fb k = lk) := hlke
              rw [hlke] at hRk hMk hlk hst
              clear hlke
              have HRK : Hid (RefAt wr r { (turnR R).2 with fs := R.fs.set i ⟨f.nm, a3, cp3, f.bs ++ l, f.wr⟩, vN := vN, line := lk }) := hRk
              have HMK : Hid (Moved w wr (R.foot r) (({ (turnR R).2 with fs := R.fs.set i ⟨f.nm, a3, cp3, f.bs ++ l, f.wr⟩, vN := vN, line := lk } : RM).foot r)) := hMk
              rcases Nat.lt_or_ge k ln with hlt | hge
              · obtain ⟨j, hj⟩ : ∃ j, fb + k = j := ⟨_, rfl⟩
                rw [hj] at hst ⊢
                obtain ⟨sc, hsc⟩ : ∃ sc, j / 16 = sc := ⟨_, rfl⟩
                have hq1 : (j : Int).tdiv 16 = (sc : Int) := by rw [Int.tdiv_eq_ediv_of_nonneg (by omega)]; omega
                have hjz : (j : Int) < (fb : Int) + (ln : Int) := by omega
                have hjb : (j : Int) ≤ 2199023255552 := by omega
                have hkj : fb + (k + 1) = j + 1 := by omega
                have hjl : j + 1 ≤ fb + ln := by omega
                unfold addN at hst
                rw [hsc] at hst
                have D : Hid (Calls Tryz.prog 103 #[.pointer (some ⟨r, 0, none⟩), .string s, .int .i64 (sc : Int)] wr fun x w' => x = .returned (.bool (dirtyB lk (nameOf s) sc)) ∧ wr.grownBy w' none) := ref_dirty hRk hlk s sc
                have hscz : (sc : Int) ≤ 2199023255552 := by omega
                clear hRk hMk hj hsc HRA HMM
                cases hdb : dirtyB lk (nameOf s) sc
                · rw [hdb] at D hst
                  have HST : Hid (addTo R.line (nameOf s) fb (k + 1) = lk ++ [(nameOf s, sc)]) := hst
                  clear hst hdb
                  go_wp2_with fail
                  refine D.out.mono ?_
                  rintro x w6 ⟨rfl, hg6⟩
                  have h6 := HRK.out.grown hg6
                  obtain ⟨aN, cN, hvN, hcN, -⟩ := h6.lines
                  have c2 := h6.c2
                  have hvN : vN = .slice aN lk.length cN := hvN
                  rw [show ({ (turnR R).2 with fs := R.fs.set i ⟨f.nm, a3, cp3, f.bs ++ l, f.wr⟩, vN := vN, line := lk } : RM).vN = vN from rfl, hvN] at c2
                  have hrow : w6.ownsRow 0 109 2 (.slice aN lk.length cN) lk.length (lk.flatMap plC) := by rw [← hvN]; exact h6.rowN
                  have HROW : Hid (∀ o, (w6.alloc o).ownsRow 0 109 2 (.slice aN lk.length cN) lk.length (lk.flatMap plC)) := fun o => owns_up hrow (World.grownBy_alloc _ _ _)
                  have HSRC : Hid (∀ w1 : World, Src Tryz.prog 2 48 (.slice (some ⟨w1.heap.size, 0, none⟩) 1 1) 1 [.string s, .int .i64 (sc : Int)] (w1.alloc (.cells #[.string s, .int .i64 (sc : Int)] 109))) := fun w1 => src_rec Tryz.underlying48 rfl (Blk.new w1 [.string s, .int .i64 (sc : Int)] _) (fun u hu => by simp at hu; rcases hu with rfl | rfl <;> rfl)
                  have hm6 := HMK.out.trans (Moved.none_of hg6 _)
                  have HEND : Hid (∀ o w7 v7, w7.ownsRow 0 109 2 v7 (lk.length + 1) (lk.flatMap plC ++ [.string s, .int .i64 (sc : Int)]) → Grew (w6.alloc o) w7 (.slice aN lk.length cN) v7 →
                      (∃ a7 c7, v7 = .slice a7 (lk.length + 1) c7) ∧ (∃ u, w7.cell? ⟨r, 2, none⟩ = some u) ∧ w7.frozen? ⟨r, 2, none⟩ = false ∧ RefAt (w7.setCell ⟨r, 2, none⟩ v7) r { (turnR R).2 with fs := R.fs.set i ⟨f.nm, a3, cp3, f.bs ++ l, f.wr⟩, vN := v7, line := lk ++ [(nameOf s, sc)] } ∧
                        Moved w (w7.setCell ⟨r, 2, none⟩ v7) (R.foot r) (({ (turnR R).2 with fs := R.fs.set i ⟨f.nm, a3, cp3, f.bs ++ l, f.wr⟩, vN := v7, line := lk ++ [(nameOf s, sc)] } : RM).foot r)) := fun o w7 v7 ho7 hg7 => by
                    have hg7' := hg7.alloc
                    rw [← hvN] at hg7'
                    have e8 : (lk ++ [(nameOf s, sc)]).flatMap plC = lk.flatMap plC ++ [.string s, .int .i64 (sc : Int)] := by
                      rw [List.flatMap_append]
                      simp [plC, strB_nameOf]
                    obtain ⟨a7, c7, e7, -⟩ := owns_recsB ho7
                    have ho8 : w7.ownsRow 0 109 2 v7 (lk ++ [(nameOf s, sc)]).length ((lk ++ [(nameOf s, sc)]).flatMap plC) := by
                      rw [e8, List.length_append, List.length_singleton]
                      exact ho7
                    have hgr := h6.growLine (l' := lk ++ [(nameOf s, sc)]) ho8 hg7'
                    have hbr : w7.heap[r]? = w6.heap[r]? := hg7'.rows.block r h6.head.lt (fun e => h6.ne2 e.symm)
                    have hbk := h6.head.carry hbr
                    exact ⟨⟨a7, c7, e7⟩, ⟨_, hbk.cell 2 rfl⟩, hbk.frozen 2, hgr.1, hm6.trans hgr.2⟩
                  have hmx : lk.length + 1 ≤ maxLen := by unfold maxLen; omega
                  have hmy : (lk.length + 1) * 24 ≤ 140737488355328 := by omega
                  have hlkz : (lk.length : Int) ≤ 1000000 := by omega
                  clear h6 hvN hrow hm6 hg6 D HRK HMK
                  go_wp2_with (at_builtin; go_must (refine wpList_append_grew _ rfl (.tmp 90) (.tmp 95) 48 48 rfl 0 109 i1 (.agg #[.string ⟨#[]⟩, .int .i64 0]) 2 24 Tryz.underlying48 hinf hp0 hp1 hp2 rfl (.slice aN lk.length cN) lk.length (lk.flatMap plC) rfl (HROW.out _) _ 1 [.string s, .int .i64 (sc : Int)] rfl (HSRC.out _) hmx hmy (Nat.zero_le _) ?_; intro v7 w7 ho7 hg7; obtain ⟨⟨a7, c7, rfl⟩, ⟨u7, z7⟩, z8, hA7, hB7⟩ := HEND.out _ _ _ ho7 hg7; clear ho7 hg7))
                  go_roundw
                  case rel => exact ⟨k + 1, _, by omega, by rw [hkj]; go_num, by rw [HST.out]; exact hA7, by rw [HST.out]; exact hB7⟩
                  case measure => simp [intOf]; omega
                · rw [hdb] at D hst
                  have HST : Hid (addTo R.line (nameOf s) fb (k + 1) = lk) := hst
                  clear hst hdb
                  go_wp2_with fail
                  refine D.out.mono ?_
                  rintro x w6 ⟨rfl, hg6⟩
                  have h6 := HRK.out.grown hg6
                  have hm6 := HMK.out.trans (Moved.none_of hg6 _)
                  have H6 : Hid _ := h6
                  have HM6 : Hid _ := hm6
                  clear h6 hm6 hg6 D HRK HMK
                  go_wp2_with fail
                  go_roundw
                  case rel => exact ⟨k + 1, vN, by omega, by rw [hkj]; go_num, by rw [HST.out]; exact H6.out, by rw [HST.out]; exact HM6.out⟩
                  case measure => simp [intOf]; omega
              · obtain rfl : k = ln := by omega
                have hjz : ¬ ((fb + k : Nat) : Int) < (fb : Int) + (k : Int) := by omega
                have HABS : Hid (({ (turnR R).2 with fs := R.fs.set i ⟨f.nm, a3, cp3, f.bs ++ l, f.wr⟩, vN := vN, line := lk } : RM).abs = appQ R.abs (nameOf s) f.sig l) := by
                  show RA.mk ((R.fs.set i ⟨f.nm, a3, cp3, f.bs ++ l, f.wr⟩).map RF.sig) lk _ _ _ _ _ = _
                  rw [set_sig R.fs i f _ HSO.out HFI.out.1, ← HLK2.out]
                  show RA.mk (upd _ f.nm ⟨f.nm, f.bs ++ l, f.wr, []⟩) _ _ _ _ _ _ = _
                  rw [HFI.out.2.1, ← HFB.out.1, ← HFB.out.2]
                  rfl
                cases bf
                · have hf : ¬ R.fail = 1 := of_decide_eq_false HBF.out
                  rw [if_neg (by simp), if_neg hf] at HQ
                  have HQ2 : Hid (q = (0, appQ R.abs (nameOf s) f.sig l)) := HQ
                  clear HQ hf hst hRk hMk
                  go_wp2_with fail
                  go_ret
                  rw [HQ2.out]
                  exact ⟨rfl, _, ⟨_, HRK.out, HABS.out, rfl, hcapn.out⟩, HMK.out⟩
                · have hf : R.fail = 1 := of_decide_eq_true HBF.out
                  rw [if_neg (by simp), if_pos hf] at HQ
                  have HQ2 : Hid (q = (9, crashQ (appQ R.abs (nameOf s) f.sig l) R.keep)) := HQ
                  have D : Hid (Calls Tryz.prog 74 #[.pointer (some ⟨r, 0, none⟩)] wr (ROut r (({ (turnR R).2 with fs := R.fs.set i ⟨f.nm, a3, cp3, f.bs ++ l, f.wr⟩, vN := vN, line := lk } : RM).foot r) wr (9, crashQ (appQ R.abs (nameOf s) f.sig l) R.keep))) := by
                    have := ref_dies HRK.out hcapn.out hoff HF3.out (by rw [HABS.out]) (by
                      have e : ({ (turnR R).2 with fs := R.fs.set i ⟨f.nm, a3, cp3, f.bs ++ l, f.wr⟩, vN := vN, line := lk } : RM).abs.line = (appQ R.abs (nameOf s) f.sig l).line := by rw [HABS.out]
                      exact e)
                    rw [HABS.out] at this
                    exact this
                  clear HQ hf hst hRk hMk
                  go_wp2_with fail
                  refine D.out.mono ?_
                  rintro x w9 ⟨rfl, fr', h3, hM2⟩
                  go_wp2_with fail
                  go_ret
                  rw [HQ2.out]
                  exact ⟨rfl, fr', h3, HMK.out.trans hM2⟩
          · rw [hlk] at HQ
            clear q0 T HF2 S1 S2 U HLK G A m1 c1
            go_wp2_with fail
            go_ret
            rw [HQ.out]
            exact ⟨rfl, _, ⟨R, H1.out.cl hbx, rfl, rfl, HC.out⟩, moved_below hbx _⟩
        case first =>
          clear HQ T H1 HF HC G HN HF2
          have hwa : IntKind.i64.wrap ((fb : Int) + (ln : Int)) = (fb : Int) + (ln : Int) := by rw [IntKind.wrap_i64]; omega
          have hwb : IntKind.i64.wrap (S1v - S2v) = S1v - S2v := by rw [IntKind.wrap_i64]; omega
          have hwc : IntKind.i64.wrap ((R.room : Int) - (ud : Int)) = (R.room : Int) - (ud : Int) := by rw [IntKind.wrap_i64]; omega
          refine wp_region_cl w.heap.size (by kernel_rfl) (by kernel_rfl) ?_
          quiet_step (fail)
          quiet_step (fail)
          quiet_step (fail)
          quiet_step (fail)
          quiet_step ((go_at_call 102; exact Cl.calls (Nat.le_refl _) (S1.out _)))
          quiet_step (fail)
          quiet_step ((go_at_call 102; exact Cl.calls (Nat.le_refl _) (S2.out _)))
          quiet_step (fail)
          quiet_step (fail)
          quiet_step (fail)
          quiet_step (fail)
          quiet_step (fail)
          quiet_step (fail)
          quiet_step ((go_at_call 101; exact Cl.calls (Nat.le_refl _) (U.out _)))
          quiet_step (fail)
          quiet_step (fail)
          refine wpQuiet_nil ?_
          rintro _ ⟨qq, rfl⟩
          go_wp2_with fail
          go_meet
          case rel => exact ⟨by rw [HLK.out], qq.h⟩
  · rw [hoff] at c3 HQ
    clear h1 hF hcap hs hn hb hz0 hne
    go_enter Tryz.func69, Tryz.ntmps69
    go_wp2_with fail
    go_ret
    rw [HQ.out]
    exact ⟨rfl, _, ⟨R, H1.out, rfl, rfl, HC.out⟩, Moved.refl _ _⟩
end Go.Proofs.YtgkdodcidancpaaGreatDoor

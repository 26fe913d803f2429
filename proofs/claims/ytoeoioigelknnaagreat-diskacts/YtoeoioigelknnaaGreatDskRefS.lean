/-
  THE DOCUMENT'S DISK: a bit is turned.
-/
import Derived.Test.YtoeoioigelknnaaGreatDskRefR
namespace Go.Proofs.YtoeoioigelknnaaGreat
open Go.RowKit Go.Maps Go.WideAt Go.WideShapes

theorem owns_form1 {w : World} {base n : Nat} {xs : List Value} {v : Value} {e : TypeId} {k : Nat} (h : w.ownsRow base e k v n xs) (hn : 0 < n) : ∃ g cap, v = .slice (some ⟨g, 0, none⟩) n cap ∧ n ≤ cap := by
  rcases h.2 with ⟨rfl, rfl⟩ | ⟨g, cap, cur, rfl, hb, hg, hn, _⟩
  · omega
  · exact ⟨g, cap, rfl, hn⟩
set_option maxRecDepth 100000 in
set_option maxHeartbeats 800000 in
theorem ref_spoil0 {w : World} {r : Nat} {R : RM} (h : RefAt w r R) (s : ByteArray) {i : Nat} {f : RF} (hi : R.fs[i]? = some f) (hn : R.fs.length ≤ 1000000) (hbl : f.bs.length ≤ 1099511627776) (n : Nat) (hnl : n < f.bs.length)
    (K : Hid (Calls Tryz.prog 71 #[.pointer (some ⟨r, 0, none⟩), .string s] w fun x w' => x = .returned (.int .i64 0) ∧ w' = w))
    (A : Hid (Calls Tryz.prog 64 #[.pointer (some ⟨r, 0, none⟩), .string s] w fun x w' => x = .returned (.int .i64 (i : Int)) ∧ w' = w)) :
    Calls Tryz.prog 37 #[.pointer (some ⟨r, 0, none⟩), .string s, .int .i64 (n : Int), .int .i64 0] w fun x w' => x = .returned (.int .i64 0) ∧ ∃ a c, RefAt w' r { R with fs := R.fs.set i ⟨f.nm, a, c, f.bs.set n (flipB (f.bs.getD n 0) 0), f.wr⟩ } ∧ f.bs.length ≤ c ∧ Moved w w' (R.foot r) (({ R with fs := R.fs.set i ⟨f.nm, a, c, f.bs.set n (flipB (f.bs.getD n 0) 0), f.wr⟩ } : RM).foot r) := by
  obtain ⟨aL, cL, hvL, hcL, hfc⟩ := h.files
  obtain ⟨g, rfl, hg, m0, m1, m2⟩ := hfc i f hi
  have hgl := (h.rowL.lt g hg).2
  have hrl := h.head.lt
  have c1 := h.c1
  rw [hvL] at c1
  have hmem : f ∈ R.fs := List.mem_of_getElem? hi
  have hil : i < R.fs.length := (List.getElem?_eq_some_iff.1 hi).1
  obtain ⟨j0, hinf8, hq80, hq81, hq82⟩ := info_parts info8D
  have hB1 : Below w.heap.size w (w.alloc (.cells #[] 5)) := (Below.refl _ w).alloc (Nat.le_refl _) _
  have hsf : Sees (w.alloc (.cells #[] 5)) f.ao f.bs := (h.sees f hmem).below hB1 (Nat.le_refl _)
  have HS : Hid (Src Tryz.prog 1 29 (.slice f.ao f.bs.length f.cap) f.bs.length (B8 f.bs) (w.alloc (.cells #[] 5))) := src_sees Tryz.underlying29 hsf (h.zero f hmem) f.cap
  have HR0 : Hid ((w.alloc (.cells #[] 5)).ownsRow w.heap.size 5 1 (.slice (some ⟨w.heap.size, 0, none⟩) 0 0) 0 []) := row08 w
  have HZ : Hid (w.heap.size ≤ (w.alloc (.cells #[] 5)).heap.size) := by show _ ≤ _; simp
  have HEN : Hid (∀ w2 v2, w2.ownsRow w.heap.size 5 1 v2 (0 + f.bs.length) ([] ++ B8 f.bs) → Grew (w.alloc (.cells #[] 5)) w2 (.slice (some ⟨w.heap.size, 0, none⟩) 0 0) v2 →
      ∃ g2 c2, v2 = .slice (some ⟨g2, 0, none⟩) f.bs.length c2 ∧ f.bs.length ≤ c2 ∧ w2.cell? ⟨g2, n, none⟩ = some (.int .u8 ((f.bs.getD n 0).toNat : Int)) ∧ w2.frozen? ⟨g2, n, none⟩ = false ∧
        w2.cell? ⟨r, 1, none⟩ = some (.slice (some ⟨g, 0, none⟩) R.fs.length cL) ∧ w2.cell? ⟨g, i * 3 + 1, none⟩ = some (.slice f.ao f.bs.length f.cap) ∧ w2.frozen? ⟨g, i * 3 + 1, none⟩ = false ∧ g2 ≠ g ∧ g2 ≠ r ∧
        ∀ y : Int, y = ((flipB (f.bs.getD n 0) 0).toNat : Int) → RefAt ((w2.setCell ⟨g2, n, none⟩ (.int .u8 y)).setCell ⟨g, i * 3 + 1, none⟩ (.slice (some ⟨g2, 0, none⟩) f.bs.length c2)) r { R with fs := R.fs.set i ⟨f.nm, some ⟨g2, 0, none⟩, c2, f.bs.set n (flipB (f.bs.getD n 0) 0), f.wr⟩ } ∧
          Moved w ((w2.setCell ⟨g2, n, none⟩ (.int .u8 y)).setCell ⟨g, i * 3 + 1, none⟩ (.slice (some ⟨g2, 0, none⟩) f.bs.length c2)) (R.foot r) (({ R with fs := R.fs.set i ⟨f.nm, some ⟨g2, 0, none⟩, c2, f.bs.set n (flipB (f.bs.getD n 0) 0), f.wr⟩ } : RM).foot r)) := fun w2 v2 ho hgr => by
    rw [Nat.zero_add, List.nil_append] at ho
    obtain ⟨g2, c2, rfl, hc2⟩ := owns_form1 ho (by omega)
    have hg2 := ho.lt g2 rfl
    have hgw : w.grownBy w2 none := (World.grownBy_alloc w (.cells #[] 5) none).andThen hgr.rows (fun j hj => .inl (by cases hj; exact Nat.le_refl _))
    have hcell := ho.cells (g := g2) rfl n _ (B8_at f.bs n hnl)
    rw [Addr.add_lit, Nat.zero_add] at hcell
    have hrow := owns_up h.rowL hgw
    rw [hvL] at hrow
    refine ⟨g2, c2, rfl, hc2, hcell, owns_frozen ho _, (World.cell?_of_block (a := ⟨r, 1, none⟩) (hgw.block r hrl (by simp))).trans c1, (World.cell?_of_block (a := ⟨g, i * 3 + 1, none⟩) (hgw.block g hgl (by simp))).trans m1, owns_frozen hrow _, by omega, by omega, fun y hy => ?_⟩
    subst hy
    have hst := (ho.stored n (.int .u8 ((flipB (f.bs.getD n 0) 0).toNat : Int))).1
    have hB : B8 (f.bs.set n (flipB (f.bs.getD n 0) 0)) = (B8 f.bs).set n (.int .u8 ((flipB (f.bs.getD n 0) 0).toNat : Int)) := by simp [B8, List.map_set]
    rw [← hB] at hst
    obtain ⟨a5, c5, e5, hs5, hl5, -, -, -⟩ := owns_seesR hst
    cases e5
    have hgw3 : w.grownBy (w2.setCell ⟨g2, n, none⟩ (.int .u8 ((flipB (f.bs.getD n 0) 0).toNat : Int))) none := grown_set hgw hg2.1 n _
    exact h.putFile hgw3 hi hvL 1 (by omega) (.slice (some ⟨g2, 0, none⟩) f.bs.length c2) ⟨f.nm, some ⟨g2, 0, none⟩, c2, f.bs.set n (flipB (f.bs.getD n 0) 0), f.wr⟩ (by simp [RF.cells]) hs5 (fun e => by cases e) (fun q hq => .inr (by
      simp [RF.blk] at hq
      subst hq
      rw [size_setCell]
      exact hg2))
  have hx := (f.bs.getD n 0).toNat_lt
  have hfx := flip_text0 _ hx
  rw [UInt8.ofNat_toNat] at hfx
  have hnz : (n : Int) < (f.bs.length : Int) := by omega
  have hblz : (f.bs.length : Int) ≤ 1099511627776 := by omega
  have hilz : (i : Int) < (R.fs.length : Int) := by omega
  have hRz : (R.fs.length : Int) ≤ 1000000 := by omega
  have hm3 : 0 + f.bs.length ≤ maxLen := by unfold maxLen; omega
  have hm4 : (0 + f.bs.length) * 1 ≤ 140737488355328 := by omega
  have hbx : ((f.bs.getD n 0).toNat : Int) ≤ 255 := by omega
  have c1' : (w.alloc (.cells #[] 5)).cell? ⟨r, 1, none⟩ = some (.slice (some ⟨g, 0, none⟩) R.fs.length cL) := (World.cell?_of_block (Below.heap_alloc _ _ _ hrl)).trans c1
  have m1' : (w.alloc (.cells #[] 5)).cell? ⟨g, i * 3 + 1, none⟩ = some (.slice f.ao f.bs.length f.cap) := (World.cell?_of_block (Below.heap_alloc _ _ _ hgl)).trans m1
  clear h hfc hsf hB1 hvL hcL hmem hil m0 m2 hx hn hbl hi hg hgl hrl
  obtain ⟨fx, hfx2⟩ : ∃ z, (f.bs.getD n 0).toNat = z := ⟨_, rfl⟩
  rw [hfx2] at hfx hbx HEN
  clear hfx2
  have HFX : Hid (bits BinOp.xor IntKind.u8 (fx : Int) 1 = ((flipB (f.bs.getD n 0) 0).toNat : Int)) := hfx
  have HNL : Hid (n < f.bs.length) := hnl
  clear hfx hnl
  go_enter Tryz.func37, Tryz.ntmps37
  go_wp2_with fail
  refine K.out.mono ?_
  rintro x _ ⟨rfl, hw⟩
  obtain rfl := hw.symm
  go_wp2_with fail
  refine A.out.mono ?_
  rintro x _ ⟨rfl, hw⟩
  obtain rfl := hw.symm
  go_wp2_with (at_builtin; go_must (refine wpList_append_grew _ rfl (.tmp 44) (.tmp 52) 29 29 rfl w.heap.size 5 j0 (.int .u8 0) 1 1 Tryz.underlying29 hinf8 hq80 hq81 hq82 rfl _ 0 [] rfl HR0.out (.slice f.ao f.bs.length f.cap) f.bs.length (B8 f.bs) rfl HS.out hm3 hm4 HZ.out ?_; intro v2 w2 ho2 hg2; obtain ⟨g2, c2, rfl, hc2, z1, z2, z3, z4, z5, z6, z7, HFN⟩ := HEN.out _ _ ho2 hg2; have HF2 := HFN _ HFX.out; clear HFN ho2 hg2))
  go_ret
  exact ⟨rfl, _, _, HF2.1, hc2, HF2.2⟩
set_option maxRecDepth 100000 in
set_option maxHeartbeats 800000 in
theorem ref_spoil1 {w : World} {r : Nat} {R : RM} (h : RefAt w r R) (s : ByteArray) {i : Nat} {f : RF} (hi : R.fs[i]? = some f) (hn : R.fs.length ≤ 1000000) (hbl : f.bs.length ≤ 1099511627776) (n : Nat) (hnl : n < f.bs.length)
    (K : Hid (Calls Tryz.prog 71 #[.pointer (some ⟨r, 0, none⟩), .string s] w fun x w' => x = .returned (.int .i64 0) ∧ w' = w))
    (A : Hid (Calls Tryz.prog 64 #[.pointer (some ⟨r, 0, none⟩), .string s] w fun x w' => x = .returned (.int .i64 (i : Int)) ∧ w' = w)) :
    Calls Tryz.prog 37 #[.pointer (some ⟨r, 0, none⟩), .string s, .int .i64 (n : Int), .int .i64 1] w fun x w' => x = .returned (.int .i64 0) ∧ ∃ a c, RefAt w' r { R with fs := R.fs.set i ⟨f.nm, a, c, f.bs.set n (flipB (f.bs.getD n 0) 1), f.wr⟩ } ∧ f.bs.length ≤ c ∧ Moved w w' (R.foot r) (({ R with fs := R.fs.set i ⟨f.nm, a, c, f.bs.set n (flipB (f.bs.getD n 0) 1), f.wr⟩ } : RM).foot r) := by
  obtain ⟨aL, cL, hvL, hcL, hfc⟩ := h.files
  obtain ⟨g, rfl, hg, m0, m1, m2⟩ := hfc i f hi
  have hgl := (h.rowL.lt g hg).2
  have hrl := h.head.lt
  have c1 := h.c1
  rw [hvL] at c1
  have hmem : f ∈ R.fs := List.mem_of_getElem? hi
  have hil : i < R.fs.length := (List.getElem?_eq_some_iff.1 hi).1
  obtain ⟨j0, hinf8, hq80, hq81, hq82⟩ := info_parts info8D
  have hB1 : Below w.heap.size w (w.alloc (.cells #[] 5)) := (Below.refl _ w).alloc (Nat.le_refl _) _
  have hsf : Sees (w.alloc (.cells #[] 5)) f.ao f.bs := (h.sees f hmem).below hB1 (Nat.le_refl _)
  have HS : Hid (Src Tryz.prog 1 29 (.slice f.ao f.bs.length f.cap) f.bs.length (B8 f.bs) (w.alloc (.cells #[] 5))) := src_sees Tryz.underlying29 hsf (h.zero f hmem) f.cap
  have HR0 : Hid ((w.alloc (.cells #[] 5)).ownsRow w.heap.size 5 1 (.slice (some ⟨w.heap.size, 0, none⟩) 0 0) 0 []) := row08 w
  have HZ : Hid (w.heap.size ≤ (w.alloc (.cells #[] 5)).heap.size) := by show _ ≤ _; simp
  have HEN : Hid (∀ w2 v2, w2.ownsRow w.heap.size 5 1 v2 (0 + f.bs.length) ([] ++ B8 f.bs) → Grew (w.alloc (.cells #[] 5)) w2 (.slice (some ⟨w.heap.size, 0, none⟩) 0 0) v2 →
      ∃ g2 c2, v2 = .slice (some ⟨g2, 0, none⟩) f.bs.length c2 ∧ f.bs.length ≤ c2 ∧ w2.cell? ⟨g2, n, none⟩ = some (.int .u8 ((f.bs.getD n 0).toNat : Int)) ∧ w2.frozen? ⟨g2, n, none⟩ = false ∧
        w2.cell? ⟨r, 1, none⟩ = some (.slice (some ⟨g, 0, none⟩) R.fs.length cL) ∧ w2.cell? ⟨g, i * 3 + 1, none⟩ = some (.slice f.ao f.bs.length f.cap) ∧ w2.frozen? ⟨g, i * 3 + 1, none⟩ = false ∧ g2 ≠ g ∧ g2 ≠ r ∧
        ∀ y : Int, y = ((flipB (f.bs.getD n 0) 1).toNat : Int) → RefAt ((w2.setCell ⟨g2, n, none⟩ (.int .u8 y)).setCell ⟨g, i * 3 + 1, none⟩ (.slice (some ⟨g2, 0, none⟩) f.bs.length c2)) r { R with fs := R.fs.set i ⟨f.nm, some ⟨g2, 0, none⟩, c2, f.bs.set n (flipB (f.bs.getD n 0) 1), f.wr⟩ } ∧
          Moved w ((w2.setCell ⟨g2, n, none⟩ (.int .u8 y)).setCell ⟨g, i * 3 + 1, none⟩ (.slice (some ⟨g2, 0, none⟩) f.bs.length c2)) (R.foot r) (({ R with fs := R.fs.set i ⟨f.nm, some ⟨g2, 0, none⟩, c2, f.bs.set n (flipB (f.bs.getD n 0) 1), f.wr⟩ } : RM).foot r)) := fun w2 v2 ho hgr => by
    rw [Nat.zero_add, List.nil_append] at ho
    obtain ⟨g2, c2, rfl, hc2⟩ := owns_form1 ho (by omega)
    have hg2 := ho.lt g2 rfl
    have hgw : w.grownBy w2 none := (World.grownBy_alloc w (.cells #[] 5) none).andThen hgr.rows (fun j hj => .inl (by cases hj; exact Nat.le_refl _))
    have hcell := ho.cells (g := g2) rfl n _ (B8_at f.bs n hnl)
    rw [Addr.add_lit, Nat.zero_add] at hcell
    have hrow := owns_up h.rowL hgw
    rw [hvL] at hrow
    refine ⟨g2, c2, rfl, hc2, hcell, owns_frozen ho _, (World.cell?_of_block (a := ⟨r, 1, none⟩) (hgw.block r hrl (by simp))).trans c1, (World.cell?_of_block (a := ⟨g, i * 3 + 1, none⟩) (hgw.block g hgl (by simp))).trans m1, owns_frozen hrow _, by omega, by omega, fun y hy => ?_⟩
    subst hy
    have hst := (ho.stored n (.int .u8 ((flipB (f.bs.getD n 0) 1).toNat : Int))).1
    have hB : B8 (f.bs.set n (flipB (f.bs.getD n 0) 1)) = (B8 f.bs).set n (.int .u8 ((flipB (f.bs.getD n 0) 1).toNat : Int)) := by simp [B8, List.map_set]
    rw [← hB] at hst
    obtain ⟨a5, c5, e5, hs5, hl5, -, -, -⟩ := owns_seesR hst
    cases e5
    have hgw3 : w.grownBy (w2.setCell ⟨g2, n, none⟩ (.int .u8 ((flipB (f.bs.getD n 0) 1).toNat : Int))) none := grown_set hgw hg2.1 n _
    exact h.putFile hgw3 hi hvL 1 (by omega) (.slice (some ⟨g2, 0, none⟩) f.bs.length c2) ⟨f.nm, some ⟨g2, 0, none⟩, c2, f.bs.set n (flipB (f.bs.getD n 0) 1), f.wr⟩ (by simp [RF.cells]) hs5 (fun e => by cases e) (fun q hq => .inr (by
      simp [RF.blk] at hq
      subst hq
      rw [size_setCell]
      exact hg2))
  have hx := (f.bs.getD n 0).toNat_lt
  have hfx := flip_text1 _ hx
  rw [UInt8.ofNat_toNat] at hfx
  have hnz : (n : Int) < (f.bs.length : Int) := by omega
  have hblz : (f.bs.length : Int) ≤ 1099511627776 := by omega
  have hilz : (i : Int) < (R.fs.length : Int) := by omega
  have hRz : (R.fs.length : Int) ≤ 1000000 := by omega
  have hm3 : 0 + f.bs.length ≤ maxLen := by unfold maxLen; omega
  have hm4 : (0 + f.bs.length) * 1 ≤ 140737488355328 := by omega
  have hbx : ((f.bs.getD n 0).toNat : Int) ≤ 255 := by omega
  have c1' : (w.alloc (.cells #[] 5)).cell? ⟨r, 1, none⟩ = some (.slice (some ⟨g, 0, none⟩) R.fs.length cL) := (World.cell?_of_block (Below.heap_alloc _ _ _ hrl)).trans c1
  have m1' : (w.alloc (.cells #[] 5)).cell? ⟨g, i * 3 + 1, none⟩ = some (.slice f.ao f.bs.length f.cap) := (World.cell?_of_block (Below.heap_alloc _ _ _ hgl)).trans m1
  clear h hfc hsf hB1 hvL hcL hmem hil m0 m2 hx hn hbl hi hg hgl hrl
  obtain ⟨fx, hfx2⟩ : ∃ z, (f.bs.getD n 0).toNat = z := ⟨_, rfl⟩
  rw [hfx2] at hfx hbx HEN
  clear hfx2
  have HFX : Hid (bits BinOp.xor IntKind.u8 (fx : Int) 2 = ((flipB (f.bs.getD n 0) 1).toNat : Int)) := hfx
  have HNL : Hid (n < f.bs.length) := hnl
  clear hfx hnl
  go_enter Tryz.func37, Tryz.ntmps37
  go_wp2_with fail
  refine K.out.mono ?_
  rintro x _ ⟨rfl, hw⟩
  obtain rfl := hw.symm
  go_wp2_with fail
  refine A.out.mono ?_
  rintro x _ ⟨rfl, hw⟩
  obtain rfl := hw.symm
  go_wp2_with (at_builtin; go_must (refine wpList_append_grew _ rfl (.tmp 44) (.tmp 52) 29 29 rfl w.heap.size 5 j0 (.int .u8 0) 1 1 Tryz.underlying29 hinf8 hq80 hq81 hq82 rfl _ 0 [] rfl HR0.out (.slice f.ao f.bs.length f.cap) f.bs.length (B8 f.bs) rfl HS.out hm3 hm4 HZ.out ?_; intro v2 w2 ho2 hg2; obtain ⟨g2, c2, rfl, hc2, z1, z2, z3, z4, z5, z6, z7, HFN⟩ := HEN.out _ _ ho2 hg2; have HF2 := HFN _ HFX.out; clear HFN ho2 hg2))
  go_ret
  exact ⟨rfl, _, _, HF2.1, hc2, HF2.2⟩
set_option maxRecDepth 100000 in
set_option maxHeartbeats 800000 in
theorem ref_spoil2 {w : World} {r : Nat} {R : RM} (h : RefAt w r R) (s : ByteArray) {i : Nat} {f : RF} (hi : R.fs[i]? = some f) (hn : R.fs.length ≤ 1000000) (hbl : f.bs.length ≤ 1099511627776) (n : Nat) (hnl : n < f.bs.length)
    (K : Hid (Calls Tryz.prog 71 #[.pointer (some ⟨r, 0, none⟩), .string s] w fun x w' => x = .returned (.int .i64 0) ∧ w' = w))
    (A : Hid (Calls Tryz.prog 64 #[.pointer (some ⟨r, 0, none⟩), .string s] w fun x w' => x = .returned (.int .i64 (i : Int)) ∧ w' = w)) :
    Calls Tryz.prog 37 #[.pointer (some ⟨r, 0, none⟩), .string s, .int .i64 (n : Int), .int .i64 2] w fun x w' => x = .returned (.int .i64 0) ∧ ∃ a c, RefAt w' r { R with fs := R.fs.set i ⟨f.nm, a, c, f.bs.set n (flipB (f.bs.getD n 0) 2), f.wr⟩ } ∧ f.bs.length ≤ c ∧ Moved w w' (R.foot r) (({ R with fs := R.fs.set i ⟨f.nm, a, c, f.bs.set n (flipB (f.bs.getD n 0) 2), f.wr⟩ } : RM).foot r) := by
  obtain ⟨aL, cL, hvL, hcL, hfc⟩ := h.files
  obtain ⟨g, rfl, hg, m0, m1, m2⟩ := hfc i f hi
  have hgl := (h.rowL.lt g hg).2
  have hrl := h.head.lt
  have c1 := h.c1
  rw [hvL] at c1
  have hmem : f ∈ R.fs := List.mem_of_getElem? hi
  have hil : i < R.fs.length := (List.getElem?_eq_some_iff.1 hi).1
  obtain ⟨j0, hinf8, hq80, hq81, hq82⟩ := info_parts info8D
  have hB1 : Below w.heap.size w (w.alloc (.cells #[] 5)) := (Below.refl _ w).alloc (Nat.le_refl _) _
  have hsf : Sees (w.alloc (.cells #[] 5)) f.ao f.bs := (h.sees f hmem).below hB1 (Nat.le_refl _)
  have HS : Hid (Src Tryz.prog 1 29 (.slice f.ao f.bs.length f.cap) f.bs.length (B8 f.bs) (w.alloc (.cells #[] 5))) := src_sees Tryz.underlying29 hsf (h.zero f hmem) f.cap
  have HR0 : Hid ((w.alloc (.cells #[] 5)).ownsRow w.heap.size 5 1 (.slice (some ⟨w.heap.size, 0, none⟩) 0 0) 0 []) := row08 w
  have HZ : Hid (w.heap.size ≤ (w.alloc (.cells #[] 5)).heap.size) := by show _ ≤ _; simp
  have HEN : Hid (∀ w2 v2, w2.ownsRow w.heap.size 5 1 v2 (0 + f.bs.length) ([] ++ B8 f.bs) → Grew (w.alloc (.cells #[] 5)) w2 (.slice (some ⟨w.heap.size, 0, none⟩) 0 0) v2 →
      ∃ g2 c2, v2 = .slice (some ⟨g2, 0, none⟩) f.bs.length c2 ∧ f.bs.length ≤ c2 ∧ w2.cell? ⟨g2, n, none⟩ = some (.int .u8 ((f.bs.getD n 0).toNat : Int)) ∧ w2.frozen? ⟨g2, n, none⟩ = false ∧
        w2.cell? ⟨r, 1, none⟩ = some (.slice (some ⟨g, 0, none⟩) R.fs.length cL) ∧ w2.cell? ⟨g, i * 3 + 1, none⟩ = some (.slice f.ao f.bs.length f.cap) ∧ w2.frozen? ⟨g, i * 3 + 1, none⟩ = false ∧ g2 ≠ g ∧ g2 ≠ r ∧
        ∀ y : Int, y = ((flipB (f.bs.getD n 0) 2).toNat : Int) → RefAt ((w2.setCell ⟨g2, n, none⟩ (.int .u8 y)).setCell ⟨g, i * 3 + 1, none⟩ (.slice (some ⟨g2, 0, none⟩) f.bs.length c2)) r { R with fs := R.fs.set i ⟨f.nm, some ⟨g2, 0, none⟩, c2, f.bs.set n (flipB (f.bs.getD n 0) 2), f.wr⟩ } ∧
          Moved w ((w2.setCell ⟨g2, n, none⟩ (.int .u8 y)).setCell ⟨g, i * 3 + 1, none⟩ (.slice (some ⟨g2, 0, none⟩) f.bs.length c2)) (R.foot r) (({ R with fs := R.fs.set i ⟨f.nm, some ⟨g2, 0, none⟩, c2, f.bs.set n (flipB (f.bs.getD n 0) 2), f.wr⟩ } : RM).foot r)) := fun w2 v2 ho hgr => by
    rw [Nat.zero_add, List.nil_append] at ho
    obtain ⟨g2, c2, rfl, hc2⟩ := owns_form1 ho (by omega)
    have hg2 := ho.lt g2 rfl
    have hgw : w.grownBy w2 none := (World.grownBy_alloc w (.cells #[] 5) none).andThen hgr.rows (fun j hj => .inl (by cases hj; exact Nat.le_refl _))
    have hcell := ho.cells (g := g2) rfl n _ (B8_at f.bs n hnl)
    rw [Addr.add_lit, Nat.zero_add] at hcell
    have hrow := owns_up h.rowL hgw
    rw [hvL] at hrow
    refine ⟨g2, c2, rfl, hc2, hcell, owns_frozen ho _, (World.cell?_of_block (a := ⟨r, 1, none⟩) (hgw.block r hrl (by simp))).trans c1, (World.cell?_of_block (a := ⟨g, i * 3 + 1, none⟩) (hgw.block g hgl (by simp))).trans m1, owns_frozen hrow _, by omega, by omega, fun y hy => ?_⟩
    subst hy
    have hst := (ho.stored n (.int .u8 ((flipB (f.bs.getD n 0) 2).toNat : Int))).1
    have hB : B8 (f.bs.set n (flipB (f.bs.getD n 0) 2)) = (B8 f.bs).set n (.int .u8 ((flipB (f.bs.getD n 0) 2).toNat : Int)) := by simp [B8, List.map_set]
    rw [← hB] at hst
    obtain ⟨a5, c5, e5, hs5, hl5, -, -, -⟩ := owns_seesR hst
    cases e5
    have hgw3 : w.grownBy (w2.setCell ⟨g2, n, none⟩ (.int .u8 ((flipB (f.bs.getD n 0) 2).toNat : Int))) none := grown_set hgw hg2.1 n _
    exact h.putFile hgw3 hi hvL 1 (by omega) (.slice (some ⟨g2, 0, none⟩) f.bs.length c2) ⟨f.nm, some ⟨g2, 0, none⟩, c2, f.bs.set n (flipB (f.bs.getD n 0) 2), f.wr⟩ (by simp [RF.cells]) hs5 (fun e => by cases e) (fun q hq => .inr (by
      simp [RF.blk] at hq
      subst hq
      rw [size_setCell]
      exact hg2))
  have hx := (f.bs.getD n 0).toNat_lt
  have hfx := flip_text2 _ hx
  rw [UInt8.ofNat_toNat] at hfx
  have hnz : (n : Int) < (f.bs.length : Int) := by omega
  have hblz : (f.bs.length : Int) ≤ 1099511627776 := by omega
  have hilz : (i : Int) < (R.fs.length : Int) := by omega
  have hRz : (R.fs.length : Int) ≤ 1000000 := by omega
  have hm3 : 0 + f.bs.length ≤ maxLen := by unfold maxLen; omega
  have hm4 : (0 + f.bs.length) * 1 ≤ 140737488355328 := by omega
  have hbx : ((f.bs.getD n 0).toNat : Int) ≤ 255 := by omega
  have c1' : (w.alloc (.cells #[] 5)).cell? ⟨r, 1, none⟩ = some (.slice (some ⟨g, 0, none⟩) R.fs.length cL) := (World.cell?_of_block (Below.heap_alloc _ _ _ hrl)).trans c1
  have m1' : (w.alloc (.cells #[] 5)).cell? ⟨g, i * 3 + 1, none⟩ = some (.slice f.ao f.bs.length f.cap) := (World.cell?_of_block (Below.heap_alloc _ _ _ hgl)).trans m1
  clear h hfc hsf hB1 hvL hcL hmem hil m0 m2 hx hn hbl hi hg hgl hrl
  obtain ⟨fx, hfx2⟩ : ∃ z, (f.bs.getD n 0).toNat = z := ⟨_, rfl⟩
  rw [hfx2] at hfx hbx HEN
  clear hfx2
  have HFX : Hid (bits BinOp.xor IntKind.u8 (fx : Int) 4 = ((flipB (f.bs.getD n 0) 2).toNat : Int)) := hfx
  have HNL : Hid (n < f.bs.length) := hnl
  clear hfx hnl
  go_enter Tryz.func37, Tryz.ntmps37
  go_wp2_with fail
  refine K.out.mono ?_
  rintro x _ ⟨rfl, hw⟩
  obtain rfl := hw.symm
  go_wp2_with fail
  refine A.out.mono ?_
  rintro x _ ⟨rfl, hw⟩
  obtain rfl := hw.symm
  go_wp2_with (at_builtin; go_must (refine wpList_append_grew _ rfl (.tmp 44) (.tmp 52) 29 29 rfl w.heap.size 5 j0 (.int .u8 0) 1 1 Tryz.underlying29 hinf8 hq80 hq81 hq82 rfl _ 0 [] rfl HR0.out (.slice f.ao f.bs.length f.cap) f.bs.length (B8 f.bs) rfl HS.out hm3 hm4 HZ.out ?_; intro v2 w2 ho2 hg2; obtain ⟨g2, c2, rfl, hc2, z1, z2, z3, z4, z5, z6, z7, HFN⟩ := HEN.out _ _ ho2 hg2; have HF2 := HFN _ HFX.out; clear HFN ho2 hg2))
  go_ret
  exact ⟨rfl, _, _, HF2.1, hc2, HF2.2⟩
set_option maxRecDepth 100000 in
set_option maxHeartbeats 800000 in
theorem ref_spoil3 {w : World} {r : Nat} {R : RM} (h : RefAt w r R) (s : ByteArray) {i : Nat} {f : RF} (hi : R.fs[i]? = some f) (hn : R.fs.length ≤ 1000000) (hbl : f.bs.length ≤ 1099511627776) (n : Nat) (hnl : n < f.bs.length)
    (K : Hid (Calls Tryz.prog 71 #[.pointer (some ⟨r, 0, none⟩), .string s] w fun x w' => x = .returned (.int .i64 0) ∧ w' = w))
    (A : Hid (Calls Tryz.prog 64 #[.pointer (some ⟨r, 0, none⟩), .string s] w fun x w' => x = .returned (.int .i64 (i : Int)) ∧ w' = w)) :
    Calls Tryz.prog 37 #[.pointer (some ⟨r, 0, none⟩), .string s, .int .i64 (n : Int), .int .i64 3] w fun x w' => x = .returned (.int .i64 0) ∧ ∃ a c, RefAt w' r { R with fs := R.fs.set i ⟨f.nm, a, c, f.bs.set n (flipB (f.bs.getD n 0) 3), f.wr⟩ } ∧ f.bs.length ≤ c ∧ Moved w w' (R.foot r) (({ R with fs := R.fs.set i ⟨f.nm, a, c, f.bs.set n (flipB (f.bs.getD n 0) 3), f.wr⟩ } : RM).foot r) := by
  obtain ⟨aL, cL, hvL, hcL, hfc⟩ := h.files
  obtain ⟨g, rfl, hg, m0, m1, m2⟩ := hfc i f hi
  have hgl := (h.rowL.lt g hg).2
  have hrl := h.head.lt
  have c1 := h.c1
  rw [hvL] at c1
  have hmem : f ∈ R.fs := List.mem_of_getElem? hi
  have hil : i < R.fs.length := (List.getElem?_eq_some_iff.1 hi).1
  obtain ⟨j0, hinf8, hq80, hq81, hq82⟩ := info_parts info8D
  have hB1 : Below w.heap.size w (w.alloc (.cells #[] 5)) := (Below.refl _ w).alloc (Nat.le_refl _) _
  have hsf : Sees (w.alloc (.cells #[] 5)) f.ao f.bs := (h.sees f hmem).below hB1 (Nat.le_refl _)
  have HS : Hid (Src Tryz.prog 1 29 (.slice f.ao f.bs.length f.cap) f.bs.length (B8 f.bs) (w.alloc (.cells #[] 5))) := src_sees Tryz.underlying29 hsf (h.zero f hmem) f.cap
  have HR0 : Hid ((w.alloc (.cells #[] 5)).ownsRow w.heap.size 5 1 (.slice (some ⟨w.heap.size, 0, none⟩) 0 0) 0 []) := row08 w
  have HZ : Hid (w.heap.size ≤ (w.alloc (.cells #[] 5)).heap.size) := by show _ ≤ _; simp
  have HEN : Hid (∀ w2 v2, w2.ownsRow w.heap.size 5 1 v2 (0 + f.bs.length) ([] ++ B8 f.bs) → Grew (w.alloc (.cells #[] 5)) w2 (.slice (some ⟨w.heap.size, 0, none⟩) 0 0) v2 →
      ∃ g2 c2, v2 = .slice (some ⟨g2, 0, none⟩) f.bs.length c2 ∧ f.bs.length ≤ c2 ∧ w2.cell? ⟨g2, n, none⟩ = some (.int .u8 ((f.bs.getD n 0).toNat : Int)) ∧ w2.frozen? ⟨g2, n, none⟩ = false ∧
        w2.cell? ⟨r, 1, none⟩ = some (.slice (some ⟨g, 0, none⟩) R.fs.length cL) ∧ w2.cell? ⟨g, i * 3 + 1, none⟩ = some (.slice f.ao f.bs.length f.cap) ∧ w2.frozen? ⟨g, i * 3 + 1, none⟩ = false ∧ g2 ≠ g ∧ g2 ≠ r ∧
        ∀ y : Int, y = ((flipB (f.bs.getD n 0) 3).toNat : Int) → RefAt ((w2.setCell ⟨g2, n, none⟩ (.int .u8 y)).setCell ⟨g, i * 3 + 1, none⟩ (.slice (some ⟨g2, 0, none⟩) f.bs.length c2)) r { R with fs := R.fs.set i ⟨f.nm, some ⟨g2, 0, none⟩, c2, f.bs.set n (flipB (f.bs.getD n 0) 3), f.wr⟩ } ∧
          Moved w ((w2.setCell ⟨g2, n, none⟩ (.int .u8 y)).setCell ⟨g, i * 3 + 1, none⟩ (.slice (some ⟨g2, 0, none⟩) f.bs.length c2)) (R.foot r) (({ R with fs := R.fs.set i ⟨f.nm, some ⟨g2, 0, none⟩, c2, f.bs.set n (flipB (f.bs.getD n 0) 3), f.wr⟩ } : RM).foot r)) := fun w2 v2 ho hgr => by
    rw [Nat.zero_add, List.nil_append] at ho
    obtain ⟨g2, c2, rfl, hc2⟩ := owns_form1 ho (by omega)
    have hg2 := ho.lt g2 rfl
    have hgw : w.grownBy w2 none := (World.grownBy_alloc w (.cells #[] 5) none).andThen hgr.rows (fun j hj => .inl (by cases hj; exact Nat.le_refl _))
    have hcell := ho.cells (g := g2) rfl n _ (B8_at f.bs n hnl)
    rw [Addr.add_lit, Nat.zero_add] at hcell
    have hrow := owns_up h.rowL hgw
    rw [hvL] at hrow
    refine ⟨g2, c2, rfl, hc2, hcell, owns_frozen ho _, (World.cell?_of_block (a := ⟨r, 1, none⟩) (hgw.block r hrl (by simp))).trans c1, (World.cell?_of_block (a := ⟨g, i * 3 + 1, none⟩) (hgw.block g hgl (by simp))).trans m1, owns_frozen hrow _, by omega, by omega, fun y hy => ?_⟩
    subst hy
    have hst := (ho.stored n (.int .u8 ((flipB (f.bs.getD n 0) 3).toNat : Int))).1
    have hB : B8 (f.bs.set n (flipB (f.bs.getD n 0) 3)) = (B8 f.bs).set n (.int .u8 ((flipB (f.bs.getD n 0) 3).toNat : Int)) := by simp [B8, List.map_set]
    rw [← hB] at hst
    obtain ⟨a5, c5, e5, hs5, hl5, -, -, -⟩ := owns_seesR hst
    cases e5
    have hgw3 : w.grownBy (w2.setCell ⟨g2, n, none⟩ (.int .u8 ((flipB (f.bs.getD n 0) 3).toNat : Int))) none := grown_set hgw hg2.1 n _
    exact h.putFile hgw3 hi hvL 1 (by omega) (.slice (some ⟨g2, 0, none⟩) f.bs.length c2) ⟨f.nm, some ⟨g2, 0, none⟩, c2, f.bs.set n (flipB (f.bs.getD n 0) 3), f.wr⟩ (by simp [RF.cells]) hs5 (fun e => by cases e) (fun q hq => .inr (by
      simp [RF.blk] at hq
      subst hq
      rw [size_setCell]
      exact hg2))
  have hx := (f.bs.getD n 0).toNat_lt
  have hfx := flip_text3 _ hx
  rw [UInt8.ofNat_toNat] at hfx
  have hnz : (n : Int) < (f.bs.length : Int) := by omega
  have hblz : (f.bs.length : Int) ≤ 1099511627776 := by omega
  have hilz : (i : Int) < (R.fs.length : Int) := by omega
  have hRz : (R.fs.length : Int) ≤ 1000000 := by omega
  have hm3 : 0 + f.bs.length ≤ maxLen := by unfold maxLen; omega
  have hm4 : (0 + f.bs.length) * 1 ≤ 140737488355328 := by omega
  have hbx : ((f.bs.getD n 0).toNat : Int) ≤ 255 := by omega
  have c1' : (w.alloc (.cells #[] 5)).cell? ⟨r, 1, none⟩ = some (.slice (some ⟨g, 0, none⟩) R.fs.length cL) := (World.cell?_of_block (Below.heap_alloc _ _ _ hrl)).trans c1
  have m1' : (w.alloc (.cells #[] 5)).cell? ⟨g, i * 3 + 1, none⟩ = some (.slice f.ao f.bs.length f.cap) := (World.cell?_of_block (Below.heap_alloc _ _ _ hgl)).trans m1
  clear h hfc hsf hB1 hvL hcL hmem hil m0 m2 hx hn hbl hi hg hgl hrl
  obtain ⟨fx, hfx2⟩ : ∃ z, (f.bs.getD n 0).toNat = z := ⟨_, rfl⟩
  rw [hfx2] at hfx hbx HEN
  clear hfx2
  have HFX : Hid (bits BinOp.xor IntKind.u8 (fx : Int) 8 = ((flipB (f.bs.getD n 0) 3).toNat : Int)) := hfx
  have HNL : Hid (n < f.bs.length) := hnl
  clear hfx hnl
  go_enter Tryz.func37, Tryz.ntmps37
  go_wp2_with fail
  refine K.out.mono ?_
  rintro x _ ⟨rfl, hw⟩
  obtain rfl := hw.symm
  go_wp2_with fail
  refine A.out.mono ?_
  rintro x _ ⟨rfl, hw⟩
  obtain rfl := hw.symm
  go_wp2_with (at_builtin; go_must (refine wpList_append_grew _ rfl (.tmp 44) (.tmp 52) 29 29 rfl w.heap.size 5 j0 (.int .u8 0) 1 1 Tryz.underlying29 hinf8 hq80 hq81 hq82 rfl _ 0 [] rfl HR0.out (.slice f.ao f.bs.length f.cap) f.bs.length (B8 f.bs) rfl HS.out hm3 hm4 HZ.out ?_; intro v2 w2 ho2 hg2; obtain ⟨g2, c2, rfl, hc2, z1, z2, z3, z4, z5, z6, z7, HFN⟩ := HEN.out _ _ ho2 hg2; have HF2 := HFN _ HFX.out; clear HFN ho2 hg2))
  go_ret
  exact ⟨rfl, _, _, HF2.1, hc2, HF2.2⟩
set_option maxRecDepth 100000 in
set_option maxHeartbeats 800000 in
theorem ref_spoil4 {w : World} {r : Nat} {R : RM} (h : RefAt w r R) (s : ByteArray) {i : Nat} {f : RF} (hi : R.fs[i]? = some f) (hn : R.fs.length ≤ 1000000) (hbl : f.bs.length ≤ 1099511627776) (n : Nat) (hnl : n < f.bs.length)
    (K : Hid (Calls Tryz.prog 71 #[.pointer (some ⟨r, 0, none⟩), .string s] w fun x w' => x = .returned (.int .i64 0) ∧ w' = w))
    (A : Hid (Calls Tryz.prog 64 #[.pointer (some ⟨r, 0, none⟩), .string s] w fun x w' => x = .returned (.int .i64 (i : Int)) ∧ w' = w)) :
    Calls Tryz.prog 37 #[.pointer (some ⟨r, 0, none⟩), .string s, .int .i64 (n : Int), .int .i64 4] w fun x w' => x = .returned (.int .i64 0) ∧ ∃ a c, RefAt w' r { R with fs := R.fs.set i ⟨f.nm, a, c, f.bs.set n (flipB (f.bs.getD n 0) 4), f.wr⟩ } ∧ f.bs.length ≤ c ∧ Moved w w' (R.foot r) (({ R with fs := R.fs.set i ⟨f.nm, a, c, f.bs.set n (flipB (f.bs.getD n 0) 4), f.wr⟩ } : RM).foot r) := by
  obtain ⟨aL, cL, hvL, hcL, hfc⟩ := h.files
  obtain ⟨g, rfl, hg, m0, m1, m2⟩ := hfc i f hi
  have hgl := (h.rowL.lt g hg).2
  have hrl := h.head.lt
  have c1 := h.c1
  rw [hvL] at c1
  have hmem : f ∈ R.fs := List.mem_of_getElem? hi
  have hil : i < R.fs.length := (List.getElem?_eq_some_iff.1 hi).1
  obtain ⟨j0, hinf8, hq80, hq81, hq82⟩ := info_parts info8D
  have hB1 : Below w.heap.size w (w.alloc (.cells #[] 5)) := (Below.refl _ w).alloc (Nat.le_refl _) _
  have hsf : Sees (w.alloc (.cells #[] 5)) f.ao f.bs := (h.sees f hmem).below hB1 (Nat.le_refl _)
  have HS : Hid (Src Tryz.prog 1 29 (.slice f.ao f.bs.length f.cap) f.bs.length (B8 f.bs) (w.alloc (.cells #[] 5))) := src_sees Tryz.underlying29 hsf (h.zero f hmem) f.cap
  have HR0 : Hid ((w.alloc (.cells #[] 5)).ownsRow w.heap.size 5 1 (.slice (some ⟨w.heap.size, 0, none⟩) 0 0) 0 []) := row08 w
  have HZ : Hid (w.heap.size ≤ (w.alloc (.cells #[] 5)).heap.size) := by show _ ≤ _; simp
  have HEN : Hid (∀ w2 v2, w2.ownsRow w.heap.size 5 1 v2 (0 + f.bs.length) ([] ++ B8 f.bs) → Grew (w.alloc (.cells #[] 5)) w2 (.slice (some ⟨w.heap.size, 0, none⟩) 0 0) v2 →
      ∃ g2 c2, v2 = .slice (some ⟨g2, 0, none⟩) f.bs.length c2 ∧ f.bs.length ≤ c2 ∧ w2.cell? ⟨g2, n, none⟩ = some (.int .u8 ((f.bs.getD n 0).toNat : Int)) ∧ w2.frozen? ⟨g2, n, none⟩ = false ∧
        w2.cell? ⟨r, 1, none⟩ = some (.slice (some ⟨g, 0, none⟩) R.fs.length cL) ∧ w2.cell? ⟨g, i * 3 + 1, none⟩ = some (.slice f.ao f.bs.length f.cap) ∧ w2.frozen? ⟨g, i * 3 + 1, none⟩ = false ∧ g2 ≠ g ∧ g2 ≠ r ∧
        ∀ y : Int, y = ((flipB (f.bs.getD n 0) 4).toNat : Int) → RefAt ((w2.setCell ⟨g2, n, none⟩ (.int .u8 y)).setCell ⟨g, i * 3 + 1, none⟩ (.slice (some ⟨g2, 0, none⟩) f.bs.length c2)) r { R with fs := R.fs.set i ⟨f.nm, some ⟨g2, 0, none⟩, c2, f.bs.set n (flipB (f.bs.getD n 0) 4), f.wr⟩ } ∧
          Moved w ((w2.setCell ⟨g2, n, none⟩ (.int .u8 y)).setCell ⟨g, i * 3 + 1, none⟩ (.slice (some ⟨g2, 0, none⟩) f.bs.length c2)) (R.foot r) (({ R with fs := R.fs.set i ⟨f.nm, some ⟨g2, 0, none⟩, c2, f.bs.set n (flipB (f.bs.getD n 0) 4), f.wr⟩ } : RM).foot r)) := fun w2 v2 ho hgr => by
    rw [Nat.zero_add, List.nil_append] at ho
    obtain ⟨g2, c2, rfl, hc2⟩ := owns_form1 ho (by omega)
    have hg2 := ho.lt g2 rfl
    have hgw : w.grownBy w2 none := (World.grownBy_alloc w (.cells #[] 5) none).andThen hgr.rows (fun j hj => .inl (by cases hj; exact Nat.le_refl _))
    have hcell := ho.cells (g := g2) rfl n _ (B8_at f.bs n hnl)
    rw [Addr.add_lit, Nat.zero_add] at hcell
    have hrow := owns_up h.rowL hgw
    rw [hvL] at hrow
    refine ⟨g2, c2, rfl, hc2, hcell, owns_frozen ho _, (World.cell?_of_block (a := ⟨r, 1, none⟩) (hgw.block r hrl (by simp))).trans c1, (World.cell?_of_block (a := ⟨g, i * 3 + 1, none⟩) (hgw.block g hgl (by simp))).trans m1, owns_frozen hrow _, by omega, by omega, fun y hy => ?_⟩
    subst hy
    have hst := (ho.stored n (.int .u8 ((flipB (f.bs.getD n 0) 4).toNat : Int))).1
    have hB : B8 (f.bs.set n (flipB (f.bs.getD n 0) 4)) = (B8 f.bs).set n (.int .u8 ((flipB (f.bs.getD n 0) 4).toNat : Int)) := by simp [B8, List.map_set]
    rw [← hB] at hst
    obtain ⟨a5, c5, e5, hs5, hl5, -, -, -⟩ := owns_seesR hst
    cases e5
    have hgw3 : w.grownBy (w2.setCell ⟨g2, n, none⟩ (.int .u8 ((flipB (f.bs.getD n 0) 4).toNat : Int))) none := grown_set hgw hg2.1 n _
    exact h.putFile hgw3 hi hvL 1 (by omega) (.slice (some ⟨g2, 0, none⟩) f.bs.length c2) ⟨f.nm, some ⟨g2, 0, none⟩, c2, f.bs.set n (flipB (f.bs.getD n 0) 4), f.wr⟩ (by simp [RF.cells]) hs5 (fun e => by cases e) (fun q hq => .inr (by
      simp [RF.blk] at hq
      subst hq
      rw [size_setCell]
      exact hg2))
  have hx := (f.bs.getD n 0).toNat_lt
  have hfx := flip_text4 _ hx
  rw [UInt8.ofNat_toNat] at hfx
  have hnz : (n : Int) < (f.bs.length : Int) := by omega
  have hblz : (f.bs.length : Int) ≤ 1099511627776 := by omega
  have hilz : (i : Int) < (R.fs.length : Int) := by omega
  have hRz : (R.fs.length : Int) ≤ 1000000 := by omega
  have hm3 : 0 + f.bs.length ≤ maxLen := by unfold maxLen; omega
  have hm4 : (0 + f.bs.length) * 1 ≤ 140737488355328 := by omega
  have hbx : ((f.bs.getD n 0).toNat : Int) ≤ 255 := by omega
  have c1' : (w.alloc (.cells #[] 5)).cell? ⟨r, 1, none⟩ = some (.slice (some ⟨g, 0, none⟩) R.fs.length cL) := (World.cell?_of_block (Below.heap_alloc _ _ _ hrl)).trans c1
  have m1' : (w.alloc (.cells #[] 5)).cell? ⟨g, i * 3 + 1, none⟩ = some (.slice f.ao f.bs.length f.cap) := (World.cell?_of_block (Below.heap_alloc _ _ _ hgl)).trans m1
  clear h hfc hsf hB1 hvL hcL hmem hil m0 m2 hx hn hbl hi hg hgl hrl
  obtain ⟨fx, hfx2⟩ : ∃ z, (f.bs.getD n 0).toNat = z := ⟨_, rfl⟩
  rw [hfx2] at hfx hbx HEN
  clear hfx2
  have HFX : Hid (bits BinOp.xor IntKind.u8 (fx : Int) 16 = ((flipB (f.bs.getD n 0) 4).toNat : Int)) := hfx
  have HNL : Hid (n < f.bs.length) := hnl
  clear hfx hnl
  go_enter Tryz.func37, Tryz.ntmps37
  go_wp2_with fail
  refine K.out.mono ?_
  rintro x _ ⟨rfl, hw⟩
  obtain rfl := hw.symm
  go_wp2_with fail
  refine A.out.mono ?_
  rintro x _ ⟨rfl, hw⟩
  obtain rfl := hw.symm
  go_wp2_with (at_builtin; go_must (refine wpList_append_grew _ rfl (.tmp 44) (.tmp 52) 29 29 rfl w.heap.size 5 j0 (.int .u8 0) 1 1 Tryz.underlying29 hinf8 hq80 hq81 hq82 rfl _ 0 [] rfl HR0.out (.slice f.ao f.bs.length f.cap) f.bs.length (B8 f.bs) rfl HS.out hm3 hm4 HZ.out ?_; intro v2 w2 ho2 hg2; obtain ⟨g2, c2, rfl, hc2, z1, z2, z3, z4, z5, z6, z7, HFN⟩ := HEN.out _ _ ho2 hg2; have HF2 := HFN _ HFX.out; clear HFN ho2 hg2))
  go_ret
  exact ⟨rfl, _, _, HF2.1, hc2, HF2.2⟩
set_option maxRecDepth 100000 in
set_option maxHeartbeats 800000 in
theorem ref_spoil5 {w : World} {r : Nat} {R : RM} (h : RefAt w r R) (s : ByteArray) {i : Nat} {f : RF} (hi : R.fs[i]? = some f) (hn : R.fs.length ≤ 1000000) (hbl : f.bs.length ≤ 1099511627776) (n : Nat) (hnl : n < f.bs.length)
    (K : Hid (Calls Tryz.prog 71 #[.pointer (some ⟨r, 0, none⟩), .string s] w fun x w' => x = .returned (.int .i64 0) ∧ w' = w))
    (A : Hid (Calls Tryz.prog 64 #[.pointer (some ⟨r, 0, none⟩), .string s] w fun x w' => x = .returned (.int .i64 (i : Int)) ∧ w' = w)) :
    Calls Tryz.prog 37 #[.pointer (some ⟨r, 0, none⟩), .string s, .int .i64 (n : Int), .int .i64 5] w fun x w' => x = .returned (.int .i64 0) ∧ ∃ a c, RefAt w' r { R with fs := R.fs.set i ⟨f.nm, a, c, f.bs.set n (flipB (f.bs.getD n 0) 5), f.wr⟩ } ∧ f.bs.length ≤ c ∧ Moved w w' (R.foot r) (({ R with fs := R.fs.set i ⟨f.nm, a, c, f.bs.set n (flipB (f.bs.getD n 0) 5), f.wr⟩ } : RM).foot r) := by
  obtain ⟨aL, cL, hvL, hcL, hfc⟩ := h.files
  obtain ⟨g, rfl, hg, m0, m1, m2⟩ := hfc i f hi
  have hgl := (h.rowL.lt g hg).2
  have hrl := h.head.lt
  have c1 := h.c1
  rw [hvL] at c1
  have hmem : f ∈ R.fs := List.mem_of_getElem? hi
  have hil : i < R.fs.length := (List.getElem?_eq_some_iff.1 hi).1
  obtain ⟨j0, hinf8, hq80, hq81, hq82⟩ := info_parts info8D
  have hB1 : Below w.heap.size w (w.alloc (.cells #[] 5)) := (Below.refl _ w).alloc (Nat.le_refl _) _
  have hsf : Sees (w.alloc (.cells #[] 5)) f.ao f.bs := (h.sees f hmem).below hB1 (Nat.le_refl _)
  have HS : Hid (Src Tryz.prog 1 29 (.slice f.ao f.bs.length f.cap) f.bs.length (B8 f.bs) (w.alloc (.cells #[] 5))) := src_sees Tryz.underlying29 hsf (h.zero f hmem) f.cap
  have HR0 : Hid ((w.alloc (.cells #[] 5)).ownsRow w.heap.size 5 1 (.slice (some ⟨w.heap.size, 0, none⟩) 0 0) 0 []) := row08 w
  have HZ : Hid (w.heap.size ≤ (w.alloc (.cells #[] 5)).heap.size) := by show _ ≤ _; simp
  have HEN : Hid (∀ w2 v2, w2.ownsRow w.heap.size 5 1 v2 (0 + f.bs.length) ([] ++ B8 f.bs) → Grew (w.alloc (.cells #[] 5)) w2 (.slice (some ⟨w.heap.size, 0, none⟩) 0 0) v2 →
      ∃ g2 c2, v2 = .slice (some ⟨g2, 0, none⟩) f.bs.length c2 ∧ f.bs.length ≤ c2 ∧ w2.cell? ⟨g2, n, none⟩ = some (.int .u8 ((f.bs.getD n 0).toNat : Int)) ∧ w2.frozen? ⟨g2, n, none⟩ = false ∧
        w2.cell? ⟨r, 1, none⟩ = some (.slice (some ⟨g, 0, none⟩) R.fs.length cL) ∧ w2.cell? ⟨g, i * 3 + 1, none⟩ = some (.slice f.ao f.bs.length f.cap) ∧ w2.frozen? ⟨g, i * 3 + 1, none⟩ = false ∧ g2 ≠ g ∧ g2 ≠ r ∧
        ∀ y : Int, y = ((flipB (f.bs.getD n 0) 5).toNat : Int) → RefAt ((w2.setCell ⟨g2, n, none⟩ (.int .u8 y)).setCell ⟨g, i * 3 + 1, none⟩ (.slice (some ⟨g2, 0, none⟩) f.bs.length c2)) r { R with fs := R.fs.set i ⟨f.nm, some ⟨g2, 0, none⟩, c2, f.bs.set n (flipB (f.bs.getD n 0) 5), f.wr⟩ } ∧
          Moved w ((w2.setCell ⟨g2, n, none⟩ (.int .u8 y)).setCell ⟨g, i * 3 + 1, none⟩ (.slice (some ⟨g2, 0, none⟩) f.bs.length c2)) (R.foot r) (({ R with fs := R.fs.set i ⟨f.nm, some ⟨g2, 0, none⟩, c2, f.bs.set n (flipB (f.bs.getD n 0) 5), f.wr⟩ } : RM).foot r)) := fun w2 v2 ho hgr => by
    rw [Nat.zero_add, List.nil_append] at ho
    obtain ⟨g2, c2, rfl, hc2⟩ := owns_form1 ho (by omega)
    have hg2 := ho.lt g2 rfl
    have hgw : w.grownBy w2 none := (World.grownBy_alloc w (.cells #[] 5) none).andThen hgr.rows (fun j hj => .inl (by cases hj; exact Nat.le_refl _))
    have hcell := ho.cells (g := g2) rfl n _ (B8_at f.bs n hnl)
    rw [Addr.add_lit, Nat.zero_add] at hcell
    have hrow := owns_up h.rowL hgw
    rw [hvL] at hrow
    refine ⟨g2, c2, rfl, hc2, hcell, owns_frozen ho _, (World.cell?_of_block (a := ⟨r, 1, none⟩) (hgw.block r hrl (by simp))).trans c1, (World.cell?_of_block (a := ⟨g, i * 3 + 1, none⟩) (hgw.block g hgl (by simp))).trans m1, owns_frozen hrow _, by omega, by omega, fun y hy => ?_⟩
    subst hy
    have hst := (ho.stored n (.int .u8 ((flipB (f.bs.getD n 0) 5).toNat : Int))).1
    have hB : B8 (f.bs.set n (flipB (f.bs.getD n 0) 5)) = (B8 f.bs).set n (.int .u8 ((flipB (f.bs.getD n 0) 5).toNat : Int)) := by simp [B8, List.map_set]
    rw [← hB] at hst
    obtain ⟨a5, c5, e5, hs5, hl5, -, -, -⟩ := owns_seesR hst
    cases e5
    have hgw3 : w.grownBy (w2.setCell ⟨g2, n, none⟩ (.int .u8 ((flipB (f.bs.getD n 0) 5).toNat : Int))) none := grown_set hgw hg2.1 n _
    exact h.putFile hgw3 hi hvL 1 (by omega) (.slice (some ⟨g2, 0, none⟩) f.bs.length c2) ⟨f.nm, some ⟨g2, 0, none⟩, c2, f.bs.set n (flipB (f.bs.getD n 0) 5), f.wr⟩ (by simp [RF.cells]) hs5 (fun e => by cases e) (fun q hq => .inr (by
      simp [RF.blk] at hq
      subst hq
      rw [size_setCell]
      exact hg2))
  have hx := (f.bs.getD n 0).toNat_lt
  have hfx := flip_text5 _ hx
  rw [UInt8.ofNat_toNat] at hfx
  have hnz : (n : Int) < (f.bs.length : Int) := by omega
  have hblz : (f.bs.length : Int) ≤ 1099511627776 := by omega
  have hilz : (i : Int) < (R.fs.length : Int) := by omega
  have hRz : (R.fs.length : Int) ≤ 1000000 := by omega
  have hm3 : 0 + f.bs.length ≤ maxLen := by unfold maxLen; omega
  have hm4 : (0 + f.bs.length) * 1 ≤ 140737488355328 := by omega
  have hbx : ((f.bs.getD n 0).toNat : Int) ≤ 255 := by omega
  have c1' : (w.alloc (.cells #[] 5)).cell? ⟨r, 1, none⟩ = some (.slice (some ⟨g, 0, none⟩) R.fs.length cL) := (World.cell?_of_block (Below.heap_alloc _ _ _ hrl)).trans c1
  have m1' : (w.alloc (.cells #[] 5)).cell? ⟨g, i * 3 + 1, none⟩ = some (.slice f.ao f.bs.length f.cap) := (World.cell?_of_block (Below.heap_alloc _ _ _ hgl)).trans m1
  clear h hfc hsf hB1 hvL hcL hmem hil m0 m2 hx hn hbl hi hg hgl hrl
  obtain ⟨fx, hfx2⟩ : ∃ z, (f.bs.getD n 0).toNat = z := ⟨_, rfl⟩
  rw [hfx2] at hfx hbx HEN
  clear hfx2
  have HFX : Hid (bits BinOp.xor IntKind.u8 (fx : Int) 32 = ((flipB (f.bs.getD n 0) 5).toNat : Int)) := hfx
  have HNL : Hid (n < f.bs.length) := hnl
  clear hfx hnl
  go_enter Tryz.func37, Tryz.ntmps37
  go_wp2_with fail
  refine K.out.mono ?_
  rintro x _ ⟨rfl, hw⟩
  obtain rfl := hw.symm
  go_wp2_with fail
  refine A.out.mono ?_
  rintro x _ ⟨rfl, hw⟩
  obtain rfl := hw.symm
  go_wp2_with (at_builtin; go_must (refine wpList_append_grew _ rfl (.tmp 44) (.tmp 52) 29 29 rfl w.heap.size 5 j0 (.int .u8 0) 1 1 Tryz.underlying29 hinf8 hq80 hq81 hq82 rfl _ 0 [] rfl HR0.out (.slice f.ao f.bs.length f.cap) f.bs.length (B8 f.bs) rfl HS.out hm3 hm4 HZ.out ?_; intro v2 w2 ho2 hg2; obtain ⟨g2, c2, rfl, hc2, z1, z2, z3, z4, z5, z6, z7, HFN⟩ := HEN.out _ _ ho2 hg2; have HF2 := HFN _ HFX.out; clear HFN ho2 hg2))
  go_ret
  exact ⟨rfl, _, _, HF2.1, hc2, HF2.2⟩
set_option maxRecDepth 100000 in
set_option maxHeartbeats 800000 in
theorem ref_spoil6 {w : World} {r : Nat} {R : RM} (h : RefAt w r R) (s : ByteArray) {i : Nat} {f : RF} (hi : R.fs[i]? = some f) (hn : R.fs.length ≤ 1000000) (hbl : f.bs.length ≤ 1099511627776) (n : Nat) (hnl : n < f.bs.length)
    (K : Hid (Calls Tryz.prog 71 #[.pointer (some ⟨r, 0, none⟩), .string s] w fun x w' => x = .returned (.int .i64 0) ∧ w' = w))
    (A : Hid (Calls Tryz.prog 64 #[.pointer (some ⟨r, 0, none⟩), .string s] w fun x w' => x = .returned (.int .i64 (i : Int)) ∧ w' = w)) :
    Calls Tryz.prog 37 #[.pointer (some ⟨r, 0, none⟩), .string s, .int .i64 (n : Int), .int .i64 6] w fun x w' => x = .returned (.int .i64 0) ∧ ∃ a c, RefAt w' r { R with fs := R.fs.set i ⟨f.nm, a, c, f.bs.set n (flipB (f.bs.getD n 0) 6), f.wr⟩ } ∧ f.bs.length ≤ c ∧ Moved w w' (R.foot r) (({ R with fs := R.fs.set i ⟨f.nm, a, c, f.bs.set n (flipB (f.bs.getD n 0) 6), f.wr⟩ } : RM).foot r) := by
  obtain ⟨aL, cL, hvL, hcL, hfc⟩ := h.files
  obtain ⟨g, rfl, hg, m0, m1, m2⟩ := hfc i f hi
  have hgl := (h.rowL.lt g hg).2
  have hrl := h.head.lt
  have c1 := h.c1
  rw [hvL] at c1
  have hmem : f ∈ R.fs := List.mem_of_getElem? hi
  have hil : i < R.fs.length := (List.getElem?_eq_some_iff.1 hi).1
  obtain ⟨j0, hinf8, hq80, hq81, hq82⟩ := info_parts info8D
  have hB1 : Below w.heap.size w (w.alloc (.cells #[] 5)) := (Below.refl _ w).alloc (Nat.le_refl _) _
  have hsf : Sees (w.alloc (.cells #[] 5)) f.ao f.bs := (h.sees f hmem).below hB1 (Nat.le_refl _)
  have HS : Hid (Src Tryz.prog 1 29 (.slice f.ao f.bs.length f.cap) f.bs.length (B8 f.bs) (w.alloc (.cells #[] 5))) := src_sees Tryz.underlying29 hsf (h.zero f hmem) f.cap
  have HR0 : Hid ((w.alloc (.cells #[] 5)).ownsRow w.heap.size 5 1 (.slice (some ⟨w.heap.size, 0, none⟩) 0 0) 0 []) := row08 w
  have HZ : Hid (w.heap.size ≤ (w.alloc (.cells #[] 5)).heap.size) := by show _ ≤ _; simp
  have HEN : Hid (∀ w2 v2, w2.ownsRow w.heap.size 5 1 v2 (0 + f.bs.length) ([] ++ B8 f.bs) → Grew (w.alloc (.cells #[] 5)) w2 (.slice (some ⟨w.heap.size, 0, none⟩) 0 0) v2 →
      ∃ g2 c2, v2 = .slice (some ⟨g2, 0, none⟩) f.bs.length c2 ∧ f.bs.length ≤ c2 ∧ w2.cell? ⟨g2, n, none⟩ = some (.int .u8 ((f.bs.getD n 0).toNat : Int)) ∧ w2.frozen? ⟨g2, n, none⟩ = false ∧
        w2.cell? ⟨r, 1, none⟩ = some (.slice (some ⟨g, 0, none⟩) R.fs.length cL) ∧ w2.cell? ⟨g, i * 3 + 1, none⟩ = some (.slice f.ao f.bs.length f.cap) ∧ w2.frozen? ⟨g, i * 3 + 1, none⟩ = false ∧ g2 ≠ g ∧ g2 ≠ r ∧
        ∀ y : Int, y = ((flipB (f.bs.getD n 0) 6).toNat : Int) → RefAt ((w2.setCell ⟨g2, n, none⟩ (.int .u8 y)).setCell ⟨g, i * 3 + 1, none⟩ (.slice (some ⟨g2, 0, none⟩) f.bs.length c2)) r { R with fs := R.fs.set i ⟨f.nm, some ⟨g2, 0, none⟩, c2, f.bs.set n (flipB (f.bs.getD n 0) 6), f.wr⟩ } ∧
          Moved w ((w2.setCell ⟨g2, n, none⟩ (.int .u8 y)).setCell ⟨g, i * 3 + 1, none⟩ (.slice (some ⟨g2, 0, none⟩) f.bs.length c2)) (R.foot r) (({ R with fs := R.fs.set i ⟨f.nm, some ⟨g2, 0, none⟩, c2, f.bs.set n (flipB (f.bs.getD n 0) 6), f.wr⟩ } : RM).foot r)) := fun w2 v2 ho hgr => by
    rw [Nat.zero_add, List.nil_append] at ho
    obtain ⟨g2, c2, rfl, hc2⟩ := owns_form1 ho (by omega)
    have hg2 := ho.lt g2 rfl
    have hgw : w.grownBy w2 none := (World.grownBy_alloc w (.cells #[] 5) none).andThen hgr.rows (fun j hj => .inl (by cases hj; exact Nat.le_refl _))
    have hcell := ho.cells (g := g2) rfl n _ (B8_at f.bs n hnl)
    rw [Addr.add_lit, Nat.zero_add] at hcell
    have hrow := owns_up h.rowL hgw
    rw [hvL] at hrow
    refine ⟨g2, c2, rfl, hc2, hcell, owns_frozen ho _, (World.cell?_of_block (a := ⟨r, 1, none⟩) (hgw.block r hrl (by simp))).trans c1, (World.cell?_of_block (a := ⟨g, i * 3 + 1, none⟩) (hgw.block g hgl (by simp))).trans m1, owns_frozen hrow _, by omega, by omega, fun y hy => ?_⟩
    subst hy
    have hst := (ho.stored n (.int .u8 ((flipB (f.bs.getD n 0) 6).toNat : Int))).1
    have hB : B8 (f.bs.set n (flipB (f.bs.getD n 0) 6)) = (B8 f.bs).set n (.int .u8 ((flipB (f.bs.getD n 0) 6).toNat : Int)) := by simp [B8, List.map_set]
    rw [← hB] at hst
    obtain ⟨a5, c5, e5, hs5, hl5, -, -, -⟩ := owns_seesR hst
    cases e5
    have hgw3 : w.grownBy (w2.setCell ⟨g2, n, none⟩ (.int .u8 ((flipB (f.bs.getD n 0) 6).toNat : Int))) none := grown_set hgw hg2.1 n _
    exact h.putFile hgw3 hi hvL 1 (by omega) (.slice (some ⟨g2, 0, none⟩) f.bs.length c2) ⟨f.nm, some ⟨g2, 0, none⟩, c2, f.bs.set n (flipB (f.bs.getD n 0) 6), f.wr⟩ (by simp [RF.cells]) hs5 (fun e => by cases e) (fun q hq => .inr (by
      simp [RF.blk] at hq
      subst hq
      rw [size_setCell]
      exact hg2))
  have hx := (f.bs.getD n 0).toNat_lt
  have hfx := flip_text6 _ hx
  rw [UInt8.ofNat_toNat] at hfx
  have hnz : (n : Int) < (f.bs.length : Int) := by omega
  have hblz : (f.bs.length : Int) ≤ 1099511627776 := by omega
  have hilz : (i : Int) < (R.fs.length : Int) := by omega
  have hRz : (R.fs.length : Int) ≤ 1000000 := by omega
  have hm3 : 0 + f.bs.length ≤ maxLen := by unfold maxLen; omega
  have hm4 : (0 + f.bs.length) * 1 ≤ 140737488355328 := by omega
  have hbx : ((f.bs.getD n 0).toNat : Int) ≤ 255 := by omega
  have c1' : (w.alloc (.cells #[] 5)).cell? ⟨r, 1, none⟩ = some (.slice (some ⟨g, 0, none⟩) R.fs.length cL) := (World.cell?_of_block (Below.heap_alloc _ _ _ hrl)).trans c1
  have m1' : (w.alloc (.cells #[] 5)).cell? ⟨g, i * 3 + 1, none⟩ = some (.slice f.ao f.bs.length f.cap) := (World.cell?_of_block (Below.heap_alloc _ _ _ hgl)).trans m1
  clear h hfc hsf hB1 hvL hcL hmem hil m0 m2 hx hn hbl hi hg hgl hrl
  obtain ⟨fx, hfx2⟩ : ∃ z, (f.bs.getD n 0).toNat = z := ⟨_, rfl⟩
  rw [hfx2] at hfx hbx HEN
  clear hfx2
  have HFX : Hid (bits BinOp.xor IntKind.u8 (fx : Int) 64 = ((flipB (f.bs.getD n 0) 6).toNat : Int)) := hfx
  have HNL : Hid (n < f.bs.length) := hnl
  clear hfx hnl
  go_enter Tryz.func37, Tryz.ntmps37
  go_wp2_with fail
  refine K.out.mono ?_
  rintro x _ ⟨rfl, hw⟩
  obtain rfl := hw.symm
  go_wp2_with fail
  refine A.out.mono ?_
  rintro x _ ⟨rfl, hw⟩
  obtain rfl := hw.symm
  go_wp2_with (at_builtin; go_must (refine wpList_append_grew _ rfl (.tmp 44) (.tmp 52) 29 29 rfl w.heap.size 5 j0 (.int .u8 0) 1 1 Tryz.underlying29 hinf8 hq80 hq81 hq82 rfl _ 0 [] rfl HR0.out (.slice f.ao f.bs.length f.cap) f.bs.length (B8 f.bs) rfl HS.out hm3 hm4 HZ.out ?_; intro v2 w2 ho2 hg2; obtain ⟨g2, c2, rfl, hc2, z1, z2, z3, z4, z5, z6, z7, HFN⟩ := HEN.out _ _ ho2 hg2; have HF2 := HFN _ HFX.out; clear HFN ho2 hg2))
  go_ret
  exact ⟨rfl, _, _, HF2.1, hc2, HF2.2⟩
set_option maxRecDepth 100000 in
set_option maxHeartbeats 800000 in
theorem ref_spoil7 {w : World} {r : Nat} {R : RM} (h : RefAt w r R) (s : ByteArray) {i : Nat} {f : RF} (hi : R.fs[i]? = some f) (hn : R.fs.length ≤ 1000000) (hbl : f.bs.length ≤ 1099511627776) (n : Nat) (hnl : n < f.bs.length)
    (K : Hid (Calls Tryz.prog 71 #[.pointer (some ⟨r, 0, none⟩), .string s] w fun x w' => x = .returned (.int .i64 0) ∧ w' = w))
    (A : Hid (Calls Tryz.prog 64 #[.pointer (some ⟨r, 0, none⟩), .string s] w fun x w' => x = .returned (.int .i64 (i : Int)) ∧ w' = w)) :
    Calls Tryz.prog 37 #[.pointer (some ⟨r, 0, none⟩), .string s, .int .i64 (n : Int), .int .i64 7] w fun x w' => x = .returned (.int .i64 0) ∧ ∃ a c, RefAt w' r { R with fs := R.fs.set i ⟨f.nm, a, c, f.bs.set n (flipB (f.bs.getD n 0) 7), f.wr⟩ } ∧ f.bs.length ≤ c ∧ Moved w w' (R.foot r) (({ R with fs := R.fs.set i ⟨f.nm, a, c, f.bs.set n (flipB (f.bs.getD n 0) 7), f.wr⟩ } : RM).foot r) := by
  obtain ⟨aL, cL, hvL, hcL, hfc⟩ := h.files
  obtain ⟨g, rfl, hg, m0, m1, m2⟩ := hfc i f hi
  have hgl := (h.rowL.lt g hg).2
  have hrl := h.head.lt
  have c1 := h.c1
  rw [hvL] at c1
  have hmem : f ∈ R.fs := List.mem_of_getElem? hi
  have hil : i < R.fs.length := (List.getElem?_eq_some_iff.1 hi).1
  obtain ⟨j0, hinf8, hq80, hq81, hq82⟩ := info_parts info8D
  have hB1 : Below w.heap.size w (w.alloc (.cells #[] 5)) := (Below.refl _ w).alloc (Nat.le_refl _) _
  have hsf : Sees (w.alloc (.cells #[] 5)) f.ao f.bs := (h.sees f hmem).below hB1 (Nat.le_refl _)
  have HS : Hid (Src Tryz.prog 1 29 (.slice f.ao f.bs.length f.cap) f.bs.length (B8 f.bs) (w.alloc (.cells #[] 5))) := src_sees Tryz.underlying29 hsf (h.zero f hmem) f.cap
  have HR0 : Hid ((w.alloc (.cells #[] 5)).ownsRow w.heap.size 5 1 (.slice (some ⟨w.heap.size, 0, none⟩) 0 0) 0 []) := row08 w
  have HZ : Hid (w.heap.size ≤ (w.alloc (.cells #[] 5)).heap.size) := by show _ ≤ _; simp
  have HEN : Hid (∀ w2 v2, w2.ownsRow w.heap.size 5 1 v2 (0 + f.bs.length) ([] ++ B8 f.bs) → Grew (w.alloc (.cells #[] 5)) w2 (.slice (some ⟨w.heap.size, 0, none⟩) 0 0) v2 →
      ∃ g2 c2, v2 = .slice (some ⟨g2, 0, none⟩) f.bs.length c2 ∧ f.bs.length ≤ c2 ∧ w2.cell? ⟨g2, n, none⟩ = some (.int .u8 ((f.bs.getD n 0).toNat : Int)) ∧ w2.frozen? ⟨g2, n, none⟩ = false ∧
        w2.cell? ⟨r, 1, none⟩ = some (.slice (some ⟨g, 0, none⟩) R.fs.length cL) ∧ w2.cell? ⟨g, i * 3 + 1, none⟩ = some (.slice f.ao f.bs.length f.cap) ∧ w2.frozen? ⟨g, i * 3 + 1, none⟩ = false ∧ g2 ≠ g ∧ g2 ≠ r ∧
        ∀ y : Int, y = ((flipB (f.bs.getD n 0) 7).toNat : Int) → RefAt ((w2.setCell ⟨g2, n, none⟩ (.int .u8 y)).setCell ⟨g, i * 3 + 1, none⟩ (.slice (some ⟨g2, 0, none⟩) f.bs.length c2)) r { R with fs := R.fs.set i ⟨f.nm, some ⟨g2, 0, none⟩, c2, f.bs.set n (flipB (f.bs.getD n 0) 7), f.wr⟩ } ∧
          Moved w ((w2.setCell ⟨g2, n, none⟩ (.int .u8 y)).setCell ⟨g, i * 3 + 1, none⟩ (.slice (some ⟨g2, 0, none⟩) f.bs.length c2)) (R.foot r) (({ R with fs := R.fs.set i ⟨f.nm, some ⟨g2, 0, none⟩, c2, f.bs.set n (flipB (f.bs.getD n 0) 7), f.wr⟩ } : RM).foot r)) := fun w2 v2 ho hgr => by
    rw [Nat.zero_add, List.nil_append] at ho
    obtain ⟨g2, c2, rfl, hc2⟩ := owns_form1 ho (by omega)
    have hg2 := ho.lt g2 rfl
    have hgw : w.grownBy w2 none := (World.grownBy_alloc w (.cells #[] 5) none).andThen hgr.rows (fun j hj => .inl (by cases hj; exact Nat.le_refl _))
    have hcell := ho.cells (g := g2) rfl n _ (B8_at f.bs n hnl)
    rw [Addr.add_lit, Nat.zero_add] at hcell
    have hrow := owns_up h.rowL hgw
    rw [hvL] at hrow
    refine ⟨g2, c2, rfl, hc2, hcell, owns_frozen ho _, (World.cell?_of_block (a := ⟨r, 1, none⟩) (hgw.block r hrl (by simp))).trans c1, (World.cell?_of_block (a := ⟨g, i * 3 + 1, none⟩) (hgw.block g hgl (by simp))).trans m1, owns_frozen hrow _, by omega, by omega, fun y hy => ?_⟩
    subst hy
    have hst := (ho.stored n (.int .u8 ((flipB (f.bs.getD n 0) 7).toNat : Int))).1
    have hB : B8 (f.bs.set n (flipB (f.bs.getD n 0) 7)) = (B8 f.bs).set n (.int .u8 ((flipB (f.bs.getD n 0) 7).toNat : Int)) := by simp [B8, List.map_set]
    rw [← hB] at hst
    obtain ⟨a5, c5, e5, hs5, hl5, -, -, -⟩ := owns_seesR hst
    cases e5
    have hgw3 : w.grownBy (w2.setCell ⟨g2, n, none⟩ (.int .u8 ((flipB (f.bs.getD n 0) 7).toNat : Int))) none := grown_set hgw hg2.1 n _
    exact h.putFile hgw3 hi hvL 1 (by omega) (.slice (some ⟨g2, 0, none⟩) f.bs.length c2) ⟨f.nm, some ⟨g2, 0, none⟩, c2, f.bs.set n (flipB (f.bs.getD n 0) 7), f.wr⟩ (by simp [RF.cells]) hs5 (fun e => by cases e) (fun q hq => .inr (by
      simp [RF.blk] at hq
      subst hq
      rw [size_setCell]
      exact hg2))
  have hx := (f.bs.getD n 0).toNat_lt
  have hfx := flip_text7 _ hx
  rw [UInt8.ofNat_toNat] at hfx
  have hnz : (n : Int) < (f.bs.length : Int) := by omega
  have hblz : (f.bs.length : Int) ≤ 1099511627776 := by omega
  have hilz : (i : Int) < (R.fs.length : Int) := by omega
  have hRz : (R.fs.length : Int) ≤ 1000000 := by omega
  have hm3 : 0 + f.bs.length ≤ maxLen := by unfold maxLen; omega
  have hm4 : (0 + f.bs.length) * 1 ≤ 140737488355328 := by omega
  have hbx : ((f.bs.getD n 0).toNat : Int) ≤ 255 := by omega
  have c1' : (w.alloc (.cells #[] 5)).cell? ⟨r, 1, none⟩ = some (.slice (some ⟨g, 0, none⟩) R.fs.length cL) := (World.cell?_of_block (Below.heap_alloc _ _ _ hrl)).trans c1
  have m1' : (w.alloc (.cells #[] 5)).cell? ⟨g, i * 3 + 1, none⟩ = some (.slice f.ao f.bs.length f.cap) := (World.cell?_of_block (Below.heap_alloc _ _ _ hgl)).trans m1
  clear h hfc hsf hB1 hvL hcL hmem hil m0 m2 hx hn hbl hi hg hgl hrl
  obtain ⟨fx, hfx2⟩ : ∃ z, (f.bs.getD n 0).toNat = z := ⟨_, rfl⟩
  rw [hfx2] at hfx hbx HEN
  clear hfx2
  have HFX : Hid (bits BinOp.xor IntKind.u8 (fx : Int) 128 = ((flipB (f.bs.getD n 0) 7).toNat : Int)) := hfx
  have HNL : Hid (n < f.bs.length) := hnl
  clear hfx hnl
  go_enter Tryz.func37, Tryz.ntmps37
  go_wp2_with fail
  refine K.out.mono ?_
  rintro x _ ⟨rfl, hw⟩
  obtain rfl := hw.symm
  go_wp2_with fail
  refine A.out.mono ?_
  rintro x _ ⟨rfl, hw⟩
  obtain rfl := hw.symm
  go_wp2_with (at_builtin; go_must (refine wpList_append_grew _ rfl (.tmp 44) (.tmp 52) 29 29 rfl w.heap.size 5 j0 (.int .u8 0) 1 1 Tryz.underlying29 hinf8 hq80 hq81 hq82 rfl _ 0 [] rfl HR0.out (.slice f.ao f.bs.length f.cap) f.bs.length (B8 f.bs) rfl HS.out hm3 hm4 HZ.out ?_; intro v2 w2 ho2 hg2; obtain ⟨g2, c2, rfl, hc2, z1, z2, z3, z4, z5, z6, z7, HFN⟩ := HEN.out _ _ ho2 hg2; have HF2 := HFN _ HFX.out; clear HFN ho2 hg2))
  go_ret
  exact ⟨rfl, _, _, HF2.1, hc2, HF2.2⟩
def spoilQ (Q : RA) (s : ByteArray) (i k : Int) : Int × RA :=
  if knownQ Q s = 0 then
    match findT Q.L (nameOf s) with
    | none => (4, Q)
    | some t => if i < 0 ∨ (t.bs.length : Int) ≤ i ∨ k < 0 ∨ 7 < k then (2, Q) else (0, { Q with L := upd Q.L (nameOf s) ⟨nameOf s, t.bs.set i.toNat (flipB (t.bs.getD i.toNat 0) k.toNat), t.wr, t.pl⟩ })
  else (knownQ Q s, Q)
set_option maxRecDepth 100000 in
set_option maxHeartbeats 800000 in
theorem ref_spoilA0 {w : World} {r : Nat} {R : RM} (h : RefAt w r R) (s : ByteArray) {p : Nat} {f : RF} (hp : R.fs[p]? = some f) (hn : R.fs.length ≤ 1000000) (hbl : f.bs.length ≤ 1099511627776) (i k : Int) (hi : i < 0)
    (K : Hid (Calls Tryz.prog 71 #[.pointer (some ⟨r, 0, none⟩), .string s] w fun x w' => x = .returned (.int .i64 0) ∧ w' = w))
    (A : Hid (Calls Tryz.prog 64 #[.pointer (some ⟨r, 0, none⟩), .string s] w fun x w' => x = .returned (.int .i64 (p : Int)) ∧ w' = w)) :
    Calls Tryz.prog 37 #[.pointer (some ⟨r, 0, none⟩), .string s, .int .i64 i, .int .i64 k] w fun x w' => x = .returned (.int .i64 2) ∧ w' = w := by
  obtain ⟨aL, cL, hvL, hcL, hfc⟩ := h.files
  obtain ⟨g, rfl, hg, m0, m1, m2⟩ := hfc p f hp
  have c1 := h.c1
  rw [hvL] at c1
  have hil : p < R.fs.length := (List.getElem?_eq_some_iff.1 hp).1
  have hilz : (p : Int) < (R.fs.length : Int) := by omega
  have hRz : (R.fs.length : Int) ≤ 1000000 := by omega
  have hblz : (f.bs.length : Int) ≤ 1099511627776 := by omega
  have d0 : (decide (i < 0)) = true := decide_eq_true (by omega)
  clear h hfc hvL hcL hil m0 m2 hn hbl hp hg
  go_enter Tryz.func37, Tryz.ntmps37
  go_wp2_with fail
  refine K.out.mono ?_
  rintro x _ ⟨rfl, hw⟩
  obtain rfl := hw.symm
  go_wp2_with fail
  refine A.out.mono ?_
  rintro x _ ⟨rfl, hw⟩
  obtain rfl := hw.symm
  go_wp2_with fail
  go_ret
  exact ⟨rfl, rfl⟩
set_option maxRecDepth 100000 in
set_option maxHeartbeats 800000 in
theorem ref_spoilA1 {w : World} {r : Nat} {R : RM} (h : RefAt w r R) (s : ByteArray) {p : Nat} {f : RF} (hp : R.fs[p]? = some f) (hn : R.fs.length ≤ 1000000) (hbl : f.bs.length ≤ 1099511627776) (i k : Int) (hi : (f.bs.length : Int) ≤ i) (hi0 : ¬ i < 0)
    (K : Hid (Calls Tryz.prog 71 #[.pointer (some ⟨r, 0, none⟩), .string s] w fun x w' => x = .returned (.int .i64 0) ∧ w' = w))
    (A : Hid (Calls Tryz.prog 64 #[.pointer (some ⟨r, 0, none⟩), .string s] w fun x w' => x = .returned (.int .i64 (p : Int)) ∧ w' = w)) :
    Calls Tryz.prog 37 #[.pointer (some ⟨r, 0, none⟩), .string s, .int .i64 i, .int .i64 k] w fun x w' => x = .returned (.int .i64 2) ∧ w' = w := by
  obtain ⟨aL, cL, hvL, hcL, hfc⟩ := h.files
  obtain ⟨g, rfl, hg, m0, m1, m2⟩ := hfc p f hp
  have c1 := h.c1
  rw [hvL] at c1
  have hil : p < R.fs.length := (List.getElem?_eq_some_iff.1 hp).1
  have hilz : (p : Int) < (R.fs.length : Int) := by omega
  have hRz : (R.fs.length : Int) ≤ 1000000 := by omega
  have hblz : (f.bs.length : Int) ≤ 1099511627776 := by omega
  have d0 : (decide (i < 0)) = false := decide_eq_false (by omega)
  have d1 : (decide ((f.bs.length : Int) ≤ i)) = true := decide_eq_true (by omega)
  clear h hfc hvL hcL hil m0 m2 hn hbl hp hg
  go_enter Tryz.func37, Tryz.ntmps37
  go_wp2_with fail
  refine K.out.mono ?_
  rintro x _ ⟨rfl, hw⟩
  obtain rfl := hw.symm
  go_wp2_with fail
  refine A.out.mono ?_
  rintro x _ ⟨rfl, hw⟩
  obtain rfl := hw.symm
  go_wp2_with fail
  go_ret
  exact ⟨rfl, rfl⟩
set_option maxRecDepth 100000 in
set_option maxHeartbeats 800000 in
theorem ref_spoilA2 {w : World} {r : Nat} {R : RM} (h : RefAt w r R) (s : ByteArray) {p : Nat} {f : RF} (hp : R.fs[p]? = some f) (hn : R.fs.length ≤ 1000000) (hbl : f.bs.length ≤ 1099511627776) (i k : Int) (hk1 : k < 0) (hi0 : ¬ i < 0) (hi1 : i < (f.bs.length : Int))
    (K : Hid (Calls Tryz.prog 71 #[.pointer (some ⟨r, 0, none⟩), .string s] w fun x w' => x = .returned (.int .i64 0) ∧ w' = w))
    (A : Hid (Calls Tryz.prog 64 #[.pointer (some ⟨r, 0, none⟩), .string s] w fun x w' => x = .returned (.int .i64 (p : Int)) ∧ w' = w)) :
    Calls Tryz.prog 37 #[.pointer (some ⟨r, 0, none⟩), .string s, .int .i64 i, .int .i64 k] w fun x w' => x = .returned (.int .i64 2) ∧ w' = w := by
  obtain ⟨aL, cL, hvL, hcL, hfc⟩ := h.files
  obtain ⟨g, rfl, hg, m0, m1, m2⟩ := hfc p f hp
  have c1 := h.c1
  rw [hvL] at c1
  have hil : p < R.fs.length := (List.getElem?_eq_some_iff.1 hp).1
  have hilz : (p : Int) < (R.fs.length : Int) := by omega
  have hRz : (R.fs.length : Int) ≤ 1000000 := by omega
  have hblz : (f.bs.length : Int) ≤ 1099511627776 := by omega
  have d0 : (decide (i < 0)) = false := decide_eq_false (by omega)
  have d1 : (decide ((f.bs.length : Int) ≤ i)) = false := decide_eq_false (by omega)
  have d2 : (decide (k < 0)) = true := decide_eq_true (by omega)
  clear h hfc hvL hcL hil m0 m2 hn hbl hp hg
  go_enter Tryz.func37, Tryz.ntmps37
  go_wp2_with fail
  refine K.out.mono ?_
  rintro x _ ⟨rfl, hw⟩
  obtain rfl := hw.symm
  go_wp2_with fail
  refine A.out.mono ?_
  rintro x _ ⟨rfl, hw⟩
  obtain rfl := hw.symm
  go_wp2_with fail
  go_ret
  exact ⟨rfl, rfl⟩
set_option maxRecDepth 100000 in
set_option maxHeartbeats 800000 in
theorem ref_spoilA3 {w : World} {r : Nat} {R : RM} (h : RefAt w r R) (s : ByteArray) {p : Nat} {f : RF} (hp : R.fs[p]? = some f) (hn : R.fs.length ≤ 1000000) (hbl : f.bs.length ≤ 1099511627776) (i k : Int) (hk2 : 7 < k) (hi0 : ¬ i < 0) (hi1 : i < (f.bs.length : Int)) (hk0 : ¬ k < 0)
    (K : Hid (Calls Tryz.prog 71 #[.pointer (some ⟨r, 0, none⟩), .string s] w fun x w' => x = .returned (.int .i64 0) ∧ w' = w))
    (A : Hid (Calls Tryz.prog 64 #[.pointer (some ⟨r, 0, none⟩), .string s] w fun x w' => x = .returned (.int .i64 (p : Int)) ∧ w' = w)) :
    Calls Tryz.prog 37 #[.pointer (some ⟨r, 0, none⟩), .string s, .int .i64 i, .int .i64 k] w fun x w' => x = .returned (.int .i64 2) ∧ w' = w := by
  obtain ⟨aL, cL, hvL, hcL, hfc⟩ := h.files
  obtain ⟨g, rfl, hg, m0, m1, m2⟩ := hfc p f hp
  have c1 := h.c1
  rw [hvL] at c1
  have hil : p < R.fs.length := (List.getElem?_eq_some_iff.1 hp).1
  have hilz : (p : Int) < (R.fs.length : Int) := by omega
  have hRz : (R.fs.length : Int) ≤ 1000000 := by omega
  have hblz : (f.bs.length : Int) ≤ 1099511627776 := by omega
  have d0 : (decide (i < 0)) = false := decide_eq_false (by omega)
  have d1 : (decide ((f.bs.length : Int) ≤ i)) = false := decide_eq_false (by omega)
  have d2 : (decide (k < 0)) = false := decide_eq_false (by omega)
  have d3 : (decide (7 < k)) = true := decide_eq_true (by omega)
  clear h hfc hvL hcL hil m0 m2 hn hbl hp hg
  go_enter Tryz.func37, Tryz.ntmps37
  go_wp2_with fail
  refine K.out.mono ?_
  rintro x _ ⟨rfl, hw⟩
  obtain rfl := hw.symm
  go_wp2_with fail
  refine A.out.mono ?_
  rintro x _ ⟨rfl, hw⟩
  obtain rfl := hw.symm
  go_wp2_with fail
  go_ret
  exact ⟨rfl, rfl⟩
set_option maxRecDepth 100000 in
set_option maxHeartbeats 1600000 in
theorem ra_Spoil {w : World} {r : Nat} {Q : RA} {fr : List Nat} (h : RAt r Q fr w) (hF : Q.Fit) (s : ByteArray) (hs : s.size ≤ maxLen) (i k : Int) :
    Calls Tryz.prog 37 #[.pointer (some ⟨r, 0, none⟩), .string s, .int .i64 i, .int .i64 k] w (ROut r fr w (spoilQ Q s i k)) := by
  obtain ⟨R, h1, rfl, rfl, hcap⟩ := h
  have hn : R.fs.length ≤ 1000000 := by have := hF.few; rwa [show R.abs.L.length = R.fs.length from len_sig _] at this
  have K : Hid (Calls Tryz.prog 71 #[.pointer (some ⟨r, 0, none⟩), .string s] w fun x w' => x = .returned (.int .i64 (knownQ R.abs s)) ∧ w' = w) := ref_known h1 hn s hs
  by_cases hk : knownQ R.abs s = 0
  · obtain ⟨t0, ht0⟩ := known_find hk
    rw [hk] at K
    have HQ : spoilQ R.abs s i k = (match findT (R.fs.map RF.sig) (nameOf s) with
      | none => ((4 : Int), R.abs)
      | some t => if i < 0 ∨ (t.bs.length : Int) ≤ i ∨ k < 0 ∨ 7 < k then ((2 : Int), R.abs) else ((0 : Int), { R.abs with L := upd (R.fs.map RF.sig) (nameOf s) ⟨nameOf s, t.bs.set i.toNat (flipB (t.bs.getD i.toNat 0) k.toNat), t.wr, t.pl⟩ })) := by
      unfold spoilQ
      rw [if_pos hk]
      rfl
    rcases at_cases R.fs (nameOf s) with ⟨_, e2⟩ | ⟨p, f, e1, e2, e3, e4⟩
    · have : findT (R.fs.map RF.sig) (nameOf s) = some t0 := ht0
      rw [this] at e2
      cases e2
    rw [e4] at HQ
    have A : Hid (Calls Tryz.prog 64 #[.pointer (some ⟨r, 0, none⟩), .string s] w fun x w' => x = .returned (.int .i64 (p : Int)) ∧ w' = w) := by
      have := ref_at h1 hn s
      rw [e1] at this
      exact this
    have hmem : f ∈ R.fs := List.mem_of_getElem? e2
    have hbl : f.bs.length ≤ 1099511627776 := hF.len f.sig (List.mem_map.2 ⟨f, hmem, rfl⟩)
    have same : ∀ {x : Ending} {w' : World}, x = .returned (.int .i64 2) ∧ w' = w → (i < 0 ∨ (f.bs.length : Int) ≤ i ∨ k < 0 ∨ 7 < k) → ROut r (R.foot r) w (spoilQ R.abs s i k) x w' := by
      rintro x w' ⟨rfl, rfl⟩ hc
      rw [HQ]
      simp only
      rw [if_pos (show i < 0 ∨ (f.sig.bs.length : Int) ≤ i ∨ k < 0 ∨ 7 < k from hc)]
      exact ⟨rfl, _, ⟨R, h1, rfl, rfl, hcap⟩, Moved.refl _ _⟩
    by_cases a1 : i < 0
    · exact (ref_spoilA0 h1 s e2 hn hbl i k a1 K A).mono fun _ _ hh => same hh (.inl a1)
    by_cases a2 : (f.bs.length : Int) ≤ i
    · exact (ref_spoilA1 h1 s e2 hn hbl i k a2 a1 K A).mono fun _ _ hh => same hh (.inr (.inl a2))
    by_cases a3 : k < 0
    · exact (ref_spoilA2 h1 s e2 hn hbl i k a3 a1 (by omega) K A).mono fun _ _ hh => same hh (.inr (.inr (.inl a3)))
    by_cases a4 : 7 < k
    · exact (ref_spoilA3 h1 s e2 hn hbl i k a4 a1 (by omega) a3 K A).mono fun _ _ hh => same hh (.inr (.inr (.inr a4)))
    obtain ⟨n, rfl⟩ : ∃ n : Nat, i = (n : Int) := ⟨i.toNat, by omega⟩
    have hnl : n < f.bs.length := by omega
    rw [HQ]
    simp only
    rw [if_neg (show ¬ ((n : Int) < 0 ∨ (f.sig.bs.length : Int) ≤ (n : Int) ∨ k < 0 ∨ 7 < k) from by
      have e : f.sig.bs.length = f.bs.length := rfl
      omega)]
    have fin : ∀ j : Nat, ∀ {x : Ending} {w' : World}, (x = .returned (.int .i64 0) ∧ ∃ a c, RefAt w' r { R with fs := R.fs.set p ⟨f.nm, a, c, f.bs.set n (flipB (f.bs.getD n 0) j), f.wr⟩ } ∧ f.bs.length ≤ c ∧ Moved w w' (R.foot r) (({ R with fs := R.fs.set p ⟨f.nm, a, c, f.bs.set n (flipB (f.bs.getD n 0) j), f.wr⟩ } : RM).foot r)) →
        ROut r (R.foot r) w ((0 : Int), { R.abs with L := upd (R.fs.map RF.sig) (nameOf s) ⟨nameOf s, f.sig.bs.set (n : Int).toNat (flipB (f.sig.bs.getD (n : Int).toNat 0) j), f.sig.wr, f.sig.pl⟩ }) x w' := by
      rintro j x w' ⟨rfl, a, c, b1, b2, b3⟩
      refine ⟨rfl, _, ⟨_, b1, ?_, rfl, fun x hx => (List.mem_or_eq_of_mem_set hx).elim (fun h => hcap x h) (fun e => by subst e; show (f.bs.set n _).length ≤ c; rw [List.length_set]; exact b2)⟩, b3⟩
      show RA.mk ((R.fs.set p ⟨f.nm, a, c, f.bs.set n (flipB (f.bs.getD n 0) j), f.wr⟩).map RF.sig) _ _ _ _ _ _ = _
      rw [set_sig R.fs p f _ hF.sorted e2, e3]
      have en : (n : Int).toNat = n := by omega
      rw [en]
      rfl
    have hk8 : k = 0 ∨ k = 1 ∨ k = 2 ∨ k = 3 ∨ k = 4 ∨ k = 5 ∨ k = 6 ∨ k = 7 := by omega
    rcases hk8 with rfl | rfl | rfl | rfl | rfl | rfl | rfl | rfl
    · exact (ref_spoil0 h1 s e2 hn hbl n hnl K A).mono fun _ _ hh => fin 0 hh
    · exact (ref_spoil1 h1 s e2 hn hbl n hnl K A).mono fun _ _ hh => fin 1 hh
    · exact (ref_spoil2 h1 s e2 hn hbl n hnl K A).mono fun _ _ hh => fin 2 hh
    · exact (ref_spoil3 h1 s e2 hn hbl n hnl K A).mono fun _ _ hh => fin 3 hh
    · exact (ref_spoil4 h1 s e2 hn hbl n hnl K A).mono fun _ _ hh => fin 4 hh
    · exact (ref_spoil5 h1 s e2 hn hbl n hnl K A).mono fun _ _ hh => fin 5 hh
    · exact (ref_spoil6 h1 s e2 hn hbl n hnl K A).mono fun _ _ hh => fin 6 hh
    · exact (ref_spoil7 h1 s e2 hn hbl n hnl K A).mono fun _ _ hh => fin 7 hh
  · have hkb : (knownQ R.abs s == 0) = false := beq_eq_false_iff_ne.2 hk
    have HQ : Hid (spoilQ R.abs s i k = (knownQ R.abs s, R.abs)) := if_neg hk
    have H1 : Hid (RefAt w r R) := h1
    have HC : Hid (CapOk R.fs) := hcap
    generalize spoilQ R.abs s i k = q at *
    generalize knownQ R.abs s = kq at *
    clear hk hn hF h1 hcap
    go_enter Tryz.func37, Tryz.ntmps37
    go_wp2_with fail
    refine K.out.mono ?_
    rintro x _ ⟨rfl, hw⟩
    obtain rfl := hw.symm
    go_wp2_with fail
    go_ret
    rw [HQ.out]
    exact ⟨rfl, _, ⟨R, H1.out, rfl, rfl, HC.out⟩, Moved.refl _ _⟩
end Go.Proofs.YtoeoioigelknnaaGreat

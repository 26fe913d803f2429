/-
  SEVERAL TEXTS IN ONE: CxRefMore, WalFirst, WkAppend.
-/
import Derived.Test.YtglaocghcgcghaaGreatDoorCxRefNorm
import Derived.Test.YtglaocghcgcghaaGreatDoorMany20
import Derived.Test.YtglaocghcgcghaaGreatDoorMany26
import Derived.Test.YtglaocghcgcghaaGreatDoorMany19
namespace Go.Proofs.YtglaocghcgcghaaGreatDoor
open Go.RowKit

theorem owMono {w : World} {b b' : Nat} {e : TypeId} {size : Nat} {v : Value} {n : Nat} {xs : List Value} (h : w.ownsRow b e size v n xs) (hb : b' ≤ b) : w.ownsRow b' e size v n xs := by
  refine ⟨h.1, ?_⟩
  rcases h.2 with hn | ⟨g, cap, cur, rfl, hg, r⟩
  · exact .inl hn
  · exact .inr ⟨g, cap, cur, rfl, Nat.le_trans hb hg, r⟩
theorem nrm_len (l : List Cx) : (nrm l).length ≤ l.length := by
  refine snoc_ind (P := fun l => (nrm l).length ≤ l.length) (by simp [nrm]) (fun l x h => ?_) l
  rw [nrm_snoc, List.length_append, List.length_singleton]
  have := addC_len (nrm l) x
  omega
attribute [local irreducible] wpQuiet
set_option maxRecDepth 100000 in
set_option maxHeartbeats 1000000 in
theorem likeX_same (ao bo : Option Addr) (l : List Cx) (ca cb : Nat) (w : World) (ha : XSees w ao l) (hb : XSees w bo l) (hl : l.length ≤ 1000000) :
    Calls Tryz.prog 34 #[.slice ao l.length ca, .slice bo l.length cb] w fun e w' => e = .returned (.bool true) ∧ Below w.heap.size w w' := by
  have hlz : (l.length : Int) ≤ 1000000 := by omega
  go_enter Tryz.func34, Tryz.ntmps34
  go_wp2_with fail
  go_loopw [13] (fun s13 wr => ∃ i : Nat, i ≤ l.length ∧ s13 = .int .i64 i ∧ Below w.heap.size w wr) (fun s13 _ => l.length - (intOf s13).toNat)
  case atStart => exact ⟨0, by omega, rfl, Below.refl _ _⟩
  case round =>
    obtain ⟨i, hi, rfl, hbr⟩ := hrel
    rcases Nat.lt_or_ge i l.length with hlt | hge
    · have hc : l[i]? = some l[i] := List.getElem?_eq_getElem hlt
      obtain ⟨b, off, rfl, tx⟩ := (ha.below hbr (Nat.le_refl _)) i _ hc
      obtain ⟨b', off', rfl, ty⟩ := (hb.below hbr (Nat.le_refl _)) i _ hc
      generalize l[i] = x at *
      obtain ⟨⟨xa, xp, xr, xc⟩, ⟨xt, xd, xl, xk, xn, xs⟩⟩ := x
      have qa0 : ∀ z : Cl wr.heap.size wr, z.u.cell? ⟨b, off + i * 10, none⟩ = some (.string xa) := fun z => (tx.below z.h tx.lt).c0
      have qa1 : ∀ z : Cl wr.heap.size wr, z.u.cell? ⟨b, off + i * 10 + 1, none⟩ = some (.string xp) := fun z => (tx.below z.h tx.lt).c1
      have qa2 : ∀ z : Cl wr.heap.size wr, z.u.cell? ⟨b, off + i * 10 + 2, none⟩ = some (.int .i64 xr) := fun z => (tx.below z.h tx.lt).c2
      have qa3 : ∀ z : Cl wr.heap.size wr, z.u.cell? ⟨b, off + i * 10 + 3, none⟩ = some (.string xc) := fun z => (tx.below z.h tx.lt).c3
      have qa4 : ∀ z : Cl wr.heap.size wr, z.u.cell? ⟨b, off + i * 10 + 4, none⟩ = some (.int .i64 xt) := fun z => (tx.below z.h tx.lt).c4
      have qa5 : ∀ z : Cl wr.heap.size wr, z.u.cell? ⟨b, off + i * 10 + 5, none⟩ = some (.bool xd) := fun z => (tx.below z.h tx.lt).c5
      have qa6 : ∀ z : Cl wr.heap.size wr, z.u.cell? ⟨b, off + i * 10 + 6, none⟩ = some (.int .i64 xl) := fun z => (tx.below z.h tx.lt).c6
      have qa7 : ∀ z : Cl wr.heap.size wr, z.u.cell? ⟨b, off + i * 10 + 7, none⟩ = some (.int .i64 xk) := fun z => (tx.below z.h tx.lt).c7
      have qa8 : ∀ z : Cl wr.heap.size wr, z.u.cell? ⟨b, off + i * 10 + 8, none⟩ = some (.int .i64 xn) := fun z => (tx.below z.h tx.lt).c8
      have qa9 : ∀ z : Cl wr.heap.size wr, z.u.cell? ⟨b, off + i * 10 + 9, none⟩ = some (.string xs) := fun z => (tx.below z.h tx.lt).c9
      have qb0 : ∀ z : Cl wr.heap.size wr, z.u.cell? ⟨b', off' + i * 10, none⟩ = some (.string xa) := fun z => (ty.below z.h ty.lt).c0
      have qb1 : ∀ z : Cl wr.heap.size wr, z.u.cell? ⟨b', off' + i * 10 + 1, none⟩ = some (.string xp) := fun z => (ty.below z.h ty.lt).c1
      have qb2 : ∀ z : Cl wr.heap.size wr, z.u.cell? ⟨b', off' + i * 10 + 2, none⟩ = some (.int .i64 xr) := fun z => (ty.below z.h ty.lt).c2
      have qb3 : ∀ z : Cl wr.heap.size wr, z.u.cell? ⟨b', off' + i * 10 + 3, none⟩ = some (.string xc) := fun z => (ty.below z.h ty.lt).c3
      have qb4 : ∀ z : Cl wr.heap.size wr, z.u.cell? ⟨b', off' + i * 10 + 4, none⟩ = some (.int .i64 xt) := fun z => (ty.below z.h ty.lt).c4
      have qb5 : ∀ z : Cl wr.heap.size wr, z.u.cell? ⟨b', off' + i * 10 + 5, none⟩ = some (.bool xd) := fun z => (ty.below z.h ty.lt).c5
      have qb6 : ∀ z : Cl wr.heap.size wr, z.u.cell? ⟨b', off' + i * 10 + 6, none⟩ = some (.int .i64 xl) := fun z => (ty.below z.h ty.lt).c6
      have qb7 : ∀ z : Cl wr.heap.size wr, z.u.cell? ⟨b', off' + i * 10 + 7, none⟩ = some (.int .i64 xk) := fun z => (ty.below z.h ty.lt).c7
      have qb8 : ∀ z : Cl wr.heap.size wr, z.u.cell? ⟨b', off' + i * 10 + 8, none⟩ = some (.int .i64 xn) := fun z => (ty.below z.h ty.lt).c8
      have qb9 : ∀ z : Cl wr.heap.size wr, z.u.cell? ⟨b', off' + i * 10 + 9, none⟩ = some (.string xs) := fun z => (ty.below z.h ty.lt).c9
      have HE : Hid (∀ w', Below wr.heap.size wr w' → Below w.heap.size w w') := fun w' h => hbr.trans (h.mono hbr.size)
      have hltz : (i : Int) < (l.length : Int) := by omega
      clear ha hb hc tx ty hbr
      haveI := Cl.inh wr.heap.size wr
      go_wp2_with fail
      refine wp_region_cl wr.heap.size (by kernel_rfl) (by kernel_rfl) ?_
      repeat quiet_step (fail)
      refine wpQuiet_nil ?_
      rintro w0 ⟨z, rfl⟩
      have hz := HE.out _ z.h
      go_wp2_with fail
      go_roundw
      case rel => exact ⟨i + 1, by omega, by go_num, hz⟩
      case measure => (simp [intOf]; try omega)
    · have hgez : ¬ (i : Int) < (l.length : Int) := by omega
      clear ha hb
      go_wp2_with fail
      go_ret
      exact ⟨rfl, hbr⟩
end Go.Proofs.YtglaocghcgcghaaGreatDoor
namespace Go.Proofs.YtglaocghcgcghaaGreatDoor
open Go.RowKit

theorem owns_capW {w : World} {base n size : Nat} {e : TypeId} {a : Option Addr} {c : Nat} {xs : List Value} (h : w.ownsRow base e size (.slice a n c) n xs) : n ≤ c := by
  rcases h.2 with ⟨e, h0⟩ | ⟨g, cap', cur, e, _, _, hn, _⟩
  · omega
  · cases e; exact hn
set_option maxRecDepth 100000 in
set_option maxHeartbeats 1000000 in
theorem firstW_any (ao : Option Addr) (b : List UInt8) (cap : Nat) (w : World) (ue : TypeId) (pv : Value) (hs : Sees w ao b) (hl : b.length ≤ 1000000000) (hcap : b.length ≤ cap) (hcm : cap ≤ 9223372036854775807) (ht : Tab w) (he : Err w ue pv) :
    Calls Tryz.prog 127 #[.slice ao b.length cap] w fun e w' => ∃ v, e = .returned (.tuple #[v, .int .i64 ((fstW b).2 : Int)]) ∧ w'.ownsRow w.heap.size 50 10 v (fstW b).1.length ((fstW b).1.flatMap xs10) ∧ Below w.heap.size w w' := by
  have CU : Hid (Calls Tryz.prog 149 #[.slice ao b.length cap] w fun e w' => ∃ v', e = .returned (.tuple #[v', .int .i64 (unfN b), .int .i64 (unfE b)]) ∧ w'.ownsRow w.heap.size 5 1 v' (unfB b).length (B8 (unfB b)) ∧ Below w.heap.size w w') := unframe_any ao b cap w hs (by omega) hcap hcm ht
  by_cases hE : unfE b = 0
  · have hub : (unfB b).length ≤ 1000000000 := by rcases unfB_le b with h | h <;> omega
    have CR : Hid (∀ (u : World) (a1 : Option Addr) (c1 : Nat), Below w.heap.size w u → Sees u a1 (unfB b) → (unfB b).length ≤ c1 → Calls Tryz.prog 150 #[.slice a1 (unfB b).length c1] u fun e w' => ∃ v, e = .returned (.tuple #[v, .int .i64 (redE (unfB b))]) ∧ w'.ownsRow u.heap.size 50 10 v (redC (unfB b)).length (C10 (redC (unfB b))) ∧ Below u.heap.size u w') := fun u a1 c1 hu h1 h2 => readCells_any a1 (unfB b) c1 u ue pv h1 h2 hub (he.below hu (Nat.le_refl _))
    by_cases hR : redE (unfB b) = 0
    · obtain ⟨X, hX⟩ : ∃ X, X = (redC (unfB b)).map ofC := ⟨_, rfl⟩
      have hXl : (redC (unfB b)).length = X.length := by rw [hX, List.length_map]
      have hXc : C10 (redC (unfB b)) = X.flatMap xs10 := by rw [hX]; exact C10_ofC _
      have hXf : 7 * X.length ≤ (unfB b).length ∧ ∀ c ∈ X, ReadX (unfB b).length c := by
        unfold redE at hR
        split at hR
        · rename_i cs hcs
          have hr : redC (unfB b) = cs := by unfold redC; rw [hcs]; rfl
          have := cellsN_facts hcs
          rw [hX, hr]
          refine ⟨by rw [List.length_map]; exact this.1, fun c hc => ?_⟩
          obtain ⟨x, hx, rfl⟩ := List.mem_map.1 hc
          exact this.2 x hx
        · exact absurd hR (by decide)
      have CG : Hid (∀ (u : World) (a2 : Option Addr) (c2 : Nat), XSees u a2 X → Calls Tryz.prog 28 #[.slice a2 X.length c2] u fun e w' => e = .returned (.bool (recB X)) ∧ Below u.heap.size u w') := fun u a2 c2 h => recordable_any a2 X c2 u h (by omega) fun c hc => by
        have := hXf.2 c hc
        have hm : (1000000000 : Nat) ≤ maxLen := by decide
        exact ⟨Nat.le_trans this.t (by omega), Nat.le_trans this.p (by omega), Nat.le_trans this.c (by omega), Nat.le_trans this.s (by omega)⟩
      cases hB : recB X with
      | true =>
        have hF : fstW b = (X, unfN b) := by rw [fstW_yes ⟨hE, hR, by rw [← hX]; exact hB⟩, hX]
        rw [hF]
        rw [hB] at CG
        rw [hE] at CU
        rw [hR, hXl, hXc] at CR
        clear hF hB hXf hXl hXc hX hR hE hs ht he
        generalize unfB b = U at *
        generalize unfN b = N at *
        go_enter Tryz.func127, Tryz.ntmps127
        go_wp2_with fail
        go_fit CU.out
        rintro e w1 ⟨v1, rfl, ho1, hB1⟩
        obtain ⟨a1, c1, rfl, hs1, hk1, -⟩ := owns_sees ho1
        have C1 : Hid (Calls Tryz.prog 150 #[.slice a1 U.length c1] w1 fun e w' => ∃ v, e = .returned (.tuple #[v, .int .i64 0]) ∧ w'.ownsRow w1.heap.size 50 10 v X.length (X.flatMap xs10) ∧ Below w1.heap.size w1 w') := CR.out w1 a1 c1 hB1 hs1 (owns_capW ho1)
        clear CR CU ho1 hs1 hk1
        go_wp2_with fail
        go_fit C1.out
        rintro e w2 ⟨v2, rfl, ho2, hB2⟩
        obtain ⟨a2, c2, rfl, hs2, -⟩ := owns_xsees ho2
        have C2 : Hid (Calls Tryz.prog 28 #[.slice a2 X.length c2] w2 fun e w' => e = .returned (.bool true) ∧ Below w2.heap.size w2 w') := CG.out w2 a2 c2 hs2
        clear CG C1 hs2
        go_wp2_with fail
        go_fit C2.out
        rintro e w3 ⟨rfl, hB3⟩
        have HF : Hid (w3.ownsRow w.heap.size 50 10 (.slice a2 X.length c2) X.length (X.flatMap xs10) ∧ Below w.heap.size w w3) := by
          have h12 := hB1.trans (hB2.mono hB1.size)
          exact ⟨owMono (owBelow ho2 hB3) hB1.size, h12.trans (hB3.mono h12.size)⟩
        clear C2 hB1 hB2 hB3 ho2
        go_wp2_with fail
        go_ret2
        exact ⟨_, rfl, HF.out.1, HF.out.2⟩
      | false =>
        have hF : fstW b = ([], 0) := fstW_no fun hc => by rw [← hX] at hc; rw [hB] at hc; exact absurd hc.2.2 (by decide)
        rw [hF]
        rw [hB] at CG
        rw [hE] at CU
        rw [hR, hXl, hXc] at CR
        clear hF hB hXf hXl hXc hX hR hE hs ht he
        generalize unfB b = U at *
        generalize unfN b = N at *
        go_enter Tryz.func127, Tryz.ntmps127
        go_wp2_with fail
        go_fit CU.out
        rintro e w1 ⟨v1, rfl, ho1, hB1⟩
        obtain ⟨a1, c1, rfl, hs1, hk1, -⟩ := owns_sees ho1
        have C1 : Hid (Calls Tryz.prog 150 #[.slice a1 U.length c1] w1 fun e w' => ∃ v, e = .returned (.tuple #[v, .int .i64 0]) ∧ w'.ownsRow w1.heap.size 50 10 v X.length (X.flatMap xs10) ∧ Below w1.heap.size w1 w') := CR.out w1 a1 c1 hB1 hs1 (owns_capW ho1)
        clear CR CU ho1 hs1 hk1
        go_wp2_with fail
        go_fit C1.out
        rintro e w2 ⟨v2, rfl, ho2, hB2⟩
        obtain ⟨a2, c2, rfl, hs2, -⟩ := owns_xsees ho2
        have C2 : Hid (Calls Tryz.prog 28 #[.slice a2 X.length c2] w2 fun e w' => e = .returned (.bool false) ∧ Below w2.heap.size w2 w') := CG.out w2 a2 c2 hs2
        clear CG C1 hs2
        go_wp2_with fail
        go_fit C2.out
        rintro e w3 ⟨rfl, hB3⟩
        have HF : Hid (Below w.heap.size w w3) := by
          have h12 := hB1.trans (hB2.mono hB1.size)
          exact h12.trans (hB3.mono h12.size)
        clear C2 hB1 hB2 hB3 ho2
        go_wp2_with fail
        go_ret2
        exact ⟨_, rfl, World.ownsRow_nil _ _ _ _, HF.out⟩
    · have hF : fstW b = ([], 0) := fstW_no fun hc => hR hc.2.1
      rw [hF]
      have hR8 : redE (unfB b) = 8 := by
        unfold redE at hR ⊢
        split
        · rename_i cs hcs; rw [hcs] at hR; exact absurd rfl hR
        · rfl
      rw [hR8] at CR
      rw [hE] at CU
      clear hF hR hR8 hE hs ht he
      generalize unfB b = U at *
      generalize unfN b = N at *
      go_enter Tryz.func127, Tryz.ntmps127
      go_wp2_with fail
      go_fit CU.out
      rintro e w1 ⟨v1, rfl, ho1, hB1⟩
      obtain ⟨a1, c1, rfl, hs1, hk1, -⟩ := owns_sees ho1
      have C1 : Hid (Calls Tryz.prog 150 #[.slice a1 U.length c1] w1 fun e w' => ∃ v, e = .returned (.tuple #[v, .int .i64 8]) ∧ Below w1.heap.size w1 w') := (CR.out w1 a1 c1 hB1 hs1 (owns_capW ho1)).mono fun e w' ⟨v, h1, _, h3⟩ => ⟨v, h1, h3⟩
      clear CR CU ho1 hs1 hk1
      go_wp2_with fail
      go_fit C1.out
      rintro e w2 ⟨v2, rfl, hB2⟩
      have HF : Hid (Below w.heap.size w w2) := hB1.trans (hB2.mono hB1.size)
      clear C1 hB1 hB2
      go_wp2_with fail
      go_ret2
      exact ⟨_, rfl, World.ownsRow_nil _ _ _ _, HF.out⟩
  · have hF : fstW b = ([], 0) := fstW_no fun hc => hE hc.1
    rw [hF]
    have hEz : ¬ (unfE b : Int) = 0 := by omega
    clear hF hE hs ht he
    generalize unfE b = E at *
    generalize unfB b = U at *
    generalize unfN b = N at *
    go_enter Tryz.func127, Tryz.ntmps127
    go_wp2_with fail
    go_fit CU.out
    rintro e w1 ⟨v1, rfl, ho1, hB1⟩
    clear CU ho1
    go_wp2_with fail
    go_ret2
    exact ⟨_, rfl, World.ownsRow_nil _ _ _ _, hB1⟩
set_option maxRecDepth 100000 in
theorem recordW_bad (ao : Option Addr) (l : List Cx) (cap : Nat) (w : World) (hs : XSees w ao l) (hl : l.length ≤ 140737488355328) (hc : ∀ c ∈ l, CxMax c) (hr : recB l = false) :
    Calls Tryz.prog 10 #[.slice ao l.length cap] w fun e w' => e = .returned (.tuple #[.slice none 0 0, .int .i64 2]) ∧ Below w.heap.size w w' := by
  have CR : Hid (Calls Tryz.prog 28 #[.slice ao l.length cap] w fun e w' => e = .returned (.bool false) ∧ Below w.heap.size w w') := by
    have := recordable_any ao l cap w hs hl hc
    rw [hr] at this; exact this
  clear hs hc hr
  go_enter Tryz.func10, Tryz.ntmps10
  go_wp2_with fail
  go_fit CR.out
  rintro e w1 ⟨rfl, hB1⟩
  go_wp2_with fail
  go_ret2
  exact ⟨rfl, hB1⟩
theorem recordW_good (ao : Option Addr) (l : List Cx) (cap : Nat) (w : World) (hs : XSees w ao l) (hn : ∀ c ∈ l, c.Nums) (hr : recB l = true) (ht : Tab w) :
    Calls Tryz.prog 10 #[.slice ao l.length cap] w fun e w' => ∃ g, e = .returned (.tuple #[.slice (some ⟨g, 0, none⟩) (recL l).length (recL l).length, .int .i64 0]) ∧ w.heap.size ≤ g ∧ Row w' g (recL l) ∧ Below w.heap.size w w' := by
  have h1 := recB_good hr
  have hsm : ∀ c ∈ l, SmallX c := fun c hc => good_small (h1.2 c hc)
  have hw := wtYs_small hsm
  have hm : (1000 : Nat) ≤ maxLen := by decide
  refine record_ok ao l cap w hs h1.1.2 (fun c hc => ?_) (fun c hc => ?_) ?_ (rec_bytes hr) hr ht
  · have := hsm c hc
    have a1 := this.t
    have a2 := this.p
    have a3 := this.c
    have a4 := this.s
    exact ⟨by omega, by omega, by omega, by omega⟩
  · obtain ⟨x, hx, rfl⟩ := List.mem_map.1 hc
    exact (hn x hx).ok
  · rw [wtL_toC, List.length_map]
    omega
end Go.Proofs.YtglaocghcgcghaaGreatDoor
namespace Go.Proofs.YtglaocghcgcghaaGreatDoor
open Go.RowKit

section
variable {w0 : World} {d lb : Nat} {A : Ab} {n : Int} {b : Bool} {ft : List Nat} {w : World}
set_option maxRecDepth 100000 in
theorem madeY (h : LyF w0 d lb A n b ft w) (hn : 0 < n) : Calls Tryz.prog 49 #[.pointer (some ⟨lb, 0, none⟩)] w fun e w' => e = .returned (.bool true) ∧ w' = w := by
  have c1 := h.blk.cell 1 rfl
  have hq : (binOp BinOp.neq 31 (.pointer (some ⟨lb, 0, none⟩)) (.pointer none)).run Tryz.prog w = .ok (.bool true) w := by kernel_rfl
  clear h
  go_enter Tryz.func49, Tryz.ntmps49
  go_wp2_with fail
  go_ret
  exact ⟨rfl, rfl⟩
set_option maxRecDepth 100000 in
theorem notedY_nine (h : LyF w0 d lb A n b ft w) : Calls Tryz.prog 26 #[.pointer (some ⟨lb, 0, none⟩), .int .i64 9] w fun x w' => x = .returned (.int .i64 9) ∧ LyR w0 d lb A n true ft w w' := by
  have c2 := h.blk.cell 2 rfl
  have f2 := h.blk.frozen 2
  have HD : Hid (LyR w0 d lb A n true ft w (w.setCell ⟨lb, 2, none⟩ (.bool true))) := ly_dead h
  clear h
  go_enter Tryz.func26, Tryz.ntmps26
  go_wp2_with fail
  go_ret
  exact ⟨rfl, HD.out⟩
theorem onY (h : LyF w0 d lb A n b ft w) : Calls Tryz.prog 11 #[.pointer (some ⟨d, 0, none⟩)] w fun e w' => e = .returned (.bool A.on) ∧ w' = w := by
  obtain ⟨⟨bm, fs, hD, _, _⟩, _⟩ := h
  exact on_any hD
set_option maxRecDepth 100000 in
set_option maxHeartbeats 1000000 in
theorem refusalY_ok (h : LyF w0 d lb A n false ft w) (hn : 0 < n) (hon : A.on = true) : Calls Tryz.prog 25 #[.pointer (some ⟨lb, 0, none⟩)] w fun e w' => e = .returned (.int .i64 0) ∧ w' = w := by
  have CM : Hid (Calls Tryz.prog 49 #[.pointer (some ⟨lb, 0, none⟩)] w fun e w' => e = .returned (.bool true) ∧ w' = w) := madeY h hn
  have CO : Hid (Calls Tryz.prog 11 #[.pointer (some ⟨d, 0, none⟩)] w fun e w' => e = .returned (.bool true) ∧ w' = w) := by
    have := onY h
    rw [hon] at this
    exact this
  have c0 := h.blk.cell 0 rfl
  have c2 := h.blk.cell 2 rfl
  clear h
  go_enter Tryz.func25, Tryz.ntmps25
  go_wp2_with (go_at_call 49; refine CM.out.mono ?_; rintro e w1 ⟨rfl, rfl⟩)
  go_fit CO.out
  rintro e w2 ⟨rfl, rfl⟩
  go_wp2_with fail
  go_ret
  exact ⟨rfl, rfl⟩
set_option maxRecDepth 100000 in
set_option maxHeartbeats 1000000 in
theorem refusalY_dead (h : LyF w0 d lb A n true ft w) (hn : 0 < n) : Calls Tryz.prog 25 #[.pointer (some ⟨lb, 0, none⟩)] w fun e w' => e = .returned (.int .i64 9) ∧ LyR w0 d lb A n true ft w w' := by
  have CM : Hid (Calls Tryz.prog 49 #[.pointer (some ⟨lb, 0, none⟩)] w fun e w' => e = .returned (.bool true) ∧ w' = w) := madeY h hn
  have CN : Hid (Calls Tryz.prog 26 #[.pointer (some ⟨lb, 0, none⟩), .int .i64 9] w fun x w' => x = .returned (.int .i64 9) ∧ LyR w0 d lb A n true ft w w') := notedY_nine h
  have c0 := h.blk.cell 0 rfl
  have c2 := h.blk.cell 2 rfl
  clear h
  go_enter Tryz.func25, Tryz.ntmps25
  go_wp2_with (go_at_call 49; refine CM.out.mono ?_; rintro e w1 ⟨rfl, rfl⟩)
  go_fit CN.out
  rintro e w2 ⟨rfl, hR⟩
  go_wp2_with fail
  go_ret
  exact ⟨rfl, hR⟩
end
/-- What Append answers, the disk behind it, and whether the log is dead then. -/
def appY (A : Ab) (n : Int) (b : Bool) (l : List Cx) : Int × Ab × Bool :=
  if b = true then (9, A, true) else if recB l = true then ((writeX A n (recL l)).1, (writeX A n (recL l)).2, decide ((writeX A n (recL l)).1 = 9)) else (2, A, false)
set_option maxRecDepth 100000 in
set_option maxHeartbeats 2000000 in
theorem appendY {w0 : World} {d lb : Nat} {A : Ab} {n : Int} {b : Bool} {ft : List Nat} {w : World} (he : EnvW w0) (ht : Tab w0) (h : LyF w0 d lb A n b ft w) (hn : okW n = true) (hon : b = false → A.on = true) (ao : Option Addr) (l : List Cx) (cap : Nat) (hs : XSees w ao l) (hll : l.length ≤ 140737488355328) (hc : ∀ c ∈ l, CxMax c) (hnum : ∀ c ∈ l, c.Nums)
    {k : Nat} (hN : Nice A k) (hk : k + 1 ≤ 2000) (hl2 : recB l = true → ∀ t, findT A.sp (nmW n) = some t → t.bs.length + (recL l).length ≤ 600000) :
    Calls Tryz.prog 9 #[.pointer (some ⟨lb, 0, none⟩), .slice ao l.length cap] w fun x w' => x = .returned (.int .i64 (appY A n b l).1) ∧ LyR w0 d lb (appY A n b l).2.1 n (appY A n b l).2.2 ft w w' := by
  have hmm := okW_iff.1 hn
  have hn0 : 0 < n := by omega
  cases b with
  | true =>
    have CR : Hid (Calls Tryz.prog 25 #[.pointer (some ⟨lb, 0, none⟩)] w fun e w' => e = .returned (.int .i64 9) ∧ LyR w0 d lb A n true ft w w') := refusalY_dead h hn0
    unfold appY
    rw [if_pos rfl]
    generalize l.length = m at *
    clear h he ht hs hc hnum hN hl2 hn hon
    go_enter Tryz.func9, Tryz.ntmps9
    go_wp2_with (go_at_call 25; refine CR.out.mono ?_; rintro e w1 ⟨rfl, hR⟩)
    go_ret
    exact ⟨rfl, hR⟩
  | false =>
    have CR : Hid (Calls Tryz.prog 25 #[.pointer (some ⟨lb, 0, none⟩)] w fun e w' => e = .returned (.int .i64 0) ∧ w' = w) := refusalY_ok h hn0 (hon rfl)
    unfold appY
    rw [if_neg (by simp)]
    cases hrb : recB l with
    | false =>
      have CD : Hid (Calls Tryz.prog 10 #[.slice ao l.length cap] w fun e w' => e = .returned (.tuple #[.slice none 0 0, .int .i64 2]) ∧ Below w.heap.size w w') := recordW_bad ao l cap w hs hll hc hrb
      have HM : Hid (∀ u, Below w.heap.size w u → LyR w0 d lb A n false ft w u) := fun u hu => h.moreR hu
      rw [if_neg (by simp)]
      generalize l.length = m at *
      clear h he ht hs hc hnum hN hl2 hn hon
      go_enter Tryz.func9, Tryz.ntmps9
      go_wp2_with (go_at_call 25; refine CR.out.mono ?_; rintro e w1 ⟨rfl, rfl⟩)
      go_fit CD.out
      rintro e w2 ⟨rfl, hB⟩
      go_wp2_with fail
      go_ret
      exact ⟨rfl, HM.out _ hB⟩
    | true =>
      rw [if_pos rfl]
      have CD : Hid (Calls Tryz.prog 10 #[.slice ao l.length cap] w fun e w' => ∃ g, e = .returned (.tuple #[.slice (some ⟨g, 0, none⟩) (recL l).length (recL l).length, .int .i64 0]) ∧ w.heap.size ≤ g ∧ Row w' g (recL l) ∧ Below w.heap.size w w') := recordW_good ao l cap w hs hnum hrb (ht.below h.bel (Nat.le_refl _))
      have hft : ∀ i ∈ ft, i < w.heap.size := h.1.lt
      have hrl := rec_bytes' hrb
      have CW0 : ∀ u g, Below w.heap.size w u → w.heap.size ≤ g → Row u g (recL l) → Calls Tryz.prog 27 #[.pointer (some ⟨lb, 0, none⟩), .slice (some ⟨g, 0, none⟩) (recL l).length (recL l).length] u fun x w' => x = .returned (.int .i64 (writeX A n (recL l)).1) ∧ LyR w0 d lb (writeX A n (recL l)).2 n false ft u w' := fun u g hu hg hR => by
        have hsee : Sees u (some ⟨g, 0, none⟩) (recL l) := fun i hi => ⟨_, rfl, by rw [Addr.add_lit, Nat.zero_add]; exact hR.cell i hi⟩
        exact writeY he (h.more hu) hn (some ⟨g, 0, none⟩) (recL l) (recL l).length hsee (fun a e _ hi => by cases e; have h9 : g < w.heap.size := hft _ hi; omega) hN hk (by omega) (hl2 hrb)
      generalize writeX A n (recL l) = q at *
      obtain ⟨c, A2⟩ := q
      have CW : Hid (∀ u g, Below w.heap.size w u → w.heap.size ≤ g → Row u g (recL l) → Calls Tryz.prog 27 #[.pointer (some ⟨lb, 0, none⟩), .slice (some ⟨g, 0, none⟩) (recL l).length (recL l).length] u fun x w' => x = .returned (.int .i64 c) ∧ LyR w0 d lb A2 n false ft u w') := CW0
      clear CW0 h he ht hs hc hnum hN hl2 hn hon hft hrl
      generalize recL l = R at *
      generalize l.length = m at *
      by_cases h9 : c = 9
      · subst h9
        go_enter Tryz.func9, Tryz.ntmps9
        go_wp2_with (go_at_call 25; refine CR.out.mono ?_; rintro e w1 ⟨rfl, rfl⟩)
        go_fit CD.out
        rintro e w2 ⟨g, rfl, hg, hR, hB2⟩
        have C2 : Hid (Calls Tryz.prog 27 #[.pointer (some ⟨lb, 0, none⟩), .slice (some ⟨g, 0, none⟩) R.length R.length] w2 fun x w' => x = .returned (.int .i64 9) ∧ LyR w0 d lb A2 n false ft w2 w') := CW.out w2 g hB2 hg hR
        have HB2 : Hid (Below w1.heap.size w1 w2) := hB2
        clear CW CD CR hR hB2 hg
        go_wp2_with fail
        go_fit C2.out
        rintro e w3 ⟨rfl, f3, hF3, hM3⟩
        have C3 : Hid (Calls Tryz.prog 26 #[.pointer (some ⟨lb, 0, none⟩), .int .i64 9] w3 fun x w' => x = .returned (.int .i64 9) ∧ LyR w0 d lb A2 n true f3 w3 w') := notedY_nine hF3
        clear C2
        go_wp2_with fail
        go_fit C3.out
        rintro e w4 ⟨rfl, f4, hF4, hM4⟩
        go_wp2_with fail
        go_ret
        exact ⟨rfl, f4, hF4, ((moved_below HB2.out).trans hM3).trans hM4⟩
      · rw [decide_eq_false h9]
        have CN : Hid (∀ u, Calls Tryz.prog 26 #[.pointer (some ⟨lb, 0, none⟩), .int .i64 c] u fun x w' => x = .returned (.int .i64 c) ∧ w' = u) := fun u => noted_any lb c u h9
        go_enter Tryz.func9, Tryz.ntmps9
        go_wp2_with (go_at_call 25; refine CR.out.mono ?_; rintro e w1 ⟨rfl, rfl⟩)
        go_fit CD.out
        rintro e w2 ⟨g, rfl, hg, hR, hB2⟩
        have C2 : Hid (Calls Tryz.prog 27 #[.pointer (some ⟨lb, 0, none⟩), .slice (some ⟨g, 0, none⟩) R.length R.length] w2 fun x w' => x = .returned (.int .i64 c) ∧ LyR w0 d lb A2 n false ft w2 w') := CW.out w2 g hB2 hg hR
        have HB2 : Hid (Below w1.heap.size w1 w2) := hB2
        clear CW CD CR hR hB2 hg
        go_wp2_with fail
        go_fit C2.out
        rintro e w3 ⟨rfl, f3, hF3, hM3⟩
        go_wp2_with fail
        go_fit (CN.out _)
        rintro e w4 ⟨rfl, rfl⟩
        go_wp2_with fail
        go_ret
        exact ⟨rfl, f3, hF3, (moved_below HB2.out).trans hM3⟩
end Go.Proofs.YtglaocghcgcghaaGreatDoor

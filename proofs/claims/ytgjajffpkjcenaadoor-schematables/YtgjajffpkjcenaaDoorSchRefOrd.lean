/-
  CONTRACT: columns in a table's order (Order, by the document).
-/
import Derived.Test.YtgjajffpkjcenaaDoorSchOrd
namespace Go.Proofs.YtgjajffpkjcenaaDoor
open Go.RowKit

theorem colR_in (cs : List Co) (s : ByteArray) : (colR cs s).2 = decide (nb s ∈ (cs.map Co.n).map nb) := by
  unfold colR colF
  cases h : cs.find? fun c => decide (nb c.n = nb s) with
  | none =>
    rw [List.find?_eq_none] at h
    refine (decide_eq_false fun hm => ?_).symm
    obtain ⟨x, hx, e⟩ := List.mem_map.1 hm
    obtain ⟨c, hc, rfl⟩ := List.mem_map.1 hx
    exact h c hc (decide_eq_true e)
  | some c =>
    have h1 := List.find?_some h
    have h2 := List.mem_of_find?_eq_some h
    exact (decide_eq_true (List.mem_map.2 ⟨c.n, List.mem_map_of_mem h2, by simpa using h1⟩)).symm
def eqN (x s : ByteArray) : Bool := decide (nb s = nb x)
theorem any_eqN (l : List ByteArray) (x : ByteArray) : l.any (eqN x) = decide (nb x ∈ l.map nb) := by
  rw [Bool.eq_iff_iff, List.any_eq_true, decide_eq_true_eq, List.mem_map]
  unfold eqN
  exact ⟨fun ⟨s, h1, h2⟩ => ⟨s, h1, by simpa using h2⟩, fun ⟨s, h1, h2⟩ => ⟨s, h1, by simpa using h2⟩⟩
theorem any_snoc {α : Type} (f : α → Bool) (l : List α) (k : Nat) (a : α) (h : l[k]? = some a) : (l.take (k + 1)).any f = ((l.take k).any f || f a) := by
  rw [List.take_add_one, h, List.any_append]; simp
def ordB (C : List ByteArray) (k : Nat) (x : ByteArray) : Bool := decide (C.length = 0) || (C.take k).any (eqN x)
theorem ordB_end (C : List ByteArray) (x : ByteArray) : ordB C C.length x = wantB C x := by
  unfold ordB wantB
  rw [List.take_length, any_eqN]
  cases C <;> simp
theorem ordB_zero {C : List ByteArray} {m : Nat} (h : C.length = m) (x : ByteArray) : ((m : Int) == 0) = ordB C 0 x := by
  unfold ordB
  rw [h]
  by_cases h0 : m = 0
  · subst h0; rfl
  · rw [decide_eq_false h0, beq_false_of_ne (by omega)]; rfl
theorem ordB_succ {C : List ByteArray} {i : Nat} {s : ByteArray} (h : C[i]? = some s) (x : ByteArray) : ordB C (i + 1) x = (ordB C i x || eqN x s) := by
  unfold ordB
  rw [any_snoc _ _ _ _ h, Bool.or_assoc]
def outB (b : Bool) (O : List ByteArray) (i : Nat) (x : ByteArray) : Bool := b && !(O.take i).any (eqN x)
theorem outB_succ {O : List ByteArray} {i : Nat} {s : ByteArray} (h : O[i]? = some s) (b : Bool) (x : ByteArray) : outB b O (i + 1) x = (outB b O i x && !eqN x s) := by
  unfold outB
  rw [any_snoc _ _ _ _ h, Bool.not_or, Bool.and_assoc]
theorem outB_end (C O : List ByteArray) (x : ByteArray) : ordStep C O x = if outB (wantB C x) O O.length x then O ++ [x] else O := by
  unfold ordStep outB
  rw [List.take_length, any_eqN]
set_option maxRecDepth 100000 in
set_option maxHeartbeats 4000000 in
theorem refOrder_any (T : Tb) (ao : Option Addr) (cap : Nat) (C : List ByteArray) (co : Option Addr) (cc : Nat) (w : World) (hC : CSee w ao T.cs) (hl : T.cs.length ≤ 1000000) (hN : NSee w co C) (hCl : C.length ≤ 1000000) :
    Calls Tryd.prog 14 #[T.v ao cap, .slice co C.length cc] w fun e w' => ∃ v, e = .returned (.tuple #[v, .bool (allIn C (nmC T))]) ∧ w'.ownsRow w.heap.size 9 1 v (ordR C (nmC T)).length (sV (ordR C (nmC T))) ∧ Below w.heap.size w w' := by
  obtain ⟨i0, hinf, hq0, hq1, hq2⟩ := info_of17 infoStr17
  obtain ⟨w0, hw0⟩ : ∃ w0, w0 = w.alloc (.cells #[.string T.t, .string T.p, .string T.r, .slice ao T.cs.length cap] 26) := ⟨_, rfl⟩
  have hB : Below w.heap.size w w0 := by rw [hw0]; exact (Below.refl _ _).alloc (Nat.le_refl _) _
  have hsz : w0.heap.size = w.heap.size + 1 := by rw [hw0, World.size_alloc]
  have hX : Blk w0 w.heap.size [.string T.t, .string T.p, .string T.r, .slice ao T.cs.length cap] 26 := by rw [hw0]; exact Blk.new w [.string T.t, .string T.p, .string T.r, .slice ao T.cs.length cap] _
  have HX : Hid (∀ wr, Below w0.heap.size w0 wr → Blk wr w.heap.size [.string T.t, .string T.p, .string T.r, .slice ao T.cs.length cap] 26 ∧ CSee wr ao T.cs ∧ NSee wr co C ∧ Below w.heap.size w wr) := fun wr hb =>
    ⟨hX.carry (hb.block _ hX.lt), hC.below (hB.trans (hb.mono hB.size)), hN.below (hB.trans (hb.mono hB.size)), hB.trans (hb.mono hB.size)⟩
  have HCol : Hid (∀ s wr, Below w0.heap.size w0 wr → Calls Tryd.prog 12 #[.agg #[.string T.t, .string T.p, .string T.r, .slice ao T.cs.length cap], .string s] wr fun e w' => (∃ x : Co, e = .returned (.tuple #[.agg #[.string x.n, .int .i64 x.k], .bool (decide (nb s ∈ (nmC T).map nb))])) ∧ Below w0.heap.size w0 w' ∧ Below wr.heap.size wr w') := fun s wr hb => by
    have h := refColumn_any T ao cap s wr (hC.below (hB.trans (hb.mono hB.size))) (by omega)
    rw [colR_in] at h
    exact h.mono fun e w' h => ⟨⟨_, h.1⟩, hb.trans (h.2.mono hb.size), h.2⟩
  have hnz : (T.cs.length : Int) ≤ 1000000 := by omega
  have hcz : (C.length : Int) ≤ 1000000 := by omega
  have HL : Hid (T.cs.length ≤ 1000000 ∧ C.length ≤ 1000000) := ⟨hl, hCl⟩
  have hNl : (nmC T).length = T.cs.length := by simp [nmC]
  have HNk : Hid (∀ (k : Nat) c, T.cs[k]? = some c → (nmC T)[k]? = some c.n) := fun k c h => by unfold nmC; rw [List.getElem?_map, h]; rfl
  have HNl : Hid ((nmC T).length = T.cs.length) := hNl
  have HS0 : Hid (w0.heap.size = w.heap.size + 1) := hsz
  clear hC hl hN hCl hB hX hsz hNl
  simp only [Tb.v, Tb.a]
  generalize nmC T = N at *
  obtain ⟨m, hm⟩ : ∃ m, C.length = m := ⟨_, rfl⟩
  have Hm : Hid (C.length = m) := hm
  rw [hm] at hcz ⊢
  clear hm
  go_enter Tryd.func14, Tryd.ntmps14
  go_wp2_with fail
  rw [← hw0]
  clear hw0
  go_loopw [20] (fun s20 wr => ∃ k : Nat, k ≤ m ∧ s20 = .int .i64 (k : Int) ∧ Below w0.heap.size w0 wr ∧ (C.take k).all (fun s => decide (nb s ∈ N.map nb)) = true) (fun s20 _ => m - (intOf s20).toNat)
  case atStart => exact ⟨0, Nat.zero_le _, rfl, Below.refl _ _, rfl⟩
  case round =>
    obtain ⟨k, hk, rfl, hb, hall⟩ := hrel
    obtain ⟨hXr, hCr, hNr, hWr⟩ := HX.out wr hb
    rcases Nat.lt_or_ge k m with hlt | hge
    · have hcs : C[k]? = some (C[k]'(by rw [Hm.out]; exact hlt)) := List.getElem?_eq_getElem _
      obtain ⟨b, off, rfl, k0⟩ := hNr k _ hcs
      have hkz : (k : Int) < (m : Int) := by omega
      generalize C[k]'(by rw [Hm.out]; exact hlt) = s at *
      have CC := HCol.out s wr hb
      have e0 := hXr.cell 0 rfl
      have e1 := hXr.cell 1 rfl
      have e2 := hXr.cell 2 rfl
      have e3 := hXr.cell 3 rfl
      have HKL : Hid (k < m) := hlt
      cases hin : decide (nb s ∈ N.map nb)
      · have hno : allIn C N = false := all_no _ _ _ _ hcs hin
        have hR : Hid (ordR C N = []) := by show _ = _; unfold ordR; rw [hno]; rfl
        rw [hin] at CC
        have HW : Hid (∀ w', Below wr.heap.size wr w' → Below w.heap.size w w') := fun w' h => hWr.trans (h.mono hWr.size)
        clear hcs hall hin hXr hCr hNr hWr hb HX HCol HNk
        go_wp2_with fail
        refine CC.mono ?_
        rintro e w1 ⟨⟨x, rfl⟩, -, h2⟩
        have h3 := HW.out _ (h2.alloc h2.size (.cells #[.string x.n, .int .i64 x.k] 29))
        clear CC
        go_wp2_with fail
        go_ret2
        exact ⟨.slice none 0 0, by rw [hno]; rfl, by rw [hR.out]; exact World.ownsRow_nil _ _ _ _, h3⟩
      · have HA : Hid ((C.take (k + 1)).all (fun s => decide (nb s ∈ N.map nb)) = true) := all_take _ _ _ _ hcs hall hin
        rw [hin] at CC
        clear hcs hall hin hXr hCr hNr hWr HX HCol HNk
        go_wp2_with fail
        refine CC.mono ?_
        rintro e w1 ⟨⟨x, rfl⟩, h1, -⟩
        have h3 : Hid (Below w0.heap.size w0 (w1.alloc (.cells #[.string x.n, .int .i64 x.k] 29))) := h1.alloc h1.size _
        clear CC h1
        go_wp2_with fail
        go_roundw
        case rel => exact ⟨k + 1, by have := HKL.out; omega, by go_num, h3.out, HA.out⟩
        case measure => have := HKL.out; simp [intOf]; omega
    · obtain rfl : k = m := by omega
      have hyes : allIn C N = true := by have h := hall; rw [← Hm.out, List.take_length] at h; exact h
      have hR : Hid (ordR C N = ordL C N) := by show _ = _; unfold ordR; rw [hyes]; rfl
      have e3 := hXr.cell 3 rfl
      clear hall hXr hCr hNr hWr HCol
      obtain ⟨wA, hwA⟩ : ∃ x, x = wr := ⟨wr, rfl⟩
      subst hwA
      have HbA : Hid (Below w0.heap.size w0 wA) := hb
      clear hb
      go_wp2_with fail
      go_loopw [10, 36] (fun s10 s36 wr => ∃ j : Nat, j ≤ T.cs.length ∧ s36 = .int .i64 (j : Int) ∧ Below w0.heap.size w0 wr ∧ wr.ownsRow (w.heap.size + 1) 9 1 s10 (ordL C (N.take j)).length (sV (ordL C (N.take j)))) (fun _ s36 _ => T.cs.length - (intOf s36).toNat)
      case atStart => exact ⟨0, Nat.zero_le _, rfl, HbA.out, World.ownsRow_nil _ _ _ _⟩
      case round =>
        obtain ⟨j, hj, rfl, hb, ho⟩ := hrel
        obtain ⟨-, hCr, hNr, hWr⟩ := HX.out wr hb
        rcases Nat.lt_or_ge j T.cs.length with hlt | hge
        · have hcs : T.cs[j]? = some T.cs[j] := List.getElem?_eq_getElem hlt
          obtain ⟨b, off, hao, k0, k1⟩ := hCr j _ hcs
          have hstep := ordL_take (C := C) (HNk.out j _ hcs)
          have hjz : (j : Int) < (T.cs.length : Int) := by omega
          have hln : (ordL C (N.take j)).length ≤ 1000000 := by have h1 := ordL_len C (N.take j); rw [List.length_take, HNl.out] at h1; have := HL.out.1; omega
          have HJL : Hid (j < T.cs.length) := hlt
          generalize T.cs[j] = c at *
          obtain ⟨cn, ck⟩ := c
          simp only at k0 k1 hstep
          subst hao
          obtain ⟨wa, hwa⟩ : ∃ wa, wa = wr.alloc (.cells #[.string cn, .int .i64 ck] 29) := ⟨_, rfl⟩
          have hba : Below wr.heap.size wr wa := by rw [hwa]; exact (Below.refl _ _).alloc (Nat.le_refl _) _
          have hKa : Blk wa wr.heap.size [.string cn, .int .i64 ck] 29 := by rw [hwa]; exact Blk.new wr [.string cn, .int .i64 ck] _
          have d0 := hKa.cell 0 rfl
          have hNa : NSee wa co C := hNr.below hba
          have hoa : wa.ownsRow (w.heap.size + 1) 9 1 u10 (ordL C (N.take j)).length (sV (ordL C (N.take j))) := owns_keep ho hba (Nat.le_refl _)
          have hbA : Below w0.heap.size w0 wa := hb.trans (hba.mono hb.size)
          obtain ⟨oo, oc, hu, hNo⟩ := owns_see hoa rfl
          have HU : Hid (u10 = .slice oo (ordL C (N.take j)).length oc) := hu
          generalize ordL C (N.take j) = O at *
          have HNa : Hid (NSee wa co C) := hNa
          have HNo : Hid (NSee wa oo O) := hNo
          have HOa : Hid (wa.ownsRow (w.heap.size + 1) 9 1 (.slice oo O.length oc) O.length (sV O)) := by show World.ownsRow _ _ _ _ _ _ _; rw [← hu]; exact hoa
          have HBA : Hid (Below w0.heap.size w0 wa) := hbA
          have HST : Hid (ordL C (N.take (j + 1)) = ordStep C O cn) := hstep
          subst hu
          have hOz : (O.length : Int) ≤ 1000000 := by omega
          have HKd : Hid (wa.cell? ⟨wr.heap.size, 0, none⟩ = some (.string cn)) := d0
          clear hcs hCr hNr hWr ho hb hba hKa hNa hoa hbA hNo hstep d0
          go_wp2_with fail
          rw [← hwa]
          clear hwa k0 k1
          go_loopw [13, 45] (fun s13 s45 wz => ∃ i : Nat, i ≤ k ∧ s45 = .int .i64 (i : Int) ∧ s13 = .bool (ordB C i cn) ∧ wz = wa) (fun _ s45 _ => k - (intOf s45).toNat)
          case atStart => exact ⟨0, Nat.zero_le _, rfl, by rw [ordB_zero Hm.out cn], rfl⟩
          case round =>
            obtain ⟨i, hi, rfl, rfl, hwz⟩ := hrel
            obtain rfl := hwz.symm
            clear hwz
            rcases Nat.lt_or_ge i k with hlt | hge
            · have hci : C[i]? = some (C[i]'(by rw [Hm.out]; exact hlt)) := List.getElem?_eq_getElem _
              obtain ⟨b2, off2, hco, x0⟩ := HNa.out i _ hci
              subst hco
              have hs := ordB_succ hci cn
              generalize C[i]'(by rw [Hm.out]; exact hlt) = s at *
              have hiz : (i : Int) < (k : Int) := by omega
              have hbx := HKd.out
              have HIL : Hid (i < k) := hlt
              clear hci HX HNa HNo HOa HNk hlt
              cases hbv : ordB C i cn
              · rw [hbv, Bool.false_or] at hs
                by_cases he : nb s = nb cn
                · have hv : Hid (ordB C (i + 1) cn = true) := hs.trans (decide_eq_true he)
                  have he2 := eqB he
                  have he3 : (s.toList == cn.toList) = true := beq_iff_eq.2 he2
                  clear hs he
                  go_wp2_with fail
                  go_roundw
                  case rel => exact ⟨i + 1, by have := HIL.out; omega, by go_num, by rw [hv.out], by first | rfl | trivial⟩
                  case measure => have := HIL.out; simp [intOf]; omega
                · have hv : Hid (ordB C (i + 1) cn = false) := hs.trans (decide_eq_false he)
                  have he2 := neB he
                  have he3 := neB2 he
                  clear hs he
                  go_wp2_with fail
                  go_roundw
                  case rel => exact ⟨i + 1, by have := HIL.out; omega, by go_num, by rw [hv.out], by first | rfl | trivial⟩
                  case measure => have := HIL.out; simp [intOf]; omega
              · rw [hbv, Bool.true_or] at hs
                have hv : Hid (ordB C (i + 1) cn = true) := hs
                clear hs
                go_wp2_with fail
                go_roundw
                case rel => exact ⟨i + 1, by have := HIL.out; omega, by go_num, by rw [hv.out], by first | rfl | trivial⟩
                case measure => have := HIL.out; simp [intOf]; omega
            · obtain rfl : i = k := by omega
              have hend : ordB C i cn = wantB C cn := by have h := ordB_end C cn; rwa [Hm.out] at h
              rw [hend]
              have HSt := outB_end C O cn
              have hz0 : outB (wantB C cn) O 0 cn = wantB C cn := by unfold outB; simp
              generalize wantB C cn = bw at *
              clear hend HNa HX HNk
              go_wp2_with fail
              go_loopw [13, 59] (fun s13 s59 wz => ∃ q : Nat, q ≤ O.length ∧ s59 = .int .i64 (q : Int) ∧ s13 = .bool (outB bw O q cn) ∧ wz = wa) (fun _ s59 _ => O.length - (intOf s59).toNat)
              case atStart => exact ⟨0, Nat.zero_le _, rfl, by rw [hz0], rfl⟩
              case round =>
                obtain ⟨q, hq, rfl, rfl, hwz⟩ := hrel
                obtain rfl := hwz.symm
                clear hwz hz0
                rcases Nat.lt_or_ge q O.length with hlt | hge
                · have hci : O[q]? = some O[q] := List.getElem?_eq_getElem hlt
                  obtain ⟨b2, off2, hco, x0⟩ := HNo.out q _ hci
                  subst hco
                  have hs := outB_succ hci bw cn
                  generalize O[q] = s at *
                  have hiz : (q : Int) < (O.length : Int) := by omega
                  have hbx := HKd.out
                  have HIL : Hid (q < O.length) := hlt
                  clear hci HNo HOa hlt HSt
                  cases hbv : outB bw O q cn
                  · rw [hbv, Bool.false_and] at hs
                    have hv : Hid (outB bw O (q + 1) cn = false) := hs
                    clear hs
                    go_wp2_with fail
                    go_roundw
                    case rel => exact ⟨q + 1, by have := HIL.out; omega, by go_num, by rw [hv.out], by first | rfl | trivial⟩
                    case measure => have := HIL.out; simp [intOf]; omega
                  · rw [hbv, Bool.true_and] at hs
                    by_cases he : nb s = nb cn
                    · have hv : Hid (outB bw O (q + 1) cn = false) := by show _ = _; rw [hs]; unfold eqN; rw [decide_eq_true he]; rfl
                      have he2 := eqB he
                      have he3 : (s.toList == cn.toList) = true := beq_iff_eq.2 he2
                      have he4 : (s.toList != cn.toList) = false := by unfold bne; rw [he3]; rfl
                      clear hs he
                      go_wp2_with fail
                      go_roundw
                      case rel => exact ⟨q + 1, by have := HIL.out; omega, by go_num, by rw [hv.out], by first | rfl | trivial⟩
                      case measure => have := HIL.out; simp [intOf]; omega
                    · have hv : Hid (outB bw O (q + 1) cn = true) := by show _ = _; rw [hs]; unfold eqN; rw [decide_eq_false he]; rfl
                      have he2 := neB he
                      have he3 := neB2 he
                      have he4 : (s.toList != cn.toList) = true := by unfold bne; rw [he3]; rfl
                      clear hs he
                      go_wp2_with fail
                      go_roundw
                      case rel => exact ⟨q + 1, by have := HIL.out; omega, by go_num, by rw [hv.out], by first | rfl | trivial⟩
                      case measure => have := HIL.out; simp [intOf]; omega
                · obtain rfl : q = O.length := by omega
                  have hbx := HKd.out
                  clear HNo
                  cases hbv : outB bw O O.length cn
                  · rw [hbv] at HSt
                    have HF : Hid (ordL C (N.take (j + 1)) = O) := HST.out.trans HSt
                    clear HSt
                    go_wp2_with fail
                    go_roundw
                    case rel => exact ⟨j + 1, by have := HJL.out; omega, by go_num, HBA.out, by rw [HF.out]; exact HOa.out⟩
                    case measure => have := HJL.out; simp [intOf]; omega
                  · rw [hbv] at HSt
                    have HF : Hid (ordL C (N.take (j + 1)) = O ++ [cn]) := HST.out.trans HSt
                    have hst : Hid (sV (O ++ [cn]) = sV O ++ [.string cn]) := by show _ = _; unfold sV; rw [List.map_append]; rfl
                    have H3 : Hid (∀ o, (wa.alloc o).ownsRow (w.heap.size + 1) 9 1 (.slice oo O.length oc) O.length (sV O)) := fun o => owns_keep HOa.out ((Below.refl _ _).alloc (Nat.le_refl _) _) (Nat.le_refl _)
                    have HEE : Hid (∀ (o1 : Obj) (w2 : World) v', Grew (wa.alloc o1) w2 (.slice oo O.length oc) v' → Below w0.heap.size w0 w2) := fun o1 w2 v' hgr =>
                      (HBA.out.alloc HBA.out.size o1).trans (hgr.below (by rw [World.size_alloc]; have := HBA.out.size; omega) (fun g hg => by rw [HS0.out]; exact (HOa.out.lt g hg).1))
                    have HZ : Hid (w.heap.size + 1 ≤ wa.heap.size) := by have h1 := HBA.out.size; have h2 := HS0.out; show _ ≤ _; omega
                    have hm1 : O.length + 1 ≤ maxLen := by unfold maxLen; omega
                    have hm2 : (O.length + 1) * 16 ≤ 140737488355328 := by omega
                    clear HSt
                    go_wp2_with (at_builtin; go_must (refine wpList_append_grew _ rfl (.tmp 72) (.tmp 75) 27 27 rfl (w.heap.size + 1) 9 i0 (.string ⟨#[]⟩) 1 16 Tryd.underlying27 hinf hq0 hq1 hq2 rfl (.slice oo O.length oc) O.length _ rfl (H3.out _) (.slice (some ⟨wa.heap.size, 0, none⟩) 1 1) 1 [.string cn] rfl (src_one17 wa cn) hm1 hm2 (by have := HZ.out; simp; omega) ?_; intro v' w' ho' hg'; have hXX := HEE.out _ _ _ hg'))
                    go_roundw
                    case rel => exact ⟨j + 1, by have := HJL.out; omega, by go_num, hXX, by rw [HF.out, List.length_append, hst.out]; exact ho'⟩
                    case measure => have := HJL.out; simp [intOf]; omega
        · obtain rfl : j = T.cs.length := by omega
          have e : N.take T.cs.length = N := by rw [← HNl.out, List.take_length]
          rw [e] at ho
          have hO : wr.ownsRow w.heap.size 9 1 u10 (ordR C N).length (sV (ordR C N)) := by rw [hR.out]; exact owns_base17 ho (Nat.le_succ _)
          clear HX HNk hCr hNr ho e
          go_wp2_with fail
          go_ret2
          exact ⟨u10, by rw [hyes]; rfl, hO, hWr⟩
end Go.Proofs.YtgjajffpkjcenaaDoor

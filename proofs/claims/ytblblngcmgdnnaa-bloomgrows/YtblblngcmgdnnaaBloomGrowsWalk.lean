/-
  THE LAW BloomGrows: the walk.
-/
import Derived.Test.YtblblngcmgdnnaaBlmRun
namespace Go.Proofs.Ytblblngcmgdnnaa
open Go.RowKit

theorem toHidG {p : Prop} (h : p) : Hid p := h
/-- More was added. -/
def Ext (k : Nat) (l l' : List UInt8) : Prop := l'.length = l.length ∧ ∀ h, mayK l h k = true → mayK l' h k = true
theorem Ext.refl (k : Nat) (l : List UInt8) : Ext k l l := ⟨rfl, fun _ h => h⟩
theorem Ext.add {k : Nat} {l l' : List UInt8} (h : Ext k l l') (hl : 0 < l'.length) (x : BitVec 64 × BitVec 64) : Ext k l (addK l' x k) :=
  ⟨by rw [addK_length, h.1], fun y hy => may_more _ _ _ _ _ hl (h.2 y hy)⟩
/-- Bools, as cells. -/
def Bo (l : List Bool) : List Value := l.flatMap fun b => [Value.bool b]
theorem infoB : (Try.prog.info? 4).map (fun i => (i.zero, i.size, i.bytes)) = some (some (.bool false), 1, 1) := by kernel_rfl
theorem src_bool (w : World) (b : Bool) : Src Try.prog 1 47 (.slice (some ⟨w.heap.size, 0, none⟩) 1 1) 1 (Bo [b]) (w.alloc (.cells #[.bool b] 4)) := by
  refine Src.ofSlice _ Try.underlying47 _ 1 1 _ (by simp [Bo]) ?_ (fun u hu => ?_)
  · intro j u hu
    match j, hu with
    | 0, hu => simp [Bo] at hu; subst hu; simp [Addr.add]
    | j + 1, hu => simp [Bo] at hu
  · simp [Bo] at hu
    subst hu
    rfl
theorem owns_below {w w' : World} {base : Nat} {e : TypeId} {size : Nat} {v : Value} {n : Nat} {xs : List Value} (h : w.ownsRow base e size v n xs) (hB : Below w.heap.size w w') : w'.ownsRow base e size v n xs :=
  h.kept (row := none) ⟨hB.os, hB.tape, hB.output, hB.size, fun i hi _ => hB.block i hi⟩ (by cases v.ownBlock <;> simp)
/-- The answers, beside the filter. -/
def Was (w : World) (m : FM) (vo : Option Addr) (bs : List Bool) : Prop := ∀ j b, bs[j]? = some b → ∃ g, vo = some ⟨g, 0, none⟩ ∧ g ≠ m.g ∧ w.cell? ⟨g, j, none⟩ = some (.bool b)
theorem Was.grown {w w' : World} {m : FM} {vo : Option Addr} {bs : List Bool} (h : Was w m vo bs) (hg : w.grownBy w' (some m.g)) : Was w' m vo bs := fun j b hj => by
  obtain ⟨g, e, hne, hc⟩ := h j b hj
  refine ⟨g, e, hne, ?_⟩
  have hlt : g < w.heap.size := World.block_lt_of_cell? _ _ hc
  exact (World.cell?_of_block (a := ⟨g, j, none⟩) (hg.block g hlt (by simpa using hne))).trans hc
theorem Was.below {w w' : World} {m : FM} {vo : Option Addr} {bs : List Bool} (h : Was w m vo bs) (hB : Below w.heap.size w w') : Was w' m vo bs :=
  fun j b hj => by
    obtain ⟨g, e, hne, hc⟩ := h j b hj
    have hlt : g < w.heap.size := World.block_lt_of_cell? _ _ hc
    exact ⟨g, e, hne, (hB.cell (p := ⟨g, j, none⟩) hlt).trans hc⟩
/-- The answers of May, one by one. -/
def mays (l : List UInt8) (k : Nat) (Q : List PartV) : List Bool := Q.map fun q => mayK l (sumB q.bs 0#64) k
theorem mays_step {l : List UInt8} {k : Nat} {Q : List PartV} {i : Nat} {q : PartV} (h : Q[i]? = some q) : mays l k (Q.take (i + 1)) = mays l k (Q.take i) ++ [mayK l (sumB q.bs 0#64) k] := by
  unfold mays
  rw [take_succ_part h, List.map_append]
  rfl
theorem Bo_append (a b : List Bool) : Bo (a ++ b) = Bo a ++ Bo b := List.flatMap_append
theorem Bo_length (a : List Bool) : (Bo a).length = a.length := by
  unfold Bo
  induction a with
  | nil => rfl
  | cons x r ih => simp [List.flatMap_cons, ih]
theorem Bo_at (a : List Bool) (j : Nat) (b : Bool) (h : a[j]? = some b) : (Bo a)[j]? = some (.bool b) := by
  induction a generalizing j with
  | nil => simp at h
  | cons x r ih =>
    cases j with
    | zero => simp at h; subst h; rfl
    | succ j => exact ih j (by simpa using h)
theorem was_of {w : World} {base : Nat} {v : Value} {bs : List Bool} {m : FM} (h : w.ownsRow base 4 1 v bs.length (Bo bs)) (hm : m.g < base) : ∃ vo cap, v = .slice vo bs.length cap ∧ Was w m vo bs := by
  rcases h.2 with ⟨rfl, hn⟩ | ⟨g, cap, cur, rfl, hbg, hg, hnc, hcm, hcs, htake⟩
  · rw [hn]
    refine ⟨none, 0, rfl, fun j b hj => ?_⟩
    have := (List.getElem?_eq_some_iff.1 hj).1
    omega
  · refine ⟨_, cap, rfl, fun j b hj => ⟨g, rfl, by omega, ?_⟩⟩
    have := h.cells (g := g) rfl j _ (Bo_at bs j b hj)
    rwa [Addr.add_lit, Nat.zero_add] at this
theorem Keys.cell {w0 : World} {ao : Option Addr} {P : List PartV} (h : Keys w0 ao P) {i : Nat} (hi : i < P.length) : ∃ p b off, P[i]? = some p ∧ ao = some ⟨b, off, none⟩ ∧ ∀ w, Below w0.heap.size w0 w → w.cell? ⟨b, off + i, none⟩ = some (.slice p.ao p.bs.length p.cap) := by
  obtain ⟨p, hp⟩ : ∃ p, P[i]? = some p := ⟨_, List.getElem?_eq_getElem hi⟩
  obtain ⟨⟨b, off, e, hc⟩, _⟩ := h.see i p hp
  exact ⟨p, b, off, hp, e, fun w hB => by rw [hB.cell (World.block_lt_of_cell? _ _ hc), hc]⟩
namespace bloomGrows
set_option maxRecDepth 100000 in
set_option maxHeartbeats 4000000 in
theorem walk (x y : Nat) (ao : Option Addr) (P : List PartV) (cap : Nat) (bo : Option Addr) (Q : List PartV) (cap2 : Nat) (w : World) (hx : x < 18446744073709551616) (hy : y < 18446744073709551616) (hP : Keys w ao P) (hQ : Keys w bo Q) :
    Calls Try.prog 5 #[.agg #[.int .u64 (x : Int), .int .u64 (y : Int)], .slice ao P.length cap, .slice bo Q.length cap2] w fun e w' => e = .returned (.bool true) ∧ Below w.heap.size w w' := by
  obtain ⟨a, ha, ha2⟩ : ∃ a : Nat, (x : Int) % 200 = (a : Int) ∧ a < 200 := ⟨x % 200, by omega, by omega⟩
  obtain ⟨c, hc, hc1, hc2⟩ : ∃ c : Nat, 1 + (y : Int) % 32 = (c : Int) ∧ 1 ≤ c ∧ c ≤ 32 := ⟨1 + y % 32, by omega, by omega, by omega⟩
  have hbp := hP.big
  have hbq := hQ.big
  obtain ⟨i1, hi1, hy0, hy1, hy2⟩ := info_parts infoB
  have HP : Hid (Keys w ao P) := hP
  have HQ : Hid (Keys w bo Q) := hQ
  have Ha : Hid ((x : Int) % 200 = (a : Int)) := ha
  have Hc : Hid (1 + (y : Int) % 32 = (c : Int)) := hc
  clear hP hQ ha hc
  have LV : Hid (∀ w : World, Calls Try.prog 9 #[] w fun e w' => e = .returned (.bool true) ∧ Below w.heap.size w w') := lives8_any
  go_enter Try.func5, Try.ntmps5
  go_wp2_with fail
  go_quiet (fail)
  go_wp2_with fail
  rw [Ha.out, Hc.out]
  have hB0 : Below w.heap.size w ((w.alloc (.cells #[.int .u64 (x : Int), .int .u64 (y : Int)] 46)).drewN nq) := by
    have h := (Below.refl w.heap.size w).alloc (Nat.le_refl _) (.cells #[.int .u64 (x : Int), .int .u64 (y : Int)] 46)
    exact ⟨h.os, h.tape, h.output, h.size, h.block⟩
  generalize ((w.alloc (.cells #[.int .u64 (x : Int), .int .u64 (y : Int)] 46)).drewN nq) = wa at *
  refine (new_any a c (by omega) hc1 hc2 wa).mono ?_
  rintro e w1 ⟨m, rfl, hF, hd, hg, hgr⟩
  have hsz := hB0.size
  have hFil : Fil w w1 m (kOf c) (List.replicate (nOf a c) 0) := ⟨hF, by omega, by omega, hB0.trans ⟨hgr.os, hgr.tape, hgr.output, hgr.size, fun i hi => hgr.block i (by omega) (by simp)⟩⟩
  have hlen : (List.replicate (nOf a c) (0 : UInt8)).length = nOf a c := List.length_replicate
  have hnn : nOf a c = max ((a * c + 7) / 8) 1 := rfl
  have hac : a * c ≤ 6400 := Nat.le_trans (Nat.mul_le_mul (show a ≤ 200 by omega) hc2) (by decide)
  have hm : wrap64 ((a : Int) * (c : Int)) = ((a * c : Nat) : Int) := by
    rw [← Int.natCast_mul]
    unfold wrap64
    omega
  generalize kOf c = K at *
  generalize nOf a c = n at *
  generalize a * c = pp at *
  generalize List.replicate n (0 : UInt8) = L0 at *
  have HF : Hid (Fil w w1 m K L0) := hFil
  clear hF hd hg hgr hFil hsz hB0
  go_wp2_with fail
  refine (few_any w w1 ao P cap HP.out HF.out.B).mono ?_
  rintro e w2 ⟨b1, rfl, _, rfl⟩
  cases b1
  · go_wp2_with fail
    refine (LV.out _).mono ?_
    rintro e w3 ⟨rfl, hL⟩
    go_wp2_with fail
    go_ret
    exact ⟨rfl, HF.out.B.trans (hL.mono HF.out.B.size)⟩
  go_wp2_with fail
  refine (few_any w w2 bo Q cap2 HQ.out HF.out.B).mono ?_
  rintro e w3 ⟨b2, rfl, _, rfl⟩
  cases b2
  · go_wp2_with fail
    refine (LV.out _).mono ?_
    rintro e w3 ⟨rfl, hL⟩
    go_wp2_with fail
    go_ret
    exact ⟨rfl, HF.out.B.trans (hL.mono HF.out.B.size)⟩
  have Hac := toHidG hac
  have Hnn := toHidG hnn
  have h8 : ((pp : Int) + 7) / 8 * 8 < 8 ∨ 8 ≤ ((pp : Int) + 7) / 8 * 8 := by omega
  rcases h8 with h8 | h8
  all_goals (
    have H8 := toHidG h8
    go_wp2_with fail
    clear h8 hm hac hnn
    have hL0 : Hid (L0.length = n) := hlen
    clear hlen
    go_loopw [61] (fun s61 wr => ∃ (i : Nat) (L : List UInt8), i ≤ P.length ∧ s61 = .int .i64 (i : Int) ∧ L.length = n ∧ Fil w wr m K L) (fun s61 _ => P.length - (intOf s61).toNat)
    case atStart => exact ⟨0, L0, Nat.zero_le _, rfl, hL0.out, HF.out⟩
    case round =>
      obtain ⟨i, L, hi, rfl, hL, hFr⟩ := hrel
      have HR : Hid (Fil w wr m K L) := hFr
      have HL : Hid (L.length = n) := hL
      clear hFr hL
      rcases Nat.lt_or_ge i P.length with hlt | hge
      · obtain ⟨p, b, off, hp, e, hcell⟩ := HP.out.cell hlt
        subst e
        have hcc := hcell wr HR.out.B
        have A := fil_add HR.out HP.out hp
        clear hcell
        go_wp2_with fail
        refine A.mono ?_
        rintro e wx ⟨rfl, hX, _⟩
        go_wp2_with fail
        go_roundw
        case rel => exact ⟨i + 1, _, by omega, by simp, by rw [addK_length]; exact HL.out, hX⟩
        case measure => simp [intOf]; omega
      · obtain rfl : i = P.length := by omega
        obtain ⟨w4, rfl⟩ : ∃ w4, w4 = wr := ⟨_, rfl⟩
        have hgw := HR.out.at_.bits.lt
        have hdw := HR.out.at_.head.lt
        go_wp2_with fail
        go_loopw [13, 71] (fun s13 s71 wr => ∃ (j : Nat) (v : Value), j ≤ Q.length ∧ v = s13 ∧ s71 = .int .i64 (j : Int) ∧ Fil w wr m K L ∧ w4.heap.size ≤ wr.heap.size ∧ wr.ownsRow w4.heap.size 4 1 v j (Bo (mays L K (Q.take j)))) (fun _ s71 _ => Q.length - (intOf s71).toNat)
        case atStart => exact ⟨0, _, Nat.zero_le _, rfl, rfl, HR.out, Nat.le_refl _, World.ownsRow_nil _ _ _ _⟩
        case round =>
          obtain ⟨j, v, hj, rfl, rfl, hFq, hsq, hown⟩ := hrel
          have HRq : Hid (Fil w wr m K L) := hFq
          have HO : Hid (wr.ownsRow w4.heap.size 4 1 v j (Bo (mays L K (Q.take j)))) := hown
          clear hFq hown
          rcases Nat.lt_or_ge j Q.length with hlt | hge
          · obtain ⟨q, b, off, hq, e, hcell⟩ := HQ.out.cell hlt
            subst e
            have hcc := hcell wr HRq.out.B
            have A := fil_may HRq.out HQ.out hq
            clear hcell
            have Hst : Hid (mays L K (Q.take (j + 1)) = mays L K (Q.take j) ++ [mayK L (sumB q.bs 0#64) K]) := mays_step hq
            generalize mayK L (sumB q.bs 0#64) K = ans at *
            go_wp2_with fail
            refine A.mono ?_
            rintro e wx ⟨rfl, hX, hBx⟩
            have hO2 := owns_below HO.out hBx
            have hsx := hBx.size
            clear A
            go_wp2_with (at_builtin; go_must (refine wpList_append_grew _ rfl _ _ 47 47 rfl w4.heap.size 4 i1 (.bool false) 1 1 Try.underlying47 hi1 hy0 hy1 hy2 rfl _ j _ rfl (hO2.alloc _) _ 1 (Bo [ans]) rfl (src_bool _ _) (by unfold maxLen; omega) (by omega) (by rw [World.size_alloc]; omega) ?_; intro v2 wz hO3 hG3))
            have hs3 := hG3.rows.size
            rw [World.size_alloc] at hs3
            go_roundw
            case measure => simp [intOf]; omega
            refine ⟨j + 1, _, by omega, rfl, by simp, ?_, by omega, ?_⟩
            · have hlo := fun g hg => ((hO2.alloc (.cells #[.bool ans] 4)).lt g hg).1
              have hX2 : Fil w (wx.alloc (.cells #[.bool ans] 4)) m K L := hX.below ((Below.refl _ _).alloc (Nat.le_refl _) _)
              have hwr := HR.out.B.size
              refine ⟨hX2.at_.carry (hG3.rows.block _ (by rw [World.size_alloc]; omega) (fun e => by have := hlo _ e.symm; omega)) (hG3.rows.block _ (by rw [World.size_alloc]; omega) (fun e => by have := hlo _ e.symm; omega)), hX2.d, hX2.g, hX2.B.trans (hG3.below (by rw [World.size_alloc]; omega) (fun g hg => by have := hlo g hg; omega))⟩
            · rw [Hst.out, Bo_append]
              exact hO3
          · obtain rfl : j = Q.length := by omega
            have hml : (mays L K Q).length = Q.length := List.length_map _
            have hown2 := HO.out
            rw [List.take_length] at hown2
            rw [← hml] at hown2
            obtain ⟨vo, vcap, hv, hWas⟩ := was_of (m := m) hown2 hgw
            rw [hml] at hv
            subst hv
            have HW : Hid (Was wr m vo (mays L K Q)) := hWas
            clear hown2 hWas HO hml
            go_wp2_with fail
            go_loopw [84] (fun s84 wr => ∃ (i : Nat) (L2 : List UInt8), i ≤ P.length ∧ s84 = .int .i64 (i : Int) ∧ Ext K L L2 ∧ Fil w wr m K L2 ∧ Was wr m vo (mays L K Q)) (fun s84 _ => P.length - (intOf s84).toNat)
            case atStart => exact ⟨0, L, Nat.zero_le _, rfl, Ext.refl _ _, HRq.out, HW.out⟩
            case round =>
              obtain ⟨i, L2, hi, rfl, hE2, hF2, hW2⟩ := hrel
              have HE2 := toHidG hE2
              have HF2 := toHidG hF2
              have HW2 := toHidG hW2
              clear hE2 hF2 hW2
              rcases Nat.lt_or_ge i P.length with hlt | hge
              · obtain ⟨p, b, off, hp, e, hcell⟩ := HP.out.cell hlt
                subst e
                have hcc := hcell wr HF2.out.B
                have A := fil_add HF2.out HP.out hp
                clear hcell
                go_wp2_with fail
                refine A.mono ?_
                rintro e wx ⟨rfl, hX, hgx⟩
                go_wp2_with fail
                go_roundw
                case rel => exact ⟨i + 1, _, by omega, by simp, HE2.out.add HF2.out.at_.pos _, hX, HW2.out.grown hgx⟩
                case measure => simp [intOf]; omega
              · obtain rfl : i = P.length := by omega
                go_wp2_with fail
                go_loopw [94] (fun s94 wr => ∃ (i : Nat) (L3 : List UInt8), i ≤ Q.length ∧ s94 = .int .i64 (i : Int) ∧ Ext K L L3 ∧ Fil w wr m K L3 ∧ Was wr m vo (mays L K Q)) (fun s94 _ => Q.length - (intOf s94).toNat)
                case atStart => exact ⟨0, L2, Nat.zero_le _, rfl, HE2.out, HF2.out, HW2.out⟩
                case round =>
                  obtain ⟨i, L3, hi, rfl, hE3, hF3, hW3⟩ := hrel
                  have HE3 := toHidG hE3
                  have HF3 := toHidG hF3
                  have HW3 := toHidG hW3
                  clear hE3 hF3 hW3
                  rcases Nat.lt_or_ge i Q.length with hlt | hge
                  · obtain ⟨p, b, off, hp, e, hcell⟩ := HQ.out.cell hlt
                    subst e
                    have hcc := hcell wr HF3.out.B
                    have A := fil_add HF3.out HQ.out hp
                    clear hcell
                    go_wp2_with fail
                    refine A.mono ?_
                    rintro e wx ⟨rfl, hX, hgx⟩
                    go_wp2_with fail
                    go_roundw
                    case rel => exact ⟨i + 1, _, by omega, by simp, HE3.out.add HF3.out.at_.pos _, hX, HW3.out.grown hgx⟩
                    case measure => simp [intOf]; omega
                  · obtain rfl : i = Q.length := by omega
                    go_wp2_with fail
                    go_loopw [104] (fun s104 wr => ∃ i : Nat, i ≤ Q.length ∧ s104 = .int .i64 (i : Int) ∧ Fil w wr m K L3 ∧ Was wr m vo (mays L K Q)) (fun s104 _ => Q.length - (intOf s104).toNat)
                    case atStart => exact ⟨0, Nat.zero_le _, rfl, HF3.out, HW3.out⟩
                    case round =>
                      obtain ⟨i, hi, rfl, hF4, hW4⟩ := hrel
                      have HF4 := toHidG hF4
                      have HW4 := toHidG hW4
                      clear hF4 hW4
                      rcases Nat.lt_or_ge i Q.length with hlt | hge
                      · obtain ⟨p, b, off, hp, e, hcell⟩ := HQ.out.cell hlt
                        subst e
                        have hcc := hcell wr HF4.out.B
                        have A := fil_may HF4.out HQ.out hp
                        have hans : (mays L K Q)[i]? = some (mayK L (sumB p.bs 0#64) K) := by unfold mays; rw [List.getElem?_map, hp]; rfl
                        obtain ⟨g, rfl, _, hwc⟩ := HW4.out i _ hans
                        have hext := HE3.out.2 (sumB p.bs 0#64)
                        clear hcell hans
                        generalize mayK L (sumB p.bs 0#64) K = ans at *
                        cases ans
                        · clear A hext
                          go_wp2_with fail
                          go_roundw
                          case rel => exact ⟨i + 1, by omega, by simp, HF4.out, HW4.out⟩
                          case measure => simp [intOf]; omega
                        · rw [hext rfl] at A
                          clear hext
                          go_wp2_with fail
                          refine A.mono ?_
                          rintro e wx ⟨rfl, hX, hBx⟩
                          go_wp2_with fail
                          go_roundw
                          case rel => exact ⟨i + 1, by omega, by simp, hX, HW4.out.below hBx⟩
                          case measure => simp [intOf]; omega
                      · obtain rfl : i = Q.length := by omega
                        have SZ := size_any HF4.out.at_
                        have hl3 : L3.length = n := HE3.out.1.trans HL.out
                        rw [hl3] at SZ
                        have h8' := H8.out
                        have hnn' := Hnn.out
                        go_wp2_with fail
                        refine SZ.mono ?_
                        rintro e wx ⟨rfl, rfl⟩
                        go_wp2_with fail
                        refine (LV.out _).mono ?_
                        rintro e wy ⟨rfl, hL⟩
                        go_wp2_with fail
                        go_ret
                        exact ⟨rfl, HF4.out.B.trans (hL.mono HF4.out.B.size)⟩
  )
end bloomGrows
end Go.Proofs.Ytblblngcmgdnnaa

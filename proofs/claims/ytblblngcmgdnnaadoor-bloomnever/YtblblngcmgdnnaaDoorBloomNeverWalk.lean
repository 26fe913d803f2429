/-
  THE LAW BloomNever: the walk.
-/
import Derived.Test.YtblblngcmgdnnaaDoorBlmRun
import Derived.Test.YtblblngcmgdnnaaDoorBlmRead
namespace Go.Proofs.YtblblngcmgdnnaaDoor
open Go.RowKit

theorem toHidN {p : Prop} (h : p) : Hid p := h
theorem Keys.cellN {w0 : World} {ao : Option Addr} {P : List PartV} (h : Keys w0 ao P) {i : Nat} (hi : i < P.length) : ∃ p b off, P[i]? = some p ∧ ao = some ⟨b, off, none⟩ ∧ ∀ w, Below w0.heap.size w0 w → w.cell? ⟨b, off + i, none⟩ = some (.slice p.ao p.bs.length p.cap) := by
  obtain ⟨p, hp⟩ : ∃ p, P[i]? = some p := ⟨_, List.getElem?_eq_getElem hi⟩
  obtain ⟨⟨b, off, e, hc⟩, _⟩ := h.see i p hp
  exact ⟨p, b, off, hp, e, fun w hB => by rw [hB.cell (World.block_lt_of_cell? _ _ hc), hc]⟩
/-- All of the first i may be there. -/
def AllMay (l : List UInt8) (k : Nat) (P : List PartV) (i : Nat) : Prop := ∀ j p, j < i → P[j]? = some p → mayK l (sumB p.bs 0#64) k = true
theorem AllMay.add {l : List UInt8} {k : Nat} {P : List PartV} {i : Nat} {p : PartV} (h : AllMay l k P i) (hp : P[i]? = some p) (hl : 0 < l.length) : AllMay (addK l (sumB p.bs 0#64) k) k P (i + 1) := by
  intro j q hj hq
  rcases Nat.lt_or_ge j i with hlt | hge
  · exact may_more _ _ _ _ _ hl (h j q hlt hq)
  · obtain rfl : j = i := by omega
    obtain rfl : p = q := by rw [hp] at hq; exact Option.some.inj hq
    exact may_add _ _ _ hl
theorem fil_places {w0 w : World} {m : FM} {k : Nat} {l : List UInt8} {ao : Option Addr} {P : List PartV} (h : Fil w0 w m k l) (hK : Keys w0 ao P) {i : Nat} {p : PartV} (hp : P[i]? = some p) :
    Calls Tryd.prog 12 #[m.v, .slice p.ao p.bs.length p.cap] w fun e w' => ∃ g, e = .returned (.slice (some ⟨g, 0, none⟩) k k) ∧ Blk w' g (P64 (plcs (sumB p.bs 0#64) l.length k)) 3 ∧ Below w.heap.size w w' := by
  obtain ⟨h1, h2, h3⟩ := hK.part hp h.B
  refine (places_any h.at_ p.ao p.bs p.cap h3 h2 h1).mono ?_
  rintro e w' ⟨g, rfl, hb, _, hB⟩
  exact ⟨g, rfl, hb, hB⟩
namespace bloomNever
set_option maxRecDepth 100000 in
set_option maxHeartbeats 4000000 in
theorem walk (x y : Nat) (ao : Option Addr) (P : List PartV) (cap : Nat) (w : World) (hx : x < 18446744073709551616) (hy : y < 18446744073709551616) (hP : Keys w ao P) :
    Calls Tryd.prog 4 #[.int .u64 (x : Int), .int .u64 (y : Int), .slice ao P.length cap] w fun e w' => e = .returned (.bool true) ∧ Below w.heap.size w w' := by
  obtain ⟨a, ha, ha2⟩ : ∃ a : Nat, (x : Int) % 200 = (a : Int) ∧ a < 200 := ⟨x % 200, by omega, by omega⟩
  obtain ⟨c, hc, hc1, hc2⟩ : ∃ c : Nat, 1 + (y : Int) % 32 = (c : Int) ∧ 1 ≤ c ∧ c ≤ 32 := ⟨1 + y % 32, by omega, by omega, by omega⟩
  have hbp := hP.big
  have HP : Hid (Keys w ao P) := hP
  have Ha : Hid ((x : Int) % 200 = (a : Int)) := ha
  have Hc : Hid (1 + (y : Int) % 32 = (c : Int)) := hc
  clear hP ha hc
  have LV : Hid (∀ w : World, Calls Tryd.prog 5 #[] w fun e w' => e = .returned (.bool true) ∧ Below w.heap.size w w') := lives8_any
  go_enter Tryd.func4, Tryd.ntmps4
  go_wp2_with fail
  rw [Ha.out, Hc.out]
  refine (new_any a c (by omega) hc1 hc2 w).mono ?_
  rintro e w1 ⟨m, rfl, hF, hd, hg, hgr⟩
  have hFil : Fil w w1 m (kOf c) (List.replicate (nOf a c) 0) := ⟨hF, hd, hg, ⟨hgr.os, hgr.tape, hgr.output, hgr.size, fun i hi => hgr.block i hi (by simp)⟩⟩
  generalize kOf c = K at *
  generalize List.replicate (nOf a c) (0 : UInt8) = L0 at *
  have HF := toHidN hFil
  clear hF hd hg hgr hFil
  go_wp2_with fail
  refine (few_any w w1 ao P cap HP.out HF.out.B).mono ?_
  rintro e w2 ⟨b1, rfl, _, rfl⟩
  cases b1
  · go_wp2_with fail
    refine (LV.out _).mono ?_
    rintro e w3 ⟨rfl, hL⟩
    go_wp2_with fail
    go_ret
    exact ⟨rfl, HF.out.B.trans (hL.mono HF.out.B.size)⟩
  go_wp2_with fail
  go_loopw [38] (fun s38 wr => ∃ (i : Nat) (L : List UInt8), i ≤ P.length ∧ s38 = .int .i64 (i : Int) ∧ Fil w wr m K L ∧ AllMay L K P i) (fun s38 _ => P.length - (intOf s38).toNat)
  case atStart => exact ⟨0, L0, Nat.zero_le _, rfl, HF.out, fun j p hj _ => absurd hj (Nat.not_lt_zero _)⟩
  case round =>
    obtain ⟨i, L, hi, rfl, hFr, hAr⟩ := hrel
    have HR := toHidN hFr
    have HA := toHidN hAr
    clear hFr hAr
    rcases Nat.lt_or_ge i P.length with hlt | hge
    · obtain ⟨p, b, off, hp, e, hcell⟩ := HP.out.cellN hlt
      subst e
      have hcc := hcell wr HR.out.B
      have A := fil_add HR.out HP.out hp
      clear hcell
      go_wp2_with fail
      refine A.mono ?_
      rintro e wx ⟨rfl, hX, _⟩
      go_wp2_with fail
      go_roundw
      case rel => exact ⟨i + 1, _, by omega, by simp, hX, HA.out.add hp HR.out.at_.pos⟩
      case measure => simp [intOf]; omega
    · obtain rfl : i = P.length := by omega
      obtain ⟨w4, rfl⟩ : ∃ w4, w4 = wr := ⟨_, rfl⟩
      have BY := bytes_any HR.out.at_
      go_wp2_with fail
      refine BY.mono ?_
      rintro e w5 ⟨v, rfl, ho5, hB5⟩
      have hk1 := HR.out.at_.k1
      have hk2 := HR.out.at_.k2
      have hl1 := HR.out.at_.pos
      have hl2 := HR.out.at_.len
      have hel : 0 < (encF K L).length := by unfold encF; simp; omega
      obtain ⟨g5, cp5, rest5, rfl, hg5, hb5, hc5⟩ := owns_fat ho5 hel
      have hs5 : Sees w5 (some ⟨g5, 0, none⟩) (encF K L) := by
        obtain ⟨ao', cap', e', hs', _, _⟩ := owns_sees ho5
        cases e'
        exact hs'
      have hcm : cp5 ≤ 9223372036854775807 := by
        rcases ho5.2 with ⟨e, _⟩ | ⟨g', cap', cur, e, _, _, _, hm, _⟩
        · cases e
        · cases e; unfold maxLen at hm; omega
      have RD := read_back g5 0 K L cp5 w5 hs5 hc5 hcm hk1 hk2 hl1 hl2
      clear BY ho5 hb5 hs5 hcm
      go_wp2_with fail
      refine RD.mono ?_
      rintro e w6 ⟨m2, rfl, hF2, hd2, hg2, hB6⟩
      have HR2 := toHidN (HR.out.below (hB5.trans (hB6.mono hB5.size)))
      have hw5 := hB5.size
      have hww := HR.out.B.size
      have HS : Hid (Fil w w6 m2 K L) := ⟨hF2, by omega, by omega, HR2.out.B⟩
      have S1 := size_any HS.out.at_
      have S2 := size_any HR2.out.at_
      clear RD hF2
      go_wp2_with fail
      refine S1.mono ?_
      rintro e w7 ⟨rfl, rfl⟩
      go_wp2_with fail
      refine S2.mono ?_
      rintro e w8 ⟨rfl, rfl⟩
      clear S1 S2
      go_wp2_with fail
      go_loopw [67] (fun s67 wr => ∃ i : Nat, i ≤ P.length ∧ s67 = .int .i64 (i : Int) ∧ Fil w wr m K L ∧ Fil w wr m2 K L) (fun s67 _ => P.length - (intOf s67).toNat)
      case atStart => exact ⟨0, Nat.zero_le _, rfl, HR2.out, HS.out⟩
      case round =>
        obtain ⟨i, hi, rfl, hA1, hA2⟩ := hrel
        have H1 := toHidN hA1
        have H2 := toHidN hA2
        clear hA1 hA2
        rcases Nat.lt_or_ge i P.length with hlt | hge
        · obtain ⟨p, b, off, hp, e, hcell⟩ := HP.out.cellN hlt
          subst e
          have hcc := hcell wr H1.out.B
          have A := fil_may H1.out HP.out hp
          rw [HA.out i p hlt hp] at A
          clear hcell
          go_wp2_with fail
          refine A.mono ?_
          rintro e wx ⟨rfl, hX1, hBx⟩
          have A2 := fil_may (H2.out.below hBx) HP.out hp
          rw [HA.out i p hlt hp] at A2
          clear A
          go_wp2_with fail
          refine A2.mono ?_
          rintro e wy ⟨rfl, hX2, hBy⟩
          have hY1 := hX1.below hBy
          have A3 := fil_places hY1 HP.out hp
          have hpl := plcs_lt (sumB p.bs 0#64) L.length K hl1
          have hpn := plcs_length (sumB p.bs 0#64) L.length K
          generalize plcs (sumB p.bs 0#64) L.length K = ps at *
          have HY1 := toHidN hY1
          have HY2 := toHidN hX2
          clear A2 hX1 hX2 hY1
          go_wp2_with fail
          refine A3.mono ?_
          rintro e wz ⟨g, rfl, hbz, hBz⟩
          have HZ1 := toHidN (HY1.out.below hBz)
          have HZ2 := toHidN (HY2.out.below hBz)
          have HbZ := toHidN hbz
          have Hpl := toHidN hpl
          clear A3 hbz hpl
          go_wp2_with fail
          go_loopw [85] (fun s85 wr => ∃ j : Nat, j ≤ K ∧ s85 = .int .i64 (j : Int) ∧ wr = wz) (fun s85 _ => K - (intOf s85).toNat)
          case atStart => exact ⟨0, Nat.zero_le _, rfl, rfl⟩
          case round =>
            obtain ⟨j, hj, rfl, rfl⟩ := hrel
            rcases Nat.lt_or_ge j K with hjl | hjg
            · obtain ⟨z, hz⟩ : ∃ z, ps[j]? = some z := ⟨_, List.getElem?_eq_getElem (by omega)⟩
              have hzl := Hpl.out z (List.mem_of_getElem? hz)
              have cz := HbZ.out.cell j (v := .int .i64 (z : Int)) (by unfold P64; rw [List.getElem?_map, hz]; rfl)
              have SZ := size_any HZ1.out.at_
              go_wp2_with fail
              refine SZ.mono ?_
              rintro e wq ⟨rfl, rfl⟩
              go_wp2_with fail
              go_roundw
              case rel => exact ⟨j + 1, by omega, by simp, trivial⟩
              case measure => simp [intOf]; omega
            · obtain rfl : j = K := by omega
              go_wp2_with fail
              go_roundw
              case rel => exact ⟨i + 1, by omega, by simp, HZ1.out, HZ2.out⟩
              case measure => simp [intOf]; omega
        · obtain rfl : i = P.length := by omega
          go_wp2_with fail
          refine (LV.out _).mono ?_
          rintro e w3 ⟨rfl, hL⟩
          go_wp2_with fail
          go_ret
          exact ⟨rfl, H1.out.B.trans (hL.mono H1.out.B.size)⟩
end bloomNever
end Go.Proofs.YtblblngcmgdnnaaDoor

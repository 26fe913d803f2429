/-
  CONTRACTS: a manifest in memory; is it good (Good).
-/
import Derived.Test.YthihljjefncfoaaDoorManFile
import Derived.Test.YthihljjefncfoaaDoorIntRow
import Derived.Test.YthihljjefncfoaaDoorBlk
namespace Go.Proofs.YthihljjefncfoaaDoor
open Go.RowKit

/-- A manifest as a value. -/
def mval (ao : Option Addr) (cap : Nat) (m : Mf) : Value := .agg #[.slice ao m.ts.length cap, .int .i64 m.nx, .int .i64 m.fr]
/-- Its tables lie in memory. -/
structure MSees (w : World) (ao : Option Addr) (cap : Nat) (m : Mf) : Prop where
  see : ISees w ao m.ts
  nil : ao = none → m.ts.length = 0
  cap : m.ts.length ≤ cap
theorem MSees.below {w w' : World} {ao : Option Addr} {cap : Nat} {m : Mf} (h : MSees w ao cap m) {B : Nat} (hb : Below B w w') (hB : w.heap.size ≤ B) : MSees w' ao cap m := ⟨h.see.below hb hB, h.nil, h.cap⟩
theorem good_no {m : Mf} {k : Nat} (hk : k < m.ts.length) (h : okT m.ts m.nx k = false) : goodM m = false := by
  cases hg : goodM m with
  | false => rfl
  | true => have := (goodM_iff.1 hg).2.2.2 k hk; rw [h] at this; cases this
theorem good_yes {m : Mf} (h1 : possZ m.nx = true) (h2 : possZ m.fr = true) (h3 : m.ts.length ≤ 30) (h : ∀ j, j < m.ts.length → okT m.ts m.nx j = true) : goodM m = true := goodM_iff.2 ⟨possZ_iff.1 h1, possZ_iff.1 h2, h3, h⟩
theorem good_nx {m : Mf} (h : possZ m.nx = false) : goodM m = false := by unfold goodM; rw [h]; rfl
theorem good_fr {m : Mf} (h : possZ m.fr = false) : goodM m = false := by unfold goodM; rw [h, Bool.and_false]; rfl
theorem good_many {m : Mf} (h : 30 < m.ts.length) : goodM m = false := by unfold goodM; rw [decide_eq_false (p := m.ts.length ≤ 30) (by omega), Bool.and_false]; rfl
theorem isees_at {w : World} {ao : Option Addr} {l : List Int} (h : ISees w ao l) (hp : 0 < l.length) : ∃ b off, ao = some ⟨b, off, none⟩ ∧ ∀ j, j < l.length → w.cell? ⟨b, off + j, none⟩ = some (.int .i64 (l.getD j 0)) := by
  obtain ⟨b, off, rfl, _⟩ := h 0 _ (List.getElem?_eq_getElem hp)
  refine ⟨b, off, rfl, fun j hj => ?_⟩
  obtain ⟨b', off', e, hc⟩ := h j _ (List.getElem?_eq_getElem hj)
  cases e
  rw [hc, List.getD_eq_getElem?_getD, List.getElem?_eq_getElem hj]; rfl
set_option maxRecDepth 100000 in
set_option maxHeartbeats 1000000 in
theorem good_any (ao : Option Addr) (cap : Nat) (m : Mf) (w : World) (h : MSees w ao cap m) (hl : m.ts.length ≤ 1000000) (hc : cap ≤ 9223372036854775807) :
    Calls Tryd.prog 12 #[mval ao cap m] w fun e w' => e = .returned (.bool (goodM m)) ∧ Below w.heap.size w w' := by
  obtain ⟨ts, nx, fr⟩ := m
  obtain ⟨hs, hn, hcap⟩ := h
  dsimp only at hs hn hcap hl
  unfold mval
  dsimp only
  have hk := Blk.new w [.slice ao ts.length cap, .int .i64 nx, .int .i64 fr] 24
  have c0 := hk.cell 0 rfl
  have c1 := hk.cell 1 rfl
  have c2 := hk.cell 2 rfl
  have HB : Hid (Below w.heap.size w (w.alloc (.cells #[.slice ao ts.length cap, .int .i64 nx, .int .i64 fr] 24))) := (Below.refl _ _).alloc (Nat.le_refl _) _
  have hs1 := hs.below HB.out (Nat.le_refl _)
  have CP : Hid (∀ n u, Calls Tryd.prog 33 #[.int .i64 n] u fun e w' => e = .returned (.bool (possZ n)) ∧ w' = u) := possibleM_any
  have CC : Hid (∀ (b off : Nat) (k : Nat) (x : Int), k ≤ ts.length → ao = some ⟨b, off, none⟩ → Calls Tryd.prog 34 #[.slice (some ⟨b, off, none⟩) k cap, .int .i64 x] (w.alloc (.cells #[.slice ao ts.length cap, .int .i64 nx, .int .i64 fr] 24)) fun e w' => e = .returned (.bool ((ts.take k).contains x)) ∧ w' = (w.alloc (.cells #[.slice ao ts.length cap, .int .i64 nx, .int .i64 fr] 24))) := fun b off k x hk e => by
    rcases Nat.eq_zero_or_pos ts.length with h0 | hp
    · obtain rfl : k = 0 := by omega
      have := Tryd.slices_Contains_int_empty (some ⟨b, off, none⟩) cap x (w.alloc (.cells #[.slice ao ts.length cap, .int .i64 nx, .int .i64 fr] 24))
      simpa using this
    · obtain ⟨b', off', e', hcs⟩ := isees_at hs1 hp
      rw [e] at e'
      cases e'
      exact Tryd.slices_Contains_int b off k cap ts x _ hk (by omega) hcs
  have HS : Hid (∀ k, k < ts.length → ∃ b off, ao = some ⟨b, off, none⟩ ∧ (w.alloc (.cells #[.slice ao ts.length cap, .int .i64 nx, .int .i64 fr] 24)).cell? ⟨b, off + k, none⟩ = some (.int .i64 (ts.getD k 0))) := fun k hk => by
    obtain ⟨b', off', e', hcs⟩ := isees_at hs1 (by omega)
    exact ⟨b', off', e', hcs k hk⟩
  have hli : (ts.length : Int) ≤ 1000000 := by omega
  have Hcap : Hid (ts.length ≤ cap) := hcap
  have GN : Hid (possZ nx = false → goodM ⟨ts, nx, fr⟩ = false) := fun h => good_nx h
  have GF : Hid (possZ fr = false → goodM ⟨ts, nx, fr⟩ = false) := fun h => good_fr h
  have GM : Hid (30 < ts.length → goodM ⟨ts, nx, fr⟩ = false) := fun h => good_many h
  have GX : Hid (∀ k, k < ts.length → okT ts nx k = false → goodM ⟨ts, nx, fr⟩ = false) := fun k hk h => good_no hk h
  have GY : Hid (possZ nx = true → possZ fr = true → ts.length ≤ 30 → (∀ j, j < ts.length → okT ts nx j = true) → goodM ⟨ts, nx, fr⟩ = true) := fun h1 h2 h3 h4 => good_yes h1 h2 h3 h4
  have CP1 := CP.out nx
  have CP2 := CP.out fr
  have HK : Hid (∀ k x, ts.getD k 0 = x → okT ts nx k = (decide (1 ≤ x) && decide (x < nx) && !((ts.take k).contains x))) := fun k x e => by unfold okT; rw [e]
  clear hk hs1 CP hn hcap
  generalize goodM ⟨ts, nx, fr⟩ = G at *
  cases hb1 : possZ nx with
  | false =>
    rw [hb1] at CP1
    have C1 : Hid (∀ u, Calls Tryd.prog 33 #[.int .i64 nx] u fun e w' => e = .returned (.bool false) ∧ w' = u) := CP1
    have HG : Hid (G = false) := GN.out hb1
    clear GN GF GM GX GY hb1 CP1 CP2 CC HS HK
    go_enter Tryd.func12, Tryd.ntmps12
    go_wp2_with (go_at_call 33; refine (C1.out _).mono ?_; rintro e w2 ⟨rfl, rfl⟩)
    go_ret
    exact ⟨by rw [HG.out]; rfl, HB.out⟩
  | true =>
    rw [hb1] at CP1
    have C1 : Hid (∀ u, Calls Tryd.prog 33 #[.int .i64 nx] u fun e w' => e = .returned (.bool true) ∧ w' = u) := CP1
    clear CP1 GN
    cases hb2 : possZ fr with
    | false =>
      rw [hb2] at CP2
      have C2 : Hid (∀ u, Calls Tryd.prog 33 #[.int .i64 fr] u fun e w' => e = .returned (.bool false) ∧ w' = u) := CP2
      have HG : Hid (G = false) := GF.out hb2
      clear GF GM GX GY hb1 hb2 CP2 CC HS HK
      go_enter Tryd.func12, Tryd.ntmps12
      go_wp2_with fail
      go_fit (C1.out _)
      rintro e w2 ⟨rfl, rfl⟩
      go_wp2_with fail
      go_fit (C2.out _)
      rintro e w2 ⟨rfl, rfl⟩
      go_wp2_with fail
      go_ret
      exact ⟨by rw [HG.out]; rfl, HB.out⟩
    | true =>
      rw [hb2] at CP2
      have C2 : Hid (∀ u, Calls Tryd.prog 33 #[.int .i64 fr] u fun e w' => e = .returned (.bool true) ∧ w' = u) := CP2
      clear CP2 GF
      rcases Nat.lt_or_ge 30 ts.length with hm | hm
      · have HG : Hid (G = false) := GM.out hm
        have hmi : (30 : Int) < (ts.length : Int) := by omega
        clear GM GX GY hb1 hb2 CC HS HK
        go_enter Tryd.func12, Tryd.ntmps12
        go_wp2_with fail
        go_fit (C1.out _)
        rintro e w2 ⟨rfl, rfl⟩
        go_wp2_with fail
        go_fit (C2.out _)
        rintro e w2 ⟨rfl, rfl⟩
        go_wp2_with fail
        go_ret
        exact ⟨by rw [HG.out]; rfl, HB.out⟩
      · have HY : Hid ((∀ j, j < ts.length → okT ts nx j = true) → G = true) := GY.out hb1 hb2 hm
        have hmi : ¬ (30 : Int) < (ts.length : Int) := by omega
        clear GM GY hb1 hb2 hm
        go_enter Tryd.func12, Tryd.ntmps12
        go_wp2_with fail
        go_fit (C1.out _)
        rintro e w2 ⟨rfl, rfl⟩
        go_wp2_with fail
        go_fit (C2.out _)
        rintro e w2 ⟨rfl, rfl⟩
        go_wp2_with fail
        go_loop [24] (fun i => ∃ k : Nat, k ≤ ts.length ∧ i = .int .i64 (k : Int) ∧ ∀ j, j < k → okT ts nx j = true) (fun i => ts.length - (intOf i).toNat)
        case atStart => exact ⟨0, Nat.zero_le _, rfl, fun j hj => absurd hj (Nat.not_lt_zero _)⟩
        case round =>
          obtain ⟨k, hk, rfl, hall⟩ := hrel
          have HA : Hid (∀ j, j < k → okT ts nx j = true) := hall
          clear hall
          rcases Nat.lt_or_ge k ts.length with hlt | hge
          · obtain ⟨b, off, rfl, hc⟩ := HS.out k hlt
            have C3 := CC.out b off k (ts.getD k 0) hk rfl
            have HX := HK.out k _ rfl
            have HQ : Hid (okT ts nx k = false → G = false) := fun h => GX.out k hlt h
            have hkc : k ≤ cap := Nat.le_trans hk Hcap.out
            have hkci : (k : Int) ≤ (cap : Int) := by omega
            have hlti : (k : Int) < (ts.length : Int) := by omega
            generalize ts.getD k 0 = x at *
            obtain ⟨O, hO⟩ : ∃ O, okT ts nx k = O := ⟨_, rfl⟩
            have HO : Hid (okT ts nx k = O) := hO
            rw [hO] at HX HQ
            clear hO
            by_cases x1 : x < 1
            · have HG : Hid (G = false) := HQ.out (by rw [HX, decide_eq_false (p := 1 ≤ x) (by omega)]; rfl)
              clear HX HQ C3 HY GX HK CC HS
              go_wp2_with fail
              go_ret
              exact ⟨by rw [HG.out]; rfl, HB.out⟩
            by_cases x2 : nx ≤ x
            · have HG : Hid (G = false) := HQ.out (by rw [HX, decide_eq_false (p := x < nx) (by omega), Bool.and_false]; rfl)
              clear HX HQ C3 HY GX HK CC HS
              go_wp2_with fail
              go_ret
              exact ⟨by rw [HG.out]; rfl, HB.out⟩
            have x1' : decide (1 ≤ x) = true := decide_eq_true (by omega)
            have x2' : decide (x < nx) = true := decide_eq_true (by omega)
            cases hct : (ts.take k).contains x with
            | true =>
              rw [hct] at C3 HX
              have C4 : Hid (Calls Tryd.prog 34 #[.slice (some ⟨b, off, none⟩) k cap, .int .i64 x] (w.alloc (.cells #[.slice (some ⟨b, off, none⟩) ts.length cap, .int .i64 nx, .int .i64 fr] 24)) fun e w' => e = .returned (.bool true) ∧ w' = (w.alloc (.cells #[.slice (some ⟨b, off, none⟩) ts.length cap, .int .i64 nx, .int .i64 fr] 24))) := C3
              have HG : Hid (G = false) := HQ.out (by rw [HX]; simp)
              clear HX HQ C3 HY GX HK CC HS x1' x2' hct
              go_wp2_with fail
              go_fit C4.out
              rintro e w2 ⟨rfl, rfl⟩
              go_wp2_with fail
              go_ret
              exact ⟨by rw [HG.out]; rfl, HB.out⟩
            | false =>
              rw [hct] at C3 HX
              have C4 : Hid (Calls Tryd.prog 34 #[.slice (some ⟨b, off, none⟩) k cap, .int .i64 x] (w.alloc (.cells #[.slice (some ⟨b, off, none⟩) ts.length cap, .int .i64 nx, .int .i64 fr] 24)) fun e w' => e = .returned (.bool false) ∧ w' = (w.alloc (.cells #[.slice (some ⟨b, off, none⟩) ts.length cap, .int .i64 nx, .int .i64 fr] 24))) := C3
              have HG : Hid (O = true) := by show _ = _; rw [HX, x1', x2']; rfl
              clear HX HQ C3 GX HK CC HS x1' x2' hct
              go_wp2_with fail
              go_fit C4.out
              rintro e w2 ⟨rfl, rfl⟩
              go_wp2_with fail
              go_round
              case rel =>
                refine ⟨k + 1, by omega, by go_num, fun j hj => ?_⟩
                by_cases e : j = k
                · subst e; exact HO.out.trans HG.out
                · exact HA.out j (by omega)
              case measure => (simp [intOf]; try omega)
          · obtain rfl : k = ts.length := by omega
            have HG : Hid (G = true) := HY.out HA.out
            clear HY GX HA HK CC HS
            go_wp2_with fail
            go_ret
            exact ⟨by rw [HG.out]; rfl, HB.out⟩
end Go.Proofs.YthihljjefncfoaaDoor

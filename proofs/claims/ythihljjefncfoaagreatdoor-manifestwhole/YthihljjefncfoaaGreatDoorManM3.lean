/-
  SEVERAL TEXTS IN ONE: ManGood, AppRun, ManCat, ManBytes.
-/
import Derived.Test.YthihljjefncfoaaGreatDoorManFile
import Derived.Test.YthihljjefncfoaaGreatDoorIntRow
import Derived.Test.YthihljjefncfoaaGreatDoorBlk
import Derived.Test.YthihljjefncfoaaGreatDoorOwn
import Derived.Lib.AppendZerosOnto
import Derived.Test.YthihljjefncfoaaGreatDoorManM2
namespace Go.Proofs.YthihljjefncfoaaGreatDoor
open Go.RowKit

/-- A manifest as a value. -/
def mval (ao : Option Addr) (cap : Nat) (m : Mf) : Value := .agg #[.slice ao m.ts.length cap, .int .i64 m.nx, .int .i64 m.fr]
/-- Its tables lie in memory. -/
structure MSees (w : World) (ao : Option Addr) (cap : Nat) (m : Mf) : Prop where
  see : ISees w ao m.ts
  nil : ao = none → m.ts.length = 0
  cap : m.ts.length ≤ cap
theorem MSees.below {w w' : World} {ao : Option Addr} {cap : Nat} {m : Mf} (h : MSees w ao cap m) {B : Nat} (hb : Below B w w') (hB : w.heap.size ≤ B) : MSees w' ao cap m := ⟨h.see.below hb hB, h.nil, h.cap⟩
theorem good_no {m : Mf} {k : Nat} (hk : k < m.ts.length) (h : okT m.ts m.nx k = false) : goodM m = false := by
  cases hg : goodM m with
  | false => rfl
  | true => have := (goodM_iff.1 hg).2.2.2 k hk; rw [h] at this; cases this
theorem good_yes {m : Mf} (h1 : possZ m.nx = true) (h2 : possZ m.fr = true) (h3 : m.ts.length ≤ 30) (h : ∀ j, j < m.ts.length → okT m.ts m.nx j = true) : goodM m = true := goodM_iff.2 ⟨possZ_iff.1 h1, possZ_iff.1 h2, h3, h⟩
theorem good_nx {m : Mf} (h : possZ m.nx = false) : goodM m = false := by unfold goodM; rw [h]; rfl
theorem good_fr {m : Mf} (h : possZ m.fr = false) : goodM m = false := by unfold goodM; rw [h, Bool.and_false]; rfl
theorem good_many {m : Mf} (h : 30 < m.ts.length) : goodM m = false := by unfold goodM; rw [decide_eq_false (p := m.ts.length ≤ 30) (by omega), Bool.and_false]; rfl
theorem isees_at {w : World} {ao : Option Addr} {l : List Int} (h : ISees w ao l) (hp : 0 < l.length) : ∃ b off, ao = some ⟨b, off, none⟩ ∧ ∀ j, j < l.length → w.cell? ⟨b, off + j, none⟩ = some (.int .i64 (l.getD j 0)) := by
  obtain ⟨b, off, rfl, _⟩ := h 0 _ (List.getElem?_eq_getElem hp)
  refine ⟨b, off, rfl, fun j hj => ?_⟩
  obtain ⟨b', off', e, hc⟩ := h j _ (List.getElem?_eq_getElem hj)
  cases e
  rw [hc, List.getD_eq_getElem?_getD, List.getElem?_eq_getElem hj]; rfl
set_option maxRecDepth 100000 in
set_option maxHeartbeats 1000000 in
theorem good_any (ao : Option Addr) (cap : Nat) (m : Mf) (w : World) (h : MSees w ao cap m) (hl : m.ts.length ≤ 1000000) (hc : cap ≤ 9223372036854775807) :
    Calls Tryz.prog 21 #[mval ao cap m] w fun e w' => e = .returned (.bool (goodM m)) ∧ Below w.heap.size w w' := by
  obtain ⟨ts, nx, fr⟩ := m
  obtain ⟨hs, hn, hcap⟩ := h
  dsimp only at hs hn hcap hl
  unfold mval
  dsimp only
  have hk := Blk.new w [.slice ao ts.length cap, .int .i64 nx, .int .i64 fr] 36
  have c0 := hk.cell 0 rfl
  have c1 := hk.cell 1 rfl
  have c2 := hk.cell 2 rfl
  have HB : Hid (Below w.heap.size w (w.alloc (.cells #[.slice ao ts.length cap, .int .i64 nx, .int .i64 fr] 36))) := (Below.refl _ _).alloc (Nat.le_refl _) _
  have hs1 := hs.below HB.out (Nat.le_refl _)
  have CP : Hid (∀ n u, Calls Tryz.prog 52 #[.int .i64 n] u fun e w' => e = .returned (.bool (possZ n)) ∧ w' = u) := possibleM_any
  have CC : Hid (∀ (b off : Nat) (k : Nat) (x : Int), k ≤ ts.length → ao = some ⟨b, off, none⟩ → Calls Tryz.prog 53 #[.slice (some ⟨b, off, none⟩) k cap, .int .i64 x] (w.alloc (.cells #[.slice ao ts.length cap, .int .i64 nx, .int .i64 fr] 36)) fun e w' => e = .returned (.bool ((ts.take k).contains x)) ∧ w' = (w.alloc (.cells #[.slice ao ts.length cap, .int .i64 nx, .int .i64 fr] 36))) := fun b off k x hk e => by
    rcases Nat.eq_zero_or_pos ts.length with h0 | hp
    · obtain rfl : k = 0 := by omega
      have := Tryz.slices_Contains_int_empty (some ⟨b, off, none⟩) cap x (w.alloc (.cells #[.slice ao ts.length cap, .int .i64 nx, .int .i64 fr] 36))
      simpa using this
    · obtain ⟨b', off', e', hcs⟩ := isees_at hs1 hp
      rw [e] at e'
      cases e'
      exact Tryz.slices_Contains_int b off k cap ts x _ hk (by omega) hcs
  have HS : Hid (∀ k, k < ts.length → ∃ b off, ao = some ⟨b, off, none⟩ ∧ (w.alloc (.cells #[.slice ao ts.length cap, .int .i64 nx, .int .i64 fr] 36)).cell? ⟨b, off + k, none⟩ = some (.int .i64 (ts.getD k 0))) := fun k hk => by
    obtain ⟨b', off', e', hcs⟩ := isees_at hs1 (by omega)
    exact ⟨b', off', e', hcs k hk⟩
  have hli : (ts.length : Int) ≤ 1000000 := by omega
  have Hcap : Hid (ts.length ≤ cap) := hcap
  have GN : Hid (possZ nx = false → goodM ⟨ts, nx, fr⟩ = false) := fun h => good_nx h
  have GF : Hid (possZ fr = false → goodM ⟨ts, nx, fr⟩ = false) := fun h => good_fr h
  have GM : Hid (30 < ts.length → goodM ⟨ts, nx, fr⟩ = false) := fun h => good_many h
  have GX : Hid (∀ k, k < ts.length → okT ts nx k = false → goodM ⟨ts, nx, fr⟩ = false) := fun k hk h => good_no hk h
  have GY : Hid (possZ nx = true → possZ fr = true → ts.length ≤ 30 → (∀ j, j < ts.length → okT ts nx j = true) → goodM ⟨ts, nx, fr⟩ = true) := fun h1 h2 h3 h4 => good_yes h1 h2 h3 h4
  have CP1 := CP.out nx
  have CP2 := CP.out fr
  have HK : Hid (∀ k x, ts.getD k 0 = x → okT ts nx k = (decide (1 ≤ x) && decide (x < nx) && !((ts.take k).contains x))) := fun k x e => by unfold okT; rw [e]
  clear hk hs1 CP hn hcap
  generalize goodM ⟨ts, nx, fr⟩ = G at *
  cases hb1 : possZ nx with
  | false =>
    rw [hb1] at CP1
    have C1 : Hid (∀ u, Calls Tryz.prog 52 #[.int .i64 nx] u fun e w' => e = .returned (.bool false) ∧ w' = u) := CP1
    have HG : Hid (G = false) := GN.out hb1
    clear GN GF GM GX GY hb1 CP1 CP2 CC HS HK
    go_enter Tryz.func21, Tryz.ntmps21
    go_wp2_with (go_at_call 52; refine (C1.out _).mono ?_; rintro e w2 ⟨rfl, rfl⟩)
    go_ret
    exact ⟨by rw [HG.out]; rfl, HB.out⟩
  | true =>
    rw [hb1] at CP1
    have C1 : Hid (∀ u, Calls Tryz.prog 52 #[.int .i64 nx] u fun e w' => e = .returned (.bool true) ∧ w' = u) := CP1
    clear CP1 GN
    cases hb2 : possZ fr with
    | false =>
      rw [hb2] at CP2
      have C2 : Hid (∀ u, Calls Tryz.prog 52 #[.int .i64 fr] u fun e w' => e = .returned (.bool false) ∧ w' = u) := CP2
      have HG : Hid (G = false) := GF.out hb2
      clear GF GM GX GY hb1 hb2 CP2 CC HS HK
      go_enter Tryz.func21, Tryz.ntmps21
      go_wp2_with fail
      go_fit (C1.out _)
      rintro e w2 ⟨rfl, rfl⟩
      go_wp2_with fail
      go_fit (C2.out _)
      rintro e w2 ⟨rfl, rfl⟩
      go_wp2_with fail
      go_ret
      exact ⟨by rw [HG.out]; rfl, HB.out⟩
    | true =>
      rw [hb2] at CP2
      have C2 : Hid (∀ u, Calls Tryz.prog 52 #[.int .i64 fr] u fun e w' => e = .returned (.bool true) ∧ w' = u) := CP2
      clear CP2 GF
      rcases Nat.lt_or_ge 30 ts.length with hm | hm
      · have HG : Hid (G = false) := GM.out hm
        have hmi : (30 : Int) < (ts.length : Int) := by omega
        clear GM GX GY hb1 hb2 CC HS HK
        go_enter Tryz.func21, Tryz.ntmps21
        go_wp2_with fail
        go_fit (C1.out _)
        rintro e w2 ⟨rfl, rfl⟩
        go_wp2_with fail
        go_fit (C2.out _)
        rintro e w2 ⟨rfl, rfl⟩
        go_wp2_with fail
        go_ret
        exact ⟨by rw [HG.out]; rfl, HB.out⟩
      · have HY : Hid ((∀ j, j < ts.length → okT ts nx j = true) → G = true) := GY.out hb1 hb2 hm
        have hmi : ¬ (30 : Int) < (ts.length : Int) := by omega
        clear GM GY hb1 hb2 hm
        go_enter Tryz.func21, Tryz.ntmps21
        go_wp2_with fail
        go_fit (C1.out _)
        rintro e w2 ⟨rfl, rfl⟩
        go_wp2_with fail
        go_fit (C2.out _)
        rintro e w2 ⟨rfl, rfl⟩
        go_wp2_with fail
        go_loop [24] (fun i => ∃ k : Nat, k ≤ ts.length ∧ i = .int .i64 (k : Int) ∧ ∀ j, j < k → okT ts nx j = true) (fun i => ts.length - (intOf i).toNat)
        case atStart => exact ⟨0, Nat.zero_le _, rfl, fun j hj => absurd hj (Nat.not_lt_zero _)⟩
        case round =>
          obtain ⟨k, hk, rfl, hall⟩ := hrel
          have HA : Hid (∀ j, j < k → okT ts nx j = true) := hall
          clear hall
          rcases Nat.lt_or_ge k ts.length with hlt | hge
          · obtain ⟨b, off, rfl, hc⟩ := HS.out k hlt
            have C3 := CC.out b off k (ts.getD k 0) hk rfl
            have HX := HK.out k _ rfl
            have HQ : Hid (okT ts nx k = false → G = false) := fun h => GX.out k hlt h
            have hkc : k ≤ cap := Nat.le_trans hk Hcap.out
            have hkci : (k : Int) ≤ (cap : Int) := by omega
            have hlti : (k : Int) < (ts.length : Int) := by omega
            generalize ts.getD k 0 = x at *
            obtain ⟨O, hO⟩ : ∃ O, okT ts nx k = O := ⟨_, rfl⟩
            have HO : Hid (okT ts nx k = O) := hO
            rw [hO] at HX HQ
            clear hO
            by_cases x1 : x < 1
            · have HG : Hid (G = false) := HQ.out (by rw [HX, decide_eq_false (p := 1 ≤ x) (by omega)]; rfl)
              clear HX HQ C3 HY GX HK CC HS
              go_wp2_with fail
              go_ret
              exact ⟨by rw [HG.out]; rfl, HB.out⟩
            by_cases x2 : nx ≤ x
            · have HG : Hid (G = false) := HQ.out (by rw [HX, decide_eq_false (p := x < nx) (by omega), Bool.and_false]; rfl)
              clear HX HQ C3 HY GX HK CC HS
              go_wp2_with fail
              go_ret
              exact ⟨by rw [HG.out]; rfl, HB.out⟩
            have x1' : decide (1 ≤ x) = true := decide_eq_true (by omega)
            have x2' : decide (x < nx) = true := decide_eq_true (by omega)
            cases hct : (ts.take k).contains x with
            | true =>
              rw [hct] at C3 HX
              have C4 : Hid (Calls Tryz.prog 53 #[.slice (some ⟨b, off, none⟩) k cap, .int .i64 x] (w.alloc (.cells #[.slice (some ⟨b, off, none⟩) ts.length cap, .int .i64 nx, .int .i64 fr] 36)) fun e w' => e = .returned (.bool true) ∧ w' = (w.alloc (.cells #[.slice (some ⟨b, off, none⟩) ts.length cap, .int .i64 nx, .int .i64 fr] 36))) := C3
              have HG : Hid (G = false) := HQ.out (by rw [HX]; simp)
              clear HX HQ C3 HY GX HK CC HS x1' x2' hct
              go_wp2_with fail
              go_fit C4.out
              rintro e w2 ⟨rfl, rfl⟩
              go_wp2_with fail
              go_ret
              exact ⟨by rw [HG.out]; rfl, HB.out⟩
            | false =>
              rw [hct] at C3 HX
              have C4 : Hid (Calls Tryz.prog 53 #[.slice (some ⟨b, off, none⟩) k cap, .int .i64 x] (w.alloc (.cells #[.slice (some ⟨b, off, none⟩) ts.length cap, .int .i64 nx, .int .i64 fr] 36)) fun e w' => e = .returned (.bool false) ∧ w' = (w.alloc (.cells #[.slice (some ⟨b, off, none⟩) ts.length cap, .int .i64 nx, .int .i64 fr] 36))) := C3
              have HG : Hid (O = true) := by show _ = _; rw [HX, x1', x2']; rfl
              clear HX HQ C3 GX HK CC HS x1' x2' hct
              go_wp2_with fail
              go_fit C4.out
              rintro e w2 ⟨rfl, rfl⟩
              go_wp2_with fail
              go_round
              case rel =>
                refine ⟨k + 1, by omega, by go_num, fun j hj => ?_⟩
                by_cases e : j = k
                · subst e; exact HO.out.trans HG.out
                · exact HA.out j (by omega)
              case measure => (simp [intOf]; try omega)
          · obtain rfl : k = ts.length := by omega
            have HG : Hid (G = true) := HY.out HA.out
            clear HY GX HA HK CC HS
            go_wp2_with fail
            go_ret
            exact ⟨by rw [HG.out]; rfl, HB.out⟩
end Go.Proofs.YthihljjefncfoaaGreatDoor
namespace Go.Proofs.YthihljjefncfoaaGreatDoor
open Go.RowKit

theorem wpList_append_run {P : Program} (w : World) {ops : Array Oper} {rest : List Oper} {o : Oper} {a : Act} {Q : Exit → Act → World → Prop} (hgd : o.guard = none) (s x : Operand) (t tx : TypeId)
    (ho : o.op = .call { callee := .builtin .append, args := #[s, x], argTypes := #[t, tx] }) (v xv : Value) (hs : a.eval s = v) (hx : a.eval x = xv) {v' : Value} {w' : World}
    (hr : (Builtin.append_ #[t, tx] o.type #[v, xv]).run P w = .ok v' w') (h : wpList P ops Q rest (a.put o.dst v') w') : wpList P ops Q (o :: rest) a w := by
  refine wpList_plain hgd fun _ hK => ?_
  unfold Oper.wp execOp
  simp only [ho, resolve, invoke, builtin, Sem.run_bind, Sem.run_pure, Result.andThen_ok, List.map_toArray, List.map_cons, List.map_nil, hs, hx, hr]
  exact hK _ _ h
end Go.Proofs.YthihljjefncfoaaGreatDoor
namespace Go.Proofs.YthihljjefncfoaaGreatDoor
open Go.RowKit

set_option maxRecDepth 100000 in
set_option maxHeartbeats 1000000 in
theorem growI_any (n : Nat) (w : World) (h1 : 0 < n) (h2 : n ≤ 1000000) :
    Calls Tryz.prog 97 #[.slice none 0 0, .int .i64 (n : Int)] w fun e w' => ∃ v, e = .returned v ∧ w'.ownsRow w.heap.size 3 1 v 0 (vI []) ∧ Below w.heap.size w w' := by
  obtain ⟨i0, hi, hz0, hz1, hz2⟩ := info_parts infoInt
  have hr : ∀ ty, (Builtin.append_ #[34, 3] ty #[.slice none 0 0, .int .i64 (n : Int)]).run Tryz.prog w = .ok (.slice (some ⟨w.heap.size, 0, none⟩) (0 + n) (grownCap w (0 + n) 0 3)) (w.drew.alloc (.cells (([] : List Value).toArray ++ Builtin.zeroCells (Value.int .i64 0).cells n ++ Builtin.zeroCells (Value.int .i64 0).cells (grownCap w (0 + n) 0 3 - (0 + n))) 3)) := fun ty => by
    refine Lib.run_append_grow_zeros w 34 3 ty 3 i0 (.int .i64 0) .i64 .i64 Tryz.underlying34 Tryz.underlying3 hi hz0 none 0 0 [] (run_firstCells_none w.drew i0.size 0 0 0) n h1 (by rw [hz1]; omega) (by omega) (by omega) (by rw [hz2]; omega) (growslice_fits (by omega) (by rw [hz2]; omega))
  have hge := grownCap_ge w (0 + n) 0 3
  have hle := grownCap_le_maxLen w (0 + n) 0 3 (by unfold maxLen; omega)
  generalize grownCap w (0 + n) 0 3 = C at *
  have hCi : (C : Int) ≤ 9223372036854775807 := by unfold maxLen at hle; omega
  have HO : Hid ((w.drew.alloc (.cells (([] : List Value).toArray ++ Builtin.zeroCells (Value.int .i64 0).cells n ++ Builtin.zeroCells (Value.int .i64 0).cells (C - (0 + n))) 3)).ownsRow w.heap.size 3 1 (.slice (some ⟨w.heap.size, 0, none⟩) 0 C) 0 (vI [])) :=
    ⟨rfl, .inr ⟨w.heap.size, C, _, rfl, Nat.le_refl _, heap_alloc_new w.drew _, Nat.zero_le _, hle, by simp [Builtin.zeroCells, Value.cells]; omega, rfl⟩⟩
  have HB : Hid (Below w.heap.size w (w.drew.alloc (.cells (([] : List Value).toArray ++ Builtin.zeroCells (Value.int .i64 0).cells n ++ Builtin.zeroCells (Value.int .i64 0).cells (C - (0 + n))) 3))) := (Below.refl _ _).drew.alloc (Nat.le_refl _) _
  have hni : (0 : Int) < (n : Int) := by omega
  have hni2 : ¬ (n : Int) < 0 := by omega
  generalize (w.drew.alloc (.cells (([] : List Value).toArray ++ Builtin.zeroCells (Value.int .i64 0).cells n ++ Builtin.zeroCells (Value.int .i64 0).cells (C - (0 + n))) 3)) = w5 at *
  generalize 0 + n = N at *
  have hCn : ¬ (C : Int) < 0 := by omega
  clear hi hz0 hz1 hz2
  go_enter Tryz.func97, Tryz.ntmps97
  go_wp2_with (at_builtin; go_must (refine wpList_append_run _ rfl _ _ 34 3 rfl _ _ rfl rfl (hr _) ?_))
  go_ret
  exact ⟨_, rfl, HO.out, HB.out⟩
set_option maxRecDepth 100000 in
set_option maxHeartbeats 2000000 in
/-- Rows of numbers, one behind the other: L k is what the first k hold. -/
theorem concatI_any (g n : Nat) (p : Nat → List Int) (a : Nat → Option Addr) (c : Nat → Nat) (L : Nat → List Int) (w : World) (hL0 : L 0 = []) (hL : ∀ k, k < n → L (k + 1) = L k ++ p k) (hb : ∀ k, k ≤ n → (L k).length ≤ 1000000) (h1 : 0 < (L n).length)
    (hn : n ≤ 1000) (hc : ∀ k, k < n → w.cell? ⟨g, k, none⟩ = some (.slice (a k) (p k).length (c k))) (hs : ∀ k, k < n → ISees w (a k) (p k)) (hz : ∀ k, k < n → a k = none → (p k).length = 0) :
    Calls Tryz.prog 56 #[.slice (some ⟨g, 0, none⟩) n n] w fun e w' => ∃ v, e = .returned v ∧ w'.ownsRow w.heap.size 3 1 v (L n).length (vI (L n)) ∧ Below w.heap.size w w' := by
  obtain ⟨i0, hi, hz0, hz1, hz2⟩ := info_parts infoInt
  have HC : Hid (∀ u, Below w.heap.size w u → ∀ k, k < n → u.cell? ⟨g, k, none⟩ = some (.slice (a k) (p k).length (c k))) := fun u hu k hk => by rw [hu.cell (World.block_lt_of_cell? _ _ (hc k hk))]; exact hc k hk
  have HS : Hid (∀ u, Below w.heap.size w u → ∀ k, k < n → Src Tryz.prog 1 34 (.slice (a k) (p k).length (c k)) (p k).length (vI (p k)) u) := fun u hu k hk => src_ints ((hs k hk).below hu (Nat.le_refl _)) (hz k hk) (c k)
  have HL : Hid (∀ k, k < n → L (k + 1) = L k ++ p k) := hL
  have HL0 : Hid (L 0 = []) := hL0
  have Hb : Hid (∀ k, k ≤ n → (L k).length ≤ 1000000) := hb
  have HV : Hid (∀ k, k < n → vI (L k) ++ vI (p k) = vI (L (k + 1)) ∧ (L k).length + (p k).length = (L (k + 1)).length) := fun k hk => by
    rw [hL k hk]; exact ⟨by simp [vI], by simp⟩
  have HG : Hid (∀ u, Calls Tryz.prog 97 #[.slice none 0 0, .int .i64 ((L n).length : Int)] u fun e w' => ∃ v, e = .returned v ∧ w'.ownsRow u.heap.size 3 1 v 0 (vI []) ∧ Below u.heap.size u w') := fun u => growI_any _ u h1 (hb n (Nat.le_refl _))
  have hni : (n : Int) ≤ 1000 := by omega
  clear hL hL0 hb hc hs hz h1
  go_enter Tryz.func56, Tryz.ntmps56
  go_wp2_with fail
  go_loop [11, 3] (fun i s => ∃ k : Nat, k ≤ n ∧ i = .int .i64 (k : Int) ∧ s = .int .i64 ((L k).length : Int)) (fun i _ => n - (intOf i).toNat)
  case atStart => exact ⟨0, Nat.zero_le _, rfl, by rw [HL0.out]; rfl⟩
  case round =>
    obtain ⟨k, hk, rfl, rfl⟩ := hrel
    rcases Nat.lt_or_ge k n with hlt | hge
    · have c1 := HC.out w (Below.refl _ _) k hlt
      have hv := (HV.out k hlt).2
      have hb1 := Hb.out (k + 1) (by omega)
      have hlti : (k : Int) < (n : Int) := by omega
      obtain ⟨z, hz⟩ : ∃ z, (L (k + 1)).length = z := ⟨_, rfl⟩
      obtain ⟨y, hy⟩ : ∃ y, (L k).length = y := ⟨_, rfl⟩
      obtain ⟨x, hx⟩ : ∃ x, (p k).length = x := ⟨_, rfl⟩
      have HZ : Hid ((L (k + 1)).length = z) := hz
      rw [hy, hx, hz] at hv
      rw [hx] at c1
      rw [hz] at hb1
      rw [hy]
      have HV1 : Hid (y + x = z) := hv
      have hyb : (y : Int) + (x : Int) ≤ 1000000 := by omega
      have hnn : ¬ (y : Int) + (x : Int) < 0 := by omega
      clear hv hz hy hx hb1
      go_wp2_with fail
      go_round
      case rel => exact ⟨k + 1, by omega, by go_num, by rw [HZ.out, ← HV1.out]; go_num⟩
      case measure => (simp [intOf]; try omega)
    · obtain rfl : n = k := by omega
      go_wp2_with fail
      go_fit (HG.out _)
      rintro e w1 ⟨v1, rfl, ho1, hB1⟩
      have HB1 : Hid (Below w.heap.size w w1) := hB1
      have HO1 : Hid (w1.ownsRow w.heap.size 3 1 v1 0 (vI [])) := ho1
      clear hB1 ho1 hge
      go_wp2_with fail
      go_loopw [27, 6] (fun i s wr => ∃ (k : Nat) (v : Value), k ≤ n ∧ i = .int .i64 (k : Int) ∧ v = s ∧ wr.ownsRow w.heap.size 3 1 v (L k).length (vI (L k)) ∧ Below w.heap.size w wr) (fun i _ _ => n - (intOf i).toNat)
      case atStart => exact ⟨0, v1, Nat.zero_le _, rfl, rfl, by rw [HL0.out]; exact HO1.out, HB1.out⟩
      case round =>
        obtain ⟨k, v, hk, rfl, rfl, ho, hB⟩ := hrel
        clear HO1 HB1
        rcases Nat.lt_or_ge k n with hlt | hge
        · have c1 := HC.out wr hB k hlt
          have hsrc := HS.out wr hB k hlt
          obtain ⟨hv1, hv2⟩ := HV.out k hlt
          have hb1 := Hb.out (k + 1) (by omega)
          have hlti : (k : Int) < (n : Int) := by omega
          have HV1 : Hid (vI (L k) ++ vI (p k) = vI (L (k + 1))) := hv1
          have HV2 : Hid ((L k).length + (p k).length = (L (k + 1)).length) := hv2
          have hle : (L k).length + (p k).length ≤ 1000000 := by omega
          have HB : Hid (Below w.heap.size w wr) := hB
          have hBs := hB.size
          obtain ⟨ys, hys⟩ : ∃ ys, vI (L k) = ys := ⟨_, rfl⟩
          have HO : Hid (wr.ownsRow w.heap.size 3 1 v (L k).length (vI (L k))) := ho
          have HSR : Hid (Src Tryz.prog 1 34 (.slice (a k) (p k).length (c k)) (p k).length (vI (p k)) wr) := hsrc
          clear hys hv1 hv2 hb1 hB ho hsrc
          go_wp2_with (at_builtin; go_must (refine wpList_append_grew _ rfl _ _ 34 34 rfl w.heap.size 3 i0 (.int .i64 0) 1 8 Tryz.underlying34 hi hz0 hz1 hz2 rfl _ (L k).length (vI (L k)) rfl HO.out _ (p k).length (vI (p k)) rfl HSR.out (by unfold maxLen; omega) (by omega) hBs ?_; intro v5 w5 ho5 hg5))
          have HO5 : Hid (w5.ownsRow w.heap.size 3 1 v5 (L (k + 1)).length (vI (L (k + 1)))) := by rw [HV1.out, HV2.out] at ho5; exact ho5
          have HB5 : Hid (Below w.heap.size w w5) := HB.out.trans (hg5.below hBs (fun q hq => (HO.out.lt q hq).1))
          clear ho5 hg5
          go_wp2_with fail
          go_roundw
          case rel => exact ⟨k + 1, v5, by omega, by go_num, rfl, HO5.out, HB5.out⟩
          case measure => (simp [intOf]; try omega)
        · obtain rfl : n = k := by omega
          have HO : Hid (wr.ownsRow w.heap.size 3 1 v (L n).length (vI (L n))) := ho
          have HB : Hid (Below w.heap.size w wr) := hB
          clear ho hB
          go_wp2_with fail
          go_ret
          exact ⟨_, rfl, HO.out, HB.out⟩
end Go.Proofs.YthihljjefncfoaaGreatDoor
namespace Go.Proofs.YthihljjefncfoaaGreatDoor
open Go.RowKit

theorem owns_baseI {w : World} {base base' e n : Nat} {v : Value} {xs : List Value} (h : w.ownsRow base e 1 v n xs) (hb : base' ≤ base) : w.ownsRow base' e 1 v n xs := by
  refine ⟨h.1, ?_⟩
  rcases h.2 with hn | ⟨g, cap, cur, rfl, h1, rest⟩
  · exact .inl hn
  · exact .inr ⟨g, cap, cur, rfl, Nat.le_trans hb h1, rest⟩
theorem numsB_take (l : List Int) (k : Nat) (h : k < l.length) : numsB (l.take (k + 1)) = numsB (l.take k) ++ numL (l.getD k 0).toNat := by
  rw [List.take_add_one, numsB_app, List.getElem?_eq_getElem h, List.getD_eq_getElem?_getD, List.getElem?_eq_getElem h]
  simp [numsB]
theorem numsB_lenT (l : List Int) (k : Nat) : (numsB (l.take k)).length ≤ 10 * l.length := by
  have := numsB_len (l.take k)
  rw [List.length_take] at this
  omega
set_option maxRecDepth 100000 in
set_option maxHeartbeats 1000000 in
theorem bytesM_bad (ao : Option Addr) (cap : Nat) (m : Mf) (w : World) (h : MSees w ao cap m) (hl : m.ts.length ≤ 1000000) (hc : cap ≤ 9223372036854775807) (hg : goodM m = false) :
    Calls Tryz.prog 25 #[mval ao cap m] w fun e w' => e = .returned (.tuple #[.slice none 0 0, .int .i64 2]) ∧ Below w.heap.size w w' := by
  have HB : Hid (Below w.heap.size w (w.alloc (.cells #[.slice ao m.ts.length cap, .int .i64 m.nx, .int .i64 m.fr] 36))) := (Below.refl _ _).alloc (Nat.le_refl _) _
  have hk := Blk.new w [.slice ao m.ts.length cap, .int .i64 m.nx, .int .i64 m.fr] 36
  have c0 := hk.cell 0 rfl
  have c1 := hk.cell 1 rfl
  have c2 := hk.cell 2 rfl
  have CG : Hid (Calls Tryz.prog 21 #[.agg #[.slice ao m.ts.length cap, .int .i64 m.nx, .int .i64 m.fr]] (w.alloc (.cells #[.slice ao m.ts.length cap, .int .i64 m.nx, .int .i64 m.fr] 36)) fun e w' => e = .returned (.bool false) ∧ Below w.heap.size w w') := by
    have := good_any ao cap m _ (h.below HB.out (Nat.le_refl _)) hl hc
    rw [hg] at this
    exact this.mono fun e w' hh => ⟨hh.1, HB.out.trans (hh.2.mono HB.out.size)⟩
  clear h hl hc hg hk
  unfold mval
  go_enter Tryz.func25, Tryz.ntmps25
  go_wp2_with fail
  go_fit CG.out
  rintro e w2 ⟨rfl, hB⟩
  have HB2 : Hid (Below w.heap.size w w2) := hB
  clear hB
  go_wp2_with fail
  go_ret2
  exact ⟨rfl, HB2.out⟩
set_option maxRecDepth 100000 in
set_option maxHeartbeats 2000000 in
theorem bytesM_ok (ao : Option Addr) (cap : Nat) (m : Mf) (w : World) (h : MSees w ao cap m) (hc : cap ≤ 9223372036854775807) (ht : Tab w) (hg : goodM m = true) :
    Calls Tryz.prog 25 #[mval ao cap m] w fun e w' => ∃ g, e = .returned (.tuple #[.slice (some ⟨g, 0, none⟩) (encM m).length (encM m).length, .int .i64 0]) ∧ w.heap.size ≤ g ∧ Row w' g (encM m) ∧ Below w.heap.size w w' := by
  have hl30 := (goodM_iff.1 hg).2.2.1
  have HB : Hid (Below w.heap.size w (w.alloc (.cells #[.slice ao m.ts.length cap, .int .i64 m.nx, .int .i64 m.fr] 36))) := (Below.refl _ _).alloc (Nat.le_refl _) _
  have hk := Blk.new w [.slice ao m.ts.length cap, .int .i64 m.nx, .int .i64 m.fr] 36
  have c0 := hk.cell 0 rfl
  have c1 := hk.cell 1 rfl
  have c2 := hk.cell 2 rfl
  have CG : Hid (Calls Tryz.prog 21 #[.agg #[.slice ao m.ts.length cap, .int .i64 m.nx, .int .i64 m.fr]] (w.alloc (.cells #[.slice ao m.ts.length cap, .int .i64 m.nx, .int .i64 m.fr] 36)) fun e w' => e = .returned (.bool true) ∧ Below w.heap.size w w' ∧ Blk w' w.heap.size [.slice ao m.ts.length cap, .int .i64 m.nx, .int .i64 m.fr] 36) := by
    have := good_any ao cap m _ (h.below HB.out (Nat.le_refl _)) (by omega) hc
    rw [hg] at this
    exact this.mono fun e w' hh => ⟨hh.1, HB.out.trans (hh.2.mono HB.out.size), hk.carry (hh.2.block _ hk.lt)⟩
  have CC : Hid (∀ w2, Below w.heap.size w w2 → Calls Tryz.prog 56 #[.slice (some ⟨w2.heap.size + 1, 0, none⟩) 2 2] ((w2.alloc (.cells #[.int .i64 m.nx, .int .i64 m.fr, .int .i64 (m.ts.length : Int)] 3)).alloc (.cells #[.slice (some ⟨w2.heap.size, 0, none⟩) 3 3, .slice ao m.ts.length cap] 34)) fun e w' => ∃ b off cp, e = .returned (.slice (some ⟨b, off, none⟩) (listM m).length cp) ∧ (∀ j, j < (listM m).length → w'.cell? ⟨b, off + j, none⟩ = some (.int .i64 ((listM m).getD j 0))) ∧ Below w.heap.size w w') := by
    intro w2 hb2
    have k1 := Blk.new w2 [.int .i64 m.nx, .int .i64 m.fr, .int .i64 (m.ts.length : Int)] 3
    have hb3 : Below w.heap.size w (w2.alloc (.cells #[.int .i64 m.nx, .int .i64 m.fr, .int .i64 (m.ts.length : Int)] 3)) := hb2.alloc hb2.size _
    have k2 := Blk.new (w2.alloc (.cells #[.int .i64 m.nx, .int .i64 m.fr, .int .i64 (m.ts.length : Int)] 3)) [.slice (some ⟨w2.heap.size, 0, none⟩) 3 3, .slice ao m.ts.length cap] 34
    rw [World.size_alloc] at k2
    have k1' := k1.alloc (.cells #[.slice (some ⟨w2.heap.size, 0, none⟩) 3 3, .slice ao m.ts.length cap] 34)
    have hb4 : Below w.heap.size w ((w2.alloc (.cells #[.int .i64 m.nx, .int .i64 m.fr, .int .i64 (m.ts.length : Int)] 3)).alloc (.cells #[.slice (some ⟨w2.heap.size, 0, none⟩) 3 3, .slice ao m.ts.length cap] 34)) := hb3.alloc hb3.size _
    have hm := h.see.below hb4 (Nat.le_refl _)
    have hsz := hb4.size
    generalize ((w2.alloc (.cells #[.int .i64 m.nx, .int .i64 m.fr, .int .i64 (m.ts.length : Int)] 3)).alloc (.cells #[.slice (some ⟨w2.heap.size, 0, none⟩) 3 3, .slice ao m.ts.length cap] 34)) = w4 at *
    have C := concatI_any (w2.heap.size + 1) 2 (fun k => if k = 0 then [m.nx, m.fr, (m.ts.length : Int)] else m.ts) (fun k => if k = 0 then some ⟨w2.heap.size, 0, none⟩ else ao) (fun k => if k = 0 then 3 else cap) (fun k => if k = 0 then [] else if k = 1 then [m.nx, m.fr, (m.ts.length : Int)] else listM m) w4 rfl
      (fun k hk => by
        rcases (show k = 0 ∨ k = 1 by omega) with rfl | rfl
        · rfl
        · rfl)
      (fun k hk => by
        rcases (show k = 0 ∨ k = 1 ∨ k = 2 by omega) with rfl | rfl | rfl
        · simp
        · simp
        · simp [listM]; omega)
      (by simp [listM]) (by omega)
      (fun k hk => by
        rcases (show k = 0 ∨ k = 1 by omega) with rfl | rfl
        · exact k2.cell 0 rfl
        · exact k2.cell 1 rfl)
      (fun k hk => by
        rcases (show k = 0 ∨ k = 1 by omega) with rfl | rfl
        · intro i x hx
          refine ⟨w2.heap.size, 0, rfl, ?_⟩
          have hi : i < 3 := (List.getElem?_eq_some_iff.1 hx).1
          refine k1'.cell (0 + i) ?_
          rw [Nat.zero_add]
          rcases (show i = 0 ∨ i = 1 ∨ i = 2 by omega) with rfl | rfl | rfl <;> (simp at hx; subst hx; rfl)
        · exact hm)
      (fun k hk => by
        rcases (show k = 0 ∨ k = 1 by omega) with rfl | rfl
        · intro e; cases e
        · exact h.nil)
    refine C.mono ?_
    rintro e w5 ⟨v, rfl, ho, hb5⟩
    have ho' : w5.ownsRow w4.heap.size 3 1 v (listM m).length (vI (listM m)) := ho
    obtain ⟨a5, cp, rfl, hs5⟩ := owns_isees ho'
    obtain ⟨b, off, rfl, hcs⟩ := isees_at hs5 (by simp [listM])
    exact ⟨b, off, cp, rfl, hcs, hb4.trans (hb5.mono hsz)⟩
  have hbd := good_bdd hg
  have hLl : (listM m).length ≤ 33 := by simp [listM]; omega
  have HT : Hid (∀ k, k < (listM m).length → ∃ u : Nat, u ≤ 999999999 ∧ (listM m).getD k 0 = (u : Int) ∧ numsB ((listM m).take (k + 1)) = numsB ((listM m).take k) ++ numL u) := fun k hk => by
    have hmem : (listM m).getD k 0 ∈ listM m := by rw [List.getD_eq_getElem?_getD, List.getElem?_eq_getElem hk]; exact List.getElem_mem hk
    have := hbd _ hmem
    exact ⟨((listM m).getD k 0).toNat, by omega, by omega, numsB_take _ k hk⟩
  have HLn : Hid (∀ k, (numsB ((listM m).take k)).length ≤ 330) := fun k => by have := numsB_lenT (listM m) k; omega
  have HE : Hid (encM m = frameL (numsB ((listM m).take (listM m).length))) := by show _ = _; rw [List.take_length]; rfl
  have HEl : Hid ((encM m).length = (numsB ((listM m).take (listM m).length)).length + 8) := by show _ = _; rw [HE.out, frameL_length]
  have HTab : Hid (∀ u, Below w.heap.size w u → Tab u) := fun u hu => ht.below hu (Nat.le_refl _)
  obtain ⟨ts, nx, fr⟩ := m
  dsimp only at *
  clear h hc hg hk hbd ht
  unfold mval
  dsimp only
  generalize listM ⟨ts, nx, fr⟩ = L at *
  generalize encM ⟨ts, nx, fr⟩ = E at *
  have hLi : (L.length : Int) ≤ 33 := by omega
  go_enter Tryz.func25, Tryz.ntmps25
  go_wp2_with fail
  go_fit CG.out
  rintro e w2 ⟨rfl, hB, hk2⟩
  have e0 := hk2.cell 0 rfl
  have e1 := hk2.cell 1 rfl
  have e2 := hk2.cell 2 rfl
  have f0 := (hk2.alloc (.cells #[.int .i64 nx, .int .i64 fr, .int .i64 (ts.length : Int)] 3)).cell 0 rfl
  have CC2 := CC.out w2 hB
  clear hB hk2 CG CC
  go_wp2_with fail
  go_fit CC2
  rintro e w5 ⟨b, off, cp, rfl, hcs, hB5⟩
  have HCS : Hid (∀ u, Below w5.heap.size w5 u → ∀ j, j < L.length → u.cell? ⟨b, off + j, none⟩ = some (.int .i64 (L.getD j 0))) := fun u hu j hj => by rw [hu.cell (World.block_lt_of_cell? _ _ (hcs j hj))]; exact hcs j hj
  have HB5 : Hid (Below w.heap.size w w5) := hB5
  clear hcs hB5 CC2 e0 e1 e2 f0
  go_wp2_with fail
  go_loopw [23, 4] (fun i s wr => ∃ (k : Nat) (a4 : Option Addr) (c4 : Nat), k ≤ L.length ∧ i = .int .i64 (k : Int) ∧ s = .slice a4 (numsB (L.take k)).length c4 ∧ Sees wr a4 (numsB (L.take k)) ∧ (a4 = none → (numsB (L.take k)).length = 0) ∧ Below w5.heap.size w5 wr) (fun i _ _ => L.length - (intOf i).toNat)
  case atStart => exact ⟨0, none, 0, Nat.zero_le _, rfl, rfl, Sees.nil _ _, fun _ => rfl, Below.refl _ _⟩
  case round =>
    obtain ⟨k, a4, c4, hk, rfl, rfl, hs4, hn4, hBr⟩ := hrel
    rcases Nat.lt_or_ge k L.length with hlt | hge
    · obtain ⟨u, hu, hx, hnx⟩ := HT.out k hlt
      have d1 := HCS.out wr hBr k hlt
      rw [hx] at d1
      have CP : Hid (Calls Tryz.prog 57 #[.slice a4 (numsB (L.take k)).length c4, .int .u64 (u : Int)] wr fun e w' => ∃ a5 c5, e = .returned (.slice a5 (numsB (L.take (k + 1))).length c5) ∧ Sees w' a5 (numsB (L.take (k + 1))) ∧ (a5 = none → (numsB (L.take (k + 1))).length = 0) ∧ Below w5.heap.size w5 w') := by
        refine (put_any a4 _ c4 u wr hs4 hn4 (by have := HLn.out k; omega) (by omega)).mono ?_
        rintro e w' ⟨v', rfl, ho, hb⟩
        rw [← hnx] at ho
        obtain ⟨a5, c5, rfl, s5, l5, n5⟩ := owns_sees ho
        rw [← l5] at n5 ⊢
        exact ⟨a5, c5, rfl, s5, fun e => (n5 e).1, hBr.trans (hb.mono hBr.size)⟩
      have hlti : (k : Int) < (L.length : Int) := by omega
      have hui : (u : Int) ≤ 999999999 := by omega
      clear hs4 hn4 hBr hx hnx hu
      generalize (numsB (L.take k)).length = N at *
      go_wp2_with fail
      go_fit CP.out
      rintro e w6 ⟨a5, c5, rfl, s5, n5, hB6⟩
      have HR : Hid (Sees w6 a5 (numsB (L.take (k + 1))) ∧ (a5 = none → (numsB (L.take (k + 1))).length = 0) ∧ Below w5.heap.size w5 w6) := ⟨s5, n5, hB6⟩
      clear s5 n5 hB6 CP
      go_wp2_with fail
      go_roundw
      case rel => exact ⟨k + 1, a5, c5, by omega, by go_num, rfl, HR.out.1, HR.out.2.1, HR.out.2.2⟩
      case measure => (simp [intOf]; try omega)
    · obtain rfl : L.length = k := by omega
      have hBw : Below w.heap.size w wr := HB5.out.trans (hBr.mono HB5.out.size)
      have hLn := HLn.out L.length
      have HE2 := HE.out
      have HEl2 := HEl.out
      rw [List.take_length] at hs4 hn4 hLn HE2 HEl2 ⊢
      have CF : Hid (Calls Tryz.prog 58 #[.slice a4 (numsB L).length c4] wr fun e w' => e = .returned (.slice (some ⟨wr.heap.size, 0, none⟩) E.length E.length) ∧ w.heap.size ≤ wr.heap.size ∧ Row w' wr.heap.size E ∧ Below w.heap.size w w') := by
        refine (frame_any a4 _ c4 wr (by omega) hs4 hn4 (HTab.out _ hBw)).mono ?_
        rintro e w' ⟨rfl, hr, hb⟩
        rw [HEl2]
        rw [← HE2] at hr
        exact ⟨rfl, hBw.size, hr, hBw.trans (hb.mono hBw.size)⟩
      clear hs4 hn4 hBr hBw hLn HE2 HEl2
      go_wp2_with fail
      go_fit CF.out
      rintro e w7 ⟨rfl, hq⟩
      go_wp2_with fail
      go_ret2
      exact ⟨_, rfl, hq⟩
end Go.Proofs.YthihljjefncfoaaGreatDoor

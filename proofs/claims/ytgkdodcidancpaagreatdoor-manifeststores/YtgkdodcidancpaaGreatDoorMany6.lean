/-
  SEVERAL TEXTS IN ONE: Blk, ManGood, ManCat, Recs.
-/
import Derived.Test.YtgkdodcidancpaaGreatDoorOwn
import Derived.Deep.QuietTactic
import Derived.Test.YtgkdodcidancpaaGreatDoorMany5
import Derived.Test.YtgkdodcidancpaaGreatDoorMany4
import Derived.Test.YtgkdodcidancpaaGreatDoorMany2
import Derived.Lib.AppendZerosOnto
import Derived.Laws.OwnMore
namespace Go.Proofs.YtgkdodcidancpaaGreatDoor
open Go.RowKit

/-- A block that holds these cells. -/
def Blk (w : World) (g : Nat) (cs : List Value) (t : TypeId) : Prop := w.heap[g]? = some (.cells cs.toArray t (0, 0))
section
variable {w w' : World} {g : Nat} {cs : List Value} {t : TypeId}
theorem Blk.lt (h : Blk w g cs t) : g < w.heap.size := (Array.getElem?_eq_some_iff.1 h).1
theorem Blk.cell (h : Blk w g cs t) (i : Nat) {v : Value} (hv : cs[i]? = some v) : w.cell? ⟨g, i, none⟩ = some v := by
  unfold Blk at h
  simp only [World.cell?, h]
  simpa using hv
theorem Blk.frozen (h : Blk w g cs t) (i : Nat) : w.frozen? ⟨g, i, none⟩ = false := by
  unfold Blk at h
  simp [World.frozen?, h]
theorem Blk.carry (h : Blk w g cs t) (e : w'.heap[g]? = w.heap[g]?) : Blk w' g cs t := e.trans h
theorem Blk.set (h : Blk w g cs t) (i : Nat) (v : Value) : Blk (w.setCell ⟨g, i, none⟩ v) g (cs.set i v) t := by
  unfold Blk at h ⊢
  simp only [World.setCell, Array.getElem?_modify, h]
  simp
theorem Blk.setTo (h : Blk w g cs t) (i : Nat) (v : Value) (cs' : List Value) (e : cs.set i v = cs') : Blk (w.setCell ⟨g, i, none⟩ v) g cs' t := e ▸ h.set i v
theorem Blk.new (w : World) (cs : List Value) (t : TypeId) : Blk (w.alloc (.cells cs.toArray t)) w.heap.size cs t := heap_alloc_new w _
theorem Blk.alloc (h : Blk w g cs t) (o : Obj) : Blk (w.alloc o) g cs t := h.carry (Below.heap_alloc _ _ _ h.lt)
end

/-- From w to w': only blocks of the list (and new ones) were written, the new list lies in the old one or is new. -/
structure Moved (w w' : World) (ft ft' : List Nat) : Prop where
  os : w'.os = w.os
  tape : w'.tape = w.tape
  output : w'.output = w.output
  size : w.heap.size ≤ w'.heap.size
  kept : ∀ i, i < w.heap.size → i ∉ ft → w'.heap[i]? = w.heap[i]?
  news : ∀ i, i ∈ ft' → i ∈ ft ∨ w.heap.size ≤ i
theorem Moved.refl (w : World) (ft : List Nat) : Moved w w ft ft := ⟨rfl, rfl, rfl, Nat.le_refl _, fun _ _ _ => rfl, fun _ h => .inl h⟩
theorem Moved.trans {w w1 w2 : World} {a b c : List Nat} (h : Moved w w1 a b) (k : Moved w1 w2 b c) : Moved w w2 a c := by
  have hs := h.size
  refine ⟨k.os.trans h.os, k.tape.trans h.tape, k.output.trans h.output, Nat.le_trans hs k.size, fun i hi hn => ?_, fun i hi => ?_⟩
  · refine (k.kept i (by omega) fun e => ?_).trans (h.kept i hi hn)
    rcases h.news i e with h1 | h1
    · exact hn h1
    · omega
  · rcases k.news i hi with h1 | h1
    · exact h.news i h1
    · exact .inr (by omega)
theorem Moved.wider {w w' : World} {a a' b b' : List Nat} (h : Moved w w' a b) (ha : ∀ i ∈ a, i ∈ a' ∨ w.heap.size ≤ i) (hb : ∀ i ∈ b', i ∈ a' ∨ i ∈ b ∨ w.heap.size ≤ i) : Moved w w' a' b' := by
  refine ⟨h.os, h.tape, h.output, h.size, fun i hi hn => h.kept i hi fun e => ?_, fun i hi => ?_⟩
  · rcases ha i e with h1 | h1
    · exact hn h1
    · omega
  · rcases hb i hi with h1 | h1 | h1
    · exact .inl h1
    · rcases h.news i h1 with h2 | h2
      · rcases ha i h2 with h3 | h3
        · exact .inl h3
        · exact .inr h3
      · exact .inr h2
    · exact .inr h1
theorem Moved.sub {w w' : World} {a b b' : List Nat} (h : Moved w w' a b) (hb : ∀ i ∈ b', i ∈ b) : Moved w w' a b' := h.wider (fun _ hi => .inl hi) (fun i hi => .inr (.inl (hb i hi)))
theorem Moved.of_grown {w w' : World} {r : Option Nat} (h : w.grownBy w' r) : Moved w w' r.toList r.toList :=
  ⟨h.os, h.tape, h.output, h.size, fun i hi hn => h.block i hi (fun e => hn (by rw [← e]; simp)), fun _ h => .inl h⟩
theorem Moved.none_of {w w' : World} (h : w.grownBy w' none) (ft : List Nat) : Moved w w' ft ft := (Moved.of_grown h).wider (by simp) (fun i hi => .inl hi)
theorem Moved.alloc {w : World} (o : Obj) (ft : List Nat) : Moved w (w.alloc o) ft ft := Moved.none_of (World.grownBy_alloc w o none) ft
theorem Moved.below {w w' : World} {a b : List Nat} (h : Moved w w' a b) {B : Nat} (hB : B ≤ w.heap.size) (ha : ∀ i ∈ a, B ≤ i) : Below B w w' :=
  ⟨h.os, h.tape, h.output, h.size, fun k hk => h.kept k (by omega) fun e => by have := ha k e; omega⟩
theorem Moved.drew {w w' : World} {a b : List Nat} (h : Moved w w' a b) : Moved w w'.drew a b := ⟨h.os, h.tape, h.output, h.size, h.kept, h.news⟩
theorem Moved.drewN {w w' : World} {a b : List Nat} (h : Moved w w' a b) (k : Nat) : Moved w (w'.drewN k) a b := ⟨h.os, h.tape, h.output, h.size, h.kept, h.news⟩
theorem Moved.of_set {w : World} (g i : Nat) (v : Value) : Moved w (w.setCell ⟨g, i, none⟩ v) [g] [g] :=
  ⟨rfl, rfl, rfl, by simp [World.setCell], fun k _ hn => Below.heap_setCell _ _ _ _ (fun e => hn (by simp [e])), fun _ h => .inl h⟩
end Go.Proofs.YtgkdodcidancpaaGreatDoor
namespace Go.Proofs.YtgkdodcidancpaaGreatDoor
open Go.RowKit

/-- A manifest as a value. -/
def mval (ao : Option Addr) (cap : Nat) (m : Mf) : Value := .agg #[.slice ao m.ts.length cap, .int .i64 m.nx, .int .i64 m.fr]
/-- Its tables lie in memory. -/
structure MSees (w : World) (ao : Option Addr) (cap : Nat) (m : Mf) : Prop where
  see : ISees w ao m.ts
  nil : ao = none → m.ts.length = 0
  cap : m.ts.length ≤ cap
theorem MSees.below {w w' : World} {ao : Option Addr} {cap : Nat} {m : Mf} (h : MSees w ao cap m) {B : Nat} (hb : Below B w w') (hB : w.heap.size ≤ B) : MSees w' ao cap m := ⟨h.see.below hb hB, h.nil, h.cap⟩
theorem good_no {m : Mf} {k : Nat} (hk : k < m.ts.length) (h : okT m.ts m.nx k = false) : goodM m = false := by
  cases hg : goodM m with
  | false => rfl
  | true => have := (goodM_iff.1 hg).2.2.2 k hk; rw [h] at this; cases this
theorem good_yes {m : Mf} (h1 : possZ m.nx = true) (h2 : possZ m.fr = true) (h3 : m.ts.length ≤ 30) (h : ∀ j, j < m.ts.length → okT m.ts m.nx j = true) : goodM m = true := goodM_iff.2 ⟨possZ_iff.1 h1, possZ_iff.1 h2, h3, h⟩
theorem good_nx {m : Mf} (h : possZ m.nx = false) : goodM m = false := by unfold goodM; rw [h]; rfl
theorem good_fr {m : Mf} (h : possZ m.fr = false) : goodM m = false := by unfold goodM; rw [h, Bool.and_false]; rfl
theorem good_many {m : Mf} (h : 30 < m.ts.length) : goodM m = false := by unfold goodM; rw [decide_eq_false (p := m.ts.length ≤ 30) (by omega), Bool.and_false]; rfl
theorem isees_at {w : World} {ao : Option Addr} {l : List Int} (h : ISees w ao l) (hp : 0 < l.length) : ∃ b off, ao = some ⟨b, off, none⟩ ∧ ∀ j, j < l.length → w.cell? ⟨b, off + j, none⟩ = some (.int .i64 (l.getD j 0)) := by
  obtain ⟨b, off, rfl, _⟩ := h 0 _ (List.getElem?_eq_getElem hp)
  refine ⟨b, off, rfl, fun j hj => ?_⟩
  obtain ⟨b', off', e, hc⟩ := h j _ (List.getElem?_eq_getElem hj)
  cases e
  rw [hc, List.getD_eq_getElem?_getD, List.getElem?_eq_getElem hj]; rfl
set_option maxRecDepth 100000 in
set_option maxHeartbeats 1000000 in
theorem good_anyM (ao : Option Addr) (cap : Nat) (m : Mf) (w : World) (h : MSees w ao cap m) (hl : m.ts.length ≤ 1000000) (hc : cap ≤ 9223372036854775807) :
    Calls Tryz.prog 47 #[mval ao cap m] w fun e w' => e = .returned (.bool (goodM m)) ∧ Below w.heap.size w w' := by
  obtain ⟨ts, nx, fr⟩ := m
  obtain ⟨hs, hn, hcap⟩ := h
  dsimp only at hs hn hcap hl
  unfold mval
  dsimp only
  have hk := Blk.new w [.slice ao ts.length cap, .int .i64 nx, .int .i64 fr] 36
  have c0 := hk.cell 0 rfl
  have c1 := hk.cell 1 rfl
  have c2 := hk.cell 2 rfl
  have HB : Hid (Below w.heap.size w (w.alloc (.cells #[.slice ao ts.length cap, .int .i64 nx, .int .i64 fr] 36))) := (Below.refl _ _).alloc (Nat.le_refl _) _
  have hs1 := hs.below HB.out (Nat.le_refl _)
  have CP : Hid (∀ n u, Calls Tryz.prog 51 #[.int .i64 n] u fun e w' => e = .returned (.bool (possZ n)) ∧ w' = u) := possibleM_any
  have CC : Hid (∀ (b off : Nat) (k : Nat) (x : Int), k ≤ ts.length → ao = some ⟨b, off, none⟩ → Calls Tryz.prog 87 #[.slice (some ⟨b, off, none⟩) k cap, .int .i64 x] (w.alloc (.cells #[.slice ao ts.length cap, .int .i64 nx, .int .i64 fr] 36)) fun e w' => e = .returned (.bool ((ts.take k).contains x)) ∧ w' = (w.alloc (.cells #[.slice ao ts.length cap, .int .i64 nx, .int .i64 fr] 36))) := fun b off k x hk e => by
    rcases Nat.eq_zero_or_pos ts.length with h0 | hp
    · obtain rfl : k = 0 := by omega
      have := Tryz.slices_Contains_int_empty (some ⟨b, off, none⟩) cap x (w.alloc (.cells #[.slice ao ts.length cap, .int .i64 nx, .int .i64 fr] 36))
      simpa using this
    · obtain ⟨b', off', e', hcs⟩ := isees_at hs1 hp
      rw [e] at e'
      cases e'
      exact Tryz.slices_Contains_int b off k cap ts x _ hk (by omega) hcs
  have HS : Hid (∀ k, k < ts.length → ∃ b off, ao = some ⟨b, off, none⟩ ∧ (w.alloc (.cells #[.slice ao ts.length cap, .int .i64 nx, .int .i64 fr] 36)).cell? ⟨b, off + k, none⟩ = some (.int .i64 (ts.getD k 0))) := fun k hk => by
    obtain ⟨b', off', e', hcs⟩ := isees_at hs1 (by omega)
    exact ⟨b', off', e', hcs k hk⟩
  have hli : (ts.length : Int) ≤ 1000000 := by omega
  have Hcap : Hid (ts.length ≤ cap) := hcap
  have GN : Hid (possZ nx = false → goodM ⟨ts, nx, fr⟩ = false) := fun h => good_nx h
  have GF : Hid (possZ fr = false → goodM ⟨ts, nx, fr⟩ = false) := fun h => good_fr h
  have GM : Hid (30 < ts.length → goodM ⟨ts, nx, fr⟩ = false) := fun h => good_many h
  have GX : Hid (∀ k, k < ts.length → okT ts nx k = false → goodM ⟨ts, nx, fr⟩ = false) := fun k hk h => good_no hk h
  have GY : Hid (possZ nx = true → possZ fr = true → ts.length ≤ 30 → (∀ j, j < ts.length → okT ts nx j = true) → goodM ⟨ts, nx, fr⟩ = true) := fun h1 h2 h3 h4 => good_yes h1 h2 h3 h4
  have CP1 := CP.out nx
  have CP2 := CP.out fr
  have HK : Hid (∀ k x, ts.getD k 0 = x → okT ts nx k = (decide (1 ≤ x) && decide (x < nx) && !((ts.take k).contains x))) := fun k x e => by unfold okT; rw [e]
  clear hk hs1 CP hn hcap
  generalize goodM ⟨ts, nx, fr⟩ = G at *
  cases hb1 : possZ nx with
  | false =>
    rw [hb1] at CP1
    have C1 : Hid (∀ u, Calls Tryz.prog 51 #[.int .i64 nx] u fun e w' => e = .returned (.bool false) ∧ w' = u) := CP1
    have HG : Hid (G = false) := GN.out hb1
    clear GN GF GM GX GY hb1 CP1 CP2 CC HS HK
    go_enter Tryz.func47, Tryz.ntmps47
    go_wp2_with (go_at_call 51; refine (C1.out _).mono ?_; rintro e w2 ⟨rfl, rfl⟩)
    go_ret
    exact ⟨by rw [HG.out]; rfl, HB.out⟩
  | true =>
    rw [hb1] at CP1
    have C1 : Hid (∀ u, Calls Tryz.prog 51 #[.int .i64 nx] u fun e w' => e = .returned (.bool true) ∧ w' = u) := CP1
    clear CP1 GN
    cases hb2 : possZ fr with
    | false =>
      rw [hb2] at CP2
      have C2 : Hid (∀ u, Calls Tryz.prog 51 #[.int .i64 fr] u fun e w' => e = .returned (.bool false) ∧ w' = u) := CP2
      have HG : Hid (G = false) := GF.out hb2
      clear GF GM GX GY hb1 hb2 CP2 CC HS HK
      go_enter Tryz.func47, Tryz.ntmps47
      go_wp2_with fail
      go_fit (C1.out _)
      rintro e w2 ⟨rfl, rfl⟩
      go_wp2_with fail
      go_fit (C2.out _)
      rintro e w2 ⟨rfl, rfl⟩
      go_wp2_with fail
      go_ret
      exact ⟨by rw [HG.out]; rfl, HB.out⟩
    | true =>
      rw [hb2] at CP2
      have C2 : Hid (∀ u, Calls Tryz.prog 51 #[.int .i64 fr] u fun e w' => e = .returned (.bool true) ∧ w' = u) := CP2
      clear CP2 GF
      rcases Nat.lt_or_ge 30 ts.length with hm | hm
      · have HG : Hid (G = false) := GM.out hm
        have hmi : (30 : Int) < (ts.length : Int) := by omega
        clear GM GX GY hb1 hb2 CC HS HK
        go_enter Tryz.func47, Tryz.ntmps47
        go_wp2_with fail
        go_fit (C1.out _)
        rintro e w2 ⟨rfl, rfl⟩
        go_wp2_with fail
        go_fit (C2.out _)
        rintro e w2 ⟨rfl, rfl⟩
        go_wp2_with fail
        go_ret
        exact ⟨by rw [HG.out]; rfl, HB.out⟩
      · have HY : Hid ((∀ j, j < ts.length → okT ts nx j = true) → G = true) := GY.out hb1 hb2 hm
        have hmi : ¬ (30 : Int) < (ts.length : Int) := by omega
        clear GM GY hb1 hb2 hm
        go_enter Tryz.func47, Tryz.ntmps47
        go_wp2_with fail
        go_fit (C1.out _)
        rintro e w2 ⟨rfl, rfl⟩
        go_wp2_with fail
        go_fit (C2.out _)
        rintro e w2 ⟨rfl, rfl⟩
        go_wp2_with fail
        go_loop [24] (fun i => ∃ k : Nat, k ≤ ts.length ∧ i = .int .i64 (k : Int) ∧ ∀ j, j < k → okT ts nx j = true) (fun i => ts.length - (intOf i).toNat)
        case atStart => exact ⟨0, Nat.zero_le _, rfl, fun j hj => absurd hj (Nat.not_lt_zero _)⟩
        case round =>
          obtain ⟨k, hk, rfl, hall⟩ := hrel
          have HA : Hid (∀ j, j < k → okT ts nx j = true) := hall
          clear hall
          rcases Nat.lt_or_ge k ts.length with hlt | hge
          · obtain ⟨b, off, rfl, hc⟩ := HS.out k hlt
            have C3 := CC.out b off k (ts.getD k 0) hk rfl
            have HX := HK.out k _ rfl
            have HQ : Hid (okT ts nx k = false → G = false) := fun h => GX.out k hlt h
            have hkc : k ≤ cap := Nat.le_trans hk Hcap.out
            have hkci : (k : Int) ≤ (cap : Int) := by omega
            have hlti : (k : Int) < (ts.length : Int) := by omega
            generalize ts.getD k 0 = x at *
            obtain ⟨O, hO⟩ : ∃ O, okT ts nx k = O := ⟨_, rfl⟩
            have HO : Hid (okT ts nx k = O) := hO
            rw [hO] at HX HQ
            clear hO
            by_cases x1 : x < 1
            · have HG : Hid (G = false) := HQ.out (by rw [HX, decide_eq_false (p := 1 ≤ x) (by omega)]; rfl)
              clear HX HQ C3 HY GX HK CC HS
              go_wp2_with fail
              go_ret
              exact ⟨by rw [HG.out]; rfl, HB.out⟩
            by_cases x2 : nx ≤ x
            · have HG : Hid (G = false) := HQ.out (by rw [HX, decide_eq_false (p := x < nx) (by omega), Bool.and_false]; rfl)
              clear HX HQ C3 HY GX HK CC HS
              go_wp2_with fail
              go_ret
              exact ⟨by rw [HG.out]; rfl, HB.out⟩
            have x1' : decide (1 ≤ x) = true := decide_eq_true (by omega)
            have x2' : decide (x < nx) = true := decide_eq_true (by omega)
            cases hct : (ts.take k).contains x with
            | true =>
              rw [hct] at C3 HX
              have C4 : Hid (Calls Tryz.prog 87 #[.slice (some ⟨b, off, none⟩) k cap, .int .i64 x] (w.alloc (.cells #[.slice (some ⟨b, off, none⟩) ts.length cap, .int .i64 nx, .int .i64 fr] 36)) fun e w' => e = .returned (.bool true) ∧ w' = (w.alloc (.cells #[.slice (some ⟨b, off, none⟩) ts.length cap, .int .i64 nx, .int .i64 fr] 36))) := C3
              have HG : Hid (G = false) := HQ.out (by rw [HX]; simp)
              clear HX HQ C3 HY GX HK CC HS x1' x2' hct
              go_wp2_with fail
              go_fit C4.out
              rintro e w2 ⟨rfl, rfl⟩
              go_wp2_with fail
              go_ret
              exact ⟨by rw [HG.out]; rfl, HB.out⟩
            | false =>
              rw [hct] at C3 HX
              have C4 : Hid (Calls Tryz.prog 87 #[.slice (some ⟨b, off, none⟩) k cap, .int .i64 x] (w.alloc (.cells #[.slice (some ⟨b, off, none⟩) ts.length cap, .int .i64 nx, .int .i64 fr] 36)) fun e w' => e = .returned (.bool false) ∧ w' = (w.alloc (.cells #[.slice (some ⟨b, off, none⟩) ts.length cap, .int .i64 nx, .int .i64 fr] 36))) := C3
              have HG : Hid (O = true) := by show _ = _; rw [HX, x1', x2']; rfl
              clear HX HQ C3 GX HK CC HS x1' x2' hct
              go_wp2_with fail
              go_fit C4.out
              rintro e w2 ⟨rfl, rfl⟩
              go_wp2_with fail
              go_round
              case rel =>
                refine ⟨k + 1, by omega, by go_num, fun j hj => ?_⟩
                by_cases e : j = k
                · subst e; exact HO.out.trans HG.out
                · exact HA.out j (by omega)
              case measure => (simp [intOf]; try omega)
          · obtain rfl : k = ts.length := by omega
            have HG : Hid (G = true) := HY.out HA.out
            clear HY GX HA HK CC HS
            go_wp2_with fail
            go_ret
            exact ⟨by rw [HG.out]; rfl, HB.out⟩
end Go.Proofs.YtgkdodcidancpaaGreatDoor
namespace Go.Proofs.YtgkdodcidancpaaGreatDoor
open Go.RowKit

set_option maxRecDepth 100000 in
set_option maxHeartbeats 1000000 in
theorem growI_any (n : Nat) (w : World) (h1 : 0 < n) (h2 : n ≤ 1000000) :
    Calls Tryz.prog 88 #[.slice none 0 0, .int .i64 (n : Int)] w fun e w' => ∃ v, e = .returned v ∧ w'.ownsRow w.heap.size 3 1 v 0 (vI []) ∧ Below w.heap.size w w' := by
  obtain ⟨i0, hi, hz0, hz1, hz2⟩ := info_parts infoInt
  have hr : ∀ ty, (Builtin.append_ #[34, 3] ty #[.slice none 0 0, .int .i64 (n : Int)]).run Tryz.prog w = .ok (.slice (some ⟨w.heap.size, 0, none⟩) (0 + n) (grownCap w (0 + n) 0 3)) (w.drew.alloc (.cells (([] : List Value).toArray ++ Builtin.zeroCells (Value.int .i64 0).cells n ++ Builtin.zeroCells (Value.int .i64 0).cells (grownCap w (0 + n) 0 3 - (0 + n))) 3)) := fun ty => by
    refine Lib.run_append_grow_zeros w 34 3 ty 3 i0 (.int .i64 0) .i64 .i64 Tryz.underlying34 Tryz.underlying3 hi hz0 none 0 0 [] (run_firstCells_none w.drew i0.size 0 0 0) n h1 (by rw [hz1]; omega) (by omega) (by omega) (by rw [hz2]; omega) (growslice_fits (by omega) (by rw [hz2]; omega))
  have hge := grownCap_ge w (0 + n) 0 3
  have hle := grownCap_le_maxLen w (0 + n) 0 3 (by unfold maxLen; omega)
  generalize grownCap w (0 + n) 0 3 = C at *
  have hCi : (C : Int) ≤ 9223372036854775807 := by unfold maxLen at hle; omega
  have HO : Hid ((w.drew.alloc (.cells (([] : List Value).toArray ++ Builtin.zeroCells (Value.int .i64 0).cells n ++ Builtin.zeroCells (Value.int .i64 0).cells (C - (0 + n))) 3)).ownsRow w.heap.size 3 1 (.slice (some ⟨w.heap.size, 0, none⟩) 0 C) 0 (vI [])) :=
    ⟨rfl, .inr ⟨w.heap.size, C, _, rfl, Nat.le_refl _, heap_alloc_new w.drew _, Nat.zero_le _, hle, by simp [Builtin.zeroCells, Value.cells]; omega, rfl⟩⟩
  have HB : Hid (Below w.heap.size w (w.drew.alloc (.cells (([] : List Value).toArray ++ Builtin.zeroCells (Value.int .i64 0).cells n ++ Builtin.zeroCells (Value.int .i64 0).cells (C - (0 + n))) 3))) := (Below.refl _ _).drew.alloc (Nat.le_refl _) _
  have hni : (0 : Int) < (n : Int) := by omega
  have hni2 : ¬ (n : Int) < 0 := by omega
  generalize (w.drew.alloc (.cells (([] : List Value).toArray ++ Builtin.zeroCells (Value.int .i64 0).cells n ++ Builtin.zeroCells (Value.int .i64 0).cells (C - (0 + n))) 3)) = w5 at *
  generalize 0 + n = N at *
  have hCn : ¬ (C : Int) < 0 := by omega
  clear hi hz0 hz1 hz2
  go_enter Tryz.func88, Tryz.ntmps88
  go_wp2_with (at_builtin; go_must (refine wpList_append_run _ rfl _ _ 34 3 rfl _ _ rfl rfl (hr _) ?_))
  go_ret
  exact ⟨_, rfl, HO.out, HB.out⟩
set_option maxRecDepth 100000 in
set_option maxHeartbeats 2000000 in
/-- Rows of numbers, one behind the other: L k is what the first k hold. -/
theorem concatI_any (g n : Nat) (p : Nat → List Int) (a : Nat → Option Addr) (c : Nat → Nat) (L : Nat → List Int) (w : World) (hL0 : L 0 = []) (hL : ∀ k, k < n → L (k + 1) = L k ++ p k) (hb : ∀ k, k ≤ n → (L k).length ≤ 1000000) (h1 : 0 < (L n).length)
    (hn : n ≤ 1000) (hc : ∀ k, k < n → w.cell? ⟨g, k, none⟩ = some (.slice (a k) (p k).length (c k))) (hs : ∀ k, k < n → ISees w (a k) (p k)) (hz : ∀ k, k < n → a k = none → (p k).length = 0) :
    Calls Tryz.prog 48 #[.slice (some ⟨g, 0, none⟩) n n] w fun e w' => ∃ v, e = .returned v ∧ w'.ownsRow w.heap.size 3 1 v (L n).length (vI (L n)) ∧ Below w.heap.size w w' := by
  obtain ⟨i0, hi, hz0, hz1, hz2⟩ := info_parts infoInt
  have HC : Hid (∀ u, Below w.heap.size w u → ∀ k, k < n → u.cell? ⟨g, k, none⟩ = some (.slice (a k) (p k).length (c k))) := fun u hu k hk => by rw [hu.cell (World.block_lt_of_cell? _ _ (hc k hk))]; exact hc k hk
  have HS : Hid (∀ u, Below w.heap.size w u → ∀ k, k < n → Src Tryz.prog 1 34 (.slice (a k) (p k).length (c k)) (p k).length (vI (p k)) u) := fun u hu k hk => src_ints ((hs k hk).below hu (Nat.le_refl _)) (hz k hk) (c k)
  have HL : Hid (∀ k, k < n → L (k + 1) = L k ++ p k) := hL
  have HL0 : Hid (L 0 = []) := hL0
  have Hb : Hid (∀ k, k ≤ n → (L k).length ≤ 1000000) := hb
  have HV : Hid (∀ k, k < n → vI (L k) ++ vI (p k) = vI (L (k + 1)) ∧ (L k).length + (p k).length = (L (k + 1)).length) := fun k hk => by
    rw [hL k hk]; exact ⟨by simp [vI], by simp⟩
  have HG : Hid (∀ u, Calls Tryz.prog 88 #[.slice none 0 0, .int .i64 ((L n).length : Int)] u fun e w' => ∃ v, e = .returned v ∧ w'.ownsRow u.heap.size 3 1 v 0 (vI []) ∧ Below u.heap.size u w') := fun u => growI_any _ u h1 (hb n (Nat.le_refl _))
  have hni : (n : Int) ≤ 1000 := by omega
  clear hL hL0 hb hc hs hz h1
  go_enter Tryz.func48, Tryz.ntmps48
  go_wp2_with fail
  go_loop [11, 3] (fun i s => ∃ k : Nat, k ≤ n ∧ i = .int .i64 (k : Int) ∧ s = .int .i64 ((L k).length : Int)) (fun i _ => n - (intOf i).toNat)
  case atStart => exact ⟨0, Nat.zero_le _, rfl, by rw [HL0.out]; rfl⟩
  case round =>
    obtain ⟨k, hk, rfl, rfl⟩ := hrel
    rcases Nat.lt_or_ge k n with hlt | hge
    · have c1 := HC.out w (Below.refl _ _) k hlt
      have hv := (HV.out k hlt).2
      have hb1 := Hb.out (k + 1) (by omega)
      have hlti : (k : Int) < (n : Int) := by omega
      obtain ⟨z, hz⟩ : ∃ z, (L (k + 1)).length = z := ⟨_, rfl⟩
      obtain ⟨y, hy⟩ : ∃ y, (L k).length = y := ⟨_, rfl⟩
      obtain ⟨x, hx⟩ : ∃ x, (p k).length = x := ⟨_, rfl⟩
      have HZ : Hid ((L (k + 1)).length = z) := hz
      rw [hy, hx, hz] at hv
      rw [hx] at c1
      rw [hz] at hb1
      rw [hy]
      have HV1 : Hid (y + x = z) := hv
      have hyb : (y : Int) + (x : Int) ≤ 1000000 := by omega
      have hnn : ¬ (y : Int) + (x : Int) < 0 := by omega
      clear hv hz hy hx hb1
      go_wp2_with fail
      go_round
      case rel => exact ⟨k + 1, by omega, by go_num, by rw [HZ.out, ← HV1.out]; go_num⟩
      case measure => (simp [intOf]; try omega)
    · obtain rfl : n = k := by omega
      go_wp2_with fail
      go_fit (HG.out _)
      rintro e w1 ⟨v1, rfl, ho1, hB1⟩
      have HB1 : Hid (Below w.heap.size w w1) := hB1
      have HO1 : Hid (w1.ownsRow w.heap.size 3 1 v1 0 (vI [])) := ho1
      clear hB1 ho1 hge
      go_wp2_with fail
      go_loopw [27, 6] (fun i s wr => ∃ (k : Nat) (v : Value), k ≤ n ∧ i = .int .i64 (k : Int) ∧ v = s ∧ wr.ownsRow w.heap.size 3 1 v (L k).length (vI (L k)) ∧ Below w.heap.size w wr) (fun i _ _ => n - (intOf i).toNat)
      case atStart => exact ⟨0, v1, Nat.zero_le _, rfl, rfl, by rw [HL0.out]; exact HO1.out, HB1.out⟩
      case round =>
        obtain ⟨k, v, hk, rfl, rfl, ho, hB⟩ := hrel
        clear HO1 HB1
        rcases Nat.lt_or_ge k n with hlt | hge
        · have c1 := HC.out wr hB k hlt
          have hsrc := HS.out wr hB k hlt
          obtain ⟨hv1, hv2⟩ := HV.out k hlt
          have hb1 := Hb.out (k + 1) (by omega)
          have hlti : (k : Int) < (n : Int) := by omega
          have HV1 : Hid (vI (L k) ++ vI (p k) = vI (L (k + 1))) := hv1
          have HV2 : Hid ((L k).length + (p k).length = (L (k + 1)).length) := hv2
          have hle : (L k).length + (p k).length ≤ 1000000 := by omega
          have HB : Hid (Below w.heap.size w wr) := hB
          have hBs := hB.size
          obtain ⟨ys, hys⟩ : ∃ ys, vI (L k) = ys := ⟨_, rfl⟩
          have HO : Hid (wr.ownsRow w.heap.size 3 1 v (L k).length (vI (L k))) := ho
          have HSR : Hid (Src Tryz.prog 1 34 (.slice (a k) (p k).length (c k)) (p k).length (vI (p k)) wr) := hsrc
          clear hys hv1 hv2 hb1 hB ho hsrc
          go_wp2_with (at_builtin; go_must (refine wpList_append_grew _ rfl _ _ 34 34 rfl w.heap.size 3 i0 (.int .i64 0) 1 8 Tryz.underlying34 hi hz0 hz1 hz2 rfl _ (L k).length (vI (L k)) rfl HO.out _ (p k).length (vI (p k)) rfl HSR.out (by unfold maxLen; omega) (by omega) hBs ?_; intro v5 w5 ho5 hg5))
          have HO5 : Hid (w5.ownsRow w.heap.size 3 1 v5 (L (k + 1)).length (vI (L (k + 1)))) := by rw [HV1.out, HV2.out] at ho5; exact ho5
          have HB5 : Hid (Below w.heap.size w w5) := HB.out.trans (hg5.below hBs (fun q hq => (HO.out.lt q hq).1))
          clear ho5 hg5
          go_wp2_with fail
          go_roundw
          case rel => exact ⟨k + 1, v5, by omega, by go_num, rfl, HO5.out, HB5.out⟩
          case measure => (simp [intOf]; try omega)
        · obtain rfl : n = k := by omega
          have HO : Hid (wr.ownsRow w.heap.size 3 1 v (L n).length (vI (L n))) := ho
          have HB : Hid (Below w.heap.size w wr) := hB
          clear ho hB
          go_wp2_with fail
          go_ret
          exact ⟨_, rfl, HO.out, HB.out⟩
end Go.Proofs.YtgkdodcidancpaaGreatDoor
namespace Go.Proofs.YtgkdodcidancpaaGreatDoor
open Go.RowKit

section
variable {α : Type} {c : α → List Value} {k : Nat} (hk : ∀ a, (c a).length = k)
include hk
theorem flat_lenR (l : List α) : (l.flatMap c).length = l.length * k := by
  induction l with
  | nil => simp
  | cons x r ih => rw [List.flatMap_cons, List.length_append, hk, ih, List.length_cons, Nat.add_mul]; omega
theorem flat_at : ∀ (l : List α) (i j : Nat) (a : α) (v : Value), l[i]? = some a → (c a)[j]? = some v → (l.flatMap c)[i * k + j]? = some v
  | [], i, j, a, v, h, _ => by simp at h
  | x :: r, 0, j, a, v, h, hv => by
    simp at h
    subst h
    have hj : j < (c x).length := (List.getElem?_eq_some_iff.1 hv).1
    rw [List.flatMap_cons, Nat.zero_mul, Nat.zero_add, List.getElem?_append_left hj, hv]
  | x :: r, i + 1, j, a, v, h, hv => by
    have h' : r[i]? = some a := by simpa using h
    rw [List.flatMap_cons, List.getElem?_append_right (by rw [hk, Nat.add_mul]; omega), hk]
    have : (i + 1) * k + j - k = i * k + j := by rw [Nat.add_mul]; omega
    rw [this]
    exact flat_at r i j a v h' hv
theorem flat_set : ∀ (l : List α) (i j : Nat) (a a' : α) (v : Value), l[i]? = some a → j < k → c a' = (c a).set j v → (l.flatMap c).set (i * k + j) v = (l.set i a').flatMap c
  | [], i, j, a, a', v, h, _, _ => by simp at h
  | x :: r, 0, j, a, a', v, h, hj, hc => by
    simp at h
    subst h
    rw [List.flatMap_cons, Nat.zero_mul, Nat.zero_add, List.set_append_left _ _ (by rw [hk]; exact hj), ← hc]
    simp
  | x :: r, i + 1, j, a, a', v, h, hj, hc => by
    have h' : r[i]? = some a := by simpa using h
    rw [List.flatMap_cons, List.set_append_right _ _ (by rw [hk, Nat.add_mul]; omega), hk]
    have : (i + 1) * k + j - k = i * k + j := by rw [Nat.add_mul]; omega
    rw [this, flat_set r i j a a' v h' hj hc]
    simp
theorem owns_recs {w : World} {base : Nat} {e : TypeId} {v : Value} {l : List α} (h : w.ownsRow base e k v l.length (l.flatMap c)) : ∃ ao cap, v = .slice ao l.length cap ∧ l.length ≤ cap ∧ ∀ i a, l[i]? = some a → ∃ g, ao = some ⟨g, 0, none⟩ ∧ v.ownBlock = some g ∧ ∀ j u, (c a)[j]? = some u → w.cell? ⟨g, i * k + j, none⟩ = some u := by
  have h0 := h
  rcases h.2 with ⟨rfl, h2⟩ | ⟨g, cap, cur, rfl, hb, hg, hn, _⟩
  · refine ⟨none, 0, by rw [h2], by omega, fun i a hi => ?_⟩
    have := (List.getElem?_eq_some_iff.1 hi).1
    omega
  · refine ⟨some ⟨g, 0, none⟩, cap, rfl, hn, fun i a hi => ⟨g, rfl, rfl, fun j u hu => ?_⟩⟩
    have := h0.cells (g := g) rfl _ _ (flat_at hk l i j a u hi hu)
    simpa [Addr.add_lit] using this
end
theorem flat_one {α : Type} {c : α → List Value} (h1 : ∀ a, ∀ u ∈ c a, u.oneCell' = true) (l : List α) : ∀ u ∈ l.flatMap c, u.oneCell' = true := fun u hu => by
  obtain ⟨a, _, ha⟩ := List.mem_flatMap.1 hu
  exact h1 a u ha
end Go.Proofs.YtgkdodcidancpaaGreatDoor

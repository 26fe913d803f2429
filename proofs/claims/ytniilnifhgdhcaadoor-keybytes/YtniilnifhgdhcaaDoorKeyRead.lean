/-
  CONTRACT: bytes as a key, by the program.
-/
import Derived.Test.YtniilnifhgdhcaaDoorKeyRowRead
import Derived.Test.YtniilnifhgdhcaaDoorKeyAt
namespace Go.Proofs.YtniilnifhgdhcaaDoor
open Go.RowKit

def Ky.kb (k : Ky) : Kb := ⟨strB k.t, strB k.p, k.r, strB k.c⟩
theorem kb_ky (k : Kb) : k.ky.kb = k := by cases k; simp [Kb.ky, Ky.kb, strB_nb]
/-- What bytes are read as. -/
def rdRes (l : List UInt8) : Kb × Bool := match rd l with | some k => (k.kb, true) | none => (⟨⟨#[]⟩, ⟨#[]⟩, 0, ⟨#[]⟩⟩, false)
theorem results_row_tmp {P : Program} {fn : Func} {p u : Tmp} {ty : TypeId} (h : fn.results = #[.cell p ty, .tmp u]) (tmps : Array Value) (w : World) (g : Nat) (t : TypeId) (cs : Array Value) (fr : Nat × Nat) (d : TypeDesc) (v : Value)
    (hp : tmps.getD p undef = .pointer (some ⟨g, 0, none⟩)) (hv : tmps.getD u undef = v) (hg : w.heap[g]? = some (.cells cs t fr))
    (hu : P.underlying ty = some d) (hd : (match d with | .struct _ | .array _ _ => true | _ => false) = true) (hi : (P.info? ty).map (·.size) = some cs.size) :
    (results fn tmps).run P w = .ok (.tuple #[.agg cs, v]) w := by
  rw [results_cell_tmp h, hp, hv]
  simp [asAddr, run_loadVar_row w g t ty cs fr d hg hu hd hi, Result.andThen]
theorem Rdr.mono {B B' : Nat} {w : World} {R : Nat} {r : List UInt8} {b : Bool} (h : Rdr B w R r b) (hB : B ≤ B') : Rdr B' w R r b := by
  obtain ⟨h1, ao, cap, h2, h3⟩ := h
  exact ⟨by omega, ao, cap, h2, fun a e => (h3 a e).imp id fun h => by omega⟩
theorem Rdr.setOther {B : Nat} {w : World} {R : Nat} {r : List UInt8} {b : Bool} (h : Rdr B w R r b) (g i : Nat) (v : Value) (hne : R ≠ g) (hg : B ≤ g) : Rdr B (w.setCell ⟨g, i, none⟩ v) R r b := by
  obtain ⟨h1, ao, cap, h2, h3⟩ := h
  refine ⟨h1, ao, cap, ⟨?_, ?_, h2.nil0, h2.cap, h2.apart⟩, h3⟩
  · rw [Below.heap_setCell w ⟨g, i, none⟩ v R hne, h2.h]
  · by_cases h0 : r.length = 0
    · intro j hj; omega
    · exact h2.sees.setOther g i v fun a e => (h3 a e).imp id fun h => by omega
/-- The call's own blocks: the answer, the reader, the key that is read. -/
structure RSt (w wi : World) (r : List UInt8) (b : Bool) (k : Kb) : Prop where
  rdr : Rdr (w.heap.size + 1 + 1) wi (w.heap.size + 1) r b
  res : wi.heap[w.heap.size]? = some (.cells #[.string ⟨#[]⟩, .string ⟨#[]⟩, .int .i64 0, .string ⟨#[]⟩] 23)
  key : wi.heap[w.heap.size + 1 + 1]? = some (.cells #[.string k.t, .string k.p, .int .i64 k.r, .string k.c] 23)
  bel : Below w.heap.size w wi
theorem RSt.lt {w wi : World} {r : List UInt8} {b : Bool} {k : Kb} (h : RSt w wi r b k) : w.heap.size + 1 + 1 < wi.heap.size := (Array.getElem?_eq_some_iff.1 h.key).1
theorem RSt.grown {w wi wj : World} {r r' : List UInt8} {b b' : Bool} {k : Kb} (h : RSt w wi r b k) (hg : wi.grownBy wj (some (w.heap.size + 1))) (hR : Rdr (w.heap.size + 1 + 1) wj (w.heap.size + 1) r' b') : RSt w wj r' b' k := by
  have hl := h.lt
  exact ⟨hR, by rw [hg.block _ (by omega) (by simp), h.res], by rw [hg.block _ (by omega) (by simp), h.key], h.bel.grown hg h.bel.size (fun k e => by obtain rfl := Option.some.inj e; omega)⟩
theorem RSt.set {w wi : World} {r : List UInt8} {b : Bool} {k k' : Kb} (h : RSt w wi r b k) (i : Nat) (v : Value) (hk : (#[.string k.t, .string k.p, .int .i64 k.r, .string k.c] : Array Value).setIfInBounds i v = #[.string k'.t, .string k'.p, .int .i64 k'.r, .string k'.c]) :
    RSt w (wi.setCell ⟨w.heap.size + 1 + 1, i, none⟩ v) r b k' := by
  refine ⟨h.rdr.setOther _ i v (by omega) (Nat.le_refl _), ?_, ?_, h.bel.setCell (by show _ ≤ w.heap.size + 1 + 1; omega) _⟩
  · rw [Below.heap_setCell _ _ _ _ (by show ¬ _ = w.heap.size + 1 + 1; omega), h.res]
  · simp only [World.setCell, Array.getElem?_modify, h.key]
    simp only [if_true, Option.map_some]
    exact congrArg _ (congrArg (fun x => Obj.cells x 23) (by rw [← hk]; simp))
theorem rst_text {w wi : World} {r : List UInt8} {b : Bool} {k : Kb} (h : RSt w wi r b k) (hl : r.length ≤ 100000) :
    Calls Tryd.prog 36 #[.pointer (some ⟨w.heap.size + 1, 0, none⟩)] wi fun e wj => ∃ s r' b', e = .returned (.string (strB s)) ∧ TextRead r b s r' b' ∧ r'.length ≤ r.length ∧ RSt w wj r' b' k := by
  have hlt := h.lt
  refine (text_any _ _ r b wi (by omega) h.rdr hl).mono ?_
  rintro e wj ⟨s, r', b', h1, h2, h3, h4, h5⟩
  exact ⟨s, r', b', h1, h2, h3, h.grown h4 h5⟩
theorem rst_row {w wi : World} {r : List UInt8} {b : Bool} {k : Kb} (h : RSt w wi r b k) (hl : r.length ≤ 100000) :
    Calls Tryd.prog 37 #[.pointer (some ⟨w.heap.size + 1, 0, none⟩)] wi fun e wj => e = .returned (.int .i64 (decR (pad r 8))) ∧ RSt w wj (r.drop 8) (b || decide (r.length < 8)) k :=
  (rowRead_any _ _ r b wi h.rdr hl).mono fun _ _ ⟨h1, h2, h3⟩ => ⟨h1, h.grown h2 h3⟩
/-- What the parts come to. -/
theorem read_parts {l s1 r1 s2 r2 s3 r3 : List UInt8} {b1 b2 b3 : Bool} (h1 : TextRead l false s1 r1 b1) (h2 : TextRead r1 b1 s2 r2 b2) (h3 : TextRead (r2.drop 8) (b2 || decide (r2.length < 8)) s3 r3 b3) :
    (b3 = false ∧ r3.length = 0 → rdRes l = (⟨strB s1, strB s2, decR (pad r2 8), strB s3⟩, true)) ∧ (¬ (b3 = false ∧ r3.length = 0) → rdRes l = (⟨⟨#[]⟩, ⟨#[]⟩, 0, ⟨#[]⟩⟩, false)) := by
  unfold rdRes rd
  rcases h1 with ⟨e1, rfl⟩ | ⟨e1, rfl⟩
  · rw [e1]
    simp only
    rcases h2 with ⟨e2, rfl⟩ | ⟨e2, rfl⟩
    · rw [e2]
      simp only
      by_cases h8 : r2.length < 8
      · rw [if_pos h8]
        have hb : b3 = true := by
          rcases h3 with ⟨_, rfl⟩ | ⟨_, rfl⟩
          · simp [h8]
          · rfl
        exact ⟨fun h => (by rw [hb] at h; cases h.1), fun _ => rfl⟩
      · rw [if_neg h8]
        rw [decide_eq_false h8] at h3
        rcases h3 with ⟨e3, rfl⟩ | ⟨e3, rfl⟩
        · rw [e3]
          simp only
          by_cases h0 : r3 = []
          · rw [if_pos h0]
            refine ⟨fun _ => ?_, fun h => absurd ⟨rfl, by rw [h0]; rfl⟩ h⟩
            simp only [Ky.kb]
            rw [pad_full _ _ (by omega)]
          · rw [if_neg h0]
            exact ⟨fun h => absurd (List.eq_nil_of_length_eq_zero h.2) h0, fun _ => rfl⟩
        · rw [e3]
          exact ⟨fun h => (by cases h.1), fun _ => rfl⟩
    · rw [e2]
      have hb : b3 = true := by
        rcases h3 with ⟨_, rfl⟩ | ⟨_, rfl⟩ <;> rfl
      exact ⟨fun h => (by rw [hb] at h; cases h.1), fun _ => rfl⟩
  · rw [e1]
    have hb2 : b2 = true := by
      rcases h2 with ⟨_, rfl⟩ | ⟨_, rfl⟩ <;> rfl
    have hb : b3 = true := by
      rw [hb2] at h3
      rcases h3 with ⟨_, rfl⟩ | ⟨_, rfl⟩ <;> rfl
    exact ⟨fun h => (by rw [hb] at h; cases h.1), fun _ => rfl⟩

theorem set_four {w : World} {g : Nat} {k : Kb} {ty : TypeId} (h : w.heap[g]? = some (.cells #[.string k.t, .string k.p, .int .i64 k.r, .string k.c] ty)) (t p : ByteArray) (r : Int) (c : ByteArray) :
    ((((w.setCell ⟨g, 0, none⟩ (.string t)).setCell ⟨g, 1, none⟩ (.string p)).setCell ⟨g, 2, none⟩ (.int .i64 r)).setCell ⟨g, 3, none⟩ (.string c)).heap[g]? = some (.cells #[.string t, .string p, .int .i64 r, .string c] ty) := by
  simp only [World.setCell, Array.getElem?_modify, h]
  simp
theorem below_four {w w5 : World} (h : Below w.heap.size w w5) (a b c d : Value) : Below w.heap.size w ((((w5.setCell ⟨w.heap.size, 0, none⟩ a).setCell ⟨w.heap.size, 1, none⟩ b).setCell ⟨w.heap.size, 2, none⟩ c).setCell ⟨w.heap.size, 3, none⟩ d) :=
  (((h.setCell (Nat.le_refl _) _).setCell (Nat.le_refl _) _).setCell (Nat.le_refl _) _).setCell (Nat.le_refl _) _
set_option maxRecDepth 100000 in
set_option maxHeartbeats 2000000 in
theorem read_any (ao : Option Addr) (l : List UInt8) (cap : Nat) (w : World) (hs : Sees w ao l) (hn : ao = none → l.length = 0) (hc : l.length ≤ cap) (hl : l.length ≤ 100000) :
    Calls Tryd.prog 21 #[.slice ao l.length cap] w fun e w' => e = .returned (.tuple #[(rdRes l).1.v, .bool (rdRes l).2]) ∧ Below w.heap.size w w' := by
  obtain ⟨wa, hwa⟩ : ∃ wa, wa = ((w.alloc (.cells #[.string ⟨#[]⟩, .string ⟨#[]⟩, .int .i64 0, .string ⟨#[]⟩] 23)).alloc (.cells #[.slice ao l.length cap, .bool false] 48)).alloc (.cells #[.string ⟨#[]⟩, .string ⟨#[]⟩, .int .i64 0, .string ⟨#[]⟩] 23) := ⟨_, rfl⟩
  have S0 : RSt w wa l false ⟨⟨#[]⟩, ⟨#[]⟩, 0, ⟨#[]⟩⟩ := by
    have hb1 : Below w.heap.size w wa := by rw [hwa]; exact (((Below.refl _ _).alloc (Nat.le_refl _) _).alloc (by simp) _).alloc (by rw [World.size_alloc, World.size_alloc]; omega) _
    refine ⟨⟨by omega, ao, cap, ⟨?_, hs.below hb1 (Nat.le_refl _), hn, hc, ?_⟩, ?_⟩, ?_, ?_, hb1⟩
    · rw [hwa, Below.heap_alloc _ _ _ (by rw [World.size_alloc, World.size_alloc]; omega)]
      have := heap_alloc_new (w.alloc (.cells #[.string ⟨#[]⟩, .string ⟨#[]⟩, .int .i64 0, .string ⟨#[]⟩] 23)) (.cells #[.slice ao l.length cap, .bool false] 48)
      rwa [World.size_alloc] at this
    · intro a e
      by_cases h0 : l.length = 0
      · exact Or.inl h0
      · obtain ⟨a', e', hc'⟩ := hs 0 (by omega)
        obtain rfl := Option.some.inj (e.symm.trans e')
        have := World.block_lt_of_cell? _ _ hc'
        rw [Addr.add_block] at this
        exact Or.inr (by omega)
    · intro a e
      by_cases h0 : l.length = 0
      · exact Or.inl h0
      · obtain ⟨a', e', hc'⟩ := hs 0 (by omega)
        obtain rfl := Option.some.inj (e.symm.trans e')
        have := World.block_lt_of_cell? _ _ hc'
        rw [Addr.add_block] at this
        exact Or.inr (by omega)
    · rw [hwa, Below.heap_alloc _ _ _ (by rw [World.size_alloc, World.size_alloc]; omega), Below.heap_alloc _ _ _ (by rw [World.size_alloc]; omega)]
      exact heap_alloc_new w _
    · rw [hwa]
      have := heap_alloc_new ((w.alloc (.cells #[.string ⟨#[]⟩, .string ⟨#[]⟩, .int .i64 0, .string ⟨#[]⟩] 23)).alloc (.cells #[.slice ao l.length cap, .bool false] 48)) (.cells #[.string ⟨#[]⟩, .string ⟨#[]⟩, .int .i64 0, .string ⟨#[]⟩] 23)
      rwa [World.size_alloc, World.size_alloc] at this
  have T1 : Hid (Calls Tryd.prog 36 #[.pointer (some ⟨w.heap.size + 1, 0, none⟩)] wa fun e wj => ∃ s r' b', e = .returned (.string (strB s)) ∧ TextRead l false s r' b' ∧ r'.length ≤ l.length ∧ RSt w wj r' b' ⟨⟨#[]⟩, ⟨#[]⟩, 0, ⟨#[]⟩⟩) := rst_text S0 hl
  clear S0 hs hn hc
  go_enter Tryd.func21, Tryd.ntmps21
  go_wp2_with fail
  rw [← hwa]
  clear hwa
  refine T1.out.mono ?_
  rintro e w1 ⟨s1, r1, b1, rfl, x1, l1, S1⟩
  have k1 := KAt.of (k := ⟨⟨#[]⟩, ⟨#[]⟩, 0, ⟨#[]⟩⟩) S1.key
  have kc1 := k1.t
  have kf1 := frozen_of S1.key 0
  have S1' : RSt w (w1.setCell ⟨w.heap.size + 1 + 1, 0, none⟩ (.string (strB s1))) r1 b1 ⟨strB s1, ⟨#[]⟩, 0, ⟨#[]⟩⟩ := S1.set 0 _ rfl
  have T2 : Hid (Calls Tryd.prog 36 #[.pointer (some ⟨w.heap.size + 1, 0, none⟩)] (w1.setCell ⟨w.heap.size + 1 + 1, 0, none⟩ (.string (strB s1))) fun e wj => ∃ s r' b', e = .returned (.string (strB s)) ∧ TextRead r1 b1 s r' b' ∧ r'.length ≤ r1.length ∧ RSt w wj r' b' ⟨strB s1, ⟨#[]⟩, 0, ⟨#[]⟩⟩) := rst_text S1' (by omega)
  clear S1 S1' k1 T1
  go_wp2_with fail
  refine T2.out.mono ?_
  rintro e w2 ⟨s2, r2, b2, rfl, x2, l2, S2⟩
  have k2 := KAt.of (k := ⟨strB s1, ⟨#[]⟩, 0, ⟨#[]⟩⟩) S2.key
  have kc2 := k2.p
  have kf2 := frozen_of S2.key 1
  have S2' : RSt w (w2.setCell ⟨w.heap.size + 1 + 1, 1, none⟩ (.string (strB s2))) r2 b2 ⟨strB s1, strB s2, 0, ⟨#[]⟩⟩ := S2.set 1 _ rfl
  have T3 : Hid (Calls Tryd.prog 37 #[.pointer (some ⟨w.heap.size + 1, 0, none⟩)] (w2.setCell ⟨w.heap.size + 1 + 1, 1, none⟩ (.string (strB s2))) fun e wj => e = .returned (.int .i64 (decR (pad r2 8))) ∧ RSt w wj (r2.drop 8) (b2 || decide (r2.length < 8)) ⟨strB s1, strB s2, 0, ⟨#[]⟩⟩) := rst_row S2' (by omega)
  clear S2 S2' k2 T2 kc1 kf1
  go_wp2_with fail
  refine T3.out.mono ?_
  rintro e w3 ⟨rfl, S3⟩
  have k3 := KAt.of (k := ⟨strB s1, strB s2, 0, ⟨#[]⟩⟩) S3.key
  have kc3 := k3.r
  have kf3 := frozen_of S3.key 2
  have S3' : RSt w (w3.setCell ⟨w.heap.size + 1 + 1, 2, none⟩ (.int .i64 (decR (pad r2 8)))) (r2.drop 8) (b2 || decide (r2.length < 8)) ⟨strB s1, strB s2, decR (pad r2 8), ⟨#[]⟩⟩ := S3.set 2 _ rfl
  have T4 : Hid (Calls Tryd.prog 36 #[.pointer (some ⟨w.heap.size + 1, 0, none⟩)] (w3.setCell ⟨w.heap.size + 1 + 1, 2, none⟩ (.int .i64 (decR (pad r2 8)))) fun e wj => ∃ s r' b', e = .returned (.string (strB s)) ∧ TextRead (r2.drop 8) (b2 || decide (r2.length < 8)) s r' b' ∧ r'.length ≤ (r2.drop 8).length ∧ RSt w wj r' b' ⟨strB s1, strB s2, decR (pad r2 8), ⟨#[]⟩⟩) := rst_text S3' (by rw [List.length_drop]; omega)
  clear S3 S3' k3 T3 kc2 kf2
  obtain ⟨zz, hzz⟩ : ∃ zz, zz = decR (pad r2 8) := ⟨_, rfl⟩
  rw [← hzz] at T4 ⊢
  have Hzz : Hid (zz = decR (pad r2 8)) := hzz
  clear hzz
  go_wp2_with fail
  refine T4.out.mono ?_
  rintro e w4 ⟨s3, r3, b3, rfl, x3, l3, S4⟩
  have k4 := KAt.of (k := ⟨strB s1, strB s2, zz, ⟨#[]⟩⟩) S4.key
  have kc4 := k4.c
  have kf4 := frozen_of S4.key 3
  have S5 : RSt w (w4.setCell ⟨w.heap.size + 1 + 1, 3, none⟩ (.string (strB s3))) r3 b3 ⟨strB s1, strB s2, zz, strB s3⟩ := S4.set 3 _ rfl
  have D : Hid (Calls Tryd.prog 38 #[.pointer (some ⟨w.heap.size + 1, 0, none⟩)] (w4.setCell ⟨w.heap.size + 1 + 1, 3, none⟩ (.string (strB s3))) fun e w' => e = .returned (.bool (!b3 && decide (r3.length = 0))) ∧ w' = w4.setCell ⟨w.heap.size + 1 + 1, 3, none⟩ (.string (strB s3))) := done_any _ _ r3 b3 _ S5.rdr (by rw [List.length_drop] at l3; omega)
  have HP := read_parts x1 x2 x3
  rw [← Hzz.out] at HP
  have HS5 : Hid (RSt w (w4.setCell ⟨w.heap.size + 1 + 1, 3, none⟩ (.string (strB s3))) r3 b3 ⟨strB s1, strB s2, zz, strB s3⟩) := S5
  have HH := S5
  clear S4 S5 k4 T4 kc3 kf3 x1 x2 x3 l1 l2 l3 Hzz
  go_wp2_with fail
  refine D.out.mono ?_
  rintro e w5 ⟨rfl, rfl⟩
  clear kc4 kf4 D
  revert HS5 HH
  generalize w4.setCell ⟨w.heap.size + 1 + 1, 3, none⟩ (.string (strB s3)) = w5
  intro HS5 HH
  have kk := KAt.of (k := ⟨strB s1, strB s2, zz, strB s3⟩) HH.key
  have kr := KAt.of (k := ⟨⟨#[]⟩, ⟨#[]⟩, 0, ⟨#[]⟩⟩) HH.res
  have a0 := kk.t
  have a1 := kk.p
  have a2 := kk.r
  have a3 := kk.c
  have c0 := kr.t
  have c1 := kr.p
  have c2 := kr.r
  have c3 := kr.c
  have f0 := frozen_of HH.res 0
  have f1 := frozen_of HH.res 1
  have f2 := frozen_of HH.res 2
  have f3 := frozen_of HH.res 3
  by_cases hend : b3 = false ∧ r3.length = 0
  · have hr := HP.1 hend
    have d1 : (!b3 && decide (r3.length = 0)) = true := by rw [hend.1, hend.2]; rfl
    rw [d1]
    have HRes : Hid (rdRes l = (⟨strB s1, strB s2, zz, strB s3⟩, true)) := hr
    clear HP hr hend d1 kk kr HH
    go_wp2_with fail
    refine bodyPost_ret (v := .tuple #[.agg #[.string (strB s1), .string (strB s2), .int .i64 zz, .string (strB s3)], .bool true]) (results_row_tmp Tryd.results21 _ _ w.heap.size 23 _ _ _ _ rfl rfl (set_four (k := ⟨⟨#[]⟩, ⟨#[]⟩, 0, ⟨#[]⟩⟩) HS5.out.res _ _ _ _) Tryd.underlying23 rfl (by kernel_rfl)) rfl ?_
    exact ⟨by rw [HRes.out]; rfl, below_four HS5.out.bel _ _ _ _⟩
  · have hr := HP.2 hend
    have d1 : (!b3 && decide (r3.length = 0)) = false := by
      cases b3
      · by_cases h0 : r3.length = 0
        · exact absurd ⟨rfl, h0⟩ hend
        · rw [decide_eq_false h0]; rfl
      · rfl
    rw [d1]
    have HRes : Hid (rdRes l = (⟨⟨#[]⟩, ⟨#[]⟩, 0, ⟨#[]⟩⟩, false)) := hr
    clear HP hr hend d1 kk kr HH
    go_wp2_with fail
    refine bodyPost_ret (v := .tuple #[.agg #[.string ⟨#[]⟩, .string ⟨#[]⟩, .int .i64 0, .string ⟨#[]⟩], .bool false]) (results_row_tmp Tryd.results21 _ _ w.heap.size 23 _ _ _ _ rfl rfl (set_four (k := ⟨⟨#[]⟩, ⟨#[]⟩, 0, ⟨#[]⟩⟩) HS5.out.res _ _ _ _) Tryd.underlying23 rfl (by kernel_rfl)) rfl ?_
    exact ⟨by rw [HRes.out]; rfl, below_four HS5.out.bel _ _ _ _⟩
end Go.Proofs.YtniilnifhgdhcaaDoor

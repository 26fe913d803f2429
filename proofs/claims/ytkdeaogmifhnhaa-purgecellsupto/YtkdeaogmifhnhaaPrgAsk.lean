/-
  CONTRACTS: questions that are asked one by one (mayBeElsewhere), and the closure that lets a cell go (forget$1).
-/
import Derived.Test.YtkdeaogmifhnhaaPrgOld
import Derived.Test.YtkdeaogmifhnhaaPrgDel
namespace Go.Proofs.Ytkdeaogmifhnhaa
open Go.RowKit

/-- A question of one place where cells are kept: its value, its answer. -/
structure Qu where
  v : Value
  p : Kb → Bool
/-- What a question owes in every world behind w, at the keys of K. -/
structure Qu.Ok (w : World) (K : Kb → Prop) (q : Qu) : Prop where
  ex : ∃ (f : Nat) (bnd cap : Array Value), q.v = .func (.func f) bnd cap ∧ (∀ args u, (callFunc f args).run Try.prog u = .ok (.enter f args) u) ∧
    ∀ (u : World) (k : Kb), Below w.heap.size w u → K k → Calls Try.prog f (bnd ++ #[k.v] ++ cap) u fun e w' => e = .returned (.bool (q.p k)) ∧ Below u.heap.size u w'
theorem Qu.Ok.below {w w' : World} {K : Kb → Prop} {q : Qu} (h : q.Ok w K) (hb : Below w.heap.size w w') : q.Ok w' K := by
  obtain ⟨f, bnd, cap, h1, h2, h3⟩ := h.ex
  exact ⟨f, bnd, cap, h1, h2, fun u k hu hk => h3 u k (hb.trans (hu.mono hb.size)) hk⟩
/-- Questions in memory. -/
def QSees (w : World) (ao : Option Addr) (qs : List Qu) : Prop := ∀ i q, qs[i]? = some q → ∃ b off, ao = some ⟨b, off, none⟩ ∧ w.cell? ⟨b, off + i, none⟩ = some q.v
theorem QSees.below {w w' : World} {ao : Option Addr} {qs : List Qu} (h : QSees w ao qs) {B : Nat} (hb : Below B w w') (hB : w.heap.size ≤ B) : QSees w' ao qs := fun i v hv => by
  obtain ⟨b, off, e, hc⟩ := h i v hv
  have := World.block_lt_of_cell? _ _ hc
  exact ⟨b, off, e, (hb.cell (by show b < B; simp only at this; omega)).trans hc⟩
structure KeyAt4 (w : World) (b : Nat) (k : Kb) : Prop where
  t : w.cell? ⟨b, 0, none⟩ = some (.string k.t)
  p : w.cell? ⟨b, 1, none⟩ = some (.string k.p)
  r : w.cell? ⟨b, 2, none⟩ = some (.int .i64 k.r)
  c : w.cell? ⟨b, 3, none⟩ = some (.string k.c)
theorem KeyAt4.below {w w' : World} {b : Nat} {k : Kb} (h : KeyAt4 w b k) {B : Nat} (hb : Below B w w') (hB : w.heap.size ≤ B) : KeyAt4 w' b k := by
  have := World.block_lt_of_cell? _ _ h.t
  have hlt : b < B := by simp only at this; omega
  exact ⟨(hb.cell hlt).trans h.t, (hb.cell hlt).trans h.p, (hb.cell hlt).trans h.r, (hb.cell hlt).trans h.c⟩
theorem KeyAt4.new (w : World) (k : Kb) (ty : TypeId) : KeyAt4 (w.alloc (.cells #[.string k.t, .string k.p, .int .i64 k.r, .string k.c] ty)) w.heap.size k := by
  have hg := heap_alloc_new w (.cells #[.string k.t, .string k.p, .int .i64 k.r, .string k.c] ty)
  exact ⟨by simp only [World.cell?, hg]; rfl, by simp only [World.cell?, hg]; rfl, by simp only [World.cell?, hg]; rfl, by simp only [World.cell?, hg]; rfl⟩
set_option maxRecDepth 100000 in
theorem else1_any (q : Qu) (bk : Nat) (k : Kb) (K : Kb → Prop) (w : World) (hk : KeyAt4 w bk k) (hq : q.Ok w K) (hK : K k) :
    Calls Try.prog 38 #[q.v, .pointer (some ⟨bk, 0, none⟩)] w fun e w' => e = .returned (.bool (q.p k)) ∧ Below w.heap.size w w' := by
  obtain ⟨f, bnd, cap, e1, ent, hc⟩ := hq.ex
  have C : Hid (Calls Try.prog f (bnd ++ #[k.v] ++ cap) w fun e w' => e = .returned (.bool (q.p k)) ∧ Below w.heap.size w w') := hc w k (Below.refl _ _) hK
  rw [e1]
  generalize q.p k = r at *
  obtain ⟨k1, k2, k3, k4⟩ := k
  obtain ⟨q0, q1, q2, q3⟩ := hk
  simp only [Kb.v] at C q0 q1 q2 q3
  clear hq hc e1
  go_enter Try.func38, Try.ntmps38
  go_wp2_with fail
  refine C.out.mono ?_
  rintro e u ⟨rfl, hu⟩
  go_wp2_with fail
  go_ret
  exact ⟨rfl, hu⟩
set_option maxRecDepth 100000 in
set_option maxHeartbeats 1000000 in
theorem indexAsk_any (ao : Option Addr) (qs : List Qu) (cap bk : Nat) (k : Kb) (K : Kb → Prop) (w : World) (hs : QSees w ao qs) (hk : KeyAt4 w bk k) (hq : ∀ q ∈ qs, q.Ok w K) (hK : K k) (hl : qs.length ≤ 1000000) :
    Calls Try.prog 49 #[.slice ao qs.length cap, .func (.func 38) #[] #[.pointer (some ⟨bk, 0, none⟩)]] w fun e w' => ∃ z : Int, e = .returned (.int .i64 z) ∧ decide (0 ≤ z) = qs.any (fun q => q.p k) ∧ Below w.heap.size w w' := by
  have hlz : (qs.length : Int) ≤ 1000000 := by omega
  have HQ : Hid (∀ q ∈ qs, q.Ok w K) := hq
  clear hq
  go_enter Try.func49, Try.ntmps49
  go_wp2_with fail
  go_loopw [8] (fun s8 wr => ∃ i : Nat, i ≤ qs.length ∧ s8 = .int .i64 i ∧ (qs.take i).any (fun q => q.p k) = false ∧ Below w.heap.size w wr) (fun s8 _ => qs.length - (intOf s8).toNat)
  case atStart => exact ⟨0, by omega, rfl, rfl, Below.refl _ _⟩
  case round =>
    obtain ⟨i, hi, rfl, hr, hbr⟩ := hrel
    have HR : Hid ((qs.take i).any (fun q => q.p k) = false) := hr
    clear hr
    rcases Nat.lt_or_ge i qs.length with hlt | hge
    · obtain ⟨q, hc⟩ : ∃ q, qs[i]? = some q := ⟨_, List.getElem?_eq_getElem hlt⟩
      have hmem := List.mem_of_getElem? hc
      have HT : Hid ((qs.take (i + 1)).any (fun q => q.p k) = ((qs.take i).any (fun q => q.p k) || q.p k)) := by
        have h : (qs.take (i + 1)).any (fun q => q.p k) = ((qs.take i).any (fun q => q.p k) || q.p k) := by
          rw [takeX_succ hc, List.any_append]
          simp
        exact h
      have HA : Hid (q.p k = true → qs.any (fun q => q.p k) = true) := fun h => by
        rw [List.any_eq_true]
        exact ⟨q, hmem, h⟩
      obtain ⟨b, off, rfl, x1⟩ := (hs.below hbr (Nat.le_refl _)) i _ hc
      have G : Hid (Calls Try.prog 38 #[q.v, .pointer (some ⟨bk, 0, none⟩)] wr fun e w' => e = .returned (.bool (q.p k)) ∧ Below wr.heap.size wr w') := else1_any q bk k K wr (hk.below hbr (Nat.le_refl _)) ((HQ.out q hmem).below hbr) hK
      obtain ⟨f0, b0, c0, e0, _⟩ := (HQ.out q hmem).ex
      have hltz : (i : Int) < (qs.length : Int) := by omega
      rw [e0] at G x1
      generalize q.p k = r at *
      clear hc hmem e0
      cases r
      · have HN : Hid ((qs.take (i + 1)).any (fun q => q.p k) = false) := by
          have h := HT.out
          rw [HR.out] at h
          exact h
        clear HT HA
        go_wp2_with fail
        refine G.out.mono ?_
        rintro e w1 ⟨rfl, hb1⟩
        go_wp2_with fail
        go_roundw
        case rel => exact ⟨i + 1, by omega, by simp, HN.out, hbr.trans (hb1.mono hbr.size)⟩
        case measure => simp [intOf]; omega
      · have HY : Hid (qs.any (fun q => q.p k) = true) := HA.out rfl
        clear HT HA
        go_wp2_with fail
        refine G.out.mono ?_
        rintro e w1 ⟨rfl, hb1⟩
        go_wp2_with fail
        go_ret
        refine ⟨i, rfl, ?_, hbr.trans (hb1.mono hbr.size)⟩
        rw [HY.out]
        exact decide_eq_true (by omega)
    · obtain rfl : i = qs.length := by omega
      go_wp2_with fail
      go_ret
      refine ⟨-1, rfl, ?_, hbr⟩
      have h := HR.out
      rw [List.take_length] at h
      rw [h]
      decide
set_option maxRecDepth 100000 in
theorem someAsk_any (ao : Option Addr) (qs : List Qu) (cap bk : Nat) (k : Kb) (K : Kb → Prop) (w : World) (hs : QSees w ao qs) (hk : KeyAt4 w bk k) (hq : ∀ q ∈ qs, q.Ok w K) (hK : K k) (hl : qs.length ≤ 1000000) :
    Calls Try.prog 37 #[.slice ao qs.length cap, .func (.func 38) #[] #[.pointer (some ⟨bk, 0, none⟩)]] w fun e w' => e = .returned (.bool (qs.any (fun q => q.p k))) ∧ Below w.heap.size w w' := by
  have I : Hid (Calls Try.prog 49 #[.slice ao qs.length cap, .func (.func 38) #[] #[.pointer (some ⟨bk, 0, none⟩)]] w fun e w' => ∃ z : Int, e = .returned (.int .i64 z) ∧ decide (0 ≤ z) = qs.any (fun q => q.p k) ∧ Below w.heap.size w w') := indexAsk_any ao qs cap bk k K w hs hk hq hK hl
  generalize qs.any (fun q => q.p k) = g at *
  clear hs hq hk
  go_enter Try.func37, Try.ntmps37
  go_wp2_with fail
  refine I.out.mono ?_
  rintro e w1 ⟨z, rfl, hz, hb1⟩
  go_wp2_with fail
  go_ret
  refine ⟨ret_bool ?_, hb1⟩
  rw [← hz]
set_option maxRecDepth 100000 in
theorem else_any (ao : Option Addr) (qs : List Qu) (cap : Nat) (k : Kb) (K : Kb → Prop) (w : World) (hs : QSees w ao qs) (hq : ∀ q ∈ qs, q.Ok w K) (hK : K k) (hl : qs.length ≤ 1000000) :
    Calls Try.prog 26 #[k.v, .slice ao qs.length cap] w fun e w' => e = .returned (.bool (qs.any (fun q => q.p k))) ∧ Below w.heap.size w w' := by
  have hb : Below w.heap.size w (w.alloc (.cells #[.string k.t, .string k.p, .int .i64 k.r, .string k.c] 29)) := (Below.refl _ _).alloc (Nat.le_refl _) _
  have I : Hid (Calls Try.prog 37 #[.slice ao qs.length cap, .func (.func 38) #[] #[.pointer (some ⟨w.heap.size, 0, none⟩)]] (w.alloc (.cells #[.string k.t, .string k.p, .int .i64 k.r, .string k.c] 29)) fun e w' => e = .returned (.bool (qs.any (fun q => q.p k))) ∧ Below (w.alloc (.cells #[.string k.t, .string k.p, .int .i64 k.r, .string k.c] 29)).heap.size (w.alloc (.cells #[.string k.t, .string k.p, .int .i64 k.r, .string k.c] 29)) w') :=
    someAsk_any ao qs cap w.heap.size k K _ (hs.below hb (Nat.le_refl _)) (KeyAt4.new w k _) (fun q h => (hq q h).below hb) hK hl
  generalize qs.any (fun q => q.p k) = g at *
  obtain ⟨k1, k2, k3, k4⟩ := k
  simp only [Kb.v] at I hb ⊢
  clear hs hq
  go_enter Try.func26, Try.ntmps26
  go_wp2_with fail
  refine I.out.mono ?_
  rintro e w1 ⟨rfl, hb1⟩
  go_wp2_with fail
  go_ret
  exact ⟨rfl, hb.trans (hb1.mono hb.size)⟩
/-- What goes: it is Old, and no question says that its key may be there. -/
def goesC (qs : List Qu) (now g : Int) (c : Cx) : Bool := oldV c.v now g && !qs.any (fun q => q.p c.k)
set_option maxRecDepth 100000 in
set_option maxHeartbeats 1000000 in
theorem forget1_any (ao : Option Addr) (qs : List Qu) (cap bn bg ba : Nat) (now g : Int) (c : Cx) (K : Kb → Prop) (w : World) (hs : QSees w ao qs) (hq : ∀ q ∈ qs, q.Ok w K) (hK : K c.k) (hl : qs.length ≤ 1000000) (hloc : InI c.v.loc) (hn : InI now) (hg : InI g)
    (h1 : w.cell? ⟨bn, 0, none⟩ = some (.int .i64 now)) (h2 : w.cell? ⟨bg, 0, none⟩ = some (.int .i64 g)) (h3 : w.cell? ⟨ba, 0, none⟩ = some (.slice ao qs.length cap)) :
    Calls Try.prog 25 #[c.val, .pointer (some ⟨bn, 0, none⟩), .pointer (some ⟨bg, 0, none⟩), .pointer (some ⟨ba, 0, none⟩)] w fun e w' => e = .returned (.bool (goesC qs now g c)) ∧ Below w.heap.size w w' := by
  have hb : Below w.heap.size w (w.alloc (.cells c.a 35)) := (Below.refl _ _).alloc (Nat.le_refl _) _
  have tv : TenX (w.alloc (.cells c.a 35)) w.heap.size 0 c := TenX.new w c _
  have b1 := (hb.cell (World.block_lt_of_cell? _ _ h1)).trans h1
  have b2 := (hb.cell (World.block_lt_of_cell? _ _ h2)).trans h2
  have b3 := (hb.cell (World.block_lt_of_cell? _ _ h3)).trans h3
  obtain ⟨wa, hwa⟩ : ∃ wa, wa = w.alloc (.cells c.a 35) := ⟨_, rfl⟩
  have b1' := b1
  have b2' := b2
  rw [← hwa] at hb tv b1 b2 b3
  have O : Hid (∀ u, Calls Try.prog 8 #[c.v.v, .int .i64 now, .int .i64 g] u fun x w' => x = .returned (.bool (oldV c.v now g)) ∧ Below u.heap.size u w') := fun u => old_any c.v now g u hloc hn hg
  have E : Hid (∀ u, Below wa.heap.size wa u → Calls Try.prog 26 #[c.k.v, .slice ao qs.length cap] u fun e w' => e = .returned (.bool (qs.any (fun q => q.p c.k))) ∧ Below u.heap.size u w') := fun u hu => by
    have hbu := hb.trans (hu.mono hb.size)
    exact else_any ao qs cap c.k K u (hs.below hbu (Nat.le_refl _)) (fun q h => (hq q h).below hbu) hK hl
  have HU : Hid (goesC qs now g c = (oldV c.v now g && !qs.any (fun q => q.p c.k))) := rfl
  have HT : Hid (∀ u, Below wa.heap.size wa u → TenX u w.heap.size 0 c ∧ u.cell? ⟨ba, 0, none⟩ = some (.slice ao qs.length cap)) := fun u hu => ⟨tv.below hu tv.lt, (hu.cell (World.block_lt_of_cell? _ _ b3)).trans b3⟩
  generalize goesC qs now g c = r at *
  generalize qs.any (fun q => q.p c.k) = s at *
  generalize oldV c.v now g = o at *
  clear hs hq hK h1 h2 h3
  obtain ⟨⟨ct, cp, cr, cc⟩, ⟨cti, cd, cl, ck, cn, cstr⟩⟩ := c
  obtain ⟨k0, k1, k2, k3, k4, k5, k6, k7, k8, k9⟩ := tv
  simp only [Cx.val, Cx.a, Kb.v, Vr.v, Nat.zero_add] at k0 k1 k2 k3 k4 k5 k6 k7 k8 k9 O E hwa b1' b2' ⊢
  go_enter Try.func25, Try.ntmps25
  cases o
  · go_wp2_with fail
    rw [← hwa]
    rw [← hwa] at b1' b2'
    clear hwa
    refine (O.out _).mono ?_
    rintro e u ⟨rfl, hu⟩
    go_wp2_with fail
    go_ret
    refine ⟨?_, hb.trans (hu.mono hb.size)⟩
    have h := HU.out
    rw [h]
    rfl
  · go_wp2_with fail
    rw [← hwa]
    rw [← hwa] at b1' b2'
    clear hwa
    refine (O.out _).mono ?_
    rintro e u ⟨rfl, hu⟩
    obtain ⟨tu, b3u⟩ := HT.out u hu
    clear k0 k1 k2 k3 k4 k5 k6 k7 k8 k9 b1 b2 b3
    obtain ⟨k0, k1, k2, k3, k4, k5, k6, k7, k8, k9⟩ := tu
    simp only [Nat.zero_add] at k0 k1 k2 k3 k4 k5 k6 k7 k8 k9
    have E2 := E.out u hu
    have E3 : Hid (Calls Try.prog 26 #[.agg #[.string ct, .string cp, .int .i64 cr, .string cc], .slice ao qs.length cap] u fun e w' => e = .returned (.bool s) ∧ Below u.heap.size u w') := E2
    clear E2 E
    go_wp2_with fail
    refine E3.out.mono ?_
    rintro e u2 ⟨rfl, hu2⟩
    go_wp2_with fail
    go_ret
    refine ⟨?_, hb.trans ((hu.trans (hu2.mono hu.size)).mono hb.size)⟩
    have h := HU.out
    rw [h]
    rfl
end Go.Proofs.Ytkdeaogmifhnhaa

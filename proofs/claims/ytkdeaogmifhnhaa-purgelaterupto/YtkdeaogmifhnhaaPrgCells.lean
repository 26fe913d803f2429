/-
  CONTRACTS: forget, Cells and Table of purge.
-/
import Derived.Test.YtkdeaogmifhnhaaPrgAsk
import Derived.Test.YtkdeaogmifhnhaaPrgHas
import Derived.Test.YtkdeaogmifhnhaaMrgMore
import Derived.Test.YtkdeaogmifhnhaaCxRefMore
import Derived.Shelf.Abstract
namespace Go.Proofs.Ytkdeaogmifhnhaa
open Go.RowKit

set_option maxRecDepth 100000 in
set_option maxHeartbeats 1000000 in
theorem forget_any (ao : Option Addr) (l : List Cx) (cap : Nat) (qo : Option Addr) (qs : List Qu) (qcap : Nat) (now g : Int) (K : Kb → Prop) (w : World) (hs : XSees w ao l) (hq0 : QSees w qo qs) (hq : ∀ q ∈ qs, q.Ok w K) (hl : l.length ≤ 1000000) (hql : qs.length ≤ 1000000)
    (hc : ∀ c ∈ l, InI c.v.loc ∧ K c.k) (hn : InI now) (hg : InI g) :
    Calls Try.prog 18 #[.slice ao l.length cap, .int .i64 now, .int .i64 g, .slice qo qs.length qcap] w fun e w' => ∃ ao' cap', e = .returned (.slice ao' (kpt (goesC qs now g) (nrm l)).length cap') ∧ XSees w' ao' (kpt (goesC qs now g) (nrm l)) ∧ Below w.heap.size w w' := by
  obtain ⟨w3, hw3⟩ : ∃ w3, w3 = ((w.alloc (.cells #[.int .i64 now] 3)).alloc (.cells #[.int .i64 g] 3)).alloc (.cells #[.slice qo qs.length qcap] 56) := ⟨_, rfl⟩
  have hb : Below w.heap.size w w3 := by rw [hw3]; exact (((Below.refl _ _).alloc (Nat.le_refl _) _).alloc (by simp) _).alloc (by simp; omega) _
  have h1 : w3.cell? ⟨w.heap.size, 0, none⟩ = some (.int .i64 now) := by
    rw [hw3]
    exact Lib.cell?_alloc_some _ (Lib.cell?_alloc_some _ (by have := heap_alloc_new w (.cells #[.int .i64 now] 3); simp only [World.cell?, this]; rfl))
  have h2 : w3.cell? ⟨w.heap.size + 1, 0, none⟩ = some (.int .i64 g) := by
    rw [hw3]
    exact Lib.cell?_alloc_some _ (by have := heap_alloc_new (w.alloc (.cells #[.int .i64 now] 3)) (.cells #[.int .i64 g] 3); rw [World.size_alloc] at this; simp only [World.cell?, this]; rfl)
  have h3 : w3.cell? ⟨w.heap.size + 1 + 1, 0, none⟩ = some (.slice qo qs.length qcap) := by
    rw [hw3]
    have := heap_alloc_new ((w.alloc (.cells #[.int .i64 now] 3)).alloc (.cells #[.int .i64 g] 3)) (.cells #[.slice qo qs.length qcap] 56)
    rw [World.size_alloc, World.size_alloc] at this
    simp only [World.cell?, this]
    rfl
  have hx3 : XSees w3 ao l := hs.below hb (Nat.le_refl _)
  have N : Hid (Calls Try.prog 24 #[.slice ao l.length cap] w3 fun e w' => ∃ v, e = .returned v ∧ w'.ownsRow w3.heap.size 35 10 v (nrm l).length ((nrm l).flatMap xs10) ∧ Below w3.heap.size w3 w') :=
    norm_any ao l cap w3 hx3 (fun e => by
      cases l with
      | nil => rfl
      | cons c r => obtain ⟨b, o, e2, _⟩ := hs 0 c rfl; rw [e] at e2; cases e2) hl
  have D : Hid (∀ (v : Value) (u : World), Below w3.heap.size w3 u → u.ownsRow w3.heap.size 35 10 v (nrm l).length ((nrm l).flatMap xs10) →
      Calls Try.prog 23 #[v, .func (.func 25) #[] #[.pointer (some ⟨w.heap.size, 0, none⟩), .pointer (some ⟨w.heap.size + 1, 0, none⟩), .pointer (some ⟨w.heap.size + 1 + 1, 0, none⟩)]] u fun e w' => ∃ ao cap, e = .returned (.slice ao (kpt (goesC qs now g) (nrm l)).length cap) ∧ XSees w' ao (kpt (goesC qs now g) (nrm l)) ∧ Below w3.heap.size u w') := fun v u hu ho => by
    refine delete_any w3.heap.size v (nrm l) u (goesC qs now g) _ ho hu.size (Nat.le_trans (nrm_len l) hl) (fun u2 c hcm hu2 => ?_)
    have hu3 : Below w3.heap.size w3 u2 := hu.trans hu2
    have hbu := hb.trans (hu3.mono hb.size)
    have hcl := hc c (nrm_mem hcm)
    exact forget1_any qo qs qcap w.heap.size (w.heap.size + 1) (w.heap.size + 1 + 1) now g c K u2 (hq0.below hbu (Nat.le_refl _)) (fun q h => (hq q h).below hbu) hcl.2 hql hcl.1 hn hg
      ((hu3.cell (World.block_lt_of_cell? _ _ h1)).trans h1) ((hu3.cell (World.block_lt_of_cell? _ _ h2)).trans h2) ((hu3.cell (World.block_lt_of_cell? _ _ h3)).trans h3)
  have HB : Hid (Below w.heap.size w w3) := hb
  generalize kpt (goesC qs now g) (nrm l) = k at *
  clear hb h1 h2 h3 hx3 hs hq0 hq hc hn hg
  go_enter Try.func18, Try.ntmps18
  go_wp2_with fail
  rw [← hw3]
  clear hw3
  refine N.out.mono ?_
  rintro e u ⟨v, rfl, ho, hu⟩
  obtain ⟨va, vc, hv⟩ : ∃ va vc, v = .slice va (nrm l).length vc := by
    obtain ⟨a, c, h, _⟩ := owns_xsees ho
    exact ⟨a, c, h⟩
  have D2 := D.out v u hu ho
  rw [hv] at D2 ⊢
  have D3 : Hid (Calls Try.prog 23 #[.slice va (nrm l).length vc, .func (.func 25) #[] #[.pointer (some ⟨w.heap.size, 0, none⟩), .pointer (some ⟨w.heap.size + 1, 0, none⟩), .pointer (some ⟨w.heap.size + 1 + 1, 0, none⟩)]] u fun e w' => ∃ ao cap, e = .returned (.slice ao k.length cap) ∧ XSees w' ao k ∧ Below w3.heap.size u w') := D2
  have HU : Hid (Below w.heap.size w u) := HB.out.trans (hu.mono HB.out.size)
  clear D2 D N ho hu hv
  generalize (nrm l).length = n at *
  go_wp2_with fail
  refine D3.out.mono ?_
  rintro e u2 ⟨a2, c2, rfl, hx2, hb2⟩
  go_wp2_with fail
  go_ret
  exact ⟨a2, c2, rfl, hx2, HU.out.trans (hb2.mono HB.out.size)⟩
/-- The question that hasKey makes. -/
def quK (bx : Nat) (S : List Kb) : Qu := ⟨.func (.func 27) #[] #[.pointer (some ⟨bx, 0, none⟩)], hasK S⟩
theorem quK_ok {w : World} {B bx bm : Nat} {S : List Kb} (h : HasAt w B bx bm S) (K : Kb → Prop) : (quK bx S).Ok w K :=
  ⟨27, #[], #[.pointer (some ⟨bx, 0, none⟩)], rfl, enters_of Try.func27 (by kernel_rfl) rfl, fun u k hu _ => by
    have h2 := h.below hu
    exact hasKey1_any bx bm S k u h2.box h2.map⟩
/-- What goes beside other keys. -/
def goesX (S : List Kb) (now g : Int) (c : Cx) : Bool := oldV c.v now g && !hasK S c.k
theorem goes_one (bx : Nat) (S : List Kb) (now g : Int) : goesC [quK bx S] now g = goesX S now g := by
  funext c
  unfold goesC goesX quK
  simp
theorem qsees_one (u : World) (q : Qu) (ty : TypeId) : QSees (u.alloc (.cells #[q.v] ty)) (some ⟨u.heap.size, 0, none⟩) [q] := fun i x hx => by
  have hi : i = 0 := by have := (List.getElem?_eq_some_iff.1 hx).1; simp at this; exact this
  subst hi
  obtain rfl := Option.some.inj hx
  have hg := heap_alloc_new u (.cells #[q.v] ty)
  exact ⟨u.heap.size, 0, rfl, by simp only [World.cell?, hg]; rfl⟩
set_option maxRecDepth 100000 in
set_option maxHeartbeats 1000000 in
theorem cellsP_any (ao : Option Addr) (l : List Cx) (cap : Nat) (lo : Option Addr) (vs : List Lv) (lcap : Nat) (now g : Int) (w : World) (hs : XSees w ao l) (hls : LSees w lo vs) (hin : ∀ v ∈ vs, XSees w v.ao v.l) (hl : l.length ≤ 1000000) (hvl : vs.length ≤ 1048576) (hll : ∀ v ∈ vs, v.l.length ≤ 1048576)
    (hc : ∀ c ∈ l, InI c.v.loc) (hn : InI now) (hg : InI g) :
    Calls Try.prog 11 #[.slice ao l.length cap, .slice lo vs.length lcap, .int .i64 now, .int .i64 g] w fun e w' => ∃ ao' cap', e = .returned (.slice ao' (kpt (goesX (keysL vs) now g) (nrm l)).length cap') ∧ XSees w' ao' (kpt (goesX (keysL vs) now g) (nrm l)) ∧ Below w.heap.size w w' := by
  have H : Hid (Calls Try.prog 19 #[.slice lo vs.length lcap] w fun e w' => ∃ bx bm, e = .returned (.func (.func 27) #[] #[.pointer (some ⟨bx, 0, none⟩)]) ∧ HasAt w' w.heap.size bx bm (keysL vs) ∧ Below w.heap.size w w') := hasKey_any lo vs lcap w hls hin hvl hll
  have F : Hid (∀ (u : World) (bx bm : Nat), HasAt u w.heap.size bx bm (keysL vs) → Below w.heap.size w u → Calls Try.prog 18 #[.slice ao l.length cap, .int .i64 now, .int .i64 g, .slice (some ⟨u.heap.size, 0, none⟩) 1 1] (u.alloc (.cells #[.func (.func 27) #[] #[.pointer (some ⟨bx, 0, none⟩)]] 52)) fun e w' => ∃ ao' cap', e = .returned (.slice ao' (kpt (goesX (keysL vs) now g) (nrm l)).length cap') ∧ XSees w' ao' (kpt (goesX (keysL vs) now g) (nrm l)) ∧ Below u.heap.size u w') := fun u bx bm hH hu => by
    have hb : Below u.heap.size u (u.alloc (.cells #[.func (.func 27) #[] #[.pointer (some ⟨bx, 0, none⟩)]] 52)) := (Below.refl _ _).alloc (Nat.le_refl _) _
    have h := forget_any ao l cap (some ⟨u.heap.size, 0, none⟩) [quK bx (keysL vs)] 1 now g (fun _ => True) (u.alloc (.cells #[.func (.func 27) #[] #[.pointer (some ⟨bx, 0, none⟩)]] 52)) (hs.below (hu.trans (hb.mono hu.size)) (Nat.le_refl _)) (qsees_one u (quK bx (keysL vs)) _)
      (fun q hq => by rw [List.mem_singleton] at hq; subst hq; exact quK_ok (hH.below hb) _) hl (by simp) (fun c h => ⟨hc c h, trivial⟩) hn hg
    rw [goes_one] at h
    refine h.mono ?_
    rintro e w' ⟨a, c, h1, h2, h3⟩
    exact ⟨a, c, h1, h2, hb.trans (h3.mono hb.size)⟩
  generalize kpt (goesX (keysL vs) now g) (nrm l) = k at *
  clear hs hls hin hc hn hg
  go_enter Try.func11, Try.ntmps11
  go_wp2_with fail
  refine H.out.mono ?_
  rintro e u ⟨bx, bm, rfl, hH, hu⟩
  have F2 := F.out u bx bm hH hu
  have F3 : Hid (Calls Try.prog 18 #[.slice ao l.length cap, .int .i64 now, .int .i64 g, .slice (some ⟨u.heap.size, 0, none⟩) 1 1] (u.alloc (.cells #[.func (.func 27) #[] #[.pointer (some ⟨bx, 0, none⟩)]] 52)) fun e w' => ∃ ao' cap', e = .returned (.slice ao' k.length cap') ∧ XSees w' ao' k ∧ Below u.heap.size u w') := F2
  clear F2 F hH
  go_wp2_with fail
  refine F3.out.mono ?_
  rintro e u2 ⟨a2, c2, rfl, hx2, hb2⟩
  go_wp2_with fail
  go_ret
  exact ⟨a2, c2, rfl, hx2, hu.trans (hb2.mono hu.size)⟩
theorem lsees_one (u : World) (x : Lv) (ty : TypeId) : LSees (u.alloc (.cells #[x.s] ty)) (some ⟨u.heap.size, 0, none⟩) [x] := fun i y hy => by
  have hi : i = 0 := by have := (List.getElem?_eq_some_iff.1 hy).1; simp at this; exact this
  subst hi
  obtain rfl := Option.some.inj hy
  have hg := heap_alloc_new u (.cells #[x.s] ty)
  exact ⟨u.heap.size, 0, rfl, by simp only [World.cell?, hg]; rfl⟩
set_option maxRecDepth 100000 in
set_option maxHeartbeats 1000000 in
/-- Table beside no tables. -/
theorem table0_any (ao : Option Addr) (l : List Cx) (cap : Nat) (tb mo : Option Addr) (m : List Cx) (tcap mcap : Nat) (now g : Int) (w : World) (hs : XSees w ao l) (hm : XSees w mo m) (hl : l.length ≤ 1000000) (hml : m.length ≤ 1048576)
    (hc : ∀ c ∈ l, InI c.v.loc) (hn : InI now) (hg : InI g) :
    Calls Try.prog 16 #[.slice ao l.length cap, .slice tb 0 tcap, .slice mo m.length mcap, .int .i64 now, .int .i64 g] w fun e w' => ∃ ao' cap', e = .returned (.slice ao' (kpt (goesX (keysX m) now g) (nrm l)).length cap') ∧ XSees w' ao' (kpt (goesX (keysX m) now g) (nrm l)) ∧ Below w.heap.size w w' := by
  have hb0 : Below w.heap.size w (w.alloc (.cells #[.slice mo m.length mcap] 22)) := (Below.refl _ _).alloc (Nat.le_refl _) _
  have ek : keysL [⟨mo, mcap, m⟩] = keysX m := by unfold keysL; simp
  have H : Hid (Calls Try.prog 19 #[.slice (some ⟨w.heap.size, 0, none⟩) 1 1] (w.alloc (.cells #[.slice mo m.length mcap] 22)) fun e w' => ∃ bx bm, e = .returned (.func (.func 27) #[] #[.pointer (some ⟨bx, 0, none⟩)]) ∧ HasAt w' (w.alloc (.cells #[.slice mo m.length mcap] 22)).heap.size bx bm (keysX m) ∧ Below w.heap.size w w') := by
    have h := hasKey_any (some ⟨w.heap.size, 0, none⟩) [⟨mo, mcap, m⟩] 1 (w.alloc (.cells #[.slice mo m.length mcap] 22)) (lsees_one w ⟨mo, mcap, m⟩ _) (fun v hv => by rw [List.mem_singleton] at hv; subst hv; exact hm.below hb0 (Nat.le_refl _)) (by simp) (fun v hv => by rw [List.mem_singleton] at hv; subst hv; exact hml)
    rw [ek] at h
    exact h.mono fun e w' ⟨bx, bm, h1, h2, h3⟩ => ⟨bx, bm, h1, h2, hb0.trans (h3.mono hb0.size)⟩
  have F : Hid (∀ (u : World) (B bx bm : Nat), HasAt u B bx bm (keysX m) → Below w.heap.size w u → Calls Try.prog 18 #[.slice ao l.length cap, .int .i64 now, .int .i64 g, .slice (some ⟨u.heap.size, 0, none⟩) 1 1] (u.alloc (.cells #[.func (.func 27) #[] #[.pointer (some ⟨bx, 0, none⟩)]] 52)) fun e w' => ∃ ao' cap', e = .returned (.slice ao' (kpt (goesX (keysX m) now g) (nrm l)).length cap') ∧ XSees w' ao' (kpt (goesX (keysX m) now g) (nrm l)) ∧ Below u.heap.size u w') := fun u B bx bm hH hu => by
    have hb : Below u.heap.size u (u.alloc (.cells #[.func (.func 27) #[] #[.pointer (some ⟨bx, 0, none⟩)]] 52)) := (Below.refl _ _).alloc (Nat.le_refl _) _
    have h := forget_any ao l cap (some ⟨u.heap.size, 0, none⟩) [quK bx (keysX m)] 1 now g (fun _ => True) (u.alloc (.cells #[.func (.func 27) #[] #[.pointer (some ⟨bx, 0, none⟩)]] 52)) (hs.below (hu.trans (hb.mono hu.size)) (Nat.le_refl _)) (qsees_one u (quK bx (keysX m)) _)
      (fun q hq => by rw [List.mem_singleton] at hq; subst hq; exact quK_ok (hH.below hb) _) hl (by simp) (fun c h => ⟨hc c h, trivial⟩) hn hg
    rw [goes_one] at h
    refine h.mono ?_
    rintro e w' ⟨a, c, h1, h2, h3⟩
    exact ⟨a, c, h1, h2, hb.trans (h3.mono hb.size)⟩
  generalize kpt (goesX (keysX m) now g) (nrm l) = k at *
  clear hs hm hc hn hg ek
  go_enter Try.func16, Try.ntmps16
  go_wp2_with fail
  refine H.out.mono ?_
  rintro e u ⟨bx, bm, rfl, hH, hu⟩
  have F2 := F.out u _ bx bm hH hu
  have F3 : Hid (Calls Try.prog 18 #[.slice ao l.length cap, .int .i64 now, .int .i64 g, .slice (some ⟨u.heap.size, 0, none⟩) 1 1] (u.alloc (.cells #[.func (.func 27) #[] #[.pointer (some ⟨bx, 0, none⟩)]] 52)) fun e w' => ∃ ao' cap', e = .returned (.slice ao' k.length cap') ∧ XSees w' ao' k ∧ Below u.heap.size u w') := F2
  clear F2 F hH H hb0
  go_wp2_with fail
  go_loopw [11, 20] (fun s11 s20 wr => s11 = .slice (some ⟨u.heap.size, 0, none⟩) 1 1 ∧ s20 = .int .i64 0 ∧ wr = u.alloc (.cells #[.func (.func 27) #[] #[.pointer (some ⟨bx, 0, none⟩)]] 52)) (fun _ _ _ => 0)
  case atStart => exact ⟨rfl, rfl, rfl⟩
  case round =>
    obtain ⟨rfl, rfl, rfl⟩ := hrel
    go_wp2_with fail
    refine F3.out.mono ?_
    rintro e u2 ⟨a2, c2, rfl, hx2, hb2⟩
    go_wp2_with fail
    go_ret
    exact ⟨a2, c2, rfl, hx2, hu.trans (hb2.mono hu.size)⟩
end Go.Proofs.Ytkdeaogmifhnhaa

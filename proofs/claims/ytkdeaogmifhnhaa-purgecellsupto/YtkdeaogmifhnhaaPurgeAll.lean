/-
  SEVERAL TEXTS IN ONE: PrgCells, PrgLives, PrgFew, PrgRef.
-/
import Derived.Test.YtkdeaogmifhnhaaPrgAsk
import Derived.Test.YtkdeaogmifhnhaaPrgHas
import Derived.Test.YtkdeaogmifhnhaaMrgMore
import Derived.Test.YtkdeaogmifhnhaaCxRefMore
import Derived.Shelf.Abstract
import Derived.Test.YtkdeaogmifhnhaaCxRow
import Derived.Test.YtkdeaogmifhnhaaMrgLow
import Derived.Test.YtkdeaogmifhnhaaFarAll
namespace Go.Proofs.Ytkdeaogmifhnhaa
open Go.RowKit

set_option maxRecDepth 100000 in
set_option maxHeartbeats 1000000 in
theorem forget_any (ao : Option Addr) (l : List Cx) (cap : Nat) (qo : Option Addr) (qs : List Qu) (qcap : Nat) (now g : Int) (K : Kb → Prop) (w : World) (hs : XSees w ao l) (hq0 : QSees w qo qs) (hq : ∀ q ∈ qs, q.Ok w K) (hl : l.length ≤ 1000000) (hql : qs.length ≤ 1000000)
    (hc : ∀ c ∈ l, InI c.v.loc ∧ K c.k) (hn : InI now) (hg : InI g) :
    Calls Try.prog 18 #[.slice ao l.length cap, .int .i64 now, .int .i64 g, .slice qo qs.length qcap] w fun e w' => ∃ ao' cap', e = .returned (.slice ao' (kpt (goesC qs now g) (nrm l)).length cap') ∧ XSees w' ao' (kpt (goesC qs now g) (nrm l)) ∧ Below w.heap.size w w' := by
  obtain ⟨w3, hw3⟩ : ∃ w3, w3 = ((w.alloc (.cells #[.int .i64 now] 3)).alloc (.cells #[.int .i64 g] 3)).alloc (.cells #[.slice qo qs.length qcap] 56) := ⟨_, rfl⟩
  have hb : Below w.heap.size w w3 := by rw [hw3]; exact (((Below.refl _ _).alloc (Nat.le_refl _) _).alloc (by simp) _).alloc (by simp; omega) _
  have h1 : w3.cell? ⟨w.heap.size, 0, none⟩ = some (.int .i64 now) := by
    rw [hw3]
    exact Lib.cell?_alloc_some _ (Lib.cell?_alloc_some _ (by have := heap_alloc_new w (.cells #[.int .i64 now] 3); simp only [World.cell?, this]; rfl))
  have h2 : w3.cell? ⟨w.heap.size + 1, 0, none⟩ = some (.int .i64 g) := by
    rw [hw3]
    exact Lib.cell?_alloc_some _ (by have := heap_alloc_new (w.alloc (.cells #[.int .i64 now] 3)) (.cells #[.int .i64 g] 3); rw [World.size_alloc] at this; simp only [World.cell?, this]; rfl)
  have h3 : w3.cell? ⟨w.heap.size + 1 + 1, 0, none⟩ = some (.slice qo qs.length qcap) := by
    rw [hw3]
    have := heap_alloc_new ((w.alloc (.cells #[.int .i64 now] 3)).alloc (.cells #[.int .i64 g] 3)) (.cells #[.slice qo qs.length qcap] 56)
    rw [World.size_alloc, World.size_alloc] at this
    simp only [World.cell?, this]
    rfl
  have hx3 : XSees w3 ao l := hs.below hb (Nat.le_refl _)
  have N : Hid (Calls Try.prog 24 #[.slice ao l.length cap] w3 fun e w' => ∃ v, e = .returned v ∧ w'.ownsRow w3.heap.size 35 10 v (nrm l).length ((nrm l).flatMap xs10) ∧ Below w3.heap.size w3 w') :=
    norm_any ao l cap w3 hx3 (fun e => by
      cases l with
      | nil => rfl
      | cons c r => obtain ⟨b, o, e2, _⟩ := hs 0 c rfl; rw [e] at e2; cases e2) hl
  have D : Hid (∀ (v : Value) (u : World), Below w3.heap.size w3 u → u.ownsRow w3.heap.size 35 10 v (nrm l).length ((nrm l).flatMap xs10) →
      Calls Try.prog 23 #[v, .func (.func 25) #[] #[.pointer (some ⟨w.heap.size, 0, none⟩), .pointer (some ⟨w.heap.size + 1, 0, none⟩), .pointer (some ⟨w.heap.size + 1 + 1, 0, none⟩)]] u fun e w' => ∃ ao cap, e = .returned (.slice ao (kpt (goesC qs now g) (nrm l)).length cap) ∧ XSees w' ao (kpt (goesC qs now g) (nrm l)) ∧ Below w3.heap.size u w') := fun v u hu ho => by
    refine delete_any w3.heap.size v (nrm l) u (goesC qs now g) _ ho hu.size (Nat.le_trans (nrm_len l) hl) (fun u2 c hcm hu2 => ?_)
    have hu3 : Below w3.heap.size w3 u2 := hu.trans hu2
    have hbu := hb.trans (hu3.mono hb.size)
    have hcl := hc c (nrm_mem hcm)
    exact forget1_any qo qs qcap w.heap.size (w.heap.size + 1) (w.heap.size + 1 + 1) now g c K u2 (hq0.below hbu (Nat.le_refl _)) (fun q h => (hq q h).below hbu) hcl.2 hql hcl.1 hn hg
      ((hu3.cell (World.block_lt_of_cell? _ _ h1)).trans h1) ((hu3.cell (World.block_lt_of_cell? _ _ h2)).trans h2) ((hu3.cell (World.block_lt_of_cell? _ _ h3)).trans h3)
  have HB : Hid (Below w.heap.size w w3) := hb
  generalize kpt (goesC qs now g) (nrm l) = k at *
  clear hb h1 h2 h3 hx3 hs hq0 hq hc hn hg
  go_enter Try.func18, Try.ntmps18
  go_wp2_with fail
  rw [← hw3]
  clear hw3
  refine N.out.mono ?_
  rintro e u ⟨v, rfl, ho, hu⟩
  obtain ⟨va, vc, hv⟩ : ∃ va vc, v = .slice va (nrm l).length vc := by
    obtain ⟨a, c, h, _⟩ := owns_xsees ho
    exact ⟨a, c, h⟩
  have D2 := D.out v u hu ho
  rw [hv] at D2 ⊢
  have D3 : Hid (Calls Try.prog 23 #[.slice va (nrm l).length vc, .func (.func 25) #[] #[.pointer (some ⟨w.heap.size, 0, none⟩), .pointer (some ⟨w.heap.size + 1, 0, none⟩), .pointer (some ⟨w.heap.size + 1 + 1, 0, none⟩)]] u fun e w' => ∃ ao cap, e = .returned (.slice ao k.length cap) ∧ XSees w' ao k ∧ Below w3.heap.size u w') := D2
  have HU : Hid (Below w.heap.size w u) := HB.out.trans (hu.mono HB.out.size)
  clear D2 D N ho hu hv
  generalize (nrm l).length = n at *
  go_wp2_with fail
  refine D3.out.mono ?_
  rintro e u2 ⟨a2, c2, rfl, hx2, hb2⟩
  go_wp2_with fail
  go_ret
  exact ⟨a2, c2, rfl, hx2, HU.out.trans (hb2.mono HB.out.size)⟩
/-- The question that hasKey makes. -/
def quK (bx : Nat) (S : List Kb) : Qu := ⟨.func (.func 27) #[] #[.pointer (some ⟨bx, 0, none⟩)], hasK S⟩
theorem quK_ok {w : World} {B bx bm : Nat} {S : List Kb} (h : HasAt w B bx bm S) (K : Kb → Prop) : (quK bx S).Ok w K :=
  ⟨27, #[], #[.pointer (some ⟨bx, 0, none⟩)], rfl, enters_of Try.func27 (by kernel_rfl) rfl, fun u k hu _ => by
    have h2 := h.below hu
    exact hasKey1_any bx bm S k u h2.box h2.map⟩
/-- What goes beside other keys. -/
def goesX (S : List Kb) (now g : Int) (c : Cx) : Bool := oldV c.v now g && !hasK S c.k
theorem goes_one (bx : Nat) (S : List Kb) (now g : Int) : goesC [quK bx S] now g = goesX S now g := by
  funext c
  unfold goesC goesX quK
  simp
theorem qsees_one (u : World) (q : Qu) (ty : TypeId) : QSees (u.alloc (.cells #[q.v] ty)) (some ⟨u.heap.size, 0, none⟩) [q] := fun i x hx => by
  have hi : i = 0 := by have := (List.getElem?_eq_some_iff.1 hx).1; simp at this; exact this
  subst hi
  obtain rfl := Option.some.inj hx
  have hg := heap_alloc_new u (.cells #[q.v] ty)
  exact ⟨u.heap.size, 0, rfl, by simp only [World.cell?, hg]; rfl⟩
set_option maxRecDepth 100000 in
set_option maxHeartbeats 1000000 in
theorem cellsP_any (ao : Option Addr) (l : List Cx) (cap : Nat) (lo : Option Addr) (vs : List Lv) (lcap : Nat) (now g : Int) (w : World) (hs : XSees w ao l) (hls : LSees w lo vs) (hin : ∀ v ∈ vs, XSees w v.ao v.l) (hl : l.length ≤ 1000000) (hvl : vs.length ≤ 1048576) (hll : ∀ v ∈ vs, v.l.length ≤ 1048576)
    (hc : ∀ c ∈ l, InI c.v.loc) (hn : InI now) (hg : InI g) :
    Calls Try.prog 11 #[.slice ao l.length cap, .slice lo vs.length lcap, .int .i64 now, .int .i64 g] w fun e w' => ∃ ao' cap', e = .returned (.slice ao' (kpt (goesX (keysL vs) now g) (nrm l)).length cap') ∧ XSees w' ao' (kpt (goesX (keysL vs) now g) (nrm l)) ∧ Below w.heap.size w w' := by
  have H : Hid (Calls Try.prog 19 #[.slice lo vs.length lcap] w fun e w' => ∃ bx bm, e = .returned (.func (.func 27) #[] #[.pointer (some ⟨bx, 0, none⟩)]) ∧ HasAt w' w.heap.size bx bm (keysL vs) ∧ Below w.heap.size w w') := hasKey_any lo vs lcap w hls hin hvl hll
  have F : Hid (∀ (u : World) (bx bm : Nat), HasAt u w.heap.size bx bm (keysL vs) → Below w.heap.size w u → Calls Try.prog 18 #[.slice ao l.length cap, .int .i64 now, .int .i64 g, .slice (some ⟨u.heap.size, 0, none⟩) 1 1] (u.alloc (.cells #[.func (.func 27) #[] #[.pointer (some ⟨bx, 0, none⟩)]] 52)) fun e w' => ∃ ao' cap', e = .returned (.slice ao' (kpt (goesX (keysL vs) now g) (nrm l)).length cap') ∧ XSees w' ao' (kpt (goesX (keysL vs) now g) (nrm l)) ∧ Below u.heap.size u w') := fun u bx bm hH hu => by
    have hb : Below u.heap.size u (u.alloc (.cells #[.func (.func 27) #[] #[.pointer (some ⟨bx, 0, none⟩)]] 52)) := (Below.refl _ _).alloc (Nat.le_refl _) _
    have h := forget_any ao l cap (some ⟨u.heap.size, 0, none⟩) [quK bx (keysL vs)] 1 now g (fun _ => True) (u.alloc (.cells #[.func (.func 27) #[] #[.pointer (some ⟨bx, 0, none⟩)]] 52)) (hs.below (hu.trans (hb.mono hu.size)) (Nat.le_refl _)) (qsees_one u (quK bx (keysL vs)) _)
      (fun q hq => by rw [List.mem_singleton] at hq; subst hq; exact quK_ok (hH.below hb) _) hl (by simp) (fun c h => ⟨hc c h, trivial⟩) hn hg
    rw [goes_one] at h
    refine h.mono ?_
    rintro e w' ⟨a, c, h1, h2, h3⟩
    exact ⟨a, c, h1, h2, hb.trans (h3.mono hb.size)⟩
  generalize kpt (goesX (keysL vs) now g) (nrm l) = k at *
  clear hs hls hin hc hn hg
  go_enter Try.func11, Try.ntmps11
  go_wp2_with fail
  refine H.out.mono ?_
  rintro e u ⟨bx, bm, rfl, hH, hu⟩
  have F2 := F.out u bx bm hH hu
  have F3 : Hid (Calls Try.prog 18 #[.slice ao l.length cap, .int .i64 now, .int .i64 g, .slice (some ⟨u.heap.size, 0, none⟩) 1 1] (u.alloc (.cells #[.func (.func 27) #[] #[.pointer (some ⟨bx, 0, none⟩)]] 52)) fun e w' => ∃ ao' cap', e = .returned (.slice ao' k.length cap') ∧ XSees w' ao' k ∧ Below u.heap.size u w') := F2
  clear F2 F hH
  go_wp2_with fail
  refine F3.out.mono ?_
  rintro e u2 ⟨a2, c2, rfl, hx2, hb2⟩
  go_wp2_with fail
  go_ret
  exact ⟨a2, c2, rfl, hx2, hu.trans (hb2.mono hu.size)⟩
theorem lsees_one (u : World) (x : Lv) (ty : TypeId) : LSees (u.alloc (.cells #[x.s] ty)) (some ⟨u.heap.size, 0, none⟩) [x] := fun i y hy => by
  have hi : i = 0 := by have := (List.getElem?_eq_some_iff.1 hy).1; simp at this; exact this
  subst hi
  obtain rfl := Option.some.inj hy
  have hg := heap_alloc_new u (.cells #[x.s] ty)
  exact ⟨u.heap.size, 0, rfl, by simp only [World.cell?, hg]; rfl⟩
set_option maxRecDepth 100000 in
set_option maxHeartbeats 1000000 in
/-- Table beside no tables. -/
theorem table0_any (ao : Option Addr) (l : List Cx) (cap : Nat) (tb mo : Option Addr) (m : List Cx) (tcap mcap : Nat) (now g : Int) (w : World) (hs : XSees w ao l) (hm : XSees w mo m) (hl : l.length ≤ 1000000) (hml : m.length ≤ 1048576)
    (hc : ∀ c ∈ l, InI c.v.loc) (hn : InI now) (hg : InI g) :
    Calls Try.prog 16 #[.slice ao l.length cap, .slice tb 0 tcap, .slice mo m.length mcap, .int .i64 now, .int .i64 g] w fun e w' => ∃ ao' cap', e = .returned (.slice ao' (kpt (goesX (keysX m) now g) (nrm l)).length cap') ∧ XSees w' ao' (kpt (goesX (keysX m) now g) (nrm l)) ∧ Below w.heap.size w w' := by
  have hb0 : Below w.heap.size w (w.alloc (.cells #[.slice mo m.length mcap] 22)) := (Below.refl _ _).alloc (Nat.le_refl _) _
  have ek : keysL [⟨mo, mcap, m⟩] = keysX m := by unfold keysL; simp
  have H : Hid (Calls Try.prog 19 #[.slice (some ⟨w.heap.size, 0, none⟩) 1 1] (w.alloc (.cells #[.slice mo m.length mcap] 22)) fun e w' => ∃ bx bm, e = .returned (.func (.func 27) #[] #[.pointer (some ⟨bx, 0, none⟩)]) ∧ HasAt w' (w.alloc (.cells #[.slice mo m.length mcap] 22)).heap.size bx bm (keysX m) ∧ Below w.heap.size w w') := by
    have h := hasKey_any (some ⟨w.heap.size, 0, none⟩) [⟨mo, mcap, m⟩] 1 (w.alloc (.cells #[.slice mo m.length mcap] 22)) (lsees_one w ⟨mo, mcap, m⟩ _) (fun v hv => by rw [List.mem_singleton] at hv; subst hv; exact hm.below hb0 (Nat.le_refl _)) (by simp) (fun v hv => by rw [List.mem_singleton] at hv; subst hv; exact hml)
    rw [ek] at h
    exact h.mono fun e w' ⟨bx, bm, h1, h2, h3⟩ => ⟨bx, bm, h1, h2, hb0.trans (h3.mono hb0.size)⟩
  have F : Hid (∀ (u : World) (B bx bm : Nat), HasAt u B bx bm (keysX m) → Below w.heap.size w u → Calls Try.prog 18 #[.slice ao l.length cap, .int .i64 now, .int .i64 g, .slice (some ⟨u.heap.size, 0, none⟩) 1 1] (u.alloc (.cells #[.func (.func 27) #[] #[.pointer (some ⟨bx, 0, none⟩)]] 52)) fun e w' => ∃ ao' cap', e = .returned (.slice ao' (kpt (goesX (keysX m) now g) (nrm l)).length cap') ∧ XSees w' ao' (kpt (goesX (keysX m) now g) (nrm l)) ∧ Below u.heap.size u w') := fun u B bx bm hH hu => by
    have hb : Below u.heap.size u (u.alloc (.cells #[.func (.func 27) #[] #[.pointer (some ⟨bx, 0, none⟩)]] 52)) := (Below.refl _ _).alloc (Nat.le_refl _) _
    have h := forget_any ao l cap (some ⟨u.heap.size, 0, none⟩) [quK bx (keysX m)] 1 now g (fun _ => True) (u.alloc (.cells #[.func (.func 27) #[] #[.pointer (some ⟨bx, 0, none⟩)]] 52)) (hs.below (hu.trans (hb.mono hu.size)) (Nat.le_refl _)) (qsees_one u (quK bx (keysX m)) _)
      (fun q hq => by rw [List.mem_singleton] at hq; subst hq; exact quK_ok (hH.below hb) _) hl (by simp) (fun c h => ⟨hc c h, trivial⟩) hn hg
    rw [goes_one] at h
    refine h.mono ?_
    rintro e w' ⟨a, c, h1, h2, h3⟩
    exact ⟨a, c, h1, h2, hb.trans (h3.mono hb.size)⟩
  generalize kpt (goesX (keysX m) now g) (nrm l) = k at *
  clear hs hm hc hn hg ek
  go_enter Try.func16, Try.ntmps16
  go_wp2_with fail
  refine H.out.mono ?_
  rintro e u ⟨bx, bm, rfl, hH, hu⟩
  have F2 := F.out u _ bx bm hH hu
  have F3 : Hid (Calls Try.prog 18 #[.slice ao l.length cap, .int .i64 now, .int .i64 g, .slice (some ⟨u.heap.size, 0, none⟩) 1 1] (u.alloc (.cells #[.func (.func 27) #[] #[.pointer (some ⟨bx, 0, none⟩)]] 52)) fun e w' => ∃ ao' cap', e = .returned (.slice ao' k.length cap') ∧ XSees w' ao' k ∧ Below u.heap.size u w') := F2
  clear F2 F hH H hb0
  go_wp2_with fail
  go_loopw [11, 20] (fun s11 s20 wr => s11 = .slice (some ⟨u.heap.size, 0, none⟩) 1 1 ∧ s20 = .int .i64 0 ∧ wr = u.alloc (.cells #[.func (.func 27) #[] #[.pointer (some ⟨bx, 0, none⟩)]] 52)) (fun _ _ _ => 0)
  case atStart => exact ⟨rfl, rfl, rfl⟩
  case round =>
    obtain ⟨rfl, rfl, rfl⟩ := hrel
    go_wp2_with fail
    refine F3.out.mono ?_
    rintro e u2 ⟨a2, c2, rfl, hx2, hb2⟩
    go_wp2_with fail
    go_ret
    exact ⟨a2, c2, rfl, hx2, hu.trans (hb2.mono hu.size)⟩
end Go.Proofs.Ytkdeaogmifhnhaa
namespace Go.Proofs.Ytkdeaogmifhnhaa
open Go.RowKit

def dead11 (col : ByteArray) (n : Int) : Cx := ⟨⟨⟨#[116]⟩, ⟨#[120]⟩, 0, col⟩, ⟨1, true, n, 0, 0, ⟨#[]⟩⟩⟩
set_option maxRecDepth 100000 in
theorem dead11_any (s : ByteArray) (n : Int) (w : World) : Calls Try.prog 15 #[.string s, .int .i64 n] w fun x w' => x = .returned (dead11 s n).val ∧ Below w.heap.size w w' := by
  simp only [dead11, Cx.val, Cx.a]
  go_enter Try.func15, Try.ntmps15
  go_wp2_with fail
  refine bodyPost_ret (v := .agg #[.string ⟨#[116]⟩, .string ⟨#[120]⟩, .int .i64 0, .string s, .int .i64 1, .bool true, .int .i64 n, .int .i64 0, .int .i64 0, .string ⟨#[]⟩]) (results_cell_row Try.results15 _ _ w.heap.size 35 _ _ _ rfl (by exact heap_alloc_new w _) Try.underlying35 rfl (by kernel_rfl)) rfl ?_
  exact ⟨rfl, (Below.refl _ _).alloc (Nat.le_refl _) _⟩
def dA : Cx := dead11 ⟨#[97]⟩ 5
theorem dA_nrm : nrm [dA] = [dA] := by kernel_rfl
theorem dA_old : oldV dA.v 15 10 = true := by decide
theorem dA_young : oldV dA.v 14 10 = false := by decide
theorem dA_in : InI dA.v.loc := by unfold InI; decide
theorem kpt1 : kpt (goesX (keysL []) 15 10) (nrm [dA]) = [] := by
  have h : goesX (keysL []) 15 10 dA = true := by unfold goesX; rw [dA_old]; rfl
  rw [dA_nrm]
  simp [kpt, h]
theorem kpt2 (v : Lv) (hv : v.l = [dA]) : kpt (goesX (keysL [v]) 15 10) (nrm [dA]) = [dA] := by
  have h : goesX (keysL [v]) 15 10 dA = false := by
    have hk : hasK (keysL [v]) dA.k = true := by rw [hasK_iff]; unfold keysL keysX; simp [hv]
    unfold goesX
    rw [hk]
    simp
  rw [dA_nrm]
  simp [kpt, h]
theorem kpt3 : kpt (goesX (keysX []) 14 10) (nrm [dA]) = [dA] := by
  have h : goesX (keysX []) 14 10 dA = false := by unfold goesX; rw [dA_young]; rfl
  rw [dA_nrm]
  simp [kpt, h]
theorem xsees_one (w : World) (c : Cx) (ty : TypeId) : XSees (w.alloc (.cells c.a ty)) (some ⟨w.heap.size, 0, none⟩) [c] := fun i x hx => by
  have hi : i = 0 := by have := (List.getElem?_eq_some_iff.1 hx).1; simp at this; exact this
  subst hi
  obtain rfl := Option.some.inj hx
  exact ⟨w.heap.size, 0, rfl, by simpa using TenX.new w c ty⟩
set_option maxRecDepth 100000 in
set_option maxHeartbeats 2000000 in
theorem lives11_any (w : World) : Calls Try.prog 7 #[] w fun e w' => e = .returned (.bool true) ∧ Below w.heap.size w w' := by
  have AT : Hid (∀ (s : ByteArray) (n : Int) (w : World), Calls Try.prog 15 #[.string s, .int .i64 n] w fun x w' => x = .returned (.agg #[.string ⟨#[116]⟩, .string ⟨#[120]⟩, .int .i64 0, .string s, .int .i64 1, .bool true, .int .i64 n, .int .i64 0, .int .i64 0, .string ⟨#[]⟩]) ∧ Below w.heap.size w w') := dead11_any
  have O1 : Hid (∀ u : World, Calls Try.prog 8 #[.agg #[.int .i64 1, .bool true, .int .i64 5, .int .i64 0, .int .i64 0, .string ⟨#[]⟩], .int .i64 15, .int .i64 10] u fun x w' => x = .returned (.bool true) ∧ Below u.heap.size u w') := fun u => dA_old ▸ old_any dA.v 15 10 u dA_in (by unfold InI; decide) (by unfold InI; decide)
  have O2 : Hid (∀ u : World, Calls Try.prog 8 #[.agg #[.int .i64 1, .bool true, .int .i64 5, .int .i64 0, .int .i64 0, .string ⟨#[]⟩], .int .i64 14, .int .i64 10] u fun x w' => x = .returned (.bool false) ∧ Below u.heap.size u w') := fun u => dA_young ▸ old_any dA.v 14 10 u dA_in (by unfold InI; decide) (by unfold InI; decide)
  have hcl : ∀ c ∈ [dA], InI c.v.loc := fun c hc => by rw [List.mem_singleton] at hc; subst hc; exact dA_in
  have C1 : Hid (∀ (u : World) (b : Nat), XSees u (some ⟨b, 0, none⟩) [dA] → Calls Try.prog 11 #[.slice (some ⟨b, 0, none⟩) 1 1, .slice none 0 0, .int .i64 15, .int .i64 10] u fun e w' => (∃ ao' cap', e = .returned (.slice ao' 0 cap')) ∧ Below u.heap.size u w') := fun u b hx => by
    have h := cellsP_any (some ⟨b, 0, none⟩) [dA] 1 none [] 0 15 10 u hx (fun i v hv => by simp at hv) (fun v hv => by cases hv) (by simp) (by simp) (fun v hv => by cases hv) hcl (by unfold InI; decide) (by unfold InI; decide)
    rw [kpt1] at h
    exact h.mono fun e w' ⟨a, c, h1, _, h3⟩ => ⟨⟨a, c, h1⟩, h3⟩
  have C2 : Hid (∀ (u : World) (b : Nat), XSees u (some ⟨b, 0, none⟩) [dA] → Calls Try.prog 11 #[.slice (some ⟨b, 0, none⟩) 1 1, .slice (some ⟨u.heap.size, 0, none⟩) 1 1, .int .i64 15, .int .i64 10] (u.alloc (.cells #[.slice (some ⟨b, 0, none⟩) 1 1] 22)) fun e w' => (∃ ao' cap', e = .returned (.slice ao' 1 cap')) ∧ Below u.heap.size u w') := fun u b hx => by
    have hb : Below u.heap.size u (u.alloc (.cells #[.slice (some ⟨b, 0, none⟩) 1 1] 22)) := (Below.refl _ _).alloc (Nat.le_refl _) _
    have hx2 := hx.below hb (Nat.le_refl _)
    have h := cellsP_any (some ⟨b, 0, none⟩) [dA] 1 (some ⟨u.heap.size, 0, none⟩) [⟨some ⟨b, 0, none⟩, 1, [dA]⟩] 1 15 10 (u.alloc (.cells #[.slice (some ⟨b, 0, none⟩) 1 1] 22)) hx2 (lsees_one u ⟨some ⟨b, 0, none⟩, 1, [dA]⟩ _) (fun v hv => by rw [List.mem_singleton] at hv; subst hv; exact hx2) (by simp) (by simp) (fun v hv => by rw [List.mem_singleton] at hv; subst hv; simp) hcl (by unfold InI; decide) (by unfold InI; decide)
    rw [kpt2 _ rfl] at h
    exact h.mono fun e w' ⟨a, c, h1, _, h3⟩ => ⟨⟨a, c, h1⟩, hb.trans (h3.mono hb.size)⟩
  have C3 : Hid (∀ (u : World) (b : Nat), XSees u (some ⟨b, 0, none⟩) [dA] → Calls Try.prog 16 #[.slice (some ⟨b, 0, none⟩) 1 1, .slice none 0 0, .slice none 0 0, .int .i64 14, .int .i64 10] u fun e w' => (∃ ao' cap', e = .returned (.slice ao' 1 cap')) ∧ Below u.heap.size u w') := fun u b hx => by
    have h := table0_any (some ⟨b, 0, none⟩) [dA] 1 none none [] 0 0 14 10 u hx (fun i v hv => by simp at hv) (by simp) (by simp) hcl (by unfold InI; decide) (by unfold InI; decide)
    rw [kpt3] at h
    exact h.mono fun e w' ⟨a, c, h1, _, h3⟩ => ⟨⟨a, c, h1⟩, h3⟩
  clear hcl
  go_enter Try.func7, Try.ntmps7
  go_wp2_with fail
  refine (AT.out _ _ _).mono ?_
  rintro e u1 ⟨rfl, b1⟩
  have hx : XSees (u1.alloc (.cells #[.string ⟨#[116]⟩, .string ⟨#[120]⟩, .int .i64 0, .string ⟨#[97]⟩, .int .i64 1, .bool true, .int .i64 5, .int .i64 0, .int .i64 0, .string ⟨#[]⟩] 35)) (some ⟨u1.heap.size, 0, none⟩) [dA] := xsees_one u1 dA _
  have hB : Below w.heap.size w (u1.alloc (.cells #[.string ⟨#[116]⟩, .string ⟨#[120]⟩, .int .i64 0, .string ⟨#[97]⟩, .int .i64 1, .bool true, .int .i64 5, .int .i64 0, .int .i64 0, .string ⟨#[]⟩] 35)) := b1.alloc b1.size _
  go_wp2_with fail
  obtain ⟨wa, hwa⟩ : ∃ wa, wa = u1.alloc (.cells #[.string ⟨#[116]⟩, .string ⟨#[120]⟩, .int .i64 0, .string ⟨#[97]⟩, .int .i64 1, .bool true, .int .i64 5, .int .i64 0, .int .i64 0, .string ⟨#[]⟩] 35) := ⟨_, rfl⟩
  rw [← hwa] at hx hB ⊢
  clear hwa b1
  have HT : Hid (∀ u, Below wa.heap.size wa u → XSees u (some ⟨u1.heap.size, 0, none⟩) [dA] ∧ TenX u u1.heap.size 0 dA) := fun u hu => by
    have h := hx.below hu (Nat.le_refl _)
    refine ⟨h, ?_⟩
    obtain ⟨b, o, e, t⟩ := h 0 dA rfl
    cases e
    simpa using t
  refine (O1.out _).mono ?_
  rintro e u2 ⟨rfl, h2⟩
  obtain ⟨-, t2⟩ := HT.out u2 h2
  obtain ⟨k0, k1, k2, k3, k4, k5, k6, k7, k8, k9⟩ := t2
  simp only [dA, dead11, Nat.zero_add] at k0 k1 k2 k3 k4 k5 k6 k7 k8 k9
  go_wp2_with fail
  refine (O2.out _).mono ?_
  rintro e u3 ⟨rfl, h3⟩
  clear k0 k1 k2 k3 k4 k5 k6 k7 k8 k9
  have b3 : Below wa.heap.size wa u3 := h2.trans (h3.mono h2.size)
  clear h2 h3
  go_wp2_with fail
  refine (C1.out _ _ (HT.out u3 b3).1).mono ?_
  rintro e u4 ⟨⟨a4, c4, rfl⟩, h4⟩
  have b4 := b3.trans (h4.mono b3.size)
  clear h4 b3
  go_wp2_with fail
  refine (C2.out _ _ (HT.out u4 b4).1).mono ?_
  rintro e u5 ⟨⟨a5, c5, rfl⟩, h5⟩
  have b5 := b4.trans (h5.mono b4.size)
  clear h5 b4
  go_wp2_with fail
  refine (C3.out _ _ (HT.out u5 b5).1).mono ?_
  rintro e u6 ⟨⟨a6, c6, rfl⟩, h6⟩
  have b6 := b5.trans (h6.mono b5.size)
  clear h6 b5
  go_wp2_with fail
  go_ret
  exact ⟨rfl, hB.trans (b6.mono hB.size)⟩
end Go.Proofs.Ytkdeaogmifhnhaa
namespace Go.Proofs.Ytkdeaogmifhnhaa
open Go.RowKit

set_option maxRecDepth 100000 in
set_option maxHeartbeats 1600000 in
theorem weigh11_any (ao : Option Addr) (l : List Cx) (cap m : Nat) (w : World) (ha : XSees w ao l) (hm : m ≤ 500) (hl : l.length ≤ 140737488355328) (hw : ∀ c ∈ l, wtX c ≤ 562949953421312) :
    Calls Try.prog 14 #[.slice ao l.length cap, .int .i64 m] w fun e w' => (∃ z : Nat, e = .returned (.int .i64 z) ∧ z ≤ 1000000000000000 ∧ (z ≤ m → l.length ≤ m ∧ wtXs l ≤ 20 * m)) ∧ Below w.heap.size w w' := by
  go_enter Try.func14, Try.ntmps14
  go_wp2
  go_loopw [5, 10] (fun s5 s10 wr => ∃ i z : Nat, i ≤ l.length ∧ s5 = .int .i64 z ∧ s10 = .int .i64 i ∧ i ≤ z ∧ z ≤ m ∧ wtXs (l.take i) ≤ 20 * z ∧ Below w.heap.size w wr) (fun _ s10 _ => l.length - (intOf s10).toNat)
  case atStart => exact ⟨0, 0, by omega, rfl, rfl, by omega, by omega, by simp [wtXs], Below.refl _ _⟩
  case round =>
    obtain ⟨i, z, hi, rfl, rfl, hiz, hz, hwz, hbr⟩ := hrel
    rcases Nat.lt_or_ge i l.length with hlt | hge
    · have hc : l[i]? = some l[i] := List.getElem?_eq_getElem hlt
      have hcw := hw l[i] (List.getElem_mem hlt)
      have hst : wtXs (l.take (i + 1)) = wtXs (l.take i) + wtX l[i] := by
        rw [takeX_succ hc]
        unfold wtXs
        rw [List.map_append, List.sum_append]
        simp
      obtain ⟨b1, o1, rfl, h1⟩ := (ha.below hbr (Nat.le_refl _)) i _ hc
      generalize l[i] = c at *
      obtain ⟨⟨table, part, row, col⟩, ⟨time, dead, loc, kind, num, s⟩⟩ := c
      obtain ⟨k0, k1, k2, k3, k4, k5, k6, k7, k8, k9⟩ := h1
      simp only at k0 k1 k2 k3 k4 k5 k6 k7 k8 k9
      unfold wtX at hcw hst
      simp only at hcw hst
      have hb2 : Below w.heap.size w (wr.alloc (.cells (Cx.a ⟨⟨table, part, row, col⟩, ⟨time, dead, loc, kind, num, s⟩⟩) 35)) := hbr.alloc hbr.size _
      have Hst : Hid (wtXs (l.take (i + 1)) = wtXs (l.take i) + (table.size + part.size + col.size + s.size)) := hst
      clear hc ha hst hw
      have hsum : (table.size : Int) + part.size + col.size + s.size ≤ 562949953421312 := by omega
      by_cases hbig : z + (1 + (table.size + part.size + col.size + s.size) / 20) ≤ m
      · have hq : ¬ ((m : Int) < (z : Int) + (1 + ((table.size : Int) + part.size + col.size + s.size) / 20)) := by omega
        go_wp2
        go_roundw
        case rel =>
          refine ⟨i + 1, z + (1 + (table.size + part.size + col.size + s.size) / 20), by omega, ?_, by go_num, by omega, hbig, ?_, hb2⟩
          · congr 1
          · rw [Hst.out]
            omega
        case measure => simp [intOf]; omega
      · have hq : ((m : Int) < (z : Int) + (1 + ((table.size : Int) + part.size + col.size + s.size) / 20)) := by omega
        go_wp2
        go_ret
        refine ⟨⟨z + (1 + (table.size + part.size + col.size + s.size) / 20), ret_int (by omega), by omega, fun h => absurd h hbig⟩, hb2⟩
    · obtain rfl : i = l.length := by omega
      rw [List.take_length] at hwz
      clear ha hw
      go_wp2
      go_ret
      exact ⟨⟨z, rfl, by omega, fun _ => ⟨by omega, by omega⟩⟩, hbr⟩
set_option maxRecDepth 100000 in
set_option maxHeartbeats 1000000 in
theorem few11_any (lo : Option Addr) (vs : List Lv) (lcap : Nat) (w : World) (hs : LSees w lo vs) (hin : ∀ v ∈ vs, XSees w v.ao v.l) (hl : vs.length ≤ 2000000) (hll : ∀ v ∈ vs, v.l.length ≤ 1048576 ∧ ∀ c ∈ v.l, wtX c ≤ 562949953421312) :
    Calls Try.prog 6 #[.slice lo vs.length lcap] w fun e w' => (∃ b, e = .returned (.bool b) ∧ (b = true → vs.length ≤ 300)) ∧ Below w.heap.size w w' := by
  have hlz : (vs.length : Int) ≤ 2000000 := by omega
  go_enter Try.func6, Try.ntmps6
  go_wp2_with fail
  go_loopw [3, 8] (fun s3 s8 wr => ∃ i z : Nat, i ≤ vs.length ∧ s3 = .int .i64 z ∧ s8 = .int .i64 i ∧ i ≤ z ∧ z ≤ 300 ∧ Below w.heap.size w wr) (fun _ s8 _ => vs.length - (intOf s8).toNat)
  case atStart => exact ⟨0, 0, by omega, rfl, rfl, by omega, by omega, Below.refl _ _⟩
  case round =>
    obtain ⟨i, z, hi, rfl, rfl, hiz, hz, hB⟩ := hrel
    rcases Nat.lt_or_ge i vs.length with hlt | hge
    · obtain ⟨x, hx⟩ : ∃ x, vs[i]? = some x := ⟨_, List.getElem?_eq_getElem hlt⟩
      obtain ⟨b, off, rfl, hc⟩ := (hs.below hB (Nat.le_refl _)) i x hx
      have hxm := List.mem_of_getElem? hx
      have hkz : (i : Int) < (vs.length : Int) := by omega
      have WG : Hid (Calls Try.prog 14 #[x.s, .int .i64 200] wr fun e w' => (∃ z : Nat, e = .returned (.int .i64 z) ∧ z ≤ 1000000000000000) ∧ Below wr.heap.size wr w') :=
        (weigh11_any x.ao x.l x.cap 200 wr ((hin x hxm).below hB (Nat.le_refl _)) (by omega) (by have := (hll x hxm).1; omega) (hll x hxm).2).mono fun e w' ⟨⟨z, h1, h2, _⟩, h3⟩ => ⟨⟨z, h1, h2⟩, h3⟩
      obtain ⟨xv, hxv⟩ : ∃ xv, xv = x.s := ⟨_, rfl⟩
      rw [← hxv] at WG hc
      have hxs : ∃ xa xn xc, xv = .slice xa xn xc := ⟨_, _, _, hxv⟩
      obtain ⟨xa, xn, xc, rfl⟩ := hxs
      clear hs hin hll hx hxm hxv
      go_wp2_with fail
      refine WG.out.mono ?_
      rintro e u ⟨⟨q, rfl, hq⟩, hu⟩
      have hBu := hB.trans (hu.mono hB.size)
      have hqz : (q : Int) ≤ 1000000000000000 := by omega
      have hzz : (z : Int) ≤ 300 := by omega
      clear WG hc
      by_cases hbig : z + (1 + q) ≤ 300
      · have d1 : ¬ (300 : Int) < (z : Int) + (1 + (q : Int)) := by omega
        go_wp2_with fail
        go_roundw
        case rel => exact ⟨i + 1, z + (1 + q), by omega, by go_num, by go_num, by omega, hbig, hBu⟩
        case measure => simp [intOf]; omega
      · have d1 : (300 : Int) < (z : Int) + (1 + (q : Int)) := by omega
        go_wp2_with fail
        go_ret
        exact ⟨⟨false, rfl, fun h => by cases h⟩, hBu⟩
    · obtain rfl : i = vs.length := by omega
      have hge' : ¬ (vs.length : Int) < (vs.length : Int) := by omega
      clear hs hin hll
      go_wp2_with fail
      go_ret
      exact ⟨.inr ⟨rfl, by omega⟩, hB⟩
end Go.Proofs.Ytkdeaogmifhnhaa
namespace Go.Proofs.Ytkdeaogmifhnhaa
open Go.RowKit

theorem fnd_hasK (k : Kb) (l : List Cx) : (fnd k l).2 = hasK (keysX l) k := by
  induction l with
  | nil => rfl
  | cons c l ih =>
    by_cases h : c.k = k
    · rw [fnd_hit l h]
      have : hasK (keysX (c :: l)) k = true := hasK_iff.2 (by unfold keysX; simp [h])
      rw [this]
    · rw [fnd_miss l h, ih]
      rw [Bool.eq_iff_iff, hasK_iff, hasK_iff]
      unfold keysX
      simp only [List.map_cons, List.mem_cons]
      exact ⟨.inr, fun e => e.elim (fun e => absurd e.symm h) id⟩
theorem hasK_app (S T : List Kb) (k : Kb) : hasK (S ++ T) k = (hasK S k || hasK T k) := by unfold hasK; rw [List.any_append]
theorem hasK_take {vs : List Lv} {j : Nat} {x : Lv} (h : vs[j]? = some x) (k : Kb) : hasK (keysL (vs.take (j + 1))) k = (hasK (keysL (vs.take j)) k || (fnd k x.l).2) := by
  rw [keysL_take h, hasK_app, fnd_hasK]
theorem kpt_len (p : Cx → Bool) (l : List Cx) : (kpt p l).length ≤ l.length := List.length_filter_le _ _
set_option maxRecDepth 100000 in
set_option maxHeartbeats 2000000 in
theorem rcells_any (ao : Option Addr) (l : List Cx) (cap : Nat) (lo : Option Addr) (vs : List Lv) (lcap : Nat) (now g : Int) (w : World) (hs : XSees w ao l) (hls : LSees w lo vs) (hin : ∀ v ∈ vs, XSees w v.ao v.l) (hl : l.length ≤ 1000000) (hvl : vs.length ≤ 1048576) (hll : ∀ v ∈ vs, v.l.length ≤ 1000000)
    (hc : ∀ c ∈ l, InI c.v.loc) (hn : InI now) (hg : InI g) :
    Calls Try.prog 12 #[.slice ao l.length cap, .slice lo vs.length lcap, .int .i64 now, .int .i64 g] w fun e w' => ∃ v, e = .returned v ∧ w'.ownsRow w.heap.size 35 10 v (kpt (goesX (keysL vs) now g) (nrm l)).length ((kpt (goesX (keysL vs) now g) (nrm l)).flatMap xs10) ∧ Below w.heap.size w w' := by
  obtain ⟨i1, hi1, hy0, hy1, hy2⟩ := infoX infoCx
  have N1 : Hid (Calls Try.prog 20 #[.slice ao l.length cap] w fun e w' => ∃ v, e = .returned v ∧ w'.ownsRow w.heap.size 35 10 v (nrm l).length ((nrm l).flatMap xs10) ∧ Below w.heap.size w w') := refNorm_any ao l cap w hs hl
  have hnA := nrm_len l
  have HC : Hid (∀ c ∈ nrm l, InI c.v.loc) := fun c h => hc c (nrm_mem h)
  have HP : Hid (∀ c : Cx, goesX (keysL vs) now g c = (oldV c.v now g && !hasK (keysL vs) c.k)) := fun c => rfl
  generalize nrm l = A at *
  generalize goesX (keysL vs) now g = p at *
  have hAz : (A.length : Int) ≤ 1000000 := by omega
  have hAn : A.length ≤ 1000000 := by omega
  have hvz : (vs.length : Int) ≤ 1048576 := by omega
  have HLS : Hid (LSees w lo vs) := hls
  have HIN : Hid (∀ v ∈ vs, XSees w v.ao v.l) := hin
  have HLL : Hid (∀ v ∈ vs, v.l.length ≤ 1000000) := hll
  have RO : Hid (∀ (v : Vr) (u : World), InI v.loc → Calls Try.prog 9 #[v.v, .int .i64 now, .int .i64 g] u fun x w' => x = .returned (.bool (oldV v now g)) ∧ Below u.heap.size u w') := fun v u h => refOld_any v now g u h hn hg
  clear hs hnA hl hc hls hin hll hn hg
  go_enter Try.func12, Try.ntmps12
  go_wp2_with fail
  refine N1.out.mono ?_
  clear N1
  rintro e w2 ⟨v2, rfl, ho2, hb2⟩
  obtain ⟨ao2, ac2, rfl⟩ := ownsM_shape ho2
  have hxA := (owns_see ho2).1
  clear ho2
  have HG : Hid (Gv w2 w2 (.slice none 0 0) []) := ⟨World.ownsRow_nil _ _ _ _, Below.refl _ _⟩
  go_wp2_with fail
  go_loopw [9, 20] (fun s9 s20 wr => ∃ i : Nat, i ≤ A.length ∧ s20 = .int .i64 i ∧ Gv w2 wr s9 (kpt p (A.take i))) (fun _ s20 _ => A.length - (intOf s20).toNat)
  case atStart => exact ⟨0, by omega, by go_num, HG.out⟩
  case round =>
    clear HG
    obtain ⟨i, hi, rfl, hG⟩ := hrel
    rcases Nat.lt_or_ge i A.length with hlt | hge
    · obtain ⟨c, hc⟩ : ∃ c, A[i]? = some c := ⟨_, List.getElem?_eq_getElem hlt⟩
      obtain ⟨b, off, rfl, h1⟩ := (hxA.below hG.bel (Nat.le_refl _)) i c hc
      have hiz : (i : Int) < (A.length : Int) := by omega
      have hpl : (kpt p (A.take i)).length ≤ i := by have := kpt_len p (A.take i); simp at this; omega
      have HSTP : Hid (kpt p (A.take (i + 1)) = if p c = true then kpt p (A.take i) else kpt p (A.take i) ++ [c]) := kpt_take_succ hc
      have HGO0 : Hid (p c = (oldV c.v now g && !hasK (keysL vs) c.k)) := HP.out c
      have OL : Hid (∀ u : World, Calls Try.prog 9 #[c.v.v, .int .i64 now, .int .i64 g] u fun x w' => x = .returned (.bool (oldV c.v now g)) ∧ Below u.heap.size u w') := fun u => RO.out c.v u (HC.out c (List.mem_of_getElem? hc))
      have FD : Hid (∀ (u : World) (j : Nat) (x : Lv), vs[j]? = some x → Below w2.heap.size w2 u → Calls Try.prog 21 #[.slice x.ao x.l.length x.cap, c.k.v] u fun e w' => e = .returned (.tuple #[(fnd c.k x.l).1.v, .bool (fnd c.k x.l).2]) ∧ Below u.heap.size u w') := fun u j x hx hu =>
        refFind_any x.ao x.l x.cap c.k u ((HIN.out x (List.mem_of_getElem? hx)).below (hb2.trans (hu.mono hb2.size)) (Nat.le_refl _)) (HLL.out x (List.mem_of_getElem? hx))
      have HTK : Hid (∀ (j : Nat) (x : Lv), vs[j]? = some x → hasK (keysL (vs.take (j + 1))) c.k = (hasK (keysL (vs.take j)) c.k || (fnd c.k x.l).2)) := fun j x hx => hasK_take hx c.k
      obtain ⟨hk, hhk⟩ : ∃ hk : Nat → Bool, hk = fun j => hasK (keysL (vs.take j)) c.k := ⟨_, rfl⟩
      have HTK2 : Hid (∀ (j : Nat) (x : Lv), vs[j]? = some x → hk (j + 1) = (hk j || (fnd c.k x.l).2)) := fun j x hx => by rw [hhk]; exact HTK.out j x hx
      have HK0 : Hid (hk 0 = false) := by
        have h : hk 0 = false := by rw [hhk]; rfl
        exact h
      have HKE : Hid (hk vs.length = hasK (keysL vs) c.k) := by
        have h : hk vs.length = hasK (keysL vs) c.k := by rw [hhk]; simp
        exact h
      have HGO1 : Hid (p c = (oldV c.v now g && !hk vs.length)) := by
        have h := HGO0.out
        rw [← HKE.out] at h
        exact h
      clear hhk HTK HKE HGO0
      generalize oldV c.v now g = od at *
      obtain ⟨⟨ca, cp, cr, cc⟩, ⟨ct, cd, cl, ck, cn, cs⟩⟩ := c
      have k0 := h1.c0
      have k1 := h1.c1
      have k2 := h1.c2
      have k3 := h1.c3
      have k4 := h1.c4
      have k5 := h1.c5
      have k6 := h1.c6
      have k7 := h1.c7
      have k8 := h1.c8
      have k9 := h1.c9
      simp only at k0 k1 k2 k3 k4 k5 k6 k7 k8 k9
      obtain ⟨va, vc, hv⟩ := ownsM_shape hG.row
      subst hv
      obtain ⟨W1, hW1⟩ : ∃ W1, W1 = wr.alloc (.cells #[.string ca, .string cp, .int .i64 cr, .string cc, .int .i64 ct, .bool cd, .int .i64 cl, .int .i64 ck, .int .i64 cn, .string cs] 35) := ⟨_, rfl⟩
      have bc0 : Blk W1 wr.heap.size [.string ca, .string cp, .int .i64 cr, .string cc, .int .i64 ct, .bool cd, .int .i64 cl, .int .i64 ck, .int .i64 cn, .string cs] 35 := by rw [hW1]; exact Blk.new wr _ _
      have hGc : Gv w2 W1 (.slice va (kpt p (A.take i)).length vc) (kpt p (A.take i)) := by rw [hW1]; exact hG.more ((Below.refl _ _).alloc (Nat.le_refl _) _)
      have HW : Hid (∀ U, Below W1.heap.size W1 U → Gv w2 U (.slice va (kpt p (A.take i)).length vc) (kpt p (A.take i)) ∧ Blk U wr.heap.size [.string ca, .string cp, .int .i64 cr, .string cc, .int .i64 ct, .bool cd, .int .i64 cl, .int .i64 ck, .int .i64 cn, .string cs] 35) := fun U hU => ⟨hGc.more hU, bc0.carry (hU.block _ bc0.lt)⟩
      simp only [Kb.v, Vr.v] at FD OL
      clear h1 hc hG hGc bc0
      go_wp2_with fail
      rw [← hW1]
      clear hW1 k0 k1 k2 k3 k4 k5 k6 k7 k8 k9
      go_loopw [12, 26] (fun s12 s26 wr => ∃ j : Nat, j ≤ vs.length ∧ s26 = .int .i64 j ∧ s12 = .bool (hk j) ∧ Below W1.heap.size W1 wr) (fun _ s26 _ => vs.length - (intOf s26).toNat)
      case atStart => exact ⟨0, by omega, rfl, by rw [HK0.out], Below.refl _ _⟩
      case round =>
        obtain ⟨j, hj, rfl, rfl, hbj⟩ := hrel
        obtain ⟨hGj, hbk⟩ := HW.out wr hbj
        rcases Nat.lt_or_ge j vs.length with hltj | hgej
        · obtain ⟨x, hx⟩ : ∃ x, vs[j]? = some x := ⟨_, List.getElem?_eq_getElem hltj⟩
          have hF := FD.out wr j x hx hGj.bel
          have hT := HTK2.out j x hx
          obtain ⟨b3, off3, rfl, hc3⟩ := (HLS.out.below (hb2.trans (hGj.bel.mono hb2.size)) (Nat.le_refl _)) j x hx
          have hjz : (j : Int) < (vs.length : Int) := by omega
          obtain ⟨xo, xcap, xl⟩ := x
          simp only [Lv.s] at hF hT hc3
          generalize fnd ⟨ca, cp, cr, cc⟩ xl = fr at *
          obtain ⟨⟨ft, fd, fl, fk, fn, fs⟩, ok⟩ := fr
          simp only at hF hT
          have FD2 : Hid (Calls Try.prog 21 #[.slice xo xl.length xcap, .agg #[.string ca, .string cp, .int .i64 cr, .string cc]] wr fun e w' => e = .returned (.tuple #[.agg #[.int .i64 ft, .bool fd, .int .i64 fl, .int .i64 fk, .int .i64 fn, .string fs], .bool ok]) ∧ Below wr.heap.size wr w') := hF
          have HT : Hid (hk (j + 1) = (hk j || ok)) := hT
          have k0 := hbk.cell 0 rfl
          have k1 := hbk.cell 1 rfl
          have k2 := hbk.cell 2 rfl
          have k3 := hbk.cell 3 rfl
          clear hF hT hGj hbk
          generalize hk j = hkj at *
          go_wp2_with fail
          refine FD2.out.mono ?_
          clear FD2 k0 k1 k2 k3 hc3
          rintro e u1 ⟨rfl, hu1⟩
          have HB1 : Hid (Below W1.heap.size W1 (u1.alloc (.cells #[.int .i64 ft, .bool fd, .int .i64 fl, .int .i64 fk, .int .i64 fn, .string fs] 33))) := by
            have h := hbj.trans (hu1.mono hbj.size)
            exact h.alloc h.size _
          cases hkj
          · go_wp2_with fail
            go_roundw
            case rel => exact ⟨j + 1, by omega, by go_num, by rw [HT.out]; rfl, HB1.out⟩
            case measure => simp [intOf]; omega
          · go_wp2_with fail
            go_roundw
            case rel => exact ⟨j + 1, by omega, by go_num, by rw [HT.out]; rfl, HB1.out⟩
            case measure => simp [intOf]; omega
        · obtain rfl : j = vs.length := by omega
          have hge' : ¬ (vs.length : Int) < (vs.length : Int) := by omega
          generalize hk vs.length = hv at *
          clear FD HTK2 HK0 hgej
          cases hv
          · have k4 := hbk.cell 4 rfl
            have k5 := hbk.cell 5 rfl
            have k6 := hbk.cell 6 rfl
            have k7 := hbk.cell 7 rfl
            have k8 := hbk.cell 8 rfl
            have k9 := hbk.cell 9 rfl
            have HGj : Hid (∀ U, Below wr.heap.size wr U → Gv w2 U (.slice va (kpt p (A.take i)).length vc) (kpt p (A.take i)) ∧ Blk U _ [.string ca, .string cp, .int .i64 cr, .string cc, .int .i64 ct, .bool cd, .int .i64 cl, .int .i64 ck, .int .i64 cn, .string cs] 35) := fun U hU => ⟨hGj.more hU, hbk.carry (hU.block _ hbk.lt)⟩
            clear hGj hbk HW
            go_wp2_with fail
            refine (OL.out _).mono ?_
            clear OL k4 k5 k6 k7 k8 k9
            rintro e u3 ⟨rfl, hu3⟩
            obtain ⟨hG3, bc3⟩ := HGj.out u3 hu3
            clear HGj hu3
            cases od
            · have HGO : Hid (p ⟨⟨ca, cp, cr, cc⟩, ⟨ct, cd, cl, ck, cn, cs⟩⟩ = false) := by
                have h := HGO1.out
                exact h
              have HGOZ := HGO1
              clear HGO1
              have HST : Hid (kpt p (A.take (i + 1)) = kpt p (A.take i) ++ [⟨⟨ca, cp, cr, cc⟩, ⟨ct, cd, cl, ck, cn, cs⟩⟩]) := by
                have h := HSTP.out
                rw [if_neg (by rw [HGO.out]; simp)] at h
                exact h
              have hsr := src_one_cx u3 ⟨⟨ca, cp, cr, cc⟩, ⟨ct, cd, cl, ck, cn, cs⟩⟩
              simp only [Cx.a] at hsr
              have HG2 : Hid (Gv w2 u3 (.slice va (kpt p (A.take i)).length vc) (kpt p (A.take i))) := hG3
              have k0 := bc3.cell 0 rfl
              have k1 := bc3.cell 1 rfl
              have k2 := bc3.cell 2 rfl
              have k3 := bc3.cell 3 rfl
              have k4 := bc3.cell 4 rfl
              have k5 := bc3.cell 5 rfl
              have k6 := bc3.cell 6 rfl
              have k7 := bc3.cell 7 rfl
              have k8 := bc3.cell 8 rfl
              have k9 := bc3.cell 9 rfl
              clear HSTP HGO HGOZ hG3 bc3
              go_wp2_with (at_builtin; go_must (refine wpList_append_grew _ rfl _ _ 22 22 rfl w2.heap.size 35 i1 _ 10 112 Try.underlying22 hi1 hy0 hy1 hy2 rfl _ (kpt p (A.take i)).length _ rfl (World.ownsRow.alloc HG2.out.row _) _ 1 (([⟨⟨ca, cp, cr, cc⟩, ⟨ct, cd, cl, ck, cn, cs⟩⟩] : List Cx).flatMap xs10) rfl hsr (by unfold maxLen; omega) (by omega) (by have := HG2.out.bel.size; simp at *; omega) ?_; intro v5 w5 ho5 hg5))
              have hG5 := HG2.out.add ho5 hg5
              rw [← HST.out] at hG5
              have HB5 : Hid (Gv w2 w5 v5 (kpt p (A.take (i + 1)))) := hG5
              clear ho5 hg5 hG5
              go_wp2_with fail
              go_roundw
              case rel => exact ⟨i + 1, by omega, by go_num, HB5.out⟩
              case measure => simp [intOf]; omega
            · have HST : Hid (kpt p (A.take (i + 1)) = kpt p (A.take i)) := by
                have h := HSTP.out
                have h2 := HGO1.out
                rw [if_pos (by rw [h2]; rfl)] at h
                exact h
              have HG3 : Hid (Gv w2 u3 (.slice va (kpt p (A.take i)).length vc) (kpt p (A.take i))) := hG3
              clear HSTP hG3 bc3 HGO1
              go_wp2_with fail
              go_roundw
              case rel => exact ⟨i + 1, by omega, by go_num, by rw [HST.out]; exact HG3.out⟩
              case measure => simp [intOf]; omega
          · have HGO : Hid (p ⟨⟨ca, cp, cr, cc⟩, ⟨ct, cd, cl, ck, cn, cs⟩⟩ = false) := by
              have h := HGO1.out
              rw [Bool.not_true, Bool.and_false] at h
              exact h
            have HGOZ := HGO1
            clear HGO1 OL HW
            have HST : Hid (kpt p (A.take (i + 1)) = kpt p (A.take i) ++ [⟨⟨ca, cp, cr, cc⟩, ⟨ct, cd, cl, ck, cn, cs⟩⟩]) := by
              have h := HSTP.out
              rw [if_neg (by rw [HGO.out]; simp)] at h
              exact h
            have hsr := src_one_cx wr ⟨⟨ca, cp, cr, cc⟩, ⟨ct, cd, cl, ck, cn, cs⟩⟩
            simp only [Cx.a] at hsr
            have HG2 : Hid (Gv w2 wr (.slice va (kpt p (A.take i)).length vc) (kpt p (A.take i))) := hGj
            have k0 := hbk.cell 0 rfl
            have k1 := hbk.cell 1 rfl
            have k2 := hbk.cell 2 rfl
            have k3 := hbk.cell 3 rfl
            have k4 := hbk.cell 4 rfl
            have k5 := hbk.cell 5 rfl
            have k6 := hbk.cell 6 rfl
            have k7 := hbk.cell 7 rfl
            have k8 := hbk.cell 8 rfl
            have k9 := hbk.cell 9 rfl
            clear HSTP HGO HGOZ hGj hbk
            go_wp2_with (at_builtin; go_must (refine wpList_append_grew _ rfl _ _ 22 22 rfl w2.heap.size 35 i1 _ 10 112 Try.underlying22 hi1 hy0 hy1 hy2 rfl _ (kpt p (A.take i)).length _ rfl (World.ownsRow.alloc HG2.out.row _) _ 1 (([⟨⟨ca, cp, cr, cc⟩, ⟨ct, cd, cl, ck, cn, cs⟩⟩] : List Cx).flatMap xs10) rfl hsr (by unfold maxLen; omega) (by omega) (by have := HG2.out.bel.size; simp at *; omega) ?_; intro v5 w5 ho5 hg5))
            have hG5 := HG2.out.add ho5 hg5
            rw [← HST.out] at hG5
            have HB5 : Hid (Gv w2 w5 v5 (kpt p (A.take (i + 1)))) := hG5
            clear ho5 hg5 hG5
            go_wp2_with fail
            go_roundw
            case rel => exact ⟨i + 1, by omega, by go_num, HB5.out⟩
            case measure => simp [intOf]; omega
    · obtain rfl : i = A.length := by omega
      rw [List.take_of_length_le (Nat.le_refl _)] at hG
      have hge' : ¬ (A.length : Int) < (A.length : Int) := by omega
      obtain ⟨va, vc, hv⟩ := ownsM_shape hG.row
      subst hv
      clear hxA
      go_wp2_with fail
      go_ret
      exact ⟨_, rfl, ownsM_mono hG.row hb2.size, hb2.trans (hG.bel.mono hb2.size)⟩
end Go.Proofs.Ytkdeaogmifhnhaa

/-
  SEVERAL TEXTS IN ONE: CellGet, TabCells, WalScanP.
-/
import Derived.Test.YtlamncldbnagmaaGreatDoorCellReads
import Derived.Test.YtlamncldbnagmaaGreatDoorMany20
import Derived.Test.YtlamncldbnagmaaGreatDoorMany14
import Derived.Test.YtlamncldbnagmaaGreatDoorMany17
import Derived.Test.YtlamncldbnagmaaGreatDoorMany21
namespace Go.Proofs.YtlamncldbnagmaaGreatDoor
open Go.RowKit

theorem catch_panickingC (p : Addr) (x : Bool) (u : TypeId) (pv : Value) (w : World) (hc : w.cell? p = some (.bool x)) (hz : w.frozen? p = false) :
    CallsD Tryz.prog 181 #[.pointer (some p)] (.panicking [{ v := .iface u pv, recovered := false }]) w fun e u' w' =>
      e = .returned (.tuple #[]) ∧ u' = .panicking [{ v := .iface u pv, recovered := true }] ∧ w' = w.setCell p (.bool false) := by
  refine callsD_of_wpS Tryz.func181 rfl fun c₀ cs hu => ?_
  apply wpS_region
  simp [wpOpsS, go_sem, recoverD, hu, Tryz.ntmps181, hc, hz, bodyPostS, results, Tryz.results181]

theorem catch_idleC (p : Addr) (x : Bool) (w : World) (hc : w.cell? p = some (.bool x)) (hz : w.frozen? p = false) :
    CallsD Tryz.prog 181 #[.pointer (some p)] .returning w fun e u' w' => e = .returned (.tuple #[]) ∧ u' = .returning ∧ w' = w.setCell p (.bool true) := by
  refine callsD_of_wpS Tryz.func181 rfl fun c₀ cs hu => ?_
  apply wpS_region
  simp [wpOpsS, go_sem, recoverD, hu, Tryz.ntmps181, hc, hz, bodyPostS, results, Tryz.results181]
  cases c₀
  simp_all

theorem owns_mono {w : World} {b b' : Nat} {e : TypeId} {size : Nat} {v : Value} {n : Nat} {xs : List Value} (h : w.ownsRow b e size v n xs) (hb : b' ≤ b) : w.ownsRow b' e size v n xs := by
  refine ⟨h.1, ?_⟩
  rcases h.2 with hn | ⟨g, cap, cur, rfl, hg, r⟩
  · exact .inl hn
  · exact .inr ⟨g, cap, cur, rfl, Nat.le_trans hb hg, r⟩
theorem owns_set {w : World} {base : Nat} {e : TypeId} {size : Nat} {v : Value} {n : Nat} {xs : List Value} (h : w.ownsRow base e size v n xs) {a : Addr} (ha : a.block < base) (x : Value) : (w.setCell a x).ownsRow base e size v n xs :=
  owns_heap h (fun k hk => Below.heap_setCell _ _ _ _ (fun e => by have := (h.lt k hk).1; omega))

set_option maxRecDepth 100000 in
set_option maxHeartbeats 400000 in
theorem attempt_okC (R : Nat) (ao : Option Addr) (l : List UInt8) (cap n : Nat) (w : World) (u : TypeId) (pv : Value) (cs : List CellV) (h : Ready w u pv R ao l cap n) (hl : l.length ≤ 1000000000) (hg : cellsN (l.drop n) = some cs) :
    Calls Tryz.prog 145 #[.func (.func 146) #[.pointer (some ⟨R, 0, none⟩)] #[]] w fun e w' => ∃ v, e = .returned (.tuple #[v, .bool true]) ∧ w'.ownsRow w.heap.size 67 10 v cs.length (C10 cs) ∧ w.grownBy w' (some R) := by
  have hmf : ∀ (fn : Fn) (first cap : Array Value) (w : World), (Instr.makeFunc fn first cap).run Tryz.prog w = .ok (.func fn first cap) w := fun _ _ _ _ => rfl
  have hlt := h.rd.lt
  have Hc : Hid _ := rcells_any R ao l cap n _ u pv (h.alloc (.cells #[.bool false] 4)) hl
  rw [hg] at Hc
  clear h hg
  go_enter_defers Tryz.func145, Tryz.ntmps145
  go_wp2_with fail
  refine Calls.mono (Hid.out Hc) ?_
  rintro e w2 ⟨v, rfl, ho2, m, hR2, hg2⟩
  rw [World.size_alloc] at ho2
  have hB := hg2.block w.heap.size (by simp) (fun e => by have := Option.some.inj e; omega)
  have hc2 : w2.cell? ⟨w.heap.size, 0, none⟩ = some (.bool false) := by rw [World.cell?_of_block (a := ⟨w.heap.size, 0, none⟩) hB]; simp [go_sem]
  have hf2 : w2.frozen? ⟨w.heap.size, 0, none⟩ = false := by rw [World.frozen?_of_block (a := ⟨w.heap.size, 0, none⟩) hB]; simp [go_sem]
  clear hB Hc
  go_wp2_with fail
  refine leaves_cons (f := 181) (args := #[.pointer (some ⟨w.heap.size, 0, none⟩)]) (by simp) (by simp [go_sem]) ?_
  refine (catch_idleC ⟨w.heap.size, 0, none⟩ true _ (World.cell?_setCell_same _ _ _ hc2) (by rw [World.frozen?_setCell]; exact hf2)).mono ?_
  rintro e u' w'' ⟨rfl, rfl, rfl⟩
  have hc3 := World.cell?_setCell_same (w2.setCell ⟨w.heap.size, 0, none⟩ (.bool true)) ⟨w.heap.size, 0, none⟩ (.bool true) (World.cell?_setCell_same _ _ _ hc2)
  refine ⟨.tuple #[v, .bool true], by simp [results, Tryz.results145, go_sem, hc3], v, rfl, ?_, ?_⟩
  · exact owns_mono (owns_set (owns_set ho2 (by simp) _) (by simp) _) (by omega)
  · exact grownBy_setNew (grownBy_setNew (grownBy_alloc hg2) (Nat.le_refl _)) (Nat.le_refl _)

set_option maxRecDepth 100000 in
set_option maxHeartbeats 400000 in
theorem attempt_noC (R : Nat) (ao : Option Addr) (l : List UInt8) (cap n : Nat) (w : World) (u : TypeId) (pv : Value) (h : Ready w u pv R ao l cap n) (hl : l.length ≤ 1000000000) (hg : cellsN (l.drop n) = none) :
    Calls Tryz.prog 145 #[.func (.func 146) #[.pointer (some ⟨R, 0, none⟩)] #[]] w fun e w' => e = .returned (.tuple #[.slice none 0 0, .bool false]) ∧ w.grownBy w' (some R) := by
  have hmf : ∀ (fn : Fn) (first cap : Array Value) (w : World), (Instr.makeFunc fn first cap).run Tryz.prog w = .ok (.func fn first cap) w := fun _ _ _ _ => rfl
  have hlt := h.rd.lt
  have Hc : Hid _ := rcells_any R ao l cap n _ u pv (h.alloc (.cells #[.bool false] 4)) hl
  rw [hg] at Hc
  clear h hg
  go_enter_defers Tryz.func145, Tryz.ntmps145
  go_wp2_with fail
  refine Calls.mono (Hid.out Hc) ?_
  rintro e w2 ⟨rfl, m, hR2, hg2⟩
  have hB := hg2.block w.heap.size (by simp) (fun e => by have := Option.some.inj e; omega)
  have hc2 : w2.cell? ⟨w.heap.size, 0, none⟩ = some (.bool false) := by rw [World.cell?_of_block (a := ⟨w.heap.size, 0, none⟩) hB]; simp [go_sem]
  have hf2 : w2.frozen? ⟨w.heap.size, 0, none⟩ = false := by rw [World.frozen?_of_block (a := ⟨w.heap.size, 0, none⟩) hB]; simp [go_sem]
  clear hB Hc
  go_wp2_with fail
  refine leaves_cons (f := 181) (args := #[.pointer (some ⟨w.heap.size, 0, none⟩)]) (by simp) (by simp [go_sem]) ?_
  refine (catch_panickingC ⟨w.heap.size, 0, none⟩ false u pv _ hc2 hf2).mono ?_
  rintro e u' w'' ⟨rfl, rfl, rfl⟩
  have hc3 := World.cell?_setCell_same w2 ⟨w.heap.size, 0, none⟩ (.bool false) hc2
  refine ⟨.tuple #[.slice none 0 0, .bool false], by simp [results, Tryz.results145, go_sem, hc3], rfl, ?_⟩
  exact grownBy_setNew (grownBy_alloc hg2) (Nat.le_refl _)

/-- What ReadCells tells of bytes: the cells, and the error. -/
def redC (l : List UInt8) : List CellV := (cellsN l).getD []
def redE (l : List UInt8) : Int := match cellsN l with | some _ => 0 | none => 8

theorem Ready.made {w : World} {u : TypeId} {pv : Value} {ao : Option Addr} {l : List UInt8} {cap : Nat} (hs : Sees w ao l) (hl : l.length ≤ 1000000000) (hcap : l.length ≤ cap) (he : Err w u pv) : Ready (w.alloc (.cells #[.slice ao l.length cap, .int .i64 0] 179)) u pv w.heap.size ao l cap 0 := by
  have hlt : (⟨3, 0, none⟩ : Addr).block < w.heap.size := World.block_lt_of_cell? _ _ he
  exact ⟨Rd.made hs (by omega), err_alloc he _, by simp at hlt; omega, hcap⟩

set_option maxRecDepth 100000 in
set_option maxHeartbeats 400000 in
theorem readCells_any (ao : Option Addr) (l : List UInt8) (cap : Nat) (w : World) (u : TypeId) (pv : Value) (hs : Sees w ao l) (hcap : l.length ≤ cap) (hl : l.length ≤ 1000000000) (he : Err w u pv) :
    Calls Tryz.prog 110 #[.slice ao l.length cap] w fun e w' => ∃ v, e = .returned (.tuple #[v, .int .i64 (redE l)]) ∧ w'.ownsRow w.heap.size 67 10 v (redC l).length (C10 (redC l)) ∧ Below w.heap.size w w' := by
  have hmf : ∀ (fn : Fn) (first cap : Array Value) (w : World), (Instr.makeFunc fn first cap).run Tryz.prog w = .ok (.func fn first cap) w := fun _ _ _ _ => rfl
  have hr := Ready.made (cap := cap) hs hl hcap he
  cases hg : cellsN l with
  | some cs =>
    have h1 : redC l = cs := by unfold redC; rw [hg]; rfl
    have h2 : redE l = 0 := by unfold redE; rw [hg]
    rw [h1, h2]
    have Hc : Hid _ := attempt_okC _ ao l cap 0 _ u pv cs hr hl hg
    clear hs hg he hr h1 h2
    go_enter Tryz.func110, Tryz.ntmps110
    go_wp2_with fail
    refine Calls.mono (Hid.out Hc) ?_
    rintro e w2 ⟨v, rfl, ho2, hg2⟩
    rw [World.size_alloc] at ho2
    go_wp2_with fail
    go_ret2
    exact ⟨v, rfl, owns_mono ho2 (by omega), below_made hg2⟩
  | none =>
    have h1 : redC l = [] := by unfold redC; rw [hg]; rfl
    have h2 : redE l = 8 := by unfold redE; rw [hg]
    rw [h1, h2]
    have Hc : Hid _ := attempt_noC _ ao l cap 0 _ u pv hr hl hg
    clear hs hg he hr h1 h2
    go_enter Tryz.func110, Tryz.ntmps110
    go_wp2_with fail
    refine Calls.mono (Hid.out Hc) ?_
    rintro e w2 ⟨rfl, hg2⟩
    go_wp2_with fail
    go_ret2
    exact ⟨_, rfl, World.ownsRow_nil _ _ _ _, below_made hg2⟩
end Go.Proofs.YtlamncldbnagmaaGreatDoor
namespace Go.Proofs.YtlamncldbnagmaaGreatDoor
open Go.RowKit

/-- From the codec's cells. -/
def ofC (c : CellV) : Cx := ⟨⟨c.key.table, c.key.part, c.key.row, c.key.col⟩, ⟨c.ver.time, c.ver.dead, c.ver.loc, c.ver.val.kind, c.ver.val.num, c.ver.val.s⟩⟩
theorem ofC_toC (c : Cx) : ofC (toC c) = c := rfl
theorem C10_ofC (cs : List CellV) : C10 cs = (cs.map ofC).flatMap xs10 := by unfold C10; rw [List.flatMap_map]; rfl
theorem signN_facts {l r : List UInt8} {n : Int} (h : signN l = some (n, r)) : r.length < l.length ∧ InI n := by
  unfold signN at h
  split at h
  · cases h
  · rename_i v r' hg
    simp only [Option.some.injEq, Prod.mk.injEq] at h
    obtain ⟨rfl, rfl⟩ := h
    have := get_bd hg
    exact ⟨this.2, zagZ_ok this.1⟩
theorem textN_facts {l s r : List UInt8} (h : textN l = some (s, r)) : r.length < l.length ∧ s.length ≤ l.length := by
  obtain ⟨v, r1, hg, hv, rfl, rfl⟩ := textN_some h
  have := (get_bd hg).2
  rw [List.length_drop, List.length_take]
  omega
/-- A text's size. -/
theorem bytesOf_size (l : List UInt8) : (bytesOf l).size = l.length := by show l.toArray.size = _; simp
structure ReadX (n : Nat) (x : Cx) : Prop where
  num : x.Nums
  t : x.k.t.size ≤ n
  p : x.k.p.size ≤ n
  c : x.k.c.size ≤ n
  s : x.v.s.size ≤ n
theorem keyN_facts {l r : List UInt8} {k : KeyV} (h : keyN l = some (k, r)) : r.length + 4 ≤ l.length ∧ InI k.row ∧ k.table.size ≤ l.length ∧ k.part.size ≤ l.length ∧ k.col.size ≤ l.length := by
  unfold keyN at h
  split at h
  · cases h
  · rename_i t r1 h1
    split at h
    · cases h
    · rename_i p r2 h2
      split at h
      · cases h
      · rename_i n r3 h3
        split at h
        · cases h
        · rename_i c r4 h4
          simp only [Option.some.injEq, Prod.mk.injEq] at h
          obtain ⟨rfl, rfl⟩ := h
          have a1 := textN_facts h1
          have a2 := textN_facts h2
          have a3 := signN_facts h3
          have a4 := textN_facts h4
          simp only [bytesOf_size]
          exact ⟨by omega, a3.2, by omega, by omega, by omega⟩
theorem valN_facts {l r : List UInt8} {k : ValV} (h : valN l = some (k, r)) : r.length + 3 ≤ l.length ∧ InI k.kind ∧ InI k.num ∧ k.s.size ≤ l.length := by
  unfold valN at h
  split at h
  · cases h
  · rename_i v r1 h1
    split at h
    · cases h
    · rename_i n r2 h2
      split at h
      · cases h
      · rename_i s r3 h3
        simp only [Option.some.injEq, Prod.mk.injEq] at h
        obtain ⟨rfl, rfl⟩ := h
        have a1 := get_bd h1
        have a2 := signN_facts h2
        have a3 := textN_facts h3
        simp only [bytesOf_size]
        exact ⟨by omega, kindZ_ok a1.1, a2.2, by omega⟩
theorem inI_zero : InI 0 := by unfold InI; omega
theorem verN_facts {l r : List UInt8} {k : VerV} (h : verN l = some (k, r)) : r.length + 3 ≤ l.length ∧ InI k.time ∧ InI k.loc ∧ InI k.val.kind ∧ InI k.val.num ∧ k.val.s.size ≤ l.length := by
  unfold verN at h
  split at h
  · cases h
  · rename_i t r1 h1
    have a1 := signN_facts h1
    split at h
    · cases h
    · rename_i m r2
      simp only [List.length_cons] at a1
      split at h
      · split at h
        · cases h
        · rename_i v r3 h3
          simp only [Option.some.injEq, Prod.mk.injEq] at h
          obtain ⟨rfl, rfl⟩ := h
          have a3 := valN_facts h3
          exact ⟨by omega, a1.2, inI_zero, a3.2.1, a3.2.2.1, by have := a3.2.2.2; simp only; omega⟩
      · split at h
        · split at h
          · cases h
          · rename_i n r3 h3
            simp only [Option.some.injEq, Prod.mk.injEq] at h
            obtain ⟨rfl, rfl⟩ := h
            have a3 := signN_facts h3
            exact ⟨by omega, a1.2, a3.2, inI_zero, inI_zero, Nat.zero_le _⟩
        · cases h
theorem cellN_facts {l r : List UInt8} {c : CellV} (h : cellN l = some (c, r)) : r.length + 7 ≤ l.length ∧ ReadX l.length (ofC c) := by
  unfold cellN at h
  split at h
  · cases h
  · rename_i k r1 h1
    split at h
    · cases h
    · rename_i v r2 h2
      simp only [Option.some.injEq, Prod.mk.injEq] at h
      obtain ⟨rfl, rfl⟩ := h
      have a1 := keyN_facts h1
      have a2 := verN_facts h2
      refine ⟨by omega, ⟨⟨a1.2.1, a2.2.1, a2.2.2.1, a2.2.2.2.1, a2.2.2.2.2.1⟩, a1.2.2.1, a1.2.2.2.1, a1.2.2.2.2, ?_⟩⟩
      have := a2.2.2.2.2.2
      show v.val.s.size ≤ _
      omega
theorem ReadX.mono {n m : Nat} {c : Cx} (h : ReadX n c) (hn : n ≤ m) : ReadX m c := ⟨h.num, Nat.le_trans h.t hn, Nat.le_trans h.p hn, Nat.le_trans h.c hn, Nat.le_trans h.s hn⟩
theorem ReadX.fit {n : Nat} {c : Cx} (h : ReadX n c) (hn : n ≤ maxLen) : c.Fit := ⟨Nat.le_trans h.t hn, Nat.le_trans h.p hn, Nat.le_trans h.c hn, Nat.le_trans h.s hn⟩
theorem manyN_facts : ∀ (n : Nat) {l r : List UInt8} {cs : List CellV}, manyN n l = some (cs, r) → r.length + 7 * cs.length ≤ l.length ∧ ∀ c ∈ cs, ReadX l.length (ofC c)
  | 0, l, r, cs, h => by
    simp only [manyN, Option.some.injEq, Prod.mk.injEq] at h
    obtain ⟨rfl, rfl⟩ := h
    exact ⟨by simp, fun c hc => by cases hc⟩
  | n + 1, l, r, cs, h => by
    rw [manyN] at h
    split at h
    · cases h
    · rename_i c r1 h1
      split at h
      · cases h
      · rename_i ds r2 h2
        simp only [Option.some.injEq, Prod.mk.injEq] at h
        obtain ⟨rfl, rfl⟩ := h
        have a1 := cellN_facts h1
        have a2 := manyN_facts n h2
        refine ⟨by rw [List.length_cons]; omega, fun x hx => ?_⟩
        rcases List.mem_cons.1 hx with rfl | hx
        · exact a1.2
        · exact (a2.2 x hx).mono (by omega)
theorem cellsN_facts {l : List UInt8} {cs : List CellV} (h : cellsN l = some cs) : 7 * cs.length ≤ l.length ∧ ∀ c ∈ cs, ReadX l.length (ofC c) := by
  unfold cellsN at h
  split at h
  · cases h
  · rename_i n r hg
    have h1 := (get_bd hg).2
    split at h
    · rename_i cs' hm
      obtain rfl := Option.some.inj h
      have := manyN_facts n hm
      exact ⟨by have := this.1; simp at this; omega, fun c hc => (this.2 c hc).mono (by omega)⟩
    · cases h
/-- The cells of all blocks. -/
def blkN : Nat → List UInt8 → Option (List Cx)
  | 0, r => if r.length = 0 then some [] else none
  | f + 1, r => if r.length = 0 then some []
    else if unfE r = 0 then
      match cellsN (unfB r) with
      | none => none
      | some cs => match blkN f (r.drop (unfN r)) with
        | none => none
        | some ds => some (cs.map ofC ++ ds)
    else none
theorem blkN_nil (f : Nat) : blkN f [] = some [] := by cases f <;> rfl
theorem unfB_le (l : List UInt8) : (unfB l).length + 8 ≤ l.length ∨ unfE l ≠ 0 := by
  by_cases h : unfE l = 0
  · left
    have h8 : 8 ≤ l.length := by
      unfold unfE at h
      split at h
      · simp at h
      · omega
    unfold unfB
    rw [if_pos h, List.length_take, List.length_drop]
    omega
  · exact .inr h
theorem unfN_of {l : List UInt8} (h : unfE l = 0) : unfN l = 8 + unfC l ∧ unfN l ≤ l.length ∧ (unfB l).length = unfC l := by
  have h2 : unfN l = 8 + unfC l := by unfold unfN; rw [if_pos h]
  have h3 : 8 + unfC l ≤ l.length := by
    unfold unfE at h
    split at h
    · simp at h
    · split at h
      · simp at h
      · split at h
        · simp at h
        · omega
  refine ⟨h2, by omega, ?_⟩
  unfold unfB
  rw [if_pos h, List.length_take, List.length_drop]
  omega
theorem blkN_facts : ∀ (f : Nat) {r : List UInt8} {l : List Cx}, blkN f r = some l → 7 * l.length ≤ r.length ∧ ∀ c ∈ l, ReadX r.length c
  | 0, r, l, h => by
    unfold blkN at h
    split at h
    · obtain rfl := Option.some.inj h; exact ⟨by simp, fun c hc => by cases hc⟩
    · cases h
  | f + 1, r, l, h => by
    unfold blkN at h
    split at h
    · obtain rfl := Option.some.inj h; exact ⟨by simp, fun c hc => by cases hc⟩
    · split at h
      · rename_i hu
        obtain ⟨e1, e2, e3⟩ := unfN_of hu
        split at h
        · cases h
        · rename_i cs hc
          have a1 := cellsN_facts hc
          split at h
          · cases h
          · rename_i ds hd
            obtain rfl := Option.some.inj h
            have a2 := blkN_facts f hd
            rw [List.length_drop] at a2
            refine ⟨by rw [List.length_append, List.length_map]; omega, fun c hc => ?_⟩
            rcases List.mem_append.1 hc with hc | hc
            · obtain ⟨y, hy, rfl⟩ := List.mem_map.1 hc
              exact (a1.2 y hy).mono (by omega)
            · exact (a2.2 c hc).mono (by omega)
      · cases h
end Go.Proofs.YtlamncldbnagmaaGreatDoor
namespace Go.Proofs.YtlamncldbnagmaaGreatDoor
open Go.RowKit

/-- The record that bytes begin with, and how many bytes it has. -/
def fstW (b : List UInt8) : List Cx × Nat := if unfE b = 0 ∧ redE (unfB b) = 0 ∧ recB ((redC (unfB b)).map ofC) = true then ((redC (unfB b)).map ofC, unfN b) else ([], 0)
theorem fstW_yes {b : List UInt8} (h : unfE b = 0 ∧ redE (unfB b) = 0 ∧ recB ((redC (unfB b)).map ofC) = true) : fstW b = ((redC (unfB b)).map ofC, unfN b) := by unfold fstW; rw [if_pos h]
theorem fstW_no {b : List UInt8} (h : ¬ (unfE b = 0 ∧ redE (unfB b) = 0 ∧ recB ((redC (unfB b)).map ofC) = true)) : fstW b = ([], 0) := by unfold fstW; rw [if_neg h]
theorem fstW_le (b : List UInt8) : (fstW b).2 ≤ b.length := by
  by_cases h : unfE b = 0 ∧ redE (unfB b) = 0 ∧ recB ((redC (unfB b)).map ofC) = true
  · rw [fstW_yes h]; exact (unfN_of h.1).2.1
  · rw [fstW_no h]; exact Nat.zero_le _
theorem fstW_pos {b : List UInt8} (h : (fstW b).2 ≠ 0) : 8 ≤ (fstW b).2 ∧ recB (fstW b).1 = true := by
  by_cases hc : unfE b = 0 ∧ redE (unfB b) = 0 ∧ recB ((redC (unfB b)).map ofC) = true
  · rw [fstW_yes hc]
    have := (unfN_of hc.1).1
    exact ⟨by show 8 ≤ unfN b; omega, hc.2.2⟩
  · rw [fstW_no hc] at h; exact absurd rfl h
/-- Where the record of that number begins, and the record. -/
def endW (b : List UInt8) : Nat → Nat
  | 0 => 0
  | k + 1 => endW b k + (fstW (b.drop (endW b k))).2
def recW (b : List UInt8) (k : Nat) : List Cx := (fstW (b.drop (endW b k))).1
theorem endW_le (b : List UInt8) : ∀ k, endW b k ≤ b.length
  | 0 => Nat.zero_le _
  | k + 1 => by
    have h1 := endW_le b k
    have h2 := fstW_le (b.drop (endW b k))
    rw [List.length_drop] at h2
    show endW b k + _ ≤ _
    omega
theorem endW_many {b : List UInt8} : ∀ {m : Nat}, (∀ k < m, (fstW (b.drop (endW b k))).2 ≠ 0) → m ≤ endW b m
  | 0, _ => Nat.zero_le _
  | m + 1, h => by
    have h1 := endW_many (m := m) fun k hk => h k (by omega)
    have h2 := h m (by omega)
    show m + 1 ≤ endW b m + _
    omega
/-- What Scan tells: all records, and how many bytes they are. -/
structure ToldW (b : List UInt8) (rs : List (List Cx)) (n : Nat) : Prop where
  recs : rs = (List.range rs.length).map (recW b)
  size : n = endW b rs.length
  more : ∀ k < rs.length, (fstW (b.drop (endW b k))).2 ≠ 0
  last : (fstW (b.drop (endW b rs.length))).2 = 0
theorem ToldW.le {b : List UInt8} {rs : List (List Cx)} {n : Nat} (h : ToldW b rs n) : n ≤ b.length ∧ rs.length ≤ b.length := by
  have h1 := endW_le b rs.length
  have h2 := endW_many h.more
  rw [h.size]
  omega
theorem ToldW.uniq {b : List UInt8} {rs rs' : List (List Cx)} {n n' : Nat} (h : ToldW b rs n) (h' : ToldW b rs' n') : rs = rs' ∧ n = n' := by
  have e : rs.length = rs'.length := by
    rcases Nat.lt_trichotomy rs.length rs'.length with hl | hl | hl
    · exact absurd h.last (h'.more _ hl)
    · exact hl
    · exact absurd h'.last (h.more _ hl)
  refine ⟨?_, ?_⟩
  · rw [h.recs, h'.recs, e]
  · rw [h.size, h'.size, e]
theorem toldW_nil {b : List UInt8} (h : (fstW b).2 = 0) : ToldW b [] 0 := ⟨rfl, rfl, fun _ hk => absurd hk (Nat.not_lt_zero _), h⟩
theorem endW_shift (b : List UInt8) : ∀ k, endW b (k + 1) = (fstW b).2 + endW (b.drop (fstW b).2) k
  | 0 => by show 0 + (fstW (b.drop 0)).2 = _ + 0; rw [List.drop_zero, Nat.zero_add, Nat.add_zero]
  | k + 1 => by
    have ih := endW_shift b k
    show endW b (k + 1) + (fstW (b.drop (endW b (k + 1)))).2 = (fstW b).2 + (endW (b.drop (fstW b).2) k + (fstW ((b.drop (fstW b).2).drop (endW (b.drop (fstW b).2) k))).2)
    rw [ih, List.drop_drop, Nat.add_assoc]
theorem toldW_cons {b : List UInt8} {rs : List (List Cx)} {n : Nat} (h : (fstW b).2 ≠ 0) (ht : ToldW (b.drop (fstW b).2) rs n) : ToldW b ((fstW b).1 :: rs) ((fstW b).2 + n) := by
  have hd : ∀ k, b.drop (endW b (k + 1)) = (b.drop (fstW b).2).drop (endW (b.drop (fstW b).2) k) := fun k => by rw [endW_shift, List.drop_drop]
  refine ⟨?_, ?_, ?_, ?_⟩
  · rw [List.length_cons, List.range_succ_eq_map, List.map_cons, List.map_map]
    have e : recW b ∘ Nat.succ = recW (b.drop (fstW b).2) := by
      funext k
      show (fstW (b.drop (endW b (k + 1)))).1 = _
      rw [hd]; rfl
    rw [e, ← ht.recs]
    congr 1
  · rw [List.length_cons, endW_shift, ← ht.size]
  · intro k hk
    cases k with
    | zero => exact h
    | succ k =>
      rw [hd]
      exact ht.more k (by rw [List.length_cons] at hk; omega)
  · rw [List.length_cons, hd]
    exact ht.last
theorem plain_goodW {c : Cx} (h : goodC c = true) : plainC (toC c) = toC c := by
  obtain ⟨k, ⟨t, d, lo, kd, n, s⟩⟩ := c
  unfold goodC at h
  rw [Bool.and_eq_true] at h
  have h2 := h.2
  unfold goodV zeroVal at h2
  unfold plainC plainV toC
  cases d
  · simp only [Bool.false_eq_true, if_false, Bool.and_eq_true, beq_iff_eq] at h2 ⊢
    rw [h2.1]
  · simp only [if_true, Bool.and_eq_true, beq_iff_eq, decide_eq_true_eq] at h2 ⊢
    obtain ⟨h3, h4, h5⟩ := h2
    have h6 : s = ⟨#[]⟩ := by
      obtain ⟨x⟩ := s
      have hx : x.size = 0 := h5
      rw [Array.eq_empty_of_size_eq_zero hx]
    rw [h3, h4, h6]
    rfl
theorem recB_good {l : List Cx} (h : recB l = true) : (0 < l.length ∧ l.length ≤ 400) ∧ ∀ c ∈ l, goodC c = true := by
  unfold recB at h
  rw [Bool.and_eq_true] at h
  exact ⟨of_decide_eq_true h.1, List.all_eq_true.1 h.2⟩
theorem rec_bytes {l : List Cx} (h : recB l = true) : (cellsL (l.map toC)).length ≤ 262144 := by
  have h1 := recB_good h
  have h2 : (cxB l).length ≤ 10 + 241 * l.length := cxB_len fun c hc => good_small (h1.2 c hc)
  have e : cxB l = cellsL (l.map toC) := rfl
  rw [e] at h2
  omega
theorem rec_bytes' {l : List Cx} (h : recB l = true) : (recL l).length ≤ 200000 := by
  have h1 := recB_good h
  have h2 : (cxB l).length ≤ 10 + 241 * l.length := cxB_len fun c hc => good_small (h1.2 c hc)
  have e : cxB l = cellsL (l.map toC) := rfl
  rw [e] at h2
  have hL : (recL l).length = (cellsL (l.map toC)).length + 8 := frameL_length _
  omega
/-- A record that is read again. -/
theorem fst_rec {l : List Cx} (h : recB l = true) (hn : ∀ c ∈ l, c.Nums) (r : List UInt8) : fstW (recL l ++ r) = (l, (recL l).length) := by
  have h1 := recB_good h
  have hb := rec_bytes h
  obtain ⟨hE, hN, hB⟩ := tells_whole (cellsL (l.map toC)) hb r
  have hcs : cellsN (cellsL (l.map toC)) = some ((l.map toC).map plainC) := cellsN_back _ (fun c hc => by
    obtain ⟨x, hx, rfl⟩ := List.mem_map.1 hc
    have hs := good_small (h1.2 x hx)
    have a1 := hs.t
    have a2 := hs.p
    have a3 := hs.c
    have a4 := hs.s
    exact ⟨(hn x hx).ok, by unfold wtC toC; show x.k.t.size + x.k.p.size + x.k.c.size + x.v.s.size < _; omega⟩) (by rw [List.length_map]; omega)
  have hpl : (l.map toC).map plainC = l.map toC := by
    rw [List.map_map]
    exact List.map_congr_left fun c hc => plain_goodW (h1.2 c hc)
  rw [hpl] at hcs
  have hof : (redC (cellsL (l.map toC))).map ofC = l := by
    unfold redC
    rw [hcs]
    show (l.map toC).map ofC = l
    rw [List.map_map, show (ofC ∘ toC) = id from funext fun c => ofC_toC c, List.map_id]
  have hre : redE (cellsL (l.map toC)) = 0 := by unfold redE; rw [hcs]
  have hL : (recL l).length = (cellsL (l.map toC)).length + 8 := frameL_length _
  have hE' : unfE (recL l ++ r) = 0 := hE
  have hB' : unfB (recL l ++ r) = cellsL (l.map toC) := hB
  have hN' : unfN (recL l ++ r) = (cellsL (l.map toC)).length + 8 := hN
  rw [fstW_yes ⟨hE', by rw [hB']; exact hre, by rw [hB', hof]; exact h⟩, hB', hof, hN', hL]
theorem fst_cut {l : List Cx} (h : recB l = true) (m : Nat) (hm : m < (recL l).length) : fstW ((recL l).take m) = ([], 0) := by
  have hb := rec_bytes h
  have hL : (recL l).length = (cellsL (l.map toC)).length + 8 := frameL_length _
  have := tells_cut (cellsL (l.map toC)) hb m (by omega)
  have hE : unfE ((recL l).take m) = 10 := this
  exact fstW_no fun hc => by rw [hE] at hc; exact absurd hc.1 (by decide)
/-- Records one behind the other. -/
def encW (R : List (List Cx)) : List UInt8 := R.flatMap recL
theorem encW_cons (r : List Cx) (R : List (List Cx)) : encW (r :: R) = recL r ++ encW R := by unfold encW; rw [List.flatMap_cons]
theorem encW_snoc (R : List (List Cx)) (r : List Cx) : encW (R ++ [r]) = encW R ++ recL r := by unfold encW; rw [List.flatMap_append]; simp
theorem toldW_cut : ∀ (R : List (List Cx)) (p : Nat), (∀ r ∈ R, recB r = true ∧ ∀ c ∈ r, c.Nums) → ∃ j, j ≤ R.length ∧ ToldW ((encW R).take p) (R.take j) (encW (R.take j)).length ∧ ((encW R).length ≤ p → j = R.length)
  | [], p, _ => ⟨0, Nat.le_refl _, by
      have : (encW []).take p = [] := by unfold encW; simp
      rw [this]
      exact toldW_nil (by rw [fstW_no fun hc => absurd hc.1 (by decide)]), fun _ => rfl⟩
  | r :: R, p, h => by
    have hr := h r (List.mem_cons_self ..)
    rcases Nat.lt_or_ge p (recL r).length with hp | hp
    · refine ⟨0, Nat.zero_le _, ?_, fun hl => by rw [encW_cons, List.length_append] at hl; omega⟩
      have e : (encW (r :: R)).take p = (recL r).take p := by rw [encW_cons, List.take_append_of_le_length (by omega)]
      rw [e]
      exact toldW_nil (by rw [fst_cut hr.1 p hp])
    · obtain ⟨j, hj, ht, hl⟩ := toldW_cut R (p - (recL r).length) fun x hx => h x (List.mem_cons_of_mem _ hx)
      have e : (encW (r :: R)).take p = recL r ++ (encW R).take (p - (recL r).length) := by rw [encW_cons, List.take_append, List.take_of_length_le hp]
      have hf := fst_rec hr.1 hr.2 ((encW R).take (p - (recL r).length))
      refine ⟨j + 1, by rw [List.length_cons]; omega, ?_, fun hq => by rw [encW_cons, List.length_append] at hq; rw [List.length_cons, hl (by omega)]⟩
      rw [e, List.take_succ_cons, encW_cons, List.length_append]
      have hpos : (recL r).length ≠ 0 := by
        have : (recL r).length = (cellsL (r.map toC)).length + 8 := frameL_length _
        omega
      have := toldW_cons (b := recL r ++ (encW R).take (p - (recL r).length)) (rs := R.take j) (n := (encW (R.take j)).length) (by rw [hf]; exact hpos) (by rw [hf]; rw [List.drop_left]; exact ht)
      rw [hf] at this
      exact this
end Go.Proofs.YtlamncldbnagmaaGreatDoor

/-
  SEVERAL TEXTS IN ONE: CellGet, TabCells, TellsPlain.
-/
import Derived.Test.YtglaocghcgcghaaGreatDoorCellReads
import Derived.Test.YtglaocghcgcghaaGreatDoorMany21
import Derived.Test.YtglaocghcgcghaaGreatDoorMany22
import Derived.Test.YtglaocghcgcghaaGreatDoorMany24
namespace Go.Proofs.YtglaocghcgcghaaGreatDoor
open Go.RowKit

theorem catch_panickingC (p : Addr) (x : Bool) (u : TypeId) (pv : Value) (w : World) (hc : w.cell? p = some (.bool x)) (hz : w.frozen? p = false) :
    CallsD Tryz.prog 168 #[.pointer (some p)] (.panicking [{ v := .iface u pv, recovered := false }]) w fun e u' w' =>
      e = .returned (.tuple #[]) ∧ u' = .panicking [{ v := .iface u pv, recovered := true }] ∧ w' = w.setCell p (.bool false) := by
  refine callsD_of_wpS Tryz.func168 rfl fun c₀ cs hu => ?_
  apply wpS_region
  simp [wpOpsS, go_sem, recoverD, hu, Tryz.ntmps168, hc, hz, bodyPostS, results, Tryz.results168]

theorem catch_idleC (p : Addr) (x : Bool) (w : World) (hc : w.cell? p = some (.bool x)) (hz : w.frozen? p = false) :
    CallsD Tryz.prog 168 #[.pointer (some p)] .returning w fun e u' w' => e = .returned (.tuple #[]) ∧ u' = .returning ∧ w' = w.setCell p (.bool true) := by
  refine callsD_of_wpS Tryz.func168 rfl fun c₀ cs hu => ?_
  apply wpS_region
  simp [wpOpsS, go_sem, recoverD, hu, Tryz.ntmps168, hc, hz, bodyPostS, results, Tryz.results168]
  cases c₀
  simp_all

theorem owns_mono {w : World} {b b' : Nat} {e : TypeId} {size : Nat} {v : Value} {n : Nat} {xs : List Value} (h : w.ownsRow b e size v n xs) (hb : b' ≤ b) : w.ownsRow b' e size v n xs := by
  refine ⟨h.1, ?_⟩
  rcases h.2 with hn | ⟨g, cap, cur, rfl, hg, r⟩
  · exact .inl hn
  · exact .inr ⟨g, cap, cur, rfl, Nat.le_trans hb hg, r⟩
theorem owns_set {w : World} {base : Nat} {e : TypeId} {size : Nat} {v : Value} {n : Nat} {xs : List Value} (h : w.ownsRow base e size v n xs) {a : Addr} (ha : a.block < base) (x : Value) : (w.setCell a x).ownsRow base e size v n xs :=
  owns_heap h (fun k hk => Below.heap_setCell _ _ _ _ (fun e => by have := (h.lt k hk).1; omega))

set_option maxRecDepth 100000 in
set_option maxHeartbeats 400000 in
theorem attempt_okC (R : Nat) (ao : Option Addr) (l : List UInt8) (cap n : Nat) (w : World) (u : TypeId) (pv : Value) (cs : List CellV) (h : Ready w u pv R ao l cap n) (hl : l.length ≤ 1000000000) (hg : cellsN (l.drop n) = some cs) :
    Calls Tryz.prog 162 #[.func (.func 163) #[.pointer (some ⟨R, 0, none⟩)] #[]] w fun e w' => ∃ v, e = .returned (.tuple #[v, .bool true]) ∧ w'.ownsRow w.heap.size 50 10 v cs.length (C10 cs) ∧ w.grownBy w' (some R) := by
  have hmf : ∀ (fn : Fn) (first cap : Array Value) (w : World), (Instr.makeFunc fn first cap).run Tryz.prog w = .ok (.func fn first cap) w := fun _ _ _ _ => rfl
  have hlt := h.rd.lt
  have Hc : Hid _ := rcells_any R ao l cap n _ u pv (h.alloc (.cells #[.bool false] 4)) hl
  rw [hg] at Hc
  clear h hg
  go_enter_defers Tryz.func162, Tryz.ntmps162
  go_wp2_with fail
  refine Calls.mono (Hid.out Hc) ?_
  rintro e w2 ⟨v, rfl, ho2, m, hR2, hg2⟩
  rw [World.size_alloc] at ho2
  have hB := hg2.block w.heap.size (by simp) (fun e => by have := Option.some.inj e; omega)
  have hc2 : w2.cell? ⟨w.heap.size, 0, none⟩ = some (.bool false) := by rw [World.cell?_of_block (a := ⟨w.heap.size, 0, none⟩) hB]; simp [go_sem]
  have hf2 : w2.frozen? ⟨w.heap.size, 0, none⟩ = false := by rw [World.frozen?_of_block (a := ⟨w.heap.size, 0, none⟩) hB]; simp [go_sem]
  clear hB Hc
  go_wp2_with fail
  refine leaves_cons (f := 168) (args := #[.pointer (some ⟨w.heap.size, 0, none⟩)]) (by simp) (by simp [go_sem]) ?_
  refine (catch_idleC ⟨w.heap.size, 0, none⟩ true _ (World.cell?_setCell_same _ _ _ hc2) (by rw [World.frozen?_setCell]; exact hf2)).mono ?_
  rintro e u' w'' ⟨rfl, rfl, rfl⟩
  have hc3 := World.cell?_setCell_same (w2.setCell ⟨w.heap.size, 0, none⟩ (.bool true)) ⟨w.heap.size, 0, none⟩ (.bool true) (World.cell?_setCell_same _ _ _ hc2)
  refine ⟨.tuple #[v, .bool true], by simp [results, Tryz.results162, go_sem, hc3], v, rfl, ?_, ?_⟩
  · exact owns_mono (owns_set (owns_set ho2 (by simp) _) (by simp) _) (by omega)
  · exact grownBy_setNew (grownBy_setNew (grownBy_alloc hg2) (Nat.le_refl _)) (Nat.le_refl _)

set_option maxRecDepth 100000 in
set_option maxHeartbeats 400000 in
theorem attempt_noC (R : Nat) (ao : Option Addr) (l : List UInt8) (cap n : Nat) (w : World) (u : TypeId) (pv : Value) (h : Ready w u pv R ao l cap n) (hl : l.length ≤ 1000000000) (hg : cellsN (l.drop n) = none) :
    Calls Tryz.prog 162 #[.func (.func 163) #[.pointer (some ⟨R, 0, none⟩)] #[]] w fun e w' => e = .returned (.tuple #[.slice none 0 0, .bool false]) ∧ w.grownBy w' (some R) := by
  have hmf : ∀ (fn : Fn) (first cap : Array Value) (w : World), (Instr.makeFunc fn first cap).run Tryz.prog w = .ok (.func fn first cap) w := fun _ _ _ _ => rfl
  have hlt := h.rd.lt
  have Hc : Hid _ := rcells_any R ao l cap n _ u pv (h.alloc (.cells #[.bool false] 4)) hl
  rw [hg] at Hc
  clear h hg
  go_enter_defers Tryz.func162, Tryz.ntmps162
  go_wp2_with fail
  refine Calls.mono (Hid.out Hc) ?_
  rintro e w2 ⟨rfl, m, hR2, hg2⟩
  have hB := hg2.block w.heap.size (by simp) (fun e => by have := Option.some.inj e; omega)
  have hc2 : w2.cell? ⟨w.heap.size, 0, none⟩ = some (.bool false) := by rw [World.cell?_of_block (a := ⟨w.heap.size, 0, none⟩) hB]; simp [go_sem]
  have hf2 : w2.frozen? ⟨w.heap.size, 0, none⟩ = false := by rw [World.frozen?_of_block (a := ⟨w.heap.size, 0, none⟩) hB]; simp [go_sem]
  clear hB Hc
  go_wp2_with fail
  refine leaves_cons (f := 168) (args := #[.pointer (some ⟨w.heap.size, 0, none⟩)]) (by simp) (by simp [go_sem]) ?_
  refine (catch_panickingC ⟨w.heap.size, 0, none⟩ false u pv _ hc2 hf2).mono ?_
  rintro e u' w'' ⟨rfl, rfl, rfl⟩
  have hc3 := World.cell?_setCell_same w2 ⟨w.heap.size, 0, none⟩ (.bool false) hc2
  refine ⟨.tuple #[.slice none 0 0, .bool false], by simp [results, Tryz.results162, go_sem, hc3], rfl, ?_⟩
  exact grownBy_setNew (grownBy_alloc hg2) (Nat.le_refl _)

/-- What ReadCells tells of bytes: the cells, and the error. -/
def redC (l : List UInt8) : List CellV := (cellsN l).getD []
def redE (l : List UInt8) : Int := match cellsN l with | some _ => 0 | none => 8

theorem Ready.made {w : World} {u : TypeId} {pv : Value} {ao : Option Addr} {l : List UInt8} {cap : Nat} (hs : Sees w ao l) (hl : l.length ≤ 1000000000) (hcap : l.length ≤ cap) (he : Err w u pv) : Ready (w.alloc (.cells #[.slice ao l.length cap, .int .i64 0] 199)) u pv w.heap.size ao l cap 0 := by
  have hlt : (⟨4, 0, none⟩ : Addr).block < w.heap.size := World.block_lt_of_cell? _ _ he
  exact ⟨Rd.made hs (by omega), err_alloc he _, by simp at hlt; omega, hcap⟩

set_option maxRecDepth 100000 in
set_option maxHeartbeats 400000 in
theorem readCells_any (ao : Option Addr) (l : List UInt8) (cap : Nat) (w : World) (u : TypeId) (pv : Value) (hs : Sees w ao l) (hcap : l.length ≤ cap) (hl : l.length ≤ 1000000000) (he : Err w u pv) :
    Calls Tryz.prog 150 #[.slice ao l.length cap] w fun e w' => ∃ v, e = .returned (.tuple #[v, .int .i64 (redE l)]) ∧ w'.ownsRow w.heap.size 50 10 v (redC l).length (C10 (redC l)) ∧ Below w.heap.size w w' := by
  have hmf : ∀ (fn : Fn) (first cap : Array Value) (w : World), (Instr.makeFunc fn first cap).run Tryz.prog w = .ok (.func fn first cap) w := fun _ _ _ _ => rfl
  have hr := Ready.made (cap := cap) hs hl hcap he
  cases hg : cellsN l with
  | some cs =>
    have h1 : redC l = cs := by unfold redC; rw [hg]; rfl
    have h2 : redE l = 0 := by unfold redE; rw [hg]
    rw [h1, h2]
    have Hc : Hid _ := attempt_okC _ ao l cap 0 _ u pv cs hr hl hg
    clear hs hg he hr h1 h2
    go_enter Tryz.func150, Tryz.ntmps150
    go_wp2_with fail
    refine Calls.mono (Hid.out Hc) ?_
    rintro e w2 ⟨v, rfl, ho2, hg2⟩
    rw [World.size_alloc] at ho2
    go_wp2_with fail
    go_ret2
    exact ⟨v, rfl, owns_mono ho2 (by omega), below_made hg2⟩
  | none =>
    have h1 : redC l = [] := by unfold redC; rw [hg]; rfl
    have h2 : redE l = 8 := by unfold redE; rw [hg]
    rw [h1, h2]
    have Hc : Hid _ := attempt_noC _ ao l cap 0 _ u pv hr hl hg
    clear hs hg he hr h1 h2
    go_enter Tryz.func150, Tryz.ntmps150
    go_wp2_with fail
    refine Calls.mono (Hid.out Hc) ?_
    rintro e w2 ⟨rfl, hg2⟩
    go_wp2_with fail
    go_ret2
    exact ⟨_, rfl, World.ownsRow_nil _ _ _ _, below_made hg2⟩
end Go.Proofs.YtglaocghcgcghaaGreatDoor
namespace Go.Proofs.YtglaocghcgcghaaGreatDoor
open Go.RowKit

/-- From the codec's cells. -/
def ofC (c : CellV) : Cx := ⟨⟨c.key.table, c.key.part, c.key.row, c.key.col⟩, ⟨c.ver.time, c.ver.dead, c.ver.loc, c.ver.val.kind, c.ver.val.num, c.ver.val.s⟩⟩
theorem ofC_toC (c : Cx) : ofC (toC c) = c := rfl
theorem C10_ofC (cs : List CellV) : C10 cs = (cs.map ofC).flatMap xs10 := by unfold C10; rw [List.flatMap_map]; rfl
theorem signN_facts {l r : List UInt8} {n : Int} (h : signN l = some (n, r)) : r.length < l.length ∧ InI n := by
  unfold signN at h
  split at h
  · cases h
  · rename_i v r' hg
    simp only [Option.some.injEq, Prod.mk.injEq] at h
    obtain ⟨rfl, rfl⟩ := h
    have := get_bd hg
    exact ⟨this.2, zagZ_ok this.1⟩
theorem textN_facts {l s r : List UInt8} (h : textN l = some (s, r)) : r.length < l.length ∧ s.length ≤ l.length := by
  obtain ⟨v, r1, hg, hv, rfl, rfl⟩ := textN_some h
  have := (get_bd hg).2
  rw [List.length_drop, List.length_take]
  omega
/-- A text's size. -/
theorem bytesOf_size (l : List UInt8) : (bytesOf l).size = l.length := by show l.toArray.size = _; simp
structure ReadX (n : Nat) (x : Cx) : Prop where
  num : x.Nums
  t : x.k.t.size ≤ n
  p : x.k.p.size ≤ n
  c : x.k.c.size ≤ n
  s : x.v.s.size ≤ n
theorem keyN_facts {l r : List UInt8} {k : KeyV} (h : keyN l = some (k, r)) : r.length + 4 ≤ l.length ∧ InI k.row ∧ k.table.size ≤ l.length ∧ k.part.size ≤ l.length ∧ k.col.size ≤ l.length := by
  unfold keyN at h
  split at h
  · cases h
  · rename_i t r1 h1
    split at h
    · cases h
    · rename_i p r2 h2
      split at h
      · cases h
      · rename_i n r3 h3
        split at h
        · cases h
        · rename_i c r4 h4
          simp only [Option.some.injEq, Prod.mk.injEq] at h
          obtain ⟨rfl, rfl⟩ := h
          have a1 := textN_facts h1
          have a2 := textN_facts h2
          have a3 := signN_facts h3
          have a4 := textN_facts h4
          simp only [bytesOf_size]
          exact ⟨by omega, a3.2, by omega, by omega, by omega⟩
theorem valN_facts {l r : List UInt8} {k : ValV} (h : valN l = some (k, r)) : r.length + 3 ≤ l.length ∧ InI k.kind ∧ InI k.num ∧ k.s.size ≤ l.length := by
  unfold valN at h
  split at h
  · cases h
  · rename_i v r1 h1
    split at h
    · cases h
    · rename_i n r2 h2
      split at h
      · cases h
      · rename_i s r3 h3
        simp only [Option.some.injEq, Prod.mk.injEq] at h
        obtain ⟨rfl, rfl⟩ := h
        have a1 := get_bd h1
        have a2 := signN_facts h2
        have a3 := textN_facts h3
        simp only [bytesOf_size]
        exact ⟨by omega, kindZ_ok a1.1, a2.2, by omega⟩
theorem inI_zero : InI 0 := by unfold InI; omega
theorem verN_facts {l r : List UInt8} {k : VerV} (h : verN l = some (k, r)) : r.length + 3 ≤ l.length ∧ InI k.time ∧ InI k.loc ∧ InI k.val.kind ∧ InI k.val.num ∧ k.val.s.size ≤ l.length := by
  unfold verN at h
  split at h
  · cases h
  · rename_i t r1 h1
    have a1 := signN_facts h1
    split at h
    · cases h
    · rename_i m r2
      simp only [List.length_cons] at a1
      split at h
      · split at h
        · cases h
        · rename_i v r3 h3
          simp only [Option.some.injEq, Prod.mk.injEq] at h
          obtain ⟨rfl, rfl⟩ := h
          have a3 := valN_facts h3
          exact ⟨by omega, a1.2, inI_zero, a3.2.1, a3.2.2.1, by have := a3.2.2.2; simp only; omega⟩
      · split at h
        · split at h
          · cases h
          · rename_i n r3 h3
            simp only [Option.some.injEq, Prod.mk.injEq] at h
            obtain ⟨rfl, rfl⟩ := h
            have a3 := signN_facts h3
            exact ⟨by omega, a1.2, a3.2, inI_zero, inI_zero, Nat.zero_le _⟩
        · cases h
theorem cellN_facts {l r : List UInt8} {c : CellV} (h : cellN l = some (c, r)) : r.length + 7 ≤ l.length ∧ ReadX l.length (ofC c) := by
  unfold cellN at h
  split at h
  · cases h
  · rename_i k r1 h1
    split at h
    · cases h
    · rename_i v r2 h2
      simp only [Option.some.injEq, Prod.mk.injEq] at h
      obtain ⟨rfl, rfl⟩ := h
      have a1 := keyN_facts h1
      have a2 := verN_facts h2
      refine ⟨by omega, ⟨⟨a1.2.1, a2.2.1, a2.2.2.1, a2.2.2.2.1, a2.2.2.2.2.1⟩, a1.2.2.1, a1.2.2.2.1, a1.2.2.2.2, ?_⟩⟩
      have := a2.2.2.2.2.2
      show v.val.s.size ≤ _
      omega
theorem ReadX.mono {n m : Nat} {c : Cx} (h : ReadX n c) (hn : n ≤ m) : ReadX m c := ⟨h.num, Nat.le_trans h.t hn, Nat.le_trans h.p hn, Nat.le_trans h.c hn, Nat.le_trans h.s hn⟩
theorem ReadX.fit {n : Nat} {c : Cx} (h : ReadX n c) (hn : n ≤ maxLen) : c.Fit := ⟨Nat.le_trans h.t hn, Nat.le_trans h.p hn, Nat.le_trans h.c hn, Nat.le_trans h.s hn⟩
theorem manyN_facts : ∀ (n : Nat) {l r : List UInt8} {cs : List CellV}, manyN n l = some (cs, r) → r.length + 7 * cs.length ≤ l.length ∧ ∀ c ∈ cs, ReadX l.length (ofC c)
  | 0, l, r, cs, h => by
    simp only [manyN, Option.some.injEq, Prod.mk.injEq] at h
    obtain ⟨rfl, rfl⟩ := h
    exact ⟨by simp, fun c hc => by cases hc⟩
  | n + 1, l, r, cs, h => by
    rw [manyN] at h
    split at h
    · cases h
    · rename_i c r1 h1
      split at h
      · cases h
      · rename_i ds r2 h2
        simp only [Option.some.injEq, Prod.mk.injEq] at h
        obtain ⟨rfl, rfl⟩ := h
        have a1 := cellN_facts h1
        have a2 := manyN_facts n h2
        refine ⟨by rw [List.length_cons]; omega, fun x hx => ?_⟩
        rcases List.mem_cons.1 hx with rfl | hx
        · exact a1.2
        · exact (a2.2 x hx).mono (by omega)
theorem cellsN_facts {l : List UInt8} {cs : List CellV} (h : cellsN l = some cs) : 7 * cs.length ≤ l.length ∧ ∀ c ∈ cs, ReadX l.length (ofC c) := by
  unfold cellsN at h
  split at h
  · cases h
  · rename_i n r hg
    have h1 := (get_bd hg).2
    split at h
    · rename_i cs' hm
      obtain rfl := Option.some.inj h
      have := manyN_facts n hm
      exact ⟨by have := this.1; simp at this; omega, fun c hc => (this.2 c hc).mono (by omega)⟩
    · cases h
/-- The cells of all blocks. -/
def blkN : Nat → List UInt8 → Option (List Cx)
  | 0, r => if r.length = 0 then some [] else none
  | f + 1, r => if r.length = 0 then some []
    else if unfE r = 0 then
      match cellsN (unfB r) with
      | none => none
      | some cs => match blkN f (r.drop (unfN r)) with
        | none => none
        | some ds => some (cs.map ofC ++ ds)
    else none
theorem blkN_nil (f : Nat) : blkN f [] = some [] := by cases f <;> rfl
theorem unfB_le (l : List UInt8) : (unfB l).length + 8 ≤ l.length ∨ unfE l ≠ 0 := by
  by_cases h : unfE l = 0
  · left
    have h8 : 8 ≤ l.length := by
      unfold unfE at h
      split at h
      · simp at h
      · omega
    unfold unfB
    rw [if_pos h, List.length_take, List.length_drop]
    omega
  · exact .inr h
theorem unfN_of {l : List UInt8} (h : unfE l = 0) : unfN l = 8 + unfC l ∧ unfN l ≤ l.length ∧ (unfB l).length = unfC l := by
  have h2 : unfN l = 8 + unfC l := by unfold unfN; rw [if_pos h]
  have h3 : 8 + unfC l ≤ l.length := by
    unfold unfE at h
    split at h
    · simp at h
    · split at h
      · simp at h
      · split at h
        · simp at h
        · omega
  refine ⟨h2, by omega, ?_⟩
  unfold unfB
  rw [if_pos h, List.length_take, List.length_drop]
  omega
theorem blkN_facts : ∀ (f : Nat) {r : List UInt8} {l : List Cx}, blkN f r = some l → 7 * l.length ≤ r.length ∧ ∀ c ∈ l, ReadX r.length c
  | 0, r, l, h => by
    unfold blkN at h
    split at h
    · obtain rfl := Option.some.inj h; exact ⟨by simp, fun c hc => by cases hc⟩
    · cases h
  | f + 1, r, l, h => by
    unfold blkN at h
    split at h
    · obtain rfl := Option.some.inj h; exact ⟨by simp, fun c hc => by cases hc⟩
    · split at h
      · rename_i hu
        obtain ⟨e1, e2, e3⟩ := unfN_of hu
        split at h
        · cases h
        · rename_i cs hc
          have a1 := cellsN_facts hc
          split at h
          · cases h
          · rename_i ds hd
            obtain rfl := Option.some.inj h
            have a2 := blkN_facts f hd
            rw [List.length_drop] at a2
            refine ⟨by rw [List.length_append, List.length_map]; omega, fun c hc => ?_⟩
            rcases List.mem_append.1 hc with hc | hc
            · obtain ⟨y, hy, rfl⟩ := List.mem_map.1 hc
              exact (a1.2 y hy).mono (by omega)
            · exact (a2.2 c hc).mono (by omega)
      · cases h
end Go.Proofs.YtglaocghcgcghaaGreatDoor
namespace Go.Proofs.YtglaocghcgcghaaGreatDoor
open Go.RowKit

theorem xor_cancel {a b c : Nat} (h : a ^^^ c = b ^^^ c) : a = b := by
  have : (a ^^^ c) ^^^ c = (b ^^^ c) ^^^ c := by rw [h]
  simpa [Nat.xor_assoc] using this
theorem crcF_inj {a b : Nat} (ha : a < 4294967296) (hb : b < 4294967296) (h : crcF a = crcF b) : a = b := by
  have top : ∀ c : Nat, c < 4294967296 → (crcF c).testBit 31 = decide (c % 2 = 1) := by
    intro c hc
    unfold crcF
    rw [Nat.testBit_xor, Nat.testBit_lt_two_pow (show c / 2 < 2 ^ 31 by omega)]
    split
    · rename_i h1; simp [h1]; decide
    · rename_i h1; simp [h1]
  have h1 := top a ha
  rw [h, top b hb] at h1
  have hp : a % 2 = b % 2 := by
    rcases Nat.mod_two_eq_zero_or_one a with h2 | h2 <;> rcases Nat.mod_two_eq_zero_or_one b with h3 | h3 <;> simp [h2, h3] at h1 <;> omega
  unfold crcF at h
  rw [hp] at h
  have := xor_cancel h
  omega
theorem rep_lt (c : Nat) (h : c < 4294967296) : ∀ j, Nat.repeat crcF j c < 4294967296
  | 0 => h
  | j + 1 => crcF_lt _ (rep_lt c h j)
theorem rep_inj {a b : Nat} (ha : a < 4294967296) (hb : b < 4294967296) : ∀ j, Nat.repeat crcF j a = Nat.repeat crcF j b → a = b
  | 0, h => h
  | j + 1, h => rep_inj ha hb j (crcF_inj (rep_lt a ha j) (rep_lt b hb j) h)
theorem crc8 (c x : Nat) (hx : x < 256) : crcSs c x 8 = Nat.repeat crcF 8 (c ^^^ x) := by
  have h8 := crcSs_xor c x 8
  rwa [show x / 2 ^ 8 = 0 by omega, Nat.xor_zero] at h8
theorem crc8_left {a b x : Nat} (ha : a < 4294967296) (hb : b < 4294967296) (hx : x < 256) (h : crcSs a x 8 = crcSs b x 8) : a = b := by
  rw [crc8 a x hx, crc8 b x hx] at h
  exact xor_cancel (rep_inj (Nat.xor_lt_two_pow (n := 32) ha (by omega)) (Nat.xor_lt_two_pow (n := 32) hb (by omega)) 8 h)
theorem crc8_right {c x y : Nat} (hc : c < 4294967296) (hx : x < 256) (hy : y < 256) (h : crcSs c x 8 = crcSs c y 8) : x = y := by
  rw [crc8 c x hx, crc8 c y hy] at h
  have h1 := rep_inj (Nat.xor_lt_two_pow (n := 32) hc (by omega)) (Nat.xor_lt_two_pow (n := 32) hc (by omega)) 8 h
  rw [Nat.xor_comm c x, Nat.xor_comm c y] at h1
  exact xor_cancel h1
/-- The sum, over Nat. -/
def sumN (c : Nat) (l : List UInt8) : Nat := l.foldl (fun c b => crcSs c b.toNat 8) c
theorem sumN_lt (l : List UInt8) : ∀ c, c < 4294967296 → sumN c l < 4294967296 := by
  induction l with
  | nil => intro c h; exact h
  | cons b l ih => intro c h; exact ih _ (crcSs_lt c _ h 8)
theorem sumOnZ_nat (l : List UInt8) : ∀ c : Nat, c < 4294967296 → sumOnZ (c : Int) l = ((sumN c l : Nat) : Int) := by
  induction l with
  | nil => intro c _; rfl
  | cons b l ih =>
    intro c h
    show sumOnZ (byteZ (c : Int) (b.toNat : Int)) l = _
    rw [byteZ_nat c b.toNat h b.toNat_lt, ih _ (crcSs_lt c _ h 8)]
    rfl
theorem sumN_inj (l : List UInt8) : ∀ a b, a < 4294967296 → b < 4294967296 → sumN a l = sumN b l → a = b := by
  induction l with
  | nil => intro a b _ _ h; exact h
  | cons x l ih =>
    intro a b ha hb h
    exact crc8_left ha hb x.toNat_lt (ih _ _ (crcSs_lt a _ ha 8) (crcSs_lt b _ hb 8) h)
theorem sumN_byte (a b : List UInt8) (x y : UInt8) (c : Nat) (hc : c < 4294967296) (h : sumN c (a ++ x :: b) = sumN c (a ++ y :: b)) : x = y := by
  unfold sumN at h
  rw [List.foldl_append, List.foldl_append, List.foldl_cons, List.foldl_cons] at h
  have hca := sumN_lt a c hc
  have h1 := sumN_inj b _ _ (crcSs_lt _ _ hca 8) (crcSs_lt _ _ hca 8) h
  have h2 := crc8_right hca x.toNat_lt y.toNat_lt h1
  exact UInt8.toNat_inj.1 h2
/-- A byte that was changed changes the sum. -/
theorem sumZ_byte (a b : List UInt8) (x y : UInt8) (h : sumZ (a ++ x :: b) = sumZ (a ++ y :: b)) : x = y := by
  unfold sumZ at h
  have e : (4294967295 : Int) = ((4294967295 : Nat) : Int) := rfl
  rw [e, sumOnZ_nat _ _ (by decide), sumOnZ_nat _ _ (by decide)] at h
  exact sumN_byte a b x y 4294967295 (by decide) (by omega)

theorem frame_count (l : List UInt8) (hl : l.length ≤ 262144) (r : List UInt8) : unfC (frameL l ++ r) = l.length := by
  unfold unfC
  have e : (frameL l ++ r).take 4 = fourL l.length := by simp [frameL, fourL]
  rw [e, wordL_four _ (by omega)]
/-- A beginning of a frame. -/
theorem tells_cut (l : List UInt8) (hl : l.length ≤ 262144) (m : Nat) (hm : m < l.length + 8) : unfE ((frameL l).take m) = 10 := by
  have hlen : ((frameL l).take m).length = m := by rw [List.length_take, frameL_length]; omega
  unfold unfE
  rw [hlen]
  by_cases h8 : m < 8
  · rw [if_pos h8]
  · have hc : unfC ((frameL l).take m) = l.length := by
      unfold unfC
      rw [List.take_take, Nat.min_eq_left (by omega)]
      have := frame_count l hl []
      unfold unfC at this
      simpa using this
    rw [if_neg h8, hc, if_neg (by omega), if_pos (by omega)]
theorem sum_nat (l : List UInt8) : ((sumZ l).toNat : Int) = sumZ l ∧ (sumZ l).toNat < 4294967296 := by
  have := sumZ_bd l
  omega
/-- A whole frame, whatever stands behind it. -/
theorem tells_whole (l : List UInt8) (hl : l.length ≤ 262144) (r : List UInt8) : unfE (frameL l ++ r) = 0 ∧ unfN (frameL l ++ r) = l.length + 8 ∧ unfB (frameL l ++ r) = l := by
  have hc := frame_count l hl r
  have hlen : (frameL l ++ r).length = l.length + 8 + r.length := by rw [List.length_append, frameL_length]
  have hn := sum_nat (fourL l.length ++ l)
  have h4 : (frameL l ++ r).take 4 = fourL l.length := by simp [frameL, fourL]
  have h44 : ((frameL l ++ r).drop 4).take 4 = fourL (sumZ (fourL l.length ++ l)).toNat := by simp [frameL, fourL]
  have h8 : ((frameL l ++ r).drop 8).take l.length = l := by simp [frameL, fourL]
  have hE : unfE (frameL l ++ r) = 0 := by
    unfold unfE
    rw [hlen, hc, if_neg (by omega), if_neg (by omega), if_neg (by omega), h44, wordL_four _ hn.2, h4, h8, if_neg]
    intro h
    exact h hn.1
  refine ⟨hE, ?_, ?_⟩
  · unfold unfN; rw [if_pos hE, hc]; omega
  · unfold unfB; rw [if_pos hE, hc, h8]
theorem wordL_inj {a b c d a' b' c' d' : UInt8} (h : wordL [a, b, c, d] = wordL [a', b', c', d']) : a = a' ∧ b = b' ∧ c = c' ∧ d = d' := by
  have q : ∀ x : UInt8, x.toNat < 256 := fun x => x.toNat_lt
  have := q a; have := q b; have := q c; have := q d; have := q a'; have := q b'; have := q c'; have := q d'
  simp [wordL] at h
  refine ⟨UInt8.toNat_inj.1 ?_, UInt8.toNat_inj.1 ?_, UInt8.toNat_inj.1 ?_, UInt8.toNat_inj.1 ?_⟩ <;> omega
theorem wordL_set (q : List UInt8) (hq : q.length = 4) (j : Nat) (hj : j < 4) (y : UInt8) (hy : y ≠ q.getD j 0) : wordL (q.set j y) ≠ wordL q := by
  match q, hq with
  | [a, b, c, d], _ =>
    intro h
    rcases (show j = 0 ∨ j = 1 ∨ j = 2 ∨ j = 3 by omega) with rfl | rfl | rfl | rfl
    · exact hy (wordL_inj h).1
    · exact hy (wordL_inj h).2.1
    · exact hy (wordL_inj h).2.2.1
    · exact hy (wordL_inj h).2.2.2
/-- A frame one byte of which behind its count was changed. -/
theorem tells_turned (l : List UInt8) (hl : l.length ≤ 262144) (i : Nat) (hi4 : 4 ≤ i) (hi : i < l.length + 8) (y : UInt8) (hy : y ≠ (frameL l).getD i 0) : unfE ((frameL l).set i y) = 8 := by
  have hn := sum_nat (fourL l.length ++ l)
  have hlen : ((frameL l).set i y).length = l.length + 8 := by rw [List.length_set, frameL_length]
  have hc : unfC ((frameL l).set i y) = l.length := by
    unfold unfC
    rw [List.take_set_of_le (by omega)]
    have := frame_count l hl []
    unfold unfC at this
    simpa using this
  have h4 : ((frameL l).set i y).take 4 = fourL l.length := by
    rw [List.take_set_of_le (by omega)]
    simp [frameL, fourL]
  unfold unfE
  rw [hlen, hc, if_neg (by omega), if_neg (by omega), if_neg (by omega), h4, if_pos]
  generalize hS : (sumZ (fourL l.length ++ l)).toNat = S at *
  have hf : frameL l = fourL l.length ++ (fourL S ++ l) := by unfold frameL; rw [hS]
  have hp4 : (fourL l.length).length = 4 := rfl
  have hq4 : (fourL S).length = 4 := rfl
  rw [hf] at hy ⊢
  generalize fourL l.length = p at *
  have hw := wordL_four S hn.2
  generalize fourL S = q at *
  by_cases h8 : i < 8
  · have e : (p ++ (q ++ l)).set i y = p ++ (q.set (i - 4) y ++ l) := by
      rw [List.set_append_right _ _ (by omega), hp4, List.set_append_left _ _ (by omega)]
    have e1 : ((p ++ (q.set (i - 4) y ++ l)).drop 4).take 4 = q.set (i - 4) y := by
      rw [List.drop_append_of_le_length (by omega), List.drop_of_length_le (by omega), List.nil_append, List.take_append_of_le_length (by rw [List.length_set]; omega), List.take_of_length_le (by rw [List.length_set]; omega)]
    have e2 : ((p ++ (q.set (i - 4) y ++ l)).drop 8).take l.length = l := by
      rw [← List.append_assoc, List.drop_append_of_le_length (by rw [List.length_append, List.length_set]; omega), List.drop_of_length_le (by rw [List.length_append, List.length_set]; omega), List.nil_append, List.take_of_length_le (Nat.le_refl _)]
    rw [e, e1, e2, ← hn.1]
    have hy' : y ≠ q.getD (i - 4) 0 := by
      intro h
      apply hy
      rw [h]
      simp only [List.getD_eq_getElem?_getD]
      rw [List.getElem?_append_right (by omega), hp4, List.getElem?_append_left (by omega)]
    have := wordL_set q hq4 (i - 4) (by omega) y hy'
    rw [hw] at this
    omega
  · obtain ⟨j, rfl⟩ : ∃ j, i = 8 + j := ⟨i - 8, by omega⟩
    have hj : j < l.length := by omega
    have e : (p ++ (q ++ l)).set (8 + j) y = p ++ (q ++ l.set j y) := by
      rw [List.set_append_right _ _ (by omega), hp4, List.set_append_right _ _ (by omega), hq4]
      congr 3
      omega
    have e1 : ((p ++ (q ++ l.set j y)).drop 4).take 4 = q := by
      rw [List.drop_append_of_le_length (by omega), List.drop_of_length_le (by omega), List.nil_append, List.take_append_of_le_length (by omega), List.take_of_length_le (by omega)]
    have e2 : ((p ++ (q ++ l.set j y)).drop 8).take l.length = l.set j y := by
      rw [← List.append_assoc, List.drop_append_of_le_length (by rw [List.length_append]; omega), List.drop_of_length_le (by rw [List.length_append]; omega), List.nil_append, List.take_of_length_le (by rw [List.length_set]; omega)]
    rw [e, e1, e2, hw, hn.1]
    intro h
    have hy' : y ≠ l[j] := by
      intro h'
      apply hy
      rw [h']
      simp only [List.getD_eq_getElem?_getD]
      rw [List.getElem?_append_right (by omega), hp4, List.getElem?_append_right (by omega), hq4, show 8 + j - 4 - 4 = j by omega, List.getElem?_eq_getElem hj]
      rfl
    apply hy'
    have s1 : l = l.take j ++ l[j] :: l.drop (j + 1) := by rw [← List.drop_eq_getElem_cons hj, List.take_append_drop]
    have s2 : l.set j y = l.take j ++ y :: l.drop (j + 1) := by rw [List.set_eq_take_append_cons_drop, if_pos hj]
    have h3 : sumZ ((p ++ l.take j) ++ y :: l.drop (j + 1)) = sumZ ((p ++ l.take j) ++ l[j] :: l.drop (j + 1)) := by
      rw [List.append_assoc, List.append_assoc, ← s2, ← s1, h]
    exact sumZ_byte _ _ _ _ h3
/-- A byte one bit of which was turned. -/
theorem flip_text (x : UInt8) (j : Nat) (hj : j < 8) : ∃ y : UInt8, (y.toNat : Int) = bits BinOp.xor IntKind.u8 (x.toNat : Int) (2 ^ j % 256) ∧ y ≠ x := by
  have hx : x.toNat < 256 := x.toNat_lt
  have h2 : 2 ^ j ≤ 2 ^ 7 := Nat.pow_le_pow_right (by omega) (by omega)
  have h2p : 0 < 2 ^ j := Nat.pow_pos (by omega)
  have e : (2 : Int) ^ j % 256 = ((2 ^ j : Nat) : Int) := by
    have e1 : (2 : Int) ^ j = ((2 ^ j : Nat) : Int) := by simp
    rw [e1]
    generalize 2 ^ j = q at *
    omega
  have hlt : x.toNat ^^^ 2 ^ j < 256 := Nat.xor_lt_two_pow (n := 8) hx (by omega)
  refine ⟨UInt8.ofNat (x.toNat ^^^ 2 ^ j), ?_, ?_⟩
  · rw [e, u8_xor_nat _ _ hx (by omega), byte_val _ hlt]
  · intro h
    have h3 := congrArg UInt8.toNat h
    have h4 : (UInt8.ofNat (x.toNat ^^^ 2 ^ j)).toNat = x.toNat ^^^ 2 ^ j := ofNat_toNat8 _ hlt
    rw [h4] at h3
    have h5 : (2 ^ j) ^^^ x.toNat = 0 ^^^ x.toNat := by rw [Nat.xor_comm, h3]; simp
    have := xor_cancel h5
    omega
end Go.Proofs.YtglaocghcgcghaaGreatDoor

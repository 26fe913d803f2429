/-
  CONTRACTS: the codec writes a value, a key, a version, each for every argument.
-/
import Derived.Test.YtdookhmaiapclaaGreatDoorCellPlain
import Derived.Test.YtdookhmaiapclaaGreatDoorCodGot
import Derived.Deep.RegionLaw
namespace Go.Proofs.YtdookhmaiapclaaGreatDoor
open Go.RowKit

/-- Block g holds just these cells. -/
structure Box (w : World) (g : Nat) (cs : Array Value) (t : TypeId) : Prop where
  heap : w.heap[g]? = some (.cells cs t (0, 0))
theorem Box.new (w : World) (cs : Array Value) (t : TypeId) : Box (w.alloc (.cells cs t)) w.heap.size cs t := ⟨heap_alloc_new w _⟩
theorem Box.lt {w : World} {g : Nat} {cs : Array Value} {t : TypeId} (h : Box w g cs t) : g < w.heap.size := (Array.getElem?_eq_some_iff.1 h.heap).1
theorem Box.carry {w w' : World} {g : Nat} {cs : Array Value} {t : TypeId} (h : Box w g cs t) (hb : w'.heap[g]? = w.heap[g]?) : Box w' g cs t := ⟨hb.trans h.heap⟩
theorem Box.alloc {w : World} {g : Nat} {cs : Array Value} {t : TypeId} (h : Box w g cs t) (o : Obj) : Box (w.alloc o) g cs t := h.carry (Below.heap_alloc _ _ _ h.lt)
theorem Box.cell {w : World} {g : Nat} {cs : Array Value} {t : TypeId} (h : Box w g cs t) (i : Nat) : w.cell? ⟨g, i, none⟩ = cs[i]? := cell_of_row w g i cs t _ h.heap
theorem Box.frozen {w : World} {g : Nat} {cs : Array Value} {t : TypeId} (h : Box w g cs t) (i : Nat) : w.frozen? ⟨g, i, none⟩ = false := by
  have := h.heap
  simp [World.frozen?, this]
theorem Box.grew {w w' : World} {g : Nat} {cs : Array Value} {t : TypeId} {v v' : Value} (h : Box w g cs t) (hg : Grew w w' v v') (hne : v.ownBlock ≠ some g) : Box w' g cs t :=
  h.carry (hg.rows.block g h.lt (fun e => hne e.symm))
theorem Grew.ne {w w' : World} {g : Nat} {v v' : Value} (hg : Grew w w' v v') (hne : v.ownBlock ≠ some g) (hlt : g < w.heap.size) : v'.ownBlock ≠ some g := fun e => by
  rcases hg.own g e with h1 | h1
  · exact hne h1
  · omega
theorem owns_ne_new {base : Nat} {w : World} {e : TypeId} {size : Nat} {v : Value} {n : Nat} {xs : List Value} (h : w.ownsRow base e size v n xs) : v.ownBlock ≠ some w.heap.size := fun e => by
  have := (h.lt _ e).2
  omega
theorem zig_nat (n : Int) (w : World) (h : I64 n) : Calls Tryz.prog 141 #[.int .i64 n] w fun e w' => e = .returned (.int .u64 (zigN n : Int)) ∧ w' = w := by
  rw [← (zigN_eq h).1]
  exact zig_any n w h.1 h.2
theorem kind_wrap (n : Int) : IntKind.u64.wrap n = (kindN n : Int) := by
  rw [IntKind.wrap_u64]
  unfold kindN
  omega

/-- A row and what it grew to. -/
def Wrote (base : Nat) (v : Value) (n : Nat) (xs news : List UInt8) (w : World) (e : Ending) (w' : World) : Prop :=
  ∃ v', e = .returned v' ∧ w'.ownsRow base 5 1 v' (n + news.length) (B8 (xs ++ news)) ∧ Grew w w' v v'

set_option maxRecDepth 100000 in
set_option maxHeartbeats 800000 in
theorem addValue_any (base : Nat) (v : Value) (n : Nat) (xs : List UInt8) (k : ValV) (w : World) (hown : w.ownsRow base 5 1 v n (B8 xs)) (hk : k.Ok) (hn : n + k.s.size ≤ 140737488350000) (hb : base ≤ w.heap.size) :
    Calls Tryz.prog 142 #[v, .agg (valA k)] w (Wrote base v n xs (valL k) w) := by
  obtain ⟨kind, num, s⟩ := k
  have hk1 : I64 num := hk.num
  have hs : n + s.size ≤ 140737488350000 := hn
  have hB := Box.new w (valA ⟨kind, num, s⟩) 46
  have hne := owns_ne_new hown
  have Hne : Hid _ := hne
  have hbx : base ≤ w.heap.size := hb
  have hl1 := (numL_length (kindN kind)).2
  have hl2 := (numL_length (zigN num)).2
  have Hc1 : Hid _ := addNumber_any base v n xs (kindN kind) (w.alloc (.cells (valA ⟨kind, num, s⟩) 46)) (hown.alloc _) (kindN_lt _) (by omega) (by rw [World.size_alloc]; omega)
  have HB : Hid _ := hB
  clear hB hne hk hn hown
  unfold valA at *
  go_enter Tryz.func142, Tryz.ntmps142
  go_wp2_with fail
  rw [kind_wrap]
  refine Calls.mono (Hid.out Hc1) ?_
  rintro e w1 ⟨v1, rfl, ho1, hg1⟩
  have hB1 := HB.out.grew hg1 Hne.out
  have hne1 := hg1.ne Hne.out HB.out.lt
  have c1 := hB1.cell 1
  have hb1 : base ≤ w1.heap.size := Nat.le_trans (by rw [World.size_alloc]; omega) hg1.rows.size
  have HB1 : Hid _ := hB1
  have Hne1 : Hid _ := hne1
  clear Hc1 hB1 hne1
  go_wp2_with fail
  refine Calls.mono (zig_nat num _ hk1) ?_
  rintro e w1' ⟨rfl, rfl⟩
  go_wp2_with fail
  refine Calls.mono (addNumber_any base v1 _ _ (zigN num) _ ho1 (zigN_eq hk1).2 (by omega) hb1) ?_
  rintro e w2 ⟨v2, rfl, ho2, hg2⟩
  have c2 := (HB1.out.grew hg2 Hne1.out).cell 2
  have hb2 : base ≤ w2.heap.size := Nat.le_trans hb1 hg2.rows.size
  clear c1
  go_wp2_with fail
  refine Calls.mono (addText_any base v2 _ _ s _ ho2 (by omega) hb2) ?_
  rintro e w3 ⟨v3, rfl, ho3, hg3⟩
  go_wp2_with fail
  go_ret
  refine ⟨v3, rfl, ?_, (hg1.trans (hg2.trans hg3)).alloc⟩
  unfold valL strL
  simpa only [List.append_assoc, List.length_append, Nat.add_assoc] using ho3

set_option maxRecDepth 100000 in
set_option maxHeartbeats 800000 in
theorem addKey_any (base : Nat) (v : Value) (n : Nat) (xs : List UInt8) (k : KeyV) (w : World) (hown : w.ownsRow base 5 1 v n (B8 xs)) (hk : k.Ok) (hn : n + (k.table.size + k.part.size + k.col.size) ≤ 140737488350000) (hb : base ≤ w.heap.size) :
    Calls Tryz.prog 120 #[v, .agg (keyA k)] w (Wrote base v n xs (keyL k) w) := by
  obtain ⟨table, part, row, col⟩ := k
  have hk1 : I64 row := hk.row
  have hs : n + (table.size + part.size + col.size) ≤ 140737488350000 := hn
  have Hne : Hid (v.ownBlock ≠ some w.heap.size) := owns_ne_new hown
  have hl1 := txtL_le table
  have hl2 := txtL_le part
  have hl3 := (numL_length (zigN row)).2
  unfold strL at hl1 hl2
  have Hc1 : Hid _ := addText_any base v n xs table (w.alloc (.cells (keyA ⟨table, part, row, col⟩) 24)) (hown.alloc _) (by omega) (by rw [World.size_alloc]; omega)
  have HB : Hid (Box _ _ _ _) := Box.new w (keyA ⟨table, part, row, col⟩) 24
  clear hk hn hown
  unfold keyA at *
  go_enter Tryz.func120, Tryz.ntmps120
  go_wp2_with fail
  refine Calls.mono (Hid.out Hc1) ?_
  rintro e w1 ⟨v1, rfl, ho1, hg1⟩
  have HB1 : Hid (Box _ _ _ _) := HB.out.grew hg1 Hne.out
  have Hne1 : Hid (v1.ownBlock ≠ some w.heap.size) := hg1.ne Hne.out HB.out.lt
  have c1 := HB1.out.cell 1
  have hb1 : base ≤ w1.heap.size := Nat.le_trans (by rw [World.size_alloc]; omega) hg1.rows.size
  clear Hc1
  go_wp2_with fail
  refine Calls.mono (addText_any base v1 _ _ part _ ho1 (by omega) hb1) ?_
  rintro e w2 ⟨v2, rfl, ho2, hg2⟩
  have HB2 : Hid (Box _ _ _ _) := HB1.out.grew hg2 Hne1.out
  have Hne2 : Hid (v2.ownBlock ≠ some w.heap.size) := hg2.ne Hne1.out HB1.out.lt
  have c2 := HB2.out.cell 2
  have hb2 : base ≤ w2.heap.size := Nat.le_trans hb1 hg2.rows.size
  clear c1
  go_wp2_with fail
  refine Calls.mono (zig_nat row _ hk1) ?_
  rintro e w2' ⟨rfl, rfl⟩
  go_wp2_with fail
  refine Calls.mono (addNumber_any base v2 _ _ (zigN row) _ ho2 (zigN_eq hk1).2 (by omega) hb2) ?_
  rintro e w3 ⟨v3, rfl, ho3, hg3⟩
  have c3 := (HB2.out.grew hg3 Hne2.out).cell 3
  have hb3 : base ≤ w3.heap.size := Nat.le_trans hb2 hg3.rows.size
  clear c2
  go_wp2_with fail
  refine Calls.mono (addText_any base v3 _ _ col _ ho3 (by omega) hb3) ?_
  rintro e w4 ⟨v4, rfl, ho4, hg4⟩
  go_wp2_with fail
  go_ret
  refine ⟨v4, rfl, ?_, (hg1.trans (hg2.trans (hg3.trans hg4))).alloc⟩
  unfold keyL strL
  simpa only [List.append_assoc, List.length_append, Nat.add_assoc] using ho4
end Go.Proofs.YtdookhmaiapclaaGreatDoor

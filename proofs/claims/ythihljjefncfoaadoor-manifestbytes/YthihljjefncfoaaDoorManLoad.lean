/-
  CONTRACTS: the first manifest (Begin), the disk's manifest (Load).
-/
import Derived.Test.YthihljjefncfoaaDoorManRead
import Derived.Test.YthihljjefncfoaaDoorManM1
namespace Go.Proofs.YthihljjefncfoaaDoor
open Go.RowKit Go.Maps

def begM : Mf := ⟨[], 1, 1⟩
def nmM : ByteArray := ⟨#[109, 97, 110, 105, 102, 101, 115, 116]⟩
theorem nmM_size : nmM.size ≤ maxLen := by show 8 ≤ maxLen; unfold maxLen; omega
theorem nmM_good : refuse true [nmM] = 0 := by decide
set_option maxRecDepth 100000 in
theorem beginM_any (w : World) : Calls Tryd.prog 18 #[] w fun e w' => e = .returned (.agg #[.slice none 0 0, .int .i64 1, .int .i64 1]) ∧ w.grownBy w' none := by
  have hg : Hid (∀ o : Obj, (w.alloc o).heap[w.heap.size]? = some o) := fun o => heap_alloc_new w o
  go_enter Tryd.func18, Tryd.ntmps18
  go_wp2_with fail
  refine bodyPost_ret (v := .agg #[.slice none 0 0, .int .i64 1, .int .i64 1]) (results_cell_row Tryd.results18 _ _ w.heap.size 24 _ _ _ rfl (hg.out _) Tryd.underlying24 rfl (by kernel_rfl)) rfl ?_
  exact ⟨rfl, World.grownBy_alloc _ _ _⟩
set_option maxRecDepth 100000 in
set_option maxHeartbeats 1000000 in
theorem load_none {w : World} {d bm : Nat} {S : St} (h : DiskAt w d bm S) (hon : S.on = true) (hf : find S.fs (nameOf nmM) = none) :
    Calls Tryd.prog 22 #[.pointer (some ⟨d, 0, none⟩)] w fun e w' => e = .returned (.tuple #[.agg #[.slice none 0 0, .int .i64 1, .int .i64 1], .int .i64 0]) ∧ w.grownBy w' none := by
  have k0 := Blk.new w [.slice none 0 0, .int .i64 0, .int .i64 0] 24
  have hG0 : w.grownBy (w.alloc (.cells #[.slice none 0 0, .int .i64 0, .int .i64 0] 24)) none := World.grownBy_alloc _ _ _
  have CR : Hid (Calls Tryd.prog 40 #[.pointer (some ⟨d, 0, none⟩), .string ⟨#[109, 97, 110, 105, 102, 101, 115, 116]⟩] (w.alloc (.cells #[.slice none 0 0, .int .i64 0, .int .i64 0] 24)) fun x w' => x = .returned (.tuple #[.slice none 0 0, .int .i64 4]) ∧ w.grownBy w' none ∧ Blk w' w.heap.size [.slice none 0 0, .int .i64 0, .int .i64 0] 24) :=
    (read_none (h.alloc _) nmM nmM_size (by rw [hon]; exact nmM_good) hf).mono fun x w' hh => ⟨hh.1, hG0.andThen hh.2 (fun j hj => by cases hj), k0.carry (hh.2.block _ k0.lt (by simp))⟩
  have CB : Hid (∀ u, w.grownBy u none → Blk u w.heap.size [.slice none 0 0, .int .i64 0, .int .i64 0] 24 → Calls Tryd.prog 18 #[] u fun e w' => e = .returned (.agg #[.slice none 0 0, .int .i64 1, .int .i64 1]) ∧ w.grownBy w' none ∧ Blk w' w.heap.size [.slice none 0 0, .int .i64 0, .int .i64 0] 24) := fun u hu hk => (beginM_any u).mono fun e w' hh => ⟨hh.1, hu.andThen hh.2 (fun j hj => by cases hj), hk.carry (hh.2.block _ hk.lt (by simp))⟩
  clear h hon hf k0 hG0
  go_enter Tryd.func22, Tryd.ntmps22
  go_wp2_with fail
  go_fit CR.out
  rintro e w2 ⟨rfl, hg2, hk2⟩
  have C2 := CB.out w2 hg2 hk2
  clear hg2 hk2
  go_wp2_with fail
  go_fit C2
  rintro e w5 ⟨rfl, hg5, hk5⟩
  have f0 := hk5.frozen 0
  have f1 := hk5.frozen 1
  have f2 := hk5.frozen 2
  have n0 := hk5.cell 0 rfl
  have n1 := hk5.cell 1 rfl
  have n2 := hk5.cell 2 rfl
  have HK : Hid (Blk (((w5.setCell ⟨w.heap.size, 0, none⟩ (.slice none 0 0)).setCell ⟨w.heap.size, 1, none⟩ (.int .i64 1)).setCell ⟨w.heap.size, 2, none⟩ (.int .i64 1)) w.heap.size [.slice none 0 0, .int .i64 1, .int .i64 1] 24) := ((hk5.setTo 0 _ _ rfl).setTo 1 _ _ rfl).setTo 2 _ _ rfl
  have HG : Hid (w.grownBy (((w5.setCell ⟨w.heap.size, 0, none⟩ (.slice none 0 0)).setCell ⟨w.heap.size, 1, none⟩ (.int .i64 1)).setCell ⟨w.heap.size, 2, none⟩ (.int .i64 1)) none) := grownBy_setNew (grownBy_setNew (grownBy_setNew hg5 (Nat.le_refl _)) (Nat.le_refl _)) (Nat.le_refl _)
  clear hk5 hg5 C2
  go_wp2_with fail
  refine bodyPost_ret (v := .tuple #[.agg #[.slice none 0 0, .int .i64 1, .int .i64 1], .int .i64 0]) (results_row_tmpM Tryd.results22 _ _ w.heap.size 24 _ _ _ _ rfl rfl HK.out Tryd.underlying24 rfl (by kernel_rfl)) rfl ?_
  exact ⟨rfl, HG.out⟩
end Go.Proofs.YthihljjefncfoaaDoor

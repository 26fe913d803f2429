/-
  CONTRACT: the digest of cells.
-/
import Derived.Test.YtjjbghbhnnionaaCellMany
import Derived.Test.YtjjbghbhnnionaaMurSum
import Derived.Test.YtjjbghbhnnionaaCxWeigh
namespace Go.Proofs.Ytjjbghbhnnionaa
open Go.RowKit

def toC (c : Cx) : CellV := ⟨⟨c.k.t, c.k.p, c.k.r, c.k.c⟩, ⟨c.v.time, c.v.dead, c.v.loc, ⟨c.v.kind, c.v.num, c.v.s⟩⟩⟩
theorem XSees.c {w : World} {ao : Option Addr} {l : List Cx} (h : XSees w ao l) : CSees w ao (l.map toC) := by
  intro i c hc
  rw [List.getElem?_map] at hc
  cases hl : l[i]? with
  | none => rw [hl] at hc; cases hc
  | some x =>
    rw [hl] at hc
    obtain rfl : toC x = c := by simpa using hc
    obtain ⟨b, off, e, t⟩ := h i x hl
    refine ⟨b, off, e, fun j v hv => ?_⟩
    match j, hv with
    | 0, hv => obtain rfl := Option.some.inj hv; exact t.c0
    | 1, hv => obtain rfl := Option.some.inj hv; exact t.c1
    | 2, hv => obtain rfl := Option.some.inj hv; exact t.c2
    | 3, hv => obtain rfl := Option.some.inj hv; exact t.c3
    | 4, hv => obtain rfl := Option.some.inj hv; exact t.c4
    | 5, hv => obtain rfl := Option.some.inj hv; exact t.c5
    | 6, hv => obtain rfl := Option.some.inj hv; exact t.c6
    | 7, hv => obtain rfl := Option.some.inj hv; exact t.c7
    | 8, hv => obtain rfl := Option.some.inj hv; exact t.c8
    | 9, hv => obtain rfl := Option.some.inj hv; exact t.c9
    | j + 10, hv => exact absurd hv (by simp [cellA])
/-- What numbers a cell has. -/
structure Cx.Nums (c : Cx) : Prop where
  r : InI c.k.r
  n : InI c.v.time ∧ InI c.v.loc ∧ InI c.v.kind ∧ InI c.v.num
theorem Cx.Nums.ok {c : Cx} (h : c.Nums) : (toC c).Ok := ⟨⟨h.r⟩, ⟨h.n.1, h.n.2.1, ⟨h.n.2.2.1, h.n.2.2.2⟩⟩⟩
/-- The bytes of texts that are written. -/
def wtY (c : Cx) : Nat := c.k.t.size + c.k.p.size + c.k.c.size + (if c.v.dead then 0 else c.v.s.size)
def wtYs (l : List Cx) : Nat := (l.map wtY).sum
theorem wtL_toC (l : List Cx) : wtLD (l.map toC) = wtYs l := by
  unfold wtLD wtYs
  rw [List.map_map]; rfl
theorem wtYs_le (l : List Cx) : wtYs l ≤ wtXs l := by
  induction l with
  | nil => simp [wtYs, wtXs]
  | cons c l ih =>
    have h : wtY c ≤ wtX c := by unfold wtY wtX; split <;> omega
    unfold wtYs wtXs at *
    simp only [List.map_cons, List.sum_cons]
    omega
/-- The digest. -/
def dgB (l : List UInt8) : Int := ((sumB l 0#64).1.toNat : Int)
set_option maxHeartbeats 800000 in
theorem digest_any (ao : Option Addr) (l : List Cx) (cap : Nat) (w : World) (hs : XSees w ao l) (hok : ∀ c ∈ l, c.Nums) (hw : wtYs l + 81 * l.length ≤ 100000) :
    Calls Try.prog 18 #[.slice ao l.length cap] w fun e w' => e = .returned (.int .u64 (dgB (cellsL (l.map toC)))) ∧ Below w.heap.size w w' := by
  have hC := cells_anyD ao (l.map toC) cap w hs.c (fun c hc => by obtain ⟨x, hx, rfl⟩ := List.mem_map.1 hc; exact (hok x hx).ok) (by rw [wtL_toC, List.length_map]; omega)
  rw [List.length_map] at hC
  have hlen : (cellsL (l.map toC)).length ≤ 200000 := by
    have h1 := manyL_leD (l.map toC)
    have h2 := (numL_length (l.map toC).length).2
    rw [wtL_toC, List.length_map] at h1
    unfold cellsL
    rw [List.length_append]
    omega
  have C : Hid (Calls Try.prog 47 #[.slice ao l.length cap] w fun e w' => ∃ v', e = .returned v' ∧ w'.ownsRow w.heap.size 5 1 v' (cellsL (l.map toC)).length (B8 (cellsL (l.map toC))) ∧ Below w.heap.size w w') := hC
  have S : Hid (∀ (ao' : Option Addr) (cap' : Nat) (w' : World), (cellsL (l.map toC)).length ≤ cap' → Sees w' ao' (cellsL (l.map toC)) → Calls Try.prog 46 #[.slice ao' (cellsL (l.map toC)).length cap', .int .u64 0] w' fun e w'' => e = .returned (.tuple #[.int .u64 (dgB (cellsL (l.map toC))), .int .u64 ((sumB (cellsL (l.map toC)) 0#64).2.toNat : Int)]) ∧ Below w'.heap.size w' w'') :=
    fun ao' cap' w' h1 h2 => sum_any ao' _ cap' 0#64 w' (by omega) h1 h2
  clear hC hs hok hw
  generalize dgB (cellsL (l.map toC)) = D at *
  generalize ((sumB (cellsL (l.map toC)) 0#64).2.toNat : Int) = D2 at *
  generalize cellsL (l.map toC) = bs at *
  go_enter Try.func18, Try.ntmps18
  go_wp2_with fail
  refine C.out.mono ?_
  rintro x w1 ⟨v1, rfl, ho1, hb1⟩
  obtain ⟨ao1, cap1, rfl, hs1, -, -⟩ := owns_sees ho1
  have hl1 : bs.length ≤ cap1 := by
    rcases ho1.2 with ⟨_, h0⟩ | ⟨g, cap', cur, h, _, _, hn, _⟩
    · omega
    · injection h with _ _ h3
      omega
  have S1 : Hid (Calls Try.prog 46 #[.slice ao1 bs.length cap1, .int .u64 0] w1 fun e w'' => e = .returned (.tuple #[.int .u64 D, .int .u64 D2]) ∧ Below w1.heap.size w1 w'') := S.out ao1 cap1 w1 hl1 hs1
  clear ho1 hs1 hl1 S C hlen
  go_wp2_with fail
  refine S1.out.mono ?_
  rintro x w2 ⟨rfl, hb2⟩
  go_wp2_with fail
  go_ret
  exact ⟨rfl, hb1.trans (hb2.mono hb1.size)⟩
/-- What the digest does not look at. -/
def blur (k n : Int) (s : ByteArray) (loc : Int) (c : Cx) : Cx := if c.v.dead then ⟨c.k, ⟨c.v.time, c.v.dead, c.v.loc, k, n, s⟩⟩ else ⟨c.k, ⟨c.v.time, c.v.dead, loc, c.v.kind, c.v.num, c.v.s⟩⟩
theorem blur_bytes (k n : Int) (s : ByteArray) (loc : Int) (c : Cx) : cellL (toC (blur k n s loc c)) = cellL (toC c) := by
  unfold blur
  split
  · rename_i h
    unfold cellL verL toC keyL
    simp only [h, if_true]
  · rename_i h
    unfold cellL verL toC keyL
    simp only [h]
    rfl
theorem blur_wt (k n : Int) (s : ByteArray) (loc : Int) (c : Cx) : wtY (blur k n s loc c) = wtY c := by
  unfold blur wtY
  cases c.v.dead <;> simp
theorem blur_wts (k n : Int) (s : ByteArray) (loc : Int) (l : List Cx) : wtYs (l.map (blur k n s loc)) = wtYs l := by
  unfold wtYs
  rw [List.map_map]
  congr 1
  exact List.map_congr_left fun c _ => blur_wt k n s loc c
theorem blur_nums {k n loc : Int} (s : ByteArray) {c : Cx} (hk : InI k) (hn : InI n) (hl : InI loc) (h : c.Nums) : (blur k n s loc c).Nums := by
  unfold blur
  split
  · exact ⟨h.r, h.n.1, h.n.2.1, hk, hn⟩
  · exact ⟨h.r, h.n.1, hl, h.n.2.2.1, h.n.2.2.2⟩
theorem blur_cells (k n : Int) (s : ByteArray) (loc : Int) (l : List Cx) : cellsL ((l.map (blur k n s loc)).map toC) = cellsL (l.map toC) := by
  unfold cellsL
  rw [List.length_map, List.length_map, List.length_map]
  congr 1
  unfold manyL
  induction l with
  | nil => rfl
  | cons c l ih =>
    simp only [List.map_cons, List.flatMap_cons]
    rw [ih, blur_bytes]
end Go.Proofs.Ytjjbghbhnnionaa

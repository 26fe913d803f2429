/-
  CONTRACTS: a token that is told (upTo), a byte that is wrong (wrong), the rest of a text (rest); what bytes are (isBlank, isDigit, isLetter, isPlain).
-/
import Derived.Test.YtajebjkpmbehgaaGreatDoorLexRune
import Derived.Test.YtajebjkpmbehgaaGreatDoorBlk
import Derived.Laws.ResultCell
import Derived.ScopeJumps
import Derived.WalkMore
namespace Go.Proofs.YtajebjkpmbehgaaGreatDoor
open Go.RowKit

/-- A text of bytes. -/
def xB (l : List UInt8) : ByteArray := ⟨l.toArray⟩
theorem xB_list (l : List UInt8) : (xB l).data.toList = l := rfl
theorem xB_size (l : List UInt8) : (xB l).size = l.length := rfl
theorem xB_of (s : ByteArray) : xB s.data.toList = s := rfl
/-- A token's cells, as a list. -/
def Tk.cs (t : Tk) : List Value := [.int .i64 t.kind, .string (xB t.s), .int .i64 t.vk, .int .i64 t.vn, .string (xB t.vs), .int .i64 (t.b : Int), .int .i64 (t.e : Int)]
def Tk.v (t : Tk) : Value := .agg t.cs.toArray
def noTk : Tk := ⟨0, [], 0, 0, [], 0, 0⟩
/-- What a cut tells of what begins at byte p. -/
def resT (x : Option Tk × Nat) (p : Nat) : Value := match x with
  | (some t, _) => .tuple #[(t.at p).v, .int .i64 0, .int .i64 0]
  | (none, m) => .tuple #[noTk.v, .int .i64 ((m + p : Nat) : Int), .int .i64 11]
theorem results_cell_two {fn : Func} {p u x : Tmp} {ty : TypeId} (h : fn.results = #[.cell p ty, .tmp u, .tmp x]) (tmps : Array Value) (P : Program) (w : World) :
    (results fn tmps).run P w =
      ((asAddr (tmps.getD p undef)).run P w).andThen fun a w₁ => ((loadVar ty a).run P w₁).andThen fun v w₂ => .ok (.tuple #[v, tmps.getD u undef, tmps.getD x undef]) w₂ := by
  simp only [results, h]
  simp [Sem.run_bind, Result.andThen]
theorem results_row_two {P : Program} {fn : Func} {p u x : Tmp} {ty : TypeId} (h : fn.results = #[.cell p ty, .tmp u, .tmp x]) (tmps : Array Value) (w : World) (g : Nat) (t : TypeId) (cs : Array Value) (fr : Nat × Nat) (d : TypeDesc) (v y : Value)
    (hp : tmps.getD p undef = .pointer (some ⟨g, 0, none⟩)) (hv : tmps.getD u undef = v) (hy : tmps.getD x undef = y) (hg : w.heap[g]? = some (.cells cs t fr))
    (hu : P.underlying ty = some d) (hd : (match d with | .struct _ | .array _ _ => true | _ => false) = true) (hi : (P.info? ty).map (·.size) = some cs.size) :
    (results fn tmps).run P w = .ok (.tuple #[.agg cs, v, y]) w := by
  rw [results_cell_two h, hp, hv, hy]
  simp [asAddr, run_loadVar_row w g t ty cs fr d hg hu hd hi, Result.andThen]
theorem results_row_one {P : Program} {fn : Func} {p u : Tmp} {ty : TypeId} (h : fn.results = #[.cell p ty, .tmp u]) (tmps : Array Value) (w : World) (g : Nat) (t : TypeId) (cs : Array Value) (fr : Nat × Nat) (d : TypeDesc) (v : Value)
    (hp : tmps.getD p undef = .pointer (some ⟨g, 0, none⟩)) (hv : tmps.getD u undef = v) (hg : w.heap[g]? = some (.cells cs t fr))
    (hu : P.underlying ty = some d) (hd : (match d with | .struct _ | .array _ _ => true | _ => false) = true) (hi : (P.info? ty).map (·.size) = some cs.size) :
    (results fn tmps).run P w = .ok (.tuple #[.agg cs, v]) w := by
  rw [results_cell_tmp h, hp, hv]
  simp [asAddr, run_loadVar_row w g t ty cs fr d hg hu hd hi, Result.andThen]
theorem new_at (w : World) (o : Obj) {n : Nat} (h : w.heap.size = n) : (w.alloc o).heap[n]? = some o := by subst h; exact heap_alloc_new w o
/-- A block of seven cells, all stored. -/
theorem set7 {w : World} {g : Nat} {a0 a1 a2 a3 a4 a5 a6 : Value} {t : TypeId} (h : Blk w g [a0, a1, a2, a3, a4, a5, a6] t) (v0 v1 v2 v3 v4 v5 v6 : Value) :
    (((((((w.setCell ⟨g, 0, none⟩ v0).setCell ⟨g, 1, none⟩ v1).setCell ⟨g, 2, none⟩ v2).setCell ⟨g, 3, none⟩ v3).setCell ⟨g, 4, none⟩ v4).setCell ⟨g, 5, none⟩ v5).setCell ⟨g, 6, none⟩ v6).heap[g]? = some (.cells #[v0, v1, v2, v3, v4, v5, v6] t (0, 0)) :=
  ((((((h.set 0 v0).set 1 v1).set 2 v2).set 3 v3).set 4 v4).set 5 v5).set 6 v6
theorem below7 {w wa : World} {n g : Nat} (h : Below n wa w) (hg : n ≤ g) (v0 v1 v2 v3 v4 v5 v6 : Value) :
    Below n wa (((((((w.setCell ⟨g, 0, none⟩ v0).setCell ⟨g, 1, none⟩ v1).setCell ⟨g, 2, none⟩ v2).setCell ⟨g, 3, none⟩ v3).setCell ⟨g, 4, none⟩ v4).setCell ⟨g, 5, none⟩ v5).setCell ⟨g, 6, none⟩ v6) :=
  ((((((h.setCell (p := ⟨g, 0, none⟩) hg v0).setCell (p := ⟨g, 1, none⟩) hg v1).setCell (p := ⟨g, 2, none⟩) hg v2).setCell (p := ⟨g, 3, none⟩) hg v3).setCell (p := ⟨g, 4, none⟩) hg v4).setCell (p := ⟨g, 5, none⟩) hg v5).setCell (p := ⟨g, 6, none⟩) hg v6

/-- A token's cells, none of them set. -/
def zero7 : List Value := [.int .i64 0, .string ⟨#[]⟩, .int .i64 0, .int .i64 0, .string ⟨#[]⟩, .int .i64 0, .int .i64 0]
/-- What a cut's own two blocks are, whatever was called. -/
theorem pair_keeps (w : World) (s : ByteArray) (p : Nat) (w1 : World) (hb : Below ((w.alloc (.cells #[.string s, .int .i64 (p : Int)] 43)).alloc (.cells #[.int .i64 0, .string ⟨#[]⟩, .int .i64 0, .int .i64 0, .string ⟨#[]⟩, .int .i64 0, .int .i64 0] 25)).heap.size ((w.alloc (.cells #[.string s, .int .i64 (p : Int)] 43)).alloc (.cells #[.int .i64 0, .string ⟨#[]⟩, .int .i64 0, .int .i64 0, .string ⟨#[]⟩, .int .i64 0, .int .i64 0] 25)) w1) :
    Blk w1 (w.heap.size + 1) [.int .i64 0, .string ⟨#[]⟩, .int .i64 0, .int .i64 0, .string ⟨#[]⟩, .int .i64 0, .int .i64 0] 25 ∧ Below w.heap.size w w1 := by
  have h2 : w.heap.size + 1 < ((w.alloc (.cells #[.string s, .int .i64 (p : Int)] 43)).alloc (.cells #[.int .i64 0, .string ⟨#[]⟩, .int .i64 0, .int .i64 0, .string ⟨#[]⟩, .int .i64 0, .int .i64 0] 25)).heap.size := by simp
  refine ⟨Blk.carry (new_at _ _ (by simp)) (hb.block _ h2), ?_⟩
  have hB : Below w.heap.size w ((w.alloc (.cells #[.string s, .int .i64 (p : Int)] 43)).alloc (.cells #[.int .i64 0, .string ⟨#[]⟩, .int .i64 0, .int .i64 0, .string ⟨#[]⟩, .int .i64 0, .int .i64 0] 25)) := ((Below.refl _ _).alloc (Nat.le_refl _) _).alloc (by simp) _
  exact hB.trans (hb.mono hB.size)
theorem resT_at (k vk vn : Int) (ts vs : List UInt8) (e p : Nat) : resT (some ⟨k, ts, vk, vn, vs, 0, e⟩, 0) p = .tuple #[.agg #[.int .i64 k, .string (xB ts), .int .i64 vk, .int .i64 vn, .string (xB vs), .int .i64 (p : Int), .int .i64 ((e + p : Nat) : Int)], .int .i64 0, .int .i64 0] := by
  simp [resT, Tk.at, Tk.v, Tk.cs]
set_option maxRecDepth 100000 in
set_option maxHeartbeats 2000000 in
theorem upTo_any (s : ByteArray) (p q k vk vn b0 e0 : Int) (ts vs : ByteArray) (w : World) :
    Calls Tryz.prog 40 #[.agg #[.string s, .int .i64 p], .int .i64 q, .agg #[.int .i64 k, .string ts, .int .i64 vk, .int .i64 vn, .string vs, .int .i64 b0, .int .i64 e0]] w fun e w' =>
      e = .returned (.tuple #[.agg #[.int .i64 k, .string ts, .int .i64 vk, .int .i64 vn, .string vs, .int .i64 p, .int .i64 q], .int .i64 0, .int .i64 0]) ∧ Below w.heap.size w w' := by
  obtain ⟨n, hn⟩ : ∃ n, w.heap.size = n := ⟨_, rfl⟩
  rw [hn]
  go_enter Tryz.func40, Tryz.ntmps40
  go_wp2_with fail
  refine bodyPost_ret (results_row_two Tryz.results40 _ _ (n + 1 + 1) 25 _ _ _ _ _ rfl rfl rfl (new_at _ _ (by simp [hn])) Tryz.underlying25 rfl (by kernel_rfl)) rfl ?_
  exact ⟨rfl, (((Below.refl _ _).alloc (by omega) _).alloc (by simp; omega) _).alloc (by simp; omega) _⟩
set_option maxRecDepth 100000 in
set_option maxHeartbeats 2000000 in
theorem wrong_any (p : Int) (w : World) : Calls Tryz.prog 39 #[.int .i64 p] w fun e w' => e = .returned (.tuple #[noTk.v, .int .i64 p, .int .i64 11]) ∧ Below w.heap.size w w' := by
  obtain ⟨n, hn⟩ : ∃ n, w.heap.size = n := ⟨_, rfl⟩
  rw [hn]
  go_enter Tryz.func39, Tryz.ntmps39
  go_wp2_with fail
  refine bodyPost_ret (results_row_two Tryz.results39 _ _ n 25 _ _ _ _ _ rfl rfl rfl (new_at _ _ (by simp [hn])) Tryz.underlying25 rfl (by kernel_rfl)) rfl ?_
  exact ⟨rfl, (Below.refl _ _).alloc (by omega) _⟩
set_option maxRecDepth 100000 in
set_option maxHeartbeats 2000000 in
theorem rest_any (s : ByteArray) (p : Nat) (w : World) (hp : p ≤ s.size) : Calls Tryz.prog 18 #[.agg #[.string s, .int .i64 (p : Int)]] w fun e w' => e = .returned (.string (s.extract p s.size)) ∧ Below w.heap.size w w' := by
  have h1 : (p : Int) ≤ (s.size : Int) := by omega
  obtain ⟨n, hn⟩ : ∃ n, w.heap.size = n := ⟨_, rfl⟩
  rw [hn]
  go_enter Tryz.func18, Tryz.ntmps18
  go_wp2_with fail
  go_ret
  exact ⟨rfl, (Below.refl _ _).alloc (by omega) _⟩
set_option maxRecDepth 100000 in
set_option maxHeartbeats 2000000 in
theorem end_any (s : ByteArray) (p : Nat) (w : World) : Calls Tryz.prog 25 #[.agg #[.string s, .int .i64 (p : Int)]] w fun e w' => e = .returned (resT (some ⟨0, [], 0, 0, [], 0, 0⟩, 0) p) ∧ Below w.heap.size w w' := by
  have HU : Hid _ := fun wr => upTo_any s p p 0 0 0 0 0 ⟨#[]⟩ ⟨#[]⟩ wr
  have HR : Hid _ := fun w1 hb => pair_keeps w s p w1 hb
  have HE : Hid (resT (some ⟨0, [], 0, 0, [], 0, 0⟩, 0) p = _) := resT_at 0 0 0 [] [] 0 p
  obtain ⟨n, hn⟩ : ∃ n, w.heap.size = n := ⟨_, rfl⟩
  rw [hn] at HR ⊢
  go_enter Tryz.func25, Tryz.ntmps25
  go_wp2_with (go_at_call 40; refine (HU.out _).mono ?_; rintro e w1 ⟨rfl, hb⟩; obtain ⟨R, hB⟩ := HR.out w1 hb; clear hb HU HR; have f0 := R.frozen 0; have f1 := R.frozen 1; have f2 := R.frozen 2; have f3 := R.frozen 3; have f4 := R.frozen 4; have f5 := R.frozen 5; have f6 := R.frozen 6; have d0 := R.cell 0 rfl; have d1 := R.cell 1 rfl; have d2 := R.cell 2 rfl; have d3 := R.cell 3 rfl; have d4 := R.cell 4 rfl; have d5 := R.cell 5 rfl; have d6 := R.cell 6 rfl; have HS : Hid _ := set7 R; have HB : Hid _ := below7 hB (Nat.le_succ n); clear R hB)
  refine bodyPost_ret (v := .tuple #[.agg #[.int .i64 0, .string ⟨#[]⟩, .int .i64 0, .int .i64 0, .string ⟨#[]⟩, .int .i64 (p : Int), .int .i64 (p : Int)], .int .i64 0, .int .i64 0]) (results_row_two Tryz.results25 _ _ (n + 1) 25 _ _ _ _ _ rfl rfl rfl (HS.out _ _ _ _ _ _ _) Tryz.underlying25 rfl (by kernel_rfl)) rfl ?_
  rw [HE.out]
  exact ⟨by simp [xB], HB.out _ _ _ _ _ _ _⟩
end Go.Proofs.YtajebjkpmbehgaaGreatDoor

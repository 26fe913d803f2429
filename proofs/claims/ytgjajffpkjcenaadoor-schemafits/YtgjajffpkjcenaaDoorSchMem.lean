/-
  TABLES IN MEMORY; the names of their columns.
-/
import Derived.Test.YtgjajffpkjcenaaDoorSchRefW
import Derived.Test.YtgjajffpkjcenaaDoorRegCl
import Derived.Test.YtgjajffpkjcenaaDoorBlk
import Derived.Maps.OwnSet
import Derived.Maps.OwnOps
namespace Go.Proofs.YtgjajffpkjcenaaDoor
open Go.RowKit

/-- A column; a table. -/
structure Co where
  n : ByteArray
  k : Int
structure Tb where
  t : ByteArray
  p : ByteArray
  r : ByteArray
  cs : List Co
def Co.a (c : Co) : Array Value := #[.string c.n, .int .i64 c.k]
def Co.v (c : Co) : Value := .agg c.a
def Tb.a (T : Tb) (ao : Option Addr) (cap : Nat) : Array Value := #[.string T.t, .string T.p, .string T.r, .slice ao T.cs.length cap]
def Tb.v (T : Tb) (ao : Option Addr) (cap : Nat) : Value := .agg (T.a ao cap)
/-- Columns in memory; texts in memory. -/
def CSee (w : World) (ao : Option Addr) (l : List Co) : Prop := ∀ i c, l[i]? = some c → ∃ b off, ao = some ⟨b, off, none⟩ ∧ w.cell? ⟨b, off + i * 2, none⟩ = some (.string c.n) ∧ w.cell? ⟨b, off + i * 2 + 1, none⟩ = some (.int .i64 c.k)
theorem CSee.below {w w' : World} {ao : Option Addr} {l : List Co} (h : CSee w ao l) (hb : Below w.heap.size w w') : CSee w' ao l := fun i c hc => by
  obtain ⟨b, off, e, k0, k1⟩ := h i c hc
  have hl := World.block_lt_of_cell? _ _ k0
  exact ⟨b, off, e, by rw [hb.cell (p := ⟨b, off + i * 2, none⟩) hl]; exact k0, by rw [hb.cell (p := ⟨b, off + i * 2 + 1, none⟩) hl]; exact k1⟩
def NSee (w : World) (ao : Option Addr) (l : List ByteArray) : Prop := ∀ i s, l[i]? = some s → ∃ b off, ao = some ⟨b, off, none⟩ ∧ w.cell? ⟨b, off + i, none⟩ = some (.string s)
theorem NSee.below {w w' : World} {ao : Option Addr} {l : List ByteArray} (h : NSee w ao l) (hb : Below w.heap.size w w') : NSee w' ao l := fun i s hs => by
  obtain ⟨b, off, e, k0⟩ := h i s hs
  exact ⟨b, off, e, by rw [hb.cell (p := ⟨b, off + i, none⟩) (World.block_lt_of_cell? _ _ k0)]; exact k0⟩
/-- What came in is no longer than memory. -/
structure Tb.Ok (T : Tb) : Prop where
  t : T.t.size ≤ maxLen
  p : T.p.size ≤ maxLen
  r : T.r.size ≤ maxLen
  c : ∀ c ∈ T.cs, c.n.size ≤ maxLen
  l : T.cs.length * 24 ≤ 140737488351232
def sV (l : List ByteArray) : List Value := l.map Value.string
def nmC (T : Tb) : List ByteArray := T.cs.map Co.n
theorem infoStr17 : (Tryd.prog.info? 9).map (fun i => (i.zero, i.size, i.bytes)) = some (some (.string ⟨#[]⟩), 1, 16) := by kernel_rfl
theorem info_of17 {t : TypeId} {z : Value} {k b : Nat} (h : (Tryd.prog.info? t).map (fun i => (i.zero, i.size, i.bytes)) = some (some z, k, b)) : ∃ i, Tryd.prog.info? t = some i ∧ i.zero = some z ∧ i.size = k ∧ i.bytes = b := by
  cases hi : Tryd.prog.info? t with
  | none => rw [hi] at h; cases h
  | some i => rw [hi] at h; simp at h; exact ⟨i, rfl, h.1, h.2.1, h.2.2⟩
theorem src_rec17 {P : Program} {tx e' : TypeId} (hkk : P.underlying tx = some (.slice e')) {w : World} {g k : Nat} {cs : List Value} (hl : cs.length = k) {t : TypeId} (hb : Blk w g cs t) (h1 : ∀ u ∈ cs, u.oneCell' = true) : Src P k tx (.slice (some ⟨g, 0, none⟩) 1 1) 1 cs w :=
  Src.ofSlice w hkk _ 1 1 _ (by omega) (fun j u hu => by rw [Addr.add_lit, Nat.zero_add]; exact hb.cell j hu) h1
theorem src_one17 (w : World) (s : ByteArray) : Src Tryd.prog 1 27 (.slice (some ⟨w.heap.size, 0, none⟩) 1 1) 1 [.string s] (w.alloc (.cells #[.string s] 9)) :=
  src_rec17 Tryd.underlying27 rfl (Blk.new w [.string s] _) (fun u hu => by simp at hu; subst hu; rfl)
theorem owns_keep {w w' : World} {base : Nat} {e : TypeId} {size : Nat} {v : Value} {n : Nat} {xs : List Value} (h : w.ownsRow base e size v n xs) {B : Nat} (hb : Below B w w') (hB : w.heap.size ≤ B) : w'.ownsRow base e size v n xs := by
  rcases h.2 with ⟨rfl, h0⟩ | ⟨g, cap, cur, rfl, hb', hg, hn, hr⟩
  · exact ⟨h.1, .inl ⟨rfl, h0⟩⟩
  · have hlt := (h.lt g rfl).2
    exact h.kept (row := none) ⟨hb.os, hb.tape, hb.output, hb.size, fun k hk _ => hb.block k (Nat.lt_of_lt_of_le hk hB)⟩ (.inr (by simp [Value.ownBlock]))
set_option maxRecDepth 100000 in
set_option maxHeartbeats 1000000 in
theorem columnNames_any (T : Tb) (ao : Option Addr) (cap : Nat) (w : World) (hC : CSee w ao T.cs) (hl : T.cs.length * 24 ≤ 140737488351232) :
    Calls Tryd.prog 26 #[T.v ao cap] w fun e w' => ∃ v, e = .returned v ∧ w'.ownsRow w.heap.size 9 1 v T.cs.length (sV (nmC T)) ∧ Below w.heap.size w w' := by
  obtain ⟨i0, hinf, hq0, hq1, hq2⟩ := info_of17 infoStr17
  have HC : Hid (∀ wr, Below w.heap.size w wr → CSee wr ao T.cs) := fun wr hb => hC.below hb
  have HN : Hid (T.cs.length * 24 ≤ 140737488351232) := hl
  obtain ⟨tt, tp, tr, cs⟩ := T
  have hnz : (cs.length : Int) ≤ 5864062014634 := by have : cs.length * 24 ≤ 140737488351232 := hl; omega
  clear hC hl
  simp only [Tb.v, Tb.a, nmC] at *
  go_enter Tryd.func26, Tryd.ntmps26
  go_wp2_with fail
  go_loopw [3, 9] (fun s3 s9 wr => ∃ k : Nat, k ≤ cs.length ∧ s9 = .int .i64 (k : Int) ∧ Below w.heap.size w wr ∧ wr.ownsRow w.heap.size 9 1 s3 k (sV ((cs.take k).map Co.n))) (fun _ s9 _ => cs.length - (intOf s9).toNat)
  case atStart => exact ⟨0, Nat.zero_le _, rfl, (Below.refl _ _).alloc (Nat.le_refl _) _, World.ownsRow_nil _ _ _ _⟩
  case round =>
    obtain ⟨k, hk, rfl, hb, ho⟩ := hrel
    rcases Nat.lt_or_ge k cs.length with hlt | hge
    · have hcs : cs[k]? = some cs[k] := List.getElem?_eq_getElem hlt
      obtain ⟨b, off, rfl, k0, k1⟩ := HC.out wr hb k _ hcs
      have hst : sV ((cs.take (k + 1)).map Co.n) = sV ((cs.take k).map Co.n) ++ [.string cs[k].n] := by
        rw [List.take_add_one, hcs, List.map_append]; unfold sV; rw [List.map_append]; rfl
      have HST : Hid (sV ((cs.take (k + 1)).map Co.n) = sV ((cs.take k).map Co.n) ++ [.string cs[k].n]) := hst
      have H3 : Hid (∀ w1 : World, Below wr.heap.size wr w1 → w1.ownsRow w.heap.size 9 1 u3 k (sV ((cs.take k).map Co.n))) := fun w1 hh => owns_keep ho hh (Nat.le_refl _)
      have HS2 : Hid (∀ (o : Obj) (x : ByteArray), Src Tryd.prog 1 27 (.slice (some ⟨wr.heap.size + 1, 0, none⟩) 1 1) 1 [.string x] ((wr.alloc o).alloc (.cells #[.string x] 9))) := fun o x => by
        have := src_one17 (wr.alloc o) x
        rwa [World.size_alloc] at this
      have HZ : Hid (w.heap.size ≤ wr.heap.size) := hb.size
      have HE : Hid (∀ (o1 o2 : Obj) (w2 : World) v', Grew ((wr.alloc o1).alloc o2) w2 u3 v' → Below w.heap.size w w2) := fun o1 o2 w2 v' hgr =>
        ((hb.alloc hb.size o1).alloc (by rw [World.size_alloc]; exact Nat.le_trans hb.size (Nat.le_succ _)) o2).trans (hgr.below (by rw [World.size_alloc, World.size_alloc]; have := hb.size; omega) (fun g hg => (ho.lt g hg).1))
      have hm1 : k + 1 ≤ maxLen := by have := HN.out; unfold maxLen; omega
      have hm2 : (k + 1) * 16 ≤ 140737488355328 := by have := HN.out; omega
      have hkz : (k : Int) < (cs.length : Int) := by omega
      generalize cs[k] = c at *
      obtain ⟨cn, ck⟩ := c
      simp only at *
      clear hcs hst ho hb
      go_wp2_with (at_builtin; go_must (refine wpList_append_grew _ rfl (.tmp 13) (.tmp 16) 27 27 rfl w.heap.size 9 i0 (.string ⟨#[]⟩) 1 16 Tryd.underlying27 hinf hq0 hq1 hq2 rfl u3 k _ rfl (H3.out _ (((Below.refl _ _).alloc (Nat.le_refl _) _).alloc (by simp) _)) (.slice (some ⟨wr.heap.size + 1, 0, none⟩) 1 1) 1 [.string cn] rfl (HS2.out _ _) hm1 hm2 (by have := HZ.out; simp; omega) ?_; intro v' w' ho' hg'; have hX := HE.out _ _ _ _ hg'))
      exact ⟨⟨k + 1, by omega, by go_num, hX, by rw [HST.out]; exact ho'⟩, by simp [intOf]; omega⟩
    · obtain rfl : k = cs.length := by omega
      rw [List.take_length] at ho
      clear HC HN
      go_wp2_with fail
      go_ret
      exact ⟨_, rfl, ho, hb⟩
end Go.Proofs.YtgjajffpkjcenaaDoor

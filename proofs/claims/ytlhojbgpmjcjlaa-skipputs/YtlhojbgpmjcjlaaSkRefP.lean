/-
  THE DOCUMENT'S LIST (skerryref06): its memory, while a cell is put in.
-/
import Derived.Test.YtlhojbgpmjcjlaaSkRefL
import Derived.Test.YtlhojbgpmjcjlaaSkIns
namespace Go.Proofs.Ytlhojbgpmjcjlaa
open Go.RowKit

theorem toHidR {p : Prop} (h : p) : Hid p := h
theorem flat_put6 (L : List Cx) (i : Nat) (a : Cx) (v : Vr) (h : L[i]? = some a) : ((((((L.flatMap xs10).set (i * 10 + 4) (.int .i64 v.time)).set (i * 10 + 5) (.bool v.dead)).set (i * 10 + 6) (.int .i64 v.loc)).set (i * 10 + 7) (.int .i64 v.kind)).set (i * 10 + 8) (.int .i64 v.num)).set (i * 10 + 9) (.string v.s) = (L.set i ⟨a.k, v⟩).flatMap xs10 := by
  have hi := (List.getElem?_eq_some_iff.1 h).1
  have at' : ∀ x : Cx, (L.set i x)[i]? = some x := fun x => by simp [hi]
  obtain ⟨k, t, d, l, kd, n, s⟩ := a
  obtain ⟨t', d', l', kd', n', s'⟩ := v
  rw [flat_set xs10_len L i 4 ⟨k, ⟨t, d, l, kd, n, s⟩⟩ ⟨k, ⟨t', d, l, kd, n, s⟩⟩ _ h (by omega) rfl]
  rw [flat_set xs10_len _ i 5 ⟨k, ⟨t', d, l, kd, n, s⟩⟩ ⟨k, ⟨t', d', l, kd, n, s⟩⟩ _ (at' _) (by omega) rfl, List.set_set]
  rw [flat_set xs10_len _ i 6 ⟨k, ⟨t', d', l, kd, n, s⟩⟩ ⟨k, ⟨t', d', l', kd, n, s⟩⟩ _ (at' _) (by omega) rfl, List.set_set]
  rw [flat_set xs10_len _ i 7 ⟨k, ⟨t', d', l', kd, n, s⟩⟩ ⟨k, ⟨t', d', l', kd', n, s⟩⟩ _ (at' _) (by omega) rfl, List.set_set]
  rw [flat_set xs10_len _ i 8 ⟨k, ⟨t', d', l', kd', n, s⟩⟩ ⟨k, ⟨t', d', l', kd', n', s⟩⟩ _ (at' _) (by omega) rfl, List.set_set]
  rw [flat_set xs10_len _ i 9 ⟨k, ⟨t', d', l', kd', n', s⟩⟩ ⟨k, ⟨t', d', l', kd', n', s'⟩⟩ _ (at' _) (by omega) rfl, List.set_set]
/-- Six cells of a row, stored one by one. -/
def set6o (w : World) (g o : Nat) (v : Vr) : World := (((((w.setCell ⟨g, o + 4, none⟩ (.int .i64 v.time)).setCell ⟨g, o + 5, none⟩ (.bool v.dead)).setCell ⟨g, o + 6, none⟩ (.int .i64 v.loc)).setCell ⟨g, o + 7, none⟩ (.int .i64 v.kind)).setCell ⟨g, o + 8, none⟩ (.int .i64 v.num)).setCell ⟨g, o + 9, none⟩ (.string v.s)
theorem row_put6 {w : World} {B g n cap : Nat} {L : List Cx} (h : w.ownsRow B 40 10 (.slice (some ⟨g, 0, none⟩) n cap) n (L.flatMap xs10)) {i : Nat} {a : Cx} (ha : L[i]? = some a) (v : Vr) : (set6o w g (i * 10) v).ownsRow B 40 10 (.slice (some ⟨g, 0, none⟩) n cap) n ((L.set i ⟨a.k, v⟩).flatMap xs10) := by
  have e := flat_put6 L i a v ha
  unfold set6o
  rw [← e]
  have g0 := (h.stored (i * 10 + 4) (.int .i64 v.time)).1
  have g1 := (g0.stored (i * 10 + 5) (.bool v.dead)).1
  have g2 := (g1.stored (i * 10 + 6) (.int .i64 v.loc)).1
  have g3 := (g2.stored (i * 10 + 7) (.int .i64 v.kind)).1
  have g4 := (g3.stored (i * 10 + 8) (.int .i64 v.num)).1
  exact (g4.stored (i * 10 + 9) (.string v.s)).1
theorem owns_frozen {w : World} {B n cap g : Nat} {e : TypeId} {k : Nat} {xs : List Value} (h : w.ownsRow B e k (.slice (some ⟨g, 0, none⟩) n cap) n xs) (i : Nat) : w.frozen? ⟨g, i, none⟩ = false := by
  rcases h.2 with ⟨h1, _⟩ | ⟨g', cap', cur, h1, _, hg, _⟩
  · cases h1
  · obtain rfl : g = g' := by
      injection h1 with e1 _ _
      injection e1 with e2
      injection e2
    simp [World.frozen?, hg]
theorem owns_cap {w : World} {B n cap : Nat} {ao : Option Addr} {e : TypeId} {k : Nat} {xs : List Value} (h : w.ownsRow B e k (.slice ao n cap) n xs) : n ≤ cap := by
  rcases h.2 with ⟨h1, h2⟩ | ⟨g', cap', cur, h1, _, _, hn, _⟩
  · omega
  · injection h1 with _ _ e3
    omega
/-- The cells are in, the heights not yet. -/
structure Mid (B : Nat) (w w' : World) (rb : Nat) (lv : Value) (M' M : List (Cx × Nat)) (vL vH : Value) : Prop where
  blk : Blk w' rb [lv, vL, vH] 34
  L : w'.ownsRow B 40 10 vL M'.length (xN M')
  H : w'.ownsRow B 3 1 vH M.length (vN M)
  own : ∀ g, vL.ownBlock = some g → w.heap.size ≤ g
  os : w'.os = w.os
  tape : w'.tape = w.tape
  output : w'.output = w.output
  size : w.heap.size ≤ w'.heap.size
  kept : ∀ b, b < w.heap.size → b ≠ rb → w'.heap[b]? = w.heap[b]?
theorem tenKeepR {w w' : World} {b o : Nat} {c : Cx} (h : TenX w b o c) (e : w'.heap[b]? = w.heap[b]?) : TenX w' b o c := by
  obtain ⟨c0, c1, c2, c3, c4, c5, c6, c7, c8, c9⟩ := h
  constructor <;> (rw [World.cell?_of_block e]; assumption)
theorem owns_pos {w : World} {B n k : Nat} {e : TypeId} {v : Value} {xs : List Value} (h : w.ownsRow B e k v n xs) (hn : 0 < n) : ∃ g cap, v = .slice (some ⟨g, 0, none⟩) n cap := by
  rcases h.2 with ⟨_, h2⟩ | ⟨g, cap, cur, h1, _⟩
  · omega
  · exact ⟨g, cap, h1⟩
theorem Below.heap_setC {w : World} {g i b : Nat} {v : Value} (h : b ≠ g) : (w.setCell ⟨g, i, none⟩ v).heap[b]? = w.heap[b]? := Below.heap_setCell _ _ _ _ h
theorem mid_of {B : Nat} {w s : World} {rb m n5 : Nat} {lv vL vH v3 : Value} {M M' : List (Cx × Nat)} {xs : List Value} {c : Cx} (hR : RfAt B s rb lv M vL vH) (hB : Below w.heap.size w s) (o3 : s.ownsRow n5 40 10 v3 m xs) (hBn : B ≤ n5) (hwn : w.heap.size ≤ n5) (hm : M'.length = m) (hx : xN M' = xs) (ht : TenX s w.heap.size 0 c) (hlt : rb < w.heap.size) :
    Mid B w (s.setCell ⟨rb, 1, none⟩ v3) rb lv M' M v3 vH ∧ TenX (s.setCell ⟨rb, 1, none⟩ v3) w.heap.size 0 c := by
  subst hm hx
  have hblk := hR.blk.set 1 v3
  have hrb := hR.rbH
  have h3 : v3.ownBlock ≠ some rb := fun e => by
    rcases o3.2 with ⟨rfl, _⟩ | ⟨g, cap, cur, rfl, _, hg, _⟩
    · cases e
    · obtain rfl : g = rb := by simpa [Value.ownBlock] using e
      have hb := hR.blk
      unfold Blk at hb
      rw [hg] at hb; simp at hb
  refine ⟨⟨hblk, owMono (owKeep o3 fun g hg => Below.heap_setC fun e => h3 (e ▸ hg)) hBn, owKeep hR.H fun g hg => Below.heap_setC fun e => hrb (e ▸ hg), fun g hg => Nat.le_trans hwn (o3.lt g hg).1, hB.os, hB.tape, hB.output, by simpa using hB.size, fun b hb hbr => (Below.heap_setC hbr).trans (hB.block b hb)⟩, ?_⟩
  exact tenKeepR ht (Below.heap_setC (by omega))
theorem Mid.below {B : Nat} {w w' s : World} {rb : Nat} {lv vL vH : Value} {M M' : List (Cx × Nat)} (h : Mid B w w' rb lv M' M vL vH) (hb : Below w'.heap.size w' s) : Mid B w s rb lv M' M vL vH :=
  ⟨h.blk.below hb h.blk.lt, owBelow h.L hb, owBelow h.H hb, h.own, hb.os.trans h.os, hb.tape.trans h.tape, hb.output.trans h.output, Nat.le_trans h.size hb.size, fun b hbb hn => (hb.block b (Nat.lt_of_lt_of_le hbb h.size)).trans (h.kept b hbb hn)⟩
theorem fin_of {B : Nat} {w s : World} {rb m n6 : Nat} {lv vL vH v4 vL0 : Value} {M M' : List (Cx × Nat)} {ys : List Value} (h : Mid B w s rb lv M' M vL vH) (o4 : s.ownsRow n6 3 1 v4 m ys) (hBn : B ≤ n6) (hwn : w.heap.size ≤ n6) (hm : M'.length = m) (hx : vN M' = ys) (hne : M' ≠ []) :
    RfAt B (s.setCell ⟨rb, 2, none⟩ v4) rb lv M' vL v4 ∧ Moved w (s.setCell ⟨rb, 2, none⟩ v4) (rft rb vL0) (rft rb vL) ∧ ∀ g, v4.ownBlock = some g → w.heap.size ≤ g := by
  subst hm hx
  have hblk := h.blk.set 2 v4
  have h4 : v4.ownBlock ≠ some rb := fun e => by
    rcases o4.2 with ⟨rfl, _⟩ | ⟨g, cap, cur, rfl, _, hg, _⟩
    · cases e
    · obtain rfl : g = rb := by simpa [Value.ownBlock] using e
      have hb := h.blk
      unfold Blk at hb
      rw [hg] at hb; simp at hb
  have h3 : vL.ownBlock ≠ some rb := fun e => by
    rcases h.L.2 with ⟨rfl, _⟩ | ⟨g, cap, cur, rfl, _, hg, _⟩
    · cases e
    · obtain rfl : g = rb := by simpa [Value.ownBlock] using e
      have hb := h.blk
      unfold Blk at hb
      rw [hg] at hb; simp at hb
  refine ⟨⟨hblk, owKeep h.L fun g hg => Below.heap_setC fun e => h3 (e ▸ hg), owMono (owKeep o4 fun g hg => Below.heap_setC fun e => h4 (e ▸ hg)) hBn, fun e => absurd e hne⟩, ⟨h.os, h.tape, h.output, by simpa using h.size, fun b hb hn => ?_, fun b hb => ?_⟩, fun g hg => Nat.le_trans hwn (o4.lt g hg).1⟩
  · have hbr : b ≠ rb := fun e => hn (by rw [e]; exact List.mem_cons_self)
    exact (Below.heap_setC hbr).trans (h.kept b hb hbr)
  · rcases List.mem_cons.1 hb with rfl | hb
    · exact .inl List.mem_cons_self
    · exact .inr (h.own b (by simpa using hb))
theorem List.set_eq_of_length_le' {α : Type} {l : List α} {k : Nat} {x : α} (h : l[k]? = some x) : l.set k x = l := by
  obtain ⟨hk, rfl⟩ := List.getElem?_eq_some_iff.1 h
  exact List.set_getElem_self hk
theorem set6o_other (w : World) (g o : Nat) (v : Vr) {b : Nat} (h : b ≠ g) : (set6o w g o v).heap[b]? = w.heap[b]? :=
  (Below.heap_setC h).trans ((Below.heap_setC h).trans ((Below.heap_setC h).trans ((Below.heap_setC h).trans ((Below.heap_setC h).trans (Below.heap_setC h)))))
theorem set6o_size (w : World) (g o : Nat) (v : Vr) : (set6o w g o v).heap.size = w.heap.size := by unfold set6o; simp
theorem os_set1 (w : World) (a : Addr) (v : Value) : (w.setCell a v).os = w.os := rfl
theorem output_set1 (w : World) (a : Addr) (v : Value) : (w.setCell a v).output = w.output := rfl
theorem set6o_os (w : World) (g o : Nat) (v : Vr) : (set6o w g o v).os = w.os ∧ (set6o w g o v).tape = w.tape ∧ (set6o w g o v).output = w.output := by unfold set6o; simp [os_set1, output_set1]
set_option maxHeartbeats 1000000 in
theorem same_of {B : Nat} {w s : World} {rb g cap k : Nat} {lv vH : Value} {M : List (Cx × Nat)} {x : Cx × Nat} (hR : RfAt B s rb lv M (.slice (some ⟨g, 0, none⟩) M.length cap) vH) (hB : Below w.heap.size w s) (hx : M[k]? = some x) (J : Vr) :
    RfAt B (set6o s g (k * 10) J) rb lv (M.set k (⟨x.1.k, J⟩, x.2)) (.slice (some ⟨g, 0, none⟩) M.length cap) vH ∧ Moved w (set6o s g (k * 10) J) (rft rb (.slice (some ⟨g, 0, none⟩) M.length cap)) (rft rb (.slice (some ⟨g, 0, none⟩) M.length cap)) := by
  have hx1 : (M.map Prod.fst)[k]? = some x.1 := by rw [List.getElem?_map, hx]; rfl
  have hL := row_put6 (n := M.length) hR.L hx1 J
  have hown : (Value.slice (some ⟨g, 0, none⟩) M.length cap).ownBlock = some g := by simp [Value.ownBlock]
  have hg : g ≠ rb := fun e => hR.rbL (by rw [← e]; exact hown)
  have hH : ∀ b, vH.ownBlock = some b → b ≠ g := fun b hb e => hR.LH hown (by rw [← e]; exact hb)
  have hm : (M.set k (⟨x.1.k, J⟩, x.2)).map Prod.fst = (M.map Prod.fst).set k ⟨x.1.k, J⟩ := by rw [List.map_set]
  have hm2 : (M.set k (⟨x.1.k, J⟩, x.2)).map (fun p => (p.2 : Int)) = M.map fun p => (p.2 : Int) := by
    rw [List.map_set]
    have : (M.map fun p => (p.2 : Int))[k]? = some (x.2 : Int) := by rw [List.getElem?_map, hx]; rfl
    rw [List.set_eq_of_length_le' this]
  refine ⟨⟨hR.blk.carry (set6o_other _ _ _ _ (Ne.symm hg)), ?_, ?_, fun e => ?_⟩, ⟨(set6o_os _ _ _ _).1.trans hB.os, (set6o_os _ _ _ _).2.1.trans hB.tape, (set6o_os _ _ _ _).2.2.trans hB.output, by rw [set6o_size]; exact hB.size, fun b hb hn => ?_, fun b hb => .inl hb⟩⟩
  · unfold xN; rw [hm, List.length_set]; exact hL
  · unfold vN; rw [hm2, List.length_set]; exact owKeep hR.H fun b hb => set6o_other _ _ _ _ (hH b hb)
  · have h1 := congrArg List.length e
    rw [List.length_set, List.length_nil] at h1
    have hk := (List.getElem?_eq_some_iff.1 hx).1
    omega
  · have hbg : b ≠ g := fun e => hn (by rw [e]; exact List.mem_cons_of_mem _ (by rw [hown]; simp))
    exact (set6o_other _ _ _ _ hbg).trans (hB.block b hb)
theorem len_ins (M : List (Cx × Nat)) (x : Cx × Nat) {k : Nat} (hk : k ≤ M.length) : (M.take k ++ [x] ++ M.drop k).length = k + 1 + (M.length - k) := by
  rw [List.length_append, List.length_append, List.length_take, List.length_drop, Nat.min_eq_left hk]; rfl
theorem xN_ins (M : List (Cx × Nat)) (k : Nat) (c : Cx) (n : Nat) : xN (M.take k ++ [(c, n)] ++ M.drop k) = ((M.map Prod.fst).take k).flatMap xs10 ++ xs10 c ++ ((M.map Prod.fst).drop k).flatMap xs10 := by
  unfold xN
  rw [List.map_append, List.map_append, List.flatMap_append, List.flatMap_append, List.map_take, List.map_drop]
  simp
theorem vN_ins (M : List (Cx × Nat)) (k : Nat) (c : Cx) (n : Nat) : vN (M.take k ++ [(c, n)] ++ M.drop k) = vI ((M.map fun p => (p.2 : Int)).take k) ++ vI [(n : Int)] ++ vI ((M.map fun p => (p.2 : Int)).drop k) := by
  unfold vN vI
  rw [List.map_append, List.map_append, List.map_append, List.map_append, List.map_take, List.map_drop]
  rfl
/-- An operation of a quiet region whose value is known. -/
theorem quiet_val {P : Program} {ops : Array Oper} {C : World → Prop} {Q : Act → Prop} {a : Act} {o : Oper} {rest : List Oper} (v : Value) (hw : Region.wanted o (yielded ops a.tmps) = true) (hv : ∀ w, C w → o.quietAt P a C w v) (h : wpQuiet P ops C Q rest (a.put o.dst v)) : wpQuiet P ops C Q (o :: rest) a :=
  wpQuiet_step (fun K hK => by rw [if_pos hw]; exact ⟨v, hv, hK _ h⟩)
end Go.Proofs.Ytlhojbgpmjcjlaa

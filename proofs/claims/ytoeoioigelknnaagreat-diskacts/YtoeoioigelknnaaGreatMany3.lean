/-
  SEVERAL TEXTS IN ONE: DskFile, Recs.
-/
import Derived.Test.YtoeoioigelknnaaGreatMany2
import Derived.Test.YtoeoioigelknnaaGreatOwn
import Derived.Laws.OwnMore
namespace Go.Proofs.YtoeoioigelknnaaGreat
open Go.RowKit Go.Maps

theorem B8_take (l : List UInt8) (n : Nat) : (B8 l).take n = B8 (l.take n) := by simp [B8, List.map_take]
/-- The first n bytes of a row of the file's own. -/
theorem owns_take {w : World} {base : Nat} {g cap len n : Nat} {l : List UInt8} (h : w.ownsRow base 5 1 (.slice (some ⟨g, 0, none⟩) len cap) len (B8 l)) (hn : n ≤ len) : w.ownsRow base 5 1 (.slice (some ⟨g, 0, none⟩) n cap) n (B8 (l.take n)) := by
  obtain ⟨h1, h2⟩ := h
  rw [B8_length, Nat.mul_one] at h1
  refine ⟨by rw [B8_length, List.length_take]; omega, ?_⟩
  rcases h2 with ⟨h2, _⟩ | ⟨g', cap', cur, hv, hb, hg, hc, hm, hs, ht⟩
  · cases h2
  · cases hv
    refine .inr ⟨_, _, cur, rfl, hb, hg, by omega, hm, hs, ?_⟩
    rw [← B8_take, ← ht, List.take_take]
    congr 1
    omega

theorem EntAt.c0 {w : World} {e : Ent} (h : EntAt w e) : w.cell? ⟨e.b, 0, none⟩ = some e.v1 := h.head.cell 0 rfl
theorem EntAt.c1 {w : World} {e : Ent} (h : EntAt w e) : w.cell? ⟨e.b, 1, none⟩ = some (.int .i64 (e.wr : Int)) := h.head.cell 1 rfl
theorem EntAt.c2 {w : World} {e : Ent} (h : EntAt w e) : w.cell? ⟨e.b, 2, none⟩ = some e.v2 := h.head.cell 2 rfl

theorem toList_nil : (Value.slice none 0 0).ownBlock.toList = [] := rfl
/-- The beginning of a slice. -/
def cutV (v : Value) (n : Nat) : Value := match v with | .slice ao _ cap => .slice ao n cap | v => v
/-- So many bytes are there, and all of them are written. -/
def endE (e : Ent) (n : Nat) : Ent := { e with v1 := cutV e.v1 n, v2 := .slice none 0 0, bs := e.bs.take n, wr := n, pl := [] }
/-- All three cells of a file's head are written, its rows stay where they are. -/
theorem ent_end {w : World} {e : Ent} (h : EntAt w e) (n : Nat) (v : Value) (hcv : cutV e.v1 n = v) (hv : w.ownsRow 0 5 1 v n (B8 (e.bs.take n))) (ho : v.ownBlock = e.v1.ownBlock) (z : Int) (hz : z = (n : Int)) (hn : n ≤ e.bs.length) :
    EntAt (((w.setCell ⟨e.b, 0, none⟩ v).setCell ⟨e.b, 1, none⟩ (.int .i64 z)).setCell ⟨e.b, 2, none⟩ (.slice none 0 0)) (endE e n) ∧
      Moved w (((w.setCell ⟨e.b, 0, none⟩ v).setCell ⟨e.b, 1, none⟩ (.int .i64 z)).setCell ⟨e.b, 2, none⟩ (.slice none 0 0)) e.foot (endE e n).foot := by
  subst hz
  have hap := h.apart
  simp only [Ent.foot, List.nodup_cons, List.mem_append, not_or] at hap
  have hk : ∀ j, j ≠ e.b → (((w.setCell ⟨e.b, 0, none⟩ v).setCell ⟨e.b, 1, none⟩ (.int .i64 (n : Int))).setCell ⟨e.b, 2, none⟩ (.slice none 0 0)).heap[j]? = w.heap[j]? := fun j hj =>
    ((Below.heap_setCell _ _ _ _ hj).trans (Below.heap_setCell _ _ _ _ hj)).trans (Below.heap_setCell _ _ _ _ hj)
  have hM : Moved w (((w.setCell ⟨e.b, 0, none⟩ v).setCell ⟨e.b, 1, none⟩ (.int .i64 (n : Int))).setCell ⟨e.b, 2, none⟩ (.slice none 0 0)) [e.b] [e.b] := ((Moved.of_set e.b 0 _).trans (Moved.of_set e.b 1 _)).trans (Moved.of_set e.b 2 _)
  refine ⟨⟨?_, ?_, ?_, ?_⟩, hM.wider (fun i hi => .inl (by simp at hi; simp [Ent.foot, hi])) (fun i hi => ?_)⟩
  · show Blk _ e.b [cutV e.v1 n, .int .i64 (n : Int), .slice none 0 0] _
    rw [hcv]
    exact ((h.head.setTo 0 v [v, .int .i64 (e.wr : Int), e.v2] rfl).setTo 1 _ [v, .int .i64 (n : Int), e.v2] rfl).setTo 2 _ [v, .int .i64 (n : Int), .slice none 0 0] rfl
  · have : (e.bs.take n).length = n := by rw [List.length_take]; omega
    show World.ownsRow _ 0 5 1 (cutV e.v1 n) (e.bs.take n).length (B8 (e.bs.take n))
    rw [this, hcv]
    exact owns_carry hv fun g hg => hk g fun hgb => hap.1.1 (by rw [ho] at hg; simp [hg, hgb])
  · exact World.ownsRow_nil _ _ _ _
  · simp only [Ent.foot, endE, hcv, ho, toList_nil, List.append_nil, List.nodup_cons]
    exact ⟨hap.1.1, (List.nodup_append.1 hap.2).1⟩
  · simp only [Ent.foot, endE, hcv, ho, toList_nil, List.append_nil, List.mem_cons, List.mem_append] at hi ⊢
    rcases hi with h1 | h1
    · exact .inl (.inl h1)
    · exact .inl (.inr (.inl h1))

set_option maxRecDepth 100000 in
theorem endAt_any {w : World} {e : Ent} (h : EntAt w e) (n : Nat) (hn : n ≤ e.bs.length) :
    Calls Tryz.prog 59 #[.pointer (some ⟨e.b, 0, none⟩), .int .i64 (n : Int)] w fun x w' => x = .returned (.tuple #[]) ∧ EntAt w' (endE e n) ∧ Moved w w' e.foot (endE e n).foot := by
  have c0 := h.c0
  have c1 := h.c1
  have c2 := h.c2
  have f0 := h.head.frozen 0
  have f1 := h.head.frozen 1
  have f2 := h.head.frozen 2
  have K : Hid (EntAt w e) := h
  rcases h.row1.2 with ⟨hv, hl⟩ | ⟨g, cap, cur, hv, hb, hg, hc, hm, hs, ht⟩
  · have hn0 : n = 0 := by omega
    subst hn0
    have E := ent_end h 0 (.slice none 0 0) (by rw [hv]; rfl) (by rw [List.take_zero]; exact World.ownsRow_nil _ _ _ _) (by rw [hv]) 0 rfl hn
    have EH : Hid _ := E
    rw [hv] at c0
    clear h E
    go_enter Tryz.func59, Tryz.ntmps59
    go_wp2
    go_end0
    exact ⟨rfl, EH.out⟩
  · have E := ent_end h n (.slice (some ⟨g, 0, none⟩) n cap) (by rw [hv]; rfl) (owns_take (hv ▸ h.row1) hn) (by rw [hv]; rfl) n rfl hn
    have EH : Hid _ := E
    rw [hv] at c0
    have hci : (cap : Int) ≤ 9223372036854775807 := by unfold maxLen at hm; omega
    have hnc : (n : Int) ≤ (cap : Int) := by omega
    clear hm hb hg hs ht h E
    go_enter Tryz.func59, Tryz.ntmps59
    go_wp2
    go_end0
    exact ⟨rfl, EH.out⟩

def InR (x : Int) : Prop := -9223372036854775808 ≤ x ∧ x < 9223372036854775808
theorem sectors_in (x : Int) (w : World) (h : InR x) : Calls Tryz.prog 24 #[.int .i64 x] w fun x' w' => x' = .returned (.int .i64 (secI x)) ∧ w' = w := sectors_num x w h.1 h.2
theorem secI_bd {x : Int} (h : InR x) : 0 ≤ secI x ∧ secI x ≤ 576460752303423488 := by unfold InR at h; unfold secI; split <;> omega
theorem lacks_any {w : World} {e : Ent} (h : EntAt w e) (n : Nat) (hn : (e.bs.length : Int) + n < 9223372036854775807) :
    Calls Tryz.prog 55 #[.pointer (some ⟨e.b, 0, none⟩), .int .i64 (n : Int)] w fun x w' => x = .returned (.int .i64 (secI ((e.bs.length : Int) + n) - secI e.bs.length)) ∧ ∃ k, w' = w.drewN k := by
  obtain ⟨ao, cap, hv, _⟩ := owns_sees h.row1
  have c0 := h.c0
  rw [hv] at c0
  have r1 : InR ((e.bs.length : Int) + n) := ⟨by omega, by omega⟩
  have r2 : InR (e.bs.length : Int) := ⟨by omega, by omega⟩
  have S1 : Hid (∀ (x : Int) (w : World), InR x → Calls Tryz.prog 24 #[.int .i64 x] w fun x' w' => x' = .returned (.int .i64 (secI x)) ∧ w' = w) := sectors_in
  have hb1 := secI_bd r1
  have hb2 := secI_bd r2
  clear h hv
  have hw : IntKind.i64.wrap ((e.bs.length : Int) + n) = (e.bs.length : Int) + n := i64_wrap (by omega) (by omega)
  have hw2 : IntKind.i64.wrap (secI ((e.bs.length : Int) + n) - secI (e.bs.length : Int)) = secI ((e.bs.length : Int) + n) - secI (e.bs.length : Int) := i64_wrap (by omega) (by omega)
  generalize e.bs.length = L at *
  go_enter Tryz.func55, Tryz.ntmps55
  go_wp2
  go_quiet ((go_at_call 24; exact Calls.quiet_of_same (S1.out _ _ (by first | exact r1 | exact r2))))
  go_wp2
  go_ret
  exact ⟨rfl, _, rfl⟩

/-! ### bytes at a file's end -/
/-- How many sectors more become dirty. -/
def growN (len wr np : Nat) : Nat := ((len + 15) / 16 - wr / 16) - np
theorem secI_nat (n : Nat) : secI (n : Int) = ((n + 15) / 16 : Nat) := by unfold secI; split <;> omega
set_option maxRecDepth 100000 in
theorem lay_none {w : World} {e : Ent} (ao : Option Addr) (c : Nat) (z : Int) :
    Calls Tryz.prog 57 #[.pointer (some ⟨e.b, 0, none⟩), .slice ao 0 c, .int .i64 z] w fun x w' => x = .returned (.int .i64 z) ∧ w' = w := by
  go_enter Tryz.func57, Tryz.ntmps57
  go_wp2
  go_ret
  exact ⟨rfl, rfl⟩
theorem info8D : (Tryz.prog.info? 5).map (fun i => (i.zero, i.size, i.bytes)) = some (some (.int .u8 0), 1, 1) := by kernel_rfl
theorem infoI : (Tryz.prog.info? 3).map (fun i => (i.zero, i.size, i.bytes)) = some (some (.int .i64 0), 1, 8) := by kernel_rfl
theorem src_int (w : World) (z : Int) : Src Tryz.prog 1 74 (.slice (some ⟨w.heap.size, 0, none⟩) 1 1) 1 [.int .i64 z] (w.alloc (.cells #[.int .i64 z] 3)) := by
  refine Src.ofSlice _ Tryz.underlying74 _ 1 1 _ rfl ?_ (by simp [Value.oneCell'])
  intro j u hu
  match j, hu with
  | 0, hu => simp at hu; subst hu; simp [Addr.add]
  | j + 1, hu => simp at hu

/-- The head of a file behind an append onto one of its rows. -/
theorem ent_heads {w w1 : World} {e : Ent} (h : EntAt w e) {v v' : Value} (hg : Grew w w1 v v') (hv : v.ownBlock = e.v1.ownBlock ∨ v.ownBlock = e.v2.ownBlock) : Blk w1 e.b [e.v1, .int .i64 (e.wr : Int), e.v2] 76 := by
  refine h.head.carry (hg.rows.block e.b h.head.lt fun hb => ?_)
  have hap := h.apart
  simp only [Ent.foot, List.nodup_cons, List.mem_append, not_or] at hap
  rcases hv with hv | hv
  · exact hap.1.1 (by rw [← hv, ← hb]; simp)
  · exact hap.1.2 (by rw [← hv, ← hb]; simp)
theorem ent_cells2 {w w1 : World} {e : Ent} (h : EntAt w e) {v' : Value} (hg : Grew w w1 e.v2 v') {b : Nat} (hb : e.b = b) : w1.cell? ⟨b, 2, none⟩ = some e.v2 ∧ w1.frozen? ⟨b, 2, none⟩ = false := by
  subst hb
  exact ⟨(ent_heads h hg (.inr rfl)).cell 2 rfl, (ent_heads h hg (.inr rfl)).frozen 2⟩
theorem mem_own {o : Option Nat} {i : Nat} : i ∈ o.toList ↔ o = some i := by cases o <;> simp [eq_comm]
/-- Bytes were appended, and the new slice is stored. -/
theorem ent_row1 {w w1 : World} {e : Ent} (h : EntAt w e) {v' : Value} {bs' : List UInt8} {n : Nat} (hn : n = bs'.length) (ho : w1.ownsRow 0 5 1 v' n (B8 bs')) (hg : Grew w w1 e.v1 v') :
    EntAt (w1.setCell ⟨e.b, 0, none⟩ v') { e with v1 := v', bs := bs' } ∧ Moved w (w1.setCell ⟨e.b, 0, none⟩ v') e.foot (Ent.foot { e with v1 := v', bs := bs' }) := by
  subst hn
  have hap := h.apart
  have hlt := h.lt
  simp only [Ent.foot, List.nodup_cons, List.mem_append, not_or, List.nodup_append] at hap
  have hown : ∀ g, v'.ownBlock = some g → e.v1.ownBlock = some g ∨ w.heap.size ≤ g := hg.own
  have hb' : ∀ g, v'.ownBlock = some g → g ≠ e.b := fun g hgv hgb => by
    rcases hown g hgv with h1 | h1
    · exact hap.1.1 (mem_own.2 (hgb ▸ h1))
    · have := h.head.lt; omega
  have hne2 : ∀ g, e.v2.ownBlock = some g → g ≠ e.b ∧ some g ≠ e.v1.ownBlock := fun g hg2 => ⟨fun hgb => hap.1.2 (mem_own.2 (hgb ▸ hg2)), fun he => hap.2.2.2 g (mem_own.2 he.symm) g (mem_own.2 hg2) rfl⟩
  have hM : Moved w w1 e.foot e.foot := (Moved.of_grown hg.rows).wider (fun i hi => .inl (by simp only [Ent.foot, List.mem_cons, List.mem_append]; exact .inr (.inl hi))) (fun i hi => .inl hi)
  have hM2 : Moved w1 (w1.setCell ⟨e.b, 0, none⟩ v') e.foot e.foot := (Moved.of_set e.b 0 v').wider (fun i hi => .inl (by simp at hi; simp [Ent.foot, hi])) (fun i hi => .inl hi)
  refine ⟨⟨?_, ?_, ?_, ?_⟩, (hM.trans hM2).wider (fun i hi => .inl hi) (fun i hi => ?_)⟩
  · exact (ent_heads h hg (.inl rfl)).setTo 0 v' _ rfl
  · exact owns_carry ho fun g hgv => Below.heap_setCell _ _ _ _ (hb' g hgv)
  · exact owns_carry h.row2 fun g hg2 => (Below.heap_setCell _ _ _ _ (hne2 g hg2).1).trans (hg.rows.block g (h.row2.lt g hg2).2 (hne2 g hg2).2)
  · simp only [Ent.foot, List.nodup_cons, List.mem_append, not_or, List.nodup_append]
    refine ⟨⟨fun hi => hb' _ (mem_own.1 hi) rfl, hap.1.2⟩, by cases v'.ownBlock <;> simp, hap.2.2.1, fun a ha b hb hab => ?_⟩
    subst hab
    rcases hown a (mem_own.1 ha) with h1 | h1
    · exact hap.2.2.2 a (mem_own.2 h1) a hb rfl
    · have := (h.row2.lt a (mem_own.1 hb)).2; omega
  · simp only [Ent.foot, List.mem_cons, List.mem_append] at hi ⊢
    rcases hi with h1 | h1 | h1
    · exact .inl (.inl h1)
    · rcases hown i (mem_own.1 h1) with h2 | h2
      · exact .inl (.inr (.inl (mem_own.2 h2)))
      · exact .inr (.inr h2)
    · exact .inl (.inr (.inr h1))
/-- Places were appended, and the new slice is stored. -/
theorem ent_row2 {w w1 : World} {e : Ent} (h : EntAt w e) {v' : Value} {pl' : List Nat} {n : Nat} (hn : n = pl'.length) (ho : w1.ownsRow 0 3 1 v' n (I64D pl')) (hg : Grew w w1 e.v2 v') :
    EntAt (w1.setCell ⟨e.b, 2, none⟩ v') { e with v2 := v', pl := pl' } ∧ Moved w (w1.setCell ⟨e.b, 2, none⟩ v') e.foot (Ent.foot { e with v2 := v', pl := pl' }) := by
  subst hn
  have hap := h.apart
  have hlt := h.lt
  simp only [Ent.foot, List.nodup_cons, List.mem_append, not_or, List.nodup_append] at hap
  have hown : ∀ g, v'.ownBlock = some g → e.v2.ownBlock = some g ∨ w.heap.size ≤ g := hg.own
  have hb' : ∀ g, v'.ownBlock = some g → g ≠ e.b := fun g hgv hgb => by
    rcases hown g hgv with h1 | h1
    · exact hap.1.2 (mem_own.2 (hgb ▸ h1))
    · have := h.head.lt; omega
  have hne2 : ∀ g, e.v1.ownBlock = some g → g ≠ e.b ∧ some g ≠ e.v2.ownBlock := fun g hg2 => ⟨fun hgb => hap.1.1 (mem_own.2 (hgb ▸ hg2)), fun he => hap.2.2.2 g (mem_own.2 hg2) g (mem_own.2 he.symm) rfl⟩
  have hM : Moved w w1 e.foot e.foot := (Moved.of_grown hg.rows).wider (fun i hi => .inl (by simp only [Ent.foot, List.mem_cons, List.mem_append]; exact .inr (.inr hi))) (fun i hi => .inl hi)
  have hM2 : Moved w1 (w1.setCell ⟨e.b, 2, none⟩ v') e.foot e.foot := (Moved.of_set e.b 2 v').wider (fun i hi => .inl (by simp at hi; simp [Ent.foot, hi])) (fun i hi => .inl hi)
  refine ⟨⟨?_, ?_, ?_, ?_⟩, (hM.trans hM2).wider (fun i hi => .inl hi) (fun i hi => ?_)⟩
  · exact (ent_heads h hg (.inr rfl)).setTo 2 v' _ rfl
  · exact owns_carry h.row1 fun g hg2 => (Below.heap_setCell _ _ _ _ (hne2 g hg2).1).trans (hg.rows.block g (h.row1.lt g hg2).2 (hne2 g hg2).2)
  · exact owns_carry ho fun g hgv => Below.heap_setCell _ _ _ _ (hb' g hgv)
  · simp only [Ent.foot, List.nodup_cons, List.mem_append, not_or, List.nodup_append]
    refine ⟨⟨hap.1.1, fun hi => hb' _ (mem_own.1 hi) rfl⟩, hap.2.1, by cases v'.ownBlock <;> simp, fun a ha b hb hab => ?_⟩
    subst hab
    rcases hown a (mem_own.1 hb) with h1 | h1
    · exact hap.2.2.2 a ha a (mem_own.2 h1) rfl
    · have := (h.row1.lt a (mem_own.1 ha)).2; omega
  · simp only [Ent.foot, List.mem_cons, List.mem_append] at hi ⊢
    rcases hi with h1 | h1 | h1
    · exact .inl (.inl h1)
    · exact .inl (.inr (.inl h1))
    · rcases hown i (mem_own.1 h1) with h2 | h2
      · exact .inl (.inr (.inr (mem_own.2 h2)))
      · exact .inr (.inr h2)
/-- A row of one block, seen as a slice. -/
theorem owns_form {w : World} {base e n : Nat} {v : Value} {xs : List Value} (h : w.ownsRow base e 1 v n xs) : ∃ ao cap, v = .slice ao n cap ∧ n ≤ cap ∧ cap ≤ 9223372036854775807 := by
  rcases h.2 with ⟨rfl, rfl⟩ | ⟨g, cap, cur, rfl, _, _, hn, hm, _⟩
  · exact ⟨_, _, rfl, Nat.le_refl _, by omega⟩
  · exact ⟨_, _, rfl, hn, by unfold maxLen at hm; omega⟩
theorem I64_snoc (a : List Nat) (n k : Nat) : I64D (a ++ [n + k]) = I64D a ++ [.int .i64 ((n : Int) + (k : Int))] := by simp [I64D]
theorem I64_append (a b : List Nat) : I64D (a ++ b) = I64D a ++ I64D b := List.map_append

/-- An append onto a row of the call's own: the answer's shape is written out. -/
theorem wpList_append_shape {P : Program} (w : World) {ops : Array Oper} {rest : List Oper} {o : Oper} {a : Act} {Q : Exit → Act → World → Prop} (hgd : o.guard = none) (s x : Operand) (t tx : TypeId)
    (ho : o.op = .call { callee := .builtin .append, args := #[s, x], argTypes := #[t, tx] })
    (base : Nat) (e : TypeId) (i : TypeInfo) (z : Value) (bytes : Nat) (ht : P.underlying t = some (.slice e)) (hi : P.info? e = some i) (hz : i.zero = some z)
    (hsize : i.size = 1) (hby : i.bytes = bytes) (hzs : z.cells.size = 1)
    (v : Value) (n : Nat) (xs : List Value) (hs : a.eval s = v) (hown : w.ownsRow base e 1 v n xs)
    (xv : Value) (m : Nat) (news : List Value) (hx : a.eval x = xv) (hsrc : Src P 1 tx xv m news w)
    (h63 : n + m ≤ maxLen) (hbytes : (n + m) * bytes ≤ 140737488355328) (hbase : base ≤ w.heap.size)
    (h : ∀ ao cap w', w'.ownsRow base e 1 (.slice ao (n + m) cap) (n + m) (xs ++ news) → Grew w w' v (.slice ao (n + m) cap) → wpList P ops Q rest (a.put o.dst (.slice ao (n + m) cap)) w') : wpList P ops Q (o :: rest) a w :=
  wpList_append_grew w hgd s x t tx ho base e i z 1 bytes ht hi hz hsize hby hzs v n xs hs hown xv m news hx hsrc h63 hbytes hbase (fun v' w' h1 h2 => by
    obtain ⟨ao, cap, rfl, _⟩ := owns_form h1
    exact h ao cap w' h1 h2)
end Go.Proofs.YtoeoioigelknnaaGreat
namespace Go.Proofs.YtoeoioigelknnaaGreat
open Go.RowKit

section
variable {α : Type} {c : α → List Value} {k : Nat} (hk : ∀ a, (c a).length = k)
include hk
theorem flat_lenR (l : List α) : (l.flatMap c).length = l.length * k := by
  induction l with
  | nil => simp
  | cons x r ih => rw [List.flatMap_cons, List.length_append, hk, ih, List.length_cons, Nat.add_mul]; omega
theorem flat_at : ∀ (l : List α) (i j : Nat) (a : α) (v : Value), l[i]? = some a → (c a)[j]? = some v → (l.flatMap c)[i * k + j]? = some v
  | [], i, j, a, v, h, _ => by simp at h
  | x :: r, 0, j, a, v, h, hv => by
    simp at h
    subst h
    have hj : j < (c x).length := (List.getElem?_eq_some_iff.1 hv).1
    rw [List.flatMap_cons, Nat.zero_mul, Nat.zero_add, List.getElem?_append_left hj, hv]
  | x :: r, i + 1, j, a, v, h, hv => by
    have h' : r[i]? = some a := by simpa using h
    rw [List.flatMap_cons, List.getElem?_append_right (by rw [hk, Nat.add_mul]; omega), hk]
    have : (i + 1) * k + j - k = i * k + j := by rw [Nat.add_mul]; omega
    rw [this]
    exact flat_at r i j a v h' hv
theorem flat_set : ∀ (l : List α) (i j : Nat) (a a' : α) (v : Value), l[i]? = some a → j < k → c a' = (c a).set j v → (l.flatMap c).set (i * k + j) v = (l.set i a').flatMap c
  | [], i, j, a, a', v, h, _, _ => by simp at h
  | x :: r, 0, j, a, a', v, h, hj, hc => by
    simp at h
    subst h
    rw [List.flatMap_cons, Nat.zero_mul, Nat.zero_add, List.set_append_left _ _ (by rw [hk]; exact hj), ← hc]
    simp
  | x :: r, i + 1, j, a, a', v, h, hj, hc => by
    have h' : r[i]? = some a := by simpa using h
    rw [List.flatMap_cons, List.set_append_right _ _ (by rw [hk, Nat.add_mul]; omega), hk]
    have : (i + 1) * k + j - k = i * k + j := by rw [Nat.add_mul]; omega
    rw [this, flat_set r i j a a' v h' hj hc]
    simp
theorem owns_recs {w : World} {base : Nat} {e : TypeId} {v : Value} {l : List α} (h : w.ownsRow base e k v l.length (l.flatMap c)) : ∃ ao cap, v = .slice ao l.length cap ∧ l.length ≤ cap ∧ ∀ i a, l[i]? = some a → ∃ g, ao = some ⟨g, 0, none⟩ ∧ v.ownBlock = some g ∧ ∀ j u, (c a)[j]? = some u → w.cell? ⟨g, i * k + j, none⟩ = some u := by
  have h0 := h
  rcases h.2 with ⟨rfl, h2⟩ | ⟨g, cap, cur, rfl, hb, hg, hn, _⟩
  · refine ⟨none, 0, by rw [h2], by omega, fun i a hi => ?_⟩
    have := (List.getElem?_eq_some_iff.1 hi).1
    omega
  · refine ⟨some ⟨g, 0, none⟩, cap, rfl, hn, fun i a hi => ⟨g, rfl, rfl, fun j u hu => ?_⟩⟩
    have := h0.cells (g := g) rfl _ _ (flat_at hk l i j a u hi hu)
    simpa [Addr.add_lit] using this
end
theorem flat_one {α : Type} {c : α → List Value} (h1 : ∀ a, ∀ u ∈ c a, u.oneCell' = true) (l : List α) : ∀ u ∈ l.flatMap c, u.oneCell' = true := fun u hu => by
  obtain ⟨a, _, ha⟩ := List.mem_flatMap.1 hu
  exact h1 a u ha
end Go.Proofs.YtoeoioigelknnaaGreat

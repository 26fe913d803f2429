/-
  SEVERAL TEXTS IN ONE: DskFile, DskMap, DskActV.
-/
import Derived.Test.YtgkdodcidancpaaGreatDoorMany10
import Derived.Test.YtgkdodcidancpaaGreatDoorMany9
import Derived.Deep.MidRow
namespace Go.Proofs.YtgkdodcidancpaaGreatDoor
open Go.RowKit Go.Maps

theorem B8_take (l : List UInt8) (n : Nat) : (B8 l).take n = B8 (l.take n) := by simp [B8, List.map_take]
/-- The first n bytes of a row of the file's own. -/
theorem owns_take {w : World} {base : Nat} {g cap len n : Nat} {l : List UInt8} (h : w.ownsRow base 5 1 (.slice (some ⟨g, 0, none⟩) len cap) len (B8 l)) (hn : n ≤ len) : w.ownsRow base 5 1 (.slice (some ⟨g, 0, none⟩) n cap) n (B8 (l.take n)) := by
  obtain ⟨h1, h2⟩ := h
  rw [B8_length, Nat.mul_one] at h1
  refine ⟨by rw [B8_length, List.length_take]; omega, ?_⟩
  rcases h2 with ⟨h2, _⟩ | ⟨g', cap', cur, hv, hb, hg, hc, hm, hs, ht⟩
  · cases h2
  · cases hv
    refine .inr ⟨_, _, cur, rfl, hb, hg, by omega, hm, hs, ?_⟩
    rw [← B8_take, ← ht, List.take_take]
    congr 1
    omega

theorem EntAt.c0 {w : World} {e : Ent} (h : EntAt w e) : w.cell? ⟨e.b, 0, none⟩ = some e.v1 := h.head.cell 0 rfl
theorem EntAt.c1 {w : World} {e : Ent} (h : EntAt w e) : w.cell? ⟨e.b, 1, none⟩ = some (.int .i64 (e.wr : Int)) := h.head.cell 1 rfl
theorem EntAt.c2 {w : World} {e : Ent} (h : EntAt w e) : w.cell? ⟨e.b, 2, none⟩ = some e.v2 := h.head.cell 2 rfl

theorem toList_nil : (Value.slice none 0 0).ownBlock.toList = [] := rfl
/-- The beginning of a slice. -/
def cutV (v : Value) (n : Nat) : Value := match v with | .slice ao _ cap => .slice ao n cap | v => v
/-- So many bytes are there, and all of them are written. -/
def endE (e : Ent) (n : Nat) : Ent := { e with v1 := cutV e.v1 n, v2 := .slice none 0 0, bs := e.bs.take n, wr := n, pl := [] }
/-- All three cells of a file's head are written, its rows stay where they are. -/
theorem ent_end {w : World} {e : Ent} (h : EntAt w e) (n : Nat) (v : Value) (hcv : cutV e.v1 n = v) (hv : w.ownsRow 0 5 1 v n (B8 (e.bs.take n))) (ho : v.ownBlock = e.v1.ownBlock) (z : Int) (hz : z = (n : Int)) (hn : n ≤ e.bs.length) :
    EntAt (((w.setCell ⟨e.b, 0, none⟩ v).setCell ⟨e.b, 1, none⟩ (.int .i64 z)).setCell ⟨e.b, 2, none⟩ (.slice none 0 0)) (endE e n) ∧
      Moved w (((w.setCell ⟨e.b, 0, none⟩ v).setCell ⟨e.b, 1, none⟩ (.int .i64 z)).setCell ⟨e.b, 2, none⟩ (.slice none 0 0)) e.foot (endE e n).foot := by
  subst hz
  have hap := h.apart
  simp only [Ent.foot, List.nodup_cons, List.mem_append, not_or] at hap
  have hk : ∀ j, j ≠ e.b → (((w.setCell ⟨e.b, 0, none⟩ v).setCell ⟨e.b, 1, none⟩ (.int .i64 (n : Int))).setCell ⟨e.b, 2, none⟩ (.slice none 0 0)).heap[j]? = w.heap[j]? := fun j hj =>
    ((Below.heap_setCell _ _ _ _ hj).trans (Below.heap_setCell _ _ _ _ hj)).trans (Below.heap_setCell _ _ _ _ hj)
  have hM : Moved w (((w.setCell ⟨e.b, 0, none⟩ v).setCell ⟨e.b, 1, none⟩ (.int .i64 (n : Int))).setCell ⟨e.b, 2, none⟩ (.slice none 0 0)) [e.b] [e.b] := ((Moved.of_set e.b 0 _).trans (Moved.of_set e.b 1 _)).trans (Moved.of_set e.b 2 _)
  refine ⟨⟨?_, ?_, ?_, ?_⟩, hM.wider (fun i hi => .inl (by simp at hi; simp [Ent.foot, hi])) (fun i hi => ?_)⟩
  · show Blk _ e.b [cutV e.v1 n, .int .i64 (n : Int), .slice none 0 0] _
    rw [hcv]
    exact ((h.head.setTo 0 v [v, .int .i64 (e.wr : Int), e.v2] rfl).setTo 1 _ [v, .int .i64 (n : Int), e.v2] rfl).setTo 2 _ [v, .int .i64 (n : Int), .slice none 0 0] rfl
  · have : (e.bs.take n).length = n := by rw [List.length_take]; omega
    show World.ownsRow _ 0 5 1 (cutV e.v1 n) (e.bs.take n).length (B8 (e.bs.take n))
    rw [this, hcv]
    exact owns_carry hv fun g hg => hk g fun hgb => hap.1.1 (by rw [ho] at hg; simp [hg, hgb])
  · exact World.ownsRow_nil _ _ _ _
  · simp only [Ent.foot, endE, hcv, ho, toList_nil, List.append_nil, List.nodup_cons]
    exact ⟨hap.1.1, (List.nodup_append.1 hap.2).1⟩
  · simp only [Ent.foot, endE, hcv, ho, toList_nil, List.append_nil, List.mem_cons, List.mem_append] at hi ⊢
    rcases hi with h1 | h1
    · exact .inl (.inl h1)
    · exact .inl (.inr (.inl h1))

set_option maxRecDepth 100000 in
theorem endAt_any {w : World} {e : Ent} (h : EntAt w e) (n : Nat) (hn : n ≤ e.bs.length) :
    Calls Tryz.prog 63 #[.pointer (some ⟨e.b, 0, none⟩), .int .i64 (n : Int)] w fun x w' => x = .returned (.tuple #[]) ∧ EntAt w' (endE e n) ∧ Moved w w' e.foot (endE e n).foot := by
  have c0 := h.c0
  have c1 := h.c1
  have c2 := h.c2
  have f0 := h.head.frozen 0
  have f1 := h.head.frozen 1
  have f2 := h.head.frozen 2
  have K : Hid (EntAt w e) := h
  rcases h.row1.2 with ⟨hv, hl⟩ | ⟨g, cap, cur, hv, hb, hg, hc, hm, hs, ht⟩
  · have hn0 : n = 0 := by omega
    subst hn0
    have E := ent_end h 0 (.slice none 0 0) (by rw [hv]; rfl) (by rw [List.take_zero]; exact World.ownsRow_nil _ _ _ _) (by rw [hv]) 0 rfl hn
    have EH : Hid _ := E
    rw [hv] at c0
    clear h E
    go_enter Tryz.func63, Tryz.ntmps63
    go_wp2
    go_end0
    exact ⟨rfl, EH.out⟩
  · have E := ent_end h n (.slice (some ⟨g, 0, none⟩) n cap) (by rw [hv]; rfl) (owns_take (hv ▸ h.row1) hn) (by rw [hv]; rfl) n rfl hn
    have EH : Hid _ := E
    rw [hv] at c0
    have hci : (cap : Int) ≤ 9223372036854775807 := by unfold maxLen at hm; omega
    have hnc : (n : Int) ≤ (cap : Int) := by omega
    clear hm hb hg hs ht h E
    go_enter Tryz.func63, Tryz.ntmps63
    go_wp2
    go_end0
    exact ⟨rfl, EH.out⟩

def InR (x : Int) : Prop := -9223372036854775808 ≤ x ∧ x < 9223372036854775808
theorem sectors_in (x : Int) (w : World) (h : InR x) : Calls Tryz.prog 98 #[.int .i64 x] w fun x' w' => x' = .returned (.int .i64 (secI x)) ∧ w' = w := sectors_num x w h.1 h.2
theorem secI_bd {x : Int} (h : InR x) : 0 ≤ secI x ∧ secI x ≤ 576460752303423488 := by unfold InR at h; unfold secI; split <;> omega
theorem lacks_any {w : World} {e : Ent} (h : EntAt w e) (n : Nat) (hn : (e.bs.length : Int) + n < 9223372036854775807) :
    Calls Tryz.prog 59 #[.pointer (some ⟨e.b, 0, none⟩), .int .i64 (n : Int)] w fun x w' => x = .returned (.int .i64 (secI ((e.bs.length : Int) + n) - secI e.bs.length)) ∧ ∃ k, w' = w.drewN k := by
  obtain ⟨ao, cap, hv, _⟩ := owns_sees h.row1
  have c0 := h.c0
  rw [hv] at c0
  have r1 : InR ((e.bs.length : Int) + n) := ⟨by omega, by omega⟩
  have r2 : InR (e.bs.length : Int) := ⟨by omega, by omega⟩
  have S1 : Hid (∀ (x : Int) (w : World), InR x → Calls Tryz.prog 98 #[.int .i64 x] w fun x' w' => x' = .returned (.int .i64 (secI x)) ∧ w' = w) := sectors_in
  have hb1 := secI_bd r1
  have hb2 := secI_bd r2
  clear h hv
  have hw : IntKind.i64.wrap ((e.bs.length : Int) + n) = (e.bs.length : Int) + n := i64_wrap (by omega) (by omega)
  have hw2 : IntKind.i64.wrap (secI ((e.bs.length : Int) + n) - secI (e.bs.length : Int)) = secI ((e.bs.length : Int) + n) - secI (e.bs.length : Int) := i64_wrap (by omega) (by omega)
  generalize e.bs.length = L at *
  go_enter Tryz.func59, Tryz.ntmps59
  go_wp2
  go_quiet ((go_at_call 98; exact Calls.quiet_of_same (S1.out _ _ (by first | exact r1 | exact r2))))
  go_wp2
  go_ret
  exact ⟨rfl, _, rfl⟩

/-! ### bytes at a file's end -/
/-- How many sectors more become dirty. -/
def growN (len wr np : Nat) : Nat := ((len + 15) / 16 - wr / 16) - np
theorem secI_nat (n : Nat) : secI (n : Int) = ((n + 15) / 16 : Nat) := by unfold secI; split <;> omega
set_option maxRecDepth 100000 in
theorem lay_none {w : World} {e : Ent} (ao : Option Addr) (c : Nat) (z : Int) :
    Calls Tryz.prog 61 #[.pointer (some ⟨e.b, 0, none⟩), .slice ao 0 c, .int .i64 z] w fun x w' => x = .returned (.int .i64 z) ∧ w' = w := by
  go_enter Tryz.func61, Tryz.ntmps61
  go_wp2
  go_ret
  exact ⟨rfl, rfl⟩
theorem info8D : (Tryz.prog.info? 5).map (fun i => (i.zero, i.size, i.bytes)) = some (some (.int .u8 0), 1, 1) := by kernel_rfl
theorem infoI : (Tryz.prog.info? 3).map (fun i => (i.zero, i.size, i.bytes)) = some (some (.int .i64 0), 1, 8) := by kernel_rfl
theorem src_int (w : World) (z : Int) : Src Tryz.prog 1 34 (.slice (some ⟨w.heap.size, 0, none⟩) 1 1) 1 [.int .i64 z] (w.alloc (.cells #[.int .i64 z] 3)) := by
  refine Src.ofSlice _ Tryz.underlying34 _ 1 1 _ rfl ?_ (by simp [Value.oneCell'])
  intro j u hu
  match j, hu with
  | 0, hu => simp at hu; subst hu; simp [Addr.add]
  | j + 1, hu => simp at hu

/-- The head of a file behind an append onto one of its rows. -/
theorem ent_heads {w w1 : World} {e : Ent} (h : EntAt w e) {v v' : Value} (hg : Grew w w1 v v') (hv : v.ownBlock = e.v1.ownBlock ∨ v.ownBlock = e.v2.ownBlock) : Blk w1 e.b [e.v1, .int .i64 (e.wr : Int), e.v2] 97 := by
  refine h.head.carry (hg.rows.block e.b h.head.lt fun hb => ?_)
  have hap := h.apart
  simp only [Ent.foot, List.nodup_cons, List.mem_append, not_or] at hap
  rcases hv with hv | hv
  · exact hap.1.1 (by rw [← hv, ← hb]; simp)
  · exact hap.1.2 (by rw [← hv, ← hb]; simp)
theorem ent_cells2 {w w1 : World} {e : Ent} (h : EntAt w e) {v' : Value} (hg : Grew w w1 e.v2 v') {b : Nat} (hb : e.b = b) : w1.cell? ⟨b, 2, none⟩ = some e.v2 ∧ w1.frozen? ⟨b, 2, none⟩ = false := by
  subst hb
  exact ⟨(ent_heads h hg (.inr rfl)).cell 2 rfl, (ent_heads h hg (.inr rfl)).frozen 2⟩
theorem mem_own {o : Option Nat} {i : Nat} : i ∈ o.toList ↔ o = some i := by cases o <;> simp [eq_comm]
/-- Bytes were appended, and the new slice is stored. -/
theorem ent_row1 {w w1 : World} {e : Ent} (h : EntAt w e) {v' : Value} {bs' : List UInt8} {n : Nat} (hn : n = bs'.length) (ho : w1.ownsRow 0 5 1 v' n (B8 bs')) (hg : Grew w w1 e.v1 v') :
    EntAt (w1.setCell ⟨e.b, 0, none⟩ v') { e with v1 := v', bs := bs' } ∧ Moved w (w1.setCell ⟨e.b, 0, none⟩ v') e.foot (Ent.foot { e with v1 := v', bs := bs' }) := by
  subst hn
  have hap := h.apart
  have hlt := h.lt
  simp only [Ent.foot, List.nodup_cons, List.mem_append, not_or, List.nodup_append] at hap
  have hown : ∀ g, v'.ownBlock = some g → e.v1.ownBlock = some g ∨ w.heap.size ≤ g := hg.own
  have hb' : ∀ g, v'.ownBlock = some g → g ≠ e.b := fun g hgv hgb => by
    rcases hown g hgv with h1 | h1
    · exact hap.1.1 (mem_own.2 (hgb ▸ h1))
    · have := h.head.lt; omega
  have hne2 : ∀ g, e.v2.ownBlock = some g → g ≠ e.b ∧ some g ≠ e.v1.ownBlock := fun g hg2 => ⟨fun hgb => hap.1.2 (mem_own.2 (hgb ▸ hg2)), fun he => hap.2.2.2 g (mem_own.2 he.symm) g (mem_own.2 hg2) rfl⟩
  have hM : Moved w w1 e.foot e.foot := (Moved.of_grown hg.rows).wider (fun i hi => .inl (by simp only [Ent.foot, List.mem_cons, List.mem_append]; exact .inr (.inl hi))) (fun i hi => .inl hi)
  have hM2 : Moved w1 (w1.setCell ⟨e.b, 0, none⟩ v') e.foot e.foot := (Moved.of_set e.b 0 v').wider (fun i hi => .inl (by simp at hi; simp [Ent.foot, hi])) (fun i hi => .inl hi)
  refine ⟨⟨?_, ?_, ?_, ?_⟩, (hM.trans hM2).wider (fun i hi => .inl hi) (fun i hi => ?_)⟩
  · exact (ent_heads h hg (.inl rfl)).setTo 0 v' _ rfl
  · exact owns_carry ho fun g hgv => Below.heap_setCell _ _ _ _ (hb' g hgv)
  · exact owns_carry h.row2 fun g hg2 => (Below.heap_setCell _ _ _ _ (hne2 g hg2).1).trans (hg.rows.block g (h.row2.lt g hg2).2 (hne2 g hg2).2)
  · simp only [Ent.foot, List.nodup_cons, List.mem_append, not_or, List.nodup_append]
    refine ⟨⟨fun hi => hb' _ (mem_own.1 hi) rfl, hap.1.2⟩, by cases v'.ownBlock <;> simp, hap.2.2.1, fun a ha b hb hab => ?_⟩
    subst hab
    rcases hown a (mem_own.1 ha) with h1 | h1
    · exact hap.2.2.2 a (mem_own.2 h1) a hb rfl
    · have := (h.row2.lt a (mem_own.1 hb)).2; omega
  · simp only [Ent.foot, List.mem_cons, List.mem_append] at hi ⊢
    rcases hi with h1 | h1 | h1
    · exact .inl (.inl h1)
    · rcases hown i (mem_own.1 h1) with h2 | h2
      · exact .inl (.inr (.inl (mem_own.2 h2)))
      · exact .inr (.inr h2)
    · exact .inl (.inr (.inr h1))
/-- Places were appended, and the new slice is stored. -/
theorem ent_row2 {w w1 : World} {e : Ent} (h : EntAt w e) {v' : Value} {pl' : List Nat} {n : Nat} (hn : n = pl'.length) (ho : w1.ownsRow 0 3 1 v' n (I64D pl')) (hg : Grew w w1 e.v2 v') :
    EntAt (w1.setCell ⟨e.b, 2, none⟩ v') { e with v2 := v', pl := pl' } ∧ Moved w (w1.setCell ⟨e.b, 2, none⟩ v') e.foot (Ent.foot { e with v2 := v', pl := pl' }) := by
  subst hn
  have hap := h.apart
  have hlt := h.lt
  simp only [Ent.foot, List.nodup_cons, List.mem_append, not_or, List.nodup_append] at hap
  have hown : ∀ g, v'.ownBlock = some g → e.v2.ownBlock = some g ∨ w.heap.size ≤ g := hg.own
  have hb' : ∀ g, v'.ownBlock = some g → g ≠ e.b := fun g hgv hgb => by
    rcases hown g hgv with h1 | h1
    · exact hap.1.2 (mem_own.2 (hgb ▸ h1))
    · have := h.head.lt; omega
  have hne2 : ∀ g, e.v1.ownBlock = some g → g ≠ e.b ∧ some g ≠ e.v2.ownBlock := fun g hg2 => ⟨fun hgb => hap.1.1 (mem_own.2 (hgb ▸ hg2)), fun he => hap.2.2.2 g (mem_own.2 hg2) g (mem_own.2 he.symm) rfl⟩
  have hM : Moved w w1 e.foot e.foot := (Moved.of_grown hg.rows).wider (fun i hi => .inl (by simp only [Ent.foot, List.mem_cons, List.mem_append]; exact .inr (.inr hi))) (fun i hi => .inl hi)
  have hM2 : Moved w1 (w1.setCell ⟨e.b, 2, none⟩ v') e.foot e.foot := (Moved.of_set e.b 2 v').wider (fun i hi => .inl (by simp at hi; simp [Ent.foot, hi])) (fun i hi => .inl hi)
  refine ⟨⟨?_, ?_, ?_, ?_⟩, (hM.trans hM2).wider (fun i hi => .inl hi) (fun i hi => ?_)⟩
  · exact (ent_heads h hg (.inr rfl)).setTo 2 v' _ rfl
  · exact owns_carry h.row1 fun g hg2 => (Below.heap_setCell _ _ _ _ (hne2 g hg2).1).trans (hg.rows.block g (h.row1.lt g hg2).2 (hne2 g hg2).2)
  · exact owns_carry ho fun g hgv => Below.heap_setCell _ _ _ _ (hb' g hgv)
  · simp only [Ent.foot, List.nodup_cons, List.mem_append, not_or, List.nodup_append]
    refine ⟨⟨hap.1.1, fun hi => hb' _ (mem_own.1 hi) rfl⟩, hap.2.1, by cases v'.ownBlock <;> simp, fun a ha b hb hab => ?_⟩
    subst hab
    rcases hown a (mem_own.1 hb) with h1 | h1
    · exact hap.2.2.2 a ha a (mem_own.2 h1) rfl
    · have := (h.row1.lt a (mem_own.1 ha)).2; omega
  · simp only [Ent.foot, List.mem_cons, List.mem_append] at hi ⊢
    rcases hi with h1 | h1 | h1
    · exact .inl (.inl h1)
    · exact .inl (.inr (.inl h1))
    · rcases hown i (mem_own.1 h1) with h2 | h2
      · exact .inl (.inr (.inr (mem_own.2 h2)))
      · exact .inr (.inr h2)
/-- A row of one block, seen as a slice. -/
theorem owns_form {w : World} {base e n : Nat} {v : Value} {xs : List Value} (h : w.ownsRow base e 1 v n xs) : ∃ ao cap, v = .slice ao n cap ∧ n ≤ cap ∧ cap ≤ 9223372036854775807 := by
  rcases h.2 with ⟨rfl, rfl⟩ | ⟨g, cap, cur, rfl, _, _, hn, hm, _⟩
  · exact ⟨_, _, rfl, Nat.le_refl _, by omega⟩
  · exact ⟨_, _, rfl, hn, by unfold maxLen at hm; omega⟩
theorem I64_snoc (a : List Nat) (n k : Nat) : I64D (a ++ [n + k]) = I64D a ++ [.int .i64 ((n : Int) + (k : Int))] := by simp [I64D]
theorem I64_append (a b : List Nat) : I64D (a ++ b) = I64D a ++ I64D b := List.map_append

/-- An append onto a row of the call's own: the answer's shape is written out. -/
theorem wpList_append_shape {P : Program} (w : World) {ops : Array Oper} {rest : List Oper} {o : Oper} {a : Act} {Q : Exit → Act → World → Prop} (hgd : o.guard = none) (s x : Operand) (t tx : TypeId)
    (ho : o.op = .call { callee := .builtin .append, args := #[s, x], argTypes := #[t, tx] })
    (base : Nat) (e : TypeId) (i : TypeInfo) (z : Value) (bytes : Nat) (ht : P.underlying t = some (.slice e)) (hi : P.info? e = some i) (hz : i.zero = some z)
    (hsize : i.size = 1) (hby : i.bytes = bytes) (hzs : z.cells.size = 1)
    (v : Value) (n : Nat) (xs : List Value) (hs : a.eval s = v) (hown : w.ownsRow base e 1 v n xs)
    (xv : Value) (m : Nat) (news : List Value) (hx : a.eval x = xv) (hsrc : Src P 1 tx xv m news w)
    (h63 : n + m ≤ maxLen) (hbytes : (n + m) * bytes ≤ 140737488355328) (hbase : base ≤ w.heap.size)
    (h : ∀ ao cap w', w'.ownsRow base e 1 (.slice ao (n + m) cap) (n + m) (xs ++ news) → Grew w w' v (.slice ao (n + m) cap) → wpList P ops Q rest (a.put o.dst (.slice ao (n + m) cap)) w') : wpList P ops Q (o :: rest) a w :=
  wpList_append_grew w hgd s x t tx ho base e i z 1 bytes ht hi hz hsize hby hzs v n xs hs hown xv m news hx hsrc h63 hbytes hbase (fun v' w' h1 h2 => by
    obtain ⟨ao, cap, rfl, _⟩ := owns_form h1
    exact h ao cap w' h1 h2)
end Go.Proofs.YtgkdodcidancpaaGreatDoor
namespace Go.Proofs.YtgkdodcidancpaaGreatDoor
open Go.RowKit Go.Maps Go.MapKept

theorem law : Keyed Tryz.prog 9 := string_keyed Tryz.underlying9
def find (fs : List Ent) (nm : List UInt8) : Option Ent := fs.find? fun e => e.nm == nm
theorem find_some {fs : List Ent} {nm : List UInt8} {e : Ent} (h : find fs nm = some e) : e ∈ fs ∧ e.nm = nm := by
  unfold find at h
  exact ⟨List.mem_of_find?_eq_some h, by simpa using List.find?_some h⟩
theorem same_str (a b : List UInt8) : (Lit.string a).sameKey (.string b) = (a == b) := rfl
theorem datum_at (fs : List Ent) (nm : List UInt8) (z : DataW Unit) : (datum fs).atKey (.string nm) z = match find fs nm with | some e => .lit (.int .i64 (e.b : Int)) | none => z := by
  unfold datum find DataW.atKey
  simp only [List.find?_map]
  have : ((fun p : Lit × DataW Unit => p.1.sameKey (.string nm)) ∘ encE) = fun e => e.nm == nm := rfl
  rw [this]
  cases fs.find? fun e => e.nm == nm <;> rfl
theorem datum_has (fs : List Ent) (nm : List UInt8) : Maps.has (datum fs) (.string nm) = (find fs nm).isSome := by
  unfold datum find
  rw [has_eq, List.any_map]
  have : ((fun p : Lit × DataW Unit => p.1.sameKey (.string nm)) ∘ encE) = fun e => e.nm == nm := rfl
  rw [this, List.isSome_find?]
theorem datum_size (fs : List Ent) : Maps.size (datum fs) = fs.length := by unfold datum; rw [size_eq, List.length_map]
/-- No two files have one name. -/
theorem DiskAt.names {w : World} {d bm : Nat} {S : St} (h : DiskAt w d bm S) : S.fs.Pairwise fun x y => x.nm ≠ y.nm := by
  obtain ⟨es, he, hp, _⟩ := h.map.entries law
  have : es = S.fs.map encE := by cases he; rfl
  rw [this, List.pairwise_map] at hp
  exact hp.imp fun hne e => hne (by simp [encE, e])
theorem find_of_mem {fs : List Ent} (hp : fs.Pairwise fun x y => x.nm ≠ y.nm) {e : Ent} (he : e ∈ fs) : find fs e.nm = some e := by
  unfold find
  induction fs with
  | nil => cases he
  | cons x r ih =>
    rw [List.pairwise_cons] at hp
    rcases List.mem_cons.1 he with rfl | h
    · simp
    · have hne : (x.nm == e.nm) = false := by rw [beq_eq_false_iff_ne]; exact hp.1 e h
      rw [List.find?_cons, hne]
      exact ih hp.2 h

/-- A look-up: there is none. -/
theorem look_none {w : World} {bm n : Nat} {fs : List Ent} (h : w.ownsMap Tryz.prog 9 ptrElem bm n (datum fs)) {s : ByteArray} (hs : s.size ≤ maxLen) (hf : find fs s.data.toList = none) :
    (Instr.lookup 55 (.map (some bm)) (.string s) false).run Tryz.prog w = .ok (.pointer none) w := by
  have hk := Go.WideMaps.keyOf_string_mk (P := Tryz.prog) Tryz.underlying9 hs
  have hd := datum_at fs s.data.toList
  rw [hf] at hd
  obtain ⟨es, clock, hb, F, _, hD⟩ := h
  rw [hD] at hd
  rcases Maps.fit_look false law Tryz.underlying55 (Tryz.zeroValue84 w) hb F hk with ⟨hrun, _, _⟩ | ⟨e0, y, _, _, hrun, hRv, hat, _⟩
  · exact hrun
  · have := (hat (.nil)).symm.trans (hd .nil)
    have h2 := (hat (.lit (.bool true))).symm.trans (hd (.lit (.bool true)))
    rw [this] at h2
    cases h2
/-- A look-up: there it is. -/
theorem look_some {w : World} {bm n : Nat} {fs : List Ent} (h : w.ownsMap Tryz.prog 9 ptrElem bm n (datum fs)) {s : ByteArray} (hs : s.size ≤ maxLen) {e : Ent} (hf : find fs s.data.toList = some e) :
    (Instr.lookup 55 (.map (some bm)) (.string s) false).run Tryz.prog w = .ok (.pointer (some ⟨e.b, 0, none⟩)) w := by
  have hk := Go.WideMaps.keyOf_string_mk (P := Tryz.prog) Tryz.underlying9 hs
  have hd := datum_at fs s.data.toList
  rw [hf] at hd
  obtain ⟨es, clock, hb, F, _, hD⟩ := h
  rw [hD] at hd
  rcases Maps.fit_look false law Tryz.underlying55 (Tryz.zeroValue84 w) hb F hk with ⟨hrun, _, hat⟩ | ⟨e0, y, _, _, hrun, hRv, hat, _⟩
  · have := (hat .nil).symm.trans (hd .nil)
    cases this
  · obtain ⟨b, hv, hy⟩ := ptrElem_inv hRv
    have h1 := (hat .nil).symm.trans (hd .nil)
    rw [hy] at h1
    cases h1
    rw [hrun]
    show Result.ok e0.val w = _
    rw [hv]
    rfl

/-! ### a name is put in, a name goes -/
def insE (e : Ent) : List Ent → List Ent
  | [] => [e]
  | y :: r => if bytesBefore e.nm y.nm then e :: y :: r else y :: insE e r
def dropE (fs : List Ent) (nm : List UInt8) : List Ent := fs.filter fun x => !(x.nm == nm)
def putE (fs : List Ent) (e : Ent) : List Ent := insE e (dropE fs e.nm)
theorem datum_drop (fs : List Ent) (nm : List UInt8) : (datum fs).del (.string nm) = datum (dropE fs nm) := by
  unfold datum dropE DataW.del
  simp only [List.filter_map]
  rfl
theorem ins_map (e : Ent) (fs : List Ent) : DataW.insert (encE e) (fs.map encE) = (insE e fs).map encE := by
  induction fs with
  | nil => rfl
  | cons y r ih =>
    simp only [List.map_cons, DataW.insert, insE]
    have : (encE e).1.before (encE y).1 = bytesBefore e.nm y.nm := rfl
    rw [this, ih]
    split <;> rfl
theorem datum_put (fs : List Ent) (e : Ent) : (datum fs).put (.string e.nm) (.lit (.int .i64 (e.b : Int))) = datum (putE fs e) := by
  unfold datum putE DataW.put dropE
  rw [← ins_map]
  simp only [List.filter_map]
  rfl
theorem perm_insE (e : Ent) (fs : List Ent) : (insE e fs).Perm (e :: fs) := by
  induction fs with
  | nil => exact List.Perm.refl _
  | cons y r ih =>
    unfold insE
    split
    · exact List.Perm.refl _
    · exact (List.Perm.cons y ih).trans (List.Perm.swap e y r)
theorem perm_putE (fs : List Ent) (e : Ent) : (putE fs e).Perm (e :: dropE fs e.nm) := perm_insE e _
theorem mem_dropE {fs : List Ent} {nm : List UInt8} {x : Ent} : x ∈ dropE fs nm ↔ x ∈ fs ∧ x.nm ≠ nm := by
  unfold dropE
  rw [List.mem_filter]
  simp
theorem feet_perm {a b : List Ent} (h : a.Perm b) : (feet a).Perm (feet b) := h.flatMap_right _

/-! ### what was gone over -/
def vis (left : Lit → Bool) (fs : List Ent) : List Ent := fs.filter fun e => !left (.string e.nm)
theorem vis_start (fs : List Ent) (hp : fs.Pairwise fun x y => x.nm ≠ y.nm) : vis (Maps.has (datum fs)) fs = [] := by
  unfold vis
  rw [List.filter_eq_nil_iff]
  intro e he
  rw [datum_has, find_of_mem hp he]
  simp
theorem vis_end {left : Lit → Bool} (fs : List Ent) (h : ∀ kl, left kl = false) : vis left fs = fs := by
  unfold vis
  rw [List.filter_eq_self]
  intro e _
  rw [h]
  rfl
theorem vis_step {left : Lit → Bool} {fs : List Ent} (hp : fs.Pairwise fun x y => x.nm ≠ y.nm) {e : Ent} (he : e ∈ fs) (hl : left (.string e.nm) = true) :
    (vis (fun z => left z && !z.sameKey (.string e.nm)) fs).Perm (e :: vis left fs) := by
  induction fs with
  | nil => cases he
  | cons x r ih =>
    rw [List.pairwise_cons] at hp
    unfold vis
    rcases List.mem_cons.1 he with rfl | h
    · have hrest : r.filter (fun y => !(left (.string y.nm) && !(Lit.string y.nm).sameKey (.string e.nm))) = r.filter fun y => !left (.string y.nm) := by
        apply List.filter_congr
        intro y hy
        have : (y.nm == e.nm) = false := by rw [beq_eq_false_iff_ne]; exact fun e' => hp.1 y hy e'.symm
        rw [same_str, this]
        simp
      rw [List.filter_cons, List.filter_cons]
      simp only [same_str, beq_self_eq_true, Bool.not_true, Bool.and_false, Bool.not_false, if_true, hl]
      simp only [same_str] at hrest
      simp only [hrest]
      exact List.Perm.refl _
    · have hne : (x.nm == e.nm) = false := by rw [beq_eq_false_iff_ne]; exact hp.1 e h
      rw [List.filter_cons, List.filter_cons]
      simp only [same_str, hne, Bool.not_false, Bool.and_true]
      have ih' := ih hp.2 h
      unfold vis at ih'
      simp only [same_str] at ih'
      split
      · exact (List.Perm.cons x ih').trans (List.Perm.swap e x _)
      · exact ih'
end Go.Proofs.YtgkdodcidancpaaGreatDoor
namespace Go.Proofs.YtgkdodcidancpaaGreatDoor
open Go.RowKit

/-- An act: its kind, two texts, bytes, two numbers. -/
structure ActV where
  kind : Int
  sa : ByteArray
  sb : ByteArray
  ao : Option Addr
  data : List UInt8
  cap : Nat
  n : Int
  m : Int
def actA (c : ActV) : Array Value := #[.int .i64 c.kind, .string c.sa, .string c.sb, .slice c.ao c.data.length c.cap, .int .i64 c.n, .int .i64 c.m]
/-- The acts l can be read from the address on. -/
def ASees (w : World) (ao : Option Addr) (l : List ActV) : Prop := ∀ i c, l[i]? = some c → ∃ b off, ao = some ⟨b, off, none⟩ ∧ w.rangeAt b (off + i * 6) (actA c).toList
theorem ASees.below {w w' : World} {ao : Option Addr} {l : List ActV} (h : ASees w ao l) {B : Nat} (hb : Below B w w') (hB : w.heap.size ≤ B) : ASees w' ao l := by
  intro i c hc
  obtain ⟨b, off, e, hr⟩ := h i c hc
  refine ⟨b, off, e, fun j v hv => ?_⟩
  have h1 := hr j v hv
  have hlt := World.block_lt_of_cell? _ _ h1
  rw [hb.cell (p := ⟨b, off + i * 6 + j, none⟩) (by omega), h1]
/-- Six cells, one by one. -/
structure SixAt (w : World) (b o : Nat) (c : ActV) : Prop where
  c0 : w.cell? ⟨b, o, none⟩ = some (.int .i64 c.kind)
  c1 : w.cell? ⟨b, o + 1, none⟩ = some (.string c.sa)
  c2 : w.cell? ⟨b, o + 2, none⟩ = some (.string c.sb)
  c3 : w.cell? ⟨b, o + 3, none⟩ = some (.slice c.ao c.data.length c.cap)
  c4 : w.cell? ⟨b, o + 4, none⟩ = some (.int .i64 c.n)
  c5 : w.cell? ⟨b, o + 5, none⟩ = some (.int .i64 c.m)
theorem SixAt.of {w : World} {b o : Nat} {c : ActV} (h : w.rangeAt b o (actA c).toList) : SixAt w b o c := ⟨h 0 _ rfl, h 1 _ rfl, h 2 _ rfl, h 3 _ rfl, h 4 _ rfl, h 5 _ rfl⟩
theorem ASees.six {w : World} {ao : Option Addr} {l : List ActV} (h : ASees w ao l) {i : Nat} {c : ActV} (hc : l[i]? = some c) : ∃ b off, ao = some ⟨b, off, none⟩ ∧ SixAt w b (off + i * 6) c := by
  obtain ⟨b, off, e, hr⟩ := h i c hc
  exact ⟨b, off, e, .of hr⟩
/-- What came in is as it must be: its bytes lie in memory, numbers and sizes are such that can be. -/
structure ActV.Ok (w : World) (c : ActV) : Prop where
  sees : Sees w c.ao c.data
  zero : c.ao = none → c.data.length = 0
  kind : -9223372036854775808 ≤ c.kind ∧ c.kind ≤ 9223372036854775807
  n : -9223372036854775808 ≤ c.n ∧ c.n ≤ 9223372036854775807
  m : -9223372036854775808 ≤ c.m ∧ c.m ≤ 9223372036854775807
  big : c.data.length + c.sa.size + c.sb.size ≤ 562949953421312
theorem take_succ_act {α : Type} {l : List α} {i : Nat} {c : α} (h : l[i]? = some c) : l.take (i + 1) = l.take i ++ [c] := by
  rw [List.take_add_one, h]
  rfl
def hvA (c : ActV) : Nat := 1 + (c.data.length + c.sa.size + c.sb.size) / 40
def hvL (l : List ActV) : Nat := (l.map hvA).sum
theorem hvL_step {l : List ActV} {i : Nat} {c : ActV} (h : l[i]? = some c) : hvL (l.take (i + 1)) = hvL (l.take i) + hvA c := by
  rw [take_succ_act h]
  unfold hvL
  rw [List.map_append, List.sum_append]
  simp
theorem hvL_mem {l : List ActV} {c : ActV} (h : c ∈ l) : hvA c ≤ hvL l := by
  unfold hvL
  induction l with
  | nil => cases h
  | cons y r ih =>
    simp only [List.map_cons, List.sum_cons]
    rcases List.mem_cons.1 h with rfl | h
    · omega
    · have := ih h; omega
theorem hvL_len (l : List ActV) : l.length ≤ hvL l := by
  unfold hvL
  induction l with
  | nil => exact Nat.zero_le _
  | cons y r ih =>
    simp only [List.map_cons, List.sum_cons, List.length_cons]
    have : 1 ≤ hvA y := by unfold hvA; omega
    omega
end Go.Proofs.YtgkdodcidancpaaGreatDoor

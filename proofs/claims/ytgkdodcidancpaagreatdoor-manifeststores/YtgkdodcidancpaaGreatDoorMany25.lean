/-
  SEVERAL TEXTS IN ONE: DskRef4, KeyAt, KeyRefText.
-/
import Derived.Test.YtgkdodcidancpaaGreatDoorMany24
import Derived.WideAt
namespace Go.Proofs.YtgkdodcidancpaaGreatDoor
open Go.RowKit Go.Maps Go.WideAt Go.WideShapes

theorem info_of {t : TypeId} {z : Value} {k b : Nat} (h : (Tryz.prog.info? t).map (fun i => (i.zero, i.size, i.bytes)) = some (some z, k, b)) : ∃ i, Tryz.prog.info? t = some i ∧ i.zero = some z ∧ i.size = k ∧ i.bytes = b := by
  cases hI : Tryz.prog.info? t with
  | none => rw [hI] at h; cases h
  | some i =>
    rw [hI] at h
    simp at h
    exact ⟨i, rfl, h.1, h.2.1, h.2.2⟩
theorem bytesLess_before : ∀ a b : List UInt8, Op.bytesLess a b = bytesBefore a b
  | [], [] => rfl
  | [], _ :: _ => rfl
  | _ :: _, [] => rfl
  | a :: r, b :: s => by simp only [Op.bytesLess, bytesBefore, bytesLess_before r s]
theorem after_before (x n : List UInt8) : (!Op.bytesLess (strBD x).toList (strBD n).toList && !((strBD x).toList == (strBD n).toList)) = bytesBefore n x := by
  have e1 : (strBD x).toList = x := by rw [Go.ByteArray.toList_eq]; simp [strBD]
  have e2 : (strBD n).toList = n := by rw [Go.ByteArray.toList_eq]; simp [strBD]
  rw [e1, e2, bytesLess_before]
  by_cases h : x = n
  · subst h
    rw [bytes_irrefl]
    simp
  · have hb : (x == n) = false := by rw [beq_eq_false_iff_ne]; exact h
    rw [hb]
    rcases bytes_total x n h with h1 | h1
    · rw [h1]
      cases h2 : bytesBefore n x
      · rfl
      · have := bytes_trans _ _ _ h1 h2
        rw [bytes_irrefl] at this
        cases this
    · rw [h1]
      cases h2 : bytesBefore x n
      · rfl
      · have := bytes_trans _ _ _ h1 h2
        rw [bytes_irrefl] at this
        cases this
/-- The files, as a source. -/
theorem src_files {w : World} {r : Nat} {R : RM} (h : RefAt w r R) : Src Tryz.prog 3 47 R.vL R.fs.length (R.fs.flatMap RF.cells) w := by
  have hr := h.rowL
  rcases hr.2 with ⟨e, e2⟩ | ⟨g, cap, cur, e, _⟩
  · have h0 : R.fs = [] := List.eq_nil_of_length_eq_zero e2
    rw [e, h0]
    exact Src.ofNil w Tryz.underlying47 0
  · rw [e]
    exact Src.ofSlice w Tryz.underlying47 _ _ _ _ hr.1 (hr.cells (g := g) (by rw [e]; rfl)) (flat_one RF.cells_one _)
theorem row03 (w : World) : (w.alloc (.cells #[] 86)).ownsRow w.heap.size 86 3 (.slice (some ⟨w.heap.size, 0, none⟩) 0 0) 0 [] :=
  ⟨rfl, .inr ⟨w.heap.size, 0, #[], rfl, Nat.le_refl _, heap_alloc_new w _, Nat.le_refl _, by unfold maxLen; omega, rfl, rfl⟩⟩
theorem owns_frozen {w : World} {base : Nat} {e : TypeId} {k n c g : Nat} {xs : List Value} (h : w.ownsRow base e k (.slice (some ⟨g, 0, none⟩) n c) n xs) (i : Nat) : w.frozen? ⟨g, i, none⟩ = false := by
  rcases h.2 with ⟨e, _⟩ | ⟨g', c', cur, e, _, hh, _⟩
  · cases e
  · cases e
    simp [World.frozen?, hh]
theorem grown_set {w wr : World} (h : w.grownBy wr none) {g : Nat} (hg : w.heap.size ≤ g) (i : Nat) (v : Value) : w.grownBy (wr.setCell ⟨g, i, none⟩ v) none :=
  ⟨h.os, h.tape, h.output, by rw [size_setCell]; exact h.size, fun k hk hn => (Below.heap_setCell _ _ _ _ (fun e => by have e2 : k = g := e; omega)).trans (h.block k hk hn)⟩
theorem swap_sets {A B : List RF} {x f : RF} {j : Nat} (hA : A.length = j) : ((A ++ x :: f :: B).set j f).set (j + 1) x = A ++ f :: x :: B := by
  subst hA
  rw [List.set_append_right _ _ (Nat.le_refl _), Nat.sub_self, List.set_cons_zero, List.set_append_right _ _ (by omega)]
  have : A.length + 1 - A.length = 1 := by omega
  rw [this]
  rfl
theorem owns_swap {w : World} {base n c g : Nat} {T : TypeId} {L : List RF} {f : RF} {j : Nat} (hj : j < L.length) (ho : w.ownsRow base T 3 (.slice (some ⟨g, 0, none⟩) n c) n ((L.take (j + 1) ++ f :: L.drop (j + 1)).flatMap RF.cells)) :
    ((((((w.setCell ⟨g, j * 3, none⟩ (.string (strBD f.nm))).setCell ⟨g, j * 3 + 1, none⟩ (.slice f.ao f.bs.length f.cap)).setCell ⟨g, j * 3 + 2, none⟩ (.int .i64 (f.wr : Int))).setCell ⟨g, (j + 1) * 3, none⟩ (.string (strBD L[j].nm))).setCell ⟨g, (j + 1) * 3 + 1, none⟩ (.slice L[j].ao L[j].bs.length L[j].cap)).setCell ⟨g, (j + 1) * 3 + 2, none⟩ (.int .i64 (L[j].wr : Int))).ownsRow base T 3 (.slice (some ⟨g, 0, none⟩) n c) n ((L.take j ++ f :: L.drop j).flatMap RF.cells) := by
  have h1 := (((((ho.stored (j * 3) (.string (strBD f.nm))).1.stored (j * 3 + 1) (.slice f.ao f.bs.length f.cap)).1.stored (j * 3 + 2) (.int .i64 (f.wr : Int))).1.stored ((j + 1) * 3) (.string (strBD L[j].nm))).1.stored ((j + 1) * 3 + 1) (.slice L[j].ao L[j].bs.length L[j].cap)).1.stored ((j + 1) * 3 + 2) (.int .i64 (L[j].wr : Int))
  have ed : L.drop j = L[j] :: L.drop (j + 1) := List.drop_eq_getElem_cons hj
  have et : L.take (j + 1) = L.take j ++ [L[j]] := take_succ_ref hj
  generalize L[j] = x at *
  have hA : (L.take j).length = j := by rw [List.length_take]; omega
  rw [et] at h1
  rw [ed]
  generalize L.take j = A at *
  generalize L.drop (j + 1) = B at *
  have e0 : A ++ [x] ++ f :: B = A ++ x :: f :: B := by simp
  rw [e0] at h1
  have hx : (A ++ x :: f :: B)[j]? = some x := by rw [List.getElem?_append_right (by omega)]; simp [hA]
  have hl : ∀ y z : RF, (A ++ y :: z :: B)[j]? = some y ∧ (A ++ y :: z :: B)[j + 1]? = some z ∧ (∀ u, (A ++ y :: z :: B).set j u = A ++ u :: z :: B) ∧ (∀ u, (A ++ y :: z :: B).set (j + 1) u = A ++ y :: u :: B) := fun y z => by
    have a1 : j + 1 - A.length = 1 := by omega
    refine ⟨?_, ?_, fun u => ?_, fun u => ?_⟩
    · rw [List.getElem?_append_right (by omega)]; simp [hA]
    · rw [List.getElem?_append_right (by omega), a1]; rfl
    · rw [List.set_append_right _ _ (by omega), hA, Nat.sub_self]; rfl
    · rw [List.set_append_right _ _ (by omega), a1]; rfl
  have s1 := flat_set RF.cells_len (A ++ x :: f :: B) j 0 x ⟨f.nm, x.ao, x.cap, x.bs, x.wr⟩ (.string (strBD f.nm)) (hl x f).1 (by omega) rfl
  rw [(hl x f).2.2.1, Nat.add_zero] at s1
  have s2 := flat_set RF.cells_len (A ++ (⟨f.nm, x.ao, x.cap, x.bs, x.wr⟩ : RF) :: f :: B) j 1 _ ⟨f.nm, f.ao, f.cap, f.bs, x.wr⟩ (.slice f.ao f.bs.length f.cap) (hl _ f).1 (by omega) rfl
  rw [(hl _ f).2.2.1] at s2
  have s3 := flat_set RF.cells_len (A ++ (⟨f.nm, f.ao, f.cap, f.bs, x.wr⟩ : RF) :: f :: B) j 2 _ f (.int .i64 (f.wr : Int)) (hl _ f).1 (by omega) rfl
  rw [(hl _ f).2.2.1] at s3
  have s4 := flat_set RF.cells_len (A ++ f :: f :: B) (j + 1) 0 f ⟨x.nm, f.ao, f.cap, f.bs, f.wr⟩ (.string (strBD x.nm)) (hl f f).2.1 (by omega) rfl
  rw [(hl f f).2.2.2, Nat.add_zero] at s4
  have s5 := flat_set RF.cells_len (A ++ f :: (⟨x.nm, f.ao, f.cap, f.bs, f.wr⟩ : RF) :: B) (j + 1) 1 _ ⟨x.nm, x.ao, x.cap, x.bs, f.wr⟩ (.slice x.ao x.bs.length x.cap) (hl f _).2.1 (by omega) rfl
  rw [(hl f _).2.2.2] at s5
  have s6 := flat_set RF.cells_len (A ++ f :: (⟨x.nm, x.ao, x.cap, x.bs, f.wr⟩ : RF) :: B) (j + 1) 2 _ x (.int .i64 (x.wr : Int)) (hl f _).2.1 (by omega) rfl
  rw [(hl f _).2.2.2] at s6
  rw [s1, s2, s3, s4, s5, s6] at h1
  exact h1.1
theorem ins_world {w wr : World} {gg n1 c3 j : Nat} {L : List RF} {f : RF} (hj : j < L.length) (hg : w.grownBy wr none) (hgl : w.heap.size ≤ gg) (ho : wr.ownsRow w.heap.size 86 3 (.slice (some ⟨gg, 0, none⟩) n1 c3) n1 ((L.take (j + 1) ++ f :: L.drop (j + 1)).flatMap RF.cells)) (x : RF) (hx : L[j] = x) (k : Nat) :
    w.grownBy (((((((wr.drewN k).setCell ⟨gg, j * 3, none⟩ (.string (strBD f.nm))).setCell ⟨gg, j * 3 + 1, none⟩ (.slice f.ao f.bs.length f.cap)).setCell ⟨gg, j * 3 + 2, none⟩ (.int .i64 (f.wr : Int))).setCell ⟨gg, (j + 1) * 3, none⟩ (.string (strBD x.nm))).setCell ⟨gg, (j + 1) * 3 + 1, none⟩ (.slice x.ao x.bs.length x.cap)).setCell ⟨gg, (j + 1) * 3 + 2, none⟩ (.int .i64 (x.wr : Int))) none ∧ World.ownsRow (((((((wr.drewN k).setCell ⟨gg, j * 3, none⟩ (.string (strBD f.nm))).setCell ⟨gg, j * 3 + 1, none⟩ (.slice f.ao f.bs.length f.cap)).setCell ⟨gg, j * 3 + 2, none⟩ (.int .i64 (f.wr : Int))).setCell ⟨gg, (j + 1) * 3, none⟩ (.string (strBD x.nm))).setCell ⟨gg, (j + 1) * 3 + 1, none⟩ (.slice x.ao x.bs.length x.cap)).setCell ⟨gg, (j + 1) * 3 + 2, none⟩ (.int .i64 (x.wr : Int))) w.heap.size 86 3 (.slice (some ⟨gg, 0, none⟩) n1 c3) n1 ((L.take j ++ f :: L.drop j).flatMap RF.cells) := by
  have h0 : w.grownBy (wr.drewN k) none := ⟨hg.os, hg.tape, hg.output, hg.size, hg.block⟩
  have h1 := grown_set h0 hgl (j * 3) (.string (strBD f.nm))
  have h2 := grown_set h1 hgl (j * 3 + 1) (.slice f.ao f.bs.length f.cap)
  have h3 := grown_set h2 hgl (j * 3 + 2) (.int .i64 (f.wr : Int))
  have h4 := grown_set h3 hgl ((j + 1) * 3) (.string (strBD x.nm))
  have h5 := grown_set h4 hgl ((j + 1) * 3 + 1) (.slice x.ao x.bs.length x.cap)
  have h6 := grown_set h5 hgl ((j + 1) * 3 + 2) (.int .i64 (x.wr : Int))
  refine ⟨h6, ?_⟩
  have ho' : (wr.drewN k).ownsRow w.heap.size 86 3 (.slice (some ⟨gg, 0, none⟩) n1 c3) n1 ((L.take (j + 1) ++ f :: L.drop (j + 1)).flatMap RF.cells) := ho
  have := owns_swap hj ho'
  rw [hx] at this
  exact this
/-- A file among the others, by names. -/
def insR (f : RF) : List RF → List RF
  | [] => [f]
  | y :: r => if bytesBefore f.nm y.nm then f :: y :: r else y :: insR f r
theorem ins_split : ∀ (L : List RF) (f : RF) (i : Nat), L.Pairwise (fun x y => bytesBefore x.nm y.nm = true) → i ≤ L.length → (∀ x ∈ L.drop i, bytesBefore f.nm x.nm = true) → (∀ x, 0 < i → L[i - 1]? = some x → bytesBefore f.nm x.nm = false) → L.take i ++ f :: L.drop i = insR f L
  | [], f, i, _, _, _, _ => by simp [insR]
  | y :: r, f, 0, _, _, hb, _ => by
    have := hb y (by simp)
    simp [insR, this]
  | y :: r, f, i + 1, hs, hi, hb, hn => by
    rw [List.pairwise_cons] at hs
    have hny : bytesBefore f.nm y.nm = false := by
      rcases Nat.eq_zero_or_pos i with rfl | hp
      · exact hn y (by omega) (by simp)
      · have hlt : i - 1 < r.length := by simp at hi; omega
        have e : (y :: r)[i + 1 - 1]? = some r[i - 1] := by
          obtain ⟨k, rfl⟩ : ∃ k, i = k + 1 := ⟨i - 1, by omega⟩
          simp only [Nat.add_sub_cancel, List.getElem?_cons_succ] at *
          exact List.getElem?_eq_getElem hlt
        have h1 := hn r[i - 1] (by omega) e
        cases h2 : bytesBefore f.nm y.nm
        · rfl
        · have := bytes_trans _ _ _ h2 (hs.1 r[i - 1] (List.getElem_mem hlt))
          rw [h1] at this
          cases this
    have ih := ins_split r f i hs.2 (by simpa using hi) (by simpa using hb) (fun x hp hx => hn x (by omega) (by
      obtain ⟨k, rfl⟩ : ∃ k, i = k + 1 := ⟨i - 1, by omega⟩
      simpa using hx))
    simp [insR, hny, ih]
set_option maxRecDepth 100000 in
set_option maxHeartbeats 3200000 in
theorem ref_insert {w : World} {r : Nat} {R : RM} (h : RefAt w r R) (hn : R.fs.length ≤ 1000000) (f : RF) (hs : R.fs.Pairwise (fun x y => bytesBefore x.nm y.nm = true)) (hf : Sees w f.ao f.bs ∧ (f.ao = none → f.bs.length = 0) ∧ ∀ g ∈ f.blk, g ∈ f.blk ∧ g < w.heap.size ∧ g ≠ r ∧ R.vN.ownBlock ≠ some g) :
    Calls Tryz.prog 76 #[.pointer (some ⟨r, 0, none⟩), .agg #[.string (strBD f.nm), .slice f.ao f.bs.length f.cap, .int .i64 (f.wr : Int)]] w fun x w' => x = .returned (.tuple #[]) ∧ ∃ v, RefAt w' r { R with vL := v, fs := insR f R.fs } ∧ Moved w w' [r] [] ∧ ∀ i ∈ ({ R with vL := v, fs := insR f R.fs } : RM).foot r, i ∈ R.foot r ∨ i ∈ f.blk ∨ w.heap.size ≤ i := by
  obtain ⟨i0, hinf, hq0, hq1, hq2⟩ := info_of infoFl
  have HR : Hid (RefAt w r R) := h
  obtain ⟨aoL, capL, hvL, hcapL, _⟩ := h.files
  have c1 := h.c1
  rw [hvL] at c1
  have hlt := h.head.lt
  have HC1 : Hid (∀ w', w.grownBy w' none → w'.cell? ⟨r, 1, none⟩ = some (.slice aoL R.fs.length capL) ∧ w'.frozen? ⟨r, 1, none⟩ = false ∧ Src Tryz.prog 3 47 (.slice aoL R.fs.length capL) R.fs.length (R.fs.flatMap RF.cells) w') := fun w' hg => by
    have h' := HR.out.grown hg
    have hs := src_files h'
    rw [hvL] at hs
    exact ⟨by rw [← hvL]; exact h'.c1, h'.head.frozen 1, hs⟩
  have hb2 : R.fs.length * 48 ≤ 140737488355328 := by omega
  have hm1 : R.fs.length ≤ maxLen := by unfold maxLen; omega
  have hnz : (R.fs.length : Int) ≤ 1000000 := by omega
  obtain ⟨q0, q1, q2⟩ := HC1.out _ (grown_alloc (World.grownBy_alloc w (.cells #[.string (strBD f.nm), .slice f.ao f.bs.length f.cap, .int .i64 (f.wr : Int)] 86) none) (.cells #[] 86))
  have HB0 : Hid (∀ (w2 : World) (v' : Value), Grew ((w.alloc (.cells (RF.cells f).toArray 86)).alloc (.cells #[] 86)) w2 (.slice (some ⟨w.heap.size + 1, 0, none⟩) 0 0) v' → w.grownBy w2 none ∧ w2.cell? ⟨w.heap.size, 0, none⟩ = some (.string (strBD f.nm)) ∧ w2.cell? ⟨w.heap.size, 1, none⟩ = some (.slice f.ao f.bs.length f.cap) ∧ w2.cell? ⟨w.heap.size, 2, none⟩ = some (.int .i64 (f.wr : Int))) := fun w2 v' hg => by
    have hb : Blk ((w.alloc (.cells (RF.cells f).toArray 86)).alloc (.cells #[] 86)) w.heap.size (RF.cells f) 86 := (Blk.new w _ _).alloc _
    have hz : ((w.alloc (.cells (RF.cells f).toArray 86)).alloc (.cells #[] 86)).heap.size = w.heap.size + 2 := by simp
    have hb2 : Blk w2 w.heap.size (RF.cells f) 86 := hb.carry (hg.rows.block w.heap.size (by omega) (by simp [Value.ownBlock]))
    refine ⟨(grown_alloc (World.grownBy_alloc w (.cells (RF.cells f).toArray 86) none) (.cells #[] 86)).andThen hg.rows (fun j hj => .inl (by simp [Value.ownBlock] at hj; omega)), hb2.cell 0 rfl, hb2.cell 1 rfl, hb2.cell 2 rfl⟩
  have HR0 : Hid (((w.alloc (.cells (RF.cells f).toArray 86)).alloc (.cells #[] 86)).ownsRow w.heap.size 86 3 (.slice (some ⟨w.heap.size + 1, 0, none⟩) 0 0) 0 []) := by
    have := row03 (w.alloc (.cells (RF.cells f).toArray 86))
    rw [World.size_alloc] at this
    exact ⟨this.1, this.2.imp id fun ⟨g, cap, cur, e, hb, x⟩ => ⟨g, cap, cur, e, by omega, x⟩⟩
  have HZ0 : Hid (w.heap.size ≤ ((w.alloc (.cells (RF.cells f).toArray 86)).alloc (.cells #[] 86)).heap.size) := by show _ ≤ _; simp; omega
  have HS1 : Hid (∀ (w1 : World) (g : Nat), Src Tryz.prog 3 47 (.slice (some ⟨w1.heap.size, 0, none⟩) 1 1) 1 (RF.cells f) (w1.alloc (.cells (RF.cells f).toArray 86))) := fun w1 g => src_rec Tryz.underlying47 (RF.cells_len f) (Blk.new w1 _ _) (RF.cells_one f)
  obtain ⟨n1, hn1⟩ : ∃ n1, R.fs.length + 1 = n1 := ⟨_, rfl⟩
  have HE2 : Hid (∀ (w2 w3 : World) (v1 v' : Value), w.grownBy w2 none → w2.ownsRow w.heap.size 86 3 v1 (0 + R.fs.length) ([] ++ R.fs.flatMap RF.cells) → Grew (w2.alloc (.cells (RF.cells f).toArray 86)) w3 v1 v' → w3.ownsRow w.heap.size 86 3 v' (0 + R.fs.length + 1) (([] ++ R.fs.flatMap RF.cells) ++ RF.cells f) → w.grownBy w3 none ∧ ∃ g c, v' = .slice (some ⟨g, 0, none⟩) n1 c ∧ n1 ≤ c ∧ w3.ownsRow w.heap.size 86 3 (.slice (some ⟨g, 0, none⟩) n1 c) n1 ((R.fs.take R.fs.length ++ f :: R.fs.drop R.fs.length).flatMap RF.cells)) := fun w2 w3 v1 v' hg ho hgr ho3 => by
    subst hn1
    refine ⟨grew_new (grown_alloc hg _) (owns_up ho (World.grownBy_alloc _ _ _)) hgr, ?_⟩
    have e : (R.fs.take R.fs.length ++ f :: R.fs.drop R.fs.length).flatMap RF.cells = ([] ++ R.fs.flatMap RF.cells) ++ RF.cells f := by simp
    rw [Nat.zero_add] at ho3
    rw [e]
    rcases ho3.2 with ⟨_, h2⟩ | ⟨g, c, cur, e2, hb, hh, hc, x⟩
    · omega
    · exact ⟨g, c, e2, hc, e2 ▸ ho3⟩
  have HEnd : Hid (∀ (wr : World) (g c i : Nat), i ≤ R.fs.length → w.grownBy wr none → wr.ownsRow w.heap.size 86 3 (.slice (some ⟨g, 0, none⟩) n1 c) n1 ((R.fs.take i ++ f :: R.fs.drop i).flatMap RF.cells) → (∀ x ∈ R.fs.drop i, bytesBefore f.nm x.nm = true) → (∀ x, 0 < i → R.fs[i - 1]? = some x → bytesBefore f.nm x.nm = false) → ∃ v, RefAt (wr.setCell ⟨r, 1, none⟩ (.slice (some ⟨g, 0, none⟩) n1 c)) r { R with vL := v, fs := insR f R.fs } ∧ Moved w (wr.setCell ⟨r, 1, none⟩ (.slice (some ⟨g, 0, none⟩) n1 c)) [r] [] ∧ ∀ i ∈ ({ R with vL := v, fs := insR f R.fs } : RM).foot r, i ∈ R.foot r ∨ i ∈ f.blk ∨ w.heap.size ≤ i) := fun wr g c i hi hg ho h1 h2 => by
    subst hn1
    have e := ins_split R.fs f i hs hi h1 h2
    rw [e] at ho
    have hl : (insR f R.fs).length = R.fs.length + 1 := by rw [← e]; simp; omega
    refine ⟨_, HR.out.newFiles hg (.slice (some ⟨g, 0, none⟩) (R.fs.length + 1) c) (insR f R.fs) (by rw [hl]; exact ho) f.blk fun y hy => ?_⟩
    rw [← e] at hy
    rcases List.mem_append.1 hy with h3 | h3
    · exact .inl (List.mem_of_mem_take h3)
    · rcases List.mem_cons.1 h3 with rfl | h4
      · exact .inr hf
      · exact .inl (List.mem_of_mem_drop h4)
  have hm2 : 0 + R.fs.length ≤ maxLen := by omega
  have hm3 : 0 + R.fs.length + 1 ≤ maxLen := by unfold maxLen; omega
  have hb3 : (0 + R.fs.length) * 48 ≤ 140737488355328 := by omega
  have hb4 : (0 + R.fs.length + 1) * 48 ≤ 140737488355328 := by omega
  obtain ⟨nm, ao, cap, bs, wr0⟩ := f
  simp only at *
  clear h hvL hb2 hm1
  go_enter Tryz.func76, Tryz.ntmps76
  go_wp2_with (first
    | ((with_reducible (show wpList _ _ _ (Oper.mk _ (Op.call ⟨Callee.builtin Builtin.append, #[.tmp 6, .tmp 10], _⟩) _ _ _ _ :: _) _ _)); go_must (refine wpList_append_grew _ rfl (.tmp 6) (.tmp 10) 47 47 rfl w.heap.size 86 i0 (.agg #[.string ⟨#[]⟩, .slice none 0 0, .int .i64 0]) 3 48 Tryz.underlying47 hinf hq0 hq1 hq2 rfl _ 0 [] rfl HR0.out _ R.fs.length (R.fs.flatMap RF.cells) rfl q2 hm2 hb3 HZ0.out ?_; intro v2 w2 ho2 hg2; obtain ⟨g2, b0, b1, b2⟩ := HB0.out _ _ hg2))
    | ((with_reducible (show wpList _ _ _ (Oper.mk _ (Op.call ⟨Callee.builtin Builtin.append, #[.tmp 12, .tmp 14], _⟩) _ _ _ _ :: _) _ _)); go_must (refine wpList_append_grew _ rfl (.tmp 12) (.tmp 14) 47 47 rfl w.heap.size 86 i0 (.agg #[.string ⟨#[]⟩, .slice none 0 0, .int .i64 0]) 3 48 Tryz.underlying47 hinf hq0 hq1 hq2 rfl _ (0 + R.fs.length) _ rfl (owns_up ho2 (World.grownBy_alloc _ _ _)) _ 1 (RF.cells ⟨nm, ao, cap, bs, wr0⟩) rfl (HS1.out _ 0) hm3 hb4 (by have := g2.size; simp; omega) ?_; intro v3 w3 ho3 hg3; obtain ⟨g3, gg, c3, rfl, hc3, ho3⟩ := HE2.out _ _ _ _ g2 ho2 hg3 ho3)))
  have HO : Hid (w3.ownsRow w.heap.size 86 3 (.slice (some ⟨gg, 0, none⟩) n1 c3) n1 ((R.fs.take R.fs.length ++ ⟨nm, ao, cap, bs, wr0⟩ :: R.fs.drop R.fs.length).flatMap RF.cells)) := ho3
  have HG3 : Hid (w.grownBy w3 none) := g3
  clear ho3 ho2 hg2 hg3 g2 b0 b1 b2 q0 q1 q2 HS1 HE2 HB0 HR0 HZ0 hm2 hm3 hb3 hb4
  have hc3z : (n1 : Int) ≤ (c3 : Int) := by omega
  go_loopw [5] (fun s5 wr => ∃ i : Nat, i ≤ R.fs.length ∧ s5 = .int .i64 (i : Int) ∧ w.grownBy wr none ∧ wr.ownsRow w.heap.size 86 3 (.slice (some ⟨gg, 0, none⟩) n1 c3) n1 ((R.fs.take i ++ ⟨nm, ao, cap, bs, wr0⟩ :: R.fs.drop i).flatMap RF.cells) ∧ ∀ x ∈ R.fs.drop i, bytesBefore nm x.nm = true) (fun s5 _ => (intOf s5).toNat)
  case atStart => exact ⟨R.fs.length, Nat.le_refl _, by rw [← hn1]; go_num, HG3.out, HO.out, by simp⟩
  case round =>
    obtain ⟨i, hi, rfl, hg, ho, hbf⟩ := hrel
    clear HO HG3
    have hiz : (i : Int) ≤ (R.fs.length : Int) := by omega
    rcases Nat.eq_zero_or_pos i with rfl | hpos
    · go_wp2_with fail
      go_quiet (fail)
      have hgd : Hid (w.grownBy (wr.drewN nq) none) := ⟨hg.os, hg.tape, hg.output, hg.size, hg.block⟩
      obtain ⟨q0, q1, _⟩ := HC1.out _ hgd.out
      have hE := HEnd.out _ _ _ 0 (Nat.zero_le _) hgd.out ho hbf (fun x h => absurd h (Nat.lt_irrefl _))
      have HE : Hid _ := hE
      clear hE ho hg hbf
      go_wp2_with fail
      go_end0
      exact ⟨rfl, HE.out⟩
    · have hlt : i - 1 < R.fs.length := by omega
      have hp : 0 < (i : Int) := by omega
      have HF := ho
      have hl1 : (R.fs.take i ++ (⟨nm, ao, cap, bs, wr0⟩ : RF) :: R.fs.drop i)[i - 1]? = some R.fs[i - 1] := by
        rw [List.getElem?_append_left (by rw [List.length_take]; omega), List.getElem?_take_of_lt (by omega), List.getElem?_eq_getElem hlt]
      have hl2 : (R.fs.take i ++ (⟨nm, ao, cap, bs, wr0⟩ : RF) :: R.fs.drop i)[i]? = some ⟨nm, ao, cap, bs, wr0⟩ := by
        rw [List.getElem?_append_right (by rw [List.length_take]; omega)]
        simp [Nat.min_eq_left hi]
      have hlen : (R.fs.take i ++ (⟨nm, ao, cap, bs, wr0⟩ : RF) :: R.fs.drop i).length = n1 := by simp; omega
      rw [← hlen] at HF
      obtain ⟨_, _, e, _, hcell⟩ := owns_recs RF.cells_len HF
      cases e
      obtain ⟨_, e, _, hc1⟩ := hcell (i - 1) _ hl1
      cases e
      obtain ⟨_, e, _, hc2⟩ := hcell i _ hl2
      cases e
      have k10 := hc1 0 _ rfl
      have k11 := hc1 1 _ rfl
      have k12 := hc1 2 _ rfl
      have k20 := hc2 0 _ rfl
      have k21 := hc2 1 _ rfl
      have k22 := hc2 2 _ rfl
      simp only [Nat.add_zero] at k10 k20
      obtain ⟨j, rfl⟩ : ∃ j, i = j + 1 := ⟨i - 1, by omega⟩
      simp only [Nat.add_sub_cancel] at *
      have HX : Hid (R.fs[j]? = some R.fs[j]) := List.getElem?_eq_getElem hlt
      have HDR : Hid (R.fs.drop j = R.fs[j] :: R.fs.drop (j + 1)) := List.drop_eq_getElem_cons hlt
      have hgl : w.heap.size ≤ gg := (ho.lt gg rfl).1
      obtain ⟨x, hx⟩ : ∃ x, R.fs[j] = x := ⟨_, rfl⟩
      have hlt2 : j < R.fs.length := hlt
      have HW : Hid _ := ins_world (j := j) hlt2 hg hgl ho x hx
      rw [hx] at k10 k11 k12 HX HDR
      clear hx
      obtain ⟨xnm, xao, xcap, xbs, xwr⟩ := x
      simp only at k10 k11 k12 k20 k21 k22 HW
      clear hcell hc1 hc2 HF hlen hl1 hl2
      have HBF : Hid (∀ x ∈ R.fs.drop (j + 1), bytesBefore nm x.nm = true) := hbf
      have HGR : Hid (∀ k : Nat, w.grownBy (wr.drewN k) none) := fun k => ⟨hg.os, hg.tape, hg.output, hg.size, hg.block⟩
      have HOW : Hid (wr.ownsRow w.heap.size 86 3 (.slice (some ⟨gg, 0, none⟩) n1 c3) n1 ((R.fs.take (j + 1) ++ ⟨nm, ao, cap, bs, wr0⟩ :: R.fs.drop (j + 1)).flatMap RF.cells)) := ho
      clear hbf hg
      have hjl : j < n1 := by omega
      have hjl2 : j + 1 < n1 := by omega
      by_cases hb : bytesBefore nm xnm = true
      · go_wp2_with fail
        go_quiet (fail)
        rw [after_before, hb]
        have f10 : wr.frozen? ⟨gg, j * 3, none⟩ = false := owns_frozen HOW.out (j * 3)
        have f11 : wr.frozen? ⟨gg, j * 3 + 1, none⟩ = false := owns_frozen HOW.out (j * 3 + 1)
        have f12 : wr.frozen? ⟨gg, j * 3 + 2, none⟩ = false := owns_frozen HOW.out (j * 3 + 2)
        have f20 : wr.frozen? ⟨gg, (j + 1) * 3, none⟩ = false := owns_frozen HOW.out ((j + 1) * 3)
        have f21 : wr.frozen? ⟨gg, (j + 1) * 3 + 1, none⟩ = false := owns_frozen HOW.out ((j + 1) * 3 + 1)
        have f22 : wr.frozen? ⟨gg, (j + 1) * 3 + 2, none⟩ = false := owns_frozen HOW.out ((j + 1) * 3 + 2)
        go_wp2_with fail
        go_region
        go_wp2_with fail
        have hwk := HW.out (nq + 1)
        have hdr : ∀ y ∈ R.fs.drop j, bytesBefore nm y.nm = true := fun y hy => by
          rw [HDR.out] at hy
          rcases List.mem_cons.1 hy with rfl | h5
          · exact hb
          · exact HBF.out y h5
        exact ⟨⟨j, by omega, by go_num, hwk.1, hwk.2, hdr⟩, by simp [intOf]⟩
      · have hb0 : bytesBefore nm xnm = false := by simpa using hb
        go_wp2_with fail
        go_quiet (fail)
        rw [after_before, hb0]
        obtain ⟨q0, q1, _⟩ := HC1.out _ (HGR.out nq)
        have hE := HEnd.out _ _ _ (j + 1) hi (HGR.out nq) HOW.out HBF.out (fun y _ hy => by
          simp only [Nat.add_sub_cancel] at hy
          rw [HX.out] at hy
          cases hy
          exact hb0)
        have HE : Hid _ := hE
        clear hE
        go_wp2_with fail
        go_end0
        exact ⟨rfl, HE.out⟩
end Go.Proofs.YtgkdodcidancpaaGreatDoor
namespace Go.Proofs.YtgkdodcidancpaaGreatDoor
open Go.RowKit

structure KAt (w : World) (g : Nat) (k : Kb) : Prop where
  t : w.cell? ⟨g, 0, none⟩ = some (.string k.t)
  p : w.cell? ⟨g, 1, none⟩ = some (.string k.p)
  r : w.cell? ⟨g, 2, none⟩ = some (.int .i64 k.r)
  c : w.cell? ⟨g, 3, none⟩ = some (.string k.c)
theorem KAt.below {w w' : World} {g : Nat} {k : Kb} (h : KAt w g k) {B : Nat} (hb : Below B w w') (hg : g < B) : KAt w' g k :=
  ⟨by rw [hb.cell hg, h.t], by rw [hb.cell hg, h.p], by rw [hb.cell hg, h.r], by rw [hb.cell hg, h.c]⟩
theorem KAt.of {w : World} {g : Nat} {k : Kb} {ty : TypeId} {z : Nat × Nat} (h : w.heap[g]? = some (.cells #[.string k.t, .string k.p, .int .i64 k.r, .string k.c] ty z)) : KAt w g k :=
  ⟨by simp [World.cell?, h], by simp [World.cell?, h], by simp [World.cell?, h], by simp [World.cell?, h]⟩
theorem KAt.lt {w : World} {g : Nat} {k : Kb} (h : KAt w g k) : g < w.heap.size := World.block_lt_of_cell? _ _ h.t
theorem KAt.new (w : World) (k : Kb) (ty : TypeId) : KAt (w.alloc (.cells #[.string k.t, .string k.p, .int .i64 k.r, .string k.c] ty)) w.heap.size k := KAt.of (heap_alloc_new w _)
theorem KAt.alloc {w : World} {g : Nat} {k : Kb} (h : KAt w g k) (o : Obj) : KAt (w.alloc o) g k := h.below ((Below.refl w.heap.size w).alloc (Nat.le_refl _) o) h.lt
theorem KAt.setOther {w : World} {g : Nat} {k : Kb} (h : KAt w g k) {a : Addr} (u : Value) (hne : g ≠ a.block) : KAt (w.setCell a u) g k := by
  have e : ∀ i, (w.setCell a u).cell? ⟨g, i, none⟩ = w.cell? ⟨g, i, none⟩ := fun i => World.cell?_of_block (Below.heap_setCell w a u g hne)
  exact ⟨by rw [e, h.t], by rw [e, h.p], by rw [e, h.r], by rw [e, h.c]⟩
/-- A key whose block is known whole, with two texts set. -/
theorem set_two {w : World} {g : Nat} {t2 p2 c2 : ByteArray} {r2 : Int} {ty : TypeId} {z : Nat × Nat} (h : w.heap[g]? = some (.cells #[.string t2, .string p2, .int .i64 r2, .string c2] ty z)) (t1 p1 : ByteArray) :
    KAt ((w.setCell ⟨g, 0, none⟩ (.string t1)).setCell ⟨g, 1, none⟩ (.string p1)) g ⟨t1, p1, r2, c2⟩ := by
  refine KAt.of (ty := ty) (z := z) ?_
  simp only [World.setCell, Array.getElem?_modify, h]
  simp
theorem set_two' {w : World} {g : Nat} {t2 p2 c2 : ByteArray} {r2 : Int} {ty : TypeId} {z : Nat × Nat} (h : w.heap[g]? = some (.cells #[.string t2, .string p2, .int .i64 r2, .string c2] ty z)) (t1 p1 : ByteArray) :
    KAt ((w.setCell ⟨g, 1, none⟩ (.string p1)).setCell ⟨g, 0, none⟩ (.string t1)) g ⟨t1, p1, r2, c2⟩ := by
  refine KAt.of (ty := ty) (z := z) ?_
  simp only [World.setCell, Array.getElem?_modify, h]
  simp
theorem frozen_of {w : World} {g : Nat} {cs : Array Value} {ty : TypeId} (h : w.heap[g]? = some (.cells cs ty)) (i : Nat) : w.frozen? ⟨g, i, none⟩ = false := by simp [World.frozen?, h]
/-- Two keys are one, as the walk spells it. -/
def eqK (a b : Kb) : Bool := a.t.toList == b.t.toList && (a.p.toList == b.p.toList && (a.r == b.r && a.c.toList == b.c.toList))
theorem eqK_iff (a b : Kb) : eqK a b = true ↔ a = b := by
  unfold eqK
  rw [ba_same, ba_same, ba_same]
  cases a; cases b
  simp only [Bool.and_eq_true, decide_eq_true_eq, beq_iff_eq, Kb.mk.injEq]
theorem eqK_kc (a b : Kb) : (kc a.ky b.ky == 0) = eqK a b := by
  rw [Bool.eq_iff_iff, beq_iff_eq, eqK_iff, kc_cmpr.z, Kb.ky_inj]
/-- How two keys compare, of their parts. -/
def kcB (t1 p1 : ByteArray) (r1 : Int) (c1 t2 p2 : ByteArray) (r2 : Int) (c2 : ByteArray) : Int := kc (Kb.ky ⟨t1, p1, r1, c1⟩) (Kb.ky ⟨t2, p2, r2, c2⟩)
end Go.Proofs.YtgkdodcidancpaaGreatDoor
namespace Go.Proofs.YtgkdodcidancpaaGreatDoor
open Go.RowKit

theorem msk_succ (l : List UInt8) (k : Nat) (hk : k < l.length) : msk (l.take (k + 1)) = msk (l.take k) ++ m1 (l.getD k 0) := by
  have e : l.getD k 0 = l[k] := by simp [List.getD, hk]
  rw [List.take_succ_eq_append_getElem hk, e]
  unfold msk
  rw [List.flatMap_append]
  simp
theorem strB_app (a b : List UInt8) : strB a ++ strB b = strB (a ++ b) := by
  rw [← nb_inj, nb_app, nb_strB, nb_strB, nb_strB]
theorem extract_one (s : ByteArray) (k : Nat) (hk : k < s.size) : s.extract k (k + 1) = strB [s[k]] := by
  rw [← nb_inj, nb_strB]
  show (s.extract k (k + 1)).data.toList = _
  rw [ByteArray.data_extract, Array.toList_extract, List.extract_eq_take_drop]
  have hk' : k < s.data.toList.length := by simpa using hk
  rw [List.drop_eq_getElem_cons hk', Nat.add_sub_cancel_left]
  rfl
theorem dec_len (n : Int) (hn : -9223372036854775808 ≤ n ∧ n ≤ 9223372036854775807) : (Lib.decDigits n.natAbs).length ≤ 21 := by
  have := Lib.itoa_length_le n hn.1 hn.2
  unfold Lib.itoa at this
  split at this
  · rw [List.length_cons] at this; omega
  · rename_i h
    have e : n.toNat = n.natAbs := by omega
    rwa [e] at this
theorem tmod_pos (x : Int) (h : 0 ≤ x) : x.tmod 10 = ((x.natAbs % 10 : Nat) : Int) ∧ x.tdiv 10 = ((x.natAbs / 10 : Nat) : Int) := by
  rw [Int.tmod_eq_emod_of_nonneg h, Int.tdiv_eq_ediv_of_nonneg h]; omega
theorem tmod_neg (x : Int) (h : x < 0) : x.tmod 10 = -((x.natAbs % 10 : Nat) : Int) ∧ x.tdiv 10 = -((x.natAbs / 10 : Nat) : Int) := by
  have e : x = - (-x) := by omega
  rw [e, Int.neg_tmod, Int.neg_tdiv]
  have := tmod_pos (-x) (by omega)
  rw [this.1, this.2]
  simp
end Go.Proofs.YtgkdodcidancpaaGreatDoor

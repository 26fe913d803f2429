/-
  CONTRACT: the buckets of sizes (Buckets).
-/
import Derived.Test.YtdeobmihkcfofaaTirAlike
namespace Go.Proofs.Ytdeobmihkcfofaa
open Go.RowKit

/-- A list of numbers in memory. -/
structure Iv where
  ao : Option Addr
  l : List Nat
  cap : Nat
def Iv.s (v : Iv) : Value := .slice v.ao v.l.length v.cap
def lenS : Value → Nat
  | .slice _ n _ => n
  | _ => 0
/-- Lists of numbers in memory. -/
structure BSees (w : World) (bo : Option Addr) (vs : List Iv) : Prop where
  at' : ∀ i v, vs[i]? = some v → ∃ b off, bo = some ⟨b, off, none⟩ ∧ w.cell? ⟨b, off + i, none⟩ = some v.s
  ins : ∀ v ∈ vs, ISees w v.ao (zs v.l)
/-- .. in new memory. -/
structure BNew (B : Nat) (bo : Option Addr) (vs : List Iv) : Prop where
  at' : ∀ a, bo = some a → B ≤ a.block
  ins : ∀ v ∈ vs, ∀ a, v.ao = some a → B ≤ a.block
theorem BSees.below {w w' : World} {bo : Option Addr} {vs : List Iv} (h : BSees w bo vs) {B : Nat} (hb : Below B w w') (hB : w.heap.size ≤ B) : BSees w' bo vs := by
  refine ⟨fun i v hv => ?_, fun v hv => (h.ins v hv).below hb hB⟩
  obtain ⟨b, off, e, hc⟩ := h.at' i v hv
  have := World.block_lt_of_cell? _ _ hc
  exact ⟨b, off, e, by rw [hb.cell (show b < B from Nat.lt_of_lt_of_le this hB)]; exact hc⟩
theorem src_oneV {P : Program} {t e' : TypeId} (hk : P.underlying t = some (.slice e')) (w : World) (v : Value) (e : TypeId) (h1 : v.oneCell' = true) : Src P 1 t (.slice (some ⟨w.heap.size, 0, none⟩) 1 1) 1 [v] (w.alloc (.cells #[v] e)) := by
  refine Src.ofSlice _ hk _ _ 1 _ rfl (fun j u hu => ?_) (fun u hu => by rw [List.mem_singleton.1 hu]; exact h1)
  have hj : j = 0 := by have := (List.getElem?_eq_some_iff.1 hu).1; simp at this; exact this
  subst hj
  obtain rfl : v = u := by simpa using hu
  rw [Addr.add_lit]
  simp only [World.cell?, heap_alloc_new]
  rfl
theorem owns_keepT {w w' : World} {B : Nat} {e : TypeId} {k n : Nat} {v : Value} {xs : List Value} (h : w.ownsRow B e k v n xs) (hk : ∀ g, v.ownBlock = some g → w'.heap[g]? = w.heap[g]?) : w'.ownsRow B e k v n xs := by
  refine ⟨h.1, ?_⟩
  rcases h.2 with h2 | ⟨g, cap, cur, rfl, h3, h4, h5⟩
  · exact .inl h2
  · exact .inr ⟨g, cap, cur, rfl, h3, by rw [hk g rfl]; exact h4, h5⟩
theorem owns_shapeT {w : World} {B : Nat} {e : TypeId} {k n : Nat} {v : Value} {xs : List Value} (h : w.ownsRow B e k v n xs) : ∃ a c, v = .slice a n c := by
  rcases h.2 with ⟨rfl, rfl⟩ | ⟨g, cap, cur, rfl, _⟩
  · exact ⟨_, _, rfl⟩
  · exact ⟨_, _, rfl⟩
/-- A bucket that lies in the row D of block g. -/
def InD (g : Nat) (D : List Nat) (v : Iv) : Prop := ∃ o, v.ao = some ⟨g, o, none⟩ ∧ ∀ i x, v.l[i]? = some x → D[o + i]? = some x
theorem InD.more {g : Nat} {D : List Nat} {v : Iv} (h : InD g D v) (E : List Nat) : InD g (D ++ E) v := by
  obtain ⟨o, e, hx⟩ := h
  refine ⟨o, e, fun i x hi => ?_⟩
  have := hx i x hi
  rw [List.getElem?_append_left (List.getElem?_eq_some_iff.1 this).1]; exact this
theorem InD.new (g : Nat) (D M : List Nat) (cap : Nat) : InD g (D ++ M) ⟨some ⟨g, D.length, none⟩, M, cap⟩ :=
  ⟨D.length, rfl, fun i x hi => by rw [List.getElem?_append_right (by omega), Nat.add_sub_cancel_left]; exact hi⟩
theorem InD.sees {g : Nat} {D : List Nat} {v : Iv} (h : InD g D v) {w : World} {R : List Nat} {t : TypeId} (hb : Blk w g (vI (zs (D ++ R))) t) : ISees w v.ao (zs v.l) := by
  obtain ⟨o, e, hx⟩ := h
  intro i x hi
  refine ⟨g, o, e, ?_⟩
  obtain ⟨y, hy, rfl⟩ : ∃ y, v.l[i]? = some y ∧ (y : Int) = x := by
    unfold zs at hi
    rw [List.getElem?_map] at hi
    exact Option.map_eq_some_iff.1 hi
  have h1 := hx i y hy
  have h2 : (D ++ R)[o + i]? = some y := by rw [List.getElem?_append_left (List.getElem?_eq_some_iff.1 h1).1]; exact h1
  exact hb.cell _ (vI_at (zs_at h2))
/-- How far the buckets were made. -/
structure Bk (w wr : World) (g : Nat) (l : List Int) (done : List (List Nat)) (rest : List Nat) (vv : Value) (vs : List Iv) : Prop where
  ord : ordr l = done.flatten ++ rest
  grp : grps (cs l) (ordr l) = done ++ grps (cs l) rest
  blk : Blk wr g (vI (zs ((done.map srtN).flatten ++ rest))) 3
  low : w.heap.size ≤ g
  own : wr.ownsRow w.heap.size 22 1 vv vs.length (vs.map Iv.s)
  ne : vv.ownBlock ≠ some g
  lst : vs.map Iv.l = done.map srtN
  ins : ∀ v ∈ vs, InD g (done.map srtN).flatten v
  bel : Below w.heap.size w wr
theorem flat_srt (done : List (List Nat)) : (done.map srtN).flatten.length = done.flatten.length := by
  induction done with
  | nil => rfl
  | cons b d ih => simp only [List.map_cons, List.flatten_cons, List.length_append, srtN_len, ih]
theorem Bk.start {w wr : World} {g : Nat} {l : List Int} (hb : Blk wr g (vI (zs (ordr l))) 3) (hg : w.heap.size ≤ g) (hbel : Below w.heap.size w wr) : Bk w wr g l [] (ordr l) (.slice none 0 0) [] :=
  ⟨rfl, rfl, hb, hg, World.ownsRow_nil _ _ _ _, (fun h => by cases h), rfl, (fun v hv => by cases hv), hbel⟩
theorem Bk.len {w wr : World} {g : Nat} {l : List Int} {done : List (List Nat)} {rest : List Nat} {vv : Value} {vs : List Iv} (h : Bk w wr g l done rest vv vs) : (done.map srtN).flatten.length + rest.length = l.length := by
  have := congrArg List.length h.ord
  rw [ordr_len, List.length_append] at this
  rw [flat_srt]; omega
theorem Bk.sees {w wr : World} {g : Nat} {l : List Int} {done : List (List Nat)} {rest : List Nat} {vv : Value} {vs : List Iv} (h : Bk w wr g l done rest vv vs) : ISees wr (some ⟨g, (done.map srtN).flatten.length, none⟩) (zs rest) := by
  intro i x hi
  refine ⟨_, _, rfl, h.blk.cell _ (vI_at ?_)⟩
  rw [zs_append, List.getElem?_append_right (by rw [zs_len]; omega), zs_len, Nat.add_sub_cancel_left]
  exact hi
theorem Bk.more {w wr u : World} {g : Nat} {l : List Int} {done : List (List Nat)} {rest : List Nat} {vv : Value} {vs : List Iv} (h : Bk w wr g l done rest vv vs) (hu : Below wr.heap.size wr u) : Bk w u g l done rest vv vs :=
  ⟨h.ord, h.grp, h.blk.carry (hu.block g h.blk.lt), h.low, owns_keepT h.own fun k hk => hu.block k (h.own.lt k hk).2, h.ne, h.lst, h.ins, h.bel.trans (hu.mono h.bel.size)⟩
/-- One bucket more, its numbers sorted. -/
theorem Bk.put {w wr w2 w3 : World} {g : Nat} {l : List Int} {done : List (List Nat)} {seg rest : List Nat} {vv v' : Value} {vs : List Iv} {cap : Nat} (h : Bk w wr g l done (seg ++ rest) vv vs) (hseg : seg = (seg ++ rest).take (alk (cs l) 0 0 (seg ++ rest))) (hrest : rest = (seg ++ rest).drop (alk (cs l) 0 0 (seg ++ rest))) (hne : seg ≠ [])
    (hb : Blk w2 g (vI (zs ((done.map srtN).flatten ++ srtN seg ++ rest))) 3) (hg : wr.grownBy w2 (some g))
    (ho : w3.ownsRow w.heap.size 22 1 v' (vs.length + 1) (vs.map Iv.s ++ [.slice (some ⟨g, (done.map srtN).flatten.length, none⟩) seg.length cap])) (hgr : Grew (w2.alloc (.cells #[.slice (some ⟨g, (done.map srtN).flatten.length, none⟩) seg.length cap] 22)) w3 vv v') :
    Bk w w3 g l (done ++ [seg]) rest v' (vs ++ [⟨some ⟨g, (done.map srtN).flatten.length, none⟩, srtN seg, cap⟩]) := by
  have hgw : g < w2.heap.size := hb.lt
  have hrw : wr.heap.size ≤ w2.heap.size := hg.size
  have hgl := h.low
  have hfl : ((done ++ [seg]).map srtN).flatten = (done.map srtN).flatten ++ srtN seg := by simp
  have hvl : ∀ k, vv.ownBlock = some k → w.heap.size ≤ k := fun k hk => (h.own.lt k hk).1
  have hbel2 : Below w.heap.size w w2 := h.bel.trans ⟨hg.os, hg.tape, hg.output, hg.size, fun k hk => hg.block k (by have := h.bel.size; omega) (fun e => by cases e; omega)⟩
  have hbel3 : Below w.heap.size w w3 := hbel2.trans (((Below.refl _ _).alloc (by have := hbel2.size; omega) _).trans (hgr.below (by rw [World.size_alloc]; have := hbel2.size; omega) hvl))
  have hsz : (w2.alloc (.cells #[.slice (some ⟨g, (done.map srtN).flatten.length, none⟩) seg.length cap] 22)).heap.size = w2.heap.size + 1 := World.size_alloc _ _
  refine ⟨?_, ?_, ?_, h.low, ?_, ?_, ?_, ?_, hbel3⟩
  · rw [h.ord]; simp
  · rw [h.grp, grps_eq (cs l) (seg ++ rest) (by simp [hne]), ← hseg, ← hrest]; simp
  · rw [hfl]
    refine hb.carry ?_
    rw [hgr.rows.block g (by omega) (fun e => h.ne e.symm), Below.heap_alloc _ _ _ hgw]
  · rw [List.length_append, List.map_append]
    have e : (Iv.s ⟨some ⟨g, (done.map srtN).flatten.length, none⟩, srtN seg, cap⟩) = .slice (some ⟨g, (done.map srtN).flatten.length, none⟩) seg.length cap := by unfold Iv.s; rw [srtN_len]
    simp only [List.map_cons, List.map_nil, e]
    exact ho
  · intro e
    rcases hgr.own g e with h1 | h1
    · exact h.ne h1
    · omega
  · rw [List.map_append, List.map_append, h.lst]; rfl
  · intro v hv
    rw [hfl]
    rcases List.mem_append.1 hv with hv | hv
    · exact (h.ins v hv).more _
    · rw [List.mem_singleton.1 hv]; exact InD.new g _ _ _
theorem infoSl : (Try.prog.info? 22).map (fun i => (i.zero, i.size, i.bytes)) = some (some (.slice none 0 0), 1, 24) := by kernel_rfl
set_option maxRecDepth 100000 in
set_option maxHeartbeats 1000000 in
theorem buckets_new (ao : Option Addr) (l : List Int) (cap : Nat) (w : World) (hs : ISees w ao l) (hl : l.length ≤ 1000000) :
    Calls Try.prog 8 #[.slice ao l.length cap] w fun e w' => ∃ bo vs bcap, e = .returned (.slice bo vs.length bcap) ∧ BSees w' bo vs ∧ vs.map Iv.l = bkts l ∧ BNew w.heap.size bo vs ∧ Below w.heap.size w w' := by
  obtain ⟨i1, hi1, hy0, hy1, hy2⟩ := infoXT infoSl
  have hlz : (l.length : Int) ≤ 1000000 := by omega
  have HS : Hid (ISees w ao l) := hs
  have CO := bySize_any ao l cap w hs hl
  clear hs
  go_enter Try.func8, Try.ntmps8
  go_wp2_with (go_at_call 13; refine CO.mono ?_; rintro e w1 ⟨g, rfl, hg, hb1, hB1⟩)
  have HB : Hid (Bk w w1 g l [] (ordr l) (.slice none 0 0) []) := Bk.start hb1 hg hB1
  have hol := ordr_len l
  clear CO hb1 hB1
  go_loopw [3, 4] (fun s3 s4 wr => ∃ done rest vs o, Bk w wr g l done rest s3 vs ∧ s4 = .slice (some ⟨g, o, none⟩) rest.length rest.length ∧ (rest ≠ [] → o = (done.map srtN).flatten.length)) (fun _ s4 _ => lenS s4)
  case atStart => exact ⟨[], ordr l, [], 0, HB.out, by rw [hol], fun _ => rfl⟩
  case round =>
    obtain ⟨done, rest, vs, o, hk, rfl, ho⟩ := hrel
    obtain ⟨a3, c3, rfl⟩ := owns_shapeT hk.own
    clear HB
    by_cases hr0 : rest = []
    · subst hr0
      have hbk : vs.map Iv.l = bkts l := by
        unfold bkts
        rw [hk.lst, hk.grp]; simp [grps]
      have hBS : BSees wr a3 vs := by
        refine ⟨fun i v hv => ?_, fun v hv => (hk.ins v hv).sees hk.blk⟩
        have hlt : i < vs.length := (List.getElem?_eq_some_iff.1 hv).1
        rcases hk.own.2 with ⟨_, h2⟩ | ⟨g', cap', cur, h1, _⟩
        · omega
        · cases h1
          refine ⟨g', 0, rfl, ?_⟩
          rw [Nat.zero_add, hk.own.cellAt i (by omega), List.getElem?_map, hv]; rfl
      have hbl := hk.bel
      have hnw : BNew w.heap.size a3 vs := by
        refine ⟨fun a e => ?_, fun v hv a e => ?_⟩
        · subst e; exact (hk.own.lt a.block rfl).1
        · obtain ⟨o', e', _⟩ := hk.ins v hv
          rw [e'] at e; cases e; exact hk.low
      have HF : Hid (BSees wr a3 vs ∧ vs.map Iv.l = bkts l ∧ BNew w.heap.size a3 vs ∧ Below w.heap.size w wr) := ⟨hBS, hbk, hnw, hbl⟩
      clear hk hBS hbk hbl ho hnw
      go_wp2_with fail
      go_ret
      exact ⟨_, _, _, rfl, HF.out.1, HF.out.2.1, HF.out.2.2.1, HF.out.2.2.2⟩
    · have hoo := ho hr0
      have hpos := alk_pos (cs l) rest hr0
      have hle := alk_le (cs l) rest 0 0
      obtain ⟨seg, r2, hsp, hsl, hsr⟩ : ∃ seg r2, rest = seg ++ r2 ∧ seg.length = alk (cs l) 0 0 rest ∧ (seg = rest.take (alk (cs l) 0 0 rest) ∧ r2 = rest.drop (alk (cs l) 0 0 rest)) := ⟨_, _, (List.take_append_drop _ _).symm, by rw [List.length_take]; omega, rfl, rfl⟩
      have hso : rest.Pairwise fun a b => cs l a ≤ cs l b := by
        have := ordN_sorted l l.length
        rw [show ordN l l.length = ordr l from rfl, hk.ord, List.pairwise_append] at this
        exact this.2.1.imp fun h => leT_le h
      have hin : ∀ i ∈ rest, i < l.length := fun i hi => ordN_lt (s := l) (n := l.length) (by rw [show ordN l l.length = ordr l from rfl, hk.ord]; exact List.mem_append_right _ hi)
      have hlen := hk.len
      have hA := alike_any ao (some ⟨g, o, none⟩) l rest cap rest.length wr (HS.out.below hk.bel (Nat.le_refl _)) (by rw [hoo]; exact hk.sees) hin hso hl (by omega)
      rw [← hsl] at hA hpos hle hsr
      clear hso hin
      subst hsp
      obtain ⟨n, hn⟩ : ∃ n, n = seg.length := ⟨_, rfl⟩
      obtain ⟨m, hm⟩ : ∃ m, m = r2.length := ⟨_, rfl⟩
      have hnm : (seg ++ r2).length = n + m := by rw [List.length_append, hn, hm]
      have hne : seg ≠ [] := fun e => by rw [e] at hpos; simp at hpos
      have HA : Hid (Calls Try.prog 14 #[.slice ao l.length cap, .slice (some ⟨g, o, none⟩) (n + m) (n + m)] wr fun e w' => e = .returned (.int .i64 (n : Int)) ∧ Below wr.heap.size wr w') := by rw [hnm, ← hn] at hA; exact hA
      have HC : Hid (∀ u, Below wr.heap.size wr u → Calls Try.prog 15 #[.slice (some ⟨g, o, none⟩) n n] u fun e w' => e = .returned (.tuple #[]) ∧ Blk w' g (vI (zs ((done.map srtN).flatten ++ srtN seg ++ r2))) 3 ∧ u.grownBy w' (some g)) := fun u hu => by
        rw [hoo, hn]
        exact sortI_any g _ _ _ _ u (by rw [List.append_assoc]; exact (hk.more hu).blk) (by omega)
      have HP : Hid (∀ u w2 w3 v', Below wr.heap.size wr u → u.grownBy w2 (some g) → Blk w2 g (vI (zs ((done.map srtN).flatten ++ srtN seg ++ r2))) 3 → w3.ownsRow w.heap.size 22 1 v' (vs.length + 1) (vs.map Iv.s ++ [.slice (some ⟨g, o, none⟩) n n]) → Grew (w2.alloc (.cells #[.slice (some ⟨g, o, none⟩) n n] 22)) w3 (.slice a3 vs.length c3) v' → Bk w w3 g l (done ++ [seg]) r2 v' (vs ++ [⟨some ⟨g, o, none⟩, srtN seg, n⟩])) := fun u w2 w3 v' hu hg hb ho hgr => by
        rw [hoo] at ho hgr ⊢
        rw [hn] at ho hgr ⊢
        refine (hk.more hu).put (by rw [← hsl]; exact hsr.1) (by rw [← hsl]; exact hsr.2) hne hb hg ho hgr
      have HO : Hid (∀ u w2, Below wr.heap.size wr u → u.grownBy w2 (some g) → (w2.alloc (.cells #[.slice (some ⟨g, o, none⟩) n n] 22)).ownsRow w.heap.size 22 1 (.slice a3 vs.length c3) vs.length (vs.map Iv.s) ∧ w.heap.size ≤ w2.heap.size) := fun u w2 hu hg => by
        have h1 := hk.more hu
        refine ⟨(owns_keepT h1.own fun k hk2 => hg.block k (h1.own.lt k hk2).2 fun e => h1.ne (by rw [hk2, e])).alloc _, by have := hg.size; have := h1.bel.size; omega⟩
      have HL : Hid (o = (done.map srtN).flatten.length) := hoo
      have hvs : vs.length ≤ 1000000 := by
        have h1 := congrArg List.length hk.lst
        have h2 := congrArg List.length hk.grp
        have h3 := bkts_len l
        unfold bkts at h3
        simp only [List.length_map, List.length_append] at h1 h2 h3
        omega
      have hnz : (n : Int) ≤ ((n + m : Nat) : Int) := by omega
      have hn0 : 0 < n := by omega
      have hnm1 : n + m ≤ 1000000 := by omega
      have hfl : Hid (((done ++ [seg]).map srtN).flatten.length = o + n) := by
        show _ = _
        rw [List.map_append, List.flatten_append, List.length_append, hoo, hn]; simp [srtN_len]
      have HM : Hid (m = r2.length) := hm
      rw [hnm]
      clear hA hk hsr hoo ho hlen hle hpos hn hm hne hr0 hsl HS hnm
      go_wp2_with (first | (go_at_call 14; go_fit HA.out; rintro e u ⟨rfl, hu⟩) | (go_at_call 15; go_fit (HC.out _ hu); rintro e w2 ⟨rfl, hb2, hg2⟩) | (at_builtin; go_must (refine wpList_append_grew _ rfl _ _ 24 24 rfl w.heap.size 22 i1 _ 1 24 Try.underlying24 hi1 hy0 hy1 hy2 rfl _ vs.length (vs.map Iv.s) rfl (HO.out u w2 hu hg2).1 _ 1 [.slice (some ⟨g, o, none⟩) n n] rfl (src_oneV Try.underlying24 w2 _ 22 rfl) (by unfold maxLen; omega) (by omega) (by rw [World.size_alloc]; have := (HO.out u w2 hu hg2).2; omega) ?_; intro v3 w3 ho3 hgr3)))
      have hB := HP.out u w2 w3 v3 hu hg2 hb2 ho3 hgr3
      refine ⟨⟨done ++ [seg], r2, _, if m = 0 then o else o + n, hB, ?_, fun hr => ?_⟩, ?_⟩
      · rw [← HM.out]
        by_cases h : m = 0
        · rw [if_pos h, if_pos h]
        · rw [if_neg h, if_neg h]
      · have h : ¬ m = 0 := fun h => hr (List.eq_nil_of_length_eq_zero (by rw [← HM.out]; exact h))
        rw [hfl.out, if_neg h]
      · show m < n + m
        omega
theorem buckets_any (ao : Option Addr) (l : List Int) (cap : Nat) (w : World) (hs : ISees w ao l) (hl : l.length ≤ 1000000) :
    Calls Try.prog 8 #[.slice ao l.length cap] w fun e w' => ∃ bo vs bcap, e = .returned (.slice bo vs.length bcap) ∧ BSees w' bo vs ∧ vs.map Iv.l = bkts l ∧ Below w.heap.size w w' :=
  (buckets_new ao l cap w hs hl).mono fun _ _ ⟨bo, vs, bcap, h1, h2, h3, _, h5⟩ => ⟨bo, vs, bcap, h1, h2, h3, h5⟩
end Go.Proofs.Ytdeobmihkcfofaa

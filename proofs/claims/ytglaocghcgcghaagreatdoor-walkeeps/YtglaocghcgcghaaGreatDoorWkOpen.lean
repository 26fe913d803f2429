/-
  CONTRACT: Open of a disk that has segments, all but the last of them whole, whatever is planned.
-/
import Derived.Test.YtglaocghcgcghaaGreatDoorMany31
import Derived.Test.YtglaocghcgcghaaGreatDoorMany30
import Derived.Test.YtglaocghcgcghaaGreatDoorMany20
namespace Go.Proofs.YtglaocghcgcghaaGreatDoor
open Go.RowKit Go.Proofs.YtglaocghcgcghaaGreatDoor.walBack
attribute [local go_sem] Oper.pureAt Oper.pureUpon

set_option maxRecDepth 100000 in
set_option maxHeartbeats 1000000 in
theorem numbersY_any {w0 : World} {d lb : Nat} {A : Ab} {n : Int} {w : World} (he : EnvW w0) (h : Lg w0 d lb A n w) (hon : A.on = true) (hl : A.sp.length ≤ 1000) (hsz : ∀ t ∈ A.sp, t.nm.length ≤ 1000) :
    Calls Tryz.prog 36 #[.pointer (some ⟨lb, 0, none⟩)] w fun e w' => ∃ (ao : Option Addr) (cap : Nat) (N : List Int), e = .returned (.slice ao N.length cap) ∧ N.length ≤ cap ∧ ISees w' ao N ∧ (∀ a, ao = some a → w.heap.size ≤ a.block) ∧ N.Perm ((A.sp.map Sig.nm).filterMap numO) ∧ N.Pairwise (· ≤ ·) ∧ Below w.heap.size w w' := by
  obtain ⟨i1, hi1, hy0, hy1, hy2⟩ : ∃ i, Tryz.prog.info? 3 = some i ∧ i.zero = some (.int .i64 0) ∧ i.size = 1 ∧ i.bytes = 8 := by
    obtain ⟨i, hi, he⟩ := Option.map_eq_some_iff.1 infoInt
    exact ⟨i, hi, by injection he, by injection he with _ h2; injection h2, by injection he with _ h2; injection h2⟩
  have CL : Hid (Calls Tryz.prog 19 #[.pointer (some ⟨d, 0, none⟩)] w fun e w' => ∃ (ao : Option Addr) (cap : Nat) (L : List (List UInt8)), e = .returned (.slice ao L.length cap) ∧ L.Perm (A.sp.map Sig.nm) ∧ L.Pairwise (fun a b => decide (a ≤ b) = true) ∧ (∀ i s, L[i]? = some s → ∃ b, ao = some ⟨b, 0, none⟩ ∧ w'.cell? ⟨b, i, none⟩ = some (.string (tB s))) ∧ Below w.heap.size w w') := listL_any h hon hl
  have c0 := h.blk.cell 0 rfl
  have HBW : Hid (Below w0.heap.size w0 w) := h.bel
  have HE : Hid (∀ u, Below w.heap.size w u → EnvW u) := fun u hu => he.below (HBW.out.trans (hu.mono HBW.out.size)) (Nat.le_refl _)
  have HSZ : Hid (∀ L : List (List UInt8), L.Perm (A.sp.map Sig.nm) → L.length ≤ 1000 ∧ ∀ s ∈ L, s.length ≤ 1000) := fun L hp => by
    refine ⟨by rw [hp.length_eq, List.length_map]; exact hl, fun s hs => ?_⟩
    obtain ⟨t, ht, rfl⟩ := List.mem_map.1 (hp.subset hs)
    exact hsz t ht
  clear h he hon hl hsz
  go_enter Tryz.func36, Tryz.ntmps36
  go_wp2_with fail
  go_fit CL.out
  rintro e w1 ⟨ao, cap, L, rfl, hp, _, hcell, hB1⟩
  obtain ⟨hL, hLs⟩ := HSZ.out L hp
  have HCE : Hid (∀ i s, L[i]? = some s → ∃ b, ao = some ⟨b, 0, none⟩ ∧ w1.cell? ⟨b, i, none⟩ = some (.string (tB s))) := hcell
  have HPP : Hid (L.Perm (A.sp.map Sig.nm)) := hp
  have HLS : Hid (∀ s ∈ L, s.length ≤ 1000) := hLs
  have HB1 : Hid (Below w.heap.size w w1) := hB1
  have hLz : (L.length : Int) ≤ 1000 := by omega
  clear hp hcell hLs hB1 CL c0
  go_wp2_with fail
  go_loopw [3, 14] (fun s3 s14 wr => ∃ i : Nat, i ≤ L.length ∧ s14 = .int .i64 (i : Int) ∧ wr.ownsRow w1.heap.size 3 1 s3 ((L.take i).filterMap numO).length (vI ((L.take i).filterMap numO)) ∧ Below w1.heap.size w1 wr) (fun _ s14 _ => L.length - (intOf s14).toNat)
  case atStart => exact ⟨0, by omega, rfl, World.ownsRow_nil _ _ _ _, Below.refl _ _⟩
  case round =>
    obtain ⟨i, hi, rfl, hown, hbr⟩ := hrel
    have hfl := fm_len L i
    rcases Nat.lt_or_ge i L.length with hlt | hge
    · have hltz : (i : Int) < (L.length : Int) := by omega
      have hx : L[i]? = some L[i] := List.getElem?_eq_getElem hlt
      have hs := fm_succ hx
      have hsz := HLS.out L[i] (List.getElem_mem hlt)
      generalize L[i] = s at *
      obtain ⟨b, rfl, cb⟩ := HCE.out i s hx
      have c1 : wr.cell? ⟨b, i, none⟩ = some (.string (tB s)) := by rw [hbr.cell (World.block_lt_of_cell? _ _ cb)]; exact cb
      have CN : Hid (Calls Tryz.prog 61 #[.string (tB s)] wr fun x w' => x = .returned (.tuple #[.int .i64 (numR s).1, .bool (numR s).2]) ∧ Below wr.heap.size wr w') := by
        have := numberW_any (tB s) (by rw [tB_size]; omega) wr (HE.out wr (HB1.out.trans (hbr.mono HB1.out.size)))
        rw [tB_list] at this; exact this
      obtain ⟨⟨k, ok⟩, hnr⟩ : ∃ p, numR s = p := ⟨_, rfl⟩
      have hno : numO s = if ok then some k else none := by unfold numO; rw [hnr]
      rw [hnr] at CN
      have HBR : Hid (∀ u, RowKit.Below wr.heap.size wr u → RowKit.Below w1.heap.size w1 u) := fun u hu => hbr.trans (hu.mono hbr.size)
      have hbs : w1.heap.size ≤ wr.heap.size := hbr.size
      obtain ⟨a3, c3, rfl⟩ : ∃ a c, u3 = .slice a ((L.take i).filterMap numO).length c := by
        rcases hown.2 with ⟨rfl, h0⟩ | ⟨g, cap, cur, rfl, _⟩
        · exact ⟨_, _, by rw [h0]⟩
        · exact ⟨_, _, rfl⟩
      have HOW : Hid (∀ u, RowKit.Below wr.heap.size wr u → u.ownsRow w1.heap.size 3 1 (.slice a3 ((L.take i).filterMap numO).length c3) ((L.take i).filterMap numO).length (vI ((L.take i).filterMap numO))) := fun u hu => owns_carry hown fun g hg => hu.block g (hown.lt g hg).2
      have HLT : Hid (∀ g, (Value.slice a3 ((L.take i).filterMap numO).length c3).ownBlock = some g → w1.heap.size ≤ g) := fun g hg => (hown.lt g hg).1
      cases ok with
      | true =>
        have HS : Hid ((L.take (i + 1)).filterMap numO = (L.take i).filterMap numO ++ [k]) := by show _ = _; rw [hs, hno]; rfl
        clear hown hbr hs hno hnr hx cb hsz
        generalize (L.take i).filterMap numO = P at *
        go_wp2_with fail
        go_fit CN.out
        rintro e u1 ⟨rfl, hu1⟩
        have hsz1 : w1.heap.size ≤ u1.heap.size := Nat.le_trans hbs hu1.size
        have hou := HOW.out u1 hu1
        go_wp2_with (at_builtin; go_must (refine wpList_append_grew _ rfl _ _ 78 78 rfl w1.heap.size 3 i1 _ 1 8 Tryz.underlying78 hi1 hy0 hy1 hy2 rfl _ P.length (vI P) rfl (hou.alloc _) _ 1 [.int .i64 k] rfl (src_one_intW u1 k) (by unfold maxLen; omega) (by omega) (by rw [World.size_alloc]; omega) ?_; intro v3 w3 ho3 g3))
        have HN : Hid (w3.ownsRow w1.heap.size 3 1 v3 ((L.take (i + 1)).filterMap numO).length (vI ((L.take (i + 1)).filterMap numO)) ∧ RowKit.Below w1.heap.size w1 w3) := by
          rw [HS.out, List.length_append]
          refine ⟨?_, (HBR.out u1 hu1).trans (((RowKit.Below.refl _ _).alloc hsz1 _).trans (g3.below (by rw [World.size_alloc]; omega) HLT.out))⟩
          have e : vI (P ++ [k]) = vI P ++ [.int .i64 k] := by simp [vI]
          rw [e]; exact ho3
        clear ho3 g3 hou hu1
        go_roundw
        case rel => exact ⟨i + 1, by omega, by go_num, HN.out⟩
        case measure => (simp [intOf]; try omega)
      | false =>
        have HS : Hid ((L.take (i + 1)).filterMap numO = (L.take i).filterMap numO) := by show _ = _; rw [hs, hno]; simp
        clear hown hbr hs hno hnr hx cb hsz
        go_wp2_with fail
        go_fit CN.out
        rintro e u1 ⟨rfl, hu1⟩
        have HN : Hid (u1.ownsRow w1.heap.size 3 1 (.slice a3 ((L.take i).filterMap numO).length c3) ((L.take (i + 1)).filterMap numO).length (vI ((L.take (i + 1)).filterMap numO)) ∧ RowKit.Below w1.heap.size w1 u1) := by
          rw [HS.out]
          exact ⟨HOW.out u1 hu1, HBR.out u1 hu1⟩
        clear hu1
        go_wp2_with fail
        go_roundw
        case rel => exact ⟨i + 1, by omega, by go_num, HN.out⟩
        case measure => (simp [intOf]; try omega)
    · obtain rfl : i = L.length := by omega
      have hgez : ¬ (L.length : Int) < (L.length : Int) := by omega
      rw [List.take_length] at hown
      have hPl : (L.filterMap numO).length ≤ 1000000 := by have := List.length_filterMap_le numO L; omega
      obtain ⟨a3, c3, rfl⟩ : ∃ a c, u3 = .slice a (L.filterMap numO).length c := by
        rcases hown.2 with ⟨rfl, h0⟩ | ⟨g, cap, cur, rfl, _⟩
        · exact ⟨_, _, by rw [h0]⟩
        · exact ⟨_, _, rfl⟩
      have CS := sort_ownI hown hPl
      have HBR : Hid (RowKit.Below w1.heap.size w1 wr) := hbr
      have hperm : ((L.filterMap numO).mergeSort fun x y => decide (x ≤ y)).Perm ((A.sp.map Sig.nm).filterMap numO) := (List.mergeSort_perm _ _).trans (HPP.out.filterMap _)
      have hsort : ((L.filterMap numO).mergeSort fun x y => decide (x ≤ y)).Pairwise (· ≤ ·) := (List.pairwise_mergeSort (le := fun x y : Int => decide (x ≤ y)) (fun a b c h1 h2 => by simp at *; omega) (fun a b => by simp; omega) _).imp fun h => by simpa using h
      have hlen : ((L.filterMap numO).mergeSort fun x y => decide (x ≤ y)).length = (L.filterMap numO).length := List.length_mergeSort _
      have HQ : Hid (((L.filterMap numO).mergeSort fun x y => decide (x ≤ y)).Perm ((A.sp.map Sig.nm).filterMap numO) ∧ ((L.filterMap numO).mergeSort fun x y => decide (x ≤ y)).Pairwise (· ≤ ·) ∧ ((L.filterMap numO).mergeSort fun x y => decide (x ≤ y)).length = (L.filterMap numO).length) := ⟨hperm, hsort, hlen⟩
      clear hperm hsort hlen hown hbr hfl hge
      generalize (L.filterMap numO).mergeSort (fun x y => decide (x ≤ y)) = N at *
      generalize (L.filterMap numO).length = m at *
      go_wp2_with fail
      go_fit CS
      rintro e w3 ⟨rfl, ho3, hb3⟩
      have HF : Hid ((ISees w3 a3 N ∧ (∀ a, a3 = some a → w.heap.size ≤ a.block)) ∧ RowKit.Below w.heap.size w w3) := by
        obtain ⟨a', c', e', h'⟩ := owns_isees ho3
        obtain rfl : a3 = a' := by injection e'
        have hfr : ∀ a, a3 = some a → w.heap.size ≤ a.block := fun a e => by
          subst e
          have h1 : w1.heap.size ≤ a.block := (ho3.lt a.block rfl).1
          exact Nat.le_trans HB1.out.size h1
        exact ⟨⟨h', hfr⟩, HB1.out.trans ((HBR.out.trans (hb3 w1.heap.size (Nat.le_refl _) HBR.out.size)).mono HB1.out.size)⟩
      have HCP : Hid (N.length ≤ c3) := by
        have h2 := HQ.out.2.2
        show N.length ≤ c3
        rcases ho3.2 with ⟨e1, h0⟩ | ⟨g, cp, cur, e1, _, _, hnc, _⟩
        · injection e1; omega
        · injection e1; omega
      clear ho3 hb3
      go_wp2_with fail
      go_ret
      exact ⟨a3, c3, N, by rw [HQ.out.2.2]; rfl, HCP.out, HF.out.1.1, HF.out.1.2, HQ.out.1, HQ.out.2.1, HF.out.2⟩
theorem wrapL {L : Nat} (h : (L : Int) ≤ 1000) : IntKind.i64.wrap (L : Int) = (L : Int) := by
  have h1 : (0 : Int) ≤ (L : Int) := Int.natCast_nonneg L
  rw [IntKind.wrap_i64]
  omega
/-- Worlds in which the last number, and how the last segment ends, lie where they lie. -/
structure LZ (p q : Addr) (m : Int) (sl : Value) where
  u : World
  h : u.cell? p = some (.int .i64 m)
  k : u.cell? q = some sl
/-- Records that were told, behind a call that wrote the log and its disk. -/
def ToldR (n0 : Nat) (rs : List (List Cx)) (v : Value) (w : World) : Prop := ∃ T : List Yl, w.ownsRow n0 26 1 v T.length (T.map Yl.v) ∧ (∀ y ∈ T, YIn n0 y w) ∧ T.map Yl.r = rs
theorem ToldR.moved {n0 : Nat} {rs : List (List Cx)} {v : Value} {w w' : World} (h : ToldR n0 rs v w) {a b : List Nat} (hm : Moved w w' a b) (ha : ∀ i ∈ a, i < n0) : ToldR n0 rs v w' := by
  obtain ⟨T, h1, h2, h3⟩ := h
  have hk : ∀ {e : TypeId} {k m : Nat} {u : Value} {ys : List Value}, w.ownsRow n0 e k u m ys → w'.ownsRow n0 e k u m ys := fun hu => owns_heap hu fun g hg => hm.kept g (hu.lt g hg).2 fun hi => by
    have := ha g hi
    have := (hu.lt g hg).1
    omega
  exact ⟨T, hk h1, fun y hy => ⟨hk (h2 y hy).1, (h2 y hy).2⟩, h3⟩
theorem ToldR.below {n0 : Nat} {rs : List (List Cx)} {v : Value} {w w' : World} (h : ToldR n0 rs v w) (hb : Below w.heap.size w w') : ToldR n0 rs v w' := h.moved (moved_below (ft := []) hb) (by simp)
theorem ToldR.low {n0 n1 : Nat} {rs : List (List Cx)} {v : Value} {w : World} (h : ToldR n1 rs v w) (hn : n0 ≤ n1) : ToldR n0 rs v w := by
  obtain ⟨T, h1, h2, h3⟩ := h
  exact ⟨T, own_mono h1 hn, fun y hy => yin_mono (h2 y hy) hn, h3⟩
theorem Nice.chain {q : Int × Ab} {f : Ab → Int × Ab} {k j : Nat} (h : Nice q.2 k) (hf : Nice q.2 k → Nice (f q.2).2 (k + j)) : Nice (chainW q f).2 (k + j) := by
  by_cases h0 : q.1 = 0
  · rw [chainW_ok h0]; exact hf h
  · rw [chainW_no h0]; exact h.mono (Nat.le_add_right _ _)
theorem Nice.mend {A : Ab} {k : Nat} (h : Nice A k) {m : Int} {l : List UInt8} (hz : ∀ t, findT (createX A (tB spW)).2.sp spW = some t → t.bs.length + l.length ≤ 600000) : Nice (mendX A m l).2 (k + 4) := by
  have hmx : mendX A m l = chainW (createX A (tB spW)) fun A1 => chainW (fillW A1 l) fun A2 => chainW (syncX A2 (tB spW)) fun A3 => renameX A3 (tB spW) (tB (nmW m)) := rfl
  rw [hmx]
  refine Nice.chain (j := 3) (h.create (tB spW)) fun h1 => ?_
  refine Nice.chain (k := k + 1 + 1) (j := 2) (h1.fill hz) fun h2 => ?_
  exact Nice.chain (k := k + 1 + 1 + 1) (j := 1) (h2.sync _) fun h3 => h3.rename _ _
theorem Nice.beginX {A : Ab} {k : Nat} (h : Nice A k) (m : Int) : Nice (beginX A m).2 (k + 2) := Nice.chain (j := 1) (h.create _) fun h1 => h1.sync _
set_option maxRecDepth 100000 in
set_option maxHeartbeats 8000000 in
theorem openLY {w0 : World} {d lb : Nat} {A : Ab} {ft : List Nat} {w : World} (he : EnvW w0) (ht : Tab w0) (ue : TypeId) (pv : Value) (hE : Err w0 ue pv) (h : LyF w0 d lb A 0 false ft w) (hon : A.on = true) {N : List Int} {L : Nat} {m : Int} (hNL : N.length = L + 1) (hNm : N[L]? = some m) (hN1 : ∀ x ∈ N, 1 ≤ x) (hNs : N.Pairwise (· < ·)) (hNn : (A.sp.map Sig.nm).filterMap numO = N)
    {F : Int → List UInt8} {rs : Int → List (List Cx)} {sz : Int → Nat} (hS : Segs A N F rs sz) (hg : ∀ n ∈ N, refuse true [tB (nmW n)] = 0) (hm1 : okW (m + 1) = true) (hspl : A.sp.length ≤ 1000) (hnl : ∀ t ∈ A.sp, t.nm.length ≤ 1000) {k : Nat} (hN : Nice A k) (hk : k + 10 ≤ 2000) (hz : ∀ t, findT (createX A (tB spW)).2.sp spW = some t → t.bs.length + sz m ≤ 600000)
    {q : Int × Ab} (hq : openX A (decide (sz m < (F m).length)) ((F m).take (sz m)) m (m + 1) = q) :
    Calls Tryz.prog 23 #[.pointer (some ⟨lb, 0, none⟩), .int .i64 1] w fun x w' => ∃ v, x = .returned (.tuple #[v, .int .i64 q.1]) ∧ (∃ n', LyR w0 d lb q.2 n' false ft w w') ∧ (q.1 = 0 → ToldR w.heap.size (N.map rs).flatten v w') := by
  have hmmem : m ∈ N := List.mem_of_getElem? hNm
  have hmok := hS.ok m hmmem
  have hm0 := hN1 m hmmem
  have hmm := okW_iff.1 hm1
  have hszm := (sz_le hS hmmem).1
  have hFm := hS.len m hmmem
  have hSl : ((F m).take (sz m)).length = sz m := by rw [List.length_take]; omega
  have CN : Hid (Calls Tryz.prog 36 #[.pointer (some ⟨lb, 0, none⟩)] w fun e w' => ∃ (bb off : Nat) (cap : Nat), e = .returned (.slice (some ⟨bb, off, none⟩) (L + 1) cap) ∧ L + 1 ≤ cap ∧ ISees w' (some ⟨bb, off, none⟩) N ∧ w.heap.size ≤ bb ∧ Below w.heap.size w w') := by
    refine (numbersY_any he ⟨ft, h⟩ hon hspl hnl).mono ?_
    rintro e w' ⟨ao, cap, N', rfl, hcp, hI, hnew, hp, hso, hb⟩
    rw [hNn] at hp
    have hNN : N' = N := hp.eq_of_pairwise (fun x y _ _ h2 h3 => Int.le_antisymm h2 h3) hso (hNs.imp fun h => Int.le_of_lt h)
    subst hNN
    obtain ⟨bb, off, e0, -⟩ := hI L m hNm
    subst e0
    rw [hNL] at hcp ⊢
    exact ⟨bb, off, cap, rfl, hcp, hI, hnew _ rfl, hb⟩
  have CB : Hid (∀ bb off cap u, ISees u (some ⟨bb, off, none⟩) N → Calls Tryz.prog 45 #[.slice (some ⟨bb, off, none⟩) (L + 1) cap, .int .i64 1] u fun e w' => ∃ ok, e = .returned (.tuple #[.int .i64 0, .bool ok]) ∧ ∃ q, w' = u.drewN q) := fun bb off cap u hI => by
    refine (Tryz.slices_BinarySearch_int bb off (L + 1) cap N 1 u (by omega) (by have := hS.few; omega) (fun j hj => ?_) (by rw [List.take_of_length_le (by omega)]; exact hNs.imp fun h => Int.le_of_lt h)).mono ?_
    · obtain ⟨b', off', e, hc⟩ := hI j N[j] (List.getElem?_eq_getElem hj)
      cases e
      rw [hc]; simp [List.getD, hj]
    · rintro e w' ⟨rfl, hq⟩
      have : (N.take (L + 1)).countP (fun y => decide (y < 1)) = 0 := by
        rw [List.countP_eq_zero]
        intro y hy
        have := hN1 y (List.mem_of_mem_take hy)
        simp; omega
      exact ⟨(N.take (L + 1)).contains 1, by rw [this]; rfl, hq⟩
  have CR : Hid (∀ bb off cap u, Below w.heap.size w u → ISees u (some ⟨bb, off, none⟩) N → Calls Tryz.prog 46 #[.pointer (some ⟨lb, 0, none⟩), .slice (some ⟨bb, off, none⟩) (L + 1) cap] u fun x w' => ∃ (v : Value) (ao : Option Addr) (c : Nat), x = .returned (.tuple #[v, .agg #[.slice ao (sz m) c, .bool (decide (sz m < (F m).length))], .int .i64 0]) ∧ ToldR u.heap.size (N.map rs).flatten v w' ∧ Below u.heap.size u w' ∧ (F m).length ≤ c ∧ Sees w' ao ((F m).take (sz m)) ∧ ∀ a, ao = some a → u.heap.size ≤ a.block) := fun bb off cap u hu hI => by
    have := readY he ht ue pv hE (h.more hu) hon (some ⟨bb, off, none⟩) N cap hI hS hg
    rw [hNL] at this
    refine this.mono ?_
    rintro x w' ⟨v, sl, tn, T, rfl, hO⟩
    obtain ⟨rfl, ao, c, vb, rfl, rfl, hfc, hown⟩ := hO.last L m hNL hNm
    refine ⟨v, ao, c, rfl, ⟨T, hO.row, hO.ins, hO.told⟩, hO.low, hfc, ?_, fun a e => ?_⟩
    · obtain ⟨a', c', e', hs', -⟩ := owns_sees hown
      cases e'
      intro i hi
      rw [hSl] at hi
      obtain ⟨a, e, hc⟩ := hs' i (by omega)
      refine ⟨a, e, ?_⟩
      rw [hc, List.getD_eq_getElem?_getD, List.getD_eq_getElem?_getD, List.getElem?_take, if_pos hi]
    · subst e
      exact (hown.lt a.block rfl).1
  have CP : Hid (∀ u, Calls Tryz.prog 22 #[.int .i64 (m + 1)] u fun e w' => e = .returned (.bool true) ∧ w' = u) := fun u => by have := possible_any (m + 1) u; rw [hm1] at this; exact this
  have hzS : ∀ t, findT (createX A (tB spW)).2.sp spW = some t → t.bs.length + ((F m).take (sz m)).length ≤ 600000 := fun t ht => by rw [hSl]; exact hz t ht
  have HF : Hid (LyF w0 d lb A 0 false ft w) := h
  have HFT : Hid (∀ i ∈ lb :: ft, i < w.heap.size) := fun i hi => by
    rcases List.mem_cons.1 hi with rfl | hi
    · exact h.blk.lt
    · exact h.1.lt i hi
  have hm1z : m + 1 ≤ 999999999 := hmm.2
  have hm2z : ¬ m + 1 < 1 := by omega
  have hcs : (0 : Int) < ((L + 1 : Nat) : Int) := by omega
  have hLb : (L : Int) ≤ 1000 := by have := hS.few; omega
  obtain ⟨tb, htb⟩ : ∃ tb, decide (sz m < (F m).length) = tb := ⟨_, rfl⟩
  rw [htb] at hq CR
  cases tb with
  | false =>
    have hq' : beginX A (m + 1) = q := by
      rw [← hq]; unfold openX; rw [if_neg (by simp)]; exact (chainW_mk0 A fun A1 => beginX A1 (m + 1)).symm
    have CG0 := fun u (hu : LyF w0 d lb A 0 false ft u) => beginY he hu hm1 hN (by omega)
    rw [hq'] at CG0
    have CG : Hid (∀ u, LyF w0 d lb A 0 false ft u → Calls Tryz.prog 35 #[.pointer (some ⟨lb, 0, none⟩), .int .i64 (m + 1)] u fun x w' => x = .returned (.int .i64 q.1) ∧ LyR w0 d lb q.2 (if q.1 = 0 then m + 1 else 0) false ft u w') := CG0
    clear CG0 hq hq' hzS hz hN hS hg he ht hE h hon hNn hspl hnl hNs hN1 hmok hmmem hk hSl hm1 htb
    go_enter Tryz.func23, Tryz.ntmps23
    go_wp2_with fail
    go_fit CN.out
    rintro e w1 ⟨bb, off, cap, rfl, hcap, hI, hbb, hB1⟩
    have C1 := CB.out bb off cap w1 hI
    have hcapz : ((L + 1 : Nat) : Int) ≤ (cap : Int) := by omega
    go_wp2_with (go_at_call 45; refine C1.mono ?_; rintro e w2 ⟨ok, rfl, nq, rfl⟩)
    have hB2 : Below w.heap.size w (w1.drewN nq) := ⟨hB1.os, hB1.tape, hB1.output, hB1.size, hB1.block⟩
    have C2 := CR.out bb off cap (w1.drewN nq) hB2 hI
    go_wp2_with fail
    go_fit C2
    rintro e w3 ⟨v, ao, c, rfl, hT3, hB3, -, -, -⟩
    have hB13 : Below w.heap.size w w3 := hB2.trans (hB3.mono hB2.size)
    obtain ⟨b', off', e', hcell⟩ := (ISees.below (w := w1.drewN nq) hI hB3 (Nat.le_refl _)) L m hNm
    cases e'
    have hLz : ((L + 1 : Nat) : Int) - 1 = (L : Int) := by omega
    have hn3 : w.heap.size ≤ (w1.drewN nq).heap.size := hB2.size
    have HT3 : Hid (ToldR (w1.drewN nq).heap.size (N.map rs).flatten v w3) := hT3
    have HB13 : Hid (Below w.heap.size w w3) := hB13
    obtain ⟨wx, hwx⟩ : ∃ wx, w3.alloc (.cells #[.slice ao (sz m) c, .bool false] 96) = wx := ⟨_, rfl⟩
    have hcell2 : (w3.alloc (.cells #[.slice ao (sz m) c, .bool false] 96)).cell? ⟨bb, off + L, none⟩ = some (.int .i64 m) := by
      rw [World.cell?_of_block (Below.heap_alloc _ _ _ (World.block_lt_of_cell? _ _ hcell))]
      exact hcell
    have k1 : Blk (w3.alloc (.cells #[.slice ao (sz m) c, .bool false] 96)) w3.heap.size [.slice ao (sz m) c, .bool false] 96 := Blk.new w3 _ _
    have e1 := k1.cell 1 rfl
    have HBX : Hid (Below w3.heap.size w3 (w3.alloc (.cells #[.slice ao (sz m) c, .bool false] 96))) := (Below.refl _ _).alloc (Nat.le_refl _) _
    clear hT3 hB3 hB13 C1 C2 k1 hwx
    go_wp2_with fail
    rw [show max 1 (m + 1) = m + 1 by omega]
    refine (CP.out _).mono ?_
    rintro e u2 ⟨rfl, hu2⟩
    have hBx : Below w.heap.size w u2 := by
      rw [hu2]
      exact HB13.out.trans (HBX.out.mono HB13.out.size)
    have hTx : ToldR (w1.drewN nq).heap.size (N.map rs).flatten v u2 := by
      rw [hu2]
      exact HT3.out.below HBX.out
    have C3 := CG.out u2 (HF.out.more hBx)
    subst hu2
    go_wp2_with fail
    go_fit C3
    rintro e w4 ⟨rfl, hR⟩
    have hft4 : ∀ i ∈ lb :: ft, i < (w1.drewN nq).heap.size := fun i hi => Nat.lt_of_lt_of_le (HFT.out i hi) hn3
    clear C3 hcell2 e1
    go_wp2_with fail
    go_ret2
    refine ⟨v, rfl, ⟨_, hR.pre hBx⟩, fun _ => ?_⟩
    obtain ⟨f4, _, hM⟩ := hR
    exact (hTx.moved hM hft4).low hn3
  | true =>
    have hqq : chainW (mendX A m ((F m).take (sz m))) (fun A1 => beginX A1 (m + 1)) = q := by
      rw [← hq]; unfold openX; rw [if_pos rfl]
    have CM0 : ∀ u ao c, LyF w0 d lb A 0 false ft u → Sees u ao ((F m).take (sz m)) → (∀ a, ao = some a → a.block ∉ lb :: ft) → Calls Tryz.prog 47 #[.pointer (some ⟨lb, 0, none⟩), .int .i64 m, .slice ao (sz m) c] u fun x w' => x = .returned (.int .i64 (mendX A m ((F m).take (sz m))).1) ∧ LyR w0 d lb (mendX A m ((F m).take (sz m))).2 0 false ft u w' := fun u ao c hu hs hne => by
      have := mendY he hu hmok ao _ c hs (fun a e _ => hne a e) hN (by omega) (by rw [hSl]; omega) hzS
      rw [hSl] at this
      exact this
    have hNm1 : Nice (mendX A m ((F m).take (sz m))).2 (k + 4) := hN.mend hzS
    generalize mendX A m ((F m).take (sz m)) = r at *
    obtain ⟨c1, A1⟩ := r
    have CM : Hid (∀ u ao c, LyF w0 d lb A 0 false ft u → Sees u ao ((F m).take (sz m)) → (∀ a, ao = some a → a.block ∉ lb :: ft) → Calls Tryz.prog 47 #[.pointer (some ⟨lb, 0, none⟩), .int .i64 m, .slice ao (sz m) c] u fun x w' => x = .returned (.int .i64 c1) ∧ LyR w0 d lb A1 0 false ft u w') := CM0
    clear CM0
    by_cases h1 : c1 = 0
    · subst h1
      rw [chainW_mk0] at hqq
      have CG0 := fun u f (hu : LyF w0 d lb A1 0 false f u) => beginY he hu hm1 hNm1 (by omega)
      rw [hqq] at CG0
      have CG : Hid (∀ u f, LyF w0 d lb A1 0 false f u → Calls Tryz.prog 35 #[.pointer (some ⟨lb, 0, none⟩), .int .i64 (m + 1)] u fun x w' => x = .returned (.int .i64 q.1) ∧ LyR w0 d lb q.2 (if q.1 = 0 then m + 1 else 0) false f u w') := CG0
      clear CG0 hq hqq hzS hz hN hNm1 hS hg he ht hE h hon hNn hspl hnl hNs hN1 hmok hmmem hk hSl hm1 htb
      go_enter Tryz.func23, Tryz.ntmps23
      go_wp2_with fail
      go_fit CN.out
      rintro e w1 ⟨bb, off, cap, rfl, hcap, hI, hbb, hB1⟩
      have C1 := CB.out bb off cap w1 hI
      have hcapz : ((L + 1 : Nat) : Int) ≤ (cap : Int) := by omega
      go_wp2_with (go_at_call 45; refine C1.mono ?_; rintro e w2 ⟨ok, rfl, nq, rfl⟩)
      have hB2 : Below w.heap.size w (w1.drewN nq) := ⟨hB1.os, hB1.tape, hB1.output, hB1.size, hB1.block⟩
      have C2 := CR.out bb off cap (w1.drewN nq) hB2 hI
      go_wp2_with fail
      go_fit C2
      rintro e w3 ⟨v, ao, c, rfl, hT3, hB3, -, hse, hbl⟩
      have hB13 : Below w.heap.size w w3 := hB2.trans (hB3.mono hB2.size)
      obtain ⟨b', off', e', hcell⟩ := (ISees.below (w := w1.drewN nq) hI hB3 (Nat.le_refl _)) L m hNm
      cases e'
      have hLz : ((L + 1 : Nat) : Int) - 1 = (L : Int) := by omega
      have hn3 : w.heap.size ≤ (w1.drewN nq).heap.size := hB2.size
      have hbx : Below w3.heap.size w3 (w3.alloc (.cells #[.slice ao (sz m) c, .bool true] 96)) := (Below.refl _ _).alloc (Nat.le_refl _) _
      have hBx : Below w.heap.size w (w3.alloc (.cells #[.slice ao (sz m) c, .bool true] 96)) := hB13.trans (hbx.mono hB13.size)
      have hTx : ToldR (w1.drewN nq).heap.size (N.map rs).flatten v (w3.alloc (.cells #[.slice ao (sz m) c, .bool true] 96)) := hT3.below hbx
      have hcell2 : (w3.alloc (.cells #[.slice ao (sz m) c, .bool true] 96)).cell? ⟨bb, off + L, none⟩ = some (.int .i64 m) := by
        rw [World.cell?_of_block (Below.heap_alloc _ _ _ (World.block_lt_of_cell? _ _ hcell))]
        exact hcell
      have k1 : Blk (w3.alloc (.cells #[.slice ao (sz m) c, .bool true] 96)) w3.heap.size [.slice ao (sz m) c, .bool true] 96 := Blk.new w3 _ _
      have e0 := k1.cell 0 rfl
      have e1 := k1.cell 1 rfl
      have hft4 : ∀ i ∈ lb :: ft, i < (w1.drewN nq).heap.size := fun i hi => Nat.lt_of_lt_of_le (HFT.out i hi) hn3
      have C3 := CM.out (w3.alloc (.cells #[.slice ao (sz m) c, .bool true] 96)).drew ao c (HF.out.more hBx).drew ((hse.below hbx (Nat.le_refl _)).below (Below.refl _ _).drew (Nat.le_refl _)) (fun a e hi => by have := hft4 _ hi; have := hbl a e; omega)
      have HLZ : Hid (∀ w' f, Moved (w3.alloc (.cells #[.slice ao (sz m) c, .bool true] 96)).drew w' (lb :: ft) f → ∃ p : LZ ⟨bb, off + L, none⟩ ⟨w3.heap.size, 0, none⟩ m (.slice ao (sz m) c), w' = p.u) := fun w' f hm => by
        refine ⟨⟨w', ?_, ?_⟩, rfl⟩
        · rw [World.cell?_of_block (hm.kept bb (World.block_lt_of_cell? _ _ hcell2) (fun hi => by have := HFT.out _ hi; omega))]
          exact hcell2
        · rw [World.cell?_of_block (hm.kept w3.heap.size (by simp) (fun hi => by have := hft4 _ hi; have := hB3.size; omega))]
          exact e0
      have c0 : ∀ p : LZ ⟨bb, off + L, none⟩ ⟨w3.heap.size, 0, none⟩ m (.slice ao (sz m) c), p.u.cell? ⟨bb, off + L, none⟩ = some (.int .i64 m) := fun p => p.h
      have c1z : ∀ p : LZ ⟨bb, off + L, none⟩ ⟨w3.heap.size, 0, none⟩ m (.slice ao (sz m) c), p.u.cell? ⟨w3.heap.size, 0, none⟩ = some (.slice ao (sz m) c) := fun p => p.k
      obtain ⟨pz, hpz⟩ := HLZ.out _ _ (Moved.refl _ _)
      haveI : Nonempty (LZ ⟨bb, off + L, none⟩ ⟨w3.heap.size, 0, none⟩ m (.slice ao (sz m) c)) := ⟨pz⟩
      have hwL := wrapL hLb
      have hL1 : (L : Int) < (L : Int) + 1 := by omega
      clear hpz hT3 hB3 hB13 C1 C2 k1 hse hbl
      go_wp2_with fail
      rw [show max 1 (m + 1) = m + 1 by omega]
      refine (CP.out _).mono ?_
      rintro e u2 ⟨rfl, hu2⟩
      subst hu2
      go_wp2_with fail
      refine wp_region_sched (fun w' => ∃ p : LZ ⟨bb, off + L, none⟩ ⟨w3.heap.size, 0, none⟩ m (.slice ao (sz m) c), w' = p.u) [(0, true), (1, true), (2, true), (3, true), (4, true), (5, true), (6, true), (7, true), (8, true), (9, false), (10, true)] rfl (by kernel_rfl) (by kernel_rfl) (by kernel_rfl) (HLZ.out _ _ (Moved.refl _ _)) ?_
      iterate 9 (refine sched_pure rfl (fun K hK => ?_); go_simp; refine hK _ ?_; clear hK K)
      refine sched_loud rfl (fun K hK => ?_)
      go_simp
      refine C3.mono ?_
      rintro e w4 ⟨rfl, r4⟩
      refine hK _ _ (by obtain ⟨f, _, hm⟩ := r4; exact HLZ.out _ _ hm) ?_
      clear hK K
      refine sched_pure rfl (fun K hK => ?_)
      go_simp
      refine hK _ ?_
      clear hK K
      refine sched_nil ?_
      obtain ⟨f4, hF4, hM4⟩ := r4
      go_wp2_with fail
      go_fit (CG.out w4 f4 hF4)
      rintro e w5 ⟨rfl, f5, hF5, hM5⟩
      go_wp2_with fail
      go_ret2
      have hM : Moved (w3.alloc (.cells #[.slice ao (sz m) c, .bool true] 96)) w5 (lb :: ft) (lb :: f5) := ((Moved.refl _ _).drew.trans hM4).trans hM5
      exact ⟨v, rfl, ⟨_, f5, hF5, (moved_below hBx).trans hM⟩, fun _ => (hTx.moved hM hft4).low hn3⟩
    · have h1b : (c1 != 0) = true := by simpa using h1
      rw [chainW_mk h1] at hqq
      obtain ⟨rfl, rfl⟩ : c1 = q.1 ∧ A1 = q.2 := by rw [← hqq]; exact ⟨rfl, rfl⟩
      clear hq hqq hzS hz hN hNm1 hS hg he ht hE h hon hNn hspl hnl hNs hN1 hmok hmmem hk hSl hm1 htb
      go_enter Tryz.func23, Tryz.ntmps23
      go_wp2_with fail
      go_fit CN.out
      rintro e w1 ⟨bb, off, cap, rfl, hcap, hI, hbb, hB1⟩
      have C1 := CB.out bb off cap w1 hI
      have hcapz : ((L + 1 : Nat) : Int) ≤ (cap : Int) := by omega
      go_wp2_with (go_at_call 45; refine C1.mono ?_; rintro e w2 ⟨ok, rfl, nq, rfl⟩)
      have hB2 : Below w.heap.size w (w1.drewN nq) := ⟨hB1.os, hB1.tape, hB1.output, hB1.size, hB1.block⟩
      have C2 := CR.out bb off cap (w1.drewN nq) hB2 hI
      go_wp2_with fail
      go_fit C2
      rintro e w3 ⟨v, ao, c, rfl, hT3, hB3, -, hse, hbl⟩
      have hB13 : Below w.heap.size w w3 := hB2.trans (hB3.mono hB2.size)
      obtain ⟨b', off', e', hcell⟩ := (ISees.below (w := w1.drewN nq) hI hB3 (Nat.le_refl _)) L m hNm
      cases e'
      have hLz : ((L + 1 : Nat) : Int) - 1 = (L : Int) := by omega
      have hn3 : w.heap.size ≤ (w1.drewN nq).heap.size := hB2.size
      have hbx : Below w3.heap.size w3 (w3.alloc (.cells #[.slice ao (sz m) c, .bool true] 96)) := (Below.refl _ _).alloc (Nat.le_refl _) _
      have hBx : Below w.heap.size w (w3.alloc (.cells #[.slice ao (sz m) c, .bool true] 96)) := hB13.trans (hbx.mono hB13.size)
      have hTx : ToldR (w1.drewN nq).heap.size (N.map rs).flatten v (w3.alloc (.cells #[.slice ao (sz m) c, .bool true] 96)) := hT3.below hbx
      have hcell2 : (w3.alloc (.cells #[.slice ao (sz m) c, .bool true] 96)).cell? ⟨bb, off + L, none⟩ = some (.int .i64 m) := by
        rw [World.cell?_of_block (Below.heap_alloc _ _ _ (World.block_lt_of_cell? _ _ hcell))]
        exact hcell
      have k1 : Blk (w3.alloc (.cells #[.slice ao (sz m) c, .bool true] 96)) w3.heap.size [.slice ao (sz m) c, .bool true] 96 := Blk.new w3 _ _
      have e0 := k1.cell 0 rfl
      have e1 := k1.cell 1 rfl
      have hft4 : ∀ i ∈ lb :: ft, i < (w1.drewN nq).heap.size := fun i hi => Nat.lt_of_lt_of_le (HFT.out i hi) hn3
      have C3 := CM.out (w3.alloc (.cells #[.slice ao (sz m) c, .bool true] 96)).drew ao c (HF.out.more hBx).drew ((hse.below hbx (Nat.le_refl _)).below (Below.refl _ _).drew (Nat.le_refl _)) (fun a e hi => by have := hft4 _ hi; have := hbl a e; omega)
      have HLZ : Hid (∀ w' f, Moved (w3.alloc (.cells #[.slice ao (sz m) c, .bool true] 96)).drew w' (lb :: ft) f → ∃ p : LZ ⟨bb, off + L, none⟩ ⟨w3.heap.size, 0, none⟩ m (.slice ao (sz m) c), w' = p.u) := fun w' f hm => by
        refine ⟨⟨w', ?_, ?_⟩, rfl⟩
        · rw [World.cell?_of_block (hm.kept bb (World.block_lt_of_cell? _ _ hcell2) (fun hi => by have := HFT.out _ hi; omega))]
          exact hcell2
        · rw [World.cell?_of_block (hm.kept w3.heap.size (by simp) (fun hi => by have := hft4 _ hi; have := hB3.size; omega))]
          exact e0
      have c0 : ∀ p : LZ ⟨bb, off + L, none⟩ ⟨w3.heap.size, 0, none⟩ m (.slice ao (sz m) c), p.u.cell? ⟨bb, off + L, none⟩ = some (.int .i64 m) := fun p => p.h
      have c1z : ∀ p : LZ ⟨bb, off + L, none⟩ ⟨w3.heap.size, 0, none⟩ m (.slice ao (sz m) c), p.u.cell? ⟨w3.heap.size, 0, none⟩ = some (.slice ao (sz m) c) := fun p => p.k
      obtain ⟨pz, hpz⟩ := HLZ.out _ _ (Moved.refl _ _)
      haveI : Nonempty (LZ ⟨bb, off + L, none⟩ ⟨w3.heap.size, 0, none⟩ m (.slice ao (sz m) c)) := ⟨pz⟩
      have hwL := wrapL hLb
      have hL1 : (L : Int) < (L : Int) + 1 := by omega
      clear hpz hT3 hB3 hB13 C1 C2 k1 hse hbl
      go_wp2_with fail
      rw [show max 1 (m + 1) = m + 1 by omega]
      refine (CP.out _).mono ?_
      rintro e u2 ⟨rfl, hu2⟩
      subst hu2
      go_wp2_with fail
      refine wp_region_sched (fun w' => ∃ p : LZ ⟨bb, off + L, none⟩ ⟨w3.heap.size, 0, none⟩ m (.slice ao (sz m) c), w' = p.u) [(0, true), (1, true), (2, true), (3, true), (4, true), (5, true), (6, true), (7, true), (8, true), (9, false), (10, true)] rfl (by kernel_rfl) (by kernel_rfl) (by kernel_rfl) (HLZ.out _ _ (Moved.refl _ _)) ?_
      iterate 9 (refine sched_pure rfl (fun K hK => ?_); go_simp; refine hK _ ?_; clear hK K)
      refine sched_loud rfl (fun K hK => ?_)
      go_simp
      refine C3.mono ?_
      rintro e w4 ⟨rfl, r4⟩
      refine hK _ _ (by obtain ⟨f, _, hm⟩ := r4; exact HLZ.out _ _ hm) ?_
      clear hK K
      refine sched_pure rfl (fun K hK => ?_)
      go_simp
      refine hK _ ?_
      clear hK K
      refine sched_nil ?_
      obtain ⟨f4, hF4, hM4⟩ := r4
      go_wp2_with fail
      go_ret2
      exact ⟨_, rfl, ⟨_, f4, hF4, (moved_below hBx).trans ((Moved.refl _ _).drew.trans hM4)⟩, fun h => absurd h h1⟩
end Go.Proofs.YtglaocghcgcghaaGreatDoor

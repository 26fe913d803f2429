/-
  THE LAW WalBack, walked.
-/
import Derived.Test.YtlamncldbnagmaaGreatDoorMany28
import Derived.Test.YtlamncldbnagmaaGreatDoorWalLives
namespace Go.Proofs.YtlamncldbnagmaaGreatDoor.walBack
open Go.RowKit Go.Proofs.YtlamncldbnagmaaGreatDoor

/-- What is asked of a list that came in. -/
structure LvOk (v : Lvx) : Prop where
  len : v.l.length ≤ 140737488355328
  max : ∀ c ∈ v.l, CxMax c
  num : ∀ c ∈ v.l, c.Nums
  wt : ∀ c ∈ v.l, wtX c ≤ 562949953421312
/-- The records that were gathered: their bytes, and their lists. -/
structure Gath (w : World) (vs R : List Lvx) (v6 v7 : Value) (W : World) : Prop where
  b6 : W.ownsRow w.heap.size 5 1 v6 (encW (R.map Lvx.l)).length (B8 (encW (R.map Lvx.l)))
  b7 : W.ownsRow w.heap.size 22 1 v7 R.length (R.map Lvx.s)
  sub : ∀ r ∈ R, r ∈ vs
  ok : ∀ r ∈ R, recB r.l = true
  low : Below w.heap.size w W
theorem enc_len {R : List (List Cx)} (h : ∀ r ∈ R, recB r = true) : (encW R).length ≤ 200000 * R.length := by
  induction R with
  | nil => simp [encW]
  | cons r R ih =>
    have h1 := rec_bytes' (h r (List.mem_cons_self ..))
    have h2 := ih fun x hx => h x (List.mem_cons_of_mem _ hx)
    rw [encW_cons, List.length_append, List.length_cons]
    omega
theorem Gath.below {w : World} {vs R : List Lvx} {v6 v7 : Value} {W W' : World} (h : Gath w vs R v6 v7 W) (hb : Below W.heap.size W W') : Gath w vs R v6 v7 W' :=
  ⟨owBelow h.b6 hb, owBelow h.b7 hb, h.sub, h.ok, h.low.trans (hb.mono h.low.size)⟩
theorem Gath.lists {w : World} {vs R : List Lvx} {v6 v7 : Value} {W : World} (h : Gath w vs R v6 v7 W) : ∃ a c, v7 = .slice a R.length c ∧ LSees W a R ∧ R.length ≤ c ∧ (a = none ∨ ∃ g, a = some ⟨g, 0, none⟩) := rows_lists h.b7
theorem src_oneL (w : World) (v : Value) (hv : v.oneCell' = true) : Src Tryz.prog 1 33 (.slice (some ⟨w.heap.size, 0, none⟩) 1 1) 1 [v] (w.alloc (.cells #[v] 22)) := by
  refine Src.ofSlice _ Tryz.underlying33 _ 1 1 _ rfl (fun j u hj => ?_) (fun u hu => by rw [List.mem_singleton] at hu; rw [hu]; exact hv)
  have hg : (w.alloc (.cells #[v] 22)).heap[w.heap.size]? = some (.cells #[v] 22) := heap_alloc_new w _
  rw [Addr.add_lit, Nat.zero_add]
  simp only [World.cell?, hg]
  cases j with
  | zero => exact hj
  | succ j => simp at hj
theorem lit_owns (w : World) {B : Nat} (hB : B ≤ w.heap.size) : (w.alloc (.cells #[] 5)).ownsRow B 5 1 (.slice (some ⟨w.heap.size, 0, none⟩) 0 0) 0 [] :=
  ⟨rfl, .inr ⟨w.heap.size, 0, #[], rfl, hB, heap_alloc_new w _, Nat.le_refl _, Nat.zero_le _, rfl, rfl⟩⟩
/-- Rows of another make lie as they lay behind an append. -/
theorem other_alloc {W : World} {o : Obj} {base n size : Nat} {e : TypeId} {v : Value} {xs : List Value} (h : W.ownsRow base e size v n xs) : (W.alloc o).ownsRow base e size v n xs := owns_cells h fun _ _ _ => rw_alloc o
theorem other_grew {W W' : World} {base n size base' n' size' : Nat} {e e' : TypeId} {v v1 v' : Value} {xs xs' : List Value} (h : W.ownsRow base e size v n xs) (ho : W.ownsRow base' e' size' v1 n' xs') (hg : Grew W W' v1 v') (hne : e ≠ e') : W'.ownsRow base e size v n xs := owns_cells h fun _ _ _ => rw_grown ho hg.rows hne
theorem Gath.more {w W : World} {vs R : List Lvx} {v : Lvx} {v4 v8 : Value} (hv : v ∈ vs) (hr : recB v.l = true) (hs : ∀ r ∈ R, r ∈ vs) (hok : ∀ r ∈ R, recB r.l = true)
    (h4 : W.ownsRow w.heap.size 5 1 v4 (0 + (encW (R.map Lvx.l)).length + (recL v.l).length) ([] ++ B8 (encW (R.map Lvx.l)) ++ B8 (recL v.l))) (h8 : W.ownsRow w.heap.size 22 1 v8 (R.length + 1) (R.map Lvx.s ++ [v.s])) (hl : Below w.heap.size w W) : Gath w vs (R ++ [v]) v4 v8 W := by
  refine ⟨?_, ?_, fun r hr' => ?_, fun r hr' => ?_, hl⟩
  · rw [List.map_append, List.map_cons, List.map_nil, encW_snoc, B8_append, List.length_append]
    rw [Nat.zero_add, List.nil_append] at h4
    exact h4
  · rw [List.map_append, List.length_append]; exact h8
  · rcases List.mem_append.1 hr' with h | h
    · exact hs r h
    · rw [List.mem_singleton] at h; rw [h]; exact hv
  · rcases List.mem_append.1 hr' with h | h
    · exact hok r h
    · rw [List.mem_singleton] at h; rw [h]; exact hr
theorem bytes_form {W : World} {base n : Nat} {v : Value} {xs : List Value} (h : W.ownsRow base 5 1 v n xs) : ∃ a c, v = .slice a n c := by
  rcases h.2 with ⟨e, h0⟩ | ⟨g, c, _, e, _⟩
  · exact ⟨none, 0, by rw [e, h0]⟩
  · exact ⟨_, c, e⟩
theorem walk7 {w w2 w3 w4 : World} {vs R : List Lvx} {v6 v7 v3 v4 : Value} {n : Nat} {xs : List Value} (hG : Gath w vs R v6 v7 w2) (hL : (w2.alloc (.cells #[] 5)).ownsRow w.heap.size 5 1 (.slice (some ⟨w2.heap.size, 0, none⟩) 0 0) 0 [])
    (hg3 : Grew (w2.alloc (.cells #[] 5)) w3 (.slice (some ⟨w2.heap.size, 0, none⟩) 0 0) v3) (ho3 : w3.ownsRow w.heap.size 5 1 v3 n xs) (hg4 : Grew w3 w4 v3 v4) :
    w4.ownsRow w.heap.size 22 1 v7 R.length (R.map Lvx.s) ∧ Below w.heap.size w w4 := by
  have hs := hG.low.size
  refine ⟨other_grew (other_grew (other_alloc hG.b7) hL hg3 (by decide)) ho3 hg4 (by decide), ?_⟩
  have h1 : Below w.heap.size w (w2.alloc (.cells #[] 5)) := hG.low.alloc hs _
  have h2 : Below w.heap.size (w2.alloc (.cells #[] 5)) w3 := hg3.below (by rw [World.size_alloc]; omega) fun g hg => (hL.lt g hg).1
  have h3 : Below w.heap.size w3 w4 := hg4.below (by have := h1.size; have := h2.size; omega) fun g hg => (ho3.lt g hg).1
  exact (h1.trans h2).trans h3
theorem walk8 {w w2 w4 w8 : World} {vs R : List Lvx} {v : Lvx} {v6 v7 v4 v8 : Value} (hv : v ∈ vs) (hrb : recB v.l = true) (hG : Gath w vs R v6 v7 w2) (hr7 : w4.ownsRow w.heap.size 22 1 v7 R.length (R.map Lvx.s)) (hw4 : Below w.heap.size w w4)
    (ho4 : w4.ownsRow w.heap.size 5 1 v4 (0 + (encW (R.map Lvx.l)).length + (recL v.l).length) ([] ++ B8 (encW (R.map Lvx.l)) ++ B8 (recL v.l))) (ho8 : w8.ownsRow w.heap.size 22 1 v8 (R.length + 1) (R.map Lvx.s ++ [v.s])) (hg8 : Grew (w4.alloc (.cells #[v.s] 22)) w8 v7 v8) : Gath w vs (R ++ [v]) v4 v8 w8 := by
  refine Gath.more hv hrb hG.sub hG.ok (other_grew (other_alloc ho4) (other_alloc hr7) hg8 (by decide)) ho8 ?_
  have h1 : Below w.heap.size w (w4.alloc (.cells #[v.s] 22)) := hw4.alloc hw4.size _
  exact h1.trans (hg8.below h1.size fun g hg => ((other_alloc (o := .cells #[v.s] 22) hr7).lt g hg).1)
/-- Scan, where what bytes tell is known: its records as lists. -/
theorem scanL_any {ao : Option Addr} {L : List UInt8} {cap : Nat} {w : World} (hs : Sees w ao L) (hao : Lies w.heap.size ao L.length cap) (hL : L.length ≤ 100000000) (hcap : L.length ≤ cap) (hcm : cap ≤ 9223372036854775807) (ht : Tab w) {ue : TypeId} {pv : Value} (he : Err w ue pv) {rs : List (List Cx)} {n : Nat} (hT : ToldW L rs n) :
    Calls Tryz.prog 10 #[.slice ao L.length cap] w fun e w' => ∃ (a : Option Addr) (c : Nat) (ys : List Lvx), e = .returned (.tuple #[.slice a ys.length c, .int .i64 (n : Int)]) ∧ ys.map Lvx.l = rs ∧ LSees w' a ys ∧ (∀ y ∈ ys, XSees w' y.ao y.l) ∧ Below w.heap.size w w' := by
  refine (scanW_any ao L cap w hs hao hL hcap hcm ht ue pv he).mono ?_
  rintro e w' ⟨v, xs, m, rfl, hT', hrow, hin, hB⟩
  obtain ⟨e1, rfl⟩ := hT'.uniq hT
  have em : xs.map Yl.v = (xs.map fun x => (⟨x.a, x.c, x.r⟩ : Lvx)).map Lvx.s := by rw [List.map_map]; rfl
  have el : xs.length = (xs.map fun x => (⟨x.a, x.c, x.r⟩ : Lvx)).length := by rw [List.length_map]
  rw [em, el] at hrow
  obtain ⟨a, c, rfl, h1, -, -⟩ := rows_lists hrow
  refine ⟨a, c, _, rfl, ?_, h1, fun y hy => ?_, hB⟩
  · rw [List.map_map, ← e1]; rfl
  · obtain ⟨x, hx, rfl⟩ := List.mem_map.1 hy
    obtain ⟨a2, c2, e2, h2, -⟩ := owns_xsees (hin x hx).1
    unfold Yl.v at e2
    simp only [Value.slice.injEq] at e2
    rw [← e2.1] at h2
    exact h2
theorem LSees.take {w : World} {lo : Option Addr} {vs : List Lvx} (h : LSees w lo vs) (j : Nat) : LSees w lo (vs.take j) := fun i v hv => by
  refine h i v ?_
  rw [List.getElem?_take] at hv
  split at hv
  · exact hv
  · cases hv
theorem encW_take (R : List (List Cx)) (j : Nat) : (encW (R.take j)).length ≤ (encW R).length := by
  have : encW R = encW (R.take j) ++ encW (R.drop j) := by
    unfold encW
    rw [← List.flatMap_append, List.take_append_drop]
  rw [this, List.length_append]
  omega
set_option maxRecDepth 100000 in
set_option maxHeartbeats 8000000 in
theorem walk0 (lo : Option Addr) (vs : List Lvx) (cap : Nat) (cut : Int) (w : World) (he : EnvW w) (ht : Tab w) (ue : TypeId) (pv : Value) (hE : Err w ue pv) (hL : LSees w lo vs) (hX : ∀ v ∈ vs, XSees w v.ao v.l) (hok : ∀ v ∈ vs, LvOk v) (hlen : vs.length ≤ 140737488355328) (hcut : 0 ≤ cut ∧ cut ≤ 18446744073709551615) :
    Calls Tryz.prog 4 #[.slice lo vs.length cap, .int .u64 cut] w fun e w' => e = .returned (.bool true) ∧ Below w.heap.size w w' := by
  obtain ⟨i8, hi8, hz0, hz1, hz2⟩ := info_parts info8
  obtain ⟨iL, hiL, hl0, hl1, hl2⟩ := info_parts infoLs
  have LV : Hid (∀ u, Below w.heap.size w u → Calls Tryz.prog 7 #[] u fun x w' => x = .returned (.bool true) ∧ Below w.heap.size w w') := fun u hb =>
    (lives07_any u (he.below hb (Nat.le_refl _)) (ht.below hb (Nat.le_refl _))).mono fun x w' ⟨hx, h⟩ => ⟨hx, hb.trans (h.mono hb.size)⟩
  have HV : Hid (∀ (i : Nat) (u : World), i < vs.length → Below w.heap.size w u → ∃ (b off : Nat) (v : Lvx), lo = some ⟨b, off, none⟩ ∧ v ∈ vs ∧ u.cell? ⟨b, off + i, none⟩ = some v.s ∧ XSees u v.ao v.l ∧ LvOk v) := fun i u hi hu => by
    obtain ⟨b, off, k1, k2⟩ := (hL.below hu (Nat.le_refl _)) i _ (List.getElem?_eq_getElem hi)
    exact ⟨b, off, _, k1, List.getElem_mem hi, k2, (hX _ (List.getElem_mem hi)).below hu (Nat.le_refl _), hok _ (List.getElem_mem hi)⟩
  have HM : Hid (∀ v ∈ vs, ∀ u, Below w.heap.size w u → XSees u v.ao v.l ∧ LvOk v) := fun v hv u hu => ⟨(hX v hv).below hu (Nat.le_refl _), hok v hv⟩
  have HT : Hid (∀ u, Below w.heap.size w u → Tab u ∧ Err u ue pv) := fun u hu => ⟨ht.below hu (Nat.le_refl _), hE.below hu (Nat.le_refl _)⟩
  have hlz : (vs.length : Int) ≤ 140737488355328 := by omega
  clear hL hX hok he ht hE
  go_enter Tryz.func4, Tryz.ntmps4
  go_wp2_with fail
  go_loopw [5, 6, 7, 18] (fun s5 s6 s7 s18 wr => ∃ (i z : Nat) (R : List Lvx) (v6 v7 : Value), i ≤ vs.length ∧ s18 = .int .i64 (i : Int) ∧ s5 = .int .i64 (z : Int) ∧ v6 = s6 ∧ v7 = s7 ∧ R.length ≤ z ∧ z ≤ 400 ∧ Gath w vs R v6 v7 wr) (fun _ _ _ s18 _ => vs.length - (intOf s18).toNat)
  case atStart => exact ⟨0, 0, [], _, _, by omega, rfl, rfl, rfl, rfl, by simp, by omega, World.ownsRow_nil _ _ _ _, World.ownsRow_nil _ _ _ _, fun r hr => (by cases hr), fun r hr => (by cases hr), Below.refl _ _⟩
  case round =>
    obtain ⟨i, z, R, s6, s7, hi, rfl, rfl, rfl, rfl, hRz, hz4, hG⟩ := hrel
    rcases Nat.lt_or_ge i vs.length with hlt | hge
    · obtain ⟨b, off, v, rfl, hv, k1, hx, hvo⟩ := HV.out i wr hlt hG.low
      have WG : Hid (Calls Tryz.prog 6 #[.slice v.ao v.l.length v.cap, .int .i64 200] wr fun e w' => (∃ z : Nat, e = .returned (.int .i64 z) ∧ z ≤ 1000000000000000) ∧ Below wr.heap.size wr w') := (weigh07_any v.ao v.l v.cap 200 wr hx (by omega) hvo.len hvo.wt).mono fun e w' ⟨⟨z, h1, h2, _⟩, h3⟩ => ⟨⟨z, h1, h2⟩, h3⟩
      unfold Lvx.s at k1
      have HG : Hid (Gath w vs R s6 s7 wr) := hG
      have hltz : (i : Int) < (vs.length : Int) := by omega
      clear HV hG hx
      go_wp2_with fail
      go_fit WG.out
      rintro e w1 ⟨⟨z', rfl, hz'⟩, hB1⟩
      have HG1 : Hid (Gath w vs R s6 s7 w1) := HG.out.below hB1
      clear k1 WG HG hB1
      by_cases hbig : z + (1 + z') ≤ 400
      · have hq : ¬ ((400 : Int) < (z : Int) + (1 + (z' : Int))) := by omega
        cases hrb : recB v.l with
        | false =>
          have CD : Hid (Calls Tryz.prog 8 #[.slice v.ao v.l.length v.cap] w1 fun e w' => e = .returned (.tuple #[.slice none 0 0, .int .i64 2]) ∧ Below w1.heap.size w1 w') := recordW_bad v.ao v.l v.cap w1 (HM.out v hv w1 HG1.out.low).1 hvo.len hvo.max hrb
          go_wp2_with fail
          go_fit CD.out
          rintro e w2 ⟨rfl, hB2⟩
          go_wp2_with fail
          go_roundw
          case rel => exact ⟨i + 1, z + (1 + z'), R, _, _, by omega, by go_num, by congr 1, rfl, rfl, by omega, hbig, HG1.out.below hB2⟩
          case measure => (simp [intOf]; try omega)
        | true =>
          have CD : Hid (Calls Tryz.prog 8 #[.slice v.ao v.l.length v.cap] w1 fun e w' => ∃ g, e = .returned (.tuple #[.slice (some ⟨g, 0, none⟩) (recL v.l).length (recL v.l).length, .int .i64 0]) ∧ w1.heap.size ≤ g ∧ Row w' g (recL v.l) ∧ Below w1.heap.size w1 w') := recordW_good v.ao v.l v.cap w1 (HM.out v hv w1 HG1.out.low).1 hvo.num hrb (HT.out w1 HG1.out.low).1
          go_wp2_with fail
          go_fit CD.out
          rintro e w2 ⟨g, rfl, hg, hrow, hB2⟩
          have hG2 : Gath w vs R s6 s7 w2 := HG1.out.below hB2
          obtain ⟨a6, c6, rfl, hs6, hl6, hn6⟩ := owns_sees hG2.b6
          obtain ⟨a7, c7, rfl, -, -, -⟩ := hG2.lists
          have hel := enc_len (R := R.map Lvx.l) fun r hr => by obtain ⟨x, hx, rfl⟩ := List.mem_map.1 hr; exact hG2.ok x hx
          rw [List.length_map] at hel
          have hrl := rec_bytes' hrb
          have hs2 := hG2.low.size
          have LIT : Hid ((w2.alloc (.cells #[] 5)).ownsRow w.heap.size 5 1 (.slice (some ⟨w2.heap.size, 0, none⟩) 0 0) 0 []) := lit_owns w2 hs2
          have S1 : Hid (Src Tryz.prog 1 23 (.slice a6 (encW (R.map Lvx.l)).length c6) (encW (R.map Lvx.l)).length (B8 (encW (R.map Lvx.l))) (w2.alloc (.cells #[] 5))) := src_sees Tryz.underlying23 (hs6.below ((Below.refl _ _).alloc (Nat.le_refl _) _) (Nat.le_refl _)) (fun e => (hn6 e).1) c6
          have S2 : Hid (∀ v3 w3, Grew (w2.alloc (.cells #[] 5)) w3 (.slice (some ⟨w2.heap.size, 0, none⟩) 0 0) v3 → Src Tryz.prog 1 23 (.slice (some ⟨g, 0, none⟩) (recL v.l).length (recL v.l).length) (recL v.l).length (B8 (recL v.l)) w3 ∧ w.heap.size ≤ w3.heap.size) := fun v3 w3 hg3 => by
            have hb23 : Below w2.heap.size w2 w3 := ((Below.refl _ w2).alloc (Nat.le_refl _) (.cells #[] 5)).trans (hg3.below (by simp) fun k hk => by simp [Value.ownBlock] at hk; omega)
            have hsg : Sees w3 (some ⟨g, 0, none⟩) (recL v.l) := by
              have := (hrow.sees 0 (recL v.l).length (by omega)).below hb23 (Nat.le_refl _)
              simpa using this
            exact ⟨src_sees Tryz.underlying23 hsg (fun e => by cases e) _, Nat.le_trans hs2 hb23.size⟩
          have HG2 : Hid (Gath w vs R (.slice a6 (encW (R.map Lvx.l)).length c6) (.slice a7 R.length c7) w2) := hG2
          have hBl : (encW (R.map Lvx.l)).length ≤ 80000000 := by omega
          clear hG2 hs6 hl6 hn6 CD hel
          go_wp2_with (first
            | (at_builtin; refine wpList_append_grew _ rfl _ _ 23 23 rfl w.heap.size 5 i8 (.int .u8 0) 1 1 Tryz.underlying23 hi8 hz0 hz1 hz2 rfl _ 0 [] rfl LIT.out _ (encW (R.map Lvx.l)).length (B8 (encW (R.map Lvx.l))) rfl S1.out (by unfold maxLen; omega) (by omega) (by rw [World.size_alloc]; omega) ?_; intro v3 w3 ho3 hg3; obtain ⟨S3, hs3⟩ := S2.out v3 w3 hg3)
            | (at_builtin; refine wpList_append_grew _ rfl _ _ 23 23 rfl w.heap.size 5 i8 (.int .u8 0) 1 1 Tryz.underlying23 hi8 hz0 hz1 hz2 rfl v3 _ _ rfl ho3 _ (recL v.l).length (B8 (recL v.l)) rfl S3 (by unfold maxLen; omega) (by omega) hs3 ?_; intro v4 w4 ho4 hg4; obtain ⟨hr7, hw4⟩ := walk7 HG2.out LIT.out hg3 ho3 hg4)
            | (at_builtin; refine wpList_append_grew _ rfl _ _ 33 33 rfl w.heap.size 22 iL (.slice none 0 0) 1 24 Tryz.underlying33 hiL hl0 hl1 hl2 rfl _ R.length (R.map Lvx.s) rfl (other_alloc hr7) _ 1 [.slice v.ao v.l.length v.cap] rfl (src_oneL w4 _ rfl) (by unfold maxLen; omega) (by omega) (by rw [World.size_alloc]; have := hw4.size; omega) ?_; intro v8 w8 ho8 hg8; have HG8 := walk8 hv hrb HG2.out hr7 hw4 ho4 ho8 hg8; rw [Nat.zero_add] at ho4; obtain ⟨g8, c8, rfl⟩ := ownsRow_succ ho8; obtain ⟨a4, c4, rfl⟩ := bytes_form ho4))
          go_roundw
          case rel => exact ⟨i + 1, z + (1 + z'), R ++ [v], _, _, by omega, by go_num, by congr 1, rfl, rfl, by rw [List.length_append, List.length_singleton]; omega, hbig, HG8⟩
          case measure => (simp [intOf]; try omega)
      · have hq : ((400 : Int) < (z : Int) + (1 + (z' : Int))) := by omega
        have C3 := LV.out w1 HG1.out.low
        go_wp2_with fail
        go_fit C3
        rintro e w3 ⟨rfl, hB3⟩
        go_wp2_with fail
        go_ret
        exact ⟨rfl, hB3⟩
    · obtain rfl : i = vs.length := by omega
      have hRR : ∀ r ∈ R.map Lvx.l, recB r = true ∧ ∀ c ∈ r, c.Nums := fun r hr => by
        obtain ⟨x, hx, rfl⟩ := List.mem_map.1 hr
        exact ⟨hG.ok x hx, (HM.out x (hG.sub x hx) wr hG.low).2.num⟩
      have hel := enc_len (R := R.map Lvx.l) fun r hr => (hRR r hr).1
      rw [List.length_map] at hel
      obtain ⟨a6, c6, rfl, hs6, -, -⟩ := owns_sees hG.b6
      obtain ⟨a7, c7, rfl, hs7, hc7, ha7⟩ := hG.lists
      have hc6 := owns_capW hG.b6
      obtain ⟨hm6, ha6, hli⟩ : c6 ≤ 9223372036854775807 ∧ (a6 = none ∨ ∃ g, a6 = some ⟨g, 0, none⟩) ∧ Lies wr.heap.size a6 (encW (R.map Lvx.l)).length c6 := by
        rcases hG.b6.2 with ⟨e, h0⟩ | ⟨g, cp, cur, e, hg, hh, hn, hm, _⟩
        · simp only [Value.slice.injEq] at e
          obtain ⟨rfl, -, rfl⟩ := e
          exact ⟨Nat.zero_le _, .inl rfl, .inl ⟨rfl, h0, rfl⟩⟩
        · simp only [Value.slice.injEq] at e
          obtain ⟨rfl, -, rfl⟩ := e
          exact ⟨Nat.le_trans hm (by decide), .inr ⟨g, rfl⟩, .inr ⟨g, 0, rfl, (Array.getElem?_eq_some_iff.1 hh).1⟩⟩
      obtain ⟨j0, hj0, hT0, hj0'⟩ := toldW_cut (R.map Lvx.l) (encW (R.map Lvx.l)).length hRR
      have hj0e := hj0' (Nat.le_refl _)
      subst hj0e
      rw [List.take_length, List.take_length] at hT0
      obtain ⟨p, hpc, hpl⟩ : ∃ p : Nat, cut % (((encW (R.map Lvx.l)).length : Int) + 1) = (p : Int) ∧ p ≤ (encW (R.map Lvx.l)).length := by
        refine ⟨(cut % (((encW (R.map Lvx.l)).length : Int) + 1)).toNat, ?_, ?_⟩
        · have := Int.emod_nonneg cut (b := ((encW (R.map Lvx.l)).length : Int) + 1) (by omega)
          omega
        · have h1 := Int.emod_nonneg cut (b := ((encW (R.map Lvx.l)).length : Int) + 1) (by omega)
          have h2 := Int.emod_lt_of_pos cut (b := ((encW (R.map Lvx.l)).length : Int) + 1) (by omega)
          omega
      obtain ⟨j, hj, hTj, -⟩ := toldW_cut (R.map Lvx.l) p hRR
      have hMj := encW_take (R.map Lvx.l) j
      have HT0 := HT.out wr hG.low
      have CS : Hid (Calls Tryz.prog 10 #[.slice a6 (encW (R.map Lvx.l)).length c6] wr fun e w' => ∃ (a : Option Addr) (c : Nat) (ys : List Lvx), e = .returned (.tuple #[.slice a ys.length c, .int .i64 ((encW (R.map Lvx.l)).length : Int)]) ∧ ys.map Lvx.l = R.map Lvx.l ∧ LSees w' a ys ∧ (∀ y ∈ ys, XSees w' y.ao y.l) ∧ Below wr.heap.size wr w') := scanL_any hs6 hli (by omega) hc6 hm6 HT0.1 HT0.2 hT0
      have HSP : Hid (∀ u, Below wr.heap.size wr u → Calls Tryz.prog 10 #[.slice a6 p c6] u fun e w' => ∃ (a : Option Addr) (c : Nat) (ys : List Lvx), e = .returned (.tuple #[.slice a ys.length c, .int .i64 ((encW ((R.map Lvx.l).take j)).length : Int)]) ∧ ys.map Lvx.l = (R.map Lvx.l).take j ∧ LSees w' a ys ∧ (∀ y ∈ ys, XSees w' y.ao y.l) ∧ Below u.heap.size u w') := fun u hu => by
        have hpe : ((encW (R.map Lvx.l)).take p).length = p := by rw [List.length_take]; omega
        have hsu : Sees u a6 ((encW (R.map Lvx.l)).take p) := by
          have := hs6.below hu (Nat.le_refl _)
          intro i hi
          rw [hpe] at hi
          obtain ⟨a, e, hc⟩ := this i (by omega)
          refine ⟨a, e, ?_⟩
          rw [hc, List.getD_eq_getElem?_getD, List.getD_eq_getElem?_getD, List.getElem?_take, if_pos hi]
        have hTu := HT.out u (hG.low.trans (hu.mono hG.low.size))
        have hlu : Lies u.heap.size a6 ((encW (R.map Lvx.l)).take p).length c6 := by
          rcases hli with ⟨e, h0, h1⟩ | ⟨b, off, e, hb⟩
          · exact .inl ⟨e, by omega, h1⟩
          · exact .inr ⟨b, off, e, Nat.lt_of_lt_of_le hb hu.size⟩
        have := scanL_any hsu hlu (by omega) (by omega) hm6 hTu.1 hTu.2 hTj
        rw [hpe] at this
        exact this
      have HR7 : Hid (∀ u, Below wr.heap.size wr u → LSees u a7 R ∧ ∀ r ∈ R, XSees u r.ao r.l) := fun u hu => ⟨hs7.below hu (Nat.le_refl _), fun r hr => (HM.out r (hG.sub r hr) u (hG.low.trans (hu.mono hG.low.size))).1⟩
      have HRL : Hid (∀ r ∈ R, r.l.length ≤ 400) := fun r hr => (recB_good (hG.ok r hr)).1.2
      have HLO : Hid (∀ u, Below wr.heap.size wr u → Below w.heap.size w u) := fun u hu => hG.low.trans (hu.mono hG.low.size)
      have hBl : (encW (R.map Lvx.l)).length ≤ 80000000 := by omega
      have hR4 : R.length ≤ 400 := by omega
      have hRl : (R.map Lvx.l).length = R.length := List.length_map _
      have hjR : j ≤ R.length := by omega
      obtain ⟨M, hM⟩ : ∃ M, M = (encW ((R.map Lvx.l).take j)).length := ⟨_, rfl⟩
      rw [← hM] at hMj HSP
      have HTK : Hid ((R.map Lvx.l).take j = (R.take j).map Lvx.l ∧ (R.take j).length = j) := ⟨List.map_take.symm, by rw [List.length_take]; omega⟩
      generalize (encW (R.map Lvx.l)).length = BL at *
      clear hM hTj hT0 hRR hG hs6 hs7 hli HT0 hel hRl hj hj0 hj0' HV HM HT
      go_wp2_with fail
      go_fit CS.out
      rintro e w1 ⟨a1, d1, ys, rfl, hy1, hy2, hy3, hB1⟩
      have C2 := HSP.out w1 hB1
      clear CS HSP
      go_wp2_with fail
      go_fit C2
      rintro e w2 ⟨a2, d2, ps, rfl, hp1, hp2, hp3, hB2⟩
      have hpL : ps.length = j := by
        have := congrArg List.length hp1
        rw [List.length_map, HTK.out.1, List.length_map, HTK.out.2] at this
        exact this
      have hyL : ys.length = R.length := by
        have := congrArg List.length hy1
        rw [List.length_map, List.length_map] at this
        exact this
      have hB12 : Below wr.heap.size wr w2 := hB1.trans (hB2.mono hB1.size)
      have hr7 := HR7.out w2 hB12
      have C3 : Hid (Calls Tryz.prog 15 #[.slice a1 ys.length d1, .slice a7 R.length c7] w2 fun e w' => e = .returned (.bool true) ∧ Below w2.heap.size w2 w') := recordsL_same a1 a7 ys R d1 c7 w2 hy1 (hy2.below hB2 (Nat.le_refl _)) hr7.1 (fun y hy => (hy3 y hy).below hB2 (Nat.le_refl _)) hr7.2 (by omega) (fun y hy => by
        have hm : y.l ∈ R.map Lvx.l := by rw [← hy1]; exact List.mem_map_of_mem hy
        obtain ⟨r, hr, e⟩ := List.mem_map.1 hm
        have := HRL.out r hr
        rw [← e]; omega)
      have C4 : Hid (∀ u, Below w2.heap.size w2 u → Calls Tryz.prog 15 #[.slice a2 ps.length d2, .slice a7 ps.length c7] u fun e w' => e = .returned (.bool true) ∧ Below u.heap.size u w') := fun u hu => by
        have hu7 := HR7.out u (hB12.trans (hu.mono hB12.size))
        have := recordsL_same a2 a7 ps (R.take j) d2 c7 u (by rw [hp1, HTK.out.1]) (hp2.below hu (Nat.le_refl _)) (LSees.take hu7.1 j) (fun y hy => (hp3 y hy).below hu (Nat.le_refl _)) (fun r hr => hu7.2 r (List.mem_of_mem_take hr)) (by omega) (fun y hy => by
          have hm : y.l ∈ (R.take j).map Lvx.l := by rw [← HTK.out.1, ← hp1]; exact List.mem_map_of_mem hy
          obtain ⟨r, hr, e⟩ := List.mem_map.1 hm
          have := HRL.out r (List.mem_of_mem_take hr)
          rw [← e]; omega)
        rw [HTK.out.2, ← hpL] at this
        exact this
      have HL2 : Hid (∀ u, Below w2.heap.size w2 u → Below w.heap.size w u) := fun u hu => HLO.out u (hB12.trans (hu.mono hB12.size))
      have hq1 : ¬ ((R.length : Int) < (ps.length : Int)) := by omega
      have hq2 : ¬ ((BL : Int) < (M : Int)) := by omega
      have hq3 : (ps.length : Int) ≤ (c7 : Int) := by omega
      clear hy1 hy2 hy3 hp1 hp2 hp3 hr7 hB12 hB1 hB2 HR7 HRL HLO HTK C2 hyL hpL hpc hpl
      go_wp2_with fail
      go_fit C3.out
      rintro e w3 ⟨rfl, hB3⟩
      have C5 := C4.out w3 hB3
      go_wp2_with fail
      go_fit C5
      rintro e w4 ⟨rfl, hB4⟩
      have C6 := LV.out w4 (HL2.out w4 (hB3.trans (hB4.mono hB3.size)))
      clear C3 C4 C5 hB3 hB4
      go_wp2_with fail
      go_fit C6
      rintro e w5 ⟨rfl, hB5⟩
      go_wp2_with fail
      go_ret
      exact ⟨rfl, hB5⟩
end Go.Proofs.YtlamncldbnagmaaGreatDoor.walBack

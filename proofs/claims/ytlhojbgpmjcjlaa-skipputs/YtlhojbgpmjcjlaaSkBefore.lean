/-
  CONTRACT: of each level the last tower ahead of a key (before).
-/
import Derived.Test.YtlhojbgpmjcjlaaSkMem
namespace Go.Proofs.Ytlhojbgpmjcjlaa
open Go.RowKit

/-- Where the search stands in a level: at a tower (or the head) that stands in it, ahead of the towers X. -/
structure Stand (w : World) (l hd : Nat) (A R : List Tw) (tb : Nat) (X : List Tw) : Prop where
  ht : ∃ c hv h, l < h ∧ TwAt w tb c hv h (X ++ R)
  sub : ∃ Y, A = Y ++ X
  last : ∀ i, i ≤ l → lastH i hd A = lastH i tb X
  pos : ∃ L, hd :: (A ++ R).map Tw.g = L ++ tb :: (X ++ R).map Tw.g
theorem Stand.start {w : World} {hd : Nat} {A R : List Tw} (h : Towers w hd (A ++ R)) {l : Nat} (hl : l < 8) : Stand w l hd A R hd A := ⟨⟨_, _, _, hl, h.head⟩, ⟨[], rfl⟩, fun _ _ => rfl, ⟨[], rfl⟩⟩
theorem Stand.down {w : World} {l hd tb : Nat} {A R X : List Tw} (h : Stand w (l + 1) hd A R tb X) : Stand w l hd A R tb X := by
  obtain ⟨c, hv, k, hk, t⟩ := h.ht
  exact ⟨⟨c, hv, k, by omega, t⟩, h.sub, fun i hi => h.last i (by omega), h.pos⟩
theorem Stand.step {w : World} {l hd tb : Nat} {A R X Y : List Tw} {t : Tw} (hT : Towers w hd (A ++ R)) (h : Stand w l hd A R tb (X ++ t :: Y)) (ht : l < t.h) : Stand w l hd A R t.g Y := by
  obtain ⟨Z, hZ⟩ := h.sub
  obtain ⟨L, hL⟩ := h.pos
  refine ⟨⟨t.c, t.hv, t.h, ht, ?_⟩, ⟨Z ++ X ++ [t], by rw [hZ]; simp⟩, fun i hi => ?_, ⟨L ++ tb :: X.map Tw.g, ?_⟩⟩
  · have hc := hT.chain
    rw [hZ] at hc
    have : Z ++ (X ++ t :: Y) ++ R = (Z ++ X) ++ t :: (Y ++ R) := by simp
    rw [this] at hc
    exact hc.at
  · rw [h.last i hi, lastH_hit _ _ _ (by omega)]
  · rw [hL]; simp
/-- How far the search has come. -/
def idxV (hd : Nat) (T : List Tw) : Value → Nat
  | .pointer (some a) => (hd :: T.map Tw.g).idxOf a.block
  | _ => 0
theorem idxOf_mid {L M : List Nat} {x : Nat} (h : (L ++ x :: M).Nodup) : (L ++ x :: M).idxOf x = L.length := by
  have hx : x ∉ L := fun hx => (List.nodup_append.1 h).2.2 x hx x (by simp) rfl
  rw [List.idxOf_append, if_neg hx, List.idxOf_cons_self]; omega
theorem Stand.idx {w : World} {l hd tb : Nat} {A R X : List Tw} (hT : Towers w hd (A ++ R)) (h : Stand w l hd A R tb X) : idxV hd (A ++ R) (.pointer (some ⟨tb, 0, none⟩)) + (X ++ R).length = (A ++ R).length := by
  obtain ⟨L, hL⟩ := h.pos
  have hn := hT.nodup
  rw [hL] at hn
  show (hd :: (A ++ R).map Tw.g).idxOf tb + _ = _
  rw [hL, idxOf_mid hn]
  have := congrArg List.length hL
  simp only [List.length_cons, List.length_map, List.length_append] at this ⊢
  omega
theorem Stand.carry {w w' : World} {l hd tb : Nat} {A R X : List Tw} (h : Stand w l hd A R tb X) (e : w'.heap[tb]? = w.heap[tb]?) : Stand w' l hd A R tb X := by
  obtain ⟨c, hv, k, hk, t⟩ := h.ht
  exact ⟨⟨c, hv, k, hk, t.carry e⟩, h.sub, h.last, h.pos⟩
theorem Stand.lt {w : World} {l hd tb : Nat} {A R X : List Tw} (h : Stand w l hd A R tb X) : tb < w.heap.size := by
  obtain ⟨c, hv, k, hk, t⟩ := h.ht
  exact t.lt
/-- The links that were found: those of levels below k are not there yet. -/
def foundL (hd : Nat) (A : List Tw) (k : Nat) : List Value := (List.range 8).map fun i => if k ≤ i then pt (some (lastH i hd A)) else pt none
theorem foundL_none (hd : Nat) (A : List Tw) : foundL hd A 8 = [pt none, pt none, pt none, pt none, pt none, pt none, pt none, pt none] := rfl
theorem foundL_all (hd : Nat) (A : List Tw) : foundL hd A 0 = [pt (some (lastH 0 hd A)), pt (some (lastH 1 hd A)), pt (some (lastH 2 hd A)), pt (some (lastH 3 hd A)), pt (some (lastH 4 hd A)), pt (some (lastH 5 hd A)), pt (some (lastH 6 hd A)), pt (some (lastH 7 hd A))] := rfl
theorem foundL_set (hd : Nat) (A : List Tw) {l : Nat} (hl : l < 8) : (foundL hd A (l + 1)).set l (pt (some (lastH l hd A))) = foundL hd A l := by
  match l, hl with
  | 0, _ => rfl
  | 1, _ => rfl
  | 2, _ => rfl
  | 3, _ => rfl
  | 4, _ => rfl
  | 5, _ => rfl
  | 6, _ => rfl
  | 7, _ => rfl
theorem foundL_at (hd : Nat) (A : List Tw) (k : Nat) {l : Nat} (hl : l < 8) : ∃ v, (foundL hd A k)[l]? = some v := by
  have : l < (foundL hd A k).length := by simp [foundL]; exact hl
  exact ⟨_, List.getElem?_eq_getElem this⟩
theorem Blk.below {w w' : World} {g : Nat} {cs : List Value} {t : TypeId} (h : Blk w g cs t) {B : Nat} (hb : Below B w w') (hg : g < B) : Blk w' g cs t := h.carry (hb.block g hg)
/-- The boxes that before lays. -/
theorem before_box (w : World) (k : Kb) : ∃ wa, wa = ((w.alloc (.cells #[.string k.t, .string k.p, .int .i64 k.r, .string k.c] 25)).alloc (.cells #[.pointer none, .pointer none, .pointer none, .pointer none, .pointer none, .pointer none, .pointer none, .pointer none] 70)).alloc (.cells #[.pointer none, .pointer none, .pointer none, .pointer none, .pointer none, .pointer none, .pointer none, .pointer none] 70) ∧
    Blk wa w.heap.size [.string k.t, .string k.p, .int .i64 k.r, .string k.c] 25 ∧ Blk wa (w.heap.size + 1) (foundL 0 [] 8) 70 ∧ Blk wa (w.heap.size + 1 + 1) (foundL 0 [] 8) 70 ∧ Below w.heap.size w wa ∧ wa.heap.size = w.heap.size + 1 + 1 + 1 := by
  refine ⟨_, rfl, ?_, ?_, ?_, ?_, by simp only [World.size_alloc]⟩
  · exact ((Blk.new w _ _).alloc _).alloc _
  · have := Blk.new (w.alloc (.cells #[.string k.t, .string k.p, .int .i64 k.r, .string k.c] 25)) (foundL 0 [] 8) 70
    rw [World.size_alloc] at this
    exact this.alloc _
  · have := Blk.new ((w.alloc (.cells #[.string k.t, .string k.p, .int .i64 k.r, .string k.c] 25)).alloc (.cells (foundL 0 [] 8).toArray 70)) (foundL 0 [] 8) 70
    rw [World.size_alloc, World.size_alloc] at this
    exact this
  · exact (((Below.refl _ _).alloc (Nat.le_refl _) _).alloc (by simp) _).alloc (by simp; omega) _
attribute [local irreducible] wpQuiet
set_option maxRecDepth 100000 in
set_option maxHeartbeats 4000000 in
theorem before_any (l hd : Nat) (k : Kb) (A R : List Tw) (w : World) (hl : w.cell? ⟨l, 0, none⟩ = some (.pointer (some ⟨hd, 0, none⟩))) (hT : Towers w hd (A ++ R)) (hA : ∀ t ∈ A, kc t.c.k.ky k.ky < 0) (hR : ∀ t ∈ R, 0 ≤ kc t.c.k.ky k.ky) :
    Calls Try.prog 28 #[.pointer (some ⟨l, 0, none⟩), k.v] w fun e w' => e = .returned (.agg (foundL hd A 0).toArray) ∧ Below w.heap.size w w' := by
  obtain ⟨wa, hwa, b0, b1, b2, hB, hsz⟩ := before_box w k
  have hla : wa.cell? ⟨l, 0, none⟩ = some (.pointer (some ⟨hd, 0, none⟩)) := by rw [hB.cell (World.block_lt_of_cell? _ _ hl)]; exact hl
  have hTa : Towers wa hd (A ++ R) := hT.below hB (Nat.le_refl _)
  obtain ⟨kt, kp, kr, kcc⟩ := k
  simp only [Kb.v] at hwa ⊢
  have HB : Hid (Below w.heap.size w wa) := hB
  have hlt : l < w.heap.size := World.block_lt_of_cell? _ _ hl
  have HT : Hid (Towers w hd (A ++ R)) := hT
  have HTa : Hid (Towers wa hd (A ++ R)) := hTa
  have HA : Hid (∀ t ∈ A, kc t.c.k.ky (Kb.ky ⟨kt, kp, kr, kcc⟩) < 0) := hA
  have HR : Hid (∀ t ∈ R, 0 ≤ kc t.c.k.ky (Kb.ky ⟨kt, kp, kr, kcc⟩)) := hR
  have hla2 := hla
  rw [hwa] at hla2
  clear hB hT hTa hA hR hsz
  go_enter Try.func28, Try.ntmps28
  go_wp2_with fail
  rw [← hwa]
  clear hwa hla2
  go_loopw [6, 7] (fun s6 s7 wr => ∃ (j tb : Nat) (X : List Tw), j ≤ 8 ∧ s6 = .pointer (some ⟨tb, 0, none⟩) ∧ s7 = .int .i64 ((j : Int) - 1) ∧ (∀ i, i + 1 = j → Stand wr i hd A R tb X) ∧ Blk wr (w.heap.size + 1 + 1) (foundL hd A j) 70 ∧ Below (w.heap.size + 1 + 1) wa wr) (fun _ s7 _ => (intOf s7 + 1).toNat)
  case atStart => exact ⟨8, hd, A, Nat.le_refl _, rfl, rfl, fun i hi => Stand.start HTa.out (by omega), b2, Below.refl _ _⟩
  case round =>
    obtain ⟨j, tb, X, hj, rfl, rfl, hS, hF, hbr⟩ := hrel
    rcases j with _ | i
    · -- all levels are done
      have b1r := b1.below hbr (by omega)
      have HBr : Hid (Below w.heap.size w wr) := HB.out.trans (hbr.mono (by omega))
      obtain ⟨z0, hz0⟩ : ∃ z, z = lastH 0 hd A := ⟨_, rfl⟩
      obtain ⟨z1, hz1⟩ : ∃ z, z = lastH 1 hd A := ⟨_, rfl⟩
      obtain ⟨z2, hz2⟩ : ∃ z, z = lastH 2 hd A := ⟨_, rfl⟩
      obtain ⟨z3, hz3⟩ : ∃ z, z = lastH 3 hd A := ⟨_, rfl⟩
      obtain ⟨z4, hz4⟩ : ∃ z, z = lastH 4 hd A := ⟨_, rfl⟩
      obtain ⟨z5, hz5⟩ : ∃ z, z = lastH 5 hd A := ⟨_, rfl⟩
      obtain ⟨z6, hz6⟩ : ∃ z, z = lastH 6 hd A := ⟨_, rfl⟩
      obtain ⟨z7, hz7⟩ : ∃ z, z = lastH 7 hd A := ⟨_, rfl⟩
      have d0 : wr.cell? ⟨w.heap.size + 1 + 1, 0, none⟩ = some (.pointer (some ⟨z0, 0, none⟩)) := by rw [hz0]; exact hF.cell 0 rfl
      have d1 : wr.cell? ⟨w.heap.size + 1 + 1, 1, none⟩ = some (.pointer (some ⟨z1, 0, none⟩)) := by rw [hz1]; exact hF.cell 1 rfl
      have d2 : wr.cell? ⟨w.heap.size + 1 + 1, 2, none⟩ = some (.pointer (some ⟨z2, 0, none⟩)) := by rw [hz2]; exact hF.cell 2 rfl
      have d3 : wr.cell? ⟨w.heap.size + 1 + 1, 3, none⟩ = some (.pointer (some ⟨z3, 0, none⟩)) := by rw [hz3]; exact hF.cell 3 rfl
      have d4 : wr.cell? ⟨w.heap.size + 1 + 1, 4, none⟩ = some (.pointer (some ⟨z4, 0, none⟩)) := by rw [hz4]; exact hF.cell 4 rfl
      have d5 : wr.cell? ⟨w.heap.size + 1 + 1, 5, none⟩ = some (.pointer (some ⟨z5, 0, none⟩)) := by rw [hz5]; exact hF.cell 5 rfl
      have d6 : wr.cell? ⟨w.heap.size + 1 + 1, 6, none⟩ = some (.pointer (some ⟨z6, 0, none⟩)) := by rw [hz6]; exact hF.cell 6 rfl
      have d7 : wr.cell? ⟨w.heap.size + 1 + 1, 7, none⟩ = some (.pointer (some ⟨z7, 0, none⟩)) := by rw [hz7]; exact hF.cell 7 rfl
      have e0 : wr.cell? ⟨w.heap.size + 1, 0, none⟩ = some (.pointer none) := b1r.cell 0 rfl
      have e1 : wr.cell? ⟨w.heap.size + 1, 1, none⟩ = some (.pointer none) := b1r.cell 1 rfl
      have e2 : wr.cell? ⟨w.heap.size + 1, 2, none⟩ = some (.pointer none) := b1r.cell 2 rfl
      have e3 : wr.cell? ⟨w.heap.size + 1, 3, none⟩ = some (.pointer none) := b1r.cell 3 rfl
      have e4 : wr.cell? ⟨w.heap.size + 1, 4, none⟩ = some (.pointer none) := b1r.cell 4 rfl
      have e5 : wr.cell? ⟨w.heap.size + 1, 5, none⟩ = some (.pointer none) := b1r.cell 5 rfl
      have e6 : wr.cell? ⟨w.heap.size + 1, 6, none⟩ = some (.pointer none) := b1r.cell 6 rfl
      have e7 : wr.cell? ⟨w.heap.size + 1, 7, none⟩ = some (.pointer none) := b1r.cell 7 rfl
      have f0 : wr.frozen? ⟨w.heap.size + 1, 0, none⟩ = false := b1r.frozen 0
      have f1 : wr.frozen? ⟨w.heap.size + 1, 1, none⟩ = false := b1r.frozen 1
      have f2 : wr.frozen? ⟨w.heap.size + 1, 2, none⟩ = false := b1r.frozen 2
      have f3 : wr.frozen? ⟨w.heap.size + 1, 3, none⟩ = false := b1r.frozen 3
      have f4 : wr.frozen? ⟨w.heap.size + 1, 4, none⟩ = false := b1r.frozen 4
      have f5 : wr.frozen? ⟨w.heap.size + 1, 5, none⟩ = false := b1r.frozen 5
      have f6 : wr.frozen? ⟨w.heap.size + 1, 6, none⟩ = false := b1r.frozen 6
      have f7 : wr.frozen? ⟨w.heap.size + 1, 7, none⟩ = false := b1r.frozen 7
      have HS : Hid (∀ v0 v1 v2 v3 v4 v5 v6 v7 : Value, Blk ((((((((wr.setCell ⟨w.heap.size + 1, 0, none⟩ v0).setCell ⟨w.heap.size + 1, 1, none⟩ v1).setCell ⟨w.heap.size + 1, 2, none⟩ v2).setCell ⟨w.heap.size + 1, 3, none⟩ v3).setCell ⟨w.heap.size + 1, 4, none⟩ v4).setCell ⟨w.heap.size + 1, 5, none⟩ v5).setCell ⟨w.heap.size + 1, 6, none⟩ v6).setCell ⟨w.heap.size + 1, 7, none⟩ v7) (w.heap.size + 1) [v0, v1, v2, v3, v4, v5, v6, v7] 70 ∧ Below w.heap.size w ((((((((wr.setCell ⟨w.heap.size + 1, 0, none⟩ v0).setCell ⟨w.heap.size + 1, 1, none⟩ v1).setCell ⟨w.heap.size + 1, 2, none⟩ v2).setCell ⟨w.heap.size + 1, 3, none⟩ v3).setCell ⟨w.heap.size + 1, 4, none⟩ v4).setCell ⟨w.heap.size + 1, 5, none⟩ v5).setCell ⟨w.heap.size + 1, 6, none⟩ v6).setCell ⟨w.heap.size + 1, 7, none⟩ v7)) := fun v0 v1 v2 v3 v4 v5 v6 v7 => ⟨(((((((b1r.set 0 v0).set 1 v1).set 2 v2).set 3 v3).set 4 v4).set 5 v5).set 6 v6).set 7 v7, (below6 HBr.out (by omega) v0 v1 v2 v3 v4 v5).setCell (p := ⟨w.heap.size + 1, 6, none⟩) (Nat.le_succ _) v6 |>.setCell (p := ⟨w.heap.size + 1, 7, none⟩) (Nat.le_succ _) v7⟩
      have HE : Hid ((foundL hd A 0).toArray = #[.pointer (some ⟨z0, 0, none⟩), .pointer (some ⟨z1, 0, none⟩), .pointer (some ⟨z2, 0, none⟩), .pointer (some ⟨z3, 0, none⟩), .pointer (some ⟨z4, 0, none⟩), .pointer (some ⟨z5, 0, none⟩), .pointer (some ⟨z6, 0, none⟩), .pointer (some ⟨z7, 0, none⟩)]) := by rw [hz0, hz1, hz2, hz3, hz4, hz5, hz6, hz7]; rfl
      clear hF hS hbr b1r HBr hz0 hz1 hz2 hz3 hz4 hz5 hz6 hz7
      have hlev : ¬ (0 : Int) ≤ ((0 : Nat) : Int) - 1 := by omega
      go_wp2_with fail
      refine bodyPost_ret (v := .agg #[.pointer (some ⟨z0, 0, none⟩), .pointer (some ⟨z1, 0, none⟩), .pointer (some ⟨z2, 0, none⟩), .pointer (some ⟨z3, 0, none⟩), .pointer (some ⟨z4, 0, none⟩), .pointer (some ⟨z5, 0, none⟩), .pointer (some ⟨z6, 0, none⟩), .pointer (some ⟨z7, 0, none⟩)]) (results_cell_row Try.results28 _ _ (w.heap.size + 1) 70 _ _ _ rfl (HS.out _ _ _ _ _ _ _ _).1 Try.underlying70 rfl (by kernel_rfl)) rfl ?_
      exact ⟨by rw [HE.out], (HS.out _ _ _ _ _ _ _ _).2⟩
    · have hi : i < 8 := by omega
      have hS' := hS i rfl
      have ei : ((i + 1 : Nat) : Int) - 1 = (i : Int) := by omega
      rw [ei]
      have hiz : (i : Int) < 8 := by omega
      obtain ⟨c0, hv0, h0, hh0, t0⟩ := hS'.ht
      have n0 := t0.next hi hh0
      have HSt : Hid (Stand wr i hd A R tb X) := hS'
      have HFi : Hid (Blk wr (w.heap.size + 1 + 1) (foundL hd A (i + 1)) 70) := hF
      have HBr : Hid (Below (w.heap.size + 1 + 1) wa wr) := hbr
      clear hS hS' ei hF hbr t0 hh0 hj hla b1
      go_wp2_with fail
      go_loopw [6, 8] (fun s6 s8 wj => ∃ (tb : Nat) (X : List Tw), s6 = .pointer (some ⟨tb, 0, none⟩) ∧ s8 = pt (firstH i (X ++ R)) ∧ Stand wj i hd A R tb X ∧ Blk wj (w.heap.size + 1 + 1) (foundL hd A (i + 1)) 70 ∧ Below (w.heap.size + 1 + 1) wa wj) (fun s6 _ _ => (A ++ R).length - idxV hd (A ++ R) s6)
      case atStart => exact ⟨tb, X, rfl, rfl, HSt.out, HFi.out, HBr.out⟩
      case round =>
        clear HSt HFi HBr n0
        obtain ⟨tb, X, rfl, rfl, hSj, hFj, hBj⟩ := hrel
        generalize wr = wj at *
        have hTj : Towers wj hd (A ++ R) := HT.out.below (HB.out.trans (hBj.mono (by omega))) (Nat.le_refl _)
        have kb : Blk wj w.heap.size [.string kt, .string kp, .int .i64 kr, .string kcc] 25 := b0.below hBj (by omega)
        have HSj : Hid (Stand wj i hd A R tb X) := hSj
        have HFj : Hid (Blk wj (w.heap.size + 1 + 1) (foundL hd A (i + 1)) 70) := hFj
        have HBj : Hid (Below (w.heap.size + 1 + 1) wa wj) := hBj
        have HTj : Hid (Towers wj hd (A ++ R)) := hTj
        have HLT : Hid (w.heap.size + 1 + 1 ≤ wj.heap.size) := Nat.le_of_lt hFj.lt
        have HNE : Hid (tb ≠ w.heap.size + 1 + 1) := by
          obtain ⟨L, hL⟩ := hSj.pos
          have hm : tb ∈ hd :: (A ++ R).map Tw.g := by rw [hL]; simp
          have hlt2 : tb < w.heap.size := by
            rcases List.mem_cons.1 hm with rfl | hm
            · exact HT.out.head.lt
            · obtain ⟨t, ht, rfl⟩ := List.mem_map.1 hm
              exact HT.out.chain.lt t ht
          have hne : tb ≠ w.heap.size + 1 + 1 := by omega
          exact hne
        clear hFj hBj
        haveI := Cl.inh wj.heap.size wj
        rcases firstH_part i X with hX | ⟨X1, t, Y, hXY, hX1, hti⟩
        · have hlast : lastH i hd A = tb := by rw [hSj.last i (Nat.le_refl _), lastH_skip _ hX]
          have HLast : Hid (lastH i hd A = tb) := hlast
          rw [firstH_skip R hX]
          clear hX hSj hlast
          rcases firstH_part i R with hR2 | ⟨R1, t, R2, hRR, hR1, hti⟩
          · have e0 : firstH i R = none := by have := firstH_skip (l := i) [] hR2; rw [List.append_nil] at this; exact this
            rw [e0, pt_none]
            clear hTj kb hR2 e0
            go_wp2_with fail
            refine wp_region_cl wj.heap.size (by kernel_rfl) (by kernel_rfl) ?_
            quiet_step (fail)
            quiet_step (fail)
            quiet_step (fail)
            quiet_step (fail)
            quiet_step (fail)
            quiet_step (fail)
            quiet_step (fail)
            quiet_step (fail)
            quiet_step (fail)
            quiet_step (fail)
            quiet_step (fail)
            quiet_step (fail)
            refine wpQuiet_nil ?_
            rintro w0 ⟨z, rfl⟩
            have hFz := HFj.out.below z.h HFj.out.lt
            have hBz : Below (w.heap.size + 1 + 1) wa z.u := HBj.out.trans (z.h.mono HLT.out)
            have fz := hFz.frozen i
            obtain ⟨v0, hv0⟩ := foundL_at hd A (i + 1) hi
            have cz := hFz.cell i hv0
            have HFz : Hid (Blk (z.u.setCell ⟨w.heap.size + 1 + 1, i, none⟩ (.pointer (some ⟨tb, 0, none⟩))) (w.heap.size + 1 + 1) (foundL hd A i) 70 ∧ Below (w.heap.size + 1 + 1) wa (z.u.setCell ⟨w.heap.size + 1 + 1, i, none⟩ (.pointer (some ⟨tb, 0, none⟩))) ∧ ∀ i', i' + 1 = i → Stand (z.u.setCell ⟨w.heap.size + 1 + 1, i, none⟩ (.pointer (some ⟨tb, 0, none⟩))) i' hd A R tb X) := by
              refine ⟨hFz.setTo i _ _ ?_, hBz.setCell (p := ⟨w.heap.size + 1 + 1, i, none⟩) (Nat.le_refl _) _, ?_⟩
              · rw [← foundL_set hd A hi, HLast.out]; rfl
              · rintro i' rfl
                refine HSj.out.down.carry ?_
                have hne : tb ≠ w.heap.size + 1 + 1 := HNE.out
                exact (Below.heap_setCell _ _ _ _ hne).trans (z.h.block _ HSj.out.lt)
            clear hFz hBz hv0
            go_wp2_with fail
            go_roundw
            case rel => exact ⟨i, tb, X, by omega, rfl, by go_num, HFz.out.2.2, HFz.out.1, HFz.out.2.1⟩
            case measure => simp [intOf]
          · have tt := (HTj.out.chain.tail (R := R)) 
            rw [hRR] at tt
            have tt := tt.at.ten
            have hk : 0 ≤ kc t.c.k.ky (Kb.ky ⟨kt, kp, kr, kcc⟩) := HR.out t (by rw [hRR]; simp)
            rw [hRR, firstH_hit R2 hR1 hti, pt_some]
            have C : Hid (∀ w : World, Calls Try.prog 38 #[t.c.k.v, Kb.v ⟨kt, kp, kr, kcc⟩] w fun x w' => x = .returned (.int .i64 (kc t.c.k.ky (Kb.ky ⟨kt, kp, kr, kcc⟩))) ∧ Below w.heap.size w w') := fun w => cmp_any _ _ w
            generalize kc t.c.k.ky (Kb.ky ⟨kt, kp, kr, kcc⟩) = K at *
            obtain ⟨⟨⟨ta, tp, tr, tc⟩, tv⟩, htc⟩ : ∃ c, c = t.c := ⟨_, rfl⟩
            rw [← htc] at C tt
            simp only [Kb.v] at C
            have q0 : ∀ z : Cl wj.heap.size wj, z.u.cell? ⟨t.g, 0, none⟩ = some (.string ta) := fun z => (tt.below z.h tt.lt).c0
            have q1 : ∀ z : Cl wj.heap.size wj, z.u.cell? ⟨t.g, 1, none⟩ = some (.string tp) := fun z => (tt.below z.h tt.lt).c1
            have q2 : ∀ z : Cl wj.heap.size wj, z.u.cell? ⟨t.g, 2, none⟩ = some (.int .i64 tr) := fun z => (tt.below z.h tt.lt).c2
            have q3 : ∀ z : Cl wj.heap.size wj, z.u.cell? ⟨t.g, 3, none⟩ = some (.string tc) := fun z => (tt.below z.h tt.lt).c3
            have r0 : ∀ z : Cl wj.heap.size wj, z.u.cell? ⟨w.heap.size, 0, none⟩ = some (.string kt) := fun z => (kb.below z.h kb.lt).cell 0 rfl
            have r1 : ∀ z : Cl wj.heap.size wj, z.u.cell? ⟨w.heap.size, 1, none⟩ = some (.string kp) := fun z => (kb.below z.h kb.lt).cell 1 rfl
            have r2 : ∀ z : Cl wj.heap.size wj, z.u.cell? ⟨w.heap.size, 2, none⟩ = some (.int .i64 kr) := fun z => (kb.below z.h kb.lt).cell 2 rfl
            have r3 : ∀ z : Cl wj.heap.size wj, z.u.cell? ⟨w.heap.size, 3, none⟩ = some (.string kcc) := fun z => (kb.below z.h kb.lt).cell 3 rfl
            have hKd : decide (K < 0) = false := decide_eq_false (by omega)
            clear hTj kb tt hk htc hRR hR1 hti
            go_wp2_with fail
            refine wp_region_cl wj.heap.size (by kernel_rfl) (by kernel_rfl) ?_
            quiet_step (fail)
            quiet_step (fail)
            quiet_step (fail)
            quiet_step (fail)
            quiet_step (fail)
            quiet_step (fail)
            quiet_step (fail)
            quiet_step (fail)
            quiet_step (fail)
            quiet_step ((go_at_call 38; exact Cl.calls (Nat.le_refl _) (C.out _)))
            quiet_step (fail)
            quiet_step (fail)
            clear q0 q1 q2 q3 r0 r1 r2 r3
            refine wpQuiet_nil ?_
            rintro w0 ⟨z, rfl⟩
            have hFz := HFj.out.below z.h HFj.out.lt
            have hBz : Below (w.heap.size + 1 + 1) wa z.u := HBj.out.trans (z.h.mono HLT.out)
            have fz := hFz.frozen i
            obtain ⟨v0, hv0⟩ := foundL_at hd A (i + 1) hi
            have cz := hFz.cell i hv0
            have HFz : Hid (Blk (z.u.setCell ⟨w.heap.size + 1 + 1, i, none⟩ (.pointer (some ⟨tb, 0, none⟩))) (w.heap.size + 1 + 1) (foundL hd A i) 70 ∧ Below (w.heap.size + 1 + 1) wa (z.u.setCell ⟨w.heap.size + 1 + 1, i, none⟩ (.pointer (some ⟨tb, 0, none⟩))) ∧ ∀ i', i' + 1 = i → Stand (z.u.setCell ⟨w.heap.size + 1 + 1, i, none⟩ (.pointer (some ⟨tb, 0, none⟩))) i' hd A R tb X) := by
              refine ⟨hFz.setTo i _ _ ?_, hBz.setCell (p := ⟨w.heap.size + 1 + 1, i, none⟩) (Nat.le_refl _) _, ?_⟩
              · rw [← foundL_set hd A hi, HLast.out]; rfl
              · rintro i' rfl
                refine HSj.out.down.carry ?_
                have hne : tb ≠ w.heap.size + 1 + 1 := HNE.out
                exact (Below.heap_setCell _ _ _ _ hne).trans (z.h.block _ HSj.out.lt)
            clear hFz hBz hv0
            go_wp2_with fail
            go_roundw
            case rel => exact ⟨i, tb, X, by omega, rfl, by go_num, HFz.out.2.2, HFz.out.1, HFz.out.2.1⟩
            case measure => simp [intOf]
        · have hmem : t ∈ A := by obtain ⟨Z, hZ⟩ := hSj.sub; rw [hZ, hXY]; simp
          have hk : kc t.c.k.ky (Kb.ky ⟨kt, kp, kr, kcc⟩) < 0 := HA.out t hmem
          have hSn : Stand wj i hd A R t.g Y := (hXY ▸ hSj : Stand wj i hd A R tb (X1 ++ t :: Y)).step hTj hti
          have HM : Hid (idxV hd (A ++ R) (.pointer (some ⟨tb, 0, none⟩)) < idxV hd (A ++ R) (.pointer (some ⟨t.g, 0, none⟩)) ∧ idxV hd (A ++ R) (.pointer (some ⟨t.g, 0, none⟩)) ≤ (A ++ R).length) := by
            have m1 := hSj.idx hTj
            have m2 := hSn.idx hTj
            rw [hXY] at m1
            have hm : idxV hd (A ++ R) (.pointer (some ⟨tb, 0, none⟩)) < idxV hd (A ++ R) (.pointer (some ⟨t.g, 0, none⟩)) ∧ idxV hd (A ++ R) (.pointer (some ⟨t.g, 0, none⟩)) ≤ (A ++ R).length := by
              simp only [List.length_append, List.length_cons] at m1 m2 ⊢
              omega
            exact hm
          obtain ⟨c1, hv1, h1, hh1, t1⟩ := hSn.ht
          have tt : TenX wj t.g 0 t.c := by
            have hc := hTj.chain
            obtain ⟨Z, hZ⟩ := hSj.sub
            rw [hZ, hXY] at hc
            have e : Z ++ (X1 ++ t :: Y) ++ R = (Z ++ X1) ++ t :: (Y ++ R) := by simp
            rw [e] at hc
            exact hc.at.ten
          rw [hXY, show X1 ++ t :: Y ++ R = X1 ++ t :: (Y ++ R) by simp, firstH_hit (Y ++ R) hX1 hti, pt_some]
          have HSn : Hid (Stand wj i hd A R t.g Y) := hSn
          have C : Hid (∀ w : World, Calls Try.prog 38 #[t.c.k.v, Kb.v ⟨kt, kp, kr, kcc⟩] w fun x w' => x = .returned (.int .i64 (kc t.c.k.ky (Kb.ky ⟨kt, kp, kr, kcc⟩))) ∧ Below w.heap.size w w') := fun w => cmp_any _ _ w
          generalize kc t.c.k.ky (Kb.ky ⟨kt, kp, kr, kcc⟩) = K at *
          obtain ⟨⟨⟨ta, tp, tr, tc⟩, tv⟩, htc⟩ : ∃ c, c = t.c := ⟨_, rfl⟩
          rw [← htc] at C tt
          simp only [Kb.v] at C
          have q0 : ∀ z : Cl wj.heap.size wj, z.u.cell? ⟨t.g, 0, none⟩ = some (.string ta) := fun z => (tt.below z.h tt.lt).c0
          have q1 : ∀ z : Cl wj.heap.size wj, z.u.cell? ⟨t.g, 1, none⟩ = some (.string tp) := fun z => (tt.below z.h tt.lt).c1
          have q2 : ∀ z : Cl wj.heap.size wj, z.u.cell? ⟨t.g, 2, none⟩ = some (.int .i64 tr) := fun z => (tt.below z.h tt.lt).c2
          have q3 : ∀ z : Cl wj.heap.size wj, z.u.cell? ⟨t.g, 3, none⟩ = some (.string tc) := fun z => (tt.below z.h tt.lt).c3
          have r0 : ∀ z : Cl wj.heap.size wj, z.u.cell? ⟨w.heap.size, 0, none⟩ = some (.string kt) := fun z => (kb.below z.h kb.lt).cell 0 rfl
          have r1 : ∀ z : Cl wj.heap.size wj, z.u.cell? ⟨w.heap.size, 1, none⟩ = some (.string kp) := fun z => (kb.below z.h kb.lt).cell 1 rfl
          have r2 : ∀ z : Cl wj.heap.size wj, z.u.cell? ⟨w.heap.size, 2, none⟩ = some (.int .i64 kr) := fun z => (kb.below z.h kb.lt).cell 2 rfl
          have r3 : ∀ z : Cl wj.heap.size wj, z.u.cell? ⟨w.heap.size, 3, none⟩ = some (.string kcc) := fun z => (kb.below z.h kb.lt).cell 3 rfl
          have hKd : decide (K < 0) = true := decide_eq_true hk
          have nx : ∀ z : Cl wj.heap.size wj, z.u.cell? ⟨t.g, 11 + i, none⟩ = some (pt (firstH i (Y ++ R))) := fun z => (t1.carry (z.h.block _ t1.lt)).next hi hh1
          clear hTj kb tt hk htc hXY hX1 hti hSj hSn t1 hh1
          go_wp2_with fail
          refine wp_region_cl wj.heap.size (by kernel_rfl) (by kernel_rfl) ?_
          quiet_step (fail)
          quiet_step (fail)
          quiet_step (fail)
          quiet_step (fail)
          quiet_step (fail)
          quiet_step (fail)
          quiet_step (fail)
          quiet_step (fail)
          quiet_step (fail)
          quiet_step ((go_at_call 38; exact Cl.calls (Nat.le_refl _) (C.out _)))
          quiet_step (fail)
          quiet_step (fail)
          refine wpQuiet_nil ?_
          rintro w0 ⟨z, rfl⟩
          have nz := nx z
          have HZ : Hid (Stand z.u i hd A R t.g Y ∧ Blk z.u (w.heap.size + 1 + 1) (foundL hd A (i + 1)) 70 ∧ Below (w.heap.size + 1 + 1) wa z.u) := ⟨HSn.out.carry (z.h.block _ HSn.out.lt), HFj.out.below z.h HFj.out.lt, HBj.out.trans (z.h.mono HLT.out)⟩
          clear q0 q1 q2 q3 r0 r1 r2 r3 nx
          go_wp2_with fail
          go_roundw
          case rel => exact ⟨t.g, Y, rfl, rfl, HZ.out.1, HZ.out.2.1, HZ.out.2.2⟩
          case measure => have := HM.out; omega
end Go.Proofs.Ytlhojbgpmjcjlaa

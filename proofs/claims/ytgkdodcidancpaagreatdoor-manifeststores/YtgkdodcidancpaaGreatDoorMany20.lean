/-
  SEVERAL TEXTS IN ONE: ManStoreR, ManPlan, DskApartP.
-/
import Derived.Test.YtgkdodcidancpaaGreatDoorMany17
import Derived.Test.YtgkdodcidancpaaGreatDoorMany18
import Derived.Test.YtgkdodcidancpaaGreatDoorMany19
namespace Go.Proofs.YtgkdodcidancpaaGreatDoor
open Go.RowKit Go.Maps

/-- The disk is one of these, and nothing else was written. -/
def Res (T : Ab → Prop) (d : Nat) (u : World) (f : List Nat) (u' : World) : Prop := ∃ A f', T A ∧ At d A f' u' ∧ Moved u u' f f'
theorem Res.after {T : Ab → Prop} {d : Nat} {u u1 u' : World} {f f1 : List Nat} (hm : Moved u u1 f f1) (h : Res T d u1 f1 u') : Res T d u f u' := by
  obtain ⟨A, f', h1, h2, h3⟩ := h
  exact ⟨A, f', h1, h2, hm.trans h3⟩
/-- What lies ready once the bytes are there. -/
structure P5 (w : World) (b3 : Nat) (E : List UInt8) (d : Nat) (w5 : World) (ge : Nat) (ty : TypeId) : Prop where
  bel : Below w.heap.size w w5
  k2 : Blk w5 w.heap.size [.pointer (some ⟨d, 0, none⟩)] 26
  k5 : Blk w5 (w.heap.size + 2) [.slice (some ⟨ge, 0, none⟩) E.length E.length] 58
  kg : Blk w5 (w.heap.size + 3) (stepsV w.heap.size b3 (w.heap.size + 2)) ty
  row : Row w5 ge E
  ge : w.heap.size ≤ ge
theorem moved_blk {w5 u : World} {ft f : List Nat} {i : Nat} {cs : List Value} {t : TypeId} (hm : Moved w5 u ft f) (hi : i ∉ ft) (h : Blk w5 i cs t) : Blk u i cs t := h.carry (hm.kept i h.lt hi)
set_option maxRecDepth 100000 in
set_option maxHeartbeats 2000000 in
theorem storeM_run {d : Nat} {A : Ab} {ft : List Nat} {w : World} (hA : At d A ft w) (hon : A.on = true) (ao : Option Addr) (cap : Nat) (m : Mf) (hm : MSees w ao cap m) (hcp : cap ≤ 9223372036854775807) (ht : Tab w) (hg : goodM m = true) (T1 T2 T3 T4 : Ab → Prop) (G : Int → Ab → Prop)
    (H3 : ∀ u f, At d A f u → Calls Tryz.prog 27 #[.pointer (some ⟨d, 0, none⟩), .string nmN] u (Upon (Res T1 d u f) (fun x => Res (G x) d u f)))
    (H4 : ∀ A1, T1 A1 → ∀ u f a, At d A1 f u → Sees u (some ⟨a, 0, none⟩) (encM m) → a ∉ f → Calls Tryz.prog 29 #[.pointer (some ⟨d, 0, none⟩), .string nmN, .slice (some ⟨a, 0, none⟩) (encM m).length (encM m).length] u (Upon (Res T2 d u f) (fun x => Res (G x) d u f)))
    (H5 : ∀ A2, T2 A2 → ∀ u f, At d A2 f u → Calls Tryz.prog 31 #[.pointer (some ⟨d, 0, none⟩), .string nmN] u (Upon (Res T3 d u f) (fun x => Res (G x) d u f)))
    (H6 : ∀ A3, T3 A3 → ∀ u f, At d A3 f u → Calls Tryz.prog 33 #[.pointer (some ⟨d, 0, none⟩), .string nmN, .string nmM] u (Upon (Res T4 d u f) (fun x => Res (G x) d u f))) :
    Calls Tryz.prog 9 #[.pointer (some ⟨d, 0, none⟩), mval ao cap m] w (Upon (Res T4 d w ft) (fun x => Res (G x) d w ft)) := by
  have hft := hA.lt
  obtain ⟨w3, hw3⟩ : ∃ w3, w3 = ((w.alloc (.cells #[.pointer (some ⟨d, 0, none⟩)] 26)).alloc (.cells #[.slice ao m.ts.length cap, .int .i64 m.nx, .int .i64 m.fr] 36)).alloc (.cells #[.slice none 0 0] 58) := ⟨_, rfl⟩
  have b1 := Blk.new w [.pointer (some ⟨d, 0, none⟩)] 26
  have b2 := Blk.new (w.alloc (.cells #[.pointer (some ⟨d, 0, none⟩)] 26)) [.slice ao m.ts.length cap, .int .i64 m.nx, .int .i64 m.fr] 36
  have b3 := Blk.new ((w.alloc (.cells #[.pointer (some ⟨d, 0, none⟩)] 26)).alloc (.cells #[.slice ao m.ts.length cap, .int .i64 m.nx, .int .i64 m.fr] 36)) [.slice none 0 0] 58
  rw [World.size_alloc] at b2
  rw [World.size_alloc, World.size_alloc] at b3
  have k1 : Blk w3 w.heap.size [.pointer (some ⟨d, 0, none⟩)] 26 := by rw [hw3]; exact (b1.alloc _).alloc _
  have k2 : Blk w3 (w.heap.size + 1) [.slice ao m.ts.length cap, .int .i64 m.nx, .int .i64 m.fr] 36 := by rw [hw3]; exact b2.alloc _
  have k3 : Blk w3 (w.heap.size + 2) [.slice none 0 0] 58 := by rw [hw3]; exact b3
  have hs3 : w3.heap.size = w.heap.size + 3 := by rw [hw3]; simp
  have hB3 : Below w.heap.size w w3 := by
    rw [hw3]
    exact (((Below.refl _ _).alloc (Nat.le_refl _) _).alloc (by simp) _).alloc (by simp; omega) _
  clear b1 b2 b3
  have k4 : Blk (w3.alloc (.cells (stepsV w.heap.size (w.heap.size + 1) (w.heap.size + 2)).toArray 65)) (w.heap.size + 3) (stepsV w.heap.size (w.heap.size + 1) (w.heap.size + 2)) 65 := by
    have := Blk.new w3 (stepsV w.heap.size (w.heap.size + 1) (w.heap.size + 2)) 65
    rw [hs3] at this; exact this
  have hB4 : Below w.heap.size w (w3.alloc (.cells (stepsV w.heap.size (w.heap.size + 1) (w.heap.size + 2)).toArray 65)) := hB3.alloc hB3.size _
  have kk1 := k1.alloc (.cells (stepsV w.heap.size (w.heap.size + 1) (w.heap.size + 2)).toArray 65)
  have kk2 := k2.alloc (.cells (stepsV w.heap.size (w.heap.size + 1) (w.heap.size + 2)).toArray 65)
  have kk3 := k3.alloc (.cells (stepsV w.heap.size (w.heap.size + 1) (w.heap.size + 2)).toArray 65)
  obtain ⟨w4, hw4⟩ : ∃ w4, w4 = w3.alloc (.cells (stepsV w.heap.size (w.heap.size + 1) (w.heap.size + 2)).toArray 65) := ⟨_, rfl⟩
  rw [← hw4] at k4 hB4 kk1 kk2 kk3
  have hs4 : w4.heap.size = w.heap.size + 4 := by rw [hw4, World.size_alloc, hs3]
  have hA4 : At d A ft w4 := hA.moved (moved_belowM (ft := []) hB4) (by simp)
  have hnf : ∀ i, w.heap.size ≤ i → i ∉ ft := fun i hi h => by have := hft i h; omega
  -- the steps
  have CT : Calls Tryz.prog 22 #[.slice (some ⟨w.heap.size + 3, 0, none⟩) 6 6] w4 (Upon (Res T4 d w ft) (fun x => Res (G x) d w ft)) := by
    have key : ∀ (T : Ab → Prop) u, (∃ w5 ge, P5 w (w.heap.size + 1) (encM m) d w5 ge 65 ∧ Res T d w5 ft u) → Res T d w ft u := fun T u ⟨w5, ge, hp, hr⟩ => hr.after (moved_belowM hp.bel)
    refine (inTurn_six (w.heap.size + 3) w.heap.size (w.heap.size + 1) (w.heap.size + 2) (fun k u => match k with
      | 0 => u = w4
      | 1 => w4.grownBy u none
      | k + 2 => ∃ w5 ge, P5 w (w.heap.size + 1) (encM m) d w5 ge 65 ∧ Res (match k with | 0 => fun A' => A' = A | 1 => T1 | 2 => T2 | 3 => T3 | _ => T4) d w5 ft u) (fun x => Res (G x) d w ft) w4 rfl 65 ?_ ?_ ?_ ?_ ?_ ?_ ?_).mono ?_
    · intro k u hk hR
      match k, hR with
      | 0, hR => cases hR; exact k4
      | 1, hR => exact k4.carry (World.grownBy.block hR _ k4.lt (by simp))
      | k + 2, ⟨w5, ge, hp, A', f', _, _, hm'⟩ => exact moved_blk hm' (hnf _ (by omega)) hp.kg
    · rintro u rfl
      refine (step1 hA4 hon kk1).mono ?_
      rintro e u' ⟨rfl, hg'⟩
      exact ⟨0, rfl, .inl ⟨rfl, hg'⟩⟩
    · intro u hu
      have hu' : w4.grownBy u none := hu
      have hBu : Below w.heap.size w u := hB4.trans (((Below.refl _ _).grown hu' (Nat.le_refl _) (fun k hk => by cases hk)).mono hB4.size)
      refine (step2_ok (w.heap.size + 1) (w.heap.size + 2) ao cap m u (hm.below hBu (Nat.le_refl _)) hcp (ht.below hBu (Nat.le_refl _)) hg (kk2.carry (hu'.block _ kk2.lt (by simp))) (kk3.carry (hu'.block _ kk3.lt (by simp)))).mono ?_
      rintro e u' ⟨rfl, ge, hge, hr, h5, hg'⟩
      have hus := hu'.size
      refine ⟨0, rfl, .inl ⟨rfl, u', ge, ⟨hBu.grown hg' hBu.size (fun k hk => by cases hk; omega), (kk1.carry (hu'.block _ kk1.lt (by simp))).carry (hg'.block _ (by have := kk1.lt; omega) (by simp)), h5, (k4.carry (hu'.block _ k4.lt (by simp))).carry (hg'.block _ (by have := k4.lt; omega) (by simp)), hr, by omega⟩, A, ft, rfl, ?_, ?_⟩⟩
      · refine (hA4.grown hu').moved (a := [w.heap.size + 2]) (b := [w.heap.size + 2]) ⟨hg'.os, hg'.tape, hg'.output, hg'.size, fun i hi hne => hg'.block i hi (fun e => hne (by cases e; simp)), fun _ h => .inl h⟩ (fun i hi h => ?_)
        rw [List.mem_singleton] at h
        subst h
        exact hnf _ (by omega) hi
      · exact moved_belowM (Below.refl _ _)
    · rintro u ⟨w5, ge, hp, A', f', hA', hat, hmv⟩
      have hA'' : A' = A := hA'
      subst hA''
      refine step_disk ((moved_blk hmv (hnf _ (Nat.le_refl _)) hp.k2).cell 0 rfl) ((H3 u f' hat).mono ?_)
      rintro e u' ⟨x, rfl, hx⟩
      exact ⟨x, rfl, hx.imp (fun h => ⟨h.1, w5, ge, hp, h.2.after hmv⟩) (fun h => ⟨h.1, (h.2.after hmv).after (moved_belowM hp.bel)⟩)⟩
    · rintro u ⟨w5, ge, hp, A1, f', hA1, hat, hmv⟩
      have hrow : Row u ge (encM m) := (hmv.kept ge hp.row.lt (hnf _ hp.ge)).trans hp.row
      have hsee : Sees u (some ⟨ge, 0, none⟩) (encM m) := by have := hrow.sees 0 (encM m).length (by omega); simpa using this
      have hng : ge ∉ f' := fun h => by
        rcases hmv.news ge h with h | h
        · exact hnf _ hp.ge h
        · have := hp.row.lt; omega
      refine step_append ((moved_blk hmv (hnf _ (Nat.le_refl _)) hp.k2).cell 0 rfl) ((moved_blk hmv (hnf _ (by omega)) hp.k5).cell 0 rfl) ((H4 A1 hA1 u f' ge hat hsee hng).mono ?_)
      rintro e u' ⟨x, rfl, hx⟩
      exact ⟨x, rfl, hx.imp (fun h => ⟨h.1, w5, ge, hp, h.2.after hmv⟩) (fun h => ⟨h.1, (h.2.after hmv).after (moved_belowM hp.bel)⟩)⟩
    · rintro u ⟨w5, ge, hp, A1, f', hA1, hat, hmv⟩
      refine step_sync ((moved_blk hmv (hnf _ (Nat.le_refl _)) hp.k2).cell 0 rfl) ((H5 A1 hA1 u f' hat).mono ?_)
      rintro e u' ⟨x, rfl, hx⟩
      exact ⟨x, rfl, hx.imp (fun h => ⟨h.1, w5, ge, hp, h.2.after hmv⟩) (fun h => ⟨h.1, (h.2.after hmv).after (moved_belowM hp.bel)⟩)⟩
    · rintro u ⟨w5, ge, hp, A1, f', hA1, hat, hmv⟩
      refine step_rename ((moved_blk hmv (hnf _ (Nat.le_refl _)) hp.k2).cell 0 rfl) ((H6 A1 hA1 u f' hat).mono ?_)
      rintro e u' ⟨x, rfl, hx⟩
      exact ⟨x, rfl, hx.imp (fun h => ⟨h.1, w5, ge, hp, h.2.after hmv⟩) (fun h => ⟨h.1, (h.2.after hmv).after (moved_belowM hp.bel)⟩)⟩
    · rintro e u' ⟨x, rfl, hx⟩
      exact ⟨x, rfl, hx.imp (fun h => ⟨h.1, key T4 u' h.2⟩) id⟩
  have hmf : ∀ (fn : Fn) (first cap : Array Value) (w : World), (Instr.makeFunc fn first cap).run Tryz.prog w = .ok (.func fn first cap) w := fun _ _ _ _ => rfl
  rw [hw4, hw3] at CT
  clear hA hon hm hcp ht hg H3 H4 H5 H6 hft k1 k2 k3 hs3 hB3 k4 hB4 kk1 kk2 kk3 hs4 hA4 hnf hw4 hw3
  unfold stepsV at CT
  have HCT : Hid (Calls Tryz.prog 22 #[.slice (some ⟨w.heap.size + 3, 0, none⟩) 6 6] _ (Upon (Res T4 d w ft) (fun x => Res (G x) d w ft))) := CT
  unfold mval
  go_enter Tryz.func9, Tryz.ntmps9
  go_wp2_with fail
  go_fit HCT.out
  rintro e w9 ⟨x, rfl, hx⟩
  have HX : Hid ((x = 0 ∧ Res T4 d w ft w9) ∨ (x ≠ 0 ∧ Res (G x) d w ft w9)) := hx
  clear hx HCT CT
  go_wp2_with fail
  go_ret
  exact ⟨x, rfl, HX.out⟩
end Go.Proofs.YtgkdodcidancpaaGreatDoor
namespace Go.Proofs.YtgkdodcidancpaaGreatDoor
open Go.RowKit Go.Maps

def lM : List UInt8 := [109, 97, 110, 105, 102, 101, 115, 116]
def lN : List UInt8 := [109, 97, 110, 105, 102, 101, 115, 116, 46, 110, 101, 119]
theorem nameM : nameOf nmM = lM := rfl
theorem nameN : nameOf nmN = lN := rfl
/-- A file all of whose bytes are sure. -/
def sureT (nm E : List UInt8) : Sig := ⟨nm, E, E.length, []⟩
/-- The disk's files: the manifest, if there is one. -/
def spO : Option (List UInt8) → List Sig
  | none => []
  | some E => [sureT lM E]
theorem lose_sure (nm E : List UInt8) (x : Nat) : loseT (sureT nm E) x = sureT nm E := by
  have h : lostT (sureT nm E) x = E.length := by unfold lostT keptT sureT; simp
  unfold loseT
  rw [h]
  simp [sureT]
theorem lose_nm (t : Sig) (x : Nat) : (loseT t x).nm = t.nm := rfl
theorem findT_lose (sp : List Sig) (x : Nat) (nm : List UInt8) : findT (sp.map fun t => loseT t x) nm = (findT sp nm).map fun t => loseT t x := by
  unfold findT
  rw [List.find?_map]
  rfl
def fO (o : Option (List UInt8)) : Option Sig := o.map (sureT lM)
theorem find_spO (o : Option (List UInt8)) : findT (spO o) lM = fO o := by cases o <;> rfl
theorem find_two (o : Option (List UInt8)) (t : Sig) (h : t.nm = lN) : findT (spO o ++ [t]) lM = fO o ∧ findT (spO o ++ [t]) lN = some t := by
  have e1 : (t.nm == lM) = false := by rw [h]; decide
  have e2 : (t.nm == lN) = true := by rw [h]; decide
  cases o with
  | none => simp [spO, fO, findT, e1, e2]
  | some E =>
    have e3 : ((sureT lM E).nm == lM) = true := by show (lM == lM) = true; decide
    have e4 : ((sureT lM E).nm == lN) = false := by show (lM == lN) = false; decide
    simp [spO, fO, findT, e2, e3, e4]
theorem find_cut (o : Option (List UInt8)) (sp : List Sig) (x : Nat) (h : findT sp lM = fO o) : findT (sp.map fun t => loseT t x) lM = fO o := by
  rw [findT_lose, h]
  cases o with
  | none => rfl
  | some E => simp [fO, lose_sure]
/-! ### the states -/
theorem sp_create (o : Option (List UInt8)) : putT (spO o) ⟨lN, [], 0, []⟩ = spO o ++ [⟨lN, [], 0, []⟩] := by
  cases o with
  | none => rfl
  | some E =>
    have e : dropT (spO (some E)) lN = spO (some E) := by
      have : ((sureT lM E).nm == lN) = false := by show (lM == lN) = false; decide
      simp [dropT, spO, this]
    have e2 : bytesBefore lN (sureT lM E).nm = false := by show bytesBefore lN lM = false; decide
    show insT _ (dropT (spO (some E)) lN) = _
    rw [e]
    simp [spO, insT, e2]
theorem sp_upd (o : Option (List UInt8)) (t t' : Sig) (h : t.nm = lN) : upd (spO o ++ [t]) lN t' = spO o ++ [t'] := by
  have e2 : (t.nm == lN) = true := by rw [h]; decide
  cases o with
  | none =>
    show [if (t.nm == lN) = true then t' else t] = [t']
    rw [if_pos e2]
  | some E =>
    have e4 : ((sureT lM E).nm == lN) = false := by show (lM == lN) = false; decide
    show [if ((sureT lM E).nm == lN) = true then t' else sureT lM E, if (t.nm == lN) = true then t' else t] = [sureT lM E, t']
    rw [if_pos e2, if_neg (by rw [e4]; simp)]
theorem sp_rename (o : Option (List UInt8)) (t : Sig) (h : t.nm = lN) (E : List UInt8) : putT (dropT (spO o ++ [t]) lN) (sureT lM E) = spO (some E) := by
  have e2 : (t.nm == lN) = true := by rw [h]; decide
  cases o with
  | none => simp [spO, dropT, putT, e2, insT]
  | some E' =>
    have e4 : ((sureT lM E').nm == lN) = false := by show (lM == lN) = false; decide
    have e5 : ((sureT lM E').nm == (sureT lM E).nm) = true := by show (lM == lM) = true; decide
    simp [spO, dropT, putT, e2, e4, e5, insT]
/-- A disk that is as the law has it: the manifest o on it, nothing else. -/
structure Pl (A : Ab) (o : Option (List UInt8)) : Prop where
  sp : A.sp = spO o
  on : A.on = true
  room : A.room = 100000
  ops : A.ops ≤ 100
  next : A.next ≤ 1000
  left : A.left ≤ 8
  keep : -9223372036854775808 ≤ A.keep ∧ A.keep ≤ 9223372036854775807
  small : ∀ E, o = some E → E.length ≤ 400
theorem fine_gen {A : Ab} {o : Option (List UInt8)} {r : List Sig} (hsp : A.sp = spO o ++ r) (hroom : A.room = 100000) (hs : ∀ E, o = some E → E.length ≤ 400) (hr : r.length ≤ 1) (h : ∀ t ∈ r, t.wr ≤ t.bs.length ∧ t.bs.length ≤ 400 ∧ t.pl.Pairwise (· < ·) ∧ (∀ q ∈ t.pl, q < A.next) ∧ t.pl.length ≤ 400) : A.Fine := by
  have hall : ∀ t ∈ A.sp, t.wr ≤ t.bs.length ∧ t.bs.length ≤ 400 ∧ t.pl.Pairwise (· < ·) ∧ (∀ q ∈ t.pl, q < A.next) ∧ t.pl.length ≤ 400 := by
    rw [hsp]
    intro t ht
    rcases List.mem_append.1 ht with ht | ht
    · cases o with
      | none => cases ht
      | some E =>
        simp only [spO, List.mem_singleton] at ht
        subst ht
        exact ⟨Nat.le_refl _, hs E rfl, List.Pairwise.nil, by simp [sureT], by simp [sureT]⟩
    · exact h t ht
  have hlen : A.sp.length ≤ 2 := by rw [hsp, List.length_append]; cases o <;> simp [spO] <;> omega
  have hsum : ∀ (f : Sig → Nat) (l : List Sig), (∀ t ∈ l, f t ≤ 1000) → (l.map f).sum ≤ 1000 * l.length := by
    intro f l
    induction l with
    | nil => intro _; simp
    | cons a l ih =>
      intro hh
      have h1 := ih (fun t ht => hh t (List.mem_cons_of_mem _ ht))
      have h2 := hh a (by simp)
      simp only [List.map_cons, List.sum_cons, List.length_cons]
      omega
  refine ⟨fun t ht => (hall t ht).1, fun t ht => by have := (hall t ht).2.1; omega, fun t ht => (hall t ht).2.2.1, fun t ht => (hall t ht).2.2.2.1, by omega, ?_, ?_⟩
  · have := hsum (fun t => 1 + (t.bs.length + 15) / 16) A.sp (fun t ht => by have := (hall t ht).2.1; omega)
    unfold usedT; omega
  · have := hsum (fun t => t.pl.length) A.sp (fun t ht => by have := (hall t ht).2.2.2.2; omega)
    unfold dirtyT; omega
theorem used_gen {A : Ab} {o : Option (List UInt8)} {r : List Sig} (hsp : A.sp = spO o ++ r) (hs : ∀ E, o = some E → E.length ≤ 400) (hr : r.length ≤ 1) (h : ∀ t ∈ r, t.bs.length ≤ 400) : usedT A.sp ≤ 100 := by
  have h1 : usedT A.sp = usedT (spO o) + usedT r := by rw [hsp]; simp [usedT]
  have h2 : usedT (spO o) ≤ 30 := by
    cases o with
    | none => simp [spO, usedT]
    | some E => have := hs E rfl; simp [spO, usedT, sureT]; omega
  have h3 : usedT r ≤ 30 := by
    match r, hr with
    | [], _ => simp [usedT]
    | [t], _ => have := h t (by simp); simp [usedT]; omega
  omega
/-! ### what a failure leaves -/
theorem at_cut {w w' : World} {d bm : Nat} {A : Ab} {fs : List Ent} (hs : fs.map sig = A.sp) {x : Ending} (h : Cut w d bm (A.st fs) x w') : x = .returned (.int .i64 9) ∧ ∃ ft', At d { A with on := false, ops := A.ops + 1, sp := A.sp.map fun t => loseT t (endT A A.keep.toNat) } ft' w' ∧ Moved w w' (foot d bm fs) ft' := by
  obtain ⟨rfl, h1, h2⟩ := h
  have he : lineEndN (A.st fs) (A.st fs).keep.toNat = endT A A.keep.toNat := by
    unfold lineEndN endT
    show (if (linesOf fs).length ≤ _ then _ else ((linesOf fs).mergeSort _).getD _ _) = _
    rw [lines_sig, hs]
    rfl
  rw [he] at h1
  refine ⟨rfl, _, ⟨bm, _, h1, ?_, rfl⟩, h2.sub fun i hi => ?_⟩
  · show (fs.map fun e => loseE e (endT A A.keep.toNat)).map sig = _
    rw [List.map_map, ← hs, List.map_map]
    rfl
  · simp only [foot, List.mem_cons] at hi ⊢
    refine hi.imp id fun h => h.imp id fun h => ?_
    obtain ⟨y, hy, hi⟩ := feet_mem.1 h
    obtain ⟨e, he, rfl⟩ := List.mem_map.1 hy
    exact feet_mem.2 ⟨e, he, lose_foot hi⟩
end Go.Proofs.YtgkdodcidancpaaGreatDoor
namespace Go.Proofs.YtgkdodcidancpaaGreatDoor
open Go.RowKit Go.Maps

theorem grown_of_below {w w' : World} (h : Below w.heap.size w w') : w.grownBy w' none := ⟨h.os, h.tape, h.output, h.size, fun k hk _ => h.block k hk⟩
theorem kp_out {w0 : World} {d : Nat} {A : Ab} {w1 : World} {F : Nat} {args : Array Value} {r : Int × Ab} (h : Kp w0 d A w1) (hc : ∀ ft, At d A ft w1 → Moved w0 w1 [] ft → Calls Tryz.prog F args w1 (Out d ft w1 r)) : Calls Tryz.prog F args w1 fun x w' => x = .returned (.int .i64 r.1) ∧ Kp w0 d r.2 w' := by
  obtain ⟨ft, h1, h2⟩ := h
  refine (hc ft h1 h2).mono ?_
  rintro x w' ⟨rfl, ft', a1, a2⟩
  exact ⟨rfl, ft', a1, h2.trans a2⟩
theorem Kp.names {w0 : World} {d : Nat} {A : Ab} {w1 : World} (h : Kp w0 d A w1) : A.sp.Pairwise fun x y => x.nm ≠ y.nm := by
  obtain ⟨ft, h1, _⟩ := h
  exact h1.names
theorem nameOf_ne {a b : ByteArray} (h : a ≠ b) : nameOf b ≠ nameOf a := fun e => h (by
  cases a
  cases b
  simp only [nameOf] at e
  congr 1
  exact (Array.toList_inj.1 e).symm)
section
variable {w0 : World} {d : Nat} {A : Ab} {k : Nat} {w1 : World} (h : Kp w0 d A w1) (hi : A.Inv k) (hk : k ≤ 1000) (s : ByteArray) (hs : s.size ≤ maxLen)
include h hi hk hs
theorem kpm_create : Calls Tryz.prog 27 #[.pointer (some ⟨d, 0, none⟩), .string s] w1 fun x w' => x = .returned (.int .i64 (createM A s).1) ∧ (createM A s).2.Inv (k + 1) ∧ Kp w0 d (createM A s).2 w' :=
  (kp_out h fun _ h1 _ => abx_create h1 s hs hi.fine hi.left1 (hi.ops1 (by omega)) hi.left2).mono fun _ _ hh => ⟨hh.1, createM_inv hi s, hh.2⟩
theorem kpm_sync : Calls Tryz.prog 31 #[.pointer (some ⟨d, 0, none⟩), .string s] w1 fun x w' => x = .returned (.int .i64 (syncM A s).1) ∧ (syncM A s).2.Inv (k + 1) ∧ Kp w0 d (syncM A s).2 w' :=
  (kp_out h fun _ h1 _ => abx_sync h1 s hs hi.left1 (hi.ops1 (by omega)) hi.left2).mono fun _ _ hh => ⟨hh.1, syncM_inv hi h.names s, hh.2⟩
theorem kpm_rename (u : ByteArray) (hu : u.size ≤ maxLen) : Calls Tryz.prog 33 #[.pointer (some ⟨d, 0, none⟩), .string s, .string u] w1 fun x w' => x = .returned (.int .i64 (renameM A s u).1) ∧ (renameM A s u).2.Inv (k + 1) ∧ Kp w0 d (renameM A s u).2 w' :=
  (kp_out h fun _ h1 _ => abx_rename h1 s hs u hu hi.fine hi.left1 (hi.ops1 (by omega)) hi.left2).mono fun _ _ hh => ⟨hh.1, renameM_inv hi s u, hh.2⟩
theorem kpm_append (ao : Option Addr) (l : List UInt8) (c : Nat) (hb : Sees w0 ao l) (hl : l.length ≤ 1000000000) : Calls Tryz.prog 29 #[.pointer (some ⟨d, 0, none⟩), .string s, .slice ao l.length c] w1 fun x w' => x = .returned (.int .i64 (appendM A s l).1) ∧ (appendM A s l).2.Inv (k + 1) ∧ Kp w0 d (appendM A s l).2 w' := by
  have hn := h.names
  have hse := h.sees hb
  refine (kp_out h fun ft h1 h2 => abx_append h1 s hs ao l c hse (fun a ha h0 hi => ?_) hi.fine hi.left1 (hi.ops1 (by omega)) hi.left2 (hi.next1 (by omega)) (fun t ht => by have := hi.len ht; omega)).mono fun _ _ hh => ⟨hh.1, appendM_inv hi hn s l, hh.2⟩
  have := hb.lt ha h0
  rcases h2.news _ hi with h3 | h3
  · simp at h3
  · omega
end
/-- The file has these bytes. -/
def KA (w0 : World) (d : Nat) (nm : List UInt8) (data : List UInt8) (k : Nat) (w1 : World) : Prop := ∃ A, A.Inv k ∧ (∃ t, findT A.sp nm = some t ∧ t.bs = data) ∧ Kp w0 d A w1
section
variable {w0 : World} {d : Nat} {nm data : List UInt8} {k : Nat} {w1 : World}
theorem KA.grown (h : KA w0 d nm data k w1) {w2 : World} (hg : w1.grownBy w2 none) : KA w0 d nm data k w2 := by
  obtain ⟨A, h1, h2, h3⟩ := h
  exact ⟨A, h1, h2, h3.grown hg⟩
theorem KA.more (h : KA w0 d nm data k w1) {k' : Nat} (hk : k ≤ k') : KA w0 d nm data k' w1 := by
  obtain ⟨A, h1, h2, h3⟩ := h
  exact ⟨A, h1.more hk, h2, h3⟩
theorem KA.below (h : KA w0 d nm data k w1) : Below w0.heap.size w0 w1 := by
  obtain ⟨A, h1, h2, h3⟩ := h
  exact h3.below
variable (h : KA w0 d nm data k w1) (hk : k ≤ 1000) (s : ByteArray) (hs : s.size ≤ maxLen) (hne : nm ≠ nameOf s)
include h hk hs hne
theorem ka_create : Calls Tryz.prog 27 #[.pointer (some ⟨d, 0, none⟩), .string s] w1 fun x w' => ∃ c, x = .returned (.int .i64 c) ∧ KA w0 d nm data (k + 1) w' := by
  obtain ⟨A, h1, ⟨t, h2, e⟩, h3⟩ := h
  exact (kpm_create h3 h1 hk s hs).mono fun x w' ⟨a, b, c⟩ => ⟨_, a, _, b, ⟨t, by rw [create_other A s hne]; exact h2, e⟩, c⟩
theorem ka_sync : Calls Tryz.prog 31 #[.pointer (some ⟨d, 0, none⟩), .string s] w1 fun x w' => ∃ c, x = .returned (.int .i64 c) ∧ KA w0 d nm data (k + 1) w' := by
  obtain ⟨A, h1, ⟨t, h2, e⟩, h3⟩ := h
  exact (kpm_sync h3 h1 hk s hs).mono fun x w' ⟨a, b, c⟩ => ⟨_, a, _, b, ⟨t, by rw [sync_other A s hne]; exact h2, e⟩, c⟩
theorem ka_rename (u : ByteArray) (hu : u.size ≤ maxLen) (hnu : nm ≠ nameOf u) : Calls Tryz.prog 33 #[.pointer (some ⟨d, 0, none⟩), .string s, .string u] w1 fun x w' => ∃ c, x = .returned (.int .i64 c) ∧ KA w0 d nm data (k + 1) w' := by
  obtain ⟨A, h1, ⟨t, h2, e⟩, h3⟩ := h
  exact (kpm_rename h3 h1 hk s hs u hu).mono fun x w' ⟨a, b, c⟩ => ⟨_, a, _, b, ⟨t, by rw [rename_other A s u hne hnu]; exact h2, e⟩, c⟩
theorem ka_append (ao : Option Addr) (l : List UInt8) (c : Nat) (hb : Sees w0 ao l) (hl : l.length ≤ 1000000000) : Calls Tryz.prog 29 #[.pointer (some ⟨d, 0, none⟩), .string s, .slice ao l.length c] w1 fun x w' => ∃ c, x = .returned (.int .i64 c) ∧ KA w0 d nm data (k + 1) w' := by
  obtain ⟨A, h1, ⟨t, h2, e⟩, h3⟩ := h
  exact (kpm_append h3 h1 hk s hs ao l c hb hl).mono fun x w' ⟨a, b, c⟩ => ⟨_, a, _, b, ⟨t, by rw [append_other A s l hne]; exact h2, e⟩, c⟩
end
section
variable {w0 : World} {d : Nat} {w1 : World}
theorem refuse_name (s : ByteArray) : refuse true [s] = if goodB (nameOf s) then 0 else 3 := by
  unfold refuse
  simp
/-- The first file, where the name is good. -/
theorem kb_create (h : Kp w0 d (newA 1048576) w1) (s : ByteArray) (hs : s.size ≤ maxLen) (hg : goodB (nameOf s) = true) : Calls Tryz.prog 27 #[.pointer (some ⟨d, 0, none⟩), .string s] w1 fun x w' => x = .returned (.int .i64 0) ∧ Kp w0 d (crT (newA 1048576) (nameOf s)) w' := by
  have e : createM (newA 1048576) s = (0, crT (newA 1048576) (nameOf s)) := by
    unfold createM
    rw [if_pos (show refuse (newA 1048576).on [s] = 0 by show refuse true [s] = 0; rw [refuse_name, hg]; rfl)]
    rfl
  have := kpm_create h (newA_inv 1048576 (by omega)) (by omega) s hs
  rw [e] at this
  exact this.mono fun _ _ hh => ⟨hh.1, hh.2.2⟩
theorem kb_wrong (h : Kp w0 d (newA 1048576) w1) (s : ByteArray) (hs : s.size ≤ maxLen) (hg : goodB (nameOf s) = false) : Calls Tryz.prog 27 #[.pointer (some ⟨d, 0, none⟩), .string s] w1 fun x w' => x = .returned (.int .i64 3) ∧ Kp w0 d (newA 1048576) w' := by
  have h3 : refuse (newA 1048576).on [s] = 3 := by show refuse true [s] = 3; rw [refuse_name, hg]; rfl
  have e : createM (newA 1048576) s = (3, newA 1048576) := by
    unfold createM
    rw [if_neg (by rw [h3]; omega), h3]
  have := kpm_create h (newA_inv 1048576 (by omega)) (by omega) s hs
  rw [e] at this
  exact this.mono fun _ _ hh => ⟨hh.1, hh.2.2⟩
theorem kb_append {s : ByteArray} (h : Kp w0 d (crT (newA 1048576) (nameOf s)) w1) (hs : s.size ≤ maxLen) (hg : goodB (nameOf s) = true) (ao : Option Addr) (l : List UInt8) (c : Nat) (hb : Sees w0 ao l) (hl : l.length ≤ 1000) : Calls Tryz.prog 29 #[.pointer (some ⟨d, 0, none⟩), .string s, .slice ao l.length c] w1 fun x w' => x = .returned (.int .i64 0) ∧ KA w0 d (nameOf s) l 2 w' := by
  have hr : refuse true [s] = 0 := by rw [refuse_name, hg]; rfl
  have hi : (crT (newA 1048576) (nameOf s)).Inv 1 := by
    refine crT_inv (newA_inv 1048576 (by omega)) _ ?_
    show usedT [] + 1 ≤ 1048576
    rw [usedT_nil]
    omega
  have hsp : (crT (newA 1048576) (nameOf s)).sp = [⟨nameOf s, [], 0, []⟩] := rfl
  have hf : findT (crT (newA 1048576) (nameOf s)).sp (nameOf s) = some ⟨nameOf s, [], 0, []⟩ := by rw [hsp, findT_cons, if_pos rfl]
  have hlack : ¬ ((crT (newA 1048576) (nameOf s)).room : Int) - (usedT (crT (newA 1048576) (nameOf s)).sp : Int) < lackT ⟨nameOf s, [], 0, []⟩ l := by
    rw [hsp, usedT_cons, usedT_nil]
    unfold lackT uT
    have a1 := secI_nat l.length
    have a2 := secI_nat 0
    simp only [List.length_nil]
    show ¬ (1048576 : Int) - _ < _
    rw [show ((0 : Nat) : Int) + (l.length : Int) = (l.length : Int) by omega, a1, a2]
    omega
  have e : appendM (crT (newA 1048576) (nameOf s)) s l = (0, appT (crT (newA 1048576) (nameOf s)) (nameOf s) ⟨nameOf s, [], 0, []⟩ l) := by
    unfold appendM
    rw [if_pos (show refuse (crT (newA 1048576) (nameOf s)).on [s] = 0 from hr), hf]
    simp only
    rw [if_neg hlack]
  have := kpm_append h hi (by omega) s hs ao l c hb (by omega)
  rw [e] at this
  refine this.mono fun x w' ⟨a, b, c⟩ => ⟨a, _, b, ⟨⟨nameOf s, [] ++ l, 0, [] ++ List.range' 0 (growT ⟨nameOf s, [], 0, []⟩ l)⟩, ?_, rfl⟩, c⟩
  show findT (upd (crT (newA 1048576) (nameOf s)).sp (nameOf s) _) (nameOf s) = _
  rw [hsp]
  have h2 : upd [⟨nameOf s, [], 0, []⟩] (nameOf s) ⟨nameOf s, [] ++ l, 0, [] ++ List.range' (crT (newA 1048576) (nameOf s)).next (growT ⟨nameOf s, [], 0, []⟩ l)⟩ = [⟨nameOf s, [] ++ l, 0, [] ++ List.range' (crT (newA 1048576) (nameOf s)).next (growT ⟨nameOf s, [], 0, []⟩ l)⟩] := by simp [upd]
  rw [h2, findT_cons, if_pos rfl]
  rfl
end
end Go.Proofs.YtgkdodcidancpaaGreatDoor

/-
  SEVERAL TEXTS IN ONE: SrtPlain, CxPlain.
-/
import Derived.Test.YtlamncldbnagmaaGreatDoorMany21
namespace Go.Proofs.YtlamncldbnagmaaGreatDoor
open Go.RowKit

/-- How two cells stand by their keys. -/
def kx (x y : Cx) : Int := kc x.k.ky y.k.ky
theorem kx_n (x y : Cx) : kx x y = - kx y x := kc_cmpr.n _ _
theorem kx_t {x y z : Cx} (h : kx x y ≤ 0) (g : kx y z ≤ 0) : kx x z ≤ 0 := kc_cmpr.t _ _ _ h g
theorem kx_z (x y : Cx) : kx x y = 0 ↔ x.k = y.k := (kc_cmpr.z _ _).trans Kb.ky_inj
theorem kx_self (x : Cx) : kx x x = 0 := (kx_z x x).2 rfl
theorem kx_ne {x y : Cx} (h : kx x y < 0) : x.k ≠ y.k := fun e => by have := (kx_z x y).2 e; omega
/-- The cells of one key, in their order. -/
noncomputable def ofK (κ : Kb) (L : List Cx) : List Cx := L.filter fun c => @decide (c.k = κ) (Classical.propDecidable _)
theorem ofK_append (κ : Kb) (A B : List Cx) : ofK κ (A ++ B) = ofK κ A ++ ofK κ B := List.filter_append ..
theorem ofK_nil {κ : Kb} {A : List Cx} (h : ∀ x ∈ A, x.k ≠ κ) : ofK κ A = [] := by
  unfold ofK
  rw [List.filter_eq_nil_iff]
  intro x hx
  simp only [decide_eq_true_eq]
  exact h x hx
theorem ofK_mem {κ : Kb} {A : List Cx} {x : Cx} : x ∈ ofK κ A ↔ x ∈ A ∧ x.k = κ := by
  unfold ofK
  rw [List.mem_filter]
  simp only [decide_eq_true_eq]
/-- Rearranged, so that the cells of each key stay in their order. -/
structure Sbl (L L' : List Cx) : Prop where
  len : L'.length = L.length
  same : ∀ κ, ofK κ L' = ofK κ L
theorem Sbl.refl (L : List Cx) : Sbl L L := ⟨rfl, fun _ => rfl⟩
theorem Sbl.trans {A B C : List Cx} (h : Sbl A B) (g : Sbl B C) : Sbl A C := ⟨g.len.trans h.len, fun κ => (g.same κ).trans (h.same κ)⟩
theorem Sbl.append {A A' B B' : List Cx} (h : Sbl A A') (g : Sbl B B') : Sbl (A ++ B) (A' ++ B') :=
  ⟨by rw [List.length_append, List.length_append, h.len, g.len], fun κ => by rw [ofK_append, ofK_append, h.same, g.same]⟩
theorem Sbl.mem {L L' : List Cx} (h : Sbl L L') {x : Cx} : x ∈ L' ↔ x ∈ L := by
  have h1 : x ∈ ofK x.k L' ↔ x ∈ ofK x.k L := by rw [h.same]
  rw [ofK_mem, ofK_mem] at h1
  simpa using h1
/-- Two ranges with no key in common change their places. -/
theorem Sbl.cross {X Y : List Cx} (h : ∀ x ∈ X, ∀ y ∈ Y, x.k ≠ y.k) : Sbl (X ++ Y) (Y ++ X) := by
  refine ⟨by rw [List.length_append, List.length_append]; omega, fun κ => ?_⟩
  rw [ofK_append, ofK_append]
  by_cases hx : ∃ x ∈ X, x.k = κ
  · obtain ⟨x, hm, hk⟩ := hx
    have : ofK κ Y = [] := ofK_nil fun y hy e => h x hm y hy (hk.trans e.symm)
    rw [this]; simp
  · have : ofK κ X = [] := ofK_nil fun x hm hk => hx ⟨x, hm, hk⟩
    rw [this]; simp
/-- The keys do not fall. -/
def Up (L : List Cx) : Prop := L.Pairwise fun x y => kx x y ≤ 0
theorem Up.append {A B : List Cx} (ha : Up A) (hb : Up B) (h : ∀ x ∈ A, ∀ y ∈ B, kx x y ≤ 0) : Up (A ++ B) := List.pairwise_append.2 ⟨ha, hb, h⟩
theorem Up.left {A B : List Cx} (h : Up (A ++ B)) : Up A := (List.pairwise_append.1 h).1
theorem Up.right {A B : List Cx} (h : Up (A ++ B)) : Up B := (List.pairwise_append.1 h).2.1
theorem Up.over {A B : List Cx} (h : Up (A ++ B)) : ∀ x ∈ A, ∀ y ∈ B, kx x y ≤ 0 := (List.pairwise_append.1 h).2.2
/-- One cell is put among sorted ones. -/
theorem Up.insert {U V : List Cx} {x : Cx} (h : Up (U ++ V)) (hu : ∀ u ∈ U, kx u x ≤ 0) (hv : ∀ v ∈ V, kx x v ≤ 0) : Up (U ++ x :: V) := by
  refine h.left.append (List.pairwise_cons.2 ⟨hv, h.right⟩) fun u hu' y hy => ?_
  rcases List.mem_cons.1 hy with rfl | hy
  · exact hu u hu'
  · exact h.over u hu' y hy
theorem Up.last {U : List Cx} {l x : Cx} (h : Up (U ++ [l])) (hx : kx l x ≤ 0) : ∀ u ∈ U ++ [l], kx u x ≤ 0 := fun u hu => by
  rcases List.mem_append.1 hu with hu | hu
  · exact kx_t (h.over u hu l (by simp)) hx
  · obtain rfl : u = l := by simpa using hu
    exact hx
/-- Two sorted halves A0 X and Y B1 in which X stands behind Y, and A0 ahead of B1: what the rotation leaves. -/
theorem turned {A0 X Y B1 S1 S2 : List Cx} (ha : Up (A0 ++ X)) (hb : Up (Y ++ B1)) (hxy : ∀ x ∈ X, ∀ y ∈ Y, kx y x < 0) (hab : ∀ a ∈ A0, ∀ b ∈ B1, kx a b ≤ 0)
    (h1 : Sbl (A0 ++ Y) S1) (h2 : Sbl (X ++ B1) S2) (u1 : Up S1) (u2 : Up S2) : Sbl (A0 ++ X ++ (Y ++ B1)) (S1 ++ S2) ∧ Up (S1 ++ S2) := by
  constructor
  · have c : Sbl (X ++ Y) (Y ++ X) := Sbl.cross fun x hx y hy e => kx_ne (hxy x hx y hy) e.symm
    have e : Sbl (A0 ++ X ++ (Y ++ B1)) (A0 ++ Y ++ (X ++ B1)) := by
      have := ((Sbl.refl A0).append c).append (Sbl.refl B1)
      simpa [List.append_assoc] using this
    exact e.trans (h1.append h2)
  · refine u1.append u2 fun s hs t ht => ?_
    rcases List.mem_append.1 (h1.mem.1 hs) with hs | hs
    · rcases List.mem_append.1 (h2.mem.1 ht) with ht | ht
      · exact ha.over s hs t ht
      · exact hab s hs t ht
    · rcases List.mem_append.1 (h2.mem.1 ht) with ht | ht
      · have := hxy t ht s hs; omega
      · exact hb.over s hs t ht
/-- One cell ahead of sorted ones goes behind those that are less. -/
theorem moved_right {a : Cx} {U V : List Cx} (hb : Up (U ++ V)) (hu : ∀ u ∈ U, kx u a < 0) (hv : ∀ v ∈ V, kx a v ≤ 0) : Sbl (a :: (U ++ V)) (U ++ a :: V) ∧ Up (U ++ a :: V) := by
  refine ⟨?_, hb.insert (fun u h => by have := hu u h; omega) hv⟩
  have c : Sbl ([a] ++ U) (U ++ [a]) := Sbl.cross fun x hx y hy e => by
    obtain rfl : x = a := by simpa using hx
    exact kx_ne (hu y hy) e.symm
  have := c.append (Sbl.refl V)
  simpa using this
/-- One cell behind sorted ones goes ahead of those that are greater. -/
theorem moved_left {b : Cx} {U V : List Cx} (ha : Up (U ++ V)) (hu : ∀ u ∈ U, kx u b ≤ 0) (hv : ∀ v ∈ V, kx b v < 0) : Sbl (U ++ V ++ [b]) (U ++ b :: V) ∧ Up (U ++ b :: V) := by
  refine ⟨?_, ha.insert hu (fun v h => by have := hv v h; omega)⟩
  have c : Sbl (V ++ [b]) ([b] ++ V) := Sbl.cross fun x hx y hy e => by
    obtain rfl : y = b := by simpa using hy
    exact kx_ne (hv x hx) e.symm
  have := (Sbl.refl U).append c
  simpa using this
end Go.Proofs.YtlamncldbnagmaaGreatDoor
namespace Go.Proofs.YtlamncldbnagmaaGreatDoor
open Go.RowKit

def jnC (a b : Cx) : Cx := ⟨a.k, jn a.v b.v⟩
/-- One cell more. -/
def jrS (O : List Cx) (x : Cx) : List Cx := match O.getLast? with
  | none => [x]
  | some y => if kx y x = 0 then O.dropLast ++ [jnC y x] else O ++ [x]
theorem jrS_nil (x : Cx) : jrS [] x = [x] := rfl
theorem jrS_same {O : List Cx} {y x : Cx} (h : kx y x = 0) : jrS (O ++ [y]) x = O ++ [jnC y x] := by
  unfold jrS; simp [h]
theorem jrS_other {O : List Cx} {y x : Cx} (h : ¬ kx y x = 0) : jrS (O ++ [y]) x = (O ++ [y]) ++ [x] := by
  unfold jrS; simp [h]
def jr (l : List Cx) : List Cx := l.foldl jrS []
theorem jr_snoc (l : List Cx) (x : Cx) : jr (l ++ [x]) = jrS (jr l) x := by unfold jr; rw [List.foldl_append]; rfl
theorem jrS_len (O : List Cx) (x : Cx) : (jrS O x).length ≤ O.length + 1 := by
  rcases List.eq_nil_or_concat O with rfl | ⟨P, y, rfl⟩
  · simp [jrS]
  · rw [List.concat_eq_append]
    by_cases h : kx y x = 0
    · rw [jrS_same h]; simp
    · rw [jrS_other h]; simp
theorem jr_len (l : List Cx) : ∀ i, (jr (l.take i)).length ≤ i := fun i => by
  induction i with
  | zero => simp [jr]
  | succ i ih =>
    by_cases h : i < l.length
    · rw [takeX_succ (List.getElem?_eq_getElem h), jr_snoc]
      have := jrS_len (jr (l.take i)) l[i]
      omega
    · rw [List.take_of_length_le (by omega)]
      rw [List.take_of_length_le (by omega)] at ih
      omega

/-! ### The keys rise -/
def Rising (L : List Cx) : Prop := L.Pairwise fun x y => kx x y < 0
theorem kx_strict {x y z : Cx} (h : kx x y < 0) (g : kx y z < 0) : kx x z < 0 := kc_cmpr.strict h g
theorem kx_left {x x' y : Cx} (h : x.k = x'.k) : kx x y = kx x' y := by unfold kx; rw [h]
theorem kx_right {x y y' : Cx} (h : y.k = y'.k) : kx x y = kx x y' := by unfold kx; rw [h]
theorem ofK_cons_hit {κ : Kb} {x : Cx} (A : List Cx) (h : x.k = κ) : ofK κ (x :: A) = x :: ofK κ A := by
  unfold ofK; rw [List.filter_cons_of_pos]; exact @decide_eq_true _ (Classical.propDecidable _) h
theorem ofK_cons_miss {κ : Kb} {x : Cx} (A : List Cx) (h : x.k ≠ κ) : ofK κ (x :: A) = ofK κ A := by
  unfold ofK; rw [List.filter_cons_of_neg]; rw [@decide_eq_false _ (Classical.propDecidable _) h]; simp
/-- Two rising lists with the same cells of each key are one. -/
theorem rise_ext : ∀ {A B : List Cx}, Rising A → Rising B → (∀ κ, ofK κ A = ofK κ B) → A = B
  | [], [], _, _, _ => rfl
  | [], b :: B, _, _, h => by
    have := h b.k
    rw [ofK_cons_hit _ rfl] at this
    cases this
  | a :: A, [], _, _, h => by
    have := h a.k
    rw [ofK_cons_hit _ rfl] at this
    cases this
  | a :: A, b :: B, ha, hb, h => by
    have ha1 := (List.pairwise_cons.1 ha).1
    have hb1 := (List.pairwise_cons.1 hb).1
    have hk : kx a b = 0 := by
      by_cases h1 : kx a b < 0
      · have h2 := h a.k
        have h3 : ofK a.k (b :: B) = [] := ofK_nil fun x hx e => by
          rcases List.mem_cons.1 hx with rfl | hx
          · exact kx_ne h1 e.symm
          · exact kx_ne (kx_strict h1 (hb1 x hx)) e.symm
        rw [ofK_cons_hit _ rfl, h3] at h2
        cases h2
      · by_cases h1' : kx b a < 0
        · have h2 := h b.k
          have h3 : ofK b.k (a :: A) = [] := ofK_nil fun x hx e => by
            rcases List.mem_cons.1 hx with rfl | hx
            · exact kx_ne h1' e.symm
            · exact kx_ne (kx_strict h1' (ha1 x hx)) e.symm
          rw [ofK_cons_hit _ rfl, h3] at h2
          cases h2
        · have := kx_n a b
          omega
    have hkk := (kx_z a b).1 hk
    have h2 := h a.k
    rw [ofK_cons_hit _ rfl, ofK_cons_hit _ hkk.symm] at h2
    injection h2 with h3 h4
    subst h3
    rw [rise_ext (List.pairwise_cons.1 ha).2 (List.pairwise_cons.1 hb).2 fun κ => ?_]
    by_cases hκ : a.k = κ
    · subst hκ; exact h4
    · have h5 := h κ
      rwa [ofK_cons_miss _ hκ, ofK_cons_miss _ hκ] at h5
/-- The cells of one key, joined in their order. -/
def fK : List Cx → List Cx
  | [] => []
  | c :: cs => [cs.foldl jnC c]
def fS : List Cx → Cx → List Cx
  | [], x => [x]
  | y :: _, x => [jnC y x]
theorem fK_snoc (l : List Cx) (x : Cx) : fK (l ++ [x]) = fS (fK l) x := by
  cases l with
  | nil => rfl
  | cons c cs => simp [fK, fS, List.foldl_append]

/-! ### Adding one after the other -/
def addC : List Cx → Cx → List Cx
  | [], c => [c]
  | x :: l, c => if kx x c = 0 then jnC x c :: l else if 0 < kx x c then c :: x :: l else x :: addC l c
theorem addC_same {x c : Cx} (l : List Cx) (h : kx x c = 0) : addC (x :: l) c = jnC x c :: l := by rw [addC, if_pos h]
theorem addC_ahead {x c : Cx} (l : List Cx) (h : 0 < kx x c) : addC (x :: l) c = c :: x :: l := by rw [addC, if_neg (by omega), if_pos h]
theorem addC_behind {x c : Cx} (l : List Cx) (h : kx x c < 0) : addC (x :: l) c = x :: addC l c := by rw [addC, if_neg (by omega), if_neg (by omega)]
theorem addC_keys {O : List Cx} {c x : Cx} (h : x ∈ addC O c) : x.k = c.k ∨ ∃ y ∈ O, y.k = x.k := by
  induction O with
  | nil =>
    obtain rfl : x = c := by simpa [addC] using h
    exact .inl rfl
  | cons y O ih =>
    by_cases h0 : kx y c = 0
    · rw [addC_same _ h0] at h
      rcases List.mem_cons.1 h with rfl | h
      · exact .inr ⟨y, by simp, rfl⟩
      · exact .inr ⟨x, by simp [h], rfl⟩
    · by_cases h1 : 0 < kx y c
      · rw [addC_ahead _ h1] at h
        rcases List.mem_cons.1 h with rfl | h
        · exact .inl rfl
        · exact .inr ⟨x, h, rfl⟩
      · rw [addC_behind _ (by omega)] at h
        rcases List.mem_cons.1 h with rfl | h
        · exact .inr ⟨x, by simp, rfl⟩
        · rcases ih h with e | ⟨z, hz, e⟩
          · exact .inl e
          · exact .inr ⟨z, by simp [hz], e⟩
theorem addC_rising {O : List Cx} (hO : Rising O) (c : Cx) : Rising (addC O c) := by
  induction O with
  | nil => simp [addC, Rising]
  | cons y O ih =>
    obtain ⟨h1, h2⟩ := List.pairwise_cons.1 hO
    by_cases h0 : kx y c = 0
    · rw [addC_same _ h0]
      exact List.pairwise_cons.2 ⟨fun z hz => by rw [kx_left (show (jnC y c).k = y.k from rfl)]; exact h1 z hz, h2⟩
    · by_cases h3 : 0 < kx y c
      · rw [addC_ahead _ h3]
        have h4 : kx c y < 0 := by have := kx_n c y; omega
        refine List.pairwise_cons.2 ⟨fun z hz => ?_, hO⟩
        rcases List.mem_cons.1 hz with rfl | hz
        · exact h4
        · exact kx_strict h4 (h1 z hz)
      · have h4 : kx y c < 0 := by omega
        rw [addC_behind _ h4]
        refine List.pairwise_cons.2 ⟨fun z hz => ?_, ih h2⟩
        rcases addC_keys hz with e | ⟨u, hu, e⟩
        · rw [kx_right e]; exact h4
        · rw [← kx_right e]; exact h1 u hu
theorem ofK_addC {O : List Cx} (hO : Rising O) (c : Cx) (κ : Kb) : ofK κ (addC O c) = if @decide (c.k = κ) (Classical.propDecidable _) then fS (ofK κ O) c else ofK κ O := by
  by_cases hc : c.k = κ
  · rw [if_pos (@decide_eq_true _ (Classical.propDecidable _) hc)]
    induction O with
    | nil => rw [addC, ofK_cons_hit _ hc]; rfl
    | cons y O ih =>
      obtain ⟨h1, h2⟩ := List.pairwise_cons.1 hO
      by_cases h0 : kx y c = 0
      · have hy : y.k = κ := ((kx_z y c).1 h0).trans hc
        have hn : ofK κ O = [] := ofK_nil fun z hz e => kx_ne (h1 z hz) (hy.trans e.symm)
        rw [addC_same _ h0, ofK_cons_hit _ (show (jnC y c).k = κ from hy), ofK_cons_hit _ hy, hn]; rfl
      · have hy : y.k ≠ κ := fun e => h0 ((kx_z y c).2 (e.trans hc.symm))
        by_cases h3 : 0 < kx y c
        · have hn : ofK κ (y :: O) = [] := ofK_nil fun z hz e => by
            have h4 : kx c y < 0 := by have := kx_n c y; omega
            rcases List.mem_cons.1 hz with rfl | hz
            · exact hy e
            · exact kx_ne (kx_strict h4 (h1 z hz)) (hc.trans e.symm)
          rw [addC_ahead _ h3, ofK_cons_hit _ hc, hn]; rfl
        · rw [addC_behind _ (by omega), ofK_cons_miss _ hy, ofK_cons_miss _ hy, ih h2]
  · rw [if_neg (by rw [@decide_eq_false _ (Classical.propDecidable _) hc]; simp)]
    clear hO
    induction O with
    | nil => rw [addC, ofK_cons_miss _ hc]
    | cons y O ih =>
      by_cases h0 : kx y c = 0
      · have hy : y.k ≠ κ := fun e => hc (((kx_z y c).1 h0).symm.trans e)
        rw [addC_same _ h0, ofK_cons_miss _ (show (jnC y c).k ≠ κ from hy), ofK_cons_miss _ hy]
      · by_cases h3 : 0 < kx y c
        · rw [addC_ahead _ h3, ofK_cons_miss _ hc]
        · rw [addC_behind _ (by omega)]
          by_cases hy : y.k = κ
          · rw [ofK_cons_hit _ hy, ofK_cons_hit _ hy, ih]
          · rw [ofK_cons_miss _ hy, ofK_cons_miss _ hy, ih]
def nrm (l : List Cx) : List Cx := l.foldl addC []
theorem nrm_snoc (l : List Cx) (x : Cx) : nrm (l ++ [x]) = addC (nrm l) x := by unfold nrm; rw [List.foldl_append]; rfl
theorem snoc_ind {P : List Cx → Prop} (h0 : P []) (h1 : ∀ l x, P l → P (l ++ [x])) : ∀ l, P l := fun l => by
  have : ∀ n, ∀ l : List Cx, l.length = n → P l := fun n => by
    induction n with
    | zero => intro l hl; rw [List.eq_nil_of_length_eq_zero hl]; exact h0
    | succ n ih =>
      intro l hl
      rcases List.eq_nil_or_concat l with rfl | ⟨m, x, rfl⟩
      · simp at hl
      · rw [List.concat_eq_append] at hl ⊢
        exact h1 m x (ih m (by simpa using hl))
  exact this _ l rfl
theorem nrm_rising (l : List Cx) : Rising (nrm l) := by
  refine snoc_ind (P := fun l => Rising (nrm l)) (by simp [nrm, Rising]) (fun l x h => ?_) l
  rw [nrm_snoc]; exact addC_rising h x
theorem nrm_ofK (l : List Cx) (κ : Kb) : ofK κ (nrm l) = fK (ofK κ l) := by
  refine snoc_ind (P := fun l => ofK κ (nrm l) = fK (ofK κ l)) rfl (fun l x h => ?_) l
  rw [nrm_snoc, ofK_addC (nrm_rising l), ofK_append]
  by_cases hx : x.k = κ
  · rw [if_pos (@decide_eq_true _ (Classical.propDecidable _) hx), h, ofK_cons_hit _ hx, ← fK_snoc]; rfl
  · rw [if_neg (by rw [@decide_eq_false _ (Classical.propDecidable _) hx]; simp), h, ofK_cons_miss _ hx]
    show fK _ = fK (_ ++ [])
    rw [List.append_nil]

/-! ### Joining neighbours of sorted cells -/
theorem jr_keys {S : List Cx} {x : Cx} : x ∈ jr S → ∃ y ∈ S, y.k = x.k := by
  refine snoc_ind (P := fun S => x ∈ jr S → ∃ y ∈ S, y.k = x.k) (fun h => by cases h) (fun l c ih => ?_) S
  rw [jr_snoc]
  intro h
  rcases List.eq_nil_or_concat (jr l) with e | ⟨P, y, e⟩
  · rw [e, jrS_nil] at h
    obtain rfl : x = c := by simpa using h
    exact ⟨x, by simp, rfl⟩
  · rw [List.concat_eq_append] at e
    rw [e] at h ih
    by_cases hk : kx y c = 0
    · rw [jrS_same hk] at h
      rcases List.mem_append.1 h with h | h
      · obtain ⟨z, hz, e2⟩ := ih (by simp [h])
        exact ⟨z, by simp [hz], e2⟩
      · obtain rfl : x = jnC y c := by simpa using h
        exact ⟨c, by simp, ((kx_z y c).1 hk).symm⟩
    · rw [jrS_other hk] at h
      rcases List.mem_append.1 h with h | h
      · obtain ⟨z, hz, e2⟩ := ih h
        exact ⟨z, by simp [hz], e2⟩
      · obtain rfl : x = c := by simpa using h
        exact ⟨x, by simp, rfl⟩
theorem jr_both {S : List Cx} : Up S → Rising (jr S) ∧ ∀ κ, ofK κ (jr S) = fK (ofK κ S) := by
  refine snoc_ind (P := fun S => Up S → Rising (jr S) ∧ ∀ κ, ofK κ (jr S) = fK (ofK κ S)) (fun _ => ⟨by simp [jr, Rising], fun κ => rfl⟩) (fun l c ih hU => ?_) S
  obtain ⟨h1, h2⟩ := ih hU.left
  have hov : ∀ z ∈ jr l, kx z c ≤ 0 := fun z hz => by
    obtain ⟨y, hy, e⟩ := jr_keys hz
    rw [← kx_left e]; exact hU.over y hy c (by simp)
  rw [jr_snoc]
  have hK : ∀ κ, fK (ofK κ (l ++ [c])) = if @decide (c.k = κ) (Classical.propDecidable _) then fS (ofK κ (jr l)) c else ofK κ (jr l) := fun κ => by
    rw [ofK_append]
    by_cases hx : c.k = κ
    · rw [if_pos (@decide_eq_true _ (Classical.propDecidable _) hx), h2, ofK_cons_hit _ hx, ← fK_snoc]; rfl
    · rw [if_neg (by rw [@decide_eq_false _ (Classical.propDecidable _) hx]; simp), h2, ofK_cons_miss _ hx]
      show fK (_ ++ []) = _
      rw [List.append_nil]
  rcases List.eq_nil_or_concat (jr l) with e | ⟨P, y, e⟩
  · rw [e] at hK ⊢
    rw [jrS_nil]
    refine ⟨by simp [Rising], fun κ => ?_⟩
    rw [hK]
    by_cases hx : c.k = κ
    · rw [if_pos (@decide_eq_true _ (Classical.propDecidable _) hx), ofK_cons_hit _ hx]; rfl
    · rw [if_neg (by rw [@decide_eq_false _ (Classical.propDecidable _) hx]; simp), ofK_cons_miss _ hx]
  · rw [List.concat_eq_append] at e
    rw [e] at h1 hov hK ⊢
    have hP := List.pairwise_append.1 h1
    by_cases hk : kx y c = 0
    · have hyc := (kx_z y c).1 hk
      rw [jrS_same hk]
      refine ⟨List.pairwise_append.2 ⟨hP.1, by simp, fun a ha b hb => ?_⟩, fun κ => ?_⟩
      · obtain rfl : b = jnC y c := by simpa using hb
        rw [kx_right (show (jnC y c).k = y.k from rfl)]
        exact hP.2.2 a ha y (by simp)
      · rw [hK, ofK_append, ofK_append]
        by_cases hx : c.k = κ
        · have hn : ofK κ P = [] := ofK_nil fun z hz e => kx_ne (hP.2.2 z hz y (by simp)) (e.trans (hx.symm.trans hyc.symm))
          rw [if_pos (@decide_eq_true _ (Classical.propDecidable _) hx), ofK_cons_hit _ (show (jnC y c).k = κ from hyc.trans hx), ofK_cons_hit _ (hyc.trans hx), hn]; rfl
        · rw [if_neg (by rw [@decide_eq_false _ (Classical.propDecidable _) hx]; simp), ofK_cons_miss _ (show (jnC y c).k ≠ κ from fun e => hx (hyc.symm.trans e)), ofK_cons_miss _ (fun e => hx (hyc.symm.trans e))]
    · have hlt : ∀ z ∈ P ++ [y], kx z c < 0 := fun z hz => by
        rcases List.mem_append.1 hz with hz' | hz'
        · have a1 := hP.2.2 z hz' y (by simp)
          have a2 := hov y (by simp)
          exact kx_strict a1 (by omega)
        · obtain rfl : z = y := by simpa using hz'
          have a2 := hov z (by simp)
          omega
      rw [jrS_other hk]
      refine ⟨List.pairwise_append.2 ⟨h1, by simp, fun a ha b hb => ?_⟩, fun κ => ?_⟩
      · obtain rfl : b = c := by simpa using hb
        exact hlt a ha
      · rw [hK, ofK_append]
        by_cases hx : c.k = κ
        · have hn : ofK κ (P ++ [y]) = [] := ofK_nil fun z hz e => kx_ne (hlt z hz) (e.trans hx.symm)
          rw [if_pos (@decide_eq_true _ (Classical.propDecidable _) hx), ofK_cons_hit _ hx, hn]; rfl
        · rw [if_neg (by rw [@decide_eq_false _ (Classical.propDecidable _) hx]; simp), ofK_cons_miss _ hx]
          show _ ++ [] = _
          rw [List.append_nil]
theorem jr_nrm {l S : List Cx} (h : Sbl l S) (u : Up S) : jr S = nrm l := by
  obtain ⟨h1, h2⟩ := jr_both u
  exact rise_ext h1 (nrm_rising l) fun κ => by rw [h2, nrm_ofK, h.same]
end Go.Proofs.YtlamncldbnagmaaGreatDoor

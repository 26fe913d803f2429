/-
  SEVERAL TEXTS IN ONE: Loud, CodSum, KeyBytes.
-/
import Derived.Test.YtglaocghcgcghaaGreatDoorMany3
import Derived.Test.YtglaocghcgcghaaGreatDoorChecked
import Derived.Test.YtglaocghcgcghaaGreatDoorMany12
import Derived.Test.YtglaocghcgcghaaGreatDoorOwn
import Derived.Test.YtglaocghcgcghaaGreatDoorMany13
namespace Go.Proofs.YtglaocghcgcghaaGreatDoor
open Go.RowKit

section
variable {P : Program} {ops : Array Oper} {md : Region.Mode} {C : World → Prop}
/-- An operation that does what it likes, but leaves no other way than by its end. -/
def louOp (P : Program) (ops : Array Oper) (i : Nat) (K : Act → World → Prop) (a : Act) (w : World) : Prop :=
  match ops[i]? with
  | none => False
  | some o => if Region.wanted o (yielded ops a.tmps) then o.wp P a w K (fun _ _ _ => False) else K (a.put o.dst undef) w
theorem lou_mono {o : Oper} {a : Act} {w : World} {K K' : Act → World → Prop} {Q : Exit → Act → World → Prop} (h : ∀ a w, K a w → K' a w) (hh : o.wp P a w K (fun _ _ _ => False)) : o.wp P a w K' Q := by
  unfold Oper.wp at *
  generalize (execOp a.eval o).run P w = r at *
  cases r with
  | ok n w' =>
    cases n <;> simp only [Oper.upon] at hh ⊢
    case value v => exact h _ _ hh
    case skip => exact h _ _ hh
    case defer d => exact h _ _ hh
    case enter f args =>
      refine hh.mono fun e w'' he => ?_
      cases e with
      | returned v => exact h _ _ he
      | panicked c => exact he.elim
      | outgrown => exact absurd he (by simp [LetsOut])
    case row r args => exact hh.mono fun v w'' hv => h _ _ hv
  | halt x w' =>
    cases x <;> simp only [Oper.upon] at hh
theorem louOp_mono {i : Nat} {a : Act} {w : World} {K K' : Act → World → Prop} (h : ∀ a w, K a w → K' a w) (hh : louOp P ops i K a w) : louOp P ops i K' a w := by
  unfold louOp at *
  split
  · rename_i ho; simp only [ho] at hh
  · rename_i o ho
    simp only [ho] at hh
    split
    · rename_i hw; simp only [hw, if_true] at hh; exact lou_mono h hh
    · rename_i hw; simp only [hw] at hh; exact h _ _ hh
theorem wpOp_of_lou {i : Nat} {a : Act} {w : World} {K K' : Act → World → Prop} {Q : Exit → Act → World → Prop} (h : ∀ a w, K a w → K' a w) (hh : louOp P ops i K a w) : wpOp P ops Q i K' a w := by
  unfold louOp at hh
  unfold wpOp
  split
  · rename_i ho; simp only [ho] at hh
  · rename_i o ho
    simp only [ho] at hh
    split
    · rename_i hw; simp only [hw, if_true] at hh; exact .inl (lou_mono h hh)
    · rename_i hw; simp only [hw] at hh; exact h _ _ hh
/-- Whatever order is picked, all worlds being of the class; operation z, which waits for all others, may leave it. -/
def wpAnyC (P : Program) (md : Region.Mode) (ops : Array Oper) (C : World → Prop) (z : Nat) (Q : Act → World → Prop) : Nat → Array Bool → Act → World → Prop
  | 0, listed, a, w => Region.ready md ops listed = [] ∧ Q a w
  | fuel + 1, listed, a, w => (Region.ready md ops listed = [] → Q a w) ∧ ∀ i ∈ Region.ready md ops listed, louOp P ops i (fun a' w' => (i ≠ z → C w') ∧ wpAnyC P md ops C z Q fuel (listed.setIfInBounds i true) a' w') a w
theorem wpAny_of_C {Q : Act → World → Prop} {Q' : Exit → Act → World → Prop} {z : Nat} (hQ : ∀ a w, Q a w → Q' .normal a w) : ∀ (fuel : Nat) (listed : Array Bool) (a : Act) (w : World), wpAnyC P md ops C z Q fuel listed a w → wpAny P md ops Q' fuel listed a w
  | 0, _, _, _, h => ⟨h.1, hQ _ _ h.2⟩
  | fuel + 1, _, _, _, h => ⟨fun h0 => hQ _ _ (h.1 h0), fun i hi => wpOp_of_lou (fun a' w' hh => wpAny_of_C hQ fuel _ a' w' hh.2) (h.2 i hi)⟩
/-- What operations wait for. -/
def waits (md : Region.Mode) (ops : Array Oper) (j : Nat) : List Nat :=
  match ops[j]? with
  | none => []
  | some o => (o.after.toList.filter fun e => Region.binds md e).map fun e => e.on
def waitsN (md : Region.Mode) (ops : Array Oper) : Nat → List Nat → List Nat
  | 0, S => S
  | n + 1, S => waitsN md ops n (S ++ S.flatMap (waits md ops)).eraseDups
/-- Does operation z wait for all others (or is there none)? -/
def waitsAll (md : Region.Mode) (ops : Array Oper) (z : Nat) : Bool :=
  match ops[z]? with
  | none => true
  | some _ => (List.range ops.size).all fun k => k == z || (waitsN md ops 3 (waits md ops z)).contains k
/-- What is listed has all that it waits for listed. -/
def closedB (md : Region.Mode) (ops : Array Oper) (listed : Array Bool) : Bool := (List.range ops.size).all fun j => !listed.getD j false || (waits md ops j).all fun k => listed.getD k false
def Closed (md : Region.Mode) (ops : Array Oper) (listed : Array Bool) : Prop := ∀ j, listed.getD j false = true → ∀ k ∈ waits md ops j, listed.getD k false = true
theorem closed_of {listed : Array Bool} (h : closedB md ops listed = true) : Closed md ops listed := fun j hj k hk => by
  have hjo : j < ops.size := by
    rcases Nat.lt_or_ge j ops.size with h1 | h1
    · exact h1
    · unfold waits at hk
      rw [Array.getElem?_eq_none h1] at hk; cases hk
  have h1 := List.all_eq_true.1 h j (List.mem_range.2 hjo)
  rw [hj] at h1
  simp only [Bool.not_true, Bool.false_or] at h1
  exact List.all_eq_true.1 h1 k hk
theorem waits_ready {listed : Array Bool} {j : Nat} (hj : j ∈ Region.ready md ops listed) : ∀ k ∈ waits md ops j, listed.getD k false = true := fun k hk => by
  obtain ⟨-, o, ho, hall⟩ := mem_ready.1 hj
  unfold waits at hk
  simp only [ho] at hk
  obtain ⟨e, he, rfl⟩ := List.mem_map.1 hk
  obtain ⟨he1, he2⟩ := List.mem_filter.1 he
  exact hall e (by simpa using he1) he2
theorem Closed.set {listed : Array Bool} (h : Closed md ops listed) {i : Nat} (hi : i ∈ Region.ready md ops listed) : Closed md ops (listed.setIfInBounds i true) := fun j hj k hk => by
  by_cases hij : i = j
  · subst hij; exact getD_set_true (waits_ready hi k hk)
  · rw [getD_set_ne false hij] at hj
    exact getD_set_true (h j hj k hk)
theorem waitsN_listed {listed : Array Bool} (h : Closed md ops listed) : ∀ (n : Nat) (S : List Nat), (∀ k ∈ S, listed.getD k false = true) → ∀ k ∈ waitsN md ops n S, listed.getD k false = true
  | 0, _, hS => hS
  | n + 1, S, hS => waitsN_listed h n _ fun k hk => by
    rw [List.mem_eraseDups] at hk
    rcases List.mem_append.1 hk with hk | hk
    · exact hS k hk
    · obtain ⟨j, hj, hk⟩ := List.mem_flatMap.1 hk
      exact h j (hS j hj) k hk
theorem waitsAll_spec {z : Nat} (h : waitsAll md ops z = true) {listed : Array Bool} (hc : Closed md ops listed) {i : Nat} (hi : i ∈ Region.ready md ops listed) (hne : i ≠ z) : z ∉ Region.ready md ops listed := fun hz => by
  obtain ⟨hi0, oi, hoi, -⟩ := mem_ready.1 hi
  obtain ⟨-, o, ho, -⟩ := mem_ready.1 hz
  unfold waitsAll at h
  simp only [ho, List.all_eq_true, List.mem_range] at h
  have h1 := h i (Array.getElem?_eq_some_iff.1 hoi).1
  simp only [Bool.or_eq_true, beq_iff_eq, hne, false_or, List.contains_iff_mem] at h1
  have h2 := waitsN_listed hc 3 _ (waits_ready hz) i h1
  rcases Nat.lt_or_ge i listed.size with h' | h'
  · simp [h'] at hi0 h2; rw [hi0] at h2; cases h2
  · simp [Array.getElem?_eq_none h'] at h2
/-- One value in every world of the class, and the world left alone. -/
def Oper.pureUpon (w : World) (v : Value) : Result Next → Prop
  | .ok (.value u) w' => w' = w ∧ u = v
  | .ok .skip w' => w' = w ∧ v = undef
  | _ => False
def Oper.pureAt (P : Program) (o : Oper) (a : Act) (w : World) (v : Value) : Prop := Oper.pureUpon w v ((execOp a.eval o).run P w)
def YieldsC (P : Program) (ops : Array Oper) (C : World → Prop) (o : Oper) (v : Value) (a : Act) : Prop :=
  (Region.wanted o (yielded ops a.tmps) = true ∧ ∀ w, C w → Oper.pureAt P o a w v) ∨ (Region.wanted o (yielded ops a.tmps) = false ∧ v = undef)
theorem YieldsC.lou {i : Nat} {o : Oper} {v : Value} {a : Act} {w : World} (hi : ops[i]? = some o) (hy : YieldsC P ops C o v a) (hw : C w) {K : Act → World → Prop} (h : K (a.put o.dst v) w) : louOp P ops i K a w := by
  unfold louOp
  simp only [hi]
  rcases hy with ⟨hwd, hv⟩ | ⟨hwd, rfl⟩
  · simp only [hwd, if_true]
    have h3 := hv w hw
    unfold Oper.pureAt at h3
    unfold Oper.wp
    generalize (execOp a.eval o).run P w = r at *
    cases r with
    | ok x w' =>
      cases x <;> simp only [Oper.pureUpon] at h3 <;> simp only [Oper.upon]
      case value u => obtain ⟨e1, e2⟩ := h3; rw [e1, e2]; exact h
      case skip => obtain ⟨e1, e2⟩ := h3; rw [e1, ← e2]; exact h
    | halt x w' => simp only [Oper.pureUpon] at h3
  · simp only [hwd, Bool.false_eq_true, if_false]; exact h
theorem YieldsC.of_same {o : Oper} {v : Value} {a a' : Act} (hy : YieldsC P ops C o v a) (he : execOp a'.eval o = execOp a.eval o) (hw : Region.wanted o (yielded ops a'.tmps) = Region.wanted o (yielded ops a.tmps)) : YieldsC P ops C o v a' := by
  unfold YieldsC Oper.pureAt at *
  rw [he, hw]
  exact hy
theorem put_defers (a : Act) (x : Option Tmp) (v : Value) : (a.put x v).defers = a.defers := by cases x <;> rfl
theorem put_with (a : Act) (x : Option Tmp) (v : Value) (ds : List Deferred) : { a.put x v with defers := ds } = ({ a with defers := ds } : Act).put x v := by cases x <;> rfl
theorem louOp_put {j : Nat} {oi oj : Oper} {v : Value} (hj : ops[j]? = some oj) (hap : oi.apart ops oj = true) (hsi : ∀ cs b, oi.op ≠ .select cs b) (hsj : ∀ cs b, oj.op ≠ .select cs b) {K : Act → World → Prop} {a : Act} {w : World}
    (hy : YieldsC P ops C oi v a) (h : louOp P ops j K (a.put oi.dst v) w) : louOp P ops j (fun a' w' => YieldsC P ops C oi v a' ∧ K (a'.put oi.dst v) w') a w := by
  obtain ⟨h1, h2, h3⟩ := Oper.apart_spec hap
  have keep : ∀ (b : Act), execOp b.eval oi = execOp a.eval oi → Region.wanted oi (yielded ops b.tmps) = Region.wanted oi (yielded ops a.tmps) → ∀ u, YieldsC P ops C oi v (b.put oj.dst u) := fun b e1 e2 u =>
    hy.of_same ((execOp_put oi hsi b oj.dst u h3).trans e1) ((wanted_put oi b oj.dst u h3).trans e2)
  unfold louOp at *
  simp only [hj] at *
  rw [wanted_put oj a oi.dst v h1] at h
  split
  · rename_i hw
    simp only [hw, if_true] at h
    unfold Oper.wp at *
    rw [execOp_put oj hsj a oi.dst v h1] at h
    generalize (execOp a.eval oj).run P w = r at *
    cases r with
    | ok n w' =>
      cases n <;> simp only [Oper.upon] at h ⊢
      case value u => exact ⟨keep a rfl rfl u, by rw [← Act.put_comm a v u h2]; exact h⟩
      case skip => exact ⟨keep a rfl rfl undef, by rw [← Act.put_comm a v undef h2]; exact h⟩
      case defer d =>
        refine ⟨keep { a with defers := d :: a.defers } rfl rfl undef, ?_⟩
        rw [← Act.put_comm _ v undef h2]
        rw [put_defers, put_with] at h
        exact h
      case enter f args =>
        refine h.mono fun e w'' he => ?_
        cases e with
        | returned u => exact ⟨keep a rfl rfl u, by rw [← Act.put_comm a v u h2]; exact he⟩
        | panicked c => exact he
        | outgrown => exact he
      case row r args => exact h.mono fun u w'' he => ⟨keep a rfl rfl u, by rw [← Act.put_comm a v u h2]; exact he⟩
    | halt x w' => cases x <;> simp only [Oper.upon] at h
  · rename_i hw
    simp only [hw] at h
    exact ⟨keep a rfl rfl _, by rw [← Act.put_comm a v undef h2]; exact h⟩
theorem wpAnyC_first {Q : Act → World → Prop} {z i : Nat} {oi : Oper} {v : Value} (hi : ops[i]? = some oi) (hsel : ∀ (j : Nat) (o : Oper) cs b, ops[j]? = some o → o.op ≠ .select cs b) (hz : waitsAll md ops z = true) (hiz : i ≠ z) :
    ∀ (fuel : Nat) (listed : Array Bool) (a : Act) (w : World),
      (∀ j oj, ops[j]? = some oj → j ≠ i → listed.getD j true = false → (∀ e ∈ oj.after, Region.binds md e = true → e.on ≠ i) → oi.apart ops oj = true) →
      i ∈ Region.ready md ops listed → Closed md ops listed → YieldsC P ops C oi v a → C w →
      wpAnyC P md ops C z Q fuel (listed.setIfInBounds i true) (a.put oi.dst v) w → wpAnyC P md ops C z Q (fuel + 1) listed a w := by
  intro fuel
  induction fuel with
  | zero =>
    intro listed a w _ hr _ hy hC H
    refine ⟨fun h => (by rw [h] at hr; cases hr), fun j hj => ?_⟩
    by_cases hji : j = i
    · subst hji; exact hy.lou hi hC ⟨fun _ => hC, H⟩
    · have := ready_mono hj hji
      rw [H.1] at this
      cases this
  | succ fuel ih =>
    intro listed a w hfree hr hcl hy hC H
    refine ⟨fun h => (by rw [h] at hr; cases hr), fun j hj => ?_⟩
    by_cases hji : j = i
    · subst hji; exact hy.lou hi hC ⟨fun _ => hC, H⟩
    · have h1 := H.2 j (ready_mono hj hji)
      have hjz : j ≠ z := fun e => waitsAll_spec hz hcl hr hiz (e ▸ hj)
      obtain ⟨hjun, oj, hoj, hall⟩ := mem_ready.1 hj
      have hnot : ∀ e ∈ oj.after, Region.binds md e = true → e.on ≠ i := fun e he hb heq => by
        have h1 := hall e he hb
        have h0 := (mem_ready.1 hr).1
        rw [heq] at h1
        rcases Nat.lt_or_ge i listed.size with h' | h'
        · simp [h'] at h0 h1; rw [h0] at h1; cases h1
        · simp [Array.getElem?_eq_none h'] at h1
      have h2 := louOp_put hoj (hfree j oj hoj hji hjun hnot) (fun cs b => hsel i oi cs b hi) (fun cs b => hsel j oj cs b hoj) hy h1
      have hfree' : ∀ k ok, ops[k]? = some ok → k ≠ i → (listed.setIfInBounds j true).getD k true = false →
          (∀ e ∈ ok.after, Region.binds md e = true → e.on ≠ i) → oi.apart ops ok = true := fun k ok hk hki hun hno => by
        refine hfree k ok hk hki ?_ hno
        by_cases hjk : j = k
        · subst hjk; exact hjun
        · rw [getD_set_ne true hjk] at hun; exact hun
      refine louOp_mono (fun a' w' h3 => ?_) h2
      obtain ⟨hC', h4⟩ := h3.2
      refine ⟨hC', ih (listed.setIfInBounds j true) a' w' hfree' (ready_mono hr (Ne.symm hji)) (hcl.set hj) h3.1 (hC' hjz) ?_⟩
      rw [Array.setIfInBounds_comm _ _ hji]
      exact h4
/-- A schedule: operations with 'true' only read, each of the others is the only one that may come up. -/
def wpSched (P : Program) (ops : Array Oper) (C : World → Prop) (Q : Act → World → Prop) : List (Nat × Bool) → Act → World → Prop
  | [], a, w => Q a w
  | (i, true) :: s, a, w => ∃ o v, ops[i]? = some o ∧ YieldsC P ops C o v a ∧ wpSched P ops C Q s (a.put o.dst v) w
  | (i, false) :: s, a, w => louOp P ops i (fun a' w' => C w' ∧ wpSched P ops C Q s a' w') a w
def schedB (md : Region.Mode) (ops : Array Oper) : List (Nat × Bool) → Array Bool → Bool
  | [], listed => (Region.ready md ops listed).isEmpty
  | (i, true) :: s, listed => (Region.ready md ops listed).contains i && Region.free md ops listed i && schedB md ops s (listed.setIfInBounds i true)
  | (i, false) :: s, listed => (Region.ready md ops listed == [i]) && schedB md ops s (listed.setIfInBounds i true)
theorem wpAnyC_sched {Q : Act → World → Prop} (hs : Region.noSelect ops = true) : ∀ (s : List (Nat × Bool)) (listed : Array Bool) (a : Act) (w : World), schedB md ops s listed = true → Closed md ops listed → C w → wpSched P ops C Q s a w → wpAnyC P md ops C ops.size Q s.length listed a w
  | [], _, _, _, hB, _, _, h => ⟨by simpa [schedB] using hB, h⟩
  | (i, true) :: s, listed, a, w, hB, hcl, hC, h => by
    simp only [schedB, Bool.and_eq_true] at hB
    obtain ⟨⟨hr, hf⟩, hB'⟩ := hB
    obtain ⟨o, v, ho, hy, hK⟩ := h
    exact wpAnyC_first ho (Region.noSelect_spec hs) (by simp [waitsAll]) (by have := (Array.getElem?_eq_some_iff.1 ho).1; omega) s.length listed a w (Region.free_spec ho hf) (by simpa using hr) hcl hy hC (wpAnyC_sched hs s _ _ w hB' (hcl.set (by simpa using hr)) hC hK)
  | (i, false) :: s, listed, a, w, hB, hcl, hC, h => by
    simp only [schedB, Bool.and_eq_true, beq_iff_eq] at hB
    obtain ⟨hr, hB'⟩ := hB
    refine ⟨(fun h0 => by rw [hr] at h0; cases h0), fun j hj => ?_⟩
    rw [hr] at hj
    obtain rfl : j = i := by simpa using hj
    exact louOp_mono (fun a' w' h' => ⟨fun _ => h'.1, wpAnyC_sched hs s _ a' w' hB' (hcl.set (by rw [hr]; simp)) h'.1 h'.2⟩) h
theorem getD_replicate_false' (m j : Nat) : (Array.replicate m false).getD j false = false := by
  rcases Nat.lt_or_ge j m with h | h
  · simp [h]
  · simp [Array.getElem?_eq_none (xs := Array.replicate m false) (by simpa using h)]
theorem wp_region_sched {id : Nat} {Q : Exit → Act → World → Prop} {a : Act} {w : World} (C : World → Prop) (s : List (Nat × Bool)) (hl : s.length = ops.size) (hm : P.follows .mixedOrders = true) (hs : Region.noSelect ops = true) (hB : schedB .any ops s (Array.replicate ops.size false) = true)
    (hC : C w.drew) (h : wpSched P ops C (fun a' w' => Q .normal a' w') s a w.drew) : (Code.region id ops true).wp P Q a w := by
  refine wp_region_any hm (wpAny_of_C (C := C) (z := ops.size) (Q := fun a' w' => Q .normal a' w') (fun _ _ h => h) _ _ _ _ ?_)
  have := wpAnyC_sched hs s (Array.replicate ops.size false) a w.drew hB (fun j hj => by rw [getD_replicate_false'] at hj; cases hj) hC h
  rw [hl] at this
  exact this
theorem sched_nil {Q : Act → World → Prop} {a : Act} {w : World} (h : Q a w) : wpSched P ops C Q [] a w := h
/-- An operation that only reads. -/
theorem sched_pure {Q : Act → World → Prop} {a : Act} {w : World} {i : Nat} {o : Oper} {s : List (Nat × Bool)} (ho : ops[i]? = some o)
    (h : ∀ K : Act → Prop, (∀ a', wpSched P ops C Q s a' w → K a') → if Region.wanted o (yielded ops a.tmps) then ∃ v, (∀ w', C w' → Oper.pureAt P o a w' v) ∧ K (a.put o.dst v) else K (a.put o.dst undef)) : wpSched P ops C Q ((i, true) :: s) a w := by
  have h1 := h (fun a' => wpSched P ops C Q s a' w) (fun _ h => h)
  by_cases hw : Region.wanted o (yielded ops a.tmps) = true
  · rw [if_pos hw] at h1
    obtain ⟨v, hv, hK⟩ := h1
    exact ⟨o, v, ho, .inl ⟨hw, hv⟩, hK⟩
  · rw [if_neg hw] at h1
    exact ⟨o, undef, ho, .inr ⟨by simpa using hw, rfl⟩, h1⟩
/-- One that does what it likes. -/
theorem sched_loud {Q : Act → World → Prop} {a : Act} {w : World} {i : Nat} {o : Oper} {s : List (Nat × Bool)} (ho : ops[i]? = some o)
    (h : ∀ K : Act → World → Prop, (∀ a' w', C w' → wpSched P ops C Q s a' w' → K a' w') → if Region.wanted o (yielded ops a.tmps) then o.wp P a w K (fun _ _ _ => False) else K (a.put o.dst undef) w) : wpSched P ops C Q ((i, false) :: s) a w := by
  show louOp P ops i _ a w
  unfold louOp
  simp only [ho]
  exact h _ (fun a' w' h1 h2 => ⟨h1, h2⟩)
/-! ### Step by step, where two operations that do what they like may come up -/
theorem anyC_pure {Q : Act → World → Prop} {z fuel : Nat} {listed : Array Bool} {a : Act} {w : World} (i : Nat) {o : Oper} (ho : ops[i]? = some o) (hs : Region.noSelect ops = true) (hz : (waitsAll md ops z && (!(i == z) && closedB md ops listed)) = true) (hr : ((Region.ready md ops listed).contains i && Region.free md ops listed i) = true) (hC : C w)
    (h : ∀ K : Act → Prop, (∀ a', wpAnyC P md ops C z Q fuel (listed.setIfInBounds i true) a' w → K a') → if Region.wanted o (yielded ops a.tmps) then ∃ v, (∀ w', C w' → Oper.pureAt P o a w' v) ∧ K (a.put o.dst v) else K (a.put o.dst undef)) : wpAnyC P md ops C z Q (fuel + 1) listed a w := by
  simp only [Bool.and_eq_true, Bool.not_eq_true', beq_eq_false_iff_ne] at hr hz
  have h1 := h (fun a' => wpAnyC P md ops C z Q fuel (listed.setIfInBounds i true) a' w) (fun _ h => h)
  by_cases hw : Region.wanted o (yielded ops a.tmps) = true
  · rw [if_pos hw] at h1
    obtain ⟨v, hv, hK⟩ := h1
    exact wpAnyC_first ho (Region.noSelect_spec hs) hz.1 hz.2.1 fuel listed a w (Region.free_spec ho hr.2) (by simpa using hr.1) (closed_of hz.2.2) (.inl ⟨hw, hv⟩) hC hK
  · rw [if_neg hw] at h1
    exact wpAnyC_first ho (Region.noSelect_spec hs) hz.1 hz.2.1 fuel listed a w (Region.free_spec ho hr.2) (by simpa using hr.1) (closed_of hz.2.2) (.inr ⟨by simpa using hw, rfl⟩) hC h1
theorem lou_of {i : Nat} {o : Oper} {K : Act → World → Prop} {a : Act} {w : World} (ho : ops[i]? = some o) (h : ∀ K' : Act → World → Prop, (∀ a' w', K a' w' → K' a' w') → if Region.wanted o (yielded ops a.tmps) then o.wp P a w K' (fun _ _ _ => False) else K' (a.put o.dst undef) w) : louOp P ops i K a w := by
  unfold louOp
  simp only [ho]
  exact h _ (fun _ _ h => h)
theorem anyC_loud {Q : Act → World → Prop} {z fuel : Nat} {listed : Array Bool} {a : Act} {w : World} (i : Nat) (hr : Region.ready md ops listed = [i]) (h : louOp P ops i (fun a' w' => (i ≠ z → C w') ∧ wpAnyC P md ops C z Q fuel (listed.setIfInBounds i true) a' w') a w) : wpAnyC P md ops C z Q (fuel + 1) listed a w := by
  refine ⟨(fun h0 => by rw [hr] at h0; cases h0), fun j hj => ?_⟩
  rw [hr] at hj
  obtain rfl : j = i := by simpa using hj
  exact h
theorem anyC_loud2 {Q : Act → World → Prop} {z fuel : Nat} {listed : Array Bool} {a : Act} {w : World} (i k : Nat) (hr : Region.ready md ops listed = [i, k]) (h : louOp P ops i (fun a' w' => (i ≠ z → C w') ∧ wpAnyC P md ops C z Q fuel (listed.setIfInBounds i true) a' w') a w) (h2 : louOp P ops k (fun a' w' => (k ≠ z → C w') ∧ wpAnyC P md ops C z Q fuel (listed.setIfInBounds k true) a' w') a w) : wpAnyC P md ops C z Q (fuel + 1) listed a w := by
  refine ⟨(fun h0 => by rw [hr] at h0; cases h0), fun j hj => ?_⟩
  rw [hr] at hj
  rcases List.mem_cons.1 hj with rfl | hj
  · exact h
  · obtain rfl : j = k := by simpa using hj
    exact h2
theorem anyC_done {Q : Act → World → Prop} {z fuel : Nat} {listed : Array Bool} {a : Act} {w : World} (hr : Region.ready md ops listed = []) (h : Q a w) : wpAnyC P md ops C z Q fuel listed a w := by
  cases fuel with
  | zero => exact ⟨hr, h⟩
  | succ f => exact ⟨fun _ => h, fun j hj => by rw [hr] at hj; cases hj⟩
/-- The region, cut off from what follows. -/
theorem wp_region_C {id : Nat} {Q : Exit → Act → World → Prop} {a : Act} {w : World} (C : World → Prop) (z : Nat) (I : Act → World → Prop) (hm : P.follows .mixedOrders = true) (h : wpAnyC P .any ops C z I ops.size (Array.replicate ops.size false) a w.drew) (hQ : ∀ a' w', I a' w' → Q .normal a' w') : (Code.region id ops true).wp P Q a w :=
  wp_region_any hm (wpAny_of_C (C := C) (z := z) (Q := I) hQ _ _ _ _ h)
/-- An append, its run being known. -/
theorem lou_append {i : Nat} {o : Oper} {K : Act → World → Prop} {a : Act} {w : World} (ho : ops[i]? = some o) (hgd : o.guard = none) (s x : Operand) (t tx : TypeId) (hop : o.op = .call { callee := .builtin .append, args := #[s, x], argTypes := #[t, tx] }) (v xv : Value) (hs : a.eval s = v) (hx : a.eval x = xv) {v' : Value} {w' : World}
    (hr : (Builtin.append_ #[t, tx] o.type #[v, xv]).run P w = .ok v' w') (h : K (a.put o.dst v') w') : louOp P ops i K a w := by
  unfold louOp
  simp only [ho]
  have hw : Region.wanted o (yielded ops a.tmps) = true := by simp [Region.wanted, hgd]
  rw [if_pos hw]
  unfold Oper.wp
  simp [execOp, hop, resolve, invoke, builtin, hs, hx, hr, Result.andThen, Oper.upon]
  exact h
end
end Go.Proofs.YtglaocghcgcghaaGreatDoor
namespace Go.Proofs.YtglaocghcgcghaaGreatDoor
open Go.RowKit


theorem zig_any (n : Int) (w : World) (h1 : -9223372036854775808 ≤ n) (h2 : n ≤ 9223372036854775807) :
    Calls Tryz.prog 84 #[.int .i64 n] w fun e w' => e = .returned (.int .u64 (zigZ n)) ∧ w' = w := by
  have hz := zig_text n h1 h2
  go_enter Tryz.func84, Tryz.ntmps84
  go_wp2
  go_ret
  exact ⟨rfl, rfl⟩

theorem zag_any (u : Int) (w : World) (h1 : 0 ≤ u) (h2 : u ≤ 18446744073709551615) :
    Calls Tryz.prog 176 #[.int .u64 u] w fun e w' => e = .returned (.int .i64 (zagZ u)) ∧ w' = w := by
  by_cases h : u % 2 = 1
  · have e1 : zagZ u = -(u / 2) - 1 := by unfold zagZ; rw [if_pos h]
    rw [e1]
    have ht : (u % 2 == 1) = true := by simp [h]
    clear e1 h
    go_enter Tryz.func176, Tryz.ntmps176
    go_wp2
    go_ret
    exact ⟨rfl, rfl⟩
  · have e1 : zagZ u = u / 2 := by unfold zagZ; rw [if_neg h]
    rw [e1]
    have ht : (u % 2 == 1) = false := by simp [h]
    clear e1 h
    go_enter Tryz.func176, Tryz.ntmps176
    go_wp2
    go_ret
    exact ⟨rfl, rfl⟩
/-- The table lies where it lies. -/
def Tab (w : World) : Prop := ∀ j, j < 16 → w.cell? ⟨0, j, none⟩ = some (.int .u32 (tabZ.getD j 0))
set_option maxHeartbeats 400000 in
theorem sumOn_any (s : Int) (ao : Option Addr) (l : List UInt8) (cap : Nat) (w : World) (hs : 0 ≤ s ∧ s ≤ 4294967295) (hl : l.length ≤ maxLen) (ht : Tab w) (hc : Sees w ao l) :
    Calls Tryz.prog 102 #[.int .u32 s, .slice ao l.length cap] w fun e w' => e = .returned (.int .u32 (sumOnZ s l)) ∧ w' = w := by
  unfold maxLen at hl
  go_enter Tryz.func102, Tryz.ntmps102
  go_wp2
  go_loop [0, 9] (fun t i => ∃ k : Nat, k ≤ l.length ∧ i = .int .i64 k ∧ t = .int .u32 (sumOnZ s (l.take k))) (fun _ i => l.length - (intOf i).toNat)
  case atStart => exact ⟨0, Nat.zero_le _, rfl, rfl⟩
  case round =>
    obtain ⟨k, hk, rfl, rfl⟩ := hrel
    have hbd := sumOnZ_bd s (l.take k) hs
    by_cases hlt : k < l.length
    · have hst : Hid (sumOnZ s (l.take (k + 1)) = byteZ (sumOnZ s (l.take k)) ((l.getD k 0).toNat : Int)) := sumOnZ_take s l k hlt
      obtain ⟨a, rfl, hca⟩ := hc k hlt
      have hx : 0 ≤ ((l.getD k 0).toNat : Int) ∧ ((l.getD k 0).toNat : Int) ≤ 255 := by have := (l.getD k 0).toNat_lt; omega
      clear hc
      generalize hS : sumOnZ s (l.take k) = S at *
      generalize ((l.getD k 0).toNat : Int) = x at *
      clear hS
      obtain ⟨A, hA⟩ : ∃ A, bits BinOp.xor IntKind.u32 S x = A := ⟨_, rfl⟩
      have hA0 : 0 ≤ A ∧ A ≤ 4294967295 := hA ▸ bits_u32 _ _ _
      have c1 : w.cell? ⟨0, (A % 16).toNat, none⟩ = some (.int .u32 (tabZ.getD (A % 16).toNat 0)) := ht _ (by omega)
      have hB1 : Hid (fourZ A = bits BinOp.xor IntKind.u32 (A / 16) (tabZ.getD (A % 16).toNat 0)) := rfl
      generalize tabZ.getD (A % 16).toNat 0 = T1 at *
      obtain ⟨B, hB⟩ : ∃ B, bits BinOp.xor IntKind.u32 (A / 16) T1 = B := ⟨_, rfl⟩
      have hB0 : 0 ≤ B ∧ B ≤ 4294967295 := hB ▸ bits_u32 _ _ _
      have c2 : w.cell? ⟨0, (B % 16).toNat, none⟩ = some (.int .u32 (tabZ.getD (B % 16).toNat 0)) := ht _ (by omega)
      have hC1 : Hid (fourZ B = bits BinOp.xor IntKind.u32 (B / 16) (tabZ.getD (B % 16).toNat 0)) := rfl
      generalize tabZ.getD (B % 16).toNat 0 = T2 at *
      have hend : Hid (sumOnZ s (l.take (k + 1)) = bits BinOp.xor IntKind.u32 (B / 16) T2) := by
        refine hst.out.trans ?_
        unfold byteZ
        rw [hA, hB1.out, hB, hC1.out]
      clear hst hB1 hC1 ht
      go_wp2
      go_round
      case rel => exact ⟨k + 1, by omega, by go_num, by rw [hend.out]⟩
      case measure => simp [intOf]; omega
    · go_wp2
      go_ret
      exact ⟨ret_int (by rw [List.take_of_length_le (by omega)]), rfl⟩

theorem sumOn_len (s : Int) (ao : Option Addr) (l : List UInt8) (n cap : Nat) (w : World) (hs : 0 ≤ s ∧ s ≤ 4294967295) (hn : l.length = n) (hl : n ≤ maxLen) (ht : Tab w) (hc : Sees w ao l) :
    Calls Tryz.prog 102 #[.int .u32 s, .slice ao n cap] w fun e w' => e = .returned (.int .u32 (sumOnZ s l)) ∧ w' = w := by
  subst hn
  exact sumOn_any s ao l cap w hs hl ht hc

end Go.Proofs.YtglaocghcgcghaaGreatDoor
namespace Go.Proofs.YtglaocghcgcghaaGreatDoor
open Go.RowKit

/-- The bytes l in a row that is new since wa; all that was there is as it was. -/
structure Aw (wa : World) (w1 : World) (v : Value) (l : List UInt8) : Prop where
  own : w1.ownsRow wa.heap.size 5 1 v l.length (B8 l)
  bel : Below wa.heap.size wa w1
theorem Aw.cell {wa w1 : World} {v : Value} {l : List UInt8} (h : Aw wa w1 v l) {a : Addr} {u : Value} (hc : wa.cell? a = some u) : w1.cell? a = some u := by
  rw [h.bel.cell (World.block_lt_of_cell? _ _ hc), hc]
theorem Aw.start {wa w : World} (hB : Below w.heap.size w wa) {w1 : World} {v : Value} {l : List UInt8} (h : Aw wa w1 v l) : Aw w w1 v l :=
  ⟨⟨h.own.1, h.own.2.imp id fun ⟨g, cap, cur, a, b, c⟩ => ⟨g, cap, cur, a, Nat.le_trans hB.size b, c⟩⟩, hB.trans (h.bel.mono hB.size)⟩
theorem encT_le (s : ByteArray) (h : s.size ≤ 2000000) : (encT (nb s)).length ≤ 4000002 := by
  rw [encT_len]; have := esc_len (nb s); rw [nb_size] at this; omega

end Go.Proofs.YtglaocghcgcghaaGreatDoor

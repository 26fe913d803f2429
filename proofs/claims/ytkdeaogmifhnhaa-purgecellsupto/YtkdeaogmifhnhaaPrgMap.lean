/-
  A MAP WHOSE KEYS ARE KEYS OF CELLS, AS A SET: what a look-up and a store make of it.
-/
import Derived.Test.YtkdeaogmifhnhaaKeyCmp
import Derived.MapKept
namespace Go.Proofs.Ytkdeaogmifhnhaa
open Go.RowKit

/-- Two keys are one, as the walk spells it. -/
def eqKm (a b : Kb) : Bool := a.t.toList == b.t.toList && (a.p.toList == b.p.toList && (a.r == b.r && a.c.toList == b.c.toList))
theorem eqKm_iff (a b : Kb) : eqKm a b = true ↔ a = b := by
  unfold eqKm
  rw [ba_same, ba_same, ba_same]
  cases a; cases b
  simp only [Bool.and_eq_true, decide_eq_true_eq, beq_iff_eq, Kb.mk.injEq]
def prE (e : MapEntry) : Value × Value := (e.key, e.val)
def prKb (k : Kb) : Value × Value := (k.v, .agg #[])
theorem kv_inj {a b : Kb} (h : a.v = b.v) : a = b := by
  obtain ⟨a1, a2, a3, a4⟩ := a
  obtain ⟨b1, b2, b3, b4⟩ := b
  simp only [Kb.v, Value.agg.injEq] at h
  simp at h
  simp [h]
/-- The map in the block b has the keys of S, and no other. -/
def KMap (w : World) (b : Nat) (S : List Kb) : Prop := ∃ (es : Array MapEntry) (clock : Nat) (ks : List Kb), w.heap[b]? = some (.map es clock) ∧ es.toList.map prE = ks.map prKb ∧ ∀ k, k ∈ ks ↔ k ∈ S
theorem KMap.lt {w : World} {b : Nat} {S : List Kb} (h : KMap w b S) : b < w.heap.size := by
  obtain ⟨es, cl, ks, h1, _⟩ := h
  exact (Array.getElem?_eq_some_iff.1 h1).1
theorem KMap.same {w w' : World} {b : Nat} {S : List Kb} (h : KMap w b S) (he : w'.heap[b]? = w.heap[b]?) : KMap w' b S := by
  obtain ⟨es, cl, ks, h1, h2⟩ := h
  exact ⟨es, cl, ks, he.trans h1, h2⟩
theorem KMap.below {w w' : World} {b : Nat} {S : List Kb} (h : KMap w b S) {B : Nat} (hb : Below B w w') (hB : b < B) : KMap w' b S := h.same (hb.block b hB)
theorem KMap.new (w : World) : KMap (w.alloc (.map #[] 0)) w.heap.size [] := ⟨#[], 0, [], heap_alloc_new w _, rfl, fun _ => Iff.rfl⟩
theorem bytes_self (a : ByteArray) : (a == a) = true := by
  show (a.data == a.data) = true
  exact beq_self_eq_true _
theorem keyT : Try.prog.underlying 61 = some (.map 29 62) := Try.underlying61
theorem check_run (em : Bool) (k : Kb) (w : World) : (Instr.checkKey em 10000 29 k.v).run Try.prog w = .ok () w := by
  obtain ⟨a1, a2, a3, a4⟩ := k
  kernel_rfl
theorem eql_run (a b : Kb) (w : World) : (binOp BinOp.eql 29 a.v b.v).run Try.prog w = .ok (.bool (eqKm a b)) w := by
  obtain ⟨a1, a2, a3, a4⟩ := a
  obtain ⟨b1, b2, b3, b4⟩ := b
  unfold Kb.v eqKm
  go_simp
  by_cases e0 : a1.toList = b1.toList
  case neg => simp [e0]
  by_cases e1 : a2.toList = b2.toList
  case neg => simp [e0, e1]
  by_cases e2 : a3 = b3
  case neg => simp [e0, e1, e2]
  by_cases e3 : a4.toList = b4.toList
  case neg => simp [e0, e1, e2, e3]
  simp [e0, e1, e2, e3]
theorem equal_run (a b : Kb) (w : World) : (Op.equal 29 a.v b.v).run Try.prog w = .ok (eqKm a b) w := by
  have h := eql_run a b w
  have h2 : (binOp BinOp.eql 29 a.v b.v).run Try.prog w = ((Op.equal 29 a.v b.v).run Try.prog w).andThen fun r w => .ok (.bool r) w := by
    have h3 : binOp BinOp.eql 29 a.v b.v = (do pure (Value.bool (← Op.equal 29 a.v b.v))) := rfl
    rw [h3, Sem.run_bind]
    congr 1
  rw [h2] at h
  cases hq : (Op.equal 29 a.v b.v).run Try.prog w with
  | ok r u =>
    rw [hq] at h
    simp only [Result.andThen, Result.ok.injEq, Value.bool.injEq] at h
    rw [h.1, h.2]
  | _ => rw [hq] at h; cases h
theorem stays_run (k : Kb) (w : World) : (Instr.keyThatStays k.v k.v).run Try.prog w = .ok k.v w := by
  obtain ⟨a1, a2, a3, a4⟩ := k
  have h : Instr.sameBits 10000 (Kb.v ⟨a1, a2, a3, a4⟩) (Kb.v ⟨a1, a2, a3, a4⟩) = true := by
    unfold Kb.v
    simp [Instr.sameBits, bytes_self]
  unfold Instr.keyThatStays
  rw [if_pos h]
  rfl
theorem asking_run (k : Kb) (w : World) : ∀ (es : List MapEntry) (ks : List Kb) (i : Nat), es.map prE = ks.map prKb →
    (¬ k ∈ ks ∧ (Instr.findAsking 29 k.v es i).run Try.prog w = .ok none w) ∨ (k ∈ ks ∧ ∃ j e, es[j]? = some e ∧ e.key = k.v ∧ e.val = .agg #[] ∧ (Instr.findAsking 29 k.v es i).run Try.prog w = .ok (some (i + j, .agg #[])) w) := by
  intro es
  induction es with
  | nil =>
    intro ks i h
    cases ks with
    | nil => exact .inl ⟨by simp, rfl⟩
    | cons a r => simp at h
  | cons e es ih =>
    intro ks i h
    cases ks with
    | nil => simp at h
    | cons a r =>
      simp only [List.map_cons, List.cons.injEq] at h
      obtain ⟨h1, h2⟩ := h
      have hk : e.key = a.v := congrArg Prod.fst h1
      have hv : e.val = .agg #[] := congrArg Prod.snd h1
      have hq := equal_run k a w
      have hstep : (Instr.findAsking 29 k.v (e :: es) i).run Try.prog w = if eqKm k a = true then .ok (some (i, e.val)) w else (Instr.findAsking 29 k.v es (i + 1)).run Try.prog w := by
        rw [Instr.findAsking]
        simp only [Sem.run_bind, hk, hq, Result.andThen]
        split <;> rfl
      by_cases hka : k = a
      · right
        refine ⟨by rw [hka]; exact List.mem_cons_self .., 0, e, rfl, by rw [hk, hka], hv, ?_⟩
        rw [hstep, if_pos ((eqKm_iff _ _).2 hka), hv]
        rfl
      · have hne : ¬ eqKm k a = true := fun h => hka ((eqKm_iff _ _).1 h)
        rw [hstep, if_neg hne]
        rcases ih r (i + 1) h2 with ⟨g1, g2⟩ | ⟨g1, j, e', g2, g3, g4, g5⟩
        · exact .inl ⟨fun hm => by rcases List.mem_cons.1 hm with h | h; exact hka h; exact g1 h, g2⟩
        · exact .inr ⟨List.mem_cons_of_mem _ g1, j + 1, e', g2, g3, g4, by rw [g5, show i + 1 + j = i + (j + 1) by omega]⟩
set_option maxRecDepth 100000 in
theorem find_run (k : Kb) (w : World) (es : List MapEntry) (ks : List Kb) (h : es.map prE = ks.map prKb) :
    (¬ k ∈ ks ∧ (Instr.findKey 29 k.v es).run Try.prog w = .ok none w) ∨ (k ∈ ks ∧ ∃ j e, es[j]? = some e ∧ e.key = k.v ∧ e.val = .agg #[] ∧ (Instr.findKey 29 k.v es).run Try.prog w = .ok (some (j, .agg #[])) w) := by
  cases es with
  | nil =>
    left
    cases ks with
    | nil => exact ⟨by simp, by kernel_rfl⟩
    | cons a r => simp at h
  | cons e es =>
    have hf : (Instr.findKey 29 k.v (e :: es)).run Try.prog w = (Instr.findAsking 29 k.v (e :: es) 0).run Try.prog w := by
      unfold Instr.findKey
      simp only [Sem.run_bind, run_underlying Try.underlying29, Result.andThen]
      rfl
    rw [hf]
    rcases asking_run k w (e :: es) ks 0 h with h1 | ⟨h1, j, e', h2, h3, h4, h5⟩
    · exact .inl h1
    · exact .inr ⟨h1, j, e', h2, h3, h4, by rw [h5, Nat.zero_add]⟩
def hasK (S : List Kb) (k : Kb) : Bool := S.any (eqKm k)
theorem hasK_iff {S : List Kb} {k : Kb} : hasK S k = true ↔ k ∈ S := by
  unfold hasK
  rw [List.any_eq_true]
  exact ⟨fun ⟨x, hx, he⟩ => ((eqKm_iff _ _).1 he) ▸ hx, fun h => ⟨k, h, (eqKm_iff _ _).2 rfl⟩⟩
set_option maxRecDepth 100000 in
theorem KMap.look {w : World} {b : Nat} {S : List Kb} (h : KMap w b S) (k : Kb) :
    (Instr.lookup 61 (.map (some b)) k.v true).run Try.prog w = .ok (.tuple #[.agg #[], .bool (hasK S k)]) w := by
  obtain ⟨es, cl, ks, h1, h2, h3⟩ := h
  rcases find_run k w es.toList ks h2 with ⟨g1, g2⟩ | ⟨g1, j, e, _, _, _, g2⟩
  · have : hasK S k = false := by
      rw [Bool.eq_false_iff]
      exact fun hh => g1 ((h3 k).2 (hasK_iff.1 hh))
    rw [this]
    simp [Instr.lookup, run_underlying keyT, MapKept.run_getObj_map h1, check_run, g2, Result.andThen, Try.zeroValue62 w]
  · have : hasK S k = true := hasK_iff.2 ((h3 k).1 g1)
    rw [this]
    simp [Instr.lookup, run_underlying keyT, MapKept.run_getObj_map h1, check_run, g2, Result.andThen]
set_option maxRecDepth 100000 in
theorem KMap.put {w : World} {b : Nat} {S : List Kb} (h : KMap w b S) (k : Kb) :
    ∃ o, (Instr.mapUpdate 61 (.map (some b)) k.v (.agg #[])).run Try.prog w = .ok () { w with heap := w.heap.setIfInBounds b o } ∧ KMap { w with heap := w.heap.setIfInBounds b o } b (S ++ [k]) := by
  have hlt := h.lt
  obtain ⟨es, cl, ks, h1, h2, h3⟩ := h
  have hset : ∀ o, (w.heap.setIfInBounds b o)[b]? = some o := fun o => by simp [hlt]
  rcases find_run k w es.toList ks h2 with ⟨g1, g2⟩ | ⟨g1, j, e, he, hk, hv, g2⟩
  · refine ⟨.map (es.push ⟨k.v, .agg #[], cl⟩) (cl + 1), ?_, ⟨_, _, ks ++ [k], hset _, ?_, ?_⟩⟩
    · simp [Instr.mapUpdate, run_underlying keyT, MapKept.run_getObj_map h1, check_run, g2, MapKept.run_setObj_map _ h1, Result.andThen]
    · rw [Array.toList_push, List.map_append, List.map_append, h2]
      rfl
    · intro k'
      rw [List.mem_append, List.mem_append, h3]
  · have he' : es[j]? = some e := by simpa using he
    refine ⟨.map (es.modify j fun e => { e with key := k.v, val := .agg #[] }) cl, ?_, ⟨_, _, ks, hset _, ?_, ?_⟩⟩
    · simp [Instr.mapUpdate, run_underlying keyT, MapKept.run_getObj_map h1, check_run, g2, he', hk, stays_run, MapKept.run_setObj_map _ h1, Result.andThen]
    · rw [← h2]
      apply List.ext_getElem?
      intro n
      simp only [List.getElem?_map, Array.toList_modify, List.getElem?_modify]
      by_cases hn : j = n
      · subst hn
        simp only [if_true]
        rw [he]
        simp [prE, hk, hv]
      · simp [hn]
    · intro k'
      rw [List.mem_append, List.mem_singleton, h3]
      exact ⟨.inl, fun h => h.elim id fun e => e ▸ (h3 k).1 g1⟩
theorem below_map {w : World} {b : Nat} (o : Obj) {B : Nat} (hB : B ≤ b) : Below B w { w with heap := w.heap.setIfInBounds b o } :=
  ⟨rfl, rfl, rfl, by simp, fun k hk => by simp only [Array.getElem?_setIfInBounds]; rw [if_neg (by omega)]⟩
end Go.Proofs.Ytkdeaogmifhnhaa

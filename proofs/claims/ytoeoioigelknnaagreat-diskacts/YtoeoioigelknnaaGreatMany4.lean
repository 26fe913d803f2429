/-
  SEVERAL TEXTS IN ONE: DskMap, DskFind, RegCl.
-/
import Derived.Test.YtoeoioigelknnaaGreatMany3
import Derived.Test.YtoeoioigelknnaaGreatOwn
import Derived.WalkKit
import Derived.Deep.QuietTactic
import Derived.BigQuiet
namespace Go.Proofs.YtoeoioigelknnaaGreat
open Go.RowKit Go.Maps Go.MapKept

theorem law : Keyed Tryz.prog 9 := string_keyed Tryz.underlying9
def find (fs : List Ent) (nm : List UInt8) : Option Ent := fs.find? fun e => e.nm == nm
theorem find_some {fs : List Ent} {nm : List UInt8} {e : Ent} (h : find fs nm = some e) : e ∈ fs ∧ e.nm = nm := by
  unfold find at h
  exact ⟨List.mem_of_find?_eq_some h, by simpa using List.find?_some h⟩
theorem same_str (a b : List UInt8) : (Lit.string a).sameKey (.string b) = (a == b) := rfl
theorem datum_at (fs : List Ent) (nm : List UInt8) (z : DataW Unit) : (datum fs).atKey (.string nm) z = match find fs nm with | some e => .lit (.int .i64 (e.b : Int)) | none => z := by
  unfold datum find DataW.atKey
  simp only [List.find?_map]
  have : ((fun p : Lit × DataW Unit => p.1.sameKey (.string nm)) ∘ encE) = fun e => e.nm == nm := rfl
  rw [this]
  cases fs.find? fun e => e.nm == nm <;> rfl
theorem datum_has (fs : List Ent) (nm : List UInt8) : Maps.has (datum fs) (.string nm) = (find fs nm).isSome := by
  unfold datum find
  rw [has_eq, List.any_map]
  have : ((fun p : Lit × DataW Unit => p.1.sameKey (.string nm)) ∘ encE) = fun e => e.nm == nm := rfl
  rw [this, List.isSome_find?]
theorem datum_size (fs : List Ent) : Maps.size (datum fs) = fs.length := by unfold datum; rw [size_eq, List.length_map]
/-- No two files have one name. -/
theorem DiskAt.names {w : World} {d bm : Nat} {S : St} (h : DiskAt w d bm S) : S.fs.Pairwise fun x y => x.nm ≠ y.nm := by
  obtain ⟨es, he, hp, _⟩ := h.map.entries law
  have : es = S.fs.map encE := by cases he; rfl
  rw [this, List.pairwise_map] at hp
  exact hp.imp fun hne e => hne (by simp [encE, e])
theorem find_of_mem {fs : List Ent} (hp : fs.Pairwise fun x y => x.nm ≠ y.nm) {e : Ent} (he : e ∈ fs) : find fs e.nm = some e := by
  unfold find
  induction fs with
  | nil => cases he
  | cons x r ih =>
    rw [List.pairwise_cons] at hp
    rcases List.mem_cons.1 he with rfl | h
    · simp
    · have hne : (x.nm == e.nm) = false := by rw [beq_eq_false_iff_ne]; exact hp.1 e h
      rw [List.find?_cons, hne]
      exact ih hp.2 h

/-- A look-up: there is none. -/
theorem look_none {w : World} {bm n : Nat} {fs : List Ent} (h : w.ownsMap Tryz.prog 9 ptrElem bm n (datum fs)) {s : ByteArray} (hs : s.size ≤ maxLen) (hf : find fs s.data.toList = none) :
    (Instr.lookup 42 (.map (some bm)) (.string s) false).run Tryz.prog w = .ok (.pointer none) w := by
  have hk := Go.WideMaps.keyOf_string_mk (P := Tryz.prog) Tryz.underlying9 hs
  have hd := datum_at fs s.data.toList
  rw [hf] at hd
  obtain ⟨es, clock, hb, F, _, hD⟩ := h
  rw [hD] at hd
  rcases Maps.fit_look false law Tryz.underlying42 (Tryz.zeroValue70 w) hb F hk with ⟨hrun, _, _⟩ | ⟨e0, y, _, _, hrun, hRv, hat, _⟩
  · exact hrun
  · have := (hat (.nil)).symm.trans (hd .nil)
    have h2 := (hat (.lit (.bool true))).symm.trans (hd (.lit (.bool true)))
    rw [this] at h2
    cases h2
/-- A look-up: there it is. -/
theorem look_some {w : World} {bm n : Nat} {fs : List Ent} (h : w.ownsMap Tryz.prog 9 ptrElem bm n (datum fs)) {s : ByteArray} (hs : s.size ≤ maxLen) {e : Ent} (hf : find fs s.data.toList = some e) :
    (Instr.lookup 42 (.map (some bm)) (.string s) false).run Tryz.prog w = .ok (.pointer (some ⟨e.b, 0, none⟩)) w := by
  have hk := Go.WideMaps.keyOf_string_mk (P := Tryz.prog) Tryz.underlying9 hs
  have hd := datum_at fs s.data.toList
  rw [hf] at hd
  obtain ⟨es, clock, hb, F, _, hD⟩ := h
  rw [hD] at hd
  rcases Maps.fit_look false law Tryz.underlying42 (Tryz.zeroValue70 w) hb F hk with ⟨hrun, _, hat⟩ | ⟨e0, y, _, _, hrun, hRv, hat, _⟩
  · have := (hat .nil).symm.trans (hd .nil)
    cases this
  · obtain ⟨b, hv, hy⟩ := ptrElem_inv hRv
    have h1 := (hat .nil).symm.trans (hd .nil)
    rw [hy] at h1
    cases h1
    rw [hrun]
    show Result.ok e0.val w = _
    rw [hv]
    rfl

/-! ### a name is put in, a name goes -/
def insE (e : Ent) : List Ent → List Ent
  | [] => [e]
  | y :: r => if bytesBefore e.nm y.nm then e :: y :: r else y :: insE e r
def dropE (fs : List Ent) (nm : List UInt8) : List Ent := fs.filter fun x => !(x.nm == nm)
def putE (fs : List Ent) (e : Ent) : List Ent := insE e (dropE fs e.nm)
theorem datum_drop (fs : List Ent) (nm : List UInt8) : (datum fs).del (.string nm) = datum (dropE fs nm) := by
  unfold datum dropE DataW.del
  simp only [List.filter_map]
  rfl
theorem ins_map (e : Ent) (fs : List Ent) : DataW.insert (encE e) (fs.map encE) = (insE e fs).map encE := by
  induction fs with
  | nil => rfl
  | cons y r ih =>
    simp only [List.map_cons, DataW.insert, insE]
    have : (encE e).1.before (encE y).1 = bytesBefore e.nm y.nm := rfl
    rw [this, ih]
    split <;> rfl
theorem datum_put (fs : List Ent) (e : Ent) : (datum fs).put (.string e.nm) (.lit (.int .i64 (e.b : Int))) = datum (putE fs e) := by
  unfold datum putE DataW.put dropE
  rw [← ins_map]
  simp only [List.filter_map]
  rfl
theorem perm_insE (e : Ent) (fs : List Ent) : (insE e fs).Perm (e :: fs) := by
  induction fs with
  | nil => exact List.Perm.refl _
  | cons y r ih =>
    unfold insE
    split
    · exact List.Perm.refl _
    · exact (List.Perm.cons y ih).trans (List.Perm.swap e y r)
theorem perm_putE (fs : List Ent) (e : Ent) : (putE fs e).Perm (e :: dropE fs e.nm) := perm_insE e _
theorem mem_dropE {fs : List Ent} {nm : List UInt8} {x : Ent} : x ∈ dropE fs nm ↔ x ∈ fs ∧ x.nm ≠ nm := by
  unfold dropE
  rw [List.mem_filter]
  simp
theorem feet_perm {a b : List Ent} (h : a.Perm b) : (feet a).Perm (feet b) := h.flatMap_right _

/-! ### what was gone over -/
def vis (left : Lit → Bool) (fs : List Ent) : List Ent := fs.filter fun e => !left (.string e.nm)
theorem vis_start (fs : List Ent) (hp : fs.Pairwise fun x y => x.nm ≠ y.nm) : vis (Maps.has (datum fs)) fs = [] := by
  unfold vis
  rw [List.filter_eq_nil_iff]
  intro e he
  rw [datum_has, find_of_mem hp he]
  simp
theorem vis_end {left : Lit → Bool} (fs : List Ent) (h : ∀ kl, left kl = false) : vis left fs = fs := by
  unfold vis
  rw [List.filter_eq_self]
  intro e _
  rw [h]
  rfl
theorem vis_step {left : Lit → Bool} {fs : List Ent} (hp : fs.Pairwise fun x y => x.nm ≠ y.nm) {e : Ent} (he : e ∈ fs) (hl : left (.string e.nm) = true) :
    (vis (fun z => left z && !z.sameKey (.string e.nm)) fs).Perm (e :: vis left fs) := by
  induction fs with
  | nil => cases he
  | cons x r ih =>
    rw [List.pairwise_cons] at hp
    unfold vis
    rcases List.mem_cons.1 he with rfl | h
    · have hrest : r.filter (fun y => !(left (.string y.nm) && !(Lit.string y.nm).sameKey (.string e.nm))) = r.filter fun y => !left (.string y.nm) := by
        apply List.filter_congr
        intro y hy
        have : (y.nm == e.nm) = false := by rw [beq_eq_false_iff_ne]; exact fun e' => hp.1 y hy e'.symm
        rw [same_str, this]
        simp
      rw [List.filter_cons, List.filter_cons]
      simp only [same_str, beq_self_eq_true, Bool.not_true, Bool.and_false, Bool.not_false, if_true, hl]
      simp only [same_str] at hrest
      simp only [hrest]
      exact List.Perm.refl _
    · have hne : (x.nm == e.nm) = false := by rw [beq_eq_false_iff_ne]; exact hp.1 e h
      rw [List.filter_cons, List.filter_cons]
      simp only [same_str, hne, Bool.not_false, Bool.and_true]
      have ih' := ih hp.2 h
      unfold vis at ih'
      simp only [same_str] at ih'
      split
      · exact (List.Perm.cons x ih').trans (List.Perm.swap e x _)
      · exact ih'
end Go.Proofs.YtoeoioigelknnaaGreat
namespace Go.Proofs.YtoeoioigelknnaaGreat
open Go.RowKit Go.Maps

def nameOf (s : ByteArray) : List UInt8 := s.data.toList
/-- What is wrong ahead of looking for a file. -/
def refuse (on : Bool) (L : List ByteArray) : Int := if on then (if L.all (fun s => goodB (nameOf s)) then 0 else 3) else 9
theorem refuse_on {on : Bool} {L : List ByteArray} (h : refuse on L = 0) : on = true := by
  cases on
  · simp [refuse] at h
  · rfl

set_option maxRecDepth 100000 in
theorem refusal_any {w : World} {d bm : Nat} {S : St} (h : DiskAt w d bm S) (g cap : Nat) (L : List ByteArray) (hL : L.length ≤ 2) (hs : ∀ s ∈ L, s.size ≤ maxLen) (hc : ∀ i, i < L.length → w.cell? ⟨g, i, none⟩ = some (.string (L.getD i ByteArray.empty))) :
    Calls Tryz.prog 42 #[.pointer (some ⟨d, 0, none⟩), .slice (some ⟨g, 0, none⟩) L.length cap] w fun x w' => x = .returned (.int .i64 (refuse S.on L)) ∧ w' = w := by
  have M : Hid (Calls Tryz.prog 49 #[.pointer (some ⟨d, 0, none⟩)] w fun e w' => e = .returned (.bool true) ∧ w' = w) := made_any d bm w h.c0
  have c2 := h.c2
  clear h
  cases hon : S.on
  · rw [hon] at c2
    go_enter Tryz.func42, Tryz.ntmps42
    go_wp2_with (go_at_call 49; refine M.out.mono ?_; rintro e w1 ⟨rfl, rfl⟩)
    go_ret
    exact ⟨rfl, rfl⟩
  · rw [hon] at c2
    have hLi : (L.length : Int) ≤ 2 := by omega
    have HC : Hid (∀ i, i < L.length → w.cell? ⟨g, i, none⟩ = some (.string (L.getD i ByteArray.empty))) := hc
    have HS : Hid (∀ s ∈ L, s.size ≤ maxLen) := hs
    clear hc hs
    go_enter Tryz.func42, Tryz.ntmps42
    go_wp2_with (go_at_call 49; refine M.out.mono ?_; rintro e w1 ⟨rfl, rfl⟩)
    go_loop [19] (fun i => ∃ k : Nat, k ≤ L.length ∧ i = .int .i64 k ∧ ∀ j, j < k → goodB (nameOf (L.getD j ByteArray.empty)) = true) (fun i => L.length - (intOf i).toNat)
    case atStart => exact ⟨0, Nat.zero_le _, rfl, fun j hj => absurd hj (Nat.not_lt_zero _)⟩
    case round =>
      obtain ⟨k, hk, rfl, hall⟩ := hrel
      have HA : Hid (∀ j, j < k → goodB (nameOf (L.getD j ByteArray.empty)) = true) := hall
      clear hall
      by_cases hlt : k < L.length
      · have hck := HC.out k hlt
        have hmem : L.getD k ByteArray.empty ∈ L := by
          rw [List.getD_eq_getElem?_getD, List.getElem?_eq_getElem hlt]
          exact List.getElem_mem hlt
        have G : Hid (∀ w, Calls Tryz.prog 75 #[.string (L.getD k ByteArray.empty)] w fun e w' => e = .returned (.bool (goodB (nameOf (L.getD k ByteArray.empty)))) ∧ w' = w) := fun w => goodD_any _ w (HS.out _ hmem)
        have Hm : Hid (L.getD k ByteArray.empty ∈ L) := hmem
        clear hmem
        obtain ⟨b, hb⟩ : ∃ b, goodB (nameOf (L.getD k ByteArray.empty)) = b := ⟨_, rfl⟩
        have HB : Hid (goodB (nameOf (L.getD k ByteArray.empty)) = b) := hb
        have HX : Hid (∀ j, j = k → goodB (nameOf (L.getD j ByteArray.empty)) = b) := fun j hj => by rw [hj]; exact hb
        rw [hb] at G
        clear hb
        generalize L.getD k ByteArray.empty = s at *
        have hki : (k : Int) < 2 := by omega
        cases b
        · go_wp2_with (go_at_call 75; refine (G.out _).mono ?_; rintro e w2 ⟨rfl, rfl⟩)
          go_ret
          refine ⟨ret_int ?_, rfl⟩
          have : (L.all fun s => goodB (nameOf s)) = false := List.all_eq_false.2 ⟨s, Hm.out, by rw [HB.out]; simp⟩
          simp [refuse, this]
        · go_wp2_with (go_at_call 75; refine (G.out _).mono ?_; rintro e w2 ⟨rfl, rfl⟩)
          go_round
          case rel =>
            refine ⟨k + 1, by omega, by go_num, fun j hj => ?_⟩
            by_cases e : j = k
            · exact HX.out j e
            · exact HA.out j (by omega)
          case measure => simp [intOf]; omega
      · obtain rfl : k = L.length := by omega
        go_wp2_with fail
        go_ret
        refine ⟨ret_int ?_, rfl⟩
        have : (L.all fun s => goodB (nameOf s)) = true := by
          rw [List.all_eq_true]
          intro s hs
          obtain ⟨j, hj, rfl⟩ := List.getElem_of_mem hs
          have := HA.out j hj
          rw [List.getD_eq_getElem?_getD, List.getElem?_eq_getElem hj] at this
          exact this
        simp [refuse, this]
set_option maxRecDepth 100000 in
theorem refusal_nil {w : World} {d bm : Nat} {S : St} (h : DiskAt w d bm S) :
    Calls Tryz.prog 42 #[.pointer (some ⟨d, 0, none⟩), .slice none 0 0] w fun x w' => x = .returned (.int .i64 (refuse S.on [])) ∧ w' = w := by
  have M : Hid (Calls Tryz.prog 49 #[.pointer (some ⟨d, 0, none⟩)] w fun e w' => e = .returned (.bool true) ∧ w' = w) := made_any d bm w h.c0
  have c2 := h.c2
  clear h
  cases hon : S.on
  · rw [hon] at c2
    go_enter Tryz.func42, Tryz.ntmps42
    go_wp2_with (go_at_call 49; refine M.out.mono ?_; rintro e w1 ⟨rfl, rfl⟩)
    go_ret
    exact ⟨rfl, rfl⟩
  · rw [hon] at c2
    go_enter Tryz.func42, Tryz.ntmps42
    go_wp2_with (go_at_call 49; refine M.out.mono ?_; rintro e w1 ⟨rfl, rfl⟩)
    go_loop [19] (fun i => i = .int .i64 0) (fun _ => 0)
    case atStart => rfl
    case round =>
      subst hrel
      go_wp2
      go_ret
      exact ⟨rfl, rfl⟩

theorem one_cell (w : World) (s : ByteArray) (t : TypeId) : ∀ i, i < [s].length → (w.alloc (.cells #[.string s] t)).cell? ⟨w.heap.size, i, none⟩ = some (.string ([s].getD i ByteArray.empty)) := by
  intro i hi
  have : i = 0 := by simpa using hi
  subst this
  exact (Blk.new w [.string s] t).cell 0 rfl
theorem refused_one {w : World} {d bm : Nat} {S : St} (h : DiskAt w d bm S) (s : ByteArray) (hs : s.size ≤ maxLen) :
    Calls Tryz.prog 42 #[.pointer (some ⟨d, 0, none⟩), .slice (some ⟨w.heap.size, 0, none⟩) 1 1] (w.alloc (.cells #[.string s] 9)) fun x w' => x = .returned (.int .i64 (refuse S.on [s])) ∧ w' = w.alloc (.cells #[.string s] 9) :=
  refusal_any (h.alloc _) w.heap.size 1 [s] (by simp) (by simpa using hs) (one_cell w s _)
section
variable {w : World} {d bm : Nat} {S : St} (h : DiskAt w d bm S) (s : ByteArray) (hs : s.size ≤ maxLen)
include h hs
theorem find_refused {c : Int} (hc : refuse S.on [s] = c) (hc0 : c ≠ 0) :
    Calls Tryz.prog 54 #[.pointer (some ⟨d, 0, none⟩), .string s] w fun x w' => x = .returned (.tuple #[.pointer none, .int .i64 c]) ∧ w.grownBy w' none := by
  have R := refused_one h s hs
  rw [hc] at R
  have R : Hid (Calls Tryz.prog 42 #[.pointer (some ⟨d, 0, none⟩), .slice (some ⟨w.heap.size, 0, none⟩) 1 1] (w.alloc (.cells #[.string s] 9)) fun x w' => x = .returned (.int .i64 c) ∧ w' = w.alloc (.cells #[.string s] 9)) := R
  have hcb : (c == 0) = false := by rw [beq_eq_false_iff_ne]; exact hc0
  clear h hs hc
  go_enter Tryz.func54, Tryz.ntmps54
  go_wp2_with (go_at_call 42; refine R.out.mono ?_; rintro e w1 ⟨rfl, rfl⟩)
  go_ret2
  exact ⟨rfl, World.grownBy_alloc _ _ _⟩
theorem find_none (hc : refuse S.on [s] = 0) (hf : find S.fs (nameOf s) = none) :
    Calls Tryz.prog 54 #[.pointer (some ⟨d, 0, none⟩), .string s] w fun x w' => x = .returned (.tuple #[.pointer none, .int .i64 4]) ∧ w.grownBy w' none := by
  have R := refused_one h s hs
  rw [hc] at R
  have R : Hid (Calls Tryz.prog 42 #[.pointer (some ⟨d, 0, none⟩), .slice (some ⟨w.heap.size, 0, none⟩) 1 1] (w.alloc (.cells #[.string s] 9)) fun x w' => x = .returned (.int .i64 0) ∧ w' = w.alloc (.cells #[.string s] 9)) := R
  have hl := look_none (h.alloc (.cells #[.string s] 9)).map hs hf
  have c0 := h.c0
  have hd := h.head.lt
  clear h hs hc hf
  go_enter Tryz.func54, Tryz.ntmps54
  go_wp2_with (go_at_call 42; refine R.out.mono ?_; rintro e w1 ⟨rfl, rfl⟩)
  go_ret2
  exact ⟨rfl, World.grownBy_alloc _ _ _⟩
theorem find_ok (hc : refuse S.on [s] = 0) {e : Ent} (hf : find S.fs (nameOf s) = some e) :
    Calls Tryz.prog 54 #[.pointer (some ⟨d, 0, none⟩), .string s] w fun x w' => x = .returned (.tuple #[.pointer (some ⟨e.b, 0, none⟩), .int .i64 0]) ∧ w.grownBy w' none := by
  have R := refused_one h s hs
  rw [hc] at R
  have R : Hid (Calls Tryz.prog 42 #[.pointer (some ⟨d, 0, none⟩), .slice (some ⟨w.heap.size, 0, none⟩) 1 1] (w.alloc (.cells #[.string s] 9)) fun x w' => x = .returned (.int .i64 0) ∧ w' = w.alloc (.cells #[.string s] 9)) := R
  have hl := look_some (h.alloc (.cells #[.string s] 9)).map hs hf
  have c0 := h.c0
  have hd := h.head.lt
  clear h hs hc hf
  go_enter Tryz.func54, Tryz.ntmps54
  go_wp2_with (go_at_call 42; refine R.out.mono ?_; rintro e w1 ⟨rfl, rfl⟩)
  go_ret2
  exact ⟨rfl, World.grownBy_alloc _ _ _⟩
end
end Go.Proofs.YtoeoioigelknnaaGreat
namespace Go.Proofs.YtoeoioigelknnaaGreat
open Go.RowKit

/-- A world in which all blocks below n are as they were in w. -/
structure Cl (n : Nat) (w : World) where
  u : World
  h : Below n w u
theorem Cl.inh (n : Nat) (w : World) : Nonempty (Cl n w) := ⟨⟨w, Below.refl n w⟩⟩
theorem wp_region_cl {P : Program} {id : Nat} {Q : Exit → Act → World → Prop} {a : Act} {w : World} {l : List Oper} (n : Nat) (hm : P.follows .mixedOrders = true) (hB : Region.lexB .any l.toArray = true)
    (h : wpQuiet P l.toArray (fun w' => ∃ p : Cl n w, w' = p.u) (fun a' => ∀ w', (∃ p : Cl n w, w' = p.u) → Q .normal a' w') l a) : (Code.region id l.toArray true).wp P Q a w :=
  wp_region_quiet (C := fun w' => ∃ p : Cl n w, w' = p.u) hm hB ⟨⟨w.drew, (Below.refl n w).drew⟩, rfl⟩ (by simpa using h)
theorem Cl.calls {P : Program} {f : FuncId} {args : Array Value} {n : Nat} {w : World} {p : Cl n w} {v : Value} (hn : n ≤ w.heap.size)
    (h : Calls P f args p.u fun e w' => e = .returned v ∧ Below p.u.heap.size p.u w') : Calls P f args p.u fun e w'' => e = .returned v ∧ ∃ q : Cl n w, w'' = q.u :=
  h.mono fun _ w' ⟨he, hb⟩ => ⟨he, ⟨w', p.h.trans (hb.mono (Nat.le_trans hn p.h.size))⟩, rfl⟩
theorem Cl.cell {n : Nat} {w : World} (p : Cl n w) {a : Addr} {v : Value} (hb : a.block < n) (h : w.cell? a = some v) : p.u.cell? a = some v := by rw [p.h.cell hb, h]
end Go.Proofs.YtoeoioigelknnaaGreat

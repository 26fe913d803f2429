/-
  SEVERAL TEXTS IN ONE: DskMap, DskFind, DskTotal, Steps.
-/
import Derived.Test.YtglaocghcgcghaaGreatDoorMany3
import Derived.Test.YtglaocghcgcghaaGreatDoorOwn
namespace Go.Proofs.YtglaocghcgcghaaGreatDoor
open Go.RowKit Go.Maps Go.MapKept

theorem law : Keyed Tryz.prog 9 := string_keyed Tryz.underlying9
def find (fs : List Ent) (nm : List UInt8) : Option Ent := fs.find? fun e => e.nm == nm
theorem find_some {fs : List Ent} {nm : List UInt8} {e : Ent} (h : find fs nm = some e) : e ∈ fs ∧ e.nm = nm := by
  unfold find at h
  exact ⟨List.mem_of_find?_eq_some h, by simpa using List.find?_some h⟩
theorem same_str (a b : List UInt8) : (Lit.string a).sameKey (.string b) = (a == b) := rfl
theorem datum_at (fs : List Ent) (nm : List UInt8) (z : DataW Unit) : (datum fs).atKey (.string nm) z = match find fs nm with | some e => .lit (.int .i64 (e.b : Int)) | none => z := by
  unfold datum find DataW.atKey
  simp only [List.find?_map]
  have : ((fun p : Lit × DataW Unit => p.1.sameKey (.string nm)) ∘ encE) = fun e => e.nm == nm := rfl
  rw [this]
  cases fs.find? fun e => e.nm == nm <;> rfl
theorem datum_has (fs : List Ent) (nm : List UInt8) : Maps.has (datum fs) (.string nm) = (find fs nm).isSome := by
  unfold datum find
  rw [has_eq, List.any_map]
  have : ((fun p : Lit × DataW Unit => p.1.sameKey (.string nm)) ∘ encE) = fun e => e.nm == nm := rfl
  rw [this, List.isSome_find?]
theorem datum_size (fs : List Ent) : Maps.size (datum fs) = fs.length := by unfold datum; rw [size_eq, List.length_map]
/-- No two files have one name. -/
theorem DiskAt.names {w : World} {d bm : Nat} {S : St} (h : DiskAt w d bm S) : S.fs.Pairwise fun x y => x.nm ≠ y.nm := by
  obtain ⟨es, he, hp, _⟩ := h.map.entries law
  have : es = S.fs.map encE := by cases he; rfl
  rw [this, List.pairwise_map] at hp
  exact hp.imp fun hne e => hne (by simp [encE, e])
theorem find_of_mem {fs : List Ent} (hp : fs.Pairwise fun x y => x.nm ≠ y.nm) {e : Ent} (he : e ∈ fs) : find fs e.nm = some e := by
  unfold find
  induction fs with
  | nil => cases he
  | cons x r ih =>
    rw [List.pairwise_cons] at hp
    rcases List.mem_cons.1 he with rfl | h
    · simp
    · have hne : (x.nm == e.nm) = false := by rw [beq_eq_false_iff_ne]; exact hp.1 e h
      rw [List.find?_cons, hne]
      exact ih hp.2 h

/-- A look-up: there is none. -/
theorem look_none {w : World} {bm n : Nat} {fs : List Ent} (h : w.ownsMap Tryz.prog 9 ptrElem bm n (datum fs)) {s : ByteArray} (hs : s.size ≤ maxLen) (hf : find fs s.data.toList = none) :
    (Instr.lookup 59 (.map (some bm)) (.string s) false).run Tryz.prog w = .ok (.pointer none) w := by
  have hk := Go.WideMaps.keyOf_string_mk (P := Tryz.prog) Tryz.underlying9 hs
  have hd := datum_at fs s.data.toList
  rw [hf] at hd
  obtain ⟨es, clock, hb, F, _, hD⟩ := h
  rw [hD] at hd
  rcases Maps.fit_look false law Tryz.underlying59 (Tryz.zeroValue76 w) hb F hk with ⟨hrun, _, _⟩ | ⟨e0, y, _, _, hrun, hRv, hat, _⟩
  · exact hrun
  · have := (hat (.nil)).symm.trans (hd .nil)
    have h2 := (hat (.lit (.bool true))).symm.trans (hd (.lit (.bool true)))
    rw [this] at h2
    cases h2
/-- A look-up: there it is. -/
theorem look_some {w : World} {bm n : Nat} {fs : List Ent} (h : w.ownsMap Tryz.prog 9 ptrElem bm n (datum fs)) {s : ByteArray} (hs : s.size ≤ maxLen) {e : Ent} (hf : find fs s.data.toList = some e) :
    (Instr.lookup 59 (.map (some bm)) (.string s) false).run Tryz.prog w = .ok (.pointer (some ⟨e.b, 0, none⟩)) w := by
  have hk := Go.WideMaps.keyOf_string_mk (P := Tryz.prog) Tryz.underlying9 hs
  have hd := datum_at fs s.data.toList
  rw [hf] at hd
  obtain ⟨es, clock, hb, F, _, hD⟩ := h
  rw [hD] at hd
  rcases Maps.fit_look false law Tryz.underlying59 (Tryz.zeroValue76 w) hb F hk with ⟨hrun, _, hat⟩ | ⟨e0, y, _, _, hrun, hRv, hat, _⟩
  · have := (hat .nil).symm.trans (hd .nil)
    cases this
  · obtain ⟨b, hv, hy⟩ := ptrElem_inv hRv
    have h1 := (hat .nil).symm.trans (hd .nil)
    rw [hy] at h1
    cases h1
    rw [hrun]
    show Result.ok e0.val w = _
    rw [hv]
    rfl

/-! ### a name is put in, a name goes -/
def insE (e : Ent) : List Ent → List Ent
  | [] => [e]
  | y :: r => if bytesBefore e.nm y.nm then e :: y :: r else y :: insE e r
def dropE (fs : List Ent) (nm : List UInt8) : List Ent := fs.filter fun x => !(x.nm == nm)
def putE (fs : List Ent) (e : Ent) : List Ent := insE e (dropE fs e.nm)
theorem datum_drop (fs : List Ent) (nm : List UInt8) : (datum fs).del (.string nm) = datum (dropE fs nm) := by
  unfold datum dropE DataW.del
  simp only [List.filter_map]
  rfl
theorem ins_map (e : Ent) (fs : List Ent) : DataW.insert (encE e) (fs.map encE) = (insE e fs).map encE := by
  induction fs with
  | nil => rfl
  | cons y r ih =>
    simp only [List.map_cons, DataW.insert, insE]
    have : (encE e).1.before (encE y).1 = bytesBefore e.nm y.nm := rfl
    rw [this, ih]
    split <;> rfl
theorem datum_put (fs : List Ent) (e : Ent) : (datum fs).put (.string e.nm) (.lit (.int .i64 (e.b : Int))) = datum (putE fs e) := by
  unfold datum putE DataW.put dropE
  rw [← ins_map]
  simp only [List.filter_map]
  rfl
theorem perm_insE (e : Ent) (fs : List Ent) : (insE e fs).Perm (e :: fs) := by
  induction fs with
  | nil => exact List.Perm.refl _
  | cons y r ih =>
    unfold insE
    split
    · exact List.Perm.refl _
    · exact (List.Perm.cons y ih).trans (List.Perm.swap e y r)
theorem perm_putE (fs : List Ent) (e : Ent) : (putE fs e).Perm (e :: dropE fs e.nm) := perm_insE e _
theorem mem_dropE {fs : List Ent} {nm : List UInt8} {x : Ent} : x ∈ dropE fs nm ↔ x ∈ fs ∧ x.nm ≠ nm := by
  unfold dropE
  rw [List.mem_filter]
  simp
theorem feet_perm {a b : List Ent} (h : a.Perm b) : (feet a).Perm (feet b) := h.flatMap_right _

/-! ### what was gone over -/
def vis (left : Lit → Bool) (fs : List Ent) : List Ent := fs.filter fun e => !left (.string e.nm)
theorem vis_start (fs : List Ent) (hp : fs.Pairwise fun x y => x.nm ≠ y.nm) : vis (Maps.has (datum fs)) fs = [] := by
  unfold vis
  rw [List.filter_eq_nil_iff]
  intro e he
  rw [datum_has, find_of_mem hp he]
  simp
theorem vis_end {left : Lit → Bool} (fs : List Ent) (h : ∀ kl, left kl = false) : vis left fs = fs := by
  unfold vis
  rw [List.filter_eq_self]
  intro e _
  rw [h]
  rfl
theorem vis_step {left : Lit → Bool} {fs : List Ent} (hp : fs.Pairwise fun x y => x.nm ≠ y.nm) {e : Ent} (he : e ∈ fs) (hl : left (.string e.nm) = true) :
    (vis (fun z => left z && !z.sameKey (.string e.nm)) fs).Perm (e :: vis left fs) := by
  induction fs with
  | nil => cases he
  | cons x r ih =>
    rw [List.pairwise_cons] at hp
    unfold vis
    rcases List.mem_cons.1 he with rfl | h
    · have hrest : r.filter (fun y => !(left (.string y.nm) && !(Lit.string y.nm).sameKey (.string e.nm))) = r.filter fun y => !left (.string y.nm) := by
        apply List.filter_congr
        intro y hy
        have : (y.nm == e.nm) = false := by rw [beq_eq_false_iff_ne]; exact fun e' => hp.1 y hy e'.symm
        rw [same_str, this]
        simp
      rw [List.filter_cons, List.filter_cons]
      simp only [same_str, beq_self_eq_true, Bool.not_true, Bool.and_false, Bool.not_false, if_true, hl]
      simp only [same_str] at hrest
      simp only [hrest]
      exact List.Perm.refl _
    · have hne : (x.nm == e.nm) = false := by rw [beq_eq_false_iff_ne]; exact hp.1 e h
      rw [List.filter_cons, List.filter_cons]
      simp only [same_str, hne, Bool.not_false, Bool.and_true]
      have ih' := ih hp.2 h
      unfold vis at ih'
      simp only [same_str] at ih'
      split
      · exact (List.Perm.cons x ih').trans (List.Perm.swap e x _)
      · exact ih'
end Go.Proofs.YtglaocghcgcghaaGreatDoor
namespace Go.Proofs.YtglaocghcgcghaaGreatDoor
open Go.RowKit Go.Maps

def nameOf (s : ByteArray) : List UInt8 := s.data.toList
/-- What is wrong ahead of looking for a file. -/
def refuse (on : Bool) (L : List ByteArray) : Int := if on then (if L.all (fun s => goodB (nameOf s)) then 0 else 3) else 9
theorem refuse_on {on : Bool} {L : List ByteArray} (h : refuse on L = 0) : on = true := by
  cases on
  · simp [refuse] at h
  · rfl

set_option maxRecDepth 100000 in
theorem refusal_any {w : World} {d bm : Nat} {S : St} (h : DiskAt w d bm S) (g cap : Nat) (L : List ByteArray) (hL : L.length ≤ 2) (hs : ∀ s ∈ L, s.size ≤ maxLen) (hc : ∀ i, i < L.length → w.cell? ⟨g, i, none⟩ = some (.string (L.getD i ByteArray.empty))) :
    Calls Tryz.prog 24 #[.pointer (some ⟨d, 0, none⟩), .slice (some ⟨g, 0, none⟩) L.length cap] w fun x w' => x = .returned (.int .i64 (refuse S.on L)) ∧ w' = w := by
  have M : Hid (Calls Tryz.prog 31 #[.pointer (some ⟨d, 0, none⟩)] w fun e w' => e = .returned (.bool true) ∧ w' = w) := made_any d bm w h.c0
  have c2 := h.c2
  clear h
  cases hon : S.on
  · rw [hon] at c2
    go_enter Tryz.func24, Tryz.ntmps24
    go_wp2_with (go_at_call 31; refine M.out.mono ?_; rintro e w1 ⟨rfl, rfl⟩)
    go_ret
    exact ⟨rfl, rfl⟩
  · rw [hon] at c2
    have hLi : (L.length : Int) ≤ 2 := by omega
    have HC : Hid (∀ i, i < L.length → w.cell? ⟨g, i, none⟩ = some (.string (L.getD i ByteArray.empty))) := hc
    have HS : Hid (∀ s ∈ L, s.size ≤ maxLen) := hs
    clear hc hs
    go_enter Tryz.func24, Tryz.ntmps24
    go_wp2_with (go_at_call 31; refine M.out.mono ?_; rintro e w1 ⟨rfl, rfl⟩)
    go_loop [19] (fun i => ∃ k : Nat, k ≤ L.length ∧ i = .int .i64 k ∧ ∀ j, j < k → goodB (nameOf (L.getD j ByteArray.empty)) = true) (fun i => L.length - (intOf i).toNat)
    case atStart => exact ⟨0, Nat.zero_le _, rfl, fun j hj => absurd hj (Nat.not_lt_zero _)⟩
    case round =>
      obtain ⟨k, hk, rfl, hall⟩ := hrel
      have HA : Hid (∀ j, j < k → goodB (nameOf (L.getD j ByteArray.empty)) = true) := hall
      clear hall
      by_cases hlt : k < L.length
      · have hck := HC.out k hlt
        have hmem : L.getD k ByteArray.empty ∈ L := by
          rw [List.getD_eq_getElem?_getD, List.getElem?_eq_getElem hlt]
          exact List.getElem_mem hlt
        have G : Hid (∀ w, Calls Tryz.prog 48 #[.string (L.getD k ByteArray.empty)] w fun e w' => e = .returned (.bool (goodB (nameOf (L.getD k ByteArray.empty)))) ∧ w' = w) := fun w => goodD_any _ w (HS.out _ hmem)
        have Hm : Hid (L.getD k ByteArray.empty ∈ L) := hmem
        clear hmem
        obtain ⟨b, hb⟩ : ∃ b, goodB (nameOf (L.getD k ByteArray.empty)) = b := ⟨_, rfl⟩
        have HB : Hid (goodB (nameOf (L.getD k ByteArray.empty)) = b) := hb
        have HX : Hid (∀ j, j = k → goodB (nameOf (L.getD j ByteArray.empty)) = b) := fun j hj => by rw [hj]; exact hb
        rw [hb] at G
        clear hb
        generalize L.getD k ByteArray.empty = s at *
        have hki : (k : Int) < 2 := by omega
        cases b
        · go_wp2_with (go_at_call 48; refine (G.out _).mono ?_; rintro e w2 ⟨rfl, rfl⟩)
          go_ret
          refine ⟨ret_int ?_, rfl⟩
          have : (L.all fun s => goodB (nameOf s)) = false := List.all_eq_false.2 ⟨s, Hm.out, by rw [HB.out]; simp⟩
          simp [refuse, this]
        · go_wp2_with (go_at_call 48; refine (G.out _).mono ?_; rintro e w2 ⟨rfl, rfl⟩)
          go_round
          case rel =>
            refine ⟨k + 1, by omega, by go_num, fun j hj => ?_⟩
            by_cases e : j = k
            · exact HX.out j e
            · exact HA.out j (by omega)
          case measure => simp [intOf]; omega
      · obtain rfl : k = L.length := by omega
        go_wp2_with fail
        go_ret
        refine ⟨ret_int ?_, rfl⟩
        have : (L.all fun s => goodB (nameOf s)) = true := by
          rw [List.all_eq_true]
          intro s hs
          obtain ⟨j, hj, rfl⟩ := List.getElem_of_mem hs
          have := HA.out j hj
          rw [List.getD_eq_getElem?_getD, List.getElem?_eq_getElem hj] at this
          exact this
        simp [refuse, this]
set_option maxRecDepth 100000 in
theorem refusal_nil {w : World} {d bm : Nat} {S : St} (h : DiskAt w d bm S) :
    Calls Tryz.prog 24 #[.pointer (some ⟨d, 0, none⟩), .slice none 0 0] w fun x w' => x = .returned (.int .i64 (refuse S.on [])) ∧ w' = w := by
  have M : Hid (Calls Tryz.prog 31 #[.pointer (some ⟨d, 0, none⟩)] w fun e w' => e = .returned (.bool true) ∧ w' = w) := made_any d bm w h.c0
  have c2 := h.c2
  clear h
  cases hon : S.on
  · rw [hon] at c2
    go_enter Tryz.func24, Tryz.ntmps24
    go_wp2_with (go_at_call 31; refine M.out.mono ?_; rintro e w1 ⟨rfl, rfl⟩)
    go_ret
    exact ⟨rfl, rfl⟩
  · rw [hon] at c2
    go_enter Tryz.func24, Tryz.ntmps24
    go_wp2_with (go_at_call 31; refine M.out.mono ?_; rintro e w1 ⟨rfl, rfl⟩)
    go_loop [19] (fun i => i = .int .i64 0) (fun _ => 0)
    case atStart => rfl
    case round =>
      subst hrel
      go_wp2
      go_ret
      exact ⟨rfl, rfl⟩

theorem one_cell (w : World) (s : ByteArray) (t : TypeId) : ∀ i, i < [s].length → (w.alloc (.cells #[.string s] t)).cell? ⟨w.heap.size, i, none⟩ = some (.string ([s].getD i ByteArray.empty)) := by
  intro i hi
  have : i = 0 := by simpa using hi
  subst this
  exact (Blk.new w [.string s] t).cell 0 rfl
theorem refused_one {w : World} {d bm : Nat} {S : St} (h : DiskAt w d bm S) (s : ByteArray) (hs : s.size ≤ maxLen) :
    Calls Tryz.prog 24 #[.pointer (some ⟨d, 0, none⟩), .slice (some ⟨w.heap.size, 0, none⟩) 1 1] (w.alloc (.cells #[.string s] 9)) fun x w' => x = .returned (.int .i64 (refuse S.on [s])) ∧ w' = w.alloc (.cells #[.string s] 9) :=
  refusal_any (h.alloc _) w.heap.size 1 [s] (by simp) (by simpa using hs) (one_cell w s _)
section
variable {w : World} {d bm : Nat} {S : St} (h : DiskAt w d bm S) (s : ByteArray) (hs : s.size ≤ maxLen)
include h hs
theorem find_refused {c : Int} (hc : refuse S.on [s] = c) (hc0 : c ≠ 0) :
    Calls Tryz.prog 43 #[.pointer (some ⟨d, 0, none⟩), .string s] w fun x w' => x = .returned (.tuple #[.pointer none, .int .i64 c]) ∧ w.grownBy w' none := by
  have R := refused_one h s hs
  rw [hc] at R
  have R : Hid (Calls Tryz.prog 24 #[.pointer (some ⟨d, 0, none⟩), .slice (some ⟨w.heap.size, 0, none⟩) 1 1] (w.alloc (.cells #[.string s] 9)) fun x w' => x = .returned (.int .i64 c) ∧ w' = w.alloc (.cells #[.string s] 9)) := R
  have hcb : (c == 0) = false := by rw [beq_eq_false_iff_ne]; exact hc0
  clear h hs hc
  go_enter Tryz.func43, Tryz.ntmps43
  go_wp2_with (go_at_call 24; refine R.out.mono ?_; rintro e w1 ⟨rfl, rfl⟩)
  go_ret2
  exact ⟨rfl, World.grownBy_alloc _ _ _⟩
theorem find_none (hc : refuse S.on [s] = 0) (hf : find S.fs (nameOf s) = none) :
    Calls Tryz.prog 43 #[.pointer (some ⟨d, 0, none⟩), .string s] w fun x w' => x = .returned (.tuple #[.pointer none, .int .i64 4]) ∧ w.grownBy w' none := by
  have R := refused_one h s hs
  rw [hc] at R
  have R : Hid (Calls Tryz.prog 24 #[.pointer (some ⟨d, 0, none⟩), .slice (some ⟨w.heap.size, 0, none⟩) 1 1] (w.alloc (.cells #[.string s] 9)) fun x w' => x = .returned (.int .i64 0) ∧ w' = w.alloc (.cells #[.string s] 9)) := R
  have hl := look_none (h.alloc (.cells #[.string s] 9)).map hs hf
  have c0 := h.c0
  have hd := h.head.lt
  clear h hs hc hf
  go_enter Tryz.func43, Tryz.ntmps43
  go_wp2_with (go_at_call 24; refine R.out.mono ?_; rintro e w1 ⟨rfl, rfl⟩)
  go_ret2
  exact ⟨rfl, World.grownBy_alloc _ _ _⟩
theorem find_ok (hc : refuse S.on [s] = 0) {e : Ent} (hf : find S.fs (nameOf s) = some e) :
    Calls Tryz.prog 43 #[.pointer (some ⟨d, 0, none⟩), .string s] w fun x w' => x = .returned (.tuple #[.pointer (some ⟨e.b, 0, none⟩), .int .i64 0]) ∧ w.grownBy w' none := by
  have R := refused_one h s hs
  rw [hc] at R
  have R : Hid (Calls Tryz.prog 24 #[.pointer (some ⟨d, 0, none⟩), .slice (some ⟨w.heap.size, 0, none⟩) 1 1] (w.alloc (.cells #[.string s] 9)) fun x w' => x = .returned (.int .i64 0) ∧ w' = w.alloc (.cells #[.string s] 9)) := R
  have hl := look_some (h.alloc (.cells #[.string s] 9)).map hs hf
  have c0 := h.c0
  have hd := h.head.lt
  clear h hs hc hf
  go_enter Tryz.func43, Tryz.ntmps43
  go_wp2_with (go_at_call 24; refine R.out.mono ?_; rintro e w1 ⟨rfl, rfl⟩)
  go_ret2
  exact ⟨rfl, World.grownBy_alloc _ _ _⟩
end
end Go.Proofs.YtglaocghcgcghaaGreatDoor
namespace Go.Proofs.YtglaocghcgcghaaGreatDoor
open Go.RowKit Go.Maps

theorem invK : ∀ key kl, keyOf Tryz.prog 9 key = some kl → ∃ x, key = encStr x := fun key kl hk => by obtain ⟨x, hx, _⟩ := Maps.keyOf_str Tryz.underlying9 hk; exact ⟨x, hx⟩
theorem invV : ∀ v y, ptrElem v = some y → ∃ c : Nat, v = (fun b : Nat => Value.pointer (some ⟨b, 0, none⟩)) c := fun v y hv => by obtain ⟨b, hb, _⟩ := ptrElem_inv hv; exact ⟨b, hb⟩
/-- The entry that has come is a file's. -/
theorem ranged {fs : List Ent} {x : List UInt8} {c : Nat} {kl : Lit} {yd : DataW Unit} {yp : List MemPlace} {left : Lit → Bool} (hkey : keyOf Tryz.prog 9 (encStr x) = some kl) (hlk : left kl = true)
    (hv : ptrElem ((fun b : Nat => Value.pointer (some ⟨b, 0, none⟩)) c) = some (yd, yp)) (hat : ∀ zd, (datum fs).atKey kl zd = yd) : ∃ e, e ∈ fs ∧ e.b = c ∧ kl = .string e.nm ∧ left (.string e.nm) = true := by
  obtain ⟨x', ex, rfl, _⟩ := Maps.keyOf_str Tryz.underlying9 hkey
  obtain rfl : x = x' := encStr_inj ex
  have hy : yd = .lit (.int .i64 (c : Int)) := by
    have h1 := ptrElem_mk c
    have h2 := hv.symm.trans h1
    cases h2
    rfl
  subst hy
  have h0 := hat .nil
  rw [datum_at] at h0
  cases hf : find fs x with
  | none => rw [hf] at h0; cases h0
  | some e =>
    rw [hf] at h0
    have hb : (e.b : Int) = (c : Int) := by simpa using h0
    obtain ⟨he, hn⟩ := find_some hf
    exact ⟨e, he, by omega, by rw [hn], by rw [hn]; exact hlk⟩
theorem List.Perm.sum_nat {a b : List Nat} (h : a.Perm b) : a.sum = b.sum := by
  induction h with
  | nil => rfl
  | cons x _ ih => simp only [List.sum_cons, ih]
  | swap x y l => simp only [List.sum_cons]; omega
  | trans _ _ h1 h2 => exact h1.trans h2
theorem List.single_le_sum_nat {l : List Nat} {x : Nat} (h : x ∈ l) : x ≤ l.sum := by
  induction l with
  | nil => cases h
  | cons y r ih =>
    simp only [List.sum_cons]
    rcases List.mem_cons.1 h with rfl | h
    · omega
    · have := ih h; omega

/-! ### what all files need -/
theorem countUsed {w : World} {e : Ent} (h : EntAt w e) (hb : 1 + (e.bs.length + 15) / 16 ≤ 1099511627776) :
    Calls Tryz.prog 129 #[.pointer (some ⟨e.b, 0, none⟩)] w fun x w' => x = .returned (.int .i64 ((1 + (e.bs.length + 15) / 16 : Nat) : Int)) ∧ w' = w := by
  obtain ⟨ao, cap, hv, _⟩ := owns_form h.row1
  have c0 := h.c0
  rw [hv] at c0
  have S1 : Hid (Calls Tryz.prog 100 #[.int .i64 (e.bs.length : Int)] w fun x' w' => x' = .returned (.int .i64 (secI (e.bs.length : Int))) ∧ w' = w) := sectors_in _ _ ⟨by omega, by omega⟩
  have hs := secI_nat e.bs.length
  clear h hv
  rw [hs] at S1
  clear hs
  generalize (e.bs.length + 15) / 16 = q at *
  go_enter Tryz.func129, Tryz.ntmps129
  go_wp2_with (go_at_call 100; refine S1.out.mono ?_; rintro x w1 ⟨rfl, rfl⟩)
  go_ret
  exact ⟨ret_int (by omega), rfl⟩
def sumUsed (fs : List Ent) : Nat := (fs.map fun e => 1 + (e.bs.length + 15) / 16).sum
theorem sumUsed_perm {a b : List Ent} (h : a.Perm b) : sumUsed a = sumUsed b := (h.map _).sum_nat
theorem sumUsed_vis (left : Lit → Bool) (fs : List Ent) : sumUsed (vis left fs) ≤ sumUsed fs := by
  unfold sumUsed vis
  induction fs with
  | nil => exact Nat.le_refl _
  | cons x r ih =>
    rw [List.filter_cons]
    split
    · simp only [List.map_cons, List.sum_cons]; omega
    · simp only [List.map_cons, List.sum_cons]; omega
theorem sumUsed_mem {fs : List Ent} {e : Ent} (h : e ∈ fs) : 1 + (e.bs.length + 15) / 16 ≤ sumUsed fs := by
  unfold sumUsed
  exact List.single_le_sum_nat (List.mem_map.2 ⟨e, h, rfl⟩)

set_option maxRecDepth 100000 in
set_option maxHeartbeats 800000 in
theorem totalUsed {w : World} {d bm : Nat} {S : St} (h : DiskAt w d bm S) (hon : S.on = true) (hb : sumUsed S.fs ≤ 1099511627776) :
    Calls Tryz.prog 128 #[.pointer (some ⟨d, 0, none⟩), .func (.func 129) #[] #[]] w fun x w' => x = .returned (.int .i64 (sumUsed S.fs : Int)) ∧ w.grownBy w' none := by
  have R := refusal_nil h
  rw [hon] at R
  have M : Hid (Calls Tryz.prog 24 #[.pointer (some ⟨d, 0, none⟩), .slice none 0 0] w fun x w' => x = .returned (.int .i64 0) ∧ w' = w) := R
  clear R
  have c0 := h.c0
  have hown := h.map
  have K : Hid (DiskAt w d bm S) := h
  have hp := h.names
  have Hp : Hid (S.fs.Pairwise fun x y => x.nm ≠ y.nm) := hp
  have Hb : Hid (sumUsed S.fs ≤ 1099511627776) := hb
  clear h hp hb hon
  go_enter Tryz.func128, Tryz.ntmps128
  go_wp2_with (first | (go_at_call 24; refine M.out.mono ?_; rintro e w1 ⟨rfl, rfl⟩) | (at_range; refine wpList_range_own _ rfl _ 59 rfl 9 76 law Tryz.underlying59 _ bm _ _ rfl hown ?_; intro w0 hrg0 hg0 hs0))
  go_frame
  have start : Hid (∃ left cnt, w0.ranges Tryz.prog 9 ptrElem bm w1.heap.size S.fs.length (datum S.fs) left cnt ∧ Value.int .i64 0 = .int .i64 (sumUsed (vis left S.fs) : Int) ∧ w1.grownBy w0 none) := ⟨_, _, hrg0, by rw [vis_start _ Hp.out]; rfl, hg0⟩
  clear hs0 hrg0 hg0 hown c0
  go_loopw [5] (fun s wr => ∃ left cnt, wr.ranges Tryz.prog 9 ptrElem bm w1.heap.size S.fs.length (datum S.fs) left cnt ∧ s = .int .i64 (sumUsed (vis left S.fs) : Int) ∧ w1.grownBy wr none) (fun _ wr => wr.rangeLeft bm w1.heap.size)
  case atStart => exact start.out
  case round =>
    obtain ⟨left, cnt, hrg, rfl, hg⟩ := hrel
    clear start
    have Hg : Hid (w1.grownBy wr none) := hg
    clear hg
    go_wp2_with (at_next; refine wpList_next_ranges _ rfl _ rfl 9 law ptrElem encStr (fun b : Nat => Value.pointer (some ⟨b, 0, none⟩)) invK invV bm w1.heap.size S.fs.length _ _ _ rfl hrg ?_ ?_)
    · intro hc0 hl0
      have hend : Hid (vis left S.fs = S.fs) := vis_end _ hl0
      clear hl0 hc0
      go_wp2
      go_ret
      exact ⟨ret_int (by rw [hend.out]), Hg.out⟩
    · intro x c kl yd yp w2 cnt2 hkey hlk hv hat hrg2 hlt hg2 hs2 hen
      obtain ⟨e, he, hb, hn, hl⟩ := ranged hkey hlk hv hat
      subst hb
      have hgn : w1.grownBy w2 none := Hg.out.andThen hg2 (fun j hj => .inl (by cases hj; exact Nat.le_refl _))
      have hE : EntAt w2 e := (K.out.ents e he).carry fun i hi => hgn.block i ((K.out.ents e he).lt i hi) (by simp)
      have hperm := vis_step Hp.out he hl
      have hsum : Hid (sumUsed (vis (fun z => left z && !z.sameKey kl) S.fs) = sumUsed (vis left S.fs) + (1 + (e.bs.length + 15) / 16)) := by
        show _ = _
        rw [hn, sumUsed_perm hperm]
        unfold sumUsed
        simp only [List.map_cons, List.sum_cons]
        omega
      have hle := sumUsed_vis (fun z => left z && !z.sameKey kl) S.fs
      rw [hsum.out] at hle
      have hle2 := Hb.out
      have C : Hid (Calls Tryz.prog 129 #[.pointer (some ⟨e.b, 0, none⟩)] w2 fun x w' => x = .returned (.int .i64 ((1 + (e.bs.length + 15) / 16 : Nat) : Int)) ∧ w' = w2) := countUsed hE (by omega)
      have HR : Hid (w2.ranges Tryz.prog 9 ptrElem bm w1.heap.size S.fs.length (datum S.fs) (fun z => left z && !z.sameKey kl) cnt2) := hrg2
      have HM : Hid (w2.rangeLeft bm w1.heap.size < wr.rangeLeft bm w1.heap.size) := by show _ < _; rw [hrg2.left_eq, hrg.left_eq]; exact hlt
      have HG : Hid (w1.grownBy w2 none) := hgn
      have hi1 : ((sumUsed (vis left S.fs) : Nat) : Int) + ((1 + (e.bs.length + 15) / 16 : Nat) : Int) ≤ 1099511627776 := by omega
      clear hs2 hg2 hlt hrg2 hat hv hlk hkey hgn hE hperm hle hle2 hrg hl hn
      generalize sumUsed (vis left S.fs) = sm at *
      generalize hcn : (1 + (e.bs.length + 15) / 16) = cn at *
      clear hcn
      go_wp2_with (go_at_call 129; refine C.out.mono ?_; rintro x' w3 ⟨rfl, rfl⟩)
      go_round
      case rel => exact ⟨_, _, HR.out, by rw [hsum.out]; go_num, HG.out⟩
      case measure => exact HM.out
theorem totalUsed_off {w : World} {d bm : Nat} {S : St} (h : DiskAt w d bm S) (hon : S.on = false) :
    Calls Tryz.prog 128 #[.pointer (some ⟨d, 0, none⟩), .func (.func 129) #[] #[]] w fun x w' => x = .returned (.int .i64 0) ∧ w' = w := by
  have R := refusal_nil h
  rw [hon] at R
  have M : Hid (Calls Tryz.prog 24 #[.pointer (some ⟨d, 0, none⟩), .slice none 0 0] w fun x w' => x = .returned (.int .i64 9) ∧ w' = w) := R
  clear h R hon
  go_enter Tryz.func128, Tryz.ntmps128
  go_wp2_with (go_at_call 24; refine M.out.mono ?_; rintro x w1 ⟨rfl, rfl⟩)
  go_ret
  exact ⟨rfl, rfl⟩
theorem used_off {w : World} {d bm : Nat} {S : St} (h : DiskAt w d bm S) (hon : S.on = false) :
    Calls Tryz.prog 101 #[.pointer (some ⟨d, 0, none⟩)] w fun x w' => x = .returned (.int .i64 0) ∧ w' = w := by
  have C : Hid (Calls Tryz.prog 128 #[.pointer (some ⟨d, 0, none⟩), .func (.func 129) #[] #[]] w fun x w' => x = .returned (.int .i64 0) ∧ w' = w) := totalUsed_off h hon
  clear h hon
  go_enter Tryz.func101, Tryz.ntmps101
  go_wp2_with (go_at_call 128; refine C.out.mono ?_; rintro x w1 ⟨rfl, rfl⟩)
  go_ret
  exact ⟨rfl, rfl⟩
theorem used_any {w : World} {d bm : Nat} {S : St} (h : DiskAt w d bm S) (hon : S.on = true) (hb : sumUsed S.fs ≤ 1099511627776) :
    Calls Tryz.prog 101 #[.pointer (some ⟨d, 0, none⟩)] w fun x w' => x = .returned (.int .i64 (sumUsed S.fs : Int)) ∧ w.grownBy w' none := by
  have C : Hid (Calls Tryz.prog 128 #[.pointer (some ⟨d, 0, none⟩), .func (.func 129) #[] #[]] w fun x w' => x = .returned (.int .i64 (sumUsed S.fs : Int)) ∧ w.grownBy w' none) := totalUsed h hon hb
  clear h hb hon
  go_enter Tryz.func101, Tryz.ntmps101
  go_wp2_with (go_at_call 128; refine C.out.mono ?_; rintro x w1 ⟨rfl, hg⟩)
  go_ret
  exact ⟨rfl, hg⟩

def sumDirty (fs : List Ent) : Nat := (fs.map fun e => e.pl.length).sum
theorem sumDirty_perm {a b : List Ent} (h : a.Perm b) : sumDirty a = sumDirty b := (h.map _).sum_nat
theorem sumDirty_vis (left : Lit → Bool) (fs : List Ent) : sumDirty (vis left fs) ≤ sumDirty fs := by
  unfold sumDirty vis
  induction fs with
  | nil => exact Nat.le_refl _
  | cons x r ih =>
    rw [List.filter_cons]
    split
    · simp only [List.map_cons, List.sum_cons]; omega
    · simp only [List.map_cons, List.sum_cons]; omega
theorem sumDirty_mem {fs : List Ent} {e : Ent} (h : e ∈ fs) : e.pl.length ≤ sumDirty fs := by
  unfold sumDirty
  exact List.single_le_sum_nat (List.mem_map.2 ⟨e, h, rfl⟩)

theorem free_any {w : World} {d bm : Nat} {S : St} (h : DiskAt w d bm S) (hon : S.on = true) (hb : sumUsed S.fs ≤ 1099511627776) (hr : S.room ≤ 1073741824) :
    Calls Tryz.prog 77 #[.pointer (some ⟨d, 0, none⟩)] w fun x w' => x = .returned (.int .i64 ((S.room : Int) - (sumUsed S.fs : Int))) ∧ w.grownBy w' none := by
  have C : Hid (∀ k, Calls Tryz.prog 101 #[.pointer (some ⟨d, 0, none⟩)] (w.drewN k) fun x w' => x = .returned (.int .i64 (sumUsed S.fs : Int)) ∧ (w.drewN k).grownBy w' none) := fun k => used_any (h.drewN k) hon hb
  have c1 := h.c1
  have hl := h.head.lt
  clear h hon
  generalize sumUsed S.fs = u at *
  have hw : IntKind.i64.wrap ((S.room : Int) - (u : Int)) = (S.room : Int) - (u : Int) := i64_wrap (by omega) (by omega)
  have Hw : Hid (IntKind.i64.wrap ((S.room : Int) - (u : Int)) = (S.room : Int) - (u : Int)) := hw
  clear hw
  go_enter Tryz.func77, Tryz.ntmps77
  go_wp2
  go_region_with (go_at_call 101; refine (C.out _).mono ?_; rintro x w1 ⟨rfl, hg⟩; have c1' := hg.cell c1 (by simp))
  all_goals
    go_wp2
    go_ret
    exact ⟨ret_int Hw.out, ⟨hg.os, hg.tape, hg.output, hg.size, hg.block⟩⟩
end Go.Proofs.YtglaocghcgcghaaGreatDoor
namespace Go.Proofs.YtglaocghcgcghaaGreatDoor
open Go.RowKit

/-- An append onto a row of the call's own, as one step of a region that draws. -/
theorem step_append_grew {P : Program} {ops : Array Oper} {o : Oper} {a : Act} {w : World} {K : Act → World → Prop} {Q : Exit → Act → World → Prop} {E : Prop}
    (hgd : o.guard = none) (s x : Operand) (t tx : TypeId) (ho : o.op = .call { callee := .builtin .append, args := #[s, x], argTypes := #[t, tx] })
    (base : Nat) (e : TypeId) (i : TypeInfo) (z : Value) (size bytes : Nat) (ht : P.underlying t = some (.slice e)) (hi : P.info? e = some i) (hz : i.zero = some z)
    (hsize : i.size = size) (hby : i.bytes = bytes) (hzs : z.cells.size = size)
    (v : Value) (n : Nat) (xs : List Value) (hs : a.eval s = v) (hown : w.ownsRow base e size v n xs)
    (xv : Value) (m : Nat) (news : List Value) (hx : a.eval x = xv) (hsrc : Src P size tx xv m news w)
    (h63 : n + m ≤ maxLen) (hbytes : (n + m) * bytes ≤ 140737488355328) (hbase : base ≤ w.heap.size)
    (h : ∀ v' w', w'.ownsRow base e size v' (n + m) (xs ++ news) → Grew w w' v v' → K (a.put o.dst v') w') :
    if Region.wanted o (yielded ops a.tmps) = true then Oper.wp P o a w K Q else E := by
  have hw : Region.wanted o (yielded ops a.tmps) = true := by simp [Region.wanted, hgd]
  rw [if_pos hw]
  obtain ⟨v', w', hr, h2, h3⟩ := run_append_grew (P := P) w base t tx o.type e i z size bytes ht hi hz hsize hby hzs v n xs hown xv m news hsrc h63 hbytes hbase
  unfold Oper.wp execOp
  simp only [ho, resolve, invoke, builtin, Sem.run_bind, Sem.run_pure, Result.andThen_ok, List.map_toArray, List.map_cons, List.map_nil, hs, hx, hr]
  exact h v' w' h2 h3
end Go.Proofs.YtglaocghcgcghaaGreatDoor

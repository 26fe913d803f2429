/-
  A DISK'S MAP OF NAMES: what is found in it, what a store and a deletion make of it, how it is gone over.
-/
import Derived.Test.YthihljjefncfoaaGreatDoorDskFile
namespace Go.Proofs.YthihljjefncfoaaGreatDoor
open Go.RowKit Go.Maps Go.MapKept

theorem law : Keyed Tryz.prog 9 := string_keyed Tryz.underlying9
def find (fs : List Ent) (nm : List UInt8) : Option Ent := fs.find? fun e => e.nm == nm
theorem find_some {fs : List Ent} {nm : List UInt8} {e : Ent} (h : find fs nm = some e) : e ∈ fs ∧ e.nm = nm := by
  unfold find at h
  exact ⟨List.mem_of_find?_eq_some h, by simpa using List.find?_some h⟩
theorem same_str (a b : List UInt8) : (Lit.string a).sameKey (.string b) = (a == b) := rfl
theorem datum_at (fs : List Ent) (nm : List UInt8) (z : DataW Unit) : (datum fs).atKey (.string nm) z = match find fs nm with | some e => .lit (.int .i64 (e.b : Int)) | none => z := by
  unfold datum find DataW.atKey
  simp only [List.find?_map]
  have : ((fun p : Lit × DataW Unit => p.1.sameKey (.string nm)) ∘ encE) = fun e => e.nm == nm := rfl
  rw [this]
  cases fs.find? fun e => e.nm == nm <;> rfl
theorem datum_has (fs : List Ent) (nm : List UInt8) : Maps.has (datum fs) (.string nm) = (find fs nm).isSome := by
  unfold datum find
  rw [has_eq, List.any_map]
  have : ((fun p : Lit × DataW Unit => p.1.sameKey (.string nm)) ∘ encE) = fun e => e.nm == nm := rfl
  rw [this, List.isSome_find?]
theorem datum_size (fs : List Ent) : Maps.size (datum fs) = fs.length := by unfold datum; rw [size_eq, List.length_map]
/-- No two files have one name. -/
theorem DiskAt.names {w : World} {d bm : Nat} {S : St} (h : DiskAt w d bm S) : S.fs.Pairwise fun x y => x.nm ≠ y.nm := by
  obtain ⟨es, he, hp, _⟩ := h.map.entries law
  have : es = S.fs.map encE := by cases he; rfl
  rw [this, List.pairwise_map] at hp
  exact hp.imp fun hne e => hne (by simp [encE, e])
theorem find_of_mem {fs : List Ent} (hp : fs.Pairwise fun x y => x.nm ≠ y.nm) {e : Ent} (he : e ∈ fs) : find fs e.nm = some e := by
  unfold find
  induction fs with
  | nil => cases he
  | cons x r ih =>
    rw [List.pairwise_cons] at hp
    rcases List.mem_cons.1 he with rfl | h
    · simp
    · have hne : (x.nm == e.nm) = false := by rw [beq_eq_false_iff_ne]; exact hp.1 e h
      rw [List.find?_cons, hne]
      exact ih hp.2 h

/-- A look-up: there is none. -/
theorem look_none {w : World} {bm n : Nat} {fs : List Ent} (h : w.ownsMap Tryz.prog 9 ptrElem bm n (datum fs)) {s : ByteArray} (hs : s.size ≤ maxLen) (hf : find fs s.data.toList = none) :
    (Instr.lookup 59 (.map (some bm)) (.string s) false).run Tryz.prog w = .ok (.pointer none) w := by
  have hk := Go.WideMaps.keyOf_string_mk (P := Tryz.prog) Tryz.underlying9 hs
  have hd := datum_at fs s.data.toList
  rw [hf] at hd
  obtain ⟨es, clock, hb, F, _, hD⟩ := h
  rw [hD] at hd
  rcases Maps.fit_look false law Tryz.underlying59 (Tryz.zeroValue87 w) hb F hk with ⟨hrun, _, _⟩ | ⟨e0, y, _, _, hrun, hRv, hat, _⟩
  · exact hrun
  · have := (hat (.nil)).symm.trans (hd .nil)
    have h2 := (hat (.lit (.bool true))).symm.trans (hd (.lit (.bool true)))
    rw [this] at h2
    cases h2
/-- A look-up: there it is. -/
theorem look_some {w : World} {bm n : Nat} {fs : List Ent} (h : w.ownsMap Tryz.prog 9 ptrElem bm n (datum fs)) {s : ByteArray} (hs : s.size ≤ maxLen) {e : Ent} (hf : find fs s.data.toList = some e) :
    (Instr.lookup 59 (.map (some bm)) (.string s) false).run Tryz.prog w = .ok (.pointer (some ⟨e.b, 0, none⟩)) w := by
  have hk := Go.WideMaps.keyOf_string_mk (P := Tryz.prog) Tryz.underlying9 hs
  have hd := datum_at fs s.data.toList
  rw [hf] at hd
  obtain ⟨es, clock, hb, F, _, hD⟩ := h
  rw [hD] at hd
  rcases Maps.fit_look false law Tryz.underlying59 (Tryz.zeroValue87 w) hb F hk with ⟨hrun, _, hat⟩ | ⟨e0, y, _, _, hrun, hRv, hat, _⟩
  · have := (hat .nil).symm.trans (hd .nil)
    cases this
  · obtain ⟨b, hv, hy⟩ := ptrElem_inv hRv
    have h1 := (hat .nil).symm.trans (hd .nil)
    rw [hy] at h1
    cases h1
    rw [hrun]
    show Result.ok e0.val w = _
    rw [hv]
    rfl

/-! ### a name is put in, a name goes -/
def insE (e : Ent) : List Ent → List Ent
  | [] => [e]
  | y :: r => if bytesBefore e.nm y.nm then e :: y :: r else y :: insE e r
def dropE (fs : List Ent) (nm : List UInt8) : List Ent := fs.filter fun x => !(x.nm == nm)
def putE (fs : List Ent) (e : Ent) : List Ent := insE e (dropE fs e.nm)
theorem datum_drop (fs : List Ent) (nm : List UInt8) : (datum fs).del (.string nm) = datum (dropE fs nm) := by
  unfold datum dropE DataW.del
  simp only [List.filter_map]
  rfl
theorem ins_map (e : Ent) (fs : List Ent) : DataW.insert (encE e) (fs.map encE) = (insE e fs).map encE := by
  induction fs with
  | nil => rfl
  | cons y r ih =>
    simp only [List.map_cons, DataW.insert, insE]
    have : (encE e).1.before (encE y).1 = bytesBefore e.nm y.nm := rfl
    rw [this, ih]
    split <;> rfl
theorem datum_put (fs : List Ent) (e : Ent) : (datum fs).put (.string e.nm) (.lit (.int .i64 (e.b : Int))) = datum (putE fs e) := by
  unfold datum putE DataW.put dropE
  rw [← ins_map]
  simp only [List.filter_map]
  rfl
theorem perm_insE (e : Ent) (fs : List Ent) : (insE e fs).Perm (e :: fs) := by
  induction fs with
  | nil => exact List.Perm.refl _
  | cons y r ih =>
    unfold insE
    split
    · exact List.Perm.refl _
    · exact (List.Perm.cons y ih).trans (List.Perm.swap e y r)
theorem perm_putE (fs : List Ent) (e : Ent) : (putE fs e).Perm (e :: dropE fs e.nm) := perm_insE e _
theorem mem_dropE {fs : List Ent} {nm : List UInt8} {x : Ent} : x ∈ dropE fs nm ↔ x ∈ fs ∧ x.nm ≠ nm := by
  unfold dropE
  rw [List.mem_filter]
  simp
theorem feet_perm {a b : List Ent} (h : a.Perm b) : (feet a).Perm (feet b) := h.flatMap_right _

/-! ### what was gone over -/
def vis (left : Lit → Bool) (fs : List Ent) : List Ent := fs.filter fun e => !left (.string e.nm)
theorem vis_start (fs : List Ent) (hp : fs.Pairwise fun x y => x.nm ≠ y.nm) : vis (Maps.has (datum fs)) fs = [] := by
  unfold vis
  rw [List.filter_eq_nil_iff]
  intro e he
  rw [datum_has, find_of_mem hp he]
  simp
theorem vis_end {left : Lit → Bool} (fs : List Ent) (h : ∀ kl, left kl = false) : vis left fs = fs := by
  unfold vis
  rw [List.filter_eq_self]
  intro e _
  rw [h]
  rfl
theorem vis_step {left : Lit → Bool} {fs : List Ent} (hp : fs.Pairwise fun x y => x.nm ≠ y.nm) {e : Ent} (he : e ∈ fs) (hl : left (.string e.nm) = true) :
    (vis (fun z => left z && !z.sameKey (.string e.nm)) fs).Perm (e :: vis left fs) := by
  induction fs with
  | nil => cases he
  | cons x r ih =>
    rw [List.pairwise_cons] at hp
    unfold vis
    rcases List.mem_cons.1 he with rfl | h
    · have hrest : r.filter (fun y => !(left (.string y.nm) && !(Lit.string y.nm).sameKey (.string e.nm))) = r.filter fun y => !left (.string y.nm) := by
        apply List.filter_congr
        intro y hy
        have : (y.nm == e.nm) = false := by rw [beq_eq_false_iff_ne]; exact fun e' => hp.1 y hy e'.symm
        rw [same_str, this]
        simp
      rw [List.filter_cons, List.filter_cons]
      simp only [same_str, beq_self_eq_true, Bool.not_true, Bool.and_false, Bool.not_false, if_true, hl]
      simp only [same_str] at hrest
      simp only [hrest]
      exact List.Perm.refl _
    · have hne : (x.nm == e.nm) = false := by rw [beq_eq_false_iff_ne]; exact hp.1 e h
      rw [List.filter_cons, List.filter_cons]
      simp only [same_str, hne, Bool.not_false, Bool.and_true]
      have ih' := ih hp.2 h
      unfold vis at ih'
      simp only [same_str] at ih'
      split
      · exact (List.Perm.cons x ih').trans (List.Perm.swap e x _)
      · exact ih'
end Go.Proofs.YthihljjefncfoaaGreatDoor

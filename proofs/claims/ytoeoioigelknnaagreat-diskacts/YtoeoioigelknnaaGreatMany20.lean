/-
  SEVERAL TEXTS IN ONE: DskBoth, ActsAid.
-/
import Derived.Test.YtoeoioigelknnaaGreatDskTieK
import Derived.Test.YtoeoioigelknnaaGreatDskTurn
import Derived.Test.YtoeoioigelknnaaGreatDskRefM
import Derived.Test.YtoeoioigelknnaaGreatDskRefS
import Derived.Test.YtoeoioigelknnaaGreatMany5
import Derived.Deep.Slices
namespace Go.Proofs.YtoeoioigelknnaaGreat
open Go.RowKit Go.Maps Go.WideAt Go.WideShapes

/-- Both answered the same, and both disks are as one. -/
def Both (a : Int × Ab) (q : Int × RA) : Prop := a.1 = q.1 ∧ Tie a.2 q.2
theorem refuse_one (on : Bool) (s : ByteArray) : refuse on [s] = if on then (if goodB (nameOf s) then 0 else 3) else 9 := by
  unfold refuse
  simp
theorem refuse_both (on : Bool) (s u : ByteArray) : refuse on [s, u] = if on then (if goodB (nameOf s) && goodB (nameOf u) then 0 else 3) else 9 := by
  unfold refuse
  simp
theorem Tie.on_off {A : Ab} {Q : RA} (h : Tie A Q) (hon : A.on = true) : Q.off = false := by rw [h.off, hon]; rfl
theorem Tie.off_on {A : Ab} {Q : RA} (h : Tie A Q) (hon : A.on = false) : Q.off = true := by rw [h.off, hon]; rfl
theorem Tie.find_none {A : Ab} {Q : RA} (h : Tie A Q) {nm : List UInt8} (hf : findT A.sp nm = none) : findT Q.L nm = none := by rw [h.find, hf]; rfl
theorem Tie.find_some {A : Ab} {Q : RA} (h : Tie A Q) {nm : List UInt8} {t : Sig} (hf : findT A.sp nm = some t) : findT Q.L nm = some (strip t) := by rw [h.find, hf]; rfl
theorem both_same {A : Ab} {Q : RA} (h : Tie A Q) {c : Int} {a : Int × Ab} {q : Int × RA} (e1 : a = (c, A)) (e2 : q = (c, Q)) : Both a q := by
  rw [e1, e2]
  exact ⟨rfl, h⟩
/-- A turn, whatever is planned. -/
theorem both_turn {A A' : Ab} {Q Q' : RA} (h : Tie A Q) (hon : A.on = true) (h' : Tie A' Q') {a : Int × Ab} {q : Int × RA} (e1 : a = turnX A (0, A')) (e2 : q = if Q.fail = 1 then (9, crashQ (turnQ Q) Q.keep) else (0, Q')) : Both a q := by
  rw [e1, e2, h.fail hon]
  by_cases hl : A.left = 1
  · rw [turnX_cut hl rfl, if_pos hl]
    exact ⟨rfl, h.cut hon⟩
  · rw [turnX_ok hl, if_neg hl]
    exact ⟨rfl, h'⟩
theorem both_create {A : Ab} {Q : RA} (h : Tie A Q) (s : ByteArray) : Both (createX A s) (createQ Q s) := by
  unfold createX createQ createM
  rw [refuse_one]
  cases hon : A.on
  · exact both_same h (c := 9) (by simp [turnX]) (by simp [h.off_on hon])
  have ho := h.on_off hon
  cases hg : goodB (nameOf s)
  · exact both_same h (c := 3) (by simp [turnX]) (by simp [ho])
  simp only [if_true, ho, Bool.false_eq_true, if_false]
  have hc := h.create (nameOf s)
  cases ht : findT A.sp (nameOf s) with
  | none =>
    simp only
    have e0 := h.find_none ht
    have e1 : fullQ Q (nameOf s) = decide (48 ≤ A.sp.length ∨ A.room ≤ usedT A.sp) := by
      unfold fullQ
      rw [e0, h.count, h.used, h.room]
      simp
    by_cases hf : 48 ≤ A.sp.length ∨ A.room ≤ usedT A.sp
    · rw [e1, decide_eq_true hf, if_pos hf]
      exact both_same h (c := 7) (turnX_bad (by show (7 : Int) ≠ 0; decide)) rfl
    · rw [e1, decide_eq_false hf, if_neg hf]
      exact both_turn h hon hc rfl (by simp)
  | some t =>
    simp only
    have e1 : fullQ Q (nameOf s) = false := by
      unfold fullQ
      rw [h.find_some ht]
      simp
    rw [e1]
    exact both_turn h hon hc rfl (by simp)
theorem known_eq {A : Ab} {Q : RA} (h : Tie A Q) (hon : A.on = true) {s : ByteArray} (hg : goodB (nameOf s) = true) : knownQ Q s = match findT A.sp (nameOf s) with | none => 4 | some _ => 0 := by
  unfold knownQ
  rw [h.on_off hon, hg, h.find]
  simp only [Bool.false_eq_true, if_false, if_true]
  cases findT A.sp (nameOf s) <;> rfl
theorem known_bad {A : Ab} {Q : RA} (h : Tie A Q) (hon : A.on = true) {s : ByteArray} (hg : goodB (nameOf s) = false) : knownQ Q s = 3 := by
  unfold knownQ
  rw [h.on_off hon, hg]
  rfl
theorem known_offA {A : Ab} {Q : RA} (h : Tie A Q) (hon : A.on = false) (s : ByteArray) : knownQ Q s = 9 := by
  unfold knownQ
  rw [h.off_on hon]
  rfl
theorem both_sync {A : Ab} {Q : RA} (h : Tie A Q) (s : ByteArray) : Both (syncX A s) (syncQ Q s) := by
  unfold syncX syncQ syncM
  rw [refuse_one]
  cases hon : A.on
  · exact both_same h (c := 9) (by simp [turnX]) (by simp [known_offA h hon s])
  cases hg : goodB (nameOf s)
  · exact both_same h (c := 3) (by simp [turnX]) (by simp [known_bad h hon hg])
  have hk := known_eq h hon hg
  cases ht : findT A.sp (nameOf s) with
  | none =>
    rw [ht] at hk
    exact both_same h (c := 4) (by simp [turnX]) (by simp [hk])
  | some t =>
    rw [ht] at hk
    simp only [if_true, hk, h.find_some ht]
    exact both_turn h hon (h.sync ht) rfl rfl
theorem both_remove {A : Ab} {Q : RA} (h : Tie A Q) (s : ByteArray) : Both (removeX A s) (removeQ Q s) := by
  unfold removeX removeQ removeM
  rw [refuse_one]
  cases hon : A.on
  · exact both_same h (c := 9) (by simp [turnX]) (by simp [known_offA h hon s])
  cases hg : goodB (nameOf s)
  · exact both_same h (c := 3) (by simp [turnX]) (by simp [known_bad h hon hg])
  have hk := known_eq h hon hg
  cases ht : findT A.sp (nameOf s) with
  | none =>
    rw [ht] at hk
    exact both_same h (c := 4) (by simp [turnX]) (by simp [hk])
  | some t =>
    rw [ht] at hk
    simp only [if_true, hk]
    exact both_turn h hon (h.drop (nameOf s)) rfl rfl
theorem both_spoil {A : Ab} {Q : RA} (h : Tie A Q) (s : ByteArray) (i k : Int) : Both (spoilM A s i k) (spoilQ Q s i k) := by
  unfold spoilM spoilQ
  rw [refuse_one]
  cases hon : A.on
  · exact both_same h (c := 9) (by simp) (by simp [known_offA h hon s])
  cases hg : goodB (nameOf s)
  · exact both_same h (c := 3) (by simp) (by simp [known_bad h hon hg])
  have hk := known_eq h hon hg
  cases ht : findT A.sp (nameOf s) with
  | none =>
    rw [ht] at hk
    exact both_same h (c := 4) (by simp) (by simp [hk])
  | some t =>
    rw [ht] at hk
    simp only [if_true, hk, h.find_some ht]
    have e1 : (strip t).bs = t.bs := rfl
    rw [e1]
    by_cases hb : i < 0 ∨ (t.bs.length : Int) ≤ i ∨ k < 0 ∨ 7 < k
    · rw [if_pos hb, if_pos hb]
      exact ⟨rfl, h⟩
    · rw [if_neg hb, if_neg hb]
      exact ⟨rfl, h.spoil ht i.toNat k.toNat⟩
theorem both_rename {A : Ab} {Q : RA} (h : Tie A Q) (s u : ByteArray) : Both (renameX A s u) (renameQ Q s u) := by
  unfold renameX renameQ renameM
  rw [refuse_both]
  cases hon : A.on
  · exact both_same h (c := 9) (by simp [turnX]) (by simp [h.off_on hon])
  have ho := h.on_off hon
  cases hg : (goodB (nameOf s) && goodB (nameOf u))
  · exact both_same h (c := 3) (by simp [turnX]) (by simp [ho])
  simp only [if_true, ho, Bool.false_eq_true, if_false]
  cases ht : findT A.sp (nameOf s) with
  | none =>
    simp only [h.find_none ht]
    exact both_same h (c := 4) (by simp [turnX]) rfl
  | some t =>
    simp only [h.find_some ht]
    by_cases e : s = u
    · subst e
      simp only [if_true]
      exact both_turn h hon (h.renameSame ht) rfl rfl
    · have hne : nameOf s ≠ nameOf u := fun hh => e (by
        obtain ⟨a⟩ := s
        obtain ⟨b⟩ := u
        have : a.toList = b.toList := hh
        rw [Array.toList_inj.1 this])
      simp only [if_neg e]
      exact both_turn h hon (h.rename hne ht) rfl rfl
theorem lackT_strip (t : Sig) (l : List UInt8) : lackT (strip t) l = lackT t l := rfl
theorem both_append {A : Ab} {Q : RA} (h : Tie A Q) (s : ByteArray) (l : List UInt8) : Both (appendX A s l) (appendQ Q s l) := by
  unfold appendX appendQ appendM
  rw [refuse_one]
  cases hon : A.on
  · exact both_same h (c := 9) (by simp) (by simp [h.off_on hon])
  have ho := h.on_off hon
  cases hg : goodB (nameOf s)
  · exact both_same h (c := 3) (by simp) (by simp [ho])
  simp only [if_true, ho, Bool.false_eq_true, if_false]
  cases ht : findT A.sp (nameOf s) with
  | none =>
    simp only [h.find_none ht]
    exact both_same h (c := 4) (by simp) rfl
  | some t =>
    simp only [h.find_some ht]
    have el : lackQ Q (strip t) l = decide ((A.room : Int) - (usedT A.sp : Int) < lackT t l) := by
      unfold lackQ
      rw [h.room, h.used, lackT_strip]
    rw [el]
    by_cases hf : (A.room : Int) - (usedT A.sp : Int) < lackT t l
    · simp only [if_pos hf, decide_eq_true hf, if_true]
      exact both_same h (c := 7) (by simp) rfl
    · simp only [if_neg hf, decide_eq_false hf, Bool.false_eq_true, if_false, h.fail hon, and_true]
      have ha := h.append ht l
      by_cases hl : A.left = 1
      · rw [if_pos hl, if_pos hl]
        have c := ha.crash hon Q.keep
        have ek := h.keep
        rw [← ek]
        refine ⟨rfl, c.L, c.room, c.ops, fun hh => (by cases hh), c.keep, c.off, c.line, c.sorted, c.pls, c.wr, c.ahead, c.rise⟩
      · rw [if_neg hl, if_neg hl]
        exact ⟨rfl, ha⟩
theorem both_arm {A : Ab} {Q : RA} (h : Tie A Q) (n m : Int) : Both (armX A n m) (armQ Q n m) := by
  unfold armX armQ
  by_cases hon : A.on = true
  · have ho : ¬ Q.off = true := by rw [h.on_off hon]; decide
    rw [if_pos hon, if_neg ho]
    by_cases hn : n < 0
    · rw [if_pos hn, if_pos hn]
      exact ⟨rfl, h⟩
    · rw [if_neg hn, if_neg hn]
      exact ⟨rfl, h.arm n.toNat m⟩
  · have ho : Q.off = true := h.off_on (by simpa using hon)
    rw [if_neg hon, if_pos ho]
    exact ⟨rfl, h⟩
theorem tie_crash {A : Ab} {Q : RA} (h : Tie A Q) (k : Int) : Tie (if A.on then offA A k.toNat else A) (crashQ Q k) := by
  cases hon : A.on
  · simp only [Bool.false_eq_true, if_false]
    unfold crashQ
    rw [h.off_on hon]
    exact h
  · simp only [if_true]
    exact h.crash hon k
end Go.Proofs.YtoeoioigelknnaaGreat
namespace Go.Proofs.YtoeoioigelknnaaGreat
open Go.ChangeShapes Go.WideShapes Go.ChangeAt Go.RowKit Go.Deep Go.Joins

theorem weights_all_act {H : Type} {P : Program} {e : TypeId} {d : DataW H} : ∀ {l : List (DataW H)}, d ∈ l → ∀ n ∈ d.weights P e, n ∈ DataW.weightsAll P e l
  | [], h, _, _ => by cases h
  | a :: l, h, n, hn => by
    simp only [DataW.weightsAll, List.mem_append]
    rcases List.mem_cons.1 h with rfl | h
    · exact .inl hn
    · exact .inr (weights_all_act h n hn)
/-- What was read of the act. -/
def ActV.fits {H : Type} (c : ActV) (y : DataW H) : Prop := ∃ yd, y = .agg [.lit (.int .i64 c.kind), .lit (.string c.sa.data.toList), .lit (.string c.sb.data.toList), yd, .lit (.int .i64 c.n), .lit (.int .i64 c.m)] ∧ (c.data.length = 0 ∨ ∃ el sp, yd = .slice el sp ∧ el.length = c.data.length)
/-- Read so, without its sizes. -/
structure ActV.Seen (w : World) (c : ActV) : Prop where
  sees : Sees w c.ao c.data
  zero : c.ao = none → c.data.length = 0
  kind : -9223372036854775808 ≤ c.kind ∧ c.kind ≤ 9223372036854775807
  n : -9223372036854775808 ≤ c.n ∧ c.n ≤ 9223372036854775807
  m : -9223372036854775808 ≤ c.m ∧ c.m ≤ 9223372036854775807
set_option maxRecDepth 100000 in
theorem act_cells {H : Type} {enc : TypeId × Value → H} {W : World} {fuel : Nat} {cs : List Value} {x : DataW H × List MemPlace} (h : DataW.trod enc Tryz.prog W 0 (fun _ => true) true fuel 31 cs = some x) :
    ∃ c : ActV, cs = (actA c).toList ∧ c.Seen W ∧ c.fits x.1 := by
  obtain ⟨xs, n, _, hd, hl, hlen, hf⟩ := DataW.trod_struct Tryz.underlying31 h
  rw [cellsAct] at hl
  match cs, hl, xs, hlen with
  | [c0, c1, c2, c3, c4, c5], _, [y0, y1, y2, y3, y4, y5], _ =>
    have h0 : DataW.trod enc Tryz.prog W 0 (fun _ => true) true n 3 ((([c0, c1, c2, c3, c4, c5] : List Value).drop 0).take (Tryz.prog.cellsOf 3)) = some y0 := hf 0 _ rfl
    rw [cellsInt] at h0
    have h1 : DataW.trod enc Tryz.prog W 0 (fun _ => true) true n 9 ((([c0, c1, c2, c3, c4, c5] : List Value).drop 1).take (Tryz.prog.cellsOf 9)) = some y1 := hf 1 _ rfl
    rw [cellsStr] at h1
    have h2 : DataW.trod enc Tryz.prog W 0 (fun _ => true) true n 9 ((([c0, c1, c2, c3, c4, c5] : List Value).drop 2).take (Tryz.prog.cellsOf 9)) = some y2 := hf 2 _ rfl
    rw [cellsStr] at h2
    have h3 : DataW.trod enc Tryz.prog W 0 (fun _ => true) true n 29 ((([c0, c1, c2, c3, c4, c5] : List Value).drop 3).take (Tryz.prog.cellsOf 29)) = some y3 := hf 3 _ rfl
    rw [cellsByt] at h3
    have h4 : DataW.trod enc Tryz.prog W 0 (fun _ => true) true n 3 ((([c0, c1, c2, c3, c4, c5] : List Value).drop 4).take (Tryz.prog.cellsOf 3)) = some y4 := hf 4 _ rfl
    rw [cellsInt] at h4
    have h5 : DataW.trod enc Tryz.prog W 0 (fun _ => true) true n 3 ((([c0, c1, c2, c3, c4, c5] : List Value).drop 5).take (Tryz.prog.cellsOf 3)) = some y5 := hf 5 _ rfl
    rw [cellsInt] at h5
    obtain ⟨k, e0, rfl, w0⟩ := DataW.trod_int Tryz.underlying3 h0
    obtain ⟨sa, e1, rfl, _⟩ := DataW.trod_string Tryz.underlying9 h1
    obtain ⟨sb, e2, rfl, _⟩ := DataW.trod_string Tryz.underlying9 h2
    obtain ⟨a, l, c, e3⟩ := slice_form Tryz.underlying29 h3
    obtain ⟨n4, e4, rfl, w4⟩ := DataW.trod_int Tryz.underlying3 h4
    obtain ⟨n5, e5, rfl, w5⟩ := DataW.trod_int Tryz.underlying3 h5
    cases e0
    cases e1
    cases e2
    cases e3
    cases e4
    cases e5
    obtain ⟨y3d, y3p⟩ := y3
    have h3' : DataW.trod enc Tryz.prog W 0 (fun _ => true) true n 29 (Value.slice a l c).cells.toList = some (y3d, y3p) := h3
    obtain ⟨bl, rfl, hs, hz, _, _, hsz⟩ := bytes_open ⟨n, h3'⟩
    refine ⟨⟨k, sa, sb, a, bl, c, n4, n5⟩, rfl, ⟨hs, hz, bounds_i64 w0, bounds_i64 w4, bounds_i64 w5⟩, y3d, ?_, hsz⟩
    have hd1 := congrArg Prod.fst hd
    simpa using hd1
def noAct : ActV := ⟨0, ⟨#[]⟩, ⟨#[]⟩, none, [], 0, 0, 0⟩
/-- Acts that came in. -/
theorem acts_open {H : Type} {enc : TypeId × Value → H} {W : World} {ao : Option Addr} {len cap : Nat} {d : DataW H} {p : List MemPlace}
    (h : DataW.Trod enc Tryz.prog W 0 (fun _ => true) true 22 (Value.slice ao len cap) d p) :
    ∃ l : List ActV, l.length = len ∧ ASees W ao l ∧ (∀ c ∈ l, c.Seen W) ∧ (l.length = 0 ∨ ∃ el sp, d = .slice el sp ∧ el.length = l.length ∧ ∀ c ∈ l, ∃ y ∈ el, c.fits y) := by
  obtain ⟨fuel, hf⟩ := h
  rcases open_slice Tryz.underlying22 hf with ⟨hcs, _⟩ | ⟨a, n, c, m, k, D, Pl, hcs, _, hle, _, hm, hx, hc⟩
  · simp [Value.cells] at hcs
    obtain ⟨rfl, rfl, rfl⟩ := hcs
    exact ⟨[], rfl, (fun i c hc => by simp at hc), (fun c hc => by cases hc), .inl rfl⟩
  · simp [Value.cells] at hcs
    obtain ⟨rfl, rfl, rfl⟩ := hcs
    simp only [if_true] at hm
    subst hm
    rw [cellsAct] at hc
    haveI : Inhabited ActV := ⟨noAct⟩
    obtain ⟨C, hC⟩ := choose_lt (α := ActV) (n := len) (p := fun i c => W.cells? 0 (a.add (i * 6)) 6 = some (actA c).toList ∧ c.Seen W ∧ c.fits (D i)) (fun i hi => by
      obtain ⟨cs', h1, h2⟩ := hc i (by omega)
      obtain ⟨c, rfl, h3, h4⟩ := act_cells h2
      exact ⟨c, h1, h3, h4⟩)
    have hd := congrArg Prod.fst hx
    simp only at hd
    refine ⟨(List.range len).map C, by simp, ?_, ?_, .inr ⟨_, _, hd, by simp, fun q hq => ?_⟩⟩
    · intro i c hi
      have hlt : i < len := by
        have := (List.getElem?_eq_some_iff.1 hi).1
        simpa using this
      simp [hlt] at hi
      subst hi
      obtain ⟨_, _, h3⟩ := World.cells?_some (hC i hlt).1
      obtain ⟨_, _, h30⟩ := World.cells?_some (hC 0 (by omega)).1
      have hz := h30 0 (by omega)
      obtain ⟨b, off, spot⟩ := a
      have hspot : spot = none := by
        have := World.cell?_spot (hz.trans (by rfl : (actA (C 0)).toList[0]? = some (.int .i64 (C 0).kind)))
        simpa [Addr.add] using this
      subst hspot
      refine ⟨b, off, rfl, fun j v hv => ?_⟩
      have hj : j < 6 := (List.getElem?_eq_some_iff.1 hv).1
      have := h3 j hj
      rw [Addr.add_lit, Addr.add_lit, hv] at this
      exact this
    · intro c hc
      obtain ⟨i, hi, rfl⟩ := List.mem_map.1 hc
      exact (hC i (List.mem_range.1 hi)).2.1
    · obtain ⟨i, hi, rfl⟩ := List.mem_map.1 hq
      exact ⟨D i, List.mem_map.2 ⟨i, hi, rfl⟩, (hC i (List.mem_range.1 hi)).2.2⟩
theorem bytesAct : Tryz.prog.bytesOf 31 = 80 := by kernel_rfl
theorem acts_reach {H : Type} {W : World} {ts : List TypeId} {ds : List (DataW H)} {j : Nat} {d : DataW H} {l : List ActV} (h : (DataW.weightsEach Tryz.prog ts ds).all (· ≤ reachBytes) = true) (ht : ts[j]? = some 22) (hd : ds[j]? = some d) (hs : ∀ c ∈ l, c.Seen W)
    (hn : l.length = 0 ∨ ∃ el sp, d = .slice el sp ∧ el.length = l.length ∧ ∀ c ∈ l, ∃ y ∈ el, c.fits y) : l.length ≤ 140737488355328 ∧ ∀ c ∈ l, c.Ok W := by
  rcases hn with h0 | ⟨el, sp, rfl, hl, hq⟩
  · obtain rfl : l = [] := List.eq_nil_of_length_eq_zero h0
    exact ⟨by simp, fun c hc => by cases hc⟩
  · have h1 := sized_slice h ht hd Tryz.underlying22
    rw [bytesAct] at h1
    simp only [reachBytes] at h1
    refine ⟨by omega, fun c hc => ?_⟩
    obtain ⟨y, hy, yd, rfl, hf⟩ := hq c hc
    have hw : ∀ n ∈ (DataW.agg [.lit (.int .i64 c.kind), .lit (.string c.sa.data.toList), .lit (.string c.sb.data.toList), yd, .lit (.int .i64 c.n), .lit (.int .i64 c.m)] : DataW H).weights Tryz.prog 31, n ≤ reachBytes := fun n hn => by
      have := List.all_eq_true.1 h n (DataW.weights_mem_each ht hd n (by
        simp only [DataW.weights, Tryz.underlying22, List.mem_cons, List.mem_append]
        exact .inr (.inl (weights_all_act hy n hn))))
      simpa using this
    have a1 : c.sa.size ≤ reachBytes := hw c.sa.size (by simp [DataW.weights, DataW.weightsEach, Tryz.underlying31])
    have a2 : c.sb.size ≤ reachBytes := hw c.sb.size (by simp [DataW.weights, DataW.weightsEach, Tryz.underlying31])
    have a3 : c.data.length ≤ reachBytes := by
      rcases hf with h0 | ⟨el', sp', rfl, he⟩
      · omega
      · have := hw ((el'.length + sp'.length) * Tryz.prog.bytesOf 5) (by simp [DataW.weights, DataW.weightsEach, Tryz.underlying31, Tryz.underlying29])
        rw [bytes8] at this
        omega
    simp only [reachBytes] at a1 a2 a3
    obtain ⟨b1, b2, b3, b4, b5⟩ := hs c hc
    exact ⟨b1, b2, b3, b4, b5, by omega⟩
end Go.Proofs.YtoeoioigelknnaaGreat

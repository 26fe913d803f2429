/-
  SEVERAL TEXTS IN ONE: SkRefScan, SkGets, SkPair, SkipPutsWalk.
-/
import Derived.Test.YtlhojbgpmjcjlaaSkRefP
import Derived.Test.YtlhojbgpmjcjlaaSkScanP
import Derived.Test.YtlhojbgpmjcjlaaSkLaw
import Derived.Test.YtlhojbgpmjcjlaaSkRefPut
import Derived.Test.YtlhojbgpmjcjlaaSkRefEnd
import Derived.Test.YtlhojbgpmjcjlaaSkGather
import Derived.Test.YtlhojbgpmjcjlaaLaidAll
namespace Go.Proofs.Ytlhojbgpmjcjlaa
open Go.RowKit

theorem scan_snoc (a u : Kb) (l : List Cx) (c : Cx) : scanC a u (l ++ [c]) = if 0 ≤ kc c.k.ky a.ky ∧ kc c.k.ky u.ky < 0 then scanC a u l ++ [c] else scanC a u l := by
  unfold scanC
  rw [List.filter_append]
  by_cases h : 0 ≤ kc c.k.ky a.ky ∧ kc c.k.ky u.ky < 0
  · rw [if_pos h, List.filter_cons_of_pos (by simpa using h)]; rfl
  · rw [if_neg h, List.filter_cons_of_neg (by simpa using h)]; simp
set_option maxRecDepth 100000 in
set_option maxHeartbeats 4000000 in
theorem refScan_any (rb : Nat) (lv vH : Value) (aL : Option Addr) (L : List Cx) (cL : Nat) (a u : Kb) (w : World) (hb : Blk w rb [lv, .slice aL L.length cL, vH] 34) (hs : XSees w aL L) (hl : L.length ≤ 200) :
    Calls Try.prog 14 #[.pointer (some ⟨rb, 0, none⟩), a.v, u.v] w fun e W' => ∃ v, e = .returned v ∧ W'.ownsRow w.heap.size 40 10 v (scanC a u L).length ((scanC a u L).flatMap xs10) ∧ Below w.heap.size w W' := by
  obtain ⟨i1, hi1, hy0, hy1, hy2⟩ := infoX infoCx
  obtain ⟨wb, hwb⟩ : ∃ wb, wb = (w.alloc (.cells #[.string a.t, .string a.p, .int .i64 a.r, .string a.c] 25)).alloc (.cells #[.string u.t, .string u.p, .int .i64 u.r, .string u.c] 25) := ⟨_, rfl⟩
  have hbb : Below w.heap.size w wb := by rw [hwb]; exact ((Below.refl _ _).alloc (Nat.le_refl _) _).alloc (by simp) _
  have b1 : Blk wb w.heap.size [.string a.t, .string a.p, .int .i64 a.r, .string a.c] 25 := by rw [hwb]; exact (Blk.new w _ _).alloc _
  have b2 : Blk wb (w.heap.size + 1) [.string u.t, .string u.p, .int .i64 u.r, .string u.c] 25 := by
    have := Blk.new (w.alloc (.cells #[.string a.t, .string a.p, .int .i64 a.r, .string a.c] 25)) [.string u.t, .string u.p, .int .i64 u.r, .string u.c] 25
    rw [World.size_alloc] at this
    rw [hwb]; exact this
  have hrb : wb.cell? ⟨rb, 1, none⟩ = some (.slice aL L.length cL) := (hb.below hbb hb.lt).cell 1 rfl
  have HS : Hid (∀ x, Below wb.heap.size wb x → XSees x aL L ∧ Blk x w.heap.size [.string a.t, .string a.p, .int .i64 a.r, .string a.c] 25 ∧ Blk x (w.heap.size + 1) [.string u.t, .string u.p, .int .i64 u.r, .string u.c] 25 ∧ Below w.heap.size w x) := fun x hx => ⟨hs.below (hbb.trans (hx.mono hbb.size)) (Nat.le_refl _), b1.below hx b1.lt, b2.below hx b2.lt, hbb.trans (hx.mono hbb.size)⟩
  have C1 : Hid (∀ (k : Kb) (x : World), Calls Try.prog 21 #[k.v, a.v] x fun e w' => e = .returned (.int .i64 (kc k.ky a.ky)) ∧ Below x.heap.size x w') := fun k x => refCmp_any k a x
  have C2 : Hid (∀ (k : Kb) (x : World), Calls Try.prog 21 #[k.v, u.v] x fun e w' => e = .returned (.int .i64 (kc k.ky u.ky)) ∧ Below x.heap.size x w') := fun k x => refCmp_any k u x
  have SN := toHidR fun (l : List Cx) (c : Cx) => scan_snoc a u l c
  have SL : Hid (∀ i, (scanC a u (L.take i)).length ≤ 200) := fun i => by
    have h1 := scan_len a u (L.take i)
    rw [List.length_take] at h1
    omega
  obtain ⟨SF, hSF⟩ : ∃ SF : List Cx → List Cx, SF = scanC a u := ⟨_, rfl⟩
  have hszb := hbb.size
  rw [← hSF] at SN SL ⊢
  have hS0 : SF [] = [] := by rw [hSF]; rfl
  clear hs b1 b2 hbb hb hSF
  obtain ⟨at', ap, ar, ac⟩ := a
  obtain ⟨bt, bp, br, bc⟩ := u
  simp only [Kb.v] at hwb C1 C2 HS SN ⊢
  have hlz : (L.length : Int) ≤ 200 := by omega
  rw [hwb] at hrb
  go_enter Try.func14, Try.ntmps14
  go_wp2_with fail
  rw [← hwb]
  clear hrb hwb
  go_loopw [7, 15] (fun s7 s15 wr => ∃ (i : Nat) (v : Value), i ≤ L.length ∧ v = s7 ∧ s15 = .int .i64 i ∧ wr.ownsRow wb.heap.size 40 10 v (SF (L.take i)).length ((SF (L.take i)).flatMap xs10) ∧ Below wb.heap.size wb wr) (fun _ s15 _ => L.length - (intOf s15).toNat)
  case atStart => exact ⟨0, _, by omega, rfl, rfl, by rw [List.take_zero, hS0]; exact World.ownsRow_nil _ _ _ _, Below.refl _ _⟩
  case round =>
    obtain ⟨i, v, hi, rfl, rfl, ho, hbr⟩ := hrel
    rcases Nat.lt_or_ge i L.length with hlt | hge
    · have hc0 : L[i]? = some L[i] := List.getElem?_eq_getElem hlt
      obtain ⟨b1, o1, rfl, x1⟩ := (HS.out wr hbr).1 i _ hc0
      have hts := takeX_succ hc0
      have hsn := SN.out (L.take i) L[i]
      rw [← hts] at hsn
      have hll := SL.out i
      generalize L[i] = c at *
      obtain ⟨⟨ct, cp, cr, cc⟩, ⟨cti, cd, cl, ck, cn, cstr⟩⟩ := c
      obtain ⟨k0, k1, k2, k3, k4, k5, k6, k7, k8, k9⟩ := x1
      simp only at k0 k1 k2 k3 k4 k5 k6 k7 k8 k9 hsn
      obtain ⟨D1, hD1⟩ : ∃ D, D = kc (Kb.ky ⟨ct, cp, cr, cc⟩) (Kb.ky ⟨at', ap, ar, ac⟩) := ⟨_, rfl⟩
      obtain ⟨D2, hD2⟩ : ∃ D, D = kc (Kb.ky ⟨ct, cp, cr, cc⟩) (Kb.ky ⟨bt, bp, br, bc⟩) := ⟨_, rfl⟩
      rw [← hD1, ← hD2] at hsn
      have E1 := C1.out ⟨ct, cp, cr, cc⟩
      have E2 := C2.out ⟨ct, cp, cr, cc⟩
      simp only [← hD1] at E1
      simp only [← hD2] at E2
      have EH1 := toHidR E1
      have EH2 := toHidR E2
      have HSN := toHidR hsn
      have HO := toHidR ho
      clear E1 E2 hD1 hD2 hsn hts hc0 ho
      have hltz : (i : Int) < (L.length : Int) := by omega
      obtain ⟨wx, hwx⟩ : ∃ wx, wx = wr.alloc (.cells #[.string ct, .string cp, .int .i64 cr, .string cc, .int .i64 cti, .bool cd, .int .i64 cl, .int .i64 ck, .int .i64 cn, .string cstr] 40) := ⟨_, rfl⟩
      have hbx : Below wb.heap.size wb wx := by rw [hwx]; exact hbr.alloc hbr.size _
      have tx : TenX wx wr.heap.size 0 ⟨⟨ct, cp, cr, cc⟩, ⟨cti, cd, cl, ck, cn, cstr⟩⟩ := by rw [hwx]; exact TenX.new wr ⟨⟨ct, cp, cr, cc⟩, ⟨cti, cd, cl, ck, cn, cstr⟩⟩ 40
      have ox : wx.ownsRow wb.heap.size 40 10 v (SF (L.take i)).length ((SF (L.take i)).flatMap xs10) := by rw [hwx]; exact HO.out.alloc _
      have bk := (HS.out wx hbx).2.1
      have a0 := bk.cell 0 rfl
      have a1 := bk.cell 1 rfl
      have a2 := bk.cell 2 rfl
      have a3 := bk.cell 3 rfl
      have TX := toHidR tx
      have OX := toHidR ox
      have HBX := toHidR hbx
      rw [hwx] at a0 a1 a2 a3
      clear tx ox bk hbx HO
      go_wp2_with fail
      rw [← hwx]
      clear hwx a0 a1 a2 a3 k0 k1 k2 k3 k4 k5 k6 k7 k8 k9
      refine (EH1.out _).mono ?_
      rintro e w1 ⟨rfl, hb1⟩
      have hb1' := HBX.out.trans (hb1.mono HBX.out.size)
      by_cases hd1 : 0 ≤ D1
      · have t1 := TX.out.below hb1 TX.out.lt
        have bk := (HS.out w1 hb1').2.2.1
        have a0 := bk.cell 0 rfl
        have a1 := bk.cell 1 rfl
        have a2 := bk.cell 2 rfl
        have a3 := bk.cell 3 rfl
        obtain ⟨k0, k1, k2, k3, -⟩ := t1
        simp only [Nat.zero_add] at k0 k1 k2 k3
        clear bk
        go_wp2_with fail
        refine (EH2.out _).mono ?_
        rintro e w2 ⟨rfl, hb2⟩
        clear k0 k1 k2 k3 a0 a1 a2 a3
        have hb2' := hb1'.trans (hb2.mono hb1'.size)
        have hbx2 := hb1.trans (hb2.mono hb1.size)
        by_cases hd2 : D2 < 0
        · have o2 := owBelow (owBelow OX.out hb1) hb2
          obtain ⟨k0, k1, k2, k3, k4, k5, k6, k7, k8, k9⟩ := TX.out.below hbx2 TX.out.lt
          simp only [Nat.zero_add] at k0 k1 k2 k3 k4 k5 k6 k7 k8 k9
          have hn := HSN.out
          rw [if_pos ⟨hd1, hd2⟩] at hn
          have HN := toHidR hn
          have hs2 := hb2'.size
          clear hn hbx2
          go_wp2_with (at_builtin; go_must (refine wpList_append_grew _ rfl _ _ 23 23 rfl wb.heap.size 40 i1 _ 10 112 Try.underlying23 hi1 hy0 hy1 hy2 rfl _ (SF (L.take i)).length ((SF (L.take i)).flatMap xs10) rfl (o2.alloc _) _ 1 ([(⟨⟨ct, cp, cr, cc⟩, ⟨cti, cd, cl, ck, cn, cstr⟩⟩ : Cx)].flatMap xs10) rfl (src_cells (sees_one w2 ⟨⟨ct, cp, cr, cc⟩, ⟨cti, cd, cl, ck, cn, cstr⟩⟩) (fun h => by cases h) 1) (by unfold maxLen; omega) (by omega) (by rw [World.size_alloc]; omega) ?_; intro v5 w5 ho5 hg5; have hb5 : Below wb.heap.size wb w5 := hb2'.trans (hg5.alloc.below hs2 (fun g hg => (o2.lt g hg).1)); clear o2 hg5 k0 k1 k2 k3 k4 k5 k6 k7 k8 k9))
          go_roundw
          case rel => exact ⟨i + 1, _, by omega, rfl, by go_num, by rw [HN.out, List.length_append, List.flatMap_append]; exact ho5, hb5⟩
          case measure => (simp [intOf]; try omega)
        · have hn := HSN.out
          rw [if_neg (fun h => hd2 h.2)] at hn
          have HN := toHidR hn
          have o2 := toHidR (owBelow (owBelow OX.out hb1) hb2)
          clear hn
          go_wp2_with fail
          go_roundw
          case rel => exact ⟨i + 1, _, by omega, rfl, by go_num, by rw [HN.out]; exact o2.out, hb2'⟩
          case measure => (simp [intOf]; try omega)
      · have hn := HSN.out
        rw [if_neg (fun h => hd1 h.1)] at hn
        have HN := toHidR hn
        have o2 := toHidR (owBelow OX.out hb1)
        clear hn
        go_wp2_with fail
        go_roundw
        case rel => exact ⟨i + 1, _, by omega, rfl, by go_num, by rw [HN.out]; exact o2.out, hb1'⟩
        case measure => (simp [intOf]; try omega)
    · obtain rfl : i = L.length := by omega
      have hgez : ¬ (L.length : Int) < (L.length : Int) := by omega
      rw [List.take_length] at ho
      have HO := toHidR (owMono ho hszb)
      have HE := toHidR (HS.out wr hbr).2.2.2
      clear ho
      go_wp2_with fail
      go_ret
      exact ⟨_, rfl, HO.out, HE.out⟩
end Go.Proofs.Ytlhojbgpmjcjlaa
namespace Go.Proofs.Ytlhojbgpmjcjlaa
open Go.RowKit

/-- What a key has, when one cell more was put in. -/
theorem fnd_add {κ : Kb} {c : Cx} : ∀ {O : List Cx}, Rising O → fnd κ (addC O c) = if @decide (c.k = κ) (Classical.propDecidable _) then (if (fnd κ O).2 then (jn (fnd κ O).1 c.v, true) else (c.v, true)) else fnd κ O
  | [], _ => by
    by_cases h : c.k = κ
    · rw [if_pos (@decide_eq_true _ (Classical.propDecidable _) h)]
      show fnd κ [c] = _
      rw [fnd_hit [] h]
      have e : (fnd κ []).2 = false := rfl
      rw [e]; rfl
    · rw [if_neg (by simpa using h)]
      show fnd κ [c] = _
      rw [fnd_miss [] h]
  | x :: O, hr => by
    obtain ⟨hx, hO⟩ := List.pairwise_cons.1 hr
    rcases Int.lt_or_le (kx x c) 0 with h1 | h1
    · rw [addC_behind O h1]
      have ih := fnd_add (κ := κ) (c := c) hO
      by_cases hxk : x.k = κ
      · have hck : c.k ≠ κ := fun e => by
          have e2 : x.k = c.k := hxk.trans e.symm
          have : kx x c = 0 := (kc_cmpr.z _ _).2 (by rw [e2])
          omega
        rw [if_neg (by simpa using hck), fnd_hit _ hxk, fnd_hit _ hxk]
      · rw [fnd_miss _ hxk, fnd_miss _ hxk, ih]
    · by_cases h0 : kx x c = 0
      · rw [addC_same O h0]
        have e2 : x.k = c.k := Kb.ky_inj.1 ((kc_cmpr.z _ _).1 h0)
        by_cases hck : c.k = κ
        · rw [if_pos (@decide_eq_true _ (Classical.propDecidable _) hck), fnd_hit O (show (jnC x c).k = κ from e2.trans hck), fnd_hit O (e2.trans hck)]
          rfl
        · have hxk : x.k ≠ κ := fun e => hck (e2.symm.trans e)
          rw [if_neg (by simpa using hck), fnd_miss O (show (jnC x c).k ≠ κ from hxk), fnd_miss O hxk]
      · have h2 : 0 < kx x c := by omega
        rw [addC_ahead O h2]
        by_cases hck : c.k = κ
        · rw [if_pos (@decide_eq_true _ (Classical.propDecidable _) hck), fnd_hit _ hck]
          have hb : ∀ y ∈ x :: O, y.k ≠ κ := fun y hy e => by
            have hxy : kx x y ≤ 0 := by
              rcases List.mem_cons.1 hy with rfl | hy
              · exact Int.le_of_eq ((kc_cmpr.z _ _).2 rfl)
              · have := hx y hy; omega
            have e2 : y.k = c.k := e.trans hck.symm
            have : kx x c = kx x y := kx_right e2.symm
            omega
          rw [fnd_behind hb]; rfl
        · rw [if_neg (by simpa using hck), fnd_miss _ hck]
theorem putG_h {hs : List Nat} (hne : hs ≠ []) {M : List (Cx × Nat)} {c : Cx} (h : ∀ p ∈ M, p.2 ∈ hs) : ∀ p ∈ putG hs M c, p.2 ∈ hs := by
  have key : ∀ (H : Nat), H ∈ hs → ∀ M : List (Cx × Nat), (∀ p ∈ M, p.2 ∈ hs) → ∀ p ∈ putH H M c, p.2 ∈ hs := fun H hH M => by
    induction M with
    | nil =>
      intro _ p hp
      rw [putH] at hp
      obtain rfl : p = (c, H) := by simpa using hp
      exact hH
    | cons x M ih =>
      intro hM p hp
      rw [putH] at hp
      split at hp
      · rcases List.mem_cons.1 hp with rfl | hp
        · exact hM x (by simp)
        · exact hM p (by simp [hp])
      · split at hp
        · rcases List.mem_cons.1 hp with rfl | hp
          · exact hH
          · exact hM p hp
        · rcases List.mem_cons.1 hp with rfl | hp
          · exact hM p (by simp)
          · exact ih (fun q hq => hM q (by simp [hq])) p hp
  unfold putG
  split
  · unfold putM
    refine key _ ?_ M h
    unfold nextH
    have hp : 0 < hs.length := List.length_pos_iff.2 hne
    rw [List.getD_eq_getElem?_getD, List.getElem?_eq_getElem (Nat.mod_lt _ hp)]
    exact List.getElem_mem _
  · exact h
def vL6 (v : Vr) : List Value := [.int .i64 v.time, .bool v.dead, .int .i64 v.loc, .int .i64 v.kind, .int .i64 v.num, .string v.s]
/-- A list and a version, of the call's own, apart. -/
structure Gv (B : Nat) (w w' : World) (S : SkId) (hs : List Nat) (T : List Tw) (vb : Nat) (v : Vr) : Prop where
  sk : SkB B w w' S hs T
  box : Blk w' vb (vL6 v) 38
  ne : vb ∉ S.gh :: S.ft T
  lo : B ≤ vb
  hh : ∀ t ∈ T, t.h ∈ hs
section
variable {B : Nat} {w w' w'' : World} {S : SkId} {hs : List Nat} {T T' : List Tw} {vb : Nat} {v : Vr}
theorem Gv.below (h : Gv B w w' S hs T vb v) (hb : Below w'.heap.size w' w'') : Gv B w w'' S hs T vb v :=
  ⟨h.sk.below hb, h.box.below hb h.box.lt, h.ne, h.lo, h.hh⟩
theorem Gv.put {c : Cx} (h : Gv B w w' S hs T vb v) (hS : SkAt w'' S hs T') (hM : Moved w' w'' (S.ft T) (S.ft T')) (hp : T'.map Tw.p = putG hs (T.map Tw.p) c) : Gv B w w'' S hs T' vb v := by
  have hne := h.ne
  refine ⟨h.sk.put hS hM, h.box.carry (hM.kept vb h.box.lt fun e => hne (List.mem_cons_of_mem _ e)), fun hm => ?_, h.lo, fun t ht => ?_⟩
  · rcases List.mem_cons.1 hm with e | hm
    · exact hne (by rw [e]; simp)
    · rcases hM.news vb hm with h1 | h1
      · exact hne (List.mem_cons_of_mem _ h1)
      · have := h.box.lt; omega
  · have h1 : t.p ∈ putG hs (T.map Tw.p) c := by rw [← hp]; exact List.mem_map_of_mem ht
    refine putG_h hS.hne ?_ t.p h1
    intro p hp
    obtain ⟨u, hu, rfl⟩ := List.mem_map.1 hp
    exact h.hh u hu
theorem Gv.set (h : Gv B w w' S hs T vb v) (u : Vr) : Gv B w ((((((w'.setCell ⟨vb, 0, none⟩ (.int .i64 u.time)).setCell ⟨vb, 1, none⟩ (.bool u.dead)).setCell ⟨vb, 2, none⟩ (.int .i64 u.loc)).setCell ⟨vb, 3, none⟩ (.int .i64 u.kind)).setCell ⟨vb, 4, none⟩ (.int .i64 u.num)).setCell ⟨vb, 5, none⟩ (.string u.s)) S hs T vb u := by
  have hbox := set6b h.box rfl (.int .i64 u.time) (.bool u.dead) (.int .i64 u.loc) (.int .i64 u.kind) (.int .i64 u.num) (.string u.s)
  have hbel := below6 (h.sk.bel) h.lo (.int .i64 u.time) (.bool u.dead) (.int .i64 u.loc) (.int .i64 u.kind) (.int .i64 u.num) (.string u.s)
  generalize hW : ((((((w'.setCell ⟨vb, 0, none⟩ (.int .i64 u.time)).setCell ⟨vb, 1, none⟩ (.bool u.dead)).setCell ⟨vb, 2, none⟩ (.int .i64 u.loc)).setCell ⟨vb, 3, none⟩ (.int .i64 u.kind)).setCell ⟨vb, 4, none⟩ (.int .i64 u.num)).setCell ⟨vb, 5, none⟩ (.string u.s)) = W at *
  have hoth : ∀ b, b ≠ vb → W.heap[b]? = w'.heap[b]? := fun b hb => by
    rw [← hW]
    exact (Below.heap_setCell _ _ _ _ hb).trans ((Below.heap_setCell _ _ _ _ hb).trans ((Below.heap_setCell _ _ _ _ hb).trans ((Below.heap_setCell _ _ _ _ hb).trans ((Below.heap_setCell _ _ _ _ hb).trans (Below.heap_setCell _ _ _ _ hb)))))
  have hsz : W.heap.size = w'.heap.size := by rw [← hW]; simp
  refine ⟨⟨h.sk.sk.carry fun b _ hm => hoth b fun e => h.ne (e ▸ hm), hbel, h.sk.low, by rw [hsz]; exact h.sk.siz⟩, hbox, h.ne, h.lo, h.hh⟩
end
theorem tenKeep {w w' : World} {b o : Nat} {c : Cx} (h : TenX w b o c) (e : w'.heap[b]? = w.heap[b]?) : TenX w' b o c := by
  obtain ⟨c0, c1, c2, c3, c4, c5, c6, c7, c8, c9⟩ := h
  constructor <;> (rw [World.cell?_of_block e]; assumption)
/-- Put beside a version, the cell being boxed. -/
theorem putV_any {B : Nat} {w w' : World} {S : SkId} {hs : List Nat} {T : List Tw} {vb : Nat} {v : Vr} {l : List Cx} (h : Gv B w w' S hs T vb v) (hl : l.length ≤ 200) (hw : wtXs l ≤ 4000) (i : Nat) (c : Cx) (hc : l[i]? = some c) (hT : cs T = nrm (goods (l.take i))) :
    Calls Try.prog 10 #[.pointer (some ⟨S.l, 0, none⟩), c.val] (w'.alloc (.cells c.a 40)) fun e w'' => ∃ T', e = .returned (.int .i64 (if goodC c then 0 else 2)) ∧ Gv B w w'' S hs T' vb v ∧ cs T' = nrm (goods (l.take (i + 1))) ∧ TenX w'' w'.heap.size 0 c ∧ cs T' = if goodC c then addC (cs T) c else cs T := by
  obtain ⟨a1, a2, a3, a4⟩ := wt_mem (List.mem_of_getElem? hc) hw
  have hlen := cs_len hT
  rw [List.length_take] at hlen
  have hm : (4000 : Nat) ≤ maxLen := by decide
  have hA := h.below ((Below.refl w'.heap.size w').alloc (Nat.le_refl _) (.cells c.a 40))
  have ht := TenX.new w' c 40
  exact (put_any S hs T c _ hA.sk.sk (by omega) (by omega) (by omega) (by omega) (by omega)).mono fun e w'' ⟨T', he, hS, hp, hM⟩ => ⟨T', he, hA.put hS hM hp, by rw [takeX_succ hc]; exact put_cs hp hT, tenKeep ht (hM.kept _ ht.lt fun e2 => by have := h.sk.sk.ftlt _ e2; omega), by
    unfold cs
    rw [c_of, hp, putG_fst, ← c_of]⟩
end Go.Proofs.Ytlhojbgpmjcjlaa
namespace Go.Proofs.Ytlhojbgpmjcjlaa
open Go.RowKit

theorem refLPut_any (B : Nat) (w : World) (rb : Nat) (io : Option Addr) (li : List Int) (icap : Nat) (M : List (Cx × Nat)) (vL vH : Value) (c : Cx) (h : RfAt B w rb (.slice io li.length icap) M vL vH) (his : ISees w io li) (hBs : B ≤ w.heap.size) (hlen : M.length ≤ 200) (hl : li.length ≤ 1000) (h1 : c.k.t.size ≤ maxLen) (h2 : c.k.p.size ≤ maxLen) (h3 : c.k.c.size ≤ maxLen) (h4 : c.v.s.size ≤ maxLen) :
    Calls Try.prog 11 #[.pointer (some ⟨rb, 0, none⟩), c.val] w fun e w' => e = .returned (.int .i64 (if goodC c then 0 else 2)) ∧ ∃ vL' vH', RfAt B w' rb (.slice io li.length icap) (putG (lvls li) M c) vL' vH' ∧ Moved w w' (rft rb vL) (rft rb vL') ∧ ∀ g, vH'.ownBlock = some g → vH.ownBlock = some g ∨ w.heap.size ≤ g := by
  by_cases hall : ∀ p ∈ M, kx p.1 c < 0
  · exact refLPut_end B w rb io li icap M vL vH c h his hBs hlen hl h1 h2 h3 h4 hall
  · exact refLPut_lt B w rb io li icap M vL vH c h his hBs hlen hl h1 h2 h3 h4 (by
      rcases Classical.not_forall.1 hall with ⟨p, hp⟩
      rcases Classical.not_imp.1 hp with ⟨hm, hn⟩
      exact ⟨p, hm, hn⟩)
/-- Both lists, apart. -/
structure Pr (B : Nat) (w w' : World) (S : SkId) (hs : List Nat) (T : List Tw) (rb : Nat) (lv vL vH : Value) : Prop where
  sk : SkB B w w' S hs T
  rf : RfAt B w' rb lv (T.map Tw.p) vL vH
  dj : ∀ b ∈ S.gh :: S.ft T, b ≠ rb ∧ vL.ownBlock ≠ some b ∧ vH.ownBlock ≠ some b
  lo : B ≤ rb
section
variable {B : Nat} {w w' w'' : World} {S : SkId} {hs : List Nat} {T T' : List Tw} {rb : Nat} {lv vL vH vL' vH' : Value}
theorem Pr.below (h : Pr B w w' S hs T rb lv vL vH) (hb : Below w'.heap.size w' w'') : Pr B w w'' S hs T rb lv vL vH := ⟨h.sk.below hb, h.rf.below hb, h.dj, h.lo⟩
/-- Behind our Put: the document's list is as it was. -/
theorem Pr.putA (h : Pr B w w' S hs T rb lv vL vH) (hS : SkAt w'' S hs T') (hM : Moved w' w'' (S.ft T) (S.ft T')) : SkB B w w'' S hs T' ∧ RfAt B w'' rb lv (T.map Tw.p) vL vH ∧ ∀ b ∈ S.gh :: S.ft T', b ≠ rb ∧ vL.ownBlock ≠ some b ∧ vH.ownBlock ≠ some b := by
  refine ⟨h.sk.put hS hM, h.rf.carry fun b hb => hM.kept b (by
    rcases hb with rfl | hb | hb
    · exact h.rf.blk.lt
    · exact (h.rf.L.lt b hb).2
    · exact (h.rf.H.lt b hb).2) fun hm => ?_, fun b hb => ?_⟩
  · obtain ⟨d1, d2, d3⟩ := h.dj b (List.mem_cons_of_mem _ hm)
    rcases hb with e | e | e
    · exact d1 e
    · exact d2 e
    · exact d3 e
  · rcases List.mem_cons.1 hb with rfl | hb
    · exact h.dj _ (by simp)
    · rcases hM.news b hb with h1 | h1
      · exact h.dj b (List.mem_cons_of_mem _ h1)
      · refine ⟨fun e => ?_, fun e => ?_, fun e => ?_⟩
        · have := h.rf.blk.lt; omega
        · have := (h.rf.L.lt b e).2; omega
        · have := (h.rf.H.lt b e).2; omega
/-- Behind the document's Put. -/
theorem Pr.putB {M0 : List (Cx × Nat)} (h1 : SkB B w w' S hs T) (h2 : RfAt B w' rb lv M0 vL vH) (h3 : ∀ b ∈ S.gh :: S.ft T, b ≠ rb ∧ vL.ownBlock ≠ some b ∧ vH.ownBlock ≠ some b) (h4 : B ≤ rb) (hR : RfAt B w'' rb lv (T.map Tw.p) vL' vH') (hM : Moved w' w'' (rft rb vL) (rft rb vL')) (hH : ∀ g, vH'.ownBlock = some g → vH.ownBlock = some g ∨ w'.heap.size ≤ g) : Pr B w w'' S hs T rb lv vL' vH' := by
  have hno : ∀ b ∈ S.gh :: S.ft T, b ∉ rft rb vL := fun b hb hm => by
    obtain ⟨d1, d2, -⟩ := h3 b hb
    rcases List.mem_cons.1 hm with e | hm
    · exact d1 e
    · exact d2 (by simpa using hm)
  refine ⟨⟨h1.sk.carry fun b hb hm => hM.kept b hb (hno b hm), h1.bel.trans (hM.below h1.siz fun i hi => ?_), h1.low, Nat.le_trans h1.siz hM.size⟩, hR, fun b hb => ⟨(h3 b hb).1, fun e => ?_, fun e => ?_⟩, h4⟩
  · rcases List.mem_cons.1 hi with rfl | hi
    · exact h4
    · exact (h2.L.lt i (by simpa using hi)).1
  · rcases hM.news b (List.mem_cons_of_mem _ (by rw [e]; simp)) with h5 | h5
    · exact hno b hb h5
    · have := h1.sk.alllt b hb; omega
  · rcases hH b e with h5 | h5
    · exact (h3 b hb).2.2 h5
    · have := h1.sk.alllt b hb; omega
end
end Go.Proofs.Ytlhojbgpmjcjlaa
namespace Go.Proofs.Ytlhojbgpmjcjlaa.skipPuts
open Go.RowKit

attribute [local go_sem] Oper.pureAt Oper.pureUpon
/-- A world in which a cell lies. -/
structure Tc (cb : Nat) (c : Cx) where
  u : World
  h : TenX u cb 0 c
theorem toHid {p : Prop} (h : p) : Hid p := h
set_option maxRecDepth 100000 in
set_option maxHeartbeats 8000000 in
theorem walk (io : Option Addr) (li : List Int) (icap : Nat) (ao : Option Addr) (l : List Cx) (cap : Nat) (xf xu : Kb) (st : Int) (w : World) (his : ISees w io li) (hin : io = none → li.length = 0) (hil : li.length ≤ 1125899906842624) (hs : XSees w ao l) (_hn : ao = none → l.length = 0) (hl : l.length ≤ 140737488355328) (hc : ∀ c ∈ l, c.In ∧ wtX c ≤ 562949953421312) (_hst : InI st) :
    Calls Try.prog 3 #[.slice io li.length icap, .slice ao l.length cap, endsV xf xu st] w fun e w' => e = .returned (.bool true) ∧ Below w.heap.size w w' := by
  have LV : Hid (∀ w : World, Calls Try.prog 8 #[] w fun x w' => x = .returned (.bool true) ∧ Below w.heap.size w w') := lives6_any
  obtain ⟨wb, hwb⟩ : ∃ wb, wb = w.alloc (.cells #[.string xf.t, .string xf.p, .int .i64 xf.r, .string xf.c, .string xu.t, .string xu.p, .int .i64 xu.r, .string xu.c, .int .i64 st] 27) := ⟨_, rfl⟩
  have hbb : Below w.heap.size w wb := by rw [hwb]; exact (Below.refl _ _).alloc (Nat.le_refl _) _
  have b1 : Blk wb w.heap.size [.string xf.t, .string xf.p, .int .i64 xf.r, .string xf.c, .string xu.t, .string xu.p, .int .i64 xu.r, .string xu.c, .int .i64 st] 27 := by rw [hwb]; exact Blk.new w _ _
  have HE : Hid (∀ w', Below wb.heap.size wb w' → Below w.heap.size w w') := fun w' h => hbb.trans (h.mono hbb.size)
  have HS : Hid (∀ w', Below wb.heap.size wb w' → XSees w' ao l ∧ ISees w' io li ∧ Blk w' w.heap.size [.string xf.t, .string xf.p, .int .i64 xf.r, .string xf.c, .string xu.t, .string xu.p, .int .i64 xu.r, .string xu.c, .int .i64 st] 27) := fun w' h => ⟨hs.below (HE.out w' h) (Nat.le_refl _), his.below (HE.out w' h) (Nat.le_refl _), b1.below h b1.lt⟩
  have W1 : Hid (Calls Try.prog 7 #[.slice ao l.length cap, .int .i64 200] wb fun e w' => (∃ z : Nat, e = .returned (.int .i64 z) ∧ z ≤ 1000000000000000 ∧ (z ≤ 200 → l.length ≤ 200 ∧ wtXs l ≤ 20 * 200)) ∧ Below wb.heap.size wb w') :=
    weigh6_any ao l cap 200 wb (HS.out wb (Below.refl _ _)).1 (by omega) hl (fun c h => (hc c h).2)
  have hlz : (l.length : Int) ≤ 140737488355328 := by omega
  have hilz : (li.length : Int) ≤ 1125899906842624 := by omega
  have NA : Hid (li.length ≤ 1000 → ∀ w', Below wb.heap.size wb w' → Calls Try.prog 9 #[.slice io li.length icap] w' fun e w'' => ∃ S : SkId, e = .returned (.pointer (some ⟨S.l, 0, none⟩)) ∧ SkB wb.heap.size wb w'' S (lvls li) []) := fun h1 w' h =>
    (new_any io li icap w' (HS.out w' h).2.1 hin (by omega)).mono fun e w'' ⟨S, he, hS, hb, hlo⟩ => ⟨S, he, ⟨hS, h.trans (hb.mono h.size), fun b hb' => Nat.le_trans h.size (hlo b hb'), Nat.le_trans h.size hb.size⟩⟩
  clear hc hs his hin hl hil b1 hbb
  obtain ⟨at', ap, ar, ac⟩ := xf
  obtain ⟨bt, bp, br, bc⟩ := xu
  simp only [endsV] at hwb ⊢
  go_enter Try.func3, Try.ntmps3
  go_wp2_with fail
  rw [← hwb]
  clear hwb
  refine W1.out.mono ?_
  rintro e w1 ⟨⟨z, rfl, hz, hzm⟩, hb1⟩
  by_cases hbig : 200 < z
  · have hbz : (200 : Int) < (z : Int) := by omega
    clear hzm
    go_wp2_with fail
    refine (LV.out _).mono ?_
    rintro e w2 ⟨rfl, hb2⟩
    go_wp2_with fail
    go_ret
    exact ⟨rfl, HE.out _ (hb1.trans (hb2.mono hb1.size))⟩
  have hbz : ¬ (200 : Int) < (z : Int) := by omega
  obtain ⟨hl4, hw4⟩ := hzm (by omega)
  clear hzm hbig
  by_cases hli : 1000 < li.length
  · have hliz : (1000 : Int) < (li.length : Int) := by omega
    go_wp2_with fail
    refine (LV.out _).mono ?_
    rintro e w2 ⟨rfl, hb2⟩
    go_wp2_with fail
    go_ret
    exact ⟨rfl, HE.out _ (hb1.trans (hb2.mono hb1.size))⟩
  have hliz : ¬ (1000 : Int) < (li.length : Int) := by omega
  have N1h := toHid (NA.out (by omega) w1 hb1)
  clear NA hb1
  go_wp2_with fail
  refine N1h.out.mono ?_
  rintro e w2 ⟨S, rfl, hA⟩
  obtain ⟨rb, hrb⟩ : ∃ rb, rb = w2.heap.size := ⟨_, rfl⟩
  obtain ⟨w3, hw3⟩ : ∃ w3, w3 = w2.alloc (.cells #[.slice io li.length icap, .slice none 0 0, .slice none 0 0] 34) := ⟨_, rfl⟩
  have hP0 : Hid (Pr wb.heap.size wb w3 S (lvls li) [] rb (.slice io li.length icap) (.slice none 0 0) (.slice none 0 0)) := by
    rw [hw3, hrb]
    exact ⟨hA.below ((Below.refl _ _).alloc (Nat.le_refl _) _), ⟨Blk.new w2 _ _, World.ownsRow_nil _ _ _ _, World.ownsRow_nil _ _ _ _, fun _ => ⟨rfl, rfl⟩⟩, fun b hb => ⟨(fun e => by have := hA.sk.alllt b hb; omega), (fun e => by cases e), (fun e => by cases e)⟩, hA.siz⟩
  clear N1h hA
  go_wp2_with fail
  rw [← hw3, ← hrb]
  clear hw3 hrb
  go_loopw [34] (fun s34 wr => ∃ (i : Nat) (T : List Tw) (vL vH : Value), i ≤ l.length ∧ s34 = .int .i64 i ∧ Pr wb.heap.size wb wr S (lvls li) T rb (.slice io li.length icap) vL vH ∧ cs T = nrm (goods (l.take i))) (fun s34 _ => l.length - (intOf s34).toNat)
  case atStart => exact ⟨0, [], _, _, by omega, rfl, hP0.out, rfl⟩
  case round =>
    obtain ⟨i, T, vL, vH, hi, rfl, hP, hcs⟩ := hrel
    rcases Nat.lt_or_ge i l.length with hlt | hge
    · have hc0 : l[i]? = some l[i] := List.getElem?_eq_getElem hlt
      obtain ⟨b1, o1, rfl, x1⟩ := (HS.out wr hP.sk.bel).1 i _ hc0
      obtain ⟨a1, a2, a3, a4⟩ := wt_mem (List.mem_of_getElem? hc0) hw4
      have hlen := cs_len hcs
      rw [List.length_take] at hlen
      have hts := takeX_succ hc0
      generalize l[i] = c at *
      have hm4 : (4000 : Nat) ≤ maxLen := by decide
      obtain ⟨wx, hwx⟩ : ∃ wx, wx = wr.alloc (.cells c.a 40) := ⟨_, rfl⟩
      have hPx : Pr wb.heap.size wb wx S (lvls li) T rb (.slice io li.length icap) vL vH := by rw [hwx]; exact hP.below ((Below.refl _ _).alloc (Nat.le_refl _) _)
      have tx : TenX wx wr.heap.size 0 c := by rw [hwx]; exact TenX.new wr c _
      have hcb : ∀ b ∈ S.gh :: S.ft T, b ≠ wr.heap.size := fun b hb e => by have := hP.sk.sk.alllt b hb; omega
      have PA : Hid (Calls Try.prog 10 #[.pointer (some ⟨S.l, 0, none⟩), c.val] wx.drew fun e w' => e = .returned (.int .i64 (if goodC c then 0 else 2)) ∧ ∃ T', SkB wb.heap.size wb w' S (lvls li) T' ∧ RfAt wb.heap.size w' rb (.slice io li.length icap) (T.map Tw.p) vL vH ∧ (∀ b ∈ S.gh :: S.ft T', b ≠ rb ∧ vL.ownBlock ≠ some b ∧ vH.ownBlock ≠ some b) ∧ T'.map Tw.p = putG (lvls li) (T.map Tw.p) c ∧ TenX w' wr.heap.size 0 c) := by
        have hPd := hPx.below ((Below.refl wx.heap.size wx).drew)
        have txd := tx.below ((Below.refl wx.heap.size wx).drew) tx.lt
        exact (put_any S (lvls li) T c wx.drew hPd.sk.sk (by omega) (by omega) (by omega) (by omega) (by omega)).mono fun e w' ⟨T', he, hS, hp, hM⟩ => by
          obtain ⟨q1, q2, q3⟩ := hPd.putA hS hM
          exact ⟨he, T', q1, q2, q3, hp, tenKeep txd (hM.kept _ txd.lt fun hm => hcb _ (List.mem_cons_of_mem _ hm) rfl)⟩
      have PB : Hid (∀ (u : World) (T' : List Tw), SkB wb.heap.size wb u S (lvls li) T' → RfAt wb.heap.size u rb (.slice io li.length icap) (T.map Tw.p) vL vH → (∀ b ∈ S.gh :: S.ft T', b ≠ rb ∧ vL.ownBlock ≠ some b ∧ vH.ownBlock ≠ some b) → T'.map Tw.p = putG (lvls li) (T.map Tw.p) c → TenX u wr.heap.size 0 c → Calls Try.prog 11 #[.pointer (some ⟨rb, 0, none⟩), c.val] u fun e w' => e = .returned (.int .i64 (if goodC c then 0 else 2)) ∧ ∃ vL' vH', Pr wb.heap.size wb w' S (lvls li) T' rb (.slice io li.length icap) vL' vH' ∧ TenX w' wr.heap.size 0 c) := fun u T' q1 q2 q3 hp ht =>
        (refLPut_any wb.heap.size u rb io li icap (T.map Tw.p) vL vH c q2 (HS.out u q1.bel).2.1 q1.siz (by rw [List.length_map]; omega) (by omega) (by omega) (by omega) (by omega) (by omega)).mono fun e w' ⟨he, vL', vH', hR, hM, hH⟩ => by
          rw [← hp] at hR
          refine ⟨he, vL', vH', Pr.putB q1 q2 q3 hPx.lo hR hM hH, tenKeep ht (hM.kept _ ht.lt fun hm => ?_)⟩
          rcases List.mem_cons.1 hm with e1 | e1
          · have h1 := hP.rf.blk.lt; omega
          · have h1 := (hP.rf.L.lt wr.heap.size (by simpa using e1)).2; omega
      have HCS : Hid (∀ T' : List Tw, T'.map Tw.p = putG (lvls li) (T.map Tw.p) c → cs T' = nrm (goods (l.take (i + 1)))) := fun T' hp => by rw [hts]; exact put_cs hp hcs
      generalize (if goodC c then (0 : Int) else 2) = G at *
      obtain ⟨⟨ct, cp, cr, cc⟩, ⟨cti, cd, cl, ck, cn, cstr⟩⟩ := c
      simp only [Cx.val, Cx.a] at hwx PA PB
      obtain ⟨k0, k1, k2, k3, k4, k5, k6, k7, k8, k9⟩ := x1
      simp only at k0 k1 k2 k3 k4 k5 k6 k7 k8 k9
      have hltz : (i : Int) < (l.length : Int) := by omega
      have TXD := toHid (tx.below ((Below.refl wx.heap.size wx).drew) tx.lt)
      obtain ⟨cb, hcbe⟩ : ∃ cb, cb = wr.heap.size := ⟨_, rfl⟩
      rw [← hcbe] at PA PB TXD
      have q0 : ∀ z : Tc cb ⟨⟨ct, cp, cr, cc⟩, ⟨cti, cd, cl, ck, cn, cstr⟩⟩, z.u.cell? ⟨cb, 0, none⟩ = some (.string ct) := fun z => by simpa using z.h.c0
      have q1 : ∀ z : Tc cb ⟨⟨ct, cp, cr, cc⟩, ⟨cti, cd, cl, ck, cn, cstr⟩⟩, z.u.cell? ⟨cb, 1, none⟩ = some (.string cp) := fun z => by simpa using z.h.c1
      have q2 : ∀ z : Tc cb ⟨⟨ct, cp, cr, cc⟩, ⟨cti, cd, cl, ck, cn, cstr⟩⟩, z.u.cell? ⟨cb, 2, none⟩ = some (.int .i64 cr) := fun z => by simpa using z.h.c2
      have q3 : ∀ z : Tc cb ⟨⟨ct, cp, cr, cc⟩, ⟨cti, cd, cl, ck, cn, cstr⟩⟩, z.u.cell? ⟨cb, 3, none⟩ = some (.string cc) := fun z => by simpa using z.h.c3
      have q4 : ∀ z : Tc cb ⟨⟨ct, cp, cr, cc⟩, ⟨cti, cd, cl, ck, cn, cstr⟩⟩, z.u.cell? ⟨cb, 4, none⟩ = some (.int .i64 cti) := fun z => by simpa using z.h.c4
      have q5 : ∀ z : Tc cb ⟨⟨ct, cp, cr, cc⟩, ⟨cti, cd, cl, ck, cn, cstr⟩⟩, z.u.cell? ⟨cb, 5, none⟩ = some (.bool cd) := fun z => by simpa using z.h.c5
      have q6 : ∀ z : Tc cb ⟨⟨ct, cp, cr, cc⟩, ⟨cti, cd, cl, ck, cn, cstr⟩⟩, z.u.cell? ⟨cb, 6, none⟩ = some (.int .i64 cl) := fun z => by simpa using z.h.c6
      have q7 : ∀ z : Tc cb ⟨⟨ct, cp, cr, cc⟩, ⟨cti, cd, cl, ck, cn, cstr⟩⟩, z.u.cell? ⟨cb, 7, none⟩ = some (.int .i64 ck) := fun z => by simpa using z.h.c7
      have q8 : ∀ z : Tc cb ⟨⟨ct, cp, cr, cc⟩, ⟨cti, cd, cl, ck, cn, cstr⟩⟩, z.u.cell? ⟨cb, 8, none⟩ = some (.int .i64 cn) := fun z => by simpa using z.h.c8
      have q9 : ∀ z : Tc cb ⟨⟨ct, cp, cr, cc⟩, ⟨cti, cd, cl, ck, cn, cstr⟩⟩, z.u.cell? ⟨cb, 9, none⟩ = some (.string cstr) := fun z => by simpa using z.h.c9
      haveI : Nonempty (Tc cb ⟨⟨ct, cp, cr, cc⟩, ⟨cti, cd, cl, ck, cn, cstr⟩⟩) := ⟨⟨_, TXD.out⟩⟩
      clear hP hPx hts hcs hc0 tx hcb
      go_wp2_with fail
      rw [← hwx, ← hcbe]
      clear hwx hcbe k0 k1 k2 k3 k4 k5 k6 k7 k8 k9
      refine wp_region_sched (fun w' => ∃ p : Tc cb ⟨⟨ct, cp, cr, cc⟩, ⟨cti, cd, cl, ck, cn, cstr⟩⟩, w' = p.u) [(0, true), (1, true), (3, true), (4, true), (2, false), (5, false), (6, true)] rfl (by kernel_rfl) (by kernel_rfl) (by kernel_rfl) ⟨⟨_, TXD.out⟩, rfl⟩ ?_
      refine sched_pure rfl (fun K hK => ?_)
      go_simp
      refine hK _ ?_
      clear hK K
      refine sched_pure rfl (fun K hK => ?_)
      go_simp
      refine hK _ ?_
      clear hK K
      refine sched_pure rfl (fun K hK => ?_)
      go_simp
      refine hK _ ?_
      clear hK K
      refine sched_pure rfl (fun K hK => ?_)
      go_simp
      refine hK _ ?_
      clear hK K
      refine sched_loud rfl (fun K hK => ?_)
      go_simp
      refine PA.out.mono ?_
      rintro e u1 ⟨rfl, T', g1, g2, g3, hp, ht1⟩
      refine hK _ _ ⟨⟨u1, ht1⟩, rfl⟩ ?_
      clear hK K
      have PB1 := toHid (PB.out u1 T' g1 g2 g3 hp ht1)
      refine sched_loud rfl (fun K hK => ?_)
      go_simp
      refine PB1.out.mono ?_
      rintro e u2 ⟨rfl, vL', vH', hP2, ht2⟩
      refine hK _ _ ⟨⟨u2, ht2⟩, rfl⟩ ?_
      clear hK K
      refine sched_pure rfl (fun K hK => ?_)
      go_simp
      refine hK _ ?_
      clear hK K
      refine sched_nil ?_
      have hcs' := HCS.out T' hp
      have hlen' := cs_len hcs'
      rw [List.length_take] at hlen'
      clear q0 q1 q2 q3 q4 q5 q6 q7 q8 q9 PA PB PB1 g1 g2 g3 ht1 HCS TXD hp
      have hmf : (T'.map Tw.p).map Prod.fst = T'.map Tw.c := (c_of T').symm
      have hL2 := hP2.rf.L
      unfold xN at hL2
      rw [hmf, List.length_map] at hL2
      obtain ⟨aL, cL, rfl, -, -⟩ := owns_xsees (l := T'.map Tw.c) (by rw [List.length_map]; exact hL2)
      simp only [List.length_map] at hP2
      have HX2 : Hid (∀ u, Below u2.heap.size u2 u → Pr wb.heap.size wb u S (lvls li) T' rb (.slice io li.length icap) (.slice aL T'.length cL) vH' ∧ XSees u aL (T'.map Tw.c) ∧ TenX u cb 0 ⟨⟨ct, cp, cr, cc⟩, ⟨cti, cd, cl, ck, cn, cstr⟩⟩) := fun u hu => by
        have h1 := hP2.below hu
        have hL3 := h1.rf.L
        unfold xN at hL3
        rw [hmf, List.length_map] at hL3
        obtain ⟨aL', cL', e, xx, -⟩ := owns_xsees (l := T'.map Tw.c) (by rw [List.length_map]; exact hL3)
        injection e with e1 _ _
        exact ⟨h1, by rw [e1]; exact xx, ht2.below hu ht2.lt⟩
      have G1 := get_any S (lvls li) T' ⟨ct, cp, cr, cc⟩ u2 hP2.sk.sk
      have FD0 := fun (u : World) (hu : Below u2.heap.size u2 u) => refFind_any aL (T'.map Tw.c) cL ⟨ct, cp, cr, cc⟩ u (HX2.out u hu).2.1 (by rw [List.length_map]; omega)
      rw [List.length_map] at FD0
      generalize fnd ⟨ct, cp, cr, cc⟩ (T'.map Tw.c) = FR at *
      obtain ⟨⟨v0, v1, v2, v3, v4, v5⟩, th⟩ := FR
      simp only [Vr.v, Kb.v] at G1 FD0
      have G1h := toHid G1
      have FDh := toHid FD0
      obtain ⟨k0, k1, k2, k3, -⟩ := ht2
      simp only [Nat.zero_add] at k0 k1 k2 k3
      clear G1 FD0 hP2 hL2 hmf
      go_wp2_with fail
      refine G1h.out.mono ?_
      rintro e w4 ⟨rfl, hb4⟩
      clear k0 k1 k2 k3 G1h
      obtain ⟨w5, hw5⟩ : ∃ w5, w5 = w4.alloc (.cells #[.int .i64 v0, .bool v1, .int .i64 v2, .int .i64 v3, .int .i64 v4, .string v5] 38) := ⟨_, rfl⟩
      have hb5 : Below u2.heap.size u2 w5 := by rw [hw5]; exact hb4.alloc hb4.size _
      have nv1 : Blk w5 w4.heap.size [.int .i64 v0, .bool v1, .int .i64 v2, .int .i64 v3, .int .i64 v4, .string v5] 38 := by rw [hw5]; exact Blk.new w4 _ _
      have FIN : Hid (∀ x, Below w5.heap.size w5 x → Blk x w4.heap.size [.int .i64 v0, .bool v1, .int .i64 v2, .int .i64 v3, .int .i64 v4, .string v5] 38 ∧ Pr wb.heap.size wb x S (lvls li) T' rb (.slice io li.length icap) (.slice aL T'.length cL) vH') := fun x hx => ⟨nv1.below hx nv1.lt, (HX2.out x (hb5.trans (hx.mono hb5.size))).1⟩
      have FD2 : Hid (∀ x, Below w5.heap.size w5 x → Calls Try.prog 13 #[.slice aL T'.length cL, .agg #[.string ct, .string cp, .int .i64 cr, .string cc]] x fun e w' => e = .returned (.tuple #[.agg #[.int .i64 v0, .bool v1, .int .i64 v2, .int .i64 v3, .int .i64 v4, .string v5], .bool th]) ∧ Below w5.heap.size w5 w' ∧ Below x.heap.size x w') := fun x hx => (FDh.out x (hb5.trans (hx.mono hb5.size))).mono fun e w' ⟨he, hb⟩ => ⟨he, hx.trans (hb.mono hx.size), hb⟩
      have FD : Hid (∀ x, Below w5.heap.size w5 x → Calls Try.prog 13 #[.slice aL T'.length cL, .agg #[.string ct, .string cp, .int .i64 cr, .string cc]] x fun e w' => e = .returned (.tuple #[.agg #[.int .i64 v0, .bool v1, .int .i64 v2, .int .i64 v3, .int .i64 v4, .string v5], .bool th]) ∧ Below w5.heap.size w5 w') := fun x hx => (FD2.out x hx).mono fun e w' ⟨he, hb, _⟩ => ⟨he, hb⟩
      have hbZ : ∀ z : Cl w5.heap.size w5, Below u2.heap.size u2 z.u := fun z => hb5.trans (z.h.mono hb5.size)
      have q1 : ∀ z : Cl w5.heap.size w5, z.u.cell? ⟨rb, 1, none⟩ = some (.slice aL T'.length cL) := fun z => (HX2.out z.u (hbZ z)).1.rf.blk.cell 1 rfl
      have d0 : ∀ z : Cl w5.heap.size w5, z.u.cell? ⟨cb, 0, none⟩ = some (.string ct) := fun z => by simpa using (HX2.out z.u (hbZ z)).2.2.c0
      have d1 : ∀ z : Cl w5.heap.size w5, z.u.cell? ⟨cb, 1, none⟩ = some (.string cp) := fun z => by simpa using (HX2.out z.u (hbZ z)).2.2.c1
      have d2 : ∀ z : Cl w5.heap.size w5, z.u.cell? ⟨cb, 2, none⟩ = some (.int .i64 cr) := fun z => by simpa using (HX2.out z.u (hbZ z)).2.2.c2
      have d3 : ∀ z : Cl w5.heap.size w5, z.u.cell? ⟨cb, 3, none⟩ = some (.string cc) := fun z => by simpa using (HX2.out z.u (hbZ z)).2.2.c3
      haveI := Cl.inh w5.heap.size w5
      have HC5 : Hid (∃ p : Cl w5.heap.size w5, w5.drew = p.u) := ⟨⟨_, (Below.refl _ _).drew⟩, rfl⟩
      clear hbZ nv1 hb4 HX2 FDh
      go_wp2_with fail
      rw [← hw5]
      clear hw5
      refine wp_region_C (fun w' => ∃ p : Cl w5.heap.size w5, w' = p.u) 13 _ (by kernel_rfl) ?reg (fun _ _ h => h)
      refine anyC_pure 0 rfl (by kernel_rfl) (by kernel_rfl) (by kernel_rfl) HC5.out (fun K hK => ?_)
      go_simp
      refine hK _ ?_
      clear hK K
      refine anyC_pure 1 rfl (by kernel_rfl) (by kernel_rfl) (by kernel_rfl) HC5.out (fun K hK => ?_)
      go_simp
      refine hK _ ?_
      clear hK K
      refine anyC_pure 2 rfl (by kernel_rfl) (by kernel_rfl) (by kernel_rfl) HC5.out (fun K hK => ?_)
      go_simp
      refine hK _ ?_
      clear hK K
      refine anyC_pure 3 rfl (by kernel_rfl) (by kernel_rfl) (by kernel_rfl) HC5.out (fun K hK => ?_)
      go_simp
      refine hK _ ?_
      clear hK K
      refine anyC_pure 4 rfl (by kernel_rfl) (by kernel_rfl) (by kernel_rfl) HC5.out (fun K hK => ?_)
      go_simp
      refine hK _ ?_
      clear hK K
      refine anyC_pure 5 rfl (by kernel_rfl) (by kernel_rfl) (by kernel_rfl) HC5.out (fun K hK => ?_)
      go_simp
      refine hK _ ?_
      clear hK K
      refine anyC_loud2 6 10 (by kernel_rfl) ?_ ?_
      · skip
        refine lou_of rfl (fun K hK => ?_)
        go_simp
        refine (FD.out _ (Below.refl _ _).drew).mono ?_
        rintro e u6 ⟨rfl, hu6⟩
        refine hK _ _ ⟨fun _ => ⟨⟨u6, hu6⟩, rfl⟩, ?_⟩
        clear hK K
        refine anyC_pure 7 rfl (by kernel_rfl) (by kernel_rfl) (by kernel_rfl) ⟨⟨u6, hu6⟩, rfl⟩ (fun K hK => ?_)
        go_simp
        refine hK _ ?_
        clear hK K
        refine anyC_pure 8 rfl (by kernel_rfl) (by kernel_rfl) (by kernel_rfl) ⟨⟨u6, hu6⟩, rfl⟩ (fun K hK => ?_)
        go_simp
        refine hK _ ?_
        clear hK K
        refine anyC_pure 9 rfl (by kernel_rfl) (by kernel_rfl) (by kernel_rfl) ⟨⟨u6, hu6⟩, rfl⟩ (fun K hK => ?_)
        go_simp
        refine hK _ ?_
        clear hK K
        refine anyC_loud 10 (by kernel_rfl) ?_
        refine lou_of rfl (fun K hK => ?_)
        go_simp
        refine hK _ _ ⟨fun _ => ⟨⟨_, hu6.alloc hu6.size _⟩, rfl⟩, ?_⟩
        clear hK K
        have hu7 := hu6.alloc hu6.size (.cells #[.int .i64 0, .bool false, .int .i64 0, .int .i64 0, .int .i64 0, .string ⟨#[]⟩] 38)
        have hzb : Blk (u6.alloc (.cells #[.int .i64 0, .bool false, .int .i64 0, .int .i64 0, .int .i64 0, .string ⟨#[]⟩] 38)) u6.heap.size [.int .i64 0, .bool false, .int .i64 0, .int .i64 0, .int .i64 0, .string ⟨#[]⟩] 38 := Blk.new u6 _ _
        have hnlo : w5.heap.size ≤ u6.heap.size := hu6.size
        have f0 := frozen_at hzb 0
        have f1 := frozen_at hzb 1
        have f2 := frozen_at hzb 2
        have f3 := frozen_at hzb 3
        have f4 := frozen_at hzb 4
        have f5 := frozen_at hzb 5
        have c0 := hzb.cell 0 rfl
        have c1 := hzb.cell 1 rfl
        have c2 := hzb.cell 2 rfl
        have c3 := hzb.cell 3 rfl
        have c4 := hzb.cell 4 rfl
        have c5 := hzb.cell 5 rfl
        have HSET : Hid (Blk (u6.alloc (.cells #[.int .i64 v0, .bool v1, .int .i64 v2, .int .i64 v3, .int .i64 v4, .string v5] 38)) u6.heap.size [.int .i64 v0, .bool v1, .int .i64 v2, .int .i64 v3, .int .i64 v4, .string v5] 38) := Blk.new u6 _ _
        have HBEL : Hid (Below w5.heap.size w5 (u6.alloc (.cells #[.int .i64 v0, .bool v1, .int .i64 v2, .int .i64 v3, .int .i64 v4, .string v5] 38))) := hu6.alloc hu6.size _
        clear hzb hu7
        refine anyC_loud 11 (by kernel_rfl) ?_
        refine lou_of rfl (fun K hK => ?_)
        go_simp
        refine hK _ _ ⟨fun _ => ⟨⟨_, HBEL.out⟩, rfl⟩, ?_⟩
        clear hK K
        refine anyC_pure 12 rfl (by kernel_rfl) (by kernel_rfl) (by kernel_rfl) ⟨⟨_, HBEL.out⟩, rfl⟩ (fun K hK => ?_)
        go_simp
        refine hK _ ?_
        clear hK K
        refine anyC_done (by kernel_rfl) ?_
        have hnb := HBEL.out
        have hnv : Blk _ _ [.int .i64 v0, .bool v1, .int .i64 v2, .int .i64 v3, .int .i64 v4, .string v5] 38 := HSET.out
        clear HSET HBEL
        generalize (u6.alloc (.cells #[.int .i64 v0, .bool v1, .int .i64 v2, .int .i64 v3, .int .i64 v4, .string v5] 38)) = w9 at *
        clear FD
        obtain ⟨hA1, hPn⟩ := FIN.out _ hnb
        have r0 := hA1.cell 0 rfl
        have r1 := hA1.cell 1 rfl
        have r2 := hA1.cell 2 rfl
        have r3 := hA1.cell 3 rfl
        have r4 := hA1.cell 4 rfl
        have r5 := hA1.cell 5 rfl
        have s0 := hnv.cell 0 rfl
        have s1 := hnv.cell 1 rfl
        have s2 := hnv.cell 2 rfl
        have s3 := hnv.cell 3 rfl
        have s4 := hnv.cell 4 rfl
        have s5 := hnv.cell 5 rfl
        clear hA1 hnv
        go_wp2_with fail
        go_roundw
        case rel => exact ⟨i + 1, T', _, vH', by omega, by go_num, hPn, hcs'⟩
        case measure => (simp [intOf]; try omega)
      · skip
        refine lou_of rfl (fun K hK => ?_)
        go_simp
        have hu5 : Below w5.heap.size w5 (w5.drew.alloc (.cells #[.int .i64 0, .bool false, .int .i64 0, .int .i64 0, .int .i64 0, .string ⟨#[]⟩] 38)) := ((Below.refl w5.heap.size w5).drew).alloc (Nat.le_refl _) _
        refine hK _ _ ⟨fun _ => ⟨⟨_, hu5⟩, rfl⟩, ?_⟩
        clear hK K
        refine anyC_loud 6 (by kernel_rfl) ?_
        refine lou_of rfl (fun K hK => ?_)
        go_simp
        refine (FD2.out _ hu5).mono ?_
        rintro e u6 ⟨rfl, hu6, hu56⟩
        refine hK _ _ ⟨fun _ => ⟨⟨u6, hu6⟩, rfl⟩, ?_⟩
        clear hK K
        refine anyC_pure 7 rfl (by kernel_rfl) (by kernel_rfl) (by kernel_rfl) ⟨⟨u6, hu6⟩, rfl⟩ (fun K hK => ?_)
        go_simp
        refine hK _ ?_
        clear hK K
        refine anyC_pure 8 rfl (by kernel_rfl) (by kernel_rfl) (by kernel_rfl) ⟨⟨u6, hu6⟩, rfl⟩ (fun K hK => ?_)
        go_simp
        refine hK _ ?_
        clear hK K
        refine anyC_pure 9 rfl (by kernel_rfl) (by kernel_rfl) (by kernel_rfl) ⟨⟨u6, hu6⟩, rfl⟩ (fun K hK => ?_)
        go_simp
        refine hK _ ?_
        clear hK K
        have hzb : Blk u6 w5.heap.size [.int .i64 0, .bool false, .int .i64 0, .int .i64 0, .int .i64 0, .string ⟨#[]⟩] 38 := (Blk.new w5.drew [.int .i64 0, .bool false, .int .i64 0, .int .i64 0, .int .i64 0, .string ⟨#[]⟩] 38).below hu56 (by show w5.heap.size < (w5.drew.alloc _).heap.size; rw [World.size_alloc]; show w5.heap.size < w5.heap.size + 1; omega)
        have hu7 := hu6
        have hnlo : w5.heap.size ≤ w5.heap.size := Nat.le_refl _
        have f0 := frozen_at hzb 0
        have f1 := frozen_at hzb 1
        have f2 := frozen_at hzb 2
        have f3 := frozen_at hzb 3
        have f4 := frozen_at hzb 4
        have f5 := frozen_at hzb 5
        have c0 := hzb.cell 0 rfl
        have c1 := hzb.cell 1 rfl
        have c2 := hzb.cell 2 rfl
        have c3 := hzb.cell 3 rfl
        have c4 := hzb.cell 4 rfl
        have c5 := hzb.cell 5 rfl
        have hset := set6b hzb rfl (.int .i64 v0) (.bool v1) (.int .i64 v2) (.int .i64 v3) (.int .i64 v4) (.string v5)
        have hbel := below6 hu7 hnlo (.int .i64 v0) (.bool v1) (.int .i64 v2) (.int .i64 v3) (.int .i64 v4) (.string v5)
        have HSET := toHid hset
        have HBEL := toHid hbel
        clear hset hbel hzb hu7
        refine anyC_loud 11 (by kernel_rfl) ?_
        refine lou_of rfl (fun K hK => ?_)
        go_simp
        refine hK _ _ ⟨fun _ => ⟨⟨_, HBEL.out⟩, rfl⟩, ?_⟩
        clear hK K
        refine anyC_pure 12 rfl (by kernel_rfl) (by kernel_rfl) (by kernel_rfl) ⟨⟨_, HBEL.out⟩, rfl⟩ (fun K hK => ?_)
        go_simp
        refine hK _ ?_
        clear hK K
        refine anyC_done (by kernel_rfl) ?_
        have hnb := HBEL.out
        have hnv : Blk _ _ [.int .i64 v0, .bool v1, .int .i64 v2, .int .i64 v3, .int .i64 v4, .string v5] 38 := HSET.out
        clear HSET HBEL
        generalize (World.setCell _ _ (.string v5)) = w9 at *
        clear FD
        obtain ⟨hA1, hPn⟩ := FIN.out _ hnb
        have r0 := hA1.cell 0 rfl
        have r1 := hA1.cell 1 rfl
        have r2 := hA1.cell 2 rfl
        have r3 := hA1.cell 3 rfl
        have r4 := hA1.cell 4 rfl
        have r5 := hA1.cell 5 rfl
        have s0 := hnv.cell 0 rfl
        have s1 := hnv.cell 1 rfl
        have s2 := hnv.cell 2 rfl
        have s3 := hnv.cell 3 rfl
        have s4 := hnv.cell 4 rfl
        have s5 := hnv.cell 5 rfl
        clear hA1 hnv
        go_wp2_with fail
        go_roundw
        case rel => exact ⟨i + 1, T', _, vH', by omega, by go_num, hPn, hcs'⟩
        case measure => (simp [intOf]; try omega)
    · obtain rfl : i = l.length := by omega
      have hgez : ¬ (l.length : Int) < (l.length : Int) := by omega
      have hlen := cs_len hcs
      rw [List.length_take, Nat.min_self] at hlen
      have hmf : (T.map Tw.p).map Prod.fst = T.map Tw.c := (c_of T).symm
      have hmh : (T.map Tw.p).map (fun p => (p.2 : Int)) = T.map fun t => (t.hv : Int) := (hv_of hP.sk.sk).symm
      have hL2 := hP.rf.L
      unfold xN at hL2
      rw [hmf, List.length_map] at hL2
      have hH2 := hP.rf.H
      unfold vN at hH2
      rw [hmh] at hH2
      obtain ⟨aL, cL, rfl, -, -⟩ := owns_xsees (l := T.map Tw.c) (by rw [List.length_map]; exact hL2)
      obtain ⟨aH, cH, rfl, -⟩ := owns_isees hH2
      simp only [List.length_map] at hP
      have HX : Hid (∀ u, Below wr.heap.size wr u → Pr wb.heap.size wb u S (lvls li) T rb (.slice io li.length icap) (.slice aL T.length cL) (.slice aH T.length cH) ∧ XSees u aL (T.map Tw.c) ∧ ISees u aH (T.map fun t => (t.hv : Int)) ∧ Blk u w.heap.size [.string at', .string ap, .int .i64 ar, .string ac, .string bt, .string bp, .int .i64 br, .string bc, .int .i64 st] 27) := fun u hu => by
        have h1 := hP.below hu
        have hL3 := h1.rf.L
        unfold xN at hL3
        rw [hmf, List.length_map] at hL3
        obtain ⟨aL', cL', e, xx, -⟩ := owns_xsees (l := T.map Tw.c) (by rw [List.length_map]; exact hL3)
        have hH3 := h1.rf.H
        unfold vN at hH3
        rw [hmh] at hH3
        obtain ⟨aH', cH', e', yy⟩ := owns_isees hH3
        injection e with e1 _ _
        injection e' with e2 _ _
        exact ⟨h1, by rw [e1]; exact xx, by rw [e2]; exact yy, (HS.out u h1.sk.bel).2.2⟩
      have hbk := (HX.out wr (Below.refl _ _)).2.2.2
      have k0 := hbk.cell 0 rfl
      have k1 := hbk.cell 1 rfl
      have k2 := hbk.cell 2 rfl
      have k3 := hbk.cell 3 rfl
      have k4 := hbk.cell 4 rfl
      have k5 := hbk.cell 5 rfl
      have k6 := hbk.cell 6 rfl
      have k7 := hbk.cell 7 rfl
      have RS := refScan_any rb (.slice io li.length icap) (.slice aH T.length cH) aL (T.map Tw.c) cL ⟨at', ap, ar, ac⟩ ⟨bt, bp, br, bc⟩ wr (by rw [List.length_map]; exact hP.rf.blk) (HX.out wr (Below.refl _ _)).2.1 (by rw [List.length_map]; omega)
      have hsl := scan_len ⟨at', ap, ar, ac⟩ ⟨bt, bp, br, bc⟩ (T.map Tw.c)
      rw [List.length_map] at hsl
      have GA : Hid (∀ x, Below wr.heap.size wr x → Calls Try.prog 16 #[.pointer (some ⟨S.l, 0, none⟩), .agg #[.string at', .string ap, .int .i64 ar, .string ac], .agg #[.string bt, .string bp, .int .i64 br, .string bc], .int .i64 st] x fun e u' => ∃ gx gc, e = .returned (.slice gx (upto st (scanC ⟨at', ap, ar, ac⟩ ⟨bt, bp, br, bc⟩ (T.map Tw.c))).length gc) ∧ XSees u' gx (upto st (scanC ⟨at', ap, ar, ac⟩ ⟨bt, bp, br, bc⟩ (T.map Tw.c))) ∧ Below x.heap.size x u') := fun x hx =>
        (gather_any S (lvls li) T ⟨at', ap, ar, ac⟩ ⟨bt, bp, br, bc⟩ st x (HX.out x hx).1.sk.sk).mono fun e u' ⟨v, he, ho, hb⟩ => by
          obtain ⟨gx, gc, rfl, xx, -⟩ := owns_xsees ho
          exact ⟨gx, gc, he, xx, hb⟩
      generalize scanC ⟨at', ap, ar, ac⟩ ⟨bt, bp, br, bc⟩ (T.map Tw.c) = L at *
      have hLl : L.length ≤ 200 := by omega
      have AL : Hid (∀ x, Below wr.heap.size wr x → Calls Try.prog 17 #[.pointer (some ⟨S.l, 0, none⟩)] x fun e u' => ∃ gx gc, e = .returned (.slice gx T.length gc) ∧ XSees u' gx (T.map Tw.c) ∧ Below x.heap.size x u') := fun x hx => (all_any S (lvls li) T x (HX.out x hx).1.sk.sk).mono fun e u' ⟨v, he, ho, hb⟩ => by
        obtain ⟨gx, gc, rfl, xx, -⟩ := owns_xsees (l := T.map Tw.c) (by rw [List.length_map]; exact ho)
        rw [List.length_map] at he
        exact ⟨gx, gc, he, xx, hb⟩
      have HG : Hid (∀ x, Below wr.heap.size wr x → Calls Try.prog 19 #[.pointer (some ⟨S.l, 0, none⟩)] x fun e u' => ∃ gx gc, e = .returned (.slice gx T.length gc) ∧ ISees u' gx (T.map fun t => (t.hv : Int)) ∧ Below x.heap.size x u') := fun x hx => (heights_any S (lvls li) T x (HX.out x hx).1.sk.sk).mono fun e u' ⟨v, he, ho, hb⟩ => by
        obtain ⟨gx, gc, rfl, xx⟩ := owns_isees ho
        rw [List.length_map] at he
        exact ⟨gx, gc, he, xx, hb⟩
      have LE : Hid (∀ x, Below wr.heap.size wr x → Calls Try.prog 20 #[.pointer (some ⟨S.l, 0, none⟩)] x fun e u' => e = .returned (.int .i64 T.length) ∧ u' = x) := fun x hx => len_any S (lvls li) T x (HX.out x hx).1.sk.sk
      have L2 : Hid (∀ x gx gc, Below wr.heap.size wr x → XSees x gx (T.map Tw.c) → Calls Try.prog 15 #[.slice gx T.length gc, .slice aL T.length cL] x fun e u' => e = .returned (.bool true) ∧ Below x.heap.size x u') := fun x gx gc hx hg => by
        have := likeX_same gx aL (T.map Tw.c) gc cL x hg (HX.out x hx).2.1 (by rw [List.length_map]; omega)
        rw [List.length_map] at this
        exact this
      have I2 : Hid (∀ x gx gc, Below wr.heap.size wr x → ISees x gx (T.map fun t => (t.hv : Int)) → Calls Try.prog 18 #[.slice gx T.length gc, .slice aH T.length cH] x fun e u' => e = .returned (.bool true) ∧ Below x.heap.size x u') := fun x gx gc hx hg => by
        have := ints_same gx aH (T.map fun t => (t.hv : Int)) gc cH x hg (HX.out x hx).2.2.1 (by rw [List.length_map]; omega)
        rw [List.length_map] at this
        exact this
      have HEE : Hid (∀ x, Below wr.heap.size wr x → Below w.heap.size w x) := fun x hx => HE.out x (HX.out x hx).1.sk.bel
      have hTz : (T.length : Int) ≤ 200 := by omega
      have hLz : (L.length : Int) ≤ 200 := by omega
      simp only [Kb.v] at RS
      have RSh := toHid RS
      clear hP hcs hL2 hH2 hmf hmh hbk RS HS hP0
      go_wp2_with fail
      refine RSh.out.mono ?_
      rintro e w4 ⟨v4, rfl, ho4, hb4⟩
      obtain ⟨ax, cx, rfl, x4, -⟩ := owns_xsees ho4
      have hcx := owns_cap ho4
      have hbk := (HX.out w4 hb4).2.2.2
      clear k0 k1 k2 k3 k4 k5 k6 k7 RSh ho4
      have k0 := hbk.cell 0 rfl
      have k1 := hbk.cell 1 rfl
      have k2 := hbk.cell 2 rfl
      have k3 := hbk.cell 3 rfl
      have k4 := hbk.cell 4 rfl
      have k5 := hbk.cell 5 rfl
      have k6 := hbk.cell 6 rfl
      have k7 := hbk.cell 7 rfl
      have k8 := hbk.cell 8 rfl
      clear hbk
      have hst : (0 ≤ st ∧ st < (L.length : Int)) ∨ (¬ (0 ≤ st)) ∨ (0 ≤ st ∧ ¬ st < (L.length : Int)) := by omega
      rcases hst with ⟨hs0, hs1⟩ | hs0 | ⟨hs0, hs1⟩
      · obtain ⟨n, rfl⟩ := Int.eq_ofNat_of_zero_le hs0
        have hnL : n ≤ L.length := by omega
        have hnc : n ≤ cx := by omega
        have hU : upto (n : Int) L = L.take n := by unfold upto; rw [if_neg (by omega)]; rfl
        have hUl : (upto (n : Int) L).length = n := by rw [hU, List.length_take]; omega
        have hUt : (L.take n).length = n := by rw [List.length_take]; omega
        have GA2 : Hid (∀ x, Below wr.heap.size wr x → Calls Try.prog 16 #[.pointer (some ⟨S.l, 0, none⟩), .agg #[.string at', .string ap, .int .i64 ar, .string ac], .agg #[.string bt, .string bp, .int .i64 br, .string bc], .int .i64 (n : Int)] x fun e u' => ∃ gx gc, e = .returned (.slice gx n gc) ∧ XSees u' gx (L.take n) ∧ Below x.heap.size x u') := fun x hx => by
          have h := GA.out x hx
          rw [hUl, hU] at h
          exact h
        have LK1 : Hid (∀ x gx gc, Below w4.heap.size w4 x → XSees x gx (L.take n) → Calls Try.prog 15 #[.slice gx n gc, .slice ax n cx] x fun e u' => e = .returned (.bool true) ∧ Below x.heap.size x u') := fun x gx gc hx hg => by
          have h := likeX_same gx ax (L.take n) gc cx x hg (xs_take (x4.below hx (Nat.le_refl _)) n) (by rw [hUt]; omega)
          rw [hUt] at h
          exact h
        clear hU hUl hUt
        have q1 : ∀ z : Cl w4.heap.size w4, z.u.cell? ⟨rb, 1, none⟩ = some (.slice aL T.length cL) := fun z => (HX.out z.u (hb4.trans (z.h.mono hb4.size))).1.rf.blk.cell 1 rfl
        have q2 : ∀ z : Cl w4.heap.size w4, z.u.cell? ⟨rb, 2, none⟩ = some (.slice aH T.length cH) := fun z => (HX.out z.u (hb4.trans (z.h.mono hb4.size))).1.rf.blk.cell 2 rfl
        have d0 : ∀ z : Cl w4.heap.size w4, z.u.cell? ⟨w.heap.size, 0, none⟩ = some (.string at') := fun z => (HX.out z.u (hb4.trans (z.h.mono hb4.size))).2.2.2.cell 0 rfl
        have d1 : ∀ z : Cl w4.heap.size w4, z.u.cell? ⟨w.heap.size, 1, none⟩ = some (.string ap) := fun z => (HX.out z.u (hb4.trans (z.h.mono hb4.size))).2.2.2.cell 1 rfl
        have d2 : ∀ z : Cl w4.heap.size w4, z.u.cell? ⟨w.heap.size, 2, none⟩ = some (.int .i64 ar) := fun z => (HX.out z.u (hb4.trans (z.h.mono hb4.size))).2.2.2.cell 2 rfl
        have d3 : ∀ z : Cl w4.heap.size w4, z.u.cell? ⟨w.heap.size, 3, none⟩ = some (.string ac) := fun z => (HX.out z.u (hb4.trans (z.h.mono hb4.size))).2.2.2.cell 3 rfl
        have d4 : ∀ z : Cl w4.heap.size w4, z.u.cell? ⟨w.heap.size, 4, none⟩ = some (.string bt) := fun z => (HX.out z.u (hb4.trans (z.h.mono hb4.size))).2.2.2.cell 4 rfl
        have d5 : ∀ z : Cl w4.heap.size w4, z.u.cell? ⟨w.heap.size, 5, none⟩ = some (.string bp) := fun z => (HX.out z.u (hb4.trans (z.h.mono hb4.size))).2.2.2.cell 5 rfl
        have d6 : ∀ z : Cl w4.heap.size w4, z.u.cell? ⟨w.heap.size, 6, none⟩ = some (.int .i64 br) := fun z => (HX.out z.u (hb4.trans (z.h.mono hb4.size))).2.2.2.cell 6 rfl
        have d7 : ∀ z : Cl w4.heap.size w4, z.u.cell? ⟨w.heap.size, 7, none⟩ = some (.string bc) := fun z => (HX.out z.u (hb4.trans (z.h.mono hb4.size))).2.2.2.cell 7 rfl
        have d8 : ∀ z : Cl w4.heap.size w4, z.u.cell? ⟨w.heap.size, 8, none⟩ = some (.int .i64 (n : Int)) := fun z => (HX.out z.u (hb4.trans (z.h.mono hb4.size))).2.2.2.cell 8 rfl
        haveI := Cl.inh w4.heap.size w4
        have HW : Hid (∀ x, Below w4.heap.size w4 x → Below wr.heap.size wr x) := fun x hx => hb4.trans (hx.mono hb4.size)
        clear k0 k1 k2 k3 k4 k5 k6 k7
        go_wp2_with fail
        refine wp_region_sched (fun w' => ∃ p : Cl w4.heap.size w4, w' = p.u) ((0, true) :: (1, true) :: (2, true) :: (3, true) :: (4, true) :: (5, true) :: (6, true) :: (8, true) :: (7, false) :: (9, false) :: (10, true) :: (11, true) :: (13, true) :: (14, true) :: (15, true) :: (16, true) :: (12, false) :: (17, false) :: (18, true) :: (19, true) :: (20, true) :: (22, true) :: (23, true) :: (24, true) :: (25, true) :: (21, false) :: (26, false) :: (27, true) :: (28, true) :: (29, true) :: (31, true) :: (32, true) :: (33, true) :: (34, true) :: (35, true) :: (30, false) :: (36, true) :: (37, true) :: (38, true) :: (39, false) :: (40, true) :: (41, true) :: []) (by kernel_rfl) (by kernel_rfl) (by kernel_rfl) (by kernel_rfl) ⟨⟨_, (Below.refl _ _).drew⟩, rfl⟩ ?_
        have y0 : Below w4.heap.size w4 w4.drew := (Below.refl _ _).drew
        refine sched_pure rfl (fun K hK => ?_)
        go_simp
        refine hK _ ?_
        clear hK K
        refine sched_pure rfl (fun K hK => ?_)
        go_simp
        refine hK _ ?_
        clear hK K
        refine sched_pure rfl (fun K hK => ?_)
        go_simp
        refine hK _ ?_
        clear hK K
        refine sched_pure rfl (fun K hK => ?_)
        go_simp
        refine hK _ ?_
        clear hK K
        refine sched_pure rfl (fun K hK => ?_)
        go_simp
        refine hK _ ?_
        clear hK K
        refine sched_pure rfl (fun K hK => ?_)
        go_simp
        refine hK _ ?_
        clear hK K
        refine sched_pure rfl (fun K hK => ?_)
        go_simp
        refine hK _ ?_
        clear hK K
        refine sched_pure rfl (fun K hK => ?_)
        go_simp
        refine hK _ ?_
        clear hK K
        refine sched_loud rfl (fun K hK => ?_)
        go_simp
        refine (GA2.out _ (HW.out _ y0)).mono ?_
        rintro e u1 ⟨gx, gc, rfl, xg, h1⟩
        have y1 := y0.trans (h1.mono y0.size)
        refine hK _ _ ⟨⟨_, y1⟩, rfl⟩ ?_
        clear hK K
        refine sched_loud rfl (fun K hK => ?_)
        go_simp
        refine (LK1.out _ _ _ y1 xg).mono ?_
        rintro e u2 ⟨rfl, h2⟩
        have y2 := y1.trans (h2.mono y1.size)
        refine hK _ _ ⟨⟨_, y2⟩, rfl⟩ ?_
        clear hK K
        refine sched_pure rfl (fun K hK => ?_)
        go_simp
        refine hK _ ?_
        clear hK K
        refine sched_pure rfl (fun K hK => ?_)
        go_simp
        refine hK _ ?_
        clear hK K
        refine sched_pure rfl (fun K hK => ?_)
        go_simp
        refine hK _ ?_
        clear hK K
        refine sched_pure rfl (fun K hK => ?_)
        go_simp
        refine hK _ ?_
        clear hK K
        refine sched_pure rfl (fun K hK => ?_)
        go_simp
        refine hK _ ?_
        clear hK K
        refine sched_pure rfl (fun K hK => ?_)
        go_simp
        refine hK _ ?_
        clear hK K
        refine sched_loud rfl (fun K hK => ?_)
        go_simp
        refine (AL.out _ (HW.out _ y2)).mono ?_
        rintro e u3 ⟨bx, bc', rfl, xb, h3⟩
        have y3 := y2.trans (h3.mono y2.size)
        refine hK _ _ ⟨⟨_, y3⟩, rfl⟩ ?_
        clear hK K
        refine sched_loud rfl (fun K hK => ?_)
        go_simp
        refine (L2.out _ _ _ (HW.out _ y3) xb).mono ?_
        rintro e u4 ⟨rfl, h4⟩
        have y4 := y3.trans (h4.mono y3.size)
        refine hK _ _ ⟨⟨_, y4⟩, rfl⟩ ?_
        clear hK K
        refine sched_pure rfl (fun K hK => ?_)
        go_simp
        refine hK _ ?_
        clear hK K
        refine sched_pure rfl (fun K hK => ?_)
        go_simp
        refine hK _ ?_
        clear hK K
        refine sched_pure rfl (fun K hK => ?_)
        go_simp
        refine hK _ ?_
        clear hK K
        refine sched_pure rfl (fun K hK => ?_)
        go_simp
        refine hK _ ?_
        clear hK K
        refine sched_pure rfl (fun K hK => ?_)
        go_simp
        refine hK _ ?_
        clear hK K
        refine sched_pure rfl (fun K hK => ?_)
        go_simp
        refine hK _ ?_
        clear hK K
        refine sched_pure rfl (fun K hK => ?_)
        go_simp
        refine hK _ ?_
        clear hK K
        refine sched_loud rfl (fun K hK => ?_)
        go_simp
        refine (HG.out _ (HW.out _ y4)).mono ?_
        rintro e u5 ⟨ix, ic, rfl, xi, h5⟩
        have y5 := y4.trans (h5.mono y4.size)
        refine hK _ _ ⟨⟨_, y5⟩, rfl⟩ ?_
        clear hK K
        refine sched_loud rfl (fun K hK => ?_)
        go_simp
        refine (I2.out _ _ _ (HW.out _ y5) xi).mono ?_
        rintro e u6 ⟨rfl, h6⟩
        have y6 := y5.trans (h6.mono y5.size)
        refine hK _ _ ⟨⟨_, y6⟩, rfl⟩ ?_
        clear hK K
        refine sched_pure rfl (fun K hK => ?_)
        go_simp
        refine hK _ ?_
        clear hK K
        refine sched_pure rfl (fun K hK => ?_)
        go_simp
        refine hK _ ?_
        clear hK K
        refine sched_pure rfl (fun K hK => ?_)
        go_simp
        refine hK _ ?_
        clear hK K
        refine sched_pure rfl (fun K hK => ?_)
        go_simp
        refine hK _ ?_
        clear hK K
        refine sched_pure rfl (fun K hK => ?_)
        go_simp
        refine hK _ ?_
        clear hK K
        refine sched_pure rfl (fun K hK => ?_)
        go_simp
        refine hK _ ?_
        clear hK K
        refine sched_pure rfl (fun K hK => ?_)
        go_simp
        refine hK _ ?_
        clear hK K
        refine sched_pure rfl (fun K hK => ?_)
        go_simp
        refine hK _ ?_
        clear hK K
        refine sched_loud rfl (fun K hK => ?_)
        go_simp
        refine (LE.out _ (HW.out _ y6)).mono ?_
        rintro e u7 ⟨rfl, rfl⟩
        have y7 := y6
        refine hK _ _ ⟨⟨_, y7⟩, rfl⟩ ?_
        clear hK K
        refine sched_pure rfl (fun K hK => ?_)
        go_simp
        refine hK _ ?_
        clear hK K
        refine sched_pure rfl (fun K hK => ?_)
        go_simp
        refine hK _ ?_
        clear hK K
        refine sched_pure rfl (fun K hK => ?_)
        go_simp
        refine hK _ ?_
        clear hK K
        refine sched_loud rfl (fun K hK => ?_)
        go_simp
        refine (LV.out _).mono ?_
        rintro e u8 ⟨rfl, h8⟩
        have y8 := y7.trans (h8.mono y7.size)
        refine hK _ _ ⟨⟨_, y8⟩, rfl⟩ ?_
        clear hK K
        refine sched_pure rfl (fun K hK => ?_)
        go_simp
        refine hK _ ?_
        clear hK K
        refine sched_pure rfl (fun K hK => ?_)
        go_simp
        refine hK _ ?_
        clear hK K
        refine sched_nil ?_
        have hE := HEE.out _ (HW.out _ y8)
        clear q1 q2 d0 d1 d2 d3 d4 d5 d6 d7 d8
        go_wp2_with fail
        go_ret
        exact ⟨rfl, hE⟩
      · skip
        have hU : upto st L = L := by unfold upto; rw [if_pos (by omega)]
        have hUl : (upto st L).length = L.length := by rw [hU]
        have GA2 : Hid (∀ x, Below wr.heap.size wr x → Calls Try.prog 16 #[.pointer (some ⟨S.l, 0, none⟩), .agg #[.string at', .string ap, .int .i64 ar, .string ac], .agg #[.string bt, .string bp, .int .i64 br, .string bc], .int .i64 st] x fun e u' => ∃ gx gc, e = .returned (.slice gx L.length gc) ∧ XSees u' gx (L) ∧ Below x.heap.size x u') := fun x hx => by
          have h := GA.out x hx
          rw [hUl, hU] at h
          exact h
        have LK1 : Hid (∀ x gx gc, Below w4.heap.size w4 x → XSees x gx (L) → Calls Try.prog 15 #[.slice gx L.length gc, .slice ax L.length cx] x fun e u' => e = .returned (.bool true) ∧ Below x.heap.size x u') := fun x gx gc hx hg => by
          exact likeX_same gx ax L gc cx x hg (x4.below hx (Nat.le_refl _)) (by omega)
        clear hU hUl
        have q1 : ∀ z : Cl w4.heap.size w4, z.u.cell? ⟨rb, 1, none⟩ = some (.slice aL T.length cL) := fun z => (HX.out z.u (hb4.trans (z.h.mono hb4.size))).1.rf.blk.cell 1 rfl
        have q2 : ∀ z : Cl w4.heap.size w4, z.u.cell? ⟨rb, 2, none⟩ = some (.slice aH T.length cH) := fun z => (HX.out z.u (hb4.trans (z.h.mono hb4.size))).1.rf.blk.cell 2 rfl
        have d0 : ∀ z : Cl w4.heap.size w4, z.u.cell? ⟨w.heap.size, 0, none⟩ = some (.string at') := fun z => (HX.out z.u (hb4.trans (z.h.mono hb4.size))).2.2.2.cell 0 rfl
        have d1 : ∀ z : Cl w4.heap.size w4, z.u.cell? ⟨w.heap.size, 1, none⟩ = some (.string ap) := fun z => (HX.out z.u (hb4.trans (z.h.mono hb4.size))).2.2.2.cell 1 rfl
        have d2 : ∀ z : Cl w4.heap.size w4, z.u.cell? ⟨w.heap.size, 2, none⟩ = some (.int .i64 ar) := fun z => (HX.out z.u (hb4.trans (z.h.mono hb4.size))).2.2.2.cell 2 rfl
        have d3 : ∀ z : Cl w4.heap.size w4, z.u.cell? ⟨w.heap.size, 3, none⟩ = some (.string ac) := fun z => (HX.out z.u (hb4.trans (z.h.mono hb4.size))).2.2.2.cell 3 rfl
        have d4 : ∀ z : Cl w4.heap.size w4, z.u.cell? ⟨w.heap.size, 4, none⟩ = some (.string bt) := fun z => (HX.out z.u (hb4.trans (z.h.mono hb4.size))).2.2.2.cell 4 rfl
        have d5 : ∀ z : Cl w4.heap.size w4, z.u.cell? ⟨w.heap.size, 5, none⟩ = some (.string bp) := fun z => (HX.out z.u (hb4.trans (z.h.mono hb4.size))).2.2.2.cell 5 rfl
        have d6 : ∀ z : Cl w4.heap.size w4, z.u.cell? ⟨w.heap.size, 6, none⟩ = some (.int .i64 br) := fun z => (HX.out z.u (hb4.trans (z.h.mono hb4.size))).2.2.2.cell 6 rfl
        have d7 : ∀ z : Cl w4.heap.size w4, z.u.cell? ⟨w.heap.size, 7, none⟩ = some (.string bc) := fun z => (HX.out z.u (hb4.trans (z.h.mono hb4.size))).2.2.2.cell 7 rfl
        have d8 : ∀ z : Cl w4.heap.size w4, z.u.cell? ⟨w.heap.size, 8, none⟩ = some (.int .i64 st) := fun z => (HX.out z.u (hb4.trans (z.h.mono hb4.size))).2.2.2.cell 8 rfl
        haveI := Cl.inh w4.heap.size w4
        have HW : Hid (∀ x, Below w4.heap.size w4 x → Below wr.heap.size wr x) := fun x hx => hb4.trans (hx.mono hb4.size)
        clear k0 k1 k2 k3 k4 k5 k6 k7
        go_wp2_with fail
        refine wp_region_sched (fun w' => ∃ p : Cl w4.heap.size w4, w' = p.u) ((0, true) :: (1, true) :: (2, true) :: (3, true) :: (4, true) :: (5, true) :: (6, true) :: (8, true) :: (7, false) :: (9, false) :: (10, true) :: (11, true) :: (13, true) :: (14, true) :: (15, true) :: (16, true) :: (12, false) :: (17, false) :: (18, true) :: (19, true) :: (20, true) :: (22, true) :: (23, true) :: (24, true) :: (25, true) :: (21, false) :: (26, false) :: (27, true) :: (28, true) :: (29, true) :: (31, true) :: (32, true) :: (33, true) :: (34, true) :: (35, true) :: (30, false) :: (36, true) :: (37, true) :: (38, true) :: (39, false) :: (40, true) :: (41, true) :: []) (by kernel_rfl) (by kernel_rfl) (by kernel_rfl) (by kernel_rfl) ⟨⟨_, (Below.refl _ _).drew⟩, rfl⟩ ?_
        have y0 : Below w4.heap.size w4 w4.drew := (Below.refl _ _).drew
        refine sched_pure rfl (fun K hK => ?_)
        go_simp
        refine hK _ ?_
        clear hK K
        refine sched_pure rfl (fun K hK => ?_)
        go_simp
        refine hK _ ?_
        clear hK K
        refine sched_pure rfl (fun K hK => ?_)
        go_simp
        refine hK _ ?_
        clear hK K
        refine sched_pure rfl (fun K hK => ?_)
        go_simp
        refine hK _ ?_
        clear hK K
        refine sched_pure rfl (fun K hK => ?_)
        go_simp
        refine hK _ ?_
        clear hK K
        refine sched_pure rfl (fun K hK => ?_)
        go_simp
        refine hK _ ?_
        clear hK K
        refine sched_pure rfl (fun K hK => ?_)
        go_simp
        refine hK _ ?_
        clear hK K
        refine sched_pure rfl (fun K hK => ?_)
        go_simp
        refine hK _ ?_
        clear hK K
        refine sched_loud rfl (fun K hK => ?_)
        go_simp
        refine (GA2.out _ (HW.out _ y0)).mono ?_
        rintro e u1 ⟨gx, gc, rfl, xg, h1⟩
        have y1 := y0.trans (h1.mono y0.size)
        refine hK _ _ ⟨⟨_, y1⟩, rfl⟩ ?_
        clear hK K
        refine sched_loud rfl (fun K hK => ?_)
        go_simp
        refine (LK1.out _ _ _ y1 xg).mono ?_
        rintro e u2 ⟨rfl, h2⟩
        have y2 := y1.trans (h2.mono y1.size)
        refine hK _ _ ⟨⟨_, y2⟩, rfl⟩ ?_
        clear hK K
        refine sched_pure rfl (fun K hK => ?_)
        go_simp
        refine hK _ ?_
        clear hK K
        refine sched_pure rfl (fun K hK => ?_)
        go_simp
        refine hK _ ?_
        clear hK K
        refine sched_pure rfl (fun K hK => ?_)
        go_simp
        refine hK _ ?_
        clear hK K
        refine sched_pure rfl (fun K hK => ?_)
        go_simp
        refine hK _ ?_
        clear hK K
        refine sched_pure rfl (fun K hK => ?_)
        go_simp
        refine hK _ ?_
        clear hK K
        refine sched_pure rfl (fun K hK => ?_)
        go_simp
        refine hK _ ?_
        clear hK K
        refine sched_loud rfl (fun K hK => ?_)
        go_simp
        refine (AL.out _ (HW.out _ y2)).mono ?_
        rintro e u3 ⟨bx, bc', rfl, xb, h3⟩
        have y3 := y2.trans (h3.mono y2.size)
        refine hK _ _ ⟨⟨_, y3⟩, rfl⟩ ?_
        clear hK K
        refine sched_loud rfl (fun K hK => ?_)
        go_simp
        refine (L2.out _ _ _ (HW.out _ y3) xb).mono ?_
        rintro e u4 ⟨rfl, h4⟩
        have y4 := y3.trans (h4.mono y3.size)
        refine hK _ _ ⟨⟨_, y4⟩, rfl⟩ ?_
        clear hK K
        refine sched_pure rfl (fun K hK => ?_)
        go_simp
        refine hK _ ?_
        clear hK K
        refine sched_pure rfl (fun K hK => ?_)
        go_simp
        refine hK _ ?_
        clear hK K
        refine sched_pure rfl (fun K hK => ?_)
        go_simp
        refine hK _ ?_
        clear hK K
        refine sched_pure rfl (fun K hK => ?_)
        go_simp
        refine hK _ ?_
        clear hK K
        refine sched_pure rfl (fun K hK => ?_)
        go_simp
        refine hK _ ?_
        clear hK K
        refine sched_pure rfl (fun K hK => ?_)
        go_simp
        refine hK _ ?_
        clear hK K
        refine sched_pure rfl (fun K hK => ?_)
        go_simp
        refine hK _ ?_
        clear hK K
        refine sched_loud rfl (fun K hK => ?_)
        go_simp
        refine (HG.out _ (HW.out _ y4)).mono ?_
        rintro e u5 ⟨ix, ic, rfl, xi, h5⟩
        have y5 := y4.trans (h5.mono y4.size)
        refine hK _ _ ⟨⟨_, y5⟩, rfl⟩ ?_
        clear hK K
        refine sched_loud rfl (fun K hK => ?_)
        go_simp
        refine (I2.out _ _ _ (HW.out _ y5) xi).mono ?_
        rintro e u6 ⟨rfl, h6⟩
        have y6 := y5.trans (h6.mono y5.size)
        refine hK _ _ ⟨⟨_, y6⟩, rfl⟩ ?_
        clear hK K
        refine sched_pure rfl (fun K hK => ?_)
        go_simp
        refine hK _ ?_
        clear hK K
        refine sched_pure rfl (fun K hK => ?_)
        go_simp
        refine hK _ ?_
        clear hK K
        refine sched_pure rfl (fun K hK => ?_)
        go_simp
        refine hK _ ?_
        clear hK K
        refine sched_pure rfl (fun K hK => ?_)
        go_simp
        refine hK _ ?_
        clear hK K
        refine sched_pure rfl (fun K hK => ?_)
        go_simp
        refine hK _ ?_
        clear hK K
        refine sched_pure rfl (fun K hK => ?_)
        go_simp
        refine hK _ ?_
        clear hK K
        refine sched_pure rfl (fun K hK => ?_)
        go_simp
        refine hK _ ?_
        clear hK K
        refine sched_pure rfl (fun K hK => ?_)
        go_simp
        refine hK _ ?_
        clear hK K
        refine sched_loud rfl (fun K hK => ?_)
        go_simp
        refine (LE.out _ (HW.out _ y6)).mono ?_
        rintro e u7 ⟨rfl, rfl⟩
        have y7 := y6
        refine hK _ _ ⟨⟨_, y7⟩, rfl⟩ ?_
        clear hK K
        refine sched_pure rfl (fun K hK => ?_)
        go_simp
        refine hK _ ?_
        clear hK K
        refine sched_pure rfl (fun K hK => ?_)
        go_simp
        refine hK _ ?_
        clear hK K
        refine sched_pure rfl (fun K hK => ?_)
        go_simp
        refine hK _ ?_
        clear hK K
        refine sched_loud rfl (fun K hK => ?_)
        go_simp
        refine (LV.out _).mono ?_
        rintro e u8 ⟨rfl, h8⟩
        have y8 := y7.trans (h8.mono y7.size)
        refine hK _ _ ⟨⟨_, y8⟩, rfl⟩ ?_
        clear hK K
        refine sched_pure rfl (fun K hK => ?_)
        go_simp
        refine hK _ ?_
        clear hK K
        refine sched_pure rfl (fun K hK => ?_)
        go_simp
        refine hK _ ?_
        clear hK K
        refine sched_nil ?_
        have hE := HEE.out _ (HW.out _ y8)
        clear q1 q2 d0 d1 d2 d3 d4 d5 d6 d7 d8
        go_wp2_with fail
        go_ret
        exact ⟨rfl, hE⟩
      · skip
        have hU : upto st L = L := by unfold upto; rw [if_neg (by omega)]; exact List.take_of_length_le (by omega)
        have hUl : (upto st L).length = L.length := by rw [hU]
        have GA2 : Hid (∀ x, Below wr.heap.size wr x → Calls Try.prog 16 #[.pointer (some ⟨S.l, 0, none⟩), .agg #[.string at', .string ap, .int .i64 ar, .string ac], .agg #[.string bt, .string bp, .int .i64 br, .string bc], .int .i64 st] x fun e u' => ∃ gx gc, e = .returned (.slice gx L.length gc) ∧ XSees u' gx (L) ∧ Below x.heap.size x u') := fun x hx => by
          have h := GA.out x hx
          rw [hUl, hU] at h
          exact h
        have LK1 : Hid (∀ x gx gc, Below w4.heap.size w4 x → XSees x gx (L) → Calls Try.prog 15 #[.slice gx L.length gc, .slice ax L.length cx] x fun e u' => e = .returned (.bool true) ∧ Below x.heap.size x u') := fun x gx gc hx hg => by
          exact likeX_same gx ax L gc cx x hg (x4.below hx (Nat.le_refl _)) (by omega)
        clear hU hUl
        have q1 : ∀ z : Cl w4.heap.size w4, z.u.cell? ⟨rb, 1, none⟩ = some (.slice aL T.length cL) := fun z => (HX.out z.u (hb4.trans (z.h.mono hb4.size))).1.rf.blk.cell 1 rfl
        have q2 : ∀ z : Cl w4.heap.size w4, z.u.cell? ⟨rb, 2, none⟩ = some (.slice aH T.length cH) := fun z => (HX.out z.u (hb4.trans (z.h.mono hb4.size))).1.rf.blk.cell 2 rfl
        have d0 : ∀ z : Cl w4.heap.size w4, z.u.cell? ⟨w.heap.size, 0, none⟩ = some (.string at') := fun z => (HX.out z.u (hb4.trans (z.h.mono hb4.size))).2.2.2.cell 0 rfl
        have d1 : ∀ z : Cl w4.heap.size w4, z.u.cell? ⟨w.heap.size, 1, none⟩ = some (.string ap) := fun z => (HX.out z.u (hb4.trans (z.h.mono hb4.size))).2.2.2.cell 1 rfl
        have d2 : ∀ z : Cl w4.heap.size w4, z.u.cell? ⟨w.heap.size, 2, none⟩ = some (.int .i64 ar) := fun z => (HX.out z.u (hb4.trans (z.h.mono hb4.size))).2.2.2.cell 2 rfl
        have d3 : ∀ z : Cl w4.heap.size w4, z.u.cell? ⟨w.heap.size, 3, none⟩ = some (.string ac) := fun z => (HX.out z.u (hb4.trans (z.h.mono hb4.size))).2.2.2.cell 3 rfl
        have d4 : ∀ z : Cl w4.heap.size w4, z.u.cell? ⟨w.heap.size, 4, none⟩ = some (.string bt) := fun z => (HX.out z.u (hb4.trans (z.h.mono hb4.size))).2.2.2.cell 4 rfl
        have d5 : ∀ z : Cl w4.heap.size w4, z.u.cell? ⟨w.heap.size, 5, none⟩ = some (.string bp) := fun z => (HX.out z.u (hb4.trans (z.h.mono hb4.size))).2.2.2.cell 5 rfl
        have d6 : ∀ z : Cl w4.heap.size w4, z.u.cell? ⟨w.heap.size, 6, none⟩ = some (.int .i64 br) := fun z => (HX.out z.u (hb4.trans (z.h.mono hb4.size))).2.2.2.cell 6 rfl
        have d7 : ∀ z : Cl w4.heap.size w4, z.u.cell? ⟨w.heap.size, 7, none⟩ = some (.string bc) := fun z => (HX.out z.u (hb4.trans (z.h.mono hb4.size))).2.2.2.cell 7 rfl
        have d8 : ∀ z : Cl w4.heap.size w4, z.u.cell? ⟨w.heap.size, 8, none⟩ = some (.int .i64 st) := fun z => (HX.out z.u (hb4.trans (z.h.mono hb4.size))).2.2.2.cell 8 rfl
        haveI := Cl.inh w4.heap.size w4
        have HW : Hid (∀ x, Below w4.heap.size w4 x → Below wr.heap.size wr x) := fun x hx => hb4.trans (hx.mono hb4.size)
        clear k0 k1 k2 k3 k4 k5 k6 k7
        go_wp2_with fail
        refine wp_region_sched (fun w' => ∃ p : Cl w4.heap.size w4, w' = p.u) ((0, true) :: (1, true) :: (2, true) :: (3, true) :: (4, true) :: (5, true) :: (6, true) :: (8, true) :: (7, false) :: (9, false) :: (10, true) :: (11, true) :: (13, true) :: (14, true) :: (15, true) :: (16, true) :: (12, false) :: (17, false) :: (18, true) :: (19, true) :: (20, true) :: (22, true) :: (23, true) :: (24, true) :: (25, true) :: (21, false) :: (26, false) :: (27, true) :: (28, true) :: (29, true) :: (31, true) :: (32, true) :: (33, true) :: (34, true) :: (35, true) :: (30, false) :: (36, true) :: (37, true) :: (38, true) :: (39, false) :: (40, true) :: (41, true) :: []) (by kernel_rfl) (by kernel_rfl) (by kernel_rfl) (by kernel_rfl) ⟨⟨_, (Below.refl _ _).drew⟩, rfl⟩ ?_
        have y0 : Below w4.heap.size w4 w4.drew := (Below.refl _ _).drew
        refine sched_pure rfl (fun K hK => ?_)
        go_simp
        refine hK _ ?_
        clear hK K
        refine sched_pure rfl (fun K hK => ?_)
        go_simp
        refine hK _ ?_
        clear hK K
        refine sched_pure rfl (fun K hK => ?_)
        go_simp
        refine hK _ ?_
        clear hK K
        refine sched_pure rfl (fun K hK => ?_)
        go_simp
        refine hK _ ?_
        clear hK K
        refine sched_pure rfl (fun K hK => ?_)
        go_simp
        refine hK _ ?_
        clear hK K
        refine sched_pure rfl (fun K hK => ?_)
        go_simp
        refine hK _ ?_
        clear hK K
        refine sched_pure rfl (fun K hK => ?_)
        go_simp
        refine hK _ ?_
        clear hK K
        refine sched_pure rfl (fun K hK => ?_)
        go_simp
        refine hK _ ?_
        clear hK K
        refine sched_loud rfl (fun K hK => ?_)
        go_simp
        refine (GA2.out _ (HW.out _ y0)).mono ?_
        rintro e u1 ⟨gx, gc, rfl, xg, h1⟩
        have y1 := y0.trans (h1.mono y0.size)
        refine hK _ _ ⟨⟨_, y1⟩, rfl⟩ ?_
        clear hK K
        refine sched_loud rfl (fun K hK => ?_)
        go_simp
        refine (LK1.out _ _ _ y1 xg).mono ?_
        rintro e u2 ⟨rfl, h2⟩
        have y2 := y1.trans (h2.mono y1.size)
        refine hK _ _ ⟨⟨_, y2⟩, rfl⟩ ?_
        clear hK K
        refine sched_pure rfl (fun K hK => ?_)
        go_simp
        refine hK _ ?_
        clear hK K
        refine sched_pure rfl (fun K hK => ?_)
        go_simp
        refine hK _ ?_
        clear hK K
        refine sched_pure rfl (fun K hK => ?_)
        go_simp
        refine hK _ ?_
        clear hK K
        refine sched_pure rfl (fun K hK => ?_)
        go_simp
        refine hK _ ?_
        clear hK K
        refine sched_pure rfl (fun K hK => ?_)
        go_simp
        refine hK _ ?_
        clear hK K
        refine sched_pure rfl (fun K hK => ?_)
        go_simp
        refine hK _ ?_
        clear hK K
        refine sched_loud rfl (fun K hK => ?_)
        go_simp
        refine (AL.out _ (HW.out _ y2)).mono ?_
        rintro e u3 ⟨bx, bc', rfl, xb, h3⟩
        have y3 := y2.trans (h3.mono y2.size)
        refine hK _ _ ⟨⟨_, y3⟩, rfl⟩ ?_
        clear hK K
        refine sched_loud rfl (fun K hK => ?_)
        go_simp
        refine (L2.out _ _ _ (HW.out _ y3) xb).mono ?_
        rintro e u4 ⟨rfl, h4⟩
        have y4 := y3.trans (h4.mono y3.size)
        refine hK _ _ ⟨⟨_, y4⟩, rfl⟩ ?_
        clear hK K
        refine sched_pure rfl (fun K hK => ?_)
        go_simp
        refine hK _ ?_
        clear hK K
        refine sched_pure rfl (fun K hK => ?_)
        go_simp
        refine hK _ ?_
        clear hK K
        refine sched_pure rfl (fun K hK => ?_)
        go_simp
        refine hK _ ?_
        clear hK K
        refine sched_pure rfl (fun K hK => ?_)
        go_simp
        refine hK _ ?_
        clear hK K
        refine sched_pure rfl (fun K hK => ?_)
        go_simp
        refine hK _ ?_
        clear hK K
        refine sched_pure rfl (fun K hK => ?_)
        go_simp
        refine hK _ ?_
        clear hK K
        refine sched_pure rfl (fun K hK => ?_)
        go_simp
        refine hK _ ?_
        clear hK K
        refine sched_loud rfl (fun K hK => ?_)
        go_simp
        refine (HG.out _ (HW.out _ y4)).mono ?_
        rintro e u5 ⟨ix, ic, rfl, xi, h5⟩
        have y5 := y4.trans (h5.mono y4.size)
        refine hK _ _ ⟨⟨_, y5⟩, rfl⟩ ?_
        clear hK K
        refine sched_loud rfl (fun K hK => ?_)
        go_simp
        refine (I2.out _ _ _ (HW.out _ y5) xi).mono ?_
        rintro e u6 ⟨rfl, h6⟩
        have y6 := y5.trans (h6.mono y5.size)
        refine hK _ _ ⟨⟨_, y6⟩, rfl⟩ ?_
        clear hK K
        refine sched_pure rfl (fun K hK => ?_)
        go_simp
        refine hK _ ?_
        clear hK K
        refine sched_pure rfl (fun K hK => ?_)
        go_simp
        refine hK _ ?_
        clear hK K
        refine sched_pure rfl (fun K hK => ?_)
        go_simp
        refine hK _ ?_
        clear hK K
        refine sched_pure rfl (fun K hK => ?_)
        go_simp
        refine hK _ ?_
        clear hK K
        refine sched_pure rfl (fun K hK => ?_)
        go_simp
        refine hK _ ?_
        clear hK K
        refine sched_pure rfl (fun K hK => ?_)
        go_simp
        refine hK _ ?_
        clear hK K
        refine sched_pure rfl (fun K hK => ?_)
        go_simp
        refine hK _ ?_
        clear hK K
        refine sched_pure rfl (fun K hK => ?_)
        go_simp
        refine hK _ ?_
        clear hK K
        refine sched_loud rfl (fun K hK => ?_)
        go_simp
        refine (LE.out _ (HW.out _ y6)).mono ?_
        rintro e u7 ⟨rfl, rfl⟩
        have y7 := y6
        refine hK _ _ ⟨⟨_, y7⟩, rfl⟩ ?_
        clear hK K
        refine sched_pure rfl (fun K hK => ?_)
        go_simp
        refine hK _ ?_
        clear hK K
        refine sched_pure rfl (fun K hK => ?_)
        go_simp
        refine hK _ ?_
        clear hK K
        refine sched_pure rfl (fun K hK => ?_)
        go_simp
        refine hK _ ?_
        clear hK K
        refine sched_loud rfl (fun K hK => ?_)
        go_simp
        refine (LV.out _).mono ?_
        rintro e u8 ⟨rfl, h8⟩
        have y8 := y7.trans (h8.mono y7.size)
        refine hK _ _ ⟨⟨_, y8⟩, rfl⟩ ?_
        clear hK K
        refine sched_pure rfl (fun K hK => ?_)
        go_simp
        refine hK _ ?_
        clear hK K
        refine sched_pure rfl (fun K hK => ?_)
        go_simp
        refine hK _ ?_
        clear hK K
        refine sched_nil ?_
        have hE := HEE.out _ (HW.out _ y8)
        clear q1 q2 d0 d1 d2 d3 d4 d5 d6 d7 d8
        go_wp2_with fail
        go_ret
        exact ⟨rfl, hE⟩
end Go.Proofs.Ytlhojbgpmjcjlaa.skipPuts

/-
  WHAT THE ROWS' LISTS GIVE, for laws of the levels: the names, the library's table of letters; sets that came in.
-/
import Derived.Test.YtljbaoaglpheoaaDoorLvlLow
import Derived.Test.YtljbaoaglpheoaaDoorCards
import Derived.Test.YtljbaoaglpheoaaDoorTie
import Derived.ProofKit
import Derived.OpenShut
import Derived.ShutString
import Derived.ChangeOld
import Derived.Deep.DeepHandedRow
import Derived.Deep.DeepWitnessRowRef
import Derived.Lib.LaidTab
import Derived.LaidHandle
import Derived.Stop.LaidErr
import Derived.SizedLaws
import Derived.Lay
namespace Go.Proofs.YtljbaoaglpheoaaDoor
open Go.ChangeShapes Go.WideShapes Go.ChangeAt Go.RowKit

theorem ownR : ownKnob Tryd.prog.godebug = none := by kernel_rfl
theorem laidOutR : laidOutB Tryd.prog = true := by kernel_rfl
/-- The lists that the rows have. -/
def laidOne : List (String × DataW Unit) := [("skerry/level.names", Rows.laid_skerry_level_names)]
def laidSix : List (String × DataW Unit) := [("unicode/utf8.acceptRanges", Rows.laid_unicode_utf8_acceptRanges), ("unicode.asciiFold", Rows.laid_unicode_asciiFold), ("unicode.caseOrbit", Rows.laid_unicode_caseOrbit), ("skerry/level.names", Rows.laid_skerry_level_names), ("unicode.CaseRanges", Rows.laid_unicode_CaseRanges), ("unicode/utf8.first", Rows.laid_unicode_utf8_first)]
theorem gNms : Tryd.prog.globalNamed "skerry/level.names" = some 0 := by kernel_rfl
theorem gNmsType : (Tryd.prog.globals[0]?).map (·.type) = some 38 := by kernel_rfl
theorem cellsNms : Tryd.prog.cellsOf 38 = 3 := by kernel_rfl
theorem cellsStrL : Tryd.prog.cellsOf 9 = 1 := by kernel_rfl
theorem gFold : Tryd.prog.globalNamed "unicode.asciiFold" = some 1 := by kernel_rfl
theorem gFoldType : (Tryd.prog.globals[1]?).map (·.type) = some 45 := by kernel_rfl
theorem cellsFold : Tryd.prog.cellsOf 45 = 128 := by kernel_rfl
theorem cells16L : Tryd.prog.cellsOf 44 = 1 := by kernel_rfl

theorem ba_eq {s : ByteArray} {l : List UInt8} (h : s.data.toList = l) : s = ⟨l.toArray⟩ := by
  obtain ⟨d⟩ := s
  obtain ⟨d⟩ := d
  simp at h
  subst h
  rfl
/-- An array of three texts that reads as these holds them. -/
theorem texts3 {H : Type} {enc : TypeId × Value → H} {w : World} {base : Nat} {sp : Nat → Bool} {held : Bool} {fuel : Nat} {cs : List Value} {a b c : List UInt8} {p : List MemPlace}
    (h : DataW.trod enc Tryd.prog w base sp held fuel 38 cs = some (.agg [.lit (.string a), .lit (.string b), .lit (.string c)], p)) : cs = [.string ⟨a.toArray⟩, .string ⟨b.toArray⟩, .string ⟨c.toArray⟩] := by
  cases fuel with
  | zero => simp [DataW.trod] at h
  | succ fuel =>
    simp only [DataW.trod, Tryd.underlying38, cellsStrL, cellsNms, Nat.mul_one] at h
    split at h
    · rename_i hl
      obtain ⟨xs, hm, hx⟩ := Option.map_eq_some_iff.1 h
      have hxs : xs.map (·.1) = [.lit (.string a), .lit (.string b), .lit (.string c)] := by
        have := congrArg Prod.fst hx
        simpa using this
      have one : ∀ i l, i < 3 → (xs.map (·.1))[i]? = some (DataW.lit (.string l) : DataW H) → cs[i]? = some (.string ⟨l.toArray⟩) := by
        intro i l hi hq
        obtain ⟨y, hb, hf⟩ := Lib.mapM_at hm i i (by simp [hi])
        obtain ⟨s, hc, rfl, _⟩ := DataW.trod_string Tryd.underlying9 hf
        have h1 : cs[i]? = some (.string s) := by
          have := congrArg (·[0]?) hc
          simpa [List.getElem?_take, List.getElem?_drop] using this
        rw [List.getElem?_map, hb] at hq
        simp at hq
        rw [h1, ba_eq hq]
      rw [hxs] at one
      have c0 := one 0 a (by omega) rfl
      have c1 := one 1 b (by omega) rfl
      have c2 := one 2 c (by omega) rfl
      match cs, hl with
      | [x, y, z], _ =>
        simp at c0 c1 c2
        rw [c0, c1, c2]
    · cases h
theorem nms_head {W : World} {rest : List (String × DataW Unit)} (h : laidMet Tryd.prog (("skerry/level.names", Rows.laid_skerry_level_names) :: rest) W) : Nms W := by
  obtain ⟨ps, ⟨g', t', cs, fuel, p, q, hg', ht', hvar, hd, _, _⟩, _⟩ := h
  obtain rfl := Option.some.inj (gNms.symm.trans hg')
  obtain rfl := Option.some.inj (gNmsType.symm.trans ht')
  have e := texts3 hd
  have at_ : ∀ i v, cs.toList[i]? = some v → W.cell? ⟨0, i, none⟩ = some v := fun i v hv => by rw [World.var?_cell gNms hvar i, ← Array.getElem?_toList, hv]
  rw [e] at at_
  exact ⟨at_ 0 _ rfl, at_ 1 _ rfl, at_ 2 _ rfl⟩
theorem nms1 {W : World} (h : laidMetH Tryd.prog laidOne W) : Nms W := by
  rw [MakeChecks.laidMetH_plain _ _ _ (by kernel_rfl)] at h
  exact nms_head h
theorem door_met1 (os : Os) (args : Array Value) : laidMetH Tryd.prog laidOne ((World.laidAll Tryd.prog os laidOne).forCall (fun _ _ => 0) ⟨#[], args, []⟩).memory := by
  rw [MakeChecks.laidMetH_plain _ _ _ (by kernel_rfl)]; exact laidMet_laidAll _ (by kernel_rfl) (by kernel_rfl)
theorem nms6 {W : World} (h : laidMetH Tryd.prog laidSix W) : Nms W := by
  rw [MakeChecks.laidMetH_plain _ _ _ (by kernel_rfl)] at h
  exact nms_head (laidMet.tail (laidMet.tail (laidMet.tail h)))
/-- The library's table of the letters that are alike. -/
def foldT : List Int := (List.range 65).map (fun x : Nat => (x : Int)) ++ (List.range 26).map (fun x : Nat => (x : Int) + 97) ++ (List.range 6).map (fun x : Nat => (x : Int) + 91) ++ (List.range 10).map (fun x : Nat => (x : Int) + 65) ++ [8490] ++ (List.range 7).map (fun x : Nat => (x : Int) + 76) ++ [383] ++ (List.range 7).map (fun x : Nat => (x : Int) + 84) ++ (List.range 5).map (fun x : Nat => (x : Int) + 123)
theorem foldT_is : (Rows.laid_unicode_asciiFold : DataW Unit) = Lib.tabData .u16 foldT := by kernel_rfl
theorem fold6 {W : World} (h : laidMetH Tryd.prog laidSix W) : Lib.TabIs Tryd.prog W "unicode.asciiFold" .u16 foldT := by
  rw [MakeChecks.laidMetH_plain _ _ _ (by kernel_rfl)] at h
  have h2 := laidMet.tail h
  rw [foldT_is] at h2
  exact Lib.tabIs_of_head (zs := foldT) gFold gFoldType Tryd.underlying45 Tryd.underlying44 cells16L cellsFold h2
theorem door_met6 (os : Os) (args : Array Value) : laidMetH Tryd.prog laidSix ((World.laidAll Tryd.prog os laidSix).forCall (fun _ _ => 0) ⟨#[], args, []⟩).memory := by
  rw [MakeChecks.laidMetH_plain _ _ _ (by kernel_rfl)]; exact laidMet_laidAll _ (by kernel_rfl) (by kernel_rfl)
theorem cellsSets : Tryd.prog.cellsOf 33 = 3 := by kernel_rfl
theorem cellsUintR : Tryd.prog.cellsOf 31 = 1 := by kernel_rfl
set_option maxRecDepth 100000 in
theorem sets_came {H : Type} {enc : TypeId × Value → H} {W : World} {base : Nat} {v : Value} {d : DataW H} {p : List MemPlace} (hv : Value.okWide Tryd.prog W .any base 33 v)
    (h : DataW.Trod enc Tryd.prog W 0 (fun _ => true) true 33 v d p) : ∃ x y z : Int, v = .agg #[.int .u64 x, .int .u64 y, .int .u64 z] ∧ (0 ≤ x ∧ x ≤ 18446744073709551615) ∧ (0 ≤ y ∧ y ≤ 18446744073709551615) ∧ (0 ≤ z ∧ z ≤ 18446744073709551615) := by
  obtain ⟨cs, rfl, hsz⟩ := okWide_struct Tryd.underlying33 hv
  obtain ⟨fuel, hf⟩ := h
  have hl := hsz.trans cellsSets
  obtain ⟨l⟩ := cs
  match l, hl with
  | [c0, c1, c2], _ =>
    obtain ⟨xs, n, _, hd, hl, hlen, hf⟩ := DataW.trod_struct Tryd.underlying33 hf
    match xs, hlen with
    | [y0, y1, y2], _ =>
      have h0 : DataW.trod enc Tryd.prog W 0 (fun _ => true) true n 31 ((([c0, c1, c2] : List Value).drop 0).take (Tryd.prog.cellsOf 31)) = some y0 := hf 0 _ rfl
      have h1 : DataW.trod enc Tryd.prog W 0 (fun _ => true) true n 31 ((([c0, c1, c2] : List Value).drop 1).take (Tryd.prog.cellsOf 31)) = some y1 := hf 1 _ rfl
      have h2 : DataW.trod enc Tryd.prog W 0 (fun _ => true) true n 31 ((([c0, c1, c2] : List Value).drop 2).take (Tryd.prog.cellsOf 31)) = some y2 := hf 2 _ rfl
      rw [cellsUintR] at h0 h1 h2
      obtain ⟨z0, e0, _, w0⟩ := DataW.trod_int Tryd.underlying31 h0
      obtain ⟨z1, e1, _, w1⟩ := DataW.trod_int Tryd.underlying31 h1
      obtain ⟨z2, e2, _, w2⟩ := DataW.trod_int Tryd.underlying31 h2
      cases e0
      cases e1
      cases e2
      exact ⟨z0, z1, z2, rfl, bounds_u64 w0, bounds_u64 w1, bounds_u64 w2⟩
end Go.Proofs.YtljbaoaglpheoaaDoor

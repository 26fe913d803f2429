/-
  WHAT THE ROWS' LIST GIVES, for laws of the lexer: operators, words, strconv's errors, the library's longest text.
-/
import Derived.Test.YtajebjkpmbehgaaGreatDoorLexNum
import Derived.Test.YtajebjkpmbehgaaGreatDoorCards
import Derived.Test.YtajebjkpmbehgaaGreatDoorTie
import Derived.ProofKit
import Derived.OpenShut
import Derived.ShutString
import Derived.ChangeOld
import Derived.Deep.DeepHandedRow
import Derived.Deep.DeepWitnessRowRef
import Derived.Lib.LaidTab
import Derived.LaidHandle
import Derived.Stop.LaidErr
import Derived.SizedLaws
import Derived.Lay
namespace Go.Proofs.YtajebjkpmbehgaaGreatDoor
open Go.ChangeShapes Go.WideShapes Go.ChangeAt Go.RowKit

theorem ownR : ownKnob Tryz.prog.godebug = none := by kernel_rfl
theorem laidOutR : laidOutB Tryz.prog = true := by kernel_rfl
/-- The list that each row has. -/
def laidTwelve : List (String × DataW Unit) := [("math/bits.deBruijn32tab", Rows.laid_math_bits_deBruijn32tab), ("math/bits.deBruijn64tab", Rows.laid_math_bits_deBruijn64tab), ("internal/strconv.uint64pow10", Rows.laid_internal_strconv_uint64pow10), ("unicode/utf8.acceptRanges", Rows.laid_unicode_utf8_acceptRanges), ("strconv.ErrRange", Rows.laid_strconv_ErrRange), ("strconv.ErrSyntax", Rows.laid_strconv_ErrSyntax), ("unicode.asciiFold", Rows.laid_unicode_asciiFold), ("unicode.caseOrbit", Rows.laid_unicode_caseOrbit), ("skerry/lexer.ops", Rows.laid_skerry_lexer_ops), ("skerry/lexer.words", Rows.laid_skerry_lexer_words), ("unicode.CaseRanges", Rows.laid_unicode_CaseRanges), ("unicode/utf8.first", Rows.laid_unicode_utf8_first)]
theorem cellsStrX : Tryz.prog.cellsOf 9 = 1 := by kernel_rfl
theorem cellsOps : Tryz.prog.cellsOf 72 = 7 := by kernel_rfl
theorem cellsWds : Tryz.prog.cellsOf 58 = 23 := by kernel_rfl
theorem gOps : Tryz.prog.globalNamed "skerry/lexer.ops" = some 1 := by kernel_rfl
theorem gOpsType : (Tryz.prog.globals[1]?).map (·.type) = some 72 := by kernel_rfl
theorem gWds : Tryz.prog.globalNamed "skerry/lexer.words" = some 0 := by kernel_rfl
theorem gWdsType : (Tryz.prog.globals[0]?).map (·.type) = some 58 := by kernel_rfl
theorem gRngX : Tryz.prog.globalNamed "strconv.ErrRange" = some 8 := by kernel_rfl
theorem gRngTypeX : (Tryz.prog.globals[8]?).map (·.type) = some 63 := by kernel_rfl
theorem gSynX : Tryz.prog.globalNamed "strconv.ErrSyntax" = some 7 := by kernel_rfl
theorem gSynTypeX : (Tryz.prog.globals[7]?).map (·.type) = some 63 := by kernel_rfl
theorem cellsErrX : Tryz.prog.cellsOf 130 = 1 := by kernel_rfl
theorem starX : "*" ++ "errors.errorString" = "*errors.errorString" := by decide
theorem rowErrX (u : TypeId) (h : Tryz.prog.typeName? 3 u = some "*errors.errorString") : u = 128 :=
  typeName_ptr_named (nm := "errors.errorString") (by rw [starX]; kernel_rfl) (by kernel_rfl) (by decide) u (by rw [starX]; exact h)
theorem ba_eqX {s : ByteArray} {l : List UInt8} (h : s.data.toList = l) : s = xB l := by
  obtain ⟨d⟩ := s
  obtain ⟨d⟩ := d
  simp at h
  subst h
  rfl
theorem textsOps {H : Type} {enc : TypeId × Value → H} {w : World} {base : Nat} {sp : Nat → Bool} {held : Bool} {fuel : Nat} {cs : List Value} {ls : List (List UInt8)} {p : List MemPlace} (hls : ls.length = 7)
    (h : DataW.trod enc Tryz.prog w base sp held fuel 72 cs = some (.agg (ls.map fun l => DataW.lit (Lit.string l)), p)) : ∀ (i : Nat) (l : List UInt8), ls[i]? = some l → cs[i]? = some (Value.string (xB l)) := by
  cases fuel with
  | zero => simp [DataW.trod] at h
  | succ fuel =>
    simp only [DataW.trod, Tryz.underlying72, cellsStrX, cellsOps, Nat.mul_one] at h
    split at h
    · rename_i hl
      obtain ⟨xs, hm, hx⟩ := Option.map_eq_some_iff.1 h
      have hxs : xs.map (·.1) = ls.map fun l => DataW.lit (Lit.string l) := by
        have := congrArg Prod.fst hx
        simpa using this
      intro i l hq0
      have hi : i < 7 := by have := (List.getElem?_eq_some_iff.1 hq0).1; omega
      have hq : (xs.map (·.1))[i]? = some (DataW.lit (.string l) : DataW H) := by rw [hxs, List.getElem?_map, hq0]; rfl
      obtain ⟨y, hb, hf⟩ := Lib.mapM_at hm i i (by simp [hi])
      obtain ⟨s, hc, rfl, _⟩ := DataW.trod_string Tryz.underlying9 hf
      have h1 : cs[i]? = some (.string s) := by
        have := congrArg (·[0]?) hc
        simpa [List.getElem?_take, List.getElem?_drop] using this
      rw [List.getElem?_map, hb] at hq
      simp at hq
      rw [h1, ba_eqX hq]
    · cases h
theorem textsWds {H : Type} {enc : TypeId × Value → H} {w : World} {base : Nat} {sp : Nat → Bool} {held : Bool} {fuel : Nat} {cs : List Value} {ls : List (List UInt8)} {p : List MemPlace} (hls : ls.length = 23)
    (h : DataW.trod enc Tryz.prog w base sp held fuel 58 cs = some (.agg (ls.map fun l => DataW.lit (Lit.string l)), p)) : ∀ (i : Nat) (l : List UInt8), ls[i]? = some l → cs[i]? = some (Value.string (xB l)) := by
  cases fuel with
  | zero => simp [DataW.trod] at h
  | succ fuel =>
    simp only [DataW.trod, Tryz.underlying58, cellsStrX, cellsWds, Nat.mul_one] at h
    split at h
    · rename_i hl
      obtain ⟨xs, hm, hx⟩ := Option.map_eq_some_iff.1 h
      have hxs : xs.map (·.1) = ls.map fun l => DataW.lit (Lit.string l) := by
        have := congrArg Prod.fst hx
        simpa using this
      intro i l hq0
      have hi : i < 23 := by have := (List.getElem?_eq_some_iff.1 hq0).1; omega
      have hq : (xs.map (·.1))[i]? = some (DataW.lit (.string l) : DataW H) := by rw [hxs, List.getElem?_map, hq0]; rfl
      obtain ⟨y, hb, hf⟩ := Lib.mapM_at hm i i (by simp [hi])
      obtain ⟨s, hc, rfl, _⟩ := DataW.trod_string Tryz.underlying9 hf
      have h1 : cs[i]? = some (.string s) := by
        have := congrArg (·[0]?) hc
        simpa [List.getElem?_take, List.getElem?_drop] using this
      rw [List.getElem?_map, hb] at hq
      simp at hq
      rw [h1, ba_eqX hq]
    · cases h
theorem ops_head {W : World} {rest : List (String × DataW Unit)} (h : laidMet Tryz.prog (("skerry/lexer.ops", Rows.laid_skerry_lexer_ops) :: rest) W) : OpsV W := by
  obtain ⟨ps, ⟨g', t', cs, fuel, p, q, hg', ht', hvar, hd, _, _⟩, _⟩ := h
  obtain rfl := Option.some.inj (gOps.symm.trans hg')
  obtain rfl := Option.some.inj (gOpsType.symm.trans ht')
  have e := textsOps (ls := opsL) rfl hd
  intro i hi
  have hl : opsL[i]? = some (opsL.getD i []) := by
    have : i < opsL.length := hi
    rw [List.getD_eq_getElem?_getD, List.getElem?_eq_getElem this]
    rfl
  rw [World.var?_cell gOps hvar i, ← Array.getElem?_toList, e i _ hl]
theorem wds_head {W : World} {rest : List (String × DataW Unit)} (h : laidMet Tryz.prog (("skerry/lexer.words", Rows.laid_skerry_lexer_words) :: rest) W) : WdsV W := by
  obtain ⟨ps, ⟨g', t', cs, fuel, p, q, hg', ht', hvar, hd, _, _⟩, _⟩ := h
  obtain rfl := Option.some.inj (gWds.symm.trans hg')
  obtain rfl := Option.some.inj (gWdsType.symm.trans ht')
  have e := textsWds (ls := wordsU) rfl hd
  intro i hi
  have hl : wordsU[i]? = some (wordsU.getD i []) := by
    have : i < wordsU.length := hi
    rw [List.getD_eq_getElem?_getD, List.getElem?_eq_getElem this]
    rfl
  rw [World.var?_cell gWds hvar i, ← Array.getElem?_toList, e i _ hl]
theorem env12 {W : World} (h : laidMetH Tryz.prog laidTwelve W) (hs : W.ShapedOpen Tryz.prog) : EnvL W := by
  rw [MakeChecks.laidMetH_plain _ _ _ (by kernel_rfl)] at h
  have h5 := laidMet.tail (laidMet.tail (laidMet.tail (laidMet.tail h)))
  have h6 := laidMet.tail h5
  have h9 := laidMet.tail (laidMet.tail (laidMet.tail h6))
  have h10 := laidMet.tail h9
  refine ⟨Go.Proofs.cell_of_shapedOpen_int (zero := #[.int .i64 0]) (t := 3) hs (of_decide_eq_true (by kernel_rfl)) (by kernel_rfl) rfl (by kernel_rfl) (by kernel_rfl) Tryz.underlying3, ?_, ?_, ops_head h9, wds_head h10⟩
  · obtain ⟨a0, s0, hv0, _, _, _⟩ := laid_sentinel h6 gSynX gSynTypeX Tryz.underlying63 rowErrX Tryz.underlying128 Tryz.underlying130 rfl rfl Tryz.underlying9 cellsErrX cellsStrX
    exact ⟨128, .pointer (some a0), World.var?_cell gSynX hv0 0⟩
  · obtain ⟨a0, s0, hv0, _, _, _⟩ := laid_sentinel h5 gRngX gRngTypeX Tryz.underlying63 rowErrX Tryz.underlying128 Tryz.underlying130 rfl rfl Tryz.underlying9 cellsErrX cellsStrX
    exact ⟨128, .pointer (some a0), World.var?_cell gRngX hv0 0⟩
theorem door_met12 (os : Os) (args : Array Value) : laidMetH Tryz.prog laidTwelve ((World.laidAll Tryz.prog os laidTwelve).forCall (fun _ _ => 0) ⟨#[], args, []⟩).memory := by
  rw [MakeChecks.laidMetH_plain _ _ _ (by kernel_rfl)]; exact laidMet_laidAll _ (by kernel_rfl) (by kernel_rfl)
end Go.Proofs.YtajebjkpmbehgaaGreatDoor

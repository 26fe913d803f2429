/-
  WHAT THE ROWS' LISTS GIVE: the library's variables; keys that came in; an input that fits.
-/
import Derived.Test.YtniilnifhgdhcaaDoorKeyEnv
import Derived.Test.YtniilnifhgdhcaaDoorCards
import Derived.Test.YtniilnifhgdhcaaDoorTie
import Derived.ProofKit
import Derived.OpenShut
import Derived.ShutString
import Derived.ChangeOld
import Derived.Deep.DeepHandedRow
import Derived.Lib.LaidTab
import Derived.LaidMore
import Derived.Lay
import Derived.Stop.LaidErr
import Derived.SizedLaws
import Derived.Lib.SmallJoins
namespace Go.Proofs.YtniilnifhgdhcaaDoor
open Go.ChangeShapes Go.WideShapes Go.ChangeAt Go.RowKit Go.Joins

theorem own : ownKnob Tryd.prog.godebug = none := by kernel_rfl
theorem laidOut : laidOutB Tryd.prog = true := by kernel_rfl
/-- The list that each row has. -/
def laidK : List (String × DataW Unit) := [("math/bits.deBruijn32tab", Rows.laid_math_bits_deBruijn32tab), ("math/bits.deBruijn64tab", Rows.laid_math_bits_deBruijn64tab), ("internal/strconv.uint64pow10", Rows.laid_internal_strconv_uint64pow10), ("unicode/utf8.acceptRanges", Rows.laid_unicode_utf8_acceptRanges), ("unicode/utf8.first", Rows.laid_unicode_utf8_first)]
theorem gPowType : (Tryd.prog.globals[1]?).map (·.type) = some 85 := by kernel_rfl
theorem cellsPow : Tryd.prog.cellsOf 85 = 20 := by kernel_rfl
theorem cells64 : Tryd.prog.cellsOf 53 = 1 := by kernel_rfl
theorem env_of {W : World} (h : laidMetH Tryd.prog laidK W) (hs : W.ShapedOpen Tryd.prog) : Env W := by
  refine ⟨Tryd.laysM155.s1_3 W hs, ?_⟩
  have h2 : laidMet Tryd.prog laidK W := by rw [MakeChecks.laidMetH_plain _ _ _ (by kernel_rfl)] at h; exact h
  exact Lib.tabIs_of_head (zs := Lib.pow10Tab) gPow gPowType Tryd.underlying85 Tryd.underlying53 cells64 cellsPow (laidMet.tail (laidMet.tail h2))
theorem door_met (os : Os) (args : Array Value) : laidMetH Tryd.prog laidK ((World.laidAll Tryd.prog os laidK).forCall (fun _ _ => 0) ⟨#[], args, []⟩).memory := by
  rw [MakeChecks.laidMetH_plain _ _ _ (by kernel_rfl)]; exact laidMet_laidAll _ (by kernel_rfl) (by kernel_rfl)

theorem array4 {α : Type} {cs : Array α} (h : cs.size = 4) : ∃ c0 c1 c2 c3, cs = #[c0, c1, c2, c3] := by
  obtain ⟨l⟩ := cs
  match l, h with
  | [c0, c1, c2, c3], _ => exact ⟨c0, c1, c2, c3, rfl⟩
theorem cellsKey : Tryd.prog.cellsOf 23 = 4 := by kernel_rfl
theorem cellsInt : Tryd.prog.cellsOf 3 = 1 := by kernel_rfl
theorem cellsStr : Tryd.prog.cellsOf 9 = 1 := by kernel_rfl
set_option maxRecDepth 100000 in
/-- A key that came in. -/
theorem key_open {H : Type} {enc : TypeId × Value → H} {W : World} {base : Nat} {v : Value} {d : DataW H} {p : List MemPlace} (hv : Value.okWide Tryd.prog W .any base 23 v)
    (h : DataW.Trod enc Tryd.prog W 0 (fun _ => true) true 23 v d p) : ∃ k : Kb, v = k.v ∧ InI k.r ∧ k.t.size ≤ maxLen ∧ k.p.size ≤ maxLen ∧ k.c.size ≤ maxLen ∧ d = .agg [.lit (.string (nb k.t)), .lit (.string (nb k.p)), .lit (.int .i64 k.r), .lit (.string (nb k.c))] := by
  obtain ⟨cs, rfl, hsz⟩ := okWide_struct Tryd.underlying23 hv
  obtain ⟨c0, c1, c2, c3, rfl⟩ := array4 (hsz.trans cellsKey)
  obtain ⟨fuel, hf⟩ := h
  obtain ⟨xs, n, _, hd, hl, hlen, hf⟩ := DataW.trod_struct Tryd.underlying23 hf
  match xs, hlen with
  | [y0, y1, y2, y3], _ =>
    have h0 : DataW.trod enc Tryd.prog W 0 (fun _ => true) true n 9 ((([c0, c1, c2, c3] : List Value).drop 0).take (Tryd.prog.cellsOf 9)) = some y0 := hf 0 _ rfl
    have h1 : DataW.trod enc Tryd.prog W 0 (fun _ => true) true n 9 ((([c0, c1, c2, c3] : List Value).drop 1).take (Tryd.prog.cellsOf 9)) = some y1 := hf 1 _ rfl
    have h2 : DataW.trod enc Tryd.prog W 0 (fun _ => true) true n 3 ((([c0, c1, c2, c3] : List Value).drop 2).take (Tryd.prog.cellsOf 3)) = some y2 := hf 2 _ rfl
    have h3 : DataW.trod enc Tryd.prog W 0 (fun _ => true) true n 9 ((([c0, c1, c2, c3] : List Value).drop 3).take (Tryd.prog.cellsOf 9)) = some y3 := hf 3 _ rfl
    rw [cellsStr] at h0 h1 h3
    rw [cellsInt] at h2
    obtain ⟨s0, e0, g0, w0⟩ := DataW.trod_string Tryd.underlying9 h0
    obtain ⟨s1, e1, g1, w1⟩ := DataW.trod_string Tryd.underlying9 h1
    obtain ⟨z2, e2, g2, w2⟩ := DataW.trod_int Tryd.underlying3 h2
    obtain ⟨s3, e3, g3, w3⟩ := DataW.trod_string Tryd.underlying9 h3
    cases e0
    cases e1
    cases e2
    cases e3
    subst g0
    subst g1
    subst g2
    subst g3
    exact ⟨⟨s0, s1, z2, s3⟩, rfl, bounds_i64 w2, w0, w1, w3, congrArg Prod.fst hd⟩
theorem key_reach {H : Type} {ts : List TypeId} {ds : List (DataW H)} {j : Nat} {k : Kb} (hr : InI k.r) (h : (DataW.weightsEach Tryd.prog ts ds).all (· ≤ reachBytes) = true) (ht : ts[j]? = some 23)
    (hd : ds[j]? = some (.agg [.lit (.string (nb k.t)), .lit (.string (nb k.p)), .lit (.int .i64 k.r), .lit (.string (nb k.c))])) : k.Fits := by
  have hw : ∀ n ∈ (DataW.agg [.lit (.string (nb k.t)), .lit (.string (nb k.p)), .lit (.int .i64 k.r), .lit (.string (nb k.c))] : DataW H).weights Tryd.prog 23, n ≤ reachBytes := fun n hn => by
    have := List.all_eq_true.1 h n (DataW.weights_mem_each ht hd n hn)
    simpa using this
  have a1 := hw (nb k.t).length (by simp [DataW.weights, DataW.weightsEach, Tryd.underlying23])
  have a2 := hw (nb k.p).length (by simp [DataW.weights, DataW.weightsEach, Tryd.underlying23])
  have a3 := hw (nb k.c).length (by simp [DataW.weights, DataW.weightsEach, Tryd.underlying23])
  rw [nb_size] at a1 a2 a3
  simp only [reachBytes] at a1 a2 a3
  exact ⟨hr, by omega, by omega, by omega⟩
theorem byte_val (x : Nat) (h : x < 256) : ((UInt8.ofNat x).toNat : Int) = (x : Int) := by rw [UInt8.toNat_ofNat_of_lt' h]
/-- Bytes that came in. -/
theorem bytes_open {H : Type} {enc : TypeId × Value → H} {W : World} {ao : Option Addr} {len cap : Nat} {d : DataW H} {p : List MemPlace}
    (h : DataW.Trod enc Tryd.prog W 0 (fun _ => true) true 32 (Value.slice ao len cap) d p) :
    ∃ l : List UInt8, l.length = len ∧ Sees W ao l ∧ (ao = none → l.length = 0) ∧ l.length ≤ maxLen ∧ l.length ≤ cap ∧ (l.length = 0 ∨ ∃ el sp, d = .slice el sp ∧ el.length = l.length) := by
  obtain ⟨fuel, hf⟩ := h
  rcases open_ints Tryd.underlying32 Tryd.underlying5 (by kernel_rfl) hf with ⟨hcs, _⟩ | ⟨x, n, c, zs, hcs, _, hl, hm, hz, hx, hcell, hwz⟩
  · simp [Value.cells] at hcs
    obtain ⟨rfl, rfl, rfl⟩ := hcs
    exact ⟨[], rfl, Sees.nil _ _, fun _ => rfl, Nat.zero_le _, Nat.zero_le _, .inl rfl⟩
  · simp [Value.cells] at hcs
    obtain ⟨rfl, rfl, rfl⟩ := hcs
    have hzl : zs.length = cap := by simpa using hz
    have hlen : ((zs.take len).map fun z : Int => UInt8.ofNat z.toNat).length = len := by simp; omega
    refine ⟨(zs.take len).map fun z : Int => UInt8.ofNat z.toNat, hlen, fun i hi => ⟨x, rfl, ?_⟩, (fun h => by cases h), by omega, by omega, .inr ⟨_, _, congrArg Prod.fst hx, by rw [hlen]; simp [lits]; omega⟩⟩
    rw [hlen] at hi
    have hi' : i < zs.length := by omega
    rw [hcell i hi']
    have hb := bounds_u8 (hwz (zs.getD i 0) (by simp [List.getD, hi']))
    have e : ((zs.take len).map fun z : Int => UInt8.ofNat z.toNat).getD i 0 = UInt8.ofNat (zs.getD i 0).toNat := by simp [List.getD, hi, hi']
    rw [e, byte_val _ (by omega), Int.toNat_of_nonneg hb.1]
theorem bytes8 : Tryd.prog.bytesOf 5 = 1 := by kernel_rfl
/-- How many bytes can have come in. -/
theorem bytes_reach {H : Type} {ts : List TypeId} {ds : List (DataW H)} {j n : Nat} {d : DataW H} (h : (DataW.weightsEach Tryd.prog ts ds).all (· ≤ reachBytes) = true) (ht : ts[j]? = some 32) (hd : ds[j]? = some d)
    (hn : n = 0 ∨ ∃ el sp, d = .slice el sp ∧ el.length = n) : n ≤ 140737488351232 := by
  rcases hn with rfl | ⟨el, sp, rfl, rfl⟩
  · omega
  · have := sized_slice h ht hd Tryd.underlying32
    rw [bytes8] at this
    simp only [reachBytes] at this
    omega
end Go.Proofs.YtniilnifhgdhcaaDoor

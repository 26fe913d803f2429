/-
  REGIONS WHOSE CALLEES LAY BLOCKS, walked once: the class of worlds in which all that was there is as it was. THE ENVIRONMENT: what the library's variables hold.
-/
import Derived.Test.YtniilnifhgdhcaaDoorKeyCmp
import Derived.Test.YtniilnifhgdhcaaDoorKeyText
import Derived.Deep.QuietTactic
import Derived.BigQuiet
namespace Go.Proofs.YtniilnifhgdhcaaDoor
open Go.RowKit

/-- A world in which all blocks below n are as they were in w. -/
structure Cl (n : Nat) (w : World) where
  u : World
  h : Below n w u
theorem Cl.inh (n : Nat) (w : World) : Nonempty (Cl n w) := ⟨⟨w, Below.refl n w⟩⟩
theorem wp_region_cl {P : Program} {id : Nat} {Q : Exit → Act → World → Prop} {a : Act} {w : World} {l : List Oper} (n : Nat) (hm : P.follows .mixedOrders = true) (hB : Region.lexB .any l.toArray = true)
    (h : wpQuiet P l.toArray (fun w' => ∃ p : Cl n w, w' = p.u) (fun a' => ∀ w', (∃ p : Cl n w, w' = p.u) → Q .normal a' w') l a) : (Code.region id l.toArray true).wp P Q a w :=
  wp_region_quiet (C := fun w' => ∃ p : Cl n w, w' = p.u) hm hB ⟨⟨w.drew, (Below.refl n w).drew⟩, rfl⟩ (by simpa using h)
theorem Cl.calls {P : Program} {f : FuncId} {args : Array Value} {n : Nat} {w : World} {p : Cl n w} {v : Value} (hn : n ≤ w.heap.size)
    (h : Calls P f args p.u fun e w' => e = .returned v ∧ Below p.u.heap.size p.u w') : Calls P f args p.u fun e w'' => e = .returned v ∧ ∃ q : Cl n w, w'' = q.u :=
  h.mono fun _ w' ⟨he, hb⟩ => ⟨he, ⟨w', p.h.trans (hb.mono (Nat.le_trans hn p.h.size))⟩, rfl⟩
theorem Cl.cell {n : Nat} {w : World} (p : Cl n w) {a : Addr} {v : Value} (hb : a.block < n) (h : w.cell? a = some v) : p.u.cell? a = some v := by rw [p.h.cell hb, h]

/-- What a key that came in is like. -/
structure Kb.Fits (k : Kb) : Prop where
  r : InI k.r
  t : k.t.size ≤ 140737488351232
  p : k.p.size ≤ 140737488351232
  c : k.c.size ≤ 140737488351232
/-- What the library's variables hold. -/
structure Env (w : World) : Prop where
  len : ∃ m : Int, w.cell? ⟨0, 0, none⟩ = some (.int .i64 m)
  tab : Lib.TabIs Tryd.prog w "internal/strconv.uint64pow10" .u64 Lib.pow10Tab
theorem gPow : Tryd.prog.globalNamed "internal/strconv.uint64pow10" = some 1 := by kernel_rfl
theorem Env.below {w w' : World} (h : Env w) (hb : Below w.heap.size w w') : Env w' := by
  refine ⟨?_, ?_⟩
  · obtain ⟨m, hm⟩ := h.len
    exact ⟨m, by rw [hb.cell (World.block_lt_of_cell? _ _ hm), hm]⟩
  · have ht := h.tab
    unfold Lib.TabIs World.var? at ht ⊢
    rw [gPow] at ht ⊢
    simp only [Option.bind_some] at ht ⊢
    have hlt : 1 < w.heap.size := by
      rcases Nat.lt_or_ge 1 w.heap.size with g | g
      · exact g
      · rw [Array.getElem?_eq_none g] at ht; cases ht
    rw [hb.block _ hlt]; exact ht

theorem countB_le (s : ByteArray) (c : ByteArray) : Lib.countB s c ≤ s.size + 1 := by
  have := Lib.count_le (nb s) (nb c)
  rw [nb_size] at this
  exact this
theorem strB_size (l : List UInt8) : (strB l).size = l.length := by show l.toArray.size = _; simp
theorem ret_str {a b : ByteArray} (h : a = b) : Ending.returned (.string a) = .returned (.string b) := by rw [h]

theorem plain_any (s : ByteArray) (w : World) (hs : s.size ≤ 5000) (he : Env w) :
    Calls Tryd.prog 28 #[.string s] w fun x w' => x = .returned (.string (strB (msk (nb s)))) ∧ Below w.heap.size w w' := by
  obtain ⟨m, hm⟩ := he.len
  have c1 := countB_le s ⟨#[37]⟩
  have R1 : Hid (Calls Tryd.prog 43 #[.string s, .string ⟨#[37]⟩, .string ⟨#[37, 50, 53]⟩] w fun e w' => e = .returned (.string ⟨(Lib.replaceAll (nb s) [37] [37, 50, 53]).toArray⟩) ∧ Below w.heap.size w w') :=
    Tryd.strings_ReplaceAll s ⟨#[37]⟩ ⟨#[37, 50, 53]⟩ m w (by omega) hm (by decide) (by show s.size + Lib.countB s ⟨#[37]⟩ * 3 ≤ _; omega)
  obtain ⟨l2, h2⟩ : ∃ l2, l2 = Lib.replaceAll (nb s) [37] [37, 50, 53] := ⟨_, rfl⟩
  have hl : (strB l2).size ≤ 15000 := by
    rw [strB_size, h2, replaceAll_one _ _ _ (by decide)]
    have := flat_len 37 [37, 50, 53] 3 (by simp) (by omega) (nb s)
    rw [nb_size] at this; omega
  have c2 := countB_le (strB l2) ⟨#[47]⟩
  have R2 : Hid (∀ w' : World, Below w.heap.size w w' → Calls Tryd.prog 43 #[.string (strB l2), .string ⟨#[47]⟩, .string ⟨#[37, 50, 102]⟩] w' fun e w'' => e = .returned (.string (strB (msk (nb s)))) ∧ Below w'.heap.size w' w'') := by
    intro w' hb
    obtain ⟨m', hm'⟩ := (he.below hb).len
    have := Tryd.strings_ReplaceAll (strB l2) ⟨#[47]⟩ ⟨#[37, 50, 102]⟩ m' w' (by omega) hm' (by decide) (by show (strB l2).size + Lib.countB (strB l2) ⟨#[47]⟩ * 3 ≤ _; omega)
    have e : Lib.replaceAll (strB l2).data.toList [47] [37, 50, 102] = msk (nb s) := by
      show Lib.replaceAll (nb (strB l2)) _ _ = _
      rw [nb_strB, h2]; exact mask_two _
    refine this.mono fun x w'' hh => ⟨hh.1.trans ?_, hh.2⟩
    show Ending.returned (.string (strB (Lib.replaceAll (strB l2).data.toList [47] [37, 50, 102]))) = _
    rw [e]
  rw [← h2] at R1
  have R1' : Hid (Calls Tryd.prog 43 #[.string s, .string ⟨#[37]⟩, .string ⟨#[37, 50, 53]⟩] w fun e w' => e = .returned (.string (strB l2)) ∧ Below w.heap.size w w') := R1
  clear h2 hl c2 c1 R1 hm he
  generalize strB (msk (nb s)) = res at *
  generalize strB l2 = s2 at *
  go_enter Tryd.func28, Tryd.ntmps28
  go_wp2_with fail
  refine R1'.out.mono ?_
  rintro x w1 ⟨rfl, hb1⟩
  go_wp2_with fail
  refine (R2.out w1 hb1).mono ?_
  rintro x w2 ⟨rfl, hb2⟩
  go_wp2_with fail
  go_ret
  exact ⟨rfl, hb1.trans (hb2.mono hb1.size)⟩
end Go.Proofs.YtniilnifhgdhcaaDoor

/-
  CONTRACT: the words of the language (isWord): a range over a text's words.
-/
import Derived.Test.YtgjajffpkjcenaaDoorKeyName
import Derived.RangeFuncBox
import Derived.RangeFuncNested
import Derived.RangeFuncBound
import Derived.RangeFuncCalls
import Derived.RangeFuncLeaves
import Derived.Shelf.Abstract
import Derived.Shelf.RegionOpen
import Derived.WalkKit
import Derived.OwnWalkIn
import Derived.TacticsInMore
import Derived.LoopNIn
import Derived.LoopIn
namespace Go.Proofs.YtgjajffpkjcenaaDoor
open Go.RowKit Go.Shelf

attribute [local go_sem] Oper.semAt_some

/-- A text of small letters and blanks: its words, the place where the word at hand began, how many words are over. -/
structure FOK (B : ByteArray) (W : List ByteArray) (st : Nat → Int) (cn : Nat → Nat) : Prop where
  size : B.size ≤ 1000
  s0 : st 0 = -1
  c0 : cn 0 = 0
  rng : ∀ k, k ≤ B.size → -1 ≤ st k ∧ st k ≤ k
  step : ∀ k (h : k < B.size), ((B[k]'h).toNat = 32 ∧ st (k + 1) = -1 ∧ (st k < 0 → cn (k + 1) = cn k) ∧ (0 ≤ st k → W[cn k]? = some (B.extract (st k).toNat k) ∧ cn (k + 1) = cn k + 1)) ∨
    (97 ≤ (B[k]'h).toNat ∧ (B[k]'h).toNat ≤ 122 ∧ cn (k + 1) = cn k ∧ (st k < 0 → st (k + 1) = k) ∧ (0 ≤ st k → st (k + 1) = st k))
  last : (st B.size < 0 ∧ cn B.size = W.length) ∨ (0 ≤ st B.size ∧ W[cn B.size]? = some (B.extract (st B.size).toNat B.size) ∧ W.length = cn B.size + 1)
def wordsB : ByteArray := ⟨(([99, 114, 101, 97, 116, 101, 32, 116, 97, 98, 108, 101, 32, 112, 114, 105, 109, 97, 114, 121, 32, 107, 101, 121, 32, 105, 110, 115, 101, 114, 116, 32, 105, 110, 116, 111, 32, 118, 97, 108, 117, 101, 115, 32, 117, 115, 105, 110, 103, 32, 116, 105, 109, 101, 115, 116, 97, 109, 112, 32, 99, 111, 110, 115, 105, 115, 116, 101, 110, 99, 121, 32, 117, 112, 100, 97, 116, 101, 32, 115, 101, 116, 32, 119, 104, 101, 114, 101, 32, 97, 110, 100, 32, 100, 101, 108, 101, 116, 101, 32, 102, 114, 111, 109, 32, 115, 101, 108, 101, 99, 116, 32, 108, 105, 109, 105, 116, 32, 111, 110, 101, 32, 113, 117, 111, 114, 117, 109, 32, 97, 108, 108, 32, 116, 101, 120, 116, 32, 105, 110, 116] : List UInt8)).toArray⟩
def wordsL : List ByteArray := [⟨#[99, 114, 101, 97, 116, 101]⟩, ⟨#[116, 97, 98, 108, 101]⟩, ⟨#[112, 114, 105, 109, 97, 114, 121]⟩, ⟨#[107, 101, 121]⟩, ⟨#[105, 110, 115, 101, 114, 116]⟩, ⟨#[105, 110, 116, 111]⟩, ⟨#[118, 97, 108, 117, 101, 115]⟩, ⟨#[117, 115, 105, 110, 103]⟩, ⟨#[116, 105, 109, 101, 115, 116, 97, 109, 112]⟩, ⟨#[99, 111, 110, 115, 105, 115, 116, 101, 110, 99, 121]⟩, ⟨#[117, 112, 100, 97, 116, 101]⟩, ⟨#[115, 101, 116]⟩, ⟨#[119, 104, 101, 114, 101]⟩, ⟨#[97, 110, 100]⟩, ⟨#[100, 101, 108, 101, 116, 101]⟩, ⟨#[102, 114, 111, 109]⟩, ⟨#[115, 101, 108, 101, 99, 116]⟩, ⟨#[108, 105, 109, 105, 116]⟩, ⟨#[111, 110, 101]⟩, ⟨#[113, 117, 111, 114, 117, 109]⟩, ⟨#[97, 108, 108]⟩, ⟨#[116, 101, 120, 116]⟩, ⟨#[105, 110, 116]⟩]
def stL : List Int := [-1, 0, 0, 0, 0, 0, 0, -1, 7, 7, 7, 7, 7, -1, 13, 13, 13, 13, 13, 13, 13, -1, 21, 21, 21, -1, 25, 25, 25, 25, 25, 25, -1, 32, 32, 32, 32, -1, 37, 37, 37, 37, 37, 37, -1, 44, 44, 44, 44, 44, -1, 50, 50, 50, 50, 50, 50, 50, 50, 50, -1, 60, 60, 60, 60, 60, 60, 60, 60, 60, 60, 60, -1, 72, 72, 72, 72, 72, 72, -1, 79, 79, 79, -1, 83, 83, 83, 83, 83, -1, 89, 89, 89, -1, 93, 93, 93, 93, 93, 93, -1, 100, 100, 100, 100, -1, 105, 105, 105, 105, 105, 105, -1, 112, 112, 112, 112, 112, -1, 118, 118, 118, -1, 122, 122, 122, 122, 122, 122, -1, 129, 129, 129, -1, 133, 133, 133, 133, -1, 138, 138, 138]
def cnL : List Nat := [0, 0, 0, 0, 0, 0, 0, 1, 1, 1, 1, 1, 1, 2, 2, 2, 2, 2, 2, 2, 2, 3, 3, 3, 3, 4, 4, 4, 4, 4, 4, 4, 5, 5, 5, 5, 5, 6, 6, 6, 6, 6, 6, 6, 7, 7, 7, 7, 7, 7, 8, 8, 8, 8, 8, 8, 8, 8, 8, 8, 9, 9, 9, 9, 9, 9, 9, 9, 9, 9, 9, 9, 10, 10, 10, 10, 10, 10, 10, 11, 11, 11, 11, 12, 12, 12, 12, 12, 12, 13, 13, 13, 13, 14, 14, 14, 14, 14, 14, 14, 15, 15, 15, 15, 15, 16, 16, 16, 16, 16, 16, 16, 17, 17, 17, 17, 17, 17, 18, 18, 18, 18, 19, 19, 19, 19, 19, 19, 19, 20, 20, 20, 20, 21, 21, 21, 21, 21, 22, 22, 22, 22]
theorem words_ok : FOK wordsB wordsL (fun k => stL.getD k 0) (fun k => cnL.getD k 0) where
  size := by decide +kernel
  s0 := by decide +kernel
  c0 := by decide +kernel
  rng := fun k hk => by
    have : ∀ k, k < 200 → k ≤ wordsB.size → -1 ≤ stL.getD k 0 ∧ stL.getD k 0 ≤ (k : Int) := by decide +kernel
    exact this k (by have : wordsB.size < 200 := by decide +kernel
                     omega) hk
  step := by decide +kernel
  last := by decide +kernel

/-- What the library's table of blanks holds, as far as small letters go. -/
structure SpT (w : World) : Prop where
  sp : w.cell? ⟨0, 32, none⟩ = some (.int .u8 1)
  no : ∀ c : Nat, 97 ≤ c → c ≤ 122 → w.cell? ⟨0, c, none⟩ = some (.int .u8 0)
theorem SpT.lt {w : World} (h : SpT w) : 0 < w.heap.size := World.block_lt_of_cell? _ _ h.sp
theorem SpT.below {n : Nat} {w w' : World} (h : SpT w) (hb : Below n w w') (hn : 0 < n) : SpT w' := by
  have e := fun i => World.cell?_of_block (a := ⟨0, i, none⟩) (hb.block 0 hn)
  exact ⟨(e 32).trans h.sp, fun c h1 h2 => (e c).trans (h.no c h1 h2)⟩

theorem take_cnW {W : List ByteArray} {i : Nat} {x : ByteArray} (h : W[i]? = some x) : W.take (i + 1) = W.take i ++ [x] := by
  rw [List.take_add_one, h]; rfl

set_option maxRecDepth 100000 in
set_option maxHeartbeats 2000000 in
theorem fields1_in (F : Fence) (n : Nat) (hf : F.fn 48) (hro : F.round = none) (hn : 1 ≤ n) (l Bn n₀ : Nat) (B : ByteArray) (L : List ByteArray) (st : Nat → Int) (cn : Nat → Nat) (hB : FOK B L st cn) (J Jx : List ByteArray → World → Prop)
    (hY : ∀ pre x W, J pre W → pre.length < L.length → YieldAt F (n - 1) Tryd.prog l #[.string x] W fun e W' =>
      (e = .returned (.bool true) ∧ J (pre ++ [x]) W' ∧ Below n₀ W W') ∨ (e = .returned (.bool false) ∧ Jx (pre ++ [x]) W'))
    (W : World) (hBn : W.cell? ⟨Bn, 0, none⟩ = some (.string B)) (hlt : Bn < n₀) (hS : SpT W) (hg : 0 < n₀) (h0 : J [] W) :
    CallsIn F n Tryd.prog 48 #[.func (.yield l) #[] #[], .pointer (some ⟨Bn, 0, none⟩)] W fun e W' => (∃ v, e = .returned v) ∧
      ((∃ ys, ys = L ∧ J ys W') ∨ (∃ pre, pre <+: L ∧ Jx pre W')) := by
  obtain ⟨hsz, hs0, hc0, hrng, hstep, hlast⟩ := hB
  refine callsIn_of_wp Tryd.func48 rfl hf ?_ hro
  simp only [Tryd.ntmps48, List.size_toArray, List.length_cons, List.length_nil, Nat.reduceAdd, Nat.reduceSub, Array.replicate_succ, Array.replicate_zero, List.push_toArray, List.append_toArray, List.nil_append, List.cons_append]
  have hszz : (B.size : Int) ≤ 1000 := by omega
  have HL : Hid ((st B.size < 0 ∧ cn B.size = L.length) ∨ (0 ≤ st B.size ∧ L[cn B.size]? = some (B.extract (st B.size).toNat B.size) ∧ L.length = cn B.size + 1)) := hlast
  clear hlast
  gi_wp2
  gi_loopw [3, 4] (fun s i wr => ∃ k : Nat, k ≤ B.size ∧ i = .int .i64 k ∧ s = .int .i64 (st k) ∧ J (L.take (cn k)) wr ∧ Below n₀ W wr) (fun _ i _ => B.size - (intOf i).toNat)
  case atStart => exact ⟨0, Nat.zero_le _, rfl, by rw [hs0], by rw [hc0]; exact h0, Below.refl _ _⟩
  case round =>
    obtain ⟨k, hk, rfl, rfl, hJs, hnx⟩ := hrel
    have hb0 : wr.cell? ⟨Bn, 0, none⟩ = some (.string B) := (hnx.cell (p := ⟨Bn, 0, none⟩) hlt).trans hBn
    have hSr : SpT wr := hS.below hnx hg
    have hrk := hrng k hk
    by_cases hlk : k < B.size
    · have hstk := hstep k hlk
      have hkz : (k : Int) < (B.size : Int) := by omega
      have hsp := hSr.sp
      have hno := hSr.no
      clear hSr hstep hrng
      rcases hstk with ⟨hc, hs1, hcn, hcp⟩ | ⟨h97, h122, hcn, hsn, hsp1⟩
      · rcases (show st k = -1 ∨ 0 ≤ st k by omega) with hneg | hpos
        · have hcn1 := hcn (by omega)
          rw [hneg]
          clear hcn hcp hno
          gi_wp2
          go_roundw
          case rel => exact ⟨k + 1, by omega, by simp, by rw [hs1], by rw [hcn1]; exact hJs, hnx⟩
          case measure => simp [intOf]; omega
        · obtain ⟨hw, hcn1⟩ := hcp hpos
          obtain ⟨p, hp⟩ := Int.eq_ofNat_of_zero_le hpos
          rw [hp] at hw hrk ⊢
          simp only [Int.toNat_natCast] at hw
          have hpk : p ≤ k := by omega
          have hpz : (p : Int) ≤ (k : Int) := by omega
          have hts := take_cnW hw
          have hlen : cn k < L.length := (List.getElem?_eq_some_iff.1 hw).1
          obtain ⟨fn, tmps, assign, body, hy, hR⟩ := hY _ (B.extract p k) wr hJs (by rw [List.length_take]; omega)
          have hpre : L.take (cn k + 1) <+: L := List.take_prefix _ _
          clear hcn hcp hno hY
          gi_wp2
          refine hR.mono ?_
          rintro e W3 (⟨rfl, hJ3, hk3⟩ | ⟨rfl, hJx3⟩)
          · dsimp only
            gi_wp2
            go_roundw
            case rel => exact ⟨k + 1, by omega, by simp, by rw [hs1], by rw [hcn1, hts]; exact hJ3, hnx.trans hk3⟩
            case measure => simp [intOf]; omega
          · dsimp only
            gi_wp2
            refine bodyPost_ret (results_none rfl _ _ _) rfl ?_
            exact ⟨⟨_, rfl⟩, .inr ⟨_, hpre, by rw [hts]; exact hJx3⟩⟩
      · obtain ⟨c, hc⟩ : ∃ c : Nat, (B[k]'hlk).toNat = c := ⟨_, rfl⟩
        rw [hc] at h97 h122
        have hno1 := hno c h97 h122
        have hc128 : (c : Int) < 128 := by omega
        have hc0 : (0 : Int) ≤ (c : Int) := by omega
        clear hno hsp hY
        rcases (show st k = -1 ∨ 0 ≤ st k by omega) with hneg | hpos
        · have hs1 := hsn (by omega)
          rw [hneg]
          gi_wp2
          go_roundw
          case rel => exact ⟨k + 1, by omega, by simp, by rw [hs1], by rw [hcn]; exact hJs, hnx⟩
          case measure => simp [intOf]; omega
        · have hs1 := hsp1 hpos
          obtain ⟨p, hp⟩ := Int.eq_ofNat_of_zero_le hpos
          have hpz : ¬ ((p : Int) < 0) := by omega
          rw [hp] at hs1 ⊢
          gi_wp2
          go_roundw
          case rel => exact ⟨k + 1, by omega, by simp, by rw [hs1], by rw [hcn]; exact hJs, hnx⟩
          case measure => simp [intOf]; omega
    · obtain rfl : k = B.size := by omega
      clear hstep hrng
      rcases HL.out with ⟨hneg, hcn⟩ | ⟨hpos, hw, hlen⟩
      · have hneg1 : st B.size = -1 := by omega
        rw [hcn, List.take_length] at hJs
        rw [hneg1]
        clear hY HL
        gi_wp2
        go_end0
        exact ⟨⟨_, rfl⟩, .inl ⟨_, rfl, hJs⟩⟩
      · obtain ⟨p, hp⟩ := Int.eq_ofNat_of_zero_le hpos
        rw [hp] at hw hrk ⊢
        simp only [Int.toNat_natCast] at hw
        have hpk : p ≤ B.size := by omega
        have hpz : (p : Int) ≤ (B.size : Int) := by omega
        have hts := take_cnW hw
        obtain ⟨fn, tmps, assign, body, hy, hR⟩ := hY _ (B.extract p B.size) wr hJs (by rw [List.length_take]; omega)
        rw [← hlen, List.take_length] at hts
        clear hY HL
        gi_wp2
        refine hR.mono ?_
        rintro e W3 (⟨rfl, hJ3, hk3⟩ | ⟨rfl, hJx3⟩)
        · dsimp only
          gi_wp2
          go_end0
          exact ⟨⟨_, rfl⟩, .inl ⟨_, rfl, by rw [hts]; exact hJ3⟩⟩
        · dsimp only
          gi_wp2
          go_end0
          exact ⟨⟨_, rfl⟩, .inr ⟨_, List.prefix_rfl, by rw [hts]; exact hJx3⟩⟩
end Go.Proofs.YtgjajffpkjcenaaDoor

/-
  SEVERAL TEXTS IN ONE: ManNums, DskMem.
-/
import Derived.Test.YtgkdodcidancpaaGreatDoorMany8
import Derived.Test.YtgkdodcidancpaaGreatDoorChecked
import Derived.Test.YtgkdodcidancpaaGreatDoorMany6
import Derived.Deep.QuietTactic
import Derived.BigQuiet
import Derived.Deep.RegionWith
import Derived.WalkLawsBesides
import Derived.WalkSmall
import Derived.Maps.OwnSet
import Derived.Maps.RangeWalk
import Derived.Maps.Ext
import Derived.Sort.KeysCollected
namespace Go.Proofs.YtgkdodcidancpaaGreatDoor
open Go.RowKit
attribute [local go_sem] Oper.pureAt Oper.pureUpon

theorem owns_form2 {w : World} {base e n : Nat} {v : Value} {xs : List Value} (h : w.ownsRow base e 1 v n xs) : ∃ ao cap, v = .slice ao n cap ∧ n ≤ cap := by
  rcases h.2 with ⟨rfl, rfl⟩ | ⟨g, cap, cur, rfl, _, _, hn, hm, _⟩
  · exact ⟨_, _, rfl, Nat.le_refl _⟩
  · exact ⟨_, _, rfl, hn⟩
set_option maxRecDepth 100000 in
set_option maxHeartbeats 2000000 in
theorem numbersM_any (ao : Option Addr) (l : List UInt8) (cap : Nat) (w : World) (hs : Sees w ao l) (h3 : l.length ≤ cap) (h4 : cap ≤ 9223372036854775807) (h5 : (ao = none ∧ l.length = 0) ∨ ∃ b off, ao = some ⟨b, off, none⟩ ∧ b < w.heap.size) (hl : l.length ≤ 1000000) (u : TypeId) (pv : Value) (he : Err w u pv) :
    Calls Tryz.prog 79 #[.slice ao l.length cap] w fun e w' => ∃ a5 c5, e = .returned (mval a5 c5 (numM l)) ∧ MSees w' a5 c5 (numM l) ∧ c5 ≤ 9223372036854775807 ∧ (∀ a, a5 = some a → w.heap.size ≤ a.block) ∧ Below w.heap.size w w' := by
  obtain ⟨i0, hi, hz0, hz1, hz2⟩ := info_parts infoInt
  have h0 := numStart ao l cap hs h3 h4 h5
  have CT : Hid (∀ x c v ts nx fr, NSt w x c v ts nx fr → c.length ≤ 1000000 → Calls Tryz.prog 107 #[.pointer (some ⟨w.heap.size, 0, none⟩)] x fun e x' => e = .returned (.int .i64 (tkV c : Int)) ∧ NSt w x' (tkR c) v ts nx fr) := fun x c v ts nx fr hx hc => by
    have he' : Err x u pv := by unfold Err at he ⊢; rw [hx.bel.cell (World.block_lt_of_cell? _ _ he)]; exact he
    exact (takeM_any w.heap.size c x hx.tk hc u pv he').mono fun e x' hh => ⟨hh.1, hx.took hh.2.1 hh.2.2⟩
  have hmf : ∀ (fn : Fn) (first cap : Array Value) (w : World), (Instr.makeFunc fn first cap).run Tryz.prog w = .ok (.func fn first cap) w := fun _ _ _ _ => rfl
  have l1 := tkR_len l
  have l2 := tkR_len (tkR l)
  have l3 := tkR_len (tkR (tkR l))
  have HN : Hid (numM l = ⟨tks (min (tkV (tkR (tkR l))) 31) (tkR (tkR (tkR l))), (tkV l : Int), (tkV (tkR l) : Int)⟩) := rfl
  have HLn : Hid (∀ k, (tkRs k (tkR (tkR (tkR l)))).length ≤ 1000000) := fun k => by have := tkRs_len k (tkR (tkR (tkR l))); omega
  have HV : Hid (∀ c, (tkV c : Int) ≤ 1000000000) := fun c => by unfold tkV; omega
  have C0 := CT.out _ _ _ _ _ _ h0 hl
  clear hs h3 h4 h5 he h0
  go_enter Tryz.func79, Tryz.ntmps79
  go_wp2_with fail
  go_fit C0
  rintro e x1 ⟨rfl, hx1⟩
  have y1 := hx1.m.cell 1 rfl
  have z1 := hx1.m.frozen 1
  have h2 := hx1.setM 1 (.int .i64 (tkV l : Int)) _ (tkV l : Int) _ rfl hx1.row
  have C1 := CT.out _ _ _ _ _ _ h2 (by omega)
  clear C0 hx1 h2
  go_wp2_with fail
  go_fit C1
  rintro e x2 ⟨rfl, hx2⟩
  have y2 := hx2.m.cell 2 rfl
  have z2 := hx2.m.frozen 2
  have h3 := hx2.setM 2 (.int .i64 (tkV (tkR l) : Int)) _ _ (tkV (tkR l) : Int) rfl hx2.row
  have C2 := CT.out _ _ _ _ _ _ h3 (by omega)
  clear C1 hx2 h3 y1 z1
  go_wp2_with fail
  go_fit C2
  rintro e x3 ⟨rfl, hx3⟩
  have HX3 : Hid (NSt w x3 (tkR (tkR (tkR l))) (.slice none 0 0) [] (tkV l : Int) (tkV (tkR l) : Int)) := hx3
  clear C2 hx3 y2 z2 l1 l2 l3
  generalize tkR (tkR (tkR l)) = c3 at *
  generalize tkV (tkR (tkR l)) = V at *
  generalize tkV (tkR l) = fr at *
  generalize tkV l = nx at *
  obtain ⟨N, hN⟩ : ∃ N, min V 31 = N := ⟨_, rfl⟩
  rw [hN] at HN
  have hNi : min (V : Int) 31 = (N : Int) := by omega
  have hN31 : N ≤ 31 := by omega
  go_wp2_with fail
  try rw [hNi]
  clear hN hNi
  go_loopw [15] (fun i wr => ∃ (k : Nat) (v : Value), k ≤ N ∧ i = .int .i64 (k : Int) ∧ NSt w wr (tkRs k c3) v (tks k c3) (nx : Int) (fr : Int)) (fun i _ => N - (intOf i).toNat)
  case atStart => exact ⟨0, _, Nat.zero_le _, rfl, HX3.out⟩
  case round =>
    obtain ⟨k, v, hk, rfl, hS⟩ := hrel
    rcases Nat.lt_or_ge k N with hlt | hge
    · have hki : (k : Int) < (N : Int) := by omega
      obtain ⟨va, vc, hv, -⟩ := owns_msees hS.row
      subst hv
      have bB := hS.m.cell 0 rfl
      have CK := CT.out _ _ _ _ _ _ (hS.more ((Below.refl _ _).drew)) (HLn.out k)
      obtain ⟨sn1, sn2⟩ := tks_snoc k c3
      have HS1 : Hid (tks (k + 1) c3 = tks k c3 ++ [(tkV (tkRs k c3) : Int)]) := sn1
      have HS2 : Hid (tkRs (k + 1) c3 = tkR (tkRs k c3)) := sn2
      have hkl := tks_len k c3
      have hxb := HV.out (tkRs k c3)
      clear hS HX3 sn1 sn2
      obtain ⟨tl, htl⟩ : ∃ tl, tks k c3 = tl := ⟨_, rfl⟩
      rw [htl] at CK HS1 hkl bB
      clear htl
      obtain ⟨n, hn⟩ : ∃ n, tl.length = n := ⟨_, rfl⟩
      have HNL : Hid (tl.length = n) := hn
      have HKL : Hid (tl.length = k) := hkl
      rw [hn] at bB
      clear hn hkl
      generalize tkV (tkRs k c3) = x at *
      generalize tkRs k c3 = ck at *
      go_wp2_with fail
      have HP : Hid (∀ u, u.cell? ⟨w.heap.size + 2, 0, none⟩ = some (.slice va n vc) → ∃ p : BxM (w.heap.size + 2) (.slice va n vc), u = p.u) := fun u h => ⟨⟨u, h⟩, rfl⟩
      have q0 : ∀ q : BxM (w.heap.size + 2) (.slice va n vc), q.u.cell? ⟨w.heap.size + 1 + 1, 0, none⟩ = some (.slice va n vc) := fun q => q.h
      haveI : Nonempty (BxM (w.heap.size + 2) (.slice va n vc)) := ⟨⟨wr, bB⟩⟩
      refine wp_region_C (fun u => ∃ p : BxM (w.heap.size + 2) (.slice va n vc), u = p.u) 7 _ (by kernel_rfl) ?reg (fun _ _ h => h)
      refine anyC_pure 0 rfl (by kernel_rfl) (by kernel_rfl) (by kernel_rfl) (HP.out _ bB) (fun K hK => ?_)
      go_simp
      refine hK _ ?_
      clear hK K
      refine anyC_pure 1 rfl (by kernel_rfl) (by kernel_rfl) (by kernel_rfl) (HP.out _ bB) (fun K hK => ?_)
      go_simp
      refine hK _ ?_
      clear hK K
      refine anyC_pure 2 rfl (by kernel_rfl) (by kernel_rfl) (by kernel_rfl) (HP.out _ bB) (fun K hK => ?_)
      go_simp
      refine hK _ ?_
      clear hK K
      refine anyC_loud 3 (by kernel_rfl) ?_
      refine lou_of rfl (fun K hK => ?_)
      go_simp
      refine CK.mono ?_
      rintro e u1 ⟨rfl, hS1⟩
      have c1 := hS1.m.cell 0 rfl
      rw [HNL.out] at c1
      refine hK _ _ ⟨fun _ => HP.out _ c1, ?_⟩
      clear hK K
      refine anyC_loud 4 (by kernel_rfl) ?_
      refine lou_of rfl (fun K hK => ?_)
      go_simp
      have hS2 := hS1.more ((Below.refl _ _).alloc (Nat.le_refl u1.heap.size) (.cells #[.int .i64 (x : Int)] 3))
      have c2 := hS2.m.cell 0 rfl
      rw [HNL.out] at c2
      refine hK _ _ ⟨fun _ => HP.out _ c2, ?_⟩
      clear hK K
      have hkl := HKL.out
      obtain ⟨v', w3, hr3, ho3, hg3⟩ := run_append_grew (P := Tryz.prog) (u1.alloc (.cells #[.int .i64 (x : Int)] 3)) (w.heap.size + 3) 34 34 34 3 i0 (.int .i64 0) 1 8 Tryz.underlying34 hi hz0 hz1 hz2 rfl _ tl.length _ hS2.row _ 1 (vI [(x : Int)]) (src_oneI u1 x) (by unfold maxLen; omega) (by omega) hS2.sz
      rw [HNL.out] at hr3
      have hS3 : NSt w (w3.setCell ⟨w.heap.size + 2, 0, none⟩ v') (tkR ck) v' (tl ++ [(x : Int)]) (nx : Int) (fr : Int) := by
        have hrow : w3.ownsRow (w.heap.size + 3) 3 1 v' (tl ++ [(x : Int)]).length (vI (tl ++ [(x : Int)])) := by
          have e1 : (tl ++ [(x : Int)]).length = tl.length + 1 := by simp
          have e2 : vI (tl ++ [(x : Int)]) = vI tl ++ vI [(x : Int)] := by simp [vI]
          rw [e1, e2]; exact ho3
        have hsz := hS2.sz
        have hbl : ∀ i, i < w.heap.size + 3 → w3.heap[i]? = (u1.alloc (.cells #[.int .i64 (x : Int)] 3)).heap[i]? := fun i hi => hg3.rows.block i (by omega) (fun e => by have := (hS2.row.lt i e.symm).1; omega)
        have hbs : ∀ i, i ≠ w.heap.size + 2 → (w3.setCell ⟨w.heap.size + 2, 0, none⟩ v').heap[i]? = w3.heap[i]? := fun i hi => Below.heap_setCell _ _ _ _ (fun e => hi e)
        have hB3 : Below w.heap.size w w3 := hS2.bel.trans (hg3.below hS2.bel.size (fun g hg => by have := (hS2.row.lt g hg).1; omega))
        refine ⟨hS2.tk.keep fun i hi => (hbs i (by omega)).trans (hbl i (by omega)), hS2.m0.carry ((hbs _ (by omega)).trans (hbl _ (by omega))), (hS2.m.carry (hbl _ (by omega))).setTo 0 v' _ rfl, owns_carryM hrow fun g h1 h2 => hbs g (by omega), hB3.setCell (by show w.heap.size ≤ w.heap.size + 2; omega) _, ?_⟩
        rw [size_setCell]
        have := hg3.rows.size
        omega
      have bx3 : Blk w3 (w.heap.size + 2) [.slice va tl.length vc, .int .i64 (nx : Int), .int .i64 (fr : Int)] 36 := hS2.m.carry (hg3.rows.block _ (by have := hS2.sz; omega) (fun e => by have := (hS2.row.lt _ e.symm).1; omega))
      have HS3 : Hid (NSt w (w3.setCell ⟨w.heap.size + 2, 0, none⟩ v') (tkR ck) v' (tl ++ [(x : Int)]) (nx : Int) (fr : Int)) := hS3
      have z1 := bx3.cell 0 rfl
      have z2 := bx3.frozen 0
      rw [HNL.out] at z1
      refine anyC_loud 5 (by kernel_rfl) ?_
      refine lou_append rfl rfl _ _ _ _ rfl _ _ rfl rfl (by exact hr3) ?_
      refine ⟨fun _ => HP.out _ z1, ?_⟩
      obtain ⟨a5, c5, e5, -⟩ := owns_form2 ho3
      subst e5
      clear hS3 bx3 ho3 hg3 hr3 hS2 hS1 c1 c2 hkl
      refine anyC_pure 6 rfl (by kernel_rfl) (by kernel_rfl) (by kernel_rfl) (HP.out _ z1) (fun K hK => ?_)
      go_simp
      refine hK _ ?_
      clear hK K
      refine anyC_loud 7 (by kernel_rfl) ?_
      refine lou_of rfl (fun K hK => ?_)
      go_simp
      refine hK _ _ ⟨fun h => absurd rfl h, ?_⟩
      clear hK K
      refine anyC_done (by kernel_rfl) ?_
      clear z1 z2 q0 HP
      generalize (w3.setCell ⟨w.heap.size + 2, 0, none⟩ _) = u6 at *
      go_wp2_with fail
      go_roundw
      case rel => exact ⟨k + 1, _, by omega, by go_num, by rw [HS1.out, HS2.out]; exact HS3.out⟩
      case measure => (simp [intOf]; try omega)
    · obtain rfl : N = k := by omega
      obtain ⟨va, vc, hv, -⟩ := owns_msees hS.row
      subst hv
      have hk7 : Blk (((wr.setCell ⟨w.heap.size + 1, 0, none⟩ (.slice va (tks N c3).length vc)).setCell ⟨w.heap.size + 1, 1, none⟩ (.int .i64 (nx : Int))).setCell ⟨w.heap.size + 1, 2, none⟩ (.int .i64 (fr : Int))) (w.heap.size + 1) [.slice va (tks N c3).length vc, .int .i64 (nx : Int), .int .i64 (fr : Int)] 36 := ((hS.m0.setTo 0 _ _ rfl).setTo 1 _ _ rfl).setTo 2 _ _ rfl
      have hr7 : (((wr.setCell ⟨w.heap.size + 1, 0, none⟩ (.slice va (tks N c3).length vc)).setCell ⟨w.heap.size + 1, 1, none⟩ (.int .i64 (nx : Int))).setCell ⟨w.heap.size + 1, 2, none⟩ (.int .i64 (fr : Int))).ownsRow (w.heap.size + 3) 3 1 (.slice va (tks N c3).length vc) (tks N c3).length (vI (tks N c3)) := owns_carryM hS.row fun g h1 h2 => by
        rw [Below.heap_setCell _ _ _ _ (by show g ≠ w.heap.size + 1; omega), Below.heap_setCell _ _ _ _ (by show g ≠ w.heap.size + 1; omega), Below.heap_setCell _ _ _ _ (by show g ≠ w.heap.size + 1; omega)]
      have hB7 : Below w.heap.size w (((wr.setCell ⟨w.heap.size + 1, 0, none⟩ (.slice va (tks N c3).length vc)).setCell ⟨w.heap.size + 1, 1, none⟩ (.int .i64 (nx : Int))).setCell ⟨w.heap.size + 1, 2, none⟩ (.int .i64 (fr : Int))) := ((hS.bel.setCell (by show w.heap.size ≤ w.heap.size + 1; omega) _).setCell (by show w.heap.size ≤ w.heap.size + 1; omega) _).setCell (by show w.heap.size ≤ w.heap.size + 1; omega) _
      obtain ⟨va', vc', hv', hse, hnl, hcp, hcm⟩ := owns_msees hr7
      simp only [Value.slice.injEq] at hv'
      obtain ⟨rfl, -, rfl⟩ := hv'
      have HE : Hid (MSees (((wr.setCell ⟨w.heap.size + 1, 0, none⟩ (.slice va (tks N c3).length vc)).setCell ⟨w.heap.size + 1, 1, none⟩ (.int .i64 (nx : Int))).setCell ⟨w.heap.size + 1, 2, none⟩ (.int .i64 (fr : Int))) va vc (numM l)) := by rw [HN.out]; exact ⟨hse, hnl, hcp⟩
      have HK7 : Hid (Blk (((wr.setCell ⟨w.heap.size + 1, 0, none⟩ (.slice va (tks N c3).length vc)).setCell ⟨w.heap.size + 1, 1, none⟩ (.int .i64 (nx : Int))).setCell ⟨w.heap.size + 1, 2, none⟩ (.int .i64 (fr : Int))) (w.heap.size + 1) [.slice va (tks N c3).length vc, .int .i64 (nx : Int), .int .i64 (fr : Int)] 36) := hk7
      have HB7 : Hid (Below w.heap.size w (((wr.setCell ⟨w.heap.size + 1, 0, none⟩ (.slice va (tks N c3).length vc)).setCell ⟨w.heap.size + 1, 1, none⟩ (.int .i64 (nx : Int))).setCell ⟨w.heap.size + 1, 2, none⟩ (.int .i64 (fr : Int)))) := hB7
      have HA : Hid (∀ a, va = some a → w.heap.size ≤ a.block) := fun a ha => by subst ha; have := (hr7.lt a.block rfl).1; omega
      have HM : Hid (mval va vc (numM l) = .agg #[.slice va (tks N c3).length vc, .int .i64 (nx : Int), .int .i64 (fr : Int)]) := by rw [HN.out]; exact rfl
      have m0 := hS.m.cell 0 rfl
      have m1 := hS.m.cell 1 rfl
      have m2 := hS.m.cell 2 rfl
      have f0 := hS.m0.frozen 0
      have f1 := hS.m0.frozen 1
      have f2 := hS.m0.frozen 2
      have n0 := hS.m0.cell 0 rfl
      have n1 := hS.m0.cell 1 rfl
      have n2 := hS.m0.cell 2 rfl
      clear hS hse hnl hcp hk7 hB7 hr7
      obtain ⟨tn, htn⟩ : ∃ tn, (tks N c3).length = tn := ⟨_, rfl⟩
      rw [htn] at HK7 HB7 HM HE m0
      clear htn
      go_wp2_with fail
      refine bodyPost_ret (v := .agg #[.slice va tn vc, .int .i64 (nx : Int), .int .i64 (fr : Int)]) (results_cell_row Tryz.results79 _ _ (w.heap.size + 1) 36 _ _ _ rfl HK7.out Tryz.underlying36 rfl (by kernel_rfl)) rfl ?_
      exact ⟨va, vc, by rw [HM.out], HE.out, hcm, HA.out, HB7.out⟩
end Go.Proofs.YtgkdodcidancpaaGreatDoor
namespace Go.Proofs.YtgkdodcidancpaaGreatDoor
open Go.RowKit Go.Maps

/-- How a pointer to a whole block reads. -/
def ptrElem : Value → Option (DataW Unit × List MemPlace)
  | .pointer (some ⟨b, 0, none⟩) => some (.lit (.int .i64 b), [])
  | _ => none
theorem ptrElem_mk (b : Nat) : ptrElem (.pointer (some ⟨b, 0, none⟩)) = some (.lit (.int .i64 b), []) := rfl
def mkPtr (b : Nat) : Value := .pointer (some ⟨b, 0, none⟩)
theorem ptrElem_inv {v : Value} {y : DataW Unit × List MemPlace} (h : ptrElem v = some y) : ∃ b : Nat, v = mkPtr b ∧ y.1 = .lit (.int .i64 b) := by
  unfold ptrElem at h
  split at h
  · cases h; exact ⟨_, rfl, rfl⟩
  · cases h

/-- Numbers, as cells. -/
def I64D (l : List Nat) : List Value := l.map fun (n : Nat) => Value.int .i64 (n : Int)
theorem I64_length (l : List Nat) : (I64D l).length = l.length := List.length_map _

/-- A file: its name, its block, its two slices, its bytes, how many of them are written, its places in the line. -/
structure Ent where
  nm : List UInt8
  b : Nat
  v1 : Value
  v2 : Value
  bs : List UInt8
  wr : Nat
  pl : List Nat
def Ent.foot (e : Ent) : List Nat := e.b :: (e.v1.ownBlock.toList ++ e.v2.ownBlock.toList)
/-- The file lies in memory. -/
structure EntAt (w : World) (e : Ent) : Prop where
  head : Blk w e.b [e.v1, .int .i64 (e.wr : Int), e.v2] 97
  row1 : w.ownsRow 0 5 1 e.v1 e.bs.length (B8 e.bs)
  row2 : w.ownsRow 0 3 1 e.v2 e.pl.length (I64D e.pl)
  apart : e.foot.Nodup
theorem owns_carry {w w' : World} {base : Nat} {e : TypeId} {size : Nat} {v : Value} {n : Nat} {xs : List Value} (h : w.ownsRow base e size v n xs) (hk : ∀ g, v.ownBlock = some g → w'.heap[g]? = w.heap[g]?) : w'.ownsRow base e size v n xs := by
  refine ⟨h.1, ?_⟩
  rcases h.2 with hn | ⟨g, cap, cur, rfl, hb, hgg, rest⟩
  · exact .inl hn
  · exact .inr ⟨g, cap, cur, rfl, hb, (hk g rfl).trans hgg, rest⟩
theorem EntAt.carry {w w' : World} {e : Ent} (h : EntAt w e) (hk : ∀ i ∈ e.foot, w'.heap[i]? = w.heap[i]?) : EntAt w' e :=
  ⟨h.head.carry (hk _ (by simp [Ent.foot])), owns_carry h.row1 fun g hg => hk g (by simp [Ent.foot, hg]), owns_carry h.row2 fun g hg => hk g (by simp [Ent.foot, hg]), h.apart⟩
theorem EntAt.lt {w : World} {e : Ent} (h : EntAt w e) : ∀ i ∈ e.foot, i < w.heap.size := by
  intro i hi
  simp only [Ent.foot, List.mem_cons, List.mem_append, Option.mem_toList] at hi
  rcases hi with rfl | hi | hi
  · exact h.head.lt
  · exact (h.row1.lt i hi).2
  · exact (h.row2.lt i hi).2

/-- A disk: its files by names, its room, is it on, its operations, the next place, what is planned. -/
structure St where
  fs : List Ent
  room : Nat
  on : Bool
  ops : Nat
  next : Nat
  left : Nat
  keep : Int
def encE (e : Ent) : Lit × DataW Unit := (.string e.nm, .lit (.int .i64 (e.b : Int)))
def datum (fs : List Ent) : DataW Unit := .map (fs.map encE)
def feet (fs : List Ent) : List Nat := fs.flatMap Ent.foot
def foot (d bm : Nat) (fs : List Ent) : List Nat := d :: bm :: feet fs
def headOf (bm : Nat) (S : St) : List Value := [.map (some bm), .int .i64 (S.room : Int), .bool S.on, .int .i64 (S.ops : Int), .int .i64 (S.next : Int), .int .i64 (S.left : Int), .int .i64 S.keep]
/-- The disk lies in memory. -/
structure DiskAt (w : World) (d bm : Nat) (S : St) : Prop where
  head : Blk w d (headOf bm S) 57
  map : w.ownsMap Tryz.prog 9 ptrElem bm S.fs.length (datum S.fs)
  ents : ∀ e ∈ S.fs, EntAt w e
  apart : (foot d bm S.fs).Nodup

theorem DiskAt.lt {w : World} {d bm : Nat} {S : St} (h : DiskAt w d bm S) : ∀ i ∈ foot d bm S.fs, i < w.heap.size := by
  intro i hi
  simp only [foot, feet, List.mem_cons, List.mem_flatMap] at hi
  rcases hi with rfl | rfl | ⟨e, he, hi⟩
  · exact h.head.lt
  · exact h.map.lt
  · exact (h.ents e he).lt i hi
theorem map_carry {w w' : World} {P : Program} {k : TypeId} {R : Value → Option (DataW Unit × List MemPlace)} {b n : Nat} {D : DataW Unit} (h : w.ownsMap P k R b n D) (e : w'.heap[b]? = w.heap[b]?) : w'.ownsMap P k R b n D := by
  obtain ⟨es, clock, hb, r⟩ := h
  exact ⟨es, clock, e.trans hb, r⟩
theorem map_tight {w : World} {P : Program} {k : TypeId} {R : Value → Option (DataW Unit × List MemPlace)} {b n : Nat} {D : DataW Unit} (h : w.ownsMap P k R b n D) : w.ownsMap P k R b (Maps.size D) D := by
  obtain ⟨es, clock, hb, F, _, rfl⟩ := h
  exact ⟨es, clock, hb, F, by simp [Maps.size, length_sorted], rfl⟩
theorem DiskAt.carry {w w' : World} {d bm : Nat} {S : St} (h : DiskAt w d bm S) (hk : ∀ i ∈ foot d bm S.fs, w'.heap[i]? = w.heap[i]?) : DiskAt w' d bm S :=
  ⟨h.head.carry (hk _ (by simp [foot])), map_carry h.map (hk _ (by simp [foot])), fun e he => (h.ents e he).carry fun i hi => hk i (by simp only [foot, feet, List.mem_cons, List.mem_flatMap]; exact .inr (.inr ⟨e, he, hi⟩)), h.apart⟩
/-- Something else has turned. -/
theorem DiskAt.moved {w w' : World} {d bm : Nat} {S : St} {a b : List Nat} (h : DiskAt w d bm S) (hm : Moved w w' a b) (hd : ∀ i ∈ foot d bm S.fs, i ∉ a) : DiskAt w' d bm S :=
  h.carry fun i hi => hm.kept i (h.lt i hi) (hd i hi)
theorem DiskAt.alloc {w : World} {d bm : Nat} {S : St} (h : DiskAt w d bm S) (o : Obj) : DiskAt (w.alloc o) d bm S := h.carry fun i hi => Below.heap_alloc _ _ _ (h.lt i hi)
theorem DiskAt.drewN {w : World} {d bm : Nat} {S : St} (h : DiskAt w d bm S) (k : Nat) : DiskAt (w.drewN k) d bm S := h.carry fun _ _ => rfl
theorem DiskAt.drew {w : World} {d bm : Nat} {S : St} (h : DiskAt w d bm S) : DiskAt w.drew d bm S := h.carry fun _ _ => rfl

/-! ### the head's cells -/
section
variable {w : World} {d bm : Nat} {S : St}
theorem DiskAt.c0 (h : DiskAt w d bm S) : w.cell? ⟨d, 0, none⟩ = some (.map (some bm)) := h.head.cell 0 rfl
theorem DiskAt.c1 (h : DiskAt w d bm S) : w.cell? ⟨d, 1, none⟩ = some (.int .i64 (S.room : Int)) := h.head.cell 1 rfl
theorem DiskAt.c2 (h : DiskAt w d bm S) : w.cell? ⟨d, 2, none⟩ = some (.bool S.on) := h.head.cell 2 rfl
theorem DiskAt.c3 (h : DiskAt w d bm S) : w.cell? ⟨d, 3, none⟩ = some (.int .i64 (S.ops : Int)) := h.head.cell 3 rfl
theorem DiskAt.c4 (h : DiskAt w d bm S) : w.cell? ⟨d, 4, none⟩ = some (.int .i64 (S.next : Int)) := h.head.cell 4 rfl
theorem DiskAt.c5 (h : DiskAt w d bm S) : w.cell? ⟨d, 5, none⟩ = some (.int .i64 (S.left : Int)) := h.head.cell 5 rfl
theorem DiskAt.c6 (h : DiskAt w d bm S) : w.cell? ⟨d, 6, none⟩ = some (.int .i64 S.keep) := h.head.cell 6 rfl
theorem nodup_d (h : (foot d bm S.fs).Nodup) : d ≠ bm ∧ d ∉ feet S.fs ∧ bm ∉ feet S.fs ∧ (feet S.fs).Nodup := by
  simp only [foot, List.nodup_cons, List.mem_cons, not_or] at h
  exact ⟨h.1.1, h.1.2, h.2.1, h.2.2⟩
/-- A store into the head. -/
theorem DiskAt.put (h : DiskAt w d bm S) {S' : St} (hf : S'.fs = S.fs) (i : Nat) (v : Value) (e : (headOf bm S).set i v = headOf bm S') : DiskAt (w.setCell ⟨d, i, none⟩ v) d bm S' := by
  have hn := nodup_d h.apart
  have hb : ∀ j, j ≠ d → (w.setCell ⟨d, i, none⟩ v).heap[j]? = w.heap[j]? := fun j hj => Below.heap_setCell _ _ _ _ hj
  refine ⟨h.head.setTo i v _ e, ?_, ?_, by rw [hf]; exact h.apart⟩
  · rw [hf]
    exact map_carry h.map (hb _ (fun e => hn.1 e.symm))
  · rw [hf]
    intro x hx
    exact (h.ents x hx).carry fun j hj => hb j fun e => hn.2.1 (List.mem_flatMap.2 ⟨x, hx, e ▸ hj⟩)
end

/-! ### one file among the others -/
/-- The file e becomes e': same name and block. -/
def swap (fs : List Ent) (e e' : Ent) : List Ent := fs.map fun x => if x.b = e.b then e' else x
theorem b_mem {e : Ent} : e.b ∈ e.foot := by simp [Ent.foot]
theorem swap_datum {fs : List Ent} {e e' : Ent} (hn : ∀ x ∈ fs, x.b = e.b → x.nm = e'.nm) (hb : e'.b = e.b) : datum (swap fs e e') = datum fs := by
  unfold datum swap
  rw [List.map_map]
  congr 1
  apply List.map_congr_left
  intro x hx
  simp only [Function.comp]
  split
  · rename_i h
    simp [encE, hb, h, hn x hx h]
  · rfl
theorem mem_swap {fs : List Ent} {e e' : Ent} {x : Ent} : x ∈ swap fs e e' → x = e' ∨ (x ∈ fs ∧ x.b ≠ e.b) := by
  intro h
  obtain ⟨y, hy, he⟩ := List.mem_map.1 h
  split at he
  · exact .inl he.symm
  · exact .inr ⟨he ▸ hy, he ▸ (by assumption)⟩
theorem length_swap (fs : List Ent) (e e' : Ent) : (swap fs e e').length = fs.length := List.length_map _
theorem feet_mem {fs : List Ent} {i : Nat} : i ∈ feet fs ↔ ∃ e ∈ fs, i ∈ e.foot := List.mem_flatMap
theorem feet_same {fs : List Ent} (hn : (feet fs).Nodup) {x y : Ent} (hx : x ∈ fs) (hy : y ∈ fs) {i : Nat} (h1 : i ∈ x.foot) (h2 : i ∈ y.foot) : x = y := by
  induction fs with
  | nil => cases hx
  | cons z r ih =>
    simp only [feet, List.flatMap_cons, List.nodup_append] at hn
    have hd : ∀ u ∈ r, i ∈ z.foot → i ∈ u.foot → False := fun u hu h1 h2 => hn.2.2 i h1 i (List.mem_flatMap.2 ⟨u, hu, h2⟩) rfl
    simp only [List.mem_cons] at hx hy
    rcases hx with rfl | hx <;> rcases hy with rfl | hy
    · rfl
    · exact (hd y hy h1 h2).elim
    · exact (hd x hx h2 h1).elim
    · exact ih hn.2.1 hx hy
theorem swap_other {fs : List Ent} {e e' : Ent} (h : ∀ y ∈ fs, y.b ≠ e.b) : swap fs e e' = fs := by
  unfold swap
  conv => rhs; rw [← List.map_id fs]
  apply List.map_congr_left
  intro y hy
  simp [h y hy]
theorem swap_nodup {fs : List Ent} {e e' : Ent} (hn : (feet fs).Nodup) (he : e ∈ fs) (hb : e'.b = e.b) (hd : e'.foot.Nodup) (hnew : ∀ i ∈ e'.foot, i ∈ e.foot ∨ i ∉ feet fs) : (feet (swap fs e e')).Nodup := by
  induction fs with
  | nil => cases he
  | cons z r ih =>
    have hn0 := hn
    simp only [feet, List.flatMap_cons, List.nodup_append] at hn
    by_cases hz : z.b = e.b
    · have hze : z = e := feet_same hn0 (by simp) he (i := e.b) (hz ▸ b_mem) b_mem
      subst hze
      have hr : swap r z e' = r := swap_other fun y hy e => hn.2.2 z.b b_mem y.b (List.mem_flatMap.2 ⟨y, hy, b_mem⟩) e.symm
      have h1 : swap (z :: r) z e' = e' :: swap r z e' := by simp [swap]
      rw [h1, hr]
      show (feet (e' :: r)).Nodup
      simp only [feet, List.flatMap_cons, List.nodup_append]
      refine ⟨hd, hn.2.1, fun i hi j hj hij => ?_⟩
      subst hij
      rcases hnew i hi with h2 | h2
      · exact hn.2.2 i h2 i hj rfl
      · exact h2 (by simp only [feet, List.flatMap_cons, List.mem_append]; exact .inr hj)
    · have hme : e ∈ r := by
        rcases List.mem_cons.1 he with rfl | h
        · exact absurd rfl hz
        · exact h
      have h1 : swap (z :: r) e e' = z :: swap r e e' := by simp [swap, hz]
      rw [h1]
      simp only [feet, List.flatMap_cons, List.nodup_append]
      have ih' := ih hn.2.1 hme (fun i hi => (hnew i hi).imp id fun h hh => h (by simp only [feet, List.flatMap_cons, List.mem_append]; exact .inr hh))
      refine ⟨hn.1, ih', fun i hi j hj hij => ?_⟩
      subst hij
      obtain ⟨x, hx, hix⟩ := List.mem_flatMap.1 hj
      rcases mem_swap hx with rfl | ⟨hx, _⟩
      · rcases hnew i hix with h2 | h2
        · exact hn.2.2 i hi i (List.mem_flatMap.2 ⟨e, hme, h2⟩) rfl
        · exact h2 (by simp only [feet, List.flatMap_cons, List.mem_append]; exact .inl hi)
      · exact hn.2.2 i hi i (List.mem_flatMap.2 ⟨x, hx, hix⟩) rfl
theorem feet_swap {fs : List Ent} {e e' : Ent} {i : Nat} (h : i ∈ feet (swap fs e e')) : i ∈ feet fs ∨ i ∈ e'.foot := by
  obtain ⟨x, hx, hi⟩ := feet_mem.1 h
  rcases mem_swap hx with rfl | ⟨hx, _⟩
  · exact .inr hi
  · exact .inl (feet_mem.2 ⟨x, hx, hi⟩)

/-- One file has turned, in memory and in the disk. -/
theorem DiskAt.turn {w w' : World} {d bm : Nat} {S : St} (h : DiskAt w d bm S) {e e' : Ent} (he : e ∈ S.fs) (hm : Moved w w' e.foot e'.foot) (hE : EntAt w' e') (hb : e'.b = e.b) (hnm : e'.nm = e.nm) :
    DiskAt w' d bm { S with fs := swap S.fs e e' } ∧ Moved w w' (foot d bm S.fs) (foot d bm (swap S.fs e e')) := by
  have hn := nodup_d h.apart
  have hself : ∀ x ∈ S.fs, x.b = e.b → x = e := fun x hx hxb => feet_same hn.2.2.2 hx he (i := e.b) (hxb ▸ b_mem) b_mem
  have hkeep : ∀ i, i < w.heap.size → i ∉ e.foot → w'.heap[i]? = w.heap[i]? := hm.kept
  have hfd : d ∉ e.foot := fun hi => hn.2.1 (feet_mem.2 ⟨e, he, hi⟩)
  have hfb : bm ∉ e.foot := fun hi => hn.2.2.1 (feet_mem.2 ⟨e, he, hi⟩)
  have hlt := h.lt
  have hltf : ∀ i ∈ feet S.fs, i < w.heap.size := fun i hi => hlt i (by simp [foot, hi])
  refine ⟨⟨h.head.carry (hkeep d h.head.lt hfd), ?_, ?_, ?_⟩, ?_⟩
  · show w'.ownsMap _ _ _ _ (swap S.fs e e').length (datum (swap S.fs e e'))
    rw [swap_datum (fun x hx hxb => by rw [hself x hx hxb, hnm]) hb, length_swap]
    exact map_carry h.map (hkeep bm h.map.lt hfb)
  · intro x hx
    rcases mem_swap hx with rfl | ⟨hx, hxb⟩
    · exact hE
    · refine (h.ents x hx).carry fun i hi => hkeep i ((h.ents x hx).lt i hi) fun hie => hxb ?_
      rw [feet_same hn.2.2.2 hx he hi hie]
  · have hne : ∀ i ∈ e'.foot, i ∈ e.foot ∨ i ∉ foot d bm S.fs := fun i hi => (hm.news i hi).imp id fun h1 h2 => by have := hlt i h2; omega
    have hnd := swap_nodup hn.2.2.2 he hb hE.apart (fun i hi => (hne i hi).imp id fun h1 h2 => h1 (by simp [foot, h2]))
    simp only [foot, List.nodup_cons, List.mem_cons, not_or]
    refine ⟨⟨hn.1, fun hi => ?_⟩, fun hi => ?_, hnd⟩
    · rcases feet_swap hi with h1 | h1
      · exact hn.2.1 h1
      · rcases hne d h1 with h2 | h2
        · exact hfd h2
        · exact h2 (by simp [foot])
    · rcases feet_swap hi with h1 | h1
      · exact hn.2.2.1 h1
      · rcases hne bm h1 with h2 | h2
        · exact hfb h2
        · exact h2 (by simp [foot])
  · refine hm.wider (fun i hi => .inl (by simp only [foot, List.mem_cons]; exact .inr (.inr (feet_mem.2 ⟨e, he, hi⟩)))) (fun i hi => ?_)
    simp only [foot, List.mem_cons] at hi ⊢
    rcases hi with h1 | h1 | h1
    · exact .inl (.inl h1)
    · exact .inl (.inr (.inl h1))
    · rcases feet_swap h1 with h2 | h2
      · exact .inl (.inr (.inr h2))
      · exact .inr (.inl h2)
end Go.Proofs.YtgkdodcidancpaaGreatDoor

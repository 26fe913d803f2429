/-
  SEVERAL TEXTS IN ONE: ManPair, ManRefN, ManPairR, ManDoor.
-/
import Derived.Test.YtgkdodcidancpaaGreatDoorMany33
import Derived.Test.YtgkdodcidancpaaGreatDoorMany29
import Derived.Test.YtgkdodcidancpaaGreatDoorManRefR
import Derived.Test.YtgkdodcidancpaaGreatDoorMany15
import Derived.Test.YtgkdodcidancpaaGreatDoorMany30
import Derived.Test.YtgkdodcidancpaaGreatDoorCards
import Derived.Test.YtgkdodcidancpaaGreatDoorTie
import Derived.ProofKit
import Derived.OpenShut
import Derived.ShutString
import Derived.ChangeOld
import Derived.Deep.DeepHandedRow
import Derived.Deep.DeepWitnessRowRef
import Derived.Lib.LaidTab
import Derived.LaidHandle
import Derived.Stop.LaidErr
import Derived.SizedLaws
import Derived.Lay
namespace Go.Proofs.YtgkdodcidancpaaGreatDoor
open Go.RowKit

/-- One call, and another behind it where it is well. -/
def chain {α : Type} (q : Int × α) (f : α → Int × α) : Int × α := if q.1 = 0 then f q.2 else q
theorem chain_ok {α : Type} {q : Int × α} {f : α → Int × α} (h : q.1 = 0) : chain q f = f q.2 := by unfold chain; rw [if_pos h]
theorem chain_no {α : Type} {q : Int × α} {f : α → Int × α} (h : q.1 ≠ 0) : chain q f = q := by unfold chain; rw [if_neg h]
def fillX (A : Ab) (l : List UInt8) : Int × Ab := chain (createX A nmN) fun A1 => chain (appendX A1 nmN l) fun A2 => syncX A2 nmN
def fillQ (Q : RA) (l : List UInt8) : Int × RA := chain (createQ Q nmN) fun Q1 => chain (appendQ Q1 nmN l) fun Q2 => syncQ Q2 nmN
def storeX (A : Ab) (m : Mf) : Int × Ab := if A.on then (if goodM m then chain (fillX A (encM m)) fun A3 => renameX A3 nmN nmM else (2, A)) else (9, A)
def storeQ (Q : RA) (m : Mf) : Int × RA := if Q.off then (9, Q) else if goodM m then chain (fillQ Q (encM m)) fun Q3 => renameQ Q3 nmN nmM else (2, Q)
/-- Both disks, alike, and small. -/
structure Pr (A : Ab) (Q : RA) (n : Nat) : Prop where
  tie : Tie A Q
  sml : Sml A n
  le : n ≤ 251
  fail : Q.fail ≤ 9223372036854775807
theorem Pr.fine {A : Ab} {Q : RA} {n : Nat} (h : Pr A Q n) : A.Fine := sml_fine h.tie h.sml h.le
theorem Pr.fit {A : Ab} {Q : RA} {n : Nat} (h : Pr A Q n) : Q.Fit := sml_fit h.tie h.sml h.le h.fail
theorem Pr.ops {A : Ab} {Q : RA} {n : Nat} (h : Pr A Q n) : A.ops ≤ 4611686018427387904 := by have := h.sml.ops; have := h.le; omega
theorem Pr.next {A : Ab} {Q : RA} {n : Nat} (h : Pr A Q n) : A.next ≤ 4611686018427387904 := by have := h.sml.next; have := h.le; omega
theorem Pr.mono {A : Ab} {Q : RA} {n m : Nat} (h : Pr A Q n) (hm : n ≤ m) (hm2 : m ≤ 251) : Pr A Q m := ⟨h.tie, h.sml.mono hm, hm2, h.fail⟩
def PB (q : Int × Ab) (r : Int × RA) (n : Nat) : Prop := q.1 = r.1 ∧ Pr q.2 r.2 n
theorem PB.mono {q : Int × Ab} {r : Int × RA} {n m : Nat} (h : PB q r n) (hm : n ≤ m) (hm2 : m ≤ 251) : PB q r m := ⟨h.1, h.2.mono hm hm2⟩
theorem Pr.create {A : Ab} {Q : RA} {n : Nat} (h : Pr A Q n) (s : ByteArray) (hn : n + 1 ≤ 251) : PB (createX A s) (createQ Q s) (n + 1) := by
  obtain ⟨h1, h2⟩ := both_create h.tie s
  exact ⟨h1, h2, h.sml.create (Nat.le_refl _) s, hn, Nat.le_trans (fail_create Q s) h.fail⟩
theorem Pr.sync {A : Ab} {Q : RA} {n : Nat} (h : Pr A Q n) (s : ByteArray) (hn : n + 1 ≤ 251) : PB (syncX A s) (syncQ Q s) (n + 1) := by
  obtain ⟨h1, h2⟩ := both_sync h.tie s
  exact ⟨h1, h2, h.sml.sync (Nat.le_refl _) s, hn, Nat.le_trans (fail_sync Q s) h.fail⟩
theorem Pr.rename {A : Ab} {Q : RA} {n : Nat} (h : Pr A Q n) (s u : ByteArray) (hn : n + 1 ≤ 251) : PB (renameX A s u) (renameQ Q s u) (n + 1) := by
  obtain ⟨h1, h2⟩ := both_rename h.tie s u
  exact ⟨h1, h2, h.sml.rename (Nat.le_refl _) s u, hn, Nat.le_trans (fail_rename Q s u) h.fail⟩
theorem Pr.append {A : Ab} {Q : RA} {n : Nat} (h : Pr A Q n) (s : ByteArray) {l : List UInt8} (hl : l.length ≤ 360) (hn : n + 9 ≤ 251) : PB (appendX A s l) (appendQ Q s l) (n + 9) := by
  obtain ⟨h1, h2⟩ := both_append h.tie s l
  exact ⟨h1, h2, h.sml.append h.tie (by omega) hn s (by omega), hn, Nat.le_trans (fail_append Q s l) h.fail⟩
theorem chain_pair {q : Int × Ab} {r : Int × RA} {f : Ab → Int × Ab} {g : RA → Int × RA} {n m : Nat} (h : PB q r n) (hm : n ≤ m) (hm2 : m ≤ 251) (hf : Pr q.2 r.2 n → PB (f q.2) (g r.2) m) : PB (chain q f) (chain r g) m := by
  by_cases hc : q.1 = 0
  · rw [chain_ok hc, chain_ok (h.1 ▸ hc)]
    exact hf h.2
  · rw [chain_no hc, chain_no (fun e => hc (h.1.trans e))]
    exact h.mono hm hm2
theorem enc_le {m : Mf} (h : goodM m = true) : (encM m).length ≤ 338 := by have := good_len h; rw [encM_len]; omega
theorem Pr.fill {A : Ab} {Q : RA} {n : Nat} (h : Pr A Q n) {l : List UInt8} (hl : l.length ≤ 360) (hn : n + 11 ≤ 251) : PB (fillX A l) (fillQ Q l) (n + 11) :=
  chain_pair (h.create nmN (by omega)) (by omega) (by omega) fun h1 => chain_pair (h1.append nmN hl (by omega)) (by omega) (by omega) fun h2 => (h2.sync nmN (by omega)).mono (by omega) (by omega)
theorem Pr.store {A : Ab} {Q : RA} {n : Nat} (h : Pr A Q n) (m : Mf) (hn : n + 12 ≤ 251) : PB (storeX A m) (storeQ Q m) (n + 12) := by
  unfold storeX storeQ
  have ho := h.tie.off
  cases hon : A.on
  · rw [hon] at ho
    rw [ho]
    exact ⟨rfl, h.mono (by omega) hn⟩
  · rw [hon] at ho
    rw [ho]
    cases hg : goodM m
    · exact ⟨rfl, h.mono (by omega) hn⟩
    · exact chain_pair (f := fun A3 => renameX A3 nmN nmM) (g := fun Q3 => renameQ Q3 nmN nmM) (h.fill (l := encM m) (by have := enc_le hg; omega) (by omega)) (by omega) hn fun h3 => h3.rename nmN nmM (by omega)
/-- What a call leaves, as the step of a Store wants it. -/
theorem out_upon {F : Nat} {args : Array Value} {d : Nat} {f : List Nat} {u : World} {q : Int × Ab} {T : Ab → Prop} {G : Int → Ab → Prop} (h : Calls Tryz.prog F args u (Out d f u q)) (h0 : q.1 = 0 → T q.2) (h1 : q.1 ≠ 0 → G q.1 q.2) : Calls Tryz.prog F args u (Upon (Res T d u f) (fun x => Res (G x) d u f)) := by
  refine h.mono ?_
  rintro x w' ⟨rfl, f', hA, hM⟩
  by_cases hc : q.1 = 0
  · exact ⟨q.1, rfl, .inl ⟨hc, q.2, f', h0 hc, hA, hM⟩⟩
  · exact ⟨q.1, rfl, .inr ⟨hc, q.2, f', h1 hc, hA, hM⟩⟩
/-- The program's Append, where all is small. -/
theorem prog_append {A : Ab} {Q : RA} {n d : Nat} {ft : List Nat} {w : World} (h : Pr A Q n) (hA : At d A ft w) (s : ByteArray) (hs : s.size ≤ maxLen) (ao : Option Addr) {l : List UInt8} (c : Nat) (hb : Sees w ao l) (hne : ∀ a, ao = some a → 0 < l.length → a.block ∉ ft) (hl : l.length ≤ 360) (hn : n + 9 ≤ 251) :
    Calls Tryz.prog 29 #[.pointer (some ⟨d, 0, none⟩), .string s, .slice ao l.length c] w (Out d ft w (appendX A s l)) :=
  any_append hA s hs ao l c hb hne h.fine h.ops h.sml.left h.sml.keep h.next (fun t ht => by have := h.sml.len t ht; have := h.le; omega) (fun t ht _ => apl_fine (sml_fine (h.tie.append ht l) (Sml.app h.tie h.sml (m := n + 9) (by omega) hn (by omega) ht) hn))
/-- The document's. -/
theorem ref_append {A : Ab} {Q : RA} {n r : Nat} {fr : List Nat} {w : World} (h : Pr A Q n) (hR : RAt r Q fr w) (s : ByteArray) (hs : s.size ≤ maxLen) (ao : Option Addr) {l : List UInt8} (c : Nat) (hb : Sees w ao l) (hz : ao = none → l.length = 0) (hne : ∀ a, ao = some a → 0 < l.length → a.block ∉ fr) (hl : l.length ≤ 360) (hn : n + 9 ≤ 251) :
    Calls Tryz.prog 69 #[.pointer (some ⟨r, 0, none⟩), .string s, .slice ao l.length c] w (ROut r fr w (appendQ Q s l)) := by
  refine ra_Append hR h.fit s hs ao l c hb hz hne (by omega) (fun t ht _ => ?_)
  cases hA : findT A.sp (nameOf s) with
  | none => rw [h.tie.find_none hA] at ht; cases ht
  | some t' =>
    rw [h.tie.find_some hA] at ht
    cases ht
    exact sml_fit (h.tie.append hA l) (Sml.app h.tie h.sml (m := n + 9) (by omega) hn (by omega) hA) hn (Nat.le_trans (turn_fail Q) h.fail)
theorem pair_eq {α : Type} {q : Int × α} (h : q.1 = 0) : q = (0, q.2) := by rw [← h]
/-- The program's Store, on a disk of any plan. -/
theorem prog_store {A : Ab} {Q : RA} {n d : Nat} {ft : List Nat} {w : World} (h : Pr A Q n) (hA : At d A ft w) (ao : Option Addr) (cap : Nat) (m : Mf) (hm : MSees w ao cap m) (hl : m.ts.length ≤ 1000000) (hcp : cap ≤ 9223372036854775807) (ht : Tab w) (hn : n + 12 ≤ 251) :
    Calls Tryz.prog 9 #[.pointer (some ⟨d, 0, none⟩), mval ao cap m] w (Out d ft w (storeX A m)) := by
  cases hon : A.on
  · have e : storeX A m = (9, A) := by unfold storeX; rw [hon]; rfl
    rw [e]
    exact (storeM_off hA hon ao cap m).mono fun x w' hh => ⟨hh.1, ft, hA.moved (moved_belowM (ft := []) hh.2) (by simp), moved_belowM hh.2⟩
  cases hg : goodM m
  · have e : storeX A m = (2, A) := by unfold storeX; rw [hon, hg]; rfl
    rw [e]
    exact (storeM_bad hA hon ao cap m hm hl hcp hg).mono fun x w' hh => ⟨hh.1, ft, hA.moved (moved_belowM (ft := []) hh.2) (by simp), moved_belowM hh.2⟩
  have hE : (encM m).length ≤ 360 := by have := enc_le hg; omega
  have e : storeX A m = chain (fillX A (encM m)) fun A3 => renameX A3 nmN nmM := by unfold storeX; rw [hon, hg]; rfl
  have P1 := h.create nmN (by omega)
  have P2 := P1.2.append nmN hE (by omega)
  have P3 := P2.2.sync nmN (by omega)
  have f1 : (createX A nmN).1 ≠ 0 → storeX A m = createX A nmN := fun h1 => by rw [e]; unfold fillX; rw [chain_no h1, chain_no h1]
  have f2 : (createX A nmN).1 = 0 → (appendX (createX A nmN).2 nmN (encM m)).1 ≠ 0 → storeX A m = appendX (createX A nmN).2 nmN (encM m) := fun h1 h2 => by rw [e]; unfold fillX; rw [chain_ok h1, chain_no h2, chain_no h2]
  have f3 : (createX A nmN).1 = 0 → (appendX (createX A nmN).2 nmN (encM m)).1 = 0 → (syncX (appendX (createX A nmN).2 nmN (encM m)).2 nmN).1 ≠ 0 → storeX A m = syncX (appendX (createX A nmN).2 nmN (encM m)).2 nmN := fun h1 h2 h3 => by rw [e]; unfold fillX; rw [chain_ok h1, chain_ok h2, chain_no h3]
  have f4 : (createX A nmN).1 = 0 → (appendX (createX A nmN).2 nmN (encM m)).1 = 0 → (syncX (appendX (createX A nmN).2 nmN (encM m)).2 nmN).1 = 0 → storeX A m = renameX (syncX (appendX (createX A nmN).2 nmN (encM m)).2 nmN).2 nmN nmM := fun h1 h2 h3 => by rw [e]; unfold fillX; rw [chain_ok h1, chain_ok h2, chain_ok h3]
  generalize storeX A m = S at *
  refine (storeM_run hA hon ao cap m hm hcp ht hg (fun A1 => (createX A nmN).1 = 0 ∧ A1 = (createX A nmN).2) (fun A2 => (createX A nmN).1 = 0 ∧ (appendX (createX A nmN).2 nmN (encM m)).1 = 0 ∧ A2 = (appendX (createX A nmN).2 nmN (encM m)).2) (fun A3 => (createX A nmN).1 = 0 ∧ (appendX (createX A nmN).2 nmN (encM m)).1 = 0 ∧ (syncX (appendX (createX A nmN).2 nmN (encM m)).2 nmN).1 = 0 ∧ A3 = (syncX (appendX (createX A nmN).2 nmN (encM m)).2 nmN).2) (fun A4 => S.1 = 0 ∧ A4 = S.2) (fun x A' => x = S.1 ∧ A' = S.2) ?_ ?_ ?_ ?_).mono ?_
  · intro u f hat
    exact out_upon (any_create hat nmN nmN_size h.fine h.ops h.sml.left h.sml.keep) (fun h1 => ⟨h1, rfl⟩) (fun h1 => by rw [f1 h1]; exact ⟨rfl, rfl⟩)
  · rintro A1 ⟨h1, rfl⟩ u f a hat hs ha
    exact out_upon (prog_append P1.2 hat nmN nmN_size (some ⟨a, 0, none⟩) _ hs (fun p hp _ => by cases hp; exact ha) hE (by omega)) (fun h2 => ⟨h1, h2, rfl⟩) (fun h2 => by rw [f2 h1 h2]; exact ⟨rfl, rfl⟩)
  · rintro A2 ⟨h1, h2, rfl⟩ u f hat
    exact out_upon (any_sync hat nmN nmN_size P2.2.fine P2.2.ops P2.2.sml.left P2.2.sml.keep) (fun h3 => ⟨h1, h2, h3, rfl⟩) (fun h3 => by rw [f3 h1 h2 h3]; exact ⟨rfl, rfl⟩)
  · rintro A3 ⟨h1, h2, h3, rfl⟩ u f hat
    have e4 := f4 h1 h2 h3
    exact out_upon (any_rename hat nmN nmN_size nmM nmM_size P3.2.fine P3.2.ops P3.2.sml.left P3.2.sml.keep) (fun h4 => by rw [e4]; exact ⟨h4, rfl⟩) (fun h4 => by rw [e4]; exact ⟨rfl, rfl⟩)
  · rintro x w' ⟨c, rfl, ⟨rfl, A4, f', ⟨h1, rfl⟩, hat, hmv⟩ | ⟨_, A4, f', ⟨rfl, rfl⟩, hat, hmv⟩⟩
    · exact ⟨by rw [h1], f', hat, hmv⟩
    · exact ⟨rfl, f', hat, hmv⟩
end Go.Proofs.YtgkdodcidancpaaGreatDoor
namespace Go.Proofs.YtgkdodcidancpaaGreatDoor
open Go.RowKit

set_option maxRecDepth 100000 in
set_option maxHeartbeats 2000000 in
theorem refBytesM_new (ao : Option Addr) (cap : Nat) (m : Mf) (w : World) (h : MSees w ao cap m) (hg : goodM m = true) :
    Calls Tryz.prog 34 #[mval ao cap m] w fun e w' => ∃ a5 c5, e = .returned (.tuple #[.slice a5 (encM m).length c5, .int .i64 0]) ∧ Sees w' a5 (encM m) ∧ (a5 = none → (encM m).length = 0) ∧ (∀ q, a5 = some q → w.heap.size ≤ q.block) ∧ Below w.heap.size w w' := by
  have hl30 := (goodM_iff.1 hg).2.2.1
  have HB : Hid (Below w.heap.size w (w.alloc (.cells #[.slice ao m.ts.length cap, .int .i64 m.nx, .int .i64 m.fr] 39))) := (Below.refl _ _).alloc (Nat.le_refl _) _
  have hk := Blk.new w [.slice ao m.ts.length cap, .int .i64 m.nx, .int .i64 m.fr] 39
  have c0 := hk.cell 0 rfl
  have c1 := hk.cell 1 rfl
  have c2 := hk.cell 2 rfl
  have CG : Hid (Calls Tryz.prog 65 #[.agg #[.slice ao m.ts.length cap, .int .i64 m.nx, .int .i64 m.fr]] (w.alloc (.cells #[.slice ao m.ts.length cap, .int .i64 m.nx, .int .i64 m.fr] 39)) fun e w' => e = .returned (.bool true) ∧ Below w.heap.size w w' ∧ Blk w' w.heap.size [.slice ao m.ts.length cap, .int .i64 m.nx, .int .i64 m.fr] 39) := by
    have := refGoodM_any ao cap m _ (h.below HB.out (Nat.le_refl _)) (by omega)
    rw [hg] at this
    exact this.mono fun e w' hh => ⟨hh.1, HB.out.trans (hh.2.mono HB.out.size), hk.carry (hh.2.block _ hk.lt)⟩
  have hbd := good_bdd hg
  have hLl : (listM m).length = m.ts.length + 3 := by simp [listM]
  have HT : ∀ k, k < (listM m).length → ∃ u : Nat, u ≤ 999999999 ∧ (listM m).getD k 0 = (u : Int) ∧ numsB ((listM m).take (k + 1)) = numsB ((listM m).take k) ++ numL u := fun k hk => by
    have hmem : (listM m).getD k 0 ∈ listM m := by rw [List.getD_eq_getElem?_getD, List.getElem?_eq_getElem hk]; exact List.getElem_mem hk
    have := hbd _ hmem
    exact ⟨((listM m).getD k 0).toNat, by omega, by omega, numsB_take _ k hk⟩
  have HLn : ∀ k, (numsB ((listM m).take k)).length ≤ 330 := fun k => by have := numsB_lenT (listM m) k; omega
  /- one number more -/
  have CP : Hid (∀ (k u : Nat) (a : Option Addr) (c : Nat) (x : World), k < (listM m).length → (listM m).getD k 0 = (u : Int) → Below w.heap.size w x → Sees x a (numsB ((listM m).take k)) → (a = none → (numsB ((listM m).take k)).length = 0) → Calls Tryz.prog 66 #[.slice a (numsB ((listM m).take k)).length c, .int .u64 (u : Int)] x fun e w' => ∃ a5 c5, e = .returned (.slice a5 (numsB ((listM m).take (k + 1))).length c5) ∧ Sees w' a5 (numsB ((listM m).take (k + 1))) ∧ (a5 = none → (numsB ((listM m).take (k + 1))).length = 0) ∧ Below x.heap.size x w') := fun k u a c x hk hu hx hs hn => by
    obtain ⟨u', hu1, hu2, hu3⟩ := HT k hk
    obtain rfl : u = u' := by omega
    refine (refPut_any a _ c u x hs hn (by have := HLn k; omega) (by omega)).mono ?_
    rintro e w' ⟨v', rfl, ho, hb⟩
    rw [← hu3] at ho
    obtain ⟨a5, c5, rfl, s5, l5, n5⟩ := owns_sees ho
    rw [← l5] at n5 ⊢
    exact ⟨a5, c5, rfl, s5, fun e => (n5 e).1, hb⟩
  have HE : Hid (encM m = frameL (numsB ((listM m).take (m.ts.length + 3)))) := by show _ = _; rw [← hLl, List.take_length]; rfl
  have CF : Hid (∀ (a : Option Addr) (c : Nat) (x : World), Below w.heap.size w x → Sees x a (numsB ((listM m).take (m.ts.length + 3))) → (a = none → (numsB ((listM m).take (m.ts.length + 3))).length = 0) → Calls Tryz.prog 67 #[.slice a (numsB ((listM m).take (m.ts.length + 3))).length c] x fun e w' => ∃ a5 c5, e = .returned (.slice a5 (encM m).length c5) ∧ Sees w' a5 (encM m) ∧ (a5 = none → (encM m).length = 0) ∧ (∀ q, a5 = some q → w.heap.size ≤ q.block) ∧ Below w.heap.size w w') := fun a c x hx hs hn => by
    refine (refFrame_any a _ c x (by have := HLn (m.ts.length + 3); omega) hs hn).mono ?_
    rintro e w' ⟨v', rfl, ho, hb⟩
    rw [← HE.out] at ho
    obtain ⟨a5, c5, rfl, s5, l5, n5⟩ := owns_sees ho
    rw [← l5] at n5 ⊢
    exact ⟨a5, c5, rfl, s5, fun e => (n5 e).1, fun q e => by subst e; exact Nat.le_trans hx.size (ho.lt q.block rfl).1, hx.trans (hb.mono hx.size)⟩
  obtain ⟨nu, -, hn0, -⟩ := HT 0 (by omega)
  obtain ⟨fu, -, hf0, -⟩ := HT 1 (by omega)
  have hn1 : m.nx = (nu : Int) := hn0
  have hf1 : m.fr = (fu : Int) := hf0
  have hnb := hbd m.nx (by simp [listM])
  have hfb := hbd m.fr (by simp [listM])
  have HV : Hid (∀ i, i < m.ts.length → ∃ u : Nat, u ≤ 999999999 ∧ m.ts.getD i 0 = (u : Int) ∧ (listM m).getD (i + 3) 0 = (u : Int)) := fun i hi => by
    obtain ⟨u, h1, h2, _⟩ := HT (i + 3) (by omega)
    exact ⟨u, h1, h2, h2⟩
  have HSe : Hid (∀ x, Below w.heap.size w x → ∀ i, i < m.ts.length → ∃ b off, ao = some ⟨b, off, none⟩ ∧ x.cell? ⟨b, off + i, none⟩ = some (.int .i64 (m.ts.getD i 0))) := fun x hx i hi => by
    obtain ⟨b, off, e, hc⟩ := isees_at (h.see.below hx (Nat.le_refl _)) (by omega)
    exact ⟨b, off, e, hc i hi⟩
  obtain ⟨ts, nx, fr⟩ := m
  dsimp only at *
  subst hn1 hf1
  have P0 := CP.out 0 nu none 0
  have P1 := CP.out 1 fu
  have P2 := CP.out 2 ts.length
  have g2 : (listM ⟨ts, (nu : Int), (fu : Int)⟩).getD 2 0 = ((ts.length : Nat) : Int) := rfl
  unfold mval
  dsimp only
  generalize listM ⟨ts, (nu : Int), (fu : Int)⟩ = L at *
  generalize encM ⟨ts, (nu : Int), (fu : Int)⟩ = E at *
  clear h hg hk hbd HT HLn
  have hti : (ts.length : Int) ≤ 30 := by omega
  have hnui : (nu : Int) ≤ 999999999 := by omega
  have hfui : (fu : Int) ≤ 999999999 := by omega
  have e00 : (numsB (L.take 0)).length = 0 := rfl
  go_enter Tryz.func34, Tryz.ntmps34
  go_wp2_with fail
  go_fit CG.out
  rintro e w2 ⟨rfl, hB2, hk2⟩
  have e0 := hk2.cell 0 rfl
  have e1 := hk2.cell 1 rfl
  have e2 := hk2.cell 2 rfl
  have Q := P0 w2 (by omega) hn0 hB2 (Sees.nil _ _) (fun _ => rfl)
  rw [e00] at Q
  clear P0 CG
  go_wp2_with fail
  go_fit Q
  rintro e w3 ⟨a3, c3, rfl, s3, n3, hB3⟩
  have hk3 := hk2.carry (hB3.block _ hk2.lt)
  have hB3' : Below w.heap.size w w3 := hB2.trans (hB3.mono hB2.size)
  have Q2 := P1 a3 c3 w3 (by omega) hf0 hB3' s3 n3
  clear Q P1 e0 e1 e2 s3 n3 hB3 hk2 hB2
  have e0 := hk3.cell 0 rfl
  have e1 := hk3.cell 1 rfl
  have e2 := hk3.cell 2 rfl
  go_wp2_with fail
  go_fit Q2
  rintro e w4 ⟨a4, c4, rfl, s4, n4, hB4⟩
  have hk4 := hk3.carry (hB4.block _ hk3.lt)
  have hB4' : Below w.heap.size w w4 := hB3'.trans (hB4.mono hB3'.size)
  have Q3 := P2 a4 c4 w4 (by omega) g2 hB4' s4 n4
  clear Q2 P2 e0 e1 e2 s4 n4 hB4 hk3 hB3'
  have e0 := hk4.cell 0 rfl
  go_wp2_with fail
  go_fit Q3
  rintro e w5 ⟨a5, c5, rfl, s5, n5, hB5⟩
  have hk5 := hk4.carry (hB5.block _ hk4.lt)
  have hB5' : Below w.heap.size w w5 := hB4'.trans (hB5.mono hB4'.size)
  clear Q3 e0 hB5 hk4 hB4'
  have e0 := hk5.cell 0 rfl
  have HS5 : Hid (Sees w5 a5 (numsB (L.take 3)) ∧ (a5 = none → (numsB (L.take 3)).length = 0) ∧ Below w.heap.size w w5) := ⟨s5, n5, hB5'⟩
  clear s5 n5 hB5' hk5
  go_wp2_with fail
  go_loopw [28, 4] (fun i s wr => ∃ (k : Nat) (a : Option Addr) (c : Nat), k ≤ ts.length ∧ i = .int .i64 (k : Int) ∧ s = .slice a (numsB (L.take (k + 3))).length c ∧ Sees wr a (numsB (L.take (k + 3))) ∧ (a = none → (numsB (L.take (k + 3))).length = 0) ∧ Below w.heap.size w wr) (fun i _ _ => ts.length - (intOf i).toNat)
  case atStart => exact ⟨0, a5, c5, Nat.zero_le _, rfl, rfl, HS5.out.1, HS5.out.2.1, HS5.out.2.2⟩
  case round =>
    clear HS5
    obtain ⟨k, a, c, hk, rfl, rfl, hs, hn, hBr⟩ := hrel
    rcases Nat.lt_or_ge k ts.length with hlt | hge
    · obtain ⟨u, hu, hx, hx2⟩ := HV.out k hlt
      obtain ⟨b, off, rfl, d1⟩ := HSe.out wr hBr k hlt
      rw [hx] at d1
      have Q := CP.out (k + 3) u a c wr (by omega) hx2 hBr hs hn
      have hlti : (k : Int) < (ts.length : Int) := by omega
      have hui : (u : Int) ≤ 999999999 := by omega
      have HBr : Hid (Below w.heap.size w wr) := hBr
      clear hs hn hBr hx hx2 hu
      generalize (numsB (L.take (k + 3))).length = nn at *
      go_wp2_with fail
      go_fit Q
      rintro e w6 ⟨a6, c6, rfl, s6, n6, hB6⟩
      have HR : Hid (Sees w6 a6 (numsB (L.take (k + 3 + 1))) ∧ (a6 = none → (numsB (L.take (k + 3 + 1))).length = 0) ∧ Below w.heap.size w w6) := ⟨s6, n6, HBr.out.trans (hB6.mono HBr.out.size)⟩
      clear s6 n6 hB6 Q
      go_wp2_with fail
      go_roundw
      case rel => exact ⟨k + 1, a6, c6, by omega, by go_num, by rw [show k + 1 + 3 = k + 3 + 1 by omega], by rw [show k + 1 + 3 = k + 3 + 1 by omega]; exact HR.out.1, by rw [show k + 1 + 3 = k + 3 + 1 by omega]; exact HR.out.2.1, HR.out.2.2⟩
      case measure => (simp [intOf]; try omega)
    · obtain rfl : ts.length = k := by omega
      have Q := CF.out a c wr hBr hs hn
      clear hs hn hBr
      generalize (numsB (L.take (ts.length + 3))).length = nn at *
      go_wp2_with fail
      go_fit Q
      rintro e w7 ⟨a7, c7, rfl, hq⟩
      go_wp2_with fail
      go_ret2
      exact ⟨_, _, rfl, hq⟩
end Go.Proofs.YtgkdodcidancpaaGreatDoor
namespace Go.Proofs.YtgkdodcidancpaaGreatDoor
open Go.RowKit

theorem RAt.below {r : Nat} {Q : RA} {fr : List Nat} {w w' : World} (h : RAt r Q fr w) (hb : Below w.heap.size w w') : RAt r Q fr w' := h.moved (moved_belowM (ft := []) hb) (by simp)
set_option maxRecDepth 100000 in
set_option maxHeartbeats 2000000 in
/-- A file is created, filled and synced. -/
theorem ref_put {A : Ab} {Q : RA} {n r : Nat} {fr : List Nat} {w : World} (h : Pr A Q n) (hR : RAt r Q fr w) (ao : Option Addr) {l : List UInt8} (c : Nat) (hb : Sees w ao l) (hz : ao = none → l.length = 0) (hne : ∀ a, ao = some a → 0 < l.length → a.block ∉ fr) (hl : l.length ≤ 360) (hn : n + 11 ≤ 251) :
    Calls Tryz.prog 35 #[.pointer (some ⟨r, 0, none⟩), .string nmN, .slice ao l.length c] w (ROut r fr w (fillQ Q l)) := by
  have P1 := h.create nmN (by omega)
  have P2 := P1.2.append nmN hl (by omega)
  have P3 := P2.2.sync nmN (by omega)
  have C1 : Hid (Calls Tryz.prog 68 #[.pointer (some ⟨r, 0, none⟩), .string ⟨#[109, 97, 110, 105, 102, 101, 115, 116, 46, 110, 101, 119]⟩] w (ROut r fr w (createQ Q nmN))) := ra_Create hR h.fit nmN nmN_size
  have C2 : Hid (∀ u f, RAt r (createQ Q nmN).2 f u → Moved w u fr f → Calls Tryz.prog 69 #[.pointer (some ⟨r, 0, none⟩), .string ⟨#[109, 97, 110, 105, 102, 101, 115, 116, 46, 110, 101, 119]⟩, .slice ao l.length c] u (ROut r f u (appendQ (createQ Q nmN).2 nmN l))) := fun u f hu hm => by
    refine ref_append P1.2 hu nmN nmN_size ao c (hb.kept fun a e h0 => hm.kept a.block (hb.lt e h0) (hne a e h0)) hz (fun a ha h0 hh => ?_) hl (by omega)
    rcases hm.news _ hh with h1 | h1
    · exact hne a ha h0 h1
    · have := hb.lt ha h0; omega
  have C3 : Hid (∀ u f, RAt r (appendQ (createQ Q nmN).2 nmN l).2 f u → Calls Tryz.prog 70 #[.pointer (some ⟨r, 0, none⟩), .string ⟨#[109, 97, 110, 105, 102, 101, 115, 116, 46, 110, 101, 119]⟩] u (ROut r f u (syncQ (appendQ (createQ Q nmN).2 nmN l).2 nmN))) := fun u f hu => ra_Sync hu P2.2.fit nmN nmN_size
  have F1 : Hid ((createQ Q nmN).1 ≠ 0 → fillQ Q l = createQ Q nmN) := fun h1 => by unfold fillQ; rw [chain_no h1]
  have F2 : Hid ((createQ Q nmN).1 = 0 → (appendQ (createQ Q nmN).2 nmN l).1 ≠ 0 → fillQ Q l = appendQ (createQ Q nmN).2 nmN l) := fun h1 h2 => by unfold fillQ; rw [chain_ok h1, chain_no h2]
  have F3 : Hid ((createQ Q nmN).1 = 0 → (appendQ (createQ Q nmN).2 nmN l).1 = 0 → fillQ Q l = syncQ (appendQ (createQ Q nmN).2 nmN l).2 nmN) := fun h1 h2 => by unfold fillQ; rw [chain_ok h1, chain_ok h2]
  clear h hR hb hz hne hl hn P1 P2 P3
  generalize fillQ Q l = S at *
  generalize createQ Q nmN = q1 at *
  generalize appendQ q1.2 nmN l = q2 at *
  generalize syncQ q2.2 nmN = q3 at *
  generalize l.length = len at *
  unfold nmN
  go_enter Tryz.func35, Tryz.ntmps35
  go_wp2_with fail
  go_fit C1.out
  rintro e w1 ⟨rfl, f1, h1, m1⟩
  have C2' := C2.out w1 f1 h1 m1
  clear C2 C1
  by_cases hc1 : q1.1 = 0
  · have M1 : Hid (Moved w w1 fr f1) := m1
    have F2' : Hid (q2.1 ≠ 0 → S = q2) := F2.out hc1
    have F3' : Hid (q2.1 = 0 → S = q3) := F3.out hc1
    clear h1 m1 F1 F2 F3
    rw [hc1]
    clear hc1
    go_wp2_with fail
    go_fit C2'
    rintro e w2 ⟨rfl, f2, h2, m2⟩
    have C3' := C3.out w2 f2 h2
    clear C3
    have M2 : Hid (Moved w w2 fr f2) := M1.out.trans m2
    by_cases hc2 : q2.1 = 0
    · have e3 : S = q3 := F3'.out hc2
      subst e3
      clear h2 m2 C2' M1 F2' F3'
      rw [hc2]
      clear hc2
      go_wp2_with fail
      go_fit C3'
      rintro e w3 ⟨rfl, f3, h3, m3⟩
      have HE : Hid (∃ fr', RAt r S.2 fr' w3 ∧ Moved w w3 fr fr') := ⟨f3, h3, M2.out.trans m3⟩
      clear h3 m3 C3' M2
      go_wp2_with fail
      go_ret
      exact ⟨rfl, HE.out⟩
    · have e2 : S = q2 := F2'.out hc2
      subst e2
      have HE : Hid (∃ fr', RAt r S.2 fr' w2 ∧ Moved w w2 fr fr') := ⟨f2, h2, M2.out⟩
      have hz2 : (S.1 == 0) = false := by rw [beq_eq_false_iff_ne]; exact hc2
      clear h2 m2 C2' M1 M2 C3' F2' F3'
      go_wp2_with fail
      go_ret
      exact ⟨rfl, HE.out⟩
  · have e1 : S = q1 := F1.out hc1
    subst e1
    have HE : Hid (∃ fr', RAt r S.2 fr' w1 ∧ Moved w w1 fr fr') := ⟨f1, h1, m1⟩
    have hz1 : (S.1 == 0) = false := by rw [beq_eq_false_iff_ne]; exact hc1
    clear h1 m1 C2' C3 F1 F2 F3
    go_wp2_with fail
    go_ret
    exact ⟨rfl, HE.out⟩
end Go.Proofs.YtgkdodcidancpaaGreatDoor
namespace Go.Proofs.YtgkdodcidancpaaGreatDoor
open Go.ChangeShapes Go.WideShapes Go.ChangeAt Go.RowKit

theorem ownM : ownKnob Tryz.prog.godebug = none := by kernel_rfl
theorem laidOutM : laidOutB Tryz.prog = true := by kernel_rfl
/-- The list that each row has. -/
def laidFive : List (String × DataW Unit) := [("math/bits.deBruijn32tab", Rows.laid_math_bits_deBruijn32tab), ("math/bits.deBruijn64tab", Rows.laid_math_bits_deBruijn64tab), ("internal/strconv.uint64pow10", Rows.laid_internal_strconv_uint64pow10), ("skerry/codec.fourSteps", Rows.laid_skerry_codec_fourSteps), ("skerry/codec.errNone", Rows.laid_skerry_codec_errNone)]
theorem gPowTypeM : (Tryz.prog.globals[2]?).map (·.type) = some 171 := by kernel_rfl
theorem cellsPowM : Tryz.prog.cellsOf 171 = 20 := by kernel_rfl
theorem cells64M : Tryz.prog.cellsOf 90 = 1 := by kernel_rfl
theorem gTabM : Tryz.prog.globalNamed "skerry/codec.fourSteps" = some 0 := by kernel_rfl
theorem gTabTypeM : (Tryz.prog.globals[0]?).map (·.type) = some 154 := by kernel_rfl
theorem cellsTabM : Tryz.prog.cellsOf 154 = 16 := by kernel_rfl
theorem cells32M : Tryz.prog.cellsOf 124 = 1 := by kernel_rfl
theorem gErrM : Tryz.prog.globalNamed "skerry/codec.errNone" = some 1 := by kernel_rfl
theorem gErrTypeM : (Tryz.prog.globals[1]?).map (·.type) = some 164 := by kernel_rfl
theorem cellsErrM : Tryz.prog.cellsOf 204 = 1 := by kernel_rfl
theorem cellsStrM : Tryz.prog.cellsOf 9 = 1 := by kernel_rfl
theorem starM : "*" ++ "errors.errorString" = "*errors.errorString" := by decide
theorem rowErrM (u : TypeId) (h : Tryz.prog.typeName? 3 u = some "*errors.errorString") : u = 188 :=
  typeName_ptr_named (nm := "errors.errorString") (by rw [starM]; kernel_rfl) (by kernel_rfl) (by decide) u (by rw [starM]; exact h)

theorem met_ofM {W : World} (h : laidMetH Tryz.prog laidFive W) : laidMet Tryz.prog laidFive W := by rw [MakeChecks.laidMetH_plain _ _ _ (by kernel_rfl)] at h; exact h
theorem tab5 {W : World} (h : laidMetH Tryz.prog laidFive W) : Tab W := by
  have h4 := laidMet.tail (laidMet.tail (laidMet.tail (met_ofM h)))
  have hT : Lib.TabIs Tryz.prog W "skerry/codec.fourSteps" .u32 tabZ := Lib.tabIs_of_head gTabM gTabTypeM Tryz.underlying154 Tryz.underlying124 cells32M cellsTabM h4
  exact fun j hj => hT.cell gTabM j hj
theorem env5 {W : World} (h : laidMetH Tryz.prog laidFive W) : EnvM W := by
  have h3 := laidMet.tail (laidMet.tail (met_ofM h))
  exact Lib.tabIs_of_head (zs := Lib.pow10Tab) gPowM gPowTypeM Tryz.underlying171 Tryz.underlying90 cells64M cellsPowM h3
theorem err5 {W : World} (h : laidMetH Tryz.prog laidFive W) : ∃ u pv, Err W u pv := by
  have h5 := laidMet.tail (laidMet.tail (laidMet.tail (laidMet.tail (met_ofM h))))
  obtain ⟨a0, s0, hv0, _, _, _⟩ := laid_sentinel h5 gErrM gErrTypeM Tryz.underlying164 rowErrM Tryz.underlying188 Tryz.underlying204 rfl rfl Tryz.underlying9 cellsErrM cellsStrM
  exact ⟨188, .pointer (some a0), World.var?_cell gErrM hv0 0⟩
theorem door_met5 (os : Os) (args : Array Value) : laidMetH Tryz.prog laidFive ((World.laidAll Tryz.prog os laidFive).forCall (fun _ _ => 0) ⟨#[], args, []⟩).memory := by
  rw [MakeChecks.laidMetH_plain _ _ _ (by kernel_rfl)]; exact laidMet_laidAll _ (by kernel_rfl) (by kernel_rfl)
end Go.Proofs.YtgkdodcidancpaaGreatDoor

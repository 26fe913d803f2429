/-
  FOR THE LAW DiskSectors: one file that grows, and the bytes beside it.
-/
import Derived.Test.YtbabepnoncpdlaaDskInv
namespace Go.Proofs.Ytbabepnoncpdlaa
open Go.RowKit Go.Maps

/-- How many sectors are dirty. -/
def wantN (len syn : Nat) : Nat := if syn < len then (len - 1) / 16 - syn / 16 + 1 else 0
def SecA (A : Ab) (l : List UInt8) (syn k : Nat) : Prop := ∃ pl, A.sp = [⟨[97], l, syn, pl⟩] ∧ pl.length = wantN l.length syn ∧ A.Inv k ∧ A.room = 1048576
section
variable {A : Ab} {l : List UInt8} {syn k : Nat}
theorem find_one_sig (t : Sig) (h : t.nm = [97]) : findT [t] (nameOf nmA) = some t := by
  rw [findT_cons, if_pos (show t.nm = nameOf nmA from h)]
theorem secA_new : (createM (newA 1048576) nmA).1 = 0 ∧ SecA (createM (newA 1048576) nmA).2 [] 0 1 := by
  have e : createM (newA 1048576) nmA = (0, crT (newA 1048576) (nameOf nmA)) := by
    unfold createM
    rw [if_pos (show refuse (newA 1048576).on [nmA] = 0 from nmA_good)]
    rfl
  have hi := createM_inv (newA_inv 1048576 (by omega)) nmA
  rw [e] at hi ⊢
  exact ⟨rfl, [], rfl, rfl, hi, rfl⟩
theorem SecA.wr (h : SecA A l syn k) : syn ≤ l.length := by
  obtain ⟨pl, h1, _, h3, _⟩ := h
  exact h3.wr ⟨[97], l, syn, pl⟩ (by rw [h1]; exact List.mem_cons_self)
theorem pair_one (t : Sig) : [t].Pairwise fun x y => x.nm ≠ y.nm := List.pairwise_singleton _ _
theorem secA_sync (h : SecA A l syn k) : (syncM A nmA).1 = 0 ∧ SecA (syncM A nmA).2 l l.length (k + 1) := by
  obtain ⟨pl, h1, h2, h3, h4⟩ := h
  have hf : findT A.sp (nameOf nmA) = some ⟨[97], l, syn, pl⟩ := by rw [h1]; exact find_one_sig _ rfl
  have e : syncM A nmA = (0, syT A (nameOf nmA) ⟨[97], l, syn, pl⟩) := by
    unfold syncM
    rw [h3.on, if_pos nmA_good, hf]
  have hi := syncM_inv h3 (by rw [h1]; exact pair_one _) nmA
  rw [e] at hi ⊢
  refine ⟨rfl, [], ?_, ?_, hi, h4⟩
  · show upd A.sp (nameOf nmA) _ = _
    rw [h1]
    rfl
  · unfold wantN
    rw [if_neg (Nat.lt_irrefl _)]
    rfl
theorem secA_append (h : SecA A l syn k) (b : List UInt8) (hb : l.length + b.length ≤ 2000) : (appendM A nmA b).1 = 0 ∧ SecA (appendM A nmA b).2 (l ++ b) syn (k + 1) := by
  have hw := h.wr
  obtain ⟨pl, h1, h2, h3, h4⟩ := h
  have hf : findT A.sp (nameOf nmA) = some ⟨[97], l, syn, pl⟩ := by rw [h1]; exact find_one_sig _ rfl
  have hu : usedT A.sp = 1 + (l.length + 15) / 16 := by rw [h1, usedT_cons, usedT_nil]; rfl
  have hlack : ¬ (A.room : Int) - (usedT A.sp : Int) < lackT ⟨[97], l, syn, pl⟩ b := by
    rw [hu, h4]
    unfold lackT
    have a1 := secI_nat (l.length + b.length)
    have a2 := secI_nat l.length
    rw [Int.natCast_add] at a1
    simp only
    rw [a1, a2]
    omega
  have e : appendM A nmA b = (0, appT A (nameOf nmA) ⟨[97], l, syn, pl⟩ b) := by
    unfold appendM
    rw [h3.on, if_pos nmA_good, hf]
    simp only
    rw [if_neg hlack]
  have hi := appendM_inv h3 (by rw [h1]; exact pair_one _) nmA b
  rw [e] at hi ⊢
  refine ⟨rfl, pl ++ List.range' A.next (growT ⟨[97], l, syn, pl⟩ b), ?_, ?_, hi, h4⟩
  · show upd A.sp (nameOf nmA) ⟨nameOf nmA, l ++ b, syn, pl ++ List.range' A.next (growT ⟨[97], l, syn, pl⟩ b)⟩ = _
    rw [h1]
    rfl
  · rw [List.length_append, List.length_range', h2]
    unfold growT growN wantN
    simp only
    rw [List.length_append]
    by_cases hz : b = []
    · rw [if_pos hz, hz]
      simp
    · have hp : 0 < b.length := List.length_pos_iff.2 hz
      rw [if_neg hz]
      simp only [h2]
      unfold wantN
      split
      · rw [if_pos (by omega)]
        omega
      · rw [if_pos (by omega)]
        omega
theorem secA_dirty (h : SecA A l syn k) : dirtyT A.sp = wantN l.length syn := by
  obtain ⟨pl, h1, h2, h3, h4⟩ := h
  rw [h1, ← h2]
  simp [dirtyT]
theorem secA_used (h : SecA A l syn k) : usedT A.sp = 1 + (l.length + 15) / 16 := by
  obtain ⟨pl, h1, h2, h3, h4⟩ := h
  rw [h1, usedT_cons, usedT_nil]
  rfl
theorem secA_lost (h : SecA A l syn k) (hl : l.length ≤ 2000) : (A.sp.map fun t => loseT t (endT A (1073741824 : Int).toNat)) = [⟨[97], l, l.length, []⟩] := by
  have hw := h.wr
  obtain ⟨pl, h1, h2, h3, h4⟩ := h
  have hpl : pl.length ≤ 2000 := by rw [h2]; unfold wantN; split <;> omega
  have hend : endT A (1073741824 : Int).toNat = A.next := by
    unfold endT
    rw [if_pos]
    have : linesT A.sp = pl := by rw [h1]; simp [linesT]
    rw [this]
    show pl.length ≤ 1073741824
    omega
  rw [hend, h1]
  have hk : keptT ⟨[97], l, syn, pl⟩ A.next = pl.length := by
    unfold keptT
    rw [List.countP_eq_length]
    intro q hq
    have := h3.ahead ⟨[97], l, syn, pl⟩ (by rw [h1]; exact List.mem_cons_self) q hq
    simpa using this
  have hlost : lostT ⟨[97], l, syn, pl⟩ A.next = l.length := by
    unfold lostT
    rw [hk, h2]
    show (if wantN l.length syn = 0 then syn else min l.length ((syn / 16 + wantN l.length syn) * 16)) = l.length
    by_cases h5 : syn < l.length
    · have e : wantN l.length syn = (l.length - 1) / 16 - syn / 16 + 1 := by unfold wantN; rw [if_pos h5]
      rw [e, if_neg (by omega)]
      omega
    · have e : wantN l.length syn = 0 := by unfold wantN; rw [if_neg h5]
      rw [e, if_pos rfl]
      omega
  simp only [List.map_cons, List.map_nil]
  unfold loseT
  rw [hlost]
  simp
end

/-- The disk, and beside it bytes in a row of the call's own; all of it new since w0. -/
def Sx (w0 : World) (d : Nat) (A : Ab) (v : Value) (l : List UInt8) (w1 : World) : Prop := ∃ ft, At d A ft w1 ∧ Moved w0 w1 [] ft ∧ w1.ownsRow w0.heap.size 5 1 v l.length (B8 l) ∧ ∀ g, v.ownBlock = some g → g ∉ ft
theorem sx_of_kp {w0 w1 : World} {d : Nat} {A : Ab} (h : Kp w0 d A w1) : Sx w0 d A (.slice none 0 0) [] w1 := by
  obtain ⟨ft, h1, h2⟩ := h
  exact ⟨ft, h1, h2, World.ownsRow_nil _ _ _ _, fun g hg => by cases hg⟩
section
variable {w0 : World} {d : Nat} {A : Ab} {v : Value} {l : List UInt8} {w1 : World}
theorem Sx.kp (h : Sx w0 d A v l w1) : Kp w0 d A w1 := by
  obtain ⟨ft, h1, h2, _⟩ := h
  exact ⟨ft, h1, h2⟩
theorem sx_turn {ft ft' : List Nat} {A' : Ab} {w2 : World} (h2 : Moved w0 w1 [] ft) (h3 : w1.ownsRow w0.heap.size 5 1 v l.length (B8 l)) (h4 : ∀ g, v.ownBlock = some g → g ∉ ft) (a1 : At d A' ft' w2) (a2 : Moved w1 w2 ft ft') : Sx w0 d A' v l w2 := by
  refine ⟨ft', a1, h2.trans a2, owns_carry h3 fun g hg => a2.kept g (h3.lt g hg).2 (h4 g hg), fun g hg hi => ?_⟩
  rcases a2.news g hi with h5 | h5
  · exact h4 g hg h5
  · have := (h3.lt g hg).2; omega
theorem sx_out {F : Nat} {args : Array Value} {r : Int × Ab} (h : Sx w0 d A v l w1) (hc : ∀ ft, At d A ft w1 → Moved w0 w1 [] ft → Calls Try.prog F args w1 (Out d ft w1 r)) : Calls Try.prog F args w1 fun x w' => x = .returned (.int .i64 r.1) ∧ Sx w0 d r.2 v l w' := by
  obtain ⟨ft, h1, h2, h3, h4⟩ := h
  refine (hc ft h1 h2).mono ?_
  rintro x w' ⟨rfl, ft', a1, a2⟩
  exact ⟨rfl, sx_turn h2 h3 h4 a1 a2⟩
theorem Sx.grown (h : Sx w0 d A v l w1) {w2 : World} (hg : w1.grownBy w2 none) : Sx w0 d A v l w2 := by
  obtain ⟨ft, h1, h2, h3, h4⟩ := h
  exact sx_turn h2 h3 h4 (h1.grown hg) (Moved.none_of hg _)
theorem Sx.put (h : Sx w0 d A v l w1) {v' : Value} {b : List UInt8} {w2 : World} (hg : Grew w1 w2 v v') (ho : w2.ownsRow w0.heap.size 5 1 v' (l.length + b.length) (B8 l ++ B8 b)) : Sx w0 d A v' (l ++ b) w2 := by
  obtain ⟨ft, h1, h2, h3, h4⟩ := h
  have hM : Moved w1 w2 v.ownBlock.toList v.ownBlock.toList := Moved.of_grown hg.rows
  have hlt := h1.lt
  refine ⟨ft, h1.moved hM fun i hi hi2 => ?_, ?_, by rw [List.length_append, B8_append]; exact ho, fun g hgg hi => ?_⟩
  · rw [Option.mem_toList] at hi2
    exact h4 i hi2 hi
  · refine ⟨hM.os.trans h2.os, hM.tape.trans h2.tape, hM.output.trans h2.output, Nat.le_trans h2.size hM.size, fun i hi hn => ?_, fun i hi => ?_⟩
    · refine (hM.kept i (Nat.lt_of_lt_of_le hi h2.size) fun hi2 => ?_).trans (h2.kept i hi hn)
      rw [Option.mem_toList] at hi2
      have := (h3.lt i hi2).1
      omega
    · exact h2.news i hi
  · rcases hg.own g hgg with h5 | h5
    · exact h4 g h5 hi
    · have := hlt g hi; omega
theorem Sx.sees (h : Sx w0 d A v l w1) {ao : Option Addr} {b : List UInt8} (hs : Sees w0 ao b) : Sees w1 ao b := h.kp.sees hs
theorem Sx.size (h : Sx w0 d A v l w1) : w0.heap.size ≤ w1.heap.size := by
  obtain ⟨ft, h1, h2, _⟩ := h
  exact h2.size
theorem Sx.form (h : Sx w0 d A v l w1) : ∃ ao cap, v = .slice ao l.length cap ∧ Sees w1 ao l ∧ (ao = none → l.length = 0) ∧ l.length ≤ cap := by
  obtain ⟨ft, h1, h2, h3, h4⟩ := h
  obtain ⟨ao, cap, rfl, hs, _, hn⟩ := owns_sees h3
  obtain ⟨_, _, hv, hc, _⟩ := owns_form h3
  cases hv
  exact ⟨ao, cap, rfl, hs, fun e => (hn e).1, hc⟩
end
/-- The state on the road: the bytes l so far, syn of them synced, at most k operations. -/
def SxP (w0 : World) (d : Nat) (l : List UInt8) (syn k : Nat) (v : Value) (w1 : World) : Prop := ∃ A, SecA A l syn k ∧ Sx w0 d A v l w1
section
variable {w0 : World} {d : Nat} {l : List UInt8} {syn k : Nat} {v : Value} {w1 : World}
theorem sec_new (w : World) : Calls Try.prog 13 #[.int .i64 1048576] w fun x w' => ∃ d, x = .returned (.pointer (some ⟨d, 0, none⟩)) ∧ Kp w d (newA 1048576) w' := kp_new 1048576 (by omega) w
theorem sec_create (h : Kp w0 d (newA 1048576) w1) : Calls Try.prog 14 #[.pointer (some ⟨d, 0, none⟩), .string nmA] w1 fun x w' => x = .returned (.int .i64 0) ∧ SxP w0 d [] 0 1 (.slice none 0 0) w' := by
  have hi := newA_inv 1048576 (by omega)
  refine (sx_out (sx_of_kp h) (r := createM (newA 1048576) nmA) fun ft h1 _ => abx_create h1 nmA nmA_size hi.fine hi.left1 (hi.ops1 (by omega)) hi.left2).mono ?_
  rintro x w' ⟨rfl, hs⟩
  exact ⟨by rw [secA_new.1], _, secA_new.2, hs⟩
theorem sec_sync (hk : k ≤ 10000) (h : SxP w0 d l syn k v w1) : Calls Try.prog 16 #[.pointer (some ⟨d, 0, none⟩), .string nmA] w1 fun x w' => x = .returned (.int .i64 0) ∧ SxP w0 d l l.length (k + 1) v w' := by
  obtain ⟨A, hA, hS⟩ := h
  have hi : A.Inv k := hA.choose_spec.2.2.1
  refine (sx_out hS (r := syncM A nmA) fun ft h1 _ => abx_sync h1 nmA nmA_size hi.left1 (hi.ops1 (by omega)) hi.left2).mono ?_
  rintro x w' ⟨rfl, hs⟩
  exact ⟨by rw [(secA_sync hA).1], _, (secA_sync hA).2, hs⟩
theorem sec_append (hk : k ≤ 10000) (ao : Option Addr) (b : List UInt8) (c : Nat) (hb : Sees w0 ao b) (hl : l.length + b.length ≤ 2000) (h : SxP w0 d l syn k v w1) : Calls Try.prog 15 #[.pointer (some ⟨d, 0, none⟩), .string nmA, .slice ao b.length c] w1 fun x w' => x = .returned (.int .i64 0) ∧ ∃ A, SecA A (l ++ b) syn (k + 1) ∧ Sx w0 d A v l w' := by
  obtain ⟨A, hA, hS⟩ := h
  have hi : A.Inv k := hA.choose_spec.2.2.1
  refine (sx_out hS (r := appendM A nmA b) fun ft h1 h2 => abx_append h1 nmA nmA_size ao b c (hS.sees hb) (fun a ha h0 hi => ?_) hi.fine hi.left1 (hi.ops1 (by omega)) hi.left2 (hi.next1 (by omega)) (fun t ht => by have := hi.len ht; omega)).mono ?_
  · have := hb.lt ha h0
    rcases h2.news _ hi with h3 | h3
    · simp at h3
    · omega
  · rintro x w' ⟨rfl, hs⟩
    exact ⟨by rw [(secA_append hA b hl).1], _, (secA_append hA b hl).2, hs⟩
theorem sec_dirty (h : SxP w0 d l syn k v w1) : Calls Try.prog 21 #[.pointer (some ⟨d, 0, none⟩)] w1 fun x w' => x = .returned (.int .i64 (wantN l.length syn : Int)) ∧ SxP w0 d l syn k v w' := by
  obtain ⟨A, hA, hS⟩ := h
  have hi : A.Inv k := hA.choose_spec.2.2.1
  have hS0 := hS
  obtain ⟨ft, h1, h2, h3, h4⟩ := hS
  refine (ab_dirty h1 hi.fine hi.on).mono ?_
  rintro x w' ⟨rfl, hg⟩
  rw [secA_dirty hA]
  exact ⟨rfl, A, hA, hS0.grown hg⟩
theorem sec_used (h : SxP w0 d l syn k v w1) : Calls Try.prog 23 #[.pointer (some ⟨d, 0, none⟩)] w1 fun x w' => x = .returned (.int .i64 ((1 + (l.length + 15) / 16 : Nat) : Int)) ∧ SxP w0 d l syn k v w' := by
  obtain ⟨A, hA, hS⟩ := h
  have hi : A.Inv k := hA.choose_spec.2.2.1
  have hS0 := hS
  obtain ⟨ft, h1, h2, h3, h4⟩ := hS
  refine (ab_used h1 hi.fine hi.on).mono ?_
  rintro x w' ⟨rfl, hg⟩
  rw [secA_used hA]
  exact ⟨rfl, A, hA, hS0.grown hg⟩
theorem sec_crash (hl : l.length ≤ 2000) (h : SxP w0 d l syn k v w1) : Calls Try.prog 17 #[.pointer (some ⟨d, 0, none⟩), .int .i64 1073741824] w1 fun x w' => x = .returned (.tuple #[]) ∧ ∃ A, A.sp = [⟨[97], l, l.length, []⟩] ∧ Sx w0 d A v l w' := by
  obtain ⟨A, hA, hS⟩ := h
  have hi : A.Inv k := hA.choose_spec.2.2.1
  obtain ⟨ft, h1, h2, h3, h4⟩ := hS
  refine (ab_crash h1 hi.on hi.fine 1073741824 (by omega) (by omega)).mono ?_
  rintro x w' ⟨rfl, ft', a1, a2⟩
  exact ⟨rfl, _, secA_lost hA hl, sx_turn h2 h3 h4 a1 a2⟩
theorem sec_start (h : ∃ A, A.sp = [⟨[97], l, l.length, []⟩] ∧ Sx w0 d A v l w1) : Calls Try.prog 18 #[.pointer (some ⟨d, 0, none⟩)] w1 fun x w' => x = .returned (.tuple #[]) ∧ ∃ A, A.sp = [⟨[97], l, l.length, []⟩] ∧ A.on = true ∧ Sx w0 d A v l w' := by
  obtain ⟨A, hsp, hS⟩ := h
  obtain ⟨ft, h1, h2, h3, h4⟩ := hS
  refine (ab_start h1).mono ?_
  rintro x w' ⟨rfl, a1, a2⟩
  exact ⟨rfl, { A with on := true, left := 0 }, hsp, rfl, sx_turn h2 h3 h4 a1 a2⟩
theorem sec_dirty0 (h : SxP w0 d l l.length k v w1) : Calls Try.prog 21 #[.pointer (some ⟨d, 0, none⟩)] w1 fun x w' => x = .returned (.int .i64 0) ∧ SxP w0 d l l.length k v w' := by
  have := sec_dirty h
  have e : wantN l.length l.length = 0 := by unfold wantN; rw [if_neg (Nat.lt_irrefl _)]
  rw [e] at this
  exact this
theorem sec_row {b : List UInt8} (h : ∃ A, SecA A (l ++ b) syn k ∧ Sx w0 d A v l w1) : w1.ownsRow w0.heap.size 5 1 v l.length (B8 l) ∧ w0.heap.size ≤ w1.heap.size ∧ ∀ ao, Sees w0 ao b → Sees w1 ao b := by
  obtain ⟨A, _, hS⟩ := h
  have hz := hS.size
  have hs : ∀ ao, Sees w0 ao b → Sees w1 ao b := fun ao h => hS.sees h
  obtain ⟨ft, h1, h2, h3, h4⟩ := hS
  exact ⟨h3, hz, hs⟩
theorem sec_put {b : List UInt8} (h : ∃ A, SecA A (l ++ b) syn k ∧ Sx w0 d A v l w1) {ao : Option Addr} {c : Nat} {w2 : World} (hg : Grew w1 w2 v (.slice ao (l.length + b.length) c)) (ho : w2.ownsRow w0.heap.size 5 1 (.slice ao (l.length + b.length) c) (l.length + b.length) (B8 l ++ B8 b)) : SxP w0 d (l ++ b) syn k (.slice ao (l.length + b.length) c) w2 := by
  obtain ⟨A, hA, hS⟩ := h
  exact ⟨A, hA, hS.put hg ho⟩
theorem SxP.form (h : SxP w0 d l syn k v w1) : ∃ ao cap, v = .slice ao l.length cap := by
  obtain ⟨A, _, hS⟩ := h
  obtain ⟨ao, cap, e, _⟩ := hS.form
  exact ⟨ao, cap, e⟩
theorem SxP.below (h : SxP w0 d l syn k v w1) : Below w0.heap.size w0 w1 := by
  obtain ⟨A, _, hS⟩ := h
  exact hS.kp.below
theorem SxP.wr (h : SxP w0 d l syn k v w1) : syn ≤ l.length := by
  obtain ⟨A, hA, _⟩ := h
  exact hA.wr
/-- Read, and what the bytes beside are: the same. -/
theorem sec_read (hl : l.length ≤ 2000) (h : ∃ A, A.sp = [⟨[97], l, l.length, []⟩] ∧ A.on = true ∧ Sx w0 d A v l w1) : Calls Try.prog 19 #[.pointer (some ⟨d, 0, none⟩), .string nmA] w1 fun x w' => ∃ ao c, x = .returned (.tuple #[.slice ao l.length c, .int .i64 0]) ∧ Below w0.heap.size w0 w' ∧ Calls Try.prog 20 #[.slice ao l.length c, v] w' fun e w2 => e = .returned (.bool true) ∧ w2 = w' := by
  obtain ⟨A, hsp, hon, hS⟩ := h
  have hS0 := hS
  refine (kp_read hS.kp nmA nmA_size (by rw [hon]; exact nmA_good) (t := ⟨[97], l, l.length, []⟩) (by rw [hsp]; exact find_one_sig _ rfl) (by simp only; omega)).mono ?_
  rintro x w' ⟨ao, c, rfl, hs, hn, hc, hg, hK⟩
  obtain ⟨ao2, c2, rfl, hs2, hn2, _⟩ := (hS0.grown hg).form
  have := same_any ao ao2 l l c c2 w' hs hs2 hn hn2
  rw [beq_self_eq_true] at this
  exact ⟨ao, c, rfl, hK.below, this⟩
end
end Go.Proofs.Ytbabepnoncpdlaa

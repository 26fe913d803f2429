/-
  CONTRACT: the document's examples of a skip list (lives).
-/
import Derived.Test.YtlhojbgpmjcjlaaSkAny
namespace Go.Proofs.Ytlhojbgpmjcjlaa
open Go.RowKit

/-- A list of the call's own. -/
structure SkB (B : Nat) (w w' : World) (S : SkId) (hs : List Nat) (T : List Tw) : Prop where
  sk : SkAt w' S hs T
  bel : Below B w w'
  low : ∀ b ∈ S.gh :: S.ft T, B ≤ b
  siz : B ≤ w'.heap.size
theorem SkB.below {B : Nat} {w w' w'' : World} {S : SkId} {hs : List Nat} {T : List Tw} (h : SkB B w w' S hs T) (hb : Below w'.heap.size w' w'') : SkB B w w'' S hs T :=
  ⟨h.sk.below hb (Nat.le_refl _), h.bel.trans (hb.mono h.siz), h.low, Nat.le_trans h.siz hb.size⟩
theorem SkB.put {B : Nat} {w w' w'' : World} {S : SkId} {hs : List Nat} {T T' : List Tw} (h : SkB B w w' S hs T) (hS : SkAt w'' S hs T') (hM : Moved w' w'' (S.ft T) (S.ft T')) : SkB B w w'' S hs T' := by
  refine ⟨hS, h.bel.trans (hM.below h.siz fun i hi => h.low i (by simp [hi])), fun b hb => ?_, Nat.le_trans h.siz hM.size⟩
  rcases List.mem_cons.1 hb with rfl | hb
  · exact h.low _ (by simp)
  · rcases hM.news b hb with h1 | h1
    · exact h.low b (by simp [h1])
    · exact Nat.le_trans h.siz h1
def cB6 : Cx := ⟨⟨⟨#[116]⟩, ⟨#[120]⟩, 0, ⟨#[98]⟩⟩, ⟨1, false, 0, 1, 1, ⟨#[]⟩⟩⟩
def cA6 : Cx := ⟨⟨⟨#[116]⟩, ⟨#[120]⟩, 0, ⟨#[97]⟩⟩, ⟨2, false, 0, 1, 2, ⟨#[]⟩⟩⟩
def cC6 : Cx := ⟨⟨⟨#[116]⟩, ⟨#[120]⟩, 0, ⟨#[99]⟩⟩, ⟨3, false, 0, 1, 3, ⟨#[]⟩⟩⟩
theorem good6 : goodC cB6 = true ∧ goodC cA6 = true ∧ goodC cC6 = true := by decide
theorem kx6 : kx cB6 cA6 = 1 ∧ kx cA6 cC6 = -1 ∧ kx cB6 cC6 = -1 := by decide
theorem put6_gen (a b c : Cx) (ga : goodC a = true) (gb : goodC b = true) (gc : goodC c = true) (hba : kx b a = 1) (hac : kx a c = -1) (hbc : kx b c = -1) : putG [2, 1] (putG [2, 1] (putG [2, 1] [] b) a) c = [(a, 1), (b, 2), (c, 2)] := by
  have e1 : putG [2, 1] [] b = [(b, 2)] := by unfold putG; rw [if_pos gb]; rfl
  have e2 : putG [2, 1] [(b, 2)] a = [(a, 1), (b, 2)] := by
    unfold putG; rw [if_pos ga]; unfold putM; rw [putH_ahead (x := (b, 2)) [] (show 0 < kx b a by omega)]; rfl
  have e3 : putG [2, 1] [(a, 1), (b, 2)] c = [(a, 1), (b, 2), (c, 2)] := by
    unfold putG; rw [if_pos gc]; unfold putM
    rw [putH_behind (x := (a, 1)) _ (show kx a c < 0 by omega), putH_behind (x := (b, 2)) _ (show kx b c < 0 by omega)]; simp [putH, nextH]
  rw [e1, e2, e3]
theorem put6 : putG [2, 1] (putG [2, 1] (putG [2, 1] [] cB6) cA6) cC6 = [(cA6, 1), (cB6, 2), (cC6, 2)] := put6_gen cA6 cB6 cC6 good6.2.1 good6.1 good6.2.2 kx6.1 kx6.2.1 kx6.2.2
theorem newI (u : World) : ISees (u.alloc (.cells #[.int .i64 1, .int .i64 2, .int .i64 2] 3)) (some ⟨u.heap.size, 0, none⟩) [1, 2, 2] := fun i x hx => by
  have hb := Blk.new u [.int .i64 1, .int .i64 2, .int .i64 2] 3
  match i, hx with
  | 0, hx => obtain rfl := Option.some.inj hx; exact ⟨u.heap.size, 0, rfl, hb.cell 0 rfl⟩
  | 1, hx => obtain rfl := Option.some.inj hx; exact ⟨u.heap.size, 0, rfl, hb.cell 1 rfl⟩
  | 2, hx => obtain rfl := Option.some.inj hx; exact ⟨u.heap.size, 0, rfl, hb.cell 2 rfl⟩
  | i + 3, hx => simp at hx
theorem newI2 (u : World) : ISees (u.alloc (.cells #[.int .i64 2, .int .i64 1] 3)) (some ⟨u.heap.size, 0, none⟩) [2, 1] := fun i x hx => by
  have hb := Blk.new u [.int .i64 2, .int .i64 1] 3
  match i, hx with
  | 0, hx => obtain rfl := Option.some.inj hx; exact ⟨u.heap.size, 0, rfl, hb.cell 0 rfl⟩
  | 1, hx => obtain rfl := Option.some.inj hx; exact ⟨u.heap.size, 0, rfl, hb.cell 1 rfl⟩
  | i + 2, hx => simp at hx
theorem hv_of {w : World} {S : SkId} {hs : List Nat} {T : List Tw} (h : SkAt w S hs T) : T.map (fun t => (t.hv : Int)) = (T.map Tw.p).map fun p => (p.2 : Int) := by
  rw [List.map_map]
  exact List.map_congr_left fun t ht => by show (t.hv : Int) = (t.h : Int); rw [(h.ok t ht).2.2]
theorem c_of (T : List Tw) : T.map Tw.c = (T.map Tw.p).map Prod.fst := by rw [List.map_map]; rfl
set_option maxRecDepth 100000 in
set_option maxHeartbeats 4000000 in
theorem lives6_any (w : World) : Calls Try.prog 8 #[] w fun e w' => e = .returned (.bool true) ∧ Below w.heap.size w w' := by
  have hb0 : Below w.heap.size w (w.alloc (.cells #[.int .i64 2, .int .i64 1] 3)) := (Below.refl _ _).alloc (Nat.le_refl _) _
  have N : Hid (Calls Try.prog 9 #[.slice (some ⟨w.heap.size, 0, none⟩) 2 2] (w.alloc (.cells #[.int .i64 2, .int .i64 1] 3)) fun e w' => ∃ S : SkId, e = .returned (.pointer (some ⟨S.l, 0, none⟩)) ∧ SkB w.heap.size w w' S [2, 1] []) :=
    (new_any (some ⟨w.heap.size, 0, none⟩) [2, 1] 2 _ (newI2 w) (fun h => by cases h) (by simp)).mono fun e w' ⟨S, he, hS, hb, hl⟩ => ⟨S, he, ⟨hS, hb0.trans (hb.mono hb0.size), fun b hb' => Nat.le_trans hb0.size (hl b hb'), Nat.le_trans hb0.size hb.size⟩⟩
  have AT : Hid (∀ (s : ByteArray) (n : Int) (w : World), Calls Try.prog 23 #[.string s, .int .i64 n] w fun x w' => x = .returned (.agg #[.string ⟨#[116]⟩, .string ⟨#[120]⟩, .int .i64 0, .string s, .int .i64 n, .bool false, .int .i64 0, .int .i64 1, .int .i64 n, .string ⟨#[]⟩]) ∧ Below w.heap.size w w') := fun s n w => at_any s n w
  have P : Hid (∀ (S : SkId) (T : List Tw) (c : Cx) (w' : World), SkB w.heap.size w w' S [2, 1] T → T.length < 10 → goodC c = true → c.k.t.size ≤ maxLen → c.k.p.size ≤ maxLen → c.k.c.size ≤ maxLen → c.v.s.size ≤ maxLen → Calls Try.prog 10 #[.pointer (some ⟨S.l, 0, none⟩), c.val] w' fun e w'' => ∃ T', e = .returned (.int .i64 0) ∧ SkB w.heap.size w w'' S [2, 1] T' ∧ T'.map Tw.p = putG [2, 1] (T.map Tw.p) c) :=
    fun S T c w' h hl hg h1 h2 h3 h4 => (put_any S [2, 1] T c w' h.sk (by omega) h1 h2 h3 h4).mono fun e w'' ⟨T', he, hS, hm, hM⟩ => ⟨T', by rw [he, if_pos hg], h.put hS hM, hm⟩
  clear hb0
  go_enter Try.func8, Try.ntmps8
  go_wp2_with fail
  refine N.out.mono ?_
  rintro e w1 ⟨S, rfl, h1⟩
  have H1 : Hid (SkB w.heap.size w w1 S [2, 1] []) := h1
  clear h1 N
  go_wp2_with fail
  refine (AT.out _ _ _).mono ?_
  rintro e w2 ⟨rfl, hb2⟩
  have P1h : Hid (Calls Try.prog 10 #[.pointer (some ⟨S.l, 0, none⟩), .agg #[.string ⟨#[116]⟩, .string ⟨#[120]⟩, .int .i64 0, .string ⟨#[98]⟩, .int .i64 1, .bool false, .int .i64 0, .int .i64 1, .int .i64 1, .string ⟨#[]⟩]] w2 fun e w'' => ∃ T', e = .returned (.int .i64 0) ∧ SkB w.heap.size w w'' S [2, 1] T' ∧ T'.map Tw.p = putG [2, 1] (([] : List Tw).map Tw.p) cB6) := P.out S [] cB6 w2 (H1.out.below hb2) (by simp) good6.1 (by decide) (by decide) (by decide) (by decide)
  clear hb2
  go_wp2_with fail
  refine P1h.out.mono ?_
  rintro e w3 ⟨T1, rfl, h3, m3⟩
  have H3 : Hid (SkB w.heap.size w w3 S [2, 1] T1 ∧ T1.map Tw.p = putG [2, 1] [] cB6) := ⟨h3, m3⟩
  clear P1h h3 m3 H1
  go_wp2_with fail
  refine (AT.out _ _ _).mono ?_
  rintro e w4 ⟨rfl, hb4⟩
  have l1 : T1.length < 10 := by
    have := congrArg List.length H3.out.2
    rw [List.length_map] at this
    have h2 := putG_len [2, 1] [] cB6
    rw [this]; simp at h2; omega
  have P2h : Hid (Calls Try.prog 10 #[.pointer (some ⟨S.l, 0, none⟩), .agg #[.string ⟨#[116]⟩, .string ⟨#[120]⟩, .int .i64 0, .string ⟨#[97]⟩, .int .i64 2, .bool false, .int .i64 0, .int .i64 1, .int .i64 2, .string ⟨#[]⟩]] w4 fun e w'' => ∃ T', e = .returned (.int .i64 0) ∧ SkB w.heap.size w w'' S [2, 1] T' ∧ T'.map Tw.p = putG [2, 1] (T1.map Tw.p) cA6) := P.out S T1 cA6 w4 (H3.out.1.below hb4) l1 good6.2.1 (by decide) (by decide) (by decide) (by decide)
  clear hb4 l1
  go_wp2_with fail
  refine P2h.out.mono ?_
  rintro e w5 ⟨T2, rfl, h5, m5⟩
  have H5 : Hid (SkB w.heap.size w w5 S [2, 1] T2 ∧ T2.map Tw.p = putG [2, 1] (putG [2, 1] [] cB6) cA6) := ⟨h5, by rw [← H3.out.2]; exact m5⟩
  clear P2h h5 m5 H3
  go_wp2_with fail
  refine (AT.out _ _ _).mono ?_
  rintro e w6 ⟨rfl, hb6⟩
  have l2 : T2.length < 10 := by
    have := congrArg List.length H5.out.2
    rw [List.length_map] at this
    have h2 := putG_len [2, 1] [] cB6
    have h3 := putG_len [2, 1] (putG [2, 1] [] cB6) cA6
    rw [this]; simp at h2; omega
  have P3h : Hid (Calls Try.prog 10 #[.pointer (some ⟨S.l, 0, none⟩), .agg #[.string ⟨#[116]⟩, .string ⟨#[120]⟩, .int .i64 0, .string ⟨#[99]⟩, .int .i64 3, .bool false, .int .i64 0, .int .i64 1, .int .i64 3, .string ⟨#[]⟩]] w6 fun e w'' => ∃ T', e = .returned (.int .i64 0) ∧ SkB w.heap.size w w'' S [2, 1] T' ∧ T'.map Tw.p = putG [2, 1] (T2.map Tw.p) cC6) := P.out S T2 cC6 w6 (H5.out.1.below hb6) l2 good6.2.2 (by decide) (by decide) (by decide) (by decide)
  clear hb6 l2
  go_wp2_with fail
  refine P3h.out.mono ?_
  rintro e w7 ⟨T3, rfl, h7, m7⟩
  have hm : T3.map Tw.p = [(cA6, 1), (cB6, 2), (cC6, 2)] := by
    rw [← put6, ← H5.out.2]; exact m7
  clear P3h m7 H5 P
  have hhv : T3.map (fun t => (t.hv : Int)) = [1, 2, 2] := by rw [hv_of h7.sk, hm]; rfl
  have hcc : T3.map Tw.c = [cA6, cB6, cC6] := by rw [c_of, hm]; rfl
  have hln : T3.length = 3 := by have := congrArg List.length hm; simpa using this
  have HB : Hid (∀ u, Below w7.heap.size w7 u → Below w.heap.size w u) := fun u hb => (h7.below hb).bel
  have HH : Hid (∀ u, Below w7.heap.size w7 u → Calls Try.prog 19 #[.pointer (some ⟨S.l, 0, none⟩)] u fun e W' => ∃ ao cap, e = .returned (.slice ao 3 cap) ∧ ISees W' ao [1, 2, 2] ∧ Below u.heap.size u W') := fun u hb => (heights_any S [2, 1] T3 u (h7.below hb).sk).mono fun e W' ⟨v, he, ho, hb'⟩ => by
    rw [hhv] at ho
    obtain ⟨ao, cap, hv, hi⟩ := owns_isees ho
    exact ⟨ao, cap, by rw [he, hv]; rfl, hi, hb'⟩
  have HL : Hid (∀ u, Below w7.heap.size w7 u → Calls Try.prog 20 #[.pointer (some ⟨S.l, 0, none⟩)] u fun e w' => e = .returned (.int .i64 3) ∧ w' = u) := fun u hb => by
    have := len_any S [2, 1] T3 u (h7.below hb).sk
    rw [hln] at this; exact this
  have HA : Hid (∀ u, Below w7.heap.size w7 u → Calls Try.prog 17 #[.pointer (some ⟨S.l, 0, none⟩)] u fun e W' => ∃ g cap, e = .returned (.slice (some ⟨g, 0, none⟩) 3 cap) ∧ TenX W' g 0 cA6 ∧ Below u.heap.size u W') := fun u hb => (all_any S [2, 1] T3 u (h7.below hb).sk).mono fun e W' ⟨v, he, ho, hb'⟩ => by
    have ho2 : W'.ownsRow u.heap.size 40 10 v (T3.map Tw.c).length ((T3.map Tw.c).flatMap xs10) := by rw [List.length_map]; exact ho
    rw [hcc] at ho2
    obtain ⟨ao, cap, hv, -, hT⟩ := owns_xsees ho2
    obtain ⟨g, e1, -, t⟩ := hT 0 cA6 rfl
    rw [Nat.zero_mul] at t
    exact ⟨g, cap, by rw [he, hv, e1]; rfl, t, hb'⟩
  have HI : Hid (∀ (u : World) (ao bo : Option Addr) (ca cb : Nat), ISees u ao [1, 2, 2] → ISees u bo [1, 2, 2] → Calls Try.prog 18 #[.slice ao 3 ca, .slice bo 3 cb] u fun e w' => e = .returned (.bool true) ∧ Below u.heap.size u w') := fun u ao bo ca cb ha hb => ints_same ao bo [1, 2, 2] ca cb u ha hb (by simp)
  clear hm hhv hcc hln h7
  go_wp2_with fail
  go_region_law (first
    | (go_simp; go_at_call 19; refine (HH.out _ (by first | exact (Below.refl w7.heap.size w7).drew | exact (((Below.refl w7.heap.size w7).alloc (Nat.le_refl _) _).drew))).mono ?_; rintro e u1 ⟨aoH, capH, rfl, hIH, hbH⟩)
    | (go_simp; go_at_call 18; have hI1 := hIH; refine (HI.out _ aoH _ capH _ (by first | exact hI1 | exact hI1.below ((Below.refl u1.heap.size u1).alloc (Nat.le_refl _) _) (Nat.le_refl _)) (by first | exact ISees.below (w := (w7.alloc (.cells #[.int .i64 1, .int .i64 2, .int .i64 2] 3)).drew) (newI w7) hbH (Nat.le_refl _) | exact newI u1)).mono ?_; rintro e u2 ⟨rfl, hb2⟩; have hB2 : Below w7.heap.size w7 u2 := (by first | exact ((Below.refl w7.heap.size w7).drew.trans (hbH.mono (Nat.le_refl _))).trans ((((Below.refl u1.heap.size u1).alloc (Nat.le_refl _) _).trans (hb2.mono (by simp))).mono hbH.size) | exact ((((Below.refl w7.heap.size w7).alloc (Nat.le_refl _) (.cells #[.int .i64 1, .int .i64 2, .int .i64 2] 3)).drew).trans (hbH.mono (by show _ ≤ (w7.alloc _).heap.size; simp))).trans (hb2.mono (Nat.le_trans (by show _ ≤ (w7.alloc _).heap.size; simp) hbH.size))))
    | (go_simp; go_at_call 20; refine (HL.out _ hB2).mono ?_; rintro e u3 ⟨rfl, rfl⟩)
    | (go_simp; go_at_call 17; have hB3' := hB3; refine (HA.out _ hB3').mono ?_; rintro e u4 ⟨g4, cap4, rfl, t4, hb4⟩; have hB4 : Below w7.heap.size w7 u4 := hB3'.trans (hb4.mono hB3'.size); simp only [cA6] at t4; have t4c := t4; obtain ⟨y0, y1, y2, y3, y4, y5, y6, y7, y8, y9⟩ := t4c; simp only [Nat.zero_add] at y0 y1 y2 y3 y4 y5 y6 y7 y8 y9)
    | (go_simp; go_at_call 17; refine (HA.out _ hB2).mono ?_; rintro e u3 ⟨g3, cap3, rfl, -, hb3⟩; have hB3 : Below w7.heap.size w7 u3 := hB2.trans (hb3.mono hB2.size))
    | (go_simp; go_at_call 23; refine (AT.out _ _ _).mono ?_; rintro e u5 ⟨rfl, hb5⟩; have hB5 : Below w7.heap.size w7 u5 := hB4.trans (hb5.mono hB4.size); have t5 := t4.below hb5 t4.lt; obtain ⟨z0, z1, z2, z3, z4, z5, z6, z7, z8, z9⟩ := t5; simp only [Nat.zero_add] at z0 z1 z2 z3 z4 z5 z6 z7 z8 z9))
  all_goals
    go_wp2_with fail
    go_ret
    exact ⟨rfl, HB.out _ hB5⟩
end Go.Proofs.Ytlhojbgpmjcjlaa

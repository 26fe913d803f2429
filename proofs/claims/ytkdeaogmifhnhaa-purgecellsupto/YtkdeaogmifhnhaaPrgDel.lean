/-
  CONTRACTS: slices.IndexFunc and slices.DeleteFunc at cells, with the closure of forget.
-/
import Derived.Test.YtkdeaogmifhnhaaCxNorm
import Derived.Lib.SliceRun
import Derived.Lib.LazyBuf
namespace Go.Proofs.Ytkdeaogmifhnhaa
open Go.RowKit

theorem run_clear_any {P : Program} (w : World) (t e ty : TypeId) (z : Value) (ht : P.underlying t = some (.slice e)) (hv : ∀ w, (zeroValue e).run P w = .ok z w) (b o n c : Nat) (hn : 0 < n) (h1 : ∀ v ∈ (Builtin.zeroCells z.cells n).toList, v.oneCell' = true)
    (hc : ∀ j, j < (Builtin.zeroCells z.cells n).toList.length → (w.cell? ⟨b, o + j, none⟩).isSome = true) (hf : ∀ j, j < (Builtin.zeroCells z.cells n).toList.length → w.frozen? ⟨b, o + j, none⟩ = false) :
    (Builtin.clear_ #[t] ty #[.slice (some ⟨b, o, none⟩) n c]).run P w = .ok (.tuple #[]) (w.setCells b o (Builtin.zeroCells z.cells n).toList) := by
  have hst := run_storeCells_cells (P := P) b o (Builtin.zeroCells z.cells n).toList 0 w (by simpa using hc) (by simpa using hf) h1
  simp only [Nat.add_zero] at hst
  obtain ⟨m, rfl⟩ : ∃ m, n = m + 1 := ⟨n - 1, by omega⟩
  simp [Builtin.clear_, run_underlying ht, hv, hst]
theorem grown_belowB {w w' : World} {g B : Nat} (h : w.grownBy w' (some g)) (hB : B ≤ w.heap.size) (hg : B ≤ g) : Below B w w' := ⟨h.os, h.tape, h.output, h.size, fun k hk => h.block k (by omega) (by simp; omega)⟩
/-- The cells that stay. -/
def kpt (p : Cx → Bool) (l : List Cx) : List Cx := l.filter fun c => !p c
set_option maxRecDepth 100000 in
set_option maxHeartbeats 1000000 in
theorem indexDel_any (ao : Option Addr) (l : List Cx) (cap : Nat) (w : World) (p : Cx → Bool) (fc : Array Value) (hs : XSees w ao l) (hl : l.length ≤ 1000000)
    (hf : ∀ (u : World) (c : Cx), c ∈ l → Below w.heap.size w u → Calls Try.prog 25 (#[c.val] ++ fc) u fun e w' => e = .returned (.bool (p c)) ∧ Below u.heap.size u w') :
    Calls Try.prog 31 #[.slice ao l.length cap, .func (.func 25) #[] fc] w fun e w' => ((e = .returned (.int .i64 (-1)) ∧ ∀ c ∈ l, p c = false) ∨ ∃ i : Nat, e = .returned (.int .i64 (i : Int)) ∧ i < l.length ∧ (∀ c ∈ l.take i, p c = false) ∧ ∃ c, l[i]? = some c ∧ p c = true) ∧ Below w.heap.size w w' := by
  have hlz : (l.length : Int) ≤ 1000000 := by omega
  have Hf : Hid (∀ (u : World) (c : Cx), c ∈ l → Below w.heap.size w u → Calls Try.prog 25 (#[c.val] ++ fc) u fun e w' => e = .returned (.bool (p c)) ∧ Below u.heap.size u w') := hf
  clear hf
  go_enter Try.func31, Try.ntmps31
  go_wp2_with fail
  go_loopw [8] (fun s8 wr => ∃ i : Nat, i ≤ l.length ∧ s8 = .int .i64 i ∧ (∀ c ∈ l.take i, p c = false) ∧ Below w.heap.size w wr) (fun s8 _ => l.length - (intOf s8).toNat)
  case atStart => exact ⟨0, by omega, rfl, by simp, Below.refl _ _⟩
  case round =>
    obtain ⟨i, hi, rfl, hr, hbr⟩ := hrel
    have HR : Hid (∀ c ∈ l.take i, p c = false) := hr
    clear hr
    rcases Nat.lt_or_ge i l.length with hlt | hge
    · have hc : l[i]? = some l[i] := List.getElem?_eq_getElem hlt
      have HC : Hid (l[i]? = some l[i]) := hc
      have HT : Hid (l.take (i + 1) = l.take i ++ [l[i]]) := takeX_succ hc
      obtain ⟨b, off, rfl, x1⟩ := (hs.below hbr (Nat.le_refl _)) i _ hc
      have G : Hid (Calls Try.prog 25 (#[l[i].val] ++ fc) wr fun x w' => x = .returned (.bool (p l[i])) ∧ Below wr.heap.size wr w') := Hf.out wr _ (List.getElem_mem hlt) hbr
      have hltz : (i : Int) < (l.length : Int) := by omega
      generalize l[i] = c at *
      clear hc
      cases hg : p c
      · rw [hg] at G
        have HG : Hid (p c = false) := hg
        clear hg
        obtain ⟨⟨ct, cp, cr, cc⟩, ⟨cti, cd, cl, ck, cn, cstr⟩⟩ := c
        obtain ⟨k0, k1, k2, k3, k4, k5, k6, k7, k8, k9⟩ := x1
        simp only [Cx.val, Cx.a] at k0 k1 k2 k3 k4 k5 k6 k7 k8 k9 G
        go_wp2_with fail
        refine G.out.mono ?_
        rintro e w1 ⟨rfl, hb1⟩
        go_wp2_with fail
        go_roundw
        case rel =>
          refine ⟨i + 1, by omega, by simp, ?_, hbr.trans (hb1.mono hbr.size)⟩
          intro c hc
          rw [HT.out, List.mem_append, List.mem_singleton] at hc
          rcases hc with h | rfl
          · exact HR.out c h
          · exact HG.out
        case measure => simp [intOf]; omega
      · rw [hg] at G
        have HG : Hid (p c = true) := hg
        clear hg
        obtain ⟨⟨ct, cp, cr, cc⟩, ⟨cti, cd, cl, ck, cn, cstr⟩⟩ := c
        obtain ⟨k0, k1, k2, k3, k4, k5, k6, k7, k8, k9⟩ := x1
        simp only [Cx.val, Cx.a] at k0 k1 k2 k3 k4 k5 k6 k7 k8 k9 G
        go_wp2_with fail
        refine G.out.mono ?_
        rintro e w1 ⟨rfl, hb1⟩
        go_wp2_with fail
        go_ret
        exact ⟨.inr ⟨i, rfl, hlt, HR.out, _, HC.out, HG.out⟩, hbr.trans (hb1.mono hbr.size)⟩
    · obtain rfl : i = l.length := by omega
      go_wp2_with fail
      go_ret
      exact ⟨.inl ⟨rfl, fun c hc => HR.out c (by rw [List.take_length]; exact hc)⟩, hbr⟩
theorem kpt_take_succ {p : Cx → Bool} {l : List Cx} {j : Nat} {c : Cx} (h : l[j]? = some c) : kpt p (l.take (j + 1)) = if p c = true then kpt p (l.take j) else kpt p (l.take j) ++ [c] := by
  rw [takeX_succ h]
  unfold kpt
  rw [List.filter_append]
  cases hp : p c <;> simp [hp]
theorem kpt_all {p : Cx → Bool} {l : List Cx} (h : ∀ c ∈ l, p c = false) : kpt p l = l := by
  unfold kpt
  rw [List.filter_eq_self]
  intro c hc
  rw [h c hc]
  rfl
theorem zc_one (n : Nat) : ∀ v ∈ (Builtin.zeroCells (Value.agg #[.string ⟨#[]⟩, .string ⟨#[]⟩, .int .i64 0, .string ⟨#[]⟩, .int .i64 0, .bool false, .int .i64 0, .int .i64 0, .int .i64 0, .string ⟨#[]⟩]).cells n).toList, v.oneCell' = true := by
  intro v hv
  have e : (Value.agg #[.string ⟨#[]⟩, .string ⟨#[]⟩, .int .i64 0, .string ⟨#[]⟩, .int .i64 0, .bool false, .int .i64 0, .int .i64 0, .int .i64 0, .string ⟨#[]⟩]).cells = #[.string ⟨#[]⟩, .string ⟨#[]⟩, .int .i64 0, .string ⟨#[]⟩, .int .i64 0, .bool false, .int .i64 0, .int .i64 0, .int .i64 0, .string ⟨#[]⟩] := rfl
  rw [e] at hv
  unfold Builtin.zeroCells at hv
  rw [Array.toList_map, List.mem_map] at hv
  obtain ⟨i, _, rfl⟩ := hv
  have : ∀ j, j < 10 → ((#[.string ⟨#[]⟩, .string ⟨#[]⟩, .int .i64 0, .string ⟨#[]⟩, .int .i64 0, .bool false, .int .i64 0, .int .i64 0, .int .i64 0, .string ⟨#[]⟩] : Array Value)[j]!).oneCell' = true := by decide
  exact this _ (Nat.mod_lt _ (by decide))
theorem zc_len (n : Nat) : (Builtin.zeroCells (Value.agg #[.string ⟨#[]⟩, .string ⟨#[]⟩, .int .i64 0, .string ⟨#[]⟩, .int .i64 0, .bool false, .int .i64 0, .int .i64 0, .int .i64 0, .string ⟨#[]⟩]).cells n).toList.length = n * 10 := by
  unfold Builtin.zeroCells
  simp [Value.cells]
theorem Rx.there {w : World} {B g cap : Nat} {L : List Cx} (h : Rx w B g cap L) {k : Nat} (hk : k < L.length * 10) : (w.cell? ⟨g, k, none⟩).isSome = true := by
  have hlt : k / 10 < L.length := by omega
  have hc : L[k / 10]? = some L[k / 10] := List.getElem?_eq_getElem hlt
  obtain ⟨k0, k1, k2, k3, k4, k5, k6, k7, k8, k9⟩ := h.ten hc
  have hm : k = k / 10 * 10 + k % 10 := by omega
  have hr : k % 10 < 10 := Nat.mod_lt _ (by decide)
  rw [hm]
  generalize k % 10 = r at hr
  obtain rfl | rfl | rfl | rfl | rfl | rfl | rfl | rfl | rfl | rfl : r = 0 ∨ r = 1 ∨ r = 2 ∨ r = 3 ∨ r = 4 ∨ r = 5 ∨ r = 6 ∨ r = 7 ∨ r = 8 ∨ r = 9 := by omega
  · rw [Nat.add_zero, k0]; rfl
  · rw [k1]; rfl
  · rw [k2]; rfl
  · rw [k3]; rfl
  · rw [k4]; rfl
  · rw [k5]; rfl
  · rw [k6]; rfl
  · rw [k7]; rfl
  · rw [k8]; rfl
  · rw [k9]; rfl
/-- The row cleared from the place i on: what lies ahead of it stays. -/
theorem cleared {w : World} {B g cap i : Nat} {L : List Cx} (h : Rx w B g cap L) (hi : i < L.length) (n c : Nat) (hn : i + n = L.length) (hB : B ≤ g) (w0 : World) (hb : Below B w0 w) (K : List Cx) (hK : L.take i = K) (ty : TypeId) :
    ∃ w', (Builtin.clear_ #[22] ty #[.slice (some ⟨g, i * 10, none⟩) n c]).run Try.prog w = .ok (.tuple #[]) w' ∧ XSees w' (some ⟨g, 0, none⟩) K ∧ Below B w0 w' := by
  refine ⟨_, run_clear_any w 22 35 ty _ Try.underlying22 (fun w => Try.zeroValue35 w) g (i * 10) n c (by omega) (zc_one n) (fun j hj => ?_) (fun j hj => ?_), ?_, below_setCells hB _ _ _ hb⟩
  · rw [zc_len] at hj
    exact h.there (by omega)
  · have h0 : w.ownsRow B 35 10 (.slice (some ⟨g, 0, none⟩) L.length cap) L.length (L.flatMap xs10) := h
    exact h0.frozenAt _
  · intro j x hx
    have hj := (List.getElem?_eq_some_iff.1 hx).1
    have hKl : K.length ≤ i := by rw [← hK, List.length_take]; exact Nat.min_le_left _ _
    have hL : L[j]? = some x := by
      rw [← hK, List.getElem?_take] at hx
      simpa [show j < i by omega] using hx
    have t := h.ten hL
    have e : ∀ d, d < 10 → (w.setCells g (i * 10) (Builtin.zeroCells (Value.agg #[.string ⟨#[]⟩, .string ⟨#[]⟩, .int .i64 0, .string ⟨#[]⟩, .int .i64 0, .bool false, .int .i64 0, .int .i64 0, .int .i64 0, .string ⟨#[]⟩]).cells n).toList).cell? ⟨g, 0 + j * 10 + d, none⟩ = w.cell? ⟨g, j * 10 + d, none⟩ := fun d hd => by
      rw [Nat.zero_add]
      exact World.cell?_setCells_out g _ _ _ _ (fun _ _ => .inl (by show j * 10 + d < i * 10; omega))
    obtain ⟨k0, k1, k2, k3, k4, k5, k6, k7, k8, k9⟩ := t
    exact ⟨g, 0, rfl, (e 0 (by omega)).trans k0, (e 1 (by omega)).trans k1, (e 2 (by omega)).trans k2, (e 3 (by omega)).trans k3, (e 4 (by omega)).trans k4, (e 5 (by omega)).trans k5, (e 6 (by omega)).trans k6, (e 7 (by omega)).trans k7, (e 8 (by omega)).trans k8, (e 9 (by omega)).trans k9⟩
set_option maxRecDepth 100000 in
set_option maxHeartbeats 2000000 in
theorem delete_any (B : Nat) (v : Value) (l : List Cx) (w : World) (p : Cx → Bool) (fc : Array Value) (hr : w.ownsRow B 35 10 v l.length (l.flatMap xs10)) (hB : B ≤ w.heap.size) (hl : l.length ≤ 1000000)
    (hf : ∀ (u : World) (c : Cx), c ∈ l → Below B w u → Calls Try.prog 25 (#[c.val] ++ fc) u fun e w' => e = .returned (.bool (p c)) ∧ Below u.heap.size u w') :
    Calls Try.prog 23 #[v, .func (.func 25) #[] fc] w fun e w' => ∃ ao cap, e = .returned (.slice ao (kpt p l).length cap) ∧ XSees w' ao (kpt p l) ∧ Below B w w' := by
  have hlz : (l.length : Int) ≤ 1000000 := by omega
  have Hf : Hid (∀ (u : World) (c : Cx), c ∈ l → Below B w u → Calls Try.prog 25 (#[c.val] ++ fc) u fun e w' => e = .returned (.bool (p c)) ∧ Below u.heap.size u w') := hf
  clear hf
  obtain ⟨ao, cap, rfl, hx, hT⟩ := owns_xsees hr
  have HX : Hid (XSees w ao l) := hx
  have I : Hid (Calls Try.prog 31 #[.slice ao l.length cap, .func (.func 25) #[] fc] w fun e w' => ((e = .returned (.int .i64 (-1)) ∧ ∀ c ∈ l, p c = false) ∨ ∃ i : Nat, e = .returned (.int .i64 (i : Int)) ∧ i < l.length ∧ (∀ c ∈ l.take i, p c = false) ∧ ∃ c, l[i]? = some c ∧ p c = true) ∧ Below w.heap.size w w') :=
    indexDel_any ao l cap w p fc hx hl (fun u c hc hu => Hf.out u c hc (hu.mono hB))
  have HT : Hid (∀ i c, l[i]? = some c → ∃ g, ao = some ⟨g, 0, none⟩ ∧ B ≤ g) := fun i c h => by obtain ⟨g, e, h1, _⟩ := hT i c h; exact ⟨g, e, h1⟩
  have HR : Hid (w.ownsRow B 35 10 (.slice ao l.length cap) l.length (l.flatMap xs10)) := hr
  clear hr hx hT
  go_enter Try.func23, Try.ntmps23
  go_wp2_with fail
  refine I.out.mono ?_
  rintro e w1 ⟨hcase, hb1⟩
  have HB1 : Hid (Below w.heap.size w w1) := hb1
  clear hb1
  rcases hcase with ⟨rfl, hall⟩ | ⟨i0, rfl, hi0, hpre, c0, hc0, hp0⟩
  · have HA : Hid (kpt p l = l) := kpt_all hall
    clear hall
    go_wp2_with fail
    go_ret
    refine ⟨ao, cap, by rw [HA.out]; rfl, ?_, HB1.out.mono hB⟩
    rw [HA.out]
    exact HX.out.below HB1.out (Nat.le_refl _)
  · obtain ⟨g, rfl, hg⟩ := HT.out _ _ hc0
    have HG : Hid (B ≤ g) := hg
    have hR1 : Rx w1 B g cap l := by
      have h : Rx w B g cap l := HR.out
      exact h.below HB1.out
    have HP : Hid (kpt p (l.take (i0 + 1)) = l.take i0) := by
      have h := kpt_take_succ (p := p) hc0
      rw [if_pos hp0, kpt_all hpre] at h
      exact h
    clear hpre hc0 hp0 hg I HT HR HX
    have d1 : ((i0 : Int) == -1) = false := by simp
    have hi0z : (i0 : Int) < 1000000 := by omega
    go_wp2_with fail
    go_loopw [5, 6] (fun s5 s6 wr => ∃ (i j : Nat) (L : List Cx), s5 = .int .i64 (i : Int) ∧ s6 = .int .i64 (j : Int) ∧ i < j ∧ j ≤ l.length ∧ Rx wr B g cap L ∧ L.length = l.length ∧ L.take i = kpt p (l.take j) ∧ L.drop j = l.drop j ∧ Below B w wr) (fun _ s6 _ => l.length - (intOf s6).toNat)
    case atStart => exact ⟨i0, i0 + 1, l, rfl, by go_num, by omega, by omega, hR1, rfl, HP.out.symm, rfl, HB1.out.mono hB⟩
    case round =>
      obtain ⟨i, j, L, rfl, rfl, hij, hj, hR, hLl, htk, hdr, hbr⟩ := hrel
      have HTK : Hid (L.take i = kpt p (l.take j)) := htk
      have HDR : Hid (L.drop j = l.drop j) := hdr
      have HLL : Hid (L.length = l.length) := hLl
      have HRx : Hid (Rx wr B g cap L) := hR
      have HBR : Hid (Below B w wr) := hbr
      clear htk hdr hR1 HB1 HP
      rcases Nat.lt_or_ge j l.length with hlt | hge
      · obtain ⟨c, hc⟩ : ∃ c, l[j]? = some c := ⟨_, List.getElem?_eq_getElem hlt⟩
        have hLc : L[j]? = some c := by
          have h1 : (L.drop j)[0]? = some c := by rw [HDR.out, List.getElem?_drop]; simpa using hc
          rw [List.getElem?_drop] at h1
          simpa using h1
        have hmem := List.mem_of_getElem? hc
        have HS : Hid (kpt p (l.take (j + 1)) = if p c = true then kpt p (l.take j) else kpt p (l.take j) ++ [c]) := kpt_take_succ hc
        have t := hR.ten hLc
        have hltz : (j : Int) < (l.length : Int) := by omega
        obtain ⟨wv, hwv⟩ : ∃ wv, wv = wr.alloc (.cells c.a 35) := ⟨_, rfl⟩
        have hBv : Below wr.heap.size wr wv := by rw [hwv]; exact (Below.refl _ _).alloc (Nat.le_refl _) _
        have tv : TenX wv wr.heap.size 0 c := by rw [hwv]; exact TenX.new wr c _
        have G : Hid (Calls Try.prog 25 (#[c.val] ++ fc) wv fun x w' => x = .returned (.bool (p c)) ∧ Below wv.heap.size wv w') := Hf.out wv _ hmem (hbr.trans (hBv.mono (Nat.le_trans hB hbr.size)))
        have hRv : Rx wv B g cap L := hR.below hBv
        have HBV : Hid (Below B w wv) := hbr.trans (hBv.mono (Nat.le_trans hB hbr.size))
        have HRv : Hid (Rx wv B g cap L) := hRv
        have HLI : Hid (∀ x : Cx, Rx wv B g cap L → L[j]? = some x → True) := fun _ _ _ => trivial
        have HLc : Hid (L[j]? = some c) := hLc
        have wj : IntKind.i64.wrap ((j : Int) + 1) = ((j + 1 : Nat) : Int) := by rw [IntKind.wrap_i64]; omega
        clear hbr hR hRv hBv hc hLc hmem HRx HBR HLI hLl
        cases hg : p c
        · rw [hg] at G
          have HN : Hid (kpt p (l.take (j + 1)) = kpt p (l.take j) ++ [c]) := by
            have h := HS.out
            rw [if_neg (by rw [hg]; decide)] at h
            exact h
          clear hg HS
          have HFin : Hid (∀ u, Below wv.heap.size wv u → Rx (set10 u g (i * 10) c) B g cap (L.set i c) ∧ Below B w (set10 u g (i * 10) c)) := fun u hu => by
            have hRu : Rx u B g cap L := HRv.out.below hu
            have hiL : i < L.length := by rw [HLL.out]; omega
            have p1 := hRu.put (List.getElem?_eq_getElem hiL) c
            have hbu := HBV.out.trans (hu.mono (Nat.le_trans hB HBV.out.size))
            exact ⟨p1.1, hbu.trans (grown_belowB p1.2 (Nat.le_trans hB hbu.size) HG.out)⟩
          have HFz : Hid (∀ u, Below wv.heap.size wv u → (∀ k, u.frozen? ⟨g, k, none⟩ = false) ∧ TenX u wr.heap.size 0 c ∧ ∃ d, TenX u g (i * 10) d) := fun u hu => by
            have hRu : Rx u B g cap L := HRv.out.below hu
            have h0 : u.ownsRow B 35 10 (.slice (some ⟨g, 0, none⟩) L.length cap) L.length (L.flatMap xs10) := hRu
            have hiL : i < L.length := by rw [HLL.out]; omega
            exact ⟨fun k => h0.frozenAt k, tv.below hu tv.lt, _, hRu.ten (List.getElem?_eq_getElem hiL)⟩
          have tv0 := tv
          obtain ⟨⟨ct, cp, cr, cc⟩, ⟨cti, cd, cl, ck, cn, cstr⟩⟩ := c
          obtain ⟨k0, k1, k2, k3, k4, k5, k6, k7, k8, k9⟩ := t
          obtain ⟨x0, x1, x2, x3, x4, x5, x6, x7, x8, x9⟩ := tv0
          simp only [Cx.val, Cx.a, Nat.zero_add] at k0 k1 k2 k3 k4 k5 k6 k7 k8 k9 x0 x1 x2 x3 x4 x5 x6 x7 x8 x9 G hwv
          have hiz : (i : Int) < (l.length : Int) := by omega
          go_wp2_with fail
          rw [← hwv]
          clear hwv k0 k1 k2 k3 k4 k5 k6 k7 k8 k9
          go_wp2_with fail
          refine G.out.mono ?_
          rintro e u ⟨rfl, hu⟩
          obtain ⟨fz, tu, ⟨⟨et, ep, er, ec⟩, ⟨eti, ed, el, ek, en, estr⟩⟩, hsm⟩ := HFz.out u hu
          clear x0 x1 x2 x3 x4 x5 x6 x7 x8 x9
          obtain ⟨x0, x1, x2, x3, x4, x5, x6, x7, x8, x9⟩ := tu
          simp only [Nat.zero_add] at x0 x1 x2 x3 x4 x5 x6 x7 x8 x9
          obtain ⟨s0, s1, s2, s3, s4, s5, s6, s7, s8, s9⟩ := hsm
          simp only at s0 s1 s2 s3 s4 s5 s6 s7 s8 s9
          have wi : IntKind.i64.wrap ((i : Int) + 1) = ((i + 1 : Nat) : Int) := by rw [IntKind.wrap_i64]; omega
          go_wp2_with fail
          go_roundw
          case rel =>
            obtain ⟨f1, f2⟩ := HFin.out u hu
            refine ⟨i + 1, j + 1, L.set i _, by go_num, by go_num, by omega, by omega, f1, by rw [List.length_set]; exact HLL.out, ?_, ?_, f2⟩
            · rw [HN.out, ← HTK.out]
              have hiL : i < L.length := by rw [HLL.out]; omega
              rw [List.take_add_one, List.getElem?_set_self hiL, List.take_set]
              simp
              rw [List.set_eq_of_length_le (by rw [List.length_take]; exact Nat.min_le_left _ _)]
            · rw [List.drop_set_of_lt (by omega)]
              have h1 := congrArg (List.drop 1) HDR.out
              rw [List.drop_drop, List.drop_drop] at h1
              exact h1
          case measure => simp [intOf]; omega
        · rw [hg] at G
          have HN : Hid (kpt p (l.take (j + 1)) = kpt p (l.take j)) := by
            have h := HS.out
            rw [if_pos hg] at h
            exact h
          clear hg HS
          have HFin : Hid (∀ u, Below wv.heap.size wv u → Rx u B g cap L ∧ Below B w u) := fun u hu => ⟨HRv.out.below hu, HBV.out.trans (hu.mono (Nat.le_trans hB HBV.out.size))⟩
          obtain ⟨⟨ct, cp, cr, cc⟩, ⟨cti, cd, cl, ck, cn, cstr⟩⟩ := c
          obtain ⟨k0, k1, k2, k3, k4, k5, k6, k7, k8, k9⟩ := t
          obtain ⟨x0, x1, x2, x3, x4, x5, x6, x7, x8, x9⟩ := tv
          simp only [Cx.val, Cx.a, Nat.zero_add] at k0 k1 k2 k3 k4 k5 k6 k7 k8 k9 x0 x1 x2 x3 x4 x5 x6 x7 x8 x9 G hwv
          go_wp2_with fail
          rw [← hwv]
          clear hwv k0 k1 k2 k3 k4 k5 k6 k7 k8 k9
          go_wp2_with fail
          refine G.out.mono ?_
          rintro e u ⟨rfl, hu⟩
          go_wp2_with fail
          go_roundw
          case rel =>
            obtain ⟨f1, f2⟩ := HFin.out u hu
            refine ⟨i, j + 1, L, rfl, by go_num, by omega, by omega, f1, HLL.out, by rw [HN.out]; exact HTK.out, ?_, f2⟩
            have h1 := congrArg (List.drop 1) HDR.out
            rw [List.drop_drop, List.drop_drop] at h1
            exact h1
          case measure => simp [intOf]; omega
      · obtain rfl : j = l.length := by omega
        have hK : Hid (L.take i = kpt p l) := by
          have h := HTK.out
          rw [List.take_length] at h
          exact h
        have hlen : Hid ((kpt p l).length = i) := by
          have h := congrArg List.length hK.out
          rw [List.length_take, HLL.out] at h
          have h2 : (kpt p l).length = i := by omega
          exact h2
        obtain ⟨w', hrun, hxs, hbl⟩ := cleared hR (i := i) (by omega) (l.length - i) (cap - i) (by omega) HG.out w hbr (kpt p l) hK.out 0
        have hcap : l.length ≤ cap := by
          have h0 : wr.ownsRow B 35 10 (.slice (some ⟨g, 0, none⟩) L.length cap) L.length (L.flatMap xs10) := hR
          obtain ⟨ao2, cap2, e2, h2, _⟩ := owns_recs xs10_len h0
          cases e2
          omega
        have hlt2 : ¬ ((l.length : Nat) : Int) < (l.length : Int) := by omega
        have hiz : (i : Int) ≤ (l.length : Int) := by omega
        have HX : Hid (XSees w' (some ⟨g, 0, none⟩) (kpt p l) ∧ Below B w w') := ⟨hxs, hbl⟩
        clear hR hbr HRx HBR hxs hbl Hf HLL HTK HDR
        go_wp2_with fail
        go_ret
        refine ⟨some ⟨g, 0, none⟩, ⟨cap, ?_⟩, HX.out.1, HX.out.2⟩
        rw [hlen.out]
        rfl
end Go.Proofs.Ytkdeaogmifhnhaa

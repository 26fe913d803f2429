/-
  SEVERAL TEXTS IN ONE: CellPlain, CellWrite, CellVer, VerCmp, BlmBytes, CodLives.
-/
import Derived.Test.YtglaocghcgcghaaGreatDoorMany16
import Derived.Deep.RegionLaw
import Derived.Test.YtglaocghcgcghaaGreatDoorMany4
import Derived.Test.YtglaocghcgcghaaGreatDoorMany17
import Derived.Test.YtglaocghcgcghaaGreatDoorMany3
import Derived.Test.YtglaocghcgcghaaGreatDoorMany6
import Derived.Test.YtglaocghcgcghaaGreatDoorMany14
import Derived.Lib.SlBytesConst
namespace Go.Proofs.YtglaocghcgcghaaGreatDoor
open Go.RowKit

structure KeyV where
  table : ByteArray
  part : ByteArray
  row : Int
  col : ByteArray
structure ValV where
  kind : Int
  num : Int
  s : ByteArray
structure VerV where
  time : Int
  dead : Bool
  loc : Int
  val : ValV
structure CellV where
  key : KeyV
  ver : VerV

/-- A number that an int can hold. -/
def I64 (n : Int) : Prop := -9223372036854775808 ≤ n ∧ n ≤ 9223372036854775807
structure KeyV.Ok (k : KeyV) : Prop where
  row : I64 k.row
structure ValV.Ok (k : ValV) : Prop where
  kind : I64 k.kind
  num : I64 k.num
structure VerV.Ok (k : VerV) : Prop where
  time : I64 k.time
  loc : I64 k.loc
  val : k.val.Ok
structure CellV.Ok (c : CellV) : Prop where
  key : c.key.Ok
  ver : c.ver.Ok

def keyA (k : KeyV) : Array Value := #[.string k.table, .string k.part, .int .i64 k.row, .string k.col]
def valA (k : ValV) : Array Value := #[.int .i64 k.kind, .int .i64 k.num, .string k.s]
def verA (k : VerV) : Array Value := #[.int .i64 k.time, .bool k.dead, .int .i64 k.loc, .int .i64 k.val.kind, .int .i64 k.val.num, .string k.val.s]
def cellA (c : CellV) : Array Value := #[.string c.key.table, .string c.key.part, .int .i64 c.key.row, .string c.key.col, .int .i64 c.ver.time, .bool c.ver.dead, .int .i64 c.ver.loc, .int .i64 c.ver.val.kind, .int .i64 c.ver.val.num, .string c.ver.val.s]

/-- An int without a sign; the bits of an int. -/
def zigN (n : Int) : Nat := (zigZ n).toNat
theorem zigN_eq {n : Int} (h : I64 n) : zigZ n = (zigN n : Int) ∧ zigN n < 18446744073709551616 := by
  have := zigZ_bd n h.1 h.2
  unfold zigN
  omega
theorem zag_zigN {n : Int} (h : I64 n) : zagZ (zigN n : Int) = n := by rw [← (zigN_eq h).1, zag_zig]
def kindN (n : Int) : Nat := (n % 18446744073709551616).toNat
def kindZ (u : Nat) : Int := if u < 9223372036854775808 then (u : Int) else (u : Int) - 18446744073709551616
theorem kindN_lt (n : Int) : kindN n < 18446744073709551616 := by unfold kindN; omega
theorem kind_back {n : Int} (h : I64 n) : kindZ (kindN n) = n := by
  have h1 := h.1
  have h2 := h.2
  unfold kindZ kindN
  split <;> omega
theorem kindZ_ok {u : Nat} (h : u < 18446744073709551616) : I64 (kindZ u) := by
  unfold kindZ I64
  split <;> omega
theorem zagZ_ok {u : Nat} (h : u < 18446744073709551616) : I64 (zagZ u) := zagZ_bd _ (by omega) (by omega)

def strL (s : ByteArray) : List UInt8 := s.data.toList
theorem strL_length (s : ByteArray) : (strL s).length = s.size := by simp [strL]
def keyL (k : KeyV) : List UInt8 := txtL (strL k.table) ++ (txtL (strL k.part) ++ (numL (zigN k.row) ++ txtL (strL k.col)))
def valL (k : ValV) : List UInt8 := numL (kindN k.kind) ++ (numL (zigN k.num) ++ txtL (strL k.s))
def verL (k : VerV) : List UInt8 := numL (zigN k.time) ++ (if k.dead then 1 :: numL (zigN k.loc) else 0 :: valL k.val)
def cellL (c : CellV) : List UInt8 := keyL c.key ++ verL c.ver
def manyL (l : List CellV) : List UInt8 := l.flatMap cellL
def cellsL (l : List CellV) : List UInt8 := numL l.length ++ manyL l

theorem txtL_le (s : ByteArray) : (txtL (strL s)).length ≤ s.size + 10 := by
  have := (numL_length (strL s).length).2
  unfold txtL
  rw [List.length_append, strL_length] at *
  omega
theorem keyL_le (k : KeyV) : (keyL k).length ≤ k.table.size + k.part.size + k.col.size + 40 := by
  have h1 := txtL_le k.table
  have h2 := txtL_le k.part
  have h3 := txtL_le k.col
  have h4 := (numL_length (zigN k.row)).2
  unfold keyL
  simp only [List.length_append]
  omega
theorem valL_le (k : ValV) : (valL k).length ≤ k.s.size + 30 := by
  have h1 := txtL_le k.s
  have h4 := (numL_length (kindN k.kind)).2
  have h5 := (numL_length (zigN k.num)).2
  unfold valL
  simp only [List.length_append]
  omega
theorem verL_le (k : VerV) : (verL k).length ≤ k.val.s.size + 41 := by
  have h1 := valL_le k.val
  have h4 := (numL_length (zigN k.time)).2
  have h5 := (numL_length (zigN k.loc)).2
  unfold verL
  split <;> simp only [List.length_append, List.length_cons] <;> omega
/-- The bytes of a cell's texts. -/
def wtC (c : CellV) : Nat := c.key.table.size + c.key.part.size + c.key.col.size + c.ver.val.s.size
theorem cellL_le (c : CellV) : (cellL c).length ≤ wtC c + 81 := by
  have h1 := keyL_le c.key
  have h2 := verL_le c.ver
  unfold cellL wtC
  rw [List.length_append]
  omega
def wtL (l : List CellV) : Nat := (l.map wtC).sum
theorem manyL_le (l : List CellV) : (manyL l).length ≤ wtL l + 81 * l.length := by
  induction l with
  | nil => simp [manyL, wtL]
  | cons c l ih =>
    have h := cellL_le c
    unfold manyL wtL at *
    simp only [List.flatMap_cons, List.length_append, List.map_cons, List.sum_cons, List.length_cons]
    omega
/-- The bytes of a cell's texts that are written. -/
def wtV (k : VerV) : Nat := if k.dead then 0 else k.val.s.size
theorem verL_leD (k : VerV) : (verL k).length ≤ wtV k + 41 := by
  have h1 := valL_le k.val
  have h4 := (numL_length (zigN k.time)).2
  have h5 := (numL_length (zigN k.loc)).2
  unfold verL wtV
  split <;> simp only [List.length_append, List.length_cons] <;> omega
def wtD (c : CellV) : Nat := c.key.table.size + c.key.part.size + c.key.col.size + wtV c.ver
theorem cellL_leD (c : CellV) : (cellL c).length ≤ wtD c + 81 := by
  have h1 := keyL_le c.key
  have h2 := verL_leD c.ver
  unfold cellL wtD
  rw [List.length_append]
  omega
def wtLD (l : List CellV) : Nat := (l.map wtD).sum
theorem manyL_leD (l : List CellV) : (manyL l).length ≤ wtLD l + 81 * l.length := by
  induction l with
  | nil => simp [manyL, wtLD]
  | cons c l ih =>
    have h := cellL_leD c
    unfold manyL wtLD at *
    simp only [List.flatMap_cons, List.length_append, List.map_cons, List.sum_cons, List.length_cons]
    omega
theorem wtLD_le (l : List CellV) : wtLD l ≤ wtL l := by
  induction l with
  | nil => simp [wtLD, wtL]
  | cons c l ih =>
    have h : wtD c ≤ wtC c := by unfold wtD wtC wtV; split <;> omega
    unfold wtLD wtL at *
    simp only [List.map_cons, List.sum_cons]
    omega
theorem manyL_append (a b : List CellV) : manyL (a ++ b) = manyL a ++ manyL b := by unfold manyL; rw [List.flatMap_append]

/-! ### What bytes begin with. -/
def bytesOf (l : List UInt8) : ByteArray := ⟨l.toArray⟩
def signN (l : List UInt8) : Option (Int × List UInt8) := match getN 0 0 l with | none => none | some (v, r) => some (zagZ v, r)
def keyN (l : List UInt8) : Option (KeyV × List UInt8) :=
  match textN l with
  | none => none
  | some (t, r1) => match textN r1 with
    | none => none
    | some (p, r2) => match signN r2 with
      | none => none
      | some (n, r3) => match textN r3 with
        | none => none
        | some (c, r4) => some (⟨bytesOf t, bytesOf p, n, bytesOf c⟩, r4)
def valN (l : List UInt8) : Option (ValV × List UInt8) :=
  match getN 0 0 l with
  | none => none
  | some (k, r1) => match signN r1 with
    | none => none
    | some (n, r2) => match textN r2 with
      | none => none
      | some (s, r3) => some (⟨kindZ k, n, bytesOf s⟩, r3)
def noVal : ValV := ⟨0, 0, ⟨#[]⟩⟩
def verN (l : List UInt8) : Option (VerV × List UInt8) :=
  match signN l with
  | none => none
  | some (t, r1) => match r1 with
    | [] => none
    | m :: r2 =>
      if m = 0 then match valN r2 with | none => none | some (v, r3) => some (⟨t, false, 0, v⟩, r3)
      else if m = 1 then match signN r2 with | none => none | some (n, r3) => some (⟨t, true, n, noVal⟩, r3)
      else none
def cellN (l : List UInt8) : Option (CellV × List UInt8) :=
  match keyN l with
  | none => none
  | some (k, r1) => match verN r1 with | none => none | some (v, r2) => some (⟨k, v⟩, r2)
def manyN : Nat → List UInt8 → Option (List CellV × List UInt8)
  | 0, l => some ([], l)
  | n + 1, l => match cellN l with | none => none | some (c, r) => match manyN n r with | none => none | some (cs, r') => some (c :: cs, r')
def cellsN (l : List UInt8) : Option (List CellV) :=
  match getN 0 0 l with
  | none => none
  | some (n, r) => match manyN n r with | some (cs, []) => some cs | _ => none

/-! ### There and back. -/
theorem signN_back {n : Int} (h : I64 n) (r : List UInt8) : signN (numL (zigN n) ++ r) = some (n, r) := by
  unfold signN
  rw [get_back _ (zigN_eq h).2]
  simp only [zag_zigN h]
theorem bytesOf_strL (s : ByteArray) : bytesOf (strL s) = s := by cases s; simp [bytesOf, strL]
theorem txt_back (s : ByteArray) (h : s.size < 18446744073709551616) (r : List UInt8) : textN (txtL (strL s) ++ r) = some (strL s, r) := by
  unfold txtL
  rw [List.append_assoc]
  exact textN_back _ _ (by rw [strL_length]; exact h)
theorem keyN_back {k : KeyV} (h : k.Ok) (hs : k.table.size + k.part.size + k.col.size < 18446744073709551616) (r : List UInt8) : keyN (keyL k ++ r) = some (k, r) := by
  unfold keyN keyL
  simp only [List.append_assoc]
  rw [txt_back _ (by omega)]
  simp only []
  rw [txt_back _ (by omega)]
  simp only []
  rw [signN_back h.row]
  simp only []
  rw [txt_back _ (by omega)]
  simp only [bytesOf_strL]
theorem valN_back {k : ValV} (h : k.Ok) (hs : k.s.size < 18446744073709551616) (r : List UInt8) : valN (valL k ++ r) = some (k, r) := by
  unfold valN valL
  simp only [List.append_assoc]
  rw [get_back _ (kindN_lt _)]
  simp only []
  rw [signN_back h.num]
  simp only []
  rw [txt_back _ hs]
  simp only [bytesOf_strL, kind_back h.kind]
/-- What is told of a version: a deletion's value is not, nor another one's Local. -/
def plainV (v : VerV) : VerV := if v.dead then ⟨v.time, true, v.loc, noVal⟩ else ⟨v.time, false, 0, v.val⟩
def plainC (c : CellV) : CellV := ⟨c.key, plainV c.ver⟩
theorem verN_back {k : VerV} (h : k.Ok) (hs : k.val.s.size < 18446744073709551616) (r : List UInt8) : verN (verL k ++ r) = some (plainV k, r) := by
  unfold verN verL plainV
  simp only [List.append_assoc]
  rw [signN_back h.time]
  cases k.dead
  · simp only [Bool.false_eq_true, if_false, List.cons_append, if_true]
    rw [valN_back h.val hs]
  · simp only [if_true, List.cons_append, show ¬ ((1 : UInt8) = 0) by decide, if_false]
    rw [signN_back h.loc]
theorem cellN_back {c : CellV} (h : c.Ok) (hs : wtC c < 18446744073709551616) (r : List UInt8) : cellN (cellL c ++ r) = some (plainC c, r) := by
  unfold wtC at hs
  unfold cellN cellL plainC
  rw [List.append_assoc, keyN_back h.key (by omega)]
  simp only []
  rw [verN_back h.ver (by omega)]
theorem manyN_back : ∀ (l : List CellV) (r : List UInt8), (∀ c ∈ l, c.Ok ∧ wtC c < 18446744073709551616) → manyN l.length (manyL l ++ r) = some (l.map plainC, r) := by
  intro l
  induction l with
  | nil => intro r _; rfl
  | cons c l ih =>
    intro r h
    have h1 := h c (by simp)
    have e : manyL (c :: l) ++ r = cellL c ++ (manyL l ++ r) := by unfold manyL; simp
    rw [e, List.length_cons, manyN, cellN_back h1.1 h1.2]
    simp only []
    rw [ih r (fun x hx => h x (by simp [hx]))]
    rfl
theorem cellsN_back (l : List CellV) (h : ∀ c ∈ l, c.Ok ∧ wtC c < 18446744073709551616) (hl : l.length < 18446744073709551616) : cellsN (cellsL l) = some (l.map plainC) := by
  unfold cellsN cellsL
  rw [get_back _ hl]
  have := manyN_back l [] h
  rw [List.append_nil] at this
  simp only [this]
theorem cellsN_more (l : List CellV) (h : ∀ c ∈ l, c.Ok ∧ wtC c < 18446744073709551616) (hl : l.length < 18446744073709551616) (b : UInt8) : cellsN (cellsL l ++ [b]) = none := by
  unfold cellsN cellsL
  rw [List.append_assoc, get_back _ hl]
  simp only [manyN_back l [b] h]
end Go.Proofs.YtglaocghcgcghaaGreatDoor
namespace Go.Proofs.YtglaocghcgcghaaGreatDoor
open Go.RowKit

/-- Block g holds just these cells. -/
structure Box (w : World) (g : Nat) (cs : Array Value) (t : TypeId) : Prop where
  heap : w.heap[g]? = some (.cells cs t (0, 0))
theorem Box.new (w : World) (cs : Array Value) (t : TypeId) : Box (w.alloc (.cells cs t)) w.heap.size cs t := ⟨heap_alloc_new w _⟩
theorem Box.lt {w : World} {g : Nat} {cs : Array Value} {t : TypeId} (h : Box w g cs t) : g < w.heap.size := (Array.getElem?_eq_some_iff.1 h.heap).1
theorem Box.carry {w w' : World} {g : Nat} {cs : Array Value} {t : TypeId} (h : Box w g cs t) (hb : w'.heap[g]? = w.heap[g]?) : Box w' g cs t := ⟨hb.trans h.heap⟩
theorem Box.alloc {w : World} {g : Nat} {cs : Array Value} {t : TypeId} (h : Box w g cs t) (o : Obj) : Box (w.alloc o) g cs t := h.carry (Below.heap_alloc _ _ _ h.lt)
theorem Box.cell {w : World} {g : Nat} {cs : Array Value} {t : TypeId} (h : Box w g cs t) (i : Nat) : w.cell? ⟨g, i, none⟩ = cs[i]? := cell_of_row w g i cs t _ h.heap
theorem Box.frozen {w : World} {g : Nat} {cs : Array Value} {t : TypeId} (h : Box w g cs t) (i : Nat) : w.frozen? ⟨g, i, none⟩ = false := by
  have := h.heap
  simp [World.frozen?, this]
theorem Box.grew {w w' : World} {g : Nat} {cs : Array Value} {t : TypeId} {v v' : Value} (h : Box w g cs t) (hg : Grew w w' v v') (hne : v.ownBlock ≠ some g) : Box w' g cs t :=
  h.carry (hg.rows.block g h.lt (fun e => hne e.symm))
theorem Grew.ne {w w' : World} {g : Nat} {v v' : Value} (hg : Grew w w' v v') (hne : v.ownBlock ≠ some g) (hlt : g < w.heap.size) : v'.ownBlock ≠ some g := fun e => by
  rcases hg.own g e with h1 | h1
  · exact hne h1
  · omega
theorem owns_ne_new {base : Nat} {w : World} {e : TypeId} {size : Nat} {v : Value} {n : Nat} {xs : List Value} (h : w.ownsRow base e size v n xs) : v.ownBlock ≠ some w.heap.size := fun e => by
  have := (h.lt _ e).2
  omega
theorem zig_nat (n : Int) (w : World) (h : I64 n) : Calls Tryz.prog 84 #[.int .i64 n] w fun e w' => e = .returned (.int .u64 (zigN n : Int)) ∧ w' = w := by
  rw [← (zigN_eq h).1]
  exact zig_any n w h.1 h.2
theorem kind_wrap (n : Int) : IntKind.u64.wrap n = (kindN n : Int) := by
  rw [IntKind.wrap_u64]
  unfold kindN
  omega

/-- A row and what it grew to. -/
def Wrote (base : Nat) (v : Value) (n : Nat) (xs news : List UInt8) (w : World) (e : Ending) (w' : World) : Prop :=
  ∃ v', e = .returned v' ∧ w'.ownsRow base 5 1 v' (n + news.length) (B8 (xs ++ news)) ∧ Grew w w' v v'

set_option maxRecDepth 100000 in
set_option maxHeartbeats 800000 in
theorem addValue_any (base : Nat) (v : Value) (n : Nat) (xs : List UInt8) (k : ValV) (w : World) (hown : w.ownsRow base 5 1 v n (B8 xs)) (hk : k.Ok) (hn : n + k.s.size ≤ 140737488350000) (hb : base ≤ w.heap.size) :
    Calls Tryz.prog 85 #[v, .agg (valA k)] w (Wrote base v n xs (valL k) w) := by
  obtain ⟨kind, num, s⟩ := k
  have hk1 : I64 num := hk.num
  have hs : n + s.size ≤ 140737488350000 := hn
  have hB := Box.new w (valA ⟨kind, num, s⟩) 46
  have hne := owns_ne_new hown
  have Hne : Hid _ := hne
  have hbx : base ≤ w.heap.size := hb
  have hl1 := (numL_length (kindN kind)).2
  have hl2 := (numL_length (zigN num)).2
  have Hc1 : Hid _ := addNumber_any base v n xs (kindN kind) (w.alloc (.cells (valA ⟨kind, num, s⟩) 46)) (hown.alloc _) (kindN_lt _) (by omega) (by rw [World.size_alloc]; omega)
  have HB : Hid _ := hB
  clear hB hne hk hn hown
  unfold valA at *
  go_enter Tryz.func85, Tryz.ntmps85
  go_wp2_with fail
  rw [kind_wrap]
  refine Calls.mono (Hid.out Hc1) ?_
  rintro e w1 ⟨v1, rfl, ho1, hg1⟩
  have hB1 := HB.out.grew hg1 Hne.out
  have hne1 := hg1.ne Hne.out HB.out.lt
  have c1 := hB1.cell 1
  have hb1 : base ≤ w1.heap.size := Nat.le_trans (by rw [World.size_alloc]; omega) hg1.rows.size
  have HB1 : Hid _ := hB1
  have Hne1 : Hid _ := hne1
  clear Hc1 hB1 hne1
  go_wp2_with fail
  refine Calls.mono (zig_nat num _ hk1) ?_
  rintro e w1' ⟨rfl, rfl⟩
  go_wp2_with fail
  refine Calls.mono (addNumber_any base v1 _ _ (zigN num) _ ho1 (zigN_eq hk1).2 (by omega) hb1) ?_
  rintro e w2 ⟨v2, rfl, ho2, hg2⟩
  have c2 := (HB1.out.grew hg2 Hne1.out).cell 2
  have hb2 : base ≤ w2.heap.size := Nat.le_trans hb1 hg2.rows.size
  clear c1
  go_wp2_with fail
  refine Calls.mono (addText_any base v2 _ _ s _ ho2 (by omega) hb2) ?_
  rintro e w3 ⟨v3, rfl, ho3, hg3⟩
  go_wp2_with fail
  go_ret
  refine ⟨v3, rfl, ?_, (hg1.trans (hg2.trans hg3)).alloc⟩
  unfold valL strL
  simpa only [List.append_assoc, List.length_append, Nat.add_assoc] using ho3

set_option maxRecDepth 100000 in
set_option maxHeartbeats 800000 in
theorem addKey_any (base : Nat) (v : Value) (n : Nat) (xs : List UInt8) (k : KeyV) (w : World) (hown : w.ownsRow base 5 1 v n (B8 xs)) (hk : k.Ok) (hn : n + (k.table.size + k.part.size + k.col.size) ≤ 140737488350000) (hb : base ≤ w.heap.size) :
    Calls Tryz.prog 57 #[v, .agg (keyA k)] w (Wrote base v n xs (keyL k) w) := by
  obtain ⟨table, part, row, col⟩ := k
  have hk1 : I64 row := hk.row
  have hs : n + (table.size + part.size + col.size) ≤ 140737488350000 := hn
  have Hne : Hid (v.ownBlock ≠ some w.heap.size) := owns_ne_new hown
  have hl1 := txtL_le table
  have hl2 := txtL_le part
  have hl3 := (numL_length (zigN row)).2
  unfold strL at hl1 hl2
  have Hc1 : Hid _ := addText_any base v n xs table (w.alloc (.cells (keyA ⟨table, part, row, col⟩) 44)) (hown.alloc _) (by omega) (by rw [World.size_alloc]; omega)
  have HB : Hid (Box _ _ _ _) := Box.new w (keyA ⟨table, part, row, col⟩) 44
  clear hk hn hown
  unfold keyA at *
  go_enter Tryz.func57, Tryz.ntmps57
  go_wp2_with fail
  refine Calls.mono (Hid.out Hc1) ?_
  rintro e w1 ⟨v1, rfl, ho1, hg1⟩
  have HB1 : Hid (Box _ _ _ _) := HB.out.grew hg1 Hne.out
  have Hne1 : Hid (v1.ownBlock ≠ some w.heap.size) := hg1.ne Hne.out HB.out.lt
  have c1 := HB1.out.cell 1
  have hb1 : base ≤ w1.heap.size := Nat.le_trans (by rw [World.size_alloc]; omega) hg1.rows.size
  clear Hc1
  go_wp2_with fail
  refine Calls.mono (addText_any base v1 _ _ part _ ho1 (by omega) hb1) ?_
  rintro e w2 ⟨v2, rfl, ho2, hg2⟩
  have HB2 : Hid (Box _ _ _ _) := HB1.out.grew hg2 Hne1.out
  have Hne2 : Hid (v2.ownBlock ≠ some w.heap.size) := hg2.ne Hne1.out HB1.out.lt
  have c2 := HB2.out.cell 2
  have hb2 : base ≤ w2.heap.size := Nat.le_trans hb1 hg2.rows.size
  clear c1
  go_wp2_with fail
  refine Calls.mono (zig_nat row _ hk1) ?_
  rintro e w2' ⟨rfl, rfl⟩
  go_wp2_with fail
  refine Calls.mono (addNumber_any base v2 _ _ (zigN row) _ ho2 (zigN_eq hk1).2 (by omega) hb2) ?_
  rintro e w3 ⟨v3, rfl, ho3, hg3⟩
  have c3 := (HB2.out.grew hg3 Hne2.out).cell 3
  have hb3 : base ≤ w3.heap.size := Nat.le_trans hb2 hg3.rows.size
  clear c2
  go_wp2_with fail
  refine Calls.mono (addText_any base v3 _ _ col _ ho3 (by omega) hb3) ?_
  rintro e w4 ⟨v4, rfl, ho4, hg4⟩
  go_wp2_with fail
  go_ret
  refine ⟨v4, rfl, ?_, (hg1.trans (hg2.trans (hg3.trans hg4))).alloc⟩
  unfold keyL strL
  simpa only [List.append_assoc, List.length_append, Nat.add_assoc] using ho4
end Go.Proofs.YtglaocghcgcghaaGreatDoor
namespace Go.Proofs.YtglaocghcgcghaaGreatDoor
open Go.RowKit

/-- One byte that lies at the head of a block, as a source. -/
theorem src_head {w : World} {g : Nat} (b : UInt8) (h : w.cell? ⟨g, 0, none⟩ = some (.int .u8 (b.toNat : Int))) : Src Tryz.prog 1 37 (.slice (some ⟨g, 0, none⟩) 1 1) 1 (B8 [b]) w := by
  refine Src.ofSlice _ Tryz.underlying37 _ 1 1 _ (by simp [B8_length]) ?_ (B8_one _)
  intro j u hu
  match j, hu with
  | 0, hu => simp [B8] at hu; subst hu; simpa [Addr.add] using h
  | j + 1, hu => simp [B8] at hu

/-- Draws do not matter. -/
theorem Grew.like {u w w' : World} {v v' : Value} (h : Grew u w' v v') (h1 : u.heap = w.heap) (h2 : u.os = w.os) (h3 : u.tape = w.tape) (h4 : u.output = w.output) : Grew w w' v v' :=
  ⟨⟨h.rows.os.trans h2, h.rows.tape.trans h3, h.rows.output.trans h4, by rw [← h1]; exact h.rows.size, by rw [← h1]; exact h.rows.block⟩, by rw [← h1]; exact h.own⟩

set_option maxRecDepth 100000 in
set_option maxHeartbeats 1600000 in
theorem addVersion_any (base : Nat) (v : Value) (n : Nat) (xs : List UInt8) (k : VerV) (w : World) (hown : w.ownsRow base 5 1 v n (B8 xs)) (hk : k.Ok) (hn : n + wtV k ≤ 140737488340000) (hb : base ≤ w.heap.size) :
    Calls Tryz.prog 56 #[v, .agg (verA k)] w (Wrote base v n xs (verL k) w) := by
  obtain ⟨i0, hi, hz0, hz1, hz2⟩ := info_parts info8
  obtain ⟨time, dead, loc, kind, num, s⟩ := k
  have hk1 : I64 time := hk.time
  have hk2 : I64 loc := hk.loc
  have hk3 : ValV.Ok ⟨kind, num, s⟩ := hk.val
  have hn0 : n ≤ 140737488340000 := by omega
  have hs : Hid (dead = false → n + s.size ≤ 140737488340000) := fun h => by
    have := hn
    unfold wtV at this
    simp only [h] at this
    simpa using this
  have Hne : Hid (v.ownBlock ≠ some w.heap.size) := owns_ne_new hown
  have hl1 := (numL_length (zigN time)).2
  have hl2 := (numL_length (zigN loc)).2
  have hl3 := valL_le ⟨kind, num, s⟩
  have Hc1 : Hid _ := addNumber_any base v n xs (zigN time) (w.alloc (.cells (verA ⟨time, dead, loc, kind, num, s⟩) 48)) (hown.alloc _) (zigN_eq hk1).2 (by omega) (by rw [World.size_alloc]; omega)
  have HB : Hid (Box _ _ _ _) := Box.new w (verA ⟨time, dead, loc, kind, num, s⟩) 48
  clear hk hn hown
  unfold verA at *
  go_enter Tryz.func56, Tryz.ntmps56
  go_wp2_with fail
  refine Calls.mono (zig_nat time _ hk1) ?_
  rintro e w1' ⟨rfl, rfl⟩
  go_wp2_with fail
  refine Calls.mono (Hid.out Hc1) ?_
  rintro e w1 ⟨v1, rfl, ho1, hg1⟩
  have HB1 : Hid (Box _ _ _ _) := HB.out.grew hg1 Hne.out
  have Hne1 : Hid (v1.ownBlock ≠ some w.heap.size) := hg1.ne Hne.out HB.out.lt
  have c1 := HB1.out.cell 1
  have c2 := HB1.out.cell 2
  have c3 := HB1.out.cell 3
  have c4 := HB1.out.cell 4
  have c5 := HB1.out.cell 5
  have hlt1 : w.heap.size < w1.heap.size := HB1.out.lt
  have hb1 : base ≤ w1.heap.size := Nat.le_trans hb (Nat.le_of_lt hlt1)
  clear Hc1
  cases dead
  · have hs' := hs.out rfl
    go_wp2_with fail
    go_region_law (first
      | (refine step_append_grew rfl (.tmp 19) (.tmp 20) 37 37 rfl base 5 i0 (.int .u8 0) 1 1 Tryz.underlying37 hi hz0 hz1 hz2 rfl _ _ _ rfl (by exact ho1.alloc _) _ 1 (B8 [0]) rfl (src_head 0 (by simp [go_sem])) (by unfold maxLen; omega) (by omega) (by simp; omega) ?_; intro v2 w2 ho2 hg2; rw [← B8_append] at ho2; have g2 : Grew w1 w2 v1 v2 := Grew.alloc (w := w1) (o := .cells #[.int .u8 0] 5) (hg2.like rfl rfl rfl rfl); have d3 := (HB1.out.grew g2 Hne1.out).cell 3; have d4 := (HB1.out.grew g2 Hne1.out).cell 4; have d5 := (HB1.out.grew g2 Hne1.out).cell 5; have hb2 : base ≤ w2.heap.size := Nat.le_trans hb1 g2.rows.size)
      | (go_simp; go_at_call 85; refine Calls.mono (addValue_any base v2 _ _ ⟨kind, num, s⟩ _ (by exact ho2) hk3 (by simp; omega) (by exact hb2)) ?_; rintro e w4 ⟨v4, rfl, ho4, hg4⟩))
    all_goals
      clear hg2
      go_wp2
      go_ret
      refine ⟨v4, rfl, ?_, (hg1.trans (g2.trans (hg4.like rfl rfl rfl rfl))).alloc⟩
      unfold verL
      simpa [List.append_assoc, Nat.add_assoc, Nat.add_comm 1] using ho4
  · go_wp2_with fail
    go_region_law (first
      | (refine step_append_grew rfl (.tmp 12) (.tmp 13) 37 37 rfl base 5 i0 (.int .u8 0) 1 1 Tryz.underlying37 hi hz0 hz1 hz2 rfl _ _ _ rfl (by exact ho1.alloc _) _ 1 (B8 [1]) rfl (src_head 1 (by simp [go_sem])) (by unfold maxLen; omega) (by omega) (by simp; omega) ?_; intro v2 w2 ho2 hg2; rw [← B8_append] at ho2; have g2 : Grew w1 w2 v1 v2 := Grew.alloc (w := w1) (o := .cells #[.int .u8 1] 5) (hg2.like rfl rfl rfl rfl); have d2 := (HB1.out.grew g2 Hne1.out).cell 2; have hb2 : base ≤ w2.heap.size := Nat.le_trans hb1 g2.rows.size)
      | (go_simp; go_at_call 84; refine Calls.mono (zig_nat loc _ hk2) ?_; rintro e w' ⟨rfl, rfl⟩)
      | (go_simp; go_at_call 55; refine Calls.mono (addNumber_any base v2 _ _ (zigN loc) _ (by exact ho2) (zigN_eq hk2).2 (by omega) (by exact hb2)) ?_; rintro e w4 ⟨v4, rfl, ho4, hg4⟩))
    all_goals
      clear hg2
      go_wp2
      go_ret
      refine ⟨v4, rfl, ?_, (hg1.trans (g2.trans (hg4.like rfl rfl rfl rfl))).alloc⟩
      unfold verL
      simpa [List.append_assoc, Nat.add_assoc, Nat.add_comm 1] using ho4
end Go.Proofs.YtglaocghcgcghaaGreatDoor
namespace Go.Proofs.YtglaocghcgcghaaGreatDoor
open Go.RowKit

/-- A version whose cells lie in memory. -/
structure VAt (w : World) (g o : Nat) (a : Vr) : Prop where
  time : w.cell? ⟨g, o, none⟩ = some (.int .i64 a.time)
  dead : w.cell? ⟨g, o + 1, none⟩ = some (.bool a.dead)
  loc : w.cell? ⟨g, o + 2, none⟩ = some (.int .i64 a.loc)
  kind : w.cell? ⟨g, o + 3, none⟩ = some (.int .i64 a.kind)
  num : w.cell? ⟨g, o + 4, none⟩ = some (.int .i64 a.num)
  s : w.cell? ⟨g, o + 5, none⟩ = some (.string a.s)
def Vr.a (a : Vr) : Array Value := #[.int .i64 a.time, .bool a.dead, .int .i64 a.loc, .int .i64 a.kind, .int .i64 a.num, .string a.s]
theorem VAt.below {w w' : World} {g o : Nat} {k : Vr} (h : VAt w g o k) {B : Nat} (hb : Below B w w') (hg : g < B) : VAt w' g o k :=
  ⟨by rw [hb.cell hg, h.time], by rw [hb.cell hg, h.dead], by rw [hb.cell hg, h.loc], by rw [hb.cell hg, h.kind], by rw [hb.cell hg, h.num], by rw [hb.cell hg, h.s]⟩
theorem VAt.of {w : World} {g : Nat} {k : Vr} {ty : TypeId} {z : Nat × Nat} (h : w.heap[g]? = some (.cells k.a ty z)) : VAt w g 0 k :=
  ⟨by simp [World.cell?, h, Vr.a], by simp [World.cell?, h, Vr.a], by simp [World.cell?, h, Vr.a], by simp [World.cell?, h, Vr.a], by simp [World.cell?, h, Vr.a], by simp [World.cell?, h, Vr.a]⟩
theorem VAt.lt {w : World} {g o : Nat} {k : Vr} (h : VAt w g o k) : g < w.heap.size := World.block_lt_of_cell? _ _ h.time
theorem VAt.new (w : World) (k : Vr) (ty : TypeId) : VAt (w.alloc (.cells k.a ty)) w.heap.size 0 k := VAt.of (heap_alloc_new w _)
theorem VAt.alloc {w : World} {g o : Nat} {k : Vr} (h : VAt w g o k) (ob : Obj) : VAt (w.alloc ob) g o k := h.below ((Below.refl w.heap.size w).alloc (Nat.le_refl _) ob) h.lt
/-- Two boxes. -/
theorem boxes2 (w : World) (a b : Vr) : VAt ((w.alloc (.cells a.a 48)).alloc (.cells b.a 48)) w.heap.size 0 a ∧ VAt ((w.alloc (.cells a.a 48)).alloc (.cells b.a 48)) (w.heap.size + 1) 0 b ∧ Below w.heap.size w ((w.alloc (.cells a.a 48)).alloc (.cells b.a 48)) := by
  refine ⟨(VAt.new w a _).alloc _, ?_, ((Below.refl _ _).alloc (Nat.le_refl _) _).alloc (by simp) _⟩
  have := VAt.new (w.alloc (.cells a.a 48)) b 48
  rwa [World.size_alloc] at this
theorem verEq_run (a b : Vr) (w : World) : (binOp BinOp.eql 48 (.agg a.a) (.agg b.a)).run Tryz.prog w = .ok (.bool (eqV a b)) w := by
  unfold Vr.a eqV
  obtain ⟨t1, d1, l1, k1, n1, s1⟩ := a
  obtain ⟨t2, d2, l2, k2, n2, s2⟩ := b
  go_simp
  by_cases e1 : t1 = t2 <;> by_cases e2 : d1 = d2 <;> by_cases e3 : l1 = l2 <;> by_cases e4 : k1 = k2 <;> by_cases e5 : n1 = n2 <;> by_cases e6 : s1.toList = s2.toList <;> simp [e1, e2, e3, e4, e5, e6]
theorem ne_parts {t1 t2 l1 l2 k1 k2 n1 n2 : Int} {d1 d2 : Bool} {s1 s2 : ByteArray} (h : ¬ (⟨t1, d1, l1, k1, n1, s1⟩ : Vr) = ⟨t2, d2, l2, k2, n2, s2⟩) (ht : t1 = t2) (hd : d1 = d2) :
    l1 ≠ l2 ∨ (l1 = l2 ∧ k1 ≠ k2) ∨ (l1 = l2 ∧ k1 = k2 ∧ n1 ≠ n2) ∨ (l1 = l2 ∧ k1 = k2 ∧ n1 = n2 ∧ s1.toList ≠ s2.toList) := by
  by_cases e3 : l1 = l2
  · by_cases e4 : k1 = k2
    · by_cases e5 : n1 = n2
      · refine Or.inr (Or.inr (Or.inr ⟨e3, e4, e5, fun e6 => h ?_⟩))
        rw [ba_list, ba_list] at e6
        rw [ht, hd, e3, e4, e5, nb_inj.1 e6]
      · exact Or.inr (Or.inr (Or.inl ⟨e3, e4, e5⟩))
    · exact Or.inr (Or.inl ⟨e3, e4⟩)
  · exact Or.inl e3
end Go.Proofs.YtglaocghcgcghaaGreatDoor
namespace Go.Proofs.YtglaocghcgcghaaGreatDoor
open Go.RowKit

attribute [local go_sem] Oper.pureAt Oper.pureUpon
theorem owns_monoB {w : World} {base base' : Nat} {e : TypeId} {size : Nat} {v : Value} {n : Nat} {xs : List Value} (h : w.ownsRow base e size v n xs) (hb : base' ≤ base) : w.ownsRow base' e size v n xs := by
  refine ⟨h.1, ?_⟩
  rcases h.2 with h2 | ⟨g, cap, cur, e1, e2, r⟩
  · exact .inl h2
  · exact .inr ⟨g, cap, cur, e1, Nat.le_trans hb e2, r⟩
/-- A filter in bytes. -/
def encF (k : Nat) (l : List UInt8) : List UInt8 := numL k ++ numL l.length ++ l
end Go.Proofs.YtglaocghcgcghaaGreatDoor
namespace Go.Proofs.YtglaocghcgcghaaGreatDoor
open Go.RowKit

theorem sees_lit (w : World) (l : List UInt8) (pr : Nat × Nat) : Sees (w.alloc (.cells (B8 l).toArray 5 pr)) (some ⟨w.heap.size, 0, none⟩) l := by
  intro i hi
  refine ⟨_, rfl, ?_⟩
  have h : (w.alloc (.cells (B8 l).toArray 5 pr)).heap[w.heap.size]? = some (.cells (B8 l).toArray 5 pr) := heap_alloc_new w _
  have e := B8_at l i hi
  rw [Addr.add_lit, Nat.zero_add]
  simp only [World.cell?, h]
  simpa using e

end Go.Proofs.YtglaocghcgcghaaGreatDoor

/-
  PLAIN: cells, their bytes, and the cells that bytes begin with; no program.
-/
import Derived.Test.YtdookhmaiapclaaGreatDoorCodPut
import Derived.Test.YtdookhmaiapclaaGreatDoorTextPlain
namespace Go.Proofs.YtdookhmaiapclaaGreatDoor
open Go.RowKit

structure KeyV where
  table : ByteArray
  part : ByteArray
  row : Int
  col : ByteArray
structure ValV where
  kind : Int
  num : Int
  s : ByteArray
structure VerV where
  time : Int
  dead : Bool
  loc : Int
  val : ValV
structure CellV where
  key : KeyV
  ver : VerV

/-- A number that an int can hold. -/
def I64 (n : Int) : Prop := -9223372036854775808 ≤ n ∧ n ≤ 9223372036854775807
structure KeyV.Ok (k : KeyV) : Prop where
  row : I64 k.row
structure ValV.Ok (k : ValV) : Prop where
  kind : I64 k.kind
  num : I64 k.num
structure VerV.Ok (k : VerV) : Prop where
  time : I64 k.time
  loc : I64 k.loc
  val : k.val.Ok
structure CellV.Ok (c : CellV) : Prop where
  key : c.key.Ok
  ver : c.ver.Ok

def keyA (k : KeyV) : Array Value := #[.string k.table, .string k.part, .int .i64 k.row, .string k.col]
def valA (k : ValV) : Array Value := #[.int .i64 k.kind, .int .i64 k.num, .string k.s]
def verA (k : VerV) : Array Value := #[.int .i64 k.time, .bool k.dead, .int .i64 k.loc, .int .i64 k.val.kind, .int .i64 k.val.num, .string k.val.s]
def cellA (c : CellV) : Array Value := #[.string c.key.table, .string c.key.part, .int .i64 c.key.row, .string c.key.col, .int .i64 c.ver.time, .bool c.ver.dead, .int .i64 c.ver.loc, .int .i64 c.ver.val.kind, .int .i64 c.ver.val.num, .string c.ver.val.s]

/-- An int without a sign; the bits of an int. -/
def zigN (n : Int) : Nat := (zigZ n).toNat
theorem zigN_eq {n : Int} (h : I64 n) : zigZ n = (zigN n : Int) ∧ zigN n < 18446744073709551616 := by
  have := zigZ_bd n h.1 h.2
  unfold zigN
  omega
theorem zag_zigN {n : Int} (h : I64 n) : zagZ (zigN n : Int) = n := by rw [← (zigN_eq h).1, zag_zig]
def kindN (n : Int) : Nat := (n % 18446744073709551616).toNat
def kindZ (u : Nat) : Int := if u < 9223372036854775808 then (u : Int) else (u : Int) - 18446744073709551616
theorem kindN_lt (n : Int) : kindN n < 18446744073709551616 := by unfold kindN; omega
theorem kind_back {n : Int} (h : I64 n) : kindZ (kindN n) = n := by
  have h1 := h.1
  have h2 := h.2
  unfold kindZ kindN
  split <;> omega
theorem kindZ_ok {u : Nat} (h : u < 18446744073709551616) : I64 (kindZ u) := by
  unfold kindZ I64
  split <;> omega
theorem zagZ_ok {u : Nat} (h : u < 18446744073709551616) : I64 (zagZ u) := zagZ_bd _ (by omega) (by omega)

def strL (s : ByteArray) : List UInt8 := s.data.toList
theorem strL_length (s : ByteArray) : (strL s).length = s.size := by simp [strL]
def keyL (k : KeyV) : List UInt8 := txtL (strL k.table) ++ (txtL (strL k.part) ++ (numL (zigN k.row) ++ txtL (strL k.col)))
def valL (k : ValV) : List UInt8 := numL (kindN k.kind) ++ (numL (zigN k.num) ++ txtL (strL k.s))
def verL (k : VerV) : List UInt8 := numL (zigN k.time) ++ (if k.dead then 1 :: numL (zigN k.loc) else 0 :: valL k.val)
def cellL (c : CellV) : List UInt8 := keyL c.key ++ verL c.ver
def manyL (l : List CellV) : List UInt8 := l.flatMap cellL
def cellsL (l : List CellV) : List UInt8 := numL l.length ++ manyL l

theorem txtL_le (s : ByteArray) : (txtL (strL s)).length ≤ s.size + 10 := by
  have := (numL_length (strL s).length).2
  unfold txtL
  rw [List.length_append, strL_length] at *
  omega
theorem keyL_le (k : KeyV) : (keyL k).length ≤ k.table.size + k.part.size + k.col.size + 40 := by
  have h1 := txtL_le k.table
  have h2 := txtL_le k.part
  have h3 := txtL_le k.col
  have h4 := (numL_length (zigN k.row)).2
  unfold keyL
  simp only [List.length_append]
  omega
theorem valL_le (k : ValV) : (valL k).length ≤ k.s.size + 30 := by
  have h1 := txtL_le k.s
  have h4 := (numL_length (kindN k.kind)).2
  have h5 := (numL_length (zigN k.num)).2
  unfold valL
  simp only [List.length_append]
  omega
theorem verL_le (k : VerV) : (verL k).length ≤ k.val.s.size + 41 := by
  have h1 := valL_le k.val
  have h4 := (numL_length (zigN k.time)).2
  have h5 := (numL_length (zigN k.loc)).2
  unfold verL
  split <;> simp only [List.length_append, List.length_cons] <;> omega
/-- The bytes of a cell's texts. -/
def wtC (c : CellV) : Nat := c.key.table.size + c.key.part.size + c.key.col.size + c.ver.val.s.size
theorem cellL_le (c : CellV) : (cellL c).length ≤ wtC c + 81 := by
  have h1 := keyL_le c.key
  have h2 := verL_le c.ver
  unfold cellL wtC
  rw [List.length_append]
  omega
def wtL (l : List CellV) : Nat := (l.map wtC).sum
theorem manyL_le (l : List CellV) : (manyL l).length ≤ wtL l + 81 * l.length := by
  induction l with
  | nil => simp [manyL, wtL]
  | cons c l ih =>
    have h := cellL_le c
    unfold manyL wtL at *
    simp only [List.flatMap_cons, List.length_append, List.map_cons, List.sum_cons, List.length_cons]
    omega
/-- The bytes of a cell's texts that are written. -/
def wtV (k : VerV) : Nat := if k.dead then 0 else k.val.s.size
theorem verL_leD (k : VerV) : (verL k).length ≤ wtV k + 41 := by
  have h1 := valL_le k.val
  have h4 := (numL_length (zigN k.time)).2
  have h5 := (numL_length (zigN k.loc)).2
  unfold verL wtV
  split <;> simp only [List.length_append, List.length_cons] <;> omega
def wtD (c : CellV) : Nat := c.key.table.size + c.key.part.size + c.key.col.size + wtV c.ver
theorem cellL_leD (c : CellV) : (cellL c).length ≤ wtD c + 81 := by
  have h1 := keyL_le c.key
  have h2 := verL_leD c.ver
  unfold cellL wtD
  rw [List.length_append]
  omega
def wtLD (l : List CellV) : Nat := (l.map wtD).sum
theorem manyL_leD (l : List CellV) : (manyL l).length ≤ wtLD l + 81 * l.length := by
  induction l with
  | nil => simp [manyL, wtLD]
  | cons c l ih =>
    have h := cellL_leD c
    unfold manyL wtLD at *
    simp only [List.flatMap_cons, List.length_append, List.map_cons, List.sum_cons, List.length_cons]
    omega
theorem wtLD_le (l : List CellV) : wtLD l ≤ wtL l := by
  induction l with
  | nil => simp [wtLD, wtL]
  | cons c l ih =>
    have h : wtD c ≤ wtC c := by unfold wtD wtC wtV; split <;> omega
    unfold wtLD wtL at *
    simp only [List.map_cons, List.sum_cons]
    omega
theorem manyL_append (a b : List CellV) : manyL (a ++ b) = manyL a ++ manyL b := by unfold manyL; rw [List.flatMap_append]

/-! ### What bytes begin with. -/
def bytesOf (l : List UInt8) : ByteArray := ⟨l.toArray⟩
def signN (l : List UInt8) : Option (Int × List UInt8) := match getN 0 0 l with | none => none | some (v, r) => some (zagZ v, r)
def keyN (l : List UInt8) : Option (KeyV × List UInt8) :=
  match textN l with
  | none => none
  | some (t, r1) => match textN r1 with
    | none => none
    | some (p, r2) => match signN r2 with
      | none => none
      | some (n, r3) => match textN r3 with
        | none => none
        | some (c, r4) => some (⟨bytesOf t, bytesOf p, n, bytesOf c⟩, r4)
def valN (l : List UInt8) : Option (ValV × List UInt8) :=
  match getN 0 0 l with
  | none => none
  | some (k, r1) => match signN r1 with
    | none => none
    | some (n, r2) => match textN r2 with
      | none => none
      | some (s, r3) => some (⟨kindZ k, n, bytesOf s⟩, r3)
def noVal : ValV := ⟨0, 0, ⟨#[]⟩⟩
def verN (l : List UInt8) : Option (VerV × List UInt8) :=
  match signN l with
  | none => none
  | some (t, r1) => match r1 with
    | [] => none
    | m :: r2 =>
      if m = 0 then match valN r2 with | none => none | some (v, r3) => some (⟨t, false, 0, v⟩, r3)
      else if m = 1 then match signN r2 with | none => none | some (n, r3) => some (⟨t, true, n, noVal⟩, r3)
      else none
def cellN (l : List UInt8) : Option (CellV × List UInt8) :=
  match keyN l with
  | none => none
  | some (k, r1) => match verN r1 with | none => none | some (v, r2) => some (⟨k, v⟩, r2)
def manyN : Nat → List UInt8 → Option (List CellV × List UInt8)
  | 0, l => some ([], l)
  | n + 1, l => match cellN l with | none => none | some (c, r) => match manyN n r with | none => none | some (cs, r') => some (c :: cs, r')
def cellsN (l : List UInt8) : Option (List CellV) :=
  match getN 0 0 l with
  | none => none
  | some (n, r) => match manyN n r with | some (cs, []) => some cs | _ => none

/-! ### There and back. -/
theorem signN_back {n : Int} (h : I64 n) (r : List UInt8) : signN (numL (zigN n) ++ r) = some (n, r) := by
  unfold signN
  rw [get_back _ (zigN_eq h).2]
  simp only [zag_zigN h]
theorem bytesOf_strL (s : ByteArray) : bytesOf (strL s) = s := by cases s; simp [bytesOf, strL]
theorem txt_back (s : ByteArray) (h : s.size < 18446744073709551616) (r : List UInt8) : textN (txtL (strL s) ++ r) = some (strL s, r) := by
  unfold txtL
  rw [List.append_assoc]
  exact textN_back _ _ (by rw [strL_length]; exact h)
theorem keyN_back {k : KeyV} (h : k.Ok) (hs : k.table.size + k.part.size + k.col.size < 18446744073709551616) (r : List UInt8) : keyN (keyL k ++ r) = some (k, r) := by
  unfold keyN keyL
  simp only [List.append_assoc]
  rw [txt_back _ (by omega)]
  simp only []
  rw [txt_back _ (by omega)]
  simp only []
  rw [signN_back h.row]
  simp only []
  rw [txt_back _ (by omega)]
  simp only [bytesOf_strL]
theorem valN_back {k : ValV} (h : k.Ok) (hs : k.s.size < 18446744073709551616) (r : List UInt8) : valN (valL k ++ r) = some (k, r) := by
  unfold valN valL
  simp only [List.append_assoc]
  rw [get_back _ (kindN_lt _)]
  simp only []
  rw [signN_back h.num]
  simp only []
  rw [txt_back _ hs]
  simp only [bytesOf_strL, kind_back h.kind]
/-- What is told of a version: a deletion's value is not, nor another one's Local. -/
def plainV (v : VerV) : VerV := if v.dead then ⟨v.time, true, v.loc, noVal⟩ else ⟨v.time, false, 0, v.val⟩
def plainC (c : CellV) : CellV := ⟨c.key, plainV c.ver⟩
theorem verN_back {k : VerV} (h : k.Ok) (hs : k.val.s.size < 18446744073709551616) (r : List UInt8) : verN (verL k ++ r) = some (plainV k, r) := by
  unfold verN verL plainV
  simp only [List.append_assoc]
  rw [signN_back h.time]
  cases k.dead
  · simp only [Bool.false_eq_true, if_false, List.cons_append, if_true]
    rw [valN_back h.val hs]
  · simp only [if_true, List.cons_append, show ¬ ((1 : UInt8) = 0) by decide, if_false]
    rw [signN_back h.loc]
theorem cellN_back {c : CellV} (h : c.Ok) (hs : wtC c < 18446744073709551616) (r : List UInt8) : cellN (cellL c ++ r) = some (plainC c, r) := by
  unfold wtC at hs
  unfold cellN cellL plainC
  rw [List.append_assoc, keyN_back h.key (by omega)]
  simp only []
  rw [verN_back h.ver (by omega)]
theorem manyN_back : ∀ (l : List CellV) (r : List UInt8), (∀ c ∈ l, c.Ok ∧ wtC c < 18446744073709551616) → manyN l.length (manyL l ++ r) = some (l.map plainC, r) := by
  intro l
  induction l with
  | nil => intro r _; rfl
  | cons c l ih =>
    intro r h
    have h1 := h c (by simp)
    have e : manyL (c :: l) ++ r = cellL c ++ (manyL l ++ r) := by unfold manyL; simp
    rw [e, List.length_cons, manyN, cellN_back h1.1 h1.2]
    simp only []
    rw [ih r (fun x hx => h x (by simp [hx]))]
    rfl
theorem cellsN_back (l : List CellV) (h : ∀ c ∈ l, c.Ok ∧ wtC c < 18446744073709551616) (hl : l.length < 18446744073709551616) : cellsN (cellsL l) = some (l.map plainC) := by
  unfold cellsN cellsL
  rw [get_back _ hl]
  have := manyN_back l [] h
  rw [List.append_nil] at this
  simp only [this]
theorem cellsN_more (l : List CellV) (h : ∀ c ∈ l, c.Ok ∧ wtC c < 18446744073709551616) (hl : l.length < 18446744073709551616) (b : UInt8) : cellsN (cellsL l ++ [b]) = none := by
  unfold cellsN cellsL
  rw [List.append_assoc, get_back _ hl]
  simp only [manyN_back l [b] h]
end Go.Proofs.YtdookhmaiapclaaGreatDoor

/-
  Records and their bytes, as lists: no program.
-/
import Derived.Test.YtpfnmjcomdckgaaDoorRBase
import Derived.Lib.DecodeN
namespace Go.Proofs.YtpfnmjcomdckgaaDoor
open Go.RowKit Go.Shelf
set_option linter.unusedVariables false
set_option linter.unusedSimpArgs false

structure SubM where
  code : UInt8
  text : List UInt8
deriving DecidableEq
structure FldM where
  tag : List UInt8
  ind : List UInt8
  data : List UInt8
  subs : List SubM
deriving DecidableEq
structure RecM where
  kind : UInt8
  level : UInt8
  fields : List FldM
deriving DecidableEq

def digB (b : UInt8) : Bool := decide (48 ≤ b.toNat) && decide (b.toNat ≤ 57)
def lowB (b : UInt8) : Bool := decide (97 ≤ b.toNat) && decide (b.toNat ≤ 122)
def signB (b : UInt8) : Bool := decide (33 ≤ b.toNat) && decide (b.toNat ≤ 126)
def indB (b : UInt8) : Bool := decide (32 ≤ b.toNat) && decide (b.toNat ≤ 126)
/-- What digits denote. -/
def valL (l : List UInt8) : Nat := l.foldl (fun n c => 10 * n + (c.toNat - 48)) 0
def tagB (l : List UInt8) : Bool := l.all digB && (l.length == 3) && (l != [48, 48, 48])
def ctlB (l : List UInt8) : Bool := l.take 2 == [48, 48]
/-- A text ends in front of these bytes. -/
def stopB (c : Nat) (r : List UInt8) : Bool := decide (c < 32) || (c == 65533 && !(r.take 3 == [239, 191, 189]))
/-- The first character, and how many bytes it has. -/
def dec (r : List UInt8) : Nat × Nat := Lib.decodeN r.length (r.getD 0 0).toNat (r.getD 1 0).toNat (r.getD 2 0).toNat (r.getD 3 0).toNat
/-- How many bytes the longest text has with which these begin. -/
def lenT : Nat → List UInt8 → Nat
  | 0, _ => 0
  | f + 1, r => match r with
    | [] => 0
    | _ :: _ => if stopB (dec r).1 r then 0 else (dec r).2 + lenT f (r.drop (dec r).2)
def textLen (l : List UInt8) : Nat := lenT l.length l
def textB (l : List UInt8) : Bool := textLen l == l.length
def subB (s : SubM) : Bool := signB s.code && textB s.text
def fieldB (f : FldM) : Bool :=
  if ctlB f.tag then f.ind.isEmpty && f.subs.isEmpty && textB f.data
  else f.data.isEmpty && (f.ind.length == 2) && f.ind.all indB && f.subs.all subB && !f.subs.isEmpty
def subsN (l : List SubM) : Nat := (l.map fun s => 2 + s.text.length).sum
def sizeF (f : FldM) : Nat := f.data.length + f.ind.length + 1 + subsN f.subs
def subsL (l : List SubM) : List UInt8 := l.flatMap fun s => 31 :: s.code :: s.text
def bytesF (f : FldM) : List UInt8 := f.data ++ f.ind ++ subsL f.subs ++ [30]
def sizeH (n : Nat) : Nat := 24 + 12 * n + 1
def fieldsN (l : List FldM) : Nat := (l.map sizeF).sum
def sizeR (r : RecM) : Nat := sizeH r.fields.length + 1 + fieldsN r.fields
/-- A number in k digits. -/
def digsN (n : Nat) : Nat → List UInt8
  | 0 => []
  | k + 1 => digsN (n / 10) k ++ [UInt8.ofNat (48 + n % 10)]
def dirM : Nat → List FldM → List UInt8
  | _, [] => []
  | b, f :: fs => f.tag ++ digsN (sizeF f) 4 ++ digsN b 5 ++ dirM (b + sizeF f) fs
/-- The error of the first field that is not right. -/
def firstBad : List FldM → Nat
  | [] => 0
  | f :: fs => if tagB f.tag then (if fieldB f then firstBad fs else 14) else 13
def largeB (l : List FldM) : Bool := l.any fun f => decide (9999 < sizeF f)
def checkM (r : RecM) : Nat :=
  if lowB r.kind && lowB r.level then
    (if firstBad r.fields = 0 then
      (if decide (999 < r.fields.length) || largeB r.fields || decide (99999 < sizeR r) then 2 else 0)
    else firstBad r.fields)
  else 12
def leadM (r : RecM) : List UInt8 := digsN (sizeR r) 5 ++ [110, r.kind, r.level, 32, 97, 50, 50] ++ digsN (sizeH r.fields.length) 5 ++ [32, 32, 32, 52, 53, 48, 48]
def writeM (r : RecM) : List UInt8 := leadM r ++ dirM 0 r.fields ++ [30] ++ r.fields.flatMap bytesF ++ [29]

theorem bytesF_len (f : FldM) : (bytesF f).length = sizeF f := by
  have h : ∀ l : List SubM, (subsL l).length = subsN l := by
    intro l
    induction l with
    | nil => rfl
    | cons s r ih => simp only [subsL, subsN, List.flatMap_cons, List.length_append, List.length_cons, List.map_cons, List.sum_cons] at ih ⊢; omega
  unfold bytesF sizeF
  simp only [List.length_append, h, List.length_cons, List.length_nil]
  omega
theorem digsN_len : ∀ (k n : Nat), (digsN n k).length = k
  | 0, _ => rfl
  | k + 1, n => by simp [digsN, digsN_len k]
theorem subsN_snoc (l : List SubM) (k : Nat) (h : k < l.length) : subsN (l.take (k + 1)) = subsN (l.take k) + (2 + l[k].text.length) := by
  unfold subsN
  rw [List.take_succ_eq_append_getElem h, List.map_append, List.sum_append]
  simp
theorem subsN_le (l : List SubM) (k : Nat) : subsN (l.take k) ≤ subsN l := by
  unfold subsN
  conv => rhs; rw [← List.take_append_drop k l, List.map_append, List.sum_append]
  exact Nat.le_add_right _ _
theorem subsL_snoc (l : List SubM) (k : Nat) (h : k < l.length) : subsL (l.take (k + 1)) = subsL (l.take k) ++ (31 :: l[k].code :: l[k].text) := by
  unfold subsL
  rw [List.take_succ_eq_append_getElem h, List.flatMap_append]
  simp
theorem fieldsN_snoc (l : List FldM) (k : Nat) (h : k < l.length) : fieldsN (l.take (k + 1)) = fieldsN (l.take k) + sizeF l[k] := by
  unfold fieldsN
  rw [List.take_succ_eq_append_getElem h, List.map_append, List.sum_append]
  simp
theorem fieldsN_le (l : List FldM) (k : Nat) : fieldsN (l.take k) ≤ fieldsN l := by
  unfold fieldsN
  conv => rhs; rw [← List.take_append_drop k l, List.map_append, List.sum_append]
  exact Nat.le_add_right _ _
theorem sizeF_le (l : List FldM) (k : Nat) (h : k < l.length) : sizeF l[k] ≤ fieldsN l := by
  have := fieldsN_le l (k + 1)
  rw [fieldsN_snoc l k h] at this
  omega
end Go.Proofs.YtpfnmjcomdckgaaDoor

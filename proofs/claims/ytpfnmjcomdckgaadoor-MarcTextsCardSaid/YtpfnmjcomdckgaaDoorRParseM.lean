/-
  What Parse finds, as functions of lists: no program.
-/
import Derived.Test.YtpfnmjcomdckgaaDoorRWrite
namespace Go.Proofs.YtpfnmjcomdckgaaDoor
open Go.RowKit Go.Shelf
set_option linter.unusedVariables false
set_option linter.unusedSimpArgs false

inductive PR (α : Type) where
  | bad (a k : Nat) : PR α
  | ok (x : α) : PR α

def lenErr (l : List UInt8) : Option (Nat × Nat) :=
  if l.length < 24 then some (l.length, 10)
  else if (l.take 5).all digB then
    (if l.length < valL (l.take 5) then some (l.length, 10) else if valL (l.take 5) < l.length then some (0, 12) else none)
  else some (0, 12)
def hasAt (l : List UInt8) (k : Nat) (p : List UInt8) : Bool := Lib.hasPrefix (l.drop k) p
def leadErr (l : List UInt8) : Option (Nat × Nat) :=
  if lowB (l.getD 6 0) then
    (if lowB (l.getD 7 0) then
      (if hasAt l 9 [97] then
        (if hasAt l 10 [50, 50] then
          (if hasAt l 20 [52, 53, 48, 48] then none else some (20, 12))
        else some (10, 12))
      else some (9, 12))
    else some (7, 12))
  else some (6, 12)
def headDigs (l : List UInt8) : List UInt8 := (l.drop 12).take 5
/-- The length of the leader and the directory is one that can be. -/
def headB (l : List UInt8) (v : Nat) : Bool := decide (25 ≤ v) && decide (v < l.length) && decide ((v - 25) % 12 = 0) && (l.getD (v - 1) 0 == 30)
def headOf (l : List UInt8) : PR Nat :=
  if (headDigs l).all digB then
    (if headB l (valL (headDigs l)) then (if 12013 < valL (headDigs l) then .bad 12 2 else .ok (valL (headDigs l))) else .bad 12 12)
  else .bad 12 12
structure EntM where
  tag : List UInt8
  from' : Nat
  size : Nat
def numN (l : List UInt8) : Nat := if l.all digB then valL l else 0
def entOf (b : List UInt8) : EntM := ⟨b.take 3, numN (b.drop 7), numN ((b.drop 3).take 4)⟩
def entB (b : List UInt8) : Bool := tagB (b.take 3) && ((b.drop 3).take 4).all digB && (b.drop 7).all digB
def entOk (data sum : Nat) (b : List UInt8) : Bool := entB b && !((entOf b).size == 0) && decide ((entOf b).from' + (entOf b).size ≤ data) && decide (sum + (entOf b).size ≤ data)
/-- The entries of n places from a place on. -/
def dirP (l : List UInt8) (data : Nat) : Nat → Nat → Nat → PR (List EntM)
  | 0, _, _ => .ok []
  | n + 1, a, sum =>
    if entOk data sum ((l.drop a).take 12) then
      match dirP l data n (a + 12) (sum + (entOf ((l.drop a).take 12)).size) with
      | .bad x k => .bad x k
      | .ok es => .ok (entOf ((l.drop a).take 12) :: es)
    else .bad a 13

/-- A field's bytes are there from their beginning, or end too early. -/
def fullM (l : List UInt8) : Bool :=
  let x := Lib.firstT (l.getD 0 0).toNat
  if l.length = 0 then false
  else if decide (x % 8 ≤ l.length) then true
  else if decide (1 < l.length) && (decide ((l.getD 1 0).toNat < Lib.accLo (x / 16)) || decide (Lib.accHi (x / 16) < (l.getD 1 0).toNat)) then true
  else if decide (2 < l.length) && (decide ((l.getD 2 0).toNat < 128) || decide (191 < (l.getD 2 0).toNat)) then true
  else false
def begN : Nat → Nat → List UInt8 → Nat
  | 0, k, _ => k
  | f + 1, k, r => if decide (k < r.length) && !fullM (r.take (k + 1)) then begN f (k + 1) r else k
def begL (r : List UInt8) : Nat := begN r.length 0 r
end Go.Proofs.YtpfnmjcomdckgaaDoor

/-
  Decode as a function of lists of bytes.
-/
import Derived.Test.YtjndekmpnihamaaDoorMTab
import Derived.Lib.RuneBytes
namespace Go.Proofs.YtjndekmpnihamaaDoor
open Go.RowKit Go.Shelf

/-- The character of a byte in a set. -/
def charOf (cur c : Int) : Option Int := match putAll (namedL cur) c with
  | some x => some x
  | none => putAll charsL c
/-- The mark of a byte; 0 for none. -/
def markV (c : Int) : Int := (putAll marksL c).getD 0
def isMb (b : UInt8) : Bool := markV (b.toNat : Int) != 0
/-- How many marks a text begins with. -/
def marksAt (r : List UInt8) : Nat := (r.takeWhile isMb).length
def markOut (ms : List UInt8) : List UInt8 := ms.flatMap fun m => Lib.encodeRune (markV (m.toNat : Int))

inductive Step
  | bad (at' kind : Nat)
  | ok (cur : Int) (n : Nat) (out : List UInt8)

def isNameB (c : Int) : Bool := c == 66 || c == 83 || c == 78
/-- An escape: 1B is the first byte. -/
def escD (at' : Nat) (r : List UInt8) : Step :=
  if Lib.hasPrefix [27, 40] r then .bad at' 10
  else match r with
    | 27 :: 40 :: nm :: _ => if isNameB (nm.toNat : Int) then .ok (nm.toNat : Int) 3 [] else .bad at' 15
    | _ => .bad at' 15
def letD (cur : Int) (at' : Nat) (r : List UInt8) : Step :=
  match r.drop (marksAt r) with
  | [] => .bad at' 10
  | c :: _ => match charOf cur (c.toNat : Int) with
    | none => .bad (at' + marksAt r) 15
    | some ch => .ok cur (marksAt r + 1) (Lib.encodeRune ch ++ markOut (r.take (marksAt r)))
/-- One step of the decoder. -/
def stepD (cur : Int) (at' : Nat) (r : List UInt8) : Step :=
  match r with
  | [] => .bad at' 10
  | b :: _ => if b = 27 then escD at' r else if b < 32 then .ok cur 1 [b] else letD cur at' r

inductive Res
  | bad (at' kind : Nat)
  | ok (l : List UInt8)
def Res.pre (o : List UInt8) : Res → Res
  | .bad a k => .bad a k
  | .ok l => .ok (o ++ l)
/-- The decoder, from a state on. -/
def decR : Nat → Int → Nat → List UInt8 → Res
  | 0, _, _, _ => .ok []
  | fuel + 1, cur, at', r => match r with
    | [] => .ok []
    | _ :: _ => match stepD cur at' r with
      | .bad a k => .bad a k
      | .ok cur' n o => (decR fuel cur' (at' + n) (r.drop n)).pre o
def decM (l : List UInt8) : Res := decR l.length 66 0 l
end Go.Proofs.YtjndekmpnihamaaDoor

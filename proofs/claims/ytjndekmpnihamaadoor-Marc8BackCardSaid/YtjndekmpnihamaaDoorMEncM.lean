/-
  Encode as a function of lists of bytes.
-/
import Derived.Test.YtjndekmpnihamaaDoorMModel
import Derived.Shelf.Unicode.DecodeSlow
namespace Go.Proofs.YtjndekmpnihamaaDoor
open Go.RowKit Go.Shelf

/-- The encoder's state: what is written, the letter that is held (0: none), the current set. -/
structure EM where
  out : List UInt8
  held : UInt8
  cur : UInt8

def codeB (x : Int) : UInt8 := x.toNat.toUInt8
def releaseM (s : EM) : EM := if s.held = 0 then s else ⟨s.out ++ [s.held], 0, s.cur⟩
def chooseM (s : EM) (nm : UInt8) : EM := if s.cur = nm then s else ⟨s.out ++ [27, 40] ++ [nm], s.held, nm⟩
def setC (nm : UInt8) (c : Int) : Option Int := putAllC (namedL (nm.toNat : Int)) c
def charC (c : Int) : Option Int := putAllC charsL c
def markC (c : Int) : Option Int := putAllC marksL c
def compC (c : Int) : Option (Int × Int) := composedL.foldl (fun m p => put m p.1 p.2) (fun _ => none) c

def markM (s : EM) (c : Int) : Option EM := match markC c with
  | some b => if s.held = 0 then none else some ⟨s.out ++ [codeB b], s.held, s.cur⟩
  | none => none
def hold (s : EM) (b : Int) : EM := ⟨s.out, codeB b, s.cur⟩
/-- The names in their order, from the i-th on. -/
def namesM (s : EM) (c : Int) : List UInt8 → Option EM
  | [] => none
  | nm :: r => match setC nm c with
    | some b => some (hold (chooseM s nm) b)
    | none => namesM s c r
def letterR (s : EM) (c : Int) : Option EM := match charC c with
  | some b => some (hold s b)
  | none => match setC s.cur c with
    | some b => some (hold s b)
    | none => namesM s c [66, 83, 78]
def letterM (s : EM) (c : Int) : Option EM := letterR (releaseM s) c
def controlM (s : EM) (c : Int) : Option EM := if c = 27 then none else some ⟨(releaseM s).out ++ [codeB c], (releaseM s).held, (releaseM s).cur⟩
def composedM (s : EM) (c : Int) : Option EM := match compC c with
  | none => none
  | some p => match letterM (releaseM s) p.1 with
    | none => none
    | some s' => markM s' p.2
def writeM (s : EM) (c : Int) : Option EM :=
  if c < 32 then controlM s c
  else match markM s c with
    | some s' => some s'
    | none => match letterM s c with
      | some s' => some s'
      | none => composedM s c

/-- Whether a text begins with a whole sequence, or with none at all. -/
def fullM (l : List UInt8) : Bool :=
  let x := Lib.firstT (l.getD 0 0).toNat
  if l.length = 0 then false
  else if decide (x % 8 ≤ l.length) then true
  else if decide (1 < l.length) && (decide ((l.getD 1 0).toNat < Lib.accLo (x / 16)) || decide (Lib.accHi (x / 16) < (l.getD 1 0).toNat)) then true
  else if decide (2 < l.length) && (decide ((l.getD 2 0).toNat < 128) || decide (191 < (l.getD 2 0).toNat)) then true
  else false

/-- The encoder, from a place and a state on. -/
def encR : Nat → Nat → EM → List UInt8 → Res
  | 0, _, s, _ => .ok (chooseM (releaseM s) 66).out
  | fuel + 1, at', s, r => match r with
    | [] => .ok (chooseM (releaseM s) 66).out
    | _ :: _ =>
      if fullM r = false then .bad at' 10
      else match writeM s ((Lib.decodeGo ⟨r.toArray⟩).1 : Int) with
        | none => .bad at' 15
        | some s' => encR fuel (at' + (Lib.decodeGo ⟨r.toArray⟩).2) s' (r.drop (Lib.decodeGo ⟨r.toArray⟩).2)
def encM (l : List UInt8) : Res := encR l.length 0 ⟨[], 0, 66⟩ l
end Go.Proofs.YtjndekmpnihamaaDoor

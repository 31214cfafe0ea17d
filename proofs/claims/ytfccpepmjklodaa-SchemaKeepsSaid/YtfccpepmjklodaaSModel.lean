/-
  The rules of a schema and the problems of records, as plain functions.
-/
import Derived.Test.YtfccpepmjklodaaSBase
namespace Go.Proofs.Ytfccpepmjklodaa
open Go.RowKit Go.Shelf
set_option linter.unusedVariables false
set_option linter.unusedSimpArgs false

structure RuleM where
  tag : List UInt8
  must : Bool
  once : Bool
  ind0 : List UInt8
  ind1 : List UInt8
  codes : List UInt8
  single : List UInt8
deriving DecidableEq

def digB (b : UInt8) : Bool := decide (48 ≤ b.toNat) && decide (b.toNat ≤ 57)
/-- Byte i of a tag matches that of a rule's. -/
def okAt (t r : List UInt8) (i : Nat) : Bool := (t.getD i 0 == r.getD i 0) || ((r.getD i 0 == 120) && digB (t.getD i 0))
def matchB (t r : List UInt8) : Bool := (t.length == r.length) && (List.range t.length).all fun i => okAt t r i
def hasB (s : List UInt8) (b : UInt8) : Bool := s.any fun c => c == b
def ctlB (l : List UInt8) : Bool := l.take 2 == [48, 48]
def misB (f : FldM) : Bool := if ctlB f.tag then !f.ind.isEmpty || !f.subs.isEmpty else !f.data.isEmpty || !(f.ind.length == 2) || f.subs.isEmpty
def indBad (f : FldM) (r : RuleM) : Bool := !ctlB f.tag && (!hasB r.ind0 (f.ind.getD 0 0) || !hasB r.ind1 (f.ind.getD 1 0))
def codeBad (f : FldM) (r : RuleM) : Bool := f.subs.any fun s => !hasB r.codes s.code
/-- A code of the set occurs twice. -/
def twiceAux (set : List UInt8) : List UInt8 → List SubM → Bool
  | _, [] => false
  | seen, s :: l => (hasB seen s.code && hasB set s.code) || twiceAux set (s.code :: seen) l
def twiceBad (f : FldM) (r : RuleM) : Bool := twiceAux r.single [] f.subs
/-- The first problem of a field: a number of an error, 0 if there is none. -/
def visM (f : FldM) (ro : Option RuleM) (again : Bool) : Nat :=
  if misB f then 14 else match ro with
  | none => 20
  | some r => if r.once && again then 22 else if indBad f r then 23 else if codeBad f r then 24 else if twiceBad f r then 22 else 0
/-- The number of the rule of a tag. -/
def ruleIx (rules : List RuleM) (t : List UInt8) : Option Nat := rules.findIdx? fun r => matchB t r.tag
def ruleOf (rules : List RuleM) (t : List UInt8) : Option RuleM := rules.find? fun r => matchB t r.tag
/-- The problems of the fields from number n on, when those in front of them have the tags 'seen'. -/
def fldProbs (rules : List RuleM) : Nat → List (List UInt8) → List FldM → List (Int × Nat)
  | _, _, [] => []
  | n, seen, f :: fs => (if visM f (ruleOf rules f.tag) (seen.contains f.tag) = 0 then [] else [((n : Int), visM f (ruleOf rules f.tag) (seen.contains f.tag))]) ++ fldProbs rules (n + 1) (f.tag :: seen) fs
def missB (fs : List FldM) (r : RuleM) : Bool := r.must && !(fs.any fun f => matchB f.tag r.tag)
def missProbs (fs : List FldM) (rules : List RuleM) : List (Int × Nat) := (rules.filter (missB fs)).map fun _ => (-1, 21)
def checkS (rules : List RuleM) (fs : List FldM) : List (Int × Nat) := fldProbs rules 0 [] fs ++ missProbs fs rules
theorem matchB_false {t r : List UInt8} {i : Nat} (hi : i < t.length) (h : okAt t r i = false) : matchB t r = false := by
  unfold matchB
  rw [Bool.and_eq_false_iff]
  right
  cases hc : (List.range t.length).all fun i => okAt t r i with
  | false => rfl
  | true =>
    have := List.all_eq_true.1 hc i (List.mem_range.2 hi)
    rw [h] at this
    cases this
theorem matchB_true {t r : List UInt8} (hl : t.length = r.length) (h : ∀ i, i < t.length → okAt t r i = true) : matchB t r = true := by
  unfold matchB
  rw [Bool.and_eq_true]
  exact ⟨by rw [beq_iff_eq]; exact hl, List.all_eq_true.2 (fun i hi => h i (List.mem_range.1 hi))⟩
theorem matchB_len {t r : List UInt8} (hl : t.length ≠ r.length) : matchB t r = false := by
  unfold matchB
  rw [Bool.and_eq_false_iff]
  left
  rw [beq_eq_false_iff_ne]; exact hl
/-- A slice value reads as a list of rules. -/
def RulesAt (w : World) (v : Value) (l : List RuleM) : Prop :=
  (∃ a c, v = .slice a 0 c ∧ l = []) ∨
  ∃ b off cap, v = .slice (some ⟨b, off, none⟩) l.length cap ∧ l.length ≤ maxLen ∧ b < w.heap.size ∧
    ∀ i (h : i < l.length), w.cell? ⟨b, off + i * 7, none⟩ = some (str l[i].tag) ∧ w.cell? ⟨b, off + i * 7 + 1, none⟩ = some (.bool l[i].must) ∧ w.cell? ⟨b, off + i * 7 + 2, none⟩ = some (.bool l[i].once) ∧
      w.cell? ⟨b, off + i * 7 + 3, none⟩ = some (str l[i].ind0) ∧ w.cell? ⟨b, off + i * 7 + 4, none⟩ = some (str l[i].ind1) ∧ w.cell? ⟨b, off + i * 7 + 5, none⟩ = some (str l[i].codes) ∧ w.cell? ⟨b, off + i * 7 + 6, none⟩ = some (str l[i].single)
theorem RulesAt.below {w w' : World} {B : Nat} {v : Value} {l : List RuleM} (h : RulesAt w v l) (hb : Below B w w') (hB : w.heap.size ≤ B) : RulesAt w' v l := by
  rcases h with h | ⟨b, off, cap, hv, hm, hlt, hc⟩
  · exact .inl h
  · refine .inr ⟨b, off, cap, hv, hm, Nat.lt_of_lt_of_le hlt hb.size, fun i hi => ?_⟩
    obtain ⟨c0, c1, c2, c3, c4, c5, c6⟩ := hc i hi
    exact ⟨cell_below hb hB c0, cell_below hb hB c1, cell_below hb hB c2, cell_below hb hB c3, cell_below hb hB c4, cell_below hb hB c5, cell_below hb hB c6⟩
theorem RulesAt.slice {w : World} {v : Value} {l : List RuleM} (h : RulesAt w v l) : ∃ a cap, v = .slice a l.length cap ∧ l.length ≤ maxLen ∧
    ∀ i (h : i < l.length), ∃ b off, a = some ⟨b, off, none⟩ ∧ b < w.heap.size ∧ w.cell? ⟨b, off + i * 7, none⟩ = some (str l[i].tag) ∧ w.cell? ⟨b, off + i * 7 + 1, none⟩ = some (.bool l[i].must) ∧ w.cell? ⟨b, off + i * 7 + 2, none⟩ = some (.bool l[i].once) ∧
      w.cell? ⟨b, off + i * 7 + 3, none⟩ = some (str l[i].ind0) ∧ w.cell? ⟨b, off + i * 7 + 4, none⟩ = some (str l[i].ind1) ∧ w.cell? ⟨b, off + i * 7 + 5, none⟩ = some (str l[i].codes) ∧ w.cell? ⟨b, off + i * 7 + 6, none⟩ = some (str l[i].single) := by
  rcases h with ⟨a, c, rfl, rfl⟩ | ⟨b, off, cap, hv, hm, hlt, hc⟩
  · exact ⟨a, c, rfl, Nat.zero_le _, fun i h => by simp at h⟩
  · exact ⟨_, _, hv, hm, fun i hi => ⟨b, off, rfl, hlt, hc i hi⟩⟩
end Go.Proofs.Ytfccpepmjklodaa

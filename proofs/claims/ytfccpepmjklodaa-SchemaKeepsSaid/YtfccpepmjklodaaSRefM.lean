/-
  The mathematics of the reference's problem: the first rule by a loop downwards, a code that occurs twice, the control tags.
-/
import Derived.Test.YtfccpepmjklodaaSRefS
namespace Go.Proofs.Ytfccpepmjklodaa
set_option linter.unusedVariables false
set_option linter.unusedSimpArgs false

theorem twiceAux_iff (set : List UInt8) : ∀ (l : List SubM) (seen : List UInt8), twiceAux set seen l = true ↔
    ∃ (k : Nat) (h : k < l.length), hasB set l[k].code = true ∧ (hasB seen l[k].code = true ∨ ∃ (j : Nat) (hj : j < k), l[j].code = l[k].code)
  | [], seen => by
    constructor
    · intro h; cases h
    · rintro ⟨k, hk, _⟩; cases hk
  | s :: l, seen => by
    have ih := twiceAux_iff set l (s.code :: seen)
    rw [twiceAux, Bool.or_eq_true, Bool.and_eq_true, ih]
    constructor
    · rintro (⟨h1, h2⟩ | ⟨k, hk, h1, h2⟩)
      · exact ⟨0, by simp, h2, .inl h1⟩
      · refine ⟨k + 1, by simpa using hk, h1, ?_⟩
        rcases h2 with h2 | ⟨j, hj, h2⟩
        · rcases List.mem_cons.1 (hasB_iff.1 h2) with h3 | h3
          · exact .inr ⟨0, by omega, h3.symm⟩
          · exact .inl (hasB_iff.2 h3)
        · exact .inr ⟨j + 1, by omega, h2⟩
    · rintro ⟨k, hk, h1, h2⟩
      cases k with
      | zero =>
        rcases h2 with h2 | ⟨j, hj, _⟩
        · exact .inl ⟨h2, h1⟩
        · omega
      | succ k =>
        have hk' : k < l.length := by simpa using hk
        refine .inr ⟨k, hk', h1, ?_⟩
        rcases h2 with h2 | ⟨j, hj, h2⟩
        · exact .inl (hasB_iff.2 (List.mem_cons_of_mem _ (hasB_iff.1 h2)))
        · cases j with
          | zero =>
            have h3 : s.code = (l[k]'hk').code := h2
            exact .inl (hasB_iff.2 (by rw [← h3]; exact List.mem_cons_self))
          | succ j => exact .inr ⟨j, by omega, h2⟩
/-- No subfield ahead of number k is a second one of a code that must be single. -/
theorem twiceBad_iff (f : FldM) (r : RuleM) : twiceBad f r = true ↔ ∃ (k : Nat) (h : k < f.subs.length), hasB r.single f.subs[k].code = true ∧ ∃ (j : Nat) (hj : j < k), f.subs[j].code = f.subs[k].code := by
  unfold twiceBad
  rw [twiceAux_iff]
  constructor
  · rintro ⟨k, hk, h1, h2⟩
    refine ⟨k, hk, h1, ?_⟩
    rcases h2 with h2 | h2
    · cases h2
    · exact h2
  · rintro ⟨k, hk, h1, h2⟩
    exact ⟨k, hk, h1, .inr h2⟩
theorem codeBad_iff (f : FldM) (r : RuleM) : codeBad f r = true ↔ ∃ (k : Nat) (h : k < f.subs.length), hasB r.codes f.subs[k].code = false := by
  unfold codeBad
  rw [List.any_eq_true]
  constructor
  · rintro ⟨s, hs, h⟩
    obtain ⟨k, hk, rfl⟩ := List.mem_iff_getElem.1 hs
    exact ⟨k, hk, by simpa using h⟩
  · rintro ⟨k, hk, h⟩
    exact ⟨_, List.getElem_mem hk, by rw [h]; rfl⟩
/-- What the loop downwards holds when the rules from number k on have been looked at. -/
def AtIs (rules : List RuleM) (t : List UInt8) (k : Nat) (a : Int) : Prop :=
  (a = -1 ∧ ∀ j (h : j < rules.length), k ≤ j → matchB t rules[j].tag = false) ∨
  ∃ (i : Nat) (h : i < rules.length), a = (i : Int) ∧ k ≤ i ∧ matchB t rules[i].tag = true ∧ ∀ j (h : j < rules.length), k ≤ j → j < i → matchB t rules[j].tag = false
theorem AtIs.start (rules : List RuleM) (t : List UInt8) : AtIs rules t rules.length (-1) := .inl ⟨rfl, fun j h hk => absurd hk (by omega)⟩
theorem AtIs.hit {rules : List RuleM} {t : List UInt8} {k : Nat} {a : Int} (h : AtIs rules t (k + 1) a) (hk : k < rules.length) (hm : matchB t rules[k].tag = true) : AtIs rules t k (k : Int) :=
  .inr ⟨k, hk, rfl, Nat.le_refl _, hm, fun j _ h1 h2 => absurd h2 (by omega)⟩
theorem AtIs.miss {rules : List RuleM} {t : List UInt8} {k : Nat} {a : Int} (h : AtIs rules t (k + 1) a) (hk : k < rules.length) (hm : matchB t rules[k].tag = false) : AtIs rules t k a := by
  have hx : ∀ j (h : j < rules.length), k ≤ j → ¬ k + 1 ≤ j → matchB t rules[j].tag = false := by
    intro j hj h1 h2
    obtain rfl : j = k := by omega
    exact hm
  rcases h with ⟨rfl, h⟩ | ⟨i, hi, rfl, h1, h2, h3⟩
  · refine .inl ⟨rfl, fun j hj h1 => ?_⟩
    by_cases h2 : k + 1 ≤ j
    · exact h j hj h2
    · exact hx j hj h1 h2
  · refine .inr ⟨i, hi, rfl, by omega, h2, fun j hj h4 h5 => ?_⟩
    by_cases h6 : k + 1 ≤ j
    · exact h3 j hj h6 h5
    · exact hx j hj h4 h6
theorem AtIs.done {rules : List RuleM} {t : List UInt8} {a : Int} (h : AtIs rules t 0 a) : (a = -1 ∧ ruleOf rules t = none) ∨ ∃ (i : Nat) (h : i < rules.length), a = (i : Int) ∧ ruleOf rules t = some rules[i] := by
  unfold ruleOf
  rcases h with ⟨rfl, h⟩ | ⟨i, hi, rfl, h1, h2, h3⟩
  · refine .inl ⟨rfl, ?_⟩
    rw [List.find?_eq_none]
    intro x hx
    obtain ⟨j, hj, rfl⟩ := List.mem_iff_getElem.1 hx
    rw [h j hj (Nat.zero_le _)]
    decide
  · refine .inr ⟨i, hi, rfl, ?_⟩
    rw [List.find?_eq_some_iff_getElem]
    exact ⟨h2, i, hi, rfl, fun j hj => by rw [h3 j (by omega) (Nat.zero_le _) hj]; rfl⟩
theorem ctlB_short {l : List UInt8} (h : l.length < 2) : ctlB l = false := by
  unfold ctlB
  rw [beq_eq_false_iff_ne]
  intro e
  have := congrArg List.length e
  simp at this
  omega
theorem ctlB_two (a b : UInt8) (l : List UInt8) : ctlB (a :: b :: l) = (a == 48 && b == 48) := by
  unfold ctlB
  simp only [List.take_succ_cons, List.take_zero]
  rw [Bool.eq_iff_iff]
  simp
end Go.Proofs.Ytfccpepmjklodaa

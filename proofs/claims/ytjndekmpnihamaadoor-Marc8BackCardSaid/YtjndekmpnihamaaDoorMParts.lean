/-
  Decode of a text that is made of two, the first of which ends in the escape to ASCII.
-/
import Derived.Test.YtjndekmpnihamaaDoorMMarks
namespace Go.Proofs.YtjndekmpnihamaaDoor
open Go.RowKit Go.Shelf
set_option linter.unusedVariables false
set_option linter.unusedSimpArgs false

/-! ### a plain text is decoded to itself -/
theorem plain_b {b : UInt8} (h : okPlain b = true) : b ≠ 27 ∧ (b < 32 ∨ (isMb b = false ∧ charOf 66 (b.toNat : Int) = some (b.toNat : Int) ∧ Lib.encodeRune (b.toNat : Int) = [b])) := by
  have := all256 (p := fun b => !okPlain b || (decide (b ≠ 27) && (decide (b < 32) || (!isMb b && (charOf 66 (b.toNat : Int) == some (b.toNat : Int)) && (Lib.encodeRune (b.toNat : Int) == [b]))))) (by decide +kernel) b
  rw [h] at this
  simp only [Bool.not_true, Bool.false_or, Bool.and_eq_true, Bool.or_eq_true, decide_eq_true_eq, Bool.not_eq_true', beq_iff_eq] at this
  obtain ⟨h1, h2⟩ := this
  refine ⟨h1, ?_⟩
  rcases h2 with h2 | ⟨⟨h3, h4⟩, h5⟩
  · exact .inl h2
  · exact .inr ⟨h3, h4, h5⟩
theorem step_plain (a : Nat) {b : UInt8} (h : okPlain b = true) (t : List UInt8) : stepD 66 a (b :: t) = .ok 66 1 [b] := by
  obtain ⟨h1, h2⟩ := plain_b h
  unfold stepD
  simp only [if_neg h1]
  rcases h2 with h2 | ⟨h3, h4, h5⟩
  · simp only [if_pos h2]
  · by_cases h32 : b < 32
    · simp only [if_pos h32]
    · simp only [if_neg h32]
      have hm : marksAt (b :: t) = 0 := by unfold marksAt; simp [h3]
      unfold letD
      rw [hm]
      simp only [List.drop_zero, h4, h5, List.take_zero, markOut, List.flatMap_nil, List.append_nil, Nat.zero_add]
theorem decR_plain : ∀ (l : List UInt8) (f a : Nat), l.length ≤ f → l.all okPlain = true → decR f 66 a l = .ok l
  | [], f, a, _, _ => decR_nil f 66 a
  | b :: t, 0, a, h, _ => by simp at h
  | b :: t, f + 1, a, h, hp => by
    simp only [List.all_cons, Bool.and_eq_true] at hp
    rw [decR_ok (step_plain a hp.1 t), List.drop_succ_cons, List.drop_zero, decR_plain t f (a + 1) (by simpa using h) hp.2]
    rfl
theorem decF_eq (l : List UInt8) : decF l = decM l := by
  unfold decF
  cases hp : plainB l with
  | false => rfl
  | true => exact (decR_plain l l.length 0 (Nat.le_refl _) hp).symm

/-! ### fuel and offset -/
theorem decR_bad {f : Nat} {cur : Int} {a x k : Nat} {b : UInt8} {t : List UInt8} (h : stepD cur a (b :: t) = .bad x k) : decR (f + 1) cur a (b :: t) = .bad x k := by
  conv => lhs; unfold decR
  simp only [h]
theorem decR_fuel : ∀ (f g : Nat) (cur : Int) (a : Nat) (r : List UInt8), r.length ≤ f → r.length ≤ g → decR f cur a r = decR g cur a r
  | f, g, cur, a, [], _, _ => by rw [decR_nil, decR_nil]
  | 0, g, cur, a, b :: t, h, _ => by simp at h
  | f + 1, 0, cur, a, b :: t, _, h => by simp at h
  | f + 1, g + 1, cur, a, b :: t, h1, h2 => by
    cases hs : stepD cur a (b :: t) with
    | bad x k => rw [decR_bad hs, decR_bad hs]
    | ok c n o =>
      obtain ⟨q1, q2, _⟩ := stepD_ok hs
      simp only [List.length_cons] at h1 h2 q2
      rw [decR_ok hs, decR_ok hs, decR_fuel f g c (a + n) _ (by simp; omega) (by simp; omega)]
def Step.shift (d : Nat) : Step → Step
  | .bad x k => .bad (x + d) k
  | .ok c n o => .ok c n o
def Res.shift (d : Nat) : Res → Res
  | .bad x k => .bad (x + d) k
  | .ok o => .ok o
theorem step_shift (cur : Int) (a d : Nat) (r : List UInt8) : stepD cur (a + d) r = (stepD cur a r).shift d := by
  have hl : letD cur (a + d) r = (letD cur a r).shift d := by
    unfold letD
    split
    · rfl
    · split
      · simp [Step.shift]; omega
      · rfl
  have he : escD (a + d) r = (escD a r).shift d := by
    unfold escD
    split
    · rfl
    · split
      · split <;> rfl
      · rfl
  unfold stepD
  split
  · rfl
  · split
    · exact he
    · split
      · rfl
      · exact hl
theorem decR_shift : ∀ (f : Nat) (cur : Int) (a d : Nat) (r : List UInt8), decR f cur (a + d) r = (decR f cur a r).shift d
  | f, cur, a, d, [] => by rw [decR_nil, decR_nil]; rfl
  | 0, cur, a, d, b :: t => by simp [decR, Res.shift]
  | f + 1, cur, a, d, b :: t => by
    have hs := step_shift cur a d (b :: t)
    cases h : stepD cur a (b :: t) with
    | bad x k => rw [h] at hs; rw [decR_bad h, decR_bad hs]; rfl
    | ok c n o =>
      rw [h] at hs
      rw [decR_ok h, decR_ok hs, show a + d + n = a + n + d by omega, decR_shift f c (a + n) d]
      cases decR f c (a + n) ((b :: t).drop n) <;> rfl

/-! ### two texts -/
abbrev esc : List UInt8 := [27, 40, 66]
theorem char27 (cur : Int) : charOf cur 27 = none := by
  have h66 : charOf 66 27 = none := by decide +kernel
  have h83 : charOf 83 27 = none := by decide +kernel
  have h78 : charOf 78 27 = none := by decide +kernel
  by_cases c1 : cur = 66
  · rw [c1]; exact h66
  · by_cases c2 : cur = 83
    · rw [c2]; exact h83
    · by_cases c3 : cur = 78
      · rw [c3]; exact h78
      · have : putAll charsL 27 = none := by decide +kernel
        unfold charOf namedL
        rw [if_neg c1, if_neg c2, if_neg c3, this]
        rfl
theorem mb27 : isMb 27 = false := by decide +kernel
theorem marksAt_esc (r t : List UInt8) : marksAt (r ++ 27 :: t) = marksAt (r ++ [27]) ∧ marksAt (r ++ [27]) ≤ r.length := by
  unfold marksAt
  induction r with
  | nil => simp [mb27]
  | cons b r ih =>
    cases hb : isMb b with
    | true => simp only [List.cons_append, List.takeWhile_cons, hb, if_true, List.length_cons]; omega
    | false => simp [hb]
theorem let_app (cur : Int) (a : Nat) (r t : List UInt8) : letD cur a (r ++ 27 :: t) = letD cur a (r ++ [27]) := by
  obtain ⟨h1, h2⟩ := marksAt_esc r t
  unfold letD
  rw [h1]
  generalize marksAt (r ++ [27]) = m at h2
  rw [List.drop_append_of_le_length h2, List.drop_append_of_le_length h2, List.take_append_of_le_length h2, List.take_append_of_le_length h2]
  cases r.drop m with
  | nil => rfl
  | cons b u => rfl
theorem let_end {cur c : Int} {a n : Nat} {r o : List UInt8} (h : letD cur a (r ++ [27]) = .ok c n o) : n ≤ r.length := by
  obtain ⟨h1, h2⟩ := marksAt_esc r []
  unfold letD at h
  generalize marksAt (r ++ [27]) = m at h2 h
  rw [List.drop_append_of_le_length h2] at h
  rcases Nat.lt_or_ge m r.length with hlt | hge
  · rw [List.drop_eq_getElem_cons hlt] at h
    simp only [List.cons_append] at h
    split at h
    · cases h
    · cases h; omega
  · rw [List.drop_eq_nil_of_le hge] at h
    simp only [List.nil_append] at h
    rw [show ((27 : UInt8).toNat : Int) = 27 from rfl, char27] at h
    cases h
theorem esc_app (a : Nat) (r t : List UInt8) (hr : r.head? = some 27 ∨ r = []) : escD a (r ++ esc ++ t) = escD a (r ++ esc) ∧ ∀ c n o, escD a (r ++ esc) = .ok c n o → n ≤ r.length ∨ (r = [] ∧ n = 3 ∧ c = 66) := by
  match r, hr with
  | [], _ => exact ⟨rfl, fun c n o h => .inr (by have e : escD a ([] ++ esc) = .ok 66 3 [] := rfl; rw [e] at h; cases h; exact ⟨rfl, rfl, rfl⟩)⟩
  | [x], hr =>
    obtain rfl : x = 27 := by simpa using hr
    refine ⟨rfl, fun c n o h => ?_⟩
    have e : escD a ([27] ++ esc) = .bad a 15 := rfl
    rw [e] at h; cases h
  | [x, y], hr =>
    obtain rfl : x = 27 := by simpa using hr
    by_cases hy : y = 40
    · subst hy
      refine ⟨rfl, fun c n o h => ?_⟩
      have e : escD a ([27, 40] ++ esc) = .bad a 15 := rfl
      rw [e] at h; cases h
    · have e : ∀ u, escD a (27 :: y :: u) = if Lib.hasPrefix [27, 40] (27 :: y :: u) then .bad a 10 else .bad a 15 := by
        intro u
        unfold escD
        split
        · rfl
        · split
          · rename_i heq; cases heq; exact absurd rfl hy
          · rfl
      have p : ∀ u, Lib.hasPrefix [27, 40] (27 :: y :: u) = false := by
        intro u
        simp [Lib.hasPrefix, List.isPrefixOf, Ne.symm hy, hy]
      refine ⟨?_, fun c n o h => ?_⟩
      · simp only [List.cons_append, List.nil_append]; rw [e, e, p, p]
      · simp only [List.cons_append, List.nil_append] at h; rw [e, p] at h; cases h
  | x :: y :: z :: u, hr =>
    obtain rfl : x = 27 := by simpa using hr
    have p : ∀ u, Lib.hasPrefix [27, 40] (27 :: y :: z :: u) = false := by
      intro u
      simp [Lib.hasPrefix, List.isPrefixOf]
    refine ⟨?_, fun c n o h => ?_⟩
    · simp only [List.cons_append]
      unfold escD
      rw [p, p]
      simp only [Bool.false_eq_true, if_false]
      by_cases hy : y = 40
      · subst hy; rfl
      · split
        · rename_i heq; cases heq; exact absurd rfl hy
        · split
          · rename_i heq; cases heq; exact absurd rfl hy
          · rfl
    · left
      simp only [List.cons_append] at h
      unfold escD at h
      rw [p] at h
      simp only [Bool.false_eq_true, if_false] at h
      split at h
      · split at h
        · cases h; simp
        · cases h
      · cases h
theorem step_app (cur : Int) (a : Nat) (r t : List UInt8) : stepD cur a (r ++ esc ++ t) = stepD cur a (r ++ esc) ∧ ∀ c n o, stepD cur a (r ++ esc) = .ok c n o → n ≤ r.length ∨ (r = [] ∧ n = 3 ∧ c = 66) := by
  cases r with
  | nil => exact esc_app a [] t (.inr rfl)
  | cons b r =>
    by_cases h27 : b = 27
    · subst h27
      exact esc_app a (27 :: r) t (.inl rfl)
    · by_cases h32 : b < 32
      · have e : ∀ u, stepD cur a (b :: u) = .ok cur 1 [b] := fun u => by unfold stepD; simp only [if_neg h27, if_pos h32]
        refine ⟨by simp only [List.cons_append]; rw [e, e], fun c n o h => .inl ?_⟩
        simp only [List.cons_append] at h
        rw [e] at h; cases h; simp
      · have e : ∀ u, stepD cur a (b :: u) = letD cur a (b :: u) := fun u => by unfold stepD; simp only [if_neg h27, if_neg h32]
        have s1 : ∀ u, b :: r ++ esc ++ u = (b :: r) ++ 27 :: ([40, 66] ++ u) := fun u => by simp
        have s2 : b :: r ++ esc = (b :: r) ++ 27 :: [40, 66] := rfl
        refine ⟨?_, fun c n o h => .inl ?_⟩
        · rw [s1, s2]
          simp only [List.cons_append]
          rw [e, e]
          have h1 := let_app cur a (b :: r) ([40, 66] ++ t)
          have h2 := let_app cur a (b :: r) [40, 66]
          simp only [List.cons_append] at h1 h2
          exact h1.trans h2.symm
        · rw [s2] at h
          simp only [List.cons_append] at h
          rw [e] at h
          have h2 := let_app cur a (b :: r) [40, 66]
          simp only [List.cons_append] at h2
          rw [h2] at h
          exact let_end (r := b :: r) h

/-- The second text behind the first. -/
def Res.then (x : Res) (y : Res) : Res := match x with
  | .bad a k => .bad a k
  | .ok o => y.pre o
theorem decR_app : ∀ (n : Nat) (r : List UInt8), r.length ≤ n → ∀ (cur : Int) (a : Nat) (t : List UInt8),
    decR (r ++ esc ++ t).length cur a (r ++ esc ++ t) = (decR (r ++ esc).length cur a (r ++ esc)).then (decR t.length 66 (a + (r ++ esc).length) t) := by
  intro n
  induction n with
  | zero => 
    intro r hr cur a t
    obtain rfl : r = [] := List.eq_nil_of_length_eq_zero (by omega)
    have e : ∀ u, stepD cur a (27 :: 40 :: 66 :: u) = .ok 66 3 [] := fun u => rfl
    show decR (t.length + 3) cur a (27 :: 40 :: 66 :: t) = (decR 3 cur a [27, 40, 66]).then _
    rw [decR_ok (f := t.length + 2) (e t), decR_ok (f := 2) (e []), decR_fuel (t.length + 2) t.length 66 (a + 3) _ (by simp) (by simp)]
    simp only [List.drop_succ_cons, List.drop_zero, decR_nil]
    rfl
  | succ n ih =>
    intro r hr cur a t
    obtain ⟨h1, h2⟩ := step_app cur a r t
    obtain ⟨b, u, hbu⟩ : ∃ b u, r ++ esc = b :: u := by cases r with
      | nil => exact ⟨_, _, rfl⟩
      | cons x y => exact ⟨_, _, rfl⟩
    have hlen : (r ++ esc).length = u.length + 1 := by rw [hbu]; rfl
    have hlen2 : (r ++ esc ++ t).length = (u ++ t).length + 1 := by rw [hbu]; simp
    have hbut : r ++ esc ++ t = b :: (u ++ t) := by rw [hbu]; rfl
    have hre : (r ++ esc).length = r.length + 3 := by simp
    cases hs : stepD cur a (r ++ esc) with
    | bad x k =>
      rw [hs] at h1
      have e1 : decR (r ++ esc ++ t).length cur a (r ++ esc ++ t) = .bad x k := by rw [hlen2, hbut]; rw [hbut] at h1; exact decR_bad h1
      have e2 : decR (r ++ esc).length cur a (r ++ esc) = .bad x k := by rw [hlen, hbu]; rw [hbu] at hs; exact decR_bad hs
      rw [e1, e2]; rfl
    | ok c m o =>
      rw [hs] at h1
      obtain ⟨q1, q2, _⟩ := stepD_ok hs
      have e1 : decR (r ++ esc ++ t).length cur a (r ++ esc ++ t) = (decR (u ++ t).length c (a + m) ((r ++ esc ++ t).drop m)).pre o := by rw [hlen2, hbut]; rw [hbut] at h1; exact decR_ok h1
      have e2 : decR (r ++ esc).length cur a (r ++ esc) = (decR u.length c (a + m) ((r ++ esc).drop m)).pre o := by rw [hlen, hbu]; rw [hbu] at hs; exact decR_ok hs
      have hd1 : (r ++ esc ++ t).drop m = (r ++ esc).drop m ++ t := List.drop_append_of_le_length (by omega)
      rw [e1, e2, hd1]
      rcases h2 c m o hs with hm | ⟨rfl, rfl, rfl⟩
      · have hd : (r ++ esc).drop m = r.drop m ++ esc := List.drop_append_of_le_length hm
        have hI := ih (r.drop m) (by simp; omega) c (a + m) t
        rw [hd, decR_fuel (u ++ t).length (r.drop m ++ esc ++ t).length c (a + m) _ (by simp at hlen2 hre ⊢; omega) (Nat.le_refl _), hI,
          decR_fuel u.length (r.drop m ++ esc).length c (a + m) _ (by simp at hlen hre ⊢; omega) (Nat.le_refl _)]
        have ho : a + m + (r.drop m ++ esc).length = a + (r ++ esc).length := by simp; omega
        rw [ho]
        cases decR (r.drop m ++ esc).length c (a + m) (r.drop m ++ esc) with
        | bad x k => rfl
        | ok p =>
          show ((decR t.length 66 (a + (r ++ esc).length) t).pre p).pre o = (decR t.length 66 (a + (r ++ esc).length) t).pre (o ++ p)
          exact Res.pre_pre o p _
      · simp only [List.nil_append, List.drop_succ_cons, List.drop_zero, decR_nil, List.drop_nil]
        rw [decR_fuel (u ++ t).length t.length 66 (a + 3) t (by simp) (Nat.le_refl _)]
        simp only [Res.pre, Res.then, List.append_nil, List.length_cons, List.length_nil]
theorem decM_app (s t : List UInt8) : decM (s ++ esc ++ t) = (decM (s ++ esc)).then ((decM t).shift (s ++ esc).length) := by
  have h := decR_app s.length s (Nat.le_refl _) 66 0 t
  unfold decM
  rw [h, decR_shift]
end Go.Proofs.YtjndekmpnihamaaDoor

/-
  What an encoding leaves: its length, and its errors.
-/
import Derived.Test.YtjndekmpnihamaaDoorMTakenW
namespace Go.Proofs.YtjndekmpnihamaaDoor
open Go.RowKit Go.Shelf
set_option linter.unusedVariables false
set_option linter.unusedSimpArgs false

theorem encR_bad_ne : ∀ (f a : Nat) (s : EM) (r : List UInt8) (i e : Nat), encR f a s r = .bad i e → e = 10 ∨ e = 15
  | 0, a, s, r, i, e, h => by
    cases r <;> (cases h)
  | f + 1, a, s, [], i, e, h => by rw [encR_nil] at h; cases h
  | f + 1, a, s, b :: t, i, e, h => by
    cases hf : fullM (b :: t) with
    | false => rw [encR_bad f a s b t hf] at h; cases h; exact .inl rfl
    | true =>
      rw [encR_go f a s b t hf] at h
      unfold encK at h
      cases hw : writeM s ((Lib.decodeGo ⟨(b :: t).toArray⟩).1 : Int) with
      | none => rw [hw] at h; cases h; exact .inr rfl
      | some s' => rw [hw] at h; exact encR_bad_ne f _ _ _ i e h
theorem encF_bad {s : List UInt8} {i e : Nat} (h : encF s = .bad i e) : e ≠ 0 := by
  unfold encF at h
  cases hp : plainB s with
  | true => rw [hp] at h; cases h
  | false =>
    rw [hp] at h
    have := encR_bad_ne _ _ _ _ i e (show encR s.length 0 ⟨[], 0, 66⟩ s = .bad i e from h)
    omega
theorem end_len (s : EM) : (chooseM (releaseM s) 66).out.length ≤ s.out.length + 4 := by
  have h1 := chooseM_len (releaseM s) 66
  have h2 := (releaseM_len s).1
  omega
theorem encR_len : ∀ (f a : Nat) (s : EM) (r t : List UInt8), encR f a s r = .ok t → t.length ≤ s.out.length + 6 * f + 6
  | 0, a, s, r, t, h => by
    have := end_len s
    have h' : Res.ok (chooseM (releaseM s) 66).out = .ok t := by cases r <;> exact h
    cases h'
    omega
  | f + 1, a, s, [], t, h => by
    have := end_len s
    rw [encR_nil] at h; cases h; omega
  | f + 1, a, s, b :: u, t, h => by
    cases hf : fullM (b :: u) with
    | false => rw [encR_bad f a s b u hf] at h; cases h
    | true =>
      rw [encR_go f a s b u hf] at h
      unfold encK at h
      cases hw : writeM s ((Lib.decodeGo ⟨(b :: u).toArray⟩).1 : Int) with
      | none => rw [hw] at h; cases h
      | some s' =>
        rw [hw] at h
        have h1 := encR_len f _ _ _ t h
        have h2 := writeM_len hw
        omega
theorem encF_len {s t : List UInt8} (h : encF s = .ok t) : t.length ≤ 6 * s.length + 6 := by
  unfold encF at h
  cases hp : plainB s with
  | true => rw [hp] at h; cases h; omega
  | false =>
    rw [hp] at h
    have := encR_len _ _ _ _ t (show encR s.length 0 ⟨[], 0, 66⟩ s = .ok t from h)
    simpa using this
end Go.Proofs.YtjndekmpnihamaaDoor

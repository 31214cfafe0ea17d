/-
  MarcLimits' records: no program.
-/
import Derived.Test.YtpfnmjcomdckgaaDoorRBack
namespace Go.Proofs.YtpfnmjcomdckgaaDoor
open Go.RowKit Go.Shelf
set_option linter.unusedVariables false
set_option linter.unusedSimpArgs false

/-- k control fields of one tag, with one text. -/
def repR (t d : List UInt8) (k : Nat) : RecM := ⟨97, 109, List.replicate k ⟨t, [], d, []⟩⟩
theorem rep_first {t d : List UInt8} (ht : tagB t = true) (hc : ctlB t = true) (hd : textB d = true) : ∀ k : Nat, firstBad (List.replicate k ⟨t, [], d, []⟩) = 0
  | 0 => rfl
  | k + 1 => by
    have hf : fieldB ⟨t, [], d, []⟩ = true := by unfold fieldB; simp [hc, hd]
    rw [List.replicate_succ]
    unfold firstBad
    rw [if_pos ht, if_pos hf, rep_first ht hc hd k]
theorem rep_sum (t d : List UInt8) : ∀ k : Nat, fieldsN (List.replicate k ⟨t, [], d, []⟩) = k * (d.length + 1)
  | 0 => by simp [fieldsN]
  | k + 1 => by
    have ih := rep_sum t d k
    unfold fieldsN at ih ⊢
    rw [List.replicate_succ, List.map_cons, List.sum_cons, ih, Nat.succ_mul]
    simp [sizeF, subsN]
    omega
theorem rep_size (t d : List UInt8) (k : Nat) : sizeR (repR t d k) = 26 + k * (13 + d.length) := by
  unfold sizeR sizeH repR
  simp only [List.length_replicate]
  rw [rep_sum t d k, Nat.mul_add, Nat.mul_add]
  omega
theorem rep_large (t d : List UInt8) : ∀ k : Nat, largeB (List.replicate k ⟨t, [], d, []⟩) = (decide (0 < k) && decide (9999 < d.length + 1))
  | 0 => rfl
  | k + 1 => by
    have ih := rep_large t d k
    unfold largeB at ih ⊢
    rw [List.replicate_succ, List.any_cons, ih]
    simp [sizeF, subsN]
theorem rep_check {t d : List UInt8} (ht : tagB t = true) (hc : ctlB t = true) (hd : textB d = true) (k : Nat) :
    checkM (repR t d k) = if k ≤ 999 ∧ (k = 0 ∨ d.length + 1 ≤ 9999) ∧ 26 + k * (13 + d.length) ≤ 99999 then 0 else 2 := by
  unfold checkM
  rw [rep_size]
  rw [show (lowB (repR t d k).kind && lowB (repR t d k).level) = true from rfl, if_pos rfl]
  rw [show (repR t d k).fields = List.replicate k ⟨t, [], d, []⟩ from rfl, rep_first ht hc hd k, rep_large, List.length_replicate]
  simp only [if_true]
  by_cases h : k ≤ 999 ∧ (k = 0 ∨ d.length + 1 ≤ 9999) ∧ 26 + k * (13 + d.length) ≤ 99999
  · rw [if_pos h, if_neg]
    obtain ⟨h1, h2, h3⟩ := h
    simp only [Bool.or_eq_true, Bool.and_eq_true, decide_eq_true_eq, not_or]
    exact ⟨⟨by omega, by omega⟩, by omega⟩
  · rw [if_neg h, if_pos]
    simp only [Bool.or_eq_true, Bool.and_eq_true, decide_eq_true_eq]
    by_cases h1 : 999 < k
    · exact .inl (.inl h1)
    · by_cases h2 : 0 < k ∧ 9999 < d.length + 1
      · exact .inl (.inr h2)
      · exact .inr (by
          rcases Nat.lt_or_ge 99999 (26 + k * (13 + d.length)) with h3 | h3
          · exact h3
          · exact absurd ⟨by omega, by omega, h3⟩ h)
theorem dec_ascii (c : UInt8) (r : List UInt8) (h : c.toNat < 128) : dec (c :: r) = (c.toNat, 1) := by
  unfold dec Lib.decodeN
  simp only [List.getD_cons_zero]
  rw [if_pos h]
theorem text_rep (c : UInt8) (h1 : 32 ≤ c.toNat) (h2 : c.toNat < 128) : ∀ n : Nat, textLen (List.replicate n c) = n
  | 0 => rfl
  | n + 1 => by
    rw [List.replicate_succ]
    have hd := dec_ascii c (List.replicate n c) h2
    have hs : stopB (dec (c :: List.replicate n c)).1 (c :: List.replicate n c) = false := by
      rw [hd]
      unfold stopB
      simp only [Bool.or_eq_false_iff, Bool.and_eq_false_iff, decide_eq_false_iff_not, beq_eq_false_iff_ne]
      exact ⟨by omega, .inl (by omega)⟩
    rw [textLen_step (List.cons_ne_nil _ _) hs, hd]
    simp only [List.drop_succ_cons, List.drop_zero]
    rw [text_rep c h1 h2 n]
    omega
theorem textB_rep (c : UInt8) (h1 : 32 ≤ c.toNat) (h2 : c.toNat < 128) (n : Nat) : textB (List.replicate n c) = true := by
  rw [textB_iff, text_rep c h1 h2, List.length_replicate]
end Go.Proofs.YtpfnmjcomdckgaaDoor

/-
  What is written is read again: the leader (no program).
-/
import Derived.Test.YtpfnmjcomdckgaaDoorRParse
namespace Go.Proofs.YtpfnmjcomdckgaaDoor
open Go.RowKit Go.Shelf
set_option linter.unusedVariables false
set_option linter.unusedSimpArgs false

theorem dig_ofNat (m : Nat) (h : m < 10) : (UInt8.ofNat (48 + m)).toNat = 48 + m := by
  simp only [UInt8.toNat_ofNat']
  omega
theorem digsN_all : ∀ (k n : Nat), (digsN n k).all digB = true
  | 0, _ => rfl
  | k + 1, n => by
    have h := dig_ofNat (n % 10) (by omega)
    simp only [digsN, List.all_append, List.all_cons, List.all_nil, Bool.and_true, Bool.and_eq_true]
    exact ⟨digsN_all k _, digB_iff.2 (by omega)⟩
theorem valL_digsN : ∀ (k n : Nat), n < 10 ^ k → valL (digsN n k) = n
  | 0, n, h => by
    have : n = 0 := by simpa using h
    rw [this]; rfl
  | k + 1, n, h => by
    have h1 := dig_ofNat (n % 10) (by omega)
    have h2 := valL_digsN k (n / 10) (by rw [Nat.pow_succ] at h; omega)
    rw [digsN, valL_snoc, h2, h1]
    omega
theorem tagB_len {t : List UInt8} (h : tagB t = true) : t.length = 3 := by
  unfold tagB at h
  simp only [Bool.and_eq_true, beq_iff_eq] at h
  exact h.1.2
theorem flat_len' : ∀ l : List FldM, (l.flatMap bytesF).length = fieldsN l
  | [] => rfl
  | f :: l => by
    have := flat_len' l
    simp only [fieldsN, List.flatMap_cons, List.length_append, bytesF_len, List.map_cons, List.sum_cons] at this ⊢
    omega
theorem getD_end (a : List UInt8) (b : List UInt8) (k : Nat) (h : k = a.length) : (a ++ b).getD k 0 = b.getD 0 0 := by
  subst h
  rw [List.getD_eq_getElem?_getD, List.getD_eq_getElem?_getD, List.getElem?_append_right (Nat.le_refl _), Nat.sub_self]
theorem leadM_len (r : RecM) : (leadM r).length = 24 := by simp [leadM, digsN_len]
theorem writeM_len {r : RecM} (h : RightM r) : (writeM r).length = sizeR r := by
  have h1 := dirM_len r.fields 0 (fun f hf => tagB_len (h.tags f hf))
  simp only [writeM, List.length_append, leadM_len, h1, flat_len', List.length_cons, List.length_nil, sizeR, sizeH]
  omega
theorem sizeR_ge (r : RecM) : 26 + 12 * r.fields.length ≤ sizeR r := by unfold sizeR sizeH; omega
theorem write_lenErr {r : RecM} (h : RightM r) : lenErr (writeM r) = none := by
  have hl := writeM_len h
  have hg := sizeR_ge r
  have ht : (writeM r).take 5 = digsN (sizeR r) 5 := by
    unfold writeM leadM
    simp only [List.append_assoc]
    rw [List.take_append_of_le_length (by rw [digsN_len]; omega), List.take_of_length_le (by rw [digsN_len]; omega)]
  have hv : valL (digsN (sizeR r) 5) = sizeR r := valL_digsN 5 _ (by have := h.size; show sizeR r < 100000; omega)
  unfold lenErr
  rw [ht, hl, hv, if_neg (by omega), if_pos (digsN_all 5 _), if_neg (by omega), if_neg (by omega)]
/-- The leader, byte by byte. -/
theorem leadM_eq (r : RecM) : ∃ a b c d e p q s t u, digsN (sizeR r) 5 = [a, b, c, d, e] ∧ digsN (sizeH r.fields.length) 5 = [p, q, s, t, u] ∧ leadM r = [a, b, c, d, e, 110, r.kind, r.level, 32, 97, 50, 50, p, q, s, t, u, 32, 32, 32, 52, 53, 48, 48] := by
  have h5 : ∀ l : List UInt8, l.length = 5 → ∃ a b c d e, l = [a, b, c, d, e] := by
    intro l hl
    match l, hl with
    | [a, b, c, d, e], _ => exact ⟨a, b, c, d, e, rfl⟩
  obtain ⟨a, b, c, d, e, h1⟩ := h5 _ (digsN_len 5 (sizeR r))
  obtain ⟨p, q, s, t, u, h2⟩ := h5 _ (digsN_len 5 (sizeH r.fields.length))
  exact ⟨a, b, c, d, e, p, q, s, t, u, h1, h2, by unfold leadM; rw [h1, h2]; rfl⟩
theorem write_leadErr {r : RecM} (h : RightM r) : leadErr (writeM r) = none := by
  obtain ⟨a, b, c, d, e, p, q, s, t, u, h1, h2, h3⟩ := leadM_eq r
  have hw : writeM r = [a, b, c, d, e, 110, r.kind, r.level, 32, 97, 50, 50, p, q, s, t, u, 32, 32, 32, 52, 53, 48, 48] ++ (dirM 0 r.fields ++ [30] ++ r.fields.flatMap bytesF ++ [29]) := by
    unfold writeM
    rw [h3]
    simp only [List.append_assoc]
  rw [hw]
  unfold leadErr hasAt
  simp [h.kind, h.level, Lib.hasPrefix, List.isPrefixOf]
theorem write_headOf {r : RecM} (h : RightM r) : headOf (writeM r) = .ok (sizeH r.fields.length) := by
  obtain ⟨a, b, c, d, e, p, q, s, t, u, h1, h2, h3⟩ := leadM_eq r
  have hd : headDigs (writeM r) = digsN (sizeH r.fields.length) 5 := by
    unfold headDigs writeM
    rw [h3, h2]
    simp
  have hv : valL (digsN (sizeH r.fields.length) 5) = sizeH r.fields.length := valL_digsN 5 _ (by have := h.many; show sizeH r.fields.length < 100000; unfold sizeH; omega)
  have hl := writeM_len h
  have hg := sizeR_ge r
  have hdl := dirM_len r.fields 0 (fun f hf => tagB_len (h.tags f hf))
  have h30 : (writeM r).getD (sizeH r.fields.length - 1) 0 = 30 := by
    unfold writeM
    rw [List.append_assoc, List.append_assoc (leadM r ++ dirM 0 r.fields) [30]]
    have hz : (leadM r ++ dirM 0 r.fields).length = sizeH r.fields.length - 1 := by
      rw [List.length_append, leadM_len, hdl]; unfold sizeH; omega
    rw [getD_end _ _ _ hz.symm]
    rfl
  have hb : headB (writeM r) (sizeH r.fields.length) = true := by
    rw [headB_iff, hl]
    unfold sizeR
    refine ⟨?_, ?_, ?_, h30⟩
    all_goals (unfold sizeH; omega)
  unfold headOf
  rw [hd, hv, if_pos (digsN_all 5 _), if_pos hb, if_neg (by have := h.many; unfold sizeH; omega)]
theorem write_last {r : RecM} (h : RightM r) : (writeM r).getD ((writeM r).length - 1) 0 = 29 := by
  unfold writeM
  rw [getD_end _ _ _ (by rw [List.length_append]; rfl)]
  rfl
theorem write_drop {r : RecM} (h : RightM r) : (writeM r).drop (sizeH r.fields.length) = r.fields.flatMap bytesF ++ [29] := by
  have hdl := dirM_len r.fields 0 (fun f hf => tagB_len (h.tags f hf))
  unfold writeM
  rw [List.append_assoc, List.drop_append_of_le_length (by simp only [List.length_append, leadM_len, hdl]; unfold sizeH; simp <;> omega), List.drop_of_length_le (by simp only [List.length_append, leadM_len, hdl]; unfold sizeH; simp <;> omega)]
  rfl
end Go.Proofs.YtpfnmjcomdckgaaDoor

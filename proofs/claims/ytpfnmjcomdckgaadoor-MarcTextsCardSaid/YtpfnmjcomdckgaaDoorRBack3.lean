/-
  What is written is read again: texts (no program).
-/
import Derived.Test.YtpfnmjcomdckgaaDoorRBack2
namespace Go.Proofs.YtpfnmjcomdckgaaDoor
open Go.RowKit Go.Shelf
set_option linter.unusedVariables false
set_option linter.unusedSimpArgs false

theorem decN_app (n n' b0 b1 b2 b3 c1 c2 c3 : Nat) (hn : n ≤ n') (h1 : 1 < n → c1 = b1) (h2 : 2 < n → c2 = b2) (h3 : 3 < n → c3 = b3) (hok : Lib.decodeN n b0 b1 b2 b3 ≠ (65533, 1)) :
    Lib.decodeN n' b0 c1 c2 c3 = Lib.decodeN n b0 b1 b2 b3 := by
  unfold Lib.decodeN at hok ⊢
  by_cases k0 : b0 < 128
  · rw [if_pos k0, if_pos k0]
  rw [if_neg k0] at hok ⊢
  rw [if_neg k0]
  by_cases k1 : b0 / 32 = 6 ∧ (1 < n ∧ b1 / 64 = 2)
  · have e1 := h1 k1.2.1
    subst e1
    rw [if_pos k1, if_pos ⟨k1.1, by omega, k1.2.2⟩]
  rw [if_neg k1] at hok ⊢
  by_cases k2 : b0 / 16 = 14 ∧ (1 < n ∧ b1 / 64 = 2) ∧ (2 < n ∧ b2 / 64 = 2)
  · have e1 := h1 k2.2.1.1
    have e2 := h2 k2.2.2.1
    subst e1 e2
    rw [if_neg (by omega), if_pos k2, if_pos ⟨k2.1, ⟨by omega, k2.2.1.2⟩, ⟨by omega, k2.2.2.2⟩⟩]
  rw [if_neg k2] at hok ⊢
  by_cases k3 : b0 / 8 = 30 ∧ (1 < n ∧ b1 / 64 = 2) ∧ (2 < n ∧ b2 / 64 = 2) ∧ (3 < n ∧ b3 / 64 = 2)
  · have e1 := h1 k3.2.1.1
    have e2 := h2 k3.2.2.1.1
    have e3 := h3 k3.2.2.2.1
    subst e1 e2 e3
    rw [if_neg (by omega), if_neg (by omega), if_pos k3, if_pos ⟨k3.1, ⟨by omega, k3.2.1.2⟩, ⟨by omega, k3.2.2.1.2⟩, ⟨by omega, k3.2.2.2.2⟩⟩]
  rw [if_neg k3] at hok
  exact absurd rfl hok
theorem getD_app (t rest : List UInt8) (i : Nat) (h : i < t.length) : (t ++ rest).getD i 0 = t.getD i 0 := by
  rw [List.getD_eq_getElem?_getD, List.getD_eq_getElem?_getD, List.getElem?_append_left h]
theorem dec_fffd (t : List UInt8) (h : t.take 3 = [239, 191, 189]) : dec t = (65533, 3) := by
  match t, h with
  | a :: b :: c :: r, h =>
    simp only [List.take_succ_cons, List.take_zero, List.cons.injEq, and_true] at h
    obtain ⟨rfl, rfl, rfl⟩ := h
    unfold dec Lib.decodeN
    simp
theorem go_ok {t : List UInt8} (h : stopB (dec t).1 t = false) : dec t ≠ (65533, 1) := by
  intro e
  unfold stopB at h
  rw [e] at h
  simp only [Bool.or_eq_false_iff, Bool.and_eq_false_iff] at h
  rcases h.2 with h | h
  · simp at h
  · have : t.take 3 = [239, 191, 189] := by simpa using h
    rw [dec_fffd t this] at e
    cases e
theorem dec_app (t rest : List UInt8) (ht : t ≠ []) (h : stopB (dec t).1 t = false) : dec (t ++ rest) = dec t ∧ stopB (dec t).1 (t ++ rest) = false := by
  have hp : 0 < t.length := by cases t with | nil => exact absurd rfl ht | cons a r => simp
  have hd : dec (t ++ rest) = dec t := by
    have hok := go_ok h
    unfold dec at hok ⊢
    rw [getD_app t rest 0 hp]
    exact decN_app _ _ _ _ _ _ _ _ _ (by rw [List.length_append]; omega) (fun k => by rw [getD_app t rest 1 k]) (fun k => by rw [getD_app t rest 2 k]) (fun k => by rw [getD_app t rest 3 k]) hok
  refine ⟨hd, ?_⟩
  unfold stopB at h ⊢
  simp only [Bool.or_eq_false_iff, Bool.and_eq_false_iff] at h ⊢
  refine ⟨h.1, ?_⟩
  rcases h.2 with h | h
  · exact .inl h
  · refine .inr ?_
    have h3 : t.take 3 = [239, 191, 189] := by simpa using h
    have hl : 3 ≤ t.length := by have := congrArg List.length h3; simp at this; omega
    rw [List.take_append_of_le_length hl, h3]
    rfl
theorem textLen_step {r : List UInt8} (hr : r ≠ []) (h : stopB (dec r).1 r = false) : textLen r = (dec r).2 + textLen (r.drop (dec r).2) := by
  have hp : 0 < r.length := by cases r with | nil => exact absurd rfl hr | cons a t => simp
  have h1 := (dec_pos r).1
  obtain ⟨m, hm⟩ : ∃ m, r.length = m + 1 := ⟨r.length - 1, by omega⟩
  unfold textLen
  rw [hm, lenT_go m r hr h]
  rw [lenT_fuel m (r.drop (dec r).2).length _ (by rw [List.length_drop]; omega) (Nat.le_refl _)]
theorem textLen_stop {r : List UInt8} (h : stopB (dec r).1 r = true) : textLen r = 0 := lenT_stop _ _ h
theorem textLen_app (rest : List UInt8) : ∀ (n : Nat) (t : List UInt8), t.length = n → textLen t = t.length → textLen (t ++ rest) = t.length + textLen rest := by
  intro n
  induction n using Nat.strongRecOn with
  | _ n ih =>
    intro t hn ht
    by_cases he : t = []
    · subst he; simp
    · have hp : 0 < t.length := by cases t with | nil => exact absurd rfl he | cons a r => simp
      cases hs : stopB (dec t).1 t with
      | true => rw [textLen_stop hs] at ht; omega
      | false =>
        obtain ⟨hd, hs2⟩ := dec_app t rest he hs
        have h1 := (dec_pos t).1
        have h2 := dec_le t he
        rw [textLen_step he hs] at ht
        have hdl : (t.drop (dec t).2).length = t.length - (dec t).2 := List.length_drop
        have hrec := ih (t.drop (dec t).2).length (by omega) (t.drop (dec t).2) rfl (by omega)
        rw [← hd] at hs2
        rw [textLen_step (by simp [he]) hs2, hd, List.drop_append_of_le_length h2, hrec]
        omega
theorem textLen_ctl (c : UInt8) (r : List UInt8) (h : c.toNat < 32) : textLen (c :: r) = 0 := by
  refine textLen_stop ?_
  have hd : dec (c :: r) = (c.toNat, 1) := by
    unfold dec Lib.decodeN
    rw [show (c :: r).getD 0 0 = c from rfl, if_pos (by omega)]
  rw [hd]
  unfold stopB
  simp [h]
theorem textB_iff {t : List UInt8} : textB t = true ↔ textLen t = t.length := by unfold textB; rw [beq_iff_eq]
/-- A text in front of a byte that ends it. -/
theorem textLen_end {t : List UInt8} (ht : textB t = true) (c : UInt8) (r : List UInt8) (h : c.toNat < 32) : textLen (t ++ c :: r) = t.length := by
  rw [textLen_app _ t.length t rfl (textB_iff.1 ht), textLen_ctl c r h]
  omega
theorem textM_end {bs : List UInt8} {off a : Nat} {t : List UInt8} {c : UInt8} {r : List UInt8} (hb : bs.drop a = t ++ c :: r) (ht : textB t = true) (hc : c.toNat < 32) : textM bs off a = .ok (str t, a + t.length) ∧ (bs.drop a).take (textLen (bs.drop a)) = t := by
  have hl := textLen_end ht c r hc
  rw [← hb] at hl
  have htk : (bs.drop a).take (textLen (bs.drop a)) = t := by rw [hl, hb, List.take_left]
  have hg : bs.getD (a + textLen (bs.drop a)) 0 = c := by
    rw [hl, List.getD_eq_getElem?_getD, ← List.getElem?_drop, hb, List.getElem?_append_right (Nat.le_refl _), Nat.sub_self]
    rfl
  refine ⟨?_, htk⟩
  unfold textM
  rw [htk, hg, hl, if_neg (by simp; omega)]
end Go.Proofs.YtpfnmjcomdckgaaDoor

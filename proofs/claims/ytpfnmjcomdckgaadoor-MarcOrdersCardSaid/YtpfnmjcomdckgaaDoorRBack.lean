/-
  What is written is read again: the leader (no program). What is written is read again: the directory (no program). What is written is read again: texts (no program). What is written is read again: a field (no program). What is written is read again: the whole record (no program).
-/
import Derived.Test.YtpfnmjcomdckgaaDoorRParse
namespace Go.Proofs.YtpfnmjcomdckgaaDoor
open Go.RowKit Go.Shelf
set_option linter.unusedVariables false
set_option linter.unusedSimpArgs false

theorem dig_ofNat (m : Nat) (h : m < 10) : (UInt8.ofNat (48 + m)).toNat = 48 + m := by
  simp only [UInt8.toNat_ofNat']
  omega
theorem digsN_all : ∀ (k n : Nat), (digsN n k).all digB = true
  | 0, _ => rfl
  | k + 1, n => by
    have h := dig_ofNat (n % 10) (by omega)
    simp only [digsN, List.all_append, List.all_cons, List.all_nil, Bool.and_true, Bool.and_eq_true]
    exact ⟨digsN_all k _, digB_iff.2 (by omega)⟩
theorem valL_digsN : ∀ (k n : Nat), n < 10 ^ k → valL (digsN n k) = n
  | 0, n, h => by
    have : n = 0 := by simpa using h
    rw [this]; rfl
  | k + 1, n, h => by
    have h1 := dig_ofNat (n % 10) (by omega)
    have h2 := valL_digsN k (n / 10) (by rw [Nat.pow_succ] at h; omega)
    rw [digsN, valL_snoc, h2, h1]
    omega
theorem tagB_len {t : List UInt8} (h : tagB t = true) : t.length = 3 := by
  unfold tagB at h
  simp only [Bool.and_eq_true, beq_iff_eq] at h
  exact h.1.2
theorem flat_len' : ∀ l : List FldM, (l.flatMap bytesF).length = fieldsN l
  | [] => rfl
  | f :: l => by
    have := flat_len' l
    simp only [fieldsN, List.flatMap_cons, List.length_append, bytesF_len, List.map_cons, List.sum_cons] at this ⊢
    omega
theorem getD_end (a : List UInt8) (b : List UInt8) (k : Nat) (h : k = a.length) : (a ++ b).getD k 0 = b.getD 0 0 := by
  subst h
  rw [List.getD_eq_getElem?_getD, List.getD_eq_getElem?_getD, List.getElem?_append_right (Nat.le_refl _), Nat.sub_self]
theorem leadM_len (r : RecM) : (leadM r).length = 24 := by simp [leadM, digsN_len]
theorem writeM_len {r : RecM} (h : RightM r) : (writeM r).length = sizeR r := by
  have h1 := dirM_len r.fields 0 (fun f hf => tagB_len (h.tags f hf))
  simp only [writeM, List.length_append, leadM_len, h1, flat_len', List.length_cons, List.length_nil, sizeR, sizeH]
  omega
theorem sizeR_ge (r : RecM) : 26 + 12 * r.fields.length ≤ sizeR r := by unfold sizeR sizeH; omega
theorem write_lenErr {r : RecM} (h : RightM r) : lenErr (writeM r) = none := by
  have hl := writeM_len h
  have hg := sizeR_ge r
  have ht : (writeM r).take 5 = digsN (sizeR r) 5 := by
    unfold writeM leadM
    simp only [List.append_assoc]
    rw [List.take_append_of_le_length (by rw [digsN_len]; omega), List.take_of_length_le (by rw [digsN_len]; omega)]
  have hv : valL (digsN (sizeR r) 5) = sizeR r := valL_digsN 5 _ (by have := h.size; show sizeR r < 100000; omega)
  unfold lenErr
  rw [ht, hl, hv, if_neg (by omega), if_pos (digsN_all 5 _), if_neg (by omega), if_neg (by omega)]
/-- The leader, byte by byte. -/
theorem leadM_eq (r : RecM) : ∃ a b c d e p q s t u, digsN (sizeR r) 5 = [a, b, c, d, e] ∧ digsN (sizeH r.fields.length) 5 = [p, q, s, t, u] ∧ leadM r = [a, b, c, d, e, 110, r.kind, r.level, 32, 97, 50, 50, p, q, s, t, u, 32, 32, 32, 52, 53, 48, 48] := by
  have h5 : ∀ l : List UInt8, l.length = 5 → ∃ a b c d e, l = [a, b, c, d, e] := by
    intro l hl
    match l, hl with
    | [a, b, c, d, e], _ => exact ⟨a, b, c, d, e, rfl⟩
  obtain ⟨a, b, c, d, e, h1⟩ := h5 _ (digsN_len 5 (sizeR r))
  obtain ⟨p, q, s, t, u, h2⟩ := h5 _ (digsN_len 5 (sizeH r.fields.length))
  exact ⟨a, b, c, d, e, p, q, s, t, u, h1, h2, by unfold leadM; rw [h1, h2]; rfl⟩
theorem write_leadErr {r : RecM} (h : RightM r) : leadErr (writeM r) = none := by
  obtain ⟨a, b, c, d, e, p, q, s, t, u, h1, h2, h3⟩ := leadM_eq r
  have hw : writeM r = [a, b, c, d, e, 110, r.kind, r.level, 32, 97, 50, 50, p, q, s, t, u, 32, 32, 32, 52, 53, 48, 48] ++ (dirM 0 r.fields ++ [30] ++ r.fields.flatMap bytesF ++ [29]) := by
    unfold writeM
    rw [h3]
    simp only [List.append_assoc]
  rw [hw]
  unfold leadErr hasAt
  simp [h.kind, h.level, Lib.hasPrefix, List.isPrefixOf]
theorem write_headOf {r : RecM} (h : RightM r) : headOf (writeM r) = .ok (sizeH r.fields.length) := by
  obtain ⟨a, b, c, d, e, p, q, s, t, u, h1, h2, h3⟩ := leadM_eq r
  have hd : headDigs (writeM r) = digsN (sizeH r.fields.length) 5 := by
    unfold headDigs writeM
    rw [h3, h2]
    simp
  have hv : valL (digsN (sizeH r.fields.length) 5) = sizeH r.fields.length := valL_digsN 5 _ (by have := h.many; show sizeH r.fields.length < 100000; unfold sizeH; omega)
  have hl := writeM_len h
  have hg := sizeR_ge r
  have hdl := dirM_len r.fields 0 (fun f hf => tagB_len (h.tags f hf))
  have h30 : (writeM r).getD (sizeH r.fields.length - 1) 0 = 30 := by
    unfold writeM
    rw [List.append_assoc, List.append_assoc (leadM r ++ dirM 0 r.fields) [30]]
    have hz : (leadM r ++ dirM 0 r.fields).length = sizeH r.fields.length - 1 := by
      rw [List.length_append, leadM_len, hdl]; unfold sizeH; omega
    rw [getD_end _ _ _ hz.symm]
    rfl
  have hb : headB (writeM r) (sizeH r.fields.length) = true := by
    rw [headB_iff, hl]
    unfold sizeR
    refine ⟨?_, ?_, ?_, h30⟩
    all_goals (unfold sizeH; omega)
  unfold headOf
  rw [hd, hv, if_pos (digsN_all 5 _), if_pos hb, if_neg (by have := h.many; unfold sizeH; omega)]
theorem write_last {r : RecM} (h : RightM r) : (writeM r).getD ((writeM r).length - 1) 0 = 29 := by
  unfold writeM
  rw [getD_end _ _ _ (by rw [List.length_append]; rfl)]
  rfl
theorem write_drop {r : RecM} (h : RightM r) : (writeM r).drop (sizeH r.fields.length) = r.fields.flatMap bytesF ++ [29] := by
  have hdl := dirM_len r.fields 0 (fun f hf => tagB_len (h.tags f hf))
  unfold writeM
  rw [List.append_assoc, List.drop_append_of_le_length (by simp only [List.length_append, leadM_len, hdl]; unfold sizeH; simp <;> omega), List.drop_of_length_le (by simp only [List.length_append, leadM_len, hdl]; unfold sizeH; simp <;> omega)]
  rfl
end Go.Proofs.YtpfnmjcomdckgaaDoor

namespace Go.Proofs.YtpfnmjcomdckgaaDoor
open Go.RowKit Go.Shelf
set_option linter.unusedVariables false
set_option linter.unusedSimpArgs false

/-- The entries of fields that stand one behind the other. -/
def entsM : Nat → List FldM → List EntM
  | _, [] => []
  | b, f :: fs => ⟨f.tag, b, sizeF f⟩ :: entsM (b + sizeF f) fs
theorem entsM_len : ∀ (fs : List FldM) (b : Nat), (entsM b fs).length = fs.length
  | [], _ => rfl
  | f :: fs, b => by simp only [entsM, List.length_cons, entsM_len fs]
theorem numN_digs {k n : Nat} (h : n < 10 ^ k) : numN (digsN n k) = n := by
  unfold numN
  rw [if_pos (digsN_all k n), valL_digsN k n h]
theorem ent_of (t : List UInt8) (n b : Nat) (ht : t.length = 3) (hn : n < 10000) (hb : b < 100000) :
    entOf (t ++ digsN n 4 ++ digsN b 5) = ⟨t, b, n⟩ ∧ (entB (t ++ digsN n 4 ++ digsN b 5) = tagB t) := by
  have e1 : (t ++ digsN n 4 ++ digsN b 5).take 3 = t := by
    rw [List.append_assoc, ← ht, List.take_left]
  have e2 : (t ++ digsN n 4 ++ digsN b 5).drop 7 = digsN b 5 := by
    have : (t ++ digsN n 4).length = 7 := by rw [List.length_append, ht, digsN_len]
    rw [← this, List.drop_left]
  have e3 : ((t ++ digsN n 4 ++ digsN b 5).drop 3).take 4 = digsN n 4 := by
    rw [List.append_assoc, ← ht, List.drop_left]
    have : (digsN n 4).length = 4 := digsN_len 4 n
    rw [List.take_append_of_le_length (by omega), List.take_of_length_le (by omega)]
  unfold entOf entB
  rw [e1, e2, e3, numN_digs (show b < 10 ^ 5 from hb), numN_digs (show n < 10 ^ 4 from hn), digsN_all, digsN_all]
  exact ⟨rfl, by simp⟩
theorem sizeF_pos (f : FldM) : 1 ≤ sizeF f := by unfold sizeF; omega
theorem dir_back (l B : List UInt8) (D : Nat) (hD : D ≤ 99999) : ∀ (fs : List FldM) (a b sum : Nat), l.drop a = dirM b fs ++ B → (∀ f ∈ fs, tagB f.tag = true) → (∀ f ∈ fs, sizeF f ≤ 9999) → b + fieldsN fs ≤ D → sum + fieldsN fs ≤ D →
    dirP l D fs.length a sum = .ok (entsM b fs)
  | [], a, b, sum, _, _, _, _, _ => rfl
  | f :: fs, a, b, sum, hl, ht, hs, hb, hm => by
    have h3 := tagB_len (ht f (by simp))
    have hz := hs f (by simp)
    have hp := sizeF_pos f
    have hN : fieldsN (f :: fs) = sizeF f + fieldsN fs := by simp [fieldsN]
    rw [hN] at hb hm
    have hlen : (f.tag ++ digsN (sizeF f) 4 ++ digsN b 5).length = 12 := by simp only [List.length_append, h3, digsN_len]
    have hl' : l.drop a = (f.tag ++ digsN (sizeF f) 4 ++ digsN b 5) ++ (dirM (b + sizeF f) fs ++ B) := by
      rw [hl, show dirM b (f :: fs) = f.tag ++ digsN (sizeF f) 4 ++ digsN b 5 ++ dirM (b + sizeF f) fs from rfl, List.append_assoc (f.tag ++ digsN (sizeF f) 4 ++ digsN b 5)]
    have ht12 : (l.drop a).take 12 = f.tag ++ digsN (sizeF f) 4 ++ digsN b 5 := by
      rw [hl', ← hlen, List.take_left]
    have hd12 : l.drop (a + 12) = dirM (b + sizeF f) fs ++ B := by
      rw [← List.drop_drop, hl', ← hlen, List.drop_left]
    obtain ⟨he, heb⟩ := ent_of f.tag (sizeF f) b h3 (by omega) (by omega)
    have ih := dir_back l B D hD fs (a + 12) (b + sizeF f) (sum + sizeF f) hd12 (fun g hg => ht g (by simp [hg])) (fun g hg => hs g (by simp [hg])) (by omega) (by omega)
    have hok : entOk D sum ((l.drop a).take 12) = true := by
      unfold entOk
      rw [ht12, heb, he, ht f (by simp)]
      simp only [Bool.true_and, Bool.and_eq_true, decide_eq_true_eq, Bool.not_eq_true', beq_eq_false_iff_ne]
      omega
    have hst : dirP l D (fs.length + 1) a sum = (match dirP l D fs.length (a + 12) (sum + (entOf ((l.drop a).take 12)).size) with
        | .bad x k => .bad x k
        | .ok es => .ok (entOf ((l.drop a).take 12) :: es)) := if_pos hok
    show dirP l D (fs.length + 1) a sum = _
    rw [hst, ht12, he, ih]
    rfl
theorem write_dir {r : RecM} (h : RightM r) : dirP (writeM r) ((writeM r).length - 1 - sizeH r.fields.length) ((sizeH r.fields.length - 25) / 12) 24 0 = .ok (entsM 0 r.fields) := by
  have hl := writeM_len h
  have hz : (writeM r).length - 1 - sizeH r.fields.length = fieldsN r.fields := by rw [hl]; unfold sizeR; omega
  have hn : (sizeH r.fields.length - 25) / 12 = r.fields.length := by unfold sizeH; omega
  have hs := h.size
  unfold sizeR at hs
  rw [hz, hn]
  refine dir_back (writeM r) ([30] ++ r.fields.flatMap bytesF ++ [29]) _ (by omega) r.fields 24 0 0 ?_ h.tags h.small (by omega) (by omega)
  unfold writeM
  rw [← leadM_len r]
  simp only [List.append_assoc, List.drop_left]
end Go.Proofs.YtpfnmjcomdckgaaDoor

namespace Go.Proofs.YtpfnmjcomdckgaaDoor
open Go.RowKit Go.Shelf
set_option linter.unusedVariables false
set_option linter.unusedSimpArgs false

theorem decN_app (n n' b0 b1 b2 b3 c1 c2 c3 : Nat) (hn : n ≤ n') (h1 : 1 < n → c1 = b1) (h2 : 2 < n → c2 = b2) (h3 : 3 < n → c3 = b3) (hok : Lib.decodeN n b0 b1 b2 b3 ≠ (65533, 1)) :
    Lib.decodeN n' b0 c1 c2 c3 = Lib.decodeN n b0 b1 b2 b3 := by
  unfold Lib.decodeN at hok ⊢
  by_cases k0 : b0 < 128
  · rw [if_pos k0, if_pos k0]
  rw [if_neg k0] at hok ⊢
  rw [if_neg k0]
  by_cases k1 : b0 / 32 = 6 ∧ (1 < n ∧ b1 / 64 = 2)
  · have e1 := h1 k1.2.1
    subst e1
    rw [if_pos k1, if_pos ⟨k1.1, by omega, k1.2.2⟩]
  rw [if_neg k1] at hok ⊢
  by_cases k2 : b0 / 16 = 14 ∧ (1 < n ∧ b1 / 64 = 2) ∧ (2 < n ∧ b2 / 64 = 2)
  · have e1 := h1 k2.2.1.1
    have e2 := h2 k2.2.2.1
    subst e1 e2
    rw [if_neg (by omega), if_pos k2, if_pos ⟨k2.1, ⟨by omega, k2.2.1.2⟩, ⟨by omega, k2.2.2.2⟩⟩]
  rw [if_neg k2] at hok ⊢
  by_cases k3 : b0 / 8 = 30 ∧ (1 < n ∧ b1 / 64 = 2) ∧ (2 < n ∧ b2 / 64 = 2) ∧ (3 < n ∧ b3 / 64 = 2)
  · have e1 := h1 k3.2.1.1
    have e2 := h2 k3.2.2.1.1
    have e3 := h3 k3.2.2.2.1
    subst e1 e2 e3
    rw [if_neg (by omega), if_neg (by omega), if_pos k3, if_pos ⟨k3.1, ⟨by omega, k3.2.1.2⟩, ⟨by omega, k3.2.2.1.2⟩, ⟨by omega, k3.2.2.2.2⟩⟩]
  rw [if_neg k3] at hok
  exact absurd rfl hok
theorem getD_app (t rest : List UInt8) (i : Nat) (h : i < t.length) : (t ++ rest).getD i 0 = t.getD i 0 := by
  rw [List.getD_eq_getElem?_getD, List.getD_eq_getElem?_getD, List.getElem?_append_left h]
theorem dec_fffd (t : List UInt8) (h : t.take 3 = [239, 191, 189]) : dec t = (65533, 3) := by
  match t, h with
  | a :: b :: c :: r, h =>
    simp only [List.take_succ_cons, List.take_zero, List.cons.injEq, and_true] at h
    obtain ⟨rfl, rfl, rfl⟩ := h
    unfold dec Lib.decodeN
    simp
theorem go_ok {t : List UInt8} (h : stopB (dec t).1 t = false) : dec t ≠ (65533, 1) := by
  intro e
  unfold stopB at h
  rw [e] at h
  simp only [Bool.or_eq_false_iff, Bool.and_eq_false_iff] at h
  rcases h.2 with h | h
  · simp at h
  · have : t.take 3 = [239, 191, 189] := by simpa using h
    rw [dec_fffd t this] at e
    cases e
theorem dec_app (t rest : List UInt8) (ht : t ≠ []) (h : stopB (dec t).1 t = false) : dec (t ++ rest) = dec t ∧ stopB (dec t).1 (t ++ rest) = false := by
  have hp : 0 < t.length := by cases t with | nil => exact absurd rfl ht | cons a r => simp
  have hd : dec (t ++ rest) = dec t := by
    have hok := go_ok h
    unfold dec at hok ⊢
    rw [getD_app t rest 0 hp]
    exact decN_app _ _ _ _ _ _ _ _ _ (by rw [List.length_append]; omega) (fun k => by rw [getD_app t rest 1 k]) (fun k => by rw [getD_app t rest 2 k]) (fun k => by rw [getD_app t rest 3 k]) hok
  refine ⟨hd, ?_⟩
  unfold stopB at h ⊢
  simp only [Bool.or_eq_false_iff, Bool.and_eq_false_iff] at h ⊢
  refine ⟨h.1, ?_⟩
  rcases h.2 with h | h
  · exact .inl h
  · refine .inr ?_
    have h3 : t.take 3 = [239, 191, 189] := by simpa using h
    have hl : 3 ≤ t.length := by have := congrArg List.length h3; simp at this; omega
    rw [List.take_append_of_le_length hl, h3]
    rfl
theorem textLen_step {r : List UInt8} (hr : r ≠ []) (h : stopB (dec r).1 r = false) : textLen r = (dec r).2 + textLen (r.drop (dec r).2) := by
  have hp : 0 < r.length := by cases r with | nil => exact absurd rfl hr | cons a t => simp
  have h1 := (dec_pos r).1
  obtain ⟨m, hm⟩ : ∃ m, r.length = m + 1 := ⟨r.length - 1, by omega⟩
  unfold textLen
  rw [hm, lenT_go m r hr h]
  rw [lenT_fuel m (r.drop (dec r).2).length _ (by rw [List.length_drop]; omega) (Nat.le_refl _)]
theorem textLen_stop {r : List UInt8} (h : stopB (dec r).1 r = true) : textLen r = 0 := lenT_stop _ _ h
theorem textLen_app (rest : List UInt8) : ∀ (n : Nat) (t : List UInt8), t.length = n → textLen t = t.length → textLen (t ++ rest) = t.length + textLen rest := by
  intro n
  induction n using Nat.strongRecOn with
  | _ n ih =>
    intro t hn ht
    by_cases he : t = []
    · subst he; simp
    · have hp : 0 < t.length := by cases t with | nil => exact absurd rfl he | cons a r => simp
      cases hs : stopB (dec t).1 t with
      | true => rw [textLen_stop hs] at ht; omega
      | false =>
        obtain ⟨hd, hs2⟩ := dec_app t rest he hs
        have h1 := (dec_pos t).1
        have h2 := dec_le t he
        rw [textLen_step he hs] at ht
        have hdl : (t.drop (dec t).2).length = t.length - (dec t).2 := List.length_drop
        have hrec := ih (t.drop (dec t).2).length (by omega) (t.drop (dec t).2) rfl (by omega)
        rw [← hd] at hs2
        rw [textLen_step (by simp [he]) hs2, hd, List.drop_append_of_le_length h2, hrec]
        omega
theorem textLen_ctl (c : UInt8) (r : List UInt8) (h : c.toNat < 32) : textLen (c :: r) = 0 := by
  refine textLen_stop ?_
  have hd : dec (c :: r) = (c.toNat, 1) := by
    unfold dec Lib.decodeN
    rw [show (c :: r).getD 0 0 = c from rfl, if_pos (by omega)]
  rw [hd]
  unfold stopB
  simp [h]
theorem textB_iff {t : List UInt8} : textB t = true ↔ textLen t = t.length := by unfold textB; rw [beq_iff_eq]
/-- A text in front of a byte that ends it. -/
theorem textLen_end {t : List UInt8} (ht : textB t = true) (c : UInt8) (r : List UInt8) (h : c.toNat < 32) : textLen (t ++ c :: r) = t.length := by
  rw [textLen_app _ t.length t rfl (textB_iff.1 ht), textLen_ctl c r h]
  omega
theorem textM_end {bs : List UInt8} {off a : Nat} {t : List UInt8} {c : UInt8} {r : List UInt8} (hb : bs.drop a = t ++ c :: r) (ht : textB t = true) (hc : c.toNat < 32) : textM bs off a = .ok (str t, a + t.length) ∧ (bs.drop a).take (textLen (bs.drop a)) = t := by
  have hl := textLen_end ht c r hc
  rw [← hb] at hl
  have htk : (bs.drop a).take (textLen (bs.drop a)) = t := by rw [hl, hb, List.take_left]
  have hg : bs.getD (a + textLen (bs.drop a)) 0 = c := by
    rw [hl, List.getD_eq_getElem?_getD, ← List.getElem?_drop, hb, List.getElem?_append_right (Nat.le_refl _), Nat.sub_self]
    rfl
  refine ⟨?_, htk⟩
  unfold textM
  rw [htk, hg, hl, if_neg (by simp; omega)]
end Go.Proofs.YtpfnmjcomdckgaaDoor

namespace Go.Proofs.YtpfnmjcomdckgaaDoor
open Go.RowKit Go.Shelf
set_option linter.unusedVariables false
set_option linter.unusedSimpArgs false

theorem at_drop {bs l : List UInt8} {a : Nat} (h : bs.drop a = l) (i : Nat) : bs.getD (a + i) 0 = l.getD i 0 := by
  rw [List.getD_eq_getElem?_getD, List.getD_eq_getElem?_getD, ← h, List.getElem?_drop]
theorem lt_drop {bs l : List UInt8} {a i : Nat} (h : bs.drop a = l) (hi : i < l.length) : a + i < bs.length := by
  have := congrArg List.length h
  rw [List.length_drop] at this
  omega
theorem sees_drop {bs r : List UInt8} {a : Nat} {c : UInt8} (h : bs.drop a = c :: r) (d : UInt8) : seesB bs a d = (c == d) := by
  unfold seesB
  have h1 := at_drop h 0
  have h2 := lt_drop (i := 0) h (by simp)
  rw [Nat.add_zero] at h1 h2
  rw [h1, decide_eq_true h2, Bool.true_and]
  rfl
theorem skip_drop {bs r : List UInt8} {a : Nat} {c : UInt8} (off : Nat) (h : bs.drop a = c :: r) : skipM bs off a c = .ok (.tuple #[], a + 1) := by
  unfold skipM
  rw [sees_drop h, if_pos (by simp)]
theorem take_drop {bs r : List UInt8} {a : Nat} {c : UInt8} (p : UInt8 → Bool) (off : Nat) (h : bs.drop a = c :: r) (hp : p c = true) : takeM p bs off a = .ok (.int .u8 (c.toNat : Int), a + 1) := by
  unfold takeM
  have h1 := at_drop h 0
  have h2 := lt_drop (i := 0) h (by simp)
  rw [Nat.add_zero] at h1 h2
  rw [h1, decide_eq_true h2]
  rw [show (c :: r).getD 0 0 = c from rfl, hp]
  rfl
theorem end_drop {bs : List UInt8} {a : Nat} (off : Nat) (f : FldM) (h : bs.drop a = [30]) : endM bs off a f = .ok f := by
  unfold endM
  rw [skip_drop off h]
  have := congrArg List.length h
  rw [List.length_drop] at this
  simp at this
  show (if a + 1 < bs.length then _ else _) = _
  rw [if_neg (by omega)]
theorem subsL_head (l : List SubM) : ∃ c r, subsL l ++ [30] = c :: r ∧ c.toNat < 32 ∧ (l ≠ [] → c = 31) := by
  cases l with
  | nil => exact ⟨30, [], rfl, by decide, by simp⟩
  | cons s t => exact ⟨31, s.code :: s.text ++ subsL t ++ [30], by simp [subsL], by decide, fun _ => rfl⟩
theorem subs_back (bs : List UInt8) (off : Nat) : ∀ (rest : List SubM) (f a : Nat) (acc : List SubM), rest.length < f → bs.drop a = subsL rest ++ [30] → rest.all subB = true → (acc ≠ [] ∨ rest ≠ []) →
    subsM bs off f a acc = .ok (acc ++ rest, a + (subsL rest).length)
  | [], 0, _, _, hf, _, _, _ => by simp at hf
  | [], f + 1, a, acc, hf, hb, _, ho => by
    have ha : acc ≠ [] := by simpa using ho
    have hs := sees_drop (show bs.drop a = 30 :: [] from hb) 30
    have : (!acc.isEmpty && seesB bs a 30) = true := by
      rw [hs]
      cases acc with
      | nil => exact absurd rfl ha
      | cons x y => rfl
    show (if _ then _ else _) = _
    rw [if_pos this]
    simp [subsL]
  | s :: rs, 0, _, _, hf, _, _, _ => by simp at hf
  | s :: rs, f + 1, a, acc, hf, hb, hall, ho => by
    simp only [List.all_cons, Bool.and_eq_true] at hall
    obtain ⟨hs, hrs⟩ := hall
    unfold subB at hs
    simp only [Bool.and_eq_true] at hs
    have hb0 : bs.drop a = 31 :: (s.code :: (s.text ++ (subsL rs ++ [30]))) := by rw [hb]; simp [subsL]
    have hb1 : bs.drop (a + 1) = s.code :: (s.text ++ (subsL rs ++ [30])) := by rw [← List.drop_drop, hb0]; rfl
    have hb2 : bs.drop (a + 2) = s.text ++ (subsL rs ++ [30]) := by rw [← List.drop_drop, hb0]; rfl
    obtain ⟨c, r, hcr, hc, _⟩ := subsL_head rs
    have hb2' := hb2
    rw [hcr] at hb2'
    obtain ⟨ht, htk⟩ := textM_end (off := off) hb2' hs.2 hc
    have hb3 : bs.drop (a + 2 + s.text.length) = subsL rs ++ [30] := by rw [← List.drop_drop, hb2, List.drop_left]
    have hsee : (!acc.isEmpty && seesB bs a 30) = false := by rw [sees_drop hb0]; simp
    have hstep : stepM bs off a = .ok (s, a + 2 + s.text.length) := by
      unfold stepM
      rw [skip_drop off hb0]
      show (match takeM signB bs off (a + 1) with | .bad p k => _ | .ok _ => _) = _
      rw [take_drop signB off hb1 hs.1]
      show (match textM bs off (a + 2) with | .bad p k => _ | .ok _ => _) = _
      rw [ht]
      show PR.ok (SubM.mk (bs.getD (a + 1) 0) ((bs.drop (a + 2)).take (textLen (bs.drop (a + 2)))), _) = _
      rw [htk]
      have h1 := at_drop hb1 0
      rw [Nat.add_zero] at h1
      rw [h1]
      rfl
    have ih := subs_back bs off rs f (a + 2 + s.text.length) (acc ++ [s]) (by simp at hf; omega) hb3 hrs (.inl (by simp))
    show (if _ then _ else _) = _
    rw [if_neg (by rw [hsee]; decide), hstep]
    show subsM bs off f (a + 2 + s.text.length) (acc ++ [s]) = _
    rw [ih]
    have hln : (subsL (s :: rs)).length = 2 + s.text.length + (subsL rs).length := by simp [subsL]; omega
    rw [hln]
    simp only [List.append_assoc, List.singleton_append]
    congr 2
    omega
theorem field_back (f : FldM) (off : Nat) (h : fieldB f = true) : fieldM f.tag (bytesF f) off = .ok f := by
  obtain ⟨tag, ind, data, subs⟩ := f
  unfold fieldB at h
  simp only at h
  unfold fieldM
  simp only
  cases hc : ctlB tag with
  | true =>
    rw [hc, if_pos rfl] at h
    simp only [Bool.and_eq_true, List.isEmpty_iff] at h
    obtain ⟨⟨rfl, rfl⟩, ht⟩ := h
    have hb : bytesF ⟨tag, [], data, []⟩ = data ++ [30] := by simp [bytesF, subsL]
    rw [hb, if_pos rfl]
    obtain ⟨h1, h2⟩ := textM_end (bs := data ++ [30]) (off := off) (a := 0) (t := data) (c := 30) (r := []) rfl ht (by decide)
    rw [h1]
    show endM (data ++ [30]) off (0 + data.length) ⟨tag, [], ((data ++ [30]).drop 0).take (textLen ((data ++ [30]).drop 0)), []⟩ = _
    rw [h2, end_drop off _ (by rw [Nat.zero_add, List.drop_left])]
  | false =>
    rw [hc, if_neg (by decide)] at h
    simp only [Bool.and_eq_true, List.isEmpty_iff, beq_iff_eq] at h
    obtain ⟨⟨⟨⟨rfl, hi⟩, hall⟩, hsub⟩, hne⟩ := h
    obtain ⟨x, y, rfl⟩ : ∃ x y, ind = [x, y] := by
      match ind, hi with
      | [x, y], _ => exact ⟨x, y, rfl⟩
    simp only [List.all_cons, List.all_nil, Bool.and_true, Bool.and_eq_true] at hall
    have hb : bytesF ⟨tag, [x, y], [], subs⟩ = x :: y :: (subsL subs ++ [30]) := by simp [bytesF]
    rw [hb, if_neg (by decide)]
    obtain ⟨bs, hbs⟩ : ∃ bs, x :: y :: (subsL subs ++ [30]) = bs := ⟨_, rfl⟩
    rw [hbs]
    have e0 : bs.drop 0 = x :: (y :: (subsL subs ++ [30])) := by rw [← hbs]; rfl
    have e1 : bs.drop 1 = y :: (subsL subs ++ [30]) := by rw [← hbs]; rfl
    have e2 : bs.drop 2 = subsL subs ++ [30] := by rw [← hbs]; rfl
    have hind : indM bs off = .ok (str (bs.take 2), 2) := by
      unfold indM
      rw [take_drop indB off e0 hall.1]
      show (match takeM indB bs off 1 with | .bad p k => _ | .ok _ => _) = _
      rw [take_drop indB off e1 hall.2]
    have hsl : subs.length ≤ (subsL subs).length := by
      clear hne hsub hb hbs e0 e1 e2 hind
      induction subs with
      | nil => simp
      | cons s t ih => simp [subsL] at ih ⊢; omega
    have hlen : bs.length = 2 + (subsL subs).length + 1 := by rw [← hbs]; simp; omega
    have hne' : subs ≠ [] := by simpa using hne
    rw [hind]
    show (match subsM bs off (bs.length + 1) 2 [] with | .bad p k => _ | .ok y => _) = _
    rw [subs_back bs off subs (bs.length + 1) 2 [] (by omega) e2 hsub (.inr hne')]
    show endM bs off (2 + (subsL subs).length) ⟨tag, bs.take 2, [], [] ++ subs⟩ = _
    rw [end_drop off _ (by rw [← List.drop_drop, e2, List.drop_left]), ← hbs]
    rfl
end Go.Proofs.YtpfnmjcomdckgaaDoor

namespace Go.Proofs.YtpfnmjcomdckgaaDoor
open Go.RowKit Go.Shelf
set_option linter.unusedVariables false
set_option linter.unusedSimpArgs false

theorem fields_back (data B : List UInt8) (off : Nat) : ∀ (fs : List FldM) (b : Nat), data.drop b = fs.flatMap bytesF ++ B → (∀ f ∈ fs, fieldB f = true) → fieldsP data off (entsM b fs) = .ok fs
  | [], _, _, _ => rfl
  | f :: fs, b, hd, hf => by
    have hd' : data.drop b = bytesF f ++ (fs.flatMap bytesF ++ B) := by rw [hd, List.flatMap_cons, List.append_assoc]
    have h1 : (data.drop b).take (sizeF f) = bytesF f := by rw [hd', ← bytesF_len, List.take_left]
    have h2 : data.drop (b + sizeF f) = fs.flatMap bytesF ++ B := by rw [← List.drop_drop, hd', ← bytesF_len, List.drop_left]
    have ih := fields_back data B off fs (b + sizeF f) h2 (fun g hg => hf g (by simp [hg]))
    show (match fieldM f.tag ((data.drop b).take (sizeF f)) (off + b) with | .bad p k => _ | .ok x => _) = _
    rw [h1, field_back f _ (hf f (by simp))]
    show (match fieldsP data off (entsM (b + sizeF f) fs) with | .bad p k => _ | .ok xs => _) = _
    rw [ih]
/-- What is written is read again. -/
theorem parse_write {r : RecM} (h : RightM r) : parseM (writeM r) = .ok r := by
  obtain ⟨a, b, c, d, e, p, q, s, t, u, h1, h2, h3⟩ := leadM_eq r
  have hw : writeM r = [a, b, c, d, e, 110, r.kind, r.level, 32, 97, 50, 50, p, q, s, t, u, 32, 32, 32, 52, 53, 48, 48] ++ (dirM 0 r.fields ++ [30] ++ r.fields.flatMap bytesF ++ [29]) := by
    unfold writeM
    rw [h3]
    simp only [List.append_assoc]
  have h6 : (writeM r).getD 6 0 = r.kind := by rw [hw]; rfl
  have h7 : (writeM r).getD 7 0 = r.level := by rw [hw]; rfl
  unfold parseM
  rw [write_lenErr h]
  simp only
  rw [write_leadErr h]
  simp only
  rw [write_headOf h]
  simp only
  rw [write_last h, if_pos rfl, write_dir h]
  simp only
  rw [write_drop h, fields_back _ [29] _ r.fields 0 rfl h.flds]
  simp only
  rw [h6, h7]
theorem parse_writeR {r : RecM} (h : checkM r = 0) : parseM (writeR r) = .ok r := by
  unfold writeR
  rw [if_pos h]
  exact parse_write (check_zero h)
end Go.Proofs.YtpfnmjcomdckgaaDoor

/-
  The reference's reader of characters, as a function of lists: no program.
-/
import Derived.Test.YtpfnmjcomdckgaaDoorRBack
import Derived.Test.YtpfnmjcomdckgaaDoorRLimM
import Derived.Test.YtpfnmjcomdckgaaDoorRCh
import Derived.Lib.DecodeNEq
namespace Go.Proofs.YtpfnmjcomdckgaaDoor
open Go.RowKit Go.Shelf
set_option linter.unusedVariables false
set_option linter.unusedSimpArgs false

theorem next_in {k lo hi : Nat} {c : UInt8} (h : lo ≤ c.toNat ∧ c.toNat ≤ hi) : nextC ⟨k + 1, lo, hi⟩ c = some ⟨k, 128, 191⟩ := by
  unfold nextC
  rw [if_pos (Nat.succ_pos k), if_neg (by show ¬(c.toNat < lo ∨ hi < c.toNat); omega)]
  rfl
theorem next_out {k lo hi : Nat} {c : UInt8} (h : c.toNat < lo ∨ hi < c.toNat) : nextC ⟨k + 1, lo, hi⟩ c = none := by
  unfold nextC
  rw [if_pos (Nat.succ_pos k), if_pos h]
theorem text_err {l : List UInt8} (hl : l ≠ []) (h : dec l = (65533, 1)) : textB l = false := by
  have h0 : textLen l = 0 := by
    refine textLen_stop ?_
    rw [h]
    unfold stopB
    have : (l.take 3 == [239, 191, 189]) = false := by
      rw [beq_eq_false_iff_ne]
      intro e
      rw [dec_fffd l e] at h
      cases h
    rw [this]; rfl
  unfold textB
  rw [h0, beq_eq_false_iff_ne]
  intro e
  exact hl (List.length_eq_zero_iff.1 e.symm)
theorem text_go {l : List UInt8} {V k : Nat} (hl : l ≠ []) (h : dec l = (V, k)) (h32 : 32 ≤ V) (hf : V = 65533 → l.take 3 = [239, 191, 189]) : textB l = textB (l.drop k) := by
  have hs : stopB (dec l).1 l = false := by
    rw [h]
    unfold stopB
    rw [Bool.or_eq_false_iff, Bool.and_eq_false_iff]
    refine ⟨by simp; omega, ?_⟩
    by_cases e : V = 65533
    · right; rw [hf e]; rfl
    · left; rw [beq_eq_false_iff_ne]; exact e
  have h1 := textLen_step hl hs
  have h2 := dec_le l hl
  rw [h] at h1 h2
  simp only at h1 h2
  unfold textB
  rw [h1, List.length_drop, Bool.eq_iff_iff, beq_iff_eq, beq_iff_eq]
  omega
theorem dec_cons (c : UInt8) (r : List UInt8) : dec (c :: r) = Lib.decodeN (r.length + 1) c.toNat (r.getD 0 0).toNat (r.getD 1 0).toNat (r.getD 2 0).toNat := by
  unfold dec
  simp
theorem lt256 (c : UInt8) : c.toNat < 256 := c.toNat_lt
theorem byte_eq {c : UInt8} {n : Nat} (hn : n < 256) (h : c.toNat = n) : c = UInt8.ofNat n := by
  apply UInt8.toNat_inj.1
  rw [h, UInt8.toNat_ofNat']
  omega
/-- The part behind the first byte, by the class of that byte. -/
theorem cls {sz lo hi : Nat} (hsz : sz = 2 ∨ sz = 3 ∨ sz = 4) (c : UInt8) (r : List UInt8)
    (hdec : ∀ n b1 b2 b3, 1 ≤ n → b1 < 256 → b2 < 256 → b3 < 256 → Lib.slowN n c.toNat b1 b2 b3 sz lo hi = Lib.decodeN n c.toNat b1 b2 b3)
    (h2 : sz = 2 → 194 ≤ c.toNat ∧ c.toNat < 224) (h3 : sz = 3 → 224 ≤ c.toNat ∧ c.toNat < 240 ∧ 128 ≤ lo ∧ hi ≤ 191 ∧ (c.toNat = 224 → 160 ≤ lo)) (h4 : sz = 4 → 240 ≤ c.toNat ∧ c.toNat < 245 ∧ 128 ≤ lo ∧ hi ≤ 191 ∧ (c.toNat = 240 → 144 ≤ lo))
    (ih : ∀ r' : List UInt8, r'.length ≤ r.length → endC (runC ⟨0, 128, 191⟩ r') = textB r') :
    endC (runC ⟨sz - 1, lo, hi⟩ r) = textB (c :: r) := by
  have hd := dec_cons c r
  rw [← hdec _ _ _ _ (by omega) (lt256 _) (lt256 _) (lt256 _)] at hd
  have hne : c :: r ≠ [] := List.cons_ne_nil _ _
  obtain ⟨k, hk⟩ : ∃ k, sz = k + 2 := ⟨sz - 2, by omega⟩
  subst hk
  match r, hd, ih with
  | [], hd, _ =>
    have : dec [c] = (65533, 1) := by
      rw [hd]; unfold Lib.slowN; rw [if_pos (by simp)]
    rw [text_err hne this]
    rfl
  | d :: r1, hd, ih =>
    simp only [List.getD_cons_zero, List.getD_cons_succ, List.length_cons] at hd
    by_cases hin : lo ≤ d.toNat ∧ d.toNat ≤ hi
    case neg =>
      have hout : d.toNat < lo ∨ hi < d.toNat := by omega
      rw [show k + 2 - 1 = k + 1 from rfl, runC_none _ (next_out hout)]
      have : dec (c :: d :: r1) = (65533, 1) := by
        rw [hd]; unfold Lib.slowN
        repeat' split
        all_goals first | rfl | (exfalso; omega)
      rw [text_err hne this]
      rfl
    rw [show k + 2 - 1 = k + 1 from rfl, runC_some _ (next_in hin)]
    match k, hsz, h2, h3, h4 with
    | 0, _, h2, _, _ =>
      have hc := h2 rfl
      have hdd : dec (c :: d :: r1) = (c.toNat % 32 * 64 + d.toNat % 64, 2) := by
        rw [hd]; unfold Lib.slowN
        rw [if_neg (by omega), if_neg (by omega), if_pos (by omega)]
      rw [text_go hne hdd (by omega) (by omega), ih r1 (by simp)]
      rfl
    | k + 1, hsz, _, h3, h4 =>
      match r1, hd, ih with
      | [], hd, _ =>
        have : dec [c, d] = (65533, 1) := by
          rw [hd]; unfold Lib.slowN; rw [if_pos (by simp)]
        rw [text_err hne this]
        rfl
      | e :: r2, hd, ih =>
        simp only [List.getD_cons_zero, List.getD_cons_succ, List.length_cons] at hd
        by_cases hin2 : 128 ≤ e.toNat ∧ e.toNat ≤ 191
        case neg =>
          have hout : e.toNat < 128 ∨ 191 < e.toNat := by omega
          rw [runC_none _ (next_out hout)]
          have : dec (c :: d :: e :: r2) = (65533, 1) := by
            rw [hd]; unfold Lib.slowN
            repeat' split
            all_goals first | rfl | (exfalso; omega)
          rw [text_err hne this]
          rfl
        rw [runC_some _ (next_in hin2)]
        match k, hsz, h3, h4 with
        | 0, _, h3, _ =>
          obtain ⟨hc1, hc2, hlo, hhi, hc3⟩ := h3 rfl
          have hdd : dec (c :: d :: e :: r2) = (c.toNat % 16 * 4096 + d.toNat % 64 * 64 + e.toNat % 64, 3) := by
            rw [hd]; unfold Lib.slowN
            rw [if_neg (by omega), if_neg (by omega), if_neg (by omega), if_neg (by omega), if_pos (by omega)]
          rw [text_go hne hdd (by omega) (fun hV => ?_), ih r2 (by simp; omega)]
          · rfl
          · have e1 : c.toNat = 239 := by omega
            have e2 : d.toNat = 191 := by omega
            have e3 : e.toNat = 189 := by omega
            rw [byte_eq (by omega) e1, byte_eq (by omega) e2, byte_eq (by omega) e3]
            rfl
        | k + 1, hsz, _, h4 =>
          obtain rfl : k = 0 := by omega
          match r2, hd, ih with
          | [], hd, _ =>
            have : dec [c, d, e] = (65533, 1) := by
              rw [hd]; unfold Lib.slowN; rw [if_pos (by simp)]
            rw [text_err hne this]
            rfl
          | g :: r3, hd, ih =>
            simp only [List.getD_cons_zero, List.getD_cons_succ, List.length_cons] at hd
            by_cases hin3 : 128 ≤ g.toNat ∧ g.toNat ≤ 191
            case neg =>
              have hout : g.toNat < 128 ∨ 191 < g.toNat := by omega
              rw [runC_none _ (next_out hout)]
              have : dec (c :: d :: e :: g :: r3) = (65533, 1) := by
                rw [hd]; unfold Lib.slowN
                repeat' split
                all_goals first | rfl | (exfalso; omega)
              rw [text_err hne this]
              rfl
            rw [runC_some _ (next_in hin3)]
            obtain ⟨hc1, hc2, hlo, hhi, hc3⟩ := h4 rfl
            have hdd : dec (c :: d :: e :: g :: r3) = (c.toNat % 8 * 262144 + d.toNat % 64 * 4096 + e.toNat % 64 * 64 + g.toNat % 64, 4) := by
              rw [hd]; unfold Lib.slowN
              rw [if_neg (by omega), if_neg (by omega), if_neg (by omega), if_neg (by omega), if_neg (by omega), if_neg (by omega)]
            rw [text_go hne hdd (by omega) (by omega), ih r3 (by simp; omega)]
            rfl
theorem text_run : ∀ (n : Nat) (l : List UInt8), l.length ≤ n → ∀ (lo hi : Nat), endC (runC ⟨0, lo, hi⟩ l) = textB l
  | _, [], _, _, _ => rfl
  | 0, c :: r, h, _, _ => by simp at h
  | n + 1, c :: r, h, lo, hi => by
    have hl : r.length ≤ n := by simpa using h
    have ih : ∀ r' : List UInt8, r'.length ≤ r.length → endC (runC ⟨0, 128, 191⟩ r') = textB r' := fun r' hr => text_run n r' (by omega) 128 191
    have hne : c :: r ≠ [] := List.cons_ne_nil _ _
    have hcl := lt256 c
    by_cases a1 : c.toNat < 32
    · have hn : nextC ⟨0, lo, hi⟩ c = none := by
        unfold nextC
        rw [if_neg (by simp), if_neg (by omega), if_neg (by omega), if_neg (by omega), if_neg (by omega)]
      rw [runC_none _ hn]
      unfold textB
      rw [textLen_ctl c r a1]
      rfl
    by_cases a2 : c.toNat < 128
    · have hn : nextC ⟨0, lo, hi⟩ c = some ⟨0, 128, 191⟩ := by
        unfold nextC
        rw [if_neg (by simp), if_pos (by omega)]
      rw [runC_some _ hn, text_go hne (dec_ascii c r a2) (by omega) (by omega), ih r (Nat.le_refl _)]
      rfl
    by_cases a3 : c.toNat < 194 ∨ 245 ≤ c.toNat
    · have hn : nextC ⟨0, lo, hi⟩ c = none := by
        unfold nextC
        rw [if_neg (by simp), if_neg (by omega), if_neg (by omega), if_neg (by omega), if_neg (by omega)]
      have hd : dec (c :: r) = (65533, 1) := by
        rw [dec_cons]
        have h1 := lt256 (r.getD 0 0)
        have h2 := lt256 (r.getD 1 0)
        have h3 := lt256 (r.getD 2 0)
        generalize (r.getD 0 0).toNat = b1 at *
        generalize (r.getD 1 0).toNat = b2 at *
        generalize (r.getD 2 0).toNat = b3 at *
        generalize r.length + 1 = m
        unfold Lib.decodeN
        repeat' split
        all_goals first | rfl | (exfalso; omega)
      rw [runC_none _ hn, text_err hne hd]
      rfl
    by_cases a4 : c.toNat < 224
    · have hn : nextC ⟨0, lo, hi⟩ c = some ⟨2 - 1, 128, 191⟩ := by
        unfold nextC
        rw [if_neg (by simp), if_neg (by omega), if_pos (by omega)]
      rw [runC_some _ hn]
      exact cls (.inl rfl) c r (fun n b1 b2 b3 a b d e => Lib.slow_C2 n _ b1 b2 b3 a b d e (by omega)) (fun _ => by omega) (fun h => by cases h) (fun h => by cases h) ih
    by_cases a5 : c.toNat < 240
    · have hn : nextC ⟨0, lo, hi⟩ c = some ⟨3 - 1, if c.toNat = 224 then 160 else 128, if c.toNat = 237 then 159 else 191⟩ := by
        unfold nextC
        rw [if_neg (by simp), if_neg (by omega), if_neg (by omega), if_pos (by omega)]
      rw [runC_some _ hn]
      refine cls (.inr (.inl rfl)) c r (fun n b1 b2 b3 a b d e => ?_) (fun h => by cases h) (fun _ => ⟨by omega, a5, by split <;> omega, by split <;> omega, fun h => by rw [if_pos h]; exact Nat.le_refl _⟩) (fun h => by cases h) ih
      by_cases x1 : c.toNat = 224
      · rw [if_pos x1, if_neg (by omega)]; exact Lib.slow_E0 n _ b1 b2 b3 a b d e x1
      · by_cases x2 : c.toNat = 237
        · rw [if_neg x1, if_pos x2]; exact Lib.slow_ED n _ b1 b2 b3 a b d e x2
        · rw [if_neg x1, if_neg x2]; exact Lib.slow_E1 n _ b1 b2 b3 a b d e (by omega)
    · have hn : nextC ⟨0, lo, hi⟩ c = some ⟨4 - 1, if c.toNat = 240 then 144 else 128, if c.toNat = 244 then 143 else 191⟩ := by
        unfold nextC
        rw [if_neg (by simp), if_neg (by omega), if_neg (by omega), if_neg (by omega), if_pos (by omega)]
      rw [runC_some _ hn]
      refine cls (.inr (.inr rfl)) c r (fun n b1 b2 b3 a b d e => ?_) (fun h => by cases h) (fun h => by cases h) (fun _ => ⟨by omega, by omega, by split <;> omega, by split <;> omega, fun h => by rw [if_pos h]; exact Nat.le_refl _⟩) ih
      by_cases x1 : c.toNat = 240
      · rw [if_pos x1, if_neg (by omega)]; exact Lib.slow_F0 n _ b1 b2 b3 a b d e x1
      · by_cases x2 : c.toNat = 244
        · rw [if_neg x1, if_pos x2]; exact Lib.slow_F4 n _ b1 b2 b3 a b d e x2
        · rw [if_neg x1, if_neg x2]; exact Lib.slow_F1 n _ b1 b2 b3 a b d e (by omega)
/-- What the reader accepts is a text. -/
theorem text_auto (l : List UInt8) (lo hi : Nat) : endC (runC ⟨0, lo, hi⟩ l) = textB l := text_run _ l (Nat.le_refl _) lo hi
end Go.Proofs.YtpfnmjcomdckgaaDoor

/-
  What the reference's Parse keeps: no walk.
-/
import Derived.Test.YtpfnmjcomdckgaaDoorRRefF
import Derived.Test.YtpfnmjcomdckgaaDoorRRefL
import Derived.Test.YtpfnmjcomdckgaaDoorRParseE
namespace Go.Proofs.YtpfnmjcomdckgaaDoor
open Go.RowKit Go.Shelf
set_option linter.unusedVariables false
set_option linter.unusedSimpArgs false

/-- The reference's field does what the function says. -/
def FieldC : Prop := ∀ (tag bs : List UInt8) (w : World), tag.length = 3 → bs.length ≤ 1099511627776 → 1 ≤ bs.length →
    Calls Tryd.prog 74 #[str tag, str bs] w (FRPost tag (runF (ctlB tag) bs bs.length 0 ⟨false, [], [], [], ⟨0, 0, 0⟩⟩) w)
theorem runF_14 {t : Bool} {bs : List UInt8} : ∀ {n i : Nat} {s : FS} {p k : Nat}, runF t bs n i s = .bad p k → k = 14
  | 0, i, s, p, k, h => by
    unfold runF at h
    split at h <;> cases h
    rfl
  | n + 1, i, s, p, k, h => by
    unfold runF at h
    split at h
    · cases h; rfl
    · exact runF_14 h
theorem runF_le {t : Bool} {bs : List UInt8} : ∀ {n i : Nat} {s : FS} {p k : Nat}, runF t bs n i s = .bad p k → p ≤ i + n + bs.length
  | 0, i, s, p, k, h => by
    unfold runF at h
    split at h
    · cases h
    · injection h; omega
  | n + 1, i, s, p, k, h => by
    unfold runF at h
    split at h
    · injection h; omega
    · have := runF_le h; omega
/-- Behind the leader. -/
def finG (x y : UInt8) : PR (List FldM) → PR RecM
  | .bad p k => .bad p k
  | .ok fs => .ok ⟨x, y, fs⟩
def parseG (l : List UInt8) (h : Nat) : PR (List EntM) → PR RecM
  | .bad p k => .bad p k
  | .ok es => finG (l.getD 6 0) (l.getD 7 0) (fieldsP (l.drop h) h es)
theorem leadR_cases (l : List UInt8) : (∃ p k, 1 ≤ k ∧ p ≤ l.length ∧ leadR l = (p, k) ∧ parseM l = .bad p k) ∨
    (leadR l = (0, 0) ∧ 24 ≤ l.length ∧ l.length < 100000 ∧ ∃ n, n ≤ 999 ∧ 25 + 12 * n < l.length ∧ rnumV (headDigs l) = ((25 + 12 * n : Nat) : Int) ∧ parseM l = parseG l (25 + 12 * n) (dirP l (l.length - 1 - (25 + 12 * n)) n 24 0)) := by
  unfold leadR parseM
  cases h1 : lenErr l with
  | some p =>
    left
    obtain ⟨p, k⟩ := p
    refine ⟨p, k, ?_, ?_, rfl, rfl⟩
    · unfold lenErr at h1
      repeat' split at h1
      all_goals first | (cases h1; done) | (cases h1; decide)
    · unfold lenErr at h1
      repeat' split at h1
      all_goals first | (cases h1; done) | (cases h1; omega)
  | none =>
  obtain ⟨h24, hbig⟩ := lenErr_none h1
  cases h2 : leadErr l with
  | some p =>
    left
    obtain ⟨p, k⟩ := p
    refine ⟨p, k, ?_, ?_, rfl, rfl⟩
    · unfold leadErr at h2
      repeat' split at h2
      all_goals first | (cases h2; done) | (cases h2; decide)
    · unfold leadErr at h2
      repeat' split at h2
      all_goals first | (cases h2; done) | (cases h2; omega)
  | none =>
  cases h3 : headOf l with
  | bad p k =>
    left
    refine ⟨p, k, ?_, ?_, rfl, rfl⟩
    · unfold headOf at h3
      repeat' split at h3
      all_goals first | (cases h3; done) | (cases h3; decide)
    · unfold headOf at h3
      repeat' split at h3
      all_goals first | (cases h3; done) | (cases h3; omega)
  | ok h =>
  obtain ⟨n, rfl, hn, hlt⟩ := headOf_ok h3
  by_cases h29 : l.getD (l.length - 1) 0 = 29
  · right
    refine ⟨if_pos h29, h24, hbig, n, hn, hlt, ?_, ?_⟩
    · unfold headOf at h3
      split at h3
      · rename_i hd
        split at h3
        · split at h3
          · cases h3
          · have h5 : (headDigs l).length = 5 := by unfold headDigs; rw [List.length_take, List.length_drop]; omega
            rw [rnumV_good hd (by omega)]
            have : valL (headDigs l) = 25 + 12 * n := by injection h3
            rw [this]
        · cases h3
      · cases h3
    · simp only
      rw [if_pos h29, show (25 + 12 * n - 25) / 12 = n by omega]
      cases dirP l (l.length - 1 - (25 + 12 * n)) n 24 0 with
      | bad p k => rfl
      | ok es =>
        show (match fieldsP (l.drop (25 + 12 * n)) (25 + 12 * n) es with | .bad p k => _ | .ok fs => _) = finG _ _ _
        cases fieldsP (l.drop (25 + 12 * n)) (25 + 12 * n) es <;> rfl
  · left
    refine ⟨l.length - 1, 14, by decide, by omega, if_neg h29, ?_⟩
    simp only
    rw [if_neg h29]
theorem rec_fin {w W : World} {b : Nat} (hn : W.heap[b]? = some (.cells #[.int .u8 0, .int .u8 0, .slice none 0 0] 27 (0, 0))) (hb : Below w.heap.size w W) (hB : w.heap.size ≤ b) (x y z : Value) :
    Below w.heap.size w (fin3 W b x y z) ∧ (∀ g, g ≠ b → (fin3 W b x y z).heap[g]? = W.heap[g]?) ∧ (fin3 W b x y z).cell? ⟨b, 0, none⟩ = some x ∧ (fin3 W b x y z).cell? ⟨b, 1, none⟩ = some y ∧ (fin3 W b x y z).cell? ⟨b, 2, none⟩ = some z := by
  have hnew : (fin3 W b x y z).heap[b]? = some (.cells #[x, y, z] 27 (0, 0)) := by
    have := blk_set (blk_set (blk_set hn 0 x) 1 y) 2 z
    unfold fin3
    simpa using this
  refine ⟨?_, fun g hg => ?_, by rw [cell_at hnew]; rfl, by rw [cell_at hnew]; rfl, by rw [cell_at hnew]; rfl⟩
  · unfold fin3
    exact ((hb.setCell (p := ⟨b, 0, none⟩) hB _).setCell (p := ⟨b, 1, none⟩) hB _).setCell (p := ⟨b, 2, none⟩) hB _
  · unfold fin3
    rw [far_set _ _ 2 _ hg, far_set _ _ 1 _ hg, far_set _ _ 0 _ hg]
theorem rec_old {W : World} {b : Nat} (hn : W.heap[b]? = some (.cells #[.int .u8 0, .int .u8 0, .slice none 0 0] 27 (0, 0))) :
    W.cell? ⟨b, 0, none⟩ = some (.int .u8 0) ∧ W.cell? ⟨b, 1, none⟩ = some (.int .u8 0) ∧ W.cell? ⟨b, 2, none⟩ = some (.slice none 0 0) ∧ W.frozen? ⟨b, 0, none⟩ = false ∧ W.frozen? ⟨b, 1, none⟩ = false ∧ W.frozen? ⟨b, 2, none⟩ = false :=
  ⟨by rw [cell_at hn]; rfl, by rw [cell_at hn]; rfl, by rw [cell_at hn]; rfl, Lib.frozen_of_heap hn 0, Lib.frozen_of_heap hn 1, Lib.frozen_of_heap hn 2⟩
/-- An entry's three parts. -/
theorem ent_parts (l : List UInt8) (a : Nat) : ((l.drop a).take 12).take 3 = (l.drop a).take 3 ∧ (((l.drop a).take 12).drop 3).take 4 = (l.drop (a + 3)).take 4 ∧ ((l.drop a).take 12).drop 7 = (l.drop (a + 7)).take 5 := by
  refine ⟨by rw [List.take_take]; rfl, ?_, ?_⟩
  · rw [List.drop_take, List.drop_drop, List.take_take]; rfl
  · rw [List.drop_take, List.drop_drop]
/-- Whether an entry can be, by its parts. -/
theorem entOk_eq {B T M K : List UInt8} (hT : B.take 3 = T) (hM : (B.drop 3).take 4 = M) (hK : B.drop 7 = K) (d sum : Nat) :
    entOk d sum B = (tagB T && M.all digB && K.all digB && !(numN M == 0) && decide (numN K + numN M ≤ d) && decide (sum + numN M ≤ d)) := by
  unfold entOk entB entOf
  rw [hT, hM, hK]
theorem numN_good {l : List UInt8} (h : l.all digB = true) : numN l = valL l := if_pos h
theorem dirP_cons {l : List UInt8} {d n a sum : Nat} {es : List EntM} (h : dirP l d (n + 1) a sum = .ok es) : entOk d sum ((l.drop a).take 12) = true ∧ ∃ es', es = entOf ((l.drop a).take 12) :: es' ∧ dirP l d n (a + 12) (sum + (entOf ((l.drop a).take 12)).size) = .ok es' := by
  cases hb : entOk d sum ((l.drop a).take 12) with
  | false => rw [dirP_bad hb] at h; cases h
  | true =>
    refine ⟨rfl, ?_⟩
    have h2 : dirP l d (n + 1) a sum = (match dirP l d n (a + 12) (sum + (entOf ((l.drop a).take 12)).size) with
      | .bad x k => .bad x k
      | .ok es => .ok (entOf ((l.drop a).take 12) :: es)) := if_pos hb
    rw [h2] at h
    cases hd : dirP l d n (a + 12) (sum + (entOf ((l.drop a).take 12)).size) with
    | bad x k => rw [hd] at h; cases h
    | ok es' => rw [hd] at h; cases h; exact ⟨es', rfl, rfl⟩
end Go.Proofs.YtpfnmjcomdckgaaDoor

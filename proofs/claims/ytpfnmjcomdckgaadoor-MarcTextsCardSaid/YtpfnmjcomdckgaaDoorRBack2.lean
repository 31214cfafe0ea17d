/-
  What is written is read again: the directory (no program).
-/
import Derived.Test.YtpfnmjcomdckgaaDoorRBack1
namespace Go.Proofs.YtpfnmjcomdckgaaDoor
open Go.RowKit Go.Shelf
set_option linter.unusedVariables false
set_option linter.unusedSimpArgs false

/-- The entries of fields that stand one behind the other. -/
def entsM : Nat → List FldM → List EntM
  | _, [] => []
  | b, f :: fs => ⟨f.tag, b, sizeF f⟩ :: entsM (b + sizeF f) fs
theorem entsM_len : ∀ (fs : List FldM) (b : Nat), (entsM b fs).length = fs.length
  | [], _ => rfl
  | f :: fs, b => by simp only [entsM, List.length_cons, entsM_len fs]
theorem numN_digs {k n : Nat} (h : n < 10 ^ k) : numN (digsN n k) = n := by
  unfold numN
  rw [if_pos (digsN_all k n), valL_digsN k n h]
theorem ent_of (t : List UInt8) (n b : Nat) (ht : t.length = 3) (hn : n < 10000) (hb : b < 100000) :
    entOf (t ++ digsN n 4 ++ digsN b 5) = ⟨t, b, n⟩ ∧ (entB (t ++ digsN n 4 ++ digsN b 5) = tagB t) := by
  have e1 : (t ++ digsN n 4 ++ digsN b 5).take 3 = t := by
    rw [List.append_assoc, ← ht, List.take_left]
  have e2 : (t ++ digsN n 4 ++ digsN b 5).drop 7 = digsN b 5 := by
    have : (t ++ digsN n 4).length = 7 := by rw [List.length_append, ht, digsN_len]
    rw [← this, List.drop_left]
  have e3 : ((t ++ digsN n 4 ++ digsN b 5).drop 3).take 4 = digsN n 4 := by
    rw [List.append_assoc, ← ht, List.drop_left]
    have : (digsN n 4).length = 4 := digsN_len 4 n
    rw [List.take_append_of_le_length (by omega), List.take_of_length_le (by omega)]
  unfold entOf entB
  rw [e1, e2, e3, numN_digs (show b < 10 ^ 5 from hb), numN_digs (show n < 10 ^ 4 from hn), digsN_all, digsN_all]
  exact ⟨rfl, by simp⟩
theorem sizeF_pos (f : FldM) : 1 ≤ sizeF f := by unfold sizeF; omega
theorem dir_back (l B : List UInt8) (D : Nat) (hD : D ≤ 99999) : ∀ (fs : List FldM) (a b sum : Nat), l.drop a = dirM b fs ++ B → (∀ f ∈ fs, tagB f.tag = true) → (∀ f ∈ fs, sizeF f ≤ 9999) → b + fieldsN fs ≤ D → sum + fieldsN fs ≤ D →
    dirP l D fs.length a sum = .ok (entsM b fs)
  | [], a, b, sum, _, _, _, _, _ => rfl
  | f :: fs, a, b, sum, hl, ht, hs, hb, hm => by
    have h3 := tagB_len (ht f (by simp))
    have hz := hs f (by simp)
    have hp := sizeF_pos f
    have hN : fieldsN (f :: fs) = sizeF f + fieldsN fs := by simp [fieldsN]
    rw [hN] at hb hm
    have hlen : (f.tag ++ digsN (sizeF f) 4 ++ digsN b 5).length = 12 := by simp only [List.length_append, h3, digsN_len]
    have hl' : l.drop a = (f.tag ++ digsN (sizeF f) 4 ++ digsN b 5) ++ (dirM (b + sizeF f) fs ++ B) := by
      rw [hl, show dirM b (f :: fs) = f.tag ++ digsN (sizeF f) 4 ++ digsN b 5 ++ dirM (b + sizeF f) fs from rfl, List.append_assoc (f.tag ++ digsN (sizeF f) 4 ++ digsN b 5)]
    have ht12 : (l.drop a).take 12 = f.tag ++ digsN (sizeF f) 4 ++ digsN b 5 := by
      rw [hl', ← hlen, List.take_left]
    have hd12 : l.drop (a + 12) = dirM (b + sizeF f) fs ++ B := by
      rw [← List.drop_drop, hl', ← hlen, List.drop_left]
    obtain ⟨he, heb⟩ := ent_of f.tag (sizeF f) b h3 (by omega) (by omega)
    have ih := dir_back l B D hD fs (a + 12) (b + sizeF f) (sum + sizeF f) hd12 (fun g hg => ht g (by simp [hg])) (fun g hg => hs g (by simp [hg])) (by omega) (by omega)
    have hok : entOk D sum ((l.drop a).take 12) = true := by
      unfold entOk
      rw [ht12, heb, he, ht f (by simp)]
      simp only [Bool.true_and, Bool.and_eq_true, decide_eq_true_eq, Bool.not_eq_true', beq_eq_false_iff_ne]
      omega
    have hst : dirP l D (fs.length + 1) a sum = (match dirP l D fs.length (a + 12) (sum + (entOf ((l.drop a).take 12)).size) with
        | .bad x k => .bad x k
        | .ok es => .ok (entOf ((l.drop a).take 12) :: es)) := if_pos hok
    show dirP l D (fs.length + 1) a sum = _
    rw [hst, ht12, he, ih]
    rfl
theorem write_dir {r : RecM} (h : RightM r) : dirP (writeM r) ((writeM r).length - 1 - sizeH r.fields.length) ((sizeH r.fields.length - 25) / 12) 24 0 = .ok (entsM 0 r.fields) := by
  have hl := writeM_len h
  have hz : (writeM r).length - 1 - sizeH r.fields.length = fieldsN r.fields := by rw [hl]; unfold sizeR; omega
  have hn : (sizeH r.fields.length - 25) / 12 = r.fields.length := by unfold sizeH; omega
  have hs := h.size
  unfold sizeR at hs
  rw [hz, hn]
  refine dir_back (writeM r) ([30] ++ r.fields.flatMap bytesF ++ [29]) _ (by omega) r.fields 24 0 0 ?_ h.tags h.small (by omega) (by omega)
  unfold writeM
  rw [← leadM_len r]
  simp only [List.append_assoc, List.drop_left]
end Go.Proofs.YtpfnmjcomdckgaaDoor

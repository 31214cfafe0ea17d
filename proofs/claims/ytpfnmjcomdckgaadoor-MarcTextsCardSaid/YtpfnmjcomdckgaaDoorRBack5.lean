/-
  What is written is read again: the whole record (no program).
-/
import Derived.Test.YtpfnmjcomdckgaaDoorRBack4
namespace Go.Proofs.YtpfnmjcomdckgaaDoor
open Go.RowKit Go.Shelf
set_option linter.unusedVariables false
set_option linter.unusedSimpArgs false

theorem fields_back (data B : List UInt8) (off : Nat) : ∀ (fs : List FldM) (b : Nat), data.drop b = fs.flatMap bytesF ++ B → (∀ f ∈ fs, fieldB f = true) → fieldsP data off (entsM b fs) = .ok fs
  | [], _, _, _ => rfl
  | f :: fs, b, hd, hf => by
    have hd' : data.drop b = bytesF f ++ (fs.flatMap bytesF ++ B) := by rw [hd, List.flatMap_cons, List.append_assoc]
    have h1 : (data.drop b).take (sizeF f) = bytesF f := by rw [hd', ← bytesF_len, List.take_left]
    have h2 : data.drop (b + sizeF f) = fs.flatMap bytesF ++ B := by rw [← List.drop_drop, hd', ← bytesF_len, List.drop_left]
    have ih := fields_back data B off fs (b + sizeF f) h2 (fun g hg => hf g (by simp [hg]))
    show (match fieldM f.tag ((data.drop b).take (sizeF f)) (off + b) with | .bad p k => _ | .ok x => _) = _
    rw [h1, field_back f _ (hf f (by simp))]
    show (match fieldsP data off (entsM (b + sizeF f) fs) with | .bad p k => _ | .ok xs => _) = _
    rw [ih]
/-- What is written is read again. -/
theorem parse_write {r : RecM} (h : RightM r) : parseM (writeM r) = .ok r := by
  obtain ⟨a, b, c, d, e, p, q, s, t, u, h1, h2, h3⟩ := leadM_eq r
  have hw : writeM r = [a, b, c, d, e, 110, r.kind, r.level, 32, 97, 50, 50, p, q, s, t, u, 32, 32, 32, 52, 53, 48, 48] ++ (dirM 0 r.fields ++ [30] ++ r.fields.flatMap bytesF ++ [29]) := by
    unfold writeM
    rw [h3]
    simp only [List.append_assoc]
  have h6 : (writeM r).getD 6 0 = r.kind := by rw [hw]; rfl
  have h7 : (writeM r).getD 7 0 = r.level := by rw [hw]; rfl
  unfold parseM
  rw [write_lenErr h]
  simp only
  rw [write_leadErr h]
  simp only
  rw [write_headOf h]
  simp only
  rw [write_last h, if_pos rfl, write_dir h]
  simp only
  rw [write_drop h, fields_back _ [29] _ r.fields 0 rfl h.flds]
  simp only
  rw [h6, h7]
theorem parse_writeR {r : RecM} (h : checkM r = 0) : parseM (writeR r) = .ok r := by
  unfold writeR
  rw [if_pos h]
  exact parse_write (check_zero h)
end Go.Proofs.YtpfnmjcomdckgaaDoor

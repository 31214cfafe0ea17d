/-
  The reference's long, called with a sum.
-/
import Derived.Test.YtpfnmjcomdckgaaDoorRLet
namespace Go.Proofs.YtpfnmjcomdckgaaDoor
open Go.RowKit Go.Shelf
set_option linter.unusedVariables false
set_option linter.unusedSimpArgs false

theorem rlong_w (j N : Nat) (hj : j < 12) (hN : 9990 + j = N) (D : List UInt8) (hD : List.replicate N 108 = D) (w : World) : Calls Tryd.prog 35 #[.int .i64 (9990 + (j : Int))] w fun e w' =>
    e = .returned (.slice (some ⟨w.heap.size, 0, none⟩) N N) ∧ (convert 42 9 (.slice (some ⟨w.heap.size, 0, none⟩) N N)).run Tryd.prog w' = .ok (str D) w' ∧ Below w.heap.size w w' := by
  have h := long_c N (by omega) w
  rw [show ((N : Nat) : Int) = 9990 + (j : Int) by omega] at h
  refine h.mono ?_
  rintro e w' ⟨rfl, hr, hb⟩
  exact ⟨rfl, by rw [← hD]; exact hr.conv N, hb⟩
end Go.Proofs.YtpfnmjcomdckgaaDoor

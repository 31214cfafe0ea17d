/-
  A record whose blocks are new: what is changed below a bound does not reach it.
-/
import Derived.Test.YtpfnmjcomdckgaaDoorRRecO
namespace Go.Proofs.YtpfnmjcomdckgaaDoor
open Go.RowKit Go.Shelf
set_option linter.unusedVariables false

/-- The record reads the same in every world that agrees from block B on. -/
def KeptV (B : Nat) (w : World) (v : Value) (r : RecM) : Prop := ∀ W2 : World, (∀ g, B ≤ g → W2.heap[g]? = w.heap[g]?) → RecV W2 v r
theorem KeptV.rec {B : Nat} {w : World} {v : Value} {r : RecM} (h : KeptV B w v r) : RecV w v r := h w (fun _ _ => rfl)
end Go.Proofs.YtpfnmjcomdckgaaDoor

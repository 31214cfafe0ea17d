/-
  marc.isTag.
-/
import Derived.Test.YtpfnmjcomdckgaaDoorRRec
namespace Go.Proofs.YtpfnmjcomdckgaaDoor
open Go.RowKit Go.Shelf
set_option linter.unusedVariables false
set_option linter.unusedSimpArgs false

set_option maxRecDepth 100000 in
set_option maxHeartbeats 1000000 in
theorem isTag_c (l : List UInt8) (hl : l.length ≤ 9223372036854775807) (w : World) :
    Calls Tryd.prog 55 #[str l] w fun e w' => e = .returned (.bool (tagB l)) ∧ w' = w := by
  have hsz := size_str l
  have N := Lib.hid (number_c l hl w)
  cases hd : l.all digB with
  | false =>
    have ht : tagB l = false := by unfold tagB; rw [hd]; rfl
    rw [hd] at N
    rw [ht]
    clear ht hd
    go_enter Tryd.func55, Tryd.ntmps55
    go_wp2_with fail
    refine N.out.mono ?_
    rintro e w1 ⟨rfl, rfl⟩
    go_wp2
    go_ret
    exact ⟨rfl, rfl⟩
  | true =>
    rw [hd] at N
    by_cases h3 : l.length = 3
    · have i3 : ((l.length : Int) == 3) = true := by rw [h3]; rfl
      have ht : tagB l = (l != [48, 48, 48]) := by unfold tagB; rw [hd, h3]; rfl
      rw [ht]
      clear ht hd
      go_enter Tryd.func55, Tryd.ntmps55
      go_wp2_with fail
      refine N.out.mono ?_
      rintro e w1 ⟨rfl, rfl⟩
      go_wp2
      go_ret
      exact ⟨rfl, rfl⟩
    · have i3 : ((l.length : Int) == 3) = false := by rw [beq_eq_false_iff_ne]; omega
      have ht : tagB l = false := by unfold tagB; simp [h3]
      rw [ht]
      clear ht hd
      go_enter Tryd.func55, Tryd.ntmps55
      go_wp2_with fail
      refine N.out.mono ?_
      rintro e w1 ⟨rfl, rfl⟩
      go_wp2
      go_ret
      exact ⟨rfl, rfl⟩
end Go.Proofs.YtpfnmjcomdckgaaDoor

/-
  Small functions: the reference's Mod, letters, digits, signs, tags.
-/
import Derived.Test.YtpfnmjcomdckgaaDoorRCheck
namespace Go.Proofs.YtpfnmjcomdckgaaDoor
open Go.RowKit Go.Shelf
set_option linter.unusedVariables false
set_option linter.unusedSimpArgs false

/-- n modulo m, as the reference has it. -/
def modI (n m : Int) : Int := (n.tmod m + m).tmod m
theorem modI_in {n m : Int} (hm : 0 < m) : 0 ≤ modI n m ∧ modI n m < m := by
  have h1 := Int.lt_tmod_of_pos n hm
  have h2 : 0 ≤ n.tmod m + m := by omega
  unfold modI
  exact ⟨Int.tmod_nonneg _ h2, Int.tmod_lt_of_pos _ hm⟩
def modN (n m : Int) : Nat := (modI n m).toNat
theorem modN_lt {n m : Int} (hm : 0 < m) : (modN n m : Int) < m := by have := modI_in (n := n) hm; unfold modN; omega
theorem modN_eq {n m : Int} (hm : 0 < m) : modI n m = (modN n m : Int) := by have := modI_in (n := n) hm; unfold modN; omega
set_option maxHeartbeats 400000 in
theorem mod_c (n m : Int) (hm : 0 < m) (hm2 : m ≤ 1099511627776) (hn : -9223372036854775808 ≤ n ∧ n ≤ 9223372036854775807) (w : World) :
    Calls Tryd.prog 22 #[.int .i64 n, .int .i64 m] w fun e w' => e = .returned (.int .i64 (modN n m)) ∧ w = w' := by
  have h1 := Int.lt_tmod_of_pos n hm
  have h2 := Int.tmod_lt_of_pos n hm
  have h3 := modN_eq (n := n) hm
  unfold modI at h3
  obtain ⟨k, hk⟩ : ∃ k, modN n m = k := ⟨_, rfl⟩
  rw [hk] at h3 ⊢
  clear hk
  obtain ⟨q, hq⟩ : ∃ q, n.tmod m = q := ⟨_, rfl⟩
  rw [hq] at h1 h2 h3
  have hm0 : m ≠ 0 := by omega
  have hz : (m == 0) = false := by simpa using hm0
  have hqm : (m + q).tmod m = k := by rw [Int.add_comm]; exact h3
  go_enter Tryd.func22, Tryd.ntmps22
  go_wp2
  go_ret
  exact ⟨rfl, rfl⟩
end Go.Proofs.YtpfnmjcomdckgaaDoor

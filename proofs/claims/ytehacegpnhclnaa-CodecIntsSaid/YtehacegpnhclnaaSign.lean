/-
  Signed and Unsigned of the program and of the reference; the reference's Mod; the law's near.
-/
import Derived.Test.YtehacegpnhclnaaProg
import Derived.Test.YtehacegpnhclnaaNumR
namespace Go.Proofs.Ytehacegpnhclnaa
open Go.RowKit

/-- The number that stands for an integer, and back. -/
def sg (n : Int) : Int := if 0 ≤ n then 2 * n else -2 * n - 1
def us (n : Int) : Int := if n % 2 = 0 then n / 2 else -(n + 1) / 2

set_option maxRecDepth 100000 in
set_option maxHeartbeats 400000 in
theorem signed_nn (n : Int) (w : World) (h : 0 ≤ n) (h2 : n ≤ 9223372036854775807) :
    Calls Try.prog 24 #[.int .i64 n] w fun e w' => e = .returned (.int .u64 (sg n)) ∧ w = w' := by
  have hs : sg n = 2 * n := if_pos h
  have Hs := Lib.hid hs
  clear hs
  go_enter Try.func24, Try.ntmps24
  go_wp2
  go_ret
  refine ⟨ret_int ?_, rfl⟩
  rw [Hs.out]
set_option maxRecDepth 100000 in
set_option maxHeartbeats 400000 in
theorem rsigned_nn (n : Int) (w : World) (h : 0 ≤ n) (h2 : n ≤ 9223372036854775807) :
    Calls Try.prog 25 #[.int .i64 n] w fun e w' => e = .returned (.int .u64 (sg n)) ∧ w = w' := by
  have hs : sg n = 2 * n := if_pos h
  have Hs := Lib.hid hs
  clear hs
  go_enter Try.func25, Try.ntmps25
  go_wp2
  go_ret
  refine ⟨ret_int ?_, rfl⟩
  rw [Hs.out]
set_option maxRecDepth 100000 in
set_option maxHeartbeats 400000 in
theorem signed_neg (n : Int) (w : World) (h : n < 0) (h2 : -9223372036854775808 ≤ n) :
    Calls Try.prog 24 #[.int .i64 n] w fun e w' => e = .returned (.int .u64 (sg n)) ∧ w = w' := by
  go_enter Try.func24, Try.ntmps24
  go_wp2
  go_ret
  refine ⟨ret_int ?_, rfl⟩
  unfold sg; rw [if_neg (by omega)]; omega
set_option maxRecDepth 100000 in
set_option maxHeartbeats 400000 in
theorem rsigned_neg (n : Int) (w : World) (h : n < 0) (h2 : -9223372036854775808 ≤ n) :
    Calls Try.prog 25 #[.int .i64 n] w fun e w' => e = .returned (.int .u64 (sg n)) ∧ w = w' := by
  go_enter Try.func25, Try.ntmps25
  go_wp2
  go_ret
  refine ⟨ret_int ?_, rfl⟩
  unfold sg; rw [if_neg (by omega)]; omega
set_option maxRecDepth 100000 in
set_option maxHeartbeats 400000 in
theorem unsigned_t (n : Int) (w : World) (h : 0 ≤ n) (hb : (n % 2 == 0) = true) (h2 : n < 18446744073709551616) :
    Calls Try.prog 26 #[.int .u64 n] w fun e w' => e = .returned (.int .i64 (us n)) ∧ w = w' := by
  go_enter Try.func26, Try.ntmps26
  go_wp2
  go_ret
  refine ⟨ret_int ?_, rfl⟩
  have h0 := beq_iff_eq.1 hb
  unfold us; rw [if_pos h0]
set_option maxRecDepth 100000 in
set_option maxHeartbeats 400000 in
theorem unsigned_o (n : Int) (w : World) (h : 0 ≤ n) (hb : (n % 2 == 0) = false) (h2 : n < 18446744073709551616) :
    Calls Try.prog 26 #[.int .u64 n] w fun e w' => e = .returned (.int .i64 (us n)) ∧ w = w' := by
  go_enter Try.func26, Try.ntmps26
  go_wp2
  go_ret
  refine ⟨ret_int ?_, rfl⟩
  have h0 := beq_eq_false_iff_ne.1 hb
  unfold us; rw [if_neg h0]; omega
set_option maxRecDepth 100000 in
set_option maxHeartbeats 400000 in
theorem runsigned_t (n : Int) (w : World) (h : 0 ≤ n) (hb : (n % 2 == 0) = true) (h2 : n < 18446744073709551616) :
    Calls Try.prog 27 #[.int .u64 n] w fun e w' => e = .returned (.int .i64 (us n)) ∧ w = w' := by
  go_enter Try.func27, Try.ntmps27
  go_wp2
  go_ret
  refine ⟨ret_int ?_, rfl⟩
  have h0 := beq_iff_eq.1 hb
  unfold us; rw [if_pos h0]
set_option maxRecDepth 100000 in
set_option maxHeartbeats 400000 in
theorem runsigned_o (n : Int) (w : World) (h : 0 ≤ n) (hb : (n % 2 == 0) = false) (h2 : n < 18446744073709551616) :
    Calls Try.prog 27 #[.int .u64 n] w fun e w' => e = .returned (.int .i64 (us n)) ∧ w = w' := by
  go_enter Try.func27, Try.ntmps27
  go_wp2
  go_ret
  refine ⟨ret_int ?_, rfl⟩
  have h0 := beq_eq_false_iff_ne.1 hb
  unfold us; rw [if_neg h0]; omega
theorem mod_eq (n m : Int) (h : 0 < m) (h2 : m ≤ 4611686018427387904) : (wrap64 (n.tmod m + m)).tmod m = n % m := by
  have h3 := Int.emod_nonneg n (show m ≠ 0 by omega)
  have h4 := Int.emod_lt_of_pos n h
  have h1 : n.tmod m = n % m ∨ n.tmod m = n % m - m := by
    have := @Int.tmod_eq_emod n m
    split at this
    · left; omega
    · right; omega
  have hw : wrap64 (n.tmod m + m) = n.tmod m + m := by
    apply IntWalk.wrap64_in
    omega
  rw [hw, Int.tmod_eq_emod_of_nonneg (by omega), Int.add_emod_right]
  rcases h1 with h1 | h1
  · rw [h1, Int.emod_emod_of_dvd n (Int.dvd_refl m)]
  · rw [h1, Int.sub_emod_right, Int.emod_emod_of_dvd n (Int.dvd_refl m)]

set_option maxRecDepth 100000 in
set_option maxHeartbeats 400000 in
theorem mod_t (n m : Int) (w : World) (h : 0 < m) (h2 : m ≤ 4611686018427387904) :
    Calls Try.prog 18 #[.int .i64 n, .int .i64 m] w fun e w' => e = .returned (.int .i64 (n % m)) ∧ w = w' := by
  go_enter Try.func18, Try.ntmps18
  go_wp2
  go_ret
  refine ⟨ret_int ?_, rfl⟩
  exact mod_eq n m h h2

theorem signed_c (n : Int) (w : World) (h1 : -9223372036854775808 ≤ n) (h2 : n ≤ 9223372036854775807) :
    Calls Try.prog 24 #[.int .i64 n] w fun e w' => e = .returned (.int .u64 (sg n)) ∧ w = w' := by
  by_cases h : 0 ≤ n
  · exact signed_nn n w h h2
  · exact signed_neg n w (by omega) h1
theorem rsigned_c (n : Int) (w : World) (h1 : -9223372036854775808 ≤ n) (h2 : n ≤ 9223372036854775807) :
    Calls Try.prog 25 #[.int .i64 n] w fun e w' => e = .returned (.int .u64 (sg n)) ∧ w = w' := by
  by_cases h : 0 ≤ n
  · exact rsigned_nn n w h h2
  · exact rsigned_neg n w (by omega) h1
theorem unsigned_c (n : Int) (w : World) (h : 0 ≤ n) (h2 : n < 18446744073709551616) :
    Calls Try.prog 26 #[.int .u64 n] w fun e w' => e = .returned (.int .i64 (us n)) ∧ w = w' := by
  cases hb : (n % 2 == 0) with
  | true => exact unsigned_t n w h hb h2
  | false => exact unsigned_o n w h hb h2
theorem runsigned_c (n : Int) (w : World) (h : 0 ≤ n) (h2 : n < 18446744073709551616) :
    Calls Try.prog 27 #[.int .u64 n] w fun e w' => e = .returned (.int .i64 (us n)) ∧ w = w' := by
  cases hb : (n % 2 == 0) with
  | true => exact runsigned_t n w h hb h2
  | false => exact runsigned_o n w h hb h2

theorem sg_range (n : Int) (h1 : -9223372036854775808 ≤ n) (h2 : n ≤ 9223372036854775807) : 0 ≤ sg n ∧ sg n < 18446744073709551616 := by
  unfold sg; split <;> omega
theorem us_range (n : Int) (h1 : 0 ≤ n) (h2 : n < 18446744073709551616) : -9223372036854775808 ≤ us n ∧ us n ≤ 9223372036854775807 := by
  unfold us; split <;> omega
theorem us_sg (n : Int) : us (sg n) = n := by unfold us sg; split <;> split <;> omega
theorem sg_us (n : Int) (h : 0 ≤ n) : sg (us n) = n := by unfold us sg; split <;> split <;> omega

set_option maxRecDepth 100000 in
set_option maxHeartbeats 400000 in
theorem near_c (n off : Int) (w : World) :
    Calls Try.prog 19 #[.int .i64 n, .int .i64 off] w fun e w' => (∃ x : Int, 0 ≤ x ∧ x < 18446744073709551616 ∧ e = .returned (.int .u64 x)) ∧ w = w' := by
  have h0 := Int.emod_nonneg n (show (64 : Int) ≠ 0 by omega)
  have h4 := Int.emod_lt_of_pos n (show (0 : Int) < 64 by omega)
  obtain ⟨m, hm⟩ : ∃ m, n % 64 = m := ⟨_, rfl⟩
  rw [hm] at h0 h4
  have Hm := Lib.hid hm
  clear hm
  go_enter Try.func19, Try.ntmps19
  go_wp2_with fail
  refine (mod_t n 64 _ (by omega) (by omega)).mono ?_
  rintro e w' ⟨rfl, rfl⟩
  rw [Hm.out]
  go_wp2
  go_ret
  refine ⟨⟨_, ?_, ?_, rfl⟩, rfl⟩
  · rw [IntKind.wrap_u64]; exact Int.emod_nonneg _ (by omega)
  · rw [IntKind.wrap_u64]; exact Int.emod_lt_of_pos _ (by omega)
end Go.Proofs.Ytehacegpnhclnaa

/-
  The checksum: codec.shiftByte, codec.Sum and the reference's Sum return 'crc' of the bytes.
-/
import Derived.Test.YtehacegpnhclnaaProg
import Derived.Test.YtehacegpnhclnaaMath
import Derived.WalkKit
import Derived.WalkSpells
import Derived.WalkLawsBesides
import Derived.Below
import Derived.Lib.Hide
namespace Go.Proofs.Ytehacegpnhclnaa
open Go.RowKit

theorem ret_int {k : IntKind} {a b : Int} (h : a = b) : Ending.returned (.int k a) = .returned (.int k b) := by rw [h]
theorem int_eq {k : IntKind} {a b : Int} (h : a = b) : Value.int k a = Value.int k b := by rw [h]

set_option maxHeartbeats 400000 in
theorem shiftByte_c (x : BitVec 32) (w : World) :
    Calls Try.prog 39 #[.int .u32 (x.toNat : Int)] w fun e w' => e = .returned (.int .u32 ((steps 8 x).toNat : Int)) ∧ w = w' := by
  go_enter Try.func39, Try.ntmps39
  go_wp2
  go_loop [0, 3, 4] (fun r o i => ∃ k : Nat, k ≤ 8 ∧ i = .int .i64 k ∧ r = .int .u32 ((steps k x).toNat : Int)) (fun _ _ i => 8 - (intOf i).toNat)
  case atStart => exact ⟨0, by omega, rfl, rfl⟩
  case round =>
    obtain ⟨k, hk, rfl, rfl⟩ := hrel
    by_cases hlt : k < 8
    · have hs := Lib.hid (step_int (steps k x))
      go_wp2
      go_round
      case rel => exact ⟨k + 1, by omega, by go_num, int_eq hs.out⟩
      case measure => simp [intOf]; omega
    · have h8 : k = 8 := by omega
      subst h8
      go_wp2
      go_ret
      exact ⟨rfl, rfl⟩

set_option maxHeartbeats 400000 in
theorem sum_c (s : ByteArray) (w : World) (hs : s.size ≤ maxLen) :
    Calls Try.prog 16 #[.string s] w fun e w' => e = .returned (.int .u32 ((crc s.data.toList).toNat : Int)) ∧ w = w' := by
  unfold maxLen at hs
  go_enter Try.func16, Try.ntmps16
  go_wp2
  go_loop [3, 4] (fun r i => ∃ k : Nat, k ≤ s.size ∧ i = .int .i64 k ∧ r = .int .u32 ((reg (s.data.toList.take k)).toNat : Int)) (fun _ i => s.size - (intOf i).toNat)
  case atStart => exact ⟨0, Nat.zero_le _, rfl, rfl⟩
  case round =>
    obtain ⟨k, hk, rfl, rfl⟩ := hrel
    by_cases hlt : k < s.size
    · have ht := Lib.hid (take_snoc s.data.toList k (by simpa using hlt))
      go_wp2_with fail
      rw [xor_byte_m]
      refine (shiftByte_c _ _).mono ?_
      rintro e w' ⟨rfl, rfl⟩
      go_wp2
      go_round
      case rel =>
        refine ⟨k + 1, by omega, by go_num, ?_⟩
        rw [ht.out, reg_snoc]; rfl
      case measure => simp [intOf]; omega
    · have h8 : k = s.size := by omega
      subst h8
      go_wp2
      go_ret
      refine ⟨ret_int ?_, rfl⟩
      rw [not_int, List.take_of_length_le (by simp)]; rfl

set_option maxHeartbeats 400000 in
theorem rsum_c (s : ByteArray) (w : World) (hs : s.size ≤ maxLen) :
    Calls Try.prog 17 #[.string s] w fun e w' => e = .returned (.int .u32 ((crc s.data.toList).toNat : Int)) ∧ w = w' := by
  unfold maxLen at hs
  go_enter Try.func17, Try.ntmps17
  go_wp2
  go_loop [3, 4, 5, 6] (fun r i _ _ => ∃ k : Nat, k ≤ s.size ∧ i = .int .i64 k ∧ r = .int .u32 ((reg (s.data.toList.take k)).toNat : Int)) (fun _ i _ _ => s.size - (intOf i).toNat)
  case atStart => exact ⟨0, Nat.zero_le _, rfl, rfl⟩
  case round =>
    obtain ⟨k, hk, rfl, rfl⟩ := hrel
    by_cases hlt : k < s.size
    · have ht := Lib.hid (take_snoc s.data.toList k (by simpa using hlt))
      obtain ⟨R, hR⟩ : ∃ R, reg (s.data.toList.take k) ^^^ BitVec.ofNat 32 s[k].toNat = R := ⟨_, rfl⟩
      have HR := Lib.hid hR
      have hxb := xor_byte_m (reg (s.data.toList.take k)) s[k]
      rw [hR] at hxb
      clear hR
      go_wp2
      clear hxb
      go_loop [3, 5, 6] (fun r j _ => ∃ m : Nat, m ≤ 8 ∧ j = .int .i64 m ∧ r = .int .u32 ((steps m R).toNat : Int)) (fun _ j _ => 8 - (intOf j).toNat)
      case atStart => exact ⟨0, by omega, rfl, rfl⟩
      case round =>
        obtain ⟨m, hm, rfl, rfl⟩ := hrel
        by_cases hl8 : m < 8
        · rcases Nat.mod_two_eq_zero_or_one (steps m R).toNat with h2 | h2
          · have he := Lib.hid (step_even _ h2)
            have hb : (((steps m R).toNat : Int) % 2 == 1) = false := by
              rw [beq_eq_false_iff_ne]; omega
            clear h2
            go_wp2
            go_round
            case rel => exact ⟨m + 1, by omega, by go_num, int_eq he.out⟩
            case measure => simp [intOf]; omega
          · have he := Lib.hid (step_odd _ h2)
            have hb : (((steps m R).toNat : Int) % 2 == 1) = true := by
              rw [beq_iff_eq]; omega
            clear h2
            go_wp2
            go_round
            case rel => exact ⟨m + 1, by omega, by go_num, int_eq he.out⟩
            case measure => simp [intOf]; omega
        · have h8 : m = 8 := by omega
          subst h8
          go_wp2
          go_round
          case rel =>
            refine ⟨k + 1, by omega, by go_num, ?_⟩
            rw [ht.out, reg_snoc, ← HR.out]; rfl
          case measure => simp [intOf]; omega
    · have h8 : k = s.size := by omega
      subst h8
      go_wp2
      go_ret
      refine ⟨ret_int ?_, rfl⟩
      rw [List.take_of_length_le (by simp)]
      unfold crc
      rw [not_toNat]
end Go.Proofs.Ytehacegpnhclnaa

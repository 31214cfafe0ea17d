/-
  The walk of CodecReads.
-/
import Derived.Test.YtehacegpnhclnaaHelp
namespace Go.Proofs.Ytehacegpnhclnaa
open Go.RowKit Go.Shelf

set_option maxRecDepth 100000 in
set_option maxHeartbeats 1000000 in
theorem walk_CodecReads (l : List UInt8) (hl : l.length ≤ maxLen) (n : Int) (_hn : Fits n) (c : UInt8) (w : World) :
    Calls Try.prog 6 #[str l, .int .i64 n, .int .u8 (c.toNat : Int)] w fun e w' => e = .returned (.bool true) ∧ Below w.heap.size w w' := by
  unfold maxLen at hl
  have hsz := size_str l
  have hex : (ByteArray.mk l.toArray).extract 0 (min (l.length : Int) 14).toNat = ⟨(l.take 14).toArray⟩ := ext_min l 14
  have hlt : (l.take 14).length ≤ 14 := by rw [List.length_take]; omega
  obtain ⟨x, hx⟩ : ∃ x, l.take 14 = x := ⟨_, rfl⟩
  rw [hx] at hex hlt
  clear hx
  have H1 := Lib.hid (sanity_c w)
  have hm0 := Int.emod_nonneg n (show (12 : Int) ≠ 0 by omega)
  have hm1 := Int.emod_lt_of_pos n (show (0 : Int) < 12 by omega)
  obtain ⟨m, hm⟩ : ∃ m : Nat, n % 12 = (m : Int) := ⟨(n % 12).toNat, by omega⟩
  have H2 := Lib.hid (fun W => mod_t n 12 W (by omega) (by omega))
  rw [hm] at hm0 hm1 H2
  clear hm
  go_enter Try.func6, Try.ntmps6
  go_wp2_with fail
  refine H1.out.mono ?_
  clear H1
  rintro e w1 ⟨rfl, hb⟩
  go_wp2_with fail
  go_loop [9, 10] (fun s i => ∃ k : Nat, k ≤ m ∧ i = .int .i64 k ∧ s = str (List.replicate k 128)) (fun _ i => m - (intOf i).toNat)
  case atStart => exact ⟨0, Nat.zero_le _, rfl, rfl⟩
  case round =>
    obtain ⟨k, hk, rfl, rfl⟩ := hrel
    by_cases hlt2 : k < m
    · have hadd := add_str (List.replicate k 128) [128] (by simp; omega)
      rw [← List.replicate_succ'] at hadd
      obtain ⟨A, hA⟩ : ∃ A, List.replicate k (128 : UInt8) = A := ⟨_, rfl⟩
      obtain ⟨A', hA'⟩ : ∃ A, List.replicate (k + 1) (128 : UInt8) = A := ⟨_, rfl⟩
      rw [hA, hA'] at hadd
      rw [hA]
      have HA' := Lib.hid hA'
      clear hA hA'
      go_wp2_with fail
      refine (H2.out _).mono ?_
      rintro e w' ⟨rfl, rfl⟩
      go_wp2
      go_round
      case rel => exact ⟨k + 1, by omega, by go_num, by rw [HA'.out]⟩
      case measure => simp [intOf]; omega
    · have hkm : k = m := by omega
      subst hkm
      obtain ⟨A, hA⟩ : ∃ A, List.replicate k (128 : UInt8) = A := ⟨_, rfl⟩
      have hAl : A.length ≤ 12 := by rw [← hA, List.length_replicate]; omega
      rw [hA]
      clear hA
      go_wp2_with fail
      refine (H2.out _).mono ?_
      rintro e w' ⟨rfl, rfl⟩
      have hcv := convC c
      have hadd1 := add_str A [c] (by simp; omega)
      have hadd2 := add_str (A ++ [c]) x (by simp; omega)
      have hadd3 := add_str [255, 255, 255, 255, 255, 255, 255, 255, 255] [c] (by simp)
      have R1 := Lib.hid (fun W => reads_c x W (by omega))
      have R2 := Lib.hid (fun W => reads_c A W (by omega))
      have R3 := Lib.hid (fun W => reads_c (A ++ [c]) W (by simp; omega))
      have R4 := Lib.hid (fun W => reads_c (A ++ c :: x) W (by simp; omega))
      have R5 := Lib.hid (fun W => reads_c [255, 255, 255, 255, 255, 255, 255, 255, 255, c] W (by simp))
      go_wp2_with fail
      refine (R1.out _).mono ?_
      rintro e w2 ⟨rfl, hb2⟩
      go_wp2_with fail
      refine (R2.out _).mono ?_
      rintro e w3 ⟨rfl, hb3⟩
      go_wp2_with fail
      refine (R3.out _).mono ?_
      rintro e w4 ⟨rfl, hb4⟩
      go_wp2_with fail
      refine (R4.out _).mono ?_
      rintro e w5 ⟨rfl, hb5⟩
      go_wp2_with fail
      refine (R5.out _).mono ?_
      rintro e w6 ⟨rfl, hb6⟩
      have Hb := Lib.hid (below_tr (below_tr (below_tr (below_tr (below_tr hb hb2) hb3) (below_tr (below_new w3 _) hb4)) (below_tr (below_new w4 _) hb5)) (below_tr (below_new w5 _) hb6))
      clear hb hb2 hb3 hb4 hb5 hb6
      go_wp2
      go_ret
      exact ⟨rfl, Hb.out⟩
end Go.Proofs.Ytehacegpnhclnaa

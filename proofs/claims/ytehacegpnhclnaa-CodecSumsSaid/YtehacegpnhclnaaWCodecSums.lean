/-
  The walk of CodecSums.
-/
import Derived.Test.YtehacegpnhclnaaSane
namespace Go.Proofs.Ytehacegpnhclnaa
open Go.RowKit Go.Shelf

theorem ext_min (l : List UInt8) (c : Nat) : (ByteArray.mk l.toArray).extract 0 (min (l.length : Int) (c : Int)).toNat = ⟨(l.take c).toArray⟩ := by
  rw [ext_take]
  have h : (min (l.length : Int) (c : Int)).toNat = min l.length c := by omega
  rw [h]
  congr 2
  by_cases hc : c ≤ l.length
  · rw [Nat.min_eq_right hc]
  · rw [Nat.min_eq_left (by omega), List.take_of_length_le (Nat.le_refl _), List.take_of_length_le (by omega)]
theorem sum_str (l : List UInt8) (w : World) (hs : l.length ≤ 140737488355328) :
    Calls Try.prog 16 #[str l] w fun e w' => e = .returned (.int .u32 ((crc l).toNat : Int)) ∧ w = w' := by
  have h := sum_c ⟨l.toArray⟩ w (by rw [size_str]; unfold maxLen; omega)
  simpa using h
theorem rsum_str (l : List UInt8) (w : World) (hs : l.length ≤ 140737488355328) :
    Calls Try.prog 17 #[str l] w fun e w' => e = .returned (.int .u32 ((crc l).toNat : Int)) ∧ w = w' := by
  have h := rsum_c ⟨l.toArray⟩ w (by rw [size_str]; unfold maxLen; omega)
  simpa using h

set_option maxRecDepth 100000 in
set_option maxHeartbeats 400000 in
theorem walk_CodecSums (l : List UInt8) (hl : l.length ≤ maxLen) (w : World) :
    Calls Try.prog 3 #[str l] w fun e w' => e = .returned (.bool true) ∧ Below w.heap.size w w' := by
  unfold maxLen at hl
  have hsz := size_str l
  have hex : (ByteArray.mk l.toArray).extract 0 (min (l.length : Int) 400).toNat = ⟨(l.take 400).toArray⟩ := ext_min l 400
  have hlt : (l.take 400).length ≤ 140737488355328 := by rw [List.length_take]; omega
  have H1 := Lib.hid (sanity_c w)
  have H2 := Lib.hid (fun W => sum_str (l.take 400) W hlt)
  have H3 := Lib.hid (fun W => rsum_str (l.take 400) W hlt)
  clear hlt
  go_enter Try.func3, Try.ntmps3
  go_wp2_with fail
  refine H1.out.mono ?_
  clear H1
  rintro e w1 ⟨rfl, hb⟩
  go_wp2_with fail
  refine (H2.out _).mono ?_
  rintro e w' ⟨rfl, rfl⟩
  go_wp2_with fail
  refine (H3.out _).mono ?_
  rintro e w' ⟨rfl, rfl⟩
  go_wp2
  go_ret
  exact ⟨rfl, hb⟩
end Go.Proofs.Ytehacegpnhclnaa

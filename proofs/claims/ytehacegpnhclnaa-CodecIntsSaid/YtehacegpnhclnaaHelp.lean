/-
  Small facts that the walks of the laws share.
-/
import Derived.Test.YtehacegpnhclnaaSane
namespace Go.Proofs.Ytehacegpnhclnaa
open Go.RowKit Go.Shelf

theorem ext_min (l : List UInt8) (c : Nat) : (ByteArray.mk l.toArray).extract 0 (min (l.length : Int) (c : Int)).toNat = ⟨(l.take c).toArray⟩ := by
  rw [ext_take]
  have h : (min (l.length : Int) (c : Int)).toNat = min l.length c := by omega
  rw [h]
  congr 2
  by_cases hc : c ≤ l.length
  · rw [Nat.min_eq_right hc]
  · rw [Nat.min_eq_left (by omega), List.take_of_length_le (Nat.le_refl _), List.take_of_length_le (by omega)]
theorem sum_str (l : List UInt8) (w : World) (hs : l.length ≤ 140737488355328) :
    Calls Try.prog 16 #[str l] w fun e w' => e = .returned (.int .u32 ((crc l).toNat : Int)) ∧ w = w' := by
  have h := sum_c ⟨l.toArray⟩ w (by rw [size_str]; unfold maxLen; omega)
  simpa using h
theorem rsum_str (l : List UInt8) (w : World) (hs : l.length ≤ 140737488355328) :
    Calls Try.prog 17 #[str l] w fun e w' => e = .returned (.int .u32 ((crc l).toNat : Int)) ∧ w = w' := by
  have h := rsum_c ⟨l.toArray⟩ w (by rw [size_str]; unfold maxLen; omega)
  simpa using h

theorem read_str (l : List UInt8) (w : World) (hs : l.length ≤ 140737488355328) :
    Calls Try.prog 21 #[str l] w fun e w' => e = .returned (.tuple #[.int .u64 ((readN l).1 : Int), .int .i64 ((readN l).2.1 : Int), .int .i64 ((readN l).2.2 : Int)]) ∧ w = w' := by
  have h := readNumber_c ⟨l.toArray⟩ w (by rw [size_str]; unfold maxLen; omega)
  simpa using h
theorem fits_wrap (n : Int) : Fits (wrap64 n) := by unfold Fits wrap64; omega
theorem fits_lo {n : Int} (h : Fits n) : -9223372036854775808 ≤ n := h.1
theorem fits_hi {n : Int} (h : Fits n) : n ≤ 9223372036854775807 := h.2

set_option maxRecDepth 100000 in
set_option maxHeartbeats 400000 in
/-- reads: the program's ReadNumber and the reference's agree. -/
theorem reads_c (l : List UInt8) (w : World) (hs : l.length ≤ 140737488355328) :
    Calls Try.prog 23 #[str l] w fun e w' => e = .returned (.bool true) ∧ Below w.heap.size w w' := by
  obtain ⟨a, b, c, hr⟩ : ∃ a b c, readN l = (a, b, c) := ⟨_, _, _, rfl⟩
  have h1 := read_str l w hs
  rw [hr] at h1
  have H1 := Lib.hid h1
  have H2 := Lib.hid (fun W => rread_at l a b c W hs hr)
  clear h1 hr
  go_enter Try.func23, Try.ntmps23
  go_wp2_with fail
  refine H1.out.mono ?_
  clear H1
  rintro e w' ⟨rfl, rfl⟩
  go_wp2_with fail
  refine (H2.out _).mono ?_
  clear H2
  rintro e w1 ⟨rfl, hb⟩
  go_wp2
  go_ret
  exact ⟨rfl, hb⟩
/-- string([]byte{c}) -/
theorem convC (c : UInt8) : ∀ (W : World) (a : Addr), W.cell? a = some (.int .u8 (c.toNat : Int)) → (convert 27 9 (.slice (some a) 1 1)).run Try.prog W = .ok (str [c]) W := by
  intro W a h
  have := conv1 c.toNat (u8_lt c) W a h
  rwa [UInt8.ofNat_toNat] at this
end Go.Proofs.Ytehacegpnhclnaa

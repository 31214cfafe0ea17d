/-
  utf8.FullRuneInString at every string.
-/
import Derived.Test.YtpfnmjcomdckgaaDoorRFull
namespace Go.Proofs.YtpfnmjcomdckgaaDoor
open Go.RowKit Go.Shelf Go.Lib
set_option linter.unusedVariables false

set_option maxRecDepth 100000 in
set_option maxHeartbeats 4000000 in
theorem full_more (b0 : UInt8) (l : List UInt8) (hl0 : l.getD 0 0 = b0) (hl4 : 4 ≤ l.length) (hl : l.length ≤ 1099511627776) (w : World) (hT : Tabs w) : Calls Tryd.prog 103 #[.string ⟨l.toArray⟩] w (FullPost (fullM l) w) := by
  have h0 := b0.toNat_lt
  have hc0 := hT.1 b0.toNat (by omega)
  have hsz := size_of l
  have hget0 : (ByteArray.mk l.toArray)[0]'(by rw [hsz]; omega) = b0 := by
    rw [← hl0]
    have : l.getD 0 0 = l[0] := by simp [List.getD, show 0 < l.length by omega]
    rw [this]; rfl
  have hX9 := firstT_cases b0.toNat
  have hf : fullM l = true := by
    unfold fullM
    rw [hl0]
    have : firstT b0.toNat % 8 ≤ l.length := by rcases hX9 with h | h | h | h | h | h | h | h | h <;> rw [h] <;> omega
    have hne : l ≠ [] := by intro e; rw [e] at hl4; simp at hl4
    simp [this, hne]
  rw [hf]
  obtain ⟨x0, hx0⟩ : ∃ x0, b0.toNat = x0 := ⟨_, rfl⟩
  rw [hx0] at hc0 h0 hX9
  obtain ⟨X, hX⟩ : ∃ X, firstT x0 = X := ⟨_, rfl⟩
  rw [hX] at hc0 hX9
  have i1 : (x0 : Int) < 256 := by omega
  have i4 : (4 : Int) ≤ (l.length : Int) := by omega
  have i5 : (l.length : Int) ≤ 1099511627776 := by omega
  clear hT hX hf h0 hl0
  rcases hX9 with rfl | rfl | rfl | rfl | rfl | rfl | rfl | rfl | rfl
  all_goals
    go_enter Tryd.func103, Tryd.ntmps103
    go_wp2
    go_ret
    exact ⟨rfl, Below.refl _ _⟩

theorem full_c (l : List UInt8) (hl : l.length ≤ 1099511627776) (w : World) (hT : Tabs w) : Calls Tryd.prog 103 #[.string ⟨l.toArray⟩] w (FullPost (fullM l) w) := by
  match l, hl with
  | [], _ => exact full_nil w
  | [b0], _ => exact full_one b0 w hT
  | [b0, b1], _ => exact full_two b0 b1 w hT
  | [b0, b1, b2], _ => exact full_three b0 b1 b2 w hT
  | b0 :: b1 :: b2 :: b3 :: t, hl => exact full_more b0 _ rfl (by simp) hl w hT
end Go.Proofs.YtpfnmjcomdckgaaDoor

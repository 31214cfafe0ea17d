/-
  The reference's number.
-/
import Derived.Test.YtpfnmjcomdckgaaDoorRIsT
import Derived.IntWalk
namespace Go.Proofs.YtpfnmjcomdckgaaDoor
open Go.RowKit Go.Shelf
set_option linter.unusedVariables false
set_option linter.unusedSimpArgs false

/-- The value of digits, -1 if there are others. -/
def rnumV (l : List UInt8) : Int := if l.all digB then numW l else -1
set_option maxRecDepth 100000 in
set_option maxHeartbeats 1000000 in
theorem rNumber_c (l : List UInt8) (hl : l.length ≤ 9223372036854775807) (w : World) :
    Calls Tryd.prog 72 #[str l] w fun e w' => e = .returned (.int .i64 (rnumV l)) ∧ w' = w := by
  have hsz := size_str l
  go_enter Tryd.func72, Tryd.ntmps72
  go_wp2
  go_loopw [3, 4] (fun n i wr => ∃ k : Nat, k ≤ l.length ∧ i = .int .i64 k ∧ n = .int .i64 (numW (l.take k)) ∧ (l.take k).all digB = true ∧ wr = w) (fun _ i _ => l.length - (intOf i).toNat)
  case atStart => exact ⟨0, Nat.zero_le _, rfl, rfl, rfl, rfl⟩
  case round =>
    obtain ⟨k, hk, rfl, rfl, hall, rfl⟩ := hrel
    by_cases hlt : k < l.length
    · have hs := take_snoc l k hlt
      have hb := l[k].toNat_lt
      obtain ⟨c, hc⟩ : ∃ c, l[k] = c := ⟨_, rfl⟩
      have hg : ∀ h, (ByteArray.mk l.toArray)[k]'h = c := fun h => by rw [get_str, hc]
      rw [hc] at hs hb
      have i0 : (0 : Int) ≤ (k : Int) := by omega
      have i1 : (k : Int) < (l.length : Int) := by omega
      cases hd : digB c with
      | true =>
        have hd2 := digB_iff.1 hd
        have j1 : (48 : Int) ≤ (c.toNat : Int) := by omega
        have j2 : (c.toNat : Int) ≤ 57 := by omega
        have Hs := Lib.hid hs
        have Hall := Lib.hid hall
        have Hd := Lib.hid hd
        clear hs hall hd2
        go_wp2_with fail
        refine (rDigit_c c _).mono ?_
        rintro e w7 ⟨rfl, rfl⟩
        rw [hd]
        clear hd
        go_wp2
        go_roundw
        case rel => exact ⟨k + 1, by omega, by go_num, by rw [Hs.out, numW_snoc], by rw [Hs.out, List.all_append, Hall.out]; simp [Hd.out]⟩
        case measure => simp [intOf]; omega
      | false =>
        have hbad : l.all digB = false := by
          rw [List.all_eq_false]
          exact ⟨c, hc ▸ List.getElem_mem _, by rw [hd]; decide⟩
        have Hb := Lib.hid hbad
        clear hs hall hbad
        go_wp2_with fail
        refine (rDigit_c c _).mono ?_
        rintro e w7 ⟨rfl, rfl⟩
        rw [hd]
        clear hd
        go_wp2
        go_ret
        exact ⟨by unfold rnumV; rw [if_neg (by rw [Hb.out]; decide)]; rfl, rfl⟩
    · have hkl : k = l.length := by omega
      subst hkl
      rw [List.take_length] at hall
      have hd : decide (l.length < l.length) = false := by simp
      have Hall := Lib.hid hall
      clear hall
      go_wp2
      go_ret
      exact ⟨by unfold rnumV; rw [if_pos Hall.out, List.take_length]; rfl, rfl⟩
end Go.Proofs.YtpfnmjcomdckgaaDoor

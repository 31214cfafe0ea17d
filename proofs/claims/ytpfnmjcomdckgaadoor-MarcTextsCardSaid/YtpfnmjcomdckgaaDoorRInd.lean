/-
  The field reader's indicators.
-/
import Derived.Test.YtpfnmjcomdckgaaDoorRFld2
import Derived.Test.YtpfnmjcomdckgaaDoorRField
import Derived.BigQuiet
import Derived.Deep.QuietTactic
namespace Go.Proofs.YtpfnmjcomdckgaaDoor
open Go.RowKit Go.Shelf
set_option linter.unusedVariables false
set_option linter.unusedSimpArgs false

def indM (bs : List UInt8) (off : Nat) : PR (Value × Nat) := match takeM indB bs off 0 with
  | .bad p k => .bad p k
  | .ok _ => match takeM indB bs off 1 with
    | .bad p k => .bad p k
    | .ok _ => .ok (str (bs.take 2), 2)
theorem enterInd : ∀ args w, (callFunc 79 args).run Tryd.prog w = .ok (.enter 79 args) w := enters_of Tryd.func79 (by kernel_rfl) rfl
theorem enterSign : ∀ args w, (callFunc 80 args).run Tryd.prog w = .ok (.enter 80 args) w := enters_of Tryd.func80 (by kernel_rfl) rfl
theorem takeM_cases (p : UInt8 → Bool) (bs : List UInt8) (off a : Nat) : (takeM p bs off a = .bad (failAt bs off a) 14) ∨ (takeM p bs off a = .ok (.int .u8 ((bs.getD a 0).toNat : Int), a + 1) ∧ a < bs.length ∧ p (bs.getD a 0) = true) := by
  unfold takeM
  by_cases h : (decide (a < bs.length) && p (bs.getD a 0)) = true
  · rw [if_pos h]
    simp only [Bool.and_eq_true, decide_eq_true_eq] at h
    exact .inr ⟨rfl, h.1, h.2⟩
  · rw [if_neg h]; exact .inl rfl
set_option maxRecDepth 100000 in
set_option maxHeartbeats 1000000 in
theorem ind_c (b : Nat) (bs : List UInt8) (off : Nat) (w : World) (h : FR b bs off 0 w) (h1 : 1 ≤ bs.length) (hl : bs.length ≤ 1099511627776) (ho : off ≤ 1099511627776) :
    Calls Tryd.prog 94 #[.pointer (some ⟨b, 0, none⟩)] w (MPost b bs off (indM bs off) w) := by
  have N1 := take_c _ indB enterInd isIndicator_c b bs off 0 w h h1 hl ho (Nat.zero_le _)
  unfold indM
  rcases takeM_cases indB bs off 0 with hb | ⟨hb, hlt, -⟩
  · rw [hb] at N1 ⊢
    unfold MPost at N1 ⊢
    have N1 := Lib.hid N1
    clear h hb
    go_enter Tryd.func94, Tryd.ntmps94
    go_wp2_with fail
    refine N1.out.mono ?_
    rintro e w2 ⟨rfl, hg2⟩
    go_wp2_with fail
    exact ⟨rfl, rfl, hg2⟩
  · rw [hb] at N1 ⊢
    have N2 := fun W hW => take_c _ indB enterInd isIndicator_c b bs off 1 W hW h1 hl ho (by omega)
    rcases takeM_cases indB bs off 1 with hb2 | ⟨hb2, hlt2, -⟩
    · simp only [hb2] at N2 ⊢
      unfold MPost at N1 N2 ⊢
      have N1 := Lib.hid N1
      have N2 := Lib.hid N2
      clear h hb hb2
      go_enter Tryd.func94, Tryd.ntmps94
      go_wp2_with fail
      refine N1.out.mono ?_
      rintro e w2 ⟨rfl, hf2, hg2⟩
      have N3 := Lib.hid (N2.out w2 hf2)
      have Hg2 := Lib.hid hg2
      clear hf2 hg2
      go_wp2_with fail
      refine N3.out.mono ?_
      rintro e w3 ⟨rfl, hg3⟩
      go_wp2_with fail
      exact ⟨rfl, rfl, grown_tr Hg2.out hg3⟩
    · simp only [hb2] at N2 ⊢
      unfold MPost at N1 N2 ⊢
      have N1 := Lib.hid N1
      have N2 := Lib.hid N2
      have hsz := size_str bs
      have hex := ext_take bs 2
      have i2 : (2 : Int) ≤ (bs.length : Int) := by omega
      clear h hb hb2
      go_enter Tryd.func94, Tryd.ntmps94
      go_wp2_with fail
      refine N1.out.mono ?_
      rintro e w2 ⟨rfl, hf2, hg2⟩
      have N3 := Lib.hid (N2.out w2 hf2)
      have Hg2 := Lib.hid hg2
      clear hf2 hg2
      go_wp2_with fail
      refine N3.out.mono ?_
      rintro e w3 ⟨rfl, hf3, hg3⟩
      have c0 := hf3.c0
      have c2 := hf3.c2
      have Hf3 := Lib.hid hf3
      have Hg3 := Lib.hid (grown_tr Hg2.out hg3)
      clear hf3 hg3
      go_wp2_with fail
      go_quiet (fail)
      go_wp2
      go_ret
      exact ⟨rfl, Hf3.out, grown_tr Hg3.out (grown_below (below_dr (Below.refl _ _) _))⟩
end Go.Proofs.YtpfnmjcomdckgaaDoor

/-
  marc.checkLeader and readHead.
-/
import Derived.Test.YtpfnmjcomdckgaaDoorRPCheck
namespace Go.Proofs.YtpfnmjcomdckgaaDoor
open Go.RowKit Go.Shelf
set_option linter.unusedVariables false
set_option linter.unusedSimpArgs false

theorem getD_at (l : List UInt8) (k : Nat) (h : k < l.length) : l.getD k 0 = l[k] := by simp [List.getD, h]
set_option maxRecDepth 100000 in
set_option maxHeartbeats 2000000 in
theorem checkLeader_c (l : List UInt8) (h24 : 24 ≤ l.length) (hl : l.length ≤ 1099511627776) (w : World) :
    Calls Tryd.prog 66 #[str l] w (CPost (leadErr l) w) := by
  have hsz := size_str l
  have hg6 : ∀ h, (ByteArray.mk l.toArray)[6]'h = l.getD 6 0 := fun h => by rw [getD_at l 6 (by omega)]; rfl
  have hg7 : ∀ h, (ByteArray.mk l.toArray)[7]'h = l.getD 7 0 := fun h => by rw [getD_at l 7 (by omega)]; rfl
  obtain ⟨x6, hx6⟩ : ∃ x, l.getD 6 0 = x := ⟨_, rfl⟩
  obtain ⟨x7, hx7⟩ : ∃ x, l.getD 7 0 = x := ⟨_, rfl⟩
  have hle : leadErr l = (if lowB x6 then (if lowB x7 then (if hasAt l 9 [97] then (if hasAt l 10 [50, 50] then (if hasAt l 20 [52, 53, 48, 48] then none else some (20, 12)) else some (10, 12)) else some (9, 12)) else some (7, 12)) else some (6, 12)) := by
    unfold leadErr; rw [hx6, hx7]
  rw [hx6] at hg6
  rw [hx7] at hg7
  obtain ⟨W3, hW3⟩ : ∃ W3, w.alloc (.cells #[.int .i64 6, .int .i64 7] 3) = W3 := ⟨_, rfl⟩
  have hb3 : Below w.heap.size w W3 := by rw [← hW3]; exact below_new w _
  have hn3 := new_at w (.cells #[.int .i64 6, .int .i64 7] 3)
  rw [hW3] at hn3
  have g0 : W3.cell? ⟨w.heap.size, 0, none⟩ = some (.int .i64 6) := by rw [cell_at hn3]; rfl
  have g1 : W3.cell? ⟨w.heap.size, 1, none⟩ = some (.int .i64 7) := by rw [cell_at hn3]; rfl
  have Hb3 := Lib.hid hb3
  have N1 := Lib.hid (isLetter_c x6 W3)
  have N2 := Lib.hid (isLetter_c x7 W3)
  have E1 := expect_c l [97] 9 (by omega) W3
  have E2 := fun W => expect_c l [50, 50] 10 (by omega) W
  have E3 := fun W => expect_c l [52, 53, 48, 48] 20 (by omega) W
  have HE1 := Lib.hid E1
  have HE2 := Lib.hid E2
  have HE3 := Lib.hid E3
  have Hle := Lib.hid hle
  clear hb3 hn3 E1 E2 E3 hle hx6 hx7
  obtain ⟨Z, hZ⟩ : ∃ Z, leadErr l = Z := ⟨_, rfl⟩
  rw [hZ] at Hle ⊢
  clear hZ
  go_enter Tryd.func66, Tryd.ntmps66
  go_wp2_with fail
  clear hW3
  go_loopw [6] (fun i wr => ∃ k : Nat, k ≤ 2 ∧ i = .int .i64 k ∧ (1 ≤ k → lowB x6 = true) ∧ (2 ≤ k → lowB x7 = true) ∧ wr = W3) (fun i _ => 2 - (intOf i).toNat)
  case atStart => exact ⟨0, by omega, rfl, by omega, by omega, rfl⟩
  case round =>
    obtain ⟨k, hk, rfl, h6, h7, rfl⟩ := hrel
    match k, hk with
    | 0, _ =>
      cases hx : lowB x6 with
      | false =>
        rw [hx] at N1
        have hz := Hle.out
        rw [if_neg (by rw [hx]; decide)] at hz
        have Hz := Lib.hid hz
        clear hz h6 h7 hx Hle
        go_wp2_with fail
        refine N1.out.mono ?_
        rintro e w1 ⟨rfl, rfl⟩
        go_wp2_with fail
        refine (fail_c _ _ _).mono ?_
        rintro e w8 ⟨rfl, rfl⟩
        go_wp2_with fail
        refine ⟨rfl, ?_⟩
        rw [Hz.out]
        exact ⟨rfl, Hb3.out⟩
      | true =>
        rw [hx] at N1
        have Hx := Lib.hid hx
        clear h6 h7 hx
        go_wp2_with fail
        refine N1.out.mono ?_
        rintro e w1 ⟨rfl, rfl⟩
        go_wp2_with fail
        go_roundw
        case rel => exact ⟨1, by omega, by go_num, (fun _ => by first | exact Hx.out | trivial), by omega, by first | rfl | trivial⟩
        case measure => simp [intOf]
    | 1, _ =>
      have hx6 := h6 (by omega)
      have hz := Hle.out
      rw [if_pos hx6] at hz
      cases hx : lowB x7 with
      | false =>
        rw [hx] at N2
        rw [if_neg (by rw [hx]; decide)] at hz
        have Hz := Lib.hid hz
        clear hz h6 h7 hx Hle hx6
        go_wp2_with fail
        refine N2.out.mono ?_
        rintro e w1 ⟨rfl, rfl⟩
        go_wp2_with fail
        refine (fail_c _ _ _).mono ?_
        rintro e w8 ⟨rfl, rfl⟩
        go_wp2_with fail
        refine ⟨rfl, ?_⟩
        rw [Hz.out]
        exact ⟨rfl, Hb3.out⟩
      | true =>
        rw [hx] at N2
        have Hx := Lib.hid hx
        have Hx6 := Lib.hid hx6
        clear h6 h7 hx hz hx6
        go_wp2_with fail
        refine N2.out.mono ?_
        rintro e w1 ⟨rfl, rfl⟩
        go_wp2_with fail
        go_roundw
        case rel => exact ⟨2, by omega, by go_num, (fun _ => by first | exact Hx6.out | trivial), (fun _ => by first | exact Hx.out | trivial), by first | rfl | trivial⟩
        case measure => simp [intOf]
    | 2, _ =>
      have hx6 := h6 (by omega)
      have hx7 := h7 (by omega)
      have hz := Hle.out
      rw [if_pos hx6, if_pos hx7] at hz
      have HE1 := HE1.out
      unfold CPost at HE1
      cases e9 : hasAt l 9 [97] with
      | false =>
        rw [e9] at HE1 hz
        rw [if_neg (by decide)] at HE1 hz
        have HE1 := Lib.hid HE1
        have Hz := Lib.hid hz
        clear hz h6 h7 Hle hx6 hx7 e9
        go_wp2_with fail
        refine HE1.out.mono ?_
        rintro e w1 ⟨rfl, hb⟩
        have Hb := Lib.hid (below_tr Hb3.out hb)
        go_wp2_with fail
        refine ⟨rfl, ?_⟩
        rw [Hz.out]
        exact ⟨rfl, Hb.out⟩
      | true =>
        rw [e9] at HE1 hz
        rw [if_pos rfl] at HE1 hz
        have HE1 := Lib.hid HE1
        cases e10 : hasAt l 10 [50, 50] with
        | false =>
          rw [e10] at hz HE2
          rw [if_neg (by decide)] at hz
          have Hz := Lib.hid hz
          clear hz h6 h7 Hle hx6 hx7 e9 e10
          go_wp2_with fail
          refine HE1.out.mono ?_
          rintro e w1 ⟨rfl, hb⟩
          have Hb := Lib.hid (below_tr Hb3.out hb)
          clear hb
          go_wp2_with fail
          refine (HE2.out _).mono ?_
          rintro e w2 ⟨rfl, hb⟩
          have Hb2 := Lib.hid (below_tr Hb.out hb)
          clear hb
          go_wp2_with fail
          refine ⟨rfl, ?_⟩
          rw [Hz.out]
          exact ⟨rfl, Hb2.out⟩
        | true =>
          rw [e10] at hz HE2
          rw [if_pos rfl] at hz
          cases e20 : hasAt l 20 [52, 53, 48, 48] with
          | false =>
            rw [e20] at hz HE3
            rw [if_neg (by decide)] at hz
            have Hz := Lib.hid hz
            clear hz h6 h7 Hle hx6 hx7 e9 e10 e20
            go_wp2_with fail
            refine HE1.out.mono ?_
            rintro e w1 ⟨rfl, hb⟩
            have Hb := Lib.hid (below_tr Hb3.out hb)
            clear hb
            go_wp2_with fail
            refine (HE2.out _).mono ?_
            rintro e w2 ⟨rfl, hb⟩
            have Hb2 := Lib.hid (below_tr Hb.out hb)
            clear hb
            go_wp2_with fail
            refine (HE3.out _).mono ?_
            rintro e w4 ⟨rfl, hb⟩
            have Hb4 := Lib.hid (below_tr Hb2.out hb)
            clear hb
            go_wp2_with fail
            refine ⟨rfl, ?_⟩
            rw [Hz.out]
            exact ⟨rfl, Hb4.out⟩
          | true =>
            rw [e20] at hz HE3
            rw [if_pos rfl] at hz
            have Hz := Lib.hid hz
            clear hz h6 h7 Hle hx6 hx7 e9 e10 e20
            go_wp2_with fail
            refine HE1.out.mono ?_
            rintro e w1 ⟨rfl, hb⟩
            have Hb := Lib.hid (below_tr Hb3.out hb)
            clear hb
            go_wp2_with fail
            refine (HE2.out _).mono ?_
            rintro e w2 ⟨rfl, hb⟩
            have Hb2 := Lib.hid (below_tr Hb.out hb)
            clear hb
            go_wp2_with fail
            refine (HE3.out _).mono ?_
            rintro e w4 ⟨rfl, hb⟩
            have Hb4 := Lib.hid (below_tr Hb2.out hb)
            clear hb
            go_wp2_with fail
            go_end0
            rw [Hz.out]
            exact ⟨rfl, Hb4.out⟩
end Go.Proofs.YtpfnmjcomdckgaaDoor

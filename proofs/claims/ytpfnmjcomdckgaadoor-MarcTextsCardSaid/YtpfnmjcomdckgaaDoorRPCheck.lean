/-
  marc.fail, checkLength, expect, checkLeader, readHead.
-/
import Derived.Test.YtpfnmjcomdckgaaDoorRParseM
namespace Go.Proofs.YtpfnmjcomdckgaaDoor
open Go.RowKit Go.Shelf
set_option linter.unusedVariables false
set_option linter.unusedSimpArgs false

def failV (at' kind : Int) : Value := .iface 86 (.agg #[.int .i64 at', .int .i64 kind])
abbrev pan (a k : Int) : Ending := .panicked [{ v := failV a k, recovered := false }]
set_option maxRecDepth 100000 in
theorem fail_c (a k : Int) (w : World) : Calls Tryd.prog 68 #[.int .i64 a, .int .i64 k] w fun e w' => e = pan a k ∧ w = w' := by
  go_enter Tryd.func68, Tryd.ntmps68
  go_wp2
  exact ⟨rfl, rfl, rfl⟩
def CPost (x : Option (Nat × Nat)) (w : World) (e : Ending) (w' : World) : Prop := match x with
  | some p => e = pan p.1 p.2 ∧ Below w.heap.size w w'
  | none => e = .returned (.tuple #[]) ∧ Below w.heap.size w w'
set_option maxRecDepth 100000 in
set_option maxHeartbeats 1000000 in
theorem checkLength_c (l : List UInt8) (hl : l.length ≤ 1099511627776) (w : World) :
    Calls Tryd.prog 65 #[str l] w (CPost (lenErr l) w) := by
  have hsz := size_str l
  unfold lenErr
  by_cases h24 : l.length < 24
  · have j24 : (l.length : Int) < 24 := by omega
    rw [if_pos h24]
    unfold CPost
    go_enter Tryd.func65, Tryd.ntmps65
    go_wp2_with fail
    refine (fail_c _ _ _).mono ?_
    rintro e w8 ⟨rfl, rfl⟩
    go_wp2_with fail
    exact ⟨rfl, rfl, Below.refl _ _⟩
  · have j24 : ¬ (l.length : Int) < 24 := by omega
    rw [if_neg h24]
    have hex := ext_take l 5
    have h5 : (l.take 5).length = 5 := by rw [List.length_take]; omega
    have N := number_c (l.take 5) (by omega) w
    have j5 : (5 : Int) ≤ (l.length : Int) := by omega
    cases hd : (l.take 5).all digB with
    | false =>
      rw [numV_bad hd, hd] at N
      have N := Lib.hid N
      rw [if_neg (by decide)]
      unfold CPost
      clear hd h24
      go_enter Tryd.func65, Tryd.ntmps65
      go_wp2_with fail
      refine N.out.mono ?_
      rintro e w1 ⟨rfl, rfl⟩
      go_wp2_with fail
      refine (fail_c _ _ _).mono ?_
      rintro e w8 ⟨rfl, rfl⟩
      go_wp2_with fail
      exact ⟨rfl, rfl, Below.refl _ _⟩
    | true =>
      rw [numV_val hd (by omega), hd] at N
      have N := Lib.hid N
      rw [if_pos rfl]
      obtain ⟨v, hv⟩ : ∃ v, valL (l.take 5) = v := ⟨_, rfl⟩
      rw [hv] at N ⊢
      clear hd h24 hv
      by_cases h1 : l.length < v
      · have j1 : (l.length : Int) < (v : Int) := by omega
        rw [if_pos h1]
        unfold CPost
        go_enter Tryd.func65, Tryd.ntmps65
        go_wp2_with fail
        refine N.out.mono ?_
        rintro e w1 ⟨rfl, rfl⟩
        go_wp2_with fail
        refine (fail_c _ _ _).mono ?_
        rintro e w8 ⟨rfl, rfl⟩
        go_wp2_with fail
        exact ⟨rfl, rfl, Below.refl _ _⟩
      · have j1 : ¬ (l.length : Int) < (v : Int) := by omega
        rw [if_neg h1]
        by_cases h2 : v < l.length
        · have j2 : (v : Int) < (l.length : Int) := by omega
          rw [if_pos h2]
          unfold CPost
          go_enter Tryd.func65, Tryd.ntmps65
          go_wp2_with fail
          refine N.out.mono ?_
          rintro e w1 ⟨rfl, rfl⟩
          go_wp2_with fail
          refine (fail_c _ _ _).mono ?_
          rintro e w8 ⟨rfl, rfl⟩
          go_wp2_with fail
          exact ⟨rfl, rfl, Below.refl _ _⟩
        · have j2 : ¬ (v : Int) < (l.length : Int) := by omega
          rw [if_neg h2]
          unfold CPost
          go_enter Tryd.func65, Tryd.ntmps65
          go_wp2_with fail
          refine N.out.mono ?_
          rintro e w1 ⟨rfl, rfl⟩
          go_wp2_with fail
          go_end0
          exact ⟨rfl, Below.refl _ _⟩
set_option maxRecDepth 100000 in
set_option maxHeartbeats 1000000 in
theorem expect_c (l p : List UInt8) (k : Nat) (hk : k ≤ l.length) (w : World) :
    Calls Tryd.prog 85 #[str l, .int .i64 k, str p] w (CPost (if hasAt l k p then none else some (k, 12)) w) := by
  have hsz := size_str l
  have hex := ext_drop l k
  have j1 : (k : Int) ≤ (l.length : Int) := by omega
  have j0 : (0 : Int) ≤ (k : Int) := by omega
  have N := hasPrefix ⟨(l.drop k).toArray⟩ ⟨p.toArray⟩ w
  rw [show Lib.hasPrefix (ByteArray.mk (l.drop k).toArray).data.toList (ByteArray.mk p.toArray).data.toList = hasAt l k p from rfl] at N
  cases hh : hasAt l k p with
  | true =>
    rw [hh] at N
    have N := Lib.hid N
    rw [if_pos rfl]
    unfold CPost
    clear hh
    go_enter Tryd.func85, Tryd.ntmps85
    go_wp2_with fail
    refine N.out.mono ?_
    rintro e w1 ⟨rfl, rfl⟩
    go_wp2_with fail
    go_end0
    exact ⟨rfl, Below.refl _ _⟩
  | false =>
    rw [hh] at N
    have N := Lib.hid N
    rw [if_neg (by decide)]
    unfold CPost
    clear hh
    go_enter Tryd.func85, Tryd.ntmps85
    go_wp2_with fail
    refine N.out.mono ?_
    rintro e w1 ⟨rfl, rfl⟩
    go_wp2_with fail
    refine (fail_c _ _ _).mono ?_
    rintro e w8 ⟨rfl, rfl⟩
    go_wp2_with fail
    exact ⟨rfl, rfl, Below.refl _ _⟩
end Go.Proofs.YtpfnmjcomdckgaaDoor

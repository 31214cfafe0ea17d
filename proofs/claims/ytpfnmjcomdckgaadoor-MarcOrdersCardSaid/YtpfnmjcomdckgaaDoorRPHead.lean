/-
  What Parse finds, as functions of lists: no program. marc.fail, checkLength, expect, checkLeader, readHead. marc.checkLeader and readHead. marc.readHead.
-/
import Derived.Test.YtpfnmjcomdckgaaDoorRWrite
namespace Go.Proofs.YtpfnmjcomdckgaaDoor
open Go.RowKit Go.Shelf
set_option linter.unusedVariables false
set_option linter.unusedSimpArgs false

inductive PR (α : Type) where
  | bad (a k : Nat) : PR α
  | ok (x : α) : PR α

def lenErr (l : List UInt8) : Option (Nat × Nat) :=
  if l.length < 24 then some (l.length, 10)
  else if (l.take 5).all digB then
    (if l.length < valL (l.take 5) then some (l.length, 10) else if valL (l.take 5) < l.length then some (0, 12) else none)
  else some (0, 12)
def hasAt (l : List UInt8) (k : Nat) (p : List UInt8) : Bool := Lib.hasPrefix (l.drop k) p
def leadErr (l : List UInt8) : Option (Nat × Nat) :=
  if lowB (l.getD 6 0) then
    (if lowB (l.getD 7 0) then
      (if hasAt l 9 [97] then
        (if hasAt l 10 [50, 50] then
          (if hasAt l 20 [52, 53, 48, 48] then none else some (20, 12))
        else some (10, 12))
      else some (9, 12))
    else some (7, 12))
  else some (6, 12)
def headDigs (l : List UInt8) : List UInt8 := (l.drop 12).take 5
/-- The length of the leader and the directory is one that can be. -/
def headB (l : List UInt8) (v : Nat) : Bool := decide (25 ≤ v) && decide (v < l.length) && decide ((v - 25) % 12 = 0) && (l.getD (v - 1) 0 == 30)
def headOf (l : List UInt8) : PR Nat :=
  if (headDigs l).all digB then
    (if headB l (valL (headDigs l)) then (if 12013 < valL (headDigs l) then .bad 12 2 else .ok (valL (headDigs l))) else .bad 12 12)
  else .bad 12 12
structure EntM where
  tag : List UInt8
  from' : Nat
  size : Nat
def numN (l : List UInt8) : Nat := if l.all digB then valL l else 0
def entOf (b : List UInt8) : EntM := ⟨b.take 3, numN (b.drop 7), numN ((b.drop 3).take 4)⟩
def entB (b : List UInt8) : Bool := tagB (b.take 3) && ((b.drop 3).take 4).all digB && (b.drop 7).all digB
def entOk (data sum : Nat) (b : List UInt8) : Bool := entB b && !((entOf b).size == 0) && decide ((entOf b).from' + (entOf b).size ≤ data) && decide (sum + (entOf b).size ≤ data)
/-- The entries of n places from a place on. -/
def dirP (l : List UInt8) (data : Nat) : Nat → Nat → Nat → PR (List EntM)
  | 0, _, _ => .ok []
  | n + 1, a, sum =>
    if entOk data sum ((l.drop a).take 12) then
      match dirP l data n (a + 12) (sum + (entOf ((l.drop a).take 12)).size) with
      | .bad x k => .bad x k
      | .ok es => .ok (entOf ((l.drop a).take 12) :: es)
    else .bad a 13

/-- A field's bytes are there from their beginning, or end too early. -/
def fullM (l : List UInt8) : Bool :=
  let x := Lib.firstT (l.getD 0 0).toNat
  if l.length = 0 then false
  else if decide (x % 8 ≤ l.length) then true
  else if decide (1 < l.length) && (decide ((l.getD 1 0).toNat < Lib.accLo (x / 16)) || decide (Lib.accHi (x / 16) < (l.getD 1 0).toNat)) then true
  else if decide (2 < l.length) && (decide ((l.getD 2 0).toNat < 128) || decide (191 < (l.getD 2 0).toNat)) then true
  else false
def begN : Nat → Nat → List UInt8 → Nat
  | 0, k, _ => k
  | f + 1, k, r => if decide (k < r.length) && !fullM (r.take (k + 1)) then begN f (k + 1) r else k
def begL (r : List UInt8) : Nat := begN r.length 0 r
end Go.Proofs.YtpfnmjcomdckgaaDoor

namespace Go.Proofs.YtpfnmjcomdckgaaDoor
open Go.RowKit Go.Shelf
set_option linter.unusedVariables false
set_option linter.unusedSimpArgs false

def failV (at' kind : Int) : Value := .iface 86 (.agg #[.int .i64 at', .int .i64 kind])
abbrev pan (a k : Int) : Ending := .panicked [{ v := failV a k, recovered := false }]
set_option maxRecDepth 100000 in
theorem fail_c (a k : Int) (w : World) : Calls Tryd.prog 68 #[.int .i64 a, .int .i64 k] w fun e w' => e = pan a k ∧ w = w' := by
  go_enter Tryd.func68, Tryd.ntmps68
  go_wp2
  exact ⟨rfl, rfl, rfl⟩
def CPost (x : Option (Nat × Nat)) (w : World) (e : Ending) (w' : World) : Prop := match x with
  | some p => e = pan p.1 p.2 ∧ Below w.heap.size w w'
  | none => e = .returned (.tuple #[]) ∧ Below w.heap.size w w'
set_option maxRecDepth 100000 in
set_option maxHeartbeats 1000000 in
theorem checkLength_c (l : List UInt8) (hl : l.length ≤ 1099511627776) (w : World) :
    Calls Tryd.prog 65 #[str l] w (CPost (lenErr l) w) := by
  have hsz := size_str l
  unfold lenErr
  by_cases h24 : l.length < 24
  · have j24 : (l.length : Int) < 24 := by omega
    rw [if_pos h24]
    unfold CPost
    go_enter Tryd.func65, Tryd.ntmps65
    go_wp2_with fail
    refine (fail_c _ _ _).mono ?_
    rintro e w8 ⟨rfl, rfl⟩
    go_wp2_with fail
    exact ⟨rfl, rfl, Below.refl _ _⟩
  · have j24 : ¬ (l.length : Int) < 24 := by omega
    rw [if_neg h24]
    have hex := ext_take l 5
    have h5 : (l.take 5).length = 5 := by rw [List.length_take]; omega
    have N := number_c (l.take 5) (by omega) w
    have j5 : (5 : Int) ≤ (l.length : Int) := by omega
    cases hd : (l.take 5).all digB with
    | false =>
      rw [numV_bad hd, hd] at N
      have N := Lib.hid N
      rw [if_neg (by decide)]
      unfold CPost
      clear hd h24
      go_enter Tryd.func65, Tryd.ntmps65
      go_wp2_with fail
      refine N.out.mono ?_
      rintro e w1 ⟨rfl, rfl⟩
      go_wp2_with fail
      refine (fail_c _ _ _).mono ?_
      rintro e w8 ⟨rfl, rfl⟩
      go_wp2_with fail
      exact ⟨rfl, rfl, Below.refl _ _⟩
    | true =>
      rw [numV_val hd (by omega), hd] at N
      have N := Lib.hid N
      rw [if_pos rfl]
      obtain ⟨v, hv⟩ : ∃ v, valL (l.take 5) = v := ⟨_, rfl⟩
      rw [hv] at N ⊢
      clear hd h24 hv
      by_cases h1 : l.length < v
      · have j1 : (l.length : Int) < (v : Int) := by omega
        rw [if_pos h1]
        unfold CPost
        go_enter Tryd.func65, Tryd.ntmps65
        go_wp2_with fail
        refine N.out.mono ?_
        rintro e w1 ⟨rfl, rfl⟩
        go_wp2_with fail
        refine (fail_c _ _ _).mono ?_
        rintro e w8 ⟨rfl, rfl⟩
        go_wp2_with fail
        exact ⟨rfl, rfl, Below.refl _ _⟩
      · have j1 : ¬ (l.length : Int) < (v : Int) := by omega
        rw [if_neg h1]
        by_cases h2 : v < l.length
        · have j2 : (v : Int) < (l.length : Int) := by omega
          rw [if_pos h2]
          unfold CPost
          go_enter Tryd.func65, Tryd.ntmps65
          go_wp2_with fail
          refine N.out.mono ?_
          rintro e w1 ⟨rfl, rfl⟩
          go_wp2_with fail
          refine (fail_c _ _ _).mono ?_
          rintro e w8 ⟨rfl, rfl⟩
          go_wp2_with fail
          exact ⟨rfl, rfl, Below.refl _ _⟩
        · have j2 : ¬ (v : Int) < (l.length : Int) := by omega
          rw [if_neg h2]
          unfold CPost
          go_enter Tryd.func65, Tryd.ntmps65
          go_wp2_with fail
          refine N.out.mono ?_
          rintro e w1 ⟨rfl, rfl⟩
          go_wp2_with fail
          go_end0
          exact ⟨rfl, Below.refl _ _⟩
set_option maxRecDepth 100000 in
set_option maxHeartbeats 1000000 in
theorem expect_c (l p : List UInt8) (k : Nat) (hk : k ≤ l.length) (w : World) :
    Calls Tryd.prog 85 #[str l, .int .i64 k, str p] w (CPost (if hasAt l k p then none else some (k, 12)) w) := by
  have hsz := size_str l
  have hex := ext_drop l k
  have j1 : (k : Int) ≤ (l.length : Int) := by omega
  have j0 : (0 : Int) ≤ (k : Int) := by omega
  have N := hasPrefix ⟨(l.drop k).toArray⟩ ⟨p.toArray⟩ w
  rw [show Lib.hasPrefix (ByteArray.mk (l.drop k).toArray).data.toList (ByteArray.mk p.toArray).data.toList = hasAt l k p from rfl] at N
  cases hh : hasAt l k p with
  | true =>
    rw [hh] at N
    have N := Lib.hid N
    rw [if_pos rfl]
    unfold CPost
    clear hh
    go_enter Tryd.func85, Tryd.ntmps85
    go_wp2_with fail
    refine N.out.mono ?_
    rintro e w1 ⟨rfl, rfl⟩
    go_wp2_with fail
    go_end0
    exact ⟨rfl, Below.refl _ _⟩
  | false =>
    rw [hh] at N
    have N := Lib.hid N
    rw [if_neg (by decide)]
    unfold CPost
    clear hh
    go_enter Tryd.func85, Tryd.ntmps85
    go_wp2_with fail
    refine N.out.mono ?_
    rintro e w1 ⟨rfl, rfl⟩
    go_wp2_with fail
    refine (fail_c _ _ _).mono ?_
    rintro e w8 ⟨rfl, rfl⟩
    go_wp2_with fail
    exact ⟨rfl, rfl, Below.refl _ _⟩
end Go.Proofs.YtpfnmjcomdckgaaDoor

namespace Go.Proofs.YtpfnmjcomdckgaaDoor
open Go.RowKit Go.Shelf
set_option linter.unusedVariables false
set_option linter.unusedSimpArgs false

theorem getD_at (l : List UInt8) (k : Nat) (h : k < l.length) : l.getD k 0 = l[k] := by simp [List.getD, h]
set_option maxRecDepth 100000 in
set_option maxHeartbeats 2000000 in
theorem checkLeader_c (l : List UInt8) (h24 : 24 ≤ l.length) (hl : l.length ≤ 1099511627776) (w : World) :
    Calls Tryd.prog 66 #[str l] w (CPost (leadErr l) w) := by
  have hsz := size_str l
  have hg6 : ∀ h, (ByteArray.mk l.toArray)[6]'h = l.getD 6 0 := fun h => by rw [getD_at l 6 (by omega)]; rfl
  have hg7 : ∀ h, (ByteArray.mk l.toArray)[7]'h = l.getD 7 0 := fun h => by rw [getD_at l 7 (by omega)]; rfl
  obtain ⟨x6, hx6⟩ : ∃ x, l.getD 6 0 = x := ⟨_, rfl⟩
  obtain ⟨x7, hx7⟩ : ∃ x, l.getD 7 0 = x := ⟨_, rfl⟩
  have hle : leadErr l = (if lowB x6 then (if lowB x7 then (if hasAt l 9 [97] then (if hasAt l 10 [50, 50] then (if hasAt l 20 [52, 53, 48, 48] then none else some (20, 12)) else some (10, 12)) else some (9, 12)) else some (7, 12)) else some (6, 12)) := by
    unfold leadErr; rw [hx6, hx7]
  rw [hx6] at hg6
  rw [hx7] at hg7
  obtain ⟨W3, hW3⟩ : ∃ W3, w.alloc (.cells #[.int .i64 6, .int .i64 7] 3) = W3 := ⟨_, rfl⟩
  have hb3 : Below w.heap.size w W3 := by rw [← hW3]; exact below_new w _
  have hn3 := new_at w (.cells #[.int .i64 6, .int .i64 7] 3)
  rw [hW3] at hn3
  have g0 : W3.cell? ⟨w.heap.size, 0, none⟩ = some (.int .i64 6) := by rw [cell_at hn3]; rfl
  have g1 : W3.cell? ⟨w.heap.size, 1, none⟩ = some (.int .i64 7) := by rw [cell_at hn3]; rfl
  have Hb3 := Lib.hid hb3
  have N1 := Lib.hid (isLetter_c x6 W3)
  have N2 := Lib.hid (isLetter_c x7 W3)
  have E1 := expect_c l [97] 9 (by omega) W3
  have E2 := fun W => expect_c l [50, 50] 10 (by omega) W
  have E3 := fun W => expect_c l [52, 53, 48, 48] 20 (by omega) W
  have HE1 := Lib.hid E1
  have HE2 := Lib.hid E2
  have HE3 := Lib.hid E3
  have Hle := Lib.hid hle
  clear hb3 hn3 E1 E2 E3 hle hx6 hx7
  obtain ⟨Z, hZ⟩ : ∃ Z, leadErr l = Z := ⟨_, rfl⟩
  rw [hZ] at Hle ⊢
  clear hZ
  go_enter Tryd.func66, Tryd.ntmps66
  go_wp2_with fail
  clear hW3
  go_loopw [6] (fun i wr => ∃ k : Nat, k ≤ 2 ∧ i = .int .i64 k ∧ (1 ≤ k → lowB x6 = true) ∧ (2 ≤ k → lowB x7 = true) ∧ wr = W3) (fun i _ => 2 - (intOf i).toNat)
  case atStart => exact ⟨0, by omega, rfl, by omega, by omega, rfl⟩
  case round =>
    obtain ⟨k, hk, rfl, h6, h7, rfl⟩ := hrel
    match k, hk with
    | 0, _ =>
      cases hx : lowB x6 with
      | false =>
        rw [hx] at N1
        have hz := Hle.out
        rw [if_neg (by rw [hx]; decide)] at hz
        have Hz := Lib.hid hz
        clear hz h6 h7 hx Hle
        go_wp2_with fail
        refine N1.out.mono ?_
        rintro e w1 ⟨rfl, rfl⟩
        go_wp2_with fail
        refine (fail_c _ _ _).mono ?_
        rintro e w8 ⟨rfl, rfl⟩
        go_wp2_with fail
        refine ⟨rfl, ?_⟩
        rw [Hz.out]
        exact ⟨rfl, Hb3.out⟩
      | true =>
        rw [hx] at N1
        have Hx := Lib.hid hx
        clear h6 h7 hx
        go_wp2_with fail
        refine N1.out.mono ?_
        rintro e w1 ⟨rfl, rfl⟩
        go_wp2_with fail
        go_roundw
        case rel => exact ⟨1, by omega, by go_num, (fun _ => by first | exact Hx.out | trivial), by omega, by first | rfl | trivial⟩
        case measure => simp [intOf]
    | 1, _ =>
      have hx6 := h6 (by omega)
      have hz := Hle.out
      rw [if_pos hx6] at hz
      cases hx : lowB x7 with
      | false =>
        rw [hx] at N2
        rw [if_neg (by rw [hx]; decide)] at hz
        have Hz := Lib.hid hz
        clear hz h6 h7 hx Hle hx6
        go_wp2_with fail
        refine N2.out.mono ?_
        rintro e w1 ⟨rfl, rfl⟩
        go_wp2_with fail
        refine (fail_c _ _ _).mono ?_
        rintro e w8 ⟨rfl, rfl⟩
        go_wp2_with fail
        refine ⟨rfl, ?_⟩
        rw [Hz.out]
        exact ⟨rfl, Hb3.out⟩
      | true =>
        rw [hx] at N2
        have Hx := Lib.hid hx
        have Hx6 := Lib.hid hx6
        clear h6 h7 hx hz hx6
        go_wp2_with fail
        refine N2.out.mono ?_
        rintro e w1 ⟨rfl, rfl⟩
        go_wp2_with fail
        go_roundw
        case rel => exact ⟨2, by omega, by go_num, (fun _ => by first | exact Hx6.out | trivial), (fun _ => by first | exact Hx.out | trivial), by first | rfl | trivial⟩
        case measure => simp [intOf]
    | 2, _ =>
      have hx6 := h6 (by omega)
      have hx7 := h7 (by omega)
      have hz := Hle.out
      rw [if_pos hx6, if_pos hx7] at hz
      have HE1 := HE1.out
      unfold CPost at HE1
      cases e9 : hasAt l 9 [97] with
      | false =>
        rw [e9] at HE1 hz
        rw [if_neg (by decide)] at HE1 hz
        have HE1 := Lib.hid HE1
        have Hz := Lib.hid hz
        clear hz h6 h7 Hle hx6 hx7 e9
        go_wp2_with fail
        refine HE1.out.mono ?_
        rintro e w1 ⟨rfl, hb⟩
        have Hb := Lib.hid (below_tr Hb3.out hb)
        go_wp2_with fail
        refine ⟨rfl, ?_⟩
        rw [Hz.out]
        exact ⟨rfl, Hb.out⟩
      | true =>
        rw [e9] at HE1 hz
        rw [if_pos rfl] at HE1 hz
        have HE1 := Lib.hid HE1
        cases e10 : hasAt l 10 [50, 50] with
        | false =>
          rw [e10] at hz HE2
          rw [if_neg (by decide)] at hz
          have Hz := Lib.hid hz
          clear hz h6 h7 Hle hx6 hx7 e9 e10
          go_wp2_with fail
          refine HE1.out.mono ?_
          rintro e w1 ⟨rfl, hb⟩
          have Hb := Lib.hid (below_tr Hb3.out hb)
          clear hb
          go_wp2_with fail
          refine (HE2.out _).mono ?_
          rintro e w2 ⟨rfl, hb⟩
          have Hb2 := Lib.hid (below_tr Hb.out hb)
          clear hb
          go_wp2_with fail
          refine ⟨rfl, ?_⟩
          rw [Hz.out]
          exact ⟨rfl, Hb2.out⟩
        | true =>
          rw [e10] at hz HE2
          rw [if_pos rfl] at hz
          cases e20 : hasAt l 20 [52, 53, 48, 48] with
          | false =>
            rw [e20] at hz HE3
            rw [if_neg (by decide)] at hz
            have Hz := Lib.hid hz
            clear hz h6 h7 Hle hx6 hx7 e9 e10 e20
            go_wp2_with fail
            refine HE1.out.mono ?_
            rintro e w1 ⟨rfl, hb⟩
            have Hb := Lib.hid (below_tr Hb3.out hb)
            clear hb
            go_wp2_with fail
            refine (HE2.out _).mono ?_
            rintro e w2 ⟨rfl, hb⟩
            have Hb2 := Lib.hid (below_tr Hb.out hb)
            clear hb
            go_wp2_with fail
            refine (HE3.out _).mono ?_
            rintro e w4 ⟨rfl, hb⟩
            have Hb4 := Lib.hid (below_tr Hb2.out hb)
            clear hb
            go_wp2_with fail
            refine ⟨rfl, ?_⟩
            rw [Hz.out]
            exact ⟨rfl, Hb4.out⟩
          | true =>
            rw [e20] at hz HE3
            rw [if_pos rfl] at hz
            have Hz := Lib.hid hz
            clear hz h6 h7 Hle hx6 hx7 e9 e10 e20
            go_wp2_with fail
            refine HE1.out.mono ?_
            rintro e w1 ⟨rfl, hb⟩
            have Hb := Lib.hid (below_tr Hb3.out hb)
            clear hb
            go_wp2_with fail
            refine (HE2.out _).mono ?_
            rintro e w2 ⟨rfl, hb⟩
            have Hb2 := Lib.hid (below_tr Hb.out hb)
            clear hb
            go_wp2_with fail
            refine (HE3.out _).mono ?_
            rintro e w4 ⟨rfl, hb⟩
            have Hb4 := Lib.hid (below_tr Hb2.out hb)
            clear hb
            go_wp2_with fail
            go_end0
            rw [Hz.out]
            exact ⟨rfl, Hb4.out⟩
end Go.Proofs.YtpfnmjcomdckgaaDoor

namespace Go.Proofs.YtpfnmjcomdckgaaDoor
open Go.RowKit Go.Shelf
set_option linter.unusedVariables false
set_option linter.unusedSimpArgs false

theorem headB_iff {l : List UInt8} {v : Nat} : headB l v = true ↔ 25 ≤ v ∧ v < l.length ∧ (v - 25) % 12 = 0 ∧ l.getD (v - 1) 0 = 30 := by
  unfold headB; simp [and_assoc]
def HPost (x : PR Nat) (w : World) (e : Ending) (w' : World) : Prop := match x with
  | .bad a k => e = pan a k ∧ Below w.heap.size w w'
  | .ok v => e = .returned (.int .i64 v) ∧ Below w.heap.size w w'
set_option maxRecDepth 100000 in
set_option maxHeartbeats 2000000 in
theorem readHead_c (l : List UInt8) (h24 : 24 ≤ l.length) (hl : l.length ≤ 1099511627776) (w : World) :
    Calls Tryd.prog 67 #[str l] w (HPost (headOf l) w) := by
  have hsz := size_str l
  have hex := ext_mid l 12 17
  rw [show (l.drop 12).take (17 - 12) = headDigs l from rfl] at hex
  have h5 : (headDigs l).length = 5 := by unfold headDigs; rw [List.length_take, List.length_drop]; omega
  have N := number_c (headDigs l) (by omega) w
  have S0 := Lib.hid (sizeOfHead_c 0 (by omega) w)
  have S9 := Lib.hid (sizeOfHead_c 999 (by omega) w)
  have j17 : (17 : Int) ≤ (l.length : Int) := by omega
  unfold headOf
  cases hd : (headDigs l).all digB with
  | false =>
    rw [numV_bad hd, hd] at N
    have N := Lib.hid N
    rw [if_neg (by decide)]
    unfold HPost
    clear hd h24
    go_enter Tryd.func67, Tryd.ntmps67
    go_wp2_with fail
    refine N.out.mono ?_
    rintro e w1 ⟨rfl, rfl⟩
    go_wp2_with fail
    refine (fail_c _ _ _).mono ?_
    rintro e w8 ⟨rfl, rfl⟩
    go_wp2_with fail
    exact ⟨rfl, rfl, Below.refl _ _⟩
  | true =>
    rw [numV_val hd (by omega), hd] at N
    have hvl := valL_lt _ hd
    rw [h5] at hvl
    have N := Lib.hid N
    rw [if_pos rfl]
    obtain ⟨v, hv⟩ : ∃ v, valL (headDigs l) = v := ⟨_, rfl⟩
    rw [hv] at N hvl ⊢
    clear hd hv
    by_cases h1 : 25 ≤ v
    · have j1 : ¬ (v : Int) < 25 := by omega
      by_cases h2 : v < l.length
      · have j2 : ¬ (l.length : Int) ≤ (v : Int) := by omega
        by_cases h3 : (v - 25) % 12 = 0
        · have j3 : ((v : Int) - 25).tmod 12 = 0 := by
            have : (v : Int) - 25 = ((v - 25 : Nat) : Int) := by omega
            rw [this]; show (((v - 25) % 12 : Nat) : Int) = 0; omega
          obtain ⟨u, rfl⟩ : ∃ u, v = u + 1 := ⟨v - 1, by omega⟩
          have hg : ∀ h, (ByteArray.mk l.toArray)[u]'h = l.getD u 0 := fun h => by rw [getD_at l u (by omega)]; rfl
          obtain ⟨x, hx⟩ : ∃ x, l.getD u 0 = x := ⟨_, rfl⟩
          rw [hx] at hg
          have jv0 : (0 : Int) ≤ (u : Int) := by omega
          have jv1 : (u : Int) < (l.length : Int) := by omega
          push_cast at N j1 j2 j3
          by_cases h30 : x = 30
          · have hb : headB l (u + 1) = true := by rw [headB_iff, Nat.add_sub_cancel, hx]; exact ⟨h1, h2, h3, h30⟩
            rw [hb, if_pos rfl]
            subst h30
            by_cases hbig : 12013 < u + 1
            · have jb : (12013 : Int) < (u : Int) + 1 := by omega
              rw [if_pos hbig]
              unfold HPost
              clear hb hx
              go_enter Tryd.func67, Tryd.ntmps67
              go_wp2_with fail
              refine N.out.mono ?_
              rintro e w1 ⟨rfl, rfl⟩
              go_wp2_with fail
              refine S0.out.mono ?_
              rintro e w2 ⟨rfl, rfl⟩
              go_wp2_with fail
              refine S0.out.mono ?_
              rintro e w2 ⟨rfl, rfl⟩
              go_wp2_with fail
              refine S9.out.mono ?_
              rintro e w2 ⟨rfl, rfl⟩
              go_wp2_with fail
              refine (fail_c _ _ _).mono ?_
              rintro e w8 ⟨rfl, rfl⟩
              go_wp2_with fail
              exact ⟨rfl, rfl, Below.refl _ _⟩
            · have jb : ¬ (12013 : Int) < (u : Int) + 1 := by omega
              rw [if_neg hbig]
              unfold HPost
              clear hb hx
              go_enter Tryd.func67, Tryd.ntmps67
              go_wp2_with fail
              refine N.out.mono ?_
              rintro e w1 ⟨rfl, rfl⟩
              go_wp2_with fail
              refine S0.out.mono ?_
              rintro e w2 ⟨rfl, rfl⟩
              go_wp2_with fail
              refine S0.out.mono ?_
              rintro e w2 ⟨rfl, rfl⟩
              go_wp2_with fail
              refine S9.out.mono ?_
              rintro e w2 ⟨rfl, rfl⟩
              go_wp2
              go_ret
              exact ⟨rfl, Below.refl _ _⟩
          · have hb : headB l (u + 1) = false := by rw [Bool.eq_false_iff, ne_eq, headB_iff, Nat.add_sub_cancel, hx]; intro h; exact h30 h.2.2.2
            have hx30 : ((x.toNat : Int) != 30) = true := by
              rw [bne_iff_ne]
              intro e
              apply h30
              have : x.toNat = 30 := by omega
              exact UInt8.toNat_inj.1 this
            rw [hb, if_neg (by decide)]
            unfold HPost
            clear hb hx h30
            go_enter Tryd.func67, Tryd.ntmps67
            go_wp2_with fail
            refine N.out.mono ?_
            rintro e w1 ⟨rfl, rfl⟩
            go_wp2_with fail
            refine S0.out.mono ?_
            rintro e w2 ⟨rfl, rfl⟩
            go_wp2_with fail
            refine S0.out.mono ?_
            rintro e w2 ⟨rfl, rfl⟩
            go_wp2_with fail
            refine (fail_c _ _ _).mono ?_
            rintro e w8 ⟨rfl, rfl⟩
            go_wp2_with fail
            exact ⟨rfl, rfl, Below.refl _ _⟩
        · have j3 : ((v : Int) - 25).tmod 12 ≠ 0 := by
            have : (v : Int) - 25 = ((v - 25 : Nat) : Int) := by omega
            rw [this]; show (((v - 25) % 12 : Nat) : Int) ≠ 0; omega
          have j3' : (((v : Int) - 25).tmod 12 != 0) = true := by simpa using j3
          have hb : headB l v = false := by rw [Bool.eq_false_iff, ne_eq, headB_iff]; omega
          rw [hb, if_neg (by decide)]
          unfold HPost
          clear hb
          go_enter Tryd.func67, Tryd.ntmps67
          go_wp2_with fail
          refine N.out.mono ?_
          rintro e w1 ⟨rfl, rfl⟩
          go_wp2_with fail
          refine S0.out.mono ?_
          rintro e w2 ⟨rfl, rfl⟩
          go_wp2_with fail
          refine S0.out.mono ?_
          rintro e w2 ⟨rfl, rfl⟩
          go_wp2_with fail
          refine (fail_c _ _ _).mono ?_
          rintro e w8 ⟨rfl, rfl⟩
          go_wp2_with fail
          exact ⟨rfl, rfl, Below.refl _ _⟩
      · have j2 : (l.length : Int) ≤ (v : Int) := by omega
        have hb : headB l v = false := by rw [Bool.eq_false_iff, ne_eq, headB_iff]; omega
        rw [hb, if_neg (by decide)]
        unfold HPost
        clear hb
        go_enter Tryd.func67, Tryd.ntmps67
        go_wp2_with fail
        refine N.out.mono ?_
        rintro e w1 ⟨rfl, rfl⟩
        go_wp2_with fail
        refine S0.out.mono ?_
        rintro e w2 ⟨rfl, rfl⟩
        go_wp2_with fail
        refine (fail_c _ _ _).mono ?_
        rintro e w8 ⟨rfl, rfl⟩
        go_wp2_with fail
        exact ⟨rfl, rfl, Below.refl _ _⟩
    · have j1 : (v : Int) < 25 := by omega
      have hb : headB l v = false := by rw [Bool.eq_false_iff, ne_eq, headB_iff]; omega
      rw [hb, if_neg (by decide)]
      unfold HPost
      clear hb
      go_enter Tryd.func67, Tryd.ntmps67
      go_wp2_with fail
      refine N.out.mono ?_
      rintro e w1 ⟨rfl, rfl⟩
      go_wp2_with fail
      refine S0.out.mono ?_
      rintro e w2 ⟨rfl, rfl⟩
      go_wp2_with fail
      refine (fail_c _ _ _).mono ?_
      rintro e w8 ⟨rfl, rfl⟩
      go_wp2_with fail
      exact ⟨rfl, rfl, Below.refl _ _⟩
end Go.Proofs.YtpfnmjcomdckgaaDoor

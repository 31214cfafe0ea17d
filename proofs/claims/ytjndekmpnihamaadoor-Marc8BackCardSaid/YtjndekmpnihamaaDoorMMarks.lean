/-
  Both conversions at a letter with marks between two letters.
-/
import Derived.Test.YtjndekmpnihamaaDoorMEncode
namespace Go.Proofs.YtjndekmpnihamaaDoor
open Go.RowKit Go.Shelf
set_option linter.unusedVariables false

def mkB (j : Nat) : UInt8 := [224, 225, 226, 232, 238, 240, 242, 254].getD j 0
def mkY (j : Nat) : UInt8 := [137, 128, 129, 136, 139, 167, 163, 147].getD j 0
def mkC (j : Nat) : List UInt8 := [204, mkY j]
/-- Small letters. -/
def isLow (a : UInt8) : Bool := decide (97 ≤ a.toNat) && decide (a.toNat ≤ 122)

theorem all8 {p : Nat → Bool} (h : (List.range 8).all p = true) {j : Nat} (hj : j < 8) : p j = true := List.all_eq_true.1 h j (List.mem_range.2 hj)
theorem all256 {p : UInt8 → Bool} (h : (List.range 256).all (fun n => p (UInt8.ofNat n)) = true) (x : UInt8) : p x = true := by
  have := List.all_eq_true.1 h x.toNat (List.mem_range.2 x.toNat_lt)
  simpa using this
theorem mk_isMb {j : Nat} (hj : j < 8) : isMb (mkB j) = true := all8 (p := fun j => isMb (mkB j)) (by decide +kernel) hj
theorem mk_out {j : Nat} (hj : j < 8) : Lib.encodeRune (markV ((mkB j).toNat : Int)) = mkC j := by
  have := all8 (p := fun j => Lib.encodeRune (markV ((mkB j).toNat : Int)) == mkC j) (by decide +kernel) hj
  simpa using this
theorem mk_ne {b : UInt8} (h : isMb b = true) : b ≠ 27 ∧ ¬ b < 32 := by
  have := all256 (p := fun b => !isMb b || (decide (b ≠ 27) && decide (¬ b < 32))) (by decide +kernel) b
  rw [h] at this
  simpa using this
theorem low_ne {a : UInt8} (h : isLow a = true) : a ≠ 27 ∧ ¬ a < 32 ∧ isMb a = false ∧ charOf 66 (a.toNat : Int) = some (a.toNat : Int) ∧ Lib.encodeRune (a.toNat : Int) = [a] ∧ markC (a.toNat : Int) = none ∧ charC (a.toNat : Int) = none ∧ setC 66 (a.toNat : Int) = some (a.toNat : Int) := by
  have := all256 (p := fun a => !isLow a || (decide (a ≠ 27) && decide (¬ a < 32) && !isMb a && (charOf 66 (a.toNat : Int) == some (a.toNat : Int)) && (Lib.encodeRune (a.toNat : Int) == [a]) && (markC (a.toNat : Int) == none) && (charC (a.toNat : Int) == none) && (setC 66 (a.toNat : Int) == some (a.toNat : Int)))) (by decide +kernel) a
  rw [h] at this
  simp only [Bool.not_true, Bool.false_or, Bool.and_eq_true, decide_eq_true_eq, Bool.not_eq_true', beq_iff_eq] at this
  obtain ⟨⟨⟨⟨⟨⟨⟨h1, h2⟩, h3⟩, h4⟩, h5⟩, h6⟩, h7⟩, h8⟩ := this
  exact ⟨h1, h2, h3, h4, h5, h6, h7, h8⟩

/-! ### Decode -/
theorem marksAt_of (ms : List UInt8) (hms : ∀ m ∈ ms, isMb m = true) (a : UInt8) (ha : isMb a = false) (rest : List UInt8) : marksAt (ms ++ a :: rest) = ms.length := by
  unfold marksAt
  induction ms with
  | nil => simp [ha]
  | cons m r ih =>
    have h1 := hms m (List.mem_cons_self)
    have := ih (fun x hx => hms x (List.mem_cons_of_mem _ hx))
    simp only [List.cons_append, List.takeWhile_cons, h1, if_true, List.length_cons, this]
theorem step_marks (at' : Nat) (ms : List UInt8) (hms : ∀ m ∈ ms, isMb m = true) (a : UInt8) (ha : isLow a = true) (rest : List UInt8) :
    stepD 66 at' (ms ++ a :: rest) = .ok 66 (ms.length + 1) ([a] ++ markOut ms) := by
  obtain ⟨a1, a2, a3, a4, a5, _⟩ := low_ne ha
  have hlet : letD 66 at' (ms ++ a :: rest) = .ok 66 (ms.length + 1) ([a] ++ markOut ms) := by
    unfold letD
    rw [marksAt_of ms hms a a3 rest, List.drop_left, List.take_left]
    simp only [a4, a5]
  unfold stepD
  cases ms with
  | nil => simp only [List.nil_append, if_neg a1, if_neg a2] at hlet ⊢; exact hlet
  | cons m r =>
    obtain ⟨m1, m2⟩ := mk_ne (hms m List.mem_cons_self)
    simp only [List.cons_append, if_neg m1, if_neg m2] at hlet ⊢; exact hlet
theorem decR_ok {f : Nat} {cur c : Int} {a n : Nat} {b : UInt8} {t o : List UInt8} (h : stepD cur a (b :: t) = .ok c n o) : decR (f + 1) cur a (b :: t) = (decR f c (a + n) ((b :: t).drop n)).pre o := by
  conv => lhs; unfold decR
  simp only [h]
theorem decR_nil (f : Nat) (cur : Int) (a : Nat) : decR f cur a [] = .ok [] := by cases f <;> simp [decR]
theorem dec_marks (ms : List UInt8) (hms : ∀ m ∈ ms, isMb m = true) (a : UInt8) (ha : isLow a = true) :
    decM (120 :: (ms ++ [a, 121])) = .ok (120 :: a :: (markOut ms ++ [121])) := by
  have hx : isLow 120 = true := by decide
  have hy : isLow 121 = true := by decide
  have s1 := step_marks 0 [] (by simp) 120 hx (ms ++ [a, 121])
  have s2 := step_marks 1 ms hms a ha [121]
  have s3 := step_marks (1 + (ms.length + 1)) [] (by simp) 121 hy []
  simp only [List.nil_append, List.length_nil, Nat.zero_add] at s1 s3
  unfold decM
  have hf : (120 :: (ms ++ [a, 121])).length = ms.length + 2 + 1 := by simp
  rw [hf, decR_ok s1]
  simp only [List.drop_succ_cons, List.drop_zero, Nat.zero_add]
  obtain ⟨b, t, hbt⟩ : ∃ b t, ms ++ [a, 121] = b :: t := by cases ms with
    | nil => exact ⟨_, _, rfl⟩
    | cons m r => exact ⟨_, _, rfl⟩
  have hd : (ms ++ [a, 121]).drop (ms.length + 1) = [121] := by rw [← List.drop_drop, List.drop_left]; rfl
  rw [hbt] at s2 hd ⊢
  rw [show ms.length + 2 = (ms.length + 1) + 1 by omega, decR_ok s2, hd, decR_ok s3]
  simp only [List.drop_succ_cons, List.drop_zero, decR_nil]
  simp [Res.pre, markOut]

/-! ### Encode -/
theorem go_two (y : UInt8) (t : List UInt8) (h : 128 ≤ y.toNat ∧ y.toNat < 192) : Lib.decodeGo ⟨(204 :: y :: t).toArray⟩ = (12 * 64 + y.toNat % 64, 2) := by
  have hne : ¬ (ByteArray.mk (204 :: y :: t).toArray).size = 0 := by rw [size_str]; simp
  unfold Lib.decodeGo
  rw [if_neg hne, Lib.decode_at, size_str]
  have g0 : (ByteArray.mk (204 :: y :: t).toArray).get! 0 = 204 := rfl
  have g1 : (ByteArray.mk (204 :: y :: t).toArray).get! (0 + 1) = y := rfl
  rw [g0, g1]
  generalize ((ByteArray.mk (204 :: y :: t).toArray).get! (0 + 2)).toNat = c
  generalize ((ByteArray.mk (204 :: y :: t).toArray).get! (0 + 3)).toNat = d
  have hl : 1 < (204 :: y :: t).length - 0 := by simp
  generalize (204 :: y :: t).length - 0 = n at hl
  unfold Lib.decodeN
  have e : (204 : UInt8).toNat = 204 := rfl
  rw [e, if_neg (by omega), if_pos (by omega), if_pos (by omega)]
theorem go_one (b : UInt8) (t : List UInt8) (h : b.toNat < 128) : Lib.decodeGo ⟨(b :: t).toArray⟩ = (b.toNat, 1) := by
  have hne : ¬ (ByteArray.mk (b :: t).toArray).size = 0 := by rw [size_str]; simp
  unfold Lib.decodeGo
  rw [if_neg hne, Lib.decode_at]
  have g0 : (ByteArray.mk (b :: t).toArray).get! 0 = b := rfl
  rw [g0]
  unfold Lib.decodeN
  rw [if_pos h]
theorem full_one' (b : UInt8) (t : List UInt8) (h : b.toNat < 128) : fullM (b :: t) = true := by
  unfold fullM Lib.firstT
  simp [h]
theorem full_two' (y : UInt8) (t : List UInt8) : fullM (204 :: y :: t) = true := by
  unfold fullM Lib.firstT
  simp
theorem encR_one {f a : Nat} {s s' : EM} {b : UInt8} {t : List UInt8} (h : b.toNat < 128) (hw : writeM s (b.toNat : Int) = some s') : encR (f + 1) a s (b :: t) = encR f (a + 1) s' t := by
  rw [encR_go f a s b t (full_one' b t h), go_one b t h]
  simp only [hw, encK, List.drop_succ_cons, List.drop_zero]
theorem encR_two {f a : Nat} {s s' : EM} {y : UInt8} {t : List UInt8} (h : 128 ≤ y.toNat ∧ y.toNat < 192) (hw : writeM s ((12 * 64 + y.toNat % 64 : Nat) : Int) = some s') : encR (f + 1) a s (204 :: y :: t) = encR f (a + 2) s' t := by
  rw [encR_go f a s 204 (y :: t) (full_two' y t), go_two y t h]
  simp only [hw, encK, List.drop_succ_cons, List.drop_zero]

theorem write_low (s : EM) (a : UInt8) (ha : isLow a = true) (hc : s.cur = 66) : writeM s (a.toNat : Int) = some ⟨(releaseM s).out, a, 66⟩ := by
  obtain ⟨_, _, _, _, _, h6, h7, h8⟩ := low_ne ha
  have hr : (releaseM s).cur = 66 := by rw [(releaseM_len s).2, hc]
  have h32 : ¬ ((a.toNat : Int) < 32) := by unfold isLow at ha; simp at ha; omega
  have hcb : codeB (a.toNat : Int) = a := by unfold codeB; simp
  unfold writeM markM letterM letterR
  rw [if_neg h32, h6, h7, hr, h8]
  simp only [hold, hr, hcb]
theorem mk_y {j : Nat} (hj : j < 8) : (128 ≤ (mkY j).toNat ∧ (mkY j).toNat < 192) ∧ markC ((12 * 64 + (mkY j).toNat % 64 : Nat) : Int) = some ((mkB j).toNat : Int) ∧ codeB ((mkB j).toNat : Int) = mkB j := by
  have := all8 (p := fun j => decide (128 ≤ (mkY j).toNat) && decide ((mkY j).toNat < 192) && (markC ((12 * 64 + (mkY j).toNat % 64 : Nat) : Int) == some ((mkB j).toNat : Int)) && (codeB ((mkB j).toNat : Int) == mkB j)) (by decide +kernel) hj
  simp only [Bool.and_eq_true, decide_eq_true_eq, beq_iff_eq] at this
  exact ⟨⟨this.1.1.1, this.1.1.2⟩, this.1.2, this.2⟩
theorem write_mark (s : EM) {j : Nat} (hj : j < 8) (hh : s.held ≠ 0) : writeM s ((12 * 64 + (mkY j).toNat % 64 : Nat) : Int) = some ⟨s.out ++ [mkB j], s.held, s.cur⟩ := by
  obtain ⟨_, h2, h3⟩ := mk_y hj
  have h32 : ¬ (((12 * 64 + (mkY j).toNat % 64 : Nat) : Int) < 32) := by omega
  unfold writeM markM
  rw [if_neg h32, h2]
  simp only [if_neg hh, h3]
theorem enc_run : ∀ (js : List Nat) (hj : ∀ j ∈ js, j < 8) (f a : Nat) (s : EM) (hh : s.held ≠ 0) (r : List UInt8),
    encR (js.length + f) a s (js.flatMap mkC ++ r) = encR f (a + 2 * js.length) ⟨s.out ++ js.map mkB, s.held, s.cur⟩ r
  | [], _, f, a, s, _, r => by simp
  | j :: t, hj, f, a, s, hh, r => by
    have h1 := hj j List.mem_cons_self
    have hl : (j :: t).flatMap mkC ++ r = 204 :: mkY j :: (t.flatMap mkC ++ r) := by simp [List.flatMap_cons, mkC]
    rw [hl, show (j :: t).length + f = (t.length + f) + 1 by simp; omega, encR_two (mk_y h1).1 (write_mark s h1 hh), enc_run t (fun x hx => hj x (List.mem_cons_of_mem _ hx)) f (a + 2) ⟨s.out ++ [mkB j], s.held, s.cur⟩ hh r]
    congr 1
    · simp; omega
    · simp
theorem low_held {a : UInt8} (ha : isLow a = true) : a ≠ 0 ∧ a.toNat < 128 := by
  unfold isLow at ha
  simp at ha
  exact ⟨fun e => by rw [e] at ha; simp at ha, by omega⟩
theorem enc_marks (js : List Nat) (hj : ∀ j ∈ js, j < 8) (a : UInt8) (ha : isLow a = true) :
    encM (120 :: a :: (js.flatMap mkC ++ [121])) = .ok (120 :: (js.map mkB ++ [a, 121])) := by
  have hx : isLow 120 = true := by decide
  have hy : isLow 121 = true := by decide
  have hlen : (js.flatMap mkC).length = js.length + js.length := by
    induction js with
    | nil => rfl
    | cons j t ih => have := ih (fun x hx => hj x (List.mem_cons_of_mem _ hx)); simp [mkC] at this ⊢; omega
  have hf : (120 :: a :: (js.flatMap mkC ++ [121])).length = (js.length + (js.length + 1)) + 1 + 1 := by
    simp [hlen]; omega
  obtain ⟨ha0, ha1⟩ := low_held ha
  unfold encM
  rw [hf, encR_one (by decide) (write_low ⟨[], 0, 66⟩ 120 hx rfl), encR_one ha1 (write_low _ a ha rfl), enc_run js hj _ _ _ ha0, encR_one (by decide) (write_low _ 121 hy rfl), encR_nil]
  simp [releaseM, chooseM, ha0]

/-! ### The conversions themselves -/
theorem encF_marks (js : List Nat) (hj : ∀ j ∈ js, j < 8) (a : UInt8) (ha : isLow a = true) :
    encF (120 :: a :: (js.flatMap mkC ++ [121])) = .ok (120 :: (js.map mkB ++ [a, 121])) := by
  unfold encF
  cases js with
  | nil =>
    have hp : plainB (120 :: a :: (([] : List Nat).flatMap mkC ++ [121])) = true := by
      have : okPlain a = true := by unfold isLow at ha; simp at ha; unfold okPlain; simp; omega
      simp [plainB, this, show okPlain 120 = true by decide, show okPlain 121 = true by decide]
    rw [hp]; rfl
  | cons j t =>
    have hp : plainB (120 :: a :: ((j :: t).flatMap mkC ++ [121])) = false := by simp [plainB, mkC, okPlain]
    rw [hp]
    exact enc_marks (j :: t) hj a ha
theorem decF_marks (js : List Nat) (hj : ∀ j ∈ js, j < 8) (a : UInt8) (ha : isLow a = true) :
    decF (120 :: (js.map mkB ++ [a, 121])) = .ok (120 :: a :: (js.flatMap mkC ++ [121])) := by
  have hmo : markOut (js.map mkB) = js.flatMap mkC := by
    unfold markOut
    induction js with
    | nil => rfl
    | cons j t ih => rw [List.map_cons, List.flatMap_cons, List.flatMap_cons, mk_out (hj j List.mem_cons_self), ih (fun x hx => hj x (List.mem_cons_of_mem _ hx))]
  unfold decF
  cases js with
  | nil =>
    have hp : plainB (120 :: (([] : List Nat).map mkB ++ [a, 121])) = true := by
      have : okPlain a = true := by unfold isLow at ha; simp at ha; unfold okPlain; simp; omega
      simp [plainB, this, show okPlain 120 = true by decide, show okPlain 121 = true by decide]
    rw [hp]; rfl
  | cons j t =>
    have hb : okPlain (mkB j) = false := all8 (p := fun j => okPlain (mkB j) == false) (by decide +kernel) (hj j List.mem_cons_self) |> (by simpa using ·)
    have hp : plainB (120 :: ((j :: t).map mkB ++ [a, 121])) = false := by simp [plainB, hb]
    rw [hp, ← hmo]
    exact dec_marks ((j :: t).map mkB) (fun m hm => by obtain ⟨x, hx, rfl⟩ := List.mem_map.1 hm; exact mk_isMb (hj x hx)) a ha
end Go.Proofs.YtjndekmpnihamaaDoor

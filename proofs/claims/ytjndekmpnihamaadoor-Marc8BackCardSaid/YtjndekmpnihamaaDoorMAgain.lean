/-
  What was decoded can be encoded, and is decoded to the same text again.
-/
import Derived.Test.YtjndekmpnihamaaDoorMParts
namespace Go.Proofs.YtjndekmpnihamaaDoor
open Go.RowKit Go.Shelf
set_option linter.unusedVariables false
set_option linter.unusedSimpArgs false

/-! ### UTF-8 of the tables' characters -/
/-- The bytes are the UTF-8 of a number, in one, two or three bytes. -/
def utf8Is (ch : Int) : List UInt8 → Bool
  | [a] => decide (a.toNat < 128) && (ch == (a.toNat : Int))
  | [a, b] => decide (a.toNat / 32 = 6) && decide (b.toNat / 64 = 2) && decide (128 ≤ a.toNat % 32 * 64 + b.toNat % 64) && (ch == ((a.toNat % 32 * 64 + b.toNat % 64 : Nat) : Int))
  | [a, b, c] => decide (a.toNat / 16 = 14) && decide (b.toNat / 64 = 2) && decide (c.toNat / 64 = 2) && decide (2048 ≤ a.toNat % 16 * 4096 + b.toNat % 64 * 64 + c.toNat % 64) &&
      (decide (a.toNat % 16 * 4096 + b.toNat % 64 * 64 + c.toNat % 64 < 55296) || decide (57344 ≤ a.toNat % 16 * 4096 + b.toNat % 64 * 64 + c.toNat % 64)) && (ch == ((a.toNat % 16 * 4096 + b.toNat % 64 * 64 + c.toNat % 64 : Nat) : Int))
  | _ => false
theorem utf8_go {ch : Int} {l : List UInt8} (h : utf8Is ch l = true) (t : List UInt8) :
    l ≠ [] ∧ ((Lib.decodeGo ⟨(l ++ t).toArray⟩).1 : Int) = ch ∧ (Lib.decodeGo ⟨(l ++ t).toArray⟩).2 = l.length ∧ fullM (l ++ t) = true := by
  match l, h with
  | [a], h =>
    simp only [utf8Is, Bool.and_eq_true, decide_eq_true_eq, beq_iff_eq] at h
    obtain ⟨h1, h2⟩ := h
    have hg := go_one a t h1
    refine ⟨by simp, ?_, ?_, full_one' a t h1⟩
    · show ((Lib.decodeGo ⟨(a :: t).toArray⟩).1 : Int) = ch
      rw [hg]; exact h2.symm
    · show (Lib.decodeGo ⟨(a :: t).toArray⟩).2 = 1
      rw [hg]
  | [a, b], h =>
    simp only [utf8Is, Bool.and_eq_true, decide_eq_true_eq, beq_iff_eq] at h
    obtain ⟨⟨⟨h1, h2⟩, h3⟩, h4⟩ := h
    have hg : Lib.decodeGo ⟨(a :: b :: t).toArray⟩ = (a.toNat % 32 * 64 + b.toNat % 64, 2) := by
      have hne : ¬ (ByteArray.mk (a :: b :: t).toArray).size = 0 := by rw [size_str]; simp
      unfold Lib.decodeGo
      rw [if_neg hne, Lib.decode_at, size_str]
      have g0 : (ByteArray.mk (a :: b :: t).toArray).get! 0 = a := rfl
      have g1 : (ByteArray.mk (a :: b :: t).toArray).get! (0 + 1) = b := rfl
      rw [g0, g1]
      generalize ((ByteArray.mk (a :: b :: t).toArray).get! (0 + 2)).toNat = c
      generalize ((ByteArray.mk (a :: b :: t).toArray).get! (0 + 3)).toNat = d
      have hl : 1 < (a :: b :: t).length - 0 := by simp
      generalize (a :: b :: t).length - 0 = n at hl
      unfold Lib.decodeN
      rw [if_neg (by omega), if_pos (by omega), if_pos (by omega)]
    refine ⟨by simp, ?_, ?_, ?_⟩
    · show ((Lib.decodeGo ⟨(a :: b :: t).toArray⟩).1 : Int) = ch
      rw [hg]; exact h4.symm
    · show (Lib.decodeGo ⟨(a :: b :: t).toArray⟩).2 = 2
      rw [hg]
    · show fullM (a :: b :: t) = true
      have : Lib.firstT a.toNat % 8 ≤ 2 := by
        unfold Lib.firstT
        repeat' split
        all_goals omega
      unfold fullM
      simp; omega
  | [a, b, c], h =>
    simp only [utf8Is, Bool.and_eq_true, Bool.or_eq_true, decide_eq_true_eq, beq_iff_eq] at h
    obtain ⟨⟨⟨⟨⟨h1, h2⟩, h3⟩, h4⟩, h5⟩, h6⟩ := h
    have hg : Lib.decodeGo ⟨(a :: b :: c :: t).toArray⟩ = (a.toNat % 16 * 4096 + b.toNat % 64 * 64 + c.toNat % 64, 3) := by
      have hne : ¬ (ByteArray.mk (a :: b :: c :: t).toArray).size = 0 := by rw [size_str]; simp
      unfold Lib.decodeGo
      rw [if_neg hne, Lib.decode_at, size_str]
      have g0 : (ByteArray.mk (a :: b :: c :: t).toArray).get! 0 = a := rfl
      have g1 : (ByteArray.mk (a :: b :: c :: t).toArray).get! (0 + 1) = b := rfl
      have g2 : (ByteArray.mk (a :: b :: c :: t).toArray).get! (0 + 2) = c := rfl
      rw [g0, g1, g2]
      generalize ((ByteArray.mk (a :: b :: c :: t).toArray).get! (0 + 3)).toNat = d
      have hl : 2 < (a :: b :: c :: t).length - 0 := by simp
      generalize (a :: b :: c :: t).length - 0 = n at hl
      unfold Lib.decodeN
      rw [if_neg (by omega), if_neg (by omega), if_pos (by omega), if_pos (by omega)]
    refine ⟨by simp, ?_, ?_, ?_⟩
    · show ((Lib.decodeGo ⟨(a :: b :: c :: t).toArray⟩).1 : Int) = ch
      rw [hg]; exact h6.symm
    · show (Lib.decodeGo ⟨(a :: b :: c :: t).toArray⟩).2 = 3
      rw [hg]
    · show fullM (a :: b :: c :: t) = true
      have : Lib.firstT a.toNat % 8 ≤ 3 := by
        unfold Lib.firstT
        repeat' split
        all_goals omega
      unfold fullM
      simp; omega
/-- One step of the encoder at a character's bytes. -/
theorem encR_utf {f a : Nat} {s s' : EM} {ch : Int} {l t : List UInt8} (h : utf8Is ch l = true) (hw : writeM s ch = some s') : encR (f + 1) a s (l ++ t) = encR f (a + l.length) s' t := by
  obtain ⟨h1, h2, h3, h4⟩ := utf8_go h t
  match l, h1 with
  | b :: u, _ =>
    simp only [List.cons_append] at h2 h3 h4 ⊢
    rw [encR_go f a s b (u ++ t) h4, h2, h3, hw]
    have hd : (b :: (u ++ t)).drop (b :: u).length = t := by rw [← List.cons_append, List.drop_left]
    simp only [encK, hd]

/-! ### units: a control, or a character with its marks -/
inductive Un
  | ctl (x : UInt8)
  | chr (ch : Int) (ms : List UInt8)
def Un.text : Un → List UInt8
  | .ctl x => [x]
  | .chr ch ms => Lib.encodeRune ch ++ markOut ms
def nameB (c : UInt8) : Bool := c == 66 || c == 83 || c == 78
/-- A character that some byte means in some set. -/
def known (ch : Int) : Prop := ∃ (cur b : UInt8), nameB cur = true ∧ charOf (cur.toNat : Int) (b.toNat : Int) = some ch
def Un.ok : Un → Prop
  | .ctl x => x < 32 ∧ x ≠ 27
  | .chr ch ms => known ch ∧ ∀ m ∈ ms, isMb m = true
/-- The set and the byte that the encoder takes for a character. -/
def pickN (ch : Int) : List UInt8 → Option (UInt8 × UInt8)
  | [] => none
  | nm :: r => match setC nm ch with
    | some b => some (nm, codeB b)
    | none => pickN ch r
def pick (cur : UInt8) (ch : Int) : Option (UInt8 × UInt8) := match charC ch with
  | some b => some (cur, codeB b)
  | none => match setC cur ch with
    | some b => some (cur, codeB b)
    | none => pickN ch [66, 83, 78]
def escTo (cur nm : UInt8) : List UInt8 := if cur = nm then [] else [27, 40, nm]
theorem names_pick (s : EM) (ch : Int) : ∀ (l : List UInt8) (nm b : UInt8), pickN ch l = some (nm, b) → namesM s ch l = some ⟨s.out ++ escTo s.cur nm, b, nm⟩
  | [], nm, b, h => by cases h
  | x :: r, nm, b, h => by
    unfold pickN at h
    unfold namesM
    cases hs : setC x ch with
    | none => rw [hs] at h; simp only at h ⊢; exact names_pick s ch r nm b h
    | some v =>
      rw [hs] at h
      simp only at h ⊢
      cases h
      unfold hold chooseM escTo
      by_cases hc : s.cur = x
      · simp [hc]
      · simp [hc]
theorem letter_pick {s : EM} {ch : Int} {nm b : UInt8} (h : pick s.cur ch = some (nm, b)) : letterM s ch = some ⟨(releaseM s).out ++ escTo s.cur nm, b, nm⟩ := by
  have hc : (releaseM s).cur = s.cur := (releaseM_len s).2
  unfold letterM letterR
  unfold pick at h
  rw [hc]
  cases h1 : charC ch with
  | some v => rw [h1] at h; simp only at h ⊢; cases h; simp [hold, hc, escTo]
  | none =>
    rw [h1] at h
    simp only at h ⊢
    cases h2 : setC s.cur ch with
    | some v => rw [h2] at h; simp only at h ⊢; cases h; simp [hold, hc, escTo]
    | none =>
      rw [h2] at h
      simp only at h ⊢
      have := names_pick (releaseM s) ch [66, 83, 78] nm b h
      rw [hc] at this
      exact this

/-! ### finite facts -/
def factsB (cur2 cur b : UInt8) : Bool := match charOf (cur.toNat : Int) (b.toNat : Int) with
  | none => true
  | some ch => utf8Is ch (Lib.encodeRune ch) && decide (32 ≤ ch) && (markC ch == none) && (match pick cur2 ch with
    | none => false
    | some (nm, x) => nameB nm && (charOf (nm.toNat : Int) (x.toNat : Int) == some ch) && !isMb x && decide (x ≠ 27) && !decide (x < 32) && decide (x ≠ 0))
theorem facts_all : [66, 83, 78].all (fun c2 => [66, 83, 78].all fun c => (List.range 256).all fun n => factsB c2 c (UInt8.ofNat n)) = true := by decide +kernel
theorem nameB_mem {c : UInt8} (h : nameB c = true) : c ∈ ([66, 83, 78] : List UInt8) := by
  unfold nameB at h
  simp at h ⊢
  rcases h with (h | h) | h <;> simp [h]
theorem known_facts {ch : Int} (h : known ch) {cur : UInt8} (hc : nameB cur = true) : utf8Is ch (Lib.encodeRune ch) = true ∧ 32 ≤ ch ∧ markC ch = none ∧
    ∃ nm x, pick cur ch = some (nm, x) ∧ nameB nm = true ∧ charOf (nm.toNat : Int) (x.toNat : Int) = some ch ∧ isMb x = false ∧ x ≠ 27 ∧ ¬ x < 32 ∧ x ≠ 0 := by
  obtain ⟨c, b, h1, h2⟩ := h
  have f := List.all_eq_true.1 (List.all_eq_true.1 (List.all_eq_true.1 facts_all cur (nameB_mem hc)) c (nameB_mem h1)) b.toNat (List.mem_range.2 b.toNat_lt)
  simp only [UInt8.ofNat_toNat] at f
  unfold factsB at f
  rw [h2] at f
  simp only [Bool.and_eq_true, decide_eq_true_eq, beq_iff_eq] at f
  obtain ⟨⟨⟨f1, f2⟩, f3⟩, f4⟩ := f
  refine ⟨f1, f2, f3, ?_⟩
  cases hp : pick cur ch with
  | none => rw [hp] at f4; cases f4
  | some q =>
    obtain ⟨nm, x⟩ := q
    rw [hp] at f4
    simp only [Bool.and_eq_true, decide_eq_true_eq, beq_iff_eq, Bool.not_eq_true', decide_eq_false_iff_not] at f4
    obtain ⟨⟨⟨⟨⟨g1, g2⟩, g3⟩, g4⟩, g5⟩, g6⟩ := f4
    exact ⟨nm, x, rfl, g1, g2, g3, g4, g5, g6⟩
theorem mark_facts {m : UInt8} (h : isMb m = true) : utf8Is (markV (m.toNat : Int)) (Lib.encodeRune (markV (m.toNat : Int))) = true ∧ 32 ≤ markV (m.toNat : Int) ∧ markC (markV (m.toNat : Int)) = some (m.toNat : Int) ∧ codeB (m.toNat : Int) = m := by
  have := all256 (p := fun m => !isMb m || (utf8Is (markV (m.toNat : Int)) (Lib.encodeRune (markV (m.toNat : Int))) && decide (32 ≤ markV (m.toNat : Int)) && (markC (markV (m.toNat : Int)) == some (m.toNat : Int)) && (codeB (m.toNat : Int) == m))) (by decide +kernel) m
  rw [h] at this
  simp only [Bool.not_true, Bool.false_or, Bool.and_eq_true, decide_eq_true_eq, beq_iff_eq] at this
  exact ⟨this.1.1.1, this.1.1.2, this.1.2, this.2⟩
end Go.Proofs.YtjndekmpnihamaaDoor

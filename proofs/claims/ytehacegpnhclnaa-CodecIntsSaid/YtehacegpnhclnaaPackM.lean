/-
  Plain mathematics of packs and of lists of integers: the codes, and reading them.
-/
import Derived.Test.YtehacegpnhclnaaNum
namespace Go.Proofs.Ytehacegpnhclnaa
open Go

/-- The code of a list whose elements have codes: how many, and then each. -/
def codeL {α : Type} (f : α → List UInt8) (l : List α) : List UInt8 := num l.length ++ l.flatMap f
/-- A string's code, and a pack. -/
def strB (s : List UInt8) : List UInt8 := num s.length ++ s
def pack (l : List (List UInt8)) : List UInt8 := codeL strB l

/-- An element taken off: (error, the element, what is left). -/
abbrev Taken (α : Type) := Nat × α × List UInt8
def takeS (r : List UInt8) : Taken (List UInt8) :=
  if (readN r).2.2 = 0 then
    (if (readN r).1 ≤ (r.drop (readN r).2.1).length then (0, (r.drop (readN r).2.1).take (readN r).1, (r.drop (readN r).2.1).drop (readN r).1) else (10, [], []))
  else ((readN r).2.2, [], [])
/-- So many elements, and then the end. -/
def listF {α : Type} (t : List UInt8 → Taken α) : Nat → List UInt8 → Nat × List α
  | 0, r => if r = [] then (0, []) else (11, [])
  | m + 1, r =>
    if (t r).1 = 0 then
      (if (listF t m (t r).2.2).1 = 0 then (0, (t r).2.1 :: (listF t m (t r).2.2).2) else ((listF t m (t r).2.2).1, []))
    else ((t r).1, [])
def readL {α : Type} (t : List UInt8 → Taken α) (s : List UInt8) : Nat × List α :=
  if (readN s).2.2 = 0 then listF t (readN s).1 (s.drop (readN s).2.1) else ((readN s).2.2, [])
def unpack (s : List UInt8) : Nat × List (List UInt8) := readL takeS s

/-- A reader of elements undoes a writer. -/
def Undoes {α : Type} (t : List UInt8 → Taken α) (f : α → List UInt8) (ok : α → Prop) : Prop := ∀ x tail, ok x → t (f x ++ tail) = (0, x, tail)

theorem takeS_undoes : Undoes takeS strB (fun s => s.length < 18446744073709551616) := by
  intro s tail h
  unfold strB takeS
  have hr := readN_num s.length h (s ++ tail)
  rw [List.append_assoc, hr]
  simp

theorem listF_code {α : Type} {t : List UInt8 → Taken α} {f : α → List UInt8} {ok : α → Prop} (h : Undoes t f ok) (l : List α) (hl : ∀ x ∈ l, ok x) : listF t l.length (l.flatMap f) = (0, l) := by
  induction l with
  | nil => simp [listF]
  | cons x l ih =>
    have hx := h x (l.flatMap f) (hl x (by simp))
    have := ih (fun y hy => hl y (by simp [hy]))
    simp [listF, List.flatMap_cons, hx, this]
theorem readL_code {α : Type} {t : List UInt8 → Taken α} {f : α → List UInt8} {ok : α → Prop} (h : Undoes t f ok) (l : List α) (hl : ∀ x ∈ l, ok x) (hn : l.length < 18446744073709551616) : readL t (codeL f l) = (0, l) := by
  unfold readL codeL
  rw [readN_num _ hn]
  simp only [if_true, List.drop_left]
  exact listF_code h l hl
theorem unpack_pack (l : List (List UInt8)) (hl : ∀ x ∈ l, x.length < 18446744073709551616) (hn : l.length < 18446744073709551616) : unpack (pack l) = (0, l) :=
  readL_code takeS_undoes l hl hn

/-- Codes of elements begin with each other only if they are equal. -/
theorem undoes_apart {α : Type} {t : List UInt8 → Taken α} {f : α → List UInt8} {ok : α → Prop} (h : Undoes t f ok) : ∀ (l m : List α), (∀ x ∈ l, ok x) → (∀ x ∈ m, ok x) → l.length = m.length → ∀ p q, l.flatMap f ++ p = m.flatMap f ++ q → l = m ∧ p = q := by
  intro l
  induction l with
  | nil => intro m _ _ hlen p q he; cases m with
    | nil => exact ⟨rfl, by simpa using he⟩
    | cons _ _ => simp at hlen
  | cons x l ih =>
    intro m hl hm hlen p q he
    cases m with
    | nil => simp at hlen
    | cons y m =>
      simp only [List.flatMap_cons, List.append_assoc] at he
      have h1 := h x (l.flatMap f ++ p) (hl x (by simp))
      have h2 := h y (m.flatMap f ++ q) (hm y (by simp))
      rw [he, h2] at h1
      simp only [Prod.mk.injEq, true_and] at h1
      obtain ⟨rfl, h3⟩ := h1
      obtain ⟨rfl, rfl⟩ := ih m (fun z hz => hl z (by simp [hz])) (fun z hz => hm z (by simp [hz])) (by simpa using hlen) p q h3.symm
      exact ⟨rfl, rfl⟩
theorem code_apart {α : Type} {t : List UInt8 → Taken α} {f : α → List UInt8} {ok : α → Prop} (h : Undoes t f ok) (l m : List α) (hl : ∀ x ∈ l, ok x) (hm : ∀ x ∈ m, ok x) (hnl : l.length < 18446744073709551616) (hnm : m.length < 18446744073709551616) (p q : List UInt8)
    (he : codeL f l ++ p = codeL f m ++ q) : l = m ∧ p = q := by
  unfold codeL at he
  rw [List.append_assoc, List.append_assoc] at he
  have h1 := readN_num l.length hnl (l.flatMap f ++ p)
  have h2 := readN_num m.length hnm (m.flatMap f ++ q)
  rw [he, h2] at h1
  simp only [Prod.mk.injEq] at h1
  have hlen := h1.1.symm
  rw [hlen] at he
  exact undoes_apart h l m hl hm hlen p q (List.append_cancel_left he)

theorem listF_zero {α : Type} (t : List UInt8 → Taken α) (m : Nat) : ∀ r, (listF t m r).1 ≠ 0 → (listF t m r).2 = [] := by
  induction m with
  | zero => intro r h; unfold listF at *; split <;> simp_all
  | succ m ih =>
    intro r h
    unfold listF at *
    split
    · split
      · rename_i h1 h2; simp [h1, h2] at h
      · rfl
    · rfl
theorem takeS_err (r : List UInt8) (h : (takeS r).1 ≠ 0) : (takeS r).1 = 10 ∨ (takeS r).1 = 11 := by
  unfold takeS at *
  split
  · split
    · rename_i h1 h2; rw [if_pos h1, if_pos h2] at h; simp at h
    · exact .inl rfl
  · rename_i h1
    exact (readF_zero 10 r 0 0 _ _ _ rfl h1).2.2

end Go.Proofs.Ytehacegpnhclnaa

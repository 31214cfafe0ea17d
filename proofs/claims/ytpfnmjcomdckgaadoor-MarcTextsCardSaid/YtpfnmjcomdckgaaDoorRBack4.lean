/-
  What is written is read again: a field (no program).
-/
import Derived.Test.YtpfnmjcomdckgaaDoorRBack3
namespace Go.Proofs.YtpfnmjcomdckgaaDoor
open Go.RowKit Go.Shelf
set_option linter.unusedVariables false
set_option linter.unusedSimpArgs false

theorem at_drop {bs l : List UInt8} {a : Nat} (h : bs.drop a = l) (i : Nat) : bs.getD (a + i) 0 = l.getD i 0 := by
  rw [List.getD_eq_getElem?_getD, List.getD_eq_getElem?_getD, ← h, List.getElem?_drop]
theorem lt_drop {bs l : List UInt8} {a i : Nat} (h : bs.drop a = l) (hi : i < l.length) : a + i < bs.length := by
  have := congrArg List.length h
  rw [List.length_drop] at this
  omega
theorem sees_drop {bs r : List UInt8} {a : Nat} {c : UInt8} (h : bs.drop a = c :: r) (d : UInt8) : seesB bs a d = (c == d) := by
  unfold seesB
  have h1 := at_drop h 0
  have h2 := lt_drop (i := 0) h (by simp)
  rw [Nat.add_zero] at h1 h2
  rw [h1, decide_eq_true h2, Bool.true_and]
  rfl
theorem skip_drop {bs r : List UInt8} {a : Nat} {c : UInt8} (off : Nat) (h : bs.drop a = c :: r) : skipM bs off a c = .ok (.tuple #[], a + 1) := by
  unfold skipM
  rw [sees_drop h, if_pos (by simp)]
theorem take_drop {bs r : List UInt8} {a : Nat} {c : UInt8} (p : UInt8 → Bool) (off : Nat) (h : bs.drop a = c :: r) (hp : p c = true) : takeM p bs off a = .ok (.int .u8 (c.toNat : Int), a + 1) := by
  unfold takeM
  have h1 := at_drop h 0
  have h2 := lt_drop (i := 0) h (by simp)
  rw [Nat.add_zero] at h1 h2
  rw [h1, decide_eq_true h2]
  rw [show (c :: r).getD 0 0 = c from rfl, hp]
  rfl
theorem end_drop {bs : List UInt8} {a : Nat} (off : Nat) (f : FldM) (h : bs.drop a = [30]) : endM bs off a f = .ok f := by
  unfold endM
  rw [skip_drop off h]
  have := congrArg List.length h
  rw [List.length_drop] at this
  simp at this
  show (if a + 1 < bs.length then _ else _) = _
  rw [if_neg (by omega)]
theorem subsL_head (l : List SubM) : ∃ c r, subsL l ++ [30] = c :: r ∧ c.toNat < 32 ∧ (l ≠ [] → c = 31) := by
  cases l with
  | nil => exact ⟨30, [], rfl, by decide, by simp⟩
  | cons s t => exact ⟨31, s.code :: s.text ++ subsL t ++ [30], by simp [subsL], by decide, fun _ => rfl⟩
theorem subs_back (bs : List UInt8) (off : Nat) : ∀ (rest : List SubM) (f a : Nat) (acc : List SubM), rest.length < f → bs.drop a = subsL rest ++ [30] → rest.all subB = true → (acc ≠ [] ∨ rest ≠ []) →
    subsM bs off f a acc = .ok (acc ++ rest, a + (subsL rest).length)
  | [], 0, _, _, hf, _, _, _ => by simp at hf
  | [], f + 1, a, acc, hf, hb, _, ho => by
    have ha : acc ≠ [] := by simpa using ho
    have hs := sees_drop (show bs.drop a = 30 :: [] from hb) 30
    have : (!acc.isEmpty && seesB bs a 30) = true := by
      rw [hs]
      cases acc with
      | nil => exact absurd rfl ha
      | cons x y => rfl
    show (if _ then _ else _) = _
    rw [if_pos this]
    simp [subsL]
  | s :: rs, 0, _, _, hf, _, _, _ => by simp at hf
  | s :: rs, f + 1, a, acc, hf, hb, hall, ho => by
    simp only [List.all_cons, Bool.and_eq_true] at hall
    obtain ⟨hs, hrs⟩ := hall
    unfold subB at hs
    simp only [Bool.and_eq_true] at hs
    have hb0 : bs.drop a = 31 :: (s.code :: (s.text ++ (subsL rs ++ [30]))) := by rw [hb]; simp [subsL]
    have hb1 : bs.drop (a + 1) = s.code :: (s.text ++ (subsL rs ++ [30])) := by rw [← List.drop_drop, hb0]; rfl
    have hb2 : bs.drop (a + 2) = s.text ++ (subsL rs ++ [30]) := by rw [← List.drop_drop, hb0]; rfl
    obtain ⟨c, r, hcr, hc, _⟩ := subsL_head rs
    have hb2' := hb2
    rw [hcr] at hb2'
    obtain ⟨ht, htk⟩ := textM_end (off := off) hb2' hs.2 hc
    have hb3 : bs.drop (a + 2 + s.text.length) = subsL rs ++ [30] := by rw [← List.drop_drop, hb2, List.drop_left]
    have hsee : (!acc.isEmpty && seesB bs a 30) = false := by rw [sees_drop hb0]; simp
    have hstep : stepM bs off a = .ok (s, a + 2 + s.text.length) := by
      unfold stepM
      rw [skip_drop off hb0]
      show (match takeM signB bs off (a + 1) with | .bad p k => _ | .ok _ => _) = _
      rw [take_drop signB off hb1 hs.1]
      show (match textM bs off (a + 2) with | .bad p k => _ | .ok _ => _) = _
      rw [ht]
      show PR.ok (SubM.mk (bs.getD (a + 1) 0) ((bs.drop (a + 2)).take (textLen (bs.drop (a + 2)))), _) = _
      rw [htk]
      have h1 := at_drop hb1 0
      rw [Nat.add_zero] at h1
      rw [h1]
      rfl
    have ih := subs_back bs off rs f (a + 2 + s.text.length) (acc ++ [s]) (by simp at hf; omega) hb3 hrs (.inl (by simp))
    show (if _ then _ else _) = _
    rw [if_neg (by rw [hsee]; decide), hstep]
    show subsM bs off f (a + 2 + s.text.length) (acc ++ [s]) = _
    rw [ih]
    have hln : (subsL (s :: rs)).length = 2 + s.text.length + (subsL rs).length := by simp [subsL]; omega
    rw [hln]
    simp only [List.append_assoc, List.singleton_append]
    congr 2
    omega
theorem field_back (f : FldM) (off : Nat) (h : fieldB f = true) : fieldM f.tag (bytesF f) off = .ok f := by
  obtain ⟨tag, ind, data, subs⟩ := f
  unfold fieldB at h
  simp only at h
  unfold fieldM
  simp only
  cases hc : ctlB tag with
  | true =>
    rw [hc, if_pos rfl] at h
    simp only [Bool.and_eq_true, List.isEmpty_iff] at h
    obtain ⟨⟨rfl, rfl⟩, ht⟩ := h
    have hb : bytesF ⟨tag, [], data, []⟩ = data ++ [30] := by simp [bytesF, subsL]
    rw [hb, if_pos rfl]
    obtain ⟨h1, h2⟩ := textM_end (bs := data ++ [30]) (off := off) (a := 0) (t := data) (c := 30) (r := []) rfl ht (by decide)
    rw [h1]
    show endM (data ++ [30]) off (0 + data.length) ⟨tag, [], ((data ++ [30]).drop 0).take (textLen ((data ++ [30]).drop 0)), []⟩ = _
    rw [h2, end_drop off _ (by rw [Nat.zero_add, List.drop_left])]
  | false =>
    rw [hc, if_neg (by decide)] at h
    simp only [Bool.and_eq_true, List.isEmpty_iff, beq_iff_eq] at h
    obtain ⟨⟨⟨⟨rfl, hi⟩, hall⟩, hsub⟩, hne⟩ := h
    obtain ⟨x, y, rfl⟩ : ∃ x y, ind = [x, y] := by
      match ind, hi with
      | [x, y], _ => exact ⟨x, y, rfl⟩
    simp only [List.all_cons, List.all_nil, Bool.and_true, Bool.and_eq_true] at hall
    have hb : bytesF ⟨tag, [x, y], [], subs⟩ = x :: y :: (subsL subs ++ [30]) := by simp [bytesF]
    rw [hb, if_neg (by decide)]
    obtain ⟨bs, hbs⟩ : ∃ bs, x :: y :: (subsL subs ++ [30]) = bs := ⟨_, rfl⟩
    rw [hbs]
    have e0 : bs.drop 0 = x :: (y :: (subsL subs ++ [30])) := by rw [← hbs]; rfl
    have e1 : bs.drop 1 = y :: (subsL subs ++ [30]) := by rw [← hbs]; rfl
    have e2 : bs.drop 2 = subsL subs ++ [30] := by rw [← hbs]; rfl
    have hind : indM bs off = .ok (str (bs.take 2), 2) := by
      unfold indM
      rw [take_drop indB off e0 hall.1]
      show (match takeM indB bs off 1 with | .bad p k => _ | .ok _ => _) = _
      rw [take_drop indB off e1 hall.2]
    have hsl : subs.length ≤ (subsL subs).length := by
      clear hne hsub hb hbs e0 e1 e2 hind
      induction subs with
      | nil => simp
      | cons s t ih => simp [subsL] at ih ⊢; omega
    have hlen : bs.length = 2 + (subsL subs).length + 1 := by rw [← hbs]; simp; omega
    have hne' : subs ≠ [] := by simpa using hne
    rw [hind]
    show (match subsM bs off (bs.length + 1) 2 [] with | .bad p k => _ | .ok y => _) = _
    rw [subs_back bs off subs (bs.length + 1) 2 [] (by omega) e2 hsub (.inr hne')]
    show endM bs off (2 + (subsL subs).length) ⟨tag, bs.take 2, [], [] ++ subs⟩ = _
    rw [end_drop off _ (by rw [← List.drop_drop, e2, List.drop_left]), ← hbs]
    rfl
end Go.Proofs.YtpfnmjcomdckgaaDoor

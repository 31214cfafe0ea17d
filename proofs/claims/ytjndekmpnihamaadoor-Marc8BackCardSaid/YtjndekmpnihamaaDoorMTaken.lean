/-
  What []rune(s) leaves, and the text of the characters, each divided where it is composed.
-/
import Derived.Test.YtjndekmpnihamaaDoorMRefC
import Derived.Test.YtjndekmpnihamaaDoorMIter
import Derived.Laws.IdiomStrings
namespace Go.Proofs.YtjndekmpnihamaaDoor
open Go.RowKit Go.Shelf
set_option linter.unusedVariables false
set_option linter.unusedSimpArgs false

/-- The characters of a text. -/
def runesR : Nat → List UInt8 → List Int
  | 0, _ => []
  | f + 1, r => match r with
    | [] => []
    | _ :: _ => ((Lib.decodeGo ⟨r.toArray⟩).1 : Int) :: runesR f (r.drop (Lib.decodeGo ⟨r.toArray⟩).2)
theorem runesR_nil (f : Nat) : runesR f [] = [] := by cases f <;> rfl
theorem runesR_cons (f : Nat) (b : UInt8) (t : List UInt8) : runesR (f + 1) (b :: t) = ((Lib.decodeGo ⟨(b :: t).toArray⟩).1 : Int) :: runesR f ((b :: t).drop (Lib.decodeGo ⟨(b :: t).toArray⟩).2) := rfl
theorem takR_eq : ∀ (f : Nat) (r : List UInt8), takR f r = (runesR f r).flatMap takenC
  | 0, _ => rfl
  | f + 1, [] => rfl
  | f + 1, b :: t => by
    rw [takR_cons, runesR_cons, List.flatMap_cons, takR_eq f]
theorem runesR_len : ∀ (f : Nat) (r : List UInt8), (runesR f r).length ≤ f
  | 0, _ => Nat.le_refl _
  | f + 1, [] => by rw [runesR_nil]; simp
  | f + 1, b :: t => by
    rw [runesR_cons]
    have := runesR_len f ((b :: t).drop (Lib.decodeGo ⟨(b :: t).toArray⟩).2)
    simp only [List.length_cons]
    omega
/-- A character that is read is none of the surrogates. -/
theorem decodeN_ok (a b c d n : Nat) : (Lib.decodeN a b c d n).1 ≤ 1114111 ∧ ((Lib.decodeN a b c d n).1 < 55296 ∨ 57343 < (Lib.decodeN a b c d n).1) := by
  unfold Lib.decodeN
  repeat' split
  all_goals (simp only; omega)
theorem decodeGo_ok (b : UInt8) (t : List UInt8) : (Lib.decodeGo ⟨(b :: t).toArray⟩).1 ≤ 1114111 ∧ ((Lib.decodeGo ⟨(b :: t).toArray⟩).1 < 55296 ∨ 57343 < (Lib.decodeGo ⟨(b :: t).toArray⟩).1) := by
  have hne : ¬ (ByteArray.mk (b :: t).toArray).size = 0 := by rw [size_str]; simp
  unfold Lib.decodeGo
  rw [if_neg hne, Lib.decode_at]
  exact decodeN_ok ..
theorem runesR_ok : ∀ (f : Nat) (r : List UInt8), ∀ c ∈ runesR f r, 0 ≤ c ∧ c ≤ 1114111 ∧ (c < 55296 ∨ 57343 < c)
  | 0, _, c, h => by cases h
  | f + 1, [], c, h => by cases h
  | f + 1, b :: t, c, h => by
    rw [runesR_cons] at h
    rcases List.mem_cons.1 h with h | h
    · have := decodeGo_ok b t
      omega
    · exact runesR_ok f _ c h
theorem get_drop (l : List UInt8) (i k : Nat) : (ByteArray.mk l.toArray).get! (i + k) = (ByteArray.mk (l.drop i).toArray).get! (0 + k) := by
  show l.toArray[i + k]! = (l.drop i).toArray[0 + k]!
  by_cases h : i + k < l.length
  · simp [h, show k < l.length - i by omega]
  · simp [h, show ¬ k < l.length - i by omega]
theorem go_drop (l : List UInt8) (i : Nat) (h : i < l.length) : Utf8.decode ⟨l.toArray⟩ i = Lib.decodeGo ⟨(l.drop i).toArray⟩ := by
  unfold Lib.decodeGo
  rw [if_neg (by rw [size_str]; simp; omega), Lib.decode_at, Lib.decode_at, size_str, size_str, List.length_drop, Nat.sub_zero]
  have e0 := get_drop l i 0
  rw [get_drop l i 1, get_drop l i 2, get_drop l i 3, show (ByteArray.mk l.toArray).get! i = _ from e0]
theorem conv_runes (l : List UInt8) : ∀ (f i : Nat) (acc : Array Value), i ≤ l.length →
    Conv.runesFrom ⟨l.toArray⟩ f i acc = acc ++ ((runesR f (l.drop i)).map (Value.int .i32)).toArray
  | 0, i, acc, _ => by simp [Conv.runesFrom, runesR]
  | f + 1, i, acc, hi => by
    unfold Conv.runesFrom
    rw [size_str]
    by_cases h : i < l.length
    · rw [if_pos h]
      have hd := List.drop_eq_getElem_cons h
      have hg : Utf8.decode ⟨l.toArray⟩ i = Lib.decodeGo ⟨(l.drop i).toArray⟩ := go_drop l i h
      obtain ⟨x, t, hx⟩ : ∃ x t, l.drop i = x :: t := ⟨_, _, hd⟩
      have hp := decodeGo_pos x t
      have hlen : (x :: t).length = l.length - i := by rw [← hx]; simp
      rw [hg, hx, runesR_cons]
      obtain ⟨D, hD⟩ : ∃ D, Lib.decodeGo ⟨(x :: t).toArray⟩ = D := ⟨_, rfl⟩
      rw [hD] at hp ⊢
      show Conv.runesFrom _ f (i + D.2) _ = _
      rw [conv_runes l f _ _ (by omega), ← hx, List.drop_drop]
      simp
    · rw [if_neg h, List.drop_eq_nil_of_le (by omega), runesR_nil]
      simp
theorem conv_runes_all (l : List UInt8) : Conv.runesFrom ⟨l.toArray⟩ (ByteArray.mk l.toArray).size 0 #[] = ((runesR l.length l).map (Value.int .i32)).toArray := by
  rw [conv_runes l _ 0 _ (Nat.zero_le _), size_str]; simp
/-- The conversion: a new row with the characters. -/
theorem run_runes (W : World) (l : List UInt8) (hl : l.length ≤ 1048576) : ∃ (cap : Nat) (W' : World),
    (convert 9 33 (str l)).run Tryd.prog W = .ok (.slice (some ⟨W.heap.size, 0, none⟩) (runesR l.length l).length cap) W' ∧ Below W.heap.size W W' ∧ W.heap.size < W'.heap.size ∧
    ∀ j (h : j < (runesR l.length l).length), W'.cell? ⟨W.heap.size, j, none⟩ = some (.int .i32 (runesR l.length l)[j]) := by
  have hn := runesR_len l.length l
  have h := run_runes_of_string (P := Tryd.prog) W 9 33 21 ⟨l.toArray⟩ Tryd.underlying9 Tryd.underlying33 Tryd.underlying21 (by rw [conv_runes_all]; simp; omega)
  rw [conv_runes_all] at h
  simp only [List.size_toArray, List.length_map] at h
  refine ⟨_, _, h, ?_, by simp, ?_⟩
  · have h1 : Below W.heap.size W W.drew := (Below.refl _ W).drew
    exact h1.alloc (Nat.le_refl _) _
  · intro j hj
    have h1 : ∀ o : Obj, (W.drew.alloc o).heap[W.heap.size]? = some o := fun o => World.alloc_heap_new W.drew o
    rw [cell_at (h1 _), Array.getElem?_append_left (by simpa using hj)]
    simp [hj]
end Go.Proofs.YtjndekmpnihamaaDoor

/-
  A []byte made of a string, changed in place, and turned back.
-/
import Derived.Test.YtehacegpnhclnaaHelp
import Derived.Laws.IdiomStrings
namespace Go.Proofs.Ytehacegpnhclnaa
open Go.RowKit Go.Shelf

/-- Block B holds the bytes l (and perhaps more cells), none of them frozen. -/
def BytesAt (w : World) (B : Nat) (l : List UInt8) : Prop :=
  ∃ C fz, w.heap[B]? = some (.cells C 5 fz) ∧ l.length ≤ C.size ∧ (∀ i (h : i < l.length), C[i]? = some (.int .u8 (l[i].toNat : Int))) ∧ C.size ≤ fz.1
theorem BytesAt.lt {w : World} {B : Nat} {l : List UInt8} (h : BytesAt w B l) : B < w.heap.size := by
  obtain ⟨C, fz, hh, _⟩ := h
  exact (Array.getElem?_eq_some_iff.1 hh).1
theorem BytesAt.cell {w : World} {B : Nat} {l : List UInt8} (h : BytesAt w B l) (i : Nat) (hi : i < l.length) : w.cell? ⟨B, i, none⟩ = some (.int .u8 (l[i].toNat : Int)) := by
  obtain ⟨C, fz, hh, _, hc, _⟩ := h
  rw [Lib.cell_of_heap hh]; exact hc i hi
theorem BytesAt.frozen {w : World} {B : Nat} {l : List UInt8} (h : BytesAt w B l) (i : Nat) (hi : i < l.length) : w.frozen? ⟨B, i, none⟩ = false := by
  obtain ⟨C, fz, hh, hl, _, hf⟩ := h
  obtain ⟨lo, hi2⟩ := fz
  simp only [World.frozen?, hh]
  simp at hf ⊢
  omega
theorem BytesAt.set {w : World} {B : Nat} {l : List UInt8} (h : BytesAt w B l) (i : Nat) (c : UInt8) : BytesAt (w.setCell ⟨B, i, none⟩ (.int .u8 (c.toNat : Int))) B (l.set i c) := by
  obtain ⟨C, fz, hh, hl, hc, hf⟩ := h
  refine ⟨C.setIfInBounds i (.int .u8 (c.toNat : Int)), fz, ?_, by simpa using hl, ?_, by simpa using hf⟩
  · simp [World.setCell, Array.getElem?_modify, hh]
  · intro j hj
    have hj2 : j < l.length := by simpa using hj
    rw [Array.getElem?_setIfInBounds]
    by_cases hij : i = j
    · subst hij
      rw [if_pos rfl, if_pos (by omega)]
      simp
    · rw [if_neg hij, List.getElem_set_ne hij]
      exact hc j hj2
theorem BytesAt.below {w w' : World} {B : Nat} {l : List UInt8} (h : BytesAt w B l) (hb : Below w.heap.size w w') : BytesAt w' B l := by
  have hlt := h.lt
  obtain ⟨C, fz, hh, r⟩ := h
  exact ⟨C, fz, (hb.block B hlt).trans hh, r⟩
theorem BytesAt.drew {w : World} {B : Nat} {l : List UInt8} (h : BytesAt w B l) : BytesAt w.drew B l := h
theorem BytesAt.str {w : World} {B : Nat} {l : List UInt8} (h : BytesAt w B l) (cap : Nat) :
    (convert 27 9 (.slice (some ⟨B, 0, none⟩) l.length cap)).run Try.prog w = .ok (str l) w := by
  refine run_convert_bytes_back w _ _ 5 ⟨B, 0, none⟩ cap l Try.underlying27 Try.underlying5 Try.underlying9 ?_
  intro j hj
  have := h.cell j hj
  unfold Addr.add
  split
  · rename_i h0; subst h0; exact this
  · simpa using this

theorem bytes_new (l : List UInt8) (w : World) : ∃ (cap : Nat) (w' : World), (convert 9 27 (str l)).run Try.prog w = .ok (.slice (some ⟨w.heap.size, 0, none⟩) l.length cap) w' ∧ BytesAt w' w.heap.size l ∧ Below w.heap.size w w' := by
  have h := run_bytes_of_string (P := Try.prog) w 9 27 5 ⟨l.toArray⟩ Try.underlying9 Try.underlying27 Try.underlying5
  rw [size_str] at h
  refine ⟨_, _, h, ?_, ((Below.refl _ w).drew).alloc (Nat.le_refl _) _⟩
  generalize hC : bytesRow ⟨l.toArray⟩ (grownCap w l.length 0 5) = C
  have hn := World.alloc_heap_new w.drew (.cells C 5 (C.size, C.size + 1))
  have hsz : w.drew.heap.size = w.heap.size := rfl
  rw [hsz] at hn
  refine ⟨C, _, hn, ?_, ?_, Nat.le_refl _⟩
  · rw [← hC]; simp [bytesRow]
  · intro i hi
    rw [← hC]
    unfold bytesRow
    rw [Array.getElem?_append_left (by simpa using hi)]
    simp [hi]
end Go.Proofs.Ytehacegpnhclnaa
